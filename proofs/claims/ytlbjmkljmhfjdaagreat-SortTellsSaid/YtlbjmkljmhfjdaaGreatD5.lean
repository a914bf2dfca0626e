/- The line of a graph: its parts, whose part each number is, how often each part leads to others. -/
import Derived.Test.YtlbjmkljmhfjdaaGreatD4
set_option linter.unusedSimpArgs false
set_option linter.unusedVariables false
namespace Go.Proofs.YtlbjmkljmhfjdaaGreat
open Go Go.Proofs Go.Shelf Go.RowKit Go.Lib Go.Maps
attribute [local go_sem] Oper.semAt_some
/-- The parts by their c_least numbers. -/
noncomputable def sG (G : List (List Nat)) : List (List Nat) := sccs (rG G) G.length
noncomputable def oG (G : List (List Nat)) : Nat → Nat := ofP (sG G)
/-- So many links are counted. -/
def wk (of : Nat → Nat) (E : List (Nat × Nat)) (k : Nat) : Nat → Int := fun q => ((E.take k).countP fun e => of e.1 == q && of e.2 != q : Nat)
theorem wk_step {of : Nat → Nat} {E : List (Nat × Nat)} {k : Nat} (hk : k < E.length) : wk of E (k + 1) = if of (E.getD k (0, 0)).1 = of (E.getD k (0, 0)).2 then wk of E k else upd (wk of E k) (of (E.getD k (0, 0)).1) (wk of E k (of (E.getD k (0, 0)).1) + 1) := by
  have e : E.take (k + 1) = E.take k ++ [E.getD k (0, 0)] := by rw [List.take_add_one]; simp [List.getD, List.getElem?_eq_getElem hk]
  funext q
  unfold wk
  rw [e, List.countP_append]
  generalize E.getD k (0, 0) = x
  by_cases h : of x.1 = of x.2
  · rw [if_pos h]
    simp only [List.countP_cons, List.countP_nil]
    have : (of x.1 == q && of x.2 != q) = false := by rw [h]; cases e : (of x.2 == q) <;> simp [bne, e]
    rw [this]
    simp
  · rw [if_neg h]
    unfold upd
    by_cases hq : q = of x.1
    · subst hq
      have : ¬ of x.2 = of x.1 := fun e => h e.symm
      simp [this]
    · have : ¬ of x.1 = q := fun e => hq e.symm
      simp [hq, this]
theorem wk_le (of : Nat → Nat) (E : List (Nat × Nat)) (k q : Nat) (hE : E.length ≤ 4096) : 0 ≤ wk of E k q ∧ wk of E k q ≤ 4096 := by
  unfold wk
  have h1 := List.countP_le_length (p := fun e => of e.1 == q && of e.2 != q) (l := E.take k)
  have h2 := List.length_take_le' k E
  omega
theorem wk_all (of : Nat → Nat) (E : List (Nat × Nat)) (q : Nat) : wk of E E.length q = wt of E (fun _ => false) q := by
  unfold wk wt
  rw [List.take_length]
  simp
theorem part_facts {G : List (List Nat)} (hR : RG G) {P : List (List Nat)} (hP : P.Perm (sG G)) : P.length ≤ 64 ∧ (∀ i, i < P.length → (P.getD i []).length ≤ 64) ∧ (∀ i, i < P.length → P.getD i [] ≠ []) ∧ (∀ i j, i < P.length → j < P.length → i ≠ j → (P.getD i []).getD 0 0 ≠ (P.getD j []).getD 0 0) := by
  have hr := rG_is G G.length
  have mem : ∀ i, i < P.length → P.getD i [] ∈ sG G := fun i hi => hP.mem_iff.1 (by simp [List.getD, List.getElem?_eq_getElem hi])
  have nd : P.Nodup := hP.nodup_iff.2 (sccs_nodup hr)
  refine ⟨?_, fun i hi => ?_, fun i hi => ?_, fun i j hi hj hij => ?_⟩
  · rw [hP.length_eq]
    have h1 : (sG G).length ≤ G.length := by
      unfold sG sccs
      rw [List.length_map]
      have := List.length_filter_le (c_least (rG G)) (List.range G.length)
      rwa [List.length_range] at this
    have := hR.most
    omega
  · obtain ⟨a, ha, e⟩ := (mem_sccs hr _).1 (mem i hi)
    rw [e]
    exact Nat.le_trans (rises_len _ _ (scc_rises _ _ _) (fun x hx => ((mem_scc hr ha).1 hx).1)) hR.most
  · obtain ⟨a, ha, e⟩ := (mem_sccs hr _).1 (mem i hi)
    rw [e]
    intro h0
    have := scc_self hr ha
    rw [h0] at this; cases this
  · have hs := sccs_rise hr
    intro h
    obtain ⟨x, hx, ex⟩ := List.getElem_of_mem (mem i hi)
    obtain ⟨y, hy, ey⟩ := List.getElem_of_mem (mem j hj)
    rw [← ex, ← ey] at h
    rcases Nat.lt_trichotomy x y with h1 | h1 | h1
    · exact absurd h (Nat.ne_of_lt (List.pairwise_iff_getElem.1 hs x y hx hy h1))
    · subst h1
      rw [ex] at ey
      have e2 : P[i] = P[j] := by simpa [List.getD, List.getElem?_eq_getElem hi, List.getElem?_eq_getElem hj] using ey
      exact hij ((List.getElem_inj nd).1 e2)
    · exact absurd h.symm (Nat.ne_of_lt (List.pairwise_iff_getElem.1 hs y x hy hx h1))
set_option maxRecDepth 100000 in
set_option maxHeartbeats 8000000 in
theorem lineOf_any (A : Option Addr) (c : Nat) (vs : List Value) (G : List (List Nat)) (hR : RG G) (w : World) (hG : Gph w A vs (G.map nums)) :
    Calls Tryz.prog 115 #[.slice A G.length c] w fun e w' => ∃ lb gb pv vsT vsP of, e = .returned (.pointer (some ⟨lb, 0, none⟩)) ∧ Ln w w' lb (.slice (some ⟨gb, 0, none⟩) G.length G.length) pv gb vsT vsP G (sG G) of (wk (oG G) (lnkG G) (lnkG G).length) ∧ (∀ a, a < G.length → of a = oG G a) := by
  have hn := hR.most
  have TU := Lib.hid (turned_any A c vs G hR w hG)
  have LO := Lib.hid (fun w' (b : Below w.heap.size w w') => loose_any A c vs G hR w' (hG.below b))
  have HG := Lib.hid hG
  have HR := Lib.hid hR
  obtain ⟨n, en⟩ : ∃ n, n = G.length := ⟨_, rfl⟩
  have EN := Lib.hid en
  rw [← en] at TU LO hn ⊢
  clear hR hG en
  refine (callsIn_wide (n := 12)).1 ?_
  refine callsIn_of_wp_marks Tryz.func115 rfl trivial ?_ rfl
  simp only [Tryz.ntmps115, List.size_toArray, List.length_cons, List.length_nil, Nat.reduceAdd, Nat.reduceSub, Array.replicate_succ, Array.replicate_zero, List.push_toArray, List.append_toArray, List.nil_append, List.cons_append]
  gi_wp2_with (first | (refine ⟨trivial, ?_⟩; gi_at_call 122; refine (callsIn_wide.2 TU.out).mono ?_; rintro e w2 ⟨gb, vsT, rfl, kgb, hrows, hgb, hb2⟩; have HR2 := Lib.hid hrows; have KGB := Lib.hid kgb; have HGB := Lib.hid hgb; have HB2 := Lib.hid hb2; clear hrows kgb hgb hb2) | (refine ⟨trivial, ?_⟩; gi_at_call 174; refine (callsIn_wide.2 (LO.out _ HB2.out)).mono ?_; rintro e w3 ⟨lv, vsP0, P, rfl, hperm, hown, hrowsP, hb3⟩; obtain ⟨Al, cl, rfl, _, _⟩ := own_slice hown; have HPM := Lib.hid hperm; have HOW := Lib.hid hown; have HRP := Lib.hid hrowsP; have HB3 := Lib.hid hb3; clear hperm hown hrowsP hb3))
  obtain ⟨lb, elb⟩ : ∃ u, u = w3.heap.size := ⟨_, rfl⟩
  obtain ⟨pb, epb⟩ : ∃ u, u = w3.heap.size + 1 := ⟨_, rfl⟩
  obtain ⟨pl, epl⟩ : ∃ u, u = P.length := ⟨_, rfl⟩
  have EPL := Lib.hid epl
  obtain ⟨w5, ew5⟩ : ∃ u, u = (w3.alloc (.cells (lineCells (.slice (some ⟨gb, 0, none⟩) n n) (.slice Al pl cl) (fun _ => 0) (fun _ => 0)).toArray 186)).alloc (.cells #[.pointer (some ⟨w3.heap.size, 0, none⟩)] 130) := ⟨_, rfl⟩
  have hb35 : Below w3.heap.size w3 w5 := by rw [ew5]; exact B2 _ _ _
  have h23 := HB3.out
  have hw3 : Below w.heap.size w w3 := HB2.out.trans (h23.mono HB2.out.size)
  have KP : RowKit.Hid (Blk w5 pb #[.pointer (some ⟨lb, 0, none⟩)] 130) := Lib.hid (by
    rw [ew5, epb, elb]
    have := Blk.new (w3.alloc (.cells (lineCells (.slice (some ⟨gb, 0, none⟩) n n) (.slice Al pl cl) (fun _ => 0) (fun _ => 0)).toArray 186)) #[.pointer (some ⟨w3.heap.size, 0, none⟩)] 130
    rw [World.size_alloc] at this
    exact this)
  have L5 : RowKit.Hid (Ln w w5 lb (.slice (some ⟨gb, 0, none⟩) n n) (.slice Al pl cl) gb vsT vsP0 G P (fun _ => 0) (fun _ => 0)) := Lib.hid
    ⟨by rw [ew5, elb]; exact (Blk.new w3 _ _).alloc _, (KGB.out.below' h23).below' hb35, (HR2.out.below h23).below hb35, by rw [EPL.out]; exact own_below (own_lower HOW.out HB2.out.size) hb35, (HRP.out.lower HB2.out.size).below hb35, hw3.trans (hb35.mono hw3.size), by rw [EN.out], by rw [elb]; exact hw3.size⟩
  have HPM2 : RowKit.Hid (P.Perm (sG G)) := Lib.hid (by have := HPM.out; rw [EN.out] at this; exact this)
  have PF := Lib.hid (part_facts HR.out HPM2.out)
  have hpl := PF.out.1
  have SO := Lib.hid (sort_parts w.heap.size w.heap.size cl pl Al vsP0 P w5 EPL.out (by omega) (fun i hi => Nat.le_trans (PF.out.2.1 i hi) (by omega)) PF.out.2.2.1 PF.out.2.2.2 (by have := L5.out.own; rw [← EPL.out] at this; exact this) L5.out.rows)
  have hpvb : ∀ q, (Value.slice Al pl cl).ownBlock = some q → w2.heap.size ≤ q := fun q e => (HOW.out.lt q (by rw [← EPL.out]; exact e)).1
  have HPV := Lib.hid hpvb
  have ELB := Lib.hid elb
  have EPB := Lib.hid epb
  rw [← Tryz.made_line, EPL.out] at ew5
  rw [← ew5, ← epb, ← elb, ← epl]
  rw [← EPL.out] at hpl
  clear elb epb epl ew5 hb35 h23 hw3 hpvb
  refine ⟨trivial, (callsIn_wide.2 SO.out).mono ?_⟩
  rintro e w6 ⟨vsP, S, ⟨u6, rfl⟩, hpm, hpw, how, hrw, hgr⟩
  have hS : S = sG G := sccs_of (rG_is G G.length) HPM2.out hpm hpw
  subst hS
  have hslen : (sG G).length = pl := by rw [EPL.out]; exact hpm.length_eq
  have hgbne : ∀ q, (Value.slice Al pl cl).ownBlock = some q → q ≠ gb := fun q e h => by
    have := HPV.out q e
    have := KGB.out.lt
    omega
  have L6 : RowKit.Hid (Ln w w6 lb (.slice (some ⟨gb, 0, none⟩) n n) (.slice Al pl cl) gb vsT vsP G (sG G) (fun _ => 0) (fun _ => 0)) := Lib.hid (by
    have h5 := L5.out
    have ow5 : w5.ownsRow w.heap.size 38 1 (.slice Al pl cl) P.length vsP0 := h5.own
    refine ⟨h5.blk.grown hgr (fun e => own_ne ow5 h5.blk (by decide) e.symm), h5.tg.grown hgr (fun e => hgbne gb e.symm rfl), h5.trows.kept (fun i q hi hq => hgr.block q ((h5.trows.row i hi).lt q hq).2 (fun e => ?_)), by rw [hslen]; exact how, hrw, grown_below h5.low h5.low.size hgr (fun q e => (ow5.lt q e).1), h5.gve, h5.lo⟩
    rcases ow5.2 with ⟨e1, _⟩ | ⟨g, cap, cur, e1, _, hgb, _⟩
    · rw [e1] at e; simp [Value.ownBlock] at e
    · rw [e1] at e
      simp only [Value.ownBlock, Option.some.injEq] at e
      subst e
      exact own_ne (h5.trows.row i hi) (b := q) (vs := cur) (T := 38) hgb (by decide) hq)
  have KP6 : RowKit.Hid (Blk w6 pb #[.pointer (some ⟨lb, 0, none⟩)] 130) := Lib.hid (KP.out.grown hgr (fun e => own_ne L5.out.own KP.out (by decide) (by exact e.symm)))
  have HSL := Lib.hid hslen
  have PS := Lib.hid (part_facts HR.out (List.Perm.refl (sG G)))
  have AT := Lib.hid (fun a p (hp : p < pl) (ha : a ∈ (sG G).getD p []) => show a < n ∧ oG G a = p from by
    have := ofP_at (rG_is G G.length) (by rw [← HSL.out] at hp; exact hp) ha
    rw [EN.out]; exact this)
  have c1 := KP6.out.cell 0
  have c2 := L6.out.blk.cell 1
  simp only [List.getElem?_toArray, List.getElem?_cons_zero, lineCells, List.getElem?_cons_succ] at c1 c2
  clear hpm hpw how hrw hgr hslen hgbne
  gi_wp2_with fail
  gi_loopw [26, 4, 5, 7, 31, 32, 33] (fun i _ _ _ _ _ _ wr => ∃ (j : Nat) (of : Nat → Nat), j ≤ pl ∧ i = .int .i64 j ∧ Ln w wr lb (.slice (some ⟨gb, 0, none⟩) n n) (.slice Al pl cl) gb vsT vsP G (sG G) of (fun _ => 0) ∧ Blk wr pb #[.pointer (some ⟨lb, 0, none⟩)] 130 ∧ (∀ p, p < j → ∀ a ∈ (sG G).getD p [], of a = p)) (fun i _ _ _ _ _ _ _ => pl - (RowKit.intOf i).toNat)
  case atStart => exact ⟨0, _, by omega, rfl, L6.out, KP6.out, fun p hp => by omega⟩
  case round =>
    obtain ⟨j, of, hj, rfl, hln, hkp, hof⟩ := hrel
    have HLN := Lib.hid hln
    have HKP := Lib.hid hkp
    have HOF := Lib.hid hof
    by_cases hlt : j < pl
    · have hlt2 : (j : Int) < pl := by omega
      have hjS : j < (sG G).length := by rw [HSL.out]; exact hlt
      have hrow := hln.rows.row j hjS
      obtain ⟨B1, d1, eB, _, _⟩ := own_slice hrow
      rw [eB] at hrow
      have EB := Lib.hid eB
      have hown := hln.own
      rw [HSL.out] at hown
      have hvl := hln.rows.len
      rw [HSL.out] at hvl
      obtain ⟨bl, ol, rfl, _, hcl⟩ := own_lies1 hown (by omega)
      have cR := hcl j (by omega)
      rw [show vsP[j]? = some (vsP.getD j undef) by simp [List.getD, List.getElem?_eq_getElem (show j < vsP.length by omega)], eB] at cR
      obtain ⟨m, em⟩ : ∃ m, m = ((sG G).getD j []).length := ⟨_, rfl⟩
      have EM := Lib.hid em
      have hm64 : m ≤ 64 := by rw [em]; exact PS.out.2.1 j hjS
      rw [← em] at cR
      have TKJ := Lib.hid (fun q (hq : q < m) => take_oneN (a := (sG G).getD j []) (k := q) (by omega))
      have TAJ := Lib.hid (show ((sG G).getD j []).take m = (sG G).getD j [] from List.take_of_length_le (by omega))
      have MEM := Lib.hid (fun q (hq : q < m) => show ((sG G).getD j []).getD q 0 ∈ (sG G).getD j [] from by
        have hq2 : q < ((sG G).getD j []).length := by omega
        generalize (sG G).getD j [] = L at hq2
        simp [List.getD, List.getElem?_eq_getElem hq2])
      clear hln hkp hof hrow eB hown hvl hcl em
      gi_wp2_with fail
      gi_loopw [33, 7] (fun i _ wr => ∃ (q : Nat) (of : Nat → Nat), q ≤ m ∧ i = .int .i64 q ∧ Ln w wr lb (.slice (some ⟨gb, 0, none⟩) n n) (.slice (some ⟨bl, ol, none⟩) pl cl) gb vsT vsP G (sG G) of (fun _ => 0) ∧ Blk wr pb #[.pointer (some ⟨lb, 0, none⟩)] 130 ∧ (∀ p, p < j → ∀ a ∈ (sG G).getD p [], of a = p) ∧ (∀ a ∈ ((sG G).getD j []).take q, of a = j)) (fun i _ _ => m - (RowKit.intOf i).toNat)
      case atStart => exact ⟨0, of, by omega, rfl, HLN.out, HKP.out, HOF.out, fun a h => by simp at h⟩
      case round =>
        obtain ⟨q, of', hq, rfl, hln, hkp, hof, hoj⟩ := hrel
        have HLN2 := Lib.hid hln
        have HKP2 := Lib.hid hkp
        have HOF2 := Lib.hid hof
        have HOJ2 := Lib.hid hoj
        by_cases hqm : q < m
        · have hqm2 : (q : Int) < m := by omega
          have hrow := hln.rows.row j hjS
          rw [EB.out, ← EM.out] at hrow
          obtain ⟨b2, o2, rfl, hb2, c3⟩ := lies_cell (own_lies1 hrow) (k := q) (by rw [nums_len, ← EM.out]; exact hqm)
          rw [nums_at] at c3
          have hmem := MEM.out q hqm
          have TKQ := Lib.hid (TKJ.out q hqm)
          generalize ((sG G).getD j []).getD q 0 = a at c3 hmem TKQ
          have hat := AT.out a j hlt hmem
          have ha64 : (a : Int) < 64 := by omega
          have cP := hkp.cell 0
          simp only [List.getElem?_toArray, List.getElem?_cons_zero] at cP
          have fL := hln.blk.frozen (2 + a)
          have cL : _ := hln.blk.cell (2 + a)
          rw [List.getElem?_toArray, lineCells_of (by omega)] at cL
          have LS' := Lib.hid (hln.setOf (k := a) (p := j) (by omega))
          have HMEM := Lib.hid (And.intro hmem hat)
          clear hln hkp hof hoj hrow hmem hat
          gi_wp2_with fail
          go_roundw
          case rel =>
            obtain ⟨hmem, hat⟩ := HMEM.out
            refine ⟨q + 1, _, by omega, by go_num, LS'.out, ?_, fun p hp x hx => ?_, fun x hx => ?_⟩
            · exact (heap_setCell_other _ ⟨lb, 2 + a, none⟩ pb _ (fun e => by have h1 := HKP2.out; rw [show pb = lb from e] at h1; have := h1.symm.trans HLN2.out.blk; simp at this)).trans HKP2.out
            · have hne : ¬ x = a := fun e => by
                subst e
                have h1 := (AT.out x p (by omega) hx).2
                omega
              unfold upd
              rw [if_neg hne]
              exact HOF2.out p hp x hx
            · unfold upd
              rw [TKQ.out] at hx
              rcases List.mem_append.1 hx with h | h
              · by_cases e : x = a
                · rw [if_pos e]
                · rw [if_neg e]; exact HOJ2.out x h
              · rw [if_pos (List.mem_singleton.1 h)]
          case measure => simp [RowKit.intOf]; omega
        · obtain rfl : q = m := by omega
          have hqm2 : ¬ (q : Int) < q := by omega
          clear hln hkp hof hoj
          gi_wp2_with fail
          go_roundw
          case rel =>
            refine ⟨j + 1, of', by omega, by go_num, HLN2.out, HKP2.out, fun p hp x hx => ?_⟩
            by_cases e : p = j
            · subst e
              exact HOJ2.out x (by rw [TAJ.out]; exact hx)
            · exact HOF2.out p (by omega) x hx
          case measure => simp [RowKit.intOf]; omega
    · obtain rfl : j = pl := by omega
      have hlt2 : ¬ (j : Int) < j := by omega
      clear hln hkp hof
      have LM := Lib.hid (fun w' => links_make A n c w')
      gi_wp2_with (refine ⟨trivial, ?_⟩; gi_at_call 177; refine (callsIn_wide.2 (LM.out _)).mono ?_; rintro e w7 ⟨rfl, e7⟩; have E7 := Lib.hid e7; clear e7)
      obtain ⟨bx, ebx⟩ : ∃ u, u = wr.heap.size := ⟨_, rfl⟩
      have hb7 : Below wr.heap.size wr w7 := by rw [E7.out]; exact B1 _ _
      have k3 : Blk w7 bx #[.slice A n c] 127 := by rw [E7.out, ebx]; exact Blk.new _ _ _
      have L7 := Lib.hid (HLN.out.below hb7)
      have KP7 := Lib.hid (HKP.out.below' hb7)
      have hlow7 := L7.out.low
      have hlbx : lb ≠ bx := by have := HLN.out.blk.lt; omega
      have OFE := Lib.hid (fun a (ha : a < n) => show of a = oG G a from by
        have hr := rG_is G G.length
        have h1 := ofP_lt hr (a := a) (by rw [← EN.out]; exact ha)
        have h2 := ofP_mem hr (a := a) (by rw [← EN.out]; exact ha)
        refine HOF.out (oG G a) (by rw [← HSL.out]; exact h1) a ?_
        show a ∈ (sccs (rG G) G.length).getD (ofP (sccs (rG G) G.length) a) []
        rw [h2]; exact scc_self hr (by rw [← EN.out]; exact ha))
      have L0 := Lib.hid (seqX_any (m' := 12 - 1) (links_in w7 bx A c vs G (fun j => j < w.heap.size ∨ j = bx) HR.out ⟨fun W' hs hk => by
        refine ⟨?_, ?_⟩
        · rw [← EN.out]
          exact (hk bx (.inr rfl)).trans k3
        · have hbl : Below w.heap.size w { w with heap := W'.heap } := ⟨rfl, rfl, rfl, Nat.le_trans hlow7.size hs, fun j hj => (hk j (.inl hj)).trans (hlow7.block j hj)⟩
          have := HG.out.below hbl
          exact ⟨this.len, this.out, this.row, this.most, this.mosts⟩, fun j hj => by
        rcases hj with h | rfl
        · exact Nat.lt_of_lt_of_le h hlow7.size
        · exact k3.lt⟩))
      have EL := Lib.hid (fun k (hk : k < (lnkG G).length) => show ((lnkG G).getD k (0, 0)).1 < n ∧ ((lnkG G).getD k (0, 0)).2 < n from by
        rw [EN.out]
        exact lnk_lt HR.out.inR (e := (lnkG G).getD k (0, 0)) (by simp only [List.getD, List.getElem?_eq_getElem hk, Option.getD_some]; exact List.getElem_mem hk))
      have WK0 := Lib.hid (show wk (oG G) (lnkG G) 0 = fun _ => 0 from by funext q; simp [wk])
      have WKL := Lib.hid (fun k q => wk_le (oG G) (lnkG G) k q (lnkG_len HR.out))
      have WKS := Lib.hid (fun k (hk : k < (lnkG G).length) => wk_step (of := oG G) hk)
      have OLT := Lib.hid (fun a (ha : a < n) => show oG G a < 64 from by
        have h1 := ofP_lt (rG_is G G.length) (a := a) (by rw [← EN.out]; exact ha)
        have h2 : oG G a < (sG G).length := h1
        rw [HSL.out] at h2; omega)
      have HLB : w.heap.size ≤ lb := HLN.out.lo
      have HPB : lb ≠ pb := fun e => by have h1 := HKP.out; rw [← e] at h1; have := h1.symm.trans HLN.out.blk; simp at this
      rw [← ebx]
      clear c1 c2 E7 hb7 k3 hlow7 ebx
      refine wpIn_rangeFunc_own (by decide) (gf := 222) (lb := #[.pointer (some ⟨bx, 0, none⟩)]) rfl (enters_of Tryz.func222 (by kernel_rfl) rfl) L0.out (Below.refl _ _) (fun _ => rfl)
        (fun k A' => Blk A' lb (lineCells (.slice (some ⟨gb, 0, none⟩) n n) (.slice Al j cl) of (wk (oG G) (lnkG G) k)).toArray 186 ∧ Blk A' pb #[.pointer (some ⟨lb, 0, none⟩)] 130 ∧ Below w.heap.size w A') (fun j _ => j = lb) ⟨fun s A A' h hb => ⟨h.1.below' hb, h.2.1.below' hb, h.2.2.trans (hb.mono h.2.2.size)⟩, fun s b A o hbb h hn => ⟨blk_putX h.1 hn o, blk_putX h.2.1 hn o, below_putX h.2.2 o (Nat.le_trans L7.out.low.size hbb)⟩, fun s A A' j _ _ h => h, fun s b A o j _ _ _ h => h, fun s A q h hc => ⟨_, _, _, (congrArg (fun i => A.heap[i]?) hc).trans h.1⟩⟩ (fun j hj hc => ?tt) ⟨by rw [WK0.out]; exact L7.out.blk, KP7.out, L7.out.low⟩
        (fun k => { tmps := #[.slice A n c, undef, .pointer none, .pointer (some ⟨pb, 0, none⟩), u4, u5, undef, u7, .int .i64 ((lnkG G).getD k (0, 0)).1, .int .i64 ((lnkG G).getD k (0, 0)).2, .slice A n c, .slice (some ⟨gb, 0, none⟩) n n, .slice A n c, .slice Al j cl, .agg ((Tryz.zeroCells186.setIfInBounds 0 (.slice (some ⟨gb, 0, none⟩) n n)).setIfInBounds 1 (.slice Al j cl)), .pointer (some ⟨lb, 0, none⟩), .pointer (some ⟨lb, 0, none⟩), .pointer (some ⟨lb, 0, none⟩), .pointer (some ⟨lb, 1, none⟩), .slice Al j cl, u6, .pointer (some ⟨lb, 0, none⟩), .pointer (some ⟨lb, 0, none⟩), .pointer (some ⟨lb, 1, none⟩), .slice Al j cl, .int .i64 j, .int .i64 j, .bool false, u28, u29, u30, u31, u32, u33, u34, u35, u36, u37, u38, u39, u40, u41, u42, u43, u44, .slice A n c, .func (.func 222) #[] #[.pointer (some ⟨bx, 0, none⟩)], .int .i64 ((lnkG G).getD k (0, 0)).1, .int .i64 ((lnkG G).getD k (0, 0)).2, undef, undef, undef, undef, undef, undef, undef, undef, undef, undef, undef, undef, undef, undef, undef, undef, undef, undef, undef, undef, undef, undef, undef, undef, undef, undef, undef, undef, undef], defers := [] }) ?assign ?body ?done
      case tt =>
        rcases hj with h | h <;> omega
      case assign =>
        intro l2 k Wa K hK2
        unfold encE
        gi_wp2
        exact hK2
      case body =>
        rintro l2 k Wb ⟨h, hkp, hlw⟩ hk
        have hE := EL.out k hk
        have ST := Lib.hid (WKS.out k hk)
        obtain ⟨x, ex⟩ : ∃ x, x = ((lnkG G).getD k (0, 0)).1 := ⟨_, rfl⟩
        obtain ⟨y, ey⟩ : ∃ y, y = ((lnkG G).getD k (0, 0)).2 := ⟨_, rfl⟩
        rw [← ex, ← ey] at ST hE ⊢
        obtain ⟨hx, hy⟩ := hE
        obtain ⟨ox, eox⟩ : ∃ u, u = oG G x := ⟨_, rfl⟩
        obtain ⟨oy, eoy⟩ : ∃ u, u = oG G y := ⟨_, rfl⟩
        have hox : ox < 64 := by rw [eox]; exact OLT.out x hx
        have cx := h.cell (2 + x)
        have cy := h.cell (2 + y)
        have cwx := h.cell (66 + ox)
        have fwx := h.frozen (66 + ox)
        rw [List.getElem?_toArray, lineCells_of (by omega), OFE.out x hx, ← eox] at cx
        rw [List.getElem?_toArray, lineCells_of (by omega), OFE.out y hy, ← eoy] at cy
        rw [List.getElem?_toArray, lineCells_wait hox] at cwx
        have hwx := WKL.out k ox
        obtain ⟨wx, ewx⟩ : ∃ u, u = wk (oG G) (lnkG G) k ox := ⟨_, rfl⟩
        rw [← ewx] at cwx hwx
        rw [← eox, ← eoy, ← ewx] at ST
        have cP := hkp.cell 0
        simp only [List.getElem?_toArray, List.getElem?_cons_zero] at cP
        have hx64 : (x : Int) < 64 := by omega
        have hy64 : (y : Int) < 64 := by omega
        have hox64 : (ox : Int) < 64 := by omega
        have HBK := Lib.hid (And.intro h (And.intro hkp hlw))
        dsimp only
        clear h hkp hlw hk ex ey eox eoy ewx
        gi_wp2_with fail
        refine wpIn_region_round (by kernel_rfl) (by kernel_rfl) ?_
        refine wpAnyIn_puts (by kernel_rfl) (by kernel_rfl) 0 (fun _ => Wb.drew) (fun _ => 0) (fun j => match j with | 0 => .pointer (some ⟨lb, 0, none⟩) | 1 => .int .i64 x | 2 => .pointer (some ⟨lb, 0, none⟩) | 3 => .pointer (some ⟨lb, 2, none⟩) | 4 => .pointer (some ⟨lb, 2 + x, none⟩) | 5 => .int .i64 ox | 6 => .pointer (some ⟨lb, 0, none⟩) | 7 => .int .i64 y | 8 => .pointer (some ⟨lb, 0, none⟩) | 9 => .pointer (some ⟨lb, 2, none⟩) | 10 => .pointer (some ⟨lb, 2 + y, none⟩) | 11 => .int .i64 oy | 12 => .bool ((ox : Int) != (oy : Int)) | _ => undef) rfl (by kernel_rfl) ?hop ?hend
        case hop =>
          intro j o hj p a hp e1 e2 e3 hrest hdep
          have hjl : j < 13 := (List.getElem?_eq_some_iff.1 hj).1
          have q3 : a.tmps[3]?.getD undef = .pointer (some ⟨pb, 0, none⟩) := hrest 3 (by kernel_rfl)
          have q8 : a.tmps[8]?.getD undef = .int .i64 x := hrest 8 (by kernel_rfl)
          have q9 : a.tmps[9]?.getD undef = .int .i64 y := hrest 9 (by kernel_rfl)
          have H1 := Lib.hid e1
          have H3 := Lib.hid e3
          have HD := Lib.hid hdep
          clear hrest e1 e2 e3 hdep
          rcases (show j = 0 ∨ j = 1 ∨ j = 2 ∨ j = 3 ∨ j = 4 ∨ j = 5 ∨ j = 6 ∨ j = 7 ∨ j = 8 ∨ j = 9 ∨ j = 10 ∨ j = 11 ∨ j = 12 by omega) with rfl | rfl | rfl | rfl | rfl | rfl | rfl | rfl | rfl | rfl | rfl | rfl | rfl
          all_goals (simp only [List.getElem?_cons_zero, List.getElem?_cons_succ, Option.some.injEq] at hj; subst hj)
          · obtain rfl : p = 0 := by omega
            refine Gives.value (v := .pointer (some ⟨lb, 0, none⟩)) (w := Wb.drew) ?_ ⟨rfl, rfl⟩
            go_simp
          · obtain rfl : p = 0 := by omega
            refine Gives.value (v := .int .i64 x) (w := Wb.drew) ?_ ⟨rfl, rfl⟩
            go_simp
          · have d49 : a.tmps[49]?.getD undef = .pointer (some ⟨lb, 0, none⟩) := HD.out 0 49 rfl (by kernel_rfl)
            obtain rfl : p = 0 := by omega
            refine Gives.value (v := .pointer (some ⟨lb, 0, none⟩)) (w := Wb.drew) ?_ ⟨rfl, rfl⟩
            go_simp
          · have d51 : a.tmps[51]?.getD undef = .pointer (some ⟨lb, 0, none⟩) := HD.out 2 51 rfl (by kernel_rfl)
            obtain rfl : p = 0 := by omega
            refine Gives.value (v := .pointer (some ⟨lb, 2, none⟩)) (w := Wb.drew) ?_ ⟨rfl, rfl⟩
            go_simp
          · have d52 : a.tmps[52]?.getD undef = .pointer (some ⟨lb, 2, none⟩) := HD.out 3 52 rfl (by kernel_rfl)
            have d50 : a.tmps[50]?.getD undef = .int .i64 x := HD.out 1 50 rfl (by kernel_rfl)
            obtain rfl : p = 0 := by omega
            refine Gives.value (v := .pointer (some ⟨lb, 2 + x, none⟩)) (w := Wb.drew) ?_ ⟨rfl, rfl⟩
            go_simp
          · have d53 : a.tmps[53]?.getD undef = .pointer (some ⟨lb, 2 + x, none⟩) := HD.out 4 53 rfl (by kernel_rfl)
            obtain rfl : p = 0 := by omega
            refine Gives.value (v := .int .i64 ox) (w := Wb.drew) ?_ ⟨rfl, rfl⟩
            go_simp
          · obtain rfl : p = 0 := by omega
            refine Gives.value (v := .pointer (some ⟨lb, 0, none⟩)) (w := Wb.drew) ?_ ⟨rfl, rfl⟩
            go_simp
          · obtain rfl : p = 0 := by omega
            refine Gives.value (v := .int .i64 y) (w := Wb.drew) ?_ ⟨rfl, rfl⟩
            go_simp
          · have d55 : a.tmps[55]?.getD undef = .pointer (some ⟨lb, 0, none⟩) := HD.out 6 55 rfl (by kernel_rfl)
            obtain rfl : p = 0 := by omega
            refine Gives.value (v := .pointer (some ⟨lb, 0, none⟩)) (w := Wb.drew) ?_ ⟨rfl, rfl⟩
            go_simp
          · have d57 : a.tmps[57]?.getD undef = .pointer (some ⟨lb, 0, none⟩) := HD.out 8 57 rfl (by kernel_rfl)
            obtain rfl : p = 0 := by omega
            refine Gives.value (v := .pointer (some ⟨lb, 2, none⟩)) (w := Wb.drew) ?_ ⟨rfl, rfl⟩
            go_simp
          · have d58 : a.tmps[58]?.getD undef = .pointer (some ⟨lb, 2, none⟩) := HD.out 9 58 rfl (by kernel_rfl)
            have d56 : a.tmps[56]?.getD undef = .int .i64 y := HD.out 7 56 rfl (by kernel_rfl)
            obtain rfl : p = 0 := by omega
            refine Gives.value (v := .pointer (some ⟨lb, 2 + y, none⟩)) (w := Wb.drew) ?_ ⟨rfl, rfl⟩
            go_simp
          · have d59 : a.tmps[59]?.getD undef = .pointer (some ⟨lb, 2 + y, none⟩) := HD.out 10 59 rfl (by kernel_rfl)
            obtain rfl : p = 0 := by omega
            refine Gives.value (v := .int .i64 oy) (w := Wb.drew) ?_ ⟨rfl, rfl⟩
            go_simp
          · have d54 : a.tmps[54]?.getD undef = .int .i64 ox := HD.out 5 54 rfl (by kernel_rfl)
            have d60 : a.tmps[60]?.getD undef = .int .i64 oy := HD.out 11 60 rfl (by kernel_rfl)
            obtain rfl : p = 0 := by omega
            refine Gives.value (v := .bool ((ox : Int) != (oy : Int))) (w := Wb.drew) ?_ ⟨rfl, rfl⟩
            go_simp
        case hend =>
        simp only [putIdx]
        go_simp
        by_cases hxy : ox = oy
        · have hq : ((ox : Int) != (oy : Int)) = false := by rw [hxy]; simp
          rw [hq]
          gi_wp2_with fail
          rw [if_pos hxy] at ST
          exact ⟨⟨Nat.le_refl _, fun _ _ _ => rfl, fun _ _ h => h⟩, by rw [ST.out]; exact HBK.out.1, HBK.out.2.1, bdrew1 HBK.out.2.2⟩
        · have hq : ((ox : Int) != (oy : Int)) = true := by simp; omega
          rw [hq]
          rw [if_neg hxy] at ST
          obtain ⟨Wc, eWc⟩ : ∃ u, u = Wb.drew := ⟨_, rfl⟩
          have HWC := Lib.hid eWc
          have hwr : IntKind.i64.wrap (wx + 1) = wx + 1 := by simp [IntKind.wrap, IntKind.bits, IntKind.signed]; omega
          replace cx : Wc.cell? ⟨lb, 2 + x, none⟩ = some (.int .i64 ox) := by rw [eWc]; exact cx
          replace cwx : Wc.cell? ⟨lb, 66 + ox, none⟩ = some (.int .i64 wx) := by rw [eWc]; exact cwx
          replace fwx : Wc.frozen? ⟨lb, 66 + ox, none⟩ = false := by rw [eWc]; exact fwx
          replace cP : Wc.cell? ⟨pb, 0, none⟩ = some (.pointer (some ⟨lb, 0, none⟩)) := by rw [eWc]; exact cP
          rw [← eWc]
          clear eWc cy
          gi_wp2_with fail
          refine wpIn_region_round (by kernel_rfl) (by kernel_rfl) ?_
          obtain ⟨Ws, w0e, w1e⟩ : ∃ Ws : Nat → World, Ws 0 = Wc.drew ∧ Ws 1 = Wc.drew.setCell ⟨lb, 66 + ox, none⟩ (.int .i64 (wx + 1)) := ⟨fun p => match p with | 0 => Wc.drew | _ => Wc.drew.setCell ⟨lb, 66 + ox, none⟩ (.int .i64 (wx + 1)), rfl, rfl⟩
          refine wpAnyIn_puts (by kernel_rfl) (by kernel_rfl) 1 Ws (fun _ => 15) (fun j => match j with | 0 => .pointer (some ⟨lb, 0, none⟩) | 1 => .pointer (some ⟨lb, 0, none⟩) | 2 => .int .i64 x | 3 => .pointer (some ⟨lb, 0, none⟩) | 4 => .pointer (some ⟨lb, 2, none⟩) | 5 => .pointer (some ⟨lb, 2 + x, none⟩) | 6 => .int .i64 ox | 7 => .pointer (some ⟨lb, 0, none⟩) | 8 => .pointer (some ⟨lb, 66, none⟩) | 9 => .pointer (some ⟨lb, 66 + ox, none⟩) | 10 => .int .i64 wx | 11 => .int .i64 (wx + 1) | 12 => .pointer (some ⟨lb, 0, none⟩) | 13 => .pointer (some ⟨lb, 66, none⟩) | 14 => .pointer (some ⟨lb, 66 + ox, none⟩) | 15 => undef | _ => undef) w0e (by kernel_rfl) ?hop ?hend
          case hop =>
            intro j o hj p a hp e1 e2 e3 hrest hdep
            have hjl : j < 16 := (List.getElem?_eq_some_iff.1 hj).1
            have q3 : a.tmps[3]?.getD undef = .pointer (some ⟨pb, 0, none⟩) := hrest 3 (by kernel_rfl)
            have q8 : a.tmps[8]?.getD undef = .int .i64 x := hrest 8 (by kernel_rfl)
            have q9 : a.tmps[9]?.getD undef = .int .i64 y := hrest 9 (by kernel_rfl)
            have H1 := Lib.hid e1
            have H3 := Lib.hid e3
            have HD := Lib.hid hdep
            clear hrest e1 e2 e3 hdep
            rcases (show j = 0 ∨ j = 1 ∨ j = 2 ∨ j = 3 ∨ j = 4 ∨ j = 5 ∨ j = 6 ∨ j = 7 ∨ j = 8 ∨ j = 9 ∨ j = 10 ∨ j = 11 ∨ j = 12 ∨ j = 13 ∨ j = 14 ∨ j = 15 by omega) with rfl | rfl | rfl | rfl | rfl | rfl | rfl | rfl | rfl | rfl | rfl | rfl | rfl | rfl | rfl | rfl
            all_goals (simp only [List.getElem?_cons_zero, List.getElem?_cons_succ, Option.some.injEq] at hj; subst hj)
            · obtain rfl : p = 0 := by have := H3.out 0 (by omega) (by kernel_rfl); omega
              refine Gives.value (v := .pointer (some ⟨lb, 0, none⟩)) (w := Ws 0) ?_ ⟨rfl, rfl⟩
              rw [w0e]
              go_simp
            · obtain rfl : p = 0 := by have := H3.out 0 (by omega) (by kernel_rfl); omega
              refine Gives.value (v := .pointer (some ⟨lb, 0, none⟩)) (w := Ws 0) ?_ ⟨rfl, rfl⟩
              rw [w0e]
              go_simp
            · obtain rfl : p = 0 := by have := H3.out 0 (by omega) (by kernel_rfl); omega
              refine Gives.value (v := .int .i64 x) (w := Ws 0) ?_ ⟨rfl, rfl⟩
              rw [w0e]
              go_simp
            · have d63 : a.tmps[63]?.getD undef = .pointer (some ⟨lb, 0, none⟩) := HD.out 1 63 rfl (by kernel_rfl)
              obtain rfl : p = 0 := by have := H3.out 0 (by omega) (by kernel_rfl); omega
              refine Gives.value (v := .pointer (some ⟨lb, 0, none⟩)) (w := Ws 0) ?_ ⟨rfl, rfl⟩
              rw [w0e]
              go_simp
            · have d65 : a.tmps[65]?.getD undef = .pointer (some ⟨lb, 0, none⟩) := HD.out 3 65 rfl (by kernel_rfl)
              obtain rfl : p = 0 := by have := H3.out 0 (by omega) (by kernel_rfl); omega
              refine Gives.value (v := .pointer (some ⟨lb, 2, none⟩)) (w := Ws 0) ?_ ⟨rfl, rfl⟩
              rw [w0e]
              go_simp
            · have d66 : a.tmps[66]?.getD undef = .pointer (some ⟨lb, 2, none⟩) := HD.out 4 66 rfl (by kernel_rfl)
              have d64 : a.tmps[64]?.getD undef = .int .i64 x := HD.out 2 64 rfl (by kernel_rfl)
              obtain rfl : p = 0 := by have := H3.out 0 (by omega) (by kernel_rfl); omega
              refine Gives.value (v := .pointer (some ⟨lb, 2 + x, none⟩)) (w := Ws 0) ?_ ⟨rfl, rfl⟩
              rw [w0e]
              go_simp
            · have d67 : a.tmps[67]?.getD undef = .pointer (some ⟨lb, 2 + x, none⟩) := HD.out 5 67 rfl (by kernel_rfl)
              obtain rfl : p = 0 := by have := H3.out 0 (by omega) (by kernel_rfl); omega
              refine Gives.value (v := .int .i64 ox) (w := Ws 0) ?_ ⟨rfl, rfl⟩
              rw [w0e]
              go_simp
            · have d62 : a.tmps[62]?.getD undef = .pointer (some ⟨lb, 0, none⟩) := HD.out 0 62 rfl (by kernel_rfl)
              obtain rfl : p = 0 := by have := H3.out 0 (by omega) (by kernel_rfl); omega
              refine Gives.value (v := .pointer (some ⟨lb, 0, none⟩)) (w := Ws 0) ?_ ⟨rfl, rfl⟩
              rw [w0e]
              go_simp
            · have d69 : a.tmps[69]?.getD undef = .pointer (some ⟨lb, 0, none⟩) := HD.out 7 69 rfl (by kernel_rfl)
              obtain rfl : p = 0 := by have := H3.out 0 (by omega) (by kernel_rfl); omega
              refine Gives.value (v := .pointer (some ⟨lb, 66, none⟩)) (w := Ws 0) ?_ ⟨rfl, rfl⟩
              rw [w0e]
              go_simp
            · have d70 : a.tmps[70]?.getD undef = .pointer (some ⟨lb, 66, none⟩) := HD.out 8 70 rfl (by kernel_rfl)
              have d68 : a.tmps[68]?.getD undef = .int .i64 ox := HD.out 6 68 rfl (by kernel_rfl)
              obtain rfl : p = 0 := by have := H3.out 0 (by omega) (by kernel_rfl); omega
              refine Gives.value (v := .pointer (some ⟨lb, 66 + ox, none⟩)) (w := Ws 0) ?_ ⟨rfl, rfl⟩
              rw [w0e]
              go_simp
            · have d71 : a.tmps[71]?.getD undef = .pointer (some ⟨lb, 66 + ox, none⟩) := HD.out 9 71 rfl (by kernel_rfl)
              obtain rfl : p = 0 := by have := H3.out 0 (by omega) (by kernel_rfl); omega
              refine Gives.value (v := .int .i64 wx) (w := Ws 0) ?_ ⟨rfl, rfl⟩
              rw [w0e]
              go_simp
            · have d72 : a.tmps[72]?.getD undef = .int .i64 wx := HD.out 10 72 rfl (by kernel_rfl)
              obtain rfl : p = 0 := by have := H3.out 0 (by omega) (by kernel_rfl); omega
              refine Gives.value (v := .int .i64 (wx + 1)) (w := Ws 0) ?_ ⟨rfl, rfl⟩
              rw [w0e]
              go_simp
            · have d62 : a.tmps[62]?.getD undef = .pointer (some ⟨lb, 0, none⟩) := HD.out 0 62 rfl (by kernel_rfl)
              obtain rfl : p = 0 := by have := H3.out 0 (by omega) (by kernel_rfl); omega
              refine Gives.value (v := .pointer (some ⟨lb, 0, none⟩)) (w := Ws 0) ?_ ⟨rfl, rfl⟩
              rw [w0e]
              go_simp
            · have d74 : a.tmps[74]?.getD undef = .pointer (some ⟨lb, 0, none⟩) := HD.out 12 74 rfl (by kernel_rfl)
              obtain rfl : p = 0 := by have := H3.out 0 (by omega) (by kernel_rfl); omega
              refine Gives.value (v := .pointer (some ⟨lb, 66, none⟩)) (w := Ws 0) ?_ ⟨rfl, rfl⟩
              rw [w0e]
              go_simp
            · have d75 : a.tmps[75]?.getD undef = .pointer (some ⟨lb, 66, none⟩) := HD.out 13 75 rfl (by kernel_rfl)
              have d68 : a.tmps[68]?.getD undef = .int .i64 ox := HD.out 6 68 rfl (by kernel_rfl)
              obtain rfl : p = 0 := by have := H3.out 0 (by omega) (by kernel_rfl); omega
              refine Gives.value (v := .pointer (some ⟨lb, 66 + ox, none⟩)) (w := Ws 0) ?_ ⟨rfl, rfl⟩
              rw [w0e]
              go_simp
            · have d76 : a.tmps[76]?.getD undef = .pointer (some ⟨lb, 66 + ox, none⟩) := HD.out 14 76 rfl (by kernel_rfl)
              have d73 : a.tmps[73]?.getD undef = .int .i64 (wx + 1) := HD.out 11 73 rfl (by kernel_rfl)
              obtain rfl : p = 0 := H1.out 0 (by omega) rfl
              refine Gives.skip (w := Ws 1) ?_ ⟨rfl, rfl⟩
              rw [w0e, w1e]
              go_simp
          case hend =>
          rw [w1e]
          simp only [putIdx]
          go_simp
          gi_wp2_with fail
          have hbk : Blk (Wc.drew.setCell ⟨lb, 66 + ox, none⟩ (.int .i64 (wx + 1))) lb (lineCells (.slice (some ⟨gb, 0, none⟩) n n) (.slice Al j cl) of (upd (wk (oG G) (lnkG G) k) ox (wx + 1))).toArray 186 := by
            have h1 : Blk Wc.drew lb (lineCells (.slice (some ⟨gb, 0, none⟩) n n) (.slice Al j cl) of (wk (oG G) (lnkG G) k)).toArray 186 := by rw [HWC.out]; exact HBK.out.1
            have := heap_setCell_same Wc.drew lb (66 + ox) _ _ (.int .i64 (wx + 1)) h1
            unfold Blk
            rw [this, List.setIfInBounds_toArray, lineCells_setWait hox]
          have oth : ∀ q, q ≠ lb → (Wc.drew.setCell ⟨lb, 66 + ox, none⟩ (.int .i64 (wx + 1))).heap[q]? = Wb.heap[q]? := fun q hq => (heap_setCell_other Wc.drew ⟨lb, 66 + ox, none⟩ q _ hq).trans (by rw [HWC.out]; rfl)
          refine ⟨⟨by rw [HWC.out]; simp [World.setCell], fun q hq hc => oth q hc, fun _ _ h => h⟩, by rw [ST.out]; exact hbk, (oth pb (fun e => HPB e.symm)).trans HBK.out.2.1, ?_⟩
          have h2 : Below w.heap.size w Wc.drew := by rw [HWC.out]; exact bdrew1 (bdrew1 HBK.out.2.2)
          exact h2.setCell (p := ⟨lb, 66 + ox, none⟩) HLB _
      case done =>
        rintro D W6 rfl ⟨h, hkp, hlw⟩ hk hd
        have HD := Lib.hid hd
        have HBK := Lib.hid (And.intro h (And.intro hkp hlw))
        have HKK := Lib.hid hk
        have cP := hkp.cell 0
        simp only [List.getElem?_toArray, List.getElem?_cons_zero] at cP
        clear h hkp hlw hk hd
        gi_wp2_with fail
        show LeavesInM _ _ _ _ _ _ _ _ _
        refine leaves_one (D := w7.heap.size) HD.out (fun o => ?_)
        have hn7 : NoCells W6 w7.heap.size := nc_def HD.out
        have hgr : w7.grownBy (W6.putObj w7.heap.size o) (some lb) := by
          have h1 := HBK.out.2.2
          have h2 := L7.out.low
          refine ⟨h1.os.trans h2.os.symm, h1.tape.trans h2.tape.symm, h1.output.trans h2.output.symm, by have := HKK.out.size; simpa using this, fun q hq hne => ?_⟩
          exact (World.putObj_heap_other (by omega)).trans (HKK.out.block q hq (fun e => hne (by rw [e])))
        refine ⟨_, by simp [results, Tryz.f115, go_sem], lb, gb, _, vsT, vsP, of, rfl, L7.out.turn (blk_putX HBK.out.1 hn7 o) hgr, OFE.out⟩
end Go.Proofs.YtlbjmkljmhfjdaaGreat

/- The law NullNodes' parts: size, the row of what may, by a row of numbers. -/
import Derived.Test.YtaphogjiioecmaaC1
set_option linter.unusedSimpArgs false
set_option linter.unusedVariables false
namespace Go.Proofs.Ytaphogjiioecmaa
open Go Go.RowKit Go.Maps
set_option maxRecDepth 100000 in
set_option maxHeartbeats 2000000 in
theorem size11_any (g : Gr) (w : World) (hg : Gr.At w g) : Calls Try.prog 14 #[g.val] w fun e w' => (∃ z : Int, e = .returned (.int .i64 z)) ∧ Below w.heap.size w w' := by
  have HG := Lib.hid hg
  have h1 := hg.rl
  have h2 := hg.nl
  obtain ⟨RA, rc, rules, NA, nc, nodes⟩ := g
  dsimp only at h1 h2
  obtain ⟨m, em⟩ : ∃ m, m = nodes.length := ⟨_, rfl⟩
  obtain ⟨r, er⟩ : ∃ m, m = rules.length := ⟨_, rfl⟩
  show Calls Try.prog 14 #[.agg #[.slice RA rules.length rc, .slice NA nodes.length nc]] w _
  have EM := Lib.hid em
  rw [← em, ← er]
  rw [← em] at h2
  rw [← er] at h1
  clear hg em er
  go_enter Try.func14, Try.ntmps14
  go_wp2_with fail
  obtain ⟨wb, ewb⟩ : ∃ u, u = w.alloc (.cells #[.slice RA r rc, .slice NA m nc] 38) := ⟨_, rfl⟩
  have hb2 : Below w.heap.size w wb := by rw [ewb]; exact B1 _ _
  have c0 : wb.cell? ⟨w.heap.size, 0, none⟩ = some (.slice RA r rc) := by rw [ewb]; exact (Blk.new _ _ _).cell 0
  have c1 : wb.cell? ⟨w.heap.size, 1, none⟩ = some (.slice NA m nc) := by rw [ewb]; exact (Blk.new _ _ _).cell 1
  rw [← ewb]
  have BB := Lib.hid hb2
  clear ewb hb2
  go_loopw [3, 4] (fun s i wr => ∃ (k : Nat) (n : Int), k ≤ m ∧ s = .int .i64 n ∧ i = .int .i64 k ∧ n ≤ 500000000000000 ∧ 0 ≤ n ∧ wr = wb) (fun _ i _ => m - (intOf i).toNat)
  case atStart => exact ⟨0, r + m, by omega, rfl, rfl, by omega, by omega, rfl⟩
  case round =>
    obtain ⟨k, n, hk, rfl, rfl, hn, hn0, rfl⟩ := hrel
    by_cases hlt : k < m
    · have hlt2 : (k : Int) < m := by omega
      by_cases hle : n ≤ 300
      · obtain ⟨b1, o1, eA, _, _, _, _, _, _, _, _, _, c9⟩ := (HG.out.below BB.out).nodes.nine (show k < nodes.length by have := EM.out; omega)
        have hx := ((HG.out.below BB.out).node (show k < nodes.length by have := EM.out; omega)).2.2
        dsimp only at eA c9 hx
        rw [eA] at c1
        generalize nodes.getD k Nd.zero = x at c9 hx
        clear eA
        go_wp2_with fail
        go_roundw
        case rel => exact ⟨k + 1, n + x.kids.length, by omega, by first | rfl | go_num, by go_num, by omega, by omega, by first | trivial | rfl⟩
        case measure => simp [intOf]; omega
      · have hle2 : 300 < n := by omega
        go_wp2_with fail
        go_ret
        exact ⟨⟨n, rfl⟩, BB.out⟩
    · obtain rfl : k = m := by omega
      have hlt2 : ¬ (k : Int) < k := by omega
      go_wp2_with fail
      go_ret
      exact ⟨⟨n, rfl⟩, BB.out⟩
theorem rank_of {g : Gr} (hR : Right g) (i : Nat) (hi : i < g.rules.length) : rankOf g i = (ranks g).getD i 0 := by
  unfold rankOf
  rw [if_pos ⟨rightB_true.2 hR, by omega, by omega⟩, Int.toNat_natCast]
theorem nodeB_of {g : Gr} (hR : Right g) (n : Nat) (hn : n < g.nodes.length) : nodeB g n = mayN g.nodes (inB (ranks g)) n := by
  unfold nodeB
  rw [rightB_true.2 hR]
  have : (0 : Int) ≤ n ∧ (n : Int) < g.nodes.length := by omega
  simp [this.2]
theorem nodesOf_of {g : Gr} (hR : Right g) : nodesOf g = rowOf' g.nodes.length (fun n => mayN g.nodes (inB (ranks g)) n) := by
  unfold nodesOf
  rw [rightB_true.2 hR]
  rfl
theorem rows_no {g : Gr} (h : rightB g = false) : rulesOf g = [] ∧ nodesOf g = [] := by
  unfold rulesOf nodesOf
  rw [h]
  exact ⟨rfl, rfl⟩
theorem row_no {w w' : World} {e : Ending} {L : List Nat} (h : Row w L e w') (hL : L = []) : e = .returned (.slice none 0 0) ∧ Below w.heap.size w w' := by
  obtain ⟨⟨v, rfl, _, hn⟩, hb⟩ := h
  rw [hn.2 hL]
  exact ⟨rfl, hb⟩
/-- The row of what may, some of it stored. -/
structure MidM (w4 wr : World) (mb : Nat) (L : List Nat) (j : Nat) (ml : List Bool) (N : Nat) : Prop where
  row : Blk wr mb (bls ml).toArray 4
  len : ml.length = N
  val : ∀ q, q < N → ml.getD q false = decide (q ∈ L.take j)
  size : wr.heap.size = w4.heap.size
  other : ∀ b, b ≠ mb → wr.heap[b]? = w4.heap[b]?
theorem MidM.start {w4 : World} {mb N : Nat} {L : List Nat} (h : Blk w4 mb (bls (List.replicate N false)).toArray 4) : MidM w4 w4 mb L 0 (List.replicate N false) N :=
  ⟨h, by simp, fun q hq => by simp only [List.getD, List.getElem?_replicate]; rw [if_pos hq]; simp, rfl, fun _ _ => rfl⟩
theorem MidM.step {w4 wr : World} {mb N j : Nat} {L : List Nat} {ml : List Bool} (h : MidM w4 wr mb L j ml N) (hj : j < L.length) :
    MidM w4 (wr.setCell ⟨mb, L.getD j 0, none⟩ (.bool true)) mb L (j + 1) (ml.set (L.getD j 0) true) N := by
  have ht : L.take (j + 1) = L.take j ++ [L.getD j 0] := by
    rw [List.take_add_one]
    simp [List.getD, List.getElem?_eq_getElem hj]
  refine ⟨?_, by rw [List.length_set]; exact h.len, fun q hq => ?_, by rw [← h.size]; simp [World.setCell], fun b hb => (Below.heap_setCell _ _ _ b hb).trans (h.other b hb)⟩
  · have := h.row.put (k := L.getD j 0) (.bool true)
    rw [bls_set] at this
    exact this
  · rw [ht]
    generalize L.getD j 0 = e0
    by_cases e : q = e0
    · subst e
      simp only [List.getD]
      rw [List.getElem?_set_self (by rw [h.len]; exact hq)]
      simp
    · simp only [List.getD]
      rw [List.getElem?_set_ne (fun h => e h.symm)]
      have := h.val q hq
      simp only [List.getD] at this
      rw [this]
      simp [e]
theorem MidM.done {w4 wr : World} {mb : Nat} {g : Gr} {ml : List Bool} {f : Nat → Bool} (h : MidM w4 wr mb (rowOf' g.nodes.length f) (rowOf' g.nodes.length f).length ml g.nodes.length) (q : Nat) (hq : q < g.nodes.length) : ml.getD q false = f q := by
  rw [h.val q hq, List.take_length]
  cases hf : f q with
  | true => exact decide_eq_true (rowOf_mem.2 ⟨hq, hf⟩)
  | false => exact decide_eq_false (fun h => by have := (rowOf_mem.1 h).2; rw [hf] at this; cases this)
end Go.Proofs.Ytaphogjiioecmaa
namespace Go.Proofs.Ytaphogjiioecmaa
open Go Go.RowKit Go.Maps
set_option maxRecDepth 100000 in
set_option maxHeartbeats 8000000 in
theorem nodes_law (g : Gr) (w : World) (hg : Gr.At w g) (hin : Gr.In g) : Calls Try.prog 4 #[g.val] w fun e w' => e = .returned (.bool true) ∧ Below w.heap.size w w' := by
  obtain ⟨i0, hi, hz0, hz1, hz2⟩ := info_parts Try.info3
  obtain ⟨i1, ji, jz0, jz1, jz2⟩ := info_parts Try.info4
  have HG := Lib.hid hg
  have HIN := Lib.hid hin
  have hnl0 := hg.nl
  have SZ := Lib.hid (fun (w' : World) (b : Below w.heap.size w w') => size11_any g w' (hg.below b))
  have RI := Lib.hid (fun (w' : World) (b : Below w.heap.size w w') => right_all g w' (hg.below b) hin)
  have NA := Lib.hid (fun (w' : World) (b : Below w.heap.size w w') => nodes_any g w' (hg.below b) hin)
  clear hg hin
  go_enter Try.func4, Try.ntmps4
  go_wp2_with (first | (go_at_call 13; (with_reducible refine (awake_any _).mono ?_); rintro e w1 ⟨rfl, hb⟩; have H1 := Lib.hid (bb (B1 w _) hb); have K1 := Lib.hid ((Blk.new w _ _).below' hb); have a0 := K1.out.cell 0; have a1 := K1.out.cell 1; simp only [List.getElem?_toArray, List.getElem?_cons_zero, List.getElem?_cons_succ] at a0 a1; clear hb) | (go_at_call 14; (with_reducible refine (SZ.out _ H1.out).mono ?_); rintro e w2 ⟨⟨z, rfl⟩, hb⟩; have H2 := Lib.hid (bb H1.out hb); have K2 := Lib.hid (K1.out.below' hb); have b0 := K2.out.cell 0; have b1 := K2.out.cell 1; simp only [List.getElem?_toArray, List.getElem?_cons_zero, List.getElem?_cons_succ] at b0 b1; clear hb) | (go_at_call 15; (with_reducible refine (RI.out _ H2.out).mono ?_); rintro e w3 ⟨rfl, hb⟩; have H3 := Lib.hid (bb H2.out hb); have KB := Lib.hid (K2.out.below' hb); have c0 := KB.out.cell 0; have c1 := KB.out.cell 1; simp only [List.getElem?_toArray, List.getElem?_cons_zero, List.getElem?_cons_succ] at c0 c1; clear hb a0 a1 b0 b1) | (at_make; refine wpList_make_full _ rfl _ _ 42 rfl w3.heap.size 4 i1 (.bool false) 1 Try.underlying42 ji jz0 jz1 .i64 .i64 _ _ g.nodes.length rfl rfl rfl rfl (by rw [jz2]; omega) (by unfold maxLen; omega) (Nat.le_refl _) ?_; intro w4 hown hgrow; have G4 := Lib.hid (grown_none hgrow); have H4 := Lib.hid (bb H3.out G4.out); have K4 := Lib.hid (made_blk hown); have e0 := (KB.out.below' G4.out).cell 0; have e1 := (KB.out.below' G4.out).cell 1; simp only [List.getElem?_toArray, List.getElem?_cons_zero, List.getElem?_cons_succ] at e0 e1; clear hown hgrow c0 c1) | (go_at_call 17; (with_reducible refine (NA.out _ H4.out).mono ?_); rintro e w5 ⟨⟨v, rfl, ho, _⟩, hb⟩; obtain ⟨A, c, rfl, _, _⟩ := own_slice ho; have G5 := Lib.hid (bb G4.out hb); have H5 := Lib.hid (bb H4.out hb); have K5 := Lib.hid (K4.out.below' hb); have O5 := Lib.hid ho; have L5 := Lib.hid K4.out.lt; clear hb ho e0 e1))
  · go_ret
    exact ⟨rfl, H2.out⟩
  · have hno : rightB g = false := by have h : (!rightB g) = true := (by assumption); simpa using h
    have RU := Lib.hid (fun (w' : World) (b : Below w3.heap.size w3 w') => (rules_any g w' (HG.out.below (bb H3.out b)) HIN.out).mono fun _ _ h => row_no h (rows_no hno).1)
    have NO := Lib.hid (fun (w' : World) (b : Below w3.heap.size w3 w') => (nodes_any g w' (HG.out.below (bb H3.out b)) HIN.out).mono fun _ _ h => row_no h (rows_no hno).2)
    have d0 := fun e => Ext.cell c0 e
    have d1 := fun e => Ext.cell c1 e
    have R0 := Lib.hid (fun (e : Ext w3) => RU.out e.val e.grown)
    have N0 := Lib.hid (fun (e : Ext w3) => NO.out e.val e.grown)
    clear hno c0 c1 HG RU NO
    refine wp_region_ext (by kernel_rfl) (by kernel_rfl) ?_
    repeat (first | go_big_quiet_step (first | (go_at_call 16; exact Calls.ext_of (R0.out _)) | (go_at_call 17; exact Calls.ext_of (N0.out _))) | quiet_step (first | (go_at_call 16; exact Calls.ext_of (R0.out _)) | (go_at_call 17; exact Calls.ext_of (N0.out _))))
    refine wpQuiet_nil ?_
    intro w9 hw'
    obtain ⟨⟨_, hb9⟩, rfl⟩ := hw'
    have B9 := Lib.hid (bb H3.out hb9)
    clear hb9 d0 d1 R0 N0
    go_wp2_with fail
    go_ret
    exact ⟨by first | rfl | simp, B9.out⟩
  · have hr : Right g := rightB_true.1 (by have h : (!rightB g) = false := (by assumption); simpa using h)
    have HR := Lib.hid hr
    -- RIGHT
    have hnl := hr.nodes
    have hrl := hr.rules.2
    have hr0 := hr.rules.1
    have hld := nodesOf_of hr
    obtain ⟨b1, o1, eA, hb1, _⟩ := (HG.out.below H5.out).rules.two (show 0 < g.rules.length by omega)
    have GT := Lib.hid (HG.out.below H3.out)
    obtain ⟨L, eL⟩ : ∃ L, L = nodesOf g := ⟨_, rfl⟩
    rw [← eL] at O5 hld ⊢
    obtain ⟨N, eN⟩ : ∃ N, N = g.nodes.length := ⟨_, rfl⟩
    obtain ⟨R, eR⟩ : ∃ N, N = g.rules.length := ⟨_, rfl⟩
    obtain ⟨f, ef⟩ : ∃ f : Nat → Bool, f = fun (n : Nat) => mayN g.nodes (inB (ranks g)) (n : Int) := ⟨_, rfl⟩
    have MS := Lib.hid (fun (wr : World) (mb : Nat) (ml : List Bool) (h : MidM w5 wr mb L L.length ml N) (q : Nat) (hq : q < N) => show ml.getD q false = f q from by
      rw [hld, eN] at h
      rw [ef]
      exact MidM.done h q (by rw [← eN]; exact hq))
    have LM := Lib.hid (fun (k : Nat) (hk : k < L.length) => show L.getD k 0 < N from by
      have : L.getD k 0 ∈ L := by simp [List.getD, List.getElem?_eq_getElem hk]
      rw [hld] at this
      rw [hld, eN]
      exact (rowOf_mem.1 this).1)
    have LN := Lib.hid (show L.length ≤ N by rw [hld, eN]; exact rowOf_len _ _)
    have EN := Lib.hid eN
    have ER := Lib.hid eR
    have EF := Lib.hid ef
    have EA := Lib.hid eA
    rw [made_bools] at K5
    obtain ⟨mb, emb⟩ : ∃ b, b = w3.heap.size := ⟨_, rfl⟩
    have MB := Lib.hid (show w3.heap.size ≤ mb by omega)
    have KG := Lib.hid (show Blk w3 w.heap.size #[.slice (some ⟨b1, o1, none⟩) R g.rc, .slice g.NA N g.nc] 38 by rw [eR, eN, ← eA]; exact KB.out)
    rw [← emb, ← eN] at K5
    rw [← emb] at L5
    rw [← emb, ← eN]
    rw [← eN] at hnl
    rw [← eR] at hrl hr0
    clear HG KB eL eN eR ef emb eA hld hr hnl0 hb1 K1 K2 K4 H1 H2 H4 SZ RI NA G4
    go_loopw [5] (fun i wr => ∃ (k : Nat) (ml : List Bool), k ≤ L.length ∧ i = .int .i64 k ∧ MidM w5 wr mb L k ml N ∧ Below w3.heap.size w3 wr) (fun i _ => L.length - (intOf i).toNat)
    case atStart => exact ⟨0, List.replicate N false, by omega, rfl, MidM.start K5.out, G5.out⟩
    case round =>
      obtain ⟨k, ml, hk, rfl, hmm, hbl⟩ := hrel
      have HM := Lib.hid hmm
      have BL := Lib.hid hbl
      have hln := LN.out
      clear hmm hbl
      by_cases hlt : k < L.length
      · have hlt2 : (k : Int) < L.length := by omega
        have hq := LM.out k hlt
        have hro : wr.ownsRow w4.heap.size 3 1 (.slice A L.length c) L.length (ints (nums L)) := own_kept O5.out (fun b hb => HM.out.other b (fun e => by have := (O5.out.lt b hb).1; have := L5.out; omega))
        have hlies : Lies wr A (ints (nums L)) := own_lies (xs := ints (nums L)) (by rw [ints_length, nums_len]; exact hro)
        obtain ⟨b2, o2, eA2, _, c2⟩ := lies_cell hlies (k := k) (by rw [nums_len]; exact hlt)
        rw [nums_at] at c2
        have HS := Lib.hid (HM.out.step hlt)
        generalize L.getD k 0 = q at hq c2 HS
        have hq2 : (q : Int) < N := by omega
        have cl : wr.cell? ⟨mb, q, none⟩ = some (.bool (ml.getD q false)) := (HM.out.row.cell q).trans (by rw [List.getElem?_toArray]; exact bls_at (by have := HM.out.len; omega))
        have fl := HM.out.row.frozen q
        generalize ml.getD q false = y at cl
        rw [eA2]
        clear hro hlies eA2
        go_wp2_with fail
        go_roundw
        case rel => exact ⟨k + 1, _, by omega, by go_num, HS.out, BL.out.setCell MB.out _⟩
        case measure => simp [intOf]; omega
      · obtain rfl : L.length = k := by omega
        have hlt2 : ¬ (L.length : Int) < L.length := by omega
        have MV := Lib.hid (MS.out wr mb ml HM.out)
        have ML := Lib.hid HM.out.len
        have KM := Lib.hid HM.out.row
        clear MS LM LN HM O5 L5 K5 G5 H5
        obtain ⟨w6, rfl⟩ : ∃ u, u = wr := ⟨_, rfl⟩
        go_wp2_with fail
        -- LOOP2
        have RK := Lib.hid (fun (i : Nat) (hi : i < R) (w' : World) (b : Below w6.heap.size w6 w') =>
          show Calls Try.prog 18 #[.agg #[.slice (some ⟨b1, o1, none⟩) R g.rc, .slice g.NA N g.nc], .int .i64 i] w' fun e w'' => e = .returned (.int .i64 ((ranks g).getD i 0)) ∧ Below w'.heap.size w' w'' from by
            have := rank_any g i (by omega) w' (GT.out.below (BL.out.trans (b.mono BL.out.size))) HIN.out
            rw [rank_of HR.out i (by rw [← ER.out]; exact hi)] at this
            rw [ER.out, EN.out, ← EA.out]
            exact this)
        have RU := Lib.hid (fun (i : Nat) (hi : i < R) (w' : World) (b : Below w6.heap.size w6 w') =>
          show Calls Try.prog 19 #[.agg #[.slice (some ⟨b1, o1, none⟩) R g.rc, .slice g.NA N g.nc], .int .i64 i] w' fun e w'' => e = .returned (.bool (decide (0 < (ranks g).getD i 0))) ∧ Below w'.heap.size w' w'' from by
            have := rule_of g i (by omega) w' (GT.out.below (BL.out.trans (b.mono BL.out.size))) HIN.out
            rw [rank_of HR.out i (by rw [← ER.out]; exact hi)] at this
            rw [ER.out, EN.out, ← EA.out]
            exact this)
        have HRW := Lib.hid (fun (w' : World) (b : Below w6.heap.size w6 w') (i : Nat) (hi : i < R) => (GT.out.below (BL.out.trans (b.mono BL.out.size))).rules.two (show i < g.rules.length by rw [← ER.out]; exact hi))
        have RB := Lib.hid (fun i (hi : i < R) => show 0 ≤ (g.rules.getD i Rl.zero).body ∧ (g.rules.getD i Rl.zero).body < (N : Int) from (by rw [EN.out]; exact HR.out.body i (by rw [← ER.out]; exact hi)))
        have FB := Lib.hid (fun (i : Nat) (hi : i < R) => show mayN g.nodes (inB (ranks g)) (g.rules.getD i Rl.zero).body = decide (0 < (ranks g).getD i 0) from body_ranks i (by rw [← ER.out]; exact hi))
        have KC := Lib.hid (KG.out.below' BL.out)
        have RP := Lib.hid (fun i => show 0 ≤ (ranks g).getD i 0 ∧ (ranks g).getD i 0 ≤ R from ⟨ranks_pos g i, by rw [ER.out]; exact ranks_le g i⟩)
        have RL := Lib.hid (show (ranks g).length = R by rw [ER.out]; exact ranks_length g)
        go_loopw [6, 7, 8, 9] (fun high rs i _ wr => ∃ (k M : Nat), k ≤ R ∧ i = .int .i64 k ∧ high = .int .i64 M ∧ M ≤ R ∧ (∀ q, q < k → (ranks g).getD q 0 ≤ M) ∧ wr.ownsRow w6.heap.size 3 1 rs k (ints ((ranks g).take k)) ∧ Below w6.heap.size w6 wr) (fun _ _ i _ _ => R - (intOf i).toNat)
        case atStart => exact ⟨0, 0, by omega, rfl, rfl, by omega, fun q h => absurd h (by omega), World.ownsRow_nil _ _ _ _, Below.refl _ _⟩
        case round =>
          obtain ⟨k, M, hk, rfl, rfl, hM, hMv, hown, hbl⟩ := hrel
          have MM := Lib.hid hMv
          have O0 := Lib.hid hown
          have T0 := Lib.hid hbl
          clear hMv hown hbl
          have kb0 : wr.cell? ⟨w.heap.size, 0, none⟩ = some (.slice (some ⟨b1, o1, none⟩) R g.rc) := (KC.out.below' T0.out).cell 0
          by_cases hlt : k < R
          · have hlt2 : (k : Int) < R := by omega
            have kb1 : wr.cell? ⟨w.heap.size, 1, none⟩ = some (.slice g.NA N g.nc) := (KC.out.below' T0.out).cell 1
            have C1 := Lib.hid (RK.out k hlt wr T0.out)
            have C2 := Lib.hid (RU.out k hlt)
            have hbd := RB.out k hlt
            have hfb := FB.out k hlt
            have RW := Lib.hid (fun (w' : World) (b : Below w6.heap.size w6 w') => show w'.cell? ⟨b1, o1 + k * 2 + 1, none⟩ = some (.int .i64 (g.rules.getD k Rl.zero).body) from by
              obtain ⟨b3, o3, e3, _, _, cb⟩ := HRW.out w' b k hlt
              rw [EA.out] at e3
              cases e3
              exact cb)
            obtain ⟨v, ev⟩ : ∃ v, v = (ranks g).getD k 0 := ⟨_, rfl⟩
            have EV := Lib.hid ev
            have hv0 := RP.out k
            rw [← ev] at C1 C2 hfb hv0
            generalize (g.rules.getD k Rl.zero).body = bd at RW hbd hfb
            obtain ⟨q, rfl⟩ : ∃ q : Nat, bd = q := ⟨bd.toNat, by omega⟩
            obtain ⟨u, rfl⟩ : ∃ u : Nat, v = u := ⟨v.toNat, by omega⟩
            have hq : q < N := by omega
            have hq2 : (q : Int) < N := by omega
            have CM := Lib.hid (fun (w' : World) (b : Below w6.heap.size w6 w') => show w'.cell? ⟨mb, q, none⟩ = some (.bool (decide (0 < (u : Int)))) from by
              have : w'.cell? ⟨mb, q, none⟩ = some (.bool (ml.getD q false)) := ((KM.out.below' b).cell q).trans (by rw [List.getElem?_toArray]; exact bls_at (by have := ML.out; omega))
              rw [MV.out q hq, EF.out] at this
              rw [← hfb]
              exact this)
            have TK := Lib.hid (show ints ((ranks g).take (k + 1)) = ints ((ranks g).take k) ++ [.int .i64 u] from by
              rw [List.take_add_one]
              have h : k < (ranks g).length := by have := RL.out; omega
              rw [List.getElem?_eq_getElem h]
              have h2 := EV.out
              simp only [List.getD, List.getElem?_eq_getElem h, Option.getD_some] at h2
              rw [← h2]
              simp [ints])
            have LK := Lib.hid (show (ints ((ranks g).take k)).length = k from by
              rw [ints_length, List.length_take, RL.out]; omega)
            clear hbd hfb ev
            by_cases hu : 0 < (u : Int)
            · have d1 : decide (0 < (u : Int)) = true := decide_eq_true hu
              rw [d1] at C2 CM
              go_wp2_with (first | (go_at_call 18; (with_reducible refine C1.out.mono ?_); rintro e w7 ⟨rfl, hb⟩; have T7 := Lib.hid (T0.out.trans (hb.mono T0.out.size)); have O7 := Lib.hid (own_below O0.out hb); clear hb kb0 kb1) | (at_builtin; refine wpList_append_own _ rfl _ _ 28 rfl w6.heap.size 3 i0 (.int .i64 0) 1 8 Try.underlying28 hi hz0 hz1 hz2 rfl (by decide) _ _ _ rfl (O7.out.alloc _) ⟨w7.heap.size, 0, none⟩ 1 1 [.int .i64 u] rfl rfl (cell_one_new _ _ _) (by simp [Value.oneCell']) (by unfold maxLen; omega) (by omega) (by have := T7.out.size; simp; omega) ?_; intro v' w9 hown' hgrow hnil'; have O9 := Lib.hid hown'; have T9 := Lib.hid (show Below w6.heap.size w6 w9 from grown_below (w := w7.alloc _) (T7.out.trans ((B1 w7 _).mono T7.out.size)) (by have := T7.out.size; simp; omega) hgrow (fun j e => (O7.out.lt j e).1)); have kc0 : w9.cell? ⟨w.heap.size, 0, none⟩ = some (.slice (some ⟨b1, o1, none⟩) R g.rc) := (KC.out.below' T9.out).cell 0; have kc1 : w9.cell? ⟨w.heap.size, 1, none⟩ = some (.slice g.NA N g.nc) := (KC.out.below' T9.out).cell 1; clear hown' hgrow hnil') | (go_at_call 19; (with_reducible refine (C2.out _ T9.out).mono ?_); rintro e w10 ⟨rfl, hb⟩; have T10 := Lib.hid (T9.out.trans (hb.mono T9.out.size)); have O10 := Lib.hid (own_below O9.out hb); have kd0 : w10.cell? ⟨w.heap.size, 0, none⟩ = some (.slice (some ⟨b1, o1, none⟩) R g.rc) := (KC.out.below' T10.out).cell 0; have cm := CM.out w10 T10.out; have cb := RW.out w10 T10.out; clear hb kc0 kc1))
              go_roundw
              case rel =>
                refine ⟨k + 1, max M u, by omega, by go_num, ?_, by omega, fun q h => ?_, ?_, T10.out⟩
                · first | rfl | (simp; omega) | (congr 1; omega)
                · by_cases e : q = k
                  · subst e; rw [← EV.out]; omega
                  · have := MM.out q (by omega); omega
                · rw [TK.out]; exact O10.out
              case measure => simp [intOf]; omega
            · have d1 : decide (0 < (u : Int)) = false := decide_eq_false hu
              rw [d1] at C2 CM
              go_wp2_with (first | (go_at_call 18; (with_reducible refine C1.out.mono ?_); rintro e w7 ⟨rfl, hb⟩; have T7 := Lib.hid (T0.out.trans (hb.mono T0.out.size)); have O7 := Lib.hid (own_below O0.out hb); clear hb kb0 kb1) | (at_builtin; refine wpList_append_own _ rfl _ _ 28 rfl w6.heap.size 3 i0 (.int .i64 0) 1 8 Try.underlying28 hi hz0 hz1 hz2 rfl (by decide) _ _ _ rfl (O7.out.alloc _) ⟨w7.heap.size, 0, none⟩ 1 1 [.int .i64 u] rfl rfl (cell_one_new _ _ _) (by simp [Value.oneCell']) (by unfold maxLen; omega) (by omega) (by have := T7.out.size; simp; omega) ?_; intro v' w9 hown' hgrow hnil'; have O9 := Lib.hid hown'; have T9 := Lib.hid (show Below w6.heap.size w6 w9 from grown_below (w := w7.alloc _) (T7.out.trans ((B1 w7 _).mono T7.out.size)) (by have := T7.out.size; simp; omega) hgrow (fun j e => (O7.out.lt j e).1)); have kc0 : w9.cell? ⟨w.heap.size, 0, none⟩ = some (.slice (some ⟨b1, o1, none⟩) R g.rc) := (KC.out.below' T9.out).cell 0; have kc1 : w9.cell? ⟨w.heap.size, 1, none⟩ = some (.slice g.NA N g.nc) := (KC.out.below' T9.out).cell 1; clear hown' hgrow hnil') | (go_at_call 19; (with_reducible refine (C2.out _ T9.out).mono ?_); rintro e w10 ⟨rfl, hb⟩; have T10 := Lib.hid (T9.out.trans (hb.mono T9.out.size)); have O10 := Lib.hid (own_below O9.out hb); have kd0 : w10.cell? ⟨w.heap.size, 0, none⟩ = some (.slice (some ⟨b1, o1, none⟩) R g.rc) := (KC.out.below' T10.out).cell 0; have cm := CM.out w10 T10.out; have cb := RW.out w10 T10.out; clear hb kc0 kc1))
              go_roundw
              case rel =>
                refine ⟨k + 1, max M u, by omega, by go_num, ?_, by omega, fun q h => ?_, ?_, T10.out⟩
                · first | rfl | (simp; omega) | (congr 1; omega)
                · by_cases e : q = k
                  · subst e; rw [← EV.out]; omega
                  · have := MM.out q (by omega); omega
                · rw [TK.out]; exact O10.out
              case measure => simp [intOf]; omega
          · -- EXIT2
            obtain rfl : R = k := by omega
            have hlt2 : ¬ (R : Int) < R := by omega
            have hfull : ints ((ranks g).take R) = ints (ranks g) := by rw [List.take_of_length_le (by have := RL.out; omega)]
            have hO := O0.out
            rw [hfull] at hO
            obtain ⟨A2, c2, rfl, _, _⟩ := own_slice hO
            have LR := Lib.hid (show Lies wr A2 (ints (ranks g)) from own_lies (xs := ints (ranks g)) (by rw [ints_length, RL.out]; exact hO))
            have W0 := Lib.hid (BL.out.trans (T0.out.mono BL.out.size))
            have SY := Lib.hid (fun (n : Nat) (hn : n < N) (w' : World) (b : Below wr.heap.size wr w') =>
              show Calls Try.prog 20 #[.agg #[.slice (some ⟨b1, o1, none⟩) R g.rc, .slice g.NA N g.nc], .int .i64 n, .slice (some ⟨mb, 0, none⟩) N N, .slice A2 R c2] w' fun e w'' => e = .returned (.bool (f n)) ∧ Below w'.heap.size w' w'' from by
                have h := says_any g n (by rw [← EN.out]; exact hn) HR.out ml (by rw [← EN.out]; exact ML.out) (ranks g) (ranks_length g) mb A2 c2 w' (GT.out.below (W0.out.trans (b.mono W0.out.size))) ((KM.out.below' T0.out).below' b) (LR.out.below b)
                rw [may_step HR.out (inB (ranks g)) ml n (by rw [← EN.out]; exact hn) (fun j h1 h2 => by rw [MV.out j (by rw [EN.out]; exact h2), EF.out]), ML.out, RL.out] at h
                rw [EF.out, ER.out, ← EA.out]
                rw [ER.out] at h
                rw [EN.out] at h ⊢
                exact h)
            have NB := Lib.hid (fun (n : Nat) (hn : n < N) (w' : World) (b : Below wr.heap.size wr w') =>
              show Calls Try.prog 21 #[.agg #[.slice (some ⟨b1, o1, none⟩) R g.rc, .slice g.NA N g.nc], .int .i64 n] w' fun e w'' => e = .returned (.bool (f n)) ∧ Below w'.heap.size w' w'' from by
                have h := node_of g n (by omega) w' (GT.out.below (W0.out.trans (b.mono W0.out.size))) HIN.out
                rw [nodeB_of HR.out n (by rw [← EN.out]; exact hn)] at h
                rw [EF.out, ER.out, EN.out, ← EA.out]
                exact h)
            have ST := Lib.hid (fun (w' : World) (b : Below wr.heap.size wr w') =>
              show Calls Try.prog 22 #[.agg #[.slice (some ⟨b1, o1, none⟩) R g.rc, .slice g.NA N g.nc], .slice A2 R c2, .int .i64 M] w' fun e w'' => e = .returned (.bool true) ∧ Below w'.heap.size w' w'' from by
                have h := steps_any g HR.out A2 c2 M (fun i => by
                  by_cases hi : i < R
                  · exact MM.out i hi
                  · have : (ranks g).getD i 0 = 0 := by simp only [List.getD]; rw [List.getElem?_eq_none (by have := RL.out; omega)]; rfl
                    rw [this]; omega) (by rw [← ER.out]; exact hM) w' (GT.out.below (W0.out.trans (b.mono W0.out.size))) (LR.out.below b)
                rw [ER.out, EN.out, ← EA.out]
                exact h)
            have KW := Lib.hid (KC.out.below' T0.out)
            have MW := Lib.hid (KM.out.below' T0.out)
            have HW := Lib.hid (bb H3.out W0.out)
            clear hfull hO O0 MM RK RU HRW RB FB LR GT
            obtain ⟨w7, rfl⟩ : ∃ u, u = wr := ⟨_, rfl⟩
            go_wp2_with fail
            go_loopw [10] (fun i wr => ∃ k : Nat, k ≤ N ∧ i = .int .i64 k ∧ Below w7.heap.size w7 wr) (fun i _ => N - (intOf i).toNat)
            case atStart => exact ⟨0, by omega, rfl, Below.refl _ _⟩
            case round =>
              obtain ⟨k, hk, rfl, hbl⟩ := hrel
              have BI := Lib.hid hbl
              clear hbl
              by_cases hlt : k < N
              · have hlt2 : (k : Int) < N := by omega
                have c0 : wr.cell? ⟨w.heap.size, 0, none⟩ = some (.slice (some ⟨b1, o1, none⟩) R g.rc) := (KW.out.below' BI.out).cell 0
                have c1 : wr.cell? ⟨w.heap.size, 1, none⟩ = some (.slice g.NA N g.nc) := (KW.out.below' BI.out).cell 1
                have cm : wr.cell? ⟨mb, k, none⟩ = some (.bool (ml.getD k false)) := ((MW.out.below' BI.out).cell k).trans (by rw [List.getElem?_toArray]; exact bls_at (by have := ML.out; omega))
                rw [MV.out k hlt] at cm
                have d0 := fun e => Ext.cell c0 e
                have d1 := fun e => Ext.cell c1 e
                have dm := fun e => Ext.cell cm e
                have S0 := Lib.hid (fun (e : Ext wr) => SY.out k hlt e.val (bb BI.out e.grown))
                have N0 := Lib.hid (fun (e : Ext wr) => NB.out k hlt e.val (bb BI.out e.grown))
                generalize f k = b at cm dm S0 N0
                cases b
                all_goals
                  go_upto_region 26 with fail
                  clear c0 c1 cm
                  refine wp_region_ext (by kernel_rfl) (by kernel_rfl) ?_
                  repeat (first | go_big_quiet_step (first | (go_at_call 20; exact Calls.ext_of (S0.out _)) | (go_at_call 21; exact Calls.ext_of (N0.out _))) | quiet_step (first | (go_at_call 20; exact Calls.ext_of (S0.out _)) | (go_at_call 21; exact Calls.ext_of (N0.out _))))
                  refine wpQuiet_nil ?_
                  intro w9 hw'
                  obtain ⟨⟨_, hb9⟩, rfl⟩ := hw'
                  have B9 := Lib.hid (bb BI.out hb9)
                  clear hb9 d0 d1 dm S0 N0
                  go_wp2_with fail
                  go_roundw
                  case rel => exact ⟨k + 1, by omega, by go_num, B9.out⟩
                  case measure => simp [intOf]; omega
              · obtain rfl : N = k := by omega
                have hlt2 : ¬ (N : Int) < N := by omega
                have c0 : wr.cell? ⟨w.heap.size, 0, none⟩ = some (.slice (some ⟨b1, o1, none⟩) R g.rc) := (KW.out.below' BI.out).cell 0
                have c1 : wr.cell? ⟨w.heap.size, 1, none⟩ = some (.slice g.NA N g.nc) := (KW.out.below' BI.out).cell 1
                go_wp2_with (go_at_call 22; (with_reducible refine (ST.out _ BI.out).mono ?_); rintro e w10 ⟨rfl, hb⟩; have H10 := Lib.hid (bb HW.out (bb BI.out hb)); clear hb)
                go_ret
                exact ⟨rfl, H10.out⟩
end Go.Proofs.Ytaphogjiioecmaa

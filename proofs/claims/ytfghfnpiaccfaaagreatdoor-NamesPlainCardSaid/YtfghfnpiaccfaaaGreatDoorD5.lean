/- A tree's grammar, resolved: plainly, and in memory while it is made. -/
import Derived.Test.YtfghfnpiaccfaaaGreatDoorD4
import Derived.Test.YtfghfnpiaccfaaaGreatDoorU2
import Derived.Test.YtfghfnpiaccfaaaGreatDoorGD
set_option linter.unusedSimpArgs false
set_option linter.unusedVariables false
namespace Go.Proofs.YtfghfnpiaccfaaaGreatDoor.J
open Go Go.RowKit
/-- A node, resolved: a call of a name that a rule has, has the first such rule. -/
def rs (t : Tre) (n : Nat) (x : Nd) : Nd := if (whom t n).isSome && isCall x then { x with rule := ((whom t n).getD 0 : Nat) } else x
def part (t : Tre) (L : List Nd) (k : Nat) : List Nd := (List.range L.length).map fun i => if i < k then rs t i (L.getD i Nd.zero) else L.getD i Nd.zero
def resL (t : Tre) (L : List Nd) : List Nd := part t L L.length
def resG (t : Tre) : Gr := { t.g with nodes := resL t t.g.nodes }
theorem part_len (t : Tre) (L : List Nd) (k : Nat) : (part t L k).length = L.length := by simp [part]
theorem part_at (t : Tre) (L : List Nd) (k : Nat) {i : Nat} (hi : i < L.length) : (part t L k).getD i Nd.zero = if i < k then rs t i (L.getD i Nd.zero) else L.getD i Nd.zero := by simp [part, List.getD, hi]
theorem part_zero (t : Tre) (L : List Nd) : part t L 0 = L := by
  apply List.ext_getElem
  · simp [part]
  · intro i h1 h2; simp [part, List.getD, h2]
theorem part_set (t : Tre) (L : List Nd) {k : Nat} (hk : k < L.length) : part t L (k + 1) = (part t L k).set k (rs t k (L.getD k Nd.zero)) := by
  apply List.ext_getElem
  · simp [part]
  · intro i h1 h2
    rw [List.getElem_set]
    simp only [part, List.getElem_map, List.getElem_range]
    by_cases e : k = i
    · subst e; simp
    · rw [if_neg e]
      by_cases h : i < k
      · rw [if_pos (by omega), if_pos h]
      · rw [if_neg (by omega), if_neg h]
theorem part_keep (t : Tre) (L : List Nd) {k : Nat} (hk : k < L.length) (h : rs t k (L.getD k Nd.zero) = L.getD k Nd.zero) : part t L (k + 1) = part t L k := by
  rw [part_set t L hk, h]
  apply List.ext_getElem
  · simp
  · intro i h1 h2
    rw [List.getElem_set]
    by_cases e : k = i
    · subst e; simp [part]
    · rw [if_neg e]
theorem ncells_set : ∀ (l : List Nd) (k : Nat) (r : Int), k < l.length → (ncells l).set (k * 9 + 6) (.int .i64 r) = ncells (l.set k { l.getD k Nd.zero with rule := r })
  | [], k, r, h => by simp at h
  | x :: l, 0, r, h => by simp [ncells, Nd.cells]
  | x :: l, k + 1, r, h => by
    have := ncells_set l k r (by simpa using h)
    rw [show (k + 1) * 9 + 6 = k * 9 + 6 + 9 by omega]
    simp only [ncells, List.set_cons_succ, List.getD_cons_succ]
    rw [List.set_append_right _ _ (by simp [Nd.cells]), ← this]
    simp [Nd.cells]
theorem rs_at (t : Tre) (n : Nat) (x : Nd) (A : Option Addr) (c : Nat) : rs t n (x.at_ A c) = (rs t n x).at_ A c := by
  unfold rs isCall
  cases hd : decide (x.kind = 5) <;> cases hs : (whom t n).isSome <;> simp_all
theorem rs_kids (t : Tre) (n : Nat) (x : Nd) : (rs t n x).A = x.A ∧ (rs t n x).kids = x.kids ∧ (rs t n x).cap = x.cap ∧ (rs t n x).text = x.text := by unfold rs; split <;> simp
theorem part_mem {t : Tre} {L : List Nd} {k : Nat} {x : Nd} (h : x ∈ part t L k) : ∃ y ∈ L, x.A = y.A ∧ x.kids = y.kids ∧ x.cap = y.cap ∧ x.text = y.text := by
  simp only [part, List.mem_map, List.mem_range] at h
  obtain ⟨i, hi, rfl⟩ := h
  refine ⟨L.getD i Nd.zero, getD_mem hi, ?_⟩
  split
  · exact rs_kids t i _
  · exact ⟨rfl, rfl, rfl, rfl⟩
/-- What lies while a grammar's copy is resolved. -/
structure RsSt (w : World) (t : Tre) (mb d : Nat) (h0 : Gr) (k : Nat) (W : World) : Prop where
  b1 : Blk W w.heap.size (namC t mb) 114
  b2 : Blk W (w.heap.size + 1) #[.slice none 0 0, .slice none 0 0] 25
  b3 : Blk W d #[.slice h0.RA h0.rules.length h0.rc, .slice h0.NA h0.nodes.length h0.nc] 25
  rules : W.ownsRow (w.heap.size + 2) 50 2 (.slice h0.RA h0.rules.length h0.rc) h0.rules.length (rcells h0.rules)
  nodes : W.ownsRow (w.heap.size + 2) 48 9 (.slice h0.NA h0.nodes.length h0.nc) h0.nodes.length (ncells (part t h0.nodes k))
  kids : ∀ x ∈ h0.nodes, W.ownsRow (w.heap.size + 2) 3 1 (.slice x.A x.kids.length x.cap) x.kids.length (ints x.kids)
  low : Below w.heap.size w W
variable {w W : World} {t : Tre} {mb d k : Nat} {h0 : Gr}
theorem RsSt.below (h : RsSt w t mb d h0 k W) {W' : World} (hb : Below W.heap.size W W') : RsSt w t mb d h0 k W' :=
  ⟨h.b1.below' hb, h.b2.below' hb, h.b3.below' hb, own_below h.rules hb, own_below h.nodes hb, fun x hx => own_below (h.kids x hx) hb, h.low.trans (hb.mono h.low.size)⟩
theorem RsSt.keep (h : RsSt w t mb d h0 k W) (hk : k < h0.nodes.length) (he : rs t k (h0.nodes.getD k Nd.zero) = h0.nodes.getD k Nd.zero) : RsSt w t mb d h0 (k + 1) W :=
  ⟨h.b1, h.b2, h.b3, h.rules, by rw [part_keep t _ hk he]; exact h.nodes, h.kids, h.low⟩
theorem RsSt.put (h : RsSt w t mb d h0 k W) (hk : k < h0.nodes.length) {r : Nat} (hw : whom t k = some r) (hc : isCall (h0.nodes.getD k Nd.zero) = true) :
    ∃ g, h0.NA = some ⟨g, 0, none⟩ ∧ (∃ v, W.cell? ⟨g, k * 9 + 6, none⟩ = some v ∧ v.oneCell' = true) ∧ W.frozen? ⟨g, k * 9 + 6, none⟩ = false ∧ RsSt w t mb d h0 (k + 1) (W.setCell ⟨g, k * 9 + 6, none⟩ (.int .i64 r)) := by
  obtain ⟨g, cap, e, hbg, _, _, hg⟩ := own_shape h.nodes (by omega)
  simp only [Value.slice.injEq] at e
  obtain ⟨eN, _, ec⟩ := e
  have hN := h.nodes
  rw [eN, ec] at hN
  have hcell := hN.cellAt (k * 9 + 6) (by omega)
  rw [ncells_at _ k 6 (by rw [part_len]; exact hk) (by omega)] at hcell
  rcases hN.2 with ⟨h', _⟩ | ⟨g', cap', cur, h', _, hgg, _⟩
  · simp at h'
  · simp only [Value.slice.injEq, Option.some.injEq, Addr.mk.injEq, and_true, true_and] at h'
    obtain ⟨rfl, rfl⟩ := h'
    have hB : Blk W g cur 48 := hgg
    have hne3 : d ≠ g := fun e => by
      have h3 := h.b3; rw [e] at h3
      have := (show W.heap[g]? = _ from h3).symm.trans hgg
      cases this
    refine ⟨g, eN, ⟨_, hcell, by simp [Nd.cells, Value.oneCell']⟩, hN.frozenAt _, blk_cell h.b1 (by omega) _ _, blk_cell h.b2 (by omega) _ _, blk_cell h.b3 hne3 _ _, own_cell h.rules hB (by decide) _ _, ?_, fun x hx => own_cell (h.kids x hx) hB (by decide) _ _, h.low.setCell (p := ⟨g, k * 9 + 6, none⟩) (by show w.heap.size ≤ g; omega) _⟩
    have hs := (hN.stored (k * 9 + 6) (.int .i64 r)).1
    rw [ncells_set _ _ _ (by rw [part_len]; exact hk), part_at t _ _ hk, if_neg (Nat.lt_irrefl k)] at hs
    rw [part_set t _ hk, show rs t k (h0.nodes.getD k Nd.zero) = { h0.nodes.getD k Nd.zero with rule := (r : Int) } by unfold rs; rw [hw, hc]; rfl, eN, ec]
    exact hs
end Go.Proofs.YtfghfnpiaccfaaaGreatDoor.J
namespace Go.Proofs.YtfghfnpiaccfaaaGreatDoor.J
open Go Go.RowKit
theorem gr_set {w W : World} {b : Nat} {T : TypeId} {a0 a1 : Value} (h : Blk W b #[a0, a1] T) (hw : Below w.heap.size w W) (hb : w.heap.size ≤ b) (x0 x1 : Value) (W' : World) (e : W' = (W.setCell ⟨b, 0, none⟩ x0).setCell ⟨b, 1, none⟩ x1) :
    Blk W' b #[x0, x1] T ∧ Below w.heap.size w W' ∧ ∀ k, k ≠ b → W'.heap[k]? = W.heap[k]? := by
  subst e
  have h0 : Blk (W.setCell ⟨b, 0, none⟩ x0) b #[x0, a1] T := heap_setCell_same W b 0 #[a0, a1] T x0 h
  have h1 := heap_setCell_same _ b 1 #[x0, a1] T x1 h0
  exact ⟨h1, (hw.setCell (p := ⟨b, 0, none⟩) hb _).setCell (p := ⟨b, 1, none⟩) hb _, fun k hk => (heap_setCell_other _ ⟨b, 1, none⟩ k _ hk).trans (heap_setCell_other _ ⟨b, 0, none⟩ k _ hk)⟩
theorem own_grd {w w' : World} {B e size n b : Nat} {v : Value} {xs : List Value} (h : w.ownsRow B e size v n xs) (hb : b < B) (hk : ∀ k, k ≠ b → w'.heap[k]? = w.heap[k]?) : w'.ownsRow B e size v n xs := by
  refine ⟨h.1, ?_⟩
  rcases h.2 with hn | ⟨g, cap, cur, rfl, hbg, hg, rest⟩
  · exact .inl hn
  · exact .inr ⟨g, cap, cur, rfl, hbg, (hk g (by omega)).trans hg, rest⟩
set_option maxRecDepth 100000 in
set_option maxHeartbeats 4000000 in
theorem resolved_any (t : Tre) (mb : Nat) (w : World) (h : NamAt w t mb) (hs : Small t.g) (hnm : t.nm.length = t.g.nodes.length) :
    Calls Tryz.prog 69 #[namV t mb] w fun e w' => (∃ h, e = .returned (Gr.val h) ∧ GTwin (resG t) h ∧ Fresh w' w.heap.size h) ∧ Below w.heap.size w w' := by
  obtain ⟨W2, eW2⟩ : ∃ u, u = (w.alloc (.cells (namC t mb) 114)).alloc (.cells #[.slice none 0 0, .slice none 0 0] 25) := ⟨_, rfl⟩
  have hb2 : Below w.heap.size w W2 := by rw [eW2]; exact B2 _ _ _
  have k1 : Blk W2 w.heap.size (namC t mb) 114 := by rw [eW2]; exact (Blk.new w _ _).alloc _
  have k2 : Blk W2 (w.heap.size + 1) #[.slice none 0 0, .slice none 0 0] 25 := by
    rw [eW2]; have := Blk.new (w.alloc (.cells (namC t mb) 114)) #[.slice none 0 0, .slice none 0 0] 25; rw [World.size_alloc] at this; exact this
  have GC := Lib.hid (show Calls Tryz.prog 122 #[.agg #[.slice t.g.RA t.g.rules.length t.g.rc, .slice t.g.NA t.g.nodes.length t.g.nc]] W2 (fun e w' => (∃ h : Gr, e = .returned h.val ∧ GTwin t.g h ∧ Fresh w' W2.heap.size h) ∧ Below W2.heap.size W2 w') from gcopy_any t.g W2 (h.tre.g.below hb2) hs)
  have K1 := Lib.hid k1
  have K2 := Lib.hid k2
  have HB2 := Lib.hid hb2
  have HZ : RowKit.Hid (W2.heap.size = w.heap.size + 2) := Lib.hid (by rw [eW2]; simp)
  have NC := Lib.hid (fun n (hn : n < t.g.nodes.length) W (b : Below w.heap.size w W) => ncalled_any t mb n W (h.below b) hn (by omega))
  have hl := h.tre.g.nl
  have HS := Lib.hid hs
  clear h hs k1 k2 hb2 hnm
  show Calls Tryz.prog 69 #[.agg #[.slice t.g.RA t.g.rules.length t.g.rc, .slice t.g.NA t.g.nodes.length t.g.nc, .slice t.PA t.rp.length t.pc, .slice t.QA t.np.length t.qc, .slice t.MA t.nm.length t.mc, .map (some mb)]] w _
  go_enter Tryz.func69, Tryz.ntmps69
  go_upto_region 1 with fail
  rw [← eW2]
  clear eW2
  have q0 := K1.out.cell 0
  have q1 := K1.out.cell 1
  simp only [List.getElem?_toArray, List.getElem?_cons_zero, List.getElem?_cons_succ] at q0 q1
  go_upto_region 2 with (go_at_call 122; (with_reducible refine GC.out.mono ?_); rintro e w1 ⟨⟨h0, rfl, hT, hF⟩, hb1⟩; have TW := Lib.hid hT; have FR := Lib.hid hF; have B1' := Lib.hid hb1; clear hT hF hb1)
  obtain ⟨d, ed⟩ : ∃ u, u = w1.heap.size := ⟨_, rfl⟩
  obtain ⟨w2, ew2⟩ : ∃ u, u = w1.alloc (.cells #[.slice h0.RA h0.rules.length h0.rc, .slice h0.NA h0.nodes.length h0.nc] 25) := ⟨_, rfl⟩
  have F0 : RowKit.Hid (RsSt w t mb d h0 0 w2) := Lib.hid (by
    have hb : Below w1.heap.size w1 w2 := by rw [ew2]; exact B1 _ _
    have hb' : Below W2.heap.size W2 w2 := B1'.out.trans (hb.mono B1'.out.size)
    have f := FR.out.below hb
    refine ⟨K1.out.below' hb', K2.out.below' hb', by rw [ew2, ed]; exact Blk.new _ _ _, own_lower f.rules (by rw [HZ.out]; exact Nat.le_refl _), by rw [part_zero]; exact own_lower f.nodes (by rw [HZ.out]; exact Nat.le_refl _), fun x hx => own_lower (f.kids x hx).1 (by rw [HZ.out]; exact Nat.le_refl _), HB2.out.trans (hb'.mono HB2.out.size)⟩)
  have FN : RowKit.Hid ((∀ x ∈ h0.nodes, x.A = none → x.cap = 0) ∧ (h0.RA = none → h0.rc = 0) ∧ (h0.NA = none → h0.nc = 0)) := Lib.hid ⟨fun x hx => (FR.out.kids x hx).2, FR.out.rn, FR.out.nn⟩
  rw [← ed, ← ew2]
  have HD : RowKit.Hid (w.heap.size + 2 ≤ d) := Lib.hid (by rw [ed, ← HZ.out]; exact B1'.out.size)
  clear q0 q1 ew2 ed FR GC K1 K2
  obtain ⟨m, em⟩ : ∃ m, m = h0.nodes.length := ⟨_, rfl⟩
  have hm : m ≤ 140737488351232 := by rw [em, TW.out.len]; exact hl
  have EM := Lib.hid em
  have q1 : w2.cell? ⟨d, 1, none⟩ = some (.slice h0.NA m h0.nc) := by rw [em]; exact F0.out.b3.cell 1
  clear em
  go_wp2_with fail
  clear q1
  go_loopw [14] (fun i wr => ∃ k : Nat, k ≤ m ∧ i = .int .i64 k ∧ RsSt w t mb d h0 k wr) (fun i _ => m - (intOf i).toNat)
  case atStart => exact ⟨0, by omega, by go_num, F0.out⟩
  case round =>
    obtain ⟨k, hk, rfl, hR⟩ := hrel
    by_cases hlt : k < m
    · have hlt2 : (k : Int) < m := by omega
      have hkl : k < h0.nodes.length := by have := EM.out; omega
      have HR := Lib.hid hR
      have C := Lib.hid (NC.out k (by have := EM.out; have := TW.out.len; omega) wr hR.low)
      have q0 := hR.b1.cell 0; have q1 := hR.b1.cell 1; have q2 := hR.b1.cell 2; have q3 := hR.b1.cell 3; have q4 := hR.b1.cell 4; have q5 := hR.b1.cell 5
      simp only [List.getElem?_toArray, List.getElem?_cons_zero, List.getElem?_cons_succ] at q0 q1 q2 q3 q4 q5
      have IC : RowKit.Hid (isCall (h0.nodes.getD k Nd.zero) = isCall (t.g.nodes.getD k Nd.zero)) := Lib.hid (by
        obtain ⟨A, c, e⟩ := TW.out.node k (by have := TW.out.len; omega)
        rw [e]; rfl)
      clear hR
      by_cases hq : ((whom t k).isSome && isCall (t.g.nodes.getD k Nd.zero)) = true
      · obtain ⟨r, hw⟩ : ∃ r, whom t k = some r := Option.isSome_iff_exists.1 (by simp only [Bool.and_eq_true] at hq; exact hq.1)
        have PU := Lib.hid (fun W (hW : RsSt w t mb d h0 k W) => hW.put hkl hw (by rw [IC.out]; simp only [Bool.and_eq_true] at hq; exact hq.2))
        rw [hq, hw] at C
        clear hq
        go_upto_region 7 with (go_at_call 123; (with_reducible refine C.out.mono ?_); rintro e w3 ⟨rfl, hb3⟩; have R3 := Lib.hid (HR.out.below hb3); clear hb3)
        obtain ⟨g', eN, ⟨v0, c6, _⟩, f6, hR6⟩ := PU.out _ R3.out
        have R6 := Lib.hid hR6
        have q1' : w3.cell? ⟨d, 1, none⟩ = some (.slice (some ⟨g', 0, none⟩) m h0.nc) := by have := R3.out.b3.cell 1; rw [eN, ← EM.out] at this; exact this
        clear eN hR6 q0 q1 q2 q3 q4 q5
        go_wp2_with fail
        go_roundw
        case rel => exact ⟨k + 1, by omega, by go_num, R6.out⟩
        case measure => simp [intOf]; omega
      · have hq2 : ((whom t k).isSome && isCall (t.g.nodes.getD k Nd.zero)) = false := by simpa using hq
        have KE : RowKit.Hid (rs t k (h0.nodes.getD k Nd.zero) = h0.nodes.getD k Nd.zero) := Lib.hid (by unfold rs; rw [IC.out, hq2]; rfl)
        rw [hq2] at C
        clear hq hq2
        go_wp2_with (go_at_call 123; (with_reducible refine C.out.mono ?_); rintro e w3 ⟨rfl, hb3⟩; have R3 := Lib.hid (HR.out.below hb3); clear hb3)
        go_roundw
        case rel => exact ⟨k + 1, by omega, by go_num, R3.out.keep hkl KE.out⟩
        case measure => simp [intOf]; omega
    · obtain rfl : k = m := by omega
      have HR := Lib.hid hR
      have hneg : ¬ (k : Int) < k := by omega
      have q0 := hR.b3.cell 0
      have q1 := hR.b3.cell 1
      have z0 := hR.b2.cell 0
      have z1 := hR.b2.cell 1
      have g0 := hR.b2.frozen 0
      have g1 := hR.b2.frozen 1
      simp only [List.getElem?_toArray, List.getElem?_cons_zero, List.getElem?_cons_succ] at q0 q1 z0 z1
      clear hR
      go_wp2_with fail
      generalize hW5 : (World.setCell _ _ _ : World) = W5
      obtain ⟨q, hq, hkp⟩ := gr_set HR.out.b2 HR.out.low (by omega) (.slice h0.RA h0.rules.length h0.rc) (.slice h0.NA h0.nodes.length h0.nc) W5 hW5.symm
      have ok : ∀ {e size n : Nat} {v : Value} {xs : List Value}, wr.ownsRow (w.heap.size + 2) e size v n xs → W5.ownsRow w.heap.size e size v n xs := fun ho => own_lower (own_grd ho (by omega) hkp) (by omega)
      have hlen : (resL t h0.nodes).length = h0.nodes.length := part_len _ _ _
      refine ⟨rfl, _, results_cell_row rfl _ _ (w.heap.size + 1) 25 _ (0, 0) _ rfl q Tryz.underlying25 rfl (by kernel_rfl), ⟨⟨h0.RA, h0.rc, h0.rules, h0.NA, h0.nc, resL t h0.nodes⟩, ?_, ?_, ?_⟩, hq⟩
      · simp only [Gr.val, hlen]
      · refine ⟨TW.out.rules, by show (resL t h0.nodes).length = (resL t t.g.nodes).length; rw [hlen, TW.out.len]; exact (part_len _ _ _).symm, fun j hj => ?_⟩
        have hj2 : j < t.g.nodes.length := by have : (resL t t.g.nodes).length = _ := part_len _ _ _; have h2 : j < (resL t t.g.nodes).length := hj; omega
        have hj3 : j < h0.nodes.length := by rw [TW.out.len]; exact hj2
        obtain ⟨A, c, e⟩ := TW.out.node j hj2
        refine ⟨A, c, ?_⟩
        show (resL t h0.nodes).getD j Nd.zero = ((resL t t.g.nodes).getD j Nd.zero).at_ A c
        rw [resL, resL, part_at t _ _ hj3, part_at t _ _ hj2, if_pos hj3, if_pos hj2, e, rs_at]
      · have hn := HR.out.nodes
        rw [EM.out] at hn
        refine ⟨ok HR.out.rules, by show W5.ownsRow w.heap.size 48 9 (.slice h0.NA (resL t h0.nodes).length h0.nc) (resL t h0.nodes).length (ncells (resL t h0.nodes)); rw [hlen]; exact ok hn, fun x hx => ?_, FN.out.2.1, FN.out.2.2⟩
        obtain ⟨y, hy, e1, e2, e3, _⟩ := part_mem hx
        rw [e1, e2, e3]
        exact ⟨ok (HR.out.kids y hy), FN.out.1 y hy⟩
end Go.Proofs.YtfghfnpiaccfaaaGreatDoor.J
namespace Go.Proofs.YtfghfnpiaccfaaaGreatDoor.J
open Go Go.RowKit
abbrev zg : Value := .agg #[.slice none 0 0, .slice none 0 0]
/-- What resolving tells. -/
def ResPost (t : Tre) (w : World) (e : Ending) (w' : World) : Prop :=
  Below w.heap.size w w' ∧ ((wholeB t = false ∧ e = .returned (.tuple #[zg, dgv 4 0])) ∨
    (wholeB t = true ∧ ∃ i, twiceAt t.g.rules = some i ∧ e = .returned (.tuple #[zg, dgv 8 (t.rp.getD i 0)])) ∨
    (wholeB t = true ∧ twiceAt t.g.rules = none ∧ ∃ n, lostAt t.g t.nm = some n ∧ e = .returned (.tuple #[zg, dgv 5 (t.np.getD n 0)])) ∨
    (wholeB t = true ∧ twiceAt t.g.rules = none ∧ lostAt t.g t.nm = none ∧ ∃ h, e = .returned (.tuple #[Gr.val h, dgv 0 0]) ∧ GTwin (resG t) h ∧ Fresh w' w.heap.size h))
theorem two_set {w W : World} {b : Nat} {T U : TypeId} {a0 a1 c0 c1 : Value} (h : Blk W b #[a0, a1] T) (k : Blk W (b + 1) #[c0, c1] U) (hw : Below w.heap.size w W) (hb : w.heap.size ≤ b) (x0 x1 y0 y1 : Value) (W' : World)
    (e : W' = (((W.setCell ⟨b, 0, none⟩ x0).setCell ⟨b, 1, none⟩ x1).setCell ⟨b + 1, 0, none⟩ y0).setCell ⟨b + 1, 1, none⟩ y1 ∨ W' = (((W.setCell ⟨b + 1, 0, none⟩ y0).setCell ⟨b + 1, 1, none⟩ y1).setCell ⟨b, 0, none⟩ x0).setCell ⟨b, 1, none⟩ x1) :
    Blk W' b #[x0, x1] T ∧ Blk W' (b + 1) #[y0, y1] U ∧ Below w.heap.size w W' ∧ ∀ j, j ≠ b → j ≠ b + 1 → W'.heap[j]? = W.heap[j]? := by
  rcases e with e | e
  · obtain ⟨p1, p2, p3⟩ := gr_set h hw hb x0 x1 _ rfl
    have k2 : Blk ((W.setCell ⟨b, 0, none⟩ x0).setCell ⟨b, 1, none⟩ x1) (b + 1) #[c0, c1] U := (p3 (b + 1) (by omega)).trans k
    obtain ⟨q1, q2, q3⟩ := gr_set k2 p2 (by omega) y0 y1 W' e
    exact ⟨(q3 b (by omega)).trans p1, q1, q2, fun j h1 h2 => (q3 j h2).trans (p3 j h1)⟩
  · obtain ⟨p1, p2, p3⟩ := gr_set k hw (by omega) y0 y1 _ rfl
    have k2 : Blk ((W.setCell ⟨b + 1, 0, none⟩ y0).setCell ⟨b + 1, 1, none⟩ y1) b #[a0, a1] T := (p3 b (by omega)).trans h
    obtain ⟨q1, q2, q3⟩ := gr_set k2 p2 hb x0 x1 W' e
    exact ⟨q1, (q3 (b + 1) (by omega)).trans p1, q2, fun j h1 h2 => (q3 j h1).trans (p3 j h2)⟩
theorem fresh_kept {w w' : World} {B : Nat} {h : Gr} (f : Fresh w B h) (hk : ∀ k, B ≤ k → w'.heap[k]? = w.heap[k]?) : Fresh w' B h :=
  ⟨own_kept f.rules (fun k e => hk k (f.rules.lt k e).1), own_kept f.nodes (fun k e => hk k (f.nodes.lt k e).1), fun x hx => ⟨own_kept (f.kids x hx).1 (fun k e => hk k ((f.kids x hx).1.lt k e).1), (f.kids x hx).2⟩, f.rn, f.nn⟩
theorem fresh_lower {w : World} {B B' : Nat} {h : Gr} (f : Fresh w B h) (hb : B' ≤ B) : Fresh w B' h :=
  ⟨own_lower f.rules hb, own_lower f.nodes hb, fun x hx => ⟨own_lower (f.kids x hx).1 hb, (f.kids x hx).2⟩, f.rn, f.nn⟩
theorem naming_no {t : Tre} {w : World} (hw : wholeB t = false) (h : Calls Tryz.prog 66 #[t.val] w (NamPost t w)) : Calls Tryz.prog 66 #[.agg #[.slice t.g.RA t.g.rules.length t.g.rc, .slice t.g.NA t.g.nodes.length t.g.nc, .slice t.PA t.rp.length t.pc, .slice t.QA t.np.length t.qc, .slice t.MA t.nm.length t.mc]] w fun e w' => e = .returned (.tuple #[.agg #[.slice none 0 0, .slice none 0 0, .slice none 0 0, .slice none 0 0, .slice none 0 0, .map none], .bool false]) ∧ Below w.heap.size w w' :=
  h.mono fun e w' ⟨hb, h⟩ => by
    rcases h with ⟨h1, _⟩ | ⟨_, h2⟩
    · rw [hw] at h1; cases h1
    · exact ⟨h2, hb⟩
theorem naming_yes {t : Tre} {w : World} (hw : wholeB t = true) (h : Calls Tryz.prog 66 #[t.val] w (NamPost t w)) : Calls Tryz.prog 66 #[.agg #[.slice t.g.RA t.g.rules.length t.g.rc, .slice t.g.NA t.g.nodes.length t.g.nc, .slice t.PA t.rp.length t.pc, .slice t.QA t.np.length t.qc, .slice t.MA t.nm.length t.mc]] w fun e w' => (∃ mb, e = .returned (.tuple #[.agg #[.slice t.g.RA t.g.rules.length t.g.rc, .slice t.g.NA t.g.nodes.length t.g.nc, .slice t.PA t.rp.length t.pc, .slice t.QA t.np.length t.qc, .slice t.MA t.nm.length t.mc, .map (some mb)], .bool true]) ∧ FMap w' mb t.g.rules) ∧ Below w.heap.size w w' :=
  h.mono fun e w' ⟨hb, h⟩ => by
    rcases h with ⟨_, mb, h1, h2⟩ | ⟨h1, _⟩
    · exact ⟨⟨mb, h1, h2⟩, hb⟩
    · rw [hw] at h1; cases h1
set_option maxRecDepth 100000 in
set_option maxHeartbeats 4000000 in
theorem resolve_any (t : Tre) (w : World) (h : Tre.At w t) (hns : ∀ s ∈ t.nm, s.size ≤ 9223372036854775807) (hnl : t.nm.length ≤ 140737488351232) (hs : Small t.g) :
    Calls Tryz.prog 25 #[t.val] w (ResPost t w) := by
  obtain ⟨W3, eW3⟩ : ∃ u, u = ((w.alloc (.cells (treC t) 36)).alloc (.cells #[.slice none 0 0, .slice none 0 0] 25)).alloc (.cells #[.int .i64 0, .int .i64 0] 38) := ⟨_, rfl⟩
  have hb3 : Below w.heap.size w W3 := by rw [eW3]; exact (B2 _ _ _).alloc (by simp; omega) _
  have k1 : Blk W3 w.heap.size (treC t) 36 := by rw [eW3]; exact ((Blk.new w _ _).alloc _).alloc _
  have k2 : Blk W3 (w.heap.size + 1) #[.slice none 0 0, .slice none 0 0] 25 := by
    rw [eW3]; have := (Blk.new (w.alloc (.cells (treC t) 36)) #[.slice none 0 0, .slice none 0 0] 25).alloc (.cells #[.int .i64 0, .int .i64 0] 38); rw [World.size_alloc] at this; exact this
  have k3 : Blk W3 (w.heap.size + 1 + 1) #[.int .i64 0, .int .i64 0] 38 := by
    rw [eW3]; have := (Blk.new ((w.alloc (.cells (treC t) 36)).alloc (.cells #[.slice none 0 0, .slice none 0 0] 25)) #[.int .i64 0, .int .i64 0] 38); rw [World.size_alloc, World.size_alloc] at this; exact this
  have K1 := Lib.hid k1
  have K2 := Lib.hid k2
  have K3 := Lib.hid k3
  have HB3 := Lib.hid hb3
  have NO := Lib.hid (namingOf_any t W3 (h.g.rules.below hb3) h.g.rl h.g.names)
  have NAM := Lib.hid (fun W mb (b : Below w.heap.size w W) (hm : FMap W mb t.g.rules) => (⟨h.below b, hm, hns, hnl⟩ : NamAt W t mb))
  have HS := Lib.hid hs
  have HZ : RowKit.Hid (W3.heap.size = w.heap.size + 3) := Lib.hid (by rw [eW3]; simp)
  have done : ∀ (W : World) (tmps cs ds : Array Value), Blk W (w.heap.size + 1) cs 25 → Blk W (w.heap.size + 1 + 1) ds 38 → cs.size = 2 → ds.size = 2 → tmps.getD 2 undef = .pointer (some ⟨w.heap.size + 1, 0, none⟩) → tmps.getD 3 undef = .pointer (some ⟨w.heap.size + 1 + 1, 0, none⟩) → (results Tryz.f25 tmps).run Tryz.prog W = .ok (.tuple #[.agg cs, .agg ds]) W := fun W tmps cs ds h1 h2 s1 s2 e1 e2 =>
    results_cell2 rfl _ _ (w.heap.size + 1) 25 cs _ (w.heap.size + 1 + 1) 38 ds _ e1 e2 h1 h2 Tryz.underlying25 Tryz.underlying38 rfl rfl (by rw [s1]; kernel_rfl) (by rw [s2]; kernel_rfl)
  have DN := Lib.hid done
  have RP := Lib.hid h.rp
  have NP := Lib.hid h.np
  have hgl := h.g.nl
  have hrl := h.g.rl
  clear h hns hnl hs k1 k2 k3 hb3 done
  show Calls Tryz.prog 25 #[.agg #[.slice t.g.RA t.g.rules.length t.g.rc, .slice t.g.NA t.g.nodes.length t.g.nc, .slice t.PA t.rp.length t.pc, .slice t.QA t.np.length t.qc, .slice t.MA t.nm.length t.mc]] w _
  go_enter Tryz.func25, Tryz.ntmps25
  go_upto_region 1 with fail
  rw [← eW3]
  clear eW3
  have q0 := K1.out.cell 0; have q1 := K1.out.cell 1; have q2 := K1.out.cell 2; have q3 := K1.out.cell 3; have q4 := K1.out.cell 4
  simp only [List.getElem?_toArray, List.getElem?_cons_zero, List.getElem?_cons_succ] at q0 q1 q2 q3 q4
  cases hb : wholeB t with
  | false =>
    have HF := Lib.hid hb
    clear hb
    have N2 := Lib.hid (naming_no HF.out NO.out)
    clear NO
    go_upto_region 3 with (go_at_call 66; (with_reducible refine N2.out.mono ?_); rintro e w1 ⟨rfl, hb1⟩; have B1' := Lib.hid hb1; clear hb1)
    obtain ⟨w2, ew2⟩ : ∃ u, u = w1.alloc (.cells #[.slice none 0 0, .slice none 0 0, .slice none 0 0, .slice none 0 0, .slice none 0 0, .map none] 114) := ⟨_, rfl⟩
    rw [← ew2]
    have hb2 : Below W3.heap.size W3 w2 := by rw [ew2]; exact B1'.out.trans ((B1 w1 _).mono B1'.out.size)
    have K2' := Lib.hid (K2.out.below' hb2)
    have K3' := Lib.hid (K3.out.below' hb2)
    have HB := Lib.hid (HB3.out.trans (hb2.mono HB3.out.size))
    have z0 := K2'.out.cell 0; have z1 := K2'.out.cell 1; have g0 := K2'.out.frozen 0; have g1 := K2'.out.frozen 1
    have y0 := K3'.out.cell 0; have y1 := K3'.out.cell 1; have f0 := K3'.out.frozen 0; have f1 := K3'.out.frozen 1
    simp only [List.getElem?_toArray, List.getElem?_cons_zero, List.getElem?_cons_succ] at z0 z1 y0 y1
    clear hb2 ew2 q0 q1 q2 q3 q4
    go_wp2_with fail
    generalize hW5 : (World.setCell _ _ _ : World) = W5
    obtain ⟨p1, p2, p3, _⟩ := two_set K2'.out K3'.out HB.out (by omega) (.slice none 0 0) (.slice none 0 0) (.int .i64 4) (.int .i64 0) W5 (.inl hW5.symm)
    exact ⟨rfl, _, DN.out _ _ _ _ p1 p2 rfl rfl rfl rfl, p3, .inl ⟨HF.out, rfl⟩⟩
  | true =>
    have HT := Lib.hid hb
    have hwh : t.rp.length = t.g.rules.length ∧ t.np.length = t.g.nodes.length ∧ t.nm.length = t.g.nodes.length := by simpa [wholeB] using hb
    have HW := Lib.hid hwh
    clear hb hwh
    have N2 := Lib.hid (naming_yes HT.out NO.out)
    clear NO
    go_upto_region 4 with (go_at_call 66; (with_reducible refine N2.out.mono ?_); rintro e w1 ⟨⟨mb, rfl, hfm⟩, hb1⟩; have B1' := Lib.hid hb1; have FM1 := Lib.hid hfm; clear hb1 hfm)
    obtain ⟨p4, ep4⟩ : ∃ u, u = w1.heap.size := ⟨_, rfl⟩
    obtain ⟨w2, ew2⟩ : ∃ u, u = w1.alloc (.cells #[.slice t.g.RA t.g.rules.length t.g.rc, .slice t.g.NA t.g.nodes.length t.g.nc, .slice t.PA t.rp.length t.pc, .slice t.QA t.np.length t.qc, .slice t.MA t.nm.length t.mc, .map (some mb)] 114) := ⟨_, rfl⟩
    rw [← ep4, ← ew2]
    have hb2 : Below W3.heap.size W3 w2 := by rw [ew2]; exact B1'.out.trans ((B1 w1 _).mono B1'.out.size)
    have K1' := Lib.hid (K1.out.below' hb2)
    have K2' := Lib.hid (K2.out.below' hb2)
    have K3' := Lib.hid (K3.out.below' hb2)
    have K4' : RowKit.Hid (Blk w2 p4 #[.slice t.g.RA t.g.rules.length t.g.rc, .slice t.g.NA t.g.nodes.length t.g.nc, .slice t.PA t.rp.length t.pc, .slice t.QA t.np.length t.qc, .slice t.MA t.nm.length t.mc, .map (some mb)] 114) := Lib.hid (by rw [ew2, ep4]; exact Blk.new _ _ _)
    have HB := Lib.hid (HB3.out.trans (hb2.mono HB3.out.size))
    have FM2 := Lib.hid (FM1.out.below (show Below w1.heap.size w1 w2 by rw [ew2]; exact B1 _ _))
    clear hb2 ew2 ep4 q0 q1 q2 q3 q4 FM1 K1 K2 K3 N2
    have FT := Lib.hid (firstTwice_any t mb w2 (NAM.out w2 mb HB.out FM2.out) HT.out)
    have q0 := K4'.out.cell 0; have q1 := K4'.out.cell 1; have q2 := K4'.out.cell 2; have q3 := K4'.out.cell 3; have q4 := K4'.out.cell 4; have q5 := K4'.out.cell 5
    simp only [List.getElem?_toArray, List.getElem?_cons_zero, List.getElem?_cons_succ] at q0 q1 q2 q3 q4 q5
    cases htw : twiceAt t.g.rules with
    | some i =>
      rw [htw] at FT
      have HTW := Lib.hid htw
      have hil : i < t.rp.length := by
        have := (firstOf_some.1 htw).1; have := HW.out.1; omega
      obtain ⟨rb, ro, eP, hrb, hc⟩ := RP.out (by rw [ints_length]; omega)
      have hci := (hc i (by rw [ints_length]; exact hil)).trans (ints_at hil)
      have HCI := Lib.hid (And.intro hrb hci)
      have EP := Lib.hid eP
      clear htw hrb hci hc eP
      go_upto_region 6 with (go_at_call 67; (with_reducible refine FT.out.mono ?_); rintro e w3 ⟨rfl, hb3⟩; have B3' := Lib.hid hb3; clear hb3)
      have K2'' := Lib.hid (K2'.out.below' B3'.out)
      have K3'' := Lib.hid (K3'.out.below' B3'.out)
      have HB'' := Lib.hid (HB.out.trans (B3'.out.mono HB.out.size))
      have z0 := K2''.out.cell 0; have z1 := K2''.out.cell 1; have g0 := K2''.out.frozen 0; have g1 := K2''.out.frozen 1
      have y0 := K3''.out.cell 0; have y1 := K3''.out.cell 1; have f0 := K3''.out.frozen 0; have f1 := K3''.out.frozen 1
      have a1 : w3.cell? ⟨w.heap.size, 2, none⟩ = some (.slice (some ⟨rb, ro, none⟩) t.rp.length t.pc) := by rw [← EP.out]; exact (K1'.out.below' B3'.out).cell 2
      have a2 : w3.cell? ⟨rb, ro + i, none⟩ = some (.int .i64 (t.rp.getD i 0)) := (HB''.out.cell (p := ⟨rb, ro + i, none⟩) HCI.out.1).trans HCI.out.2
      simp only [List.getElem?_toArray, List.getElem?_cons_zero, List.getElem?_cons_succ] at z0 z1 y0 y1
      obtain ⟨pl, epl⟩ : ∃ pl, pl = t.rp.getD i 0 := ⟨_, rfl⟩
      rw [← epl] at a2
      obtain ⟨m, em⟩ : ∃ m, m = t.rp.length := ⟨_, rfl⟩
      rw [← em] at a1 hil
      have hil2 : (i : Int) < m := by omega
      have hm3 : m ≤ 140737488351232 := by rw [em, HW.out.1]; exact hrl
      have EPL := Lib.hid epl
      have hk := (gr_set K2''.out HB''.out (by omega) (.slice none 0 0) (.slice none 0 0) _ rfl).2.2
      have hj := fun v0 v1 => (gr_set (x0 := v0) (x1 := v1) K3''.out HB''.out (by omega) _ rfl).2.2
      have a1' := (World.cell?_of_block (a := ⟨w.heap.size, 2, none⟩) (hk w.heap.size (by omega))).trans a1
      have a2' := (World.cell?_of_block (a := ⟨rb, ro + i, none⟩) (hk rb (by have := HCI.out.1; omega))).trans a2
      have y0' := (World.cell?_of_block (a := ⟨w.heap.size + 1 + 1, 0, none⟩) (hk (w.heap.size + 1 + 1) (by omega))).trans y0
      have y1' := (World.cell?_of_block (a := ⟨w.heap.size + 1 + 1, 1, none⟩) (hk (w.heap.size + 1 + 1) (by omega))).trans y1
      have f0' := Blk.frozen (show Blk _ _ _ _ from (hk (w.heap.size + 1 + 1) (by omega)).trans K3''.out) 0
      have f1' := Blk.frozen (show Blk _ _ _ _ from (hk (w.heap.size + 1 + 1) (by omega)).trans K3''.out) 1
      have z0' := fun v0 v1 => (World.cell?_of_block (a := ⟨w.heap.size + 1, 0, none⟩) (hj v0 v1 (w.heap.size + 1) (by omega))).trans z0
      have z1' := fun v0 v1 => (World.cell?_of_block (a := ⟨w.heap.size + 1, 1, none⟩) (hj v0 v1 (w.heap.size + 1) (by omega))).trans z1
      have g0' := fun v0 v1 => Blk.frozen (show Blk _ _ _ _ from (hj v0 v1 (w.heap.size + 1) (by omega)).trans K2''.out) 0
      have g1' := fun v0 v1 => Blk.frozen (show Blk _ _ _ _ from (hj v0 v1 (w.heap.size + 1) (by omega)).trans K2''.out) 1
      clear q0 q1 q2 q3 q4 q5 epl em hk hj
      go_region_with (fail)
      all_goals
        go_wp2_with fail
        generalize hW5 : (World.setCell _ _ _ : World) = W5
        obtain ⟨p1, p2, p3, _⟩ := two_set K2''.out K3''.out HB''.out (by omega) (.slice none 0 0) (.slice none 0 0) (.int .i64 8) (.int .i64 pl) W5 (by first | exact .inl hW5.symm | exact .inr hW5.symm)
        exact ⟨rfl, _, DN.out _ _ _ _ (by exact p1) (by exact p2) rfl rfl rfl rfl, by first | exact p3 | exact bdrew1 p3 | exact bdrew1 (bdrew1 p3) | exact bdrewN p3, .inr (.inl ⟨HT.out, i, HTW.out, by rw [← EPL.out]⟩)⟩
    | none =>
      rw [htw] at FT
      have HTW := Lib.hid htw
      clear htw
      go_upto_region 7 with (go_at_call 67; (with_reducible refine FT.out.mono ?_); rintro e wt ⟨rfl, hbt⟩; have BT' := Lib.hid hbt; clear hbt)
      have K1 := Lib.hid (K1'.out.below' BT'.out)
      have K2 := Lib.hid (K2'.out.below' BT'.out)
      have K3 := Lib.hid (K3'.out.below' BT'.out)
      have K4 := Lib.hid (K4'.out.below' BT'.out)
      have HBT := Lib.hid (HB.out.trans (BT'.out.mono HB.out.size))
      have FMT := Lib.hid (FM2.out.below BT'.out)
      clear K1' K2' K3' K4' HB FM2 q0 q1 q2 q3 q4 q5
      have K1' := K1
      have K2' := K2
      have K3' := K3
      have K4' := K4
      have HB := HBT
      have FL := Lib.hid (firstLost_any t mb wt (NAM.out wt mb HBT.out FMT.out) HT.out)
      have q0 := K4.out.cell 0; have q1 := K4.out.cell 1; have q2 := K4.out.cell 2; have q3 := K4.out.cell 3; have q4 := K4.out.cell 4; have q5 := K4.out.cell 5
      simp only [List.getElem?_toArray, List.getElem?_cons_zero, List.getElem?_cons_succ] at q0 q1 q2 q3 q4 q5
      cases hlo : lostAt t.g t.nm with
      | some i =>
        rw [hlo] at FL
        have HLO := Lib.hid hlo
        have hil : i < t.np.length := by
          have := (firstOf_some.1 hlo).1; have := HW.out.2.1; omega
        obtain ⟨rb, ro, eP, hrb, hc⟩ := NP.out (by rw [ints_length]; omega)
        have hci := (hc i (by rw [ints_length]; exact hil)).trans (ints_at hil)
        have HCI := Lib.hid (And.intro hrb hci)
        have EP := Lib.hid eP
        clear hlo hrb hci hc eP
        go_upto_region 9 with (go_at_call 68; (with_reducible refine FL.out.mono ?_); rintro e w3 ⟨rfl, hb3⟩; have B3' := Lib.hid hb3; clear hb3)
        have K2'' := Lib.hid (K2'.out.below' B3'.out)
        have K3'' := Lib.hid (K3'.out.below' B3'.out)
        have HB'' := Lib.hid (HB.out.trans (B3'.out.mono HB.out.size))
        have z0 := K2''.out.cell 0; have z1 := K2''.out.cell 1; have g0 := K2''.out.frozen 0; have g1 := K2''.out.frozen 1
        have y0 := K3''.out.cell 0; have y1 := K3''.out.cell 1; have f0 := K3''.out.frozen 0; have f1 := K3''.out.frozen 1
        have a1 : w3.cell? ⟨w.heap.size, 3, none⟩ = some (.slice (some ⟨rb, ro, none⟩) t.np.length t.qc) := by rw [← EP.out]; exact (K1'.out.below' B3'.out).cell 3
        have a2 : w3.cell? ⟨rb, ro + i, none⟩ = some (.int .i64 (t.np.getD i 0)) := (HB''.out.cell (p := ⟨rb, ro + i, none⟩) HCI.out.1).trans HCI.out.2
        simp only [List.getElem?_toArray, List.getElem?_cons_zero, List.getElem?_cons_succ] at z0 z1 y0 y1
        obtain ⟨pl, epl⟩ : ∃ pl, pl = t.np.getD i 0 := ⟨_, rfl⟩
        rw [← epl] at a2
        obtain ⟨m, em⟩ : ∃ m, m = t.np.length := ⟨_, rfl⟩
        rw [← em] at a1 hil
        have hil2 : (i : Int) < m := by omega
        have hm3 : m ≤ 140737488351232 := by rw [em, HW.out.2.1]; exact hgl
        have EPL := Lib.hid epl
        have hk := (gr_set K2''.out HB''.out (by omega) (.slice none 0 0) (.slice none 0 0) _ rfl).2.2
        have hj := fun v0 v1 => (gr_set (x0 := v0) (x1 := v1) K3''.out HB''.out (by omega) _ rfl).2.2
        have a1' := (World.cell?_of_block (a := ⟨w.heap.size, 3, none⟩) (hk w.heap.size (by omega))).trans a1
        have a2' := (World.cell?_of_block (a := ⟨rb, ro + i, none⟩) (hk rb (by have := HCI.out.1; omega))).trans a2
        have y0' := (World.cell?_of_block (a := ⟨w.heap.size + 1 + 1, 0, none⟩) (hk (w.heap.size + 1 + 1) (by omega))).trans y0
        have y1' := (World.cell?_of_block (a := ⟨w.heap.size + 1 + 1, 1, none⟩) (hk (w.heap.size + 1 + 1) (by omega))).trans y1
        have f0' := Blk.frozen (show Blk _ _ _ _ from (hk (w.heap.size + 1 + 1) (by omega)).trans K3''.out) 0
        have f1' := Blk.frozen (show Blk _ _ _ _ from (hk (w.heap.size + 1 + 1) (by omega)).trans K3''.out) 1
        have z0' := fun v0 v1 => (World.cell?_of_block (a := ⟨w.heap.size + 1, 0, none⟩) (hj v0 v1 (w.heap.size + 1) (by omega))).trans z0
        have z1' := fun v0 v1 => (World.cell?_of_block (a := ⟨w.heap.size + 1, 1, none⟩) (hj v0 v1 (w.heap.size + 1) (by omega))).trans z1
        have g0' := fun v0 v1 => Blk.frozen (show Blk _ _ _ _ from (hj v0 v1 (w.heap.size + 1) (by omega)).trans K2''.out) 0
        have g1' := fun v0 v1 => Blk.frozen (show Blk _ _ _ _ from (hj v0 v1 (w.heap.size + 1) (by omega)).trans K2''.out) 1
        clear q0 q1 q2 q3 q4 q5 epl em hk hj
        go_region_with (fail)
        all_goals
          go_wp2_with fail
          generalize hW5 : (World.setCell _ _ _ : World) = W5
          obtain ⟨p1, p2, p3, _⟩ := two_set K2''.out K3''.out HB''.out (by omega) (.slice none 0 0) (.slice none 0 0) (.int .i64 5) (.int .i64 pl) W5 (by first | exact .inl hW5.symm | exact .inr hW5.symm)
          exact ⟨rfl, _, DN.out _ _ _ _ (by exact p1) (by exact p2) rfl rfl rfl rfl, by first | exact p3 | exact bdrew1 p3 | exact bdrew1 (bdrew1 p3) | exact bdrewN p3, .inr (.inr (.inl ⟨HT.out, HTW.out, i, HLO.out, by rw [← EPL.out]⟩))⟩
      | none =>
        rw [hlo] at FL
        have HLO := Lib.hid hlo
        clear hlo
        have RS := Lib.hid (fun W (b : Below wt.heap.size wt W) => resolved_any t mb W ((NAM.out wt mb HBT.out FMT.out).below b) HS.out HW.out.2.2)
        go_upto_region 10 with (go_at_call 68; (with_reducible refine FL.out.mono ?_); rintro e w3 ⟨rfl, hb3⟩; have B3' := Lib.hid hb3; clear hb3)
        have K4'' := Lib.hid (K4.out.below' B3'.out)
        have RS3 := Lib.hid (show Calls Tryz.prog 69 #[.agg #[.slice t.g.RA t.g.rules.length t.g.rc, .slice t.g.NA t.g.nodes.length t.g.nc, .slice t.PA t.rp.length t.pc, .slice t.QA t.np.length t.qc, .slice t.MA t.nm.length t.mc, .map (some mb)]] w3 (fun e w' => (∃ h, e = .returned (Gr.val h) ∧ GTwin (resG t) h ∧ Fresh w' w3.heap.size h) ∧ Below w3.heap.size w3 w') from RS.out w3 B3'.out)
        clear q0 q1 q2 q3 q4 q5
        have q0 := K4''.out.cell 0; have q1 := K4''.out.cell 1; have q2 := K4''.out.cell 2; have q3 := K4''.out.cell 3; have q4 := K4''.out.cell 4; have q5 := K4''.out.cell 5
        simp only [List.getElem?_toArray, List.getElem?_cons_zero, List.getElem?_cons_succ] at q0 q1 q2 q3 q4 q5
        have HZW : RowKit.Hid (w.heap.size + 3 ≤ w3.heap.size) := Lib.hid (by have h1 := K3.out.lt; have := B3'.out.size; omega)
        go_wp2_with (go_at_call 69; (with_reducible refine RS3.out.mono ?_); rintro e w4 ⟨⟨h, rfl, hT, hF⟩, hb4⟩; have TW := Lib.hid hT; have FR := Lib.hid hF; have B4' := Lib.hid hb4; have K2'' := Lib.hid (K2.out.below' (B3'.out.trans (hb4.mono B3'.out.size))); have K3'' := Lib.hid (K3.out.below' (B3'.out.trans (hb4.mono B3'.out.size))); have z0 := K2''.out.cell 0; have z1 := K2''.out.cell 1; have g0 := K2''.out.frozen 0; have g1 := K2''.out.frozen 1; have y0 := K3''.out.cell 0; have y1 := K3''.out.cell 1; have f0 := K3''.out.frozen 0; have f1 := K3''.out.frozen 1; simp only [List.getElem?_toArray, List.getElem?_cons_zero, List.getElem?_cons_succ] at z0 z1 y0 y1; clear hT hF hb4 q0 q1 q2 q3 q4 q5)
        generalize hW5 : (World.setCell _ _ _ : World) = W5
        have HB'' := HBT.out.trans ((B3'.out.trans (B4'.out.mono B3'.out.size)).mono HBT.out.size)
        obtain ⟨p1, p2, p3, p4⟩ := two_set K2''.out K3''.out HB'' (by omega) (.slice h.RA h.rules.length h.rc) (.slice h.NA h.nodes.length h.nc) (.int .i64 0) (.int .i64 0) W5 (by first | exact .inl hW5.symm | exact .inr hW5.symm)
        have hzw := HZW.out
        exact ⟨rfl, _, DN.out _ _ _ _ p1 p2 rfl rfl rfl rfl, p3, .inr (.inr (.inr ⟨HT.out, HTW.out, HLO.out, h, rfl, TW.out, fresh_lower (fresh_kept FR.out (fun k hk => p4 k (by omega) (by omega))) (by omega)⟩))⟩
end Go.Proofs.YtfghfnpiaccfaaaGreatDoor.J

/- What the law LeftClosed needs, plainly. -/
import Derived.Test.YtmfiedbnnonenaaL6
import Derived.Test.YtmfiedbnnonenaaP1
set_option linter.unusedSimpArgs false
set_option linter.unusedVariables false
namespace Go.Proofs.Ytmfiedbnnonenaa
open Go Go.RowKit Go.Maps
/-- Whether a rule goes to another one. -/
noncomputable def tB (g : Gr) (i q : Nat) : Bool := (srch g i).1.getD q false
theorem tB_iff {g : Gr} (hR : Right g) {i q : Nat} (hi : i < g.rules.length) : tB g i q = true ↔ To (lcal g) i q := by
  unfold tB
  rw [srch_yes hR hi]
  exact bfs_met (lcal32 hR) i q
theorem To.lt {g : Gr} {i q : Nat} (h : To (lcal g) i q) : q < g.rules.length := by
  obtain ⟨k, hk, _⟩ := h.last
  exact lcal_lt hk
theorem toOf_mem {g : Gr} (hR : Right g) {i q : Nat} (hi : i < g.rules.length) : q ∈ toOf g i ↔ tB g i q = true := by
  unfold toOf
  rw [rowOf_mem]
  refine ⟨fun h => h.2, fun h => ⟨?_, h⟩⟩
  have := ((tB_iff hR hi).1 h).lt
  have := hR.rules.2
  omega
theorem toOf_lt {g : Gr} (hR : Right g) {i q : Nat} (hi : i < g.rules.length) (h : q ∈ toOf g i) : q < g.rules.length := ((tB_iff hR hi).1 ((toOf_mem hR hi).1 h)).lt
theorem goesB_iff {g : Gr} (hR : Right g) {i : Nat} (hi : i < g.rules.length) : goesB g i = tB g i i := by
  have h32 := hR.rules.2
  unfold goesB tB
  cases h : (srch g i).1.getD i false with
  | true =>
    rw [way_yes (by omega) (by omega) (by rw [Int.toNat_natCast]; exact h)]
    simp [wayB]
  | false =>
    rw [way_no (fun hc => by have := hc.2.2; rw [Int.toNat_natCast, h] at this; cases this)]
    rfl
/-- Marks in memory: just those of which something holds. -/
def Mk (W : World) (mb m : Nat) (f : Nat → Bool) : Prop := ∃ ml : List Bool, Blk W mb (bls ml).toArray 4 ∧ ml.length = m ∧ ∀ q, q < m → ml.getD q false = f q
theorem Mk.below {W W' : World} {mb m : Nat} {f : Nat → Bool} (h : Mk W mb m f) (hb : Below W.heap.size W W') : Mk W' mb m f := by
  obtain ⟨ml, h1, h2⟩ := h
  exact ⟨ml, h1.below' hb, h2⟩
theorem Mk.congr {W : World} {mb m : Nat} {f f' : Nat → Bool} (h : Mk W mb m f) (hf : ∀ q, q < m → f q = f' q) : Mk W mb m f' := by
  obtain ⟨ml, h1, h2, h3⟩ := h
  exact ⟨ml, h1, h2, fun q hq => (h3 q hq).trans (hf q hq)⟩
theorem Mk.cell {W : World} {mb m : Nat} {f : Nat → Bool} (h : Mk W mb m f) {q : Nat} (hq : q < m) : W.cell? ⟨mb, q, none⟩ = some (.bool (f q)) := by
  obtain ⟨ml, h1, h2, h3⟩ := h
  rw [h1.cell, List.getElem?_toArray, bls_at (by rw [h2]; exact hq), h3 q hq]
theorem Mk.frozen {W : World} {mb m : Nat} {f : Nat → Bool} (h : Mk W mb m f) (q : Nat) : W.frozen? ⟨mb, q, none⟩ = false := by
  obtain ⟨ml, h1, h2, h3⟩ := h
  exact h1.frozen q
theorem Mk.blk {W : World} {mb m : Nat} {f : Nat → Bool} (h : Mk W mb m f) : ∃ vs, Blk W mb vs 4 := by
  obtain ⟨ml, h1, _⟩ := h
  exact ⟨_, h1⟩
theorem Mk.put {W : World} {mb m : Nat} {f : Nat → Bool} (h : Mk W mb m f) {k : Nat} (hk : k < m) (b : Bool) : Mk (W.setCell ⟨mb, k, none⟩ (.bool b)) mb m (fun q => if q = k then b else f q) := by
  obtain ⟨ml, h1, h2, h3⟩ := h
  refine ⟨ml.set k b, by have := h1.put (k := k) (.bool b); rw [bls_set] at this; exact this, by simpa using h2, fun q hq => ?_⟩
  simp only [List.getD, List.getElem?_set]
  by_cases e : k = q
  · subst e; simp [h2, hk]
  · rw [if_neg e, if_neg (fun h => e h.symm)]
    exact h3 q hq
theorem Mk.zero {W : World} {mb m : Nat} (h : Blk W mb (bls (List.replicate m false)).toArray 4) : Mk W mb m (fun _ => false) :=
  ⟨_, h, by simp, fun q hq => by simp [List.getD, hq]⟩
/-- The marks behind so many of those that are called. -/
noncomputable def inK (g : Gr) (L : List Nat) (k q : Nat) : Bool := (L.take k).any fun a => (q == a) || tB g a q
theorem inK_next {g : Gr} {L : List Nat} {k : Nat} (h : k < L.length) (q : Nat) : inK g L (k + 1) q = (inK g L k q || ((q == L.getD k 0) || tB g (L.getD k 0) q)) := by
  unfold inK
  rw [List.take_add_one, List.getElem?_eq_getElem h, Option.toList_some, List.any_append]
  simp [List.getD, List.getElem?_eq_getElem h]
theorem inK_all {g : Gr} (hR : Right g) {i q : Nat} (hi : i < g.rules.length) : inK g (lcal g i) (lcal g i).length q = tB g i q := by
  unfold inK
  rw [List.take_length, Bool.eq_iff_iff, List.any_eq_true, tB_iff hR hi, To.iff]
  constructor
  · rintro ⟨a, ha, h⟩
    rw [Bool.or_eq_true, beq_iff_eq] at h
    rcases h with rfl | h
    · exact .inl ha
    · exact .inr ⟨a, ha, (tB_iff hR (lcal_lt ha)).1 h⟩
  · rintro (h | ⟨k, hk, h⟩)
    · exact ⟨q, h, by simp⟩
    · exact ⟨k, hk, by rw [(tB_iff hR (lcal_lt hk)).2 h]; simp⟩
/-- Whether one goes back, so far. -/
noncomputable def backK (g : Gr) (i k : Nat) : Bool := (List.range k).any fun q => tB g i q && decide ((i : Int) ∈ nums (lcal g q)) && goesB g q
theorem backK_next (g : Gr) (i k : Nat) : backK g i (k + 1) = (backK g i k || (tB g i k && decide ((i : Int) ∈ nums (lcal g k)) && goesB g k)) := by
  unfold backK
  rw [List.range_succ, List.any_append]
  simp
theorem mem_nums {L : List Nat} {k : Nat} : (k : Int) ∈ nums L ↔ k ∈ L := by
  unfold nums
  rw [List.mem_map]
  constructor
  · rintro ⟨a, ha, h⟩
    have : a = k := by omega
    subst this; exact ha
  · intro h; exact ⟨k, h, rfl⟩
theorem backK_all {g : Gr} (hR : Right g) {i : Nat} (hi : i < g.rules.length) (h : tB g i i = true) : backK g i g.rules.length = true := by
  unfold backK
  rw [List.any_eq_true]
  have ht := (tB_iff hR hi).1 h
  obtain ⟨k, hk, h2⟩ := ht.last
  rcases h2 with rfl | h2
  · refine ⟨k, by simpa using hi, ?_⟩
    rw [h, goesB_iff hR hi, h, decide_eq_true (mem_nums.2 hk)]
    rfl
  · have hkl := h2.lt
    refine ⟨k, by simpa using hkl, ?_⟩
    rw [(tB_iff hR hi).2 h2, goesB_iff hR hkl, (tB_iff hR hkl).2 (To.head hk h2), decide_eq_true (mem_nums.2 hk)]
    rfl
end Go.Proofs.Ytmfiedbnnonenaa
namespace Go.Proofs.Ytmfiedbnnonenaa
open Go Go.RowKit Go.Maps Go.Shelf
/-- What the law stands on: the grammar, its graph. -/
structure LB (w W : World) (g : Gr) (gb : Nat) (vs : List Value) : Prop where
  ka : Blk W w.heap.size #[.slice g.RA g.rules.length g.rc, .slice g.NA g.nodes.length g.nc] 38
  gr : Gr.At W g
  rows : Rows2 w W gb vs (graphOf g)
theorem LB.below {w W W' : World} {g : Gr} {gb : Nat} {vs : List Value} (h : LB w W g gb vs) (hb : Below W.heap.size W W') : LB w W' g gb vs := ⟨h.ka.below' hb, h.gr.below hb, h.rows.below hb⟩
theorem LB.low {w W : World} {g : Gr} {gb : Nat} {vs : List Value} (h : LB w W g gb vs) : Below w.heap.size w W := h.rows.low
/-- A mark is set: all stands. -/
theorem LB.mark {w W : World} {g : Gr} {gb : Nat} {vs : List Value} (h : LB w W g gb vs) (hg : Gr.At w g) {mb : Nat} {us : Array Value} (hm : Blk W mb us 4) (hlo : w.heap.size ≤ mb) (k : Nat) (v : Value) : LB w (W.setCell ⟨mb, k, none⟩ v) g gb vs := by
  have hne : ∀ {d : Nat} {us' : Array Value} {T : TypeId}, Blk W d us' T → T ≠ 4 → d ≠ mb := fun hd hT e => by
    subst e
    have := hd.symm.trans hm
    simp only [Option.some.injEq, Obj.cells.injEq] at this
    exact hT this.2.1
  have hl := h.low.setCell (p := ⟨mb, k, none⟩) hlo v
  refine ⟨(heap_setCell_other W ⟨mb, k, none⟩ _ v (hne h.ka (by decide))).trans h.ka, hg.below hl, ⟨(heap_setCell_other W ⟨mb, k, none⟩ _ v (hne h.rows.blk (by decide))).trans h.rows.blk, h.rows.new, h.rows.len, fun i hi => ?_, hl⟩⟩
  have ho := h.rows.row i hi
  exact own_kept ho (fun j hj => heap_setCell_other W ⟨mb, k, none⟩ j v (fun e => own_ne ho hm (by decide) (by rw [hj]; exact congrArg some e)))
theorem LB.row {w W : World} {g : Gr} {gb : Nat} {vs : List Value} (h : LB w W g gb vs) {i : Nat} (hi : i < g.rules.length) : ∃ A c, W.cell? ⟨gb, i, none⟩ = some (.slice A (lcal g i).length c) ∧ Lies W A (ints (nums (lcal g i))) := by
  have hl := h.rows.len
  rw [graphOf_len] at hl
  have ho := h.rows.row i (by rw [graphOf_len]; exact hi)
  rw [graphOf_at hi] at ho
  obtain ⟨A, c, e, _, _⟩ := own_slice ho
  rw [e] at ho
  refine ⟨A, c, ?_, own_lies1 ho⟩
  rw [h.rows.blk.cell, List.getElem?_toArray, ← e]
  simp [List.getD, List.getElem?_eq_getElem (show i < vs.length by omega)]
theorem LB.cell {w W : World} {g : Gr} {gb : Nat} {vs : List Value} (h : LB w W g gb vs) {i : Nat} (hi : i < g.rules.length) : W.cell? ⟨gb, i, none⟩ = some (vs.getD i undef) := by
  have hl := h.rows.len
  rw [graphOf_len] at hl
  rw [h.rows.blk.cell, List.getElem?_toArray]
  simp [List.getD, List.getElem?_eq_getElem (show i < vs.length by omega)]
theorem LB.lies {w W : World} {g : Gr} {gb : Nat} {vs : List Value} (h : LB w W g gb vs) {i : Nat} (hi : i < g.rules.length) {A : Option Addr} {n c : Nat} (e : vs.getD i undef = .slice A n c) : n = (lcal g i).length ∧ Lies W A (ints (nums (lcal g i))) := by
  have ho := h.rows.row i (by rw [graphOf_len]; exact hi)
  rw [graphOf_at hi, e] at ho
  obtain ⟨A', c', e2, _, _⟩ := own_slice ho
  simp only [Value.slice.injEq] at e2
  obtain ⟨rfl, rfl, rfl⟩ := e2
  exact ⟨rfl, own_lies1 ho⟩
theorem LB.slice {w W : World} {g : Gr} {gb : Nat} {vs : List Value} (h : LB w W g gb vs) {i : Nat} (hi : i < g.rules.length) : ∃ A c, vs.getD i undef = .slice A (lcal g i).length c := by
  have ho := h.rows.row i (by rw [graphOf_len]; exact hi)
  rw [graphOf_at hi] at ho
  obtain ⟨A, c, e, _, _⟩ := own_slice ho
  exact ⟨A, c, e⟩
theorem own_mark {W : World} {B n mb : Nat} {v : Value} {xs : List Value} {us : Array Value} (h : W.ownsRow B 3 1 v n xs) (hm : Blk W mb us 4) (k : Nat) (u : Value) : (W.setCell ⟨mb, k, none⟩ u).ownsRow B 3 1 v n xs :=
  own_kept h (fun j hj => heap_setCell_other W ⟨mb, k, none⟩ j u (fun e => own_ne h hm (by decide) (by rw [hj]; exact congrArg some e)))
theorem row_own {w w' : World} {L : List Nat} {e : Ending} (h : Row w L e w') : ∃ A c, e = .returned (.slice A L.length c) ∧ Lies w' A (ints (nums L)) ∧ w'.ownsRow w.heap.size 3 1 (.slice A L.length c) L.length (ints (nums L)) ∧ Below w.heap.size w w' := by
  obtain ⟨⟨v, rfl, ho, hn⟩, hb⟩ := h
  obtain ⟨A, c, rfl, _, _⟩ := own_slice ho
  exact ⟨A, c, rfl, own_lies1 ho, ho, hb⟩
set_option maxRecDepth 100000 in
set_option maxHeartbeats 16000000 in
theorem closed_law (g : Gr) (w : World) (hg : Gr.At w g) (hin : Gr.In g) (hc : Capd g) : Calls Try.prog 5 #[g.val] w fun e w' => e = .returned (.bool true) ∧ Below w.heap.size w w' := by
  obtain ⟨i1, ji, jz0, jz1, jz2⟩ := info_parts Try.info_b
  have HG := Lib.hid hg
  have HIN := Lib.hid hin
  have HC := Lib.hid hc
  have SZ := Lib.hid (fun (w' : World) (b : Below w.heap.size w w') => size12_any g w' (hg.below b))
  have RI := Lib.hid (fun (w' : World) (b : Below w.heap.size w w') => right_all g w' (hg.below b) hin)
  have GN := Lib.hid (fun (hr : rightB g = false) (w' : World) (b : Below w.heap.size w w') => graph_no g w' (hg.below b) hin hr)
  have GY := Lib.hid (fun (hr : Right g) (w' : World) (b : Below w.heap.size w w') => graph_any g w' (hg.below b) hin hc hr)
  have TOX := Lib.hid (fun (i : Int) (hi : -9223372036854775808 ≤ i ∧ i < 9223372036854775808) (w' : World) (h : Gr.At w' g) => (to_any g i hi w' h hin hc).mono fun e w'' h => row_own h)
  have GOX := Lib.hid (fun (i : Int) (hi : -9223372036854775808 ≤ i ∧ i < 9223372036854775808) (w' : World) (h : Gr.At w' g) => goes_any g i hi w' h hin hc)
  have hnl := hg.nl
  have hrl := hg.rl
  clear hg hin hc
  show Calls Try.prog 5 #[.agg #[.slice g.RA g.rules.length g.rc, .slice g.NA g.nodes.length g.nc]] w _
  go_enter Try.func5, Try.ntmps5
  go_wp2_with fail
  refine (lawake_any _).mono ?_
  rintro e w1 ⟨rfl, hb⟩
  have K1 := Lib.hid ((Blk.new w #[.slice g.RA g.rules.length g.rc, .slice g.NA g.nodes.length g.nc] 38).below' hb)
  have H1 := Lib.hid (bb (B1 w _) hb)
  have a0 := K1.out.cell 0
  have a1 := K1.out.cell 1
  simp only [List.getElem?_toArray, List.getElem?_cons_zero, List.getElem?_cons_succ] at a0 a1
  clear hb
  go_wp2_with fail
  refine (SZ.out _ H1.out).mono ?_
  rintro e w2 ⟨⟨z, rfl⟩, hb⟩
  have K2 := Lib.hid (K1.out.below' hb)
  have H2 := Lib.hid (bb H1.out hb)
  clear hb a0 a1
  by_cases hz : 300 < z
  · go_wp2_with fail
    go_ret
    exact ⟨rfl, H2.out⟩
  · have hz2 : ¬ 300 < z := hz
    have b0 := K2.out.cell 0
    have b1 := K2.out.cell 1
    simp only [List.getElem?_toArray, List.getElem?_cons_zero, List.getElem?_cons_succ] at b0 b1
    cases hr : rightB g with
    | false =>
      rw [hr] at RI
      have G2 := Lib.hid (GN.out hr w2 H2.out)
      have hno : ∀ i, srch g i = startB 0 := fun i => by unfold srch; rw [if_neg (by rw [hr]; simp)]
      have hto : toOf g 0 = [] := by unfold toOf; rw [hno]; rfl
      have hgo : goesB g 0 = false := by
        unfold goesB
        rw [way_no (fun h => by have := h.2.2; rw [hno] at this; exact absurd this (by decide))]
        rfl
      have TX := Lib.hid (TOX.out 0 (by decide))
      have GX := Lib.hid (GOX.out 0 (by decide))
      rw [hto] at TX
      rw [hgo] at GX
      clear GN GY hr hno hto hgo TOX GOX
      go_wp2_with fail
      refine G2.out.mono ?_
      rintro e w3 ⟨rfl, hb⟩
      have K3 := Lib.hid (K2.out.below' hb)
      have H3 := Lib.hid (bb H2.out hb)
      clear hb b0 b1
      have b0 := K3.out.cell 0
      have b1 := K3.out.cell 1
      simp only [List.getElem?_toArray, List.getElem?_cons_zero, List.getElem?_cons_succ] at b0 b1
      go_wp2_with fail
      refine (RI.out _ H3.out).mono ?_
      rintro e w4 ⟨rfl, hb⟩
      have K4 := Lib.hid (K3.out.below' hb)
      have H4 := Lib.hid (bb H3.out hb)
      clear hb b0 b1
      have b0 := K4.out.cell 0
      have b1 := K4.out.cell 1
      simp only [List.getElem?_toArray, List.getElem?_cons_zero, List.getElem?_cons_succ] at b0 b1
      go_wp2_with fail
      refine (TX.out w4 (HG.out.below H4.out)).mono ?_
      rintro e w5 ⟨A, c, rfl, _, _, hb⟩
      have K5 := Lib.hid (K4.out.below' hb)
      have H5 := Lib.hid (bb H4.out hb)
      clear hb b0 b1
      have b0 := K5.out.cell 0
      have b1 := K5.out.cell 1
      simp only [List.getElem?_toArray, List.getElem?_cons_zero, List.getElem?_cons_succ] at b0 b1
      go_wp2_with fail
      refine (GX.out w5 (HG.out.below H5.out)).mono ?_
      rintro e w6 ⟨rfl, hb⟩
      have H6 := Lib.hid (bb H5.out hb)
      clear hb
      go_wp2_with fail
      go_ret
      exact ⟨rfl, H6.out⟩
    | true =>
      have hR := rightB_true.1 hr
      rw [hr] at RI
      have G2 := Lib.hid (GY.out hR w2 H2.out)
      have HR := Lib.hid hR
      have h32 := hR.rules.2
      have h1r := hR.rules.1
      clear GN GY hr hR
      go_wp2_with fail
      refine G2.out.mono ?_
      rintro e w3 ⟨gb, vs, rfl, hrw⟩
      have L3 := Lib.hid (show LB w w3 g gb vs from ⟨K2.out.below' hrw.low, HG.out.below (bb H2.out hrw.low), ⟨hrw.blk, Nat.le_trans H2.out.size hrw.new, hrw.len, fun i hi => own_lower (hrw.row i hi) H2.out.size, bb H2.out hrw.low⟩⟩)
      clear hrw b0 b1 G2
      have b0 := L3.out.ka.cell 0
      have b1 := L3.out.ka.cell 1
      simp only [List.getElem?_toArray, List.getElem?_cons_zero, List.getElem?_cons_succ] at b0 b1
      go_wp2_with fail
      refine (RI.out _ L3.out.low).mono ?_
      rintro e w4 ⟨rfl, hb⟩
      have L4 := Lib.hid (L3.out.below hb)
      clear hb b0 b1
      have b0 := L4.out.ka.cell 0
      have b1 := L4.out.ka.cell 1
      simp only [List.getElem?_toArray, List.getElem?_cons_zero, List.getElem?_cons_succ] at b0 b1
      obtain ⟨m, em⟩ : ∃ m, m = g.rules.length := ⟨_, rfl⟩
      have EM := Lib.hid em
      rw [← em] at b0 h32 h1r hrl ⊢
      have TOX2 : RowKit.Hid (∀ (i : Int), -9223372036854775808 ≤ i ∧ i < 9223372036854775808 → ∀ (w' : World), Gr.At w' g → Calls Try.prog 30 #[.agg #[.slice g.RA m g.rc, .slice g.NA g.nodes.length g.nc], .int .i64 i] w' fun e w'' => ∃ A c, e = .returned (.slice A (toOf g i).length c) ∧ Lies w'' A (ints (nums (toOf g i))) ∧ w''.ownsRow w'.heap.size 3 1 (.slice A (toOf g i).length c) (toOf g i).length (ints (nums (toOf g i))) ∧ Below w'.heap.size w' w'') := Lib.hid (by rw [em]; exact TOX.out)
      have GOX2 : RowKit.Hid (∀ (i : Int), -9223372036854775808 ≤ i ∧ i < 9223372036854775808 → ∀ (w' : World), Gr.At w' g → Calls Try.prog 31 #[.agg #[.slice g.RA m g.rc, .slice g.NA g.nodes.length g.nc], .int .i64 i] w' fun e w'' => e = .returned (.bool (goesB g i)) ∧ Below w'.heap.size w' w'') := Lib.hid (by rw [em]; exact GOX.out)
      clear em TOX GOX
      go_wp2_with fail
      have HL4 := Lib.hid L4.out
      clear b0 b1 L3 L4 K1 K2 H1 H2 SZ RI
      go_loopw [4] (fun ix wr => ∃ i : Nat, i ≤ m ∧ ix = .int .i64 i ∧ LB w wr g gb vs) (fun ix _ => m - (intOf ix).toNat)
      case atStart => exact ⟨0, by omega, rfl, HL4.out⟩
      case round =>
        obtain ⟨i, hi, rfl, hlb⟩ := hrel
        by_cases hlt : i < m
        · have hlt2 : (i : Int) < m := by omega
          have hir : i < g.rules.length := by rw [← EM.out]; exact hlt
          obtain ⟨Ax, cx, ex⟩ := hlb.slice hir
          have LX := Lib.hid hlb
          have EX := Lib.hid ex
          have b0 := hlb.ka.cell 0
          have b1 := hlb.ka.cell 1
          simp only [List.getElem?_toArray, List.getElem?_cons_zero, List.getElem?_cons_succ] at b0 b1
          rw [← EM.out] at b0
          have TI := Lib.hid (TOX2.out i (by omega) wr hlb.gr)
          clear hlb ex
          go_upto_region 14 with fail
          refine TI.out.mono ?_
          rintro e w5 ⟨At, ct, rfl, hl5, ho5, hb5⟩
          have L5 := Lib.hid (LX.out.below hb5)
          have O5 := Lib.hid (own_lower ho5 LX.out.low.size)
          clear hl5 ho5 hb5 b0 b1 TI
          go_upto_region 15 with (at_make; refine wpList_make_full _ rfl _ _ 54 rfl w5.heap.size 4 i1 (.bool false) 1 Try.underlying54 ji jz0 jz1 .i64 .i64 _ _ m rfl rfl rfl rfl (by rw [jz2]; omega) (by unfold maxLen; omega) (Nat.le_refl _) ?_; intro w6 hown hgrow; have H6 := Lib.hid (show Below w5.heap.size w5 w6 from (Below.refl w5.heap.size w5).grown hgrow (Nat.le_refl _) (fun k h => by cases h)); have K6 := Lib.hid (made_blk hown); clear hown hgrow)
          obtain ⟨mb, emb⟩ : ∃ u, u = w5.heap.size := ⟨_, rfl⟩
          rw [made_bools, ← emb] at K6
          rw [← emb]
          have MB := Lib.hid (show w.heap.size ≤ mb by rw [emb]; exact L5.out.low.size)
          have M6 := Lib.hid (Mk.zero K6.out)
          have L6 := Lib.hid (L5.out.below H6.out)
          have O6 := Lib.hid (own_below O5.out H6.out)
          have hllm : (lcal g i).length ≤ 32 := Nat.le_trans (lcal_len g i) HR.out.rules.2
          have LMM := Lib.hid (fun k (hk : k < (lcal g i).length) => show (lcal g i).getD k 0 < m from by rw [EM.out]; exact lcal_lt (g := g) (r := i) (by simp [List.getD, List.getElem?_eq_getElem hk]))
          have IKN := Lib.hid (fun k (hk : k < (lcal g i).length) q => inK_next (g := g) hk q)
          have IKA := Lib.hid (fun q => inK_all HR.out (q := q) hir)
          obtain ⟨tl, etl⟩ : ∃ tl, tl = (toOf g i).length := ⟨_, rfl⟩
          have ETL := Lib.hid etl
          rw [← etl] at O6 ⊢
          have M60 := Lib.hid (M6.out.congr (f' := inK g (lcal g i) 0) (fun q _ => by simp [inK]))
          obtain ⟨L, eL⟩ : ∃ L, L = lcal g i := ⟨_, rfl⟩
          have ELL := Lib.hid eL
          rw [← eL] at EX hllm LMM IKN IKA M60
          obtain ⟨ll, ell⟩ : ∃ ll, ll = L.length := ⟨_, rfl⟩
          have ELN := Lib.hid ell
          rw [← ell] at EX hllm LMM IKN IKA
          clear emb K6 M6 H6 L5 O5 LX etl eL ell
          go_wp2_with fail
          go_loopw [7] (fun kx wr => ∃ k : Nat, k ≤ ll ∧ kx = .int .i64 k ∧ LB w wr g gb vs ∧ Mk wr mb m (inK g L k) ∧ wr.ownsRow w.heap.size 3 1 (.slice At tl ct) tl (ints (nums (toOf g i)))) (fun kx _ => ll - (intOf kx).toNat)
          case atStart => exact ⟨0, by omega, rfl, L6.out, M60.out, O6.out⟩
          case round =>
            obtain ⟨k, hk, rfl, hlb, hmk, ho⟩ := hrel
            have cx1 := hlb.cell hir
            rw [EX.out] at cx1
            have hlx := (hlb.lies hir EX.out).2
            rw [← ELL.out] at hlx
            have LX := Lib.hid hlb
            have MX := Lib.hid hmk
            have OX := Lib.hid ho
            by_cases hlt7 : k < ll
            · have hlt8 : (k : Int) < ll := by omega
              obtain ⟨b2, o2, eA2, _, c2⟩ := lies_cell hlx (k := k) (by rw [nums_len, ← ELN.out]; exact hlt7)
              rw [nums_at] at c2
              have ham := LMM.out k hlt7
              have IKK := Lib.hid (IKN.out k hlt7)
              generalize L.getD k 0 = a at c2 ham IKK
              have ha2 : (a : Int) < m := by omega
              have cm := hmk.cell ham
              have fm := hmk.frozen a
              rw [eA2] at cx1
              generalize inK g L k a = oldb at cm
              clear hlb hmk ho hlx
              go_upto_region 19 with fail
              obtain ⟨w7, ew7⟩ : ∃ u, u = wr.setCell ⟨mb, a, none⟩ (.bool true) := ⟨_, rfl⟩
              obtain ⟨us, hus⟩ := MX.out.blk
              have l7 : LB w w7 g gb vs := by rw [ew7]; exact LX.out.mark HG.out hus MB.out a _
              have M7 := Lib.hid (show Mk w7 mb m (fun q => if q = a then true else inK g L k q) from by rw [ew7]; exact MX.out.put ham true)
              have O7 := Lib.hid (show w7.ownsRow w.heap.size 3 1 (.slice At tl ct) tl (ints (nums (toOf g i))) from by rw [ew7]; exact own_mark OX.out hus a _)
              rw [← ew7]
              have L7 := Lib.hid l7
              have b0 := l7.ka.cell 0
              have b1 := l7.ka.cell 1
              simp only [List.getElem?_toArray, List.getElem?_cons_zero, List.getElem?_cons_succ] at b0 b1
              rw [← EM.out] at b0
              have cx7 := l7.cell hir
              rw [EX.out, eA2] at cx7
              have c27 : w7.cell? ⟨b2, o2 + k, none⟩ = some (.int .i64 a) := by
                rw [ew7]
                refine (World.cell?_of_block (a := ⟨b2, o2 + k, none⟩) (heap_setCell_other wr ⟨mb, a, none⟩ b2 _ (fun e => ?_))).trans c2
                have hbb : b2 = mb := e
                rw [hbb, Blk.cell hus] at c2
                obtain ⟨ml, h1, h2, _⟩ := MX.out
                have := hus.symm.trans h1
                simp only [Option.some.injEq, Obj.cells.injEq] at this
                rw [this.1, List.getElem?_toArray] at c2
                obtain ⟨hlt, hv⟩ := List.getElem?_eq_some_iff.1 c2
                simp [bls] at hv
              have TI7 := Lib.hid (TOX2.out a (by omega) w7.drew (l7.gr.below (bdrew1 (Below.refl _ _))))
              have har : a < g.rules.length := by rw [← EM.out]; exact ham
              have TL7 := Lib.hid (fun q (hq : q ∈ toOf g a) => show q < m from by rw [EM.out]; exact toOf_lt HR.out har hq)
              have TM7 := Lib.hid (fun q => toOf_mem HR.out (q := q) har)
              clear l7 ew7 cx1 c2 cm fm hus
              obtain ⟨fl, efl⟩ : ∃ u, u = (toOf g a).length := ⟨_, rfl⟩
              rw [← efl] at TI7
              have EFL := Lib.hid efl
              clear efl
              go_cut [8] from 72 to 80 (fun s8 wx => ∃ A c, s8 = .slice A fl c ∧ wx.ownsRow w7.heap.size 3 1 (.slice A fl c) fl (ints (nums (toOf g a))) ∧ Below w7.heap.size w7 wx)
              case first =>
                go_region_with (go_at_call 30; (with_reducible refine TI7.out.mono ?_); rintro e w8 ⟨Af, cf, rfl, hl8, ho8, hb8⟩; have HO8 := Lib.hid ho8; have HB8 := Lib.hid hb8; clear hl8 ho8 hb8)
                all_goals go_simp
                all_goals (first | go_meet | (go_wp2_with fail; go_meet) | skip)
                all_goals exact ⟨_, _, rfl, HO8.out, (bdrew1 (Below.refl _ _)).trans HB8.out⟩
              case rest =>
              obtain ⟨Af, cf, rfl, ho8, hb8⟩ := hcut
              have L8 := Lib.hid (L7.out.below hb8)
              have M8 := Lib.hid ((M7.out.below hb8).congr (f' := fun q => (if q = a then true else inK g L k q) || decide (q ∈ (toOf g a).take 0)) (fun q _ => by simp))
              have O8 := Lib.hid (own_below O7.out hb8)
              have F8 := Lib.hid (own_lower ho8 L7.out.low.size)
              have flm : fl ≤ 100 := by
                rw [EFL.out]
                exact Nat.le_trans (rowOf_len _ _) (by omega)
              have FTK := Lib.hid (fun j (hj : j < fl) => show (toOf g a).take (j + 1) = (toOf g a).take j ++ [(toOf g a).getD j 0] from by
                have hj2 : j < (toOf g a).length := by rw [← EFL.out]; exact hj
                rw [List.take_add_one]; simp [List.getD, List.getElem?_eq_getElem hj2])
              have FLT := Lib.hid (fun j (hj : j < fl) => show (toOf g a).getD j 0 < m from TL7.out _ (by
                have hj2 : j < (toOf g a).length := by rw [← EFL.out]; exact hj
                simp [List.getD, List.getElem?_eq_getElem hj2]))
              clear ho8 hb8 b0 b1 cx7 c27 L7 M7 O7 TI7
              go_wp2_with fail
              go_loopw [9] (fun jx wr => ∃ j : Nat, j ≤ fl ∧ jx = .int .i64 j ∧ LB w wr g gb vs ∧ Mk wr mb m (fun q => (if q = a then true else inK g L k q) || decide (q ∈ (toOf g a).take j)) ∧ wr.ownsRow w.heap.size 3 1 (.slice At tl ct) tl (ints (nums (toOf g i))) ∧ wr.ownsRow w.heap.size 3 1 (.slice Af fl cf) fl (ints (nums (toOf g a)))) (fun jx _ => fl - (intOf jx).toNat)
              case atStart => exact ⟨0, by omega, rfl, L8.out, M8.out, O8.out, F8.out⟩
              case round =>
                obtain ⟨j, hj, rfl, hlb, hmk, ho, hf⟩ := hrel
                have LX2 := Lib.hid hlb
                have MX2 := Lib.hid hmk
                have OX2 := Lib.hid ho
                have FX2 := Lib.hid hf
                by_cases hlt9 : j < fl
                · have hlt10 : (j : Int) < fl := by omega
                  have hfr : wr.ownsRow w.heap.size 3 1 (.slice Af (ints (nums (toOf g a))).length cf) (ints (nums (toOf g a))).length (ints (nums (toOf g a))) := by rw [ints_length, nums_len, ← EFL.out]; exact hf
                  obtain ⟨b3, o3, eA3, _, c3⟩ := lies_cell (own_lies hfr) (k := j) (by rw [nums_len, ← EFL.out]; exact hlt9)
                  rw [nums_at] at c3
                  have hqm := FLT.out j hlt9
                  have FT2 := Lib.hid (FTK.out j hlt9)
                  generalize (toOf g a).getD j 0 = q at c3 hqm FT2
                  have hq2 : (q : Int) < m := by omega
                  have cm := hmk.cell hqm
                  have fm := hmk.frozen q
                  generalize ((if q = a then true else inK g L k q) || decide (q ∈ (toOf g a).take j)) = oldq at cm
                  obtain ⟨us2, hus2⟩ := hmk.blk
                  have LX3 := Lib.hid (hlb.mark HG.out hus2 MB.out q (.bool true))
                  have MX3 := Lib.hid (hmk.put hqm true)
                  have OX3 := Lib.hid (own_mark ho hus2 q (.bool true))
                  have FX3 := Lib.hid (own_mark hf hus2 q (.bool true))
                  have EA3 := Lib.hid eA3
                  rw [eA3]
                  clear hlb hmk ho hf hfr hus2 eA3
                  go_wp2_with fail
                  go_roundw
                  case rel => exact ⟨j + 1, by omega, by go_num, LX3.out, MX3.out.congr (fun x hx => by
                    rw [FT2.out]
                    by_cases e : x = q
                    · subst e; simp
                    · simp [e]), OX3.out, by rw [← EA3.out]; exact FX3.out⟩
                  case measure => simp [intOf]; omega
                · obtain rfl : j = fl := by omega
                  have hlt10 : ¬ (j : Int) < j := by omega
                  clear hlb hmk ho hf
                  go_wp2_with fail
                  go_roundw
                  case rel => exact ⟨k + 1, by omega, by go_num, LX2.out, MX2.out.congr (fun x hx => by
                    rw [IKK.out x, EFL.out, List.take_length]
                    have h1 : decide (x ∈ toOf g a) = tB g a x := by
                      cases h : tB g a x with
                      | true => exact decide_eq_true ((TM7.out x).2 h)
                      | false => exact decide_eq_false (fun hc => by rw [(TM7.out x).1 hc] at h; cases h)
                    rw [h1]
                    by_cases e : x = a
                    · subst e; simp
                    · have e2 : (x == a) = false := by simpa using e
                      rw [e2]
                      simp [e]), OX2.out⟩
                  case measure => simp [intOf]; omega
            · obtain rfl : k = ll := by omega
              have hlt8 : ¬ (k : Int) < k := by omega
              have M9 := Lib.hid (hmk.congr (f' := tB g i) (fun q _ => IKA.out q))
              have TMI := Lib.hid (fun q => toOf_mem HR.out (q := q) hir)
              clear hlb hmk ho hlx MX
              go_wp2_with fail
              go_loopw [10, 11] (fun bx qx wr => ∃ q : Nat, q ≤ m ∧ qx = .int .i64 q ∧ bx = .bool (backK g i q) ∧ LB w wr g gb vs ∧ Mk wr mb m (tB g i) ∧ wr.ownsRow w.heap.size 3 1 (.slice At tl ct) tl (ints (nums (toOf g i)))) (fun _ qx _ => m - (intOf qx).toNat)
              case atStart => exact ⟨0, by omega, rfl, rfl, LX.out, M9.out, OX.out⟩
              case round =>
                obtain ⟨q, hq, rfl, rfl, hlb, hmk, ho⟩ := hrel
                have LX2 := Lib.hid hlb
                have MX2 := Lib.hid hmk
                have OX2 := Lib.hid ho
                by_cases hlt9 : q < m
                · have hlt10 : (q : Int) < m := by omega
                  have hqr : q < g.rules.length := by rw [← EM.out]; exact hlt9
                  have hfr : wr.ownsRow w.heap.size 3 1 (.slice At (ints (nums (toOf g i))).length ct) (ints (nums (toOf g i))).length (ints (nums (toOf g i))) := by rw [ints_length, nums_len, ← ETL.out]; exact ho
                  have htl : tl ≤ 100 := by rw [ETL.out]; exact Nat.le_trans (rowOf_len _ _) (by omega)
                  obtain ⟨bk, ebk⟩ : ∃ b, b = backK g i q := ⟨_, rfl⟩
                  obtain ⟨tq, etq⟩ : ∃ b, b = tB g i q := ⟨_, rfl⟩
                  obtain ⟨dq, edq⟩ : ∃ b, b = decide ((i : Int) ∈ nums (lcal g q)) := ⟨_, rfl⟩
                  obtain ⟨gq, egq⟩ : ∃ b, b = goesB g q := ⟨_, rfl⟩
                  have BKN := Lib.hid (backK_next g i q)
                  rw [← ebk, ← etq, ← edq, ← egq] at BKN
                  rw [← ebk]
                  have HAE := Lib.hid (fun (e : Ext wr) => show Calls Try.prog 32 #[.slice At tl ct, .int .i64 q] e.val fun e' w' => e' = .returned (.bool tq) ∧ Below e.val.heap.size e.val w' from by
                    have := lhas_any At ct (nums (toOf g i)) q (by rw [nums_len, ← ETL.out]; omega) e.val ((own_lies hfr).below e.grown)
                    rw [nums_len, ← ETL.out, show decide ((q : Int) ∈ nums (toOf g i)) = tB g i q from by
                      cases h : tB g i q with
                      | true => exact decide_eq_true (mem_nums.2 ((TMI.out q).2 h))
                      | false => exact decide_eq_false (fun hc => by rw [(TMI.out q).1 (mem_nums.1 hc)] at h; cases h), ← etq] at this
                    exact this.mono fun _ _ h => ⟨h.1, by rw [h.2]; exact Below.refl _ _⟩)
                  have cm := hmk.cell hlt9
                  rw [← etq] at cm
                  have dm := fun (e : Ext wr) => Ext.cell cm e
                  obtain ⟨Aq, cq, eq⟩ := hlb.slice hqr
                  have EQ := Lib.hid eq
                  have hllq : (lcal g q).length ≤ 32 := Nat.le_trans (lcal_len g q) HR.out.rules.2
                  have hbb : (tq != tq) = false := by cases tq <;> rfl
                  have hbb2 : (tq == tq) = true := by cases tq <;> rfl
                  have ETQ := Lib.hid etq
                  clear hlb hmk ho hfr cm ebk etq eq
                  go_upto_region 28 with fail
                  refine wp_region_ext (by kernel_rfl) (by kernel_rfl) ?_
                  repeat (first | go_big_quiet_step (first | (go_at_call 32; exact Calls.ext_of (HAE.out _))) | quiet_step (first | (go_at_call 32; exact Calls.ext_of (HAE.out _))))
                  refine wpQuiet_nil ?_
                  intro w9 hw'
                  obtain ⟨⟨_, hb9⟩, rfl⟩ := hw'
                  have L9 := Lib.hid (LX2.out.below hb9)
                  have N9 := Lib.hid (MX2.out.below hb9)
                  have O9 := Lib.hid (own_below OX2.out hb9)
                  have cxq := L9.out.cell hqr
                  rw [EQ.out] at cxq
                  have hlq := (L9.out.lies hqr EQ.out).2
                  have HD := Lib.hid (show Calls Try.prog 32 #[.slice Aq (lcal g q).length cq, .int .i64 i] w9 fun e w' => e = .returned (.bool dq) ∧ w' = w9 from by
                    have := lhas_any Aq cq (nums (lcal g q)) i (by rw [nums_len]; omega) w9 hlq
                    rw [nums_len, ← edq] at this
                    exact this)
                  have GQ := Lib.hid (GOX2.out q (by omega) w9 L9.out.gr)
                  rw [← egq] at GQ
                  obtain ⟨lq, elq⟩ : ∃ u, u = (lcal g q).length := ⟨_, rfl⟩
                  rw [← elq] at cxq HD hllq
                  have cm := N9.out.cell hlt9
                  rw [← ETQ.out] at cm
                  have b0 := L9.out.ka.cell 0
                  have b1 := L9.out.ka.cell 1
                  simp only [List.getElem?_toArray, List.getElem?_cons_zero, List.getElem?_cons_succ] at b0 b1
                  rw [← EM.out] at b0
                  clear hb9 dm hlq HAE LX2 MX2 OX2 edq egq elq ETQ
                  cases bk with
                  | true =>
                    go_wp2_with fail
                    go_roundw
                    case rel => exact ⟨q + 1, by omega, by go_num, by rw [BKN.out]; rfl, L9.out, N9.out, O9.out⟩
                    case measure => simp [intOf]; omega
                  | false =>
                    cases tq with
                    | false =>
                      go_wp2_with fail
                      go_roundw
                      case rel => exact ⟨q + 1, by omega, by go_num, by rw [BKN.out]; rfl, L9.out, N9.out, O9.out⟩
                      case measure => simp [intOf]; omega
                    | true =>
                      cases dq with
                      | false =>
                        go_wp2_with (go_at_call 32; (with_reducible refine HD.out.mono ?_); rintro e w10 ⟨rfl, rfl⟩)
                        go_roundw
                        case rel => exact ⟨q + 1, by omega, by go_num, by rw [BKN.out]; rfl, L9.out, N9.out, O9.out⟩
                        case measure => simp [intOf]; omega
                      | true =>
                        go_wp2_with (first | (go_at_call 32; (with_reducible refine HD.out.mono ?_); rintro e w10 ⟨rfl, rfl⟩) | (go_at_call 31; (with_reducible refine GQ.out.mono ?_); rintro e w11 ⟨rfl, hb11⟩; have L11 := Lib.hid (L9.out.below hb11); have N11 := Lib.hid (N9.out.below hb11); have O11 := Lib.hid (own_below O9.out hb11); clear hb11))
                        go_roundw
                        case rel => exact ⟨q + 1, by omega, by go_num, by rw [BKN.out]; cases gq <;> rfl, L11.out, N11.out, O11.out⟩
                        case measure => simp [intOf]; omega
                · obtain rfl : q = m := by omega
                  have hlt10 : ¬ (q : Int) < q := by omega
                  obtain ⟨bk, ebk⟩ : ∃ b, b = backK g i q := ⟨_, rfl⟩
                  obtain ⟨ti, eti⟩ : ∃ b, b = tB g i i := ⟨_, rfl⟩
                  have hbt : ti = true → bk = true := fun h => by rw [ebk, EM.out]; exact backK_all HR.out hir (by rw [← eti]; exact h)
                  rw [← ebk]
                  have GE := Lib.hid (fun (e : Ext wr) => show Calls Try.prog 31 #[.agg #[.slice g.RA q g.rc, .slice g.NA g.nodes.length g.nc], .int .i64 i] e.val fun e' w' => e' = .returned (.bool ti) ∧ Below e.val.heap.size e.val w' from by
                    have := GOX2.out i (by omega) e.val (hlb.gr.below e.grown)
                    rw [goesB_iff HR.out hir, ← eti] at this
                    exact this)
                  have cm := hmk.cell hlt
                  rw [← eti] at cm
                  have b0 := hlb.ka.cell 0
                  have b1 := hlb.ka.cell 1
                  simp only [List.getElem?_toArray, List.getElem?_cons_zero, List.getElem?_cons_succ] at b0 b1
                  rw [← EM.out] at b0
                  have d0 := fun (e : Ext wr) => Ext.cell b0 e
                  have d1 := fun (e : Ext wr) => Ext.cell b1 e
                  have dm := fun (e : Ext wr) => Ext.cell cm e
                  clear hlb hmk ho ebk eti b0 b1 cm
                  cases ti with
                  | false =>
                    go_upto_region 31 with fail
                    refine wp_region_ext (by kernel_rfl) (by kernel_rfl) ?_
                    repeat (first | go_big_quiet_step (first | (go_at_call 31; exact Calls.ext_of (GE.out _))) | quiet_step (first | (go_at_call 31; exact Calls.ext_of (GE.out _))))
                    refine wpQuiet_nil ?_
                    intro w9 hw'
                    obtain ⟨⟨_, hb9⟩, rfl⟩ := hw'
                    have L9 := Lib.hid (LX2.out.below hb9)
                    clear hb9 d0 d1 dm GE
                    go_wp2_with fail
                    go_roundw
                    case rel => exact ⟨i + 1, by omega, by go_num, L9.out⟩
                    case measure => simp [intOf]; omega
                  | true =>
                    obtain rfl := hbt rfl
                    go_upto_region 31 with fail
                    refine wp_region_ext (by kernel_rfl) (by kernel_rfl) ?_
                    repeat (first | go_big_quiet_step (first | (go_at_call 31; exact Calls.ext_of (GE.out _))) | quiet_step (first | (go_at_call 31; exact Calls.ext_of (GE.out _))))
                    refine wpQuiet_nil ?_
                    intro w9 hw'
                    obtain ⟨⟨_, hb9⟩, rfl⟩ := hw'
                    have L9 := Lib.hid (LX2.out.below hb9)
                    clear hb9 d0 d1 dm GE
                    go_wp2_with fail
                    go_roundw
                    case rel => exact ⟨i + 1, by omega, by go_num, L9.out⟩
                    case measure => simp [intOf]; omega
        · obtain rfl : i = m := by omega
          have hlt2 : ¬ (i : Int) < i := by omega
          have LX := Lib.hid hlb
          clear hlb
          go_wp2_with fail
          go_ret
          exact ⟨rfl, LX.out.low⟩
end Go.Proofs.Ytmfiedbnnonenaa
namespace Go.Proofs.Ytmfiedbnnonenaa
open Go Go.ChangeShapes Go.WideShapes Go.ChangeAt Go.RowKit Go.Joins Go.Deep
theorem open_nums_cap {H : Type} {enc : TypeId × Value → H} {W : World} {fuel : Nat} {x : DataW H × List MemPlace} {A : Option Addr} {l c : Nat} (h : DataW.trod enc Try.prog W 0 (fun _ => true) true fuel 28 [.slice A l c] = some x) : l ≤ c := by
  rcases open_ints Try.underlying28 Try.underlying3 cells3 h with ⟨hcs, hx⟩ | ⟨a, len', cap', zs, hcs, _, hl, hm, hz, hx, hcell, hwz⟩
  · simp at hcs; omega
  · simp at hcs; omega
set_option maxRecDepth 100000 in
theorem open_node_cap {H : Type} {enc : TypeId × Value → H} {W : World} {fuel : Nat} {nd : Nd} {x : DataW H × List MemPlace} (h : DataW.trod enc Try.prog W 0 (fun _ => true) true fuel 30 nd.cells = some x) : nd.kids.length ≤ nd.cap := by
  obtain ⟨xs, n, _, rfl, hl, hlen, hf⟩ := DataW.trod_struct Try.underlying30 h
  obtain ⟨y0, y1, y2, y3, y4, y5, rfl⟩ := list6 xs hlen
  have g5 := hf 5 _ rfl
  have k26 : Try.prog.cellsOf 22 = 1 := by kernel_rfl
  have k29 : Try.prog.cellsOf 25 = 4 := by kernel_rfl
  have k9 : Try.prog.cellsOf 9 = 1 := by kernel_rfl
  have k30 : Try.prog.cellsOf 28 = 1 := by kernel_rfl
  have k27 : Try.prog.cellsOf 23 = 1 := by kernel_rfl
  unfold Nd.cells at g5
  simp only [k26, k29, k9, k30, cells3, List.drop_zero, List.drop_succ_cons, List.take_succ_cons, List.take_zero, List.getElem?_cons_zero, List.getElem?_cons_succ] at g5
  exact open_nums_cap (x := (y5.1, y5.2)) g5
theorem open_nodes_cap {H : Type} {enc : TypeId × Value → H} {W : World} {fuel : Nat} {x : DataW H × List MemPlace} {A : Option Addr} {l : List Nd} {c : Nat} (h : DataW.trod enc Try.prog W 0 (fun _ => true) true fuel 36 [.slice A l.length c] = some x) (hN : Nodes W A l) : l.length ≤ c ∧ ∀ nd ∈ l, nd.kids.length ≤ nd.cap := by
  rcases Go.Deep.open_slice Try.underlying36 h with ⟨hcs, hx⟩ | ⟨a, len, cap, m, n, D, Pl, hcs, _, hl, hm, hmm, hx, hel⟩
  · simp at hcs
    obtain ⟨_, h0, _⟩ := hcs
    refine ⟨by rw [h0]; simp, fun nd hnd => ?_⟩
    rw [h0] at hnd
    simp at hnd
  · simp at hcs
    obtain ⟨rfl, rfl, rfl⟩ := hcs
    simp only [if_true] at hmm
    refine ⟨hl, fun nd hnd => ?_⟩
    obtain ⟨i, hi, rfl⟩ := List.getElem_of_mem hnd
    rw [cells32] at hel
    obtain ⟨cs', h1, h2⟩ := hel i (by omega)
    obtain ⟨b, o, e, _, hc⟩ := hN (by omega)
    simp only [Option.some.injEq] at e
    subst e
    obtain ⟨_, hl9, hcell⟩ := World.cells?_some h1
    have hcs : cs' = (l[i]).cells := by
      refine List.ext_getElem? fun j => ?_
      by_cases hj : j < 9
      · have h3 := hcell j (by omega)
        rw [Addr.add_lit, Addr.add_lit, hc i hi j hj] at h3
        rw [← h3]
        simp [List.getD, List.getElem?_eq_getElem hi]
      · rw [List.getElem?_eq_none (by omega), List.getElem?_eq_none (by unfold Nd.cells; simp; omega)]
    subst hcs
    exact open_node_cap h2
set_option maxRecDepth 100000 in
theorem open_gram_capd {H : Type} {enc : TypeId × Value → H} {W : World} {base : Nat} {g : Gr} {d : DataW H} {p : List MemPlace} (hg : Gr.At W g)
    (hv : Value.okWide Try.prog W .any base 38 g.val) (h0 : DataW.Trod enc Try.prog W 0 (fun _ => true) true 38 g.val d p) : Capd g := by
  obtain ⟨f0, f1, hu, t0, t1, ho⟩ := Try.fields25
  obtain ⟨v0, v1, y0, y1, n, e, rfl, _, h1, h2⟩ := open_agg2 hu ho cells25 hv h0
  rw [t1] at h2
  have e1 : (Value.slice g.NA g.nodes.length g.nc) = v1 := by
    have := e
    unfold Gr.val at this
    simp only [Value.agg.injEq] at this
    have := congrArg (fun a : Array Value => a[1]?) this
    simpa using this
  subst e1
  have := open_nodes_cap h2 hg.nodes
  exact ⟨this.1, this.2⟩
end Go.Proofs.Ytmfiedbnnonenaa

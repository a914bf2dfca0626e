/- What the law LeftClosed needs, plainly. -/
import Derived.Test.YtmlaepbmdfmgbaaL6
import Derived.Test.YtmlaepbmdfmgbaaP1
set_option linter.unusedSimpArgs false
set_option linter.unusedVariables false
namespace Go.Proofs.Ytmlaepbmdfmgbaa
open Go Go.RowKit Go.Maps
/-- Whether a rule goes to another one. -/
noncomputable def tB (g : Gr) (i q : Nat) : Bool := (srch g i).1.getD q false
theorem tB_iff {g : Gr} (hR : Right g) {i q : Nat} (hi : i < g.rules.length) : tB g i q = true ↔ To (lcal g) i q := by
  unfold tB
  rw [srch_yes hR hi]
  exact bfs_met (lcal32 hR) i q
theorem To.lt {g : Gr} {i q : Nat} (h : To (lcal g) i q) : q < g.rules.length := by
  obtain ⟨k, hk, _⟩ := h.last
  exact lcal_lt hk
theorem toOf_mem {g : Gr} (hR : Right g) {i q : Nat} (hi : i < g.rules.length) : q ∈ toOf g i ↔ tB g i q = true := by
  unfold toOf
  rw [rowOf_mem]
  refine ⟨fun h => h.2, fun h => ⟨?_, h⟩⟩
  have := ((tB_iff hR hi).1 h).lt
  have := hR.rules.2
  omega
theorem toOf_lt {g : Gr} (hR : Right g) {i q : Nat} (hi : i < g.rules.length) (h : q ∈ toOf g i) : q < g.rules.length := ((tB_iff hR hi).1 ((toOf_mem hR hi).1 h)).lt
theorem goesB_iff {g : Gr} (hR : Right g) {i : Nat} (hi : i < g.rules.length) : goesB g i = tB g i i := by
  have h32 := hR.rules.2
  unfold goesB tB
  cases h : (srch g i).1.getD i false with
  | true =>
    rw [way_yes (by omega) (by omega) (by rw [Int.toNat_natCast]; exact h)]
    simp [wayB]
  | false =>
    rw [way_no (fun hc => by have := hc.2.2; rw [Int.toNat_natCast, h] at this; cases this)]
    rfl
/-- Marks in memory: just those of which something holds. -/
def Mk (W : World) (mb m : Nat) (f : Nat → Bool) : Prop := ∃ ml : List Bool, Blk W mb (bls ml).toArray 4 ∧ ml.length = m ∧ ∀ q, q < m → ml.getD q false = f q
theorem Mk.below {W W' : World} {mb m : Nat} {f : Nat → Bool} (h : Mk W mb m f) (hb : Below W.heap.size W W') : Mk W' mb m f := by
  obtain ⟨ml, h1, h2⟩ := h
  exact ⟨ml, h1.below' hb, h2⟩
theorem Mk.congr {W : World} {mb m : Nat} {f f' : Nat → Bool} (h : Mk W mb m f) (hf : ∀ q, q < m → f q = f' q) : Mk W mb m f' := by
  obtain ⟨ml, h1, h2, h3⟩ := h
  exact ⟨ml, h1, h2, fun q hq => (h3 q hq).trans (hf q hq)⟩
theorem Mk.cell {W : World} {mb m : Nat} {f : Nat → Bool} (h : Mk W mb m f) {q : Nat} (hq : q < m) : W.cell? ⟨mb, q, none⟩ = some (.bool (f q)) := by
  obtain ⟨ml, h1, h2, h3⟩ := h
  rw [h1.cell, List.getElem?_toArray, bls_at (by rw [h2]; exact hq), h3 q hq]
theorem Mk.frozen {W : World} {mb m : Nat} {f : Nat → Bool} (h : Mk W mb m f) (q : Nat) : W.frozen? ⟨mb, q, none⟩ = false := by
  obtain ⟨ml, h1, h2, h3⟩ := h
  exact h1.frozen q
theorem Mk.blk {W : World} {mb m : Nat} {f : Nat → Bool} (h : Mk W mb m f) : ∃ vs, Blk W mb vs 4 := by
  obtain ⟨ml, h1, _⟩ := h
  exact ⟨_, h1⟩
theorem Mk.put {W : World} {mb m : Nat} {f : Nat → Bool} (h : Mk W mb m f) {k : Nat} (hk : k < m) (b : Bool) : Mk (W.setCell ⟨mb, k, none⟩ (.bool b)) mb m (fun q => if q = k then b else f q) := by
  obtain ⟨ml, h1, h2, h3⟩ := h
  refine ⟨ml.set k b, by have := h1.put (k := k) (.bool b); rw [bls_set] at this; exact this, by simpa using h2, fun q hq => ?_⟩
  simp only [List.getD, List.getElem?_set]
  by_cases e : k = q
  · subst e; simp [h2, hk]
  · rw [if_neg e, if_neg (fun h => e h.symm)]
    exact h3 q hq
theorem Mk.zero {W : World} {mb m : Nat} (h : Blk W mb (bls (List.replicate m false)).toArray 4) : Mk W mb m (fun _ => false) :=
  ⟨_, h, by simp, fun q hq => by simp [List.getD, hq]⟩
/-- The marks behind so many of those that are called. -/
noncomputable def inK (g : Gr) (L : List Nat) (k q : Nat) : Bool := (L.take k).any fun a => (q == a) || tB g a q
theorem inK_next {g : Gr} {L : List Nat} {k : Nat} (h : k < L.length) (q : Nat) : inK g L (k + 1) q = (inK g L k q || ((q == L.getD k 0) || tB g (L.getD k 0) q)) := by
  unfold inK
  rw [List.take_add_one, List.getElem?_eq_getElem h, Option.toList_some, List.any_append]
  simp [List.getD, List.getElem?_eq_getElem h]
theorem inK_all {g : Gr} (hR : Right g) {i q : Nat} (hi : i < g.rules.length) : inK g (lcal g i) (lcal g i).length q = tB g i q := by
  unfold inK
  rw [List.take_length, Bool.eq_iff_iff, List.any_eq_true, tB_iff hR hi, To.iff]
  constructor
  · rintro ⟨a, ha, h⟩
    rw [Bool.or_eq_true, beq_iff_eq] at h
    rcases h with rfl | h
    · exact .inl ha
    · exact .inr ⟨a, ha, (tB_iff hR (lcal_lt ha)).1 h⟩
  · rintro (h | ⟨k, hk, h⟩)
    · exact ⟨q, h, by simp⟩
    · exact ⟨k, hk, by rw [(tB_iff hR (lcal_lt hk)).2 h]; simp⟩
/-- Whether one goes back, so far. -/
noncomputable def backK (g : Gr) (i k : Nat) : Bool := (List.range k).any fun q => tB g i q && decide ((i : Int) ∈ nums (lcal g q)) && goesB g q
theorem backK_next (g : Gr) (i k : Nat) : backK g i (k + 1) = (backK g i k || (tB g i k && decide ((i : Int) ∈ nums (lcal g k)) && goesB g k)) := by
  unfold backK
  rw [List.range_succ, List.any_append]
  simp
theorem mem_nums {L : List Nat} {k : Nat} : (k : Int) ∈ nums L ↔ k ∈ L := by
  unfold nums
  rw [List.mem_map]
  constructor
  · rintro ⟨a, ha, h⟩
    have : a = k := by omega
    subst this; exact ha
  · intro h; exact ⟨k, h, rfl⟩
theorem backK_all {g : Gr} (hR : Right g) {i : Nat} (hi : i < g.rules.length) (h : tB g i i = true) : backK g i g.rules.length = true := by
  unfold backK
  rw [List.any_eq_true]
  have ht := (tB_iff hR hi).1 h
  obtain ⟨k, hk, h2⟩ := ht.last
  rcases h2 with rfl | h2
  · refine ⟨k, by simpa using hi, ?_⟩
    rw [h, goesB_iff hR hi, h, decide_eq_true (mem_nums.2 hk)]
    rfl
  · have hkl := h2.lt
    refine ⟨k, by simpa using hkl, ?_⟩
    rw [(tB_iff hR hi).2 h2, goesB_iff hR hkl, (tB_iff hR hkl).2 (To.head hk h2), decide_eq_true (mem_nums.2 hk)]
    rfl
end Go.Proofs.Ytmlaepbmdfmgbaa
namespace Go.Proofs.Ytmlaepbmdfmgbaa
open Go Go.RowKit Go.Maps Go.Shelf
/-- What the law stands on: the grammar, its graph. -/
structure LB (w W : World) (g : Gr) (gb : Nat) (vs : List Value) : Prop where
  ka : Blk W w.heap.size #[.slice g.RA g.rules.length g.rc, .slice g.NA g.nodes.length g.nc] 25
  gr : Gr.At W g
  rows : Rows2 w W gb vs (graphOf g)
theorem LB.below {w W W' : World} {g : Gr} {gb : Nat} {vs : List Value} (h : LB w W g gb vs) (hb : Below W.heap.size W W') : LB w W' g gb vs := ⟨h.ka.below' hb, h.gr.below hb, h.rows.below hb⟩
theorem LB.low {w W : World} {g : Gr} {gb : Nat} {vs : List Value} (h : LB w W g gb vs) : Below w.heap.size w W := h.rows.low
/-- A mark is set: all stands. -/
theorem LB.mark {w W : World} {g : Gr} {gb : Nat} {vs : List Value} (h : LB w W g gb vs) (hg : Gr.At w g) {mb : Nat} {us : Array Value} (hm : Blk W mb us 4) (hlo : w.heap.size ≤ mb) (k : Nat) (v : Value) : LB w (W.setCell ⟨mb, k, none⟩ v) g gb vs := by
  have hne : ∀ {d : Nat} {us' : Array Value} {T : TypeId}, Blk W d us' T → T ≠ 4 → d ≠ mb := fun hd hT e => by
    subst e
    have := hd.symm.trans hm
    simp only [Option.some.injEq, Obj.cells.injEq] at this
    exact hT this.2.1
  have hl := h.low.setCell (p := ⟨mb, k, none⟩) hlo v
  refine ⟨(heap_setCell_other W ⟨mb, k, none⟩ _ v (hne h.ka (by decide))).trans h.ka, hg.below hl, ⟨(heap_setCell_other W ⟨mb, k, none⟩ _ v (hne h.rows.blk (by decide))).trans h.rows.blk, h.rows.new, h.rows.len, fun i hi => ?_, hl⟩⟩
  have ho := h.rows.row i hi
  exact own_kept ho (fun j hj => heap_setCell_other W ⟨mb, k, none⟩ j v (fun e => own_ne ho hm (by decide) (by rw [hj]; exact congrArg some e)))
theorem LB.row {w W : World} {g : Gr} {gb : Nat} {vs : List Value} (h : LB w W g gb vs) {i : Nat} (hi : i < g.rules.length) : ∃ A c, W.cell? ⟨gb, i, none⟩ = some (.slice A (lcal g i).length c) ∧ Lies W A (ints (nums (lcal g i))) := by
  have hl := h.rows.len
  rw [graphOf_len] at hl
  have ho := h.rows.row i (by rw [graphOf_len]; exact hi)
  rw [graphOf_at hi] at ho
  obtain ⟨A, c, e, _, _⟩ := own_slice ho
  rw [e] at ho
  refine ⟨A, c, ?_, own_lies1 ho⟩
  rw [h.rows.blk.cell, List.getElem?_toArray, ← e]
  simp [List.getD, List.getElem?_eq_getElem (show i < vs.length by omega)]
theorem LB.cell {w W : World} {g : Gr} {gb : Nat} {vs : List Value} (h : LB w W g gb vs) {i : Nat} (hi : i < g.rules.length) : W.cell? ⟨gb, i, none⟩ = some (vs.getD i undef) := by
  have hl := h.rows.len
  rw [graphOf_len] at hl
  rw [h.rows.blk.cell, List.getElem?_toArray]
  simp [List.getD, List.getElem?_eq_getElem (show i < vs.length by omega)]
theorem LB.lies {w W : World} {g : Gr} {gb : Nat} {vs : List Value} (h : LB w W g gb vs) {i : Nat} (hi : i < g.rules.length) {A : Option Addr} {n c : Nat} (e : vs.getD i undef = .slice A n c) : n = (lcal g i).length ∧ Lies W A (ints (nums (lcal g i))) := by
  have ho := h.rows.row i (by rw [graphOf_len]; exact hi)
  rw [graphOf_at hi, e] at ho
  obtain ⟨A', c', e2, _, _⟩ := own_slice ho
  simp only [Value.slice.injEq] at e2
  obtain ⟨rfl, rfl, rfl⟩ := e2
  exact ⟨rfl, own_lies1 ho⟩
theorem LB.slice {w W : World} {g : Gr} {gb : Nat} {vs : List Value} (h : LB w W g gb vs) {i : Nat} (hi : i < g.rules.length) : ∃ A c, vs.getD i undef = .slice A (lcal g i).length c := by
  have ho := h.rows.row i (by rw [graphOf_len]; exact hi)
  rw [graphOf_at hi] at ho
  obtain ⟨A, c, e, _, _⟩ := own_slice ho
  exact ⟨A, c, e⟩
theorem own_mark {W : World} {B n mb : Nat} {v : Value} {xs : List Value} {us : Array Value} (h : W.ownsRow B 3 1 v n xs) (hm : Blk W mb us 4) (k : Nat) (u : Value) : (W.setCell ⟨mb, k, none⟩ u).ownsRow B 3 1 v n xs :=
  own_kept h (fun j hj => heap_setCell_other W ⟨mb, k, none⟩ j u (fun e => own_ne h hm (by decide) (by rw [hj]; exact congrArg some e)))
theorem row_own {w w' : World} {L : List Nat} {e : Ending} (h : Row w L e w') : ∃ A c, e = .returned (.slice A L.length c) ∧ Lies w' A (ints (nums L)) ∧ w'.ownsRow w.heap.size 3 1 (.slice A L.length c) L.length (ints (nums L)) ∧ Below w.heap.size w w' := by
  obtain ⟨⟨v, rfl, ho, hn⟩, hb⟩ := h
  obtain ⟨A, c, rfl, _, _⟩ := own_slice ho
  exact ⟨A, c, rfl, own_lies1 ho, ho, hb⟩
end Go.Proofs.Ytmlaepbmdfmgbaa
namespace Go.Proofs.Ytmlaepbmdfmgbaa
open Go Go.ChangeShapes Go.WideShapes Go.ChangeAt Go.RowKit Go.Joins Go.Deep
theorem open_nums_cap {H : Type} {enc : TypeId × Value → H} {W : World} {fuel : Nat} {x : DataW H × List MemPlace} {A : Option Addr} {l c : Nat} (h : DataW.trod enc Try.prog W 0 (fun _ => true) true fuel 37 [.slice A l c] = some x) : l ≤ c := by
  rcases open_ints Try.underlying37 Try.underlying3 cells3 h with ⟨hcs, hx⟩ | ⟨a, len', cap', zs, hcs, _, hl, hm, hz, hx, hcell, hwz⟩
  · simp at hcs; omega
  · simp at hcs; omega
set_option maxRecDepth 100000 in
theorem open_node_cap {H : Type} {enc : TypeId × Value → H} {W : World} {fuel : Nat} {nd : Nd} {x : DataW H × List MemPlace} (h : DataW.trod enc Try.prog W 0 (fun _ => true) true fuel 44 nd.cells = some x) : nd.kids.length ≤ nd.cap := by
  obtain ⟨xs, n, _, rfl, hl, hlen, hf⟩ := DataW.trod_struct Try.underlying44 h
  obtain ⟨y0, y1, y2, y3, y4, y5, rfl⟩ := list6 xs hlen
  have g5 := hf 5 _ rfl
  have k26 : Try.prog.cellsOf 33 = 1 := by kernel_rfl
  have k29 : Try.prog.cellsOf 42 = 4 := by kernel_rfl
  have k9 : Try.prog.cellsOf 9 = 1 := by kernel_rfl
  have k30 : Try.prog.cellsOf 37 = 1 := by kernel_rfl
  have k27 : Try.prog.cellsOf 40 = 1 := by kernel_rfl
  unfold Nd.cells at g5
  simp only [k26, k29, k9, k30, cells3, List.drop_zero, List.drop_succ_cons, List.take_succ_cons, List.take_zero, List.getElem?_cons_zero, List.getElem?_cons_succ] at g5
  exact open_nums_cap (x := (y5.1, y5.2)) g5
theorem open_nodes_cap {H : Type} {enc : TypeId × Value → H} {W : World} {fuel : Nat} {x : DataW H × List MemPlace} {A : Option Addr} {l : List Nd} {c : Nat} (h : DataW.trod enc Try.prog W 0 (fun _ => true) true fuel 23 [.slice A l.length c] = some x) (hN : Nodes W A l) : l.length ≤ c ∧ ∀ nd ∈ l, nd.kids.length ≤ nd.cap := by
  rcases Go.Deep.open_slice Try.underlying23 h with ⟨hcs, hx⟩ | ⟨a, len, cap, m, n, D, Pl, hcs, _, hl, hm, hmm, hx, hel⟩
  · simp at hcs
    obtain ⟨_, h0, _⟩ := hcs
    refine ⟨by rw [h0]; simp, fun nd hnd => ?_⟩
    rw [h0] at hnd
    simp at hnd
  · simp at hcs
    obtain ⟨rfl, rfl, rfl⟩ := hcs
    simp only [if_true] at hmm
    refine ⟨hl, fun nd hnd => ?_⟩
    obtain ⟨i, hi, rfl⟩ := List.getElem_of_mem hnd
    rw [cells32] at hel
    obtain ⟨cs', h1, h2⟩ := hel i (by omega)
    obtain ⟨b, o, e, _, hc⟩ := hN (by omega)
    simp only [Option.some.injEq] at e
    subst e
    obtain ⟨_, hl9, hcell⟩ := World.cells?_some h1
    have hcs : cs' = (l[i]).cells := by
      refine List.ext_getElem? fun j => ?_
      by_cases hj : j < 9
      · have h3 := hcell j (by omega)
        rw [Addr.add_lit, Addr.add_lit, hc i hi j hj] at h3
        rw [← h3]
        simp [List.getD, List.getElem?_eq_getElem hi]
      · rw [List.getElem?_eq_none (by omega), List.getElem?_eq_none (by unfold Nd.cells; simp; omega)]
    subst hcs
    exact open_node_cap h2
set_option maxRecDepth 100000 in
theorem open_gram_capd {H : Type} {enc : TypeId × Value → H} {W : World} {base : Nat} {g : Gr} {d : DataW H} {p : List MemPlace} (hg : Gr.At W g)
    (hv : Value.okWide Try.prog W .any base 25 g.val) (h0 : DataW.Trod enc Try.prog W 0 (fun _ => true) true 25 g.val d p) : Capd g := by
  obtain ⟨f0, f1, hu, t0, t1, ho⟩ := Try.fields25
  obtain ⟨v0, v1, y0, y1, n, e, rfl, _, h1, h2⟩ := open_agg2 hu ho cells25 hv h0
  rw [t1] at h2
  have e1 : (Value.slice g.NA g.nodes.length g.nc) = v1 := by
    have := e
    unfold Gr.val at this
    simp only [Value.agg.injEq] at this
    have := congrArg (fun a : Array Value => a[1]?) this
    simpa using this
  subst e1
  have := open_nodes_cap h2 hg.nodes
  exact ⟨this.1, this.2⟩
end Go.Proofs.Ytmlaepbmdfmgbaa

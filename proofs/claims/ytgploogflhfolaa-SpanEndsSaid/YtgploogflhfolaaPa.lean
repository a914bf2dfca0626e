/- What the rows of layer 3 share: a span, a slice of spans as an argument. -/
import Derived.Test.YtgploogflhfolaaPg
import Derived.Test.YtgploogflhfolaaWf
import Derived.Lib.SmallJoins
import Derived.Deep.Slices
namespace Go.Proofs.Ytgploogflhfolaa
open Go Go.ChangeShapes Go.WideShapes Go.ChangeAt Go.RowKit Go.Joins Go.Deep
theorem own : ownKnob Try.prog.godebug = none := by kernel_rfl
theorem laidOut : laidOutB Try.prog = true := by kernel_rfl
theorem cells5 : Try.prog.cellsOf 5 = 1 := by kernel_rfl
theorem cells3 : Try.prog.cellsOf 3 = 1 := by kernel_rfl
theorem cells23 : Try.prog.cellsOf 23 = 2 := by kernel_rfl
theorem int_of_wf {x : Int} (h : (Lit.int .i64 x).wf = true) : -9223372036854775808 ≤ x ∧ x < 9223372036854775808 := by
  simp [Lit.wf, IntKind.min, IntKind.max, IntKind.signed, IntKind.bits] at h
  exact ⟨by omega, by omega⟩
theorem Try.fields23 : ∃ f0 f1 : Field, Try.prog.underlying 23 = some (.struct #[f0, f1]) ∧ f0.type = 3 ∧ f1.type = 3 ∧ oneCellFields Try.prog #[f0, f1] = true := ⟨_, _, Try.underlying23, rfl, rfl, by kernel_rfl⟩
theorem open_span {H : Type} {enc : TypeId × Value → H} {W : World} {base b0 : Nat} {sp : Nat → Bool} {hd : Bool} {v : Value} {d : DataW H} {p : List MemPlace}
    (hv : Value.okWide Try.prog W .any base 23 v) (h0 : DataW.Trod enc Try.prog W b0 sp hd 23 v d p) : ∃ s : Int × Int, v = .agg #[.int .i64 s.1, .int .i64 s.2] ∧ Inr s := by
  obtain ⟨f0, f1, hu, t0, t1, ho⟩ := Try.fields23
  obtain ⟨v0, v1, y0, y1, n, rfl, _, _, h1, h2⟩ := open_agg2 hu ho cells23 hv h0
  rw [t0] at h1
  rw [t1] at h2
  obtain ⟨x0, e0, _, w0⟩ := DataW.trod_int Try.underlying3 h1
  obtain ⟨x1, e1, _, w1⟩ := DataW.trod_int Try.underlying3 h2
  simp at e0 e1
  subst e0 e1
  have q0 := int_of_wf w0
  have q1 := int_of_wf w1
  exact ⟨(x0, x1), rfl, q0.1, q0.2, q1.1, q1.2⟩
/-- Where a slice that came in leads. -/
theorem slice_at {P : Program} {W : World} {b0 : Nat} {t e : TypeId} {a : Addr} {n c : Nat} (ht : P.underlying t = some (.slice e)) (h : Value.okWide P W .any b0 t (.slice (some a) n c)) : a.spot = none ∧ a.block < W.heap.size := by
  simp only [Value.okWide, ht, Cell.okWide, Cell.ok, World.has] at h
  obtain ⟨_, _, _, hs, row, cells, hsh, _⟩ := h
  refine ⟨hs, ?_⟩
  unfold World.shape? at hsh
  cases hw : W.heap[a.block]? with
  | none => rw [hw] at hsh; cases hsh
  | some o => exact (Array.getElem?_eq_some_iff.1 hw).1
theorem list2 {α : Type} (l : List α) (h : l.length = 2) : ∃ a b, l = [a, b] := by
  match l, h with
  | [a, b], _ => exact ⟨a, b, rfl⟩
theorem open_spans {H : Type} {enc : TypeId × Value → H} {W : World} {base : Nat} {v : Value} {d : DataW H} {p : List MemPlace}
    (hv : Value.okWide Try.prog W .any base 32 v) (h0 : DataW.Trod enc Try.prog W 0 (fun _ => true) true 32 v d p) :
    ∃ (A : Option Addr) (l : List (Int × Int)) (c : Nat), v = .slice A l.length c ∧ (A = none → c = 0) ∧ l.length ≤ maxLen ∧ Inrs l ∧ Spn W A l := by
  obtain ⟨f0, f1, hu, t0, t1, ho⟩ := Try.fields23
  obtain ⟨o0, k0⟩ := hone_of ho 0 f0 rfl
  obtain ⟨o1, k1⟩ := hone_of ho 1 f1 rfl
  obtain ⟨A, len, cap, rfl⟩ := okWide_slice Try.underlying32 hv
  obtain ⟨fuel, hf⟩ := h0
  rcases Go.Deep.open_slice Try.underlying32 hf with ⟨hcs, hx⟩ | ⟨a, len', cap', m, n, D, Pl, hcs, _, hl, hm, hmm, hx, hel⟩
  · simp [Value.cells] at hcs
    obtain ⟨rfl, rfl, rfl⟩ := hcs
    exact ⟨none, [], 0, rfl, fun _ => rfl, by simp, (by intro r hr; simp at hr), fun h => by simp at h⟩
  · simp [Value.cells] at hcs
    obtain ⟨rfl, rfl, rfl⟩ := hcs
    simp only [if_true] at hmm
    subst hmm
    rw [cells23] at hel
    obtain ⟨hsp, hblk⟩ := slice_at Try.underlying32 hv
    obtain ⟨b, off, spot⟩ := a
    dsimp only at hsp hblk
    subst hsp
    have key : ∀ i, i < len → ∃ r : Int × Int, Inr r ∧ W.cell? ⟨b, off + i * 2, none⟩ = some (.int .i64 r.1) ∧ W.cell? ⟨b, off + i * 2 + 1, none⟩ = some (.int .i64 r.2) := by
      intro i hi
      obtain ⟨cs', h1, h2⟩ := hel i (by omega)
      obtain ⟨_, hlen, hcell⟩ := World.cells?_some h1
      obtain ⟨c0, c1, rfl⟩ := list2 cs' hlen
      obtain ⟨y0, y1, n', _, _, g0, g1⟩ := trod_struct2 hu h2
      rw [o0, k0, t0] at g0
      rw [o1, k1, t1] at g1
      obtain ⟨x0, e0, _, w0⟩ := DataW.trod_int Try.underlying3 g0
      obtain ⟨x1, e1, _, w1⟩ := DataW.trod_int Try.underlying3 g1
      simp at e0 e1
      subst e0 e1
      have q0 := int_of_wf w0
      have q1 := int_of_wf w1
      have k0 := hcell 0 (by omega)
      have k1 := hcell 1 (by omega)
      rw [Addr.add_lit, Addr.add_lit] at k0 k1
      refine ⟨(x0, x1), ⟨q0.1, q0.2, q1.1, q1.2⟩, ?_, ?_⟩
      · rw [Nat.add_zero] at k0; rw [k0]; simp
      · rw [k1]; simp
    obtain ⟨f, hfk⟩ := Go.Deep.choose_lt key
    have hlen : ((List.range len).map f).length = len := by simp
    have hget : ∀ i, i < len → ((List.range len).map f).getD i (0, 0) = f i := fun i hi => by simp [List.getD, hi]
    refine ⟨some ⟨b, off, none⟩, (List.range len).map f, m, by rw [hlen], (fun h => by cases h), by rw [hlen]; omega, fun r hr => ?_, fun _ => ⟨b, off, rfl, hblk, fun i hi => ?_⟩⟩
    · obtain ⟨i, hi, rfl⟩ := List.mem_map.1 hr
      exact (hfk i (by simpa using hi)).1
    · rw [hlen] at hi
      rw [hget i hi]
      exact (hfk i hi).2
end Go.Proofs.Ytgploogflhfolaa

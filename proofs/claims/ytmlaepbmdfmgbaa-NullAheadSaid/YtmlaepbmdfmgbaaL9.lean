/- What the law LeftOwn stands on: two rows of marks, two rows that were told. -/
import Derived.Test.YtmlaepbmdfmgbaaL8
import Derived.Test.YtmlaepbmdfmgbaaL7
set_option linter.unusedSimpArgs false
set_option linter.unusedVariables false
namespace Go.Proofs.Ytmlaepbmdfmgbaa
open Go Go.RowKit Go.Maps Go.Shelf
theorem Mk.other {W : World} {mb m b : Nat} {f : Nat → Bool} (h : Mk W mb m f) (hne : mb ≠ b) (k : Nat) (v : Value) : Mk (W.setCell ⟨b, k, none⟩ v) mb m f := by
  obtain ⟨ml, h1, h2, h3⟩ := h
  exact ⟨ml, (heap_setCell_other W ⟨b, k, none⟩ mb v hne).trans h1, h2, h3⟩
theorem blk_mark {W : World} {d mb : Nat} {us us' : Array Value} {T : TypeId} (hd : Blk W d us' T) (hT : T ≠ 4) (hm : Blk W mb us 4) (k : Nat) (v : Value) : Blk (W.setCell ⟨mb, k, none⟩ v) d us' T :=
  (heap_setCell_other W ⟨mb, k, none⟩ _ v (fun e => by
    have e2 : d = mb := e
    subst e2
    have := hd.symm.trans hm
    simp only [Option.some.injEq, Obj.cells.injEq] at this
    exact hT this.2.1)).trans hd
structure OB (w W : World) (g : Gr) (ib cb N R : Nat) (A : Option Addr) (c : Nat) (L : List Int) (B : Option Addr) (d : Nat) (M : List Int) (f h : Nat → Bool) : Prop where
  ka : Blk W w.heap.size #[.slice g.RA g.rules.length g.rc, .slice g.NA g.nodes.length g.nc] 25
  gr : Gr.At W g
  inn : Mk W ib N f
  cal : Mk W cb R h
  l : W.ownsRow w.heap.size 3 1 (.slice A L.length c) L.length (ints L)
  m : W.ownsRow w.heap.size 3 1 (.slice B M.length d) M.length (ints M)
  low : Below w.heap.size w W
  ne : ib ≠ cb
  lo : w.heap.size ≤ ib ∧ w.heap.size ≤ cb
section
variable {w W W' : World} {g : Gr} {ib cb N R : Nat} {A : Option Addr} {c : Nat} {L : List Int} {B : Option Addr} {d : Nat} {M : List Int} {f f' h h' : Nat → Bool}
theorem OB.below (o : OB w W g ib cb N R A c L B d M f h) (hb : Below W.heap.size W W') : OB w W' g ib cb N R A c L B d M f h :=
  ⟨o.ka.below' hb, o.gr.below hb, o.inn.below hb, o.cal.below hb, own_below o.l hb, own_below o.m hb, bb o.low hb, o.ne, o.lo⟩
theorem OB.congr (o : OB w W g ib cb N R A c L B d M f h) (h1 : ∀ q, q < N → f q = f' q) (h2 : ∀ q, q < R → h q = h' q) : OB w W g ib cb N R A c L B d M f' h' :=
  ⟨o.ka, o.gr, o.inn.congr h1, o.cal.congr h2, o.l, o.m, o.low, o.ne, o.lo⟩
theorem OB.mark (o : OB w W g ib cb N R A c L B d M f h) (hg : Gr.At w g) {k : Nat} (hk : k < N) (b : Bool) : OB w (W.setCell ⟨ib, k, none⟩ (.bool b)) g ib cb N R A c L B d M (fun q => if q = k then b else f q) h := by
  obtain ⟨us, hu⟩ := o.inn.blk
  have hl := o.low.setCell (p := ⟨ib, k, none⟩) o.lo.1 (.bool b)
  exact ⟨blk_mark o.ka (by decide) hu k _, hg.below hl, o.inn.put hk b, o.cal.other o.ne.symm k _, own_mark o.l hu k _, own_mark o.m hu k _, hl, o.ne, o.lo⟩
theorem OB.call (o : OB w W g ib cb N R A c L B d M f h) (hg : Gr.At w g) {k : Nat} (hk : k < R) (b : Bool) : OB w (W.setCell ⟨cb, k, none⟩ (.bool b)) g ib cb N R A c L B d M f (fun q => if q = k then b else h q) := by
  obtain ⟨us, hu⟩ := o.cal.blk
  have hl := o.low.setCell (p := ⟨cb, k, none⟩) o.lo.2 (.bool b)
  exact ⟨blk_mark o.ka (by decide) hu k _, hg.below hl, o.inn.other o.ne k _, o.cal.put hk b, own_mark o.l hu k _, own_mark o.m hu k _, hl, o.ne, o.lo⟩
end
theorem nodesAt_fact (g : Gr) (n : Int) : ((measOf g n).1 = 0 ∧ nodesAt g n = [] ∧ nums (callsAt g n) = []) ∨ (∃ k s : Nat, n = k ∧ (measOf g n).1 = s ∧ 1 ≤ s ∧ k + s ≤ g.nodes.length ∧ Right g ∧ (∃ ms, Measured g.nodes ms 0 ∧ (ms k).1 = s) ∧ nodesAt g n = ownN g.nodes (mayG g) k ∧ nums (callsAt g n) = nums (callsOf g k)) := by
  by_cases h : rightB g = true ∧ 0 ≤ n ∧ n < g.nodes.length
  · right
    obtain ⟨hr, h0, h1⟩ := h
    have hR := rightB_true.1 hr
    obtain ⟨k, rfl⟩ : ∃ k : Nat, n = k := ⟨n.toNat, by omega⟩
    obtain ⟨ms, hm, _⟩ := hR.pre
    have hk : k < g.nodes.length := by omega
    have h2 := hm k (by omega) hk
    rw [measOf_yes hR hm hk]
    refine ⟨k, (ms k).1.toNat, rfl, by omega, by omega, by omega, hR, ⟨ms, hm, by omega⟩, ?_, ?_⟩
    · unfold nodesAt; rw [if_pos ⟨hr, h0, h1⟩]
    · unfold callsAt; rw [if_pos ⟨hr, h0, h1⟩]
  · left
    refine ⟨by rw [measOf_no (fun hc => h ⟨rightB_true.2 hc.1, hc.2⟩)], ?_, ?_⟩
    · unfold nodesAt; rw [if_neg h]
    · unfold callsAt; rw [if_neg h]; rfl
end Go.Proofs.Ytmlaepbmdfmgbaa

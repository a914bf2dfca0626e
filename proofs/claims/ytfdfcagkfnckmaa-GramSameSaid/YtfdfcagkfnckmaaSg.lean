/- Pieces of the law GramSame. -/
import Derived.Test.YtfdfcagkfnckmaaYg
import Derived.Test.YtfdfcagkfnckmaaVm
import Derived.Test.YtfdfcagkfnckmaaVf
import Derived.Test.YtfdfcagkfnckmaaWj
import Derived.Deep.RegionHeld3
import Derived.Deep.CutRange
import Derived.Test.YtfdfcagkfnckmaaSc
namespace Go.Proofs.Ytfdfcagkfnckmaa
open Go Go.RowKit
abbrev zr : Array Value := #[.slice none 0 0, .slice none 0 0]
theorem balloc {w x : World} (h : Below w.heap.size w x) (o : Obj) : Below w.heap.size w (x.alloc o) := h.alloc h.size o
theorem blk_two (w : World) (o : Obj) (vs : Array Value) (T : TypeId) : Blk ((w.alloc o).alloc (.cells vs T)) (w.heap.size + 1) vs T := by
  have := Blk.new (w.alloc o) vs T
  rw [World.size_alloc] at this
  exact this
theorem box2 {w : World} {b : Nat} {x y : Value} {T : TypeId} (h : Blk w b #[x, y] T) : w.cell? ⟨b, 0, none⟩ = some x ∧ w.cell? ⟨b, 1, none⟩ = some y := ⟨h.cell 0, h.cell 1⟩
theorem blk_set {w : World} {b c j : Nat} {vs : Array Value} {T : TypeId} {v : Value} (h : Blk w b vs T) (hne : b ≠ c) : Blk (w.setCell ⟨c, j, none⟩ v) b vs T := (heap_setCell_other w ⟨c, j, none⟩ b v hne).trans h
theorem blk_drew {w : World} {b : Nat} {vs : Array Value} {T : TypeId} (h : Blk w b vs T) : Blk w.drew b vs T := h
/-- The blocks of a grammar's rows. -/
def Owns (h : Gr) (j : Nat) : Prop := (Value.slice h.RA h.rules.length h.rc).ownBlock = some j ∨ (Value.slice h.NA h.nodes.length h.nc).ownBlock = some j ∨ ∃ x ∈ h.nodes, (Value.slice x.A x.kids.length x.cap).ownBlock = some j
theorem Fresh.lt {w : World} {B : Nat} {h : Gr} (f : Fresh w B h) : ∀ j, Owns h j → B ≤ j ∧ j < w.heap.size := by
  rintro j (e | e | ⟨x, hx, e⟩)
  · exact f.rules.lt j e
  · exact f.nodes.lt j e
  · exact (f.kids x hx).1.lt j e
/-- Two copies, each in its variable. -/
def TwoC (a : Gr) (w : World) (B : Nat) (s5 s6 : Value) (wx : World) : Prop :=
  ∃ (c5 c6 : Nat) (h k : Gr), s5 = .pointer (some ⟨c5, 0, none⟩) ∧ s6 = .pointer (some ⟨c6, 0, none⟩) ∧ Blk wx c5 #[.slice h.RA h.rules.length h.rc, .slice h.NA h.nodes.length h.nc] 25 ∧ Blk wx c6 #[.slice k.RA k.rules.length k.rc, .slice k.NA k.nodes.length k.nc] 25 ∧ c5 ≠ c6 ∧ B ≤ c5 ∧ B ≤ c6 ∧ GTwin a h ∧ GTwin a k ∧ Fresh wx B h ∧ Fresh wx B k ∧ Below B w wx ∧ ∃ m, (∀ j, Owns h j → j < m) ∧ Fresh wx m k
theorem own_T {w : World} {B e size n b : Nat} {v : Value} {xs : List Value} {vs : Array Value} {T : TypeId} (h : w.ownsRow B e size v n xs) (hb : Blk w b vs T) (hT : e ≠ T) : v.ownBlock = none ∨ v.ownBlock ≠ some b := by
  rcases h.2 with ⟨rfl, _⟩ | ⟨g, cap, cur, rfl, hbg, hgg, rest⟩
  · exact .inl rfl
  · refine .inr (fun e' => ?_)
    simp only [Value.ownBlock, Option.some.injEq] at e'
    subst e'
    have hb' : w.heap[g]? = some (.cells vs T (0, 0)) := hb
    rw [hgg] at hb'
    simp only [Option.some.injEq, Obj.cells.injEq] at hb'
    exact hT hb'.2.1
theorem Fresh.keep {w w' : World} {B b : Nat} {h : Gr} {vs : Array Value} (f : Fresh w B h) (hb : Blk w b vs 25) (hg : w.grownBy w' (some b)) : Fresh w' B h :=
  ⟨f.rules.kept hg (own_T f.rules hb (by decide)), f.nodes.kept hg (own_T f.nodes hb (by decide)), fun x hx => ⟨(f.kids x hx).1.kept hg (own_T (f.kids x hx).1 hb (by decide)), (f.kids x hx).2⟩, f.rn, f.nn⟩
theorem Fresh.lower {w : World} {B B' : Nat} {h : Gr} (f : Fresh w B h) (hB : B' ≤ B) : Fresh w B' h :=
  ⟨own_lower f.rules hB, own_lower f.nodes hB, fun x hx => ⟨own_lower (f.kids x hx).1 hB, (f.kids x hx).2⟩, f.rn, f.nn⟩
theorem set_two {w : World} {b : Nat} {x y u v : Value} (h : Blk w b #[x, y] 25) : Blk ((w.setCell ⟨b, 0, none⟩ u).setCell ⟨b, 1, none⟩ v) b #[u, v] 25 ∧ w.grownBy ((w.setCell ⟨b, 0, none⟩ u).setCell ⟨b, 1, none⟩ v) (some b) := by
  have k1 : Blk (w.setCell ⟨b, 0, none⟩ u) b #[u, y] 25 := heap_setCell_same w b 0 #[x, y] 25 _ h
  exact ⟨heap_setCell_same _ b 1 #[u, y] 25 _ k1, ⟨rfl, rfl, rfl, by simp, fun k hk hne => (heap_setCell_other _ ⟨b, 1, none⟩ k _ (fun e => hne (by rw [e]))).trans (heap_setCell_other w ⟨b, 0, none⟩ k _ (fun e => hne (by rw [e])))⟩⟩
theorem fresh_alloc {w : World} {B : Nat} {h : Gr} (f : Fresh w B h) (o : Obj) : Fresh (w.alloc o) B h := f.below (B1 _ _)
theorem fresh_set {w : World} {B b : Nat} {h : Gr} {x y u v : Value} (f : Fresh w B h) (hb : Blk w b #[x, y] 25) : Fresh ((w.setCell ⟨b, 0, none⟩ u).setCell ⟨b, 1, none⟩ v) B h := f.keep hb (set_two hb).2
theorem blk_set2 {w : World} {b : Nat} {x y u v : Value} (h : Blk w b #[x, y] 25) : Blk ((w.setCell ⟨b, 0, none⟩ u).setCell ⟨b, 1, none⟩ v) b #[u, v] 25 := (set_two h).1
theorem GTwin.same' {g h : Gr} (t : GTwin g h) : sameGr g h = true := by
  unfold sameGr
  rw [rowSame_true (by rw [t.rules]) (fun i _ => by rw [t.rules]; simp [sameRl]), rowSame_true t.len.symm (fun i hi => by
    obtain ⟨A, c, e⟩ := t.node i hi
    rw [e]
    simp [sameNd])]
  rfl
theorem bsc {B : Nat} {a w : World} {b j : Nat} {v : Value} (h : Below B a w) (hb : B ≤ b) : Below B a (w.setCell ⟨b, j, none⟩ v) := h.setCell (p := ⟨b, j, none⟩) hb v
end Go.Proofs.Ytfdfcagkfnckmaa

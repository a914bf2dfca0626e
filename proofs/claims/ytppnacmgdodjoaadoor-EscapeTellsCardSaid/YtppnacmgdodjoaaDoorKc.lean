/- The kit's lent bytes: still as they were; written over. -/
import Derived.Test.YtppnacmgdodjoaaDoorKb
import Derived.Test.YtppnacmgdodjoaaDoorWh
namespace Go.Proofs.YtppnacmgdodjoaaDoor
open Go.RowKit
/-- Lent: a text, its marks behind it. -/
def Lent (w : World) (g : Nat) (l : List Nat) : Prop := g < w.heap.size ∧ ∀ i, i < l.length + 12 → w.cell? ⟨g, i, none⟩ = some (.int .u8 ((l ++ marks 1 12).getD i 0 : Nat))
theorem Lent.below {w w' : World} {g : Nat} {l : List Nat} (h : Lent w g l) (hb : Below w.heap.size w w') : Lent w' g l :=
  ⟨Nat.lt_of_lt_of_le h.1 hb.size, fun i hi => (hb.cell (p := ⟨g, i, none⟩) h.1).trans (h.2 i hi)⟩
theorem Lent.of_own {w : World} {base g cap : Nat} {l : List Nat} (h : w.ownsRow base 5 1 (.slice (some ⟨g, 0, none⟩) (l ++ marks 1 12).length cap) (l ++ marks 1 12).length ((l ++ marks 1 12).map natb)) : Lent w g l ∧ l.length + 12 ≤ cap ∧ cap ≤ maxLen := by
  have hn : (l ++ marks 1 12).length = l.length + 12 := by simp [marks_length]
  obtain ⟨g', cap', e, _, h1, h2, h3⟩ := own_shape h (by omega)
  cases e
  refine ⟨⟨h3, fun i hi => ?_⟩, by omega, h2⟩
  rw [h.cellAt i (by omega), getD_natb (by omega)]
theorem lent_text {l : List Nat} {i : Nat} (h : i < l.length) : (l ++ marks 1 12).getD i 0 = l.getD i 0 := by
  rw [List.getD_eq_getElem?_getD, List.getD_eq_getElem?_getD, List.getElem?_append_left h]
theorem lent_mark {l : List Nat} {i : Nat} (h : l.length ≤ i) (h2 : i < l.length + 12) : (l ++ marks 1 12).getD i 0 = mkb 1 (i - l.length) := by
  rw [List.getD_eq_getElem?_getD, List.getElem?_append_right h, marks, List.getElem?_map, List.getElem?_range (by omega), Option.map_some, Option.getD_some]

end Go.Proofs.YtppnacmgdodjoaaDoor

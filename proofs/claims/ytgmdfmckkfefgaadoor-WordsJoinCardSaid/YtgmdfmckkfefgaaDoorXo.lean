/- A string's bytes. -/
import Derived.Test.YtgmdfmckkfefgaaDoorXl
import Derived.Laws.IdiomStrings
namespace Go.Proofs.YtgmdfmckkfefgaaDoor
open Go Go.RowKit
theorem getD_of {l : List Nat} {i : Nat} (h : i < l.length) : l.getD i 0 = l[i] := by simp [List.getD, List.getElem?_eq_getElem h]
theorem conv_txt (w : World) (l : List Nat) (hl : ∀ x ∈ l, x < 256) : ∃ A c w', (convert 9 60 (.string ⟨(l.map UInt8.ofNat).toArray⟩)).run Tryd.prog w = .ok (.slice A l.length c) w' ∧ Below w.heap.size w w' ∧ Txt w' A l ∧ (A = none → c = 0) := by
  have h := run_bytes_of_string (P := Tryd.prog) w 9 60 5 ⟨(l.map UInt8.ofNat).toArray⟩ Tryd.underlying9 Tryd.underlying60 Tryd.underlying5
  have hs : (⟨(l.map UInt8.ofNat).toArray⟩ : ByteArray).size = l.length := by simp [ByteArray.size]
  rw [hs] at h
  refine ⟨_, _, _, h, ?_, ?_, ?_⟩
  · exact (bdrew1 (Below.refl _ _)).alloc (Nat.le_refl _) _
  · refine ⟨hl, fun _ => ⟨_, _, rfl, by simp, fun i hi => ?_⟩⟩
    rw [Nat.zero_add, show w.heap.size = w.drew.heap.size from rfl, cell_of_row _ _ i _ _ _ (heap_alloc_new w.drew _), bytesRow_at _ _ i (by simpa using hi)]
    have hx := hl (l.getD i 0) (by rw [getD_of hi]; exact List.getElem_mem hi)
    simp only [List.getElem_toArray, List.getElem_map, Option.some.injEq, Value.int.injEq, true_and]
    rw [getD_of hi] at hx ⊢
    simp [UInt8.toNat_ofNat', Nat.mod_eq_of_lt hx]
  · intro h; cases h
end Go.Proofs.YtgmdfmckkfefgaaDoor

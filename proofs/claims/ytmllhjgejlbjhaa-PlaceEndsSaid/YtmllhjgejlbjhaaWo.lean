/- A string's bytes. -/
import Derived.Test.YtmllhjgejlbjhaaWl
import Derived.Laws.IdiomStrings
namespace Go.Proofs.Ytmllhjgejlbjhaa
open Go Go.RowKit
theorem conv_txt (w : World) (l : List Nat) (hl : ∀ x ∈ l, x < 256) : ∃ A c w', (convert 9 22 (.string ⟨(l.map UInt8.ofNat).toArray⟩)).run Try.prog w = .ok (.slice A l.length c) w' ∧ Below w.heap.size w w' ∧ Txt w' A l ∧ (A = none → c = 0) := by
  have h := run_bytes_of_string (P := Try.prog) w 9 22 5 ⟨(l.map UInt8.ofNat).toArray⟩ Try.underlying9 Try.underlying22 Try.underlying5
  have hs : (⟨(l.map UInt8.ofNat).toArray⟩ : ByteArray).size = l.length := by simp [ByteArray.size]
  rw [hs] at h
  refine ⟨_, _, _, h, ?_, ?_, ?_⟩
  · exact (bdrew1 (Below.refl _ _)).alloc (Nat.le_refl _) _
  · refine ⟨hl, fun _ => ⟨_, _, rfl, by simp, fun i hi => ?_⟩⟩
    rw [Nat.zero_add, show w.heap.size = w.drew.heap.size from rfl, cell_of_row _ _ i _ _ _ (heap_alloc_new w.drew _), bytesRow_at _ _ i (by simpa using hi)]
    have hx := hl (l.getD i 0) (by rw [getD_of hi]; exact List.getElem_mem hi)
    simp only [List.getElem_toArray, List.getElem_map, Option.some.injEq, Value.int.injEq, true_and]
    rw [getD_of hi] at hx ⊢
    simp [UInt8.toNat_ofNat', Nat.mod_eq_of_lt hx]
  · intro h; cases h
theorem wpList_conv_txt (w : World) {ops : Array Oper} {rest : List Oper} {o : Oper} {a : Act} {Q : Exit → Act → World → Prop}
    (hg : o.guard = none) (x : Operand) (hop : o.op = .convert 9 22 x) (l : List Nat) (hx : a.eval x = .string ⟨(l.map UInt8.ofNat).toArray⟩) (hl : ∀ x ∈ l, x < 256)
    (hK : ∀ A c w', Below w.heap.size w w' → Txt w' A l → (A = none → c = 0) → wpList Try.prog ops Q rest (a.put o.dst (.slice A l.length c)) w') :
    wpList Try.prog ops Q (o :: rest) a w := by
  obtain ⟨A, c, w', h1, h2, h3, h4⟩ := conv_txt w l hl
  refine wpList_plain hg fun K hK' => ?_
  unfold Oper.wp execOp
  simp only [hop, hx, Sem.run_bind, h1, Result.andThen_ok, Sem.run_pure]
  exact hK' _ _ (hK A c w' h2 h3 h4)
end Go.Proofs.Ytmllhjgejlbjhaa

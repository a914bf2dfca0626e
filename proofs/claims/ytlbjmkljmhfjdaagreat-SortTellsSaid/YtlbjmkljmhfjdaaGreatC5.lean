/- What is a name: the document's answer. -/
import Derived.Test.YtlbjmkljmhfjdaaGreatA7
set_option linter.unusedSimpArgs false
set_option linter.unusedVariables false
namespace Go.Proofs.YtlbjmkljmhfjdaaGreat
open Go Go.RowKit
theorem nameOk_all {s : List UInt8} (h : ∀ i, i < s.length → byteOk i (s.getD i 0).toNat = true) : nameOk s = decide (1 ≤ s.length ∧ s.length ≤ 32) := by
  unfold nameOk
  rw [Bool.eq_iff_iff]
  simp only [decide_eq_true_eq]
  exact ⟨fun ⟨a, b, _⟩ => ⟨a, b⟩, fun ⟨a, b⟩ => ⟨a, b, h⟩⟩
set_option maxRecDepth 100000 in
set_option maxHeartbeats 4000000 in
theorem refName_any (s : ByteArray) (hs : s.size ≤ 9223372036854775807) (w : World) : Calls Tryz.prog 155 #[.string s] w fun e w' => e = .returned (.bool (nameOk s.data.toList)) ∧ w = w' := by
  have hl : s.data.toList.length = s.size := by simp
  have NA := Lib.hid (nameOk_all (s := s.data.toList))
  have NB := Lib.hid (nameOk_byte (s := s.data.toList))
  have HL := Lib.hid hl
  clear hl
  go_enter Tryz.func155, Tryz.ntmps155
  go_wp2_with fail
  go_loopw [3, 4, 5] (fun i _ _ wr => ∃ k : Nat, k ≤ s.size ∧ i = .int .i64 k ∧ (∀ j, j < k → byteOk j (s.data.toList.getD j 0).toNat = true) ∧ wr = w) (fun i _ _ _ => s.size - (RowKit.intOf i).toNat)
  case atStart => exact ⟨0, by omega, rfl, fun j h => by omega, rfl⟩
  case round =>
    obtain ⟨k, hk, rfl, ht, rfl⟩ := hrel
    have HT := Lib.hid ht
    clear ht
    by_cases hlt : k < s.size
    · have hlt2 : (k : Int) < s.size := by omega
      obtain ⟨v, ev⟩ : ∃ v : Nat, v = (s.data.toList.getD k 0).toNat := ⟨_, rfl⟩
      have hidx : ∀ h, (s[k]'h).toNat = v := fun h => by
        rw [ev, List.getD_eq_getElem?_getD, List.getElem?_eq_getElem (by rw [HL.out]; exact hlt)]
        rfl
      have EV := Lib.hid ev
      clear ev
      go_wp2_with fail
      all_goals first
        | (go_roundw
           case rel => exact ⟨k + 1, by omega, by go_num, fun j hj => by
              by_cases ej : j = k
              · subst ej; rw [← EV.out]; unfold byteOk letter digit; simp at *; omega
              · exact HT.out j (by omega), by first | trivial | rfl⟩
           case measure => simp [RowKit.intOf]; omega)
        | (go_ret
           exact ⟨ret_bool (NB.out k (by rw [HL.out]; exact hlt) (by rw [← EV.out]; unfold byteOk letter digit; simp at *; omega)).symm, rfl⟩)
    · obtain rfl : k = s.size := by omega
      have hlt2 : ¬ (s.size : Int) < s.size := by omega
      have HV := Lib.hid (NA.out (fun i hi => HT.out i (by rw [HL.out] at hi; exact hi)))
      go_wp2_with fail
      all_goals go_ret
      all_goals exact ⟨ret_bool (by rw [HV.out, HL.out, Bool.eq_iff_iff]; simp; omega), by first | trivial | rfl⟩
end Go.Proofs.YtlbjmkljmhfjdaaGreat

/- The kit's SameBytes. -/
import Derived.Test.YtppnacmgdodjoaaDoorXl
namespace Go.Proofs.YtppnacmgdodjoaaDoor
open Go Go.RowKit
set_option maxHeartbeats 1000000 in
theorem sameb_any (A B : Option Addr) (a b : List Nat) (c d : Nat) (ha : a.length ≤ 65536) (hb : b.length ≤ 65536) (w : World) (hA : Txt w A a) (hB : Txt w B b) :
    Calls Tryd.prog 16 #[.slice A a.length c, .slice B b.length d] w fun e w' => e = .returned (.bool (decide (a = b))) ∧ ∃ n, w' = w.drewN n := by
  by_cases hlen : a.length = b.length
  · have HA := Lib.hid hA
    have HB := Lib.hid hB
    have HL := Lib.hid hlen
    obtain ⟨res, eres⟩ : ∃ res, res = decide (a = b) := ⟨_, rfl⟩
    rw [← eres]
    have ER := Lib.hid eres
    have hl1 : ((a.length : Int) == (b.length : Int)) = true := by simp; omega
    have hl2 : ((a.length : Int) != (b.length : Int)) = false := by simp; omega
    clear hA hB eres hlen
    go_enter Tryd.func16, Tryd.ntmps16
    go_wp2
    go_loopw [5] (fun i wr => ∃ k : Nat, k ≤ a.length ∧ i = .int .i64 k ∧ (∀ j, j < k → a.getD j 0 = b.getD j 0) ∧ ∃ n, wr = w.drewN n) (fun i _ => a.length - (intOf i).toNat)
    case atStart => exact ⟨0, by omega, rfl, by intro j hj; omega, 0, rfl⟩
    case round =>
      obtain ⟨k, hk, rfl, hpre, n, rfl⟩ := hrel
      have HP := Lib.hid hpre
      clear hpre
      by_cases h1 : k < a.length
      · obtain ⟨ab, ao, rfl, c0⟩ := HA.out.at_ h1
        obtain ⟨bb, bo, rfl, d0⟩ := HB.out.at_ (show k < b.length by rw [← HL.out]; exact h1)
        obtain ⟨x, ex⟩ : ∃ x, x = a.getD k 0 := ⟨_, rfl⟩
        obtain ⟨y, ey⟩ : ∃ y, y = b.getD k 0 := ⟨_, rfl⟩
        rw [← ex] at c0
        rw [← ey] at d0
        have hk3 : (k : Int) < a.length := by omega
        have hk4 : (k : Int) < b.length := by have := HL.out; omega
        have EX := Lib.hid ex
        have EY := Lib.hid ey
        clear ex ey
        by_cases he : x = y
        · subst he
          go_wp2_with fail
          go_quiet (fail)
          go_wp2_with fail
          go_roundw
          case rel =>
            refine ⟨k + 1, by omega, by go_num, fun j hj => ?_, _, rfl⟩
            rcases Nat.lt_or_ge j k with h | h
            · exact HP.out j h
            · obtain rfl : j = k := by omega
              rw [← EX.out, ← EY.out]
          case measure => simp [intOf]; omega
        · have hne : a ≠ b := fun e => he (by rw [EX.out, EY.out, e])
          have hd : res = false := by rw [ER.out]; simpa using hne
          have HD := Lib.hid hd
          have hxy : ((x : Int) == (y : Int)) = false := by simp; omega
          have hxy2 : ((x : Int) != (y : Int)) = true := by simp; omega
          clear he hne hd
          go_wp2_with fail
          go_quiet (fail)
          go_wp2_with fail
          go_ret
          exact ⟨ret_bool HD.out.symm, _, World.drewN_drewN _ _ _⟩
      · obtain rfl : k = a.length := by omega
        have hR : res = true := by
          rw [ER.out]
          simp only [decide_eq_true_eq]
          apply List.ext_getElem HL.out
          intro j h1 h2
          have := HP.out j h1
          simpa [List.getD, List.getElem?_eq_getElem h1, List.getElem?_eq_getElem h2] using this
        have HR := Lib.hid hR
        clear hR
        go_wp2_with fail
        go_ret
        exact ⟨ret_bool HR.out.symm, _, rfl⟩
  · have hd : decide (a = b) = false := by simp; intro e; exact hlen (by rw [e])
    rw [hd]
    have hl2 : ((a.length : Int) != (b.length : Int)) = true := by simp; omega
    clear hA hB hd
    go_enter Tryd.func16, Tryd.ntmps16
    go_wp2_with fail
    go_ret
    exact ⟨rfl, 0, rfl⟩
end Go.Proofs.YtppnacmgdodjoaaDoor

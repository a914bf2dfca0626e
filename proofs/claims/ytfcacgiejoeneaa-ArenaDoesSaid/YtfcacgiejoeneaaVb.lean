/- Contracts of an arena of strings: none, count, has, known, New. -/
import Derived.Test.YtfcacgiejoeneaaWb
namespace Go.Proofs.Ytfcacgiejoeneaa
open Go Go.RowKit

theorem Try.has53 : ∃ j, Try.prog.info? 74 = some j := Option.isSome_iff_exists.1 (by kernel_rfl)
@[go_sem] theorem s_neq_same (a : Addr) (w : World) : (binOp .neq 53 (.pointer (some a)) (.pointer (some a))).run Try.prog w = .ok (.bool false) w := by
  obtain ⟨j, hj⟩ := Try.has53
  exact neq_same w a Try.underlying53 hj
@[go_sem] theorem s_neq_nil (a : Addr) (w : World) : (binOp .neq 53 (.pointer none) (.pointer (some a))).run Try.prog w = .ok (.bool true) w := neq_nil_l w a Try.underlying53

theorem s_none_any (b : Nat) (most peak : Int) (v : Value) (xs : List Value) (base : Nat) (w : World) (h : Ar 74 9 w base b most peak v xs) :
    Calls Try.prog 44 #[.pointer (some ⟨b, 0, none⟩)] w fun e w' => e = .returned (.bool false) ∧ w = w' := by
  obtain ⟨c0, c1, c2, c3⟩ := ar_cells h
  clear h
  go_enter Try.func44, Try.ntmps44
  go_wp2_with fail
  go_ret
  exact ⟨rfl, rfl⟩
theorem s_count_any (b n c : Nat) (A : Option Addr) (w : World) (h : w.cell? ⟨b, 0, none⟩ = some (.slice A n c)) :
    Calls Try.prog 46 #[.pointer (some ⟨b, 0, none⟩)] w fun e w' => e = .returned (.int .i64 n) ∧ w = w' := by
  go_enter Try.func46, Try.ntmps46
  go_wp2_with fail
  go_ret
  exact ⟨rfl, rfl⟩
theorem s_has_any (b n c : Nat) (A : Option Addr) (i : Int) (w : World) (h : w.cell? ⟨b, 0, none⟩ = some (.slice A n c)) :
    Calls Try.prog 50 #[.pointer (some ⟨b, 0, none⟩), .int .i64 i] w fun e w' => e = .returned (.bool (decide (0 ≤ i) && decide (i < n))) ∧ w = w' := by
  by_cases h0 : 0 ≤ i
  · go_enter Try.func50, Try.ntmps50
    go_wp2_with (go_at_call 46; refine (s_count_any b n c A _ h).mono ?_; rintro e w1 ⟨rfl, rfl⟩)
    go_ret
    exact ⟨ret_bool (by simp [h0]), rfl⟩
  · have h1 : i < 0 := by omega
    clear h0
    go_enter Try.func50, Try.ntmps50
    go_wp2_with (go_at_call 46; refine (s_count_any b n c A _ h).mono ?_; rintro e w1 ⟨rfl, rfl⟩)
    go_ret
    exact ⟨ret_bool (by simp; omega), rfl⟩
theorem s_known_any (b : Nat) (most peak : Int) (v : Value) (xs : List Value) (base : Nat) (w : World) (h : Ar 74 9 w base b most peak v xs) :
    Calls Try.prog 49 #[.pointer (some ⟨b, 0, none⟩)] w fun e w' => e = .returned (.pointer (some ⟨b, 0, none⟩)) ∧ w = w' := by
  have H := Lib.hid h
  clear h
  go_enter Try.func49, Try.ntmps49
  go_wp2_with (go_at_call 44; refine (s_none_any b most peak v xs base _ H.out).mono ?_; rintro e w1 ⟨rfl, rfl⟩)
  go_ret
  exact ⟨rfl, rfl⟩
theorem s_new_any (most : Int) (h0 : 0 ≤ most) (h1 : most < 9223372036854775808) (w : World) :
    Calls Try.prog 28 #[.int .i64 most] w fun e w' => e = .returned (.pointer (some ⟨w.heap.size, 0, none⟩)) ∧ Below w.heap.size w w' ∧ Ar 74 9 w' w.heap.size w.heap.size most 0 (.slice none 0 0) [] ∧ w'.heap.size = w.heap.size + 1 := by
  go_enter Try.func28, Try.ntmps28
  go_wp2_with fail
  go_ret
  exact ⟨rfl, B1 _ _, ⟨Nat.le_refl _, Blk.new _ _ _, World.ownsRow_nil _ _ _ _, by simpa using h0, h1, by simp, h0⟩, by simp⟩
end Go.Proofs.Ytfcacgiejoeneaa

/- The kit's marks. -/
import Derived.Test.YtppnacmgdodjoaaDoorXl
namespace Go.Proofs.YtppnacmgdodjoaaDoor
open Go.RowKit
set_option maxHeartbeats 400000 in
theorem mark_any (k i : Nat) (hk : k ≤ 1000) (hi : i ≤ 1000000) (w : World) :
    Calls Tryd.prog 31 #[.int .i64 k, .int .i64 i] w fun e w' => e = .returned (.int .i64 (1000003 * (k + 7) + i : Nat)) ∧ w = w' := by
  go_enter Tryd.func31, Tryd.ntmps31
  go_wp2
  go_ret
  exact ⟨ret_int (by omega), rfl⟩
/-- The mark of a byte. -/
def mkb (k i : Nat) : Nat := (IntKind.u64.wrap (((1000003 * (k + 7) + i : Nat) : Int) * 11400714819323198485) / 72057594037927936 % 256).toNat
theorem mkb_eq (k i : Nat) : ((mkb k i : Nat) : Int) = IntKind.u64.wrap (((1000003 * (k + 7) + i : Nat) : Int) * 11400714819323198485) / 72057594037927936 % 256 :=
  Int.toNat_of_nonneg (Int.emod_nonneg _ (by decide))
theorem mkb_lt (k i : Nat) : mkb k i < 256 := by
  have h := mkb_eq k i
  have h2 := Int.emod_lt_of_pos (IntKind.u64.wrap (((1000003 * (k + 7) + i : Nat) : Int) * 11400714819323198485) / 72057594037927936) (show (0 : Int) < 256 by decide)
  omega
attribute [irreducible] mkb
theorem ret_u8 {a b : Int} (h : a = b) : Ending.returned (.int .u8 a) = .returned (.int .u8 b) := by rw [h]
set_option maxHeartbeats 400000 in
theorem markByte_any (k i : Nat) (hk : k ≤ 1000) (hi : i ≤ 1000000) (w : World) :
    Calls Tryd.prog 17 #[.int .i64 k, .int .i64 i] w fun e w' => e = .returned (.int .u8 (mkb k i)) ∧ w = w' := by
  have M := mark_any k i hk hi w
  have E := mkb_eq k i
  have hm : 1000003 * (k + 7) + i ≤ 1100000000000 := by omega
  generalize 1000003 * (k + 7) + i = m at M hm E
  have M := Lib.hid M
  have E := Lib.hid E
  go_enter Tryd.func17, Tryd.ntmps17
  go_wp2_with fail
  refine M.out.mono ?_
  rintro e w1 ⟨rfl, rfl⟩
  go_wp2_with fail
  go_ret
  exact ⟨ret_u8 E.out.symm, rfl⟩
end Go.Proofs.YtppnacmgdodjoaaDoor

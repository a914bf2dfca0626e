/- strings.Clone. -/
import Derived.Test.YtfdfcagkfnckmaaVj
import Derived.Shelf.Pu.Clone
namespace Go.Proofs.Ytfdfcagkfnckmaa
open Go Go.RowKit
def Try.cloneRen : Go.Shelf.Ren := ⟨fun | 25 => 79 | n => n, fun | 37 => 48 | 47 => 100 | n => n, fun n => n⟩
theorem Try.cloneLays : Go.Proofs.LaysPu.n25 Try.prog Try.cloneRen := {
  mixed := by kernel_rfl
  f25 := Try.func79.trans (congrArg some (by kernel_rfl))
  t0 := Try.underlying0
  a0 := Try.isAgg0
  z0 := Try.sizeOf0
  v0 := Try.zeroValue0
  i0 := by kernel_rfl
  t3 := Try.underlying3
  a3 := Try.isAgg3
  z3 := Try.sizeOf3
  v3 := Try.zeroValue3
  i3 := by kernel_rfl
  t4 := Try.underlying4
  a4 := Try.isAgg4
  z4 := Try.sizeOf4
  v4 := Try.zeroValue4
  i4 := by kernel_rfl
  t5 := Try.underlying5
  a5 := Try.isAgg5
  z5 := Try.sizeOf5
  v5 := Try.zeroValue5
  i5 := by kernel_rfl
  t9 := Try.underlying9
  a9 := Try.isAgg9
  z9 := Try.sizeOf9
  v9 := Try.zeroValue9
  i9 := by kernel_rfl
  t37 := Try.underlying48
  a37 := Try.isAgg48
  z37 := Try.sizeOf48
  v37 := Try.zeroValue48
  i37 := by kernel_rfl
  t47 := Try.underlying100
  a47 := Try.isAgg100
  z47 := Try.sizeOf100
  v47 := Try.zeroValue100
  i47 := by kernel_rfl }
theorem lite_any (s : ByteArray) (hs : s.size ≤ 281474976710656) (w : World) : Calls Try.prog 79 #[.string s] w fun e w' => e = .returned (.string s) ∧ Below w.heap.size w w' :=
  Go.Proofs.AnyPu.stringslite_Clone Try.cloneLays s w hs
theorem cloneStr_any (s : ByteArray) (hs : s.size ≤ 281474976710656) (w : World) : Calls Try.prog 69 #[.string s] w fun e w' => e = .returned (.string s) ∧ Below w.heap.size w w' := by
  have C := Lib.hid (fun w => lite_any s hs w)
  clear hs
  go_enter Try.func69, Try.ntmps69
  go_wp2_with (go_at_call 79; refine (C.out _).mono ?_; rintro e w1 ⟨rfl, hb⟩; have HB := Lib.hid hb; clear hb)
  go_ret
  exact ⟨rfl, HB.out⟩
end Go.Proofs.Ytfdfcagkfnckmaa

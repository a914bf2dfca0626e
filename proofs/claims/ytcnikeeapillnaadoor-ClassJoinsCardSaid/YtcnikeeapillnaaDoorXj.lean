/- The law ClassJoins beyond 400 classes and runs: the example alone. -/
import Derived.Test.YtcnikeeapillnaaDoorXg
namespace Go.Proofs.YtcnikeeapillnaaDoor
open Go Go.RowKit
set_option maxRecDepth 100000 in
set_option maxHeartbeats 2000000 in
theorem joins_long (a : Nat → Bool) (ac ar : Option Addr) (nc nr cc cr : Nat) (w : World) (hT : Tab w) (h1 : nc ≤ 9223372036854775807) (h2 : nr ≤ 9223372036854775807) (h3 : nc + nr ≤ 9223372036854775807) (hl : 400 < nc + nr) :
    Calls Tryd.prog 4 #[.agg #[.int .u64 (wd a 0), .int .u64 (wd a 1), .int .u64 (wd a 2), .int .u64 (wd a 3)], .slice ac nc cc, .slice ar nr cr] w fun e w' => e = .returned (.bool true) ∧ Below w.heap.size w w' := by
  have HT := Lib.hid hT
  clear hT
  go_enter Tryd.func4, Tryd.ntmps4
  go_wp2_with fail
  refine (awake_any _ (HT.out.below ((Below.refl _ _).alloc (Nat.le_refl _) _))).mono ?_
  rintro e w1 ⟨rfl, hb⟩
  go_wp2_with fail
  go_ret
  exact ⟨rfl, ((Below.refl _ _).alloc (Nat.le_refl _) _).trans (hb.mono (by simp))⟩
end Go.Proofs.YtcnikeeapillnaaDoor

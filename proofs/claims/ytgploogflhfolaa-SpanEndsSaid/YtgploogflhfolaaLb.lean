/- Layer 3: the law SpanGaps, walked. -/
import Derived.Test.YtgploogflhfolaaWi
import Derived.Test.YtgploogflhfolaaMb
import Derived.Test.YtgploogflhfolaaLa
import Derived.Test.YtgploogflhfolaaRm
import Derived.Test.YtgploogflhfolaaRx
namespace Go.Proofs.Ytgploogflhfolaa
open Go Go.Proofs Go.RowKit

set_option maxRecDepth 100000 in
set_option maxHeartbeats 2000000 in
theorem gl_long (x y x' y' : Int) (A : Option Addr) (n c : Nat) (hn : 60 < n) (hm : n ≤ 9223372036854775807) (w : World) :
    Calls Try.prog 6 #[.agg #[.int .i64 x, .int .i64 y], .slice A n c, .agg #[.int .i64 x', .int .i64 y']] w fun e w' => e = .returned (.bool true) ∧ Below w.heap.size w w' := by
  go_enter Try.func6, Try.ntmps6
  go_wp2_with fail
  refine (awake_any _).mono ?_
  rintro e w1 ⟨rfl, hb⟩
  go_wp2_with fail
  go_ret
  exact ⟨rfl, bt (B2 _ _ _) hb (by simp; omega)⟩
set_option maxRecDepth 100000 in
set_option maxHeartbeats 2000000 in
theorem gl_off (x y x' y' : Int) (hy : y < 9223372036854775808) (A : Option Addr) (n c : Nat) (hn : n ≤ 60) (hx : x < 0 ∨ 1099511627776 < x ∨ 200 < ln x y) (w : World) :
    Calls Try.prog 6 #[.agg #[.int .i64 x, .int .i64 y], .slice A n c, .agg #[.int .i64 x', .int .i64 y']] w fun e w' => e = .returned (.bool true) ∧ Below w.heap.size w w' := by
  have L := fun w => len_any x y hy w
  obtain ⟨q, eq⟩ : ∃ q, q = ln x y := ⟨_, rfl⟩
  rw [← eq] at L hx
  have L := Lib.hid L
  have HX := Lib.hid hx
  clear eq hx
  go_enter Try.func6, Try.ntmps6
  go_wp2_with fail
  refine (awake_any _).mono ?_
  rintro e w1 ⟨rfl, hb⟩
  have BA := ((Blk.new w #[.int .i64 x, .int .i64 y] 23).alloc (.cells #[.int .i64 x', .int .i64 y'] 23)).below hb (by simp; omega)
  have hb1 := bt (B2 _ _ _) hb (by simp; omega)
  obtain ⟨a0, a1⟩ := BA.two
  clear hb
  by_cases h1 : x < 0
  · go_wp2_with fail
    go_ret
    exact ⟨rfl, hb1⟩
  · by_cases h2 : 1099511627776 < x
    · go_wp2_with fail
      go_ret
      exact ⟨rfl, hb1⟩
    · have h3 : 200 < q := by have := HX.out; omega
      go_wp2_with fail
      refine (L.out _).mono ?_
      rintro e w2 ⟨rfl, hb2⟩
      go_wp2_with fail
      go_ret
      exact ⟨rfl, bt hb1 hb2 hb1.size⟩
end Go.Proofs.Ytgploogflhfolaa

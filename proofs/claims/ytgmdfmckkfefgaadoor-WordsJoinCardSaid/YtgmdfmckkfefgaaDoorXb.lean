/- awake; the law WordsBetween, walked. -/
import Derived.Test.YtgmdfmckkfefgaaDoorXa
import Derived.Test.YtgmdfmckkfefgaaDoorRq
namespace Go.Proofs.YtgmdfmckkfefgaaDoor
open Go Go.RowKit
/-- What is asked of all words of the example. -/
theorem All_smp (w : World) (hT : Tab w) : Calls Tryd.prog 6 #[.string ⟨#[65, 58, 50, 32, 60, 45, 32, 34, 97, 34, 32, 91, 98, 45, 100, 93, 42, 32, 59]⟩] w fun e w' => Below w.heap.size w w' ∧ ∃ g c, e = .returned (.tuple #[.slice (some ⟨g, 0, none⟩) 7 c, .int .i64 0, .int .i64 0]) ∧ 7 ≤ c ∧
    w'.cell? ⟨g, 0, none⟩ = some (.int .i64 2) ∧ w'.cell? ⟨g, 4, none⟩ = some (.int .i64 2) ∧ w'.cell? ⟨g, 21, none⟩ = some (.string ⟨#[97]⟩) ∧ w'.cell? ⟨g, 32, none⟩ = some (.int .u64 0) ∧ w'.cell? ⟨g, 33, none⟩ = some (.int .u64 120259084288) ∧ w'.cell? ⟨g, 34, none⟩ = some (.int .u64 0) ∧ w'.cell? ⟨g, 35, none⟩ = some (.int .u64 0) ∧ w'.cell? ⟨g, 54, none⟩ = some (.int .i64 1) := by
  refine (All_any 6 _ smp smp_str (by decide) smp_stp.1 (by decide) smp_stp.2 w hT).mono fun e w' h => ?_
  obtain ⟨hb, ⟨h1, _⟩ | ⟨v, _, he, ho⟩⟩ := h
  · have := smp6; rw [h1] at this; cases this
  · obtain ⟨A, c, rfl, hA, hc⟩ := own_slice ho
    rcases ho.2 with ⟨h1, _⟩ | ⟨g, cap, cur, e1, _, _, _⟩
    · cases h1
    · cases e1
      obtain ⟨q0, q1, q2, q3, q4, q5, q6, q7⟩ := smp_cells
      refine ⟨hb, g, c, he, hc, ?_, ?_, ?_, ?_, ?_, ?_, ?_, ?_⟩
      · exact (ho.cellAt 0 (by omega)).trans q0
      · exact (ho.cellAt 4 (by omega)).trans q1
      · exact (ho.cellAt 21 (by omega)).trans q2
      · exact (ho.cellAt 32 (by omega)).trans q3
      · exact (ho.cellAt 33 (by omega)).trans q4
      · exact (ho.cellAt 34 (by omega)).trans q5
      · exact (ho.cellAt 35 (by omega)).trans q6
      · exact (ho.cellAt 54 (by omega)).trans q7
/-- Classes, words compared with themselves. -/
theorem eqC (D : Nat) (a b c d : Int) (w : World) : (Op.equalIn (D + 1 + 1) 31 (.agg #[.int .u64 a, .int .u64 b, .int .u64 c, .int .u64 d]) (.agg #[.int .u64 a, .int .u64 b, .int .u64 c, .int .u64 d])).run Tryd.prog w = .ok true w := by
  have u3 := Tryd.underlying29
  have a3 := Tryd.isAgg29
  have z3 := Tryd.sizeOf29
  rw [Op.equalIn]
  simp only [Sem.run_bind, run_underlying Tryd.underlying31, Result.andThen_ok]
  simp only [Std.Legacy.Range.forIn_eq_forIn_range', Std.Legacy.Range.size, Nat.sub_zero, Nat.add_sub_cancel, Nat.div_one, List.range'_succ, List.range'_zero, List.forIn_cons, List.forIn_nil]
  go_simp
@[go_sem] theorem eqC0 (a b c d : Int) (w : World) : (Op.equalIn 10000 31 (.agg #[.int .u64 a, .int .u64 b, .int .u64 c, .int .u64 d]) (.agg #[.int .u64 a, .int .u64 b, .int .u64 c, .int .u64 d])).run Tryd.prog w = .ok true w := eqC 9998 a b c d w
@[go_sem] theorem eqC1 (a b c d : Int) (w : World) : (Op.equalIn 9999 31 (.agg #[.int .u64 a, .int .u64 b, .int .u64 c, .int .u64 d]) (.agg #[.int .u64 a, .int .u64 b, .int .u64 c, .int .u64 d])).run Tryd.prog w = .ok true w := eqC 9997 a b c d w
@[go_sem] theorem eqW (k a z v c0 c1 c2 c3 : Int) (t : ByteArray) (w : World) : (Op.equalIn 10000 33 (.agg #[.int .i64 k, .int .i64 a, .int .i64 z, .string t, .int .i64 v, .int .u64 c0, .int .u64 c1, .int .u64 c2, .int .u64 c3]) (.agg #[.int .i64 k, .int .i64 a, .int .i64 z, .string t, .int .i64 v, .int .u64 c0, .int .u64 c1, .int .u64 c2, .int .u64 c3])).run Tryd.prog w = .ok true w := by
  have u3 := Tryd.underlying3
  have a3 := Tryd.isAgg3
  have z3 := Tryd.sizeOf3
  have u9 := Tryd.underlying9
  have a9 := Tryd.isAgg9
  have z9 := Tryd.sizeOf9
  have u28 := Tryd.underlying28
  have a28 := Tryd.isAgg28
  have z28 := Tryd.sizeOf28
  have a31 := Tryd.isAgg31
  have z31 := Tryd.sizeOf31
  rw [show (10000 : Nat) = 9999 + 1 from rfl, Op.equalIn]
  simp only [Sem.run_bind, run_underlying Tryd.underlying33, Result.andThen_ok]
  go_simp
set_option maxRecDepth 100000 in
set_option maxHeartbeats 2000000 in
theorem awake_any (w : World) (hT : Tab w) : Calls Tryd.prog 5 #[] w fun e w' => e = .returned (.bool true) ∧ Below w.heap.size w w' := by
  have A := Lib.hid (All_smp w hT)
  clear hT
  go_enter Tryd.func5, Tryd.ntmps5
  go_wp2_with (go_at_call 6; (with_reducible refine A.out.mono ?_); rintro e w1 ⟨hb, g, c, rfl, hc, c0, c1, c2, c3, c4, c5, c6, c7⟩; have HB := Lib.hid hb; clear hb)
  go_ret
  exact ⟨rfl, HB.out⟩
end Go.Proofs.YtgmdfmckkfefgaaDoor

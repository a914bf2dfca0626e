/- Layer 2: what the laws ask of an index, in one word each. -/
import Derived.Test.YtmllhjgejlbjhaaWj
import Derived.Test.YtmllhjgejlbjhaaMb
namespace Go.Proofs.Ytmllhjgejlbjhaa
open Go.RowKit
section
variable {x : Nat} {bs : List Nat} {L : Nat}
/-- A place's line and column, and back. -/
theorem at_back (hb0 : Lns bs L) (hL : L < 1152921504606846976) {k : Nat} (hk : k ≤ L) : ∃ q col : Nat, 1 ≤ q ∧ q ≤ bs.length ∧ 1 ≤ col ∧ col ≤ L + 1 ∧
    (∀ w, Idx w x bs L → Calls Try.prog 13 #[.pointer (some ⟨x, 0, none⟩), .int .i64 k] w fun e w' => e = .returned (.tuple #[.int .i64 q, .int .i64 col, .bool true]) ∧ Below w.heap.size w w') ∧
    (∀ w, Idx w x bs L → Calls Try.prog 14 #[.pointer (some ⟨x, 0, none⟩), .int .i64 q, .int .i64 col] w fun e w' => e = .returned (.tuple #[.int .i64 k, .bool true]) ∧ Below w.heap.size w w') := by
  obtain ⟨h1, h2, h3, h4⟩ := ln_spec k hb0
  have hv := ln_beh hb0 hk
  refine ⟨ln bs k, k - bs.getD (ln bs k - 1) 0 + 1, h1, h2, by omega, by omega, fun w h => at_yes x bs L k hb0 hL hk w h, fun w h => ?_⟩
  have := place_yes x bs L hb0 hL (ln bs k) (k - bs.getD (ln bs k - 1) 0 + 1) h1 h2 (by omega) (by omega) w h
  rwa [show bs.getD (ln bs k - 1) 0 + (k - bs.getD (ln bs k - 1) 0 + 1) - 1 = k by omega] at this
theorem line_st (hb0 : Lns bs L) (hL : L < 1152921504606846976) {k : Nat} (h1 : 1 ≤ k) (h2 : k ≤ bs.length) (w : World) (h : Idx w x bs L) :
    Calls Try.prog 15 #[.pointer (some ⟨x, 0, none⟩), .int .i64 k] w fun e w' => e = .returned (.tuple #[.int .i64 (st bs L k), .int .i64 (st bs L (k + 1)), .bool true]) ∧ Below w.heap.size w w' := by
  have := line_yes x bs L hb0 hL k h1 h2 w h
  rwa [st_next hb0 h1 h2, st_of (L := L) h2] at this
/-- A line and a column: no place has them, or one that has them. -/
theorem place_back (hb0 : Lns bs L) (hL : L < 1152921504606846976) (q col : Int) :
    (∀ w, Idx w x bs L → Calls Try.prog 14 #[.pointer (some ⟨x, 0, none⟩), .int .i64 q, .int .i64 col] w fun e w' => e = .returned (.tuple #[.int .i64 0, .bool false]) ∧ Below w.heap.size w w') ∨
    (∃ p : Nat, p ≤ L ∧ (∀ w, Idx w x bs L → Calls Try.prog 14 #[.pointer (some ⟨x, 0, none⟩), .int .i64 q, .int .i64 col] w fun e w' => e = .returned (.tuple #[.int .i64 p, .bool true]) ∧ Below w.heap.size w w') ∧
      (∀ w, Idx w x bs L → Calls Try.prog 13 #[.pointer (some ⟨x, 0, none⟩), .int .i64 p] w fun e w' => e = .returned (.tuple #[.int .i64 q, .int .i64 col, .bool true]) ∧ Below w.heap.size w w')) := by
  by_cases hq : q < 1 ∨ (bs.length : Int) < q
  · exact .inl fun w h => place_noline x bs L hb0 hL q col hq w h
  · obtain ⟨n, rfl⟩ := Int.eq_ofNat_of_zero_le (show 0 ≤ q by omega)
    by_cases hc : col < 1 ∨ (beh bs L n : Int) < col + (bs.getD (n - 1) 0 : Nat)
    · exact .inl fun w h => place_nocol x bs L hb0 hL n col (by omega) (by omega) hc w h
    · obtain ⟨c, rfl⟩ := Int.eq_ofNat_of_zero_le (show 0 ≤ col by omega)
      have hg := beh_gt hb0 (show 1 ≤ n by omega) (by omega)
      refine .inr ⟨bs.getD (n - 1) 0 + c - 1, by omega, fun w h => place_yes x bs L hb0 hL n c (by omega) (by omega) (by omega) (by omega) w h, fun w h => ?_⟩
      have := at_yes x bs L (bs.getD (n - 1) 0 + c - 1) hb0 hL (by omega) w h
      rw [beh_ln hb0 (show 1 ≤ n by omega) (by omega) (by omega) (by omega)] at this
      rwa [show bs.getD (n - 1) 0 + c - 1 - bs.getD (n - 1) 0 + 1 = c by omega] at this
end
end Go.Proofs.Ytmllhjgejlbjhaa

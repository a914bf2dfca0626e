/- Contracts of layer 1: how many are in a class. -/
import Derived.Test.YtcnikeeapillnaaDoorWb
import Derived.Test.YtcnikeeapillnaaDoorMb
import Derived.Shelf.Spec.TrailingZeros
namespace Go.Proofs.YtcnikeeapillnaaDoor
open Go.RowKit
theorem ret_int {k : IntKind} {a b : Int} (h : a = b) : Ending.returned (.int k a) = .returned (.int k b) := by rw [h]
theorem and_nat {x y : Nat} (hx : x < 18446744073709551616) (hy : y < 18446744073709551616) : bits BinOp.and IntKind.u64 (x : Int) (y : Int) = ((x &&& y : Nat) : Int) := bits_and_u64_nat x y hx hy
theorem add_nat {x y : Nat} (h : x + y < 18446744073709551616) : IntKind.u64.wrap ((x : Int) + (y : Int)) = ((x + y : Nat) : Int) := by rw [IntKind.wrap_u64]; omega
theorem and127 (g : Nat) (h : g < 2 ^ 63) : bits BinOp.and IntKind.i64 (g : Int) 127 = ((g % 128 : Nat) : Int) := by
  have e := (bits_nat .i64 63 (by decide) (by intro n h0 h1; rw [IntKind.wrap_i64]; omega) g 127 h (by decide)).1
  rw [show (127 : Nat) = 2 ^ 7 - 1 from rfl, Nat.and_two_pow_sub_one_eq_mod] at e
  exact e
set_option maxHeartbeats 1000000 in
theorem ones_any (s : Nat → Bool) (x : Nat) (w : World) (hx : x = bitsN s 64) :
    Calls Tryd.prog 36 #[.int .u64 x] w fun e w' => e = .returned (.int .i64 (cntN s 64)) ∧ w = w' := by
  have hl := bitsN_lt s 64
  obtain ⟨a, b, c, ha, hb, hc, la, lb, f, hf, hf8, hs⟩ := ones_steps s
  obtain ⟨d, e, g, lc, hd, ld, he, le, hg, lg, hr⟩ := ones_end f hf8
  rw [← hx] at hl ha
  rw [← hf] at lc hd
  rw [hs] at hr
  have n1 : x &&& 6148914691236517205 ≤ x := Nat.and_le_left
  have n2 : a / 4 &&& 3689348814741910323 ≤ a / 4 := Nat.and_le_left
  have n3 : a &&& 3689348814741910323 ≤ a := Nat.and_le_left
  have n4 : x / 2 &&& 6148914691236517205 ≤ x / 2 := Nat.and_le_left
  have w0 := and_nat (x := x / 2) (y := 6148914691236517205) (by omega) (by decide)
  have w1 := and_nat (x := x) (y := 6148914691236517205) (by omega) (by decide)
  have w2 := add_nat (x := x / 2 &&& 6148914691236517205) (y := x &&& 6148914691236517205) (by omega)
  have w3 := and_nat (x := a / 4) (y := 3689348814741910323) (by omega) (by decide)
  have w4 := and_nat (x := a) (y := 3689348814741910323) (by omega) (by decide)
  have w5 := add_nat (x := a / 4 &&& 3689348814741910323) (y := a &&& 3689348814741910323) (by omega)
  have w6 := add_nat (x := b / 16) (y := b) (by omega)
  have w7 := and_nat (x := b / 16 + b) (y := 1085102592571150095) (by omega) (by decide)
  have w8 := add_nat (x := c) (y := c / 256) (by omega)
  have w9 := add_nat (x := d) (y := d / 65536) (by omega)
  have w10 := add_nat (x := e) (y := e / 4294967296) (by omega)
  have w11 := and127 g lg
  rw [ha] at w2; rw [hb] at w5; rw [hc] at w7; rw [hd] at w8; rw [he] at w9; rw [hg] at w10; rw [hr] at w11
  have W1 : IntKind.u64.wrap (bits BinOp.and IntKind.u64 ((x : Int) / 2) 6148914691236517205 + bits BinOp.and IntKind.u64 (x : Int) 6148914691236517205) = (a : Int) := by rw [← w0, ← w1] at w2; exact w2
  have W2 : IntKind.u64.wrap (bits BinOp.and IntKind.u64 ((a : Int) / 4) 3689348814741910323 + bits BinOp.and IntKind.u64 (a : Int) 3689348814741910323) = (b : Int) := by rw [← w3, ← w4] at w5; exact w5
  have W3 : bits BinOp.and IntKind.u64 ((b : Int) / 16 + (b : Int)) 1085102592571150095 = (c : Int) := w7
  have W4 : (c : Int) + (c : Int) / 256 = (d : Int) := congrArg (fun n : Nat => (n : Int)) hd
  have W5 : (d : Int) + (d : Int) / 65536 = (e : Int) := congrArg (fun n : Nat => (n : Int)) he
  have W6 : (e : Int) + (e : Int) / 4294967296 = (g : Int) := congrArg (fun n : Nat => (n : Int)) hg
  clear ha hb hc hd he hg hr n1 n2 n3 n4 hs hf8 hf hx w0 w1 w2 w3 w4 w5 w6 w7 w8 w9 w10
  go_enter Tryd.func36, Tryd.ntmps36
  go_wp2
  go_ret
  exact ⟨rfl, rfl⟩
theorem cnt_word (s : Nat → Bool) (k : Nat) : cntN s (64 * (k + 1)) = cntN s (64 * k) + cntN (fun i => s (64 * k + i)) 64 := by
  have : ∀ n, cntN s (64 * k + n) = cntN s (64 * k) + cntN (fun i => s (64 * k + i)) n := by
    intro n
    induction n with
    | zero => rfl
    | succ n ih => rw [← Nat.add_assoc, cntN, cntN, ih]; omega
  rw [Nat.mul_succ, this]
theorem cntN_le (s : Nat → Bool) (n : Nat) : cntN s n ≤ n := by
  induction n with
  | zero => exact Nat.le_refl _
  | succ n ih => rw [cntN]; split <;> omega
theorem idx25_0 (x0 x1 x2 x3 : Value) (w : World) : (Instr.index 25 (.agg #[x0, x1, x2, x3]) (.int .i64 0)).run Tryd.prog w = .ok x0 w := by kernel_rfl
theorem idx25_1 (x0 x1 x2 x3 : Value) (w : World) : (Instr.index 25 (.agg #[x0, x1, x2, x3]) (.int .i64 1)).run Tryd.prog w = .ok x1 w := by kernel_rfl
theorem idx25_2 (x0 x1 x2 x3 : Value) (w : World) : (Instr.index 25 (.agg #[x0, x1, x2, x3]) (.int .i64 2)).run Tryd.prog w = .ok x2 w := by kernel_rfl
theorem idx25_3 (x0 x1 x2 x3 : Value) (w : World) : (Instr.index 25 (.agg #[x0, x1, x2, x3]) (.int .i64 3)).run Tryd.prog w = .ok x3 w := by kernel_rfl
theorem idx55_0 (x0 x1 x2 x3 : Value) (w : World) : (Instr.index 55 (.agg #[x0, x1, x2, x3]) (.int .i64 0)).run Tryd.prog w = .ok x0 w := by kernel_rfl
theorem idx55_1 (x0 x1 x2 x3 : Value) (w : World) : (Instr.index 55 (.agg #[x0, x1, x2, x3]) (.int .i64 1)).run Tryd.prog w = .ok x1 w := by kernel_rfl
theorem idx55_2 (x0 x1 x2 x3 : Value) (w : World) : (Instr.index 55 (.agg #[x0, x1, x2, x3]) (.int .i64 2)).run Tryd.prog w = .ok x2 w := by kernel_rfl
theorem idx55_3 (x0 x1 x2 x3 : Value) (w : World) : (Instr.index 55 (.agg #[x0, x1, x2, x3]) (.int .i64 3)).run Tryd.prog w = .ok x3 w := by kernel_rfl
set_option maxHeartbeats 1000000 in
theorem len_any (s : Nat → Bool) (w : World) :
    Calls Tryd.prog 19 #[.agg #[.int .u64 (wd s 0), .int .u64 (wd s 1), .int .u64 (wd s 2), .int .u64 (wd s 3)]] w fun e w' => e = .returned (.int .i64 (cntN s 256)) ∧ Below w.heap.size w w' := by
  have HC := Lib.hid (cnt_word s)
  have HL := Lib.hid (cntN_le s)
  go_enter Tryd.func19, Tryd.ntmps19
  go_wp2
  go_loop [3, 7] (fun n i => ∃ k : Nat, k ≤ 4 ∧ i = .int .i64 k ∧ n = .int .i64 (cntN s (64 * k))) (fun _ i => 4 - (intOf i).toNat)
  case atStart => exact ⟨0, by omega, rfl, rfl⟩
  case round =>
    obtain ⟨k, hk, rfl, rfl⟩ := hrel
    have hq : k = 0 ∨ k = 1 ∨ k = 2 ∨ k = 3 ∨ k = 4 := by omega
    rcases hq with rfl | rfl | rfl | rfl | rfl
    case inr.inr.inr.inr =>
      go_wp2
      go_ret
      exact ⟨rfl, (Below.refl _ _).alloc (Nat.le_refl _) _⟩
    · have hi := idx25_0
      have h0 := HL.out (64 * 0)
      have h1 := cntN_le (fun i => s (64 * 0 + i)) 64
      have hc := HC.out 0
      obtain ⟨p, hp⟩ : ∃ p, p = cntN s (64 * 0) := ⟨_, rfl⟩
      obtain ⟨q, hq⟩ : ∃ q, q = cntN (fun i => s (64 * 0 + i)) 64 := ⟨_, rfl⟩
      have ho := fun w => ones_any (fun i => s (64 * 0 + i)) (wd s 0) w rfl
      rw [← hp] at h0 hc ⊢
      rw [← hq] at h1 hc ho
      have H := Lib.hid hc
      clear hc hp hq
      go_wp2_with (go_at_call 36; (with_reducible refine (ho _).mono ?_); rintro e w1 ⟨rfl, rfl⟩)
      go_round
      case rel => exact ⟨1, by omega, rfl, by rw [H.out]; go_num⟩
      case measure => decide
    · have hi := idx25_1
      have h0 := HL.out (64 * 1)
      have h1 := cntN_le (fun i => s (64 * 1 + i)) 64
      have hc := HC.out 1
      obtain ⟨p, hp⟩ : ∃ p, p = cntN s (64 * 1) := ⟨_, rfl⟩
      obtain ⟨q, hq⟩ : ∃ q, q = cntN (fun i => s (64 * 1 + i)) 64 := ⟨_, rfl⟩
      have ho := fun w => ones_any (fun i => s (64 * 1 + i)) (wd s 1) w rfl
      rw [← hp] at h0 hc ⊢
      rw [← hq] at h1 hc ho
      have H := Lib.hid hc
      clear hc hp hq
      go_wp2_with (go_at_call 36; (with_reducible refine (ho _).mono ?_); rintro e w1 ⟨rfl, rfl⟩)
      go_round
      case rel => exact ⟨2, by omega, rfl, by rw [H.out]; go_num⟩
      case measure => decide
    · have hi := idx25_2
      have h0 := HL.out (64 * 2)
      have h1 := cntN_le (fun i => s (64 * 2 + i)) 64
      have hc := HC.out 2
      obtain ⟨p, hp⟩ : ∃ p, p = cntN s (64 * 2) := ⟨_, rfl⟩
      obtain ⟨q, hq⟩ : ∃ q, q = cntN (fun i => s (64 * 2 + i)) 64 := ⟨_, rfl⟩
      have ho := fun w => ones_any (fun i => s (64 * 2 + i)) (wd s 2) w rfl
      rw [← hp] at h0 hc ⊢
      rw [← hq] at h1 hc ho
      have H := Lib.hid hc
      clear hc hp hq
      go_wp2_with (go_at_call 36; (with_reducible refine (ho _).mono ?_); rintro e w1 ⟨rfl, rfl⟩)
      go_round
      case rel => exact ⟨3, by omega, rfl, by rw [H.out]; go_num⟩
      case measure => decide
    · have hi := idx25_3
      have h0 := HL.out (64 * 3)
      have h1 := cntN_le (fun i => s (64 * 3 + i)) 64
      have hc := HC.out 3
      obtain ⟨p, hp⟩ : ∃ p, p = cntN s (64 * 3) := ⟨_, rfl⟩
      obtain ⟨q, hq⟩ : ∃ q, q = cntN (fun i => s (64 * 3 + i)) 64 := ⟨_, rfl⟩
      have ho := fun w => ones_any (fun i => s (64 * 3 + i)) (wd s 3) w rfl
      rw [← hp] at h0 hc ⊢
      rw [← hq] at h1 hc ho
      have H := Lib.hid hc
      clear hc hp hq
      go_wp2_with (go_at_call 36; (with_reducible refine (ho _).mono ?_); rintro e w1 ⟨rfl, rfl⟩)
      go_round
      case rel => exact ⟨4, by omega, rfl, by rw [H.out]; go_num⟩
      case measure => decide
/-- THE TABLE OF math/bits LIES IN BLOCK 0. -/
def Tab (w : World) : Prop := 0 < w.heap.size ∧ ∀ j, j < 64 → w.cell? ⟨0, j, none⟩ = some (.int .u8 (Lib.deBruijn64tab.getD j 0))
theorem Tab.below {w w' : World} (h : Tab w) (hb : Below w.heap.size w w') : Tab w' := ⟨Nat.lt_of_lt_of_le h.1 hb.size, fun j hj => (hb.cell (p := ⟨0, j, none⟩) h.1).trans (h.2 j hj)⟩
set_option maxHeartbeats 1000000 in
theorem tz_core (x k idx : Nat) (w : World) (hx0 : ((x : Int) == 0) = false)
    (key : IntKind.u64.wrap (bits BinOp.and IntKind.u64 (x : Int) (IntKind.u64.wrap (-(x : Int))) * 285870213051353865) / 288230376151711744 = (idx : Int))
    (hi : idx < 64) (hk : k < 64) (hcell : w.cell? ⟨0, idx, none⟩ = some (.int .u8 k)) :
    Calls Tryd.prog 42 #[.int .u64 x] w fun e w' => e = .returned (.int .i64 k) ∧ w = w' := by
  go_enter Tryd.func42, Tryd.ntmps42
  go_wp2_with (simp only [key])
  go_ret
  exact ⟨rfl, rfl⟩
theorem tz_any (x : Nat) (w : World) (hx : x < 18446744073709551616) (hx0 : x ≠ 0) (hT : Tab w) :
    Calls Tryd.prog 42 #[.int .u64 x] w fun e w' => e = .returned (.int .i64 (Lib.ctz 64 x)) ∧ w = w' := by
  obtain ⟨hlow, hk⟩ := Lib.lowest_bit 64 x hx0 hx
  obtain ⟨hi, htab⟩ := Lib.deBruijn64_at _ hk
  have hcell := hT.2 _ hi
  rw [htab] at hcell
  exact tz_core x _ _ w (by simp; omega) (tz64_key x _ hx hx0 hlow) hi hk hcell
end Go.Proofs.YtcnikeeapillnaaDoor

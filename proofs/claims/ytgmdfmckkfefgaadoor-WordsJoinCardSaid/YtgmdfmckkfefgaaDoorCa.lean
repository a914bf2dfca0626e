/- Plain arithmetic for layer 1: a class as a set of numbers (a function to Bool), its four words. Nothing here speaks of the program. -/
import Derived.Laws.Bits64
import Derived.Laws.Bits64b
namespace Go.Proofs.YtgmdfmckkfefgaaDoor
open Go

/-- The number whose lowest n bits are s. -/
def bitsN (s : Nat → Bool) : Nat → Nat
  | 0 => 0
  | n + 1 => bitsN s n + if s n then 2 ^ n else 0

theorem bitsN_lt (s : Nat → Bool) (n : Nat) : bitsN s n < 2 ^ n := by
  induction n with
  | zero => simp [bitsN]
  | succ n ih => rw [bitsN, Nat.pow_succ]; split <;> omega

theorem testBit_step (s : Nat → Bool) (n i : Nat) (ih : (bitsN s n).testBit i = (decide (i < n) && s i)) (hn : s n = true) (hl : bitsN s n < 2 ^ n) : (2 ^ n + bitsN s n).testBit i = (decide (i < n + 1) && s i) := by
  rcases Nat.lt_trichotomy i n with h | h | h
  · rw [Nat.testBit_two_pow_add_gt h, ih]; simp [h]; intro; omega
  · subst h
    rw [Nat.testBit_two_pow_add_eq, Nat.testBit_lt_two_pow hl]; simp [hn]
  · have : (2 ^ n + bitsN s n) < 2 ^ i := Nat.lt_of_lt_of_le (by rw [Nat.pow_succ]; omega) (Nat.pow_le_pow_right (by decide) (show n + 1 ≤ i from h))
    rw [Nat.testBit_lt_two_pow this]; simp; omega

theorem testBit_bitsN (s : Nat → Bool) (n i : Nat) : (bitsN s n).testBit i = (decide (i < n) && s i) := by
  induction n with
  | zero => simp [bitsN]
  | succ n ih =>
    have hl := bitsN_lt s n
    rw [bitsN]
    by_cases hn : s n
    · rw [if_pos hn, Nat.add_comm, testBit_step s n i ih hn hl]
    · rw [if_neg hn, Nat.add_zero, ih]
      by_cases h : i = n
      · subst h; simp [hn]
      · have : decide (i < n + 1) = decide (i < n) := by simp; omega
        rw [this]
theorem eq_bitsN {s : Nat → Bool} {x n : Nat} (hx : x < 2 ^ n) (h : ∀ i, i < n → x.testBit i = s i) : x = bitsN s n := by
  apply Nat.eq_of_testBit_eq
  intro i
  rw [testBit_bitsN]
  by_cases hi : i < n
  · simp [hi, h i hi]
  · simp [hi]; exact Nat.testBit_lt_two_pow (Nat.lt_of_lt_of_le hx (Nat.pow_le_pow_right (by decide) (by omega)))

theorem bitsN_congr {s t : Nat → Bool} {n : Nat} (h : ∀ i, i < n → s i = t i) : bitsN s n = bitsN t n :=
  eq_bitsN (bitsN_lt s n) fun i hi => by rw [testBit_bitsN]; simp [hi, h i hi]

/-- Word k of the class of s. -/
def cw (s : Nat → Bool) (k : Nat) : Nat := bitsN (fun i => s (64 * k + i)) 64

theorem cw_lt (s : Nat → Bool) (k : Nat) : cw s k < 18446744073709551616 := bitsN_lt _ 64
theorem testBit_cw (s : Nat → Bool) (k i : Nat) : (cw s k).testBit i = (decide (i < 64) && s (64 * k + i)) := testBit_bitsN _ 64 i
theorem eq_cw {s : Nat → Bool} {x k : Nat} (hx : x < 18446744073709551616) (h : ∀ i, i < 64 → x.testBit i = s (64 * k + i)) : x = cw s k := eq_bitsN hx h
theorem cw_congr {s t : Nat → Bool} {k : Nat} (h : ∀ i, i < 64 → s (64 * k + i) = t (64 * k + i)) : cw s k = cw t k := bitsN_congr h

/-- The set of the bits of words. -/
def setOf (x : Nat → Nat) : Nat → Bool := fun i => (x (i / 64)).testBit (i % 64)
theorem cw_setOf {x : Nat → Nat} {k : Nat} (hx : x k < 18446744073709551616) : cw (setOf x) k = x k := by
  refine (eq_cw hx fun i hi => ?_).symm
  unfold setOf
  rw [show (64 * k + i) / 64 = k by omega, show (64 * k + i) % 64 = i by omega]

/-- The words of a class with two sets that are alike below 256 are alike. -/
theorem cw_eq_of_lt {s t : Nat → Bool} (h : ∀ i, i < 256 → s i = t i) {k : Nat} (hk : k < 4) : cw s k = cw t k := cw_congr fun i hi => h _ (by omega)
theorem lt_of_cw_eq {s t : Nat → Bool} (h : ∀ k, k < 4 → cw s k = cw t k) {i : Nat} (hi : i < 256) : s i = t i := by
  have e := congrArg (fun x => x.testBit (i % 64)) (h (i / 64) (by omega))
  simp only [testBit_cw, show 64 * (i / 64) + i % 64 = i by omega, show i % 64 < 64 by omega, decide_true, Bool.true_and] at e
  exact e

theorem row_at (s : Nat → Bool) (k : Nat) (h : k < 4) : [Value.int .u64 (cw s 0), Value.int .u64 (cw s 1), Value.int .u64 (cw s 2), Value.int .u64 (cw s 3)][k]? = some (Value.int .u64 (cw s k)) := by
  match k, h with
  | 0, _ => rfl
  | 1, _ => rfl
  | 2, _ => rfl
  | 3, _ => rfl

theorem div_bit (a i : Nat) : a / 2 ^ i % 2 = if a.testBit i then 1 else 0 := by
  rw [Nat.testBit_eq_decide_div_mod_eq]; by_cases h : a / 2 ^ i % 2 = 1 <;> simp [h] <;> omega

/-- The test of one bit, as the walk spells it: with '& 1' and with '% 2'. -/
theorem and_bit (s : Nat → Bool) (x : Nat) : (bits BinOp.and IntKind.u64 ((cw s (x / 64) : Int) / 2 ^ (x % 64)) 1 == 1) = s x := by
  have e : ((cw s (x / 64) : Int) / 2 ^ (x % 64)) = ((cw s (x / 64) / 2 ^ (x % 64) : Nat) : Int) := by push_cast; rfl
  have hl : cw s (x / 64) / 2 ^ (x % 64) < 18446744073709551616 := Nat.lt_of_le_of_lt (Nat.div_le_self _ _) (cw_lt _ _)
  rw [e, show (1 : Int) = ((1 : Nat) : Int) from rfl, bits_and_u64_nat _ _ hl (by decide), Nat.and_one_is_mod, div_bit, testBit_cw, show 64 * (x / 64) + x % 64 = x by omega]
  have : x % 64 < 64 := by omega
  cases hs : s x <;> simp [this]
theorem mod_bit (s : Nat → Bool) (x : Nat) : ((cw s (x / 64) : Int) / 2 ^ (x % 64) % 2 == 1) = s x := by
  have e : ((cw s (x / 64) : Int) / 2 ^ (x % 64) % 2) = ((cw s (x / 64) / 2 ^ (x % 64) % 2 : Nat) : Int) := by push_cast; rfl
  rw [e, div_bit, testBit_cw, show 64 * (x / 64) + x % 64 = x by omega]
  have : x % 64 < 64 := by omega
  cases hs : s x <;> simp [this]

/-! The operations, word by word. -/
theorem cw_not (s : Nat → Bool) (k : Nat) : 18446744073709551615 - cw s k = cw (fun i => !s i) k := by
  refine eq_cw (by omega) fun i hi => ?_
  have h := Nat.testBit_two_pow_sub_succ (x := cw s k) (n := 64) (cw_lt s k) i
  rw [show 2 ^ 64 - (cw s k + 1) = 18446744073709551615 - cw s k by omega] at h
  rw [h, testBit_cw]; simp [hi]
theorem cw_or (s t : Nat → Bool) (k : Nat) : bits BinOp.or IntKind.u64 (cw s k : Int) (cw t k : Int) = (cw (fun i => s i || t i) k : Int) := by
  rw [bits_or_u64_nat _ _ (cw_lt _ _) (cw_lt _ _)]
  congr 1
  refine eq_cw (Nat.or_lt_two_pow (n := 64) (cw_lt _ _) (cw_lt _ _)) fun i hi => ?_
  rw [Nat.testBit_or, testBit_cw, testBit_cw]; simp [hi]
theorem cw_and (s t : Nat → Bool) (k : Nat) : bits BinOp.and IntKind.u64 (cw s k : Int) (cw t k : Int) = (cw (fun i => s i && t i) k : Int) := by
  rw [bits_and_u64_nat _ _ (cw_lt _ _) (cw_lt _ _)]
  congr 1
  refine eq_cw (Nat.and_lt_two_pow (n := 64) _ (cw_lt _ _)) fun i hi => ?_
  rw [Nat.testBit_and, testBit_cw, testBit_cw]; simp [hi]
/-- One byte more. -/
def cins (s : Nat → Bool) (x : Nat) : Nat → Bool := fun i => s i || i == x
theorem cw_ins (s : Nat → Bool) (x : Nat) : bits BinOp.or IntKind.u64 (cw s (x / 64) : Int) (IntKind.u64.wrap (2 ^ (x % 64))) = (cw (cins s x) (x / 64) : Int) := by
  have hp : 2 ^ (x % 64) < 18446744073709551616 := Nat.pow_lt_pow_right (by decide) (show x % 64 < 64 by omega)
  have e : IntKind.u64.wrap (2 ^ (x % 64)) = ((2 ^ (x % 64) : Nat) : Int) := by
    rw [IntKind.wrap_u64, show ((2 : Int) ^ (x % 64)) = ((2 ^ (x % 64) : Nat) : Int) from (by push_cast; rfl)]
    generalize 2 ^ (x % 64) = y at hp ⊢
    omega
  rw [e, bits_or_u64_nat _ _ (cw_lt _ _) hp]
  congr 1
  refine eq_cw (Nat.or_lt_two_pow (n := 64) (cw_lt _ _) hp) fun i hi => ?_
  rw [Nat.testBit_or, testBit_cw, Nat.testBit_two_pow]
  simp only [hi, decide_true, Bool.true_and, cins]
  congr 1
  by_cases h : x % 64 = i
  · simp [h]; omega
  · have : ¬ 64 * (x / 64) + i = x := by omega
    simp [h, this]
theorem cw_ins_other (s : Nat → Bool) (x k : Nat) (h : k ≠ x / 64) : cw s k = cw (cins s x) k := by
  refine cw_congr fun i hi => ?_
  have : ¬ 64 * k + i = x := by omega
  simp [cins, this]
theorem cw_none (k : Nat) : cw (fun _ => false) k = 0 := (eq_cw (by decide) fun i _ => Nat.zero_testBit i).symm
end Go.Proofs.YtgmdfmckkfefgaaDoor

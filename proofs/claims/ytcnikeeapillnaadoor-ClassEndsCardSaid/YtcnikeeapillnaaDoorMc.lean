/- Plain arithmetic: the bytes of a class, one by one, by the lowest bit of each word. Nothing here speaks of the program. -/
import Derived.Test.YtcnikeeapillnaaDoorMb
import Derived.Lib.TrailingZeros
namespace Go.Proofs.YtcnikeeapillnaaDoor
open Go

theorem testBit_shl (t y j : Nat) : (2 ^ t * y).testBit j = (decide (t ≤ j) && y.testBit (j - t)) := by
  have := Nat.testBit_two_pow_mul_add y (Nat.two_pow_pos t) j
  rw [Nat.add_zero] at this
  rw [this]
  by_cases h : j < t
  · simp [h]; intro; omega
  · simp [h, show t ≤ j by omega]

theorem ctz_form (x : Nat) (hx : x < 18446744073709551616) (h0 : x ≠ 0) : ∃ m, x = 2 ^ Lib.ctz 64 x * (2 * m + 1) ∧ Lib.ctz 64 x < 64 := by
  have := Lib.ctzFrom_spec 64 x (by omega) hx
  simpa [Lib.ctz, h0] using this

theorem ctz_bits (x : Nat) (hx : x < 18446744073709551616) (h0 : x ≠ 0) : x.testBit (Lib.ctz 64 x) = true ∧ ∀ j, j < Lib.ctz 64 x → x.testBit j = false := by
  obtain ⟨m, hm, _⟩ := ctz_form x hx h0
  generalize Lib.ctz 64 x = t at hm ⊢
  subst hm
  refine ⟨?_, fun j hj => ?_⟩
  · rw [testBit_shl]; simp [Nat.testBit_zero]
  · rw [testBit_shl]; simp; intro; omega

theorem and_pred (x : Nat) (hx : x < 18446744073709551616) (h0 : x ≠ 0) (j : Nat) : (x &&& (x - 1)).testBit j = (decide (Lib.ctz 64 x < j) && x.testBit j) := by
  obtain ⟨m, hm, _⟩ := ctz_form x hx h0
  generalize Lib.ctz 64 x = t at hm ⊢
  have e : x - 1 = 2 ^ t * (2 * m) + (2 ^ t - 1) := by
    have := Nat.two_pow_pos t
    rw [hm, Nat.mul_succ]; omega
  have hl : 2 ^ t - 1 < 2 ^ t := by have := Nat.two_pow_pos t; omega
  rw [Nat.testBit_and, e, Nat.testBit_two_pow_mul_add _ hl, hm, testBit_shl]
  by_cases h : j < t
  · have h1 : ¬ t ≤ j := by omega
    have h2 : ¬ t < j := by omega
    simp [h1, h2]
  · by_cases h2 : j = t
    · subst h2; simp [Nat.testBit_zero]
    · have h3 : t < j := by omega
      obtain ⟨i, hi⟩ : ∃ i, j - t = i + 1 := ⟨j - t - 1, by omega⟩
      simp only [h, if_false, h3, decide_true, Bool.true_and, show t ≤ j by omega, hi, Nat.testBit_succ]
      rw [show (2 * m + 1) / 2 = m by omega, show 2 * m / 2 = m by omega, Bool.and_self]

/-- What is left of s from p on. -/
def ge (s : Nat → Bool) (p : Nat) : Nat → Bool := fun j => s j && decide (p ≤ j)
/-- The bytes of s below p, rising. -/
def elems (s : Nat → Bool) (p : Nat) : List Nat := (List.range p).filter s
theorem elems_le (s : Nat → Bool) (p : Nat) : (elems s p).length ≤ p := by
  have := List.length_filter_le s (List.range p); simpa [elems] using this
theorem elems_succ (s : Nat → Bool) (p : Nat) : elems s (p + 1) = elems s p ++ if s p then [p] else [] := by
  unfold elems; rw [List.range_succ, List.filter_append]; cases h : s p <;> simp [h]
theorem elems_skip (s : Nat → Bool) (p : Nat) : ∀ d, (∀ j, p ≤ j → j < p + d → s j = false) → elems s (p + d) = elems s p
  | 0, _ => rfl
  | d + 1, h => by
    rw [← Nat.add_assoc, elems_succ, elems_skip s p d fun j h1 h2 => h j h1 (by omega), h (p + d) (by omega) (by omega)]; simp
theorem elems_skip' (s : Nat → Bool) {p q : Nat} (hpq : p ≤ q) (h : ∀ j, p ≤ j → j < q → s j = false) : elems s q = elems s p := by
  have := elems_skip s p (q - p) fun j h1 h2 => h j h1 (by omega)
  rwa [show p + (q - p) = q by omega] at this

theorem word_done (s : Nat → Bool) (k p : Nat) (h1 : 64 * k ≤ p) (h2 : p ≤ 64 * (k + 1)) (h0 : wd (ge s p) k = 0) : elems s (64 * (k + 1)) = elems s p := by
  refine elems_skip' s h2 fun j hj hj2 => ?_
  have := testBit_wd (ge s p) k (j - 64 * k)
  rw [h0, show 64 * k + (j - 64 * k) = j by omega] at this
  simpa [ge, show j - 64 * k < 64 by omega, hj] using this
theorem word_next (s : Nat → Bool) (k p : Nat) (h1 : 64 * k ≤ p) (h0 : wd (ge s p) k ≠ 0) :
    ∃ t, t = Lib.ctz 64 (wd (ge s p) k) ∧ t < 64 ∧ p ≤ 64 * k + t ∧ elems s (64 * k + t + 1) = elems s p ++ [64 * k + t] ∧
      wd (ge s p) k &&& (wd (ge s p) k - 1) = wd (ge s (64 * k + t + 1)) k := by
  have hl := wd_lt (ge s p) k
  obtain ⟨m, hm, ht⟩ := ctz_form _ hl h0
  obtain ⟨b1, b0⟩ := ctz_bits _ hl h0
  have ap := and_pred _ hl h0
  refine ⟨_, rfl, ht, ?_⟩
  generalize Lib.ctz 64 (wd (ge s p) k) = t at *
  rw [testBit_wd] at b1
  simp [ge] at b1
  obtain ⟨_, hs, hp⟩ := b1
  have hz : ∀ j, p ≤ j → j < 64 * k + t → s j = false := by
    intro j hj hj2
    have := b0 (j - 64 * k) (by omega)
    rw [testBit_wd, show 64 * k + (j - 64 * k) = j by omega] at this
    simpa [ge, show j - 64 * k < 64 by omega, hj] using this
  refine ⟨hp, ?_, ?_⟩
  · rw [elems_succ, hs, elems_skip' s hp hz]; rfl
  · refine eq_wd (Nat.and_lt_two_pow (n := 64) _ (by omega)) fun i hi => ?_
    rw [ap, testBit_wd]
    simp only [hi, decide_true, Bool.true_and, ge]
    by_cases h : t < i
    · simp [h, show p ≤ 64 * k + i by omega, show 64 * k + t + 1 ≤ 64 * k + i by omega]
    · simp [h, show ¬ 64 * k + t + 1 ≤ 64 * k + i by omega]
theorem ge_start (s : Nat → Bool) (k : Nat) : wd s k = wd (ge s (64 * k)) k := wd_congr fun i _ => by simp [ge]
theorem and_pred_lt (x : Nat) (h : x ≠ 0) : x &&& (x - 1) < x := Nat.lt_of_le_of_lt Nat.and_le_right (by omega)
end Go.Proofs.YtcnikeeapillnaaDoor

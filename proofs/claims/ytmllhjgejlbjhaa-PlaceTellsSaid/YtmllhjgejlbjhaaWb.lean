/- Contracts of layer 2: hasLine, own, bytes, known. -/
import Derived.Test.YtmllhjgejlbjhaaWa
import Derived.IntWalk
namespace Go.Proofs.Ytmllhjgejlbjhaa
open Go.RowKit

theorem ret_ints {a b c d : Int} (h : a = c) (h' : b = d) : Ending.returned (.tuple #[.int .i64 a, .int .i64 b]) = .returned (.tuple #[.int .i64 c, .int .i64 d]) := by rw [h, h']

set_option maxHeartbeats 400000 in
theorem hasLine_yes (A : Option Addr) (n c : Nat) (p : Int) (q : Nat) (hn : n < 4611686018427387904) (h1 : 1 ≤ q) (hq : q ≤ n) (w : World) :
    Calls Try.prog 27 #[.agg #[.slice A n c, .int .i64 p], .int .i64 q] w fun e w' => e = .returned (.bool true) ∧ Below w.heap.size w w' := by
  go_enter Try.func27, Try.ntmps27
  go_wp2_with (go_at_call 30; refine (count_any _ _ _ _ _).mono ?_; rintro e w' ⟨rfl, hb⟩)
  go_ret
  exact ⟨rfl, ((Below.refl _ _).alloc (Nat.le_refl _) _).trans (hb.mono (by simp))⟩
set_option maxHeartbeats 400000 in
theorem hasLine_no (A : Option Addr) (n c : Nat) (p : Int) (q : Int) (hn : n < 4611686018427387904) (hq : q < 1 ∨ (n : Int) < q) (w : World) :
    Calls Try.prog 27 #[.agg #[.slice A n c, .int .i64 p], .int .i64 q] w fun e w' => e = .returned (.bool false) ∧ Below w.heap.size w w' := by
  by_cases h0 : 1 ≤ q
  · have h1 : (n : Int) < q := by omega
    clear hq
    go_enter Try.func27, Try.ntmps27
    go_wp2_with (go_at_call 30; refine (count_any _ _ _ _ _).mono ?_; rintro e w' ⟨rfl, hb⟩)
    go_ret
    exact ⟨ret_bool (by simp; omega), ((Below.refl _ _).alloc (Nat.le_refl _) _).trans (hb.mono (by simp))⟩
  · have hd : decide (1 ≤ q) = false := by simpa using h0
    clear hq
    go_enter Try.func27, Try.ntmps27
    go_wp2
    go_ret
    exact ⟨rfl, (Below.refl _ _).alloc (Nat.le_refl _) _⟩

set_option maxHeartbeats 400000 in
theorem own_last (g c : Nat) (bs : List Nat) (L : Nat) (hn : bs.length < 4611686018427387904) (hL : L < 2305843009213693952) (h1 : 1 ≤ bs.length) (w : World) (hr : Nums w g bs) :
    Calls Try.prog 28 #[.agg #[.slice (some ⟨g, 0, none⟩) bs.length c, .int .i64 (L + 1 : Nat)], .int .i64 bs.length] w fun e w' => e = .returned (.tuple #[.int .i64 (bs.getD (bs.length - 1) 0 : Nat), .int .i64 (beh bs L bs.length : Nat)]) ∧ Below w.heap.size w w' := by
  obtain ⟨hg, hc⟩ := hr
  have hc0 := hc (bs.length - 1) (by omega)
  have HC := Lib.hid hc
  clear hc
  have e0 : beh bs L bs.length = L + 1 := by simp [beh]
  rw [e0]
  clear e0
  go_enter Try.func28, Try.ntmps28
  go_wp2_with (go_at_call 30; refine (count_any _ _ _ _ _).mono ?_; rintro e w1 ⟨rfl, hb⟩; have hq := bcell hb)
  obtain ⟨hqc, hqf⟩ := hq
  have hz := hb.size
  simp at hz
  have hw : IntKind.i64.wrap ((bs.length : Int) - 1) = ((bs.length - 1 : Nat) : Int) := (IntWalk.i64_in _ (by omega)).trans (by omega)
  have hx : ((bs.length - 1 : Nat) : Int) < bs.length := by omega
  go_quiet (fail)
  go_wp2
  go_ret2
  exact ⟨ret_ints rfl (by omega), bdrew (((Below.refl _ _).alloc (Nat.le_refl _) _).trans (hb.mono (by simp)))⟩

set_option maxHeartbeats 400000 in
theorem own_inner (g c : Nat) (bs : List Nat) (L q : Nat) (hn : bs.length < 4611686018427387904) (hL : L < 2305843009213693952) (h1 : 1 ≤ q) (hq : q < bs.length) (w : World) (hr : Nums w g bs) :
    Calls Try.prog 28 #[.agg #[.slice (some ⟨g, 0, none⟩) bs.length c, .int .i64 (L + 1 : Nat)], .int .i64 q] w fun e w' => e = .returned (.tuple #[.int .i64 (bs.getD (q - 1) 0 : Nat), .int .i64 (beh bs L q : Nat)]) ∧ Below w.heap.size w w' := by
  obtain ⟨hg, hc⟩ := hr
  have hc0 := hc (q - 1) (by omega)
  have hc1 := hc q hq
  have HC := Lib.hid hc
  clear hc
  have e0 : beh bs L q = bs.getD q 0 := by unfold beh; rw [if_neg (by omega)]
  rw [e0]
  clear e0
  have hd : ((q : Int) == (bs.length : Int)) = false := beq_eq_false_iff_ne.2 (by omega)
  go_enter Try.func28, Try.ntmps28
  go_wp2_with (go_at_call 30; refine (count_any _ _ _ _ _).mono ?_; rintro e w1 ⟨rfl, hb⟩; have hqq := bcell hb)
  obtain ⟨hqc, hqf⟩ := hqq
  have hz := hb.size
  simp at hz
  have hw : IntKind.i64.wrap ((q : Int) - 1) = ((q - 1 : Nat) : Int) := (IntWalk.i64_in _ (by omega)).trans (by omega)
  have hx : ((q - 1 : Nat) : Int) < bs.length := by omega
  have hx2 : (q : Int) < bs.length := by omega
  go_quiet (fail)
  go_wp2
  go_ret2
  exact ⟨ret_ints rfl (by rw [getD_of hq]), bdrew (((Below.refl _ _).alloc (Nat.le_refl _) _).trans (hb.mono (by simp)))⟩

theorem own_any (g c : Nat) (bs : List Nat) (L q : Nat) (hn : bs.length < 4611686018427387904) (hL : L < 2305843009213693952) (h1 : 1 ≤ q) (hq : q ≤ bs.length) (w : World) (hr : Nums w g bs) :
    Calls Try.prog 28 #[.agg #[.slice (some ⟨g, 0, none⟩) bs.length c, .int .i64 (L + 1 : Nat)], .int .i64 q] w fun e w' => e = .returned (.tuple #[.int .i64 (bs.getD (q - 1) 0 : Nat), .int .i64 (beh bs L q : Nat)]) ∧ Below w.heap.size w w' := by
  rcases Nat.lt_or_ge q bs.length with h | h
  · exact own_inner g c bs L q hn hL h1 h w hr
  · obtain rfl : q = bs.length := by omega
    exact own_last g c bs L hn hL h1 w hr

set_option maxHeartbeats 400000 in
theorem bytes_any (g c : Nat) (bs : List Nat) (L q : Nat) (hn : bs.length < 4611686018427387904) (hL : L < 2305843009213693952) (h1 : 1 ≤ q) (hq : q ≤ bs.length) (hbe : beh bs L q ≤ L + 1) (w : World) (hr : Nums w g bs) :
    Calls Try.prog 29 #[.agg #[.slice (some ⟨g, 0, none⟩) bs.length c, .int .i64 (L + 1 : Nat)], .int .i64 q] w fun e w' => e = .returned (.tuple #[.int .i64 (bs.getD (q - 1) 0 : Nat), .int .i64 (min (beh bs L q) L : Nat)]) ∧ Below w.heap.size w w' := by
  obtain ⟨n, en⟩ : ∃ n, n = bs.length := ⟨_, rfl⟩
  obtain ⟨b0, eb⟩ : ∃ b0, b0 = beh bs L q := ⟨_, rfl⟩
  have K : ∀ w, Nums w g bs → Calls Try.prog 28 #[.agg #[.slice (some ⟨g, 0, none⟩) n c, .int .i64 ((L : Int) + 1)], .int .i64 q] w fun e w' => e = .returned (.tuple #[.int .i64 (bs.getD (q - 1) 0 : Nat), .int .i64 (b0 : Nat)]) ∧ Below w.heap.size w w' := by
    intro w hr; subst en eb; exact own_any g c bs L q hn hL h1 hq w hr
  have Z : ∀ w, Calls Try.prog 31 #[.agg #[.slice (some ⟨g, 0, none⟩) n c, .int .i64 ((L : Int) + 1)]] w fun e w' => e = .returned (.int .i64 L) ∧ Below w.heap.size w w' := by
    intro w; exact size_any (some ⟨g, 0, none⟩) n c (L + 1) (by omega) w
  rw [← en, ← eb]
  rw [← eb] at hbe
  clear en eb
  have K := Lib.hid K
  have Z := Lib.hid Z
  have HR := Lib.hid hr
  obtain ⟨hg, _⟩ := hr
  go_enter Try.func29, Try.ntmps29
  go_wp2_with (first
    | (go_at_call 28; refine (K.out _ ((HR.out.below' ((Below.refl _ _).alloc (Nat.le_refl _) _)))).mono ?_; rintro e w1 ⟨rfl, hb⟩; obtain ⟨hqc, hqf⟩ := bcell hb)
    | (go_at_call 31; refine (Z.out _).mono ?_; rintro e w2 ⟨rfl, hb2⟩))
  all_goals
    go_ret2
    exact ⟨ret_ints rfl (by omega), (((Below.refl _ _).alloc (Nat.le_refl _) _).trans (hb.mono (by simp))).trans (hb2.mono (by have := hb.size; simp at this; omega))⟩
end Go.Proofs.Ytmllhjgejlbjhaa

/- Plain arithmetic for layer 1: a class as a set of numbers (a function to Bool), its four words. Nothing here speaks of the program. -/
import Derived.Laws.Bits64
import Derived.Laws.Bits64b
import Derived.Test.YtfghfnpiaccfaaaGreatDoorG1
import Derived.WalkKit
import Derived.WalkSpells
import Derived.WalkLawsBesides
import Derived.Deep.RegionHeld3
import Derived.Lib.Hide
import Derived.RangeFuncBox
import Derived.Test.YtfghfnpiaccfaaaGreatDoorG3
import Derived.Test.YtfghfnpiaccfaaaGreatDoorH0
import Derived.Maps.AppendAt
import Derived.Laws.OwnMore
import Derived.Laws.AppendOwnNone
import Derived.Lib.AtoiErrMem
import Derived.Deep.MidRow
import Derived.Laws.BytesArg
set_option linter.unusedSimpArgs false
set_option linter.unusedVariables false
namespace Go.Proofs.YtfghfnpiaccfaaaGreatDoor
open Go

/-- The number whose lowest n bits are s. -/
def bitsN (s : Nat → Bool) : Nat → Nat
  | 0 => 0
  | n + 1 => bitsN s n + if s n then 2 ^ n else 0

theorem bitsN_lt (s : Nat → Bool) (n : Nat) : bitsN s n < 2 ^ n := by
  induction n with
  | zero => simp [bitsN]
  | succ n ih => rw [bitsN, Nat.pow_succ]; split <;> omega

theorem testBit_step (s : Nat → Bool) (n i : Nat) (ih : (bitsN s n).testBit i = (decide (i < n) && s i)) (hn : s n = true) (hl : bitsN s n < 2 ^ n) : (2 ^ n + bitsN s n).testBit i = (decide (i < n + 1) && s i) := by
  rcases Nat.lt_trichotomy i n with h | h | h
  · rw [Nat.testBit_two_pow_add_gt h, ih]; simp [h]; intro; omega
  · subst h
    rw [Nat.testBit_two_pow_add_eq, Nat.testBit_lt_two_pow hl]; simp [hn]
  · have : (2 ^ n + bitsN s n) < 2 ^ i := Nat.lt_of_lt_of_le (by rw [Nat.pow_succ]; omega) (Nat.pow_le_pow_right (by decide) (show n + 1 ≤ i from h))
    rw [Nat.testBit_lt_two_pow this]; simp; omega

theorem testBit_bitsN (s : Nat → Bool) (n i : Nat) : (bitsN s n).testBit i = (decide (i < n) && s i) := by
  induction n with
  | zero => simp [bitsN]
  | succ n ih =>
    have hl := bitsN_lt s n
    rw [bitsN]
    by_cases hn : s n
    · rw [if_pos hn, Nat.add_comm, testBit_step s n i ih hn hl]
    · rw [if_neg hn, Nat.add_zero, ih]
      by_cases h : i = n
      · subst h; simp [hn]
      · have : decide (i < n + 1) = decide (i < n) := by simp; omega
        rw [this]
theorem eq_bitsN {s : Nat → Bool} {x n : Nat} (hx : x < 2 ^ n) (h : ∀ i, i < n → x.testBit i = s i) : x = bitsN s n := by
  apply Nat.eq_of_testBit_eq
  intro i
  rw [testBit_bitsN]
  by_cases hi : i < n
  · simp [hi, h i hi]
  · simp [hi]; exact Nat.testBit_lt_two_pow (Nat.lt_of_lt_of_le hx (Nat.pow_le_pow_right (by decide) (by omega)))

theorem bitsN_congr {s t : Nat → Bool} {n : Nat} (h : ∀ i, i < n → s i = t i) : bitsN s n = bitsN t n :=
  eq_bitsN (bitsN_lt s n) fun i hi => by rw [testBit_bitsN]; simp [hi, h i hi]

/-- Word k of the class of s. -/
def cw (s : Nat → Bool) (k : Nat) : Nat := bitsN (fun i => s (64 * k + i)) 64

theorem cw_lt (s : Nat → Bool) (k : Nat) : cw s k < 18446744073709551616 := bitsN_lt _ 64
theorem testBit_cw (s : Nat → Bool) (k i : Nat) : (cw s k).testBit i = (decide (i < 64) && s (64 * k + i)) := testBit_bitsN _ 64 i
theorem eq_cw {s : Nat → Bool} {x k : Nat} (hx : x < 18446744073709551616) (h : ∀ i, i < 64 → x.testBit i = s (64 * k + i)) : x = cw s k := eq_bitsN hx h
theorem cw_congr {s t : Nat → Bool} {k : Nat} (h : ∀ i, i < 64 → s (64 * k + i) = t (64 * k + i)) : cw s k = cw t k := bitsN_congr h

/-- The set of the bits of words. -/
def setOf (x : Nat → Nat) : Nat → Bool := fun i => (x (i / 64)).testBit (i % 64)
theorem cw_setOf {x : Nat → Nat} {k : Nat} (hx : x k < 18446744073709551616) : cw (setOf x) k = x k := by
  refine (eq_cw hx fun i hi => ?_).symm
  unfold setOf
  rw [show (64 * k + i) / 64 = k by omega, show (64 * k + i) % 64 = i by omega]

/-- The words of a class with two sets that are alike below 256 are alike. -/
theorem cw_eq_of_lt {s t : Nat → Bool} (h : ∀ i, i < 256 → s i = t i) {k : Nat} (hk : k < 4) : cw s k = cw t k := cw_congr fun i hi => h _ (by omega)
theorem lt_of_cw_eq {s t : Nat → Bool} (h : ∀ k, k < 4 → cw s k = cw t k) {i : Nat} (hi : i < 256) : s i = t i := by
  have e := congrArg (fun x => x.testBit (i % 64)) (h (i / 64) (by omega))
  simp only [testBit_cw, show 64 * (i / 64) + i % 64 = i by omega, show i % 64 < 64 by omega, decide_true, Bool.true_and] at e
  exact e

theorem row_at (s : Nat → Bool) (k : Nat) (h : k < 4) : [Value.int .u64 (cw s 0), Value.int .u64 (cw s 1), Value.int .u64 (cw s 2), Value.int .u64 (cw s 3)][k]? = some (Value.int .u64 (cw s k)) := by
  match k, h with
  | 0, _ => rfl
  | 1, _ => rfl
  | 2, _ => rfl
  | 3, _ => rfl

theorem div_bit (a i : Nat) : a / 2 ^ i % 2 = if a.testBit i then 1 else 0 := by
  rw [Nat.testBit_eq_decide_div_mod_eq]; by_cases h : a / 2 ^ i % 2 = 1 <;> simp [h] <;> omega

/-- The test of one bit, as the walk spells it: with '& 1' and with '% 2'. -/
theorem and_bit (s : Nat → Bool) (x : Nat) : (bits BinOp.and IntKind.u64 ((cw s (x / 64) : Int) / 2 ^ (x % 64)) 1 == 1) = s x := by
  have e : ((cw s (x / 64) : Int) / 2 ^ (x % 64)) = ((cw s (x / 64) / 2 ^ (x % 64) : Nat) : Int) := by push_cast; rfl
  have hl : cw s (x / 64) / 2 ^ (x % 64) < 18446744073709551616 := Nat.lt_of_le_of_lt (Nat.div_le_self _ _) (cw_lt _ _)
  rw [e, show (1 : Int) = ((1 : Nat) : Int) from rfl, bits_and_u64_nat _ _ hl (by decide), Nat.and_one_is_mod, div_bit, testBit_cw, show 64 * (x / 64) + x % 64 = x by omega]
  have : x % 64 < 64 := by omega
  cases hs : s x <;> simp [this]
theorem mod_bit (s : Nat → Bool) (x : Nat) : ((cw s (x / 64) : Int) / 2 ^ (x % 64) % 2 == 1) = s x := by
  have e : ((cw s (x / 64) : Int) / 2 ^ (x % 64) % 2) = ((cw s (x / 64) / 2 ^ (x % 64) % 2 : Nat) : Int) := by push_cast; rfl
  rw [e, div_bit, testBit_cw, show 64 * (x / 64) + x % 64 = x by omega]
  have : x % 64 < 64 := by omega
  cases hs : s x <;> simp [this]

/-! The operations, word by word. -/
theorem cw_not (s : Nat → Bool) (k : Nat) : 18446744073709551615 - cw s k = cw (fun i => !s i) k := by
  refine eq_cw (by omega) fun i hi => ?_
  have h := Nat.testBit_two_pow_sub_succ (x := cw s k) (n := 64) (cw_lt s k) i
  rw [show 2 ^ 64 - (cw s k + 1) = 18446744073709551615 - cw s k by omega] at h
  rw [h, testBit_cw]; simp [hi]
theorem cw_or (s t : Nat → Bool) (k : Nat) : bits BinOp.or IntKind.u64 (cw s k : Int) (cw t k : Int) = (cw (fun i => s i || t i) k : Int) := by
  rw [bits_or_u64_nat _ _ (cw_lt _ _) (cw_lt _ _)]
  congr 1
  refine eq_cw (Nat.or_lt_two_pow (n := 64) (cw_lt _ _) (cw_lt _ _)) fun i hi => ?_
  rw [Nat.testBit_or, testBit_cw, testBit_cw]; simp [hi]
theorem cw_and (s t : Nat → Bool) (k : Nat) : bits BinOp.and IntKind.u64 (cw s k : Int) (cw t k : Int) = (cw (fun i => s i && t i) k : Int) := by
  rw [bits_and_u64_nat _ _ (cw_lt _ _) (cw_lt _ _)]
  congr 1
  refine eq_cw (Nat.and_lt_two_pow (n := 64) _ (cw_lt _ _)) fun i hi => ?_
  rw [Nat.testBit_and, testBit_cw, testBit_cw]; simp [hi]
/-- One byte more. -/
def cins (s : Nat → Bool) (x : Nat) : Nat → Bool := fun i => s i || i == x
theorem cw_ins (s : Nat → Bool) (x : Nat) : bits BinOp.or IntKind.u64 (cw s (x / 64) : Int) (IntKind.u64.wrap (2 ^ (x % 64))) = (cw (cins s x) (x / 64) : Int) := by
  have hp : 2 ^ (x % 64) < 18446744073709551616 := Nat.pow_lt_pow_right (by decide) (show x % 64 < 64 by omega)
  have e : IntKind.u64.wrap (2 ^ (x % 64)) = ((2 ^ (x % 64) : Nat) : Int) := by
    rw [IntKind.wrap_u64, show ((2 : Int) ^ (x % 64)) = ((2 ^ (x % 64) : Nat) : Int) from (by push_cast; rfl)]
    generalize 2 ^ (x % 64) = y at hp ⊢
    omega
  rw [e, bits_or_u64_nat _ _ (cw_lt _ _) hp]
  congr 1
  refine eq_cw (Nat.or_lt_two_pow (n := 64) (cw_lt _ _) hp) fun i hi => ?_
  rw [Nat.testBit_or, testBit_cw, Nat.testBit_two_pow]
  simp only [hi, decide_true, Bool.true_and, cins]
  congr 1
  by_cases h : x % 64 = i
  · simp [h]; omega
  · have : ¬ 64 * (x / 64) + i = x := by omega
    simp [h, this]
theorem cw_ins_other (s : Nat → Bool) (x k : Nat) (h : k ≠ x / 64) : cw s k = cw (cins s x) k := by
  refine cw_congr fun i hi => ?_
  have : ¬ 64 * k + i = x := by omega
  simp [cins, this]
theorem cw_none (k : Nat) : cw (fun _ => false) k = 0 := (eq_cw (by decide) fun i _ => Nat.zero_testBit i).symm
end Go.Proofs.YtfghfnpiaccfaaaGreatDoor
namespace Go.Proofs.YtfghfnpiaccfaaaGreatDoor
open Go Go.RowKit

theorem below2 (w : World) (o p : Obj) : Below w.heap.size w ((w.alloc o).alloc p) := ((Below.refl _ _).alloc (Nat.le_refl _) _).alloc (by simp) _
theorem below3 (w : World) (o p q : Obj) : Below w.heap.size w (((w.alloc o).alloc p).alloc q) := (below2 w o p).alloc (by simp; omega) _
theorem World.setCell_drewN' (w : World) (n : Nat) (a : Addr) (v : Value) : (w.drewN n).setCell a v = (w.setCell a v).drewN n := rfl
theorem Blk.set {w : World} {b : Nat} {vs : Array Value} {T : TypeId} (h : Blk w b vs T) (j : Nat) (v : Value) : Blk (w.setCell ⟨b, j, none⟩ v) b (vs.setIfInBounds j v) T := by
  obtain ⟨hlt, hk⟩ := Array.getElem?_eq_some_iff.1 h
  show (w.heap.modify b _)[b]? = _
  rw [Array.getElem?_eq_getElem (by rw [Array.size_modify]; exact hlt), Array.getElem_modify_self, hk]
  simp
/-- All four words of a class's block, written. -/
theorem Blk.set4 {w : World} {b : Nat} {a0 a1 a2 a3 v0 v1 v2 v3 : Value} {T : TypeId} (h : Blk w b #[a0, a1, a2, a3] T) :
    Blk ((((w.setCell ⟨b, 0, none⟩ v0).setCell ⟨b, 1, none⟩ v1).setCell ⟨b, 2, none⟩ v2).setCell ⟨b, 3, none⟩ v3) b #[v0, v1, v2, v3] T := by
  have := (((h.set 0 v0).set 1 v1).set 2 v2).set 3 v3
  simpa using this
theorem below_set4 {B : Nat} {a w : World} (h : Below B a w) {b : Nat} (hb : B ≤ b) (v0 v1 v2 v3 : Value) :
    Below B a ((((w.setCell ⟨b, 0, none⟩ v0).setCell ⟨b, 1, none⟩ v1).setCell ⟨b, 2, none⟩ v2).setCell ⟨b, 3, none⟩ v3) :=
  (((h.setCell (p := ⟨b, 0, none⟩) hb _).setCell (p := ⟨b, 1, none⟩) hb _).setCell (p := ⟨b, 2, none⟩) hb _).setCell (p := ⟨b, 3, none⟩) hb _
theorem Blk.set4_other {w : World} {b c : Nat} {vs : Array Value} {v0 v1 v2 v3 : Value} {T : TypeId} (h : Blk w c vs T) (hne : c ≠ b) :
    Blk ((((w.setCell ⟨b, 0, none⟩ v0).setCell ⟨b, 1, none⟩ v1).setCell ⟨b, 2, none⟩ v2).setCell ⟨b, 3, none⟩ v3) c vs T := by
  unfold Blk
  rw [Below.heap_setCell _ _ _ _ hne, Below.heap_setCell _ _ _ _ hne, Below.heap_setCell _ _ _ _ hne, Below.heap_setCell _ _ _ _ hne]
  exact h
/-- What the walk wants of a class's block. -/
theorem Blk.four {w : World} {b : Nat} {a0 a1 a2 a3 : Value} {T : TypeId} (h : Blk w b #[a0, a1, a2, a3] T) :
    (w.cell? ⟨b, 0, none⟩ = some a0 ∧ w.cell? ⟨b, 1, none⟩ = some a1 ∧ w.cell? ⟨b, 2, none⟩ = some a2 ∧ w.cell? ⟨b, 3, none⟩ = some a3) ∧
    (w.frozen? ⟨b, 0, none⟩ = false ∧ w.frozen? ⟨b, 1, none⟩ = false ∧ w.frozen? ⟨b, 2, none⟩ = false ∧ w.frozen? ⟨b, 3, none⟩ = false) :=
  ⟨⟨h.cell 0, h.cell 1, h.cell 2, h.cell 3⟩, ⟨h.frozen 0, h.frozen 1, h.frozen 2, h.frozen 3⟩⟩

def nw (s t : Nat → Bool) (k j : Nat) : Nat := if j < k then cw t j else cw s j
theorem nw_at (s t : Nat → Bool) (k : Nat) : nw s t k k = cw s k := if_neg (by omega)
theorem nw_row0 (s t : Nat → Bool) (x : Int) (h : x = cw t 0) : (#[.int .u64 x, .int .u64 (nw s t 0 1), .int .u64 (nw s t 0 2), .int .u64 (nw s t 0 3)] : Array Value) = #[.int .u64 (nw s t 1 0), .int .u64 (nw s t 1 1), .int .u64 (nw s t 1 2), .int .u64 (nw s t 1 3)] := by subst h; rfl
theorem nw_row1 (s t : Nat → Bool) (x : Int) (h : x = cw t 1) : (#[.int .u64 (nw s t 1 0), .int .u64 x, .int .u64 (nw s t 1 2), .int .u64 (nw s t 1 3)] : Array Value) = #[.int .u64 (nw s t 2 0), .int .u64 (nw s t 2 1), .int .u64 (nw s t 2 2), .int .u64 (nw s t 2 3)] := by subst h; rfl
theorem nw_row2 (s t : Nat → Bool) (x : Int) (h : x = cw t 2) : (#[.int .u64 (nw s t 2 0), .int .u64 (nw s t 2 1), .int .u64 x, .int .u64 (nw s t 2 3)] : Array Value) = #[.int .u64 (nw s t 3 0), .int .u64 (nw s t 3 1), .int .u64 (nw s t 3 2), .int .u64 (nw s t 3 3)] := by subst h; rfl
theorem nw_row3 (s t : Nat → Bool) (x : Int) (h : x = cw t 3) : (#[.int .u64 (nw s t 3 0), .int .u64 (nw s t 3 1), .int .u64 (nw s t 3 2), .int .u64 x] : Array Value) = #[.int .u64 (nw s t 4 0), .int .u64 (nw s t 4 1), .int .u64 (nw s t 4 2), .int .u64 (nw s t 4 3)] := by subst h; rfl
theorem nw_row4 (s t : Nat → Bool) : (#[.int .u64 (nw s t 4 0), .int .u64 (nw s t 4 1), .int .u64 (nw s t 4 2), .int .u64 (nw s t 4 3)] : Array Value) = #[.int .u64 (cw t 0), .int .u64 (cw t 1), .int .u64 (cw t 2), .int .u64 (cw t 3)] := rfl
theorem ins_rows (s : Nat → Bool) (x : Nat) : (∀ k, k ≠ x / 64 → cw s k = cw (cins s x) k) := fun k => cw_ins_other s x k
set_option maxHeartbeats 1000000 in
theorem with_any (s : Nat → Bool) (x : Nat) (w : World) (h1 : x < 256) :
    Calls Tryz.prog 279 #[.agg #[.int .u64 (cw s 0), .int .u64 (cw s 1), .int .u64 (cw s 2), .int .u64 (cw s 3)], .int .u8 x] w fun e w' => e = .returned (.agg #[.int .u64 (cw (cins s x) 0), .int .u64 (cw (cins s x) 1), .int .u64 (cw (cins s x) 2), .int .u64 (cw (cins s x) 3)]) ∧ Below w.heap.size w w' := by
  have e0 := cw_ins_other s x
  have e1 := cw_ins s x
  obtain ⟨t, ht⟩ : ∃ t, t = cins s x := ⟨_, rfl⟩
  rw [← ht] at e0 e1 ⊢
  have E0 := Lib.hid e0
  have E1 := Lib.hid e1
  clear e0 e1 ht
  have hq : x / 64 = 0 ∨ x / 64 = 1 ∨ x / 64 = 2 ∨ x / 64 = 3 := by omega
  rcases hq with h | h | h | h
  all_goals
    have e1 := E1.out
    rw [h] at e1
    go_enter Tryz.func279, Tryz.ntmps279
    go_wp2
    have q0 := E0.out 0
    have q1 := E0.out 1
    have q2 := E0.out 2
    have q3 := E0.out 3
    rw [h] at q0 q1 q2 q3
    simp at q0 q1 q2 q3
    refine bodyPost_ret (v := .agg #[.int .u64 (cw t 0), .int .u64 (cw t 1), .int .u64 (cw t 2), .int .u64 (cw t 3)]) (by simp [results, Tryz.results279, go_sem, *]; done) rfl ⟨rfl, ?_⟩
    exact below2 _ _ _

set_option maxHeartbeats 1000000 in
theorem or_any (s t0 : Nat → Bool) (w : World) :
    Calls Tryz.prog 266 #[.agg #[.int .u64 (cw s 0), .int .u64 (cw s 1), .int .u64 (cw s 2), .int .u64 (cw s 3)], .agg #[.int .u64 (cw t0 0), .int .u64 (cw t0 1), .int .u64 (cw t0 2), .int .u64 (cw t0 3)]] w fun e w' => e = .returned (.agg #[.int .u64 (cw (fun i => s i || t0 i) 0), .int .u64 (cw (fun i => s i || t0 i) 1), .int .u64 (cw (fun i => s i || t0 i) 2), .int .u64 (cw (fun i => s i || t0 i) 3)]) ∧ Below w.heap.size w w' := by
  obtain ⟨t, ht⟩ : ∃ t : Nat → Bool, t = fun i => s i || t0 i := ⟨_, rfl⟩
  have hx := cw_or s t0
  rw [← ht] at hx ⊢
  have HX := Lib.hid hx
  clear ht hx
  go_enter Tryz.func266, Tryz.ntmps266
  go_wp2
  go_loopw [6] (fun i wr => ∃ k : Nat, k ≤ 4 ∧ i = .int .i64 k ∧ ∃ n, wr = World.drewN (((w.alloc (.cells #[.int .u64 (nw s t k 0), .int .u64 (nw s t k 1), .int .u64 (nw s t k 2), .int .u64 (nw s t k 3)] 295)).alloc (.cells #[.int .u64 (cw t0 0), .int .u64 (cw t0 1), .int .u64 (cw t0 2), .int .u64 (cw t0 3)] 295)).alloc (.cells #[.int .u64 0, .int .u64 0, .int .u64 0, .int .u64 0] 295)) n) (fun i _ => 4 - (intOf i).toNat)
  case atStart => exact ⟨0, by omega, rfl, 0, rfl⟩
  case round =>
    obtain ⟨k, hk, rfl, nd, rfl⟩ := hrel
    have hq : k = 0 ∨ k = 1 ∨ k = 2 ∨ k = 3 ∨ k = 4 := by omega
    rcases hq with rfl | rfl | rfl | rfl | rfl
    case inr.inr.inr.inr =>
      rw [nw_row4 s t]
      go_wp2
      refine bodyPost_ret (v := .agg #[.int .u64 (cw t 0), .int .u64 (cw t 1), .int .u64 (cw t 2), .int .u64 (cw t 3)]) (by simp [results, Tryz.results266, go_sem]; done) rfl ⟨rfl, ?_⟩
      exact below_set4 (bdrew (below3 _ _ _ _)) (by omega) _ _ _ _
    · go_wp2
      go_region
      go_wp2
      go_roundw
      case rel => exact ⟨1, by omega, rfl, nd + 1, by rw [← nw_row0 s t _ ((congrArg (fun z : Nat => bits BinOp.or IntKind.u64 (z : Int) _) (nw_at s t 0)).trans (HX.out 0))]; refine (World.setCell_drewN' _ _ _ _).trans (congrArg (fun z => World.drewN z (nd + 1)) ?_); go_simp⟩
      case measure => decide
    · go_wp2
      go_region
      go_wp2
      go_roundw
      case rel => exact ⟨2, by omega, rfl, nd + 1, by rw [← nw_row1 s t _ ((congrArg (fun z : Nat => bits BinOp.or IntKind.u64 (z : Int) _) (nw_at s t 1)).trans (HX.out 1))]; refine (World.setCell_drewN' _ _ _ _).trans (congrArg (fun z => World.drewN z (nd + 1)) ?_); go_simp⟩
      case measure => decide
    · go_wp2
      go_region
      go_wp2
      go_roundw
      case rel => exact ⟨3, by omega, rfl, nd + 1, by rw [← nw_row2 s t _ ((congrArg (fun z : Nat => bits BinOp.or IntKind.u64 (z : Int) _) (nw_at s t 2)).trans (HX.out 2))]; refine (World.setCell_drewN' _ _ _ _).trans (congrArg (fun z => World.drewN z (nd + 1)) ?_); go_simp⟩
      case measure => decide
    · go_wp2
      go_region
      go_wp2
      go_roundw
      case rel => exact ⟨4, by omega, rfl, nd + 1, by rw [← nw_row3 s t _ ((congrArg (fun z : Nat => bits BinOp.or IntKind.u64 (z : Int) _) (nw_at s t 3)).trans (HX.out 3))]; refine (World.setCell_drewN' _ _ _ _).trans (congrArg (fun z => World.drewN z (nd + 1)) ?_); go_simp⟩
      case measure => decide
end Go.Proofs.YtfghfnpiaccfaaaGreatDoor
namespace Go.Proofs.YtfghfnpiaccfaaaGreatDoor
open Go Go.RowKit

/-- The set of a list's bytes. -/
def mem (l : List Nat) : Nat → Bool := fun i => l.contains i
theorem mem_snoc (l : List Nat) (x : Nat) : mem (l ++ [x]) = cins (mem l) x := by
  funext i; simp [mem, cins, List.contains_append]; rw [Bool.eq_iff_iff]; simp; try omega
theorem mem_take (l : List Nat) (k : Nat) (h : k < l.length) : mem (l.take (k + 1)) = cins (mem (l.take k)) (l[k]?.getD 0) := by
  rw [← mem_snoc, List.take_succ_eq_append_getElem h]; simp [h]
theorem row_none : (#[.int .u64 0, .int .u64 0, .int .u64 0, .int .u64 0] : Array Value) = #[.int .u64 (cw (mem []) 0), .int .u64 (cw (mem []) 1), .int .u64 (cw (mem []) 2), .int .u64 (cw (mem []) 3)] := by
  have h : mem [] = fun _ => false := by funext i; simp [mem]
  rw [h, cw_none, cw_none, cw_none, cw_none]; rfl

theorem blk_new1 (w : World) (o : Obj) (vs : Array Value) (T : TypeId) : Blk ((w.alloc o).alloc (.cells vs T)) (w.heap.size + 1) vs T := by
  have h := Blk.new (w.alloc o) vs T
  rwa [World.size_alloc] at h
set_option maxHeartbeats 1000000 in
theorem of_nil (w : World) :
    Calls Tryz.prog 263 #[.slice none 0 0] w fun e w' => e = .returned (.agg #[.int .u64 (cw (mem []) 0), .int .u64 (cw (mem []) 1), .int .u64 (cw (mem []) 2), .int .u64 (cw (mem []) 3)]) ∧ Below w.heap.size w w' := by
  have hr := Lib.hid row_none
  go_enter Tryz.func263, Tryz.ntmps263
  go_wp2
  go_loop [8] (fun i => i = .int .i64 0) (fun _ => 0)
  case atStart => rfl
  case round =>
    subst hrel
    go_wp2
    refine bodyPost_ret (v := .agg #[.int .u64 (cw (mem []) 0), .int .u64 (cw (mem []) 1), .int .u64 (cw (mem []) 2), .int .u64 (cw (mem []) 3)]) (by simp [results, Tryz.results263, go_sem]; exact ⟨rfl, rfl, rfl, rfl⟩) rfl ⟨rfl, ?_⟩
    exact below2 _ _ _

set_option maxHeartbeats 1000000 in
theorem of_cells (b off cap : Nat) (l : List Nat) (w : World) (hlen : l.length ≤ maxLen) (hl : ∀ j, j < l.length → l[j]?.getD 0 < 256) (hb : b < w.heap.size)
    (hc : ∀ j, j < l.length → w.cell? ⟨b, off + j, none⟩ = some (.int .u8 (l[j]?.getD 0))) :
    Calls Tryz.prog 263 #[.slice (some ⟨b, off, none⟩) l.length cap] w fun e w' => e = .returned (.agg #[.int .u64 (cw (mem l) 0), .int .u64 (cw (mem l) 1), .int .u64 (cw (mem l) 2), .int .u64 (cw (mem l) 3)]) ∧ Below w.heap.size w w' := by
  have HR := Lib.hid row_none
  have HC := Lib.hid hc
  have HL := Lib.hid hl
  unfold maxLen at hlen
  clear hc hl
  go_enter Tryz.func263, Tryz.ntmps263
  go_wp2
  go_loopw [8] (fun i wr => ∃ k : Nat, k ≤ l.length ∧ i = .int .i64 k ∧ Blk wr (w.heap.size + 1) #[.int .u64 (cw (mem (l.take k)) 0), .int .u64 (cw (mem (l.take k)) 1), .int .u64 (cw (mem (l.take k)) 2), .int .u64 (cw (mem (l.take k)) 3)] 295 ∧ Blk wr w.heap.size #[.int .u64 0, .int .u64 0, .int .u64 0, .int .u64 0] 46 ∧ Below w.heap.size w wr) (fun i _ => l.length - (intOf i).toNat)
  case atStart => exact ⟨0, by omega, rfl, by simp only [List.take_zero]; rw [← HR.out]; exact blk_new1 _ _ _ _, (Blk.new _ _ _).alloc _, below2 _ _ _⟩
  case round =>
    obtain ⟨k, hk, rfl, hB, hA, hbl⟩ := hrel
    by_cases hlt : k < l.length
    · have hcell := (hbl.cell (p := ⟨b, off + k, none⟩) hb).trans (HC.out k hlt)
      have hx := HL.out k hlt
      have hm := mem_take l k hlt
      obtain ⟨x, hxe⟩ : ∃ x, x = l[k]?.getD 0 := ⟨_, rfl⟩
      obtain ⟨s, hse⟩ : ∃ s, s = mem (l.take k) := ⟨_, rfl⟩
      rw [← hxe] at hcell hx hm
      rw [← hse] at hB hm
      have HM := Lib.hid hm
      clear hxe hse hm
      obtain ⟨⟨c0, c1, c2, c3⟩, ⟨f0, f1, f2, f3⟩⟩ := hB.four
      have hBs := hB.lt
      go_wp2_with (go_at_call 279; (with_reducible refine (with_any s x _ hx).mono ?_); rintro e w1 ⟨rfl, hb1⟩; have hB1 := hB.below hb1 hBs; have hA1 := hA.below hb1 hA.lt; obtain ⟨⟨c10, c11, c12, c13⟩, ⟨f10, f11, f12, f13⟩⟩ := hB1.four; have hbl1 := hbl.trans (hb1.mono hbl.size); clear c0 c1 c2 c3 f0 f1 f2 f3)
      go_roundw
      case rel => exact ⟨k + 1, by omega, by go_num, by rw [HM.out]; exact hB1.set4, hA1.set4_other (by omega), below_set4 hbl1 (by omega) _ _ _ _⟩
      case measure => simp [intOf]; omega
    · obtain rfl : k = l.length := by omega
      obtain ⟨⟨c0, c1, c2, c3⟩, ⟨f0, f1, f2, f3⟩⟩ := hB.four
      obtain ⟨⟨d0, d1, d2, d3⟩, ⟨g0, g1, g2, g3⟩⟩ := hA.four
      rw [List.take_length] at c0 c1 c2 c3
      go_wp2
      refine bodyPost_ret (v := .agg #[.int .u64 (cw (mem l) 0), .int .u64 (cw (mem l) 1), .int .u64 (cw (mem l) 2), .int .u64 (cw (mem l) 3)]) (by simp [results, Tryz.results263, go_sem, *]; done) rfl ⟨rfl, ?_⟩
      exact below_set4 hbl (Nat.le_refl _) _ _ _ _
/-- The numbers from a on, below b. -/
def rng (a b : Nat) : Nat → Bool := fun i => decide (a ≤ i ∧ i < b)
theorem rng_none (a b : Nat) (h : b ≤ a) : rng a b = mem [] := by
  funext i; simp [rng, mem]; intro; omega
theorem rng_ins (a n : Nat) (h : a ≤ n) : rng a (n + 1) = cins (rng a n) n := by
  funext i; simp only [rng, cins]; rw [Bool.eq_iff_iff]; simp; omega

set_option maxHeartbeats 1000000 in
theorem range_any (a b : Nat) (w : World) (ha : a < 256) (hb : b < 256) :
    Calls Tryz.prog 264 #[.int .u8 a, .int .u8 b] w fun e w' => e = .returned (.agg #[.int .u64 (cw (rng a (b + 1)) 0), .int .u64 (cw (rng a (b + 1)) 1), .int .u64 (cw (rng a (b + 1)) 2), .int .u64 (cw (rng a (b + 1)) 3)]) ∧ Below w.heap.size w w' := by
  have HR := Lib.hid row_none
  go_enter Tryz.func264, Tryz.ntmps264
  go_wp2
  go_loopw [6] (fun i wr => ∃ n : Nat, a ≤ n ∧ (n ≤ b + 1 ∨ n = a) ∧ i = .int .i64 n ∧ Blk wr (w.heap.size + 1) #[.int .u64 (cw (rng a n) 0), .int .u64 (cw (rng a n) 1), .int .u64 (cw (rng a n) 2), .int .u64 (cw (rng a n) 3)] 295 ∧ Blk wr w.heap.size #[.int .u64 0, .int .u64 0, .int .u64 0, .int .u64 0] 46 ∧ Below w.heap.size w wr) (fun i _ => b + 1 - (intOf i).toNat)
  case atStart => exact ⟨a, by omega, .inr rfl, rfl, by rw [rng_none a a (Nat.le_refl _), ← HR.out]; exact blk_new1 _ _ _ _, (Blk.new _ _ _).alloc _, below2 _ _ _⟩
  case round =>
    obtain ⟨n, hn, hk, rfl, hB, hA, hbl⟩ := hrel
    by_cases hlt : n ≤ b
    · have hx : n < 256 := by omega
      have hm := rng_ins a n hn
      obtain ⟨s, hse⟩ : ∃ s, s = rng a n := ⟨_, rfl⟩
      rw [← hse] at hB hm
      have HM := Lib.hid hm
      clear hse hm hk
      obtain ⟨⟨c0, c1, c2, c3⟩, ⟨f0, f1, f2, f3⟩⟩ := hB.four
      have hBs := hB.lt
      go_wp2_with (go_at_call 279; (with_reducible refine (with_any s n _ hx).mono ?_); rintro e w1 ⟨rfl, hb1⟩; have hB1 := hB.below hb1 hBs; have hA1 := hA.below hb1 hA.lt; obtain ⟨⟨c10, c11, c12, c13⟩, ⟨f10, f11, f12, f13⟩⟩ := hB1.four; have hbl1 := hbl.trans (hb1.mono hbl.size); clear c0 c1 c2 c3 f0 f1 f2 f3)
      go_roundw
      case rel => exact ⟨n + 1, by omega, by omega, by go_num, by rw [HM.out]; exact hB1.set4, hA1.set4_other (by omega), below_set4 hbl1 (by omega) _ _ _ _⟩
      case measure => simp [intOf]; omega
    · have hm : rng a n = rng a (b + 1) := by
        rcases hk with h | rfl
        · rw [show n = b + 1 by omega]
        · rw [rng_none _ _ (Nat.le_refl _), rng_none _ _ (by omega)]
      rw [hm] at hB
      clear hm hk
      obtain ⟨⟨c0, c1, c2, c3⟩, ⟨f0, f1, f2, f3⟩⟩ := hB.four
      obtain ⟨⟨d0, d1, d2, d3⟩, ⟨g0, g1, g2, g3⟩⟩ := hA.four
      go_wp2
      refine bodyPost_ret (v := .agg #[.int .u64 (cw (rng a (b + 1)) 0), .int .u64 (cw (rng a (b + 1)) 1), .int .u64 (cw (rng a (b + 1)) 2), .int .u64 (cw (rng a (b + 1)) 3)]) (by simp [results, Tryz.results264, go_sem, *]; done) rfl ⟨rfl, ?_⟩
      exact below_set4 hbl (Nat.le_refl _) _ _ _ _

theorem blk_mid (w : World) (o p : Obj) (vs : Array Value) (T : TypeId) : Blk (((w.alloc o).alloc (.cells vs T)).alloc p) (w.heap.size + 1) vs T := (blk_new1 w o vs T).alloc p
def getS (ss : List (Nat → Bool)) (k : Nat) : Nat → Bool := ss[k]?.getD (fun _ => false)
theorem foldl_take (ss : List (Nat → Bool)) (f : (Nat → Bool) → (Nat → Bool) → Nat → Bool) (s0 : Nat → Bool) (k : Nat) (h : k < ss.length) : (ss.take (k + 1)).foldl f s0 = f ((ss.take k).foldl f s0) (getS ss k) := by
  rw [List.take_succ_eq_append_getElem h, List.foldl_append]; simp [getS, h]
set_option maxHeartbeats 1000000 in
theorem fold_cells (s0 : Nat → Bool) (b off cap : Nat) (ss : List (Nat → Bool)) (w : World) (hlen : ss.length ≤ maxLen) (hb : b < w.heap.size) (r : Nat → Bool) (hr : ss.foldl (fun s t i => s i || t i) s0 = r)
    (hc : ∀ j, j < ss.length → ∀ i, i < 4 → w.cell? ⟨b, off + j * 4 + i, none⟩ = some (.int .u64 (cw (getS ss j) i))) :
    Calls Tryz.prog 265 #[.agg #[.int .u64 (cw s0 0), .int .u64 (cw s0 1), .int .u64 (cw s0 2), .int .u64 (cw s0 3)], .func (.func 266) #[] #[], .slice (some ⟨b, off, none⟩) ss.length cap] w fun e w' => e = .returned (.agg #[.int .u64 (cw r 0), .int .u64 (cw r 1), .int .u64 (cw r 2), .int .u64 (cw r 3)]) ∧ Below w.heap.size w w' := by
  have HC := Lib.hid hc
  have HS := Lib.hid hr
  unfold maxLen at hlen
  clear hc hr
  go_enter Tryz.func265, Tryz.ntmps265
  go_wp2
  go_loopw [13] (fun i wr => ∃ k : Nat, k ≤ ss.length ∧ i = .int .i64 k ∧ Blk wr (w.heap.size + 1 + 1) #[.int .u64 (cw (((ss.take k).foldl (fun s t i => s i || t i) s0)) 0), .int .u64 (cw (((ss.take k).foldl (fun s t i => s i || t i) s0)) 1), .int .u64 (cw (((ss.take k).foldl (fun s t i => s i || t i) s0)) 2), .int .u64 (cw (((ss.take k).foldl (fun s t i => s i || t i) s0)) 3)] 295 ∧ Blk wr (w.heap.size + 1) #[.int .u64 0, .int .u64 0, .int .u64 0, .int .u64 0] 46 ∧ Below w.heap.size w wr) (fun i _ => ss.length - (intOf i).toNat)
  case atStart => exact ⟨0, by omega, rfl, by simpa using blk_new1 (w.alloc _) _ _ _, blk_mid _ _ _ _ _, below3 _ _ _ _⟩
  case round =>
    obtain ⟨k, hk, rfl, hB, hA, hbl⟩ := hrel
    by_cases hlt : k < ss.length
    · have e0 := (hbl.cell (p := ⟨b, off + k * 4 + 0, none⟩) hb).trans (HC.out k hlt 0 (by decide))
      have e1 := (hbl.cell (p := ⟨b, off + k * 4 + 1, none⟩) hb).trans (HC.out k hlt 1 (by decide))
      have e2 := (hbl.cell (p := ⟨b, off + k * 4 + 2, none⟩) hb).trans (HC.out k hlt 2 (by decide))
      have e3 := (hbl.cell (p := ⟨b, off + k * 4 + 3, none⟩) hb).trans (HC.out k hlt 3 (by decide))
      rw [Nat.add_zero] at e0
      have hm := foldl_take ss (fun s t i => s i || t i) s0 k hlt
      obtain ⟨s, hse⟩ : ∃ s, s = (ss.take k).foldl (fun s t i => s i || t i) s0 := ⟨_, rfl⟩
      obtain ⟨t, hte⟩ : ∃ t, t = getS ss k := ⟨_, rfl⟩
      rw [← hse] at hB hm
      rw [← hte] at e0 e1 e2 e3 hm
      have HM := Lib.hid hm
      clear hse hte hm
      obtain ⟨⟨c0, c1, c2, c3⟩, ⟨f0, f1, f2, f3⟩⟩ := hB.four
      have hBs := hB.lt
      have hBa := hB.alloc (.cells #[.int .u64 (cw t 0), .int .u64 (cw t 1), .int .u64 (cw t 2), .int .u64 (cw t 3)] 46)
      have hAa := hA.alloc (.cells #[.int .u64 (cw t 0), .int .u64 (cw t 1), .int .u64 (cw t 2), .int .u64 (cw t 3)] 46)
      have hbla := hbl.alloc (o := (.cells #[.int .u64 (cw t 0), .int .u64 (cw t 1), .int .u64 (cw t 2), .int .u64 (cw t 3)] 46)) hbl.size
      go_wp2_with (go_at_call 266; (with_reducible refine (or_any s t _).mono ?_); rintro e w1 ⟨rfl, hb1⟩; have hB1 := hBa.below hb1 (by simp; omega); have hA1 := hAa.below hb1 (by simp; omega); obtain ⟨⟨c10, c11, c12, c13⟩, ⟨f10, f11, f12, f13⟩⟩ := hB1.four; have hbl1 := hbla.trans (hb1.mono hbla.size); clear c0 c1 c2 c3 f0 f1 f2 f3 e0 e1 e2 e3)
      go_roundw
      case rel => exact ⟨k + 1, by omega, by go_num, by rw [HM.out]; exact hB1.set4, hA1.set4_other (by omega), below_set4 hbl1 (by omega) _ _ _ _⟩
      case measure => simp [intOf]; omega
    · obtain rfl : k = ss.length := by omega
      rw [List.take_length, HS.out] at hB
      obtain ⟨⟨c0, c1, c2, c3⟩, ⟨f0, f1, f2, f3⟩⟩ := hB.four
      obtain ⟨⟨d0, d1, d2, d3⟩, ⟨g0, g1, g2, g3⟩⟩ := hA.four
      go_wp2
      refine bodyPost_ret (v := .agg #[.int .u64 (cw r 0), .int .u64 (cw r 1), .int .u64 (cw r 2), .int .u64 (cw r 3)]) (by simp [results, Tryz.results265, go_sem, *]; done) rfl ⟨rfl, ?_⟩
      exact below_set4 hbl (by omega) _ _ _ _
set_option maxHeartbeats 1000000 in
theorem fold_nil (s0 : Nat → Bool) (g : Nat) (w : World) :
    Calls Tryz.prog 265 #[.agg #[.int .u64 (cw s0 0), .int .u64 (cw s0 1), .int .u64 (cw s0 2), .int .u64 (cw s0 3)], .func (.func g) #[] #[], .slice none 0 0] w fun e w' => e = .returned (.agg #[.int .u64 (cw s0 0), .int .u64 (cw s0 1), .int .u64 (cw s0 2), .int .u64 (cw s0 3)]) ∧ Below w.heap.size w w' := by
  go_enter Tryz.func265, Tryz.ntmps265
  go_wp2
  go_loop [13] (fun i => i = .int .i64 0) (fun _ => 0)
  case atStart => rfl
  case round =>
    subst hrel
    go_wp2
    refine bodyPost_ret (v := .agg #[.int .u64 (cw s0 0), .int .u64 (cw s0 1), .int .u64 (cw s0 2), .int .u64 (cw s0 3)]) (by simp [results, Tryz.results265, go_sem]; done) rfl ⟨rfl, ?_⟩
    exact below3 _ _ _ _
/-- THE VALUE v IS A ROW OF CLASSES ss, in a block below B; or nil, and there are none. -/
def ClsAt (w : World) (B : Nat) (v : Value) (ss : List (Nat → Bool)) : Prop :=
  (v = .slice none 0 0 ∧ ss = []) ∨ ∃ b off cap, v = .slice (some ⟨b, off, none⟩) ss.length cap ∧ b < B ∧ ss.length ≤ maxLen ∧ ∀ j, j < ss.length → ∀ i, i < 4 → w.cell? ⟨b, off + j * 4 + i, none⟩ = some (.int .u64 (cw (getS ss j) i))
theorem ClsAt.below {w w' : World} {B B' : Nat} {v : Value} {ss : List (Nat → Bool)} (h : ClsAt w B v ss) (hb : Below B w w') (hB : B ≤ B') : ClsAt w' B' v ss := by
  rcases h with h | ⟨b, off, cap, hv, hl, hm, hc⟩
  · exact .inl h
  · exact .inr ⟨b, off, cap, hv, by omega, hm, fun j hj i hi => (hb.cell (p := ⟨b, off + j * 4 + i, none⟩) hl).trans (hc j hj i hi)⟩
theorem fold_or (s0 r : Nat → Bool) (v : Value) (ss : List (Nat → Bool)) (w : World) (h : ClsAt w w.heap.size v ss) (hr : ss.foldl (fun s t i => s i || t i) s0 = r) :
    Calls Tryz.prog 265 #[.agg #[.int .u64 (cw s0 0), .int .u64 (cw s0 1), .int .u64 (cw s0 2), .int .u64 (cw s0 3)], .func (.func 266) #[] #[], v] w fun e w' => e = .returned (.agg #[.int .u64 (cw r 0), .int .u64 (cw r 1), .int .u64 (cw r 2), .int .u64 (cw r 3)]) ∧ Below w.heap.size w w' := by
  rcases h with ⟨rfl, rfl⟩ | ⟨b, off, cap, rfl, hl, hm, hc⟩
  · subst hr; exact fold_nil s0 266 w
  · exact fold_cells s0 b off cap ss w hm hl r hr hc
/-- What is in one, in all, of some. -/
def anyS (ss : List (Nat → Bool)) : Nat → Bool := fun i => ss.any (fun s => s i)
theorem foldl_any (ss : List (Nat → Bool)) : ∀ s0, ss.foldl (fun s t i => s i || t i) s0 = fun i => s0 i || ss.any (fun s => s i) := by
  induction ss with
  | nil => intro s0; funext i; simp
  | cons s ss ih => intro s0; rw [List.foldl_cons, ih]; funext i; simp [Bool.or_assoc]
theorem foldl_anyS (ss : List (Nat → Bool)) : ss.foldl (fun s t i => s i || t i) (mem []) = anyS ss := by
  rw [foldl_any]; funext i; simp [mem, anyS]
theorem cls_none : (.agg #[.int .u64 0, .int .u64 0, .int .u64 0, .int .u64 0] : Value) = .agg #[.int .u64 (cw (mem []) 0), .int .u64 (cw (mem []) 1), .int .u64 (cw (mem []) 2), .int .u64 (cw (mem []) 3)] := congrArg Value.agg row_none
theorem fold_or0 (v : Value) (ss : List (Nat → Bool)) (w : World) (h : ClsAt w w.heap.size v ss) :
    Calls Tryz.prog 265 #[.agg #[.int .u64 0, .int .u64 0, .int .u64 0, .int .u64 0], .func (.func 266) #[] #[], v] w fun e w' => e = .returned (.agg #[.int .u64 (cw (anyS ss) 0), .int .u64 (cw (anyS ss) 1), .int .u64 (cw (anyS ss) 2), .int .u64 (cw (anyS ss) 3)]) ∧ Below w.heap.size w w' := by
  rw [cls_none]; exact fold_or _ _ _ _ _ h (foldl_anyS ss)
set_option maxHeartbeats 1000000 in
theorem orf_any (v : Value) (ss : List (Nat → Bool)) (w : World) (h : ClsAt w w.heap.size v ss) :
    Calls Tryz.prog 243 #[v] w fun e w' => e = .returned (.agg #[.int .u64 (cw (anyS ss) 0), .int .u64 (cw (anyS ss) 1), .int .u64 (cw (anyS ss) 2), .int .u64 (cw (anyS ss) 3)]) ∧ Below w.heap.size w w' := by
  have H := Lib.hid h
  clear h
  obtain ⟨r, hr⟩ : ∃ r, r = anyS ss := ⟨_, rfl⟩
  have hf := fun w h => fold_or0 v ss w h
  rw [← hr] at hf ⊢
  clear hr
  go_enter Tryz.func243, Tryz.ntmps243
  go_wp2_with (go_at_call 265; (with_reducible refine (hf _ (H.out.below ((Below.refl _ w).alloc (Nat.le_refl _) _) (by simp))).mono ?_); rintro e w1 ⟨rfl, hb1⟩; have hA := (Blk.new w #[.int .u64 0, .int .u64 0, .int .u64 0, .int .u64 0] 46).below hb1 (by simp); have hbl := ((Below.refl _ w).alloc (Nat.le_refl _) _).trans (hb1.mono (by simp)); obtain ⟨⟨d0, d1, d2, d3⟩, ⟨g0, g1, g2, g3⟩⟩ := hA.four)
  refine bodyPost_ret (v := .agg #[.int .u64 (cw r 0), .int .u64 (cw r 1), .int .u64 (cw r 2), .int .u64 (cw r 3)]) (by simp [results, Tryz.results243, go_sem, *]; done) rfl ⟨rfl, ?_⟩
  exact below_set4 hbl (Nat.le_refl _) _ _ _ _
end Go.Proofs.YtfghfnpiaccfaaaGreatDoor
namespace Go.Proofs.YtfghfnpiaccfaaaGreatDoor
open Go Go.RowKit
set_option maxRecDepth 100000
theorem Rd.grown {w w' : World} {b r : Nat} {s : ByteArray} {k : Nat} (h : Rd w b s k) (hg : w.grownBy w' (some r)) (hne : b ≠ r) : Rd w' b s k := Blk.grown h hg (fun e => hne (Option.some.inj e))
theorem Tab.grown {w w' : World} {b : Nat} (h : Tab w) (hg : w.grownBy w' (some b)) (hb : b ≠ 2) : Tab w' := by
  obtain ⟨ev, h1, h2⟩ := h
  have h0 : 2 < w.heap.size := World.block_lt_of_cell? _ _ h1
  exact ⟨ev, (World.cell?_of_block (a := ⟨2, 0, none⟩) (hg.block 2 h0 (fun e => hb (Option.some.inj e).symm))).trans h1, h2⟩
end Go.Proofs.YtfghfnpiaccfaaaGreatDoor
namespace Go.Proofs.YtfghfnpiaccfaaaGreatDoor
open Go Go.RowKit
set_option maxRecDepth 100000
abbrev cval (c : Nat → Bool) : Value := .agg #[.int .u64 (cw c 0), .int .u64 (cw c 1), .int .u64 (cw c 2), .int .u64 (cw c 3)]
theorem mem_rng (x : Nat) : mem [x] = rng x (x + 1) := by
  funext i
  simp only [mem, rng]
  rw [Bool.eq_iff_iff]
  simp
  omega
theorem isPre_one (c : Nat) (l : List Nat) : isPre [c] l = decide (l.head? = some c) := by
  cases l with
  | nil => simp [isPre]
  | cons d r => rw [Bool.eq_iff_iff]; simp [isPre]; exact eq_comm
theorem of_one (x : Nat) (hx : x < 256) (b cap : Nat) (w : World) (hb : b < w.heap.size) (h : w.cell? ⟨b, 0, none⟩ = some (.int .u8 x)) :
    Calls Tryz.prog 263 #[.slice (some ⟨b, 0, none⟩) 1 cap] w fun e w' => e = .returned (cval (rng x (x + 1))) ∧ Below w.heap.size w w' := by
  have := of_cells b 0 cap [x] w (by simp [maxLen]) (fun j hj => by
    have : j = 0 := by simpa using hj
    subst this
    simpa using hx) hb (fun j hj => by
    have : j = 0 := by simpa using hj
    subst this
    simpa using h)
  rw [mem_rng] at this
  exact this
theorem heap_new_cell (w : World) (v : Value) (T : TypeId) : (w.alloc (.cells #[v] T)).cell? ⟨w.heap.size, 0, none⟩ = some v := (Blk.new w #[v] T).cell 0
theorem str45 : Str ⟨#[45]⟩ [45] := rfl
theorem take1_yes (c b k : Nat) (t s : ByteArray) (ht : Str t [c]) (l : List Nat) (hs : Str s l) (hl : l.length ≤ 60000) (hk : k ≤ l.length) (hp : (l.drop k).head? = some c) (w : World) (h : Rd w b s k) :
    Calls Tryz.prog 233 #[.pointer (some ⟨b, 0, none⟩), .string t] w fun e w' => e = .returned (.bool true) ∧ w.grownBy w' (some b) ∧ Rd w' b s (k + 1) := by
  have q := take_yes b k s t l [c] hs ht hl (by simp) hk (by rw [isPre_one]; simpa using hp) w h
  rw [show ([c] : List Nat).length = 1 from rfl] at q
  exact q
theorem take1_no (c b k : Nat) (t s : ByteArray) (ht : Str t [c]) (l : List Nat) (hs : Str s l) (hk : k ≤ l.length) (hp : (l.drop k).head? ≠ some c) (w : World) (h : Rd w b s k) :
    Calls Tryz.prog 233 #[.pointer (some ⟨b, 0, none⟩), .string t] w fun e w' => e = .returned (.bool false) ∧ Below w.heap.size w w' ∧ Rd w' b s k :=
  (take_no b k s t l [c] hs ht hk (by rw [isPre_one]; simpa using hp) w h).mono fun _ _ ⟨he, n, hw⟩ => ⟨he, by rw [hw]; exact bdrew (Below.refl _ _), by rw [hw]; exact h⟩
/-- What a try has left: the reader somewhere. -/
def Some' (w w' : World) (b : Nat) (s : ByteArray) (m : Nat) : Prop := w.grownBy w' (some b) ∧ ∃ j, j ≤ m ∧ Rd w' b s j
set_option maxRecDepth 100000 in
set_option maxHeartbeats 4000000 in
theorem item_no (b k : Nat) (s : ByteArray) (l : List Nat) (hs : Str s l) (hl : l.length ≤ 60000) (hk : k ≤ l.length) (hi : item (l.drop k) = none) (w : World) (h : Rd w b s k) (hT : Tab w) (hb0 : b ≠ 2) :
    Calls Tryz.prog 242 #[.pointer (some ⟨b, 0, none⟩)] w fun e w' => e = .returned (.tuple #[.agg #[.int .u64 0, .int .u64 0, .int .u64 0, .int .u64 0], .bool false]) ∧ Some' w w' b s l.length := by
  have hbw := h.lt
  have CN := Lib.hid (fun j hj hr W hW hTW => cread_no b j 2 s l hs hl hj hr W hW hTW)
  have CY := Lib.hid (fun j x n hj hr W hW hTW => cread_yes b j x n 2 s l hs hl hj hr W hW hTW)
  have TY := Lib.hid (fun j hj hp W hW => take1_yes 45 b j ⟨#[45]⟩ s str45 l hs hl hj hp W hW)
  have HH := Lib.hid h
  have HT := Lib.hid hT
  have LT := Lib.hid (hs.lt)
  cases hr : rd 2 (l.drop k) with
  | none =>
    have HR := Lib.hid hr
    clear hi hr h hT
    go_enter Tryz.func242, Tryz.ntmps242
    go_wp2_with (first | (go_at_call 241; (with_reducible refine (CN.out k hk HR.out _ (HH.out.below (B1 w _)) (HT.out.below (B1 w _))).mono ?_); rintro e w1 ⟨rfl, hb⟩; have K1 := Lib.hid ((Blk.new w _ _).below' hb); have R1 := Lib.hid ((HH.out.below (B1 w _)).below hb); have H1 := Lib.hid (bb (B1 w _) hb); clear hb) | (refine wpList_store_whole rfl 46 (.tmp 2) (.tmp 16) rfl w.heap.size #[.int .u64 0, .int .u64 0, .int .u64 0, .int .u64 0] rfl rfl 46 _ K1.out (by kernel_rfl) (by rfl) (by simp [Value.oneCell']) ?_; intro w2 hk2 hg2; have K2 := Lib.hid hk2; have G2 := Lib.hid hg2; clear hk2 hg2))
    exact bodyPost_ret (results_cell_tmp rfl _ _ w.heap.size 46 _ _ _ rfl rfl K2.out Tryz.underlying46 rfl (by kernel_rfl)) rfl ⟨rfl, below_is_grown (below_new H1.out H1.out.size G2.out (Nat.le_refl _)) _, k, hk, R1.out.grown G2.out (by omega)⟩
  | some xn =>
    obtain ⟨x, n⟩ := xn
    obtain ⟨_, n1, n2, hx, _, _⟩ := rd_ok (fun y hy => hs.lt y (List.mem_of_mem_drop hy)) hr
    rw [List.length_drop] at n2
    have hi2 := hi
    unfold item at hi2
    rw [hr] at hi2
    simp only at hi2
    by_cases h45 : ((l.drop k).drop n).head? = some 45
    · rw [if_pos h45] at hi2
      have h45' : (l.drop (k + n)).head? = some 45 := by rw [← List.drop_drop]; exact h45
      have hr2 : rd 2 (l.drop (k + n + 1)) = none := by
        rw [List.drop_drop, ← Nat.add_assoc] at hi2
        cases h2 : rd 2 (l.drop (k + n + 1)) with
        | none => rfl
        | some y => rw [h2] at hi2; cases hi2
      have hlt : k + n < l.length := by
        apply Nat.lt_of_not_le
        intro hge
        rw [List.drop_of_length_le hge] at h45'
        cases h45'
      have HR := Lib.hid hr
      have HR2 := Lib.hid hr2
      have H45 := Lib.hid h45'
      have e1 : k + n ≤ l.length := by omega
      have e2 : k + n + 1 ≤ l.length := by omega
      clear hi hi2 hr hr2 h45 h45' h hT
      go_enter Tryz.func242, Tryz.ntmps242
      go_wp2_with (first | (go_at_call 241; (with_reducible refine (CY.out k x n hk HR.out _ (HH.out.below (B1 w _)) (HT.out.below (B1 w _))).mono ?_); rintro e w1 ⟨rfl, hg, hR⟩; have K1 := Lib.hid ((Blk.new w _ _).grown hg (by simp; omega)); have R1 := Lib.hid hR; have T1 := Lib.hid ((HT.out.below (B1 w _)).grown hg hb0); have G1 := Lib.hid (grown_trans (below_is_grown (B1 w _) _) hg); clear hg hR) | (go_at_call 233; (with_reducible refine (TY.out (k + n) e1 H45.out _ R1.out).mono ?_); rintro e w2 ⟨rfl, hg, hR⟩; have K2 := Lib.hid (K1.out.grown hg (by simp; omega)); have R2 := Lib.hid hR; have T2 := Lib.hid (T1.out.grown hg hb0); have G2 := Lib.hid (grown_trans G1.out hg); clear hg hR) | (go_at_call 241; (with_reducible refine (CN.out (k + n + 1) e2 HR2.out _ R2.out T2.out).mono ?_); rintro e w3 ⟨rfl, hb⟩; have K3 := Lib.hid (K2.out.below' hb); have R3 := Lib.hid (R2.out.below hb); have G3 := Lib.hid (grown_on G2.out hb); clear hb) | (refine wpList_store_whole rfl 46 (.tmp 2) (.tmp 34) rfl w.heap.size #[.int .u64 0, .int .u64 0, .int .u64 0, .int .u64 0] rfl rfl 46 _ K3.out (by kernel_rfl) (by rfl) (by simp [Value.oneCell']) ?_; intro w4 hk2 hg2; have K4 := Lib.hid hk2; have G4 := Lib.hid hg2; clear hk2 hg2))
      exact bodyPost_ret (results_cell_tmp rfl _ _ w.heap.size 46 _ _ _ rfl rfl K4.out Tryz.underlying46 rfl (by kernel_rfl)) rfl ⟨rfl, grown_new G3.out G4.out (Nat.le_refl _), _, e2, R3.out.grown G4.out (by omega)⟩
    · rw [if_neg h45] at hi2
      cases hi2
set_option maxRecDepth 100000 in
set_option maxHeartbeats 4000000 in
theorem item_yes (b k u v m : Nat) (s : ByteArray) (l : List Nat) (hs : Str s l) (hl : l.length ≤ 60000) (hk : k ≤ l.length) (hi : item (l.drop k) = some ((u, v), m)) (w : World) (h : Rd w b s k) (hT : Tab w) (hb0 : b ≠ 2) :
    Calls Tryz.prog 242 #[.pointer (some ⟨b, 0, none⟩)] w fun e w' => e = .returned (.tuple #[cval (rng u (v + 1)), .bool true]) ∧ w.grownBy w' (some b) ∧ Rd w' b s (k + m) := by
  have hbw := h.lt
  have CY := Lib.hid (fun j x n hj hr W hW hTW => cread_yes b j x n 2 s l hs hl hj hr W hW hTW)
  have TY := Lib.hid (fun j hj hp W hW => take1_yes 45 b j ⟨#[45]⟩ s str45 l hs hl hj hp W hW)
  have TN := Lib.hid (fun j hj hp W hW => take1_no 45 b j ⟨#[45]⟩ s str45 l hs hj hp W hW)
  have HH := Lib.hid h
  have HT := Lib.hid hT
  cases hr : rd 2 (l.drop k) with
  | none => unfold item at hi; rw [hr] at hi; cases hi
  | some xn =>
    obtain ⟨x, n⟩ := xn
    obtain ⟨_, n1, n2, hx, _, _⟩ := rd_ok (fun y hy => hs.lt y (List.mem_of_mem_drop hy)) hr
    rw [List.length_drop] at n2
    unfold item at hi
    rw [hr] at hi
    simp only at hi
    have HR := Lib.hid hr
    have e1 : k + n ≤ l.length := by omega
    by_cases h45 : ((l.drop k).drop n).head? = some 45
    · rw [if_pos h45] at hi
      have h45' : (l.drop (k + n)).head? = some 45 := by rw [← List.drop_drop]; exact h45
      rw [List.drop_drop, ← Nat.add_assoc] at hi
      cases h2 : rd 2 (l.drop (k + n + 1)) with
      | none => rw [h2] at hi; cases hi
      | some yz =>
        obtain ⟨y, z⟩ := yz
        obtain ⟨_, m1, m2, hy, _, _⟩ := rd_ok (fun y hy => hs.lt y (List.mem_of_mem_drop hy)) h2
        rw [h2] at hi
        simp only [Option.map_some, Option.some.injEq, Prod.mk.injEq] at hi
        obtain ⟨⟨rfl, rfl⟩, rfl⟩ := hi
        have hlt : k + n < l.length := by
          apply Nat.lt_of_not_le
          intro hge
          rw [List.drop_of_length_le hge] at h45'
          cases h45'
        have HR2 := Lib.hid h2
        have H45 := Lib.hid h45'
        have RG := Lib.hid (fun W => range_any x y W hx hy)
        obtain ⟨c, ec⟩ : ∃ c, c = rng x (y + 1) := ⟨_, rfl⟩
        rw [← ec] at RG ⊢
        have e2 : k + n + 1 ≤ l.length := by omega
        have e3 : k + (n + 1 + z) = k + n + 1 + z := by omega
        rw [e3]
        clear hr h45 h45' h2 h hT hs ec e3
        go_enter Tryz.func242, Tryz.ntmps242
        go_wp2_with (first | (go_at_call 241; (with_reducible refine (CY.out k x n hk HR.out _ (HH.out.below (B1 w _)) (HT.out.below (B1 w _))).mono ?_); rintro e w1 ⟨rfl, hg, hR⟩; have K1 := Lib.hid ((Blk.new w _ _).grown hg (by simp; omega)); have R1 := Lib.hid hR; have T1 := Lib.hid ((HT.out.below (B1 w _)).grown hg hb0); have G1 := Lib.hid (grown_trans (below_is_grown (B1 w _) _) hg); clear hg hR) | (go_at_call 233; (with_reducible refine (TY.out (k + n) e1 H45.out _ R1.out).mono ?_); rintro e w2 ⟨rfl, hg, hR⟩; have K2 := Lib.hid (K1.out.grown hg (by simp; omega)); have R2 := Lib.hid hR; have T2 := Lib.hid (T1.out.grown hg hb0); have G2 := Lib.hid (grown_trans G1.out hg); clear hg hR) | (go_at_call 241; (with_reducible refine (CY.out (k + n + 1) y z e2 HR2.out _ R2.out T2.out).mono ?_); rintro e w3 ⟨rfl, hg, hR⟩; have K3 := Lib.hid (K2.out.grown hg (by simp; omega)); have R3 := Lib.hid hR; have G3 := Lib.hid (grown_trans G2.out hg); clear hg hR) | (go_at_call 264; (with_reducible refine (RG.out _).mono ?_); rintro e w4 ⟨rfl, hb⟩; have K4 := Lib.hid (K3.out.below' hb); have R4 := Lib.hid (R3.out.below hb); have G4 := Lib.hid (grown_on G3.out hb); clear hb) | (refine wpList_store_whole rfl 46 (.tmp 2) (.tmp 37) rfl w.heap.size #[.int .u64 (cw c 0), .int .u64 (cw c 1), .int .u64 (cw c 2), .int .u64 (cw c 3)] rfl rfl 46 _ K4.out (by kernel_rfl) (by rfl) (by simp [Value.oneCell']) ?_; intro w5 hk2 hg2; have K5 := Lib.hid hk2; have G5 := Lib.hid hg2; clear hk2 hg2))
        exact bodyPost_ret (results_cell_tmp rfl _ _ w.heap.size 46 _ _ _ rfl rfl K5.out Tryz.underlying46 rfl (by kernel_rfl)) rfl ⟨rfl, grown_new G4.out G5.out (Nat.le_refl _), R4.out.grown G5.out (by omega)⟩
    · rw [if_neg h45] at hi
      simp only [Option.some.injEq, Prod.mk.injEq] at hi
      obtain ⟨⟨rfl, rfl⟩, rfl⟩ := hi
      have h45' : (l.drop (k + n)).head? ≠ some 45 := by rw [← List.drop_drop]; exact h45
      have H45 := Lib.hid h45'
      have OF := Lib.hid (fun B cap W hB hc => of_one x hx B cap W hB hc)
      obtain ⟨c, ec⟩ : ∃ c, c = rng x (x + 1) := ⟨_, rfl⟩
      rw [← ec] at OF ⊢
      clear hr h45 h45' h hT hs ec
      go_enter Tryz.func242, Tryz.ntmps242
      go_wp2_with (first | (go_at_call 241; (with_reducible refine (CY.out k x n hk HR.out _ (HH.out.below (B1 w _)) (HT.out.below (B1 w _))).mono ?_); rintro e w1 ⟨rfl, hg, hR⟩; have K1 := Lib.hid ((Blk.new w _ _).grown hg (by simp; omega)); have R1 := Lib.hid hR; have T1 := Lib.hid ((HT.out.below (B1 w _)).grown hg hb0); have G1 := Lib.hid (grown_trans (below_is_grown (B1 w _) _) hg); clear hg hR) | (go_at_call 233; (with_reducible refine (TN.out (k + n) e1 H45.out _ R1.out).mono ?_); rintro e w2 ⟨rfl, hb, hR⟩; have K2 := Lib.hid (K1.out.below' hb); have R2 := Lib.hid hR; have G2 := Lib.hid (grown_on G1.out hb); clear hb hR) | (go_at_call 263; (with_reducible refine (OF.out _ _ _ (by simp) (heap_new_cell _ _ _)).mono ?_); rintro e w4 ⟨rfl, hb⟩; have K4 := Lib.hid ((K2.out.alloc _).below' hb); have R4 := Lib.hid ((R2.out.below (B1 _ _)).below hb); have G4 := Lib.hid (grown_on (grown_on G2.out (B1 _ _)) hb); clear hb) | (refine wpList_store_whole rfl 46 (.tmp 2) (.tmp 24) rfl w.heap.size #[.int .u64 (cw c 0), .int .u64 (cw c 1), .int .u64 (cw c 2), .int .u64 (cw c 3)] rfl rfl 46 _ K4.out (by kernel_rfl) (by rfl) (by simp [Value.oneCell']) ?_; intro w5 hk2 hg2; have K5 := Lib.hid hk2; have G5 := Lib.hid hg2; clear hk2 hg2))
      exact bodyPost_ret (results_cell_tmp rfl _ _ w.heap.size 46 _ _ _ rfl rfl K5.out Tryz.underlying46 rfl (by kernel_rfl)) rfl ⟨rfl, grown_new G4.out G5.out (Nat.le_refl _), R4.out.grown G5.out (by omega)⟩
end Go.Proofs.YtfghfnpiaccfaaaGreatDoor
namespace Go.Proofs.YtfghfnpiaccfaaaGreatDoor
open Go Go.RowKit
set_option maxRecDepth 100000
theorem digitVal_ok (u : UInt8) (h : dgt u.toNat = true) : Lib.digitVal u = some (u.toNat - 48) := by
  simp [dgt] at h
  unfold Lib.digitVal
  rw [if_pos (by omega)]
theorem decFrom_ok : ∀ (us : List UInt8) (acc : Nat), (∀ u ∈ us, dgt u.toNat = true) → Lib.decFrom acc us = some ((us.map UInt8.toNat).foldl (fun a c => 10 * a + (c - 48)) acc)
  | [], acc, _ => rfl
  | u :: us, acc, h => by
    unfold Lib.decFrom
    rw [digitVal_ok u (h u (by simp))]
    simp only [List.map_cons, List.foldl_cons]
    rw [decFrom_ok us _ (fun x hx => h x (by simp [hx])), Nat.mul_comm]
theorem atoi_ok {t : ByteArray} {ds : List Nat} (ht : Str t ds) (hd : ∀ c ∈ ds, dgt c = true) (h0 : ds ≠ []) : Lib.atoi t.data.toList = some (val ds : Int) := by
  have e : t.data.toList.map UInt8.toNat = ds := ht
  cases hu : t.data.toList with
  | nil => rw [hu] at e; exact absurd e.symm h0
  | cons u us =>
    rw [hu] at e
    have hall : ∀ x ∈ u :: us, dgt x.toNat = true := fun x hx => hd _ (by rw [← e]; exact List.mem_map.2 ⟨x, hx, rfl⟩)
    have h1 := hall u (by simp)
    simp [dgt] at h1
    have n45 : (u == 45) = false := by
      rw [beq_eq_false_iff_ne]; intro e2; rw [e2] at h1; simp at h1
    have n43 : (u == 43) = false := by
      rw [beq_eq_false_iff_ne]; intro e2; rw [e2] at h1; simp at h1
    unfold Lib.atoi Lib.decNat
    simp only [n45, n43, Bool.false_eq_true, if_false, List.isEmpty_cons]
    rw [decFrom_ok _ _ hall, e]
    rfl
theorem atoi_any (t : ByteArray) (ds : List Nat) (ht : Str t ds) (hd : ∀ c ∈ ds, dgt c = true) (h0 : ds ≠ []) (hl : ds.length ≤ 18) (w : World) :
    Calls Tryz.prog 261 #[.string t] w fun e w' => e = .returned (.tuple #[.int .i64 (val ds), .nilIface]) ∧ Below w.heap.size w w' :=
  (Tryz.strconv_Atoi t (val ds) (by rw [ht.size]; exact hl) (atoi_ok ht hd h0) w).mono fun e w' ⟨he, u, hw⟩ => ⟨he, by rw [hw]; exact Lib.bytesWorld_below _ _ _⟩
/-- A level, and how many bytes it takes. -/
def lvR (l : List Nat) : Int × Nat :=
  match l with
  | [] => (-1, 0)
  | c :: r => if c = 58 then (if lead dgt r = 0 then (-1, 0) else (lvl (r.take (lead dgt r)), 1 + lead dgt r)) else (-1, 0)
theorem namR_lvR (n : Nat) (t d : List Nat) : namR n t d = ⟨2, n + (lvR d).2, t, (lvR d).1, no⟩ := by
  cases d with
  | nil => rfl
  | cons c r =>
    by_cases h : c = 58
    · subst h
      by_cases h0 : lead dgt r = 0
      · rw [namR_0 _ _ h0]; simp [lvR, h0]
      · rw [namR_1 _ _ h0]; simp [lvR, h0, Nat.add_assoc]
    · rw [namR_no _ _ _ h]; simp [lvR, h]
theorem str58 : Str ⟨#[58]⟩ [58] := rfl
set_option maxRecDepth 100000 in
set_option maxHeartbeats 4000000 in
theorem level_no (b k : Nat) (s : ByteArray) (l : List Nat) (hs : Str s l) (hl : l.length ≤ 60000) (hk : k ≤ l.length) (hi : lvR (l.drop k) = (-1, 0)) (w : World) (h : Rd w b s k) :
    Calls Tryz.prog 240 #[.pointer (some ⟨b, 0, none⟩)] w fun e w' => e = .returned (.int .i64 (-1)) ∧ w.grownBy w' (some b) ∧ Rd w' b s k := by
  have hz := hs.size
  obtain ⟨_, c1⟩ := h.cells
  have HH := Lib.hid h
  by_cases hp : (l.drop k).head? = some 58
  · have hlt : k < l.length := by
      apply Nat.lt_of_not_le
      intro hge
      rw [List.drop_of_length_le hge] at hp
      cases hp
    obtain ⟨r, hr⟩ : ∃ r, l.drop k = 58 :: r := by
      cases hd : l.drop k with
      | nil => rw [hd] at hp; cases hp
      | cons c r => rw [hd] at hp; simp at hp; exact ⟨r, by rw [hp]⟩
    have hr1 : l.drop (k + 1) = r := by rw [← List.drop_drop, hr]; rfl
    have hd0 : lead dgt r = 0 := by
      rw [hr] at hi
      simp only [lvR, if_true] at hi
      by_cases h0 : lead dgt r = 0
      · exact h0
      · rw [if_neg h0] at hi
        have := congrArg Prod.snd hi
        simp at this
    have TY := Lib.hid (fun W hW => take1_yes 58 b k ⟨#[58]⟩ s str58 l hs hl hk hp W hW)
    have SD : RowKit.Hid (∀ W, Rd W b s (k + 1) → Calls Tryz.prog 236 #[.pointer (some ⟨b, 0, none⟩), .func (.func 260) #[] #[]] W fun e w' => e = .returned (.bool false) ∧ ∃ n, w' = W.drewN n) := Lib.hid (fun W hW => by
      by_cases hlt2 : k + 1 < l.length
      · have la := lead_at (p := dgt) hlt2
        rw [hr1, hd0] at la
        have hf : dgt (l.getD (k + 1) 0) = false := by
          cases hq : dgt (l.getD (k + 1) 0) with
          | false => rfl
          | true => rw [hq] at la; simp at la
        have := sees_dgt_at b (k + 1) (l.getD (k + 1) 0) s W hW (by omega) (hs.byte (k + 1))
        rw [hf] at this
        exact this
      · have e : k + 1 = s.size := by omega
        rw [e] at hW
        exact sees_dgt_no b s W hW)
    have hk2 : (k : Int) ≤ 60000 := by omega
    clear hi hp hr hr1 hd0 hs h hz
    go_enter Tryz.func240, Tryz.ntmps240
    go_wp2_with (first | (go_at_call 233; (with_reducible refine (TY.out _ HH.out).mono ?_); rintro e w1 ⟨rfl, hg, hR⟩; have G1 := Lib.hid hg; have R1 := Lib.hid hR; clear hg hR) | (go_at_call 236; (with_reducible refine (SD.out _ R1.out).mono ?_); rintro e w2 ⟨rfl, n, rfl⟩; have d1 := (R1.out.drewN (n := n)).cells.2; have f1 := Blk.frozen (R1.out.drewN (n := n)) 1))
    go_ret
    have q := Rd.set (R1.out.drewN (n := n)) k k rfl
    exact ⟨rfl, grown_trans (grown_drawn G1.out n) q.2, q.1⟩
  · have TN := Lib.hid (fun W hW => take1_no 58 b k ⟨#[58]⟩ s str58 l hs hk hp W hW)
    clear hi hp hs h hz
    go_enter Tryz.func240, Tryz.ntmps240
    go_wp2_with (go_at_call 233; (with_reducible refine (TN.out _ HH.out).mono ?_); rintro e w1 ⟨rfl, hb, hR⟩; have G1 := Lib.hid (below_is_grown hb (some b)); have R1 := Lib.hid hR; have d1 := hR.cells.2; have f1 := Blk.frozen hR 1; clear hb hR)
    go_ret
    have q := Rd.set R1.out k k rfl
    exact ⟨rfl, grown_trans G1.out q.2, q.1⟩
set_option maxRecDepth 100000 in
set_option maxHeartbeats 4000000 in
theorem level_yes (b k n : Nat) (v : Int) (s : ByteArray) (l : List Nat) (hs : Str s l) (hl : l.length ≤ 60000) (hk : k ≤ l.length) (hn : n ≠ 0) (hi : lvR (l.drop k) = (v, n)) (w : World) (h : Rd w b s k) :
    Calls Tryz.prog 240 #[.pointer (some ⟨b, 0, none⟩)] w fun e w' => e = .returned (.int .i64 v) ∧ w.grownBy w' (some b) ∧ Rd w' b s (k + n) := by
  have hz := hs.size
  obtain ⟨_, c1⟩ := h.cells
  have HH := Lib.hid h
  obtain ⟨r, hr, hd0, ev, en⟩ : ∃ r, l.drop k = 58 :: r ∧ lead dgt r ≠ 0 ∧ lvl (r.take (lead dgt r)) = v ∧ 1 + lead dgt r = n := by
    cases hd : l.drop k with
    | nil => rw [hd] at hi; exact absurd (congrArg Prod.snd hi).symm hn
    | cons c r =>
      rw [hd] at hi
      by_cases hc : c = 58
      · subst hc
        by_cases h0 : lead dgt r = 0
        · simp only [lvR, if_true, if_pos h0] at hi; exact absurd (congrArg Prod.snd hi).symm hn
        · simp only [lvR, if_true, if_neg h0] at hi
          exact ⟨r, rfl, h0, congrArg Prod.fst hi, congrArg Prod.snd hi⟩
      · simp only [lvR, if_neg hc] at hi; exact absurd (congrArg Prod.snd hi).symm hn
  have hp : (l.drop k).head? = some 58 := by rw [hr]; rfl
  have hlt : k < l.length := by
    apply Nat.lt_of_not_le
    intro hge
    rw [List.drop_of_length_le hge] at hp
    cases hp
  have hr1 : l.drop (k + 1) = r := by rw [← List.drop_drop, hr]; rfl
  subst hr1
  have hle := lead_le dgt (l.drop (k + 1))
  rw [List.length_drop] at hle
  have hlt2 : k + 1 < l.length := by omega
  have TY := Lib.hid (fun W hW => take1_yes 58 b k ⟨#[58]⟩ s str58 l hs hl hk hp W hW)
  have SD := Lib.hid (fun W hW => by
    have := sees_dgt_at b (k + 1) (l.getD (k + 1) 0) s W hW (by omega) (hs.byte (k + 1))
    have la := lead_at (p := dgt) hlt2
    rw [show dgt (l.getD (k + 1) 0) = true by
      cases hq : dgt (l.getD (k + 1) 0) with
      | true => rfl
      | false => rw [hq] at la; simp only [Bool.false_eq_true, if_false] at la; exact absurd la hd0] at this
    exact this)
  have RW := Lib.hid (fun W hW => row_dgt b (k + 1) s l hs hl (by omega) W hW)
  have hts := hs.extract (k + 1) (k + 1 + lead dgt (l.drop (k + 1)))
  rw [Nat.add_sub_cancel_left] at hts
  have hall := lead_all dgt (l.drop (k + 1))
  have htl : ((l.drop (k + 1)).take (lead dgt (l.drop (k + 1)))).length = lead dgt (l.drop (k + 1)) := by rw [List.length_take, List.length_drop]; omega
  obtain ⟨m, em⟩ : ∃ m, m = lead dgt (l.drop (k + 1)) := ⟨_, rfl⟩
  rw [← em] at hd0 ev en RW hts hall htl
  obtain ⟨t, et⟩ : ∃ t, t = s.extract (k + 1) (k + 1 + m) := ⟨_, rfl⟩
  obtain ⟨ds, ed⟩ : ∃ ds, ds = (l.drop (k + 1)).take m := ⟨_, rfl⟩
  rw [← et] at RW hts
  rw [← ed] at ev hts hall htl
  have hts2 : t.size = m := by rw [hts.size, htl]
  have hm6 : (t.size : Int) ≤ 60000 := by omega
  subst en
  rw [← Nat.add_assoc]
  by_cases h4 : 4 < m
  · have ev' : v = 9999 := by rw [← ev]; unfold lvl; rw [if_pos (by omega)]
    subst ev'
    have h4' : (4 : Int) < t.size := by omega
    clear ev hi hp hr hd0 hs h hz hts hall htl em et ed hts2 h4 hle
    go_enter Tryz.func240, Tryz.ntmps240
    go_wp2_with (first | (go_at_call 233; (with_reducible refine (TY.out _ HH.out).mono ?_); rintro e w1 ⟨rfl, hg, hR⟩; have G1 := Lib.hid hg; have R1 := Lib.hid hR; clear hg hR) | (go_at_call 236; (with_reducible refine (SD.out _ R1.out).mono ?_); rintro e w2 ⟨rfl, n, rfl⟩) | (go_at_call 238; (with_reducible refine (RW.out _ R1.out.drewN).mono ?_); rintro e w3 ⟨rfl, hg, hR⟩; have G3 := Lib.hid (grown_trans (grown_drawn G1.out n) hg); have R3 := Lib.hid hR; clear hg hR))
    go_ret
    exact ⟨rfl, G3.out, R3.out⟩
  · have ev' : v = val ds := by rw [← ev]; unfold lvl; rw [if_neg (by omega)]
    have h4' : (t.size : Int) ≤ 4 := by omega
    have AT := Lib.hid (fun W => atoi_any t ds hts (fun c hc => hall c hc) (fun e => by rw [e] at htl; simp at htl; omega) (by omega) W)
    rw [← ev'] at AT
    clear ev ev' hi hp hr hd0 hs h hz hts hall htl em et ed hts2 h4 hle
    go_enter Tryz.func240, Tryz.ntmps240
    go_wp2_with (first | (go_at_call 233; (with_reducible refine (TY.out _ HH.out).mono ?_); rintro e w1 ⟨rfl, hg, hR⟩; have G1 := Lib.hid hg; have R1 := Lib.hid hR; clear hg hR) | (go_at_call 236; (with_reducible refine (SD.out _ R1.out).mono ?_); rintro e w2 ⟨rfl, n, rfl⟩) | (go_at_call 238; (with_reducible refine (RW.out _ R1.out.drewN).mono ?_); rintro e w3 ⟨rfl, hg, hR⟩; have G3 := Lib.hid (grown_trans (grown_drawn G1.out n) hg); have R3 := Lib.hid hR; clear hg hR) | (go_at_call 261; (with_reducible refine (AT.out _).mono ?_); rintro e w4 ⟨rfl, hb⟩; have G4 := Lib.hid (grown_on G3.out hb); have R4 := Lib.hid (R3.out.below hb); clear hb))
    go_ret
    exact ⟨rfl, G4.out, R4.out⟩
end Go.Proofs.YtfghfnpiaccfaaaGreatDoor
namespace Go.Proofs.YtfghfnpiaccfaaaGreatDoor
open Go Go.RowKit
set_option maxRecDepth 100000
/-- A word's cells, as they come of a try: without places. -/
abbrev wcells (kind : Int) (t : ByteArray) (lv : Int) : Array Value := #[.int .i64 kind, .int .i64 0, .int .i64 0, .string t, .int .i64 lv, .int .u64 0, .int .u64 0, .int .u64 0, .int .u64 0]
abbrev wzero : Array Value := #[.int .i64 0, .int .i64 0, .int .i64 0, .string ⟨#[]⟩, .int .i64 0, .int .u64 0, .int .u64 0, .int .u64 0, .int .u64 0]
theorem below_store {a w w' : World} {r : Nat} (h : Below a.heap.size a w) (hg : w.grownBy w' (some r)) (hr : a.heap.size ≤ r) : Below a.heap.size a w' := below_new h h.size hg hr
theorem end_yes (b k : Nat) (s : ByteArray) (hk : k = s.size) (w : World) (h : Rd w b s k) :
    Calls Tryz.prog 199 #[.pointer (some ⟨b, 0, none⟩)] w fun e w' => e = .returned (.tuple #[.agg (wcells 1 ⟨#[]⟩ 0), .bool true]) ∧ Below w.heap.size w w' := by
  subst hk
  have EE := Lib.hid (fun W hW => ends_yes b s W hW)
  have HH := Lib.hid (h.below (B1 w (.cells wzero 156)))
  clear h
  go_enter Tryz.func199, Tryz.ntmps199
  go_wp2_with (first | (go_at_call 235; (with_reducible refine (EE.out _ HH.out).mono ?_); rintro e w1 ⟨rfl, n, rfl⟩; have K1 := Lib.hid ((Blk.new w wzero 156).drewN (n := n)); have H1 := Lib.hid (bdrew (n := n) (B1 w (.cells wzero 156)))) | (refine wpList_store_whole rfl 156 (.tmp 2) (.tmp 10) rfl w.heap.size (wcells 1 ⟨#[]⟩ 0) rfl rfl 156 _ K1.out (by kernel_rfl) (by rfl) (by simp [Value.oneCell']) ?_; intro w5 hk2 hg2; have K5 := Lib.hid hk2; have G5 := Lib.hid hg2; clear hk2 hg2))
  exact bodyPost_ret (results_cell_tmp rfl _ _ w.heap.size 156 _ _ _ rfl rfl K5.out Tryz.underlying156 rfl (by kernel_rfl)) rfl ⟨rfl, below_store H1.out G5.out (Nat.le_refl _)⟩
theorem end_no (b k : Nat) (s : ByteArray) (hk : k < s.size) (w : World) (h : Rd w b s k) :
    Calls Tryz.prog 199 #[.pointer (some ⟨b, 0, none⟩)] w fun e w' => e = .returned (.tuple #[.agg wzero, .bool false]) ∧ Below w.heap.size w w' := by
  have EE := Lib.hid (fun W hW => ends_no b k s W hW hk)
  have HH := Lib.hid (h.below (B1 w (.cells wzero 156)))
  clear h
  go_enter Tryz.func199, Tryz.ntmps199
  go_wp2_with (first | (go_at_call 235; (with_reducible refine (EE.out _ HH.out).mono ?_); rintro e w1 ⟨rfl, n, rfl⟩; have K1 := Lib.hid ((Blk.new w wzero 156).drewN (n := n)); have H1 := Lib.hid (bdrew (n := n) (B1 w (.cells wzero 156)))) | (refine wpList_store_whole rfl 156 (.tmp 2) (.tmp 9) rfl w.heap.size wzero rfl rfl 156 _ K1.out (by kernel_rfl) (by rfl) (by simp [Value.oneCell']) ?_; intro w5 hk2 hg2; have K5 := Lib.hid hk2; have G5 := Lib.hid hg2; clear hk2 hg2))
  exact bodyPost_ret (results_cell_tmp rfl _ _ w.heap.size 156 _ _ _ rfl rfl K5.out Tryz.underlying156 rfl (by kernel_rfl)) rfl ⟨rfl, below_store H1.out G5.out (Nat.le_refl _)⟩
theorem name_no (b k : Nat) (s : ByteArray) (l : List Nat) (hs : Str s l) (hk : k ≤ l.length) (hi : ∀ c r, l.drop k = c :: r → ltr c = false) (w : World) (h : Rd w b s k) :
    Calls Tryz.prog 200 #[.pointer (some ⟨b, 0, none⟩)] w fun e w' => e = .returned (.tuple #[.agg wzero, .bool false]) ∧ Below w.heap.size w w' := by
  have hz := hs.size
  have EE : RowKit.Hid (∀ W, Rd W b s k → Calls Tryz.prog 236 #[.pointer (some ⟨b, 0, none⟩), .func (.func 237) #[] #[]] W fun e w' => e = .returned (.bool false) ∧ ∃ n, w' = W.drewN n) := Lib.hid (fun W hW => by
    by_cases hlt : k < l.length
    · have := sees_ltr_at b k (l.getD k 0) s W hW (by omega) (hs.byte k)
      rw [hi (l.getD k 0) (l.drop (k + 1)) (by rw [List.drop_eq_getElem_cons hlt]; simp [List.getD, List.getElem?_eq_getElem hlt])] at this
      exact this
    · have e : k = s.size := by omega
      rw [e] at hW
      exact sees_ltr_no b s W hW)
  have HH := Lib.hid (h.below (B1 w (.cells wzero 156)))
  clear h hi hs hz
  go_enter Tryz.func200, Tryz.ntmps200
  go_wp2_with (first | (go_at_call 236; (with_reducible refine (EE.out _ HH.out).mono ?_); rintro e w1 ⟨rfl, n, rfl⟩; have K1 := Lib.hid ((Blk.new w wzero 156).drewN (n := n)); have H1 := Lib.hid (bdrew (n := n) (B1 w (.cells wzero 156)))) | (refine wpList_store_whole rfl 156 (.tmp 2) (.tmp 10) rfl w.heap.size wzero rfl rfl 156 _ K1.out (by kernel_rfl) (by rfl) (by simp [Value.oneCell']) ?_; intro w5 hk2 hg2; have K5 := Lib.hid hk2; have G5 := Lib.hid hg2; clear hk2 hg2))
  exact bodyPost_ret (results_cell_tmp rfl _ _ w.heap.size 156 _ _ _ rfl rfl K5.out Tryz.underlying156 rfl (by kernel_rfl)) rfl ⟨rfl, below_store H1.out G5.out (Nat.le_refl _)⟩
theorem level_any (b k n : Nat) (v : Int) (s : ByteArray) (l : List Nat) (hs : Str s l) (hl : l.length ≤ 60000) (hk : k ≤ l.length) (hi : lvR (l.drop k) = (v, n)) (w : World) (h : Rd w b s k) :
    Calls Tryz.prog 240 #[.pointer (some ⟨b, 0, none⟩)] w fun e w' => e = .returned (.int .i64 v) ∧ w.grownBy w' (some b) ∧ Rd w' b s (k + n) := by
  by_cases hn : n = 0
  · subst hn
    have hv : v = -1 := by
      unfold lvR at hi
      repeat' split at hi
      all_goals first
        | exact (congrArg Prod.fst hi).symm
        | (have := congrArg Prod.snd hi; simp at this; done)
        | (have := congrArg Prod.snd hi; simp at this; omega)
    subst hv
    exact level_no b k s l hs hl hk hi w h
  · exact level_yes b k n v s l hs hl hk hn hi w h
set_option maxRecDepth 100000 in
set_option maxHeartbeats 4000000 in
theorem name_yes (b k n m : Nat) (v : Int) (s : ByteArray) (l : List Nat) (hs : Str s l) (hl : l.length ≤ 60000) (hk : k < l.length) (hc : ltr (l.getD k 0) = true) (en : n = lead inm (l.drop k)) (hv : lvR (l.drop (k + n)) = (v, m)) (w : World) (h : Rd w b s k) :
    Calls Tryz.prog 200 #[.pointer (some ⟨b, 0, none⟩)] w fun e w' => e = .returned (.tuple #[.agg (wcells 2 (s.extract k (k + n)) v), .bool true]) ∧ w.grownBy w' (some b) ∧ Rd w' b s (k + n + m) := by
  have hbw := h.lt
  have hz := hs.size
  have hle := lead_le inm (l.drop k)
  rw [← en, List.length_drop] at hle
  have EE := Lib.hid (fun W hW => by have := sees_ltr_at b k (l.getD k 0) s W hW (by omega) (hs.byte k); rw [hc] at this; exact this)
  have RW := Lib.hid (fun W hW => by have := row_inm b k s l hs hl (by omega) W hW; rw [← en] at this; exact this)
  have LV := Lib.hid (fun W hW => level_any b (k + n) m v s l hs hl (by omega) hv W hW)
  have HH := Lib.hid (h.below (B1 w (.cells wzero 156)))
  obtain ⟨t, et⟩ : ∃ t, t = s.extract k (k + n) := ⟨_, rfl⟩
  rw [← et] at RW ⊢
  clear hs hl hk hc en hv h hz hle et
  go_enter Tryz.func200, Tryz.ntmps200
  go_wp2_with (first | (go_at_call 236; (with_reducible refine (EE.out _ HH.out).mono ?_); rintro e w1 ⟨rfl, n1, rfl⟩; have K1 := Lib.hid ((Blk.new w wzero 156).drewN (n := n1)); have H1 := Lib.hid (bdrew (n := n1) (B1 w (.cells wzero 156)))) | (go_at_call 238; (with_reducible refine (RW.out _ (HH.out.drewN (n := n1))).mono ?_); rintro e w2 ⟨rfl, hg, hR⟩; have G2 := Lib.hid (grown_trans (below_is_grown H1.out (some b)) hg); have R2 := Lib.hid hR; have K2 := Lib.hid (K1.out.grown hg (by simp; omega)); have KA := Lib.hid (K2.out.alloc (.cells wzero 156)); clear hg hR) | (refine wpList_store_whole rfl 156 (.tmp 4) (.tmp 15) rfl w2.heap.size (wcells 2 t 0) rfl rfl 156 _ (Blk.new w2 wzero 156) (by kernel_rfl) (by rfl) (by simp [Value.oneCell']) ?_; intro w3 hk2 hg2; have B3 := Lib.hid hk2; have K3 := Lib.hid (KA.out.grown hg2 (by have := K2.out.lt; simp; omega)); have G3 := Lib.hid (grown_new (grown_on G2.out (B1 w2 _)) hg2 (by have := G2.out.size; omega)); have R3 := Lib.hid ((R2.out.below (B1 w2 _)).grown hg2 (by have := R2.out.lt; omega)); have N3 := Lib.hid (show w.heap.size < w2.heap.size from K2.out.lt); clear hk2 hg2) | (go_at_call 240; (with_reducible refine (LV.out _ R3.out).mono ?_); rintro e w4 ⟨rfl, hg, hR⟩; have B4 := Lib.hid (B3.out.grown hg (by have := R2.out.lt; simp; omega)); have K4 := Lib.hid (K3.out.grown hg (by simp; omega)); have G4 := Lib.hid (grown_trans G3.out hg); have R4 := Lib.hid hR; have N4 := Lib.hid (show w2.heap.size < w4.heap.size from B4.out.lt); clear hg hR) | (refine wpList_store_blk rfl 3 (.tmp 18) (.tmp 17) rfl w2.heap.size 4 _ rfl rfl rfl 156 _ B4.out (by simp) (by kernel_rfl) (wcells 2 t v) rfl ?_; intro w5 hk2 hg2; have B5 := Lib.hid hk2; have K5 := Lib.hid (K4.out.grown hg2 (by have := N3.out; simp; omega)); have G5 := Lib.hid (grown_new G4.out hg2 (by have := N3.out; omega)); have R5 := Lib.hid (R4.out.grown hg2 (by have := N3.out; omega)); have d0 := hk2.cell 0; have d1 := hk2.cell 1; have d2 := hk2.cell 2; have d3 := hk2.cell 3; have d4 := hk2.cell 4; have d5 := hk2.cell 5; have d6 := hk2.cell 6; have d7 := hk2.cell 7; have d8 := hk2.cell 8; simp only [wcells, List.getElem?_toArray, List.getElem?_cons_zero, List.getElem?_cons_succ] at d0 d1 d2 d3 d4 d5 d6 d7 d8; clear hk2 hg2) | (refine wpList_store_whole rfl 156 (.tmp 2) (.tmp 19) rfl w.heap.size (wcells 2 t v) rfl rfl 156 _ K5.out (by kernel_rfl) (by rfl) (by simp [Value.oneCell']) ?_; intro w6 hk2 hg2; have K6 := Lib.hid hk2; have G6 := Lib.hid hg2; clear hk2 hg2))
  exact bodyPost_ret (results_cell_tmp rfl _ _ w.heap.size 156 _ _ _ rfl rfl K6.out Tryz.underlying156 rfl (by kernel_rfl)) rfl ⟨rfl, grown_new G5.out G6.out (Nat.le_refl _), R5.out.grown G6.out (by omega)⟩
end Go.Proofs.YtfghfnpiaccfaaaGreatDoor
namespace Go.Proofs.YtfghfnpiaccfaaaGreatDoor
open Go Go.RowKit
set_option maxRecDepth 100000
def marks : List (List Nat) := [[60, 45], [47], [40], [41], [46], [59], [42], [43], [63], [33], [38]]
theorem sgn_none {l : List Nat} (h : ∀ i, i < 11 → isPre (marks.getD i []) l = false) : sgn l = none := by
  cases l with
  | nil => rfl
  | cons c r =>
    have h0 := h 0 (by decide)
    have h1 := h 1 (by decide)
    have h2 := h 2 (by decide)
    have h3 := h 3 (by decide)
    have h4 := h 4 (by decide)
    have h5 := h 5 (by decide)
    have h6 := h 6 (by decide)
    have h7 := h 7 (by decide)
    have h8 := h 8 (by decide)
    have h9 := h 9 (by decide)
    have h10 := h 10 (by decide)
    simp only [marks, List.getD_cons_succ, List.getD_cons_zero, isPre, Bool.and_true, beq_eq_false_iff_ne, ne_eq] at h1 h2 h3 h4 h5 h6 h7 h8 h9 h10
    simp only [sgn]
    by_cases h60 : c = 60
    · rw [if_pos h60]
      cases r with
      | nil => rfl
      | cons d r2 =>
        subst h60
        simp [marks, isPre] at h0
        simp
        omega
    · rw [if_neg h60, if_neg (by simp; omega)]
theorem sgn_some {l : List Nat} {i : Nat} (hi : i < 11) (h : isPre (marks.getD i []) l = true) : sgn l = some (marks.getD i []) := by
  cases l with
  | nil =>
    rcases (show i = 0 ∨ i = 1 ∨ i = 2 ∨ i = 3 ∨ i = 4 ∨ i = 5 ∨ i = 6 ∨ i = 7 ∨ i = 8 ∨ i = 9 ∨ i = 10 by omega) with rfl | rfl | rfl | rfl | rfl | rfl | rfl | rfl | rfl | rfl | rfl <;> simp [marks, isPre] at h
  | cons c r =>
    rcases (show i = 0 ∨ i = 1 ∨ i = 2 ∨ i = 3 ∨ i = 4 ∨ i = 5 ∨ i = 6 ∨ i = 7 ∨ i = 8 ∨ i = 9 ∨ i = 10 by omega) with rfl | rfl | rfl | rfl | rfl | rfl | rfl | rfl | rfl | rfl | rfl
    · cases r with
      | nil => simp [marks, isPre] at h
      | cons d r2 =>
        simp [marks, isPre] at h
        obtain ⟨rfl, rfl⟩ := h
        rfl
    all_goals
      simp [marks, isPre] at h
      subst h
      rfl
abbrev rowMarks : Array Value := #[.string ⟨#[60, 45]⟩, .string ⟨#[47]⟩, .string ⟨#[40]⟩, .string ⟨#[41]⟩, .string ⟨#[46]⟩, .string ⟨#[59]⟩, .string ⟨#[42]⟩, .string ⟨#[43]⟩, .string ⟨#[63]⟩, .string ⟨#[33]⟩, .string ⟨#[38]⟩]
theorem row_mark (i : Nat) (hi : i < 11) : rowMarks[i]? = some (.string (bsv (marks.getD i []))) := by
  rcases (show i = 0 ∨ i = 1 ∨ i = 2 ∨ i = 3 ∨ i = 4 ∨ i = 5 ∨ i = 6 ∨ i = 7 ∨ i = 8 ∨ i = 9 ∨ i = 10 by omega) with rfl | rfl | rfl | rfl | rfl | rfl | rfl | rfl | rfl | rfl | rfl <;> rfl
theorem mark_ok (i : Nat) (hi : i < 11) : Str (bsv (marks.getD i [])) (marks.getD i []) ∧ (marks.getD i []).length ≤ 10 := by
  rcases (show i = 0 ∨ i = 1 ∨ i = 2 ∨ i = 3 ∨ i = 4 ∨ i = 5 ∨ i = 6 ∨ i = 7 ∨ i = 8 ∨ i = 9 ∨ i = 10 by omega) with rfl | rfl | rfl | rfl | rfl | rfl | rfl | rfl | rfl | rfl | rfl <;> exact ⟨rfl, by decide⟩
/-- What a try for a sign tells. -/
def SgPost (b k : Nat) (s : ByteArray) (o : Option (List Nat)) (w : World) (e : Ending) (w' : World) : Prop :=
  (o = none ∧ e = .returned (.tuple #[.agg wzero, .bool false]) ∧ Below w.heap.size w w') ∨ ∃ t, o = some t ∧ e = .returned (.tuple #[.agg (wcells 5 (bsv t) 0), .bool true]) ∧ w.grownBy w' (some b) ∧ Rd w' b s (k + t.length)
set_option maxRecDepth 100000 in
set_option maxHeartbeats 4000000 in
theorem sign_any (b k : Nat) (s : ByteArray) (l : List Nat) (hs : Str s l) (hl : l.length ≤ 60000) (hk : k ≤ l.length) (w : World) (h : Rd w b s k) :
    Calls Tryz.prog 203 #[.pointer (some ⟨b, 0, none⟩)] w (SgPost b k s (sgn (l.drop k)) w) := by
  have hbw := h.lt
  have TY := Lib.hid (fun q hq hp W hW => take_yes b k s (bsv (marks.getD q [])) l (marks.getD q []) hs (mark_ok q hq).1 hl (mark_ok q hq).2 hk hp W hW)
  have TN := Lib.hid (fun q hq hp W hW => take_no b k s (bsv (marks.getD q [])) l (marks.getD q []) hs (mark_ok q hq).1 hk hp W hW)
  have SN := Lib.hid (sgn_none (l := l.drop k))
  have SS := Lib.hid (fun i hi hp => sgn_some (l := l.drop k) (i := i) hi hp)
  obtain ⟨o, eo⟩ : ∃ o, o = sgn (l.drop k) := ⟨_, rfl⟩
  rw [← eo] at SN SS ⊢
  obtain ⟨w2, ew⟩ : ∃ u, u = (w.alloc (.cells wzero 156)).alloc (.cells rowMarks 9) := ⟨_, rfl⟩
  have H2 : RowKit.Hid (Below w.heap.size w w2) := Lib.hid (by rw [ew]; exact B2 _ _ _)
  have K2 : RowKit.Hid (Blk w2 w.heap.size wzero 156) := Lib.hid (by rw [ew]; exact (Blk.new _ _ _).alloc _)
  have M2 : RowKit.Hid (Blk w2 (w.heap.size + 1) rowMarks 9) := Lib.hid (by rw [ew]; have := Blk.new (w.alloc (.cells wzero 156)) rowMarks 9; rw [World.size_alloc] at this; exact this)
  have R2 := Lib.hid (h.below H2.out)
  have EW := Lib.hid ew
  clear h hs hl hk eo ew
  go_enter Tryz.func203, Tryz.ntmps203
  go_wp2_with fail
  rw [← EW.out]
  go_loopw [5, 8] (fun _ i wr => ∃ q : Nat, q ≤ 11 ∧ i = .int .i64 q ∧ Below w2.heap.size w2 wr ∧ ∀ j, j < q → isPre (marks.getD j []) (l.drop k) = false) (fun _ i _ => 11 - (intOf i).toNat)
  case atStart => exact ⟨0, by omega, rfl, Below.refl _ _, fun j hj => by omega⟩
  case round =>
    obtain ⟨q, hq, rfl, hb, hf⟩ := hrel
    have HF := Lib.hid hf
    have HB := Lib.hid hb
    have KR := Lib.hid (K2.out.below' hb)
    have RR := Lib.hid (R2.out.below hb)
    have hM := M2.out.below' hb
    clear hf hb
    by_cases hlt : q < 11
    · have cq : wr.cell? ⟨w.heap.size + 1, q, none⟩ = some (.string (bsv (marks.getD q []))) := (hM.cell q).trans (row_mark q hlt)
      have hlt2 : (q : Int) < 11 := by omega
      clear hM
      cases hp : isPre (marks.getD q []) (l.drop k) with
      | true =>
        have HP := Lib.hid hp
        obtain ⟨t, et⟩ : ∃ t, t = bsv (marks.getD q []) := ⟨_, rfl⟩
        have T1 := Lib.hid (TY.out q hlt hp)
        rw [← et] at cq T1
        have ET := Lib.hid et
        clear hp et
        go_wp2_with (first | (go_at_call 233; (with_reducible refine (T1.out _ RR.out).mono ?_); rintro e w3 ⟨rfl, hg, hR⟩; have K3 := Lib.hid (KR.out.grown hg (by simp; omega)); have R3 := Lib.hid hR; have G3 := Lib.hid (grown_trans (below_is_grown (bb H2.out HB.out) (some b)) hg); clear hg hR) | (refine wpList_store_whole rfl 156 (.tmp 2) (.tmp 18) rfl w.heap.size (wcells 5 t 0) rfl rfl 156 _ K3.out (by kernel_rfl) (by rfl) (by simp [Value.oneCell']) ?_; intro w5 hk2 hg2; have K5 := Lib.hid hk2; have G5 := Lib.hid hg2; clear hk2 hg2))
        refine bodyPost_ret (results_cell_tmp rfl _ _ w.heap.size 156 _ _ _ rfl rfl K5.out Tryz.underlying156 rfl (by kernel_rfl)) rfl (.inr ⟨_, SS.out q hlt HP.out, ?_, grown_new G3.out G5.out (Nat.le_refl _), R3.out.grown G5.out (by omega)⟩)
        rw [ET.out]
        rfl
      | false =>
        have HP := Lib.hid hp
        have T1 := Lib.hid (TN.out q hlt hp)
        obtain ⟨t, et⟩ : ∃ t, t = bsv (marks.getD q []) := ⟨_, rfl⟩
        rw [← et] at cq T1
        clear hp et
        go_wp2_with (go_at_call 233; (with_reducible refine (T1.out _ RR.out).mono ?_); rintro e w3 ⟨rfl, n, rfl⟩)
        go_roundw
        case rel => exact ⟨q + 1, by omega, by go_num, bdrew HB.out, fun j hj => by
          by_cases e : j = q
          · rw [e]; exact HP.out
          · exact HF.out j (by omega)⟩
        case measure => simp [intOf]; omega
    · obtain rfl : q = 11 := by omega
      have SZ := Lib.hid (SN.out HF.out)
      clear hM hlt
      go_wp2_with (refine wpList_store_whole rfl 156 (.tmp 2) (.tmp 20) rfl w.heap.size wzero rfl rfl 156 _ KR.out (by kernel_rfl) (by rfl) (by simp [Value.oneCell']) ?_; intro w5 hk2 hg2; have K5 := Lib.hid hk2; have G5 := Lib.hid hg2; clear hk2 hg2)
      exact bodyPost_ret (results_cell_tmp rfl _ _ w.heap.size 156 _ _ _ rfl rfl K5.out Tryz.underlying156 rfl (by kernel_rfl)) rfl (.inl ⟨SZ.out, rfl, below_store (bb H2.out HB.out) G5.out (Nat.le_refl _)⟩)
/-- A row of the call's own, as a text. -/
theorem conv_row {w : World} {base : Nat} {xs : List Nat} {v : Value} (h : w.ownsRow base 5 1 v xs.length (xs.map natb)) (hx : ∀ x ∈ xs, x < 256) : (convert 70 9 v).run Tryz.prog w = .ok (.string (bsv xs)) w := by
  rcases h.2 with ⟨rfl, hn⟩ | ⟨g, cap, cur, rfl, hb, hh, _⟩
  · have h0 : xs = [] := List.eq_nil_of_length_eq_zero hn
    subst h0
    exact run_convert_bytes_nil (P := Tryz.prog) w 70 5 Tryz.underlying70 Tryz.underlying5 0 0 9 Tryz.underlying9
  · have := run_convert_bytes_arg (P := Tryz.prog) w 70 5 Tryz.underlying70 Tryz.underlying5 g 0 xs.length cap (xs.map fun x : Nat => (x : Int)) (by simp) (fun i hi => by
      rw [Nat.zero_add, h.cellAt i (by omega), getD_natb hi]
      simp [List.getD, List.getElem?_map, List.getElem?_eq_getElem hi]) 9 Tryz.underlying9
    rw [str_nums] at this
    exact this
end Go.Proofs.YtfghfnpiaccfaaaGreatDoor

/- Contracts of layer 1's functions that put no loop over memory of the caller's: Has, with, Not, or, and. -/
import Derived.Test.YtcnikeeapillnaaDoorRows
import Derived.Test.YtcnikeeapillnaaDoorMa
import Derived.WalkKit
import Derived.WalkSpells
import Derived.WalkLawsBesides
import Derived.Deep.RegionHeld3
import Derived.Lib.Hide
import Derived.RangeFuncBox
namespace Go.Proofs.YtcnikeeapillnaaDoor
open Go.RowKit

theorem bdrew {B n : Nat} {a w : World} (h : Below B a w) : Below B a (w.drewN n) := ⟨h.os, h.tape, h.output, h.size, h.block⟩
theorem below2 (w : World) (o p : Obj) : Below w.heap.size w ((w.alloc o).alloc p) := ((Below.refl _ _).alloc (Nat.le_refl _) _).alloc (by simp) _
theorem below3 (w : World) (o p q : Obj) : Below w.heap.size w (((w.alloc o).alloc p).alloc q) := (below2 w o p).alloc (by simp; omega) _
theorem World.setCell_drewN' (w : World) (n : Nat) (a : Addr) (v : Value) : (w.drewN n).setCell a v = (w.setCell a v).drewN n := rfl
/-- BLOCK b IS WHOLE, AND READS vs. -/
def Blk (w : World) (b : Nat) (vs : Array Value) (T : TypeId) : Prop := w.heap[b]? = some (.cells vs T (0, 0))
theorem Blk.lt {w : World} {b : Nat} {vs : Array Value} {T : TypeId} (h : Blk w b vs T) : b < w.heap.size := (Array.getElem?_eq_some_iff.1 h).1
theorem Blk.cell {w : World} {b : Nat} {vs : Array Value} {T : TypeId} (h : Blk w b vs T) (j : Nat) : w.cell? ⟨b, j, none⟩ = vs[j]? := by simp [World.cell?, show w.heap[b]? = _ from h]
theorem Blk.frozen {w : World} {b : Nat} {vs : Array Value} {T : TypeId} (h : Blk w b vs T) (j : Nat) : w.frozen? ⟨b, j, none⟩ = false := by simp [World.frozen?, show w.heap[b]? = _ from h]
theorem Blk.below {w w' : World} {b B : Nat} {vs : Array Value} {T : TypeId} (h : Blk w b vs T) (hb : Below B w w') (hl : b < B) : Blk w' b vs T := (hb.block b hl).trans h
theorem Blk.alloc {w : World} {b : Nat} {vs : Array Value} {T : TypeId} (h : Blk w b vs T) (o : Obj) : Blk (w.alloc o) b vs T := (Below.heap_alloc w o b h.lt).trans h
theorem Blk.new (w : World) (vs : Array Value) (T : TypeId) : Blk (w.alloc (.cells vs T)) w.heap.size vs T := World.alloc_heap_new w _
theorem Blk.drewN {w : World} {b n : Nat} {vs : Array Value} {T : TypeId} (h : Blk w b vs T) : Blk (w.drewN n) b vs T := h
theorem Blk.set {w : World} {b : Nat} {vs : Array Value} {T : TypeId} (h : Blk w b vs T) (j : Nat) (v : Value) : Blk (w.setCell ⟨b, j, none⟩ v) b (vs.setIfInBounds j v) T := by
  obtain ⟨hlt, hk⟩ := Array.getElem?_eq_some_iff.1 h
  show (w.heap.modify b _)[b]? = _
  rw [Array.getElem?_eq_getElem (by rw [Array.size_modify]; exact hlt), Array.getElem_modify_self, hk]
  simp
/-- All four words of a class's block, written. -/
theorem Blk.set4 {w : World} {b : Nat} {a0 a1 a2 a3 v0 v1 v2 v3 : Value} {T : TypeId} (h : Blk w b #[a0, a1, a2, a3] T) :
    Blk ((((w.setCell ⟨b, 0, none⟩ v0).setCell ⟨b, 1, none⟩ v1).setCell ⟨b, 2, none⟩ v2).setCell ⟨b, 3, none⟩ v3) b #[v0, v1, v2, v3] T := by
  have := (((h.set 0 v0).set 1 v1).set 2 v2).set 3 v3
  simpa using this
theorem below_set4 {B : Nat} {a w : World} (h : Below B a w) {b : Nat} (hb : B ≤ b) (v0 v1 v2 v3 : Value) :
    Below B a ((((w.setCell ⟨b, 0, none⟩ v0).setCell ⟨b, 1, none⟩ v1).setCell ⟨b, 2, none⟩ v2).setCell ⟨b, 3, none⟩ v3) :=
  (((h.setCell (p := ⟨b, 0, none⟩) hb _).setCell (p := ⟨b, 1, none⟩) hb _).setCell (p := ⟨b, 2, none⟩) hb _).setCell (p := ⟨b, 3, none⟩) hb _
theorem Blk.set4_other {w : World} {b c : Nat} {vs : Array Value} {v0 v1 v2 v3 : Value} {T : TypeId} (h : Blk w c vs T) (hne : c ≠ b) :
    Blk ((((w.setCell ⟨b, 0, none⟩ v0).setCell ⟨b, 1, none⟩ v1).setCell ⟨b, 2, none⟩ v2).setCell ⟨b, 3, none⟩ v3) c vs T := by
  unfold Blk
  rw [Below.heap_setCell _ _ _ _ hne, Below.heap_setCell _ _ _ _ hne, Below.heap_setCell _ _ _ _ hne, Below.heap_setCell _ _ _ _ hne]
  exact h
/-- What the walk wants of a class's block. -/
theorem Blk.four {w : World} {b : Nat} {a0 a1 a2 a3 : Value} {T : TypeId} (h : Blk w b #[a0, a1, a2, a3] T) :
    (w.cell? ⟨b, 0, none⟩ = some a0 ∧ w.cell? ⟨b, 1, none⟩ = some a1 ∧ w.cell? ⟨b, 2, none⟩ = some a2 ∧ w.cell? ⟨b, 3, none⟩ = some a3) ∧
    (w.frozen? ⟨b, 0, none⟩ = false ∧ w.frozen? ⟨b, 1, none⟩ = false ∧ w.frozen? ⟨b, 2, none⟩ = false ∧ w.frozen? ⟨b, 3, none⟩ = false) :=
  ⟨⟨h.cell 0, h.cell 1, h.cell 2, h.cell 3⟩, ⟨h.frozen 0, h.frozen 1, h.frozen 2, h.frozen 3⟩⟩

theorem ret_bool {a b : Bool} (h : a = b) : Ending.returned (.bool a) = .returned (.bool b) := by rw [h]

set_option maxHeartbeats 400000 in
theorem has_any (s : Nat → Bool) (x : Nat) (w : World) (h1 : x < 256) :
    Calls Tryd.prog 17 #[.agg #[.int .u64 (wd s 0), .int .u64 (wd s 1), .int .u64 (wd s 2), .int .u64 (wd s 3)], .int .u8 x] w fun e w' => e = .returned (.bool (s x)) ∧ Below w.heap.size w w' := by
  have hr := row_at s (x / 64) (by omega)
  go_enter Tryd.func17, Tryd.ntmps17
  go_wp2
  go_ret
  exact ⟨ret_bool (and_bit s x), (Below.refl _ _).alloc (Nat.le_refl _) _⟩

set_option maxHeartbeats 400000 in
theorem rhas_any (s : Nat → Bool) (x : Nat) (w : World) (h1 : x < 256) :
    Calls Tryd.prog 18 #[.agg #[.int .u64 (wd s 0), .int .u64 (wd s 1), .int .u64 (wd s 2), .int .u64 (wd s 3)], .int .u8 x] w fun e w' => e = .returned (.bool (s x)) ∧ Below w.heap.size w w' := by
  have hr := row_at s (x / 64) (by omega)
  go_enter Tryd.func18, Tryd.ntmps18
  go_wp2
  go_ret
  exact ⟨ret_bool (mod_bit s x), (Below.refl _ _).alloc (Nat.le_refl _) _⟩


def nw (s t : Nat → Bool) (k j : Nat) : Nat := if j < k then wd t j else wd s j
theorem nw_at (s t : Nat → Bool) (k : Nat) : nw s t k k = wd s k := if_neg (by omega)
theorem nw_row0 (s t : Nat → Bool) (x : Int) (h : x = wd t 0) : (#[.int .u64 x, .int .u64 (nw s t 0 1), .int .u64 (nw s t 0 2), .int .u64 (nw s t 0 3)] : Array Value) = #[.int .u64 (nw s t 1 0), .int .u64 (nw s t 1 1), .int .u64 (nw s t 1 2), .int .u64 (nw s t 1 3)] := by subst h; rfl
theorem nw_row1 (s t : Nat → Bool) (x : Int) (h : x = wd t 1) : (#[.int .u64 (nw s t 1 0), .int .u64 x, .int .u64 (nw s t 1 2), .int .u64 (nw s t 1 3)] : Array Value) = #[.int .u64 (nw s t 2 0), .int .u64 (nw s t 2 1), .int .u64 (nw s t 2 2), .int .u64 (nw s t 2 3)] := by subst h; rfl
theorem nw_row2 (s t : Nat → Bool) (x : Int) (h : x = wd t 2) : (#[.int .u64 (nw s t 2 0), .int .u64 (nw s t 2 1), .int .u64 x, .int .u64 (nw s t 2 3)] : Array Value) = #[.int .u64 (nw s t 3 0), .int .u64 (nw s t 3 1), .int .u64 (nw s t 3 2), .int .u64 (nw s t 3 3)] := by subst h; rfl
theorem nw_row3 (s t : Nat → Bool) (x : Int) (h : x = wd t 3) : (#[.int .u64 (nw s t 3 0), .int .u64 (nw s t 3 1), .int .u64 (nw s t 3 2), .int .u64 x] : Array Value) = #[.int .u64 (nw s t 4 0), .int .u64 (nw s t 4 1), .int .u64 (nw s t 4 2), .int .u64 (nw s t 4 3)] := by subst h; rfl
theorem nw_row4 (s t : Nat → Bool) : (#[.int .u64 (nw s t 4 0), .int .u64 (nw s t 4 1), .int .u64 (nw s t 4 2), .int .u64 (nw s t 4 3)] : Array Value) = #[.int .u64 (wd t 0), .int .u64 (wd t 1), .int .u64 (wd t 2), .int .u64 (wd t 3)] := rfl
theorem xor_step (s : Nat → Bool) (k : Nat) : bits BinOp.xor IntKind.u64 (if IntKind.u64.signed = true then -1 else IntKind.u64.max) (wd s k) = (wd (fun i => !s i) k : Int) := by
  rw [← wd_not]
  have e : (if IntKind.u64.signed = true then (-1 : Int) else IntKind.u64.max) = ((18446744073709551615 : Nat) : Int) := rfl
  rw [e, bits_xor_u64_nat _ _ (by decide) (wd_lt s k)]
  congr 1
  apply Nat.eq_of_testBit_eq
  intro i
  have h := Nat.testBit_two_pow_sub_succ (x := wd s k) (n := 64) (wd_lt s k) i
  rw [show 2 ^ 64 - (wd s k + 1) = 18446744073709551615 - wd s k by omega] at h
  rw [h, Nat.testBit_xor, show 18446744073709551615 = 2 ^ 64 - 1 from rfl, Nat.testBit_two_pow_sub_one]
  by_cases hi : i < 64
  · simp [hi]
  · simp [hi]; rw [testBit_wd]; simp [hi]

theorem ins_rows (s : Nat → Bool) (x : Nat) : (∀ k, k ≠ x / 64 → wd s k = wd (ins s x) k) := fun k => wd_ins_other s x k
set_option maxHeartbeats 1000000 in
theorem with_any (s : Nat → Bool) (x : Nat) (w : World) (h1 : x < 256) :
    Calls Tryd.prog 34 #[.agg #[.int .u64 (wd s 0), .int .u64 (wd s 1), .int .u64 (wd s 2), .int .u64 (wd s 3)], .int .u8 x] w fun e w' => e = .returned (.agg #[.int .u64 (wd (ins s x) 0), .int .u64 (wd (ins s x) 1), .int .u64 (wd (ins s x) 2), .int .u64 (wd (ins s x) 3)]) ∧ Below w.heap.size w w' := by
  have e0 := wd_ins_other s x
  have e1 := wd_ins s x
  obtain ⟨t, ht⟩ : ∃ t, t = ins s x := ⟨_, rfl⟩
  rw [← ht] at e0 e1 ⊢
  have E0 := Lib.hid e0
  have E1 := Lib.hid e1
  clear e0 e1 ht
  have hq : x / 64 = 0 ∨ x / 64 = 1 ∨ x / 64 = 2 ∨ x / 64 = 3 := by omega
  rcases hq with h | h | h | h
  all_goals
    have e1 := E1.out
    rw [h] at e1
    go_enter Tryd.func34, Tryd.ntmps34
    go_wp2
    have q0 := E0.out 0
    have q1 := E0.out 1
    have q2 := E0.out 2
    have q3 := E0.out 3
    rw [h] at q0 q1 q2 q3
    simp at q0 q1 q2 q3
    refine bodyPost_ret (v := .agg #[.int .u64 (wd t 0), .int .u64 (wd t 1), .int .u64 (wd t 2), .int .u64 (wd t 3)]) (by simp [results, Tryd.results34, go_sem, *]; done) rfl ⟨rfl, ?_⟩
    exact below2 _ _ _

set_option maxHeartbeats 1000000 in
theorem not_any (s : Nat → Bool) (w : World) :
    Calls Tryd.prog 24 #[.agg #[.int .u64 (wd s 0), .int .u64 (wd s 1), .int .u64 (wd s 2), .int .u64 (wd s 3)]] w fun e w' => e = .returned (.agg #[.int .u64 (wd (fun i => !s i) 0), .int .u64 (wd (fun i => !s i) 1), .int .u64 (wd (fun i => !s i) 2), .int .u64 (wd (fun i => !s i) 3)]) ∧ Below w.heap.size w w' := by
  obtain ⟨t, ht⟩ : ∃ t : Nat → Bool, t = fun i => !s i := ⟨_, rfl⟩
  have hx := xor_step s
  rw [← ht] at hx ⊢
  have HX := Lib.hid hx
  clear ht hx
  go_enter Tryd.func24, Tryd.ntmps24
  go_wp2
  go_loopw [4] (fun i wr => ∃ k : Nat, k ≤ 4 ∧ i = .int .i64 k ∧ wr = (w.alloc (.cells #[.int .u64 (nw s t k 0), .int .u64 (nw s t k 1), .int .u64 (nw s t k 2), .int .u64 (nw s t k 3)] 25)).alloc (.cells #[.int .u64 0, .int .u64 0, .int .u64 0, .int .u64 0] 25)) (fun i _ => 4 - (intOf i).toNat)
  case atStart => exact ⟨0, by omega, rfl, rfl⟩
  case round =>
    obtain ⟨k, hk, rfl, rfl⟩ := hrel
    have hq : k = 0 ∨ k = 1 ∨ k = 2 ∨ k = 3 ∨ k = 4 := by omega
    rcases hq with rfl | rfl | rfl | rfl | rfl
    case inr.inr.inr.inr =>
      rw [nw_row4 s t]
      go_wp2
      refine bodyPost_ret (v := .agg #[.int .u64 (wd t 0), .int .u64 (wd t 1), .int .u64 (wd t 2), .int .u64 (wd t 3)]) (by simp [results, Tryd.results24, go_sem]; done) rfl ⟨rfl, ?_⟩
      exact below2 _ _ _
    · go_wp2
      go_roundw
      case rel => exact ⟨1, by omega, rfl, by rw [nw_row0 s t _ ((congrArg _ (congrArg _ (nw_at s t 0))).trans (HX.out 0))]⟩
      case measure => decide
    · go_wp2
      go_roundw
      case rel => exact ⟨2, by omega, rfl, by rw [nw_row1 s t _ ((congrArg _ (congrArg _ (nw_at s t 1))).trans (HX.out 1))]⟩
      case measure => decide
    · go_wp2
      go_roundw
      case rel => exact ⟨3, by omega, rfl, by rw [nw_row2 s t _ ((congrArg _ (congrArg _ (nw_at s t 2))).trans (HX.out 2))]⟩
      case measure => decide
    · go_wp2
      go_roundw
      case rel => exact ⟨4, by omega, rfl, by rw [nw_row3 s t _ ((congrArg _ (congrArg _ (nw_at s t 3))).trans (HX.out 3))]⟩
      case measure => decide
set_option maxHeartbeats 1000000 in
theorem or_any (s t0 : Nat → Bool) (w : World) :
    Calls Tryd.prog 38 #[.agg #[.int .u64 (wd s 0), .int .u64 (wd s 1), .int .u64 (wd s 2), .int .u64 (wd s 3)], .agg #[.int .u64 (wd t0 0), .int .u64 (wd t0 1), .int .u64 (wd t0 2), .int .u64 (wd t0 3)]] w fun e w' => e = .returned (.agg #[.int .u64 (wd (fun i => s i || t0 i) 0), .int .u64 (wd (fun i => s i || t0 i) 1), .int .u64 (wd (fun i => s i || t0 i) 2), .int .u64 (wd (fun i => s i || t0 i) 3)]) ∧ Below w.heap.size w w' := by
  obtain ⟨t, ht⟩ : ∃ t : Nat → Bool, t = fun i => s i || t0 i := ⟨_, rfl⟩
  have hx := wd_or s t0
  rw [← ht] at hx ⊢
  have HX := Lib.hid hx
  clear ht hx
  go_enter Tryd.func38, Tryd.ntmps38
  go_wp2
  go_loopw [6] (fun i wr => ∃ k : Nat, k ≤ 4 ∧ i = .int .i64 k ∧ ∃ n, wr = World.drewN (((w.alloc (.cells #[.int .u64 (nw s t k 0), .int .u64 (nw s t k 1), .int .u64 (nw s t k 2), .int .u64 (nw s t k 3)] 55)).alloc (.cells #[.int .u64 (wd t0 0), .int .u64 (wd t0 1), .int .u64 (wd t0 2), .int .u64 (wd t0 3)] 55)).alloc (.cells #[.int .u64 0, .int .u64 0, .int .u64 0, .int .u64 0] 55)) n) (fun i _ => 4 - (intOf i).toNat)
  case atStart => exact ⟨0, by omega, rfl, 0, rfl⟩
  case round =>
    obtain ⟨k, hk, rfl, nd, rfl⟩ := hrel
    have hq : k = 0 ∨ k = 1 ∨ k = 2 ∨ k = 3 ∨ k = 4 := by omega
    rcases hq with rfl | rfl | rfl | rfl | rfl
    case inr.inr.inr.inr =>
      rw [nw_row4 s t]
      go_wp2
      refine bodyPost_ret (v := .agg #[.int .u64 (wd t 0), .int .u64 (wd t 1), .int .u64 (wd t 2), .int .u64 (wd t 3)]) (by simp [results, Tryd.results38, go_sem]; done) rfl ⟨rfl, ?_⟩
      exact below_set4 (bdrew (below3 _ _ _ _)) (by omega) _ _ _ _
    · go_wp2
      go_region
      go_wp2
      go_roundw
      case rel => exact ⟨1, by omega, rfl, nd + 1, by rw [← nw_row0 s t _ ((congrArg (fun z : Nat => bits BinOp.or IntKind.u64 (z : Int) _) (nw_at s t 0)).trans (HX.out 0))]; refine (World.setCell_drewN' _ _ _ _).trans (congrArg (fun z => World.drewN z (nd + 1)) ?_); go_simp⟩
      case measure => decide
    · go_wp2
      go_region
      go_wp2
      go_roundw
      case rel => exact ⟨2, by omega, rfl, nd + 1, by rw [← nw_row1 s t _ ((congrArg (fun z : Nat => bits BinOp.or IntKind.u64 (z : Int) _) (nw_at s t 1)).trans (HX.out 1))]; refine (World.setCell_drewN' _ _ _ _).trans (congrArg (fun z => World.drewN z (nd + 1)) ?_); go_simp⟩
      case measure => decide
    · go_wp2
      go_region
      go_wp2
      go_roundw
      case rel => exact ⟨3, by omega, rfl, nd + 1, by rw [← nw_row2 s t _ ((congrArg (fun z : Nat => bits BinOp.or IntKind.u64 (z : Int) _) (nw_at s t 2)).trans (HX.out 2))]; refine (World.setCell_drewN' _ _ _ _).trans (congrArg (fun z => World.drewN z (nd + 1)) ?_); go_simp⟩
      case measure => decide
    · go_wp2
      go_region
      go_wp2
      go_roundw
      case rel => exact ⟨4, by omega, rfl, nd + 1, by rw [← nw_row3 s t _ ((congrArg (fun z : Nat => bits BinOp.or IntKind.u64 (z : Int) _) (nw_at s t 3)).trans (HX.out 3))]; refine (World.setCell_drewN' _ _ _ _).trans (congrArg (fun z => World.drewN z (nd + 1)) ?_); go_simp⟩
      case measure => decide
set_option maxHeartbeats 1000000 in
theorem and_any (s t0 : Nat → Bool) (w : World) :
    Calls Tryd.prog 39 #[.agg #[.int .u64 (wd s 0), .int .u64 (wd s 1), .int .u64 (wd s 2), .int .u64 (wd s 3)], .agg #[.int .u64 (wd t0 0), .int .u64 (wd t0 1), .int .u64 (wd t0 2), .int .u64 (wd t0 3)]] w fun e w' => e = .returned (.agg #[.int .u64 (wd (fun i => s i && t0 i) 0), .int .u64 (wd (fun i => s i && t0 i) 1), .int .u64 (wd (fun i => s i && t0 i) 2), .int .u64 (wd (fun i => s i && t0 i) 3)]) ∧ Below w.heap.size w w' := by
  obtain ⟨t, ht⟩ : ∃ t : Nat → Bool, t = fun i => s i && t0 i := ⟨_, rfl⟩
  have hx := wd_and s t0
  rw [← ht] at hx ⊢
  have HX := Lib.hid hx
  clear ht hx
  go_enter Tryd.func39, Tryd.ntmps39
  go_wp2
  go_loopw [6] (fun i wr => ∃ k : Nat, k ≤ 4 ∧ i = .int .i64 k ∧ ∃ n, wr = World.drewN (((w.alloc (.cells #[.int .u64 (nw s t k 0), .int .u64 (nw s t k 1), .int .u64 (nw s t k 2), .int .u64 (nw s t k 3)] 55)).alloc (.cells #[.int .u64 (wd t0 0), .int .u64 (wd t0 1), .int .u64 (wd t0 2), .int .u64 (wd t0 3)] 55)).alloc (.cells #[.int .u64 0, .int .u64 0, .int .u64 0, .int .u64 0] 55)) n) (fun i _ => 4 - (intOf i).toNat)
  case atStart => exact ⟨0, by omega, rfl, 0, rfl⟩
  case round =>
    obtain ⟨k, hk, rfl, nd, rfl⟩ := hrel
    have hq : k = 0 ∨ k = 1 ∨ k = 2 ∨ k = 3 ∨ k = 4 := by omega
    rcases hq with rfl | rfl | rfl | rfl | rfl
    case inr.inr.inr.inr =>
      rw [nw_row4 s t]
      go_wp2
      refine bodyPost_ret (v := .agg #[.int .u64 (wd t 0), .int .u64 (wd t 1), .int .u64 (wd t 2), .int .u64 (wd t 3)]) (by simp [results, Tryd.results39, go_sem]; done) rfl ⟨rfl, ?_⟩
      exact below_set4 (bdrew (below3 _ _ _ _)) (by omega) _ _ _ _
    · go_wp2
      go_region
      go_wp2
      go_roundw
      case rel => exact ⟨1, by omega, rfl, nd + 1, by rw [← nw_row0 s t _ ((congrArg (fun z : Nat => bits BinOp.and IntKind.u64 (z : Int) _) (nw_at s t 0)).trans (HX.out 0))]; refine (World.setCell_drewN' _ _ _ _).trans (congrArg (fun z => World.drewN z (nd + 1)) ?_); go_simp⟩
      case measure => decide
    · go_wp2
      go_region
      go_wp2
      go_roundw
      case rel => exact ⟨2, by omega, rfl, nd + 1, by rw [← nw_row1 s t _ ((congrArg (fun z : Nat => bits BinOp.and IntKind.u64 (z : Int) _) (nw_at s t 1)).trans (HX.out 1))]; refine (World.setCell_drewN' _ _ _ _).trans (congrArg (fun z => World.drewN z (nd + 1)) ?_); go_simp⟩
      case measure => decide
    · go_wp2
      go_region
      go_wp2
      go_roundw
      case rel => exact ⟨3, by omega, rfl, nd + 1, by rw [← nw_row2 s t _ ((congrArg (fun z : Nat => bits BinOp.and IntKind.u64 (z : Int) _) (nw_at s t 2)).trans (HX.out 2))]; refine (World.setCell_drewN' _ _ _ _).trans (congrArg (fun z => World.drewN z (nd + 1)) ?_); go_simp⟩
      case measure => decide
    · go_wp2
      go_region
      go_wp2
      go_roundw
      case rel => exact ⟨4, by omega, rfl, nd + 1, by rw [← nw_row3 s t _ ((congrArg (fun z : Nat => bits BinOp.and IntKind.u64 (z : Int) _) (nw_at s t 3)).trans (HX.out 3))]; refine (World.setCell_drewN' _ _ _ _).trans (congrArg (fun z => World.drewN z (nd + 1)) ?_); go_simp⟩
      case measure => decide
end Go.Proofs.YtcnikeeapillnaaDoor

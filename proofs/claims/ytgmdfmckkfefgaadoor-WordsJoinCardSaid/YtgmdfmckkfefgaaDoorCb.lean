/- Contracts of layer 1's functions that put no loop over memory of the caller's: Has, with, Not, or, and. -/
import Derived.Test.YtgmdfmckkfefgaaDoorWa
import Derived.Test.YtgmdfmckkfefgaaDoorCa
import Derived.WalkKit
import Derived.WalkSpells
import Derived.WalkLawsBesides
import Derived.Deep.RegionHeld3
import Derived.Lib.Hide
import Derived.RangeFuncBox
namespace Go.Proofs.YtgmdfmckkfefgaaDoor
open Go Go.RowKit

theorem below2 (w : World) (o p : Obj) : Below w.heap.size w ((w.alloc o).alloc p) := ((Below.refl _ _).alloc (Nat.le_refl _) _).alloc (by simp) _
theorem below3 (w : World) (o p q : Obj) : Below w.heap.size w (((w.alloc o).alloc p).alloc q) := (below2 w o p).alloc (by simp; omega) _
theorem World.setCell_drewN' (w : World) (n : Nat) (a : Addr) (v : Value) : (w.drewN n).setCell a v = (w.setCell a v).drewN n := rfl
theorem Blk.set {w : World} {b : Nat} {vs : Array Value} {T : TypeId} (h : Blk w b vs T) (j : Nat) (v : Value) : Blk (w.setCell ⟨b, j, none⟩ v) b (vs.setIfInBounds j v) T := by
  obtain ⟨hlt, hk⟩ := Array.getElem?_eq_some_iff.1 h
  show (w.heap.modify b _)[b]? = _
  rw [Array.getElem?_eq_getElem (by rw [Array.size_modify]; exact hlt), Array.getElem_modify_self, hk]
  simp
/-- All four words of a class's block, written. -/
theorem Blk.set4 {w : World} {b : Nat} {a0 a1 a2 a3 v0 v1 v2 v3 : Value} {T : TypeId} (h : Blk w b #[a0, a1, a2, a3] T) :
    Blk ((((w.setCell ⟨b, 0, none⟩ v0).setCell ⟨b, 1, none⟩ v1).setCell ⟨b, 2, none⟩ v2).setCell ⟨b, 3, none⟩ v3) b #[v0, v1, v2, v3] T := by
  have := (((h.set 0 v0).set 1 v1).set 2 v2).set 3 v3
  simpa using this
theorem below_set4 {B : Nat} {a w : World} (h : Below B a w) {b : Nat} (hb : B ≤ b) (v0 v1 v2 v3 : Value) :
    Below B a ((((w.setCell ⟨b, 0, none⟩ v0).setCell ⟨b, 1, none⟩ v1).setCell ⟨b, 2, none⟩ v2).setCell ⟨b, 3, none⟩ v3) :=
  (((h.setCell (p := ⟨b, 0, none⟩) hb _).setCell (p := ⟨b, 1, none⟩) hb _).setCell (p := ⟨b, 2, none⟩) hb _).setCell (p := ⟨b, 3, none⟩) hb _
theorem Blk.set4_other {w : World} {b c : Nat} {vs : Array Value} {v0 v1 v2 v3 : Value} {T : TypeId} (h : Blk w c vs T) (hne : c ≠ b) :
    Blk ((((w.setCell ⟨b, 0, none⟩ v0).setCell ⟨b, 1, none⟩ v1).setCell ⟨b, 2, none⟩ v2).setCell ⟨b, 3, none⟩ v3) c vs T := by
  unfold Blk
  rw [Below.heap_setCell _ _ _ _ hne, Below.heap_setCell _ _ _ _ hne, Below.heap_setCell _ _ _ _ hne, Below.heap_setCell _ _ _ _ hne]
  exact h
/-- What the walk wants of a class's block. -/
theorem Blk.four {w : World} {b : Nat} {a0 a1 a2 a3 : Value} {T : TypeId} (h : Blk w b #[a0, a1, a2, a3] T) :
    (w.cell? ⟨b, 0, none⟩ = some a0 ∧ w.cell? ⟨b, 1, none⟩ = some a1 ∧ w.cell? ⟨b, 2, none⟩ = some a2 ∧ w.cell? ⟨b, 3, none⟩ = some a3) ∧
    (w.frozen? ⟨b, 0, none⟩ = false ∧ w.frozen? ⟨b, 1, none⟩ = false ∧ w.frozen? ⟨b, 2, none⟩ = false ∧ w.frozen? ⟨b, 3, none⟩ = false) :=
  ⟨⟨h.cell 0, h.cell 1, h.cell 2, h.cell 3⟩, ⟨h.frozen 0, h.frozen 1, h.frozen 2, h.frozen 3⟩⟩

def nw (s t : Nat → Bool) (k j : Nat) : Nat := if j < k then cw t j else cw s j
theorem nw_at (s t : Nat → Bool) (k : Nat) : nw s t k k = cw s k := if_neg (by omega)
theorem nw_row0 (s t : Nat → Bool) (x : Int) (h : x = cw t 0) : (#[.int .u64 x, .int .u64 (nw s t 0 1), .int .u64 (nw s t 0 2), .int .u64 (nw s t 0 3)] : Array Value) = #[.int .u64 (nw s t 1 0), .int .u64 (nw s t 1 1), .int .u64 (nw s t 1 2), .int .u64 (nw s t 1 3)] := by subst h; rfl
theorem nw_row1 (s t : Nat → Bool) (x : Int) (h : x = cw t 1) : (#[.int .u64 (nw s t 1 0), .int .u64 x, .int .u64 (nw s t 1 2), .int .u64 (nw s t 1 3)] : Array Value) = #[.int .u64 (nw s t 2 0), .int .u64 (nw s t 2 1), .int .u64 (nw s t 2 2), .int .u64 (nw s t 2 3)] := by subst h; rfl
theorem nw_row2 (s t : Nat → Bool) (x : Int) (h : x = cw t 2) : (#[.int .u64 (nw s t 2 0), .int .u64 (nw s t 2 1), .int .u64 x, .int .u64 (nw s t 2 3)] : Array Value) = #[.int .u64 (nw s t 3 0), .int .u64 (nw s t 3 1), .int .u64 (nw s t 3 2), .int .u64 (nw s t 3 3)] := by subst h; rfl
theorem nw_row3 (s t : Nat → Bool) (x : Int) (h : x = cw t 3) : (#[.int .u64 (nw s t 3 0), .int .u64 (nw s t 3 1), .int .u64 (nw s t 3 2), .int .u64 x] : Array Value) = #[.int .u64 (nw s t 4 0), .int .u64 (nw s t 4 1), .int .u64 (nw s t 4 2), .int .u64 (nw s t 4 3)] := by subst h; rfl
theorem nw_row4 (s t : Nat → Bool) : (#[.int .u64 (nw s t 4 0), .int .u64 (nw s t 4 1), .int .u64 (nw s t 4 2), .int .u64 (nw s t 4 3)] : Array Value) = #[.int .u64 (cw t 0), .int .u64 (cw t 1), .int .u64 (cw t 2), .int .u64 (cw t 3)] := rfl
theorem ins_rows (s : Nat → Bool) (x : Nat) : (∀ k, k ≠ x / 64 → cw s k = cw (cins s x) k) := fun k => cw_ins_other s x k
set_option maxHeartbeats 1000000 in
theorem with_any (s : Nat → Bool) (x : Nat) (w : World) (h1 : x < 256) :
    Calls Tryd.prog 48 #[.agg #[.int .u64 (cw s 0), .int .u64 (cw s 1), .int .u64 (cw s 2), .int .u64 (cw s 3)], .int .u8 x] w fun e w' => e = .returned (.agg #[.int .u64 (cw (cins s x) 0), .int .u64 (cw (cins s x) 1), .int .u64 (cw (cins s x) 2), .int .u64 (cw (cins s x) 3)]) ∧ Below w.heap.size w w' := by
  have e0 := cw_ins_other s x
  have e1 := cw_ins s x
  obtain ⟨t, ht⟩ : ∃ t, t = cins s x := ⟨_, rfl⟩
  rw [← ht] at e0 e1 ⊢
  have E0 := Lib.hid e0
  have E1 := Lib.hid e1
  clear e0 e1 ht
  have hq : x / 64 = 0 ∨ x / 64 = 1 ∨ x / 64 = 2 ∨ x / 64 = 3 := by omega
  rcases hq with h | h | h | h
  all_goals
    have e1 := E1.out
    rw [h] at e1
    go_enter Tryd.func48, Tryd.ntmps48
    go_wp2
    have q0 := E0.out 0
    have q1 := E0.out 1
    have q2 := E0.out 2
    have q3 := E0.out 3
    rw [h] at q0 q1 q2 q3
    simp at q0 q1 q2 q3
    refine bodyPost_ret (v := .agg #[.int .u64 (cw t 0), .int .u64 (cw t 1), .int .u64 (cw t 2), .int .u64 (cw t 3)]) (by simp [results, Tryd.results48, go_sem, *]; done) rfl ⟨rfl, ?_⟩
    exact below2 _ _ _

set_option maxHeartbeats 1000000 in
theorem or_any (s t0 : Nat → Bool) (w : World) :
    Calls Tryd.prog 42 #[.agg #[.int .u64 (cw s 0), .int .u64 (cw s 1), .int .u64 (cw s 2), .int .u64 (cw s 3)], .agg #[.int .u64 (cw t0 0), .int .u64 (cw t0 1), .int .u64 (cw t0 2), .int .u64 (cw t0 3)]] w fun e w' => e = .returned (.agg #[.int .u64 (cw (fun i => s i || t0 i) 0), .int .u64 (cw (fun i => s i || t0 i) 1), .int .u64 (cw (fun i => s i || t0 i) 2), .int .u64 (cw (fun i => s i || t0 i) 3)]) ∧ Below w.heap.size w w' := by
  obtain ⟨t, ht⟩ : ∃ t : Nat → Bool, t = fun i => s i || t0 i := ⟨_, rfl⟩
  have hx := cw_or s t0
  rw [← ht] at hx ⊢
  have HX := Lib.hid hx
  clear ht hx
  go_enter Tryd.func42, Tryd.ntmps42
  go_wp2
  go_loopw [6] (fun i wr => ∃ k : Nat, k ≤ 4 ∧ i = .int .i64 k ∧ ∃ n, wr = World.drewN (((w.alloc (.cells #[.int .u64 (nw s t k 0), .int .u64 (nw s t k 1), .int .u64 (nw s t k 2), .int .u64 (nw s t k 3)] 80)).alloc (.cells #[.int .u64 (cw t0 0), .int .u64 (cw t0 1), .int .u64 (cw t0 2), .int .u64 (cw t0 3)] 80)).alloc (.cells #[.int .u64 0, .int .u64 0, .int .u64 0, .int .u64 0] 80)) n) (fun i _ => 4 - (intOf i).toNat)
  case atStart => exact ⟨0, by omega, rfl, 0, rfl⟩
  case round =>
    obtain ⟨k, hk, rfl, nd, rfl⟩ := hrel
    have hq : k = 0 ∨ k = 1 ∨ k = 2 ∨ k = 3 ∨ k = 4 := by omega
    rcases hq with rfl | rfl | rfl | rfl | rfl
    case inr.inr.inr.inr =>
      rw [nw_row4 s t]
      go_wp2
      refine bodyPost_ret (v := .agg #[.int .u64 (cw t 0), .int .u64 (cw t 1), .int .u64 (cw t 2), .int .u64 (cw t 3)]) (by simp [results, Tryd.results42, go_sem]; done) rfl ⟨rfl, ?_⟩
      exact below_set4 (bdrew (below3 _ _ _ _)) (by omega) _ _ _ _
    · go_wp2
      go_region
      go_wp2
      go_roundw
      case rel => exact ⟨1, by omega, rfl, nd + 1, by rw [← nw_row0 s t _ ((congrArg (fun z : Nat => bits BinOp.or IntKind.u64 (z : Int) _) (nw_at s t 0)).trans (HX.out 0))]; refine (World.setCell_drewN' _ _ _ _).trans (congrArg (fun z => World.drewN z (nd + 1)) ?_); go_simp⟩
      case measure => decide
    · go_wp2
      go_region
      go_wp2
      go_roundw
      case rel => exact ⟨2, by omega, rfl, nd + 1, by rw [← nw_row1 s t _ ((congrArg (fun z : Nat => bits BinOp.or IntKind.u64 (z : Int) _) (nw_at s t 1)).trans (HX.out 1))]; refine (World.setCell_drewN' _ _ _ _).trans (congrArg (fun z => World.drewN z (nd + 1)) ?_); go_simp⟩
      case measure => decide
    · go_wp2
      go_region
      go_wp2
      go_roundw
      case rel => exact ⟨3, by omega, rfl, nd + 1, by rw [← nw_row2 s t _ ((congrArg (fun z : Nat => bits BinOp.or IntKind.u64 (z : Int) _) (nw_at s t 2)).trans (HX.out 2))]; refine (World.setCell_drewN' _ _ _ _).trans (congrArg (fun z => World.drewN z (nd + 1)) ?_); go_simp⟩
      case measure => decide
    · go_wp2
      go_region
      go_wp2
      go_roundw
      case rel => exact ⟨4, by omega, rfl, nd + 1, by rw [← nw_row3 s t _ ((congrArg (fun z : Nat => bits BinOp.or IntKind.u64 (z : Int) _) (nw_at s t 3)).trans (HX.out 3))]; refine (World.setCell_drewN' _ _ _ _).trans (congrArg (fun z => World.drewN z (nd + 1)) ?_); go_simp⟩
      case measure => decide
end Go.Proofs.YtgmdfmckkfefgaaDoor
/- Contracts of layer 1: a class's bytes by a range-function. -/
import Derived.Test.YtcnikeeapillnaaDoorWc
import Derived.Test.YtcnikeeapillnaaDoorMc
import Derived.RangeFuncBox
import Derived.RangeFuncNested
import Derived.RangeFuncBound
import Derived.RangeFuncCalls
import Derived.RangeFuncLeaves
import Derived.Shelf.Abstract
import Derived.Shelf.RegionOpen
import Derived.OwnWalkIn
import Derived.TacticsInMore
import Derived.LoopNIn
import Derived.LoopIn
import Derived.Maps.AppendAt
namespace Go.Proofs.YtcnikeeapillnaaDoor
open Go.RowKit Go.Shelf
attribute [local go_sem] Oper.semAt_some

/-- A byte. -/
abbrev Byt := { x : Nat // x < 256 }
def vals (l : List Byt) : List Nat := l.map (·.1)
theorem vals_snoc (l : List Byt) (x : Byt) : vals (l ++ [x]) = vals l ++ [x.1] := by simp [vals]
theorem vals_length (l : List Byt) : (vals l).length = l.length := by simp [vals]

theorem Tab.below' {w w' : World} {B : Nat} (h : Tab w) (hb : Below B w w') (hB : 0 < B) : Tab w' := ⟨Nat.lt_of_lt_of_le h.1 hb.size, fun j hj => (hb.cell (p := ⟨0, j, none⟩) hB).trans (h.2 j hj)⟩

theorem idx55 (s : Nat → Bool) (k : Nat) (hk : k < 4) (w : World) : (Instr.index 55 (.agg #[.int .u64 (wd s 0), .int .u64 (wd s 1), .int .u64 (wd s 2), .int .u64 (wd s 3)]) (.int .i64 (k : Int))).run Tryd.prog w = .ok (.int .u64 (wd s k)) w := by
  have hq : k = 0 ∨ k = 1 ∨ k = 2 ∨ k = 3 := by omega
  rcases hq with rfl | rfl | rfl | rfl
  · exact idx55_0 _ _ _ _ w
  · exact idx55_1 _ _ _ _ w
  · exact idx55_2 _ _ _ _ w
  · exact idx55_3 _ _ _ _ w

set_option maxRecDepth 100000 in
set_option maxHeartbeats 2000000 in
theorem bytes1_in (n : Nat) (hn : 1 ≤ n) (l Bn n₀ : Nat) (hn₀ : 0 < n₀) (s : Nat → Bool) (J Jx : List Byt → World → Prop)
    (hY : ∀ pre x W, J pre W → pre.length < 256 → YieldAt Fence.wide (n - 1) Tryd.prog l #[.int .u8 (x : Byt).1] W fun e W' =>
      (e = .returned (.bool true) ∧ J (pre ++ [x]) W' ∧ Below n₀ W W') ∨ (e = .returned (.bool false) ∧ Jx (pre ++ [x]) W'))
    (W : World) (hBn : Blk W Bn #[.int .u64 (wd s 0), .int .u64 (wd s 1), .int .u64 (wd s 2), .int .u64 (wd s 3)] 55) (hT : Tab W) (h0 : J [] W) :
    CallsIn Fence.wide n Tryd.prog 41 #[.func (.yield l) #[] #[], .pointer (some ⟨Bn, 0, none⟩)] W fun e W' => (∃ v, e = .returned v) ∧
      ((∃ ys, vals ys = elems s 256 ∧ J ys W') ∨ (∃ pre, (∃ q, q ≤ 256 ∧ vals pre = elems s q) ∧ Jx pre W')) := by
  obtain ⟨⟨c0, c1, c2, c3⟩, _⟩ := hBn.four
  have HT := Lib.hid hT
  clear hT hBn
  refine callsIn_of_wp Tryd.func41 rfl trivial ?_ rfl
  simp only [Tryd.ntmps41, List.size_toArray, List.length_cons, List.length_nil, Nat.reduceAdd, Nat.reduceSub, Array.replicate_succ, Array.replicate_zero, List.push_toArray, List.append_toArray, List.nil_append, List.cons_append]
  gi_wp2
  gi_loopw [6] (fun i wr => ∃ (k : Nat) (pre : List Byt), k ≤ 4 ∧ i = .int .i64 k ∧ vals pre = elems s (64 * k) ∧ J pre wr ∧ Below n₀ W wr)
    (fun i _ => 4 - (intOf i).toNat)
  case atStart => exact ⟨0, [], by omega, rfl, rfl, h0, Below.refl _ _⟩
  case round =>
    obtain ⟨k, pre, hk, rfl, hp, hJ, hnx⟩ := hrel
    by_cases hlt : k < 4
    · have hd : decide ((k : Int) < 4) = true := by simp; omega
      have hi := idx55 s k hlt
      have HP := Lib.hid hp
      have HG := Lib.hid (ge_start s k)
      clear hp c0 c1 c2 c3
      gi_wp2
      obtain ⟨wo, rfl⟩ : ∃ wo : World, wo = wr := ⟨_, rfl⟩
      gi_loopw [4] (fun t wr => ∃ (p : Nat) (pre : List Byt), 64 * k ≤ p ∧ p ≤ 64 * (k + 1) ∧ t = .int .u64 (wd (ge s p) k) ∧ vals pre = elems s p ∧ J pre wr ∧ Below n₀ W wr)
        (fun t _ => (intOf t).toNat)
      case atStart => exact ⟨64 * k, pre, by omega, by omega, by rw [← HG.out], HP.out, hJ, hnx⟩
      case round =>
        obtain ⟨p, pre, hp1, hp2, rfl, hp, hJ, hnx⟩ := hrel
        by_cases hz : wd (ge s p) k = 0
        · have HP2 := Lib.hid ((word_done s k p hp1 hp2 hz).trans hp.symm)
          have hz' : ((wd (ge s p) k : Nat) : Int) = 0 := by rw [hz]; rfl
          rw [hz']
          clear hp hz hz'
          gi_wp2
          go_roundw
          case rel => exact ⟨k + 1, pre, by omega, by go_num, HP2.out.symm, hJ, hnx⟩
          case measure => simp [intOf]; omega
        · obtain ⟨t, ht, htl, hpt, he, hw⟩ := word_next s k p hp1 hz
          obtain ⟨x, hx⟩ : ∃ x, x = wd (ge s p) k := ⟨_, rfl⟩
          obtain ⟨b, hb⟩ : ∃ b, b = 64 * k + t := ⟨_, rfl⟩
          have hxl := wd_lt (ge s p) k
          have hlp := and_pred_lt _ hz
          have hpl := elems_le s p
          rw [← hp, vals_length] at hpl
          rw [← hx] at hz ht hw hxl hlp ⊢
          rw [← hb] at he hw hpt
          have hb256 : b < 256 := by omega
          have hbe : 64 * (k : Int) + (t : Int) = (b : Int) := by omega
          have hxe : bits BinOp.and IntKind.u64 (x : Int) ((x : Int) - 1) = ((wd (ge s (b + 1)) k : Nat) : Int) := by
            rw [show ((x : Int) - 1) = ((x - 1 : Nat) : Int) by omega, bits_and_u64_nat x (x - 1) hxl (by omega), hw]
          have hx1 : 1 ≤ x := by omega
          have hx0 : ((x : Int) != 0) = true := by simp; omega
          have htz := fun w h => tz_any x w hxl hz h
          rw [← ht] at htz
          have HL := Lib.hid (hw ▸ hlp)
          have HE := Lib.hid he
          have HP2 := Lib.hid hp
          obtain ⟨fn, tmps, assign, body, hy, hR⟩ := hY pre ⟨b, hb256⟩ wr hJ (by omega)
          dsimp only at hy
          clear hx hb he hp hw ht hlp hz
          gi_wp2_with (refine ⟨trivial, ?_⟩; gi_at_call 42; refine (callsIn_wide.2 (htz _ (HT.out.below' hnx hn₀))).mono ?_; rintro e w1 ⟨rfl, rfl⟩)
          refine hR.mono ?_
          rintro e W3 (⟨rfl, hJ3, hk3⟩ | ⟨rfl, hJx3⟩)
          · gi_wp2
            go_roundw
            case rel => exact ⟨b + 1, pre ++ [⟨b, hb256⟩], by omega, by omega, rfl, by rw [vals_snoc, HP2.out, HE.out], hJ3, hnx.trans hk3⟩
            case measure => have := HL.out; simp [intOf]; omega
          · gi_wp2
            refine bodyPost_ret (results_none rfl _ _ _) rfl ?_
            exact ⟨⟨_, rfl⟩, .inr ⟨pre ++ [⟨b, hb256⟩], ⟨b + 1, by omega, by rw [vals_snoc, HP2.out, HE.out]⟩, hJx3⟩⟩
    · obtain rfl : k = 4 := by omega
      clear c0 c1 c2 c3
      have HP := Lib.hid hp
      clear hp
      gi_wp2
      go_end0
      exact ⟨⟨_, rfl⟩, .inl ⟨pre, HP.out, hJ⟩⟩
set_option maxHeartbeats 1000000 in
theorem bytes_any (s : Nat → Bool) (w : World) :
    Calls Tryd.prog 33 #[.agg #[.int .u64 (wd s 0), .int .u64 (wd s 1), .int .u64 (wd s 2), .int .u64 (wd s 3)]] w fun e w' => e = .returned (.func (.func 41) #[] #[.pointer (some ⟨w.heap.size, 0, none⟩)]) ∧ w' = w.alloc (.cells #[.int .u64 (wd s 0), .int .u64 (wd s 1), .int .u64 (wd s 2), .int .u64 (wd s 3)] 55) := by
  go_enter Tryd.func33, Tryd.ntmps33
  go_wp2
  go_ret
  exact ⟨rfl, rfl⟩

theorem bytes_stops (n : Nat) (hn : 1 ≤ n) (Bn n₀ : Nat) (hn₀ : 0 < n₀) (s : Nat → Bool) (w : World) (hBn : Blk w Bn #[.int .u64 (wd s 0), .int .u64 (wd s 1), .int .u64 (wd s 2), .int .u64 (wd s 3)] 55) (hT : Tab w) :
    SeqStopsK Fence.wide n Tryd.prog 41 #[.pointer (some ⟨Bn, 0, none⟩)] (fun x : Byt => #[Value.int .u8 x.1]) (Below n₀) (fun ys => vals ys = elems s 256) (fun pre => ∃ q, q ≤ 256 ∧ vals pre = elems s q) 256 w := fun l J Jx W hW _ _ hY h0 =>
  bytes1_in n hn l Bn n₀ hn₀ s J Jx hY W (hBn.below hW hBn.lt) (hT.below hW) h0
end Go.Proofs.YtcnikeeapillnaaDoor

/- Contracts of the document's own answers of layer 1: Set. -/
import Derived.Test.YtcnikeeapillnaaDoorL6
namespace Go.Proofs.YtcnikeeapillnaaDoor
open Go Go.RowKit

theorem row_set (s t : Nat → Bool) (q : Nat) (hq : q < 4) (h : ∀ k, k ≠ q → k < 4 → wd s k = wd t k) : (#[.int .u64 (wd s 0), .int .u64 (wd s 1), .int .u64 (wd s 2), .int .u64 (wd s 3)] : Array Value).setIfInBounds q (.int .u64 (wd t q)) = #[.int .u64 (wd t 0), .int .u64 (wd t 1), .int .u64 (wd t 2), .int .u64 (wd t 3)] := by
  have hq' : q = 0 ∨ q = 1 ∨ q = 2 ∨ q = 3 := by omega
  rcases hq' with rfl | rfl | rfl | rfl
  · rw [h 1 (by decide) (by decide), h 2 (by decide) (by decide), h 3 (by decide) (by decide)]; rfl
  · rw [h 0 (by decide) (by decide), h 2 (by decide) (by decide), h 3 (by decide) (by decide)]; rfl
  · rw [h 0 (by decide) (by decide), h 1 (by decide) (by decide), h 3 (by decide) (by decide)]; rfl
  · rw [h 0 (by decide) (by decide), h 1 (by decide) (by decide), h 2 (by decide) (by decide)]; rfl
/-- What is below k of g. -/
def lo (g : Nat → Bool) (k : Nat) : Nat → Bool := fun i => g i && decide (i < k)
theorem lo_zero (g : Nat → Bool) : lo g 0 = mem [] := by funext i; simp [lo, mem]
theorem lo_skip (g : Nat → Bool) (k : Nat) (h : g k = false) : lo g (k + 1) = lo g k := by
  funext i; unfold lo
  by_cases e : i = k
  · subst e; simp [h]
  · congr 1; rw [Bool.eq_iff_iff]; simp; omega
theorem lo_other (g : Nat → Bool) (k j : Nat) (h : j ≠ k / 64) : wd (lo g k) j = wd (lo g (k + 1)) j := by
  refine wd_congr fun i hi => ?_
  unfold lo; congr 1; rw [Bool.eq_iff_iff]; simp; omega
theorem lo_add (g : Nat → Bool) (k : Nat) (h : g k = true) : wd (lo g k) (k / 64) + 2 ^ (k % 64) = wd (lo g (k + 1)) (k / 64) := by
  have hx : wd (lo g k) (k / 64) < 2 ^ (k % 64) := by
    refine Nat.lt_pow_two_of_testBit _ fun i hi => ?_
    rw [testBit_wd]
    simp [lo]; intro _ _; omega
  have ht : k % 64 < 64 := Nat.mod_lt _ (by decide)
  have hp : 2 ^ (k % 64) * 2 ≤ 18446744073709551616 := by
    have := Nat.pow_le_pow_right (n := 2) (by decide) (show k % 64 + 1 ≤ 64 by omega)
    rw [Nat.pow_succ] at this; exact this
  refine eq_wd (by omega) fun i hi => ?_
  rw [Nat.add_comm]
  rcases Nat.lt_trichotomy i (k % 64) with e | e | e
  · rw [Nat.testBit_two_pow_add_gt e, testBit_wd]
    simp only [hi, decide_true, Bool.true_and, lo]; congr 1; rw [Bool.eq_iff_iff]; simp; omega
  · subst e
    rw [Nat.testBit_two_pow_add_eq, Nat.testBit_lt_two_pow hx, show 64 * (k / 64) + k % 64 = k by omega]
    simp [lo, h]
  · have hlt : 2 ^ (k % 64) + wd (lo g k) (k / 64) < 2 ^ i := Nat.lt_of_lt_of_le (by omega : _ < 2 ^ (k % 64) * 2) (by rw [← Nat.pow_succ]; exact Nat.pow_le_pow_right (by decide) e)
    rw [Nat.testBit_lt_two_pow hlt]
    simp [lo]; intro _; omega
section
variable {a : Act} {w : World} {o : Oper} {Φ : Value → World → Prop}
theorem g_quo64 {x : Operand} {j : Nat} (ho : o.op = .binOp .quo 3 x (.const (.int .i64 64)) 3) (hx : a.eval x = .int .i64 j) (hj : j < 256) (h : Φ (.int .i64 ((j / 64 : Nat) : Int)) w) :
    Gives Tryd.prog (fun v w' => Below w.heap.size w w' ∧ Φ v w') ((execOp a.eval o).run Tryd.prog w) := by
  refine .value (v := .int .i64 ((j / 64 : Nat) : Int)) (w := w) ?_ ⟨Below.refl _ _, h⟩
  have hc : a.eval (.const (.int .i64 64)) = .int .i64 64 := rfl
  generalize a.eval = ρ at *
  simp only [execOp, ho, hx, hc]
  go_simp
  rw [IntKind.wrap_i64]; omega
theorem g_rem64 {x : Operand} {j : Nat} (ho : o.op = .binOp .rem 3 x (.const (.int .i64 64)) 3) (hx : a.eval x = .int .i64 j) (hj : j < 256) (h : Φ (.int .i64 ((j % 64 : Nat) : Int)) w) :
    Gives Tryd.prog (fun v w' => Below w.heap.size w w' ∧ Φ v w') ((execOp a.eval o).run Tryd.prog w) := by
  refine .value (v := .int .i64 ((j % 64 : Nat) : Int)) (w := w) ?_ ⟨Below.refl _ _, h⟩
  have hc : a.eval (.const (.int .i64 64)) = .int .i64 64 := rfl
  generalize a.eval = ρ at *
  simp only [execOp, ho, hx, hc]
  go_simp
  exact Int.tmod_eq_emod_of_nonneg (by omega)
theorem g_shl {x : Operand} {j : Nat} (hj : j < 64) (ho : o.op = .binOp .shl 23 (.const (.int .u64 1)) x 3) (hx : a.eval x = .int .i64 j) (h : Φ (.int .u64 ((2 ^ j : Nat) : Int)) w) :
    Gives Tryd.prog (fun v w' => Below w.heap.size w w' ∧ Φ v w') ((execOp a.eval o).run Tryd.prog w) := by
  refine .value (v := .int .u64 ((2 ^ j : Nat) : Int)) (w := w) ?_ ⟨Below.refl _ _, h⟩
  have hp : 2 ^ j < 18446744073709551616 := Nat.pow_lt_pow_right (by decide) hj
  have e : IntKind.u64.wrap (2 ^ j) = ((2 ^ j : Nat) : Int) := by
    rw [IntKind.wrap_u64, show ((2 : Int) ^ j) = ((2 ^ j : Nat) : Int) from (by push_cast; rfl)]
    generalize 2 ^ j = y at hp ⊢
    omega
  have hc : a.eval (.const (.int .u64 1)) = .int .u64 1 := rfl
  generalize a.eval = ρ at *
  simp only [execOp, ho, hx, hc]
  go_simp
theorem g_add64 {x y : Operand} {m n : Nat} (hmn : m + n < 18446744073709551616) (ho : o.op = .binOp .add 23 x y 23) (hx : a.eval x = .int .u64 m) (hy : a.eval y = .int .u64 n) (h : Φ (.int .u64 ((m + n : Nat) : Int)) w) :
    Gives Tryd.prog (fun v w' => Below w.heap.size w w' ∧ Φ v w') ((execOp a.eval o).run Tryd.prog w) := by
  refine .value (v := .int .u64 ((m + n : Nat) : Int)) (w := w) ?_ ⟨Below.refl _ _, h⟩
  have hw := add_nat hmn
  generalize a.eval = ρ at *
  simp only [execOp, ho, hx, hy]
  go_simp
theorem g_index25 {x y : Operand} {B q : Nat} (hq : q < 4) (ho : o.op = .indexAddr 25 x y) (hx : a.eval x = .pointer (some ⟨B, 0, none⟩)) (hy : a.eval y = .int .i64 q) (h : Φ (.pointer (some ⟨B, q, none⟩)) w) :
    Gives Tryd.prog (fun v w' => Below w.heap.size w w' ∧ Φ v w') ((execOp a.eval o).run Tryd.prog w) := by
  refine .value (v := .pointer (some ⟨B, q, none⟩)) (w := w) ?_ ⟨Below.refl _ _, h⟩
  have h1 : (q : Int) < 4 := by omega
  generalize a.eval = ρ at *
  simp only [execOp, ho, hx, hy]
  go_simp
theorem g_load23 {x : Operand} {B q : Nat} {v : Value} (ho : o.op = .load 23 x) (hx : a.eval x = .pointer (some ⟨B, q, none⟩)) (hb : w.cell? ⟨B, q, none⟩ = some v) (h : Φ v w) :
    Gives Tryd.prog (fun v w' => Below w.heap.size w w' ∧ Φ v w') ((execOp a.eval o).run Tryd.prog w) := by
  refine .value (v := v) (w := w) ?_ ⟨Below.refl _ _, h⟩
  generalize a.eval = ρ at *
  simp only [execOp, ho, hx]
  go_simp
end

theorem row_cell (s : Nat → Bool) (q : Nat) (h : q < 4) : (#[.int .u64 (wd s 0), .int .u64 (wd s 1), .int .u64 (wd s 2), .int .u64 (wd s 3)] : Array Value)[q]? = some (.int .u64 (wd s q)) := by
  match q, h with
  | 0, _ => rfl
  | 1, _ => rfl
  | 2, _ => rfl
  | 3, _ => rfl
set_option maxRecDepth 100000 in
set_option maxHeartbeats 4000000 in
theorem set_any (g : Nat → Bool) (B : Nat) (w : World) (hG : BoolsAt w B g) :
    Calls Tryd.prog 35 #[.slice (some ⟨B, 0, none⟩) 256 256] w fun e w' => e = .returned (.agg #[.int .u64 (wd g 0), .int .u64 (wd g 1), .int .u64 (wd g 2), .int .u64 (wd g 3)]) ∧ Below w.heap.size w w' := by
  have HR := Lib.hid row_none
  have HG := Lib.hid hG
  have hBl := hG.lt
  clear hG
  go_enter Tryd.func35, Tryd.ntmps35
  go_wp2
  go_loopw [4] (fun i wr => ∃ k : Nat, k ≤ 256 ∧ i = .int .i64 k ∧ Blk wr (w.heap.size + 1) #[.int .u64 (wd (lo g k) 0), .int .u64 (wd (lo g k) 1), .int .u64 (wd (lo g k) 2), .int .u64 (wd (lo g k) 3)] 25 ∧ Blk wr w.heap.size #[.int .u64 0, .int .u64 0, .int .u64 0, .int .u64 0] 25 ∧ Below w.heap.size w wr) (fun i _ => 256 - (intOf i).toNat)
  case atStart => exact ⟨0, by omega, rfl, by rw [lo_zero, ← HR.out]; exact blk_new1 _ _ _ _, (Blk.new _ _ _).alloc _, below2 _ _ _⟩
  case round =>
    obtain ⟨k, hk, rfl, hB, hA, hbl⟩ := hrel
    by_cases hk2 : k < 256
    · have hcell := (HG.out.below hbl hBl).cell hk2
      have i1 : (k : Int) < 256 := by omega
      have hdk : decide ((k : Int) < 256) = true := by simp; omega
      cases hgk : g k with
      | false =>
        rw [hgk] at hcell
        have HS := Lib.hid (lo_skip g k hgk)
        clear hgk
        go_wp2
        go_roundw
        case rel => exact ⟨k + 1, by omega, by go_num, by rw [HS.out]; exact hB, hA, hbl⟩
        case measure => simp [intOf]; omega
      | true =>
        rw [hgk] at hcell
        have hadd := lo_add g k hgk
        have HADD := Lib.hid hadd
        have hoth := Lib.hid (fun j (h : j ≠ k / 64) (_ : j < 4) => lo_other g k j h)
        have hq4 : k / 64 < 4 := by omega
        have hr64 : k % 64 < 64 := by omega
        have hsum : wd (lo g k) (k / 64) + 2 ^ (k % 64) < 18446744073709551616 := by rw [hadd]; exact wd_lt _ _
        have hrow := row_cell (lo g k) (k / 64) hq4
        have hBs := hB.lt
        clear hgk hadd
        have HSUM := Lib.hid hsum
        have HROW := Lib.hid hrow
        clear hsum hrow
        go_wp2
        have hsum := HSUM.out
        have hrow := HROW.out
        refine wp_region_lay_tail [some (.is (.int .i64 k)), some (.is (.int .i64 ((k / 64 : Nat) : Int))), some (.is (.int .i64 k)), some (.is (.int .i64 ((k / 64 : Nat) : Int))), some (.is (.pointer (some ⟨w.heap.size + 1, k / 64, none⟩))), some (.is (.int .u64 (wd (lo g k) (k / 64)))), some (.is (.int .i64 k)), some (.is (.int .i64 ((k % 64 : Nat) : Int))), some (.is (.int .u64 ((2 ^ (k % 64) : Nat) : Int))), some (.is (.int .u64 ((wd (lo g k) (k / 64) + 2 ^ (k % 64) : Nat) : Int))), some (.is (.pointer (some ⟨w.heap.size + 1, k / 64, none⟩)))] (fun f => #[.slice (some ⟨B, 0, none⟩) 256 256, undef, .pointer (some ⟨w.heap.size, 0, none⟩), .pointer (some ⟨w.heap.size + 1, 0, none⟩), .int .i64 k, .int .i64 k, .bool true, u7, u8, .slice (some ⟨B, 0, none⟩) 256 256, .int .i64 k, .pointer (some ⟨B, k, none⟩), .bool true, f 13, f 14, f 15, f 16, f 17, f 18, f 19, f 20, f 21, f 22, f 23, undef]) _ (by kernel_rfl) rfl (by kernel_rfl) (by kernel_rfl) (by kernel_rfl) (by kernel_rfl) (fun f => by kernel_rfl)
          ⟨by
            intro _ act W hS hun hd
            exact g_move rfl (hun 4 (by kernel_rfl)),
          by
            intro _ act W hS hun hd
            exact g_quo64 rfl (hd 0 _ 13 rfl rfl (by kernel_rfl)) hk2 rfl,
          by
            intro _ act W hS hun hd
            exact g_move rfl (hun 4 (by kernel_rfl)),
          by
            intro _ act W hS hun hd
            exact g_quo64 rfl (hd 2 _ 15 rfl rfl (by kernel_rfl)) hk2 rfl,
          by
            intro _ act W hS hun hd
            exact g_index25 hq4 rfl (hun 3 (by kernel_rfl)) (hd 3 _ 16 rfl rfl (by kernel_rfl)) rfl,
          by
            intro _ act W hS hun hd
            exact g_load23 rfl (hd 4 _ 17 rfl rfl (by kernel_rfl)) (((hB.below hS hB.lt).cell (k / 64)).trans hrow) rfl,
          by
            intro _ act W hS hun hd
            exact g_move rfl (hun 4 (by kernel_rfl)),
          by
            intro _ act W hS hun hd
            exact g_rem64 rfl (hd 6 _ 19 rfl rfl (by kernel_rfl)) hk2 rfl,
          by
            intro _ act W hS hun hd
            exact g_shl hr64 rfl (hd 7 _ 20 rfl rfl (by kernel_rfl)) rfl,
          by
            intro _ act W hS hun hd
            exact g_add64 hsum rfl (hd 5 _ 18 rfl rfl (by kernel_rfl)) (hd 8 _ 21 rfl rfl (by kernel_rfl)) rfl,
          by
            intro _ act W hS hun hd
            exact g_index25 hq4 rfl (hun 3 (by kernel_rfl)) (hd 1 _ 14 rfl rfl (by kernel_rfl)) rfl,
          trivial⟩ ?_
        intro f W hW hf
        have h22 : f 22 = .int .u64 ((wd (lo g k) (k / 64) + 2 ^ (k % 64) : Nat) : Int) := hf 9 _ 22 rfl rfl
        have h23 : f 23 = .pointer (some ⟨w.heap.size + 1, k / 64, none⟩) := hf 10 _ 23 rfl rfl
        have hB1 := hB.below hW hB.lt
        have hA1 := hA.below hW hA.lt
        have hbl1 := hbl.trans (hW.mono hbl.size)
        have hc := (hB1.cell (k / 64)).trans hrow
        have hfz := hB1.frozen (k / 64)
        have hst := hB1.set (k / 64) (.int .u64 ((wd (lo g (k + 1)) (k / 64) : Nat) : Int))
        rw [row_set (lo g k) (lo g (k + 1)) (k / 64) hq4 hoth.out] at hst
        rw [h22, h23, HADD.out]
        have HST := Lib.hid hst
        clear hf hW hst hcell hsum hrow
        go_wp2
        go_roundw
        case rel => exact ⟨k + 1, by omega, by go_num, HST.out, (Below.heap_setCell _ _ _ _ (by show w.heap.size ≠ w.heap.size + 1; omega)).trans hA1, hbl1.setCell (p := ⟨w.heap.size + 1, k / 64, none⟩) (by simp) _⟩
        case measure => simp [intOf]; omega
    · obtain rfl : k = 256 := by omega
      have hcg : (.agg #[.int .u64 (wd (lo g 256) 0), .int .u64 (wd (lo g 256) 1), .int .u64 (wd (lo g 256) 2), .int .u64 (wd (lo g 256) 3)] : Value) = .agg #[.int .u64 (wd g 0), .int .u64 (wd g 1), .int .u64 (wd g 2), .int .u64 (wd g 3)] := cls_congr fun i hi => by simp [lo, hi]
      obtain ⟨s, hs⟩ : ∃ s, s = lo g 256 := ⟨_, rfl⟩
      rw [← hs] at hB hcg
      have HCG := Lib.hid hcg
      clear hs hcg
      obtain ⟨⟨c0, c1, c2, c3⟩, ⟨f0, f1, f2, f3⟩⟩ := hB.four
      obtain ⟨⟨d0, d1, d2, d3⟩, ⟨g0, g1, g2, g3⟩⟩ := hA.four
      go_wp2
      refine bodyPost_ret (v := .agg #[.int .u64 (wd s 0), .int .u64 (wd s 1), .int .u64 (wd s 2), .int .u64 (wd s 3)]) (by simp [results, Tryd.results35, go_sem, *]; done) rfl ⟨by rw [HCG.out], ?_⟩
      exact below_set4 hbl (Nat.le_refl _) _ _ _ _
end Go.Proofs.YtcnikeeapillnaaDoor

/- How many rules, nodes, kids there are: some number. Pick. -/
import Derived.Test.YtfdfcagkfnckmaaWe
namespace Go.Proofs.Ytfdfcagkfnckmaa
open Go Go.RowKit
set_option maxRecDepth 100000 in
set_option maxHeartbeats 2000000 in
theorem size_any (g : Gr) (w : World) (hg : Gr.At w g) : Calls Try.prog 8 #[g.val] w fun e w' => (∃ z : Int, e = .returned (.int .i64 z)) ∧ Below w.heap.size w w' := by
  have HG := Lib.hid hg
  have h1 := hg.rl
  have h2 := hg.nl
  obtain ⟨RA, rc, rules, NA, nc, nodes⟩ := g
  dsimp only at h1 h2
  obtain ⟨m, em⟩ : ∃ m, m = nodes.length := ⟨_, rfl⟩
  obtain ⟨r, er⟩ : ∃ m, m = rules.length := ⟨_, rfl⟩
  show Calls Try.prog 8 #[.agg #[.slice RA rules.length rc, .slice NA nodes.length nc]] w _
  have EM := Lib.hid em
  rw [← em, ← er]
  rw [← em] at h2
  rw [← er] at h1
  clear hg em er
  go_enter Try.func8, Try.ntmps8
  go_wp2_with fail
  obtain ⟨wb, ewb⟩ : ∃ u, u = w.alloc (.cells #[.slice RA r rc, .slice NA m nc] 25) := ⟨_, rfl⟩
  have hb2 : Below w.heap.size w wb := by rw [ewb]; exact B1 _ _
  have c0 : wb.cell? ⟨w.heap.size, 0, none⟩ = some (.slice RA r rc) := by rw [ewb]; exact (Blk.new _ _ _).cell 0
  have c1 : wb.cell? ⟨w.heap.size, 1, none⟩ = some (.slice NA m nc) := by rw [ewb]; exact (Blk.new _ _ _).cell 1
  rw [← ewb]
  have BB := Lib.hid hb2
  clear ewb hb2
  go_loopw [3, 4] (fun s i wr => ∃ (k : Nat) (n : Int), k ≤ m ∧ s = .int .i64 n ∧ i = .int .i64 k ∧ n ≤ 500000000000000 ∧ 0 ≤ n ∧ wr = wb) (fun _ i _ => m - (intOf i).toNat)
  case atStart => exact ⟨0, r + m, by omega, rfl, rfl, by omega, by omega, rfl⟩
  case round =>
    obtain ⟨k, n, hk, rfl, rfl, hn, hn0, rfl⟩ := hrel
    by_cases hlt : k < m
    · have hlt2 : (k : Int) < m := by omega
      by_cases hle : n ≤ 300
      · obtain ⟨b1, o1, eA, _, _, _, _, _, _, _, _, _, c9⟩ := (HG.out.below BB.out).nodes.nine (show k < nodes.length by have := EM.out; omega)
        have hx := ((HG.out.below BB.out).node (show k < nodes.length by have := EM.out; omega)).2.2
        dsimp only at eA c9 hx
        rw [eA] at c1
        generalize nodes.getD k Nd.zero = x at c9 hx
        clear eA
        go_wp2_with fail
        go_roundw
        case rel => exact ⟨k + 1, n + x.kids.length, by omega, by first | rfl | go_num, by go_num, by omega, by omega, by first | trivial | rfl⟩
        case measure => simp [intOf]; omega
      · have hle2 : 300 < n := by omega
        go_wp2_with fail
        go_ret
        exact ⟨⟨n, rfl⟩, BB.out⟩
    · obtain rfl : k = m := by omega
      have hlt2 : ¬ (k : Int) < k := by omega
      go_wp2_with fail
      go_ret
      exact ⟨⟨n, rfl⟩, BB.out⟩
set_option maxHeartbeats 400000 in
theorem pick_any (x n : Int) (hx : -9223372036854775808 ≤ x ∧ x < 9223372036854775808) (hn : 1 ≤ n ∧ n < 9223372036854775808) (w : World) :
    Calls Try.prog 20 #[.int .i64 x, .int .i64 n] w fun e w' => e = .returned (.int .i64 (x % n)) ∧ w = w' := by
  have h1 := Int.emod_nonneg x (show n ≠ 0 by omega)
  have h2 := Int.emod_lt_of_pos x (show 0 < n by omega)
  have ht := Int.tmod_eq_emod (a := x) (b := n)
  have hd0 : n ≠ 0 := by omega
  have hd1 : (n == 0) = false := by simpa using hd0
  obtain ⟨y, ey⟩ : ∃ y, y = x.tmod n := ⟨_, rfl⟩
  rw [← ey] at ht
  obtain ⟨z, ez⟩ : ∃ z, z = x % n := ⟨_, rfl⟩
  rw [← ez] at ht h1 h2 ⊢
  have hcase : (0 ≤ y ∧ y = z) ∨ (y < 0 ∧ y + n = z) := by
    split at ht
    · left; omega
    · right; omega
  have hy : x.tmod n = y := ey.symm
  have hn1 : ¬ n < 1 := by omega
  have hwy : IntKind.i64.wrap y = y := IntWalk.i64_in _ (by omega)
  clear ht ez ey hx
  rcases hcase with ⟨h3, rfl⟩ | ⟨h3, h4⟩
  · go_enter Try.func20, Try.ntmps20
    go_wp2_with fail
    go_ret
    exact ⟨rfl, rfl⟩
  · have hwz : IntKind.i64.wrap (y + n) = z := (IntWalk.i64_in _ (by omega)).trans h4
    clear h4
    go_enter Try.func20, Try.ntmps20
    go_wp2_with fail
    go_ret
    exact ⟨rfl, rfl⟩
end Go.Proofs.Ytfdfcagkfnckmaa

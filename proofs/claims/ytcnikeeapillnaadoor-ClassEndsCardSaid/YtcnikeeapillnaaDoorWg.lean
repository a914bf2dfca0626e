/- Contracts of layer 1: the chapter's example (awake). -/
import Derived.Test.YtcnikeeapillnaaDoorWf
namespace Go.Proofs.YtcnikeeapillnaaDoor
open Go.RowKit

/-- Runs, as the walks want it. -/
theorem runs_at (s : Nat → Bool) (rs : List (Nat × Nat)) (n : Nat) (hrs : runsOf (elems s 256) = rs) (hn : rs.length = n) (w : World) (hT : Tab w) :
    Calls Tryd.prog 12 #[.agg #[.int .u64 (wd s 0), .int .u64 (wd s 1), .int .u64 (wd s 2), .int .u64 (wd s 3)]] w fun e W' => ∃ ao cap, e = .returned (.slice ao n cap) ∧ W'.ownsRow w.heap.size 38 2 (.slice ao n cap) rs.length (rcells rs) ∧ Below w.heap.size w W' := by
  refine (runs_any s w hT).mono ?_
  rintro e W' ⟨v, rfl, hr, _, hb⟩
  rw [hrs] at hr
  obtain ⟨ao, cap, rfl, _⟩ := RunsAt.of_owns hr
  rw [hn] at hr ⊢
  rw [← hn] at hr
  subst hn
  exact ⟨ao, cap, rfl, hr, hb⟩
theorem of4 (b : Nat) (w : World) (hb : b < w.heap.size) (h : ∀ j, j < 4 → w.cell? ⟨b, 0 + j, none⟩ = some (.int .u8 ([120, 98, 97, 99][j]?.getD 0 : Nat))) :
    Calls Tryd.prog 13 #[.slice (some ⟨b, 0, none⟩) 4 4] w fun e w' => e = .returned (.agg #[.int .u64 (wd (mem [120, 98, 97, 99]) 0), .int .u64 (wd (mem [120, 98, 97, 99]) 1), .int .u64 (wd (mem [120, 98, 97, 99]) 2), .int .u64 (wd (mem [120, 98, 97, 99]) 3)]) ∧ Below w.heap.size w w' :=
  of_cells b 0 4 [120, 98, 97, 99] w (by decide) (by decide) hb h
theorem runs_s0 : runsOf (elems (mem [120, 98, 97, 99]) 256) = [(97, 99), (120, 120)] := by decide +kernel
theorem runs_s1 : runsOf (elems (fun i => !mem [120, 98, 97, 99] i) 256) = [(0, 96), (100, 119), (121, 255)] := by decide +kernel
theorem new4 (w : World) (T : TypeId) : ∀ j, j < 4 → (w.alloc (.cells #[.int .u8 120, .int .u8 98, .int .u8 97, .int .u8 99] T)).cell? ⟨w.heap.size, 0 + j, none⟩ = some (.int .u8 ([120, 98, 97, 99][j]?.getD 0 : Nat)) := by
  intro j hj
  rw [(Blk.new w _ T).cell]
  have hq : j = 0 ∨ j = 1 ∨ j = 2 ∨ j = 3 := by omega
  rcases hq with rfl | rfl | rfl | rfl <;> rfl
theorem lit_runs (w : World) : RunsAt (w.alloc (.cells #[.int .u8 97, .int .u8 99, .int .u8 120, .int .u8 120] 38)) (w.heap.size + 1) (.slice (some ⟨w.heap.size, 0, none⟩) 2 2) [(97, 99), (120, 120)] :=
  ⟨_, 2, rfl, by decide, fun _ => ⟨w.heap.size, 0, rfl, by omega, fun j hj => by
    rw [(Blk.new w _ _).cell]
    have hq : j = 0 ∨ j = 1 ∨ j = 2 ∨ j = 3 := by simp at hj; omega
    rcases hq with rfl | rfl | rfl | rfl <;> rfl⟩⟩
theorem same_eq (a : List (Nat × Nat)) (va vb : Value) (w : World) (ha : RunsAt w w.heap.size va a) (hb : RunsAt w w.heap.size vb a) :
    Calls Tryd.prog 21 #[va, vb] w fun e w' => e = .returned (.bool true) ∧ Below w.heap.size w w' := by
  have := same_any a a va vb w ha hb
  simpa using this
theorem lit_runs' (w : World) : RunsAt (w.alloc (.cells #[.int .u8 97, .int .u8 99, .int .u8 120, .int .u8 120] 38)) (w.alloc (.cells #[.int .u8 97, .int .u8 99, .int .u8 120, .int .u8 120] 38)).heap.size (.slice (some ⟨w.heap.size, 0, none⟩) 2 2) [(97, 99), (120, 120)] := by
  rw [World.size_alloc]; exact lit_runs w
set_option maxHeartbeats 2000000 in
theorem awake_any (w : World) (hT : Tab w) :
    Calls Tryd.prog 8 #[] w fun e w' => e = .returned (.bool true) ∧ Below w.heap.size w w' := by
  obtain ⟨s0, hs0⟩ : ∃ s0, s0 = mem [120, 98, 97, 99] := ⟨_, rfl⟩
  have hof := of4
  have h0 := runs_s0
  have h1 := runs_s1
  rw [← hs0] at hof h0 h1
  obtain ⟨s1, hs1⟩ : ∃ s1 : Nat → Bool, s1 = fun i => !s0 i := ⟨_, rfl⟩
  have hn := not_any s0
  rw [← hs1] at hn h1
  have H0 := fun w h => runs_at s0 _ 2 h0 rfl w h
  have H1 := fun w h => runs_at s1 _ 3 h1 rfl w h
  have HT := Lib.hid hT
  clear hs0 hs1 h0 h1 hT
  go_enter Tryd.func8, Tryd.ntmps8
  go_wp2_with (first
    | (go_at_call 13; (with_reducible refine (hof w.heap.size _ (by simp) (new4 w _)).mono ?_); rintro e w1 ⟨rfl, hb1⟩; have hB1 := ((Below.refl _ w).alloc (Nat.le_refl _) (.cells #[.int .u8 120, .int .u8 98, .int .u8 97, .int .u8 99] 5)).trans (hb1.mono (by simp)); clear hb1; have bT := Blk.new w1 #[.int .u64 (wd s0 0), .int .u64 (wd s0 1), .int .u64 (wd s0 2), .int .u64 (wd s0 3)] 25; have hB1a := hB1.alloc hB1.size (.cells #[.int .u64 (wd s0 0), .int .u64 (wd s0 1), .int .u64 (wd s0 2), .int .u64 (wd s0 3)] 25))
    | (go_at_call 24; (with_reducible refine (hn _).mono ?_); rintro e w4 ⟨rfl, hb4⟩; have hB4 := hB3.trans (hb4.mono hB3.size))
    | (go_at_call 21; (with_reducible refine (same_eq _ _ _ _ (ho2'.below ((Below.refl _ w2).alloc (Nat.le_refl _) _) (by simp)) (lit_runs' w2)).mono ?_); rintro e w3 ⟨rfl, hb3⟩; have hB3 := (hB2.alloc hB2.size _).trans (hb3.mono (by have := hB2.size; simp; omega)); have bT3 := (bT2.alloc _).below hb3 (by have := bT2.lt; simp; omega); obtain ⟨⟨d0, d1, d2, d3⟩, _⟩ := bT3.four)
    | (go_at_call 12; (with_reducible refine (H0 _ (HT.out.below hB1a)).mono ?_); rintro e w2 ⟨ao, cap, rfl, ho2, hb2⟩; have hB2 := hB1a.trans (hb2.mono hB1a.size); have bT2 := bT.below hb2 bT.lt; have ho2' := RunsAt.of_owns ho2)
    | (go_at_call 12; (with_reducible refine (H1 _ (HT.out.below hB4)).mono ?_); rintro e w5 ⟨ao5, cap5, rfl, ho5, hb5⟩; have hB5 := hB4.trans (hb5.mono hB4.size)))
  go_ret
  exact ⟨rfl, hB5⟩
end Go.Proofs.YtcnikeeapillnaaDoor

/- Contracts of the document's own answers of layer 1: Not, Next. -/
import Derived.Test.YtcnikeeapillnaaDoorXb
namespace Go.Proofs.YtcnikeeapillnaaDoor
open Go Go.RowKit

theorem lo_if (g : Nat → Bool) (k i : Nat) : lo g (k + 1) i = if i = k then g k else lo g k i := by
  unfold lo
  by_cases h : i = k
  · subst h; simp
  · rw [if_neg h]; congr 1; rw [Bool.eq_iff_iff]; simp; omega
theorem lo_zero' (g : Nat → Bool) : lo g 0 = fun _ => false := by funext i; simp [lo]
theorem lo_all (g : Nat → Bool) : (.agg #[.int .u64 (wd (lo g 256) 0), .int .u64 (wd (lo g 256) 1), .int .u64 (wd (lo g 256) 2), .int .u64 (wd (lo g 256) 3)] : Value) = .agg #[.int .u64 (wd g 0), .int .u64 (wd g 1), .int .u64 (wd g 2), .int .u64 (wd g 3)] := cls_congr fun i hi => by simp [lo, hi]

set_option maxRecDepth 100000 in
set_option maxHeartbeats 4000000 in
theorem rnot_any (s : Nat → Bool) (w : World) :
    Calls Tryd.prog 25 #[.agg #[.int .u64 (wd s 0), .int .u64 (wd s 1), .int .u64 (wd s 2), .int .u64 (wd s 3)]] w fun e w' => e = .returned (.agg #[.int .u64 (wd (fun i => !s i) 0), .int .u64 (wd (fun i => !s i) 1), .int .u64 (wd (fun i => !s i) 2), .int .u64 (wd (fun i => !s i) 3)]) ∧ Below w.heap.size w w' := by
  obtain ⟨g, hg⟩ : ∃ g : Nat → Bool, g = fun i => !s i := ⟨_, rfl⟩
  rw [← hg]
  obtain ⟨mk, hmk, hnew⟩ := made256
  have HN := Lib.hid hnew
  have HG := Lib.hid hg
  clear hnew hg
  have hsetc := set_any
  go_enter Tryd.func25, Tryd.ntmps25
  go_wp2
  have hst : BoolsAt (((w.alloc (.cells #[.int .u64 (wd s 0), .int .u64 (wd s 1), .int .u64 (wd s 2), .int .u64 (wd s 3)] 25)).alloc (.cells #[.int .u64 0, .int .u64 0, .int .u64 0, .int .u64 0] 25)).alloc (.cells mk 4)) (w.heap.size + 1 + 1) (lo g 0) := by
    have := HN.out ((w.alloc (.cells #[.int .u64 (wd s 0), .int .u64 (wd s 1), .int .u64 (wd s 2), .int .u64 (wd s 3)] 25)).alloc (.cells #[.int .u64 0, .int .u64 0, .int .u64 0, .int .u64 0] 25))
    rw [World.size_alloc, World.size_alloc] at this; rw [lo_zero']; exact this
  have HST := Lib.hid hst
  clear hst hmk
  go_loopw [4] (fun i wr => ∃ k : Nat, k ≤ 256 ∧ i = .int .i64 k ∧ BoolsAt wr (w.heap.size + 1 + 1) (lo g k) ∧ Blk wr (w.heap.size + 1) #[.int .u64 0, .int .u64 0, .int .u64 0, .int .u64 0] 25 ∧ Blk wr w.heap.size #[.int .u64 (wd s 0), .int .u64 (wd s 1), .int .u64 (wd s 2), .int .u64 (wd s 3)] 25 ∧ Below w.heap.size w wr) (fun i _ => 256 - (intOf i).toNat)
  case atStart => exact ⟨0, by omega, rfl, HST.out, blk_mid _ _ _ _ _, ((Blk.new _ _ _).alloc _).alloc _, below3 _ _ _ _⟩
  case round =>
    obtain ⟨k, hk, rfl, hB, hA, hC, hbl⟩ := hrel
    by_cases hlt : k < 256
    · obtain ⟨⟨c0, c1, c2, c3⟩, _⟩ := hC.four
      have hi : (k : Int) < 256 := by omega
      have hrh := fun w => rhas_any s k w hlt
      have hgk : g k = !s k := by rw [HG.out]
      obtain ⟨sk, hsk⟩ : ∃ b, b = s k := ⟨_, rfl⟩
      rw [← hsk] at hrh hgk
      have HGK := Lib.hid hgk
      have HB := Lib.hid hB
      have hs2 := HB.out.lt
      clear hgk hsk hB
      go_wp2_with (go_at_call 18; (with_reducible refine (hrh _).mono ?_); rintro e w1 ⟨rfl, hb1⟩; have hB1 := HB.out.below hb1 hs2; have hA1 := hA.below hb1 hA.lt; have hC1 := hC.below hb1 hC.lt; have hbl1 := hbl.trans (hb1.mono hbl.size); have hfz := hB1.frozen k; have hcx := hB1.cell hlt; clear c0 c1 c2 c3)
      go_roundw
      case rel => exact ⟨k + 1, by omega, by go_num, hB1.set (!sk) hlt (fun i _ => by rw [lo_if, HGK.out]), (Below.heap_setCell _ _ _ _ (by show w.heap.size + 1 ≠ w.heap.size + 1 + 1; omega)).trans hA1, (Below.heap_setCell _ _ _ _ (by show w.heap.size ≠ w.heap.size + 1 + 1; omega)).trans hC1, hbl1.setCell (p := ⟨w.heap.size + 1 + 1, k, none⟩) (by simp; omega) _⟩
      case measure => simp [intOf]; omega
    · obtain rfl : k = 256 := by omega
      have HL := Lib.hid (lo_all g)
      obtain ⟨u, hu⟩ : ∃ u, u = lo g 256 := ⟨_, rfl⟩
      rw [← hu] at hB HL
      have HB := Lib.hid hB
      clear hB hu
      go_wp2_with (go_at_call 35; (with_reducible refine (hsetc u (w.heap.size + 1 + 1) _ HB.out).mono ?_); rintro e w1 ⟨rfl, hb1⟩; have hA1 := hA.below hb1 hA.lt; have hbl1 := hbl.trans (hb1.mono hbl.size); obtain ⟨⟨d0, d1, d2, d3⟩, ⟨g0, g1, g2, g3⟩⟩ := hA1.four)
      refine bodyPost_ret (v := .agg #[.int .u64 (wd u 0), .int .u64 (wd u 1), .int .u64 (wd u 2), .int .u64 (wd u 3)]) (by simp [results, Tryd.results25, go_sem, *]; done) rfl ⟨by rw [HL.out], ?_⟩
      exact below_set4 hbl1 (by omega) _ _ _ _

theorem next_at (s : Nat → Bool) (n : Int) (k : Nat) (hk : k < 256) (hn : n ≤ (k : Int)) (hs : s k = true) (h : ∀ j, j < k → s j = true → (j : Int) < n) : nextOf s n = some k :=
  next_some (q := k + 1) (l := elems s k) hk (by rw [elems_succ, hs]; rfl) hn fun y hy => h y (mem_elems.1 hy).1 (mem_elems.1 hy).2
set_option maxRecDepth 100000 in
set_option maxHeartbeats 4000000 in
theorem rnext_any (s : Nat → Bool) (n : Int) (w : World) :
    Calls Tryd.prog 11 #[.agg #[.int .u64 (wd s 0), .int .u64 (wd s 1), .int .u64 (wd s 2), .int .u64 (wd s 3)], .int .i64 n] w fun e W' => e = .returned (.tuple #[.int .u8 (nextB s n), .bool (nextOk s n)]) ∧ Below w.heap.size w W' := by
  have HBC := Lib.hid (Blk.new w #[.int .u64 (wd s 0), .int .u64 (wd s 1), .int .u64 (wd s 2), .int .u64 (wd s 3)] 25)
  have HB1 := Lib.hid ((Below.refl w.heap.size w).alloc (Nat.le_refl _) (.cells #[.int .u64 (wd s 0), .int .u64 (wd s 1), .int .u64 (wd s 2), .int .u64 (wd s 3)] 25))
  go_enter Tryd.func11, Tryd.ntmps11
  go_wp2
  go_loopw [6] (fun i wr => ∃ k : Nat, k ≤ 256 ∧ i = .int .i64 k ∧ (∀ j, j < k → s j = true → (j : Int) < n) ∧ Blk wr w.heap.size #[.int .u64 (wd s 0), .int .u64 (wd s 1), .int .u64 (wd s 2), .int .u64 (wd s 3)] 25 ∧ Below w.heap.size w wr) (fun i _ => 256 - (intOf i).toNat)
  case atStart => exact ⟨0, by omega, rfl, fun j hj => by omega, HBC.out, HB1.out⟩
  case round =>
    obtain ⟨k, hk, rfl, hno, hB, hbl⟩ := hrel
    have HNO := Lib.hid hno
    clear hno
    by_cases hlt : k < 256
    · obtain ⟨⟨c0, c1, c2, c3⟩, _⟩ := hB.four
      have hi : (k : Int) < 256 := by omega
      have hrh := fun w => rhas_any s k w hlt
      by_cases hn : n ≤ (k : Int)
      · cases hs : s k with
        | true =>
          rw [hs] at hrh
          have HX := Lib.hid (next_at s n k hlt hn hs HNO.out)
          clear hs
          go_wp2_with (go_at_call 18; (with_reducible refine (hrh _).mono ?_); rintro e w1 ⟨rfl, hb1⟩; have hbl1 := hbl.trans (hb1.mono hbl.size))
          go_ret2
          exact ⟨by rw [nextB, nextOk, HX.out]; rfl, hbl1⟩
        | false =>
          rw [hs] at hrh
          have HS := Lib.hid hs
          clear hs
          go_wp2_with (go_at_call 18; (with_reducible refine (hrh _).mono ?_); rintro e w1 ⟨rfl, hb1⟩; have hB1 := hB.below hb1 hB.lt; have hbl1 := hbl.trans (hb1.mono hbl.size))
          go_roundw
          case rel => exact ⟨k + 1, by omega, by go_num, fun j hj hsj => by (by_cases e : j = k); (subst e; rw [HS.out] at hsj; cases hsj); exact HNO.out j (by omega) hsj, hB1, hbl1⟩
          case measure => simp [intOf]; omega
      · have hd : decide (n ≤ (k : Int)) = false := by simp; omega
        go_wp2
        go_roundw
        case rel => exact ⟨k + 1, by omega, by go_num, fun j hj hsj => by (by_cases e : j = k); (subst e; omega); exact HNO.out j (by omega) hsj, hB, hbl⟩
        case measure => simp [intOf]; omega
    · obtain rfl : k = 256 := by omega
      have HX := Lib.hid (next_none (s := s) (n := n) fun y hy => HNO.out y (mem_elems.1 hy).1 (mem_elems.1 hy).2)
      go_wp2
      go_ret2
      exact ⟨by rw [nextB, nextOk, HX.out]; rfl, hbl⟩
end Go.Proofs.YtcnikeeapillnaaDoor

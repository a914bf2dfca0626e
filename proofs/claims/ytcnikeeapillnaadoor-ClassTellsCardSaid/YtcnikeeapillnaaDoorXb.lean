/- Contracts of the document's own answers of layer 1: Of, Range, Len, Not. -/
import Derived.Test.YtcnikeeapillnaaDoorXa
namespace Go.Proofs.YtcnikeeapillnaaDoor
open Go Go.RowKit

theorem ins_if (s : Nat → Bool) (x i : Nat) : ins s x i = if i = x then true else s i := by
  by_cases h : i = x <;> simp [ins, h]
theorem mem_nil : mem [] = fun _ => false := by funext i; simp [mem]

set_option maxRecDepth 100000 in
set_option maxHeartbeats 4000000 in
theorem rof_cells (ao : Option Addr) (cap : Nat) (l : List Nat) (w : World) (hlen : l.length ≤ maxLen) (hl : ∀ j, j < l.length → l[j]?.getD 0 < 256)
    (hc : 0 < l.length → ∃ b off, ao = some ⟨b, off, none⟩ ∧ b < w.heap.size ∧ ∀ j, j < l.length → w.cell? ⟨b, off + j, none⟩ = some (.int .u8 (l[j]?.getD 0))) :
    Calls Tryd.prog 14 #[.slice ao l.length cap] w fun e w' => e = .returned (.agg #[.int .u64 (wd (mem l) 0), .int .u64 (wd (mem l) 1), .int .u64 (wd (mem l) 2), .int .u64 (wd (mem l) 3)]) ∧ Below w.heap.size w w' := by
  have HC := Lib.hid hc
  have HL := Lib.hid hl
  unfold maxLen at hlen
  clear hc hl
  obtain ⟨mk, hmk, hnew⟩ := made256
  have HN := Lib.hid hnew
  clear hnew
  have hsetc := set_any
  go_enter Tryd.func14, Tryd.ntmps14
  go_wp2
  have hst : BoolsAt ((w.alloc (.cells #[.int .u64 0, .int .u64 0, .int .u64 0, .int .u64 0] 25)).alloc (.cells mk 4)) (w.heap.size + 1) (mem []) := by
    have := HN.out (w.alloc (.cells #[.int .u64 0, .int .u64 0, .int .u64 0, .int .u64 0] 25))
    rw [World.size_alloc] at this; rw [mem_nil]; exact this
  have HST := Lib.hid hst
  clear hst hmk
  go_loopw [4] (fun i wr => ∃ k : Nat, k ≤ l.length ∧ i = .int .i64 k ∧ BoolsAt wr (w.heap.size + 1) (mem (l.take k)) ∧ Blk wr w.heap.size #[.int .u64 0, .int .u64 0, .int .u64 0, .int .u64 0] 25 ∧ Below w.heap.size w wr) (fun i _ => l.length - (intOf i).toNat)
  case atStart => exact ⟨0, by omega, rfl, by rw [List.take_zero]; exact HST.out, (Blk.new _ _ _).alloc _, below2 _ _ _⟩
  case round =>
    obtain ⟨k, hk, rfl, hB, hA, hbl⟩ := hrel
    by_cases hlt : k < l.length
    · obtain ⟨b, off, rfl, hb, hcl⟩ := HC.out (by omega)
      have hcell := (hbl.cell (p := ⟨b, off + k, none⟩) hb).trans (hcl k hlt)
      have hx := HL.out k hlt
      have hm := mem_take l k hlt
      obtain ⟨x, hxe⟩ : ∃ x, x = l[k]?.getD 0 := ⟨_, rfl⟩
      obtain ⟨s, hse⟩ : ∃ s, s = mem (l.take k) := ⟨_, rfl⟩
      rw [← hxe] at hcell hx hm
      rw [← hse] at hB hm
      have HM := Lib.hid hm
      have hxi : (x : Int) < 256 := by omega
      have hfz := hB.frozen x
      have hcx := hB.cell hx
      have HB := Lib.hid hB
      have HA := Lib.hid hA
      have HBL := Lib.hid hbl
      have hs2 := HB.out.lt
      clear hxe hse hm hcl hB hA hbl
      go_wp2
      go_roundw
      case rel => exact ⟨k + 1, by omega, by go_num, by rw [HM.out]; exact HB.out.set true hx (fun i _ => ins_if s x i), (Below.heap_setCell _ _ _ _ (by show w.heap.size ≠ w.heap.size + 1; omega)).trans HA.out, HBL.out.setCell (p := ⟨w.heap.size + 1, x, none⟩) (by simp) _⟩
      case measure => simp [intOf]; omega
    · obtain rfl : k = l.length := by omega
      rw [List.take_length] at hB
      obtain ⟨s, hse⟩ : ∃ s, s = mem l := ⟨_, rfl⟩
      rw [← hse] at hB
      have HSE := Lib.hid hse
      have HB := Lib.hid hB
      clear hse hB
      go_wp2_with (go_at_call 35; (with_reducible refine (hsetc s (w.heap.size + 1) _ HB.out).mono ?_); rintro e w1 ⟨rfl, hb1⟩; have hA1 := hA.below hb1 hA.lt; have hbl1 := hbl.trans (hb1.mono hbl.size); obtain ⟨⟨d0, d1, d2, d3⟩, ⟨g0, g1, g2, g3⟩⟩ := hA1.four)
      refine bodyPost_ret (v := .agg #[.int .u64 (wd s 0), .int .u64 (wd s 1), .int .u64 (wd s 2), .int .u64 (wd s 3)]) (by simp [results, Tryd.results14, go_sem, *]; done) rfl ⟨by rw [HSE.out], ?_⟩
      exact below_set4 hbl1 (Nat.le_refl _) _ _ _ _

set_option maxRecDepth 100000 in
set_option maxHeartbeats 4000000 in
theorem rrange_any (a b : Nat) (w : World) (ha : a < 256) (hb : b < 256) :
    Calls Tryd.prog 16 #[.int .u8 a, .int .u8 b] w fun e w' => e = .returned (.agg #[.int .u64 (wd (rng a (b + 1)) 0), .int .u64 (wd (rng a (b + 1)) 1), .int .u64 (wd (rng a (b + 1)) 2), .int .u64 (wd (rng a (b + 1)) 3)]) ∧ Below w.heap.size w w' := by
  obtain ⟨mk, hmk, hnew⟩ := made256
  have HN := Lib.hid hnew
  clear hnew
  have hsetc := set_any
  go_enter Tryd.func16, Tryd.ntmps16
  go_wp2
  have hst : BoolsAt ((w.alloc (.cells #[.int .u64 0, .int .u64 0, .int .u64 0, .int .u64 0] 25)).alloc (.cells mk 4)) (w.heap.size + 1) (mem []) := by
    have := HN.out (w.alloc (.cells #[.int .u64 0, .int .u64 0, .int .u64 0, .int .u64 0] 25))
    rw [World.size_alloc] at this; rw [mem_nil]; exact this
  have HST := Lib.hid hst
  clear hst hmk
  go_loopw [6] (fun i wr => ∃ n : Nat, a ≤ n ∧ (n ≤ b + 1 ∨ n = a) ∧ i = .int .i64 n ∧ BoolsAt wr (w.heap.size + 1) (rng a n) ∧ Blk wr w.heap.size #[.int .u64 0, .int .u64 0, .int .u64 0, .int .u64 0] 25 ∧ Below w.heap.size w wr) (fun i _ => b + 1 - (intOf i).toNat)
  case atStart => exact ⟨a, by omega, .inr rfl, rfl, by rw [rng_none a a (Nat.le_refl _)]; exact HST.out, (Blk.new _ _ _).alloc _, below2 _ _ _⟩
  case round =>
    obtain ⟨n, hn, hk, rfl, hB, hA, hbl⟩ := hrel
    by_cases hlt : n ≤ b
    · have hx : n < 256 := by omega
      have hm := rng_ins a n hn
      obtain ⟨s, hse⟩ : ∃ s, s = rng a n := ⟨_, rfl⟩
      rw [← hse] at hB hm
      have HM := Lib.hid hm
      have hxi : (n : Int) < 256 := by omega
      have hfz := hB.frozen n
      have hcx := hB.cell hx
      have HB := Lib.hid hB
      have HA := Lib.hid hA
      have HBL := Lib.hid hbl
      have hs2 := HB.out.lt
      clear hse hm hk hB hA hbl
      go_wp2
      go_roundw
      case rel => exact ⟨n + 1, by omega, by omega, by go_num, by rw [HM.out]; exact HB.out.set true hx (fun i _ => ins_if s n i), (Below.heap_setCell _ _ _ _ (by show w.heap.size ≠ w.heap.size + 1; omega)).trans HA.out, HBL.out.setCell (p := ⟨w.heap.size + 1, n, none⟩) (by simp) _⟩
      case measure => simp [intOf]; omega
    · have hm : rng a n = rng a (b + 1) := by
        rcases hk with h | rfl
        · rw [show n = b + 1 by omega]
        · rw [rng_none _ _ (Nat.le_refl _), rng_none _ _ (by omega)]
      rw [hm] at hB
      obtain ⟨s, hse⟩ : ∃ s, s = rng a (b + 1) := ⟨_, rfl⟩
      rw [← hse] at hB
      have HSE := Lib.hid hse
      have HB := Lib.hid hB
      clear hm hk hse hB
      go_wp2_with (go_at_call 35; (with_reducible refine (hsetc s (w.heap.size + 1) _ HB.out).mono ?_); rintro e w1 ⟨rfl, hb1⟩; have hA1 := hA.below hb1 hA.lt; have hbl1 := hbl.trans (hb1.mono hbl.size); obtain ⟨⟨d0, d1, d2, d3⟩, ⟨g0, g1, g2, g3⟩⟩ := hA1.four)
      refine bodyPost_ret (v := .agg #[.int .u64 (wd s 0), .int .u64 (wd s 1), .int .u64 (wd s 2), .int .u64 (wd s 3)]) (by simp [results, Tryd.results16, go_sem, *]; done) rfl ⟨by rw [HSE.out], ?_⟩
      exact below_set4 hbl1 (Nat.le_refl _) _ _ _ _

set_option maxRecDepth 100000 in
set_option maxHeartbeats 4000000 in
theorem rlen_any (s : Nat → Bool) (w : World) :
    Calls Tryd.prog 20 #[.agg #[.int .u64 (wd s 0), .int .u64 (wd s 1), .int .u64 (wd s 2), .int .u64 (wd s 3)]] w fun e w' => e = .returned (.int .i64 (cntN s 256)) ∧ Below w.heap.size w w' := by
  have bC := Blk.new w #[.int .u64 (wd s 0), .int .u64 (wd s 1), .int .u64 (wd s 2), .int .u64 (wd s 3)] 25
  have B1 := (Below.refl w.heap.size w).alloc (Nat.le_refl _) (.cells #[.int .u64 (wd s 0), .int .u64 (wd s 1), .int .u64 (wd s 2), .int .u64 (wd s 3)] 25)
  have HBC := Lib.hid bC
  have HB1 := Lib.hid B1
  clear bC B1
  go_enter Tryd.func20, Tryd.ntmps20
  go_wp2
  go_loopw [3, 4] (fun m i wr => ∃ k : Nat, k ≤ 256 ∧ i = .int .i64 k ∧ m = .int .i64 (cntN s k) ∧ Blk wr w.heap.size #[.int .u64 (wd s 0), .int .u64 (wd s 1), .int .u64 (wd s 2), .int .u64 (wd s 3)] 25 ∧ Below w.heap.size w wr) (fun _ i _ => 256 - (intOf i).toNat)
  case atStart => exact ⟨0, by omega, rfl, rfl, HBC.out, HB1.out⟩
  case round =>
    obtain ⟨k, hk, rfl, rfl, hB, hbl⟩ := hrel
    have hle := cntN_le s k
    by_cases hlt : k < 256
    · obtain ⟨⟨c0, c1, c2, c3⟩, _⟩ := hB.four
      have hi : (k : Int) < 256 := by omega
      have hrh := fun w => rhas_any s k w hlt
      have hcn : cntN s (k + 1) = cntN s k + if s k then 1 else 0 := rfl
      obtain ⟨c, hce⟩ : ∃ c, c = cntN s k := ⟨_, rfl⟩
      rw [← hce] at hle hcn ⊢
      cases hs : s k with
      | true =>
        rw [hs] at hrh hcn
        have HCN := Lib.hid hcn
        clear hs hcn hce
        go_wp2_with (go_at_call 18; (with_reducible refine (hrh _).mono ?_); rintro e w1 ⟨rfl, hb1⟩; have hB1 := hB.below hb1 hB.lt; have hbl1 := hbl.trans (hb1.mono hbl.size))
        go_roundw
        case rel => exact ⟨k + 1, by omega, by go_num, by rw [HCN.out]; go_num, hB1, hbl1⟩
        case measure => simp [intOf]; omega
      | false =>
        rw [hs] at hrh hcn
        have HCN := Lib.hid hcn
        clear hs hcn hce
        go_wp2_with (go_at_call 18; (with_reducible refine (hrh _).mono ?_); rintro e w1 ⟨rfl, hb1⟩; have hB1 := hB.below hb1 hB.lt; have hbl1 := hbl.trans (hb1.mono hbl.size))
        go_roundw
        case rel => exact ⟨k + 1, by omega, by go_num, by rw [HCN.out]; rfl, hB1, hbl1⟩
        case measure => simp [intOf]; omega
    · obtain rfl : k = 256 := by omega
      go_wp2
      go_ret
      exact ⟨rfl, hbl⟩
end Go.Proofs.YtcnikeeapillnaaDoor

/- Contracts of the document's own answers of layer 1: Or, And. -/
import Derived.Test.YtcnikeeapillnaaDoorXc
namespace Go.Proofs.YtcnikeeapillnaaDoor
open Go Go.RowKit

theorem ClsAt.slice {w : World} {B : Nat} {v : Value} {ss : List (Nat → Bool)} (h : ClsAt w B v ss) : ∃ ao cap, v = .slice ao ss.length cap ∧ ss.length ≤ maxLen ∧
    (0 < ss.length → ∃ b off, ao = some ⟨b, off, none⟩ ∧ b < B ∧ ∀ j, j < ss.length → ∀ i, i < 4 → w.cell? ⟨b, off + j * 4 + i, none⟩ = some (.int .u64 (wd (getS ss j) i))) := by
  rcases h with ⟨rfl, rfl⟩ | ⟨b, off, cap, rfl, hb, hm, hc⟩
  · exact ⟨none, 0, rfl, Nat.zero_le _, fun h => by simp at h⟩
  · exact ⟨_, cap, rfl, hm, fun _ => ⟨b, off, rfl, hb, hc⟩⟩
theorem anyS_take (ss : List (Nat → Bool)) (j k : Nat) (h : j < ss.length) : anyS (ss.take (j + 1)) k = (anyS (ss.take j) k || getS ss j k) := by
  unfold anyS
  rw [List.take_succ_eq_append_getElem h, List.any_append]; simp [getS, h]
theorem allS_take (ss : List (Nat → Bool)) (j k : Nat) (h : j < ss.length) : allS (ss.take (j + 1)) k = (allS (ss.take j) k && getS ss j k) := by
  unfold allS
  rw [List.take_succ_eq_append_getElem h, List.all_append]; simp [getS, h]
/-- Row k of the answer G, half made: at k it is u. -/
def half (G : Nat → Bool) (k : Nat) (u : Bool) : Nat → Bool := fun i => if i = k then u else lo G k i
theorem half_start (G : Nat → Bool) (k : Nat) : half G k false = lo G k := by
  funext i; unfold half; by_cases h : i = k
  · subst h; simp [lo]
  · rw [if_neg h]
theorem half_end (G : Nat → Bool) (k : Nat) : half G k (G k) = lo G (k + 1) := by
  funext i; rw [lo_if]; rfl
theorem half_if (G : Nat → Bool) (k : Nat) (u u' : Bool) (i : Nat) : half G k u' i = if i = k then u' else half G k u i := by
  unfold half; by_cases h : i = k <;> simp [h]
theorem half_at (G : Nat → Bool) (k : Nat) (u : Bool) : half G k u k = u := by simp [half]

set_option maxRecDepth 100000 in
set_option maxHeartbeats 8000000 in
theorem ror_any (v : Value) (ss : List (Nat → Bool)) (w : World) (h : ClsAt w w.heap.size v ss) :
    Calls Tryd.prog 27 #[v] w fun e w' => e = .returned (.agg #[.int .u64 (wd (anyS ss) 0), .int .u64 (wd (anyS ss) 1), .int .u64 (wd (anyS ss) 2), .int .u64 (wd (anyS ss) 3)]) ∧ Below w.heap.size w w' := by
  obtain ⟨ao, cap, rfl, hm, hc⟩ := h.slice
  have HC := Lib.hid hc
  unfold maxLen at hm
  obtain ⟨g, hg⟩ : ∃ g : Nat → Bool, g = anyS ss := ⟨_, rfl⟩
  rw [← hg]
  have HG := Lib.hid hg
  obtain ⟨mk, hmk, hnew⟩ := made256
  have HN := Lib.hid hnew
  clear hnew hg hc h
  have hsetc := set_any
  go_enter Tryd.func27, Tryd.ntmps27
  go_wp2
  have hst : BoolsAt ((w.alloc (.cells #[.int .u64 0, .int .u64 0, .int .u64 0, .int .u64 0] 25)).alloc (.cells mk 4)) (w.heap.size + 1) (lo g 0) := by
    have := HN.out (w.alloc (.cells #[.int .u64 0, .int .u64 0, .int .u64 0, .int .u64 0] 25))
    rw [World.size_alloc] at this; rw [lo_zero']; exact this
  have HST := Lib.hid hst
  clear hst hmk
  go_loopw [4] (fun i wr => ∃ k : Nat, k ≤ 256 ∧ i = .int .i64 k ∧ BoolsAt wr (w.heap.size + 1) (lo g k) ∧ Blk wr w.heap.size #[.int .u64 0, .int .u64 0, .int .u64 0, .int .u64 0] 25 ∧ Below w.heap.size w wr) (fun i _ => 256 - (intOf i).toNat)
  case atStart => exact ⟨0, by omega, rfl, HST.out, (Blk.new _ _ _).alloc _, below2 _ _ _⟩
  case round =>
    obtain ⟨k, hk, rfl, hB, hA, hbl⟩ := hrel
    by_cases hlt : k < 256
    · have hi : (k : Int) < 256 := by omega
      have hdk : decide ((k : Int) < 256) = true := by simp; omega
      have HB := Lib.hid hB
      have HA := Lib.hid hA
      have HBL := Lib.hid hbl
      clear hB hA hbl
      go_wp2
      obtain ⟨wo, rfl⟩ : ∃ wo : World, wo = wr := ⟨_, rfl⟩
      go_loopw [5] (fun i wi => ∃ j : Nat, j ≤ ss.length ∧ i = .int .i64 j ∧ BoolsAt wi (w.heap.size + 1) (half g k (anyS (ss.take j) k)) ∧ Blk wi w.heap.size #[.int .u64 0, .int .u64 0, .int .u64 0, .int .u64 0] 25 ∧ Below w.heap.size w wi) (fun i _ => ss.length - (intOf i).toNat)
      case atStart => exact ⟨0, by omega, rfl, by rw [show anyS (ss.take 0) k = false by simp [anyS], half_start]; exact HB.out, HA.out, HBL.out⟩
      case round =>
        obtain ⟨j, hj, rfl, hBi, hAi, hbi⟩ := hrel
        by_cases hjl : j < ss.length
        · obtain ⟨b, off, rfl, hb, hcl⟩ := HC.out (by omega)
          have e0 := (hbi.cell (p := ⟨b, off + j * 4 + 0, none⟩) hb).trans (hcl j hjl 0 (by decide))
          have e1 := (hbi.cell (p := ⟨b, off + j * 4 + 1, none⟩) hb).trans (hcl j hjl 1 (by decide))
          have e2 := (hbi.cell (p := ⟨b, off + j * 4 + 2, none⟩) hb).trans (hcl j hjl 2 (by decide))
          have e3 := (hbi.cell (p := ⟨b, off + j * 4 + 3, none⟩) hb).trans (hcl j hjl 3 (by decide))
          rw [Nat.add_zero] at e0
          have hcx := hBi.cell hlt
          rw [half_at] at hcx
          have hfz := hBi.frozen k
          have hat := anyS_take ss j k hjl
          obtain ⟨t, hte⟩ : ∃ t, t = getS ss j := ⟨_, rfl⟩
          rw [← hte] at e0 e1 e2 e3 hat
          have hrh := fun w => rhas_any t k w hlt
          obtain ⟨tk, htk⟩ : ∃ b, b = t k := ⟨_, rfl⟩
          rw [← htk] at hat hrh
          have HBI := Lib.hid hBi
          have HAI := Lib.hid hAi
          have hs2 := HBI.out.lt
          have HBBI := Lib.hid hbi
          clear hte htk hcl hBi hAi hbi
          cases hu : anyS (ss.take j) k with
          | true =>
            rw [hu] at hcx hat HBI
            have HAT := Lib.hid hat
            clear hu hat e0 e1 e2 e3
            go_wp2
            go_roundw
            case rel => exact ⟨j + 1, by omega, by go_num, by rw [HAT.out]; exact HBI.out.set true hlt (fun i _ => half_if g k true _ i), (Below.heap_setCell _ _ _ _ (by show w.heap.size ≠ w.heap.size + 1; omega)).trans HAI.out, HBBI.out.setCell (p := ⟨w.heap.size + 1, k, none⟩) (by simp) _⟩
            case measure => simp [intOf]; omega
          | false =>
            rw [hu] at hcx hat HBI
            have HAT := Lib.hid hat
            clear hu hat
            go_wp2_with (go_at_call 18; (with_reducible refine (hrh _).mono ?_); rintro e w1 ⟨rfl, hb1⟩; have hB1 := HBI.out.below hb1 hs2; have hA1 := HAI.out.below hb1 HAI.out.lt; have hbl1 := HBBI.out.trans (hb1.mono HBBI.out.size); have hfz1 := hB1.frozen k; have hcx1 := hB1.cell hlt; clear e0 e1 e2 e3 hcx hfz)
            go_roundw
            case rel => exact ⟨j + 1, by omega, by go_num, by rw [HAT.out]; exact hB1.set tk hlt (fun i _ => half_if g k false _ i), (Below.heap_setCell _ _ _ _ (by show w.heap.size ≠ w.heap.size + 1; omega)).trans hA1, hbl1.setCell (p := ⟨w.heap.size + 1, k, none⟩) (by simp) _⟩
            case measure => simp [intOf]; omega
        · obtain rfl : j = ss.length := by omega
          rw [List.take_length, ← HG.out, half_end] at hBi
          have HBI := Lib.hid hBi
          have HAI := Lib.hid hAi
          have HBBI := Lib.hid hbi
          clear hBi hAi hbi
          go_wp2
          go_roundw
          case rel => exact ⟨k + 1, by omega, by go_num, HBI.out, HAI.out, HBBI.out⟩
          case measure => simp [intOf]; omega
    · obtain rfl : k = 256 := by omega
      have HL := Lib.hid (lo_all g)
      obtain ⟨u, hu⟩ : ∃ u, u = lo g 256 := ⟨_, rfl⟩
      rw [← hu] at hB HL
      have HB := Lib.hid hB
      clear hB hu
      go_wp2_with (go_at_call 35; (with_reducible refine (hsetc u (w.heap.size + 1) _ HB.out).mono ?_); rintro e w1 ⟨rfl, hb1⟩; have hA1 := hA.below hb1 hA.lt; have hbl1 := hbl.trans (hb1.mono hbl.size); obtain ⟨⟨d0, d1, d2, d3⟩, ⟨g0, g1, g2, g3⟩⟩ := hA1.four)
      refine bodyPost_ret (v := .agg #[.int .u64 (wd u 0), .int .u64 (wd u 1), .int .u64 (wd u 2), .int .u64 (wd u 3)]) (by simp [results, Tryd.results27, go_sem, *]; done) rfl ⟨by rw [HL.out], ?_⟩
      exact below_set4 hbl1 (Nat.le_refl _) _ _ _ _
set_option maxRecDepth 100000 in
set_option maxHeartbeats 8000000 in
theorem rand_any (v : Value) (ss : List (Nat → Bool)) (w : World) (h : ClsAt w w.heap.size v ss) :
    Calls Tryd.prog 29 #[v] w fun e w' => e = .returned (.agg #[.int .u64 (wd (allS ss) 0), .int .u64 (wd (allS ss) 1), .int .u64 (wd (allS ss) 2), .int .u64 (wd (allS ss) 3)]) ∧ Below w.heap.size w w' := by
  obtain ⟨ao, cap, rfl, hm, hc⟩ := h.slice
  have HC := Lib.hid hc
  unfold maxLen at hm
  obtain ⟨g, hg⟩ : ∃ g : Nat → Bool, g = allS ss := ⟨_, rfl⟩
  rw [← hg]
  have HG := Lib.hid hg
  obtain ⟨mk, hmk, hnew⟩ := made256
  have HN := Lib.hid hnew
  clear hnew hg hc h
  have hsetc := set_any
  go_enter Tryd.func29, Tryd.ntmps29
  go_wp2
  have hst : BoolsAt ((w.alloc (.cells #[.int .u64 0, .int .u64 0, .int .u64 0, .int .u64 0] 25)).alloc (.cells mk 4)) (w.heap.size + 1) (lo g 0) := by
    have := HN.out (w.alloc (.cells #[.int .u64 0, .int .u64 0, .int .u64 0, .int .u64 0] 25))
    rw [World.size_alloc] at this; rw [lo_zero']; exact this
  have HST := Lib.hid hst
  clear hst hmk
  go_loopw [4] (fun i wr => ∃ k : Nat, k ≤ 256 ∧ i = .int .i64 k ∧ BoolsAt wr (w.heap.size + 1) (lo g k) ∧ Blk wr w.heap.size #[.int .u64 0, .int .u64 0, .int .u64 0, .int .u64 0] 25 ∧ Below w.heap.size w wr) (fun i _ => 256 - (intOf i).toNat)
  case atStart => exact ⟨0, by omega, rfl, HST.out, (Blk.new _ _ _).alloc _, below2 _ _ _⟩
  case round =>
    obtain ⟨k, hk, rfl, hB, hA, hbl⟩ := hrel
    by_cases hlt : k < 256
    · have hi : (k : Int) < 256 := by omega
      have hdk : decide ((k : Int) < 256) = true := by simp; omega
      have HB := Lib.hid hB
      have HA := Lib.hid hA
      have HBL := Lib.hid hbl
      have hfz0 := hB.frozen k
      have hcx0 := hB.cell hlt
      have hs0 := hB.lt
      have HSET := Lib.hid (hB.set true hlt (fun i _ => (show half g k true i = if i = k then true else lo g k i from rfl)))
      clear hB hA hbl
      go_wp2
      have HA := Lib.hid ((Below.heap_setCell _ _ _ _ (by show w.heap.size ≠ w.heap.size + 1; omega)).trans HA.out : Blk (wr.setCell ⟨w.heap.size + 1, k, none⟩ (.bool true)) w.heap.size _ 25)
      have HBL := Lib.hid (HBL.out.setCell (p := ⟨w.heap.size + 1, k, none⟩) (by simp) (.bool true))
      clear hfz0 hcx0
      obtain ⟨wo, rfl⟩ : ∃ wo : World, wo = wr := ⟨_, rfl⟩
      go_loopw [5] (fun i wi => ∃ j : Nat, j ≤ ss.length ∧ i = .int .i64 j ∧ BoolsAt wi (w.heap.size + 1) (half g k (allS (ss.take j) k)) ∧ Blk wi w.heap.size #[.int .u64 0, .int .u64 0, .int .u64 0, .int .u64 0] 25 ∧ Below w.heap.size w wi) (fun i _ => ss.length - (intOf i).toNat)
      case atStart => exact ⟨0, by omega, rfl, by rw [show allS (ss.take 0) k = true by simp [allS]]; exact HSET.out, HA.out, HBL.out⟩
      case round =>
        obtain ⟨j, hj, rfl, hBi, hAi, hbi⟩ := hrel
        by_cases hjl : j < ss.length
        · obtain ⟨b, off, rfl, hb, hcl⟩ := HC.out (by omega)
          have e0 := (hbi.cell (p := ⟨b, off + j * 4 + 0, none⟩) hb).trans (hcl j hjl 0 (by decide))
          have e1 := (hbi.cell (p := ⟨b, off + j * 4 + 1, none⟩) hb).trans (hcl j hjl 1 (by decide))
          have e2 := (hbi.cell (p := ⟨b, off + j * 4 + 2, none⟩) hb).trans (hcl j hjl 2 (by decide))
          have e3 := (hbi.cell (p := ⟨b, off + j * 4 + 3, none⟩) hb).trans (hcl j hjl 3 (by decide))
          rw [Nat.add_zero] at e0
          have hcx := hBi.cell hlt
          rw [half_at] at hcx
          have hfz := hBi.frozen k
          have hat := allS_take ss j k hjl
          obtain ⟨t, hte⟩ : ∃ t, t = getS ss j := ⟨_, rfl⟩
          rw [← hte] at e0 e1 e2 e3 hat
          have hrh := fun w => rhas_any t k w hlt
          obtain ⟨tk, htk⟩ : ∃ b, b = t k := ⟨_, rfl⟩
          rw [← htk] at hat hrh
          have HBI := Lib.hid hBi
          have HAI := Lib.hid hAi
          have hs2 := HBI.out.lt
          have HBBI := Lib.hid hbi
          clear hte htk hcl hBi hAi hbi
          cases hu : allS (ss.take j) k with
          | true =>
            rw [hu] at hcx hat HBI
            have HAT := Lib.hid hat
            clear hu hat
            go_wp2_with (go_at_call 18; (with_reducible refine (hrh _).mono ?_); rintro e w1 ⟨rfl, hb1⟩; have hB1 := HBI.out.below hb1 hs2; have hA1 := HAI.out.below hb1 HAI.out.lt; have hbl1 := HBBI.out.trans (hb1.mono HBBI.out.size); have hfz1 := hB1.frozen k; have hcx1 := hB1.cell hlt; clear e0 e1 e2 e3 hcx hfz)
            go_roundw
            case rel => exact ⟨j + 1, by omega, by go_num, by rw [HAT.out]; exact hB1.set tk hlt (fun i _ => half_if g k true _ i), (Below.heap_setCell _ _ _ _ (by show w.heap.size ≠ w.heap.size + 1; omega)).trans hA1, hbl1.setCell (p := ⟨w.heap.size + 1, k, none⟩) (by simp) _⟩
            case measure => simp [intOf]; omega
          | false =>
            rw [hu] at hcx hat HBI
            have HAT := Lib.hid hat
            clear hu hat e0 e1 e2 e3
            go_wp2
            go_roundw
            case rel => exact ⟨j + 1, by omega, by go_num, by rw [HAT.out]; exact HBI.out.set false hlt (fun i _ => half_if g k false _ i), (Below.heap_setCell _ _ _ _ (by show w.heap.size ≠ w.heap.size + 1; omega)).trans HAI.out, HBBI.out.setCell (p := ⟨w.heap.size + 1, k, none⟩) (by simp) _⟩
            case measure => simp [intOf]; omega
        · obtain rfl : j = ss.length := by omega
          rw [List.take_length, ← HG.out, half_end] at hBi
          have HBI := Lib.hid hBi
          have HAI := Lib.hid hAi
          have HBBI := Lib.hid hbi
          clear hBi hAi hbi
          go_wp2
          go_roundw
          case rel => exact ⟨k + 1, by omega, by go_num, HBI.out, HAI.out, HBBI.out⟩
          case measure => simp [intOf]; omega
    · obtain rfl : k = 256 := by omega
      have HL := Lib.hid (lo_all g)
      obtain ⟨u, hu⟩ : ∃ u, u = lo g 256 := ⟨_, rfl⟩
      rw [← hu] at hB HL
      have HB := Lib.hid hB
      clear hB hu
      go_wp2_with (go_at_call 35; (with_reducible refine (hsetc u (w.heap.size + 1) _ HB.out).mono ?_); rintro e w1 ⟨rfl, hb1⟩; have hA1 := hA.below hb1 hA.lt; have hbl1 := hbl.trans (hb1.mono hbl.size); obtain ⟨⟨d0, d1, d2, d3⟩, ⟨g0, g1, g2, g3⟩⟩ := hA1.four)
      refine bodyPost_ret (v := .agg #[.int .u64 (wd u 0), .int .u64 (wd u 1), .int .u64 (wd u 2), .int .u64 (wd u 3)]) (by simp [results, Tryd.results29, go_sem, *]; done) rfl ⟨by rw [HL.out], ?_⟩
      exact below_set4 hbl1 (Nat.le_refl _) _ _ _ _
end Go.Proofs.YtcnikeeapillnaaDoor

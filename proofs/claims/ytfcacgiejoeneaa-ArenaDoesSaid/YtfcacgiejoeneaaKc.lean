/- The kit's lent numbers: numbers with marks behind their end; still as they were; written over. -/
import Derived.Test.YtfcacgiejoeneaaKb
import Derived.Test.YtfcacgiejoeneaaWd
namespace Go.Proofs.Ytfcacgiejoeneaa
open Go Go.RowKit
def mkn (i : Nat) : Int := ((1000003 * (1 + 7) + i : Nat) : Int)
def marks (n : Nat) : List Int := (List.range n).map mkn
theorem marks_length (n : Nat) : (marks n).length = n := by simp [marks]
theorem marks_succ (n : Nat) : marks (n + 1) = marks n ++ [mkn n] := by simp [marks, List.range_succ]
set_option maxRecDepth 100000 in
set_option maxHeartbeats 2000000 in
theorem lent_any (A : Option Addr) (l : List Int) (c : Nat) (hl : l.length ≤ 60000) (hnc : A = none → c = 0) (w : World) (h : Lies w A (ints l)) :
    Calls Try.prog 11 #[.slice A l.length c] w fun e w' => (∃ g cap, e = .returned (.slice (some ⟨g, 0, none⟩) l.length cap) ∧ w.heap.size ≤ g ∧ w'.ownsRow w.heap.size 3 1 (.slice (some ⟨g, 0, none⟩) (ints (l ++ marks 12)).length cap) (ints (l ++ marks 12)).length (ints (l ++ marks 12))) ∧ Below w.heap.size w w' := by
  obtain ⟨i0, hi, hz0, hz1, hz2⟩ := info_parts Try.info3
  have HT := Lib.hid h
  have HN := Lib.hid hnc
  have hil := ints_length l
  have HIL := Lib.hid hil
  clear h hnc hil
  go_enter Try.func11, Try.ntmps11
  go_wp2_with (first | (at_make; refine wpList_make_own _ rfl _ _ 28 rfl w.heap.size 3 i0 (.int .i64 0) 1 Try.underlying28 hi hz0 hz1 .i64 .i64 _ (l.length + 12) rfl rfl (by omega) (by rw [hz2]; omega) (by unfold maxLen; omega) (Nat.le_refl _) ?_; intro w0 hown0 hgrow0; have H0 := Lib.hid ((Below.refl w.heap.size w).grown hgrow0 (Nat.le_refl _) (fun k hk => by cases hk)); have O0 := Lib.hid hown0; clear hgrow0 hown0) | (at_builtin; refine wpList_append_turn _ rfl (.tmp 9) (.tmp 10) 28 rfl w.heap.size 3 i0 (.int .i64 0) 8 Try.underlying28 hi hz0 hz1 hz2 rfl _ [] rfl O0.out A c (ints l) (by rw [HIL.out]; rfl) (HT.out.below H0.out) HN.out (ints_one l) (by unfold maxLen; rw [HIL.out]; simp; omega) (by rw [HIL.out]; simp; omega) H0.out.size ?_; intro v1 w1 hown1 hg1 _; have H1 := Lib.hid (H0.out.grown hg1 H0.out.size (fun k hk => (O0.out.lt k hk).1)); rw [List.nil_append] at hown1; have O1 := Lib.hid hown1; clear hg1 hown1))
  go_loopw [3, 4] (fun v i wr => ∃ k : Nat, k ≤ 12 ∧ i = .int .i64 k ∧ wr.ownsRow w.heap.size 3 1 v (ints (l ++ marks k)).length (ints (l ++ marks k)) ∧ Below w.heap.size w wr) (fun _ i _ => 12 - (intOf i).toNat)
  case atStart => exact ⟨0, by omega, rfl, by simpa [marks] using O1.out, H1.out⟩
  case round =>
    clear O1 H1
    obtain ⟨k, hk, rfl, hown, hb⟩ := hrel
    have HO := Lib.hid hown
    have HB := Lib.hid hb
    have hz := hb.size
    clear hown hb
    by_cases hlt : k < 12
    · have M := Lib.hid (fun W => mark_any 1 k (by omega) (by omega) W)
      have hkl : (ints (l ++ marks k)).length = l.length + k := by rw [ints_length, List.length_append, marks_length]
      have HKL := Lib.hid hkl
      clear hkl
      go_wp2_with (first | (go_at_call 35; refine (M.out _).mono ?_; rintro e w2 ⟨rfl, rfl⟩) | (at_builtin; refine wpList_append_turn _ rfl (.tmp 16) (.tmp 19) 28 rfl w.heap.size 3 i0 (.int .i64 0) 8 Try.underlying28 hi hz0 hz1 hz2 rfl _ (ints (l ++ marks k)) rfl (HO.out.alloc _) (some ⟨wr.heap.size, 0, none⟩) 1 [.int .i64 (mkn k)] rfl (lies_one _ _ _) (fun h => by cases h) (by simp [Value.oneCell']) (by unfold maxLen; rw [HKL.out]; simp; omega) (by rw [HKL.out]; simp; omega) (by simp; omega) ?_; intro v' w3 hown' hgrow _; have O3 := Lib.hid hown'; have G3 := Lib.hid hgrow; clear hown' hgrow))
      go_roundw
      case rel => exact ⟨k + 1, by omega, by go_num, by have := O3.out; rw [marks_succ, ← List.append_assoc, ints_app (l ++ marks k)]; exact this, (HB.out.alloc HB.out.size _).grown G3.out (by have := HB.out.size; simp; omega) (fun g hg => (HO.out.lt g hg).1)⟩
      case measure => simp [intOf]; omega
    · obtain rfl : k = 12 := by omega
      have hn : (ints (l ++ marks 12)).length = l.length + 12 := by rw [ints_length, List.length_append, marks_length]
      obtain ⟨g, cap, rfl, hg1, hg2, hg3, _⟩ := own_shape HO.out (by rw [hn]; omega)
      unfold maxLen at hg3
      have hq1 : l.length ≤ cap := by omega
      clear hn
      go_wp2_with fail
      go_ret
      exact ⟨⟨g, cap, rfl, hg1, HO.out⟩, HB.out⟩
/-- Lent: numbers, their marks behind them. -/
def Lent (w : World) (g : Nat) (l : List Int) : Prop := g < w.heap.size ∧ ∀ i, i < l.length + 12 → w.cell? ⟨g, i, none⟩ = some (.int .i64 ((l ++ marks 12).getD i 0))
theorem Lent.of_own {w : World} {base g cap : Nat} {l : List Int} (h : w.ownsRow base 3 1 (.slice (some ⟨g, 0, none⟩) (ints (l ++ marks 12)).length cap) (ints (l ++ marks 12)).length (ints (l ++ marks 12))) : Lent w g l ∧ l.length + 12 ≤ cap ∧ cap ≤ maxLen := by
  have hn : (ints (l ++ marks 12)).length = l.length + 12 := by rw [ints_length, List.length_append, marks_length]
  obtain ⟨g', cap', e, _, h1, h2, h3⟩ := own_shape h (by omega)
  cases e
  refine ⟨⟨h3, fun i hi => ?_⟩, by omega, h2⟩
  rw [h.cellAt i (by omega), ints_at (by rw [List.length_append, marks_length]; omega)]
theorem lent_text {l : List Int} {i : Nat} (h : i < l.length) : (l ++ marks 12).getD i 0 = l.getD i 0 := by
  rw [List.getD_eq_getElem?_getD, List.getD_eq_getElem?_getD, List.getElem?_append_left h]
theorem lent_mark {l : List Int} {i : Nat} (h : l.length ≤ i) (h2 : i < l.length + 12) : (l ++ marks 12).getD i 0 = mkn (i - l.length) := by
  rw [List.getD_eq_getElem?_getD, List.getElem?_append_right h, marks, List.getElem?_map, List.getElem?_range (by omega), Option.map_some, Option.getD_some]
end Go.Proofs.Ytfcacgiejoeneaa

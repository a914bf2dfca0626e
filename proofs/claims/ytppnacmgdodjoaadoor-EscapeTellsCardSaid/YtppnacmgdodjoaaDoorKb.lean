/- The kit's lent bytes: a text with marks behind its end. -/
import Derived.Test.YtppnacmgdodjoaaDoorKa
import Derived.Laws.MakeOwn
namespace Go.Proofs.YtppnacmgdodjoaaDoor
open Go.RowKit
def marks (k n : Nat) : List Nat := (List.range n).map (mkb k)
theorem marks_length (k n : Nat) : (marks k n).length = n := by simp [marks]
theorem marks_succ (k n : Nat) : marks k (n + 1) = marks k n ++ [mkb k n] := by simp [marks, List.range_succ]
theorem marks_lt (k n : Nat) : ∀ x ∈ marks k n, x < 256 := by
  intro x hx
  simp only [marks, List.mem_map] at hx
  obtain ⟨i, _, rfl⟩ := hx
  exact mkb_lt k i
theorem bw {w0 w w' : World} (h : Below w0.heap.size w0 w) (h' : Below w.heap.size w w') : Below w0.heap.size w0 w' := h.trans (h'.mono h.size)

theorem own_shape {w : World} {base e size n : Nat} {v : Value} {xs : List Value} (h : w.ownsRow base e size v n xs) (h0 : 0 < n) : ∃ g cap, v = .slice (some ⟨g, 0, none⟩) n cap ∧ base ≤ g ∧ n ≤ cap ∧ cap ≤ maxLen ∧ g < w.heap.size := by
  rcases h.2 with ⟨_, hn⟩ | ⟨g, cap, cur, rfl, hb, hh, h1, h2, _⟩
  · omega
  · exact ⟨g, cap, rfl, hb, h1, h2, (Array.getElem?_eq_some_iff.1 hh).1⟩

set_option maxRecDepth 100000 in
set_option maxHeartbeats 2000000 in
theorem lent_any (A : Option Addr) (l : List Nat) (c : Nat) (hl : l.length ≤ 60000) (hnc : A = none → c = 0) (w : World) (h : Txt w A l) :
    Calls Tryd.prog 8 #[.slice A l.length c] w fun e w' => (∃ g cap, e = .returned (.slice (some ⟨g, 0, none⟩) l.length cap) ∧ w.heap.size ≤ g ∧ w'.ownsRow w.heap.size 5 1 (.slice (some ⟨g, 0, none⟩) (l ++ marks 1 12).length cap) (l ++ marks 1 12).length ((l ++ marks 1 12).map natb)) ∧ Below w.heap.size w w' := by
  obtain ⟨i0, hi, hz0, hz1, hz2⟩ := info_parts Tryd.info5
  have HT := Lib.hid h
  have HN := Lib.hid hnc
  clear h hnc
  go_enter Tryd.func8, Tryd.ntmps8
  go_wp2_with (first
    | (at_make; refine wpList_make_own _ rfl _ _ 22 rfl w.heap.size 5 i0 (.int .u8 0) 1 Tryd.underlying22 hi hz0 hz1 .i64 .i64 _ (l.length + 12) rfl rfl (by omega) (by rw [hz2]; omega) (by unfold maxLen; omega) (Nat.le_refl _) ?_; intro w0 hown0 hgrow0; have H0 := Lib.hid ((Below.refl w.heap.size w).grown hgrow0 (Nat.le_refl _) (fun k hk => by cases hk)); clear hgrow0)
    | (at_builtin; refine wpList_append_txt _ rfl (.tmp 9) (.tmp 10) rfl w.heap.size _ [] rfl hown0 A l c rfl (HT.out.below H0.out) HN.out (by simp; omega) H0.out.size ?_; intro v1 w1 hown1 hg1; have H1 := Lib.hid (H0.out.grown hg1 H0.out.size (fun k hk => (hown0.lt k hk).1)); clear hg1))
  simp only [List.nil_append] at hown1
  clear hown0 H0
  go_loopw [3, 4] (fun v i wr => ∃ k : Nat, k ≤ 12 ∧ i = .int .i64 k ∧ wr.ownsRow w.heap.size 5 1 v (l ++ marks 1 k).length ((l ++ marks 1 k).map natb) ∧ Below w.heap.size w wr) (fun _ i _ => 12 - (intOf i).toNat)
  case atStart => exact ⟨0, by omega, rfl, by simpa [marks] using hown1, H1.out⟩
  case round =>
    clear hown1 H1
    obtain ⟨k, hk, rfl, hown, hb⟩ := hrel
    by_cases hlt : k < 12
    · have M := Lib.hid (fun W => markByte_any 1 k (by omega) (by omega) W)
      have HB := Lib.hid hb
      have hz := hb.size
      clear hb
      go_wp2_with fail
      refine (M.out _).mono ?_
      rintro e w2 ⟨rfl, rfl⟩
      go_wp2_with (at_builtin; refine wpList_append_own _ rfl _ _ 22 rfl w.heap.size 5 i0 (.int .u8 0) 1 1 Tryd.underlying22 hi hz0 hz1 hz2 rfl (by decide) _ _ _ rfl (hown.alloc _) ⟨wr.heap.size, 0, none⟩ 1 1 [.int .u8 (mkb 1 k)] rfl rfl (cell_one_new _ _ _) (by simp [Value.oneCell']) (by unfold maxLen; simp [marks_length]; omega) (by simp [marks_length]; omega) (by simp; omega) ?_; intro v' w3 hown' hgrow _)
      go_roundw
      case rel => exact ⟨k + 1, by omega, by go_num, by rw [marks_succ, ← List.append_assoc, List.length_append, List.map_append]; simpa [natb] using hown', (HB.out.alloc HB.out.size _).grown hgrow (by have := HB.out.size; simp; omega) (fun g hg => (hown.lt g hg).1)⟩
      case measure => simp [intOf]; omega
    · obtain rfl : k = 12 := by omega
      have hn : (l ++ marks 1 12).length = l.length + 12 := by simp [marks_length]
      obtain ⟨g, cap, rfl, hg1, hg2, hg3, _⟩ := own_shape hown (by rw [hn]; omega)
      have HO := Lib.hid hown
      have HB := Lib.hid hb
      unfold maxLen at hg3
      clear hown hb
      have hq1 : l.length ≤ cap := by omega
      clear hn
      go_wp2_with fail
      go_ret
      exact ⟨⟨g, cap, rfl, hg1, HO.out⟩, HB.out⟩
end Go.Proofs.YtppnacmgdodjoaaDoor

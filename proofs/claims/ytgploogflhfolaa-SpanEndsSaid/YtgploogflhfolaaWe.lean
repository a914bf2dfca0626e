/- Contracts of layer 3: Meet, and the document's. -/
import Derived.Test.YtgploogflhfolaaWd
import Derived.Laws.ResultCell
namespace Go.Proofs.Ytgploogflhfolaa
open Go.RowKit

set_option maxHeartbeats 1000000 in
theorem meet_raw (a1 a2 b1 b2 : Int) (w : World) :
    Calls Try.prog 8 #[.agg #[.int .i64 a1, .int .i64 a2], .agg #[.int .i64 b1, .int .i64 b2]] w fun e w' => e = .returned (.tuple #[.agg #[.int .i64 (mee (a1, a2) (b1, b2)).1, .int .i64 (mee (a1, a2) (b1, b2)).2], .bool (ism (a1, a2) (b1, b2))]) ∧ Below w.heap.size w w' := by
  unfold mee ism mt
  dsimp only
  obtain ⟨m1, hm1⟩ : ∃ m, m = max a1 b1 := ⟨_, rfl⟩
  obtain ⟨m2, hm2⟩ : ∃ m, m = min a2 b2 := ⟨_, rfl⟩
  obtain ⟨r, hr⟩ : ∃ r, r = rt a1 a2 := ⟨_, rfl⟩
  obtain ⟨s, hs⟩ : ∃ s, s = rt b1 b2 := ⟨_, rfl⟩
  obtain ⟨t, ht⟩ : ∃ t, t = rt m1 m2 := ⟨_, rfl⟩
  have R := fun w => right_any a1 a2 w
  have S := fun w => right_any b1 b2 w
  have T := fun w => right_any m1 m2 w
  rw [← hm1, ← hm2, ← ht, ← hr, ← hs]
  rw [← hr] at R
  rw [← hs] at S
  rw [← ht] at T
  clear hr hs ht
  have R := Lib.hid R
  have S := Lib.hid S
  have T := Lib.hid T
  have HM1 := Lib.hid hm1
  have HM2 := Lib.hid hm2
  clear hm1 hm2
  go_enter Try.func8, Try.ntmps8
  go_wp2_with fail
  all_goals
    have hm1 := HM1.out
    have hm2 := HM2.out
    first | (have e : m1 = a1 := by omega) | (have e : m1 = b1 := by omega)
    subst e
    first | (have e : m2 = a2 := by omega) | (have e : m2 = b2 := by omega)
    subst e
    clear hm1 hm2 HM1 HM2
    refine (R.out _).mono ?_
    rintro e w1 ⟨rfl, hb⟩
    have hz0 := hb.size
    simp at hz0
    have hb1 := bt (B4 _ _ _ _ _) hb (by simp; omega)
    obtain ⟨hqc, hqf⟩ := bcell hb
    have hz1 : w.heap.size + 1 + 1 < w1.heap.size := by omega
    have hz1b : w.heap.size + 1 + 1 + 1 < w1.heap.size := by omega
    have hz1c : w.heap.size + 1 < w1.heap.size := by omega
    clear hb
    cases r with
    | false =>
      go_wp2_with fail
      (try simp only [Exit.inBlock, Exit.then])
      refine bodyPost_ret (v := .tuple #[.agg #[.int .i64 0, .int .i64 0], .bool false]) (by rw [results_cell_tmp rfl]; go_simp) rfl ⟨rfl, ?_⟩
      exact (hb1.setCell (p := ⟨w.heap.size + 1 + 1, 0, none⟩) (by simp; omega) _).setCell (p := ⟨w.heap.size + 1 + 1, 1, none⟩) (by simp; omega) _
    | true =>
      go_wp2_with fail
      refine (S.out _).mono ?_
      rintro e w2 ⟨rfl, hb2⟩
      have hb3 := bt hb1 hb2 hb1.size
      have hz3 := hb2.size
      obtain ⟨hqc2, hqf2⟩ := bcell hb2
      have hz4 : w.heap.size + 1 + 1 < w2.heap.size := by omega
      have hz4b : w.heap.size + 1 + 1 + 1 < w2.heap.size := by omega
      clear hb2 hb1
      cases s with
      | false =>
        go_wp2_with fail
        (try simp only [Exit.inBlock, Exit.then])
        refine bodyPost_ret (v := .tuple #[.agg #[.int .i64 0, .int .i64 0], .bool false]) (by rw [results_cell_tmp rfl]; go_simp) rfl ⟨rfl, ?_⟩
        exact (hb3.setCell (p := ⟨w.heap.size + 1 + 1, 0, none⟩) (by simp; omega) _).setCell (p := ⟨w.heap.size + 1 + 1, 1, none⟩) (by simp; omega) _
      | true =>
        go_wp2_with fail
        refine (T.out _).mono ?_
        rintro e w3 ⟨rfl, hb4⟩
        have hb5 := bt hb3 hb4 hb3.size
        have hz5 := hb4.size
        obtain ⟨hqc3, hqf3⟩ := bcell hb4
        have hz6 : w.heap.size + 1 + 1 < w3.heap.size := by omega
        have hz6b : w.heap.size + 1 + 1 + 1 < w3.heap.size := by omega
        clear hb4 hb3
        cases t with
        | false =>
          go_wp2_with fail
          (try simp only [Exit.inBlock, Exit.then])
          refine bodyPost_ret (v := .tuple #[.agg #[.int .i64 0, .int .i64 0], .bool false]) (by rw [results_cell_tmp rfl]; go_simp) rfl ⟨rfl, ?_⟩
          exact (hb5.setCell (p := ⟨w.heap.size + 1 + 1, 0, none⟩) (by simp; omega) _).setCell (p := ⟨w.heap.size + 1 + 1, 1, none⟩) (by simp; omega) _
        | true =>
          go_wp2_with fail
          (try simp only [Exit.inBlock, Exit.then])
          refine bodyPost_ret (v := .tuple #[.agg #[.int .i64 m1, .int .i64 m2], .bool true]) (by rw [results_cell_tmp rfl]; go_simp) rfl ⟨rfl, ?_⟩
          exact (hb5.setCell (p := ⟨w.heap.size + 1 + 1, 0, none⟩) (by simp; omega) _).setCell (p := ⟨w.heap.size + 1 + 1, 1, none⟩) (by simp; omega) _

set_option maxHeartbeats 1000000 in
theorem rmeet_raw (a1 a2 b1 b2 : Int) (w : World) :
    Calls Try.prog 9 #[.agg #[.int .i64 a1, .int .i64 a2], .agg #[.int .i64 b1, .int .i64 b2]] w fun e w' => e = .returned (.tuple #[.agg #[.int .i64 (mee (a1, a2) (b1, b2)).1, .int .i64 (mee (a1, a2) (b1, b2)).2], .bool (ism (a1, a2) (b1, b2))]) ∧ Below w.heap.size w w' := by
  unfold mee ism mt
  dsimp only
  obtain ⟨m1, hm1⟩ : ∃ m, m = max a1 b1 := ⟨_, rfl⟩
  obtain ⟨m2, hm2⟩ : ∃ m, m = min a2 b2 := ⟨_, rfl⟩
  obtain ⟨r, hr⟩ : ∃ r, r = rt a1 a2 := ⟨_, rfl⟩
  obtain ⟨s, hs⟩ : ∃ s, s = rt b1 b2 := ⟨_, rfl⟩
  obtain ⟨t, ht⟩ : ∃ t, t = rt m1 m2 := ⟨_, rfl⟩
  have R := fun w => rright_any a1 a2 w
  have S := fun w => rright_any b1 b2 w
  have T := fun w => rright_any m1 m2 w
  rw [← hm1, ← hm2, ← ht, ← hr, ← hs]
  rw [← hr] at R
  rw [← hs] at S
  rw [← ht] at T
  clear hr hs ht
  have R := Lib.hid R
  have S := Lib.hid S
  have T := Lib.hid T
  have HM1 := Lib.hid hm1
  have HM2 := Lib.hid hm2
  clear hm1 hm2
  go_enter Try.func9, Try.ntmps9
  go_wp2_with fail
  all_goals
    have hm1 := HM1.out
    have hm2 := HM2.out
    first | (have e : m1 = a1 := by omega) | (have e : m1 = b1 := by omega)
    subst e
    first | (have e : m2 = a2 := by omega) | (have e : m2 = b2 := by omega)
    subst e
    clear hm1 hm2 HM1 HM2
    refine (R.out _).mono ?_
    rintro e w1 ⟨rfl, hb⟩
    have hz0 := hb.size
    simp at hz0
    have hb1 := bt (B4 _ _ _ _ _) hb (by simp; omega)
    obtain ⟨hqc, hqf⟩ := bcell hb
    have hz1 : w.heap.size + 1 + 1 < w1.heap.size := by omega
    have hz1b : w.heap.size + 1 + 1 + 1 < w1.heap.size := by omega
    have hz1c : w.heap.size + 1 < w1.heap.size := by omega
    clear hb
    cases r with
    | false =>
      go_wp2_with fail
      (try simp only [Exit.inBlock, Exit.then])
      refine bodyPost_ret (v := .tuple #[.agg #[.int .i64 0, .int .i64 0], .bool false]) (by rw [results_cell_tmp rfl]; go_simp) rfl ⟨rfl, ?_⟩
      exact (hb1.setCell (p := ⟨w.heap.size + 1 + 1, 0, none⟩) (by simp; omega) _).setCell (p := ⟨w.heap.size + 1 + 1, 1, none⟩) (by simp; omega) _
    | true =>
      go_wp2_with fail
      refine (S.out _).mono ?_
      rintro e w2 ⟨rfl, hb2⟩
      have hb3 := bt hb1 hb2 hb1.size
      have hz3 := hb2.size
      obtain ⟨hqc2, hqf2⟩ := bcell hb2
      have hz4 : w.heap.size + 1 + 1 < w2.heap.size := by omega
      have hz4b : w.heap.size + 1 + 1 + 1 < w2.heap.size := by omega
      clear hb2 hb1
      cases s with
      | false =>
        go_wp2_with fail
        (try simp only [Exit.inBlock, Exit.then])
        refine bodyPost_ret (v := .tuple #[.agg #[.int .i64 0, .int .i64 0], .bool false]) (by rw [results_cell_tmp rfl]; go_simp) rfl ⟨rfl, ?_⟩
        exact (hb3.setCell (p := ⟨w.heap.size + 1 + 1, 0, none⟩) (by simp; omega) _).setCell (p := ⟨w.heap.size + 1 + 1, 1, none⟩) (by simp; omega) _
      | true =>
        go_wp2_with fail
        refine (T.out _).mono ?_
        rintro e w3 ⟨rfl, hb4⟩
        have hb5 := bt hb3 hb4 hb3.size
        have hz5 := hb4.size
        obtain ⟨hqc3, hqf3⟩ := bcell hb4
        have hz6 : w.heap.size + 1 + 1 < w3.heap.size := by omega
        have hz6b : w.heap.size + 1 + 1 + 1 < w3.heap.size := by omega
        clear hb4 hb3
        cases t with
        | false =>
          go_wp2_with fail
          (try simp only [Exit.inBlock, Exit.then])
          refine bodyPost_ret (v := .tuple #[.agg #[.int .i64 0, .int .i64 0], .bool false]) (by rw [results_cell_tmp rfl]; go_simp) rfl ⟨rfl, ?_⟩
          exact (hb5.setCell (p := ⟨w.heap.size + 1 + 1, 0, none⟩) (by simp; omega) _).setCell (p := ⟨w.heap.size + 1 + 1, 1, none⟩) (by simp; omega) _
        | true =>
          go_wp2_with fail
          (try simp only [Exit.inBlock, Exit.then])
          refine bodyPost_ret (v := .tuple #[.agg #[.int .i64 m1, .int .i64 m2], .bool true]) (by rw [results_cell_tmp rfl]; go_simp) rfl ⟨rfl, ?_⟩
          exact (hb5.setCell (p := ⟨w.heap.size + 1 + 1, 0, none⟩) (by simp; omega) _).setCell (p := ⟨w.heap.size + 1 + 1, 1, none⟩) (by simp; omega) _
end Go.Proofs.Ytgploogflhfolaa

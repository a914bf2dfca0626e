/- Contracts of layer 3: In, Less, Meet, and the document's. -/
import Derived.Test.YtgploogflhfolaaWc
namespace Go.Proofs.Ytgploogflhfolaa
open Go.RowKit
/-- One lies in another one. -/
def inn (a b : Int × Int) : Bool := rt a.1 a.2 && rt b.1 b.2 && decide (b.1 ≤ a.1) && decide (a.2 ≤ b.2)
/-- One stands ahead of another one. -/
def les (a b : Int × Int) : Bool := rt a.1 a.2 && rt b.1 b.2 && (decide (a.1 < b.1) || decide (a.1 = b.1) && decide (b.2 < a.2))
def mt (a b : Int × Int) : Int × Int := (max a.1 b.1, min a.2 b.2)
/-- Whether they meet. -/
def ism (a b : Int × Int) : Bool := rt a.1 a.2 && rt b.1 b.2 && rt (mt a b).1 (mt a b).2
/-- What both have. -/
def mee (a b : Int × Int) : Int × Int := if ism a b then mt a b else (0, 0)
theorem B4 (w : World) (o p q r : Obj) : Below w.heap.size w ((((w.alloc o).alloc p).alloc q).alloc r) := ((B2 w o p).alloc (by simp; omega) q).alloc (by simp; omega) r
theorem ord_lt (a b : Int × Int) : decide (ordI a b < 0) = (decide (a.1 < b.1) || decide (a.1 = b.1) && decide (b.2 < a.2)) := by
  unfold ordI orI cmpI
  rw [Bool.eq_iff_iff]
  simp only [Bool.or_eq_true, Bool.and_eq_true, decide_eq_true_eq]
  split <;> split <;> (try split) <;> omega

set_option maxHeartbeats 1000000 in
theorem in_raw (a1 a2 b1 b2 : Int) (w : World) :
    Calls Try.prog 16 #[.agg #[.int .i64 a1, .int .i64 a2], .agg #[.int .i64 b1, .int .i64 b2]] w fun e w' => e = .returned (.bool (rt a1 a2 && rt b1 b2 && decide (b1 ≤ a1) && decide (a2 ≤ b2))) ∧ Below w.heap.size w w' := by
  obtain ⟨r, hr⟩ : ∃ r, r = rt a1 a2 := ⟨_, rfl⟩
  obtain ⟨s, hs⟩ : ∃ s, s = rt b1 b2 := ⟨_, rfl⟩
  have R := fun w => right_any a1 a2 w
  have S := fun w => right_any b1 b2 w
  rw [← hr] at R ⊢
  rw [← hs] at S ⊢
  clear hr hs
  have R := Lib.hid R
  have S := Lib.hid S
  go_enter Try.func16, Try.ntmps16
  go_wp2_with fail
  refine (R.out _).mono ?_
  rintro e w1 ⟨rfl, hb⟩
  have hb1 := bt (B2 _ _ _) hb (by simp; omega)
  have hz0 := hb.size
  simp at hz0
  obtain ⟨hqc, hqf⟩ := bcell hb
  clear hb
  cases r with
  | false =>
    go_wp2_with fail
    go_ret
    exact ⟨rfl, hb1⟩
  | true =>
    go_wp2_with fail
    refine (S.out _).mono ?_
    rintro e w2 ⟨rfl, hb2⟩
    have hb3 := bt hb1 hb2 hb1.size
    have hz1 : w.heap.size < w1.heap.size := by omega
    have hz2 : w.heap.size + 1 < w1.heap.size := by omega
    obtain ⟨hqc2, hqf2⟩ := bcell hb2
    clear hb2 hb1
    go_wp2_with fail
    all_goals
      go_ret
      exact ⟨ret_bool (by simp_all <;> omega), hb3⟩

set_option maxHeartbeats 1000000 in
theorem rin_raw (a1 a2 b1 b2 : Int) (w : World) :
    Calls Try.prog 17 #[.agg #[.int .i64 a1, .int .i64 a2], .agg #[.int .i64 b1, .int .i64 b2]] w fun e w' => e = .returned (.bool (rt a1 a2 && rt b1 b2 && decide (b1 ≤ a1) && decide (a2 ≤ b2))) ∧ Below w.heap.size w w' := by
  obtain ⟨r, hr⟩ : ∃ r, r = rt a1 a2 := ⟨_, rfl⟩
  obtain ⟨s, hs⟩ : ∃ s, s = rt b1 b2 := ⟨_, rfl⟩
  have R := fun w => rright_any a1 a2 w
  have S := fun w => rright_any b1 b2 w
  rw [← hr] at R ⊢
  rw [← hs] at S ⊢
  clear hr hs
  have R := Lib.hid R
  have S := Lib.hid S
  go_enter Try.func17, Try.ntmps17
  go_wp2_with fail
  refine (R.out _).mono ?_
  rintro e w1 ⟨rfl, hb⟩
  have hb1 := bt (B2 _ _ _) hb (by simp; omega)
  have hz0 := hb.size
  simp at hz0
  obtain ⟨hqc, hqf⟩ := bcell hb
  clear hb
  cases r with
  | false =>
    go_wp2_with fail
    go_ret
    exact ⟨rfl, hb1⟩
  | true =>
    go_wp2_with fail
    refine (S.out _).mono ?_
    rintro e w2 ⟨rfl, hb2⟩
    have hb3 := bt hb1 hb2 hb1.size
    have hz1 : w.heap.size < w1.heap.size := by omega
    have hz2 : w.heap.size + 1 < w1.heap.size := by omega
    obtain ⟨hqc2, hqf2⟩ := bcell hb2
    clear hb2 hb1
    go_wp2_with fail
    all_goals
      go_ret
      exact ⟨ret_bool (by simp_all <;> omega), hb3⟩

set_option maxHeartbeats 1000000 in
theorem less_raw (a1 a2 b1 b2 : Int) (w : World) :
    Calls Try.prog 18 #[.agg #[.int .i64 a1, .int .i64 a2], .agg #[.int .i64 b1, .int .i64 b2]] w fun e w' => e = .returned (.bool (rt a1 a2 && rt b1 b2 && (decide (a1 < b1) || decide (a1 = b1) && decide (b2 < a2)))) ∧ Below w.heap.size w w' := by
  obtain ⟨r, hr⟩ : ∃ r, r = rt a1 a2 := ⟨_, rfl⟩
  obtain ⟨s, hs⟩ : ∃ s, s = rt b1 b2 := ⟨_, rfl⟩
  have R := fun w => right_any a1 a2 w
  have S := fun w => right_any b1 b2 w
  rw [← hr] at R ⊢
  rw [← hs] at S ⊢
  clear hr hs
  have R := Lib.hid R
  have S := Lib.hid S
  have O := fun w => order_any (a1, a2) (b1, b2) w
  have E := ord_lt (a1, a2) (b1, b2)
  dsimp only at O E
  rw [← E]
  generalize ordI (a1, a2) (b1, b2) = o at O ⊢
  clear E
  have O := Lib.hid O
  go_enter Try.func18, Try.ntmps18
  go_wp2_with fail
  refine (R.out _).mono ?_
  rintro e w1 ⟨rfl, hb⟩
  have hz0 := hb.size
  simp at hz0
  have hb1 := bt (B2 _ _ _) hb (by simp; omega)
  obtain ⟨hqc, hqf⟩ := bcell hb
  clear hb
  cases r with
  | false =>
    go_wp2_with fail
    go_ret
    exact ⟨rfl, hb1⟩
  | true =>
    go_wp2_with fail
    refine (S.out _).mono ?_
    rintro e w2 ⟨rfl, hb2⟩
    have hb3 := bt hb1 hb2 hb1.size
    have hz1 : w.heap.size < w1.heap.size := by omega
    have hz2 : w.heap.size + 1 < w1.heap.size := by omega
    obtain ⟨hqc2, hqf2⟩ := bcell hb2
    clear hb2 hb1
    cases s with
    | false =>
      go_wp2_with fail
      go_ret
      exact ⟨rfl, hb3⟩
    | true =>
      go_wp2_with fail
      refine (O.out _).mono ?_
      rintro e w3 ⟨rfl, hb4⟩
      go_wp2_with fail
      all_goals
        go_ret
        exact ⟨ret_bool (by simp), bt hb3 hb4.below hb3.size⟩

set_option maxHeartbeats 1000000 in
theorem rless_raw (a1 a2 b1 b2 : Int) (w : World) :
    Calls Try.prog 19 #[.agg #[.int .i64 a1, .int .i64 a2], .agg #[.int .i64 b1, .int .i64 b2]] w fun e w' => e = .returned (.bool (rt a1 a2 && rt b1 b2 && (decide (a1 < b1) || decide (a1 = b1) && decide (b2 < a2)))) ∧ Below w.heap.size w w' := by
  obtain ⟨r, hr⟩ : ∃ r, r = rt a1 a2 := ⟨_, rfl⟩
  obtain ⟨s, hs⟩ : ∃ s, s = rt b1 b2 := ⟨_, rfl⟩
  have R := fun w => rright_any a1 a2 w
  have S := fun w => rright_any b1 b2 w
  rw [← hr] at R ⊢
  rw [← hs] at S ⊢
  clear hr hs
  have R := Lib.hid R
  have S := Lib.hid S
  go_enter Try.func19, Try.ntmps19
  go_wp2_with fail
  refine (R.out _).mono ?_
  rintro e w1 ⟨rfl, hb⟩
  have hz0 := hb.size
  simp at hz0
  have hb1 := bt (B2 _ _ _) hb (by simp; omega)
  obtain ⟨hqc, hqf⟩ := bcell hb
  clear hb
  cases r with
  | false =>
    go_wp2_with fail
    go_ret
    exact ⟨rfl, hb1⟩
  | true =>
    go_wp2_with fail
    refine (S.out _).mono ?_
    rintro e w2 ⟨rfl, hb2⟩
    have hb3 := bt hb1 hb2 hb1.size
    have hz1 : w.heap.size < w1.heap.size := by omega
    have hz2 : w.heap.size + 1 < w1.heap.size := by omega
    obtain ⟨hqc2, hqf2⟩ := bcell hb2
    clear hb2 hb1
    go_wp2_with fail
    all_goals
      go_ret
      exact ⟨ret_bool (by simp_all <;> omega), hb3⟩
end Go.Proofs.Ytgploogflhfolaa

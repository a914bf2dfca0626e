/- A byte, written as the document has it. -/
import Derived.Test.YtppnacmgdodjoaaDoorWe
namespace Go.Proofs.YtppnacmgdodjoaaDoor
open Go Go.RowKit Go.Maps
theorem sg_split {c s : Nat} (h : sg c = some s) : (c = 10 ∧ s = 110) ∨ (c = 13 ∧ s = 114) ∨ (c = 9 ∧ s = 116) ∨ (32 ≤ c ∧ c ≤ 126 ∧ s = c) := by
  unfold sg at h
  repeat' split at h
  all_goals first
    | (simp only [Option.some.injEq] at h; omega)
    | cases h
theorem sg_rest {p : Int} {c : Nat} (hp : pl p c = false) (h : sg c = none) : (c < 32 ∨ 126 < c) ∧ c ≠ 10 ∧ c ≠ 13 ∧ c ≠ 9 := by
  unfold sg at h
  repeat' split at h
  all_goals first
    | (cases h; done)
    | skip
  refine ⟨?_, by assumption, by assumption, by assumption⟩
  have h1 : ¬ c = 92 := by assumption
  have h2 : ¬ c = 34 := by assumption
  have h3 : ¬ c = 93 := by assumption
  have h4 : ¬ c = 45 := by assumption
  rw [pl_ifs, if_neg h1, if_neg h2, if_neg h3, if_neg h4] at hp
  simp at hp
  omega
theorem rone_none (p : Int) (c : Nat) (hk : kn p = false) (w : World) :
    Calls Tryd.prog 14 #[.int .i64 p, .int .u8 c] w fun e w' => e = .returned (.string (bsv [])) ∧ Below w.heap.size w w' := by
  go_enter Tryd.func14, Tryd.ntmps14
  go_wp2_with (go_at_call 26; refine (is_any p _).mono ?_; rintro e w1 ⟨rfl, rfl⟩)
  go_ret
  exact ⟨rfl, Below.refl _ _⟩
set_option maxHeartbeats 1000000 in
theorem rone_plain (p : Int) (c : Nat) (hk : kn p = true) (hp : pl p c = true) (w : World) :
    Calls Tryd.prog 14 #[.int .i64 p, .int .u8 c] w fun e w' => e = .returned (.string (bsv [c])) ∧ Below w.heap.size w w' := by
  have hv := fun w => conv1 w c
  go_enter Tryd.func14, Tryd.ntmps14
  go_wp2_with (go_at_call 26; refine (is_any p _).mono ?_; rintro e w1 ⟨rfl, rfl⟩)
  go_wp2_with (go_at_call 27; refine (special_any p c _).mono ?_; rintro e w1 ⟨rfl, rfl⟩)
  go_ret
  exact ⟨rfl, B1 _ _⟩
set_option maxHeartbeats 1000000 in
theorem rone_sign (p : Int) (c s : Nat) (hk : kn p = true) (hp : pl p c = false) (hs : sg c = some s) (w : World) :
    Calls Tryd.prog 14 #[.int .i64 p, .int .u8 c] w fun e w' => e = .returned (.string (bsv [92, s])) ∧ Below w.heap.size w w' := by
  rcases sg_split hs with ⟨rfl, rfl⟩ | ⟨rfl, rfl⟩ | ⟨rfl, rfl⟩ | ⟨h1, h2, rfl⟩
  · clear hs
    go_enter Tryd.func14, Tryd.ntmps14
    go_wp2_with (go_at_call 26; refine (is_any p _).mono ?_; rintro e w1 ⟨rfl, rfl⟩)
    go_wp2_with (go_at_call 27; refine (special_any p 10 _).mono ?_; rintro e w1 ⟨rfl, rfl⟩)
    go_ret
    exact ⟨rfl, Below.refl _ _⟩
  · clear hs
    go_enter Tryd.func14, Tryd.ntmps14
    go_wp2_with (go_at_call 26; refine (is_any p _).mono ?_; rintro e w1 ⟨rfl, rfl⟩)
    go_wp2_with (go_at_call 27; refine (special_any p 13 _).mono ?_; rintro e w1 ⟨rfl, rfl⟩)
    go_ret
    exact ⟨rfl, Below.refl _ _⟩
  · clear hs
    go_enter Tryd.func14, Tryd.ntmps14
    go_wp2_with (go_at_call 26; refine (is_any p _).mono ?_; rintro e w1 ⟨rfl, rfl⟩)
    go_wp2_with (go_at_call 27; refine (special_any p 9 _).mono ?_; rintro e w1 ⟨rfl, rfl⟩)
    go_ret
    exact ⟨rfl, Below.refl _ _⟩
  · clear hs
    have g1 : ((s : Int) == 10) = false := by simp; omega
    have g2 : ((s : Int) == 13) = false := by simp; omega
    have g3 : ((s : Int) == 9) = false := by simp; omega
    have g4 : (32 : Int) ≤ s := by omega
    have g5 : (s : Int) ≤ 126 := by omega
    have hv := fun w => conv2s w s
    clear h1 h2
    go_enter Tryd.func14, Tryd.ntmps14
    go_wp2_with (go_at_call 26; refine (is_any p _).mono ?_; rintro e w1 ⟨rfl, rfl⟩)
    go_wp2_with (go_at_call 27; refine (special_any p s _).mono ?_; rintro e w1 ⟨rfl, rfl⟩)
    go_ret
    exact ⟨rfl, B1 _ _⟩
set_option maxHeartbeats 1000000 in
theorem rone_hex (p : Int) (c X Y : Nat) (hX : X < 16) (hY : Y < 16) (eX : X = c / 16) (eY : Y = c % 16) (hc : c < 256) (hk : kn p = true) (hp : pl p c = false) (hs : sg c = none) (w : World) :
    Calls Tryd.prog 14 #[.int .i64 p, .int .u8 c] w fun e w' => e = .returned (.string (bsv [92, 120, hx X, hx Y])) ∧ Below w.heap.size w w' := by
  obtain ⟨k1, k2, k3, k4⟩ := sg_rest hp hs
  have hw1 : IntKind.u8.wrap ((c : Int) / 16) = X := (u8_in (by omega)).trans (by omega)
  have hw2 : (c : Int) % 16 = Y := by omega
  have i1 := hex_at X hX
  have i2 := hex_at Y hY
  have g1 : (X : Int) < 16 := by omega
  have g2 : (Y : Int) < 16 := by omega
  have g3 : ((c : Int) == 10) = false := by simp; omega
  have g4 : ((c : Int) == 13) = false := by simp; omega
  have g5 : ((c : Int) == 9) = false := by simp; omega
  have hv := fun w => conv4d w (hx X) (hx Y)
  clear hX hY eX eY hc hs k2 k3 k4
  rcases k1 with k1 | k1
  · have k : (c : Int) < 32 := by omega
    clear k1
    go_enter Tryd.func14, Tryd.ntmps14
    go_wp2_with (go_at_call 26; refine (is_any p _).mono ?_; rintro e w1 ⟨rfl, rfl⟩)
    go_wp2_with (go_at_call 27; refine (special_any p c _).mono ?_; rintro e w1 ⟨rfl, rfl⟩)
    go_region
    go_wp2_with fail
    go_ret
    exact ⟨rfl, bdrew1 (B1 _ _)⟩
  · have k : (126 : Int) < c := by omega
    have k' : (32 : Int) ≤ c := by omega
    clear k1
    go_enter Tryd.func14, Tryd.ntmps14
    go_wp2_with (go_at_call 26; refine (is_any p _).mono ?_; rintro e w1 ⟨rfl, rfl⟩)
    go_wp2_with (go_at_call 27; refine (special_any p c _).mono ?_; rintro e w1 ⟨rfl, rfl⟩)
    go_region
    go_wp2_with fail
    go_ret
    exact ⟨rfl, bdrew1 (B1 _ _)⟩
theorem rone_any (p : Int) (c : Nat) (hc : c < 256) (w : World) :
    Calls Tryd.prog 14 #[.int .i64 p, .int .u8 c] w fun e w' => e = .returned (.string (bsv (one p c))) ∧ Below w.heap.size w w' := by
  cases hk : kn p with
  | false =>
    rw [show one p c = [] by simp [one, hk]]
    exact rone_none p c hk w
  | true =>
    rcases one_cases hk c with ⟨h, e⟩ | ⟨h, s, h2, e⟩ | ⟨h, h2, e⟩ <;> rw [e]
    · exact rone_plain p c hk h w
    · exact rone_sign p c s hk h h2 w
    · exact rone_hex p c _ _ (by omega) (by omega) rfl rfl hc hk h h2 w
end Go.Proofs.YtppnacmgdodjoaaDoor

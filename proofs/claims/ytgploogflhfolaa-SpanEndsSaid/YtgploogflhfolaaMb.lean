/- What a span's gaps are: plain facts. -/
import Derived.Test.YtgploogflhfolaaWh
namespace Go.Proofs.Ytgploogflhfolaa
open Go Go.Proofs
/-- A span of a row has the place. -/
def Cov (g : List (Int × Int)) (q : Int) : Prop := ∃ x ∈ g, x.1 ≤ q ∧ q < x.2
/-- The longest spans of places from lo to hi that none of l has, rising. -/
structure IsGaps (lo hi : Int) (l g : List (Int × Int)) : Prop where
  inside : ∀ x ∈ g, lo ≤ x.1 ∧ x.1 < x.2 ∧ x.2 ≤ hi
  apart : g.Pairwise fun x y => x.2 < y.1
  cover : ∀ q, Cov g q ↔ lo ≤ q ∧ q < hi ∧ ¬ Cov (parts l) q
theorem cov_parts (l : List (Int × Int)) (q : Int) : Cov (parts l) q ↔ ∃ x ∈ l, 0 ≤ x.1 ∧ x.1 ≤ q ∧ q < x.2 := by
  constructor
  · rintro ⟨x, hx, h1, h2⟩
    simp only [parts, List.mem_filter, decide_eq_true_eq] at hx
    have : 0 ≤ x.1 := by
      have h := hx.2
      unfold ln rt at h
      split at h
      · rename_i hr; simp at hr; exact hr.1
      · omega
    exact ⟨x, hx.1, this, h1, h2⟩
  · rintro ⟨x, hx, h0, h1, h2⟩
    refine ⟨x, ?_, h1, h2⟩
    simp only [parts, List.mem_filter, decide_eq_true_eq]
    refine ⟨hx, ?_⟩
    unfold ln rt
    rw [if_pos (by simp; omega)]
    omega
theorem isGaps_unique {g h : List (Int × Int)} (hg : ∀ x ∈ g, x.1 < x.2) (hh : ∀ x ∈ h, x.1 < x.2) (pg : g.Pairwise fun x y => x.2 < y.1) (ph : h.Pairwise fun x y => x.2 < y.1) (hc : ∀ q, Cov g q ↔ Cov h q) : g = h := by
  induction g generalizing h with
  | nil =>
    cases h with
    | nil => rfl
    | cons y h =>
      obtain ⟨x, hx, _⟩ := (hc y.1).2 ⟨y, by simp, by omega, hh y (by simp)⟩
      simp at hx
  | cons x g ih =>
    cases h with
    | nil =>
      obtain ⟨y, hy, _⟩ := (hc x.1).1 ⟨x, by simp, by omega, hg x (by simp)⟩
      simp at hy
    | cons y h =>
      have hx := hg x (by simp)
      have hy := hh y (by simp)
      rw [List.pairwise_cons] at pg ph
      have a1 : y.1 ≤ x.1 := by
        obtain ⟨z, hz, h1, h2⟩ := (hc x.1).1 ⟨x, by simp, by omega, hx⟩
        rcases List.mem_cons.1 hz with rfl | hz
        · exact h1
        · have := ph.1 z hz; omega
      have a2 : x.1 ≤ y.1 := by
        obtain ⟨z, hz, h1, h2⟩ := (hc y.1).2 ⟨y, by simp, by omega, hy⟩
        rcases List.mem_cons.1 hz with rfl | hz
        · exact h1
        · have := pg.1 z hz; omega
      have b1 : ¬ x.2 < y.2 := fun hlt => by
        obtain ⟨z, hz, h1, h2⟩ := (hc x.2).2 ⟨y, by simp, by omega, hlt⟩
        rcases List.mem_cons.1 hz with rfl | hz
        · omega
        · have := pg.1 z hz; omega
      have b2 : ¬ y.2 < x.2 := fun hlt => by
        obtain ⟨z, hz, h1, h2⟩ := (hc y.2).1 ⟨x, by simp, by omega, hlt⟩
        rcases List.mem_cons.1 hz with rfl | hz
        · omega
        · have := ph.1 z hz; omega
      have e : x = y := Prod.ext (by omega) (by omega)
      subst e
      congr 1
      refine ih (fun z hz => hg z (by simp [hz])) (fun z hz => hh z (by simp [hz])) pg.2 ph.2 fun q => ?_
      constructor
      · rintro ⟨z, hz, h1, h2⟩
        obtain ⟨u, hu, h3, h4⟩ := (hc q).1 ⟨z, by simp [hz], h1, h2⟩
        rcases List.mem_cons.1 hu with rfl | hu
        · have := pg.1 z hz; omega
        · exact ⟨u, hu, h3, h4⟩
      · rintro ⟨z, hz, h1, h2⟩
        obtain ⟨u, hu, h3, h4⟩ := (hc q).2 ⟨z, by simp [hz], h1, h2⟩
        rcases List.mem_cons.1 hu with rfl | hu
        · have := ph.1 z hz; omega
        · exact ⟨u, hu, h3, h4⟩
theorem IsGaps.unique {lo hi : Int} {l l' g h : List (Int × Int)} (hg : IsGaps lo hi l g) (hh : IsGaps lo hi l' h) (hl : ∀ q, Cov (parts l) q ↔ Cov (parts l') q) : g = h :=
  isGaps_unique (fun x hx => (hg.inside x hx).2.1) (fun x hx => (hh.inside x hx).2.1) hg.apart hh.apart fun q => by rw [hg.cover, hh.cover, hl]

theorem ln_pos {x y : Int} (h0 : 0 ≤ x) : 0 < ln x y ↔ x < y := by
  unfold ln rt
  split
  · rename_i h; simp at h; omega
  · rename_i h; simp at h; omega
/-- What the sweep makes. -/
theorem sweep_spec (hi : Int) : ∀ (l : List (Int × Int)) (at_ : Int), 0 ≤ at_ → (∀ x ∈ l, x.1 < x.2) → l.Pairwise (fun x y => x.1 ≤ y.1) →
    (∀ x ∈ sweep hi at_ (l ++ [(hi, hi)]), at_ ≤ x.1 ∧ x.1 < x.2 ∧ x.2 ≤ hi) ∧ (sweep hi at_ (l ++ [(hi, hi)])).Pairwise (fun x y => x.2 < y.1) ∧
    ∀ q, Cov (sweep hi at_ (l ++ [(hi, hi)])) q ↔ at_ ≤ q ∧ q < hi ∧ ¬ Cov l q
  | [], at_, h0, _, _ => by
    have e : sweep hi at_ ([] ++ [(hi, hi)]) = if at_ < hi then [(at_, hi)] else [] := by
      simp only [List.nil_append, sweep, List.append_nil, Int.min_self]
      by_cases h : at_ < hi
      · rw [if_pos ((ln_pos h0).2 h), if_pos h]
      · rw [if_neg (fun h' => h ((ln_pos h0).1 h')), if_neg h]
    rw [e]
    split
    · rename_i h
      refine ⟨fun x hx => ?_, List.pairwise_singleton _ _, fun q => ?_⟩
      · simp at hx; subst hx; exact ⟨by omega, h, by omega⟩
      · constructor
        · rintro ⟨x, hx, h1, h2⟩
          simp at hx; subst hx
          exact ⟨h1, h2, fun ⟨z, hz, _⟩ => by simp at hz⟩
        · rintro ⟨h1, h2, _⟩
          exact ⟨(at_, hi), by simp, h1, h2⟩
    · rename_i h
      refine ⟨fun x hx => by simp at hx, List.Pairwise.nil, fun q => ?_⟩
      constructor
      · rintro ⟨x, hx, _⟩; simp at hx
      · rintro ⟨h1, h2, _⟩; omega
  | p :: l, at_, h0, hne, hp => by
    rw [List.pairwise_cons] at hp
    have hpp := hne p (by simp)
    obtain ⟨i1, i2, i3⟩ := sweep_spec hi l (max at_ p.2) (by omega) (fun x hx => hne x (by simp [hx])) hp.2
    have cons : ∀ q, Cov (p :: l) q ↔ (p.1 ≤ q ∧ q < p.2) ∨ Cov l q := fun q => by
      constructor
      · rintro ⟨x, hx, h1, h2⟩
        rcases List.mem_cons.1 hx with rfl | hx
        · exact .inl ⟨h1, h2⟩
        · exact .inr ⟨x, hx, h1, h2⟩
      · rintro (⟨h1, h2⟩ | ⟨x, hx, h1, h2⟩)
        · exact ⟨p, by simp, h1, h2⟩
        · exact ⟨x, by simp [hx], h1, h2⟩
    have low : ∀ q, q < p.1 → ¬ Cov l q := fun q hq ⟨x, hx, h1, _⟩ => by have := hp.1 x hx; omega
    have e : sweep hi at_ (p :: l ++ [(hi, hi)]) = (if at_ < min p.1 hi then [(at_, min p.1 hi)] else []) ++ sweep hi (max at_ p.2) (l ++ [(hi, hi)]) := by
      show sweep hi at_ (p :: (l ++ [(hi, hi)])) = _
      simp only [sweep]
      by_cases h : at_ < min p.1 hi
      · rw [if_pos ((ln_pos h0).2 h), if_pos h]
      · rw [if_neg (fun h' => h ((ln_pos h0).1 h')), if_neg h]
    rw [e]
    split
    · rename_i h
      refine ⟨fun x hx => ?_, ?_, fun q => ?_⟩
      · rcases List.mem_append.1 hx with hx | hx
        · simp at hx; subst hx; exact ⟨by omega, h, by omega⟩
        · have := i1 x hx; omega
      · rw [List.singleton_append, List.pairwise_cons]
        exact ⟨fun y hy => by have := i1 y hy; simp only; omega, i2⟩
      · have happ : Cov ([(at_, min p.1 hi)] ++ sweep hi (max at_ p.2) (l ++ [(hi, hi)])) q ↔ (at_ ≤ q ∧ q < min p.1 hi) ∨ Cov (sweep hi (max at_ p.2) (l ++ [(hi, hi)])) q := by
          constructor
          · rintro ⟨x, hx, h1, h2⟩
            rcases List.mem_append.1 hx with hx | hx
            · simp at hx; subst hx; exact .inl ⟨h1, h2⟩
            · exact .inr ⟨x, hx, h1, h2⟩
          · rintro (⟨h1, h2⟩ | ⟨x, hx, h1, h2⟩)
            · exact ⟨(at_, min p.1 hi), by simp, h1, h2⟩
            · exact ⟨x, by simp [hx], h1, h2⟩
        rw [happ, i3, cons]
        constructor
        · rintro (⟨h1, h2⟩ | ⟨h1, h2, h3⟩)
          · exact ⟨h1, by omega, fun h => h.elim (by omega) (low q (by omega))⟩
          · exact ⟨by omega, h2, fun h => h.elim (by omega) h3⟩
        · rintro ⟨h1, h2, h3⟩
          by_cases hq : q < p.1
          · exact .inl ⟨h1, by omega⟩
          · refine .inr ⟨?_, h2, fun h => h3 (.inr h)⟩
            have : ¬ (p.1 ≤ q ∧ q < p.2) := fun h => h3 (.inl h)
            omega
    · rename_i h
      rw [List.nil_append]
      refine ⟨fun x hx => by have := i1 x hx; omega, i2, fun q => ?_⟩
      rw [i3, cons]
      constructor
      · rintro ⟨h1, h2, h3⟩
        exact ⟨by omega, h2, fun h => h.elim (by omega) h3⟩
      · rintro ⟨h1, h2, h3⟩
        refine ⟨?_, h2, fun h => h3 (.inr h)⟩
        have : ¬ (p.1 ≤ q ∧ q < p.2) := fun h => h3 (.inl h)
        omega
theorem srt_pairwise (xs : List (Int × Int)) : (srt xs).Pairwise fun x y => ltOf ordI y x = false := by
  have h := List.pairwise_mergeSort (le := fun x y => !(ltOf ordI y x)) (fun x y z h1 h2 => by
    simp only [Bool.not_eq_true'] at *
    exact swoOrd.ntrans z y x h2 h1) (fun x y => by
    simp only [Bool.or_eq_true, Bool.not_eq_true']
    rw [ltOrd, ltOrd]
    by_cases h : x.1 < y.1 ∨ (x.1 = y.1 ∧ y.2 < x.2)
    · left; simp; omega
    · right; simp; omega) xs
  exact h.imp (fun h => by simpa using h)
theorem cov_perm {a b : List (Int × Int)} (h : a.Perm b) (q : Int) : Cov a q ↔ Cov b q :=
  ⟨fun ⟨x, hx, r⟩ => ⟨x, h.mem_iff.1 hx, r⟩, fun ⟨x, hx, r⟩ => ⟨x, h.mem_iff.2 hx, r⟩⟩
theorem parts_lt {l : List (Int × Int)} {x : Int × Int} (h : x ∈ parts l) : 0 ≤ x.1 ∧ x.1 < x.2 := by
  simp only [parts, List.mem_filter, decide_eq_true_eq] at h
  have := h.2
  unfold ln rt at this
  split at this
  · rename_i hr; simp at hr; omega
  · omega
/-- What the program's gaps are. -/
theorem gaps_is {lo hi : Int} (l : List (Int × Int)) (h0 : 0 ≤ lo) : IsGaps lo hi l (sweep hi lo (srt (parts l) ++ [(hi, hi)])) := by
  have hp : (srt (parts l)).Pairwise fun x y => x.1 ≤ y.1 := (srt_pairwise (parts l)).imp fun h => by
    rw [ltOrd] at h; simp at h; omega
  obtain ⟨i1, i2, i3⟩ := sweep_spec hi (srt (parts l)) lo h0 (fun x hx => (parts_lt ((srt_perm _).mem_iff.1 hx)).2) hp
  exact ⟨i1, i2, fun q => by rw [i3, cov_perm (srt_perm _)]⟩
theorem gapsF_is {x y : Int} (l : List (Int × Int)) (h : rt x y = true) : IsGaps x y l (gapsF x y l) := by
  have h0 : 0 ≤ x := by simp [rt] at h; exact h.1
  rw [gapsF, if_pos h]
  exact gaps_is l h0
end Go.Proofs.Ytgploogflhfolaa

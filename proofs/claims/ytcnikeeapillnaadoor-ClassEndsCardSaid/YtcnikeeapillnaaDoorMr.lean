/- Plain arithmetic: a class's runs as the document makes them. Nothing here speaks of the program. -/
import Derived.Test.YtcnikeeapillnaaDoorMd
namespace Go.Proofs.YtcnikeeapillnaaDoor
open Go
theorem rstep_ne (rs : List (Nat × Nat)) (b : Nat) : rstep rs b ≠ [] := by
  rcases List.eq_nil_or_concat rs with rfl | ⟨q, ⟨a, z⟩, rfl⟩
  · simp [rstep_nil]
  · rw [List.concat_eq_append]
    by_cases h : z = (b + 255) % 256
    · rw [rstep_long _ _ _ _ h]; simp
    · rw [rstep_new _ _ _ _ h]; simp
theorem runs_no {s : Nat → Bool} {p : Nat} (h : s p = false) : runsOf (elems s (p + 1)) = runsOf (elems s p) := by
  rw [elems_succ, h]; simp
theorem runs_yes {s : Nat → Bool} {p : Nat} (h : s p = true) : runsOf (elems s (p + 1)) = rstep (runsOf (elems s p)) p := by
  rw [elems_succ, h, if_pos rfl, runsOf_snoc]
theorem rstep_last {rs q : List (Nat × Nat)} {b a z : Nat} (h : rstep rs b = q ++ [(a, z)]) : z = b := by
  have key : ∀ X x, rstep rs b = X ++ [(x, b)] → z = b := by
    intro X x hX
    rw [hX] at h
    have := congrArg List.getLast? h
    simp at this
    exact this.2.symm
  rcases List.eq_nil_or_concat rs with rfl | ⟨q', ⟨a', z'⟩, rfl⟩
  · exact key [] b rfl
  · rw [List.concat_eq_append] at key
    by_cases hh : z' = (b + 255) % 256
    · exact key _ _ (rstep_long _ _ _ _ hh)
    · exact key _ _ (rstep_new _ _ _ _ hh)
theorem runs_nil {s : Nat → Bool} : ∀ p, runsOf (elems s p) = [] → ∀ j, j < p → s j = false
  | 0, _, j, hj => by omega
  | p + 1, h, j, hj => by
    cases hs : s p with
    | true => rw [runs_yes hs] at h; exact absurd h (rstep_ne _ _)
    | false =>
      rw [runs_no hs] at h
      by_cases e : j = p
      · subst e; exact hs
      · exact runs_nil p h j (by omega)
theorem runs_last {s : Nat → Bool} : ∀ p q a z, runsOf (elems s p) = q ++ [(a, z)] → s z = true ∧ z < p ∧ ∀ j, z < j → j < p → s j = false
  | 0, q, a, z, h => by
    have : runsOf (elems s 0) = [] := rfl
    rw [this] at h
    simp at h
  | p + 1, q, a, z, h => by
    cases hs : s p with
    | true =>
      rw [runs_yes hs] at h
      have := rstep_last h
      subst this
      exact ⟨hs, by omega, fun j h1 h2 => by omega⟩
    | false =>
      rw [runs_no hs] at h
      obtain ⟨h1, h2, h3⟩ := runs_last p q a z h
      refine ⟨h1, by omega, fun j h4 h5 => ?_⟩
      by_cases e : j = p
      · subst e; exact hs
      · exact h3 j h4 (by omega)
theorem ref_long {s : Nat → Bool} {p : Nat} (hp : p < 256) (h0 : 0 < p) (hs : s p = true) (h1 : s (p - 1) = true) : ∃ q a, runsOf (elems s p) = q ++ [(a, p - 1)] ∧ runsOf (elems s (p + 1)) = q ++ [(a, p)] := by
  rcases List.eq_nil_or_concat (runsOf (elems s p)) with h | ⟨q, ⟨a, z⟩, h⟩
  · have := runs_nil p h (p - 1) (by omega)
    rw [this] at h1; cases h1
  · rw [List.concat_eq_append] at h
    obtain ⟨_, h3, h4⟩ := runs_last p q a z h
    have hz : z = p - 1 := by
      rcases Nat.lt_or_ge z (p - 1) with h5 | h5
      · have := h4 (p - 1) h5 (by omega); rw [this] at h1; cases h1
      · omega
    subst hz
    refine ⟨q, a, h, ?_⟩
    rw [runs_yes hs, h, rstep_long _ _ _ _ (by omega)]
theorem ref_new {s : Nat → Bool} {p : Nat} (hp : p < 256) (hs : s p = true) (h1 : p = 0 ∨ s (p - 1) = false) : runsOf (elems s (p + 1)) = runsOf (elems s p) ++ [(p, p)] := by
  rw [runs_yes hs]
  rcases List.eq_nil_or_concat (runsOf (elems s p)) with h | ⟨q, ⟨a, z⟩, h⟩
  · rw [h]; rfl
  · rw [List.concat_eq_append] at h
    obtain ⟨h2, h3, _⟩ := runs_last p q a z h
    rw [h, rstep_new _ _ _ _ (fun e => ?_)]
    rcases h1 with h1 | h1
    · omega
    · have : z = p - 1 := by omega
      subst this
      rw [h2] at h1; cases h1
end Go.Proofs.YtcnikeeapillnaaDoor

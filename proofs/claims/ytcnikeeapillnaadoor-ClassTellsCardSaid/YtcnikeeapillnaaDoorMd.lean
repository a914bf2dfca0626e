/- Plain arithmetic: the runs of a class's bytes. Nothing here speaks of the program. -/
import Derived.Test.YtcnikeeapillnaaDoorMc
namespace Go.Proofs.YtcnikeeapillnaaDoor
open Go

/-- A run more, or the last one longer. -/
def rstep (rs : List (Nat × Nat)) (b : Nat) : List (Nat × Nat) :=
  match rs.getLast? with
  | some (a, z) => if z = (b + 255) % 256 then rs.dropLast ++ [(a, b)] else rs ++ [(b, b)]
  | none => rs ++ [(b, b)]
theorem rstep_nil (b : Nat) : rstep [] b = [(b, b)] := rfl
theorem rstep_long (q : List (Nat × Nat)) (a z b : Nat) (h : z = (b + 255) % 256) : rstep (q ++ [(a, z)]) b = q ++ [(a, b)] := by
  simp [rstep, ← h]
theorem rstep_new (q : List (Nat × Nat)) (a z b : Nat) (h : ¬ z = (b + 255) % 256) : rstep (q ++ [(a, z)]) b = q ++ [(a, z)] ++ [(b, b)] := by
  simp [rstep, h]
def runsOf (l : List Nat) : List (Nat × Nat) := l.foldl rstep []
theorem runsOf_snoc (l : List Nat) (b : Nat) : runsOf (l ++ [b]) = rstep (runsOf l) b := by simp [runsOf]
theorem rstep_length (rs : List (Nat × Nat)) (b : Nat) : (rstep rs b).length ≤ rs.length + 1 := by
  rcases List.eq_nil_or_concat rs with rfl | ⟨q, ⟨a, z⟩, rfl⟩
  · simp [rstep_nil]
  · rw [List.concat_eq_append]
    by_cases h : z = (b + 255) % 256
    · rw [rstep_long _ _ _ _ h]; simp
    · rw [rstep_new _ _ _ _ h]; simp
theorem runsOf_length (l : List Nat) : (runsOf l).length ≤ l.length := by
  have : ∀ (l : List Nat) rs, (l.foldl rstep rs).length ≤ rs.length + l.length := by
    intro l
    induction l with
    | nil => intro rs; simp
    | cons b l ih => intro rs; have := ih (rstep rs b); have := rstep_length rs b; simp; omega
  simpa [runsOf] using this l []
/-- Both are bytes. -/
def Small (rs : List (Nat × Nat)) : Prop := ∀ r ∈ rs, r.1 < 256 ∧ r.2 < 256
theorem rstep_small {rs : List (Nat × Nat)} {b : Nat} (h : Small rs) (hb : b < 256) : Small (rstep rs b) := by
  rcases List.eq_nil_or_concat rs with rfl | ⟨q, ⟨a, z⟩, rfl⟩
  · intro r hr; simp [rstep_nil] at hr; subst hr; exact ⟨hb, hb⟩
  · rw [List.concat_eq_append] at h ⊢
    have hz := h (a, z) (by simp)
    have hq : Small q := fun r hr => h r (by simp [hr])
    by_cases hh : z = (b + 255) % 256
    · rw [rstep_long _ _ _ _ hh]; intro r hr; simp at hr; rcases hr with hr | rfl
      · exact hq r hr
      · exact ⟨hz.1, hb⟩
    · rw [rstep_new _ _ _ _ hh]; intro r hr; simp at hr; rcases hr with hr | rfl | rfl
      · exact hq r hr
      · exact hz
      · exact ⟨hb, hb⟩
theorem runsOf_small {l : List Nat} (h : ∀ b ∈ l, b < 256) : Small (runsOf l) := by
  have : ∀ (l : List Nat) rs, Small rs → (∀ b ∈ l, b < 256) → Small (l.foldl rstep rs) := by
    intro l
    induction l with
    | nil => intro rs h _; exact h
    | cons b l ih => intro rs h hb; exact ih _ (rstep_small h (hb b (by simp))) fun c hc => hb c (by simp [hc])
  exact this l [] (fun r hr => by simp at hr) h
end Go.Proofs.YtcnikeeapillnaaDoor

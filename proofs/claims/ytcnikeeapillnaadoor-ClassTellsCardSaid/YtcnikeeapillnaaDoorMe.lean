/- Plain arithmetic: what the runs of a class's bytes are. Nothing here speaks of the program. -/
import Derived.Test.YtcnikeeapillnaaDoorMd
namespace Go.Proofs.YtcnikeeapillnaaDoor
open Go

def rgt (rs : List (Nat × Nat)) (k : Nat) : Nat × Nat := rs[k]?.getD (0, 0)
theorem rgt_app_lt {q l : List (Nat × Nat)} {i : Nat} (h : i < q.length) : rgt (q ++ l) i = rgt q i := by simp [rgt, List.getElem?_append_left h]
theorem rgt_app_one (q : List (Nat × Nat)) (r : Nat × Nat) : rgt (q ++ [r]) q.length = r := by simp [rgt]
/-- How many bytes are in the runs. -/
def rsum : List (Nat × Nat) → Nat
  | [] => 0
  | r :: rs => r.2 + 1 - r.1 + rsum rs
theorem rsum_app (a b : List (Nat × Nat)) : rsum (a ++ b) = rsum a + rsum b := by
  induction a with
  | nil => simp [rsum]
  | cons r a ih => simp [rsum, ih]; omega
def inRuns (rs : List (Nat × Nat)) (b : Nat) : Bool := rs.any fun r => decide (r.1 ≤ b ∧ b ≤ r.2)

structure RunsInv (s : Nat → Bool) (p : Nat) (rs : List (Nat × Nat)) : Prop where
  le : ∀ i, i < rs.length → (rgt rs i).1 ≤ (rgt rs i).2 ∧ (rgt rs i).2 < p
  gap : ∀ i, i + 1 < rs.length → (rgt rs i).2 + 1 < (rgt rs (i + 1)).1
  ins : ∀ b, b < p → inRuns rs b = s b
  sum : rsum rs = cntN s p

theorem RunsInv.step_no {s : Nat → Bool} {p : Nat} {rs : List (Nat × Nat)} (h : RunsInv s p rs) (hs : s p = false) : RunsInv s (p + 1) rs where
  le := fun i hi => ⟨(h.le i hi).1, by have := (h.le i hi).2; omega⟩
  gap := h.gap
  ins := fun b hb => by
    by_cases e : b = p
    · subst e
      rw [hs]
      unfold inRuns
      rw [List.any_eq_false]
      intro r hr
      obtain ⟨i, hi, rfl⟩ := List.mem_iff_getElem.1 hr
      have := (h.le i hi).2
      simp [rgt, hi] at this
      simp; intro; omega
    · exact h.ins b (by omega)
  sum := by rw [h.sum, cntN, hs]; rfl

theorem RunsInv.step_yes {s : Nat → Bool} {p : Nat} {rs : List (Nat × Nat)} (h : RunsInv s p rs) (hp : p < 256) (hs : s p = true) : RunsInv s (p + 1) (rstep rs p) := by
  have hsum : cntN s (p + 1) = cntN s p + 1 := by rw [cntN, hs]; rfl
  rcases List.eq_nil_or_concat rs with rfl | ⟨q, ⟨a, z⟩, rfl⟩
  · rw [rstep_nil]
    have hz : ∀ b, b < p → s b = false := fun b hb => by have := h.ins b hb; simpa [inRuns] using this.symm
    refine ⟨fun i hi => ?_, fun i hi => by simp at hi, fun b hb => ?_, ?_⟩
    · obtain rfl : i = 0 := by simp at hi; exact hi
      simp [rgt]
    · by_cases e : b = p
      · subst e; simp [inRuns, hs]
      · rw [hz b (by omega)]; simp [inRuns]; omega
    · have := h.sum; simp [rsum] at this; rw [hsum, ← this]; simp [rsum]
  · rw [List.concat_eq_append] at h ⊢
    have hl := h.le q.length (by simp)
    rw [rgt_app_one] at hl
    have hsumq := h.sum
    rw [rsum_app] at hsumq
    simp [rsum] at hsumq
    have hq : ∀ i, i < q.length → (rgt q i).1 ≤ (rgt q i).2 ∧ (rgt q i).2 < p := fun i hi => by
      have := h.le i (by simp; omega); rwa [rgt_app_lt hi] at this
    have hgap : ∀ i, i + 1 < q.length → (rgt q i).2 + 1 < (rgt q (i + 1)).1 := fun i hi => by
      have := h.gap i (by simp; omega); rwa [rgt_app_lt (by omega), rgt_app_lt hi] at this
    have hglast : ∀ i, i + 1 = q.length → (rgt q i).2 + 1 < a := fun i hi => by
      have := h.gap i (by simp; omega)
      rw [rgt_app_lt (by omega), hi, rgt_app_one] at this; exact this
    by_cases hz : z = (p + 255) % 256
    · have hzp : z + 1 = p := by have := hl.2; dsimp only at this; omega
      rw [rstep_long _ _ _ _ hz]
      refine ⟨fun i hi => ?_, fun i hi => ?_, fun b hb => ?_, ?_⟩
      · by_cases e : i < q.length
        · rw [rgt_app_lt e]; have := hq i e; omega
        · obtain rfl : i = q.length := by simp at hi; omega
          rw [rgt_app_one]; have := hl.1; dsimp only at this ⊢; omega
      · by_cases e : i + 1 < q.length
        · rw [rgt_app_lt (by omega), rgt_app_lt e]; exact hgap i e
        · have e2 : i + 1 = q.length := by simp at hi; omega
          rw [rgt_app_lt (by omega), e2, rgt_app_one]; exact hglast i e2
      · have hold : b < p → inRuns (q ++ [(a, z)]) b = s b := h.ins b
        unfold inRuns at hold ⊢
        rw [List.any_append] at hold ⊢
        by_cases e : b = p
        · subst e
          rw [hs]; have := hl.1; dsimp only at this; simp; exact .inr (by omega)
        · rw [← hold (by omega)]
          congr 1
          have h1 := hl.1
          dsimp only at h1
          rw [Bool.eq_iff_iff]
          simp; omega
      · rw [rsum_app, hsum, ← hsumq]; simp [rsum]; have := hl.1; dsimp only at this; omega
    · have hzp : z + 1 < p := by have := hl.2; dsimp only at this; omega
      rw [rstep_new _ _ _ _ hz]
      have hlen : (q ++ [(a, z)]).length = q.length + 1 := by simp
      refine ⟨fun i hi => ?_, fun i hi => ?_, fun b hb => ?_, ?_⟩
      · by_cases e : i < (q ++ [(a, z)]).length
        · rw [rgt_app_lt e]; have := h.le i e; omega
        · obtain rfl : i = (q ++ [(a, z)]).length := by simp at hi e ⊢; omega
          rw [rgt_app_one]; dsimp only; omega
      · by_cases e : i + 1 < (q ++ [(a, z)]).length
        · rw [rgt_app_lt (by omega), rgt_app_lt e]; exact h.gap i e
        · have e2 : i + 1 = (q ++ [(a, z)]).length := by simp at hi e ⊢; omega
          rw [rgt_app_lt (by omega), e2, rgt_app_one]
          have e3 : i = q.length := by omega
          rw [e3, rgt_app_one]; exact hzp
      · have hold : b < p → inRuns (q ++ [(a, z)]) b = s b := h.ins b
        unfold inRuns at hold ⊢
        rw [show (q ++ [(a, z)] ++ [(p, p)]).any (fun r => decide (r.1 ≤ b ∧ b ≤ r.2)) = ((q ++ [(a, z)]).any (fun r => decide (r.1 ≤ b ∧ b ≤ r.2)) || [(p, p)].any (fun r => decide (r.1 ≤ b ∧ b ≤ r.2))) from List.any_append]
        by_cases e : b = p
        · subst e; rw [hs]; simp
        · rw [← hold (by omega), Bool.eq_iff_iff]; simp; omega
      · rw [rsum_app, rsum_app, hsum, ← hsumq]; simp [rsum]
theorem runs_inv (s : Nat → Bool) : ∀ p, p ≤ 256 → RunsInv s p (runsOf (elems s p))
  | 0, _ => ⟨fun i hi => by simp [elems, runsOf] at hi, fun i hi => by simp [elems, runsOf] at hi, fun b hb => by omega, rfl⟩
  | p + 1, hp => by
    have ih := runs_inv s p (by omega)
    rw [elems_succ]
    cases hs : s p
    · simp only [Bool.false_eq_true, if_false, List.append_nil]; exact ih.step_no hs
    · simp only [if_true]; rw [runsOf_snoc]; exact ih.step_yes (by omega) hs
end Go.Proofs.YtcnikeeapillnaaDoor

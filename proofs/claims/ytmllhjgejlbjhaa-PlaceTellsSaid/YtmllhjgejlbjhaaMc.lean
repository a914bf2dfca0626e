/- Plain facts on the lines of two texts, one behind the other. -/
import Derived.Test.YtmllhjgejlbjhaaMb
namespace Go.Proofs.Ytmllhjgejlbjhaa
theorem begsTo_left (a b : List Nat) : ∀ k, k ≤ a.length → begsTo (a ++ b) k = begsTo a k
  | 0, _ => rfl
  | k + 1, h => by
    have ih := begsTo_left a b k (by omega)
    have e : (a ++ b).getD k 0 = a.getD k 0 := by rw [List.getD_eq_getElem?_getD, List.getD_eq_getElem?_getD, List.getElem?_append_left (by omega)]
    unfold begsTo
    rw [e, ih]
theorem begsTo_right (a b : List Nat) : ∀ k r, begsTo b k = 0 :: r → begsTo (a ++ b) (a.length + k) = begsTo a a.length ++ r.map (· + a.length)
  | 0, r, h => by
    have : r = [] := by simpa [begsTo] using h
    subst this
    simpa using begsTo_left a b a.length (Nat.le_refl _)
  | k + 1, r, h => by
    obtain ⟨r', h'⟩ := begsTo_head b k
    have ih := begsTo_right a b k r' h'
    have e : (a ++ b).getD (a.length + k) 0 = b.getD k 0 := by
      rw [List.getD_eq_getElem?_getD, List.getD_eq_getElem?_getD, List.getElem?_append_right (by omega), Nat.add_sub_cancel_left]
    have hs : a.length + (k + 1) = a.length + k + 1 := by omega
    rw [hs]
    by_cases h10 : b.getD k 0 = 10
    · rw [begs_ten_step (by rw [e]; exact h10), ih]
      rw [begs_ten_step h10, h'] at h
      have : r = r' ++ [k + 1] := by simpa using h.symm
      subst this
      simp; omega
    · rw [begs_other_step (by rw [e]; exact h10), ih]
      rw [begs_other_step h10, h'] at h
      have : r = r' := by simpa using h.symm
      subst this
      rfl
theorem begs_append (a b : List Nat) : (begs (a ++ b)).length + 1 = (begs a).length + (begs b).length ∧
    (∀ i, i < (begs a).length → (begs (a ++ b)).getD i 0 = (begs a).getD i 0) ∧
    (∀ i, 1 ≤ i → i < (begs b).length → (begs (a ++ b)).getD ((begs a).length + i - 1) 0 = (begs b).getD i 0 + a.length) := by
  obtain ⟨r, h⟩ := begsTo_head b b.length
  have e : begs (a ++ b) = begs a ++ r.map (· + a.length) := by
    unfold begs
    rw [List.length_append]
    exact begsTo_right a b b.length r h
  have hb : begs b = 0 :: r := h
  rw [e, hb]
  refine ⟨by simp; omega, fun i hi => ?_, fun i h1 hi => ?_⟩
  · rw [List.getD_eq_getElem?_getD, List.getD_eq_getElem?_getD, List.getElem?_append_left hi]
  · simp at hi
    rw [List.getD_eq_getElem?_getD, List.getD_eq_getElem?_getD, List.getElem?_append_right (by omega), show (begs a).length + i - 1 - (begs a).length = i - 1 by omega, List.getElem?_map]
    obtain ⟨j, rfl⟩ : ∃ j, i = j + 1 := ⟨i - 1, by omega⟩
    rw [Nat.add_sub_cancel, List.getElem?_cons_succ, List.getElem?_eq_getElem (by omega)]
    rfl
/-- The line of a text's end is the last. -/
theorem ln_end (a : List Nat) : ln (begs a) a.length = (begs a).length :=
  ln_uniq (Nat.le_refl _) (fun i hi => (begs_lns a).le i hi) (fun i h1 h2 => by omega)
theorem ln_append (a b : List Nat) {p : Nat} (hp : p ≤ b.length) :
    ln (begs (a ++ b)) (a.length + p) = (begs a).length + ln (begs b) p - 1 ∧
    (begs (a ++ b)).getD ((begs a).length + ln (begs b) p - 1 - 1) 0 = (if ln (begs b) p = 1 then (begs a).getD ((begs a).length - 1) 0 else (begs b).getD (ln (begs b) p - 1) 0 + a.length) := by
  obtain ⟨e1, e2, e3⟩ := begs_append a b
  obtain ⟨h1, h2, h3, h4⟩ := ln_spec p (begs_lns b)
  have hp0 := (begs_lns a).pos
  refine ⟨ln_uniq (by omega) (fun i hi => ?_) (fun i hi hl => ?_), ?_⟩
  · by_cases h : i < (begs a).length
    · rw [e2 i h]
      have := (begs_lns a).le i h
      omega
    · have := e3 (i - (begs a).length + 1) (by omega) (by omega)
      rw [show (begs a).length + (i - (begs a).length + 1) - 1 = i by omega] at this
      rw [this]
      have := h3 (i - (begs a).length + 1) (by omega)
      omega
  · have := e3 (i - (begs a).length + 1) (by omega) (by omega)
    rw [show (begs a).length + (i - (begs a).length + 1) - 1 = i by omega] at this
    rw [this]
    have := h4 (i - (begs a).length + 1) (by omega) (by omega)
    omega
  · split
    · rename_i h
      rw [h, Nat.add_sub_cancel]
      exact e2 _ (by omega)
    · have := e3 (ln (begs b) p - 1) (by omega) (by omega)
      rw [← this]
      congr 1
      omega
end Go.Proofs.Ytmllhjgejlbjhaa

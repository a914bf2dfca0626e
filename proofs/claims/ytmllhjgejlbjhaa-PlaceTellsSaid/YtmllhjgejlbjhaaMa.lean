/- Plain facts on the lines of a text: nothing of any program. -/
import Derived.Lib.Hide
namespace Go.Proofs.Ytmllhjgejlbjhaa

/-- The first places of the lines of a text's first k bytes. -/
def begsTo (l : List Nat) : Nat → List Nat
  | 0 => [0]
  | k + 1 => if l.getD k 0 = 10 then begsTo l k ++ [k + 1] else begsTo l k
def begs (l : List Nat) : List Nat := begsTo l l.length

theorem begsTo_mem (l : List Nat) : ∀ (k v : Nat), v ∈ begsTo l k ↔ v = 0 ∨ (0 < v ∧ v ≤ k ∧ l.getD (v - 1) 0 = 10)
  | 0, v => by simp [begsTo]; omega
  | k + 1, v => by
    have ih := begsTo_mem l k v
    unfold begsTo
    split
    · rename_i h
      rw [List.mem_append, ih, List.mem_singleton]
      constructor
      · rintro ((h1 | h1) | h1)
        · exact .inl h1
        · exact .inr ⟨h1.1, by omega, h1.2.2⟩
        · subst h1; exact .inr ⟨by omega, by omega, h⟩
      · rintro (h1 | ⟨h1, h2, h3⟩)
        · exact .inl (.inl h1)
        · by_cases e : v = k + 1
          · exact .inr e
          · exact .inl (.inr ⟨h1, by omega, h3⟩)
    · rename_i h
      rw [ih]
      constructor
      · rintro (h1 | h1)
        · exact .inl h1
        · exact .inr ⟨h1.1, by omega, h1.2.2⟩
      · rintro (h1 | ⟨h1, h2, h3⟩)
        · exact .inl h1
        · by_cases e : v = k + 1
          · subst e; exact absurd h3 h
          · exact .inr ⟨h1, by omega, h3⟩
theorem begsTo_sorted (l : List Nat) : ∀ k, (begsTo l k).Pairwise (· < ·)
  | 0 => by simp [begsTo]
  | k + 1 => by
    have ih := begsTo_sorted l k
    unfold begsTo
    split
    · rw [List.pairwise_append]
      refine ⟨ih, by simp, fun a ha b hb => ?_⟩
      rw [List.mem_singleton] at hb
      rcases (begsTo_mem l k a).1 ha with h | h <;> omega
    · exact ih
theorem begsTo_head (l : List Nat) : ∀ k, ∃ r, begsTo l k = 0 :: r
  | 0 => ⟨[], rfl⟩
  | k + 1 => by
    obtain ⟨r, h⟩ := begsTo_head l k
    unfold begsTo
    split
    · exact ⟨r ++ [k + 1], by rw [h]; rfl⟩
    · exact ⟨r, h⟩
theorem begsTo_length (l : List Nat) (k : Nat) : (begsTo l k).length ≤ k + 1 := by
  induction k with
  | zero => simp [begsTo]
  | succ k ih =>
    unfold begsTo
    split
    · rw [List.length_append, List.length_singleton]; omega
    · omega

theorem begs_ten_step {l : List Nat} {k : Nat} (h : l.getD k 0 = 10) : begsTo l (k + 1) = begsTo l k ++ [k + 1] := if_pos h
theorem begs_other_step {l : List Nat} {k : Nat} (h : l.getD k 0 ≠ 10) : begsTo l (k + 1) = begsTo l k := if_neg h
/-- Rows of first places of lines of texts of L bytes. -/
structure Lns (bs : List Nat) (L : Nat) : Prop where
  pos : 0 < bs.length
  head : bs.getD 0 0 = 0
  mono : ∀ i j, i < j → j < bs.length → bs.getD i 0 < bs.getD j 0
  le : ∀ i, i < bs.length → bs.getD i 0 ≤ L
  short : bs.length ≤ L + 1

theorem getD_of {bs : List Nat} {i : Nat} (h : i < bs.length) : bs.getD i 0 = bs[i] := by simp [List.getD, h]
theorem begs_lns (l : List Nat) : Lns (begs l) l.length := by
  obtain ⟨r, hr⟩ := begsTo_head l l.length
  refine ⟨by unfold begs; rw [hr]; simp, by unfold begs; rw [hr]; rfl, fun i j hij hj => ?_, fun i hi => ?_, begsTo_length l _⟩
  · have hi : i < (begs l).length := Nat.lt_trans hij hj
    rw [getD_of hj, getD_of hi]
    exact List.pairwise_iff_getElem.1 (begsTo_sorted l l.length) i j hi hj hij
  · rw [getD_of hi]
    rcases (begsTo_mem l l.length _).1 (List.getElem_mem hi) with h | h
    · exact Nat.le_trans (Nat.le_of_eq h) (Nat.zero_le _)
    · exact h.2.1

/-- How many lines begin up to p: the line of p. -/
def ln (bs : List Nat) (p : Nat) : Nat := bs.countP (fun b => decide (b ≤ p))
theorem countP_split (q : Nat → Bool) : ∀ (bs : List Nat) (r : Nat), r ≤ bs.length → (∀ i, i < r → q (bs.getD i 0) = true) → (∀ i, r ≤ i → i < bs.length → q (bs.getD i 0) = false) → bs.countP q = r
  | [], r, h, _, _ => by simp at h; simp [h]
  | b :: bs, 0, h, h1, h2 => by
    have h0 := h2 0 (by omega) (by simp)
    have ih := countP_split q bs 0 (by omega) (fun i hi => by omega) (fun i hi hl => by have := h2 (i + 1) (by omega) (by simp; omega); simpa using this)
    simp at h0
    simp [List.countP_cons, h0, ih]
  | b :: bs, r + 1, h, h1, h2 => by
    have h0 := h1 0 (by omega)
    have ih := countP_split q bs r (by simpa using h) (fun i hi => by have := h1 (i + 1) (by omega); simpa using this) (fun i hi hl => by have := h2 (i + 1) (by omega) (by simp; omega); simpa using this)
    simp at h0
    simp [List.countP_cons, h0, ih]
theorem ln_uniq {bs : List Nat} {p r : Nat} (h : r ≤ bs.length) (h1 : ∀ i, i < r → bs.getD i 0 ≤ p) (h2 : ∀ i, r ≤ i → i < bs.length → p < bs.getD i 0) : ln bs p = r :=
  countP_split _ bs r h (fun i hi => by simpa using h1 i hi) (fun i hi hl => by simpa using h2 i hi hl)
/-- What is up to p is ahead of what is not. -/
theorem ln_exists {bs : List Nat} {L p : Nat} (hb : Lns bs L) : ∃ r, r ≤ bs.length ∧ (∀ i, i < r → bs.getD i 0 ≤ p) ∧ (∀ i, r ≤ i → i < bs.length → p < bs.getD i 0) := by
  have key : ∀ n, n ≤ bs.length → ∃ r, r ≤ n ∧ (∀ i, i < r → bs.getD i 0 ≤ p) ∧ (∀ i, r ≤ i → i < n → p < bs.getD i 0) := by
    intro n
    induction n with
    | zero => intro _; exact ⟨0, by omega, fun i hi => by omega, fun i _ hi => by omega⟩
    | succ n ih =>
      intro hn
      obtain ⟨r, h0, h1, h2⟩ := ih (by omega)
      by_cases h : bs.getD n 0 ≤ p
      · refine ⟨n + 1, by omega, fun i hi => ?_, fun i h3 h4 => by omega⟩
        by_cases e : i = n
        · subst e; exact h
        · have := hb.mono i n (by omega) (by omega); omega
      · refine ⟨r, by omega, h1, fun i h3 h4 => ?_⟩
        by_cases e : i = n
        · subst e; omega
        · exact h2 i h3 (by omega)
  obtain ⟨r, h0, h1, h2⟩ := key bs.length (Nat.le_refl _)
  exact ⟨r, h0, h1, h2⟩
theorem ln_spec {bs : List Nat} {L : Nat} (p : Nat) (hb : Lns bs L) : 1 ≤ ln bs p ∧ ln bs p ≤ bs.length ∧ (∀ i, i < ln bs p → bs.getD i 0 ≤ p) ∧ (∀ i, ln bs p ≤ i → i < bs.length → p < bs.getD i 0) := by
  obtain ⟨r, h0, h1, h2⟩ := ln_exists (p := p) hb
  rw [ln_uniq h0 h1 h2]
  refine ⟨?_, h0, h1, h2⟩
  rcases Nat.eq_zero_or_pos r with h | h
  · subst h
    have := h2 0 (by omega) hb.pos
    have := hb.head
    omega
  · exact h

/-- The place behind a line's last one. -/
def beh (bs : List Nat) (L line : Nat) : Nat := if line = bs.length then L + 1 else bs.getD line 0
theorem beh_gt {bs : List Nat} {L line : Nat} (hb : Lns bs L) (h1 : 1 ≤ line) (h2 : line ≤ bs.length) : bs.getD (line - 1) 0 < beh bs L line ∧ beh bs L line ≤ L + 1 := by
  unfold beh
  split
  · have := hb.le (line - 1) (by omega); omega
  · have := hb.mono (line - 1) line (by omega) (by omega); have := hb.le line (by omega); omega
theorem ln_beh {bs : List Nat} {L p : Nat} (hb : Lns bs L) (hp : p ≤ L) : bs.getD (ln bs p - 1) 0 ≤ p ∧ p < beh bs L (ln bs p) := by
  obtain ⟨h1, h2, h3, h4⟩ := ln_spec p hb
  refine ⟨h3 _ (by omega), ?_⟩
  unfold beh
  split
  · omega
  · exact h4 _ (by omega) (by omega)
theorem beh_ln {bs : List Nat} {L line p : Nat} (hb : Lns bs L) (h1 : 1 ≤ line) (h2 : line ≤ bs.length) (h3 : bs.getD (line - 1) 0 ≤ p) (h4 : p < beh bs L line) : ln bs p = line := by
  refine ln_uniq h2 (fun i hi => ?_) (fun i hi hl => ?_)
  · by_cases e : i = line - 1
    · subst e; exact h3
    · have := hb.mono i (line - 1) (by omega) (by omega); omega
  · unfold beh at h4
    split at h4
    · omega
    · by_cases e : i = line
      · subst e; exact h4
      · have := hb.mono line i (by omega) hl; omega
/-- Behind each line but the last stands its byte 10. -/
theorem begs_ten (l : List Nat) {i : Nat} (h0 : 0 < i) (hi : i < (begs l).length) : 0 < (begs l).getD i 0 ∧ l.getD ((begs l).getD i 0 - 1) 0 = 10 := by
  have hm : (begs l).getD i 0 ∈ begsTo l l.length := by rw [getD_of hi]; exact List.getElem_mem hi
  rcases (begsTo_mem l _ _).1 hm with h | h
  · have := (begs_lns l).mono 0 i h0 hi
    omega
  · exact ⟨h.1, h.2.2⟩
/-- Within a line there is no byte 10. -/
theorem begs_not (l : List Nat) {line k : Nat} (h1 : 1 ≤ line) (h2 : line ≤ (begs l).length) (h3 : (begs l).getD (line - 1) 0 ≤ k) (h4 : k + 1 < beh (begs l) l.length line) (h5 : k < l.length) : l.getD k 0 ≠ 10 := by
  intro h
  have hm : k + 1 ∈ begsTo l l.length := (begsTo_mem l _ _).2 (.inr ⟨by omega, by omega, by simpa using h⟩)
  obtain ⟨i, hi, e⟩ := List.getElem_of_mem hm
  have hi' : i < (begs l).length := hi
  have e' : (begs l).getD i 0 = k + 1 := by rw [getD_of hi']; exact e
  have hb := begs_lns l
  have h6 : ln (begs l) (k + 1) = line := beh_ln hb h1 h2 (by omega) h4
  obtain ⟨_, _, h8, h9⟩ := ln_spec (k + 1) hb
  have hil : i < line := by
    rcases Nat.lt_or_ge i line with h | h
    · exact h
    · have := h9 i (by omega) hi'; omega
  have : i = line - 1 ∨ i < line - 1 := by omega
  rcases this with h | h
  · subst h; omega
  · have := hb.mono i (line - 1) h (by omega); omega
end Go.Proofs.Ytmllhjgejlbjhaa

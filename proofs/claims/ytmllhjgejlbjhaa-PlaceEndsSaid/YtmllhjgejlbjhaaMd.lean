/- Plain facts: going through a text byte by byte. -/
import Derived.Test.YtmllhjgejlbjhaaMc
namespace Go.Proofs.Ytmllhjgejlbjhaa
/-- A place's column. -/
def colm (bs : List Nat) (p : Nat) : Nat := p - bs.getD (ln bs p - 1) 0 + 1
theorem ln_zero (l : List Nat) : ln (begs l) 0 = 1 := by
  have hb := begs_lns l
  have hp := hb.pos
  refine ln_uniq (by omega) (fun i hi => ?_) (fun i h1 h2 => ?_)
  · obtain rfl : i = 0 := by omega
    have := hb.head; omega
  · have := hb.mono 0 i (by omega) h2; omega
theorem colm_zero (l : List Nat) : colm (begs l) 0 = 1 := by unfold colm; omega
theorem at_ten (l : List Nat) {i : Nat} (hi : i < l.length) (h : l.getD i 0 = 10) : ln (begs l) (i + 1) = ln (begs l) i + 1 ∧ colm (begs l) (i + 1) = 1 := by
  have hb := begs_lns l
  obtain ⟨h1, h2, h3, h4⟩ := ln_spec i hb
  have hm : i + 1 ∈ begsTo l l.length := (begsTo_mem l _ _).2 (.inr ⟨by omega, by omega, by simpa using h⟩)
  obtain ⟨j, hj, e⟩ := List.getElem_of_mem hm
  have hj' : j < (begs l).length := hj
  have e' : (begs l).getD j 0 = i + 1 := by rw [getD_of hj']; exact e
  have hjr : ln (begs l) i ≤ j := by
    rcases Nat.lt_or_ge j (ln (begs l) i) with h | h
    · have := h3 j h; omega
    · exact h
  have hjr2 : j = ln (begs l) i := by
    rcases Nat.lt_or_ge (ln (begs l) i) j with h | h
    · have := hb.mono _ j h hj'
      have := h4 (ln (begs l) i) (Nat.le_refl _) (by omega)
      omega
    · omega
  have e1 : ln (begs l) (i + 1) = ln (begs l) i + 1 := by
    refine ln_uniq (by omega) (fun k hk => ?_) (fun k hk hl => ?_)
    · by_cases h : k = j
      · subst h; omega
      · have := h3 k (by omega); omega
    · have := hb.mono j k (by omega) hl; omega
  refine ⟨e1, ?_⟩
  unfold colm
  rw [e1, Nat.add_sub_cancel, ← hjr2, e']
  omega
theorem at_other (l : List Nat) {i : Nat} (hi : i < l.length) (h : l.getD i 0 ≠ 10) : ln (begs l) (i + 1) = ln (begs l) i ∧ colm (begs l) (i + 1) = colm (begs l) i + 1 := by
  have hb := begs_lns l
  obtain ⟨h1, h2, h3, h4⟩ := ln_spec i hb
  have e1 : ln (begs l) (i + 1) = ln (begs l) i := by
    refine ln_uniq h2 (fun k hk => ?_) (fun k hk hl => ?_)
    · have := h3 k hk; omega
    · have h5 := h4 k hk hl
      rcases Nat.lt_or_ge (i + 1) ((begs l).getD k 0) with h6 | h6
      · exact h6
      · exfalso
        have e : (begs l).getD k 0 = i + 1 := by omega
        have hm : (begs l).getD k 0 ∈ begsTo l l.length := by rw [getD_of hl]; exact List.getElem_mem hl
        rcases (begsTo_mem l _ _).1 hm with h7 | ⟨_, _, h7⟩
        · omega
        · rw [e, Nat.add_sub_cancel] at h7; exact h h7
  refine ⟨e1, ?_⟩
  unfold colm
  rw [e1]
  have := h3 (ln (begs l) i - 1) (by omega)
  omega
theorem at_bd (l : List Nat) (i : Nat) : 1 ≤ ln (begs l) i ∧ ln (begs l) i ≤ l.length + 1 ∧ 1 ≤ colm (begs l) i ∧ colm (begs l) i ≤ i + 1 := by
  have hb := begs_lns l
  obtain ⟨h1, h2, _, _⟩ := ln_spec i hb
  have := hb.short
  unfold colm
  omega
/-- A line and a column are of one place. -/
theorem at_inj {bs : List Nat} {L p k : Nat} (hb : Lns bs L) (h1 : ln bs k = ln bs p) (h2 : colm bs k = colm bs p) : k = p := by
  obtain ⟨a1, _, a3, _⟩ := ln_spec k hb
  obtain ⟨b1, _, b3, _⟩ := ln_spec p hb
  have c1 := a3 (ln bs k - 1) (by omega)
  have c2 := b3 (ln bs p - 1) (by omega)
  unfold colm at h2
  rw [h1] at h2 c1
  omega
theorem st_line {bs : List Nat} {L q : Nat} (hb : Lns bs L) (h1 : 1 ≤ q) (h2 : q ≤ bs.length) : ln bs (st bs L q) = q ∧ colm bs (st bs L q) = 1 := by
  have e := st_of (L := L) h2
  have hg := beh_gt hb h1 h2
  have e1 : ln bs (st bs L q) = q := by rw [← e]; exact beh_ln hb h1 h2 (Nat.le_refl _) hg.1
  refine ⟨e1, ?_⟩
  unfold colm
  rw [e1, e]
  omega
end Go.Proofs.Ytmllhjgejlbjhaa

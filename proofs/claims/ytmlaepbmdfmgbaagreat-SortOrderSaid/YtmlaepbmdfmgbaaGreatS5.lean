/- What the law SortOrder needs, plainly. -/
import Derived.Test.YtmlaepbmdfmgbaaGreatS3
set_option linter.unusedSimpArgs false
set_option linter.unusedVariables false
namespace Go.Proofs.YtmlaepbmdfmgbaaGreat
open Go Go.RowKit
theorem pG_nodup {G : List (List Nat)} (hR : RG G) : (pG G).flatten.Nodup := by
  unfold List.Nodup
  rw [List.pairwise_flatten]
  have each : ∀ j, j < (pG G).length → ((pG G).getD j []).Nodup := fun j hj => by
    obtain ⟨hne, _⟩ := (pG_small hR).2 j hj
    obtain ⟨a, ha⟩ := List.exists_mem_of_ne_nil _ hne
    obtain ⟨h1, h2⟩ := pG_has hR hj ha
    obtain ⟨k, k1, k2, k3, k4, _⟩ := place_of hR h1
    have hl := plG_len G
    have := nodup_at (plG_nodup hR) (i := j) (j := k) (by omega) (by omega) (by rw [k2, h2])
    rw [this, k3]
    exact ptG_nodup _ _
  refine ⟨fun l hl => ?_, ?_⟩
  · obtain ⟨j, hj, rfl⟩ := List.getElem_of_mem hl
    have h := each j hj
    have e : (pG G).getD j [] = (pG G)[j] := by simp [List.getD, List.getElem?_eq_getElem hj]
    rw [e] at h
    exact h
  · rw [List.pairwise_iff_getElem]
    intro i j hi hj hij a ha b hb e
    subst e
    have h1 := (pG_has hR hi (i := a) (by simpa [List.getD, List.getElem?_eq_getElem hi] using ha)).2
    have h2 := (pG_has hR hj (i := a) (by simpa [List.getD, List.getElem?_eq_getElem hj] using hb)).2
    have hl := plG_len G
    have := nodup_at (plG_nodup hR) (i := i) (j := j) (by omega) (by omega) (by rw [← h1, ← h2])
    omega
theorem pG_mem_all {G : List (List Nat)} (hR : RG G) {x : Nat} : x ∈ (pG G).flatten ↔ x < G.length := by
  rw [List.mem_flatten]
  constructor
  · rintro ⟨l, hl, hx⟩
    obtain ⟨j, hj, rfl⟩ := List.getElem_of_mem hl
    exact (pG_has hR hj (by simpa [List.getD, List.getElem?_eq_getElem hj] using hx)).1
  · intro h
    obtain ⟨j, hj, _, _, hm, _⟩ := place_of hR h
    refine ⟨_, List.getElem_mem hj, ?_⟩
    simpa [List.getD, List.getElem?_eq_getElem hj] using hm
theorem pG_flat_all {G : List (List Nat)} (hR : RG G) : (pG G).flatten.length = G.length := by
  have h : (pG G).flatten.Perm (List.range G.length) := (List.perm_ext_iff_of_nodup (pG_nodup hR) List.nodup_range).2 fun x => by rw [pG_mem_all hR, List.mem_range]
  rw [h.length_eq, List.length_range]
theorem idx_at {l : List Nat} (h : l.Nodup) {n : Nat} (hn : n < l.length) : l.idxOf (l.getD n 0) = n := by
  simp only [List.getD, List.getElem?_eq_getElem hn, Option.getD_some]
  have h1 : l.idxOf l[n] < l.length := List.idxOf_lt_length_of_mem (List.getElem_mem hn)
  have h2 : l[l.idxOf l[n]] = l[n] := List.getElem_idxOf h1
  exact (List.getElem_inj h).1 h2
theorem flat_at : ∀ (P : List (List Nat)) (j k : Nat), j < P.length → k < (P.getD j []).length → (P.take j).flatten.length + k < P.flatten.length ∧ P.flatten.getD ((P.take j).flatten.length + k) 0 = (P.getD j []).getD k 0
  | [], j, k, hj, _ => by simp at hj
  | p :: P, 0, k, _, hk => by
    have hk : k < p.length := hk
    refine ⟨by rw [List.flatten_cons, List.length_append]; simp; omega, ?_⟩
    show (p ++ P.flatten).getD (0 + k) 0 = p.getD k 0
    simp only [List.getD, Nat.zero_add]
    rw [List.getElem?_append_left hk]
  | p :: P, j + 1, k, hj, hk => by
    obtain ⟨h1, h2⟩ := flat_at P j k (by simpa using hj) hk
    have e : ((p :: P).take (j + 1)).flatten.length = p.length + (P.take j).flatten.length := by simp
    rw [e]
    refine ⟨by rw [List.flatten_cons, List.length_append]; omega, ?_⟩
    show (p ++ P.flatten).getD (p.length + (P.take j).flatten.length + k) 0 = (P.getD j []).getD k 0
    rw [← h2]
    simp only [List.getD]
    rw [List.getElem?_append_right (by omega)]
    congr 2
    omega
theorem flat_mono (P : List (List Nat)) {i j : Nat} (h : i < j) (hi : i < P.length) : (P.take i).flatten.length + (P.getD i []).length ≤ (P.take j).flatten.length := by
  have e : P.take j = (P.take (i + 1)) ++ (P.drop (i + 1)).take (j - (i + 1)) := by rw [← List.take_add]; congr 1; omega
  rw [e, List.flatten_append, List.length_append, flat_take hi, List.length_append]
  omega
/-- Where a rule stands in the order. -/
theorem idx_part {G : List (List Nat)} (hR : RG G) {j k : Nat} (hj : j < (pG G).length) (hk : k < ((pG G).getD j []).length) : (pG G).flatten.idxOf (((pG G).getD j []).getD k 0) = ((pG G).take j).flatten.length + k := by
  obtain ⟨h1, h2⟩ := flat_at (pG G) j k hj hk
  rw [← h2]
  exact idx_at (pG_nodup hR) h1
theorem mem_getD {l : List Nat} {x : Nat} (h : x ∈ l) : ∃ k, k < l.length ∧ l.getD k 0 = x := by
  obtain ⟨k, hk, e⟩ := List.getElem_of_mem h
  exact ⟨k, hk, by simp [List.getD, List.getElem?_eq_getElem hk, e]⟩
theorem ordOf_yes {g : Gr} (hR : Right g) : ordOf g = (pG (graphOf g)).flatten := by unfold ordOf; rw [rightB_true.2 hR]; rfl
theorem ordOf_facts {g : Gr} (hR : Right g) : (ordOf g).length = g.rules.length ∧ (ordOf g).Nodup ∧ ∀ x ∈ ordOf g, x < g.rules.length := by
  have h := graphOf_RG hR
  rw [ordOf_yes hR, ← graphOf_len g]
  exact ⟨pG_flat_all h, pG_nodup h, fun x hx => (pG_mem_all h).1 hx⟩
/-- Whom a rule calls at its own place stands ahead of it, or is with it. -/
theorem ord_ahead {g : Gr} (hR : Right g) {i c : Nat} (hi : i < g.rules.length) (hc : c ∈ lcal g i) : (ordOf g).idxOf c < (ordOf g).idxOf i ∨ c ∈ withOf g i := by
  have h := graphOf_RG hR
  have hil : i < (graphOf g).length := by rw [graphOf_len]; exact hi
  have hcl : c < (graphOf g).length := by rw [graphOf_len]; exact lcal_lt hc
  have hpos := pos_ahead h (i := i) (c := c) (by rw [adjG_graph hi]; exact hc)
  obtain ⟨p1, _, p3, p4, _⟩ := pos_of h hil
  obtain ⟨q1, _, q3, q4, _⟩ := pos_of h hcl
  rw [ordOf_yes hR]
  by_cases e : posG (graphOf g) c = posG (graphOf g) i
  · refine .inr ?_
    have hm : c ∈ ptG (graphOf g) i := by rw [← p3, ← e]; exact q4
    have hne : sortN (graphOf g) i ≠ 0 := by
      rw [sortN_ne]
      by_cases e2 : c = i
      · subst e2; exact .inl ((selfB_iff hi).2 hc)
      · exact .inr ((othB_iff hR hi).2 ⟨c, hm, e2⟩)
    rw [(withOf_len hR hi).2.1 hne]
    exact hm
  · refine .inl ?_
    obtain ⟨k, hk, ek⟩ := mem_getD q4
    obtain ⟨m, hm, em⟩ := mem_getD p4
    have h1 := idx_part h q1 hk
    have h2 := idx_part h p1 hm
    rw [ek] at h1
    rw [em] at h2
    have := flat_mono (pG (graphOf g)) (i := posG (graphOf g) c) (j := posG (graphOf g) i) (by omega) q1
    omega
theorem ptG_rises (G : List (List Nat)) (i : Nat) : (ptG G i).Pairwise (· < ·) := scc_rises _ _ _
/-- Rules that go left together stand side by side, rising. -/
theorem ord_with {g : Gr} (hR : Right g) {i k : Nat} (hi : i < g.rules.length) (hk : k + 1 < (withOf g i).length) : (ordOf g).idxOf ((withOf g i).getD (k + 1) 0) = (ordOf g).idxOf ((withOf g i).getD k 0) + 1 ∧ (withOf g i).getD k 0 < (withOf g i).getD (k + 1) 0 := by
  have h := graphOf_RG hR
  have hil : i < (graphOf g).length := by rw [graphOf_len]; exact hi
  by_cases hz : sortN (graphOf g) i = 0
  · rw [(withOf_len hR hi).1 hz] at hk
    simp at hk
  · rw [(withOf_len hR hi).2.1 hz] at hk ⊢
    obtain ⟨p1, _, p3, _, _⟩ := pos_of h hil
    rw [ordOf_yes hR, ← p3]
    rw [← p3] at hk
    have h1 := idx_part h p1 hk
    have h2 := idx_part h p1 (show k < ((pG (graphOf g)).getD (posG (graphOf g) i) []).length by omega)
    refine ⟨by rw [h1, h2]; omega, ?_⟩
    rw [p3] at hk ⊢
    have := List.pairwise_iff_getElem.1 (ptG_rises (graphOf g) i) k (k + 1) (by omega) hk (by omega)
    simpa [List.getD, List.getElem?_eq_getElem hk, List.getElem?_eq_getElem (show k < (ptG (graphOf g) i).length by omega)] using this
theorem with_lt {g : Gr} (hR : Right g) {i x : Nat} (hi : i < g.rules.length) (hx : x ∈ withOf g i) : x < g.rules.length := by
  by_cases hz : sortN (graphOf g) i = 0
  · rw [(withOf_len hR hi).1 hz] at hx; cases hx
  · rw [(withOf_len hR hi).2.1 hz] at hx
    have := ((mem_ptG (by rw [graphOf_len]; exact hi)).1 hx).1
    rwa [graphOf_len] at this
end Go.Proofs.YtmlaepbmdfmgbaaGreat

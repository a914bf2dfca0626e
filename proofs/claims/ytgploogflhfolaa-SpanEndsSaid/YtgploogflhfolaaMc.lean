/- How often a place lies in gaps: plain facts. -/
import Derived.Test.YtgploogflhfolaaMb
namespace Go.Proofs.Ytgploogflhfolaa
open Go Go.Proofs
def hasz (p : Int) (z : Int × Int) : Bool := hs z.1 z.2 p
/-- Whether some have a place; how many do. -/
def anyH (l : List (Int × Int)) (p : Int) : Bool := l.any (hasz p)
def cntH (l : List (Int × Int)) (p : Int) : Nat := l.countP (hasz p)
theorem hasz_iff (p : Int) (z : Int × Int) : hasz p z = true ↔ 0 ≤ z.1 ∧ z.1 ≤ p ∧ p < z.2 := by
  simp [hasz, hs, rt]; omega
theorem anyH_iff (l : List (Int × Int)) (p : Int) : anyH l p = true ↔ Cov (parts l) p := by
  rw [cov_parts, anyH, List.any_eq_true]
  constructor
  · rintro ⟨z, hz, h⟩; exact ⟨z, hz, (hasz_iff p z).1 h⟩
  · rintro ⟨z, hz, h⟩; exact ⟨z, hz, (hasz_iff p z).2 h⟩
theorem cnt_apart (p : Int) : ∀ (g : List (Int × Int)), (∀ z ∈ g, 0 ≤ z.1 ∧ z.1 < z.2) → g.Pairwise (fun a b => a.2 < b.1) → (cntH g p = 0 ∧ ¬ Cov g p) ∨ (cntH g p = 1 ∧ Cov g p)
  | [], _, _ => .inl ⟨rfl, fun ⟨z, hz, _⟩ => by simp at hz⟩
  | z :: g, hz, hp => by
    rw [List.pairwise_cons] at hp
    have hz0 := hz z (by simp)
    have ih := cnt_apart p g (fun u hu => hz u (by simp [hu])) hp.2
    by_cases h : hasz p z = true
    · have h1 := (hasz_iff p z).1 h
      have hn : ¬ Cov g p := fun ⟨u, hu, h2, _⟩ => by have := hp.1 u hu; omega
      rcases ih with ⟨h2, _⟩ | ⟨_, h2⟩
      · exact .inr ⟨by simp only [cntH, List.countP_cons, h, if_true] at *; omega, z, by simp, h1.2.1, h1.2.2⟩
      · exact absurd h2 hn
    · have hn : ¬ (z.1 ≤ p ∧ p < z.2) := fun h' => h ((hasz_iff p z).2 ⟨hz0.1, h'.1, h'.2⟩)
      have e : cntH (z :: g) p = cntH g p := by simp [cntH, List.countP_cons, h]
      have c : Cov (z :: g) p ↔ Cov g p := by
        constructor
        · rintro ⟨u, hu, h1, h2⟩
          rcases List.mem_cons.1 hu with rfl | hu
          · exact absurd ⟨h1, h2⟩ hn
          · exact ⟨u, hu, h1, h2⟩
        · rintro ⟨u, hu, h1⟩; exact ⟨u, by simp [hu], h1⟩
      rw [e, c]; exact ih
theorem gaps_cnt {x y : Int} (l : List (Int × Int)) (h : rt x y = true) {p : Int} (h1 : x ≤ p) (h2 : p < y) : (anyH l p = true → cntH (gapsF x y l) p = 0) ∧ (anyH l p = false → cntH (gapsF x y l) p = 1) := by
  have hg := gapsF_is l h
  have h0 : 0 ≤ x := by simp [rt] at h; exact h.1
  have hc := cnt_apart p (gapsF x y l) (fun z hz => by have := hg.inside z hz; omega) hg.apart
  have hcov := hg.cover p
  constructor
  · intro ha
    rcases hc with ⟨h3, _⟩ | ⟨_, h3⟩
    · exact h3
    · exact absurd ((anyH_iff l p).1 ha) (hcov.1 h3).2.2
  · intro ha
    rcases hc with ⟨_, h3⟩ | ⟨h3, _⟩
    · exact absurd (hcov.2 ⟨h1, h2, fun hcv => by rw [(anyH_iff l p).2 hcv] at ha; cases ha⟩) h3
    · exact h3
theorem anyH_more (l : List (Int × Int)) (z : Int × Int) (p : Int) (h : anyH l p = true) : anyH (l ++ [z]) p = true := by
  simp only [anyH, List.any_append, Bool.or_eq_true]; exact .inl h
theorem gaps_fewer {x y : Int} (l : List (Int × Int)) (z : Int × Int) (h : rt x y = true) {p : Int} (h1 : x ≤ p) (h2 : p < y) : cntH (gapsF x y (l ++ [z])) p ≤ cntH (gapsF x y l) p := by
  obtain ⟨a1, a2⟩ := gaps_cnt l h h1 h2
  obtain ⟨b1, b2⟩ := gaps_cnt (l ++ [z]) h h1 h2
  cases ha : anyH l p with
  | true => rw [b1 (anyH_more l z p ha), a1 ha]; exact Nat.le_refl _
  | false =>
    rw [a2 ha]
    cases hb : anyH (l ++ [z]) p with
    | true => rw [b1 hb]; omega
    | false => rw [b2 hb]; omega
theorem anyH_take {l : List (Int × Int)} {k : Nat} (h : k < l.length) (p : Int) : anyH (l.take (k + 1)) p = (anyH (l.take k) p || hasz p (l.getD k (0, 0))) := by
  rw [take_succ_getD h]; simp [anyH]
theorem cntH_take {l : List (Int × Int)} {k : Nat} (h : k < l.length) (p : Int) : cntH (l.take (k + 1)) p = cntH (l.take k) p + if hasz p (l.getD k (0, 0)) then 1 else 0 := by
  rw [take_succ_getD h]; simp only [cntH, List.countP_append, List.countP_cons, List.countP_nil, Nat.zero_add]
theorem cntH_le (l : List (Int × Int)) (p : Int) : cntH l p ≤ l.length := List.countP_le_length
/-- What is told of each gap. -/
theorem gaps_at {x y : Int} (l : List (Int × Int)) {i : Nat} (hi : i < (gapsF x y l).length) : rt x y = true ∧ 0 ≤ x ∧ x ≤ ((gapsF x y l).getD i (0, 0)).1 ∧ ((gapsF x y l).getD i (0, 0)).1 < ((gapsF x y l).getD i (0, 0)).2 ∧ ((gapsF x y l).getD i (0, 0)).2 ≤ y := by
  cases h : rt x y with
  | false => simp [gapsF, h] at hi
  | true =>
    have hg := gapsF_is l h
    have h0 : 0 ≤ x := by simp [rt] at h; exact h.1
    have hm : (gapsF x y l).getD i (0, 0) ∈ gapsF x y l := by
      simp only [List.getD, List.getElem?_eq_getElem hi]; exact List.getElem_mem hi
    have := hg.inside _ hm
    exact ⟨rfl, h0, this.1, this.2.1, this.2.2⟩
theorem gaps_next {x y : Int} (l : List (Int × Int)) {i : Nat} (hi : i + 1 < (gapsF x y l).length) : ((gapsF x y l).getD i (0, 0)).2 < ((gapsF x y l).getD (i + 1) (0, 0)).1 := by
  cases h : rt x y with
  | false => simp [gapsF, h] at hi
  | true =>
    have hp := (gapsF_is l h).apart
    have := (List.pairwise_iff_getElem.1 hp) i (i + 1) (by omega) hi (by omega)
    simpa [List.getD, List.getElem?_eq_getElem hi, List.getElem?_eq_getElem (show i < (gapsF x y l).length by omega)] using this
theorem gapsF_len (x y : Int) (l : List (Int × Int)) : (gapsF x y l).length ≤ l.length + 1 := by
  unfold gapsF
  split
  · have h := sweep_length y (srt (parts l) ++ [(y, y)]) x
    have h2 := srt_length (parts l)
    have h3 := parts_length l
    simp only [List.length_append, List.length_cons, List.length_nil] at h
    omega
  · simp
end Go.Proofs.Ytgploogflhfolaa

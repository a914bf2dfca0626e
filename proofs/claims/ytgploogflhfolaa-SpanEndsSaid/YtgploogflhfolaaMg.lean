/- The gaps, as the document's own program goes through them: plain facts. -/
import Derived.Test.YtgploogflhfolaaMc
namespace Go.Proofs.Ytgploogflhfolaa
open Go Go.Proofs
/-- The furthest end of those that have a place; the next start behind it. -/
def ovS (p v : Int) (x : Int × Int) : Int := if hasz p x then max v x.2 else v
def enS (p v : Int) (x : Int × Int) : Int := if 0 < ln x.1 x.2 ∧ p < x.1 then min v x.1 else v
def overF (l : List (Int × Int)) (p : Int) : Int := l.foldl (ovS p) (-1)
def endF (l : List (Int × Int)) (hi p : Int) : Int := l.foldl (enS p) hi
theorem overF_take {l : List (Int × Int)} {k : Nat} {x : Int × Int} (p : Int) (h : k < l.length) (hx : x = l.getD k (0, 0)) : overF (l.take (k + 1)) p = ovS p (overF (l.take k) p) x := by
  rw [take_succ_getD h, ← hx]; simp [overF, List.foldl_append]
theorem endF_take {l : List (Int × Int)} {k : Nat} {x : Int × Int} (hi p : Int) (h : k < l.length) (hx : x = l.getD k (0, 0)) : endF (l.take (k + 1)) hi p = enS p (endF (l.take k) hi p) x := by
  rw [take_succ_getD h, ← hx]; simp [endF, List.foldl_append]
theorem ov_fold (p : Int) : ∀ (l : List (Int × Int)) (v : Int), (l.foldl (ovS p) v = v ∨ ∃ x ∈ l, hasz p x = true ∧ l.foldl (ovS p) v = x.2) ∧ v ≤ l.foldl (ovS p) v ∧ ∀ x ∈ l, hasz p x = true → x.2 ≤ l.foldl (ovS p) v
  | [], v => ⟨.inl rfl, Int.le_refl _, by simp⟩
  | y :: l, v => by
    obtain ⟨h1, h2, h3⟩ := ov_fold p l (ovS p v y)
    rw [List.foldl_cons]
    have hv : v ≤ ovS p v y := by unfold ovS; split <;> omega
    have hy : hasz p y = true → y.2 ≤ ovS p v y := fun h => by unfold ovS; rw [if_pos h]; omega
    refine ⟨?_, by omega, fun x hx hz => ?_⟩
    · rcases h1 with h1 | ⟨x, hx, hz, e⟩
      · rw [h1]
        by_cases hz : hasz p y = true
        · by_cases hm : y.2 ≤ v
          · left; unfold ovS; rw [if_pos hz]; omega
          · right; exact ⟨y, by simp, hz, by unfold ovS; rw [if_pos hz]; omega⟩
        · left; unfold ovS; rw [if_neg hz]
      · exact .inr ⟨x, List.mem_cons_of_mem _ hx, hz, e⟩
    · rcases List.mem_cons.1 hx with rfl | hx
      · have := hy hz; omega
      · exact h3 x hx hz
theorem en_fold (p : Int) : ∀ (l : List (Int × Int)) (v : Int), (l.foldl (enS p) v = v ∨ ∃ x ∈ l, (0 < ln x.1 x.2 ∧ p < x.1) ∧ l.foldl (enS p) v = x.1) ∧ l.foldl (enS p) v ≤ v ∧ ∀ x ∈ l, 0 < ln x.1 x.2 ∧ p < x.1 → l.foldl (enS p) v ≤ x.1
  | [], v => ⟨.inl rfl, Int.le_refl _, by simp⟩
  | y :: l, v => by
    obtain ⟨h1, h2, h3⟩ := en_fold p l (enS p v y)
    rw [List.foldl_cons]
    have hv : enS p v y ≤ v := by unfold enS; split <;> omega
    have hy : 0 < ln y.1 y.2 ∧ p < y.1 → enS p v y ≤ y.1 := fun h => by unfold enS; rw [if_pos h]; omega
    refine ⟨?_, by omega, fun x hx hz => ?_⟩
    · rcases h1 with h1 | ⟨x, hx, hz, e⟩
      · rw [h1]
        by_cases hz : 0 < ln y.1 y.2 ∧ p < y.1
        · by_cases hm : v ≤ y.1
          · left; unfold enS; rw [if_pos hz]; omega
          · right; exact ⟨y, by simp, hz, by unfold enS; rw [if_pos hz]; omega⟩
        · left; unfold enS; rw [if_neg hz]
      · exact .inr ⟨x, List.mem_cons_of_mem _ hx, hz, e⟩
    · rcases List.mem_cons.1 hx with rfl | hx
      · have := hy hz; omega
      · exact h3 x hx hz
theorem over_no {l : List (Int × Int)} {p : Int} (hp : 0 ≤ p) (h : ¬ 0 ≤ overF l p) : ¬ Cov (parts l) p := by
  rw [cov_parts]
  rintro ⟨x, hx, h0, h1, h2⟩
  have := (ov_fold p l (-1)).2.2 x hx ((hasz_iff p x).2 ⟨h0, h1, h2⟩)
  unfold overF at h
  omega
theorem over_yes {l : List (Int × Int)} {p : Int} (h : 0 ≤ overF l p) : ∃ x ∈ l, 0 ≤ x.1 ∧ x.1 ≤ p ∧ p < x.2 ∧ overF l p = x.2 := by
  rcases (ov_fold p l (-1)).1 with e | ⟨x, hx, hz, e⟩
  · unfold overF at h; omega
  · obtain ⟨a, b, c⟩ := (hasz_iff p x).1 hz
    exact ⟨x, hx, a, b, c, e⟩
theorem gaps_over {lo p hi : Int} {l : List (Int × Int)} (h0 : 0 ≤ lo) (h1 : lo ≤ p) (h2 : p < hi) (ho : 0 ≤ overF l p) :
    p < overF l p ∧ gapsF lo (min (overF l p) hi) l = gapsF lo p l ∧ Cov (parts l) (overF l p - 1) := by
  obtain ⟨x, hx, a, b, c, e⟩ := over_yes ho
  rw [e]
  refine ⟨c, ?_, (cov_parts _ _).2 ⟨x, hx, a, by omega, by omega⟩⟩
  have g1 := gapsF_is (x := lo) (y := min x.2 hi) l (by simp [rt]; omega)
  have g2 := gapsF_is (x := lo) (y := p) l (by simp [rt]; omega)
  refine g1.unique (l' := l) ⟨fun z hz => ?_, g2.apart, fun q => ?_⟩ (fun _ => Iff.rfl)
  · have := g2.inside z hz; omega
  · rw [g2.cover]
    constructor
    · rintro ⟨q1, q2, q3⟩; exact ⟨q1, by omega, q3⟩
    · rintro ⟨q1, q2, q3⟩
      refine ⟨q1, ?_, q3⟩
      rcases Int.lt_or_le q p with h | h
      · exact h
      · exact absurd ((cov_parts _ _).2 ⟨x, hx, a, by omega, by omega⟩) q3
theorem gaps_end {lo p hi : Int} {l : List (Int × Int)} (h0 : 0 ≤ lo) (h1 : lo ≤ p) (h2 : p < hi) (ho : ¬ 0 ≤ overF l p) (hE : p = lo ∨ Cov (parts l) (p - 1)) :
    p < endF l hi p ∧ endF l hi p ≤ hi ∧ gapsF lo (endF l hi p) l = gapsF lo p l ++ [(p, endF l hi p)] ∧ (endF l hi p = hi ∨ Cov (parts l) (endF l hi p)) := by
  have hno := over_no (by omega) ho
  obtain ⟨f1, f2, f3⟩ := en_fold p l hi
  obtain ⟨en, een⟩ : ∃ en, en = endF l hi p := ⟨_, rfl⟩
  rw [← een]
  change endF l hi p = hi ∨ _ at f1
  change endF l hi p ≤ hi at f2
  change ∀ x ∈ l, _ → endF l hi p ≤ x.1 at f3
  simp only [show l.foldl (enS p) hi = endF l hi p from rfl, ← een] at f1 f2 f3
  have hlt : p < en := by
    rcases f1 with e | ⟨x, _, ⟨_, h⟩, e⟩ <;> omega
  have hcov : en = hi ∨ Cov (parts l) en := by
    rcases f1 with e | ⟨x, hx, ⟨h, _⟩, e⟩
    · exact .inl e
    · right
      have hx' : x ∈ parts l := by simp only [parts, List.mem_filter, decide_eq_true_eq]; exact ⟨hx, h⟩
      have := parts_lt hx'
      exact ⟨x, hx', by omega, by omega⟩
  have hfree : ∀ q, p ≤ q → q < en → ¬ Cov (parts l) q := by
    intro q hq1 hq2 hc
    obtain ⟨x, hx, a, b, c⟩ := (cov_parts _ _).1 hc
    by_cases hpx : p < x.1
    · have := f3 x hx ⟨(ln_pos a).2 (by omega), hpx⟩
      omega
    · exact hno ((cov_parts _ _).2 ⟨x, hx, a, by omega, by omega⟩)
  refine ⟨hlt, f2, ?_, hcov⟩
  have g1 := gapsF_is (x := lo) (y := en) l (by simp [rt]; omega)
  have g2 := gapsF_is (x := lo) (y := p) l (by simp [rt]; omega)
  refine g1.unique (l' := l) ⟨fun z hz => ?_, ?_, fun q => ?_⟩ (fun _ => Iff.rfl)
  · rcases List.mem_append.1 hz with hz | hz
    · have := g2.inside z hz; omega
    · simp only [List.mem_singleton] at hz; subst hz; exact ⟨h1, hlt, Int.le_refl _⟩
  · refine List.pairwise_append.2 ⟨g2.apart, by simp, fun z hz y hy => ?_⟩
    simp only [List.mem_singleton] at hy
    subst hy
    have hi := g2.inside z hz
    rcases Int.lt_or_eq_of_le hi.2.2 with h | h
    · exact h
    · exfalso
      rcases hE with e | hc
      · omega
      · exact ((g2.cover (p - 1)).1 ⟨z, hz, by omega, by omega⟩).2.2 hc
  · constructor
    · rintro ⟨z, hz, q1, q2⟩
      rcases List.mem_append.1 hz with hz | hz
      · obtain ⟨a, b, c⟩ := (g2.cover q).1 ⟨z, hz, q1, q2⟩
        exact ⟨a, by omega, c⟩
      · simp only [List.mem_singleton] at hz
        subst hz
        exact ⟨by omega, q2, hfree q q1 q2⟩
    · rintro ⟨q1, q2, q3⟩
      rcases Int.lt_or_le q p with h | h
      · obtain ⟨z, hz, a, b⟩ := (g2.cover q).2 ⟨q1, h, q3⟩
        exact ⟨z, List.mem_append_left _ hz, a, b⟩
      · exact ⟨(p, en), by simp, h, q2⟩
theorem gapsF_none (lo : Int) (l : List (Int × Int)) (h0 : 0 ≤ lo) : gapsF lo lo l = [] := by
  have g := gapsF_is (x := lo) (y := lo) l (by simp [rt]; omega)
  cases e : gapsF lo lo l with
  | nil => rfl
  | cons z r => have := g.inside z (by rw [e]; simp); omega
end Go.Proofs.Ytgploogflhfolaa

/- Spans that lie in each other or apart: the walk over the ends of those around, and each two. Nothing here speaks of a program. -/
namespace Go.Proofs.Ytgploogflhfolaa
/-- Two cross. -/
def crs (a b : Int × Int) : Prop := a.1 < b.1 ∧ b.1 < a.2 ∧ a.2 < b.2 ∨ b.1 < a.1 ∧ a.1 < b.2 ∧ b.2 < a.2
instance (a b : Int × Int) : Decidable (crs a b) := inferInstanceAs (Decidable (_ ∨ _))
theorem crs_symm {a b : Int × Int} (h : crs a b) : crs b a := by unfold crs at *; omega
/-- The ends of those around a place, the inmost first. -/
def popS (f : Int) : List Int → List Int
  | [] => []
  | t :: st => if t ≤ f then popS f st else t :: st
def nestGo : List Int → List (Int × Int) → Bool
  | _, [] => true
  | st, p :: ps =>
    match popS p.1 st with
    | [] => nestGo [p.2] ps
    | t :: st' => if t < p.2 then false else nestGo (p.2 :: t :: st') ps
theorem popS_sub {f : Int} : ∀ {st : List Int} {t : Int}, t ∈ popS f st → t ∈ st
  | t' :: st, t, h => by
    unfold popS at h
    split at h
    · exact List.mem_cons_of_mem _ (popS_sub h)
    · exact h
theorem popS_low {f : Int} : ∀ {st : List Int} {t : Int}, t ∈ st → t ∈ popS f st ∨ t ≤ f
  | t' :: st, t, h => by
    unfold popS
    split
    · rcases List.mem_cons.1 h with rfl | h
      · exact .inr (by assumption)
      · exact popS_low h
    · exact .inl h
theorem popS_sorted {f : Int} : ∀ {st : List Int}, st.Pairwise (· ≤ ·) → (popS f st).Pairwise (· ≤ ·) ∧ ∀ t ∈ popS f st, f < t
  | [], _ => ⟨List.Pairwise.nil, by simp [popS]⟩
  | t' :: st, h => by
    unfold popS
    split
    · exact popS_sorted (List.pairwise_cons.1 h).2
    · refine ⟨h, fun t ht => ?_⟩
      rcases List.mem_cons.1 ht with rfl | ht
      · omega
      · have := (List.pairwise_cons.1 h).1 t ht; omega
/-- How two stand. -/
def ord (a b : Int × Int) : Prop := a.1 < b.1 ∨ a.1 = b.1 ∧ b.2 ≤ a.2
theorem nestGo_iff : ∀ (ps done : List (Int × Int)) (st : List Int), (∀ q ∈ done, ∀ p ∈ ps, ord q p) → ps.Pairwise ord → st.Pairwise (· ≤ ·) →
    (∀ q ∈ done, q.2 ∈ st ∨ ∀ p ∈ ps, q.2 ≤ p.1) → (∀ t ∈ st, ∃ q ∈ done, q.2 = t) →
    (nestGo st ps = true ↔ (∀ q ∈ done, ∀ p ∈ ps, ¬ crs q p) ∧ ps.Pairwise (fun a b => ¬ crs a b))
  | [], done, st, _, _, _, _, _ => by simp [nestGo]
  | p :: ps, done, st, h1, h2, h3, h4, h5 => by
    obtain ⟨h6, h7⟩ := popS_sorted (f := p.1) h3
    have hp := (List.pairwise_cons.1 h2).1
    have h1p : ∀ q ∈ done, ord q p := fun q hq => h1 q hq p (by simp)
    have hin : ∀ q ∈ done, q.2 ∈ popS p.1 st ∨ q.2 ≤ p.1 := by
      intro q hq
      rcases h4 q hq with h | h
      · exact popS_low h
      · exact .inr (h p (by simp))
    have hout : ∀ t ∈ popS p.1 st, ∃ q ∈ done, q.2 = t := fun t ht => h5 t (popS_sub ht)
    have step : ∀ st', st' = popS p.1 st → (∀ t ∈ st', p.2 ≤ t) → (nestGo (p.2 :: st') ps = true ↔ (∀ q ∈ done, ∀ x ∈ p :: ps, ¬ crs q x) ∧ (p :: ps).Pairwise (fun a b => ¬ crs a b)) := by
      intro st' e hle
      subst e
      have hlow : ∀ x ∈ ps, p.1 ≤ x.1 := fun x hx => by have := hp x hx; unfold ord at this; omega
      rw [nestGo_iff ps (p :: done) (p.2 :: popS p.1 st)]
      · have hqc : ∀ q ∈ done, ¬ crs q p := by
          intro q hq hc
          have ho := h1p q hq
          unfold ord at ho
          unfold crs at hc
          rcases hin q hq with h | h
          · have := hle _ h; omega
          · omega
        constructor
        · rintro ⟨a, b⟩
          refine ⟨fun q hq x hx => ?_, List.pairwise_cons.2 ⟨fun x hx => a p (by simp) x hx, b⟩⟩
          rcases List.mem_cons.1 hx with rfl | hx
          · exact hqc q hq
          · exact a q (List.mem_cons_of_mem _ hq) x hx
        · rintro ⟨a, b⟩
          refine ⟨fun q hq x hx => ?_, (List.pairwise_cons.1 b).2⟩
          rcases List.mem_cons.1 hq with rfl | hq
          · exact (List.pairwise_cons.1 b).1 x hx
          · exact a q hq x (List.mem_cons_of_mem _ hx)
      · intro q hq x hx
        rcases List.mem_cons.1 hq with rfl | hq
        · exact hp x hx
        · exact h1 q hq x (List.mem_cons_of_mem _ hx)
      · exact (List.pairwise_cons.1 h2).2
      · exact List.pairwise_cons.2 ⟨hle, h6⟩
      · intro q hq
        rcases List.mem_cons.1 hq with rfl | hq
        · exact .inl (by simp)
        · rcases hin q hq with h | h
          · exact .inl (List.mem_cons_of_mem _ h)
          · exact .inr fun x hx => by have := hlow x hx; omega
      · intro t ht
        rcases List.mem_cons.1 ht with rfl | ht
        · exact ⟨p, by simp, rfl⟩
        · obtain ⟨q, hq, e⟩ := hout t ht
          exact ⟨q, List.mem_cons_of_mem _ hq, e⟩
    unfold nestGo
    cases hps : popS p.1 st with
    | nil => exact step [] hps.symm (by simp)
    | cons t st' =>
      have ht : t ∈ popS p.1 st := by rw [hps]; simp
      by_cases hlt : t < p.2
      · simp only [hlt, if_true]
        obtain ⟨q, hq, e⟩ := hout t ht
        have hft := h7 t ht
        have ho := h1p q hq
        constructor
        · intro h; cases h
        · rintro ⟨a, _⟩
          refine absurd ?_ (a q hq p (by simp))
          unfold ord at ho
          unfold crs
          omega
      · simp only [hlt, if_false]
        refine step (t :: st') hps.symm fun t' ht' => ?_
        rw [hps] at h6
        rcases List.mem_cons.1 ht' with rfl | ht'
        · omega
        · have := (List.pairwise_cons.1 h6).1 t' ht'; omega
theorem nestGo_all (ps : List (Int × Int)) (h : ps.Pairwise ord) : nestGo [] ps = true ↔ ps.Pairwise (fun a b => ¬ crs a b) := by
  rw [nestGo_iff ps [] [] (by simp) h (by simp) (by simp) (by simp)]
  simp
end Go.Proofs.Ytgploogflhfolaa

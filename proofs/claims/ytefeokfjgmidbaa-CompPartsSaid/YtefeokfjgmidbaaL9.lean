/- Where a number's part stands; who leads to whom stands behind. -/
import Derived.Test.YtefeokfjgmidbaaL7
import Derived.Test.YtefeokfjgmidbaaL8
set_option linter.unusedSimpArgs false
set_option linter.unusedVariables false
namespace Go.Proofs.Ytefeokfjgmidbaa
open Go Go.RowKit
/-- The place of a number's part. -/
noncomputable def posG (G : List (List Nat)) (i : Nat) : Nat := (idxP ((pG G).map nums) i).toNat
theorem pos_of {G : List (List Nat)} (hR : RG G) {i : Nat} (hi : i < G.length) :
    posG G i < (pG G).length ∧ (plG G).getD (posG G i) 0 = oG G i ∧ (pG G).getD (posG G i) [] = ptG G i ∧ i ∈ (pG G).getD (posG G i) [] ∧ idxP ((pG G).map nums) i = posG G i := by
  obtain ⟨j, h1, h2, h3, h4, h5⟩ := place_of hR hi
  have e : posG G i = j := by unfold posG; rw [h5]; omega
  rw [e]
  exact ⟨h1, h2, h3, h4, h5⟩
theorem pos_eq {G : List (List Nat)} (hR : RG G) {i j : Nat} (hj : j < (pG G).length) (h : i ∈ (pG G).getD j []) : i < G.length ∧ posG G i = j := by
  obtain ⟨h1, h2⟩ := pG_has hR hj h
  obtain ⟨p1, p2, _⟩ := pos_of hR h1
  have hl := plG_len G
  exact ⟨h1, nodup_at (plG_nodup hR) (by omega) (by omega) (by rw [p2, h2])⟩
theorem pos_same {G : List (List Nat)} (hR : RG G) {i k : Nat} (hi : i < G.length) (hk : k < G.length) : posG G i = posG G k ↔ oG G i = oG G k := by
  obtain ⟨p1, p2, _⟩ := pos_of hR hi
  obtain ⟨q1, q2, _⟩ := pos_of hR hk
  have hl := plG_len G
  constructor
  · intro h; rw [← p2, ← q2, h]
  · intro h; exact nodup_at (plG_nodup hR) (by omega) (by omega) (by rw [p2, q2, h])
theorem pos_tog {G : List (List Nat)} (hR : RG G) {i k : Nat} (hi : i < G.length) (hk : k < G.length) : posG G i = posG G k ↔ (ldB G i k = true ∧ ldB G k i = true) := by
  rw [pos_same hR hi hk, ldB_iff, ldB_iff]
  have := ofP_eq (rG_is G G.length) hi hk
  refine this.trans ?_
  unfold Tog
  constructor
  · rintro ⟨h1, h2⟩
    exact ⟨⟨by omega, by omega, by omega, by simpa using h1⟩, ⟨by omega, by omega, by omega, by simpa using h2⟩⟩
  · rintro ⟨⟨_, _, _, h1⟩, ⟨_, _, _, h2⟩⟩
    exact ⟨by simpa using h1, by simpa using h2⟩
theorem plG_nxt {G : List (List Nat)} {t : Nat} (ht : t < (pG G).length) : (plG G).getD t 0 = nxt (rdG G) (sG G).length (ptO (rdG G) (sG G).length t) := by
  rw [pG_len] at ht
  exact ordL_at ht
theorem pt_pos {G : List (List Nat)} (hR : RG G) {c t : Nat} (hc : c < G.length) (ht : t ≤ (pG G).length) : ptO (rdG G) (sG G).length t (oG G c) = true ↔ posG G c < t := by
  obtain ⟨p1, p2, _⟩ := pos_of hR hc
  have hl := plG_len G
  have e : ordL (rdG G) (sG G).length t = (plG G).take t := by
    rw [pG_len] at ht
    exact (ordL_take ht).symm
  unfold ptO
  rw [e, List.contains_iff_mem]
  constructor
  · intro h
    obtain ⟨s, hs, e2⟩ := List.getElem_of_mem h
    rw [List.length_take] at hs
    rw [List.getElem_take] at e2
    have e3 : (plG G).getD s 0 = oG G c := by simp [List.getD, List.getElem?_eq_getElem (show s < (plG G).length by omega), e2]
    have := nodup_at (plG_nodup hR) (i := s) (j := posG G c) (by omega) (by omega) (by rw [e3, p2])
    omega
  · intro h
    have e3 : (plG G)[posG G c]'(by omega) = oG G c := by
      rw [← p2]; simp [List.getD, List.getElem?_eq_getElem (show posG G c < (plG G).length by omega)]
    rw [← e3, List.mem_take_iff_getElem]
    exact ⟨posG G c, by omega, rfl⟩
theorem rdG_iff {G : List (List Nat)} (hR : RG G) {pt : Nat → Bool} {q : Nat} : rdG G pt q = true ↔ ∀ a b, b ∈ adjG G a → oG G a = q → oG G b ≠ q → pt (oG G b) = true := by
  unfold rdG rdy
  rw [List.all_eq_true]
  constructor
  · intro h a b hb ha hn
    have := h (a, b) ((mem_lnk hR.inR).2 hb)
    simp [ha, hn] at this
    exact this
  · rintro h ⟨a, b⟩ he
    have hb := (mem_lnk hR.inR).1 he
    by_cases h1 : oG G a = q
    · by_cases h2 : oG G b = q
      · simp [h2]
      · simp [h a b hb h1 h2]
    · simp [h1]
/-- Who leads to a number stands behind it, or with it. -/
theorem pos_ahead {G : List (List Nat)} (hR : RG G) {i c : Nat} (h : c ∈ adjG G i) : posG G c ≤ posG G i := by
  obtain ⟨hi, hc⟩ := hR.inR i c h
  obtain ⟨p1, p2, _⟩ := pos_of hR hi
  have h1 := ordL_next hR.goes (t := posG G i) (by rw [← pG_len]; exact p1)
  rw [← plG_nxt p1, p2] at h1
  have h2 := (rdG_iff hR).1 h1.2.2.1 i c h rfl
  by_cases e : oG G c = oG G i
  · rw [(pos_same hR hc hi).2 e]; exact Nat.le_refl _
  · have := (pt_pos hR hc (by omega)).1 (h2 e)
    omega
/-- A part that could have stood sooner has a greater least number. -/
theorem part_sooner {G : List (List Nat)} (hR : RG G) {p q : Nat} (hp : p < (pG G).length) (hq : q < p) (h : ∀ i c, c ∈ adjG G i → posG G i = p → posG G c ≠ p → posG G c < q) :
    ((pG G).getD q []).getD 0 0 < ((pG G).getD p []).getD 0 0 := by
  have hl := plG_len G
  have h1 := ordL_next hR.goes (t := q) (by rw [← pG_len]; omega)
  rw [← plG_nxt (by omega)] at h1
  have hrd : rdG G (ptO (rdG G) (sG G).length q) ((plG G).getD p 0) = true := by
    refine (rdG_iff hR).2 fun a b hb ha hn => ?_
    obtain ⟨ha2, hb2⟩ := hR.inR a b hb
    obtain ⟨a1, a2, _⟩ := pos_of hR ha2
    obtain ⟨b1, b2, _⟩ := pos_of hR hb2
    have ea : posG G a = p := nodup_at (plG_nodup hR) (by omega) (by omega) (by rw [a2, ha])
    have eb : posG G b ≠ p := fun e => hn (by rw [← b2, e])
    exact (pt_pos hR hb2 (by omega)).2 (h a b hb ea eb)
  have hpt : ptO (rdG G) (sG G).length q ((plG G).getD p 0) = false := by
    cases e : ptO (rdG G) (sG G).length q ((plG G).getD p 0) with
    | false => rfl
    | true =>
      exfalso
      have e2 : ordL (rdG G) (sG G).length q = (plG G).take q := by
        rw [pG_len] at hp
        exact (ordL_take (by omega)).symm
      unfold ptO at e
      rw [e2, List.contains_iff_mem] at e
      obtain ⟨s, hs, e3⟩ := List.getElem_of_mem e
      rw [List.length_take] at hs
      rw [List.getElem_take] at e3
      have e4 : (plG G).getD s 0 = (plG G).getD p 0 := by rw [← e3]; simp [List.getD, List.getElem?_eq_getElem (show s < (plG G).length by omega)]
      have := nodup_at (plG_nodup hR) (i := s) (j := p) (by omega) (by omega) e4
      omega
  have hlt : (plG G).getD q 0 < (plG G).getD p 0 := by
    rcases Nat.lt_trichotomy ((plG G).getD q 0) ((plG G).getD p 0) with h2 | h2 | h2
    · exact h2
    · have := nodup_at (plG_nodup hR) (i := q) (j := p) (by omega) (by omega) h2
      omega
    · rcases h1.2.2.2 _ h2 with h3 | h3
      · rw [hpt] at h3; cases h3
      · rw [hrd] at h3; cases h3
  have hr := sccs_rise (rG_is G G.length)
  have hp2 := plG_lt hR hp
  have hq2 := plG_lt hR (show q < (pG G).length by omega)
  rw [pG_at hp, pG_at (show q < (pG G).length by omega)]
  have e1 : ∀ k (h : k < (sG G).length), (sG G).getD k [] = (sG G)[k] := fun k h => by simp [List.getD, List.getElem?_eq_getElem h]
  rw [e1 _ hq2, e1 _ hp2]
  exact List.pairwise_iff_getElem.1 hr _ _ hq2 hp2 hlt
end Go.Proofs.Ytefeokfjgmidbaa
namespace Go.Proofs.Ytefeokfjgmidbaa
open Go Go.RowKit
def more (G : List (List Nat)) (i : Nat) : List (List Nat) := G ++ [[i]]
theorem more_len (G : List (List Nat)) (i : Nat) : (more G i).length = G.length + 1 := by simp [more]
theorem more_adj {G : List (List Nat)} {i a : Nat} (ha : a < G.length) : adjG (more G i) a = adjG G a := by
  unfold adjG more; simp only [List.getD]; rw [List.getElem?_append_left ha]
theorem more_new (G : List (List Nat)) (i : Nat) : adjG (more G i) G.length = [i] := by
  unfold adjG more; simp [List.getD]
theorem more_out {G : List (List Nat)} {i a : Nat} (ha : G.length < a) : adjG (more G i) a = [] := by
  unfold adjG more; simp only [List.getD]; rw [List.getElem?_eq_none (by simp; omega)]; rfl
theorem RG.more {G : List (List Nat)} (hR : RG G) {i : Nat} (hi : i < G.length) (h : G.length < 64) : RG (more G i) := by
  refine ⟨by rw [more_len]; omega, fun a => ?_, fun a b hb => ?_⟩
  · show (adjG (Ytefeokfjgmidbaa.more G i) a).Pairwise (· < ·)
    rcases Nat.lt_trichotomy a G.length with h1 | h1 | h1
    · rw [more_adj h1]; exact hR.rise a
    · rw [h1, more_new]; simp
    · rw [more_out h1]; simp
  · rw [more_len]
    have hb : b ∈ adjG (Ytefeokfjgmidbaa.more G i) a := hb
    rcases Nat.lt_trichotomy a G.length with h1 | h1 | h1
    · rw [more_adj h1] at hb; have := hR.lt a b hb; omega
    · rw [h1, more_new] at hb; simp at hb; omega
    · rw [more_out h1] at hb; cases hb
theorem more_reach {G : List (List Nat)} (hR : RG G) {i a b : Nat} (ha : a < G.length) : Reach (adjG (more G i)) a b ↔ Reach (adjG G) a b := by
  have go1 : ∀ a b, WP (adjG (more G i)) (fun _ => false) a b → a < G.length → WP (adjG G) (fun _ => false) a b := fun a b h => by
    induction h with
    | one h => exact fun _ => .one rfl
    | step _ h1 _ ih =>
      intro ha
      rw [more_adj ha] at h1
      exact .step rfl h1 (ih (hR.inR _ _ h1).2)
  have go2 : ∀ a b, WP (adjG G) (fun _ => false) a b → WP (adjG (more G i)) (fun _ => false) a b := fun a b h => by
    induction h with
    | one h => exact .one rfl
    | step _ h1 _ ih =>
      refine .step rfl ?_ ih
      rw [more_adj (hR.inR _ _ h1).1]
      exact h1
  exact ⟨fun h => go1 a b h ha, fun h => go2 a b h⟩
theorem rG_iff (H : List (List Nat)) (a b : Nat) : rG H a b = true ↔ Reach (adjG H) a b := by unfold rG; simp
theorem more_rG {G : List (List Nat)} (hR : RG G) {i a b : Nat} (ha : a < G.length) : rG (more G i) a b = rG G a b := by
  rw [Bool.eq_iff_iff, rG_iff, rG_iff, more_reach hR ha]
theorem more_none {G : List (List Nat)} (hR : RG G) {i a : Nat} (ha : a < G.length) : rG (more G i) a G.length = false := by
  rw [more_rG hR ha, Bool.eq_false_iff]
  intro h
  have := ((rG_iff _ _ _).1 h).lt hR.inR ha
  omega
theorem more_sG {G : List (List Nat)} (hR : RG G) (i : Nat) : sG (more G i) = sG G ++ [[G.length]] := by
  unfold sG sccs
  rw [more_len, List.range_succ, List.filter_append, List.map_append]
  have e1 : (List.range G.length).filter (least (rG (more G i))) = (List.range G.length).filter (least (rG G)) := List.filter_congr fun a ha => by
    have ha := List.mem_range.1 ha
    unfold least
    rw [Bool.eq_iff_iff, List.all_eq_true, List.all_eq_true]
    refine forall_congr' fun b => forall_congr' fun hb => ?_
    have hb := List.mem_range.1 hb
    rw [more_rG hR ha, more_rG hR (show b < G.length by omega)]
  have e2 : [G.length].filter (least (rG (more G i))) = [G.length] := by
    have : least (rG (more G i)) G.length = true := by
      unfold least
      rw [List.all_eq_true]
      intro b hb
      have hb := List.mem_range.1 hb
      rw [more_none hR hb]
      simp
    simp [this]
  rw [e1, e2]
  congr 1
  · refine List.map_congr_left fun v hv => ?_
    have hv := List.mem_range.1 (List.mem_filter.1 hv).1
    unfold scc
    rw [List.range_succ, List.filter_append]
    have e3 : [G.length].filter (fun x => rG (more G i) v x && rG (more G i) x v) = [] := by
      simp [more_none hR hv]
    rw [e3, List.append_nil]
    exact List.filter_congr fun x hx => by
      have hx := List.mem_range.1 hx
      rw [more_rG hR hv, more_rG hR hx]
  · have e4 : scc (rG (more G i)) (G.length + 1) G.length = [G.length] := by
      unfold scc
      rw [List.range_succ, List.filter_append]
      have e5 : (List.range G.length).filter (fun x => rG (more G i) G.length x && rG (more G i) x G.length) = [] := by
        rw [List.filter_eq_nil_iff]
        intro x hx
        have hx := List.mem_range.1 hx
        rw [more_none hR hx]
        simp
      have e6 : rG (more G i) G.length G.length = true := (rG_iff _ _ _).2 (.refl _ _)
      rw [e5]
      simp [e6]
    simp [e4]
theorem more_oG {G : List (List Nat)} (hR : RG G) {i a : Nat} (ha : a < G.length) : oG (more G i) a = oG G a := by
  have h1 : oG G a < (sG G).length := ofP_lt (rG_is G _) ha
  unfold oG ofP at h1 ⊢
  rw [more_sG hR, List.findIdx_append, if_pos h1]
theorem more_oN {G : List (List Nat)} (hR : RG G) (i : Nat) : oG (more G i) G.length = (sG G).length := by
  have h1 : (sG G).findIdx (fun p => p.contains G.length) = (sG G).length := by
    rw [List.findIdx_eq_length]
    intro p hp
    obtain ⟨k, hk, e⟩ := List.getElem_of_mem hp
    rw [Bool.eq_false_iff]
    intro hc
    have hm : G.length ∈ (sG G).getD k [] := by
      simp only [List.getD, List.getElem?_eq_getElem hk, Option.getD_some, e]
      exact List.contains_iff_mem.1 hc
    have := sG_lt hk hm
    omega
  unfold oG ofP
  rw [more_sG hR, List.findIdx_append, h1]
  simp
theorem more_rdG {G : List (List Nat)} (hR : RG G) {i : Nat} (hi : i < G.length) (h : G.length < 64) {pt : Nat → Bool} {q : Nat} (hq : q < (sG G).length) : rdG (more G i) pt q = rdG G pt q := by
  rw [Bool.eq_iff_iff, rdG_iff (hR.more hi h), rdG_iff hR]
  constructor
  · intro h1 a b hb ha hn
    obtain ⟨ha2, hb2⟩ := hR.inR a b hb
    have := h1 a b (by rw [more_adj ha2]; exact hb) (by rw [more_oG hR ha2]; exact ha) (by rw [more_oG hR hb2]; exact hn)
    rwa [more_oG hR hb2] at this
  · intro h1 a b hb ha hn
    rcases Nat.lt_trichotomy a G.length with h2 | h2 | h2
    · rw [more_adj h2] at hb
      obtain ⟨ha2, hb2⟩ := hR.inR a b hb
      rw [more_oG hR h2] at ha
      rw [more_oG hR hb2] at hn ⊢
      exact h1 a b hb ha hn
    · rw [h2, more_oN hR] at ha; omega
    · rw [more_out h2] at hb; cases hb
theorem more_ord {G : List (List Nat)} (hR : RG G) {i : Nat} (hi : i < G.length) (h : G.length < 64) : ∀ t, t ≤ (sG G).length → ordL (rdG (more G i)) ((sG G).length + 1) t = ordL (rdG G) (sG G).length t
  | 0, _ => rfl
  | t + 1, ht => by
    have ih := more_ord hR hi h t (by omega)
    have h1 := ordL_next hR.goes (t := t) (by omega)
    show ordL (rdG (more G i)) ((sG G).length + 1) t ++ [nxt _ _ (ptO _ _ t)] = ordL (rdG G) (sG G).length t ++ [nxt _ _ (ptO _ _ t)]
    have ep : ptO (rdG (more G i)) ((sG G).length + 1) t = ptO (rdG G) (sG G).length t := by unfold ptO; rw [ih]
    rw [ih, ep]
    congr 2
    refine nxt_eq (by omega) h1.2.1 ?_ ?_
    · rw [more_rdG hR hi h h1.1]; exact h1.2.2.1
    · intro j hj
      rw [more_rdG hR hi h (by omega)]
      exact h1.2.2.2 j hj
theorem more_pG {G : List (List Nat)} (hR : RG G) {i : Nat} (hi : i < G.length) (h : G.length < 64) : pG (more G i) = pG G ++ [[G.length]] := by
  have hM := hR.more hi h
  have es := more_sG hR i
  have el : (sG (more G i)).length = (sG G).length + 1 := by rw [es]; simp
  have h1 := ordL_next hM.goes (t := (sG G).length) (by omega)
  have e1 : ordL (rdG (more G i)) (sG (more G i)).length (sG G).length = ordL (rdG G) (sG G).length (sG G).length := by rw [el]; exact more_ord hR hi h _ (Nat.le_refl _)
  have e2 : nxt (rdG (more G i)) (sG (more G i)).length (ptO (rdG (more G i)) (sG (more G i)).length (sG G).length) = (sG G).length := by
    obtain ⟨a1, a2, _⟩ := h1
    generalize nxt (rdG (more G i)) (sG (more G i)).length (ptO (rdG (more G i)) (sG (more G i)).length (sG G).length) = q at *
    rcases Nat.lt_or_ge q (sG G).length with h3 | h3
    · have := ordL_all hR.goes h3
      unfold ptO at a2
      rw [e1] at a2
      have := List.contains_iff_mem.2 this
      rw [a2] at this; cases this
    · omega
  rw [pG_eq, pG_eq]
  have e3 : ordL (rdG (more G i)) (sG (more G i)).length (sG (more G i)).length = ordL (rdG G) (sG G).length (sG G).length ++ [(sG G).length] := by
    rw [show ordL (rdG (more G i)) (sG (more G i)).length (sG (more G i)).length = ordL (rdG (more G i)) (sG (more G i)).length ((sG G).length + 1) from by rw [el]]
    show ordL (rdG (more G i)) (sG (more G i)).length (sG G).length ++ [nxt _ _ (ptO _ _ (sG G).length)] = _
    rw [e2, e1]
  rw [e3, List.map_append, es]
  congr 1
  · refine List.map_congr_left fun p hp => ?_
    have := (ordL_facts hR.goes _ (Nat.le_refl (sG G).length)).2 p hp
    simp only [List.getD]
    rw [List.getElem?_append_left this]
  · simp [List.getD]
theorem more_ld {G : List (List Nat)} (hR : RG G) {i a b : Nat} (ha : a < G.length) : ldB (more G i) a b = ldB G a b := by
  rw [Bool.eq_iff_iff, ldB_iff, ldB_iff, more_len]
  have h1 := more_reach hR (i := i) (b := b) ha
  simp only [Int.toNat_natCast, h1]
  constructor
  · rintro ⟨h2, _, h3, h4⟩; exact ⟨h2, by omega, h3, h4⟩
  · rintro ⟨h2, _, h3, h4⟩; exact ⟨h2, by omega, h3, h4⟩
theorem more_ring {G : List (List Nat)} (hR : RG G) {i k : Nat} (hi : i < G.length) (h : G.length < 64) (hk : k < G.length) : ringB (more G i) k = ringB G k := by
  rw [ringB_step (hR.more hi h) (by rw [more_len]; omega), ringB_step hR hk, more_adj hk, Bool.eq_iff_iff, List.any_eq_true, List.any_eq_true]
  refine exists_congr fun c => and_congr_right fun hc => ?_
  rw [more_ld hR (hR.inR k c hc).2]
theorem more_end {G : List (List Nat)} (hR : RG G) {i : Nat} (hi : i < G.length) (h : G.length < 64) :
    ringB (more G i) G.length = false ∧ ldB (more G i) G.length i = true ∧ ldB (more G i) i G.length = false := by
  have h3 : ldB (more G i) i G.length = false := by
    rw [more_ld hR hi, Bool.eq_false_iff]
    intro hl
    have h1 := ((ldB_iff _ _ _).1 hl).2.2.2
    have := h1.lt hR.inR (by simpa using hi)
    simp at this
  refine ⟨?_, ?_, h3⟩
  · rw [ringB_step (hR.more hi h) (by rw [more_len]; omega), more_new]
    simp [h3]
  · rw [ldB_step (hR.more hi h) (by rw [more_len]; omega), more_new]
    have := ldB_self (G := more G i) (i := i) (by rw [more_len]; omega)
    simp [this]
theorem more_at {G : List (List Nat)} (hR : RG G) {i : Nat} (hi : i < G.length) (h : G.length < 64) :
    idxP ((pG (more G i)).map nums) (G.length : Nat) = (pG G).length ∧ ∃ j, j < (pG G).length ∧ idxP ((pG (more G i)).map nums) i = j := by
  have hM := hR.more hi h
  have ep := more_pG hR hi h
  have hl : (pG (more G i)).length = (pG G).length + 1 := by rw [ep]; simp
  have el : (pG (more G i)).getD (pG G).length [] = [G.length] := by rw [ep]; simp [List.getD]
  have e1 := pos_eq hM (i := G.length) (j := (pG G).length) (by omega) (by rw [el]; simp)
  have p1 := pos_of hM (i := G.length) (by rw [more_len]; omega)
  have p2 := pos_of hM (i := i) (by rw [more_len]; omega)
  refine ⟨by rw [p1.2.2.2.2, e1.2], posG (more G i) i, ?_, p2.2.2.2.2⟩
  rcases Nat.lt_or_ge (posG (more G i) i) (pG G).length with h5 | h5
  · exact h5
  · have : posG (more G i) i = (pG G).length := by have := p2.1; omega
    have h6 := p2.2.2.2.1
    rw [this, el] at h6
    simp at h6
    omega
end Go.Proofs.Ytefeokfjgmidbaa
namespace Go.Proofs.Ytefeokfjgmidbaa
open Go Go.Proofs Go.Shelf Go.RowKit Go.Lib Go.Maps
/-- A row of nothing has no room. -/
def Capd (vs : List Value) (n : Nat) : Prop := ∀ i m c, i < n → vs.getD i undef = .slice none m c → m = 0 ∧ c = 0
set_option maxRecDepth 100000 in
set_option maxHeartbeats 2000000 in
theorem copyints_any (A : Option Addr) (c m : Nat) (l : List Nat) (em : m = l.length) (hl : m ≤ 64) (hc : A = none → m = 0 ∧ c = 0) (w : World) (hA : Lies w A (ints (nums l))) :
    Calls Try.prog 30 #[.slice A m c] w fun e w' => ∃ v, e = .returned v ∧ w'.ownsRow w.heap.size 3 1 v m (ints (nums l)) ∧ Below w.heap.size w w' := by
  obtain ⟨i0, hi, hz0, hz1, hz2⟩ := info_parts Try.info3
  have NW := Lib.hid (show (∀ a, A = some a → ∀ j u, (ints (nums l))[j]? = some u → w.cell? (a.add j) = some u) from fun a ea j u hu => by
    have hj : j < (ints (nums l)).length := (List.getElem?_eq_some_iff.1 hu).1
    obtain ⟨b, o, e, _, hcell⟩ := hA (by omega)
    rw [e] at ea; cases ea
    rw [Addr.add_lit, hcell j hj]
    exact hu)
  have HC := Lib.hid hc
  have HL := Lib.hid (show (ints (nums l)).length = m * 1 by rw [ints_length, nums_len]; omega)
  have H1 := Lib.hid (show ∀ u ∈ ints (nums l), u.oneCell' = true from fun u hu => by
    unfold ints at hu
    obtain ⟨x, _, rfl⟩ := List.mem_map.1 hu
    rfl)
  clear hA hc em
  go_enter Try.func30, Try.ntmps30
  go_wp2_with (at_builtin; refine wpList_append_onto _ rfl _ _ 26 rfl w.heap.size 3 i0 (.int .i64 0) 1 8 Try.underlying26 hi hz0 hz1 hz2 rfl (by decide) _ _ _ rfl (World.ownsRow_nil _ _ _ _) A m c (ints (nums l)) rfl HL.out NW.out HC.out H1.out (by unfold maxLen; omega) (by omega) (by omega) ?_; intro v9 w9 hown9 hgrow9 hfr9; have O9 := Lib.hid hown9; have G9 := Lib.hid hgrow9; clear hown9 hgrow9 hfr9)
  go_ret
  refine ⟨_, rfl, ?_, ?_⟩
  · have := O9.out
    rw [Nat.zero_add, List.nil_append] at this
    exact this
  · exact grown_below (Below.refl _ _) (Nat.le_refl _) G9.out (fun k h => by cases h)
/-- Two own rows of different elements lie in different blocks. -/
theorem own_two {w w' : World} {B1 B2 n m : Nat} {v u : Value} {xs ys : List Value} (h : w.ownsRow B1 3 1 v n xs) (k : w.ownsRow B2 26 1 u m ys) (hg : w.grownBy w' u.ownBlock) : ∀ j, v.ownBlock = some j → w'.heap[j]? = w.heap[j]? := fun j hj =>
  hg.block j (h.lt j hj).2 (fun e => by
    rcases k.2 with ⟨e1, _⟩ | ⟨g, cap, cur, e1, _, hgb, _⟩
    · rw [e1] at e; simp [Value.ownBlock] at e
    · rw [e1] at e
      simp only [Value.ownBlock, Option.some.injEq] at e
      subst e
      exact own_ne h (b := j) (vs := cur) (T := 26) hgb (by decide) hj)
theorem take_next {G : List (List Nat)} {k : Nat} (h : k < G.length) : G.take (k + 1) = G.take k ++ [G.getD k []] := by
  rw [List.take_add_one]; simp [List.getD, List.getElem?_eq_getElem h]
set_option maxRecDepth 100000 in
set_option maxHeartbeats 4000000 in
theorem copyrows_any (A : Option Addr) (c n : Nat) (vs : List Value) (G : List (List Nat)) (en : n = G.length) (hn : n ≤ 64) (hr : ∀ i, i < n → (G.getD i []).length ≤ 64) (w : World) (hA : Gph w A vs (G.map nums)) (hc : Capd vs n) :
    Calls Try.prog 19 #[.slice A n c] w fun e w' => ∃ v vs', e = .returned v ∧ w'.ownsRow w.heap.size 26 1 v n vs' ∧ RowsO w.heap.size w' vs' G ∧ Below w.heap.size w w' := by
  obtain ⟨i0, hi, hz0, hz1, hz2⟩ := info_parts Try.info_s
  have HA := Lib.hid hA
  have HC := Lib.hid hc
  have HR := Lib.hid hr
  have EN := Lib.hid en
  have TN := Lib.hid (fun k (hk : k < n) => take_next (G := G) (k := k) (by omega))
  have TE := Lib.hid (show G.take n = G from List.take_of_length_le (by omega))
  clear hA hc hr en
  go_enter Try.func19, Try.ntmps19
  go_wp2_with fail
  go_loopw [3, 4] (fun ov iv wr => ∃ (k : Nat) (v : Value) (us : List Value), k ≤ n ∧ iv = .int .i64 k ∧ ov = v ∧ wr.ownsRow w.heap.size 26 1 v k us ∧ RowsO w.heap.size wr us (G.take k) ∧ Below w.heap.size w wr) (fun _ iv _ => n - (intOf iv).toNat)
  case atStart => exact ⟨0, _, [], by omega, rfl, rfl, World.ownsRow_nil _ _ _ _, RowsO.nil _ _, Below.refl _ _⟩
  case round =>
    obtain ⟨k, v, us, hk, rfl, rfl, ho, hrw, hb⟩ := hrel
    by_cases hlt : k < n
    · have hlt2 : (k : Int) < n := by omega
      have gA := HA.out.below hb
      obtain ⟨b1, o1, B1', d1, rfl, hb1, c1, hl1⟩ := gA.at_ (i := k) (by rw [List.length_map]; have := EN.out; omega)
      have hcap : B1' = none → (G.getD k []).length = 0 ∧ d1 = 0 := fun e => by
        obtain ⟨B, cc, e1, _⟩ := gA.row k (by rw [List.length_map]; have := EN.out; omega)
        rw [getD_map_nums, nums_len] at e1
        have hv := gA.cell (i := k) (by rw [List.length_map]; have := EN.out; omega)
        obtain ⟨b2, o2, e2, _, e3⟩ := hv
        simp only [Option.some.injEq, Addr.mk.injEq] at e2
        obtain ⟨rfl, rfl, _⟩ := e2
        rw [c1, e] at e3
        have := HC.out k _ _ hlt (Option.some.inj e3).symm
        rw [getD_map_nums, nums_len] at this
        exact this
      rw [getD_map_nums] at c1 hl1
      rw [nums_len] at c1
      obtain ⟨x, ex⟩ : ∃ x, x = (G.getD k []).length := ⟨_, rfl⟩
      rw [← ex] at c1 hcap
      have CI := Lib.hid (copyints_any B1' d1 x _ ex (by rw [ex]; exact HR.out k hlt) hcap wr hl1)
      have OW := Lib.hid ho
      have RW := Lib.hid hrw
      have HB := Lib.hid hb
      have EX := Lib.hid ex
      obtain ⟨Av, cv, rfl, _, _⟩ := own_slice ho
      clear ho hrw hb gA hcap ex hl1
      go_wp2_with (first | (go_at_call 30; (with_reducible refine CI.out.mono ?_); rintro e w3 ⟨u3, rfl, ho3, hb3⟩; obtain ⟨A3, c3, rfl, _, _⟩ := own_slice ho3; have O3 := Lib.hid ho3; have H3 := Lib.hid hb3; clear ho3 hb3) | (at_builtin; refine wpList_append_onto _ rfl _ _ 22 rfl w.heap.size 26 i0 (.slice none 0 0) 1 24 Try.underlying22 hi hz0 hz1 hz2 rfl (by decide) _ _ _ rfl (own_below (own_below OW.out H3.out) (B1 w3 _)) (some ⟨w3.heap.size, 0, none⟩) 1 1 [.slice A3 x c3] rfl rfl (fun ad had => by cases had; exact cell_one_new _ _ _) (fun h => by cases h) (by simp [Value.oneCell']) (by unfold maxLen; omega) (by omega) (by have h1 := HB.out.size; have h2 := H3.out.size; simp; omega) ?_; intro v9 w9 hown9 hgrow9 hfr9; have O9 := Lib.hid hown9; have G9 := Lib.hid hgrow9; clear hown9 hgrow9 hfr9))
      go_roundw
      case rel =>
        have hs3 := HB.out.size
        have OB := own_below (own_below OW.out H3.out) (B1 w3 (.cells #[.slice A3 x c3] 26))
        have O3' := own_below O3.out (B1 w3 (.cells #[.slice A3 x c3] 26))
        have R3 := (RW.out.below H3.out).below (B1 w3 (.cells #[.slice A3 x c3] 26))
        refine ⟨k + 1, v9, us ++ [.slice A3 x c3], by omega, by go_num, rfl, O9.out, ?_, ?_⟩
        · rw [TN.out k hlt]
          refine R3.push (v' := .slice A3 x c3) (l := G.getD k []) ?_ (fun i q hi2 e => own_two (R3.row i hi2) OB G9.out q e) (fun q hq i hi2 e => ?_)
          · rw [← EX.out]
            exact own_kept (own_lower O3' hs3) (own_two O3' OB G9.out)
          · have h1 := (O3.out.lt q hq).1
            have h2 := ((RW.out.row i hi2).lt q e).2
            omega
        · exact grown_below ((HB.out.trans (H3.out.mono HB.out.size)).trans ((B1 w3 _).mono (by have := H3.out.size; omega))) (by have := H3.out.size; simp; omega) G9.out (fun q hq => (OW.out.lt q hq).1)
      case measure => simp [intOf]; omega
    · obtain rfl : k = n := by omega
      have hlt2 : ¬ (k : Int) < k := by omega
      have OW := Lib.hid ho
      have RW := Lib.hid hrw
      have HB := Lib.hid hb
      obtain ⟨Av, cv, rfl, _, _⟩ := own_slice ho
      clear ho hrw hb
      go_wp2_with fail
      go_ret
      have R9 := RW.out
      rw [TE.out] at R9
      exact ⟨_, rfl, us, OW.out, R9, HB.out⟩
end Go.Proofs.Ytefeokfjgmidbaa
namespace Go.Proofs.Ytefeokfjgmidbaa
open Go Go.Proofs Go.Shelf Go.RowKit Go.Lib Go.Maps
set_option maxRecDepth 100000 in
set_option maxHeartbeats 4000000 in
/-- Of a wrong graph, of nothing, of as many as may be. -/
theorem cmore_no (A : Option Addr) (c m : Nat) (vs : List Value) (L : List (List Int)) (em : m = L.length) (rb : Bool) (er : rb = rightL L) (h0 : rb = false ∨ m = 0 ∨ m = 64) (a b : Int) (w : World) (hA : Gph w A vs L) :
    Calls Try.prog 6 #[.slice A m c, .int .i64 a, .int .i64 b] w fun e w' => e = .returned (.bool true) ∧ Below w.heap.size w w' := by
  have HA := Lib.hid (GB.start hA)
  have AW := Lib.hid (awake_any w)
  have GR := Lib.hid (fun w' (h : GB w w' A vs L) => great_any A c vs L w' h.g)
  have RT := Lib.hid (fun w' (h : GB w w' A vs L) => Right_any A c vs L w' h.g)
  rw [← em] at GR
  rw [← em, ← er] at RT
  have hm := hA.most
  rw [← em] at hm
  clear hA em er
  go_enter Try.func6, Try.ntmps6
  go_wp2_with fail
  refine AW.out.mono ?_
  rintro e w1 ⟨rfl, hb⟩
  have G1 := Lib.hid (HA.out.below hb)
  clear hb
  go_wp2_with fail
  refine (GR.out w1 G1.out).mono ?_
  rintro e w2 ⟨⟨gb, rfl⟩, hb⟩
  have G2 := Lib.hid (G1.out.below hb)
  clear hb
  cases gb with
  | true =>
    go_wp2_with fail
    go_ret
    exact ⟨rfl, G2.out.b⟩
  | false =>
    go_wp2_with fail
    refine (RT.out w2 G2.out).mono ?_
    rintro e w3 ⟨rfl, rfl⟩
    have hz : rb = false ∨ (rb = true ∧ m = 0) ∨ (rb = true ∧ m = 64) := by cases rb <;> simp_all
    clear h0
    rcases hz with rfl | ⟨rfl, rfl⟩ | ⟨rfl, rfl⟩
    all_goals go_wp2_with fail
    all_goals go_ret
    all_goals exact ⟨rfl, G2.out.b⟩
theorem gph_take {w : World} {A B : Option Addr} {vs : List Value} {L : List (List Int)} {k : Nat} (h : Gph w A vs L) (hl : Lies w B (vs.take k)) (hk : k ≤ L.length) : Gph w B (vs.take k) (L.take k) := by
  have e : ∀ i, i < k → (vs.take k).getD i undef = vs.getD i undef ∧ (L.take k).getD i [] = L.getD i [] := fun i hi => by
    constructor <;> simp only [List.getD, List.getElem?_take, if_pos hi]
  have h1 := h.len
  refine ⟨by simp [h1], hl, fun i hi => ?_, by have := h.most; simp; omega, fun i hi => ?_⟩
  · have hi : i < k := by simp at hi; omega
    rw [(e i hi).1, (e i hi).2]
    exact h.row i (by omega)
  · have hi : i < k := by simp at hi; omega
    rw [(e i hi).2]
    exact h.mosts i (by omega)
set_option maxRecDepth 100000 in
set_option maxHeartbeats 8000000 in
theorem cmore_any (A : Option Addr) (c n : Nat) (vs : List Value) (G : List (List Nat)) (en : n = G.length) (hR : RG G) (h0 : 0 < n) (h64 : n < 64) (hcap : Capd vs n) (a b : Int) (ha : -9223372036854775808 ≤ a ∧ a < 9223372036854775808) (hb : -9223372036854775808 ≤ b ∧ b < 9223372036854775808) (w : World) (hA : Gph w A vs (G.map nums)) :
    Calls Try.prog 6 #[.slice A n c, .int .i64 a, .int .i64 b] w fun e w' => e = .returned (.bool true) ∧ Below w.heap.size w w' := by
  obtain ⟨i0, hi, hz0, hz1, hz2⟩ := info_parts Try.info_s
  have HA := Lib.hid (GB.start hA)
  have AW := Lib.hid (awake_any w)
  have GR := Lib.hid (fun w' (h : GB w w' A vs (G.map nums)) => great_any A c vs (G.map nums) w' h.g)
  have RT := Lib.hid (fun w' (h : GB w w' A vs (G.map nums)) => Right_any A c vs (G.map nums) w' h.g)
  have LD := Lib.hid (fun a b w' (h : GB w w' A vs (G.map nums)) => Leads_any A c vs G hR a b w' h.g)
  have PP := Lib.hid (fun w' (h : GB w w' A vs (G.map nums)) => Parts_any A c vs G hR w' h.g)
  have RI := Lib.hid (fun a w' (h : GB w w' A vs (G.map nums)) => Ring_any A c vs G hR a w' h.g)
  have CR := Lib.hid (fun w' (h : GB w w' A vs (G.map nums)) => copyrows_any A c n vs G en (by omega) (fun i _ => hR.len i) w' h.g hcap)
  rw [List.length_map, ← en] at GR RT
  rw [hR.right] at RT
  rw [← en] at LD RI PP
  have h1 := Int.emod_nonneg a (show (n : Int) ≠ 0 by omega)
  have h2 := Int.emod_lt_of_pos a (show 0 < (n : Int) by omega)
  have h3 := Int.emod_nonneg b (show (n : Int) ≠ 0 by omega)
  have h4 := Int.emod_lt_of_pos b (show 0 < (n : Int) by omega)
  have PA := Lib.hid (fun w' => pick_any a n ha (by omega) w')
  have PB := Lib.hid (fun w' => pick_any b n hb (by omega) w')
  obtain ⟨i, ei⟩ : ∃ i : Nat, a % (n : Int) = i := ⟨(a % (n : Int)).toNat, by omega⟩
  obtain ⟨k, ek⟩ : ∃ k : Nat, b % (n : Int) = k := ⟨(b % (n : Int)).toNat, by omega⟩
  rw [ei] at PA h1 h2
  rw [ek] at PB h3 h4
  clear ei ek ha hb
  have hin : i < n := by omega
  have hkn : k < n := by omega
  obtain ⟨K, eK⟩ : ∃ K, K = more G i := ⟨_, rfl⟩
  have hK : RG K := by rw [eK]; exact hR.more (by omega) (by omega)
  have eKn : K.length = n + 1 := by rw [eK, more_len, en]
  have eKp : pG K = pG G ++ [[n]] := by rw [eK, more_pG hR (by omega) (by omega), en]
  obtain ⟨np, enp⟩ : ∃ np, np = (pG G).length := ⟨_, rfl⟩
  have hnp : np ≤ 64 := by rw [enp]; exact (pG_small hR).1
  have eKq : (pG K).length = np + 1 := by rw [eKp, enp]; simp
  have eK1 := more_at hR (i := i) (by omega) (by omega)
  have eK2 := more_end hR (i := i) (by omega) (by omega)
  have eK3 := more_ring hR (i := i) (k := k) (by omega) (by omega) (by omega)
  have eK4 : ldB (more G i) i k = ldB G i k := more_ld hR (by omega)
  rw [← eK, ← en, ← enp] at eK1
  rw [← eK, ← en] at eK2
  rw [← eK] at eK3 eK4
  obtain ⟨eK1a, j, hj, eK1b⟩ := eK1
  have FK := Lib.hid (And.intro eK1a (And.intro eK1b (And.intro eK2 (And.intro eK3 eK4))))
  have EK := Lib.hid (And.intro eK (And.intro eKn (And.intro eKp eKq)))
  have ENN := Lib.hid (And.intro en enp)
  have RGs := Lib.hid (And.intro hR hK)
  have RT2 := Lib.hid (fun A' c' vs' w' (h : Gph w' A' vs' (K.map nums)) => Right_any A' c' vs' (K.map nums) w' h)
  have LD2 := Lib.hid (fun A' c' vs' a b w' (h : Gph w' A' vs' (K.map nums)) => Leads_any A' c' vs' K hK a b w' h)
  have PP2 := Lib.hid (fun A' c' vs' w' (h : Gph w' A' vs' (K.map nums)) => Parts_any A' c' vs' K hK w' h)
  have RI2 := Lib.hid (fun A' c' vs' a w' (h : Gph w' A' vs' (K.map nums)) => Ring_any A' c' vs' K hK a w' h)
  have PT2 := Lib.hid (fun A' c' vs' a w' (h : Gph w' A' vs' (K.map nums)) => Part_any A' c' vs' K hK a w' h)
  rw [List.length_map, eKn, hK.right] at RT2
  rw [eKn] at LD2 PP2 RI2 PT2
  clear hA en enp eK eKn eKp eKq eK1a eK1b eK2 eK3 eK4 hR hK hcap
  go_enter Try.func6, Try.ntmps6
  go_wp2_with fail
  refine AW.out.mono ?_
  rintro e w1 ⟨rfl, hb⟩
  have G1 := Lib.hid (HA.out.below hb)
  clear hb
  go_wp2_with fail
  refine (GR.out w1 G1.out).mono ?_
  rintro e w2 ⟨⟨gb, rfl⟩, hb⟩
  have G2 := Lib.hid (G1.out.below hb)
  clear hb
  cases gb with
  | true =>
    go_wp2_with fail
    go_ret
    exact ⟨rfl, G2.out.b⟩
  | false =>
    have hn0 : ((n : Int) == 0) = false := by rw [beq_eq_false_iff_ne]; omega
    have hn64 : ((n : Int) == 64) = false := by rw [beq_eq_false_iff_ne]; omega
    go_wp2_with fail
    refine (RT.out w2 G2.out).mono ?_
    rintro e w3 ⟨rfl, rfl⟩
    go_wp2_with fail
    refine (PA.out _).mono ?_
    rintro e w4 ⟨rfl, rfl⟩
    go_wp2_with fail
    refine (PB.out _).mono ?_
    rintro e w4 ⟨rfl, rfl⟩
    go_wp2_with fail
    refine (CR.out _ G2.out).mono ?_
    rintro e w4 ⟨v4, us4, rfl, ho4, hr4, hb4⟩
    have G4 := Lib.hid (G2.out.below hb4)
    have O4 := Lib.hid ho4
    have R4 := Lib.hid hr4
    have H4 := Lib.hid hb4
    obtain ⟨A4, c4, rfl, _, _⟩ := own_slice ho4
    clear ho4 hr4 hb4 PA PB CR RT GR AW HA G1
    go_wp2_with (at_builtin; refine wpList_append_onto _ rfl _ _ 22 rfl w3.heap.size 26 i0 (.slice none 0 0) 1 24 Try.underlying22 hi hz0 hz1 hz2 rfl (by decide) _ _ _ rfl (own_below (own_below O4.out (B1 w4 _)) (B1 _ _)) (some ⟨w4.heap.size + 1, 0, none⟩) 1 1 [.slice (some ⟨w4.heap.size, 0, none⟩) 1 1] rfl rfl (fun ad had => by cases had; simpa using cell_one_new (w4.alloc (.cells #[.int .i64 i] 3)) (.slice (some ⟨w4.heap.size, 0, none⟩) 1 1) 26) (fun h => by cases h) (by simp [Value.oneCell']) (by unfold maxLen; omega) (by omega) (by have h1 := H4.out.size; simp; omega) ?_; intro v9 w9 hown9 hgrow9 hfr9; have O9 := Lib.hid hown9; have G9 := Lib.hid hgrow9; clear hown9 hgrow9 hfr9)
    have BW : Below w4.heap.size w4 ((w4.alloc (.cells #[.int .i64 i] 3)).alloc (.cells #[.slice (some ⟨w4.heap.size, 0, none⟩) 1 1] 26)) := (B1 w4 _).trans ((B1 _ _).mono (by simp))
    have OB := own_below O4.out BW
    have X9 := Lib.hid (G2.out.below (grown_below (H4.out.trans (BW.mono H4.out.size)) (by have := H4.out.size; simp; omega) G9.out (fun q hq => (O4.out.lt q hq).1)))
    have RN : ((w4.alloc (.cells #[.int .i64 i] 3)).alloc (.cells #[.slice (some ⟨w4.heap.size, 0, none⟩) 1 1] 26)).ownsRow w3.heap.size 3 1 (.slice (some ⟨w4.heap.size, 0, none⟩) 1 1) ([i] : List Nat).length (ints (nums [i])) :=
      own_below (own_lower (own_built w4 3 1 1 (ints (nums [i])) rfl (by unfold maxLen; omega)) H4.out.size) (B1 _ _)
    have R9 : RowsO w3.heap.size w9 (us4 ++ [.slice (some ⟨w4.heap.size, 0, none⟩) 1 1]) K := by
      rw [EK.out.1]
      refine (R4.out.below BW).push (l := [i]) (own_kept RN (own_two RN OB G9.out)) (fun r q hi2 e => own_two ((R4.out.below BW).row r hi2) OB G9.out q e) (fun q hq r hi2 e => ?_)
      have h2 := ((R4.out.row r hi2).lt q e).2
      simp only [Value.ownBlock, Option.some.injEq] at hq
      omega
    have O9' := O9.out
    rw [← EK.out.2.1] at O9'
    obtain ⟨A9, c9, rfl, hg9⟩ := gph_parts O9' R9 (by rw [EK.out.2.1]; omega) (fun r _ => RGs.out.2.len r)
    have Y9 := Lib.hid hg9
    rw [EK.out.2.1]
    clear hg9 O9' R9 RN OB BW O9 G9 O4 R4 H4 G4 G2
    go_wp2_with fail
    refine (PP2.out _ _ _ _ Y9.out).mono ?_
    rintro e w10 ⟨vl, vsl, rfl, hol, hrl, hb⟩
    obtain ⟨Al, cl, rfl, hgl⟩ := gph_parts hol hrl (pG_small RGs.out.2).1 (fun r hr => ((pG_small RGs.out.2).2 r hr).2)
    have hlc : np + 1 ≤ cl := by
      obtain ⟨A', c', e', _, h'⟩ := own_slice hol
      cases e'
      rw [← EK.out.2.2.2]; exact h'
    have X10 := Lib.hid (X9.out.below hb)
    have Y10 := Lib.hid (Y9.out.below hb)
    have L10 := Lib.hid hgl
    clear hb hol hrl hgl X9 Y9
    rw [EK.out.2.2.2]
    go_wp2_with fail
    refine (PT2.out _ _ _ _ _ Y10.out).mono ?_
    rintro e w11 ⟨rfl, hb⟩
    rw [FK.out.1]
    have X11 := Lib.hid (X10.out.below hb)
    have Y11 := Lib.hid (Y10.out.below hb)
    have L11 := Lib.hid (L10.out.below hb)
    clear hb X10 Y10 L10
    go_wp2_with fail
    refine (RT2.out _ _ _ _ Y11.out).mono ?_
    rintro e w12 ⟨rfl, rfl⟩
    go_wp2_with fail
    refine (PT2.out _ _ _ _ _ Y11.out).mono ?_
    rintro e w13 ⟨rfl, hb⟩
    rw [FK.out.2.1]
    have X13 := Lib.hid (X11.out.below hb)
    have Y13 := Lib.hid (Y11.out.below hb)
    have L13 := Lib.hid (L11.out.below hb)
    clear hb X11 Y11 L11
    obtain ⟨bl, ol, Bl, dl, rfl, hbl, hcl, _⟩ := L13.out.at_ (i := np) (by rw [List.length_map, EK.out.2.2.2]; omega)
    have el : (pG K).getD np [] = [n] := by rw [EK.out.2.2.1, ENN.out.2]; simp [List.getD]
    rw [getD_map_nums, nums_len, el] at hcl
    simp only [List.length_singleton] at hcl
    have hj0 : ¬ (np : Int) ≤ j := by omega
    have hnp1 : ¬ ((np + 1 : Nat) : Int) ≤ np := by omega
    clear el
    go_wp2_with fail
    refine (RI2.out _ _ _ _ _ Y13.out).mono ?_
    rintro e w14 ⟨rfl, hb⟩
    rw [FK.out.2.2.1.1]
    have X14 := Lib.hid (X13.out.below hb)
    have Y14 := Lib.hid (Y13.out.below hb)
    have L14 := Lib.hid (L13.out.below hb)
    clear hb X13 Y13 L13
    go_wp2_with fail
    refine (LD2.out _ _ _ _ _ _ Y14.out).mono ?_
    rintro e w15 ⟨rfl, hb⟩
    rw [FK.out.2.2.1.2.1]
    have X15 := Lib.hid (X14.out.below hb)
    have Y15 := Lib.hid (Y14.out.below hb)
    have L15 := Lib.hid (L14.out.below hb)
    clear hb X14 Y14 L14
    go_wp2_with fail
    refine (LD2.out _ _ _ _ _ _ Y15.out).mono ?_
    rintro e w16 ⟨rfl, hb⟩
    rw [FK.out.2.2.1.2.2]
    have X16 := Lib.hid (X15.out.below hb)
    have Y16 := Lib.hid (Y15.out.below hb)
    have L16 := Lib.hid (L15.out.below hb)
    clear hb X15 Y15 L15
    go_wp2_with fail
    refine (PP.out _ X16.out).mono ?_
    rintro e w17 ⟨vo, vso, rfl, hoo, hro, hb⟩
    obtain ⟨Ao, co, rfl, hgo⟩ := gph_parts hoo hro (pG_small RGs.out.1).1 (fun r hr => ((pG_small RGs.out.1).2 r hr).2)
    have X17 := Lib.hid (X16.out.below hb)
    have Y17 := Lib.hid (Y16.out.below hb)
    have L17 := Lib.hid (L16.out.below hb)
    have Z17 := Lib.hid hgo
    clear hb hoo hro hgo X16 Y16 L16
    rw [← ENN.out.2]
    go_wp2_with fail
    refine (RI.out _ _ X17.out).mono ?_
    rintro e w18 ⟨rfl, hb⟩
    have X18 := Lib.hid (X17.out.below hb)
    have Y18 := Lib.hid (Y17.out.below hb)
    have L18 := Lib.hid (L17.out.below hb)
    have Z18 := Lib.hid (Z17.out.below hb)
    clear hb Z17 X17 Y17 L17
    go_wp2_with fail
    refine (RI2.out _ _ _ _ _ Y18.out).mono ?_
    rintro e w19 ⟨rfl, hb⟩
    rw [FK.out.2.2.2.1]
    generalize ringB G k = r1
    have hr1 : (r1 != r1) = false := by cases r1 <;> rfl
    have X19 := Lib.hid (X18.out.below hb)
    have Y19 := Lib.hid (Y18.out.below hb)
    have L19 := Lib.hid (L18.out.below hb)
    have Z19 := Lib.hid (Z18.out.below hb)
    clear hb Z18 X18 Y18 L18
    go_wp2_with fail
    refine (LD.out _ _ _ X19.out).mono ?_
    rintro e w20 ⟨rfl, hb⟩
    have X20 := Lib.hid (X19.out.below hb)
    have Y20 := Lib.hid (Y19.out.below hb)
    have L20 := Lib.hid (L19.out.below hb)
    have Z20 := Lib.hid (Z19.out.below hb)
    clear hb Z19 X19 Y19 L19
    go_wp2_with fail
    refine (LD2.out _ _ _ _ _ _ Y20.out).mono ?_
    rintro e w21 ⟨rfl, hb⟩
    rw [FK.out.2.2.2.2]
    generalize ldB G i k = r2
    have hr2 : (r2 != r2) = false := by cases r2 <;> rfl
    have X21 := Lib.hid (X20.out.below hb)
    have Y21 := Lib.hid (Y20.out.below hb)
    have L21 := Lib.hid (L20.out.below hb)
    have Z21 := Lib.hid (Z20.out.below hb)
    clear hb Z20 X20 Y20 L20
    go_wp2_with fail
    have hLl : Lies w21 (some ⟨bl, ol, none⟩) vsl := L21.out.out
    have hvl : vsl.length = np + 1 := by have := L21.out.len; rw [List.length_map, EK.out.2.2.2] at this; exact this
    obtain ⟨W1, eW1⟩ : ∃ W1, W1 = w21.drew.alloc (.cells #[] 26) := ⟨_, rfl⟩
    have hB1 : Below w21.heap.size w21 W1 := by rw [eW1]; exact ⟨rfl, rfl, rfl, by simp, fun k hk => heap_alloc_old w21.drew _ hk⟩
    have hO1 : W1.ownsRow w21.heap.size 26 1 (.slice (some ⟨w21.heap.size, 0, none⟩) 0 0) 0 [] := by
      rw [eW1]; exact own_built w21.drew 26 0 1 [] rfl (by unfold maxLen; omega)
    obtain ⟨v1, W2, hrun1, own1, grow1, fr1⟩ := run_append_onto (P := Try.prog) W1 w21.heap.size 22 22 26 i0 (.slice none 0 0) 1 24 Try.underlying22 hi hz0 hz1 hz2 rfl (by decide) _ 0 [] hO1 (some ⟨bl, ol, none⟩) np cl (vsl.take np) (by rw [List.length_take]; omega)
      (fun ad had jj u hu => by
        cases had
        obtain ⟨b', o', e', _, hcell⟩ := (hLl.below hB1) (by omega)
        simp only [Option.some.injEq, Addr.mk.injEq] at e'
        obtain ⟨rfl, rfl, _⟩ := e'
        have hjj : jj < np := by have := (List.getElem?_eq_some_iff.1 hu).1; rw [List.length_take] at this; omega
        rw [List.getElem?_take, if_pos hjj] at hu
        rw [Addr.add_lit, hcell jj (by omega)]
        exact hu) (fun h => by cases h)
      (fun u hu => by
        have hu := List.mem_of_mem_take hu
        obtain ⟨r, hr, rfl⟩ := List.getElem_of_mem hu
        obtain ⟨B, cc, e, _⟩ := L21.out.row r (by rw [List.length_map, EK.out.2.2.2]; omega)
        have : vsl[r] = vsl.getD r undef := by simp [List.getD, List.getElem?_eq_getElem hr]
        rw [this, e]; rfl) (by unfold maxLen; omega) (by omega) (by have := hB1.size; omega)
    obtain ⟨A8, h8a, h8b⟩ : ∃ A8 : Addr, (cl = np + 1 → A8 = ⟨bl, ol, none⟩) ∧ (¬ cl = np + 1 → A8 = ⟨bl, ol + (np + 1), none⟩) := by
      by_cases e : cl = np + 1
      · exact ⟨_, fun _ => rfl, fun h => absurd e h⟩
      · exact ⟨_, fun h => absurd h e, fun _ => rfl⟩
    obtain ⟨v2, W3, hrun2, own2, grow2, fr2⟩ := run_append_onto (P := Try.prog) W2 w21.heap.size 22 22 26 i0 (.slice none 0 0) 1 24 Try.underlying22 hi hz0 hz1 hz2 rfl (by decide) v1 _ _ own1 (some A8) 0 (cl - (np + 1)) [] rfl (fun _ _ jj u hu => by simp at hu) (fun h => by cases h) (fun u hu => by cases hu) (by unfold maxLen; omega) (by omega) (by have := hB1.size; have := grow1.size; omega)
    rw [Nat.add_zero, Nat.zero_add, List.nil_append, List.append_nil] at own2
    rw [Nat.zero_add, List.nil_append] at own1
    obtain ⟨A2, c2, rfl, _, _⟩ := own_slice own2
    have hB2 : Below w21.heap.size w21 W2 := grown_below hB1 hB1.size grow1 (fun q hq => by simp only [Value.ownBlock, Option.some.injEq] at hq; omega)
    have hB3 : Below w21.heap.size w21 W3 := grown_below hB2 hB2.size grow2 (fun q hq => (own1.lt q hq).1)
    have hG3 : Gph W3 A2 (vsl.take np) ((pG G).map nums) := by
      have h1 := gph_take (k := np) (L21.out.below hB3) (own_lies1 own2) (by rw [List.length_map, EK.out.2.2.2]; omega)
      have e : ((pG K).map nums).take np = (pG G).map nums := by rw [EK.out.2.2.1, List.map_append, List.take_append_of_le_length (by rw [List.length_map]; have := ENN.out.2; omega), List.take_of_length_le (by rw [List.length_map]; have := ENN.out.2; omega)]
      rw [e] at h1
      exact h1
    have X22 := Lib.hid (X21.out.below hB3)
    have Z22 := Lib.hid (Z21.out.below hB3)
    have N22 := Lib.hid hG3
    obtain ⟨Ws, w0e, w1e, w2e, w3e⟩ : ∃ Ws : Nat → World, Ws 0 = w21.drew ∧ Ws 1 = W1 ∧ Ws 2 = W2 ∧ Ws 3 = W3 := ⟨fun p => match p with | 0 => w21.drew | 1 => W1 | 2 => W2 | _ => W3, rfl, rfl, rfl, rfl⟩
    have WE := Lib.hid (And.intro w0e (And.intro w1e (And.intro w2e w3e)))
    have EW1 := Lib.hid eW1
    have hwr : IntKind.i64.wrap ((np : Int) + 1) = (np : Int) + 1 := IntWalk.i64_in _ (by omega)
    clear hLl hB1 hO1 own1 grow1 fr1 own2 grow2 fr2 hB2 hB3 hG3 eW1 X21 Y21 L21 Z21
    refine wp_region_of_any (by kernel_rfl) ?_
    refine wpAnyIn_puts (by kernel_rfl) (by kernel_rfl) 3 Ws (fun q => match q with | 0 => 0 | 1 => 4 | _ => 9)
      (fun j => match j with | 0 => .slice (some ⟨w21.heap.size, 0, none⟩) 0 0 | 1 => .slice (some ⟨bl, ol, none⟩) (np + 1) cl | 2 => .int .i64 np | 3 => .slice (some ⟨bl, ol, none⟩) np cl | 4 => v1 | 5 => .slice (some ⟨bl, ol, none⟩) (np + 1) cl | 6 => .int .i64 np | 7 => .int .i64 ((np : Int) + 1) | 8 => .slice (some A8) 0 (cl - (np + 1)) | 9 => .slice A2 np c2 | _ => .slice A2 np c2)
      w0e (by kernel_rfl) ?hop ?hend
    case hend =>
      rw [w3e]
      simp only [putIdx]
      go_simp
      go_wp2_with fail
      have SR := rows_same A2 Ao c2 co _ _ _ _ W3 N22.out Z22.out
      rw [List.length_map, ← ENN.out.2] at SR
      refine SR.mono ?_
      rintro e w23 ⟨rfl, hb⟩
      have X23 := Lib.hid (X22.out.below hb)
      clear hb SR
      go_wp2_with fail
      go_ret
      exact ⟨by simp, X23.out.b⟩
    case hop =>
      intro j o hj p a hp e1 e2 e3 hrest hdep
      have hjl : j < 11 := (List.getElem?_eq_some_iff.1 hj).1
      have q11 : a.tmps[11]?.getD undef = .slice (some ⟨bl, ol, none⟩) (np + 1) cl := hrest 11 (by kernel_rfl)
      have q12 : a.tmps[12]?.getD undef = .int .i64 np := hrest 12 (by kernel_rfl)
      have H1 := Lib.hid e1
      have H3 := Lib.hid e3
      have HD := Lib.hid hdep
      clear hrest e1 e2 e3 hdep w0e w1e w2e w3e
      rcases (show j = 0 ∨ j = 1 ∨ j = 2 ∨ j = 3 ∨ j = 4 ∨ j = 5 ∨ j = 6 ∨ j = 7 ∨ j = 8 ∨ j = 9 ∨ j = 10 by omega) with rfl | rfl | rfl | rfl | rfl | rfl | rfl | rfl | rfl | rfl | rfl
      all_goals (simp only [List.getElem?_cons_zero, List.getElem?_cons_succ, Option.some.injEq] at hj; subst hj)
      · obtain rfl : p = 0 := H1.out 0 (by omega) rfl
        obtain ⟨w0e, w1e, w2e, w3e⟩ := WE.out
        refine Gives.value (v := .slice (some ⟨w21.heap.size, 0, none⟩) 0 0) (w := W1) ?_ ⟨rfl, w1e.symm⟩
        rw [w0e, EW1.out]
        go_simp
      · refine Gives.value (v := .slice (some ⟨bl, ol, none⟩) (np + 1) cl) (w := Ws p) ?_ ⟨rfl, rfl⟩
        go_simp
      · refine Gives.value (v := .int .i64 np) (w := Ws p) ?_ ⟨rfl, rfl⟩
        go_simp
      · have d126 : a.tmps[126]?.getD undef = .slice (some ⟨bl, ol, none⟩) (np + 1) cl := HD.out 1 126 rfl (by kernel_rfl)
        have d127 : a.tmps[127]?.getD undef = .int .i64 np := HD.out 2 127 rfl (by kernel_rfl)
        have hcl : np ≤ cl := by omega
        have hcli : (np : Int) ≤ cl := by omega
        refine Gives.value (v := .slice (some ⟨bl, ol, none⟩) np cl) (w := Ws p) ?_ ⟨rfl, rfl⟩
        go_simp
      · have d125' : a.eval (.tmp 125) = .slice (some ⟨w21.heap.size, 0, none⟩) 0 0 := by show a.tmps.getD 125 undef = _; rw [Array.getD_eq_getD_getElem?]; exact HD.out 0 125 rfl (by kernel_rfl)
        have d128' : a.eval (.tmp 128) = .slice (some ⟨bl, ol, none⟩) np cl := by show a.tmps.getD 128 undef = _; rw [Array.getD_eq_getD_getElem?]; exact HD.out 3 128 rfl (by kernel_rfl)
        obtain rfl : p = 1 := H1.out 1 (by omega) rfl
        obtain ⟨w0e, w1e, w2e, w3e⟩ := WE.out
        refine Gives.value (v := v1) (w := W2) ?_ ⟨rfl, w2e.symm⟩
        rw [w1e]
        simp only [execOp, resolve, invoke, builtin, Sem.run_bind, Sem.run_pure, Result.andThen_ok, List.map_toArray, List.map_cons, List.map_nil, d125', d128', hrun1]
      · refine Gives.value (v := .slice (some ⟨bl, ol, none⟩) (np + 1) cl) (w := Ws p) ?_ ⟨rfl, rfl⟩
        go_simp
      · refine Gives.value (v := .int .i64 np) (w := Ws p) ?_ ⟨rfl, rfl⟩
        go_simp
      · have d131 : a.tmps[131]?.getD undef = .int .i64 np := HD.out 6 131 rfl (by kernel_rfl)
        refine Gives.value (v := .int .i64 ((np : Int) + 1)) (w := Ws p) ?_ ⟨rfl, rfl⟩
        go_simp
      · have d130 : a.tmps[130]?.getD undef = .slice (some ⟨bl, ol, none⟩) (np + 1) cl := HD.out 5 130 rfl (by kernel_rfl)
        have d132 : a.tmps[132]?.getD undef = .int .i64 ((np : Int) + 1) := HD.out 7 132 rfl (by kernel_rfl)
        have hk1 : (0 : Int) ≤ (np : Int) + 1 := by omega
        have hk2 : (np : Int) + 1 ≤ ((np + 1 : Nat) : Int) := by omega
        have hk3 : ((np : Int) + 1).toNat = np + 1 := by omega
        refine Gives.value (v := .slice (some A8) 0 (cl - (np + 1))) (w := Ws p) ?_ ⟨rfl, rfl⟩
        by_cases e8 : cl = np + 1
        · rw [h8a e8]
          go_simp
        · rw [h8b e8]
          go_simp
      · have d129' : a.eval (.tmp 129) = v1 := by show a.tmps.getD 129 undef = _; rw [Array.getD_eq_getD_getElem?]; exact HD.out 4 129 rfl (by kernel_rfl)
        have d133' : a.eval (.tmp 133) = .slice (some A8) 0 (cl - (np + 1)) := by show a.tmps.getD 133 undef = _; rw [Array.getD_eq_getD_getElem?]; exact HD.out 8 133 rfl (by kernel_rfl)
        obtain rfl : p = 2 := H1.out 2 (by omega) rfl
        obtain ⟨w0e, w1e, w2e, w3e⟩ := WE.out
        refine Gives.value (v := .slice A2 np c2) (w := W3) ?_ ⟨rfl, w3e.symm⟩
        rw [w2e]
        simp only [execOp, resolve, invoke, builtin, Sem.run_bind, Sem.run_pure, Result.andThen_ok, List.map_toArray, List.map_cons, List.map_nil, d129', d133', hrun2]
      · have d134 : a.tmps[134]?.getD undef = .slice A2 np c2 := HD.out 9 134 rfl (by kernel_rfl)
        refine Gives.value (v := .slice A2 np c2) (w := Ws p) ?_ ⟨rfl, rfl⟩
        go_simp
end Go.Proofs.Ytefeokfjgmidbaa

/- Plain facts of layer 7: two texts with a gap between them. -/
import Derived.Test.YtfghfnpiaccfaaaGreatDoorG5
import Derived.Test.YtfghfnpiaccfaaaGreatDoorGA
import Derived.Test.YtfghfnpiaccfaaaGreatDoorGD
import Derived.Test.YtfghfnpiaccfaaaGreatDoorH1
import Derived.KernelRfl
import Derived.Test.YtfghfnpiaccfaaaGreatDoorD6
set_option linter.unusedSimpArgs false
set_option linter.unusedVariables false
namespace Go.Proofs.YtfghfnpiaccfaaaGreatDoor
/-- What may stand between two texts. -/
structure Gap (x : List Nat) : Prop where
  lt : ∀ y ∈ x, y < 256
  hd : ∀ c r, x = c :: r → c = 10 ∨ c = 32
  ne : x ≠ []
  len : x.length ≤ 5
  skip : ∀ (g : Bool) (b : List Nat), sk g (x ++ b) = x.length + sk false b
theorem gap0 : Gap [10] := ⟨by simp, fun c r e => by cases e; exact .inl rfl, by simp, by simp, fun g b => by cases g <;> simp [sk, bln] <;> omega⟩
theorem gap1 : Gap [10, 32, 9, 13] := ⟨by simp, fun c r e => by cases e; exact .inl rfl, by simp, by simp, fun g b => by cases g <;> simp [sk, bln] <;> omega⟩
theorem gap2 : Gap [10, 35, 120, 10] := ⟨by simp, fun c r e => by cases e; exact .inl rfl, by simp, by simp, fun g b => by cases g <;> simp [sk, bln] <;> omega⟩
theorem gap3 : Gap [32, 10, 35, 10, 10] := ⟨by simp, fun c r e => by cases e; exact .inr rfl, by simp, by simp, fun g b => by cases g <;> simp [sk, bln] <;> omega⟩
section
variable {a x b : List Nat} {N : Nat}
theorem Gap.hd2 (hx : Gap x) : ∀ c r, x ++ b = c :: r → c = 10 ∨ c = 32 := by
  intro c r e
  cases x with
  | nil => exact absurd rfl hx.ne
  | cons d t => cases e; exact hx.hd _ _ rfl
theorem lt_app {p q : List Nat} (hp : ∀ y ∈ p, y < 256) (hq : ∀ y ∈ q, y < 256) : ∀ y ∈ p ++ q, y < 256 := fun y hy => by
  rcases List.mem_append.1 hy with h | h
  · exact hp y h
  · exact hq y h
theorem join_at (ha : ∀ y ∈ a, y < 256) (hb : ∀ y ∈ b, y < 256) (hx : Gap x) {k : Nat} (hp : pos (a ++ (x ++ b)) k = pos a k) (h : stp a k = false) : beg (a ++ (x ++ b)) k = beg a k ∧ ow (a ++ (x ++ b)) k = ow a k := by
  obtain ⟨y, h1, h2, _, _⟩ := pos_more ha h
  have h3 := beg_le ha k
  have h4 : beg a k ≠ a.length := fun e => h2 ((ow_end ha h1).1.2 e)
  have h5 := pos_le ha k
  have e1 : beg (a ++ (x ++ b)) k = beg a k := by
    unfold beg at h3 h4 ⊢
    rw [hp, List.drop_append_of_le_length h5, (sk_app (a.drop (pos a k)) (x ++ b) false).1 (by rw [List.length_drop]; omega)]
  refine ⟨e1, ?_⟩
  have h6 : wd (a.drop (beg a k)) = some y := h1
  rw [h1]
  unfold ow
  rw [e1, List.drop_append_of_le_length h3]
  exact wd_app (drop_lt ha _) (lt_app hx.lt hb) hx.hd2 (by intro e; rw [List.drop_eq_nil_iff] at e; omega) h6
theorem join_pos (ha : ∀ y ∈ a, y < 256) (hb : ∀ y ∈ b, y < 256) (hx : Gap x) (hNb : ∀ j, j < N → stp a j = false) : ∀ k, k ≤ N → pos (a ++ (x ++ b)) k = pos a k
  | 0, _ => rfl
  | k + 1, hk => by
    obtain ⟨e1, e2⟩ := join_at ha hb hx (join_pos ha hb hx hNb k (by omega)) (hNb k (by omega))
    obtain ⟨y, h1, _⟩ := pos_more ha (hNb k (by omega))
    rw [pos_some h1, pos_some (e2.trans h1), e1]
/-- The words of the text ahead of the gap. -/
theorem join_left (ha : ∀ y ∈ a, y < 256) (hb : ∀ y ∈ b, y < 256) (hx : Gap x) (hNb : ∀ j, j < N → stp a j = false) {k : Nat} (hk : k < N) : beg (a ++ (x ++ b)) k = beg a k ∧ ow (a ++ (x ++ b)) k = ow a k :=
  join_at ha hb hx (join_pos ha hb hx hNb k (by omega)) (hNb k hk)
theorem drop_far (q : Nat) : (a ++ (x ++ b)).drop (a.length + x.length + q) = b.drop q := by
  have e : a.length + x.length = (a ++ x).length := by simp
  rw [← List.append_assoc, e, ← List.drop_drop, List.drop_left]
/-- The words of the text behind the gap. -/
theorem join_right (ha : ∀ y ∈ a, y < 256) (hb : ∀ y ∈ b, y < 256) (hx : Gap x) (hNb : ∀ j, j < N → stp a j = false) {e : Wd} (hN : ow a N = some e) (hk : e.kind = 1) :
    ∀ j, beg (a ++ (x ++ b)) (N + j) = a.length + x.length + beg b j ∧ ow (a ++ (x ++ b)) (N + j) = ow b j
  | 0 => by
    have h1 := join_pos ha hb hx hNb N (Nat.le_refl _)
    have h2 := (ow_end ha hN).1.1 hk
    have h5 := pos_le ha N
    have e1 : beg (a ++ (x ++ b)) N = a.length + x.length + beg b 0 := by
      unfold beg at h2 ⊢
      rw [h1, List.drop_append_of_le_length h5]
      obtain ⟨g, hg⟩ := (sk_app (a.drop (pos a N)) (x ++ b) false).2 (by rw [List.length_drop]; omega)
      rw [hg, hx.skip, List.length_drop]
      show _ = a.length + x.length + (0 + sk false (b.drop 0))
      rw [List.drop_zero]
      omega
    refine ⟨e1, ?_⟩
    unfold ow
    rw [Nat.add_zero, e1, drop_far]
  | j + 1 => by
    obtain ⟨e1, e2⟩ := join_right ha hb hx hNb hN hk j
    have e3 : pos (a ++ (x ++ b)) (N + j + 1) = a.length + x.length + pos b (j + 1) := by
      cases h : ow b j with
      | none => rw [pos_none h, pos_none (e2.trans h), e1]
      | some y => rw [pos_some h, pos_some (e2.trans h), e1]; omega
    have e4 : beg (a ++ (x ++ b)) (N + j + 1) = a.length + x.length + beg b (j + 1) := by
      unfold beg
      rw [e3, drop_far]
      omega
    refine ⟨e4, ?_⟩
    unfold ow
    rw [show N + (j + 1) = N + j + 1 from rfl, e4, drop_far]
theorem stp_ow {p q : List Nat} {i j : Nat} (h : ow p i = ow q j) : stp p i = stp q j := by unfold stp; rw [h]
/-- Where the words of both together end. -/
theorem join_ends (ha : ∀ y ∈ a, y < 256) (hb : ∀ y ∈ b, y < 256) (hx : Gap x) (hNb : ∀ j, j < N → stp a j = false) {e : Wd} (hN : ow a N = some e) (hk : e.kind = 1) {M : Nat} (hM : stp b M = true) (hMb : ∀ j, j < M → stp b j = false) :
    stp (a ++ (x ++ b)) (N + M) = true ∧ ∀ j, j < N + M → stp (a ++ (x ++ b)) j = false := by
  refine ⟨(stp_ow (join_right ha hb hx hNb hN hk M).2).trans hM, fun j hj => ?_⟩
  by_cases h : j < N
  · exact (stp_ow (join_left ha hb hx hNb h).2).trans (hNb j h)
  · obtain ⟨i, rfl⟩ : ∃ i, j = N + i := ⟨j - N, by omega⟩
    exact (stp_ow (join_right ha hb hx hNb hN hk i).2).trans (hMb i (by omega))
end
end Go.Proofs.YtfghfnpiaccfaaaGreatDoor
namespace Go.Proofs.YtfghfnpiaccfaaaGreatDoor
section
variable {tk tk' : Nat → Wd} {N N' : Nat}
theorem sgk_at {k : Nat} (h : tk' k = tk k) : sgk tk' k = sgk tk k := by unfold sgk; rw [h]
theorem mk_at {k : Nat} (h : tk' k = tk k) : mk tk' k = mk tk k := by unfold mk; rw [h, sgk_at h]
theorem begins_at {k : Nat} (h : tk' k = tk k) : begins tk' k = begins tk k := by unfold begins; rw [sgk_at h, mk_at h]
theorem slash_at {k : Nat} (h : tk' k = tk k) : slash tk' k = slash tk k := by unfold slash; rw [sgk_at h]
theorem suf_more (h : Toks tk N) : ∀ (f f' : Nat) (p : Pn) (k : Nat) (q : Pn) (j : Nat), f ≤ f' → k ≤ N → suf tk f p k = .ok q j → (∀ i, i ≤ j → tk' i = tk i) → suf tk' f' p k = .ok q j
  | 0, _, _, _, _, _, _, _, e, _ => by cases e
  | f + 1, 0, _, _, _, _, hf, _, _, _ => by omega
  | f + 1, f' + 1, p, k, q, j, hf, hk, e, ha => by
    have hkj := (suf_lt h (f + 1) p k q j hk e).1
    unfold suf at e ⊢
    rw [sgk_at (ha k hkj)]
    split at e
    · exact e
    · rename_i K hK
      have := h.sign hk (behindK_ne hK)
      exact suf_more h f f' _ (k + 1) q j (by omega) (by omega) e ha
theorem sev_more {one one' : Nat → Rs Pn} {more more' : Nat → Option Nat} (h1 : ∀ k p j, k ≤ N → one k = .ok p j → k < j ∧ j ≤ N) (h2 : ∀ k j, k ≤ N → more k = some j → k ≤ j ∧ j ≤ N)
    (H1 : ∀ k p j, k ≤ N → one k = .ok p j → (∀ i, i ≤ j → tk' i = tk i) → one' k = .ok p j) (H2 : ∀ k, tk' k = tk k → more' k = more k) :
    ∀ (f f' k : Nat) (r : Fr) (j : Nat), f ≤ f' → k ≤ N → sev one more f k = .ok r j → (∀ i, i ≤ j → tk' i = tk i) → sev one' more' f' k = .ok r j
  | 0, _, _, _, _, _, _, e, _ => by cases e
  | f + 1, 0, _, _, _, hf, _, _, _ => by omega
  | f + 1, f' + 1, k, r, j, hf, hk, e, ha => by
    unfold sev at e ⊢
    split at e
    · cases e
    · rename_i p j1 e1
      have g1 := h1 _ _ _ hk e1
      split at e
      · rename_i e2
        cases e
        rw [H1 _ _ _ hk e1 ha]
        simp only
        rw [H2 _ (ha _ (Nat.le_refl _)), e2]
      · rename_i j2 e2
        have g2 := h2 _ _ g1.2 e2
        split at e
        · cases e
        · rename_i r' i e3
          cases e
          have g3 := sev_lt h1 h2 f j2 _ _ g2.2 e3
          rw [H1 _ _ _ hk e1 (fun i hi => ha i (by omega))]
          simp only
          rw [H2 _ (ha _ (by omega)), e2]
          simp only
          rw [sev_more h1 h2 H1 H2 f f' j2 _ _ (by omega) g2.2 e3 ha]
theorem several_more {K : Int} {one one' : Nat → Rs Pn} {more more' : Nat → Option Nat} (h1 : ∀ k p j, k ≤ N → one k = .ok p j → k < j ∧ j ≤ N) (h2 : ∀ k j, k ≤ N → more k = some j → k ≤ j ∧ j ≤ N)
    (H1 : ∀ k p j, k ≤ N → one k = .ok p j → (∀ i, i ≤ j → tk' i = tk i) → one' k = .ok p j) (H2 : ∀ k, tk' k = tk k → more' k = more k)
    {f f' k : Nat} {p : Pn} {j : Nat} (hf : f ≤ f') (hk : k ≤ N) (e : several K one more f k = .ok p j) (ha : ∀ i, i ≤ j → tk' i = tk i) : several K one' more' f' k = .ok p j := by
  unfold several at e ⊢
  split at e
  · cases e
  · rename_i r j1 e1
    cases e
    rw [sev_more h1 h2 H1 H2 f f' k _ _ hf hk e1 ha]
theorem prim_more (h : Toks tk N) {al al' : Nat → Rs Pn} (h3 : ∀ k p j, k ≤ N → al k = .ok p j → k < j ∧ j ≤ N) (H3 : ∀ k p j, k ≤ N → al k = .ok p j → (∀ i, i ≤ j → tk' i = tk i) → al' k = .ok p j)
    {d k : Nat} {p : Pn} {j : Nat} (hk : k ≤ N) (e : prim tk al d k = .ok p j) (ha : ∀ i, i ≤ j → tk' i = tk i) : prim tk' al' d k = .ok p j := by
  have hkj := (prim_lt h h3 hk e).1
  have t0 := ha k (by omega)
  have t1 := ha (k + 1) (by omega)
  unfold prim at e ⊢
  rw [mk_at t0, t0, sgk_at t1]
  split at e
  · cases e
  · rename_i h0
    rw [if_neg h0]
    have g0 := h.next hk (mk_ne h0)
    split at e
    · rename_i c; rw [if_pos c]; exact e
    rename_i c1; rw [if_neg c1]
    split at e
    · rename_i c; rw [if_pos c]; exact e
    rename_i c2; rw [if_neg c2]
    split at e
    · rename_i c; rw [if_pos c]; exact e
    rename_i c3; rw [if_neg c3]
    split at e
    · rename_i c; rw [if_pos c]; exact e
    rename_i c4; rw [if_neg c4]
    split at e
    · cases e
    rename_i c5; rw [if_neg c5]
    split at e
    · rename_i c; rw [if_pos c]; exact e
    rename_i c6; rw [if_neg c6]
    split at e
    · cases e
    rename_i q i e2
    have g2 := h3 _ _ _ g0 e2
    split at e
    · rename_i c
      cases e
      rw [H3 _ _ _ g0 e2 (fun x hx => ha x (by omega))]
      simp only
      rw [sgk_at (ha i (by omega)), if_pos c]
    · cases e
theorem itm_more (hN : N ≤ N') (h : Toks tk N) {it it' al al' : Nat → Rs Pn} (h1 : ∀ k p j, k ≤ N → it k = .ok p j → k < j ∧ j ≤ N) (h3 : ∀ k p j, k ≤ N → al k = .ok p j → k < j ∧ j ≤ N)
    (H1 : ∀ k p j, k ≤ N → it k = .ok p j → (∀ i, i ≤ j → tk' i = tk i) → it' k = .ok p j) (H3 : ∀ k p j, k ≤ N → al k = .ok p j → (∀ i, i ≤ j → tk' i = tk i) → al' k = .ok p j)
    {d k : Nat} {p : Pn} {j : Nat} (hk : k ≤ N) (e : itm tk N it al d k = .ok p j) (ha : ∀ i, i ≤ j → tk' i = tk i) : itm tk' N' it' al' d k = .ok p j := by
  have hkj := (itm_lt h h1 h3 hk e).1
  unfold itm at e ⊢
  rw [sgk_at (ha k (by omega))]
  split at e
  · rename_i K hK
    have g0 := h.sign hk (aheadK_ne hK)
    split at e
    · cases e
    · rename_i q i e2
      cases e
      rw [H1 _ _ _ g0 e2 ha]
  · rename_i hK
    unfold sufd at e ⊢
    split at e
    · cases e
    · rename_i q i e1
      have g1 := prim_lt h h3 hk e1
      have g2 := suf_lt h _ _ _ _ _ g1.2 e
      rw [prim_more h h3 H3 hk e1 (fun x hx => ha x (by omega))]
      exact suf_more h _ _ _ _ _ _ (by omega) g1.2 e ha
theorem prs_more (hN : N ≤ N') (h : Toks tk N) : ∀ (f f' m d k : Nat) (p : Pn) (j : Nat), f ≤ f' → k ≤ N → prs tk N f m d k = .ok p j → (∀ i, i ≤ j → tk' i = tk i) → prs tk' N' f' m d k = .ok p j
  | 0, _, _, _, _, _, _, _, _, e, _ => by cases e
  | f + 1, 0, _, _, _, _, _, hf, _, _, _ => by omega
  | f + 1, f' + 1, m, d, k, p, j, hf, hk, e, ha => by
    have IH := prs_more hN h f f'
    have L := prs_lt h f
    unfold prs at e ⊢
    split at e
    · rename_i c; rw [if_pos c]
      exact several_more (fun k p j => L 2 d k p j) (slash_le h) (fun k p j hk e ha => IH 2 d k p j (by omega) hk e ha) (fun k => slash_at) (by omega) hk e ha
    rename_i c; rw [if_neg c]
    split at e
    · rename_i c; rw [if_pos c]
      exact several_more (fun k p j => L 1 d k p j) begins_le (fun k p j hk e ha => IH 1 d k p j (by omega) hk e ha) (fun k => begins_at) (by omega) hk e ha
    rename_i c; rw [if_neg c]
    exact itm_more hN h (fun k p j => L 1 d k p j) (fun k p j => L 3 (d + 1) k p j) (fun k p j hk e ha => IH 1 d k p j (by omega) hk e ha) (fun k p j hk e ha => IH 3 (d + 1) k p j (by omega) hk e ha) hk e ha
theorem rul_more (hN : N ≤ N') (h : Toks tk N) {k : Nat} {r : Ru} {j : Nat} (hk : k ≤ N) (e : rul tk N k = .ok r j) (ha : ∀ i, i < j → tk' i = tk i) : rul tk' N' k = .ok r j ∧ k < j ∧ j ≤ N := by
  unfold rul at e
  split at e
  · cases e
  rename_i c1
  split at e
  · cases e
  rename_i c2
  have g0 : k + 1 ≤ N := h.next hk (by omega)
  have g1 : k + 2 ≤ N := h.sign g0 (by intro h0; rw [h0] at c2; simp at c2)
  split at e
  · cases e
  rename_i p i e1
  have g2 := prs_lt h _ _ _ _ _ _ g1 e1
  split at e
  · rename_i c3
    cases e
    have g3 := h.sign g2.2 (by rw [c3]; simp)
    refine ⟨?_, by omega, g3⟩
    unfold rul
    rw [ha k (by omega), if_neg c1, sgk_at (ha (k + 1) (by omega)), if_neg c2, show alt tk' N' (k + 2) = .ok p i from prs_more hN h _ _ _ _ _ _ _ (by omega) g1 e1 (fun x hx => ha x (by omega))]
    simp only
    rw [sgk_at (ha i (by omega)), if_pos c3]
  · cases e
/-- One rule more behind all others. -/
theorem ruls_more (hN : N ≤ N') (h : Toks tk N) (ha : ∀ i, i < N → tk' i = tk i) (h2 : (tk' N).kind ≠ 1) {r : Ru} (hr : rul tk' N' N = .ok r N') (hE : (tk' N').kind = 1) :
    ∀ (f f' k : Nat) (us : List Ru) (j : Nat), f < f' → k ≤ N → ruls tk N f k = .ok us j → ruls tk' N' f' k = .ok (us ++ [r]) N'
  | 0, _, _, _, _, _, _, e => by cases e
  | f + 1, 0, _, _, _, hf, _, _ => by omega
  | f + 1, f' + 1, k, us, j, hf, hk, e => by
    unfold ruls at e ⊢
    split at e
    · cases e
    rename_i u i e1
    have hi : i ≤ N := by
      unfold rul at e1
      split at e1
      · cases e1
      rename_i c1
      split at e1
      · cases e1
      rename_i c2
      have g0 : k + 1 ≤ N := h.next hk (by omega)
      have g1 : k + 2 ≤ N := h.sign g0 (by intro h0; rw [h0] at c2; simp at c2)
      split at e1
      · cases e1
      rename_i p i' e2
      have g2 := prs_lt h _ _ _ _ _ _ g1 e2
      split at e1
      · rename_i c3; cases e1; exact h.sign g2.2 (by rw [c3]; simp)
      · cases e1
    obtain ⟨g1, g2, _⟩ := rul_more (tk' := tk') hN h hk e1 (fun x hx => ha x (by omega))
    rw [g1]
    simp only
    split at e
    · rename_i c
      cases e
      have hiN : j = N := by
        rcases Nat.lt_or_eq_of_le hi with h0 | h0
        · exact absurd c (h.mid _ h0)
        · exact h0
      rw [hiN, if_neg h2]
      obtain ⟨f'', rfl⟩ : ∃ f'', f' = f'' + 1 := ⟨f' - 1, by omega⟩
      rw [show ruls tk' N' (f'' + 1) N = .ok [r] N' by unfold ruls; rw [hr]; simp only; rw [if_pos hE]]
      rfl
    · rename_i c
      have hlt : i < N := by
        rcases Nat.lt_or_eq_of_le hi with h0 | h0
        · exact h0
        · rw [h0] at c; exact absurd h.last c
      rw [ha i hlt, if_neg c]
      split at e
      · cases e
      · rename_i l i2 e2
        cases e
        rw [ruls_more hN h ha h2 hr hE f f' i l _ (by omega) hi e2]
        rfl
/-- What a rule of nothing is read as. -/
theorem rul_none {n : List Nat} (hN : N' = N + 5) (t0 : (tk' N).kind = 2) (t0l : (tk' N).lev < 0) (t0t : (tk' N).text = n) (t1 : sgk tk' (N + 1) = [60, 45]) (t2 : sgk tk' (N + 2) = [40]) (t2k : (tk' (N + 2)).kind = 5) (t3 : sgk tk' (N + 3) = [41]) (t4 : sgk tk' (N + 4) = [59]) (t4k : (tk' (N + 4)).kind = 5) :
    rul tk' N' N = .ok ⟨n, N, (⟨1, no, [], 0, N + 2, []⟩, .nil)⟩ N' := by
  subst hN
  have m2 : mk tk' (N + 2) = 5 := by unfold mk; rw [t2k, t2]; simp
  have m4 : begins tk' (N + 4) = none := by unfold begins mk; rw [t4, t4k]; simp [aheadK]
  have s4 : slash tk' (N + 4) = none := by unfold slash; rw [t4]; simp
  have P : ∀ al, prim tk' al 0 (N + 2) = .ok (⟨1, no, [], 0, N + 2, []⟩, .nil) (N + 4) := fun al => by
    unfold prim
    rw [m2, if_neg (by decide), if_neg (by decide), if_neg (by decide), if_neg (by decide), if_neg (by decide), if_neg (by decide), t3, if_pos rfl]
  have I : ∀ it al, itm tk' (N + 5) it al 0 (N + 2) = .ok (⟨1, no, [], 0, N + 2, []⟩, .nil) (N + 4) := fun it al => by
    unfold itm
    rw [t2, show aheadK [40] = none by decide]
    simp only
    rw [P]
    unfold sufd
    simp only
    rw [show N + 5 + 1 - (N + 4) = 1 + 1 by omega]
    unfold suf
    rw [t4, show behindK [59] = none by decide]
  have S : ∀ (K : Int) (one : Nat → Rs Pn) (more : Nat → Option Nat), one (N + 2) = .ok (⟨1, no, [], 0, N + 2, []⟩, .nil) (N + 4) → more (N + 4) = none → several K one more (N + 5 + 1 - (N + 2)) (N + 2) = .ok (⟨1, no, [], 0, N + 2, []⟩, .nil) (N + 4) := fun K one more h1 h2 => by
    rw [show N + 5 + 1 - (N + 2) = 3 + 1 by omega]
    unfold several sev
    rw [h1]
    simp only
    rw [h2]
    rfl
  have A : alt tk' (N + 5) (N + 2) = .ok (⟨1, no, [], 0, N + 2, []⟩, .nil) (N + 4) := by
    unfold alt
    obtain ⟨f, hf⟩ : ∃ f, 4 * (N + 5 + 2) = f + 1 + 1 + 1 := ⟨4 * (N + 5 + 2) - 3, by omega⟩
    rw [hf, prs3]
    refine S _ _ _ ?_ s4
    rw [prs2]
    refine S _ _ _ ?_ m4
    rw [prs1]
    exact I _ _
  unfold rul
  rw [if_neg (by rw [t0]; omega), t1, if_neg (by simp), A]
  simp only
  rw [t4, if_pos rfl, t0t]
end
end Go.Proofs.YtfghfnpiaccfaaaGreatDoor
namespace Go.Proofs.YtfghfnpiaccfaaaGreatDoor
open Go
def newL : List Nat := [95, 110, 101, 119, 32, 60, 45, 32, 40, 41, 59]
theorem newL_lt : ∀ y ∈ newL, y < 256 := by decide
theorem newL_ends : stp newL 5 = true ∧ ∀ j, j < 5 → stp newL j = false := by decide
theorem newL_ow : ow newL 0 = some ⟨2, 4, [95, 110, 101, 119], -1, no⟩ ∧ ow newL 1 = some ⟨5, 2, [60, 45], 0, no⟩ ∧ ow newL 2 = some ⟨5, 1, [40], 0, no⟩ ∧ ow newL 3 = some ⟨5, 1, [41], 0, no⟩ ∧ ow newL 4 = some ⟨5, 1, [59], 0, no⟩ ∧ ow newL 5 = some ⟨1, 0, [], 0, no⟩ :=
  ⟨by kernel_rfl, by kernel_rfl, by kernel_rfl, by kernel_rfl, by kernel_rfl, by kernel_rfl⟩
def newR (N : Nat) : Ru := ⟨[95, 110, 101, 119], N, (⟨1, no, [], 0, N + 2, []⟩, .nil)⟩
theorem more_read {l : List Nat} {N : Nat} (hl : ∀ x ∈ l, x < 256) (hN : stp l N = true) (hNb : ∀ j, j < N → stp l j = false) (ho : ow l N ≠ none) {us : List Ru} {j : Nat} (ht : trd l N = .ok us j) :
    (∀ x ∈ l ++ ([10] ++ newL), x < 256) ∧ stp (l ++ ([10] ++ newL)) (N + 5) = true ∧ (∀ j, j < N + 5 → stp (l ++ ([10] ++ newL)) j = false) ∧ ow (l ++ ([10] ++ newL)) (N + 5) ≠ none ∧ trd (l ++ ([10] ++ newL)) (N + 5) = .ok (us ++ [newR N]) (N + 5)
    ∧ (∀ k, k < N → beg (l ++ ([10] ++ newL)) k = beg l k ∧ tkn (l ++ ([10] ++ newL)) k = tkn l k) := by
  obtain ⟨e, he⟩ : ∃ e, ow l N = some e := by cases h : ow l N with | none => exact absurd h ho | some e => exact ⟨e, rfl⟩
  have hk : e.kind = 1 := by rw [stp_some he] at hN; simpa using hN
  have R := join_right hl newL_lt gap0 hNb he hk
  have L : ∀ k, k < N → beg (l ++ ([10] ++ newL)) k = beg l k ∧ tkn (l ++ ([10] ++ newL)) k = tkn l k := fun k h => by
    obtain ⟨a, b⟩ := join_left hl newL_lt gap0 hNb h
    exact ⟨a, by unfold tkn; rw [b]⟩
  have E := join_ends hl newL_lt gap0 hNb he hk newL_ends.1 newL_ends.2
  have T : ∀ i x, ow newL i = some x → tkn (l ++ ([10] ++ newL)) (N + i) = x := fun i x h => tkn_some ((R i).2.trans h)
  obtain ⟨w0, w1, w2, w3, w4, w5⟩ := newL_ow
  have t0 := T 0 _ w0
  have t1 := T 1 _ w1
  have t2 := T 2 _ w2
  have t3 := T 3 _ w3
  have t4 := T 4 _ w4
  have t5 := T 5 _ w5
  rw [Nat.add_zero] at t0
  have K := (toks_of hN hNb ho).1
  refine ⟨fun x hx => ?_, E.1, E.2, by rw [(R 5).2, w5]; simp, ?_, L⟩
  · rcases List.mem_append.1 hx with h | h
    · exact hl x h
    · exact lt_app gap0.lt newL_lt x h
  · unfold trd at ht ⊢
    refine ruls_more (by omega) K (fun i hi => (L i hi).2) (by rw [t0]; decide) ?_ (by rw [t5]) (N + 1) (N + 5 + 1) 0 us j (by omega) (Nat.zero_le _) ht
    exact rul_none rfl (by rw [t0]) (by rw [t0]; decide) (by rw [t0]) (by unfold sgk; rw [t1]; rfl) (by unfold sgk; rw [t2]; rfl) (by rw [t2]) (by unfold sgk; rw [t3]; rfl) (by unfold sgk; rw [t4]; rfl) (by rw [t4])
end Go.Proofs.YtfghfnpiaccfaaaGreatDoor
namespace Go.Proofs.YtfghfnpiaccfaaaGreatDoor.J
open Go Go.RowKit
/-- Two trees of one grammar, with the same names where they call. -/
structure Like (t u : Tre) : Prop where
  rules : u.g.rules = t.g.rules
  keys : u.g.nodes.map keyNd = t.g.nodes.map keyNd
  calls : ∀ n, n < t.g.nodes.length → isCall (t.g.nodes.getD n Nd.zero) = true → u.nm.getD n ByteArray.empty = t.nm.getD n ByteArray.empty
theorem Like.len {t u : Tre} (h : Like t u) : u.g.nodes.length = t.g.nodes.length := by simpa using congrArg List.length h.keys
theorem key_of {l m : List Nd} (h : l.map keyNd = m.map keyNd) {n : Nat} (hn : n < m.length) : keyNd (l.getD n Nd.zero) = keyNd (m.getD n Nd.zero) := by
  have hl : l.length = m.length := by simpa using congrArg List.length h
  have h1 := congrArg (fun q : List Key => q[n]?) h
  simpa [List.getD, List.getElem?_eq_getElem (show n < l.length by omega), List.getElem?_eq_getElem hn] using h1
theorem call_key {x y : Nd} (h : keyNd x = keyNd y) : isCall x = isCall y := by
  have : x.kind = y.kind := congrArg (fun q : Key => q.1) h
  unfold isCall; rw [this]
theorem Like.call {t u : Tre} (h : Like t u) {n : Nat} (hn : n < t.g.nodes.length) : isCall (u.g.nodes.getD n Nd.zero) = isCall (t.g.nodes.getD n Nd.zero) := call_key (key_of h.keys hn)
theorem firstOf_congr {p q : Nat → Bool} {n : Nat} (h : ∀ i, i < n → p i = q i) : firstOf p n = firstOf q n := by
  cases e : firstOf q n with
  | none => exact firstOf_none.2 fun j hj => (h j hj).trans (firstOf_none.1 e j hj)
  | some i => exact firstOf_some.2 (by obtain ⟨a, b, c⟩ := firstOf_some.1 e; exact ⟨a, (h i a).trans b, fun j hj => (h j (by omega)).trans (c j hj)⟩)
theorem Like.twice {t u : Tre} (h : Like t u) : twiceAt u.g.rules = twiceAt t.g.rules := by rw [h.rules]
theorem Like.lost {t u : Tre} (h : Like t u) : lostAt u.g u.nm = lostAt t.g t.nm := by
  unfold lostAt
  rw [h.len]
  refine firstOf_congr fun n hn => ?_
  unfold lostP
  rw [h.call hn, h.rules]
  cases hc : isCall (t.g.nodes.getD n Nd.zero) with
  | false => rfl
  | true => rw [h.calls n hn hc]
theorem key_rule {x y : Nd} (h : keyNd x = keyNd y) (r : Int) : keyNd { x with rule := r } = keyNd { y with rule := r } := by
  unfold keyNd at h ⊢
  simp only [Prod.mk.injEq] at h ⊢
  obtain ⟨a, b, c, d, e, f, g, i, j⟩ := h
  exact ⟨a, b, c, d, e, f, trivial, i, j⟩
theorem Like.rs {t u : Tre} (h : Like t u) {n : Nat} (hn : n < t.g.nodes.length) : keyNd (J.rs u n (u.g.nodes.getD n Nd.zero)) = keyNd (J.rs t n (t.g.nodes.getD n Nd.zero)) := by
  have hk := key_of h.keys hn
  unfold J.rs
  rw [h.call hn]
  cases hc : isCall (t.g.nodes.getD n Nd.zero) with
  | false => simpa using hk
  | true =>
    have hw : whom u n = whom t n := by unfold whom; rw [h.rules, h.calls n hn hc]
    rw [hw]
    cases whom t n with
    | none => simpa using hk
    | some r => simpa using key_rule hk _
theorem list_keys {l m : List Nd} (hl : l.length = m.length) (h : ∀ n, n < m.length → keyNd (l.getD n Nd.zero) = keyNd (m.getD n Nd.zero)) : l.map keyNd = m.map keyNd := by
  apply List.ext_getElem
  · simpa using hl
  · intro n h1 h2
    have h3 : n < m.length := by simpa using h2
    have := h n h3
    simpa [List.getD, List.getElem?_eq_getElem (show n < l.length by omega), List.getElem?_eq_getElem h3] using this
theorem Like.resolved {t u : Tre} (h : Like t u) : (resG u).rules = (resG t).rules ∧ (resG u).nodes.map keyNd = (resG t).nodes.map keyNd := by
  refine ⟨h.rules, list_keys ?_ fun n hn => ?_⟩
  · show (resL u u.g.nodes).length = (resL t t.g.nodes).length
    unfold resL
    rw [part_len, part_len, h.len]
  · have hn2 : n < t.g.nodes.length := by
      have : n < (resL t t.g.nodes).length := hn
      unfold resL at this
      rwa [part_len] at this
    show keyNd ((part u u.g.nodes u.g.nodes.length).getD n Nd.zero) = keyNd ((part t t.g.nodes t.g.nodes.length).getD n Nd.zero)
    rw [part_at u _ _ (by rw [h.len]; exact hn2), part_at t _ _ hn2, if_pos (by rw [h.len]; exact hn2), if_pos hn2]
    exact h.rs hn2
theorem twin_keys {g h : Gr} (T : GTwin g h) : h.rules = g.rules ∧ h.nodes.map keyNd = g.nodes.map keyNd := by
  refine ⟨T.rules, list_keys T.len fun n hn => ?_⟩
  obtain ⟨A, c, e⟩ := T.node n hn
  rw [e]
  rfl
/-- What trees that say alike are resolved to, is the same. -/
theorem Like.same {t u : Tre} (h : Like t u) {g k : Gr} (hg : GTwin (resG t) g) (hk : GTwin (resG u) k) : sameGr g k = true := by
  obtain ⟨a1, a2⟩ := twin_keys hg
  obtain ⟨b1, b2⟩ := twin_keys hk
  obtain ⟨c1, c2⟩ := h.resolved
  exact sameGr_iff.2 ⟨by rw [a1, b1, c1], by rw [a2, b2, c2]⟩
/-- One text, read twice. -/
theorem says_like {l : List Nat} {us : List Ru} {t u : Tre} (h : t.Says l us) (k : u.Says l us) : Like t u := ⟨by rw [h.rules, k.rules], by rw [h.keys, k.keys], fun n _ _ => by rw [h.nm, k.nm]⟩
end Go.Proofs.YtfghfnpiaccfaaaGreatDoor.J
namespace Go.Proofs.YtfghfnpiaccfaaaGreatDoor.J
open Go Go.RowKit
/-- A tree with one rule more behind, whose one node calls nobody. -/
structure More (t v : Tre) (r : Rl) (k : Key) : Prop where
  rules : v.g.rules = t.g.rules ++ [r]
  keys : v.g.nodes.map keyNd = t.g.nodes.map keyNd ++ [k]
  kind : k.1 ≠ 5
  nm : ∀ n, n < t.g.nodes.length → v.nm.getD n ByteArray.empty = t.nm.getD n ByteArray.empty
  fresh : ∀ i, i < t.g.rules.length → (t.g.rules.getD i Rl.zero).name ≠ r.name
theorem More.len {t v : Tre} {r : Rl} {k : Key} (h : More t v r k) : v.g.nodes.length = t.g.nodes.length + 1 := by simpa using congrArg List.length h.keys
theorem More.rlen {t v : Tre} {r : Rl} {k : Key} (h : More t v r k) : v.g.rules.length = t.g.rules.length + 1 := by simpa using congrArg List.length h.rules
theorem getD_left {α : Type} {l m : List α} {d : α} {n : Nat} (hn : n < l.length) : (l ++ m).getD n d = l.getD n d := by
  simp [List.getD, List.getElem?_append_left hn]
theorem getD_last {α : Type} {l : List α} {x d : α} : (l ++ [x]).getD l.length d = x := by
  simp [List.getD]
theorem fst_app {l m : List Rl} {s : ByteArray} : ∀ {k : Nat}, k ≤ l.length → fst (l ++ m) s k = fst l s k
  | 0, _ => rfl
  | k + 1, h => by
    rw [fst, fst, fst_app (show k ≤ l.length by omega), getD_left (show k < l.length by omega)]
theorem fst_more {l : List Rl} {r : Rl} {s : ByteArray} : fst (l ++ [r]) s (l.length + 1) = match fst l s l.length with | some i => some i | none => if r.name = s then some l.length else none := by
  rw [fst, fst_app (Nat.le_refl _), getD_last]
  cases fst l s l.length <;> rfl
theorem fst_at {t v : Tre} {r : Rl} {k : Key} (h : More t v r k) {s : ByteArray} {i : Nat} (e : fst t.g.rules s t.g.rules.length = some i) : fst v.g.rules s v.g.rules.length = some i := by
  rw [h.rlen, h.rules, fst_more, e]
theorem More.twice {t v : Tre} {r : Rl} {k : Key} (h : More t v r k) (e : twiceAt t.g.rules = none) : twiceAt v.g.rules = none := by
  unfold twiceAt at e ⊢
  rw [firstOf_none] at e ⊢
  intro i hi
  rw [h.rlen] at hi
  unfold twiceP at e ⊢
  rw [h.rlen, h.rules, fst_more]
  by_cases hl : i < t.g.rules.length
  · have := e i hl
    rw [decide_eq_false_iff_not, Classical.not_not] at this
    rw [getD_left hl, this]
    simp
  · obtain rfl : i = t.g.rules.length := by omega
    rw [getD_last, fst_none.2 h.fresh]
    simp
theorem More.call {t v : Tre} {r : Rl} {k : Key} (h : More t v r k) {n : Nat} (hn : n < t.g.nodes.length) : keyNd (v.g.nodes.getD n Nd.zero) = keyNd (t.g.nodes.getD n Nd.zero) := by
  have h1 := congrArg (fun q : List Key => q[n]?) h.keys
  simp only [List.getElem?_map] at h1
  rw [List.getElem?_append_left (by simpa using hn)] at h1
  simpa [List.getD, List.getElem?_eq_getElem (show n < v.g.nodes.length by rw [h.len]; omega), List.getElem?_eq_getElem hn] using h1
theorem More.last {t v : Tre} {r : Rl} {k : Key} (h : More t v r k) : isCall (v.g.nodes.getD t.g.nodes.length Nd.zero) = false := by
  have h1 := congrArg (fun q : List Key => q[t.g.nodes.length]?) h.keys
  simp only [List.getElem?_map] at h1
  rw [List.getElem?_append_right (by simp), List.getElem?_eq_getElem (show t.g.nodes.length < v.g.nodes.length by rw [h.len]; omega)] at h1
  simp at h1
  unfold isCall
  rw [decide_eq_false_iff_not]
  intro h2
  apply h.kind
  rw [← h1]
  simpa [List.getD, List.getElem?_eq_getElem (show t.g.nodes.length < v.g.nodes.length by rw [h.len]; omega), keyNd] using h2
theorem More.lost {t v : Tre} {r : Rl} {k : Key} (h : More t v r k) (e : lostAt t.g t.nm = none) : lostAt v.g v.nm = none := by
  unfold lostAt at e ⊢
  rw [firstOf_none] at e ⊢
  intro n hn
  rw [h.len] at hn
  unfold lostP at e ⊢
  by_cases hl : n < t.g.nodes.length
  · have := e n hl
    rw [call_key (h.call hl), h.nm n hl]
    cases hc : isCall (t.g.nodes.getD n Nd.zero) with
    | false => rfl
    | true =>
      rw [hc] at this
      cases hf : fst t.g.rules (t.nm.getD n ByteArray.empty) t.g.rules.length with
      | none => rw [hf] at this; cases this
      | some i => rw [fst_at h hf]; rfl
  · obtain rfl : n = t.g.nodes.length := by omega
    rw [h.last]; rfl
theorem lost_some {t : Tre} (e : lostAt t.g t.nm = none) {n : Nat} (hn : n < t.g.nodes.length) (hc : isCall (t.g.nodes.getD n Nd.zero) = true) : ∃ i, whom t n = some i ∧ i < t.g.rules.length ∧ (t.g.rules.getD i Rl.zero).name = t.nm.getD n ByteArray.empty := by
  unfold lostAt at e
  rw [firstOf_none] at e
  have := e n hn
  unfold lostP at this
  rw [hc] at this
  unfold whom
  cases hf : fst t.g.rules (t.nm.getD n ByteArray.empty) t.g.rules.length with
  | none => rw [hf] at this; cases this
  | some i =>
    obtain ⟨a, b, _⟩ := fst_some.1 hf
    exact ⟨i, rfl, a, b⟩
theorem More.rs {t v : Tre} {r : Rl} {k : Key} (h : More t v r k) (e : lostAt t.g t.nm = none) {n : Nat} (hn : n < t.g.nodes.length) : keyNd (J.rs v n (v.g.nodes.getD n Nd.zero)) = keyNd (J.rs t n (t.g.nodes.getD n Nd.zero)) := by
  have hk := h.call hn
  unfold J.rs
  rw [call_key hk]
  cases hc : isCall (t.g.nodes.getD n Nd.zero) with
  | false => simpa using hk
  | true =>
    obtain ⟨i, hi, _, _⟩ := lost_some e hn hc
    have hw : whom v n = some i := by unfold whom at hi ⊢; rw [h.nm n hn]; exact fst_at h hi
    rw [hw, hi]
    simpa using key_rule hk _
/-- Without the rule that is more, it is what the tree was resolved to. -/
theorem More.same {t v : Tre} {r : Rl} {k : Key} (h : More t v r k) (e : lostAt t.g t.nm = none) {g x y : Gr} (hg : GTwin (resG t) g) (hx : GTwin (resG v) x) (hr : y.rules = x.rules.take g.rules.length) (hn : y.nodes = x.nodes.take g.nodes.length) :
    x.rules.length = g.rules.length + 1 ∧ x.nodes.length = g.nodes.length + 1 ∧ sameGr y g = true := by
  obtain ⟨a1, a2⟩ := twin_keys hg
  obtain ⟨b1, b2⟩ := twin_keys hx
  have r1 : (resG t).rules = t.g.rules := rfl
  have r2 : (resG v).rules = v.g.rules := rfl
  have n1 : (resG t).nodes.length = t.g.nodes.length := part_len _ _ _
  have n2 : (resG v).nodes.length = v.g.nodes.length := part_len _ _ _
  have l1 : g.nodes.length = t.g.nodes.length := by rw [← n1]; simpa using congrArg List.length a2
  have l2 : x.nodes.length = t.g.nodes.length + 1 := by rw [← h.len, ← n2]; simpa using congrArg List.length b2
  refine ⟨by rw [b1, r2, h.rlen, a1, r1], by omega, sameGr_iff.2 ⟨?_, ?_⟩⟩
  · rw [hr, b1, r2, a1, r1, h.rules, List.take_left]
  · rw [hn, List.map_take, b2, a2, ← List.map_take]
    have l3 : ((resG v).nodes.take g.nodes.length).length = (resG t).nodes.length := by rw [List.length_take, n1, n2, h.len, l1]; omega
    refine list_keys l3 fun n hn' => ?_
    rw [n1] at hn'
    have q1 : ((resG v).nodes.take g.nodes.length).getD n Nd.zero = (resG v).nodes.getD n Nd.zero := by
      simp only [List.getD_eq_getElem?_getD, List.getElem?_take, if_pos (show n < g.nodes.length by omega)]
    rw [q1]
    show keyNd ((part v v.g.nodes v.g.nodes.length).getD n Nd.zero) = keyNd ((part t t.g.nodes t.g.nodes.length).getD n Nd.zero)
    rw [part_at v _ _ (by rw [h.len]; omega), part_at t _ _ hn', if_pos (by rw [h.len]; omega), if_pos hn']
    exact h.rs e hn'
/-- Each call of what a tree is resolved to, is of a rule of its name. -/
theorem calls_named {t : Tre} (e : lostAt t.g t.nm = none) {g : Gr} (hg : GTwin (resG t) g) {n : Nat} (hn : n < g.nodes.length) (hc : (g.nodes.getD n Nd.zero).kind = 5) :
    ∃ i : Nat, (g.nodes.getD n Nd.zero).rule = i ∧ i < g.rules.length ∧ (g.rules.getD i Rl.zero).name = t.nm.getD n ByteArray.empty := by
  have n1 : (resG t).nodes.length = t.g.nodes.length := part_len _ _ _
  have hn2 : n < t.g.nodes.length := by rw [← n1, ← hg.len]; exact hn
  obtain ⟨A, c, e1⟩ := hg.node n (by rw [n1]; exact hn2)
  have e2 : (resG t).nodes.getD n Nd.zero = J.rs t n (t.g.nodes.getD n Nd.zero) := by
    show (part t t.g.nodes t.g.nodes.length).getD n Nd.zero = _
    rw [part_at t _ _ hn2, if_pos hn2]
  rw [e2] at e1
  have hk : (g.nodes.getD n Nd.zero).kind = (t.g.nodes.getD n Nd.zero).kind := by rw [e1]; unfold J.rs; split <;> rfl
  have hcc : isCall (t.g.nodes.getD n Nd.zero) = true := by unfold isCall; rw [← hk, hc]; rfl
  obtain ⟨i, h1, h2, h3⟩ := lost_some e hn2 hcc
  refine ⟨i, ?_, by rw [hg.rules]; exact h2, by rw [hg.rules]; exact h3⟩
  rw [e1]
  unfold J.rs
  rw [h1, hcc]
  rfl
end Go.Proofs.YtfghfnpiaccfaaaGreatDoor.J
namespace Go.Proofs.YtfghfnpiaccfaaaGreatDoor.J
open Go Go.RowKit
theorem roots_more : ∀ (F G : Fr) (n : Nat), roots n (F.app G) = roots n F ++ roots (n + F.nodes) G
  | .nil, _, _ => by simp [Fr.app, roots, Fr.nodes]
  | .cons x k r, G, n => by
    simp only [Fr.app, roots, roots_more r, Fr.nodes, List.cons_append]
    rw [show n + 1 + k.nodes + r.nodes = n + (1 + k.nodes + r.nodes) by omega]
theorem flat_more : ∀ (F G : Fr) (n : Nat), flat n (F.app G) = flat n F ++ flat (n + F.nodes) G
  | .nil, _, _ => by simp [Fr.app, flat, Fr.nodes]
  | .cons x k r, G, n => by
    simp only [Fr.app, flat, flat_more r, Fr.nodes, List.cons_append, List.append_assoc]
    rw [show n + 1 + k.nodes + r.nodes = n + (1 + k.nodes + r.nodes) by omega]
def newNm : List Nat := [95, 110, 101, 119]
theorem bod_new (us : List Ru) (N : Nat) : bod (us ++ [newR N]) = (bod us).app (.cons ⟨1, no, [], 0, N + 2, []⟩ .nil .nil) := by rw [bod_app]; rfl
theorem flat_new (us : List Ru) (N : Nat) : flat 0 (bod (us ++ [newR N])) = flat 0 (bod us) ++ [(⟨1, no, [], 0, N + 2, []⟩, [])] := by
  rw [bod_new, flat_more]; rfl
theorem says_more {l l' : List Nat} {us : List Ru} {N : Nat} {t v : Tre} (h : t.Says l us) (k : v.Says l' (us ++ [newR N])) (hf : ∀ i, i < t.g.rules.length → (t.g.rules.getD i Rl.zero).name ≠ bsv newNm) :
    More t v ⟨bsv newNm, ((bod us).nodes : Nat)⟩ (kof (⟨1, no, [], 0, N + 2, []⟩, [])) := by
  refine ⟨?_, ?_, by simp [kof], fun n hn => ?_, hf⟩
  · rw [k.rules, h.rules]
    unfold rlsOf
    rw [bod_new, roots_more, List.zip_append (by rw [roots_len, bod_len]), List.map_append]
    congr 1
    simp [roots, newR, newNm]
  · rw [k.keys, h.keys, flat_new, List.map_append]
    rfl
  · rw [k.nm, h.nm, flat_new, List.map_append]
    have : n < ((flat 0 (bod us)).map fun p => bsv p.1.name).length := by
      rw [List.length_map, flat_length, ← h.nlen.1]; exact hn
    exact getD_left this
end Go.Proofs.YtfghfnpiaccfaaaGreatDoor.J

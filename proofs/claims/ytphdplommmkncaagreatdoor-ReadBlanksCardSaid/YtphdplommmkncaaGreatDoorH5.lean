/- The words of one text, standing within another's: what is read of them there. -/
import Derived.Test.YtphdplommmkncaaGreatDoorH1
import Derived.Test.YtphdplommmkncaaGreatDoorH2
set_option linter.unusedSimpArgs false
set_option linter.unusedVariables false
namespace Go.Proofs.YtphdplommmkncaaGreatDoor
open Go Go.RowKit Go.Maps
def Px.sh (s : Nat) (x : Px) : Px := { x with at_ := s + x.at_ }
def Fr.sh (s : Nat) : Fr → Fr
  | .nil => .nil
  | .cons x k r => .cons (x.sh s) (k.sh s) (r.sh s)
def shP (s : Nat) (p : Pn) : Pn := (p.1.sh s, p.2.sh s)
def Ru.sh (s : Nat) (u : Ru) : Ru := ⟨u.name, s + u.at_, shP s u.body⟩
theorem sh_fr (s : Nat) (p : Pn) (r : Fr) : (p.fr r).sh s = (shP s p).fr (r.sh s) := rfl
theorem sh_nodes (s : Nat) : ∀ F : Fr, (F.sh s).nodes = F.nodes
  | .nil => rfl
  | .cons x k r => by simp only [Fr.sh, Fr.nodes, sh_nodes s k, sh_nodes s r]
theorem sh_roots (s : Nat) : ∀ (F : Fr) (n : Nat), roots n (F.sh s) = roots n F
  | .nil, _ => rfl
  | .cons x k r, n => by simp only [Fr.sh, roots, sh_nodes, sh_roots s r]
section
variable {tk tk' : Nat → Wd} {N N' s B : Nat}
theorem sgk_sim (hB : ∀ i, i < B → tk' (s + i) = tk i) {i : Nat} (hi : i < B) : sgk tk' (s + i) = sgk tk i := by unfold sgk; rw [hB i hi]
theorem mk_sim (hB : ∀ i, i < B → tk' (s + i) = tk i) {i : Nat} (hi : i < B) : mk tk' (s + i) = mk tk i := by unfold mk; rw [hB i hi, sgk_sim hB hi]
theorem begins_sim (hB : ∀ i, i < B → tk' (s + i) = tk i) {i : Nat} (hi : i < B) : begins tk' (s + i) = (begins tk i).map fun j => s + j := by
  unfold begins
  rw [mk_sim hB hi, sgk_sim hB hi]
  split <;> rfl
theorem slash_sim (hB : ∀ i, i < B → tk' (s + i) = tk i) {i : Nat} (hi : i < B) : slash tk' (s + i) = (slash tk i).map fun j => s + j := by
  unfold slash
  rw [sgk_sim hB hi]
  split <;> rfl
theorem suf_sim (h : Toks tk N) (hB : ∀ i, i < B → tk' (s + i) = tk i) : ∀ (f f' : Nat) (p : Pn) (k : Nat) (q : Pn) (j : Nat), k ≤ N → suf tk f p k = .ok q j → j < B → f ≤ f' → suf tk' f' (shP s p) (s + k) = .ok (shP s q) (s + j)
  | 0, _, _, _, _, _, _, e, _, _ => by cases e
  | f + 1, 0, _, _, _, _, _, _, _, hf => by omega
  | f + 1, f' + 1, p, k, q, j, hk, e, hj, hf => by
    have hle := suf_lt h _ _ _ _ _ hk e
    unfold suf at e ⊢
    rw [sgk_sim hB (show k < B by omega)]
    split at e
    · rename_i hb
      cases e
      rfl
    · rename_i K hK
      have := h.sign hk (behindK_ne hK)
      exact suf_sim h hB f f' _ (k + 1) q j (by omega) e hj (by omega)
theorem sev_sim {one one' : Nat → Rs Pn} {more more' : Nat → Option Nat} (h1 : ∀ k p j, k ≤ N → one k = .ok p j → k < j ∧ j ≤ N) (h2 : ∀ k j, k ≤ N → more k = some j → k ≤ j ∧ j ≤ N)
    (g1 : ∀ k p j, k ≤ N → one k = .ok p j → j < B → one' (s + k) = .ok (shP s p) (s + j)) (g2 : ∀ k, k < B → more' (s + k) = (more k).map fun j => s + j) : ∀ (f f' k : Nat) (r : Fr) (j : Nat), k ≤ N → sev one more f k = .ok r j → j < B → f ≤ f' → sev one' more' f' (s + k) = .ok (r.sh s) (s + j)
  | 0, _, _, _, _, _, e, _, _ => by cases e
  | f + 1, 0, _, _, _, _, _, _, hf => by omega
  | f + 1, f' + 1, k, r, j, hk, e, hj, hf => by
    unfold sev at e ⊢
    split at e
    · cases e
    · rename_i p j1 e1
      have q1 := h1 _ _ _ hk e1
      split at e
      · rename_i e2
        cases e
        rw [g1 _ _ _ hk e1 hj]
        simp only
        rw [g2 _ hj, e2]
        rfl
      · rename_i j2 e2
        have q2 := h2 _ _ q1.2 e2
        split at e
        · cases e
        · rename_i r' i e3
          cases e
          have q3 := sev_lt h1 h2 f j2 _ _ q2.2 e3
          rw [g1 _ _ _ hk e1 (by omega)]
          simp only
          rw [g2 _ (by omega), e2]
          simp only [Option.map_some]
          rw [sev_sim h1 h2 g1 g2 f f' j2 _ _ q2.2 e3 hj (by omega)]
          rfl
theorem sev_some {one : Nat → Rs Pn} {more : Nat → Option Nat} : ∀ (f k : Nat) (r : Fr) (j : Nat), sev one more f k = .ok r j → r ≠ .nil
  | 0, _, _, _, e => by cases e
  | f + 1, k, r, j, e => by
    unfold sev at e
    split at e
    · cases e
    · split at e
      · cases e; intro h; cases h
      · split at e
        · cases e
        · cases e; intro h; cases h
theorem gath_sim (K : Int) (s : Nat) : ∀ (r : Fr), r ≠ .nil → gath K (r.sh s) = shP s (gath K r)
  | .nil, h => absurd rfl h
  | .cons x k .nil, _ => rfl
  | .cons x k (.cons y l r), _ => rfl
theorem several_sim {K : Int} {one one' : Nat → Rs Pn} {more more' : Nat → Option Nat} (h1 : ∀ k p j, k ≤ N → one k = .ok p j → k < j ∧ j ≤ N) (h2 : ∀ k j, k ≤ N → more k = some j → k ≤ j ∧ j ≤ N)
    (g1 : ∀ k p j, k ≤ N → one k = .ok p j → j < B → one' (s + k) = .ok (shP s p) (s + j)) (g2 : ∀ k, k < B → more' (s + k) = (more k).map fun j => s + j) {f f' k : Nat} {p : Pn} {j : Nat} (hk : k ≤ N) (e : several K one more f k = .ok p j) (hj : j < B) (hf : f ≤ f') : several K one' more' f' (s + k) = .ok (shP s p) (s + j) := by
  unfold several at e ⊢
  split at e
  · cases e
  · rename_i r j1 e1
    cases e
    rw [sev_sim h1 h2 g1 g2 f f' k r _ hk e1 hj hf]
    simp only
    rw [gath_sim K s r (sev_some _ _ _ _ e1)]
theorem prim_sim (h : Toks tk N) (hB : ∀ i, i < B → tk' (s + i) = tk i) {al al' : Nat → Rs Pn} (h3 : ∀ k p j, k ≤ N → al k = .ok p j → k < j ∧ j ≤ N) (g3 : ∀ k p j, k ≤ N → al k = .ok p j → j < B → al' (s + k) = .ok (shP s p) (s + j)) {d k : Nat} {p : Pn} {j : Nat} (hk : k ≤ N) (e : prim tk al d k = .ok p j) (hj : j < B) : prim tk' al' d (s + k) = .ok (shP s p) (s + j) := by
  have hlt := prim_lt h h3 hk e
  have hkB : k < B := by omega
  unfold prim at e ⊢
  rw [mk_sim hB hkB, hB k hkB]
  split at e
  · cases e
  · rename_i h0
    rw [if_neg h0]
    have g0 := h.next hk (mk_ne h0)
    split at e
    · rename_i h1; rw [if_pos h1]; cases e; rfl
    rename_i h1; rw [if_neg h1]
    split at e
    · rename_i h1; rw [if_pos h1]; cases e; rfl
    rename_i h1; rw [if_neg h1]
    split at e
    · rename_i h1; rw [if_pos h1]; cases e; rfl
    rename_i h1; rw [if_neg h1]
    split at e
    · rename_i h1; rw [if_pos h1]; cases e; rfl
    rename_i h1; rw [if_neg h1]
    split at e
    · cases e
    rename_i hd
    rw [if_neg hd]
    have hk1 : k + 1 < B ∨ k + 1 = j := by omega
    split at e
    · rename_i hs
      cases e
      rw [show s + k + 1 = s + (k + 1) by omega, sgk_sim hB (show k + 1 < B by omega), if_pos hs]; rfl
    rename_i hs
    split at e
    · cases e
    rename_i q i e2
    have q2 := h3 _ _ _ g0 e2
    split at e
    · rename_i hs2
      cases e
      rw [show s + k + 1 = s + (k + 1) by omega, sgk_sim hB (show k + 1 < B by omega), if_neg hs, g3 _ _ _ g0 e2 (by omega)]
      simp only
      rw [sgk_sim hB (show i < B by omega), if_pos hs2]; rfl
    · cases e
theorem itm_sim (h : Toks tk N) (hB : ∀ i, i < B → tk' (s + i) = tk i) (hN : s + N ≤ N') {it it' al al' : Nat → Rs Pn} (h1 : ∀ k p j, k ≤ N → it k = .ok p j → k < j ∧ j ≤ N) (g1 : ∀ k p j, k ≤ N → it k = .ok p j → j < B → it' (s + k) = .ok (shP s p) (s + j)) (h3 : ∀ k p j, k ≤ N → al k = .ok p j → k < j ∧ j ≤ N) (g3 : ∀ k p j, k ≤ N → al k = .ok p j → j < B → al' (s + k) = .ok (shP s p) (s + j)) {d k : Nat} {p : Pn} {j : Nat} (hk : k ≤ N) (e : itm tk N it al d k = .ok p j) (hj : j < B) : itm tk' N' it' al' d (s + k) = .ok (shP s p) (s + j) := by
  have hlt := itm_lt h h1 h3 hk e
  unfold itm at e ⊢
  rw [sgk_sim hB (show k < B by omega)]
  split at e
  · rename_i K hK
    have g0 := h.sign hk (aheadK_ne hK)
    split at e
    · cases e
    · rename_i q i e1
      cases e
      rw [show s + k + 1 = s + (k + 1) by omega, g1 _ _ _ g0 e1 hj]
      rfl
  · rename_i hK
    unfold sufd at e ⊢
    split at e
    · cases e
    · rename_i q i e1
      have q1 := prim_lt h h3 hk e1
      have q2 := suf_lt h _ _ _ _ _ q1.2 e
      rw [prim_sim h hB h3 g3 hk e1 (by omega)]
      simp only
      exact suf_sim h hB _ _ _ _ _ _ q1.2 e hj (by omega)
theorem prs_sim (h : Toks tk N) (hB : ∀ i, i < B → tk' (s + i) = tk i) (hN : s + N ≤ N') : ∀ (f f' m d k : Nat) (p : Pn) (j : Nat), k ≤ N → prs tk N f m d k = .ok p j → j < B → f ≤ f' → prs tk' N' f' m d (s + k) = .ok (shP s p) (s + j)
  | 0, _, _, _, _, _, _, _, e, _, _ => by unfold prs at e; cases e
  | f + 1, 0, _, _, _, _, _, _, _, _, hf => by omega
  | f + 1, f' + 1, m, d, k, p, j, hk, e, hj, hf => by
    have LT := prs_lt h f
    have IH := fun m d k p j hk e hj => prs_sim h hB hN f f' m d k p j hk e hj (by omega)
    unfold prs at e ⊢
    split at e
    · rename_i hm
      rw [if_pos hm]
      exact several_sim (fun k p j => LT 2 d k p j) (slash_le h) (fun k p j hk e hj => IH 2 d k p j hk e hj) (fun k hk => slash_sim hB hk) hk e hj (by omega)
    rename_i hm
    rw [if_neg hm]
    split at e
    · rename_i hm
      rw [if_pos hm]
      exact several_sim (fun k p j => LT 1 d k p j) begins_le (fun k p j hk e hj => IH 1 d k p j hk e hj) (fun k hk => begins_sim hB hk) hk e hj (by omega)
    · rename_i hm
      rw [if_neg hm]
      exact itm_sim h hB hN (fun k p j => LT 1 d k p j) (fun k p j hk e hj => IH 1 d k p j hk e hj) (fun k p j => LT 3 (d + 1) k p j) (fun k p j hk e hj => IH 3 (d + 1) k p j hk e hj) hk e hj
theorem rul_sim (h : Toks tk N) (hB : ∀ i, i < B → tk' (s + i) = tk i) (hN : s + N ≤ N') {k : Nat} {u : Ru} {j : Nat} (hk : k ≤ N) (e : rul tk N k = .ok u j) (hj : j ≤ B) : rul tk' N' (s + k) = .ok (u.sh s) (s + j) := by
  unfold rul at e ⊢
  split at e
  · cases e
  rename_i h0
  have h0' : (tk k).kind = 2 := by simp only [not_or, ne_eq, Decidable.not_not] at h0; exact h0.1
  have g1 := h.next hk (by rw [h0']; decide)
  split at e
  · cases e
  rename_i h1
  have h1' : sgk tk (k + 1) = [60, 45] := by simpa using h1
  have g2 := h.sign g1 (by rw [h1']; simp)
  split at e
  · cases e
  rename_i p i e1
  have q1 := prs_lt h _ _ _ _ _ _ g2 e1
  split at e
  · rename_i hs
    cases e
    rw [hB k (by omega), if_neg h0, show s + k + 1 = s + (k + 1) by omega, sgk_sim hB (show k + 1 < B by omega), if_neg h1]
    have := prs_sim h hB hN (4 * (N + 2)) (4 * (N' + 2)) 3 0 (k + 2) p i g2 e1 (by omega) (by omega)
    unfold alt
    rw [show s + k + 2 = s + (k + 2) by omega, this]
    simp only
    rw [sgk_sim hB (show i < B by omega), if_pos hs]
    rfl
  · cases e
end
theorem ruls_sim {c : Cx} (hf : c.Fine) {tk' : Nat → Wd} {N' s : Nat} (hB : ∀ i, tk' (s + i) = tkn c.l i) (hN : s + c.N ≤ N') : ∀ (f f' k : Nat) (us : List Ru) (j : Nat), k ≤ c.N → ruls (tkn c.l) c.N f k = .ok us j → f ≤ f' → ruls tk' N' f' (s + k) = .ok (us.map (Ru.sh s)) (s + j)
  | 0, _, _, _, _, _, e, _ => by cases e
  | f + 1, 0, _, _, _, _, _, hf => by omega
  | f + 1, f' + 1, k, us, j, hk, e, hff => by
    unfold ruls at e ⊢
    split at e
    · cases e
    rename_i u i e1
    have g5 := rul_lt hf hk e1
    rw [rul_sim (B := c.N + 1) (tk' := tk') (N' := N') hf.toks (fun i _ => hB i) hN hk e1 (by omega)]
    simp only
    rw [hB i]
    split at e
    · rename_i h1
      cases e
      rw [if_pos h1]; rfl
    · rename_i h1
      rw [if_neg h1]
      split at e
      · cases e
      rename_i l i2 e2
      cases e
      rw [ruls_sim hf hB hN f f' i _ _ g5.2 e2 (by omega)]
      rfl
/-- Behind the first text's rules the second one's are read. -/
theorem ruls_join {c : Cx} (hf : c.Fine) {tk' : Nat → Wd} {N' g : Nat} (hB : ∀ i, i < c.N → tk' i = tkn c.l i) (hN : c.N ≤ N') {vs : List Ru} {z : Nat} (hr : ∀ g', g ≤ g' → ruls tk' N' g' c.N = .ok vs z) (hk1 : (tk' c.N).kind ≠ 1) : ∀ (f f' k : Nat) (us : List Ru) (j : Nat), k ≤ c.N → ruls (tkn c.l) c.N f k = .ok us j → f + g ≤ f' → ruls tk' N' f' k = .ok (us ++ vs) z
  | 0, _, _, _, _, _, e, _ => by cases e
  | f + 1, 0, _, _, _, _, _, hf => by omega
  | f + 1, f' + 1, k, us, j, hk, e, hff => by
    unfold ruls at e ⊢
    split at e
    · cases e
    rename_i u i e1
    have g5 := rul_lt hf hk e1
    have := rul_sim (B := c.N) (s := 0) (tk' := tk') (N' := N') hf.toks (fun i hi => by rw [Nat.zero_add]; exact hB i hi) (by omega) hk e1 g5.2
    rw [Nat.zero_add, Nat.zero_add] at this
    have hu : u.sh 0 = u := by
      have hx : ∀ F : Fr, F.sh 0 = F := by
        intro F
        induction F with
        | nil => rfl
        | cons x k r h1 h2 => simp only [Fr.sh, h1, h2, Px.sh, Nat.zero_add]
      unfold Ru.sh shP
      rw [hx, Nat.zero_add]
      simp only [Px.sh, Nat.zero_add]
    rw [hu] at this
    rw [this]
    simp only
    split at e
    · rename_i h1
      cases e
      have hi : j = c.N := by
        rcases Nat.lt_or_eq_of_le g5.2 with h | h
        · exact absurd h1 (hf.toks.mid _ h)
        · exact h
      subst hi
      rw [if_neg hk1, hr f' (by omega)]
      rfl
    · rename_i h1
      split at e
      · cases e
      rename_i l i2 e2
      cases e
      have hi : i < c.N := by
        rcases Nat.lt_or_eq_of_le g5.2 with h | h
        · exact h
        · exact absurd (by rw [h]; exact hf.toks.last) h1
      rw [hB i hi, if_neg h1, ruls_join hf hB hN hr hk1 f f' i _ _ g5.2 e2 (by omega)]
      rfl
end Go.Proofs.YtphdplommmkncaaGreatDoor
namespace Go.Proofs.YtphdplommmkncaaGreatDoor
open Go Go.RowKit Go.Maps
theorem ruls_short {c : Cx} (hf : c.Fine) : ∀ (f k : Nat) (us : List Ru) (j : Nat), k ≤ c.N → ruls (tkn c.l) c.N f k = .ok us j → ruls (tkn c.l) c.N us.length k = .ok us j ∧ k + us.length ≤ j ∧ j ≤ c.N
  | 0, _, _, _, _, e => by cases e
  | f + 1, k, us, j, hk, e => by
    unfold ruls at e
    split at e
    · cases e
    rename_i u i e1
    have g5 := rul_lt hf hk e1
    split at e
    · rename_i h1
      cases e
      refine ⟨?_, by simp only [List.length_singleton]; omega, g5.2⟩
      show ruls _ _ (0 + 1) k = _
      unfold ruls
      rw [e1]
      simp only
      rw [if_pos h1]
    · rename_i h1
      split at e
      · cases e
      rename_i l i2 e2
      cases e
      obtain ⟨r1, r2, r3⟩ := ruls_short hf f i _ _ g5.2 e2
      refine ⟨?_, by simp only [List.length_cons]; omega, r3⟩
      show ruls _ _ (l.length + 1) k = _
      unfold ruls
      rw [e1]
      simp only
      rw [if_neg h1, r1]
theorem app_bod : ∀ us vs : List Ru, bod (us ++ vs) = (bod us).app (bod vs)
  | [], _ => rfl
  | u :: us, vs => by
    show (Fr.cons u.body.1 u.body.2 (bod (us ++ vs))) = _
    rw [app_bod us vs]; rfl
theorem bod_sh (s : Nat) : ∀ us : List Ru, bod (us.map (Ru.sh s)) = (bod us).sh s
  | [] => rfl
  | u :: us => by
    show (Fr.cons _ _ (bod (us.map (Ru.sh s)))) = _
    rw [bod_sh s us]; rfl
theorem roots_app : ∀ (F G : Fr) (n : Nat), roots n (F.app G) = roots n F ++ roots (n + F.nodes) G
  | .nil, _, _ => by simp [Fr.app, roots, Fr.nodes]
  | .cons x k r, G, n => by
    simp only [Fr.app, roots, roots_app r, Fr.nodes, List.cons_append]
    rw [show n + 1 + k.nodes + r.nodes = n + (1 + k.nodes + r.nodes) by omega]
theorem roots_up : ∀ (F : Fr) (n m : Nat), roots (n + m) F = (roots n F).map fun k => k + m
  | .nil, _, _ => rfl
  | .cons x k r, n, m => by
    simp only [roots, List.map_cons]
    rw [← roots_up r (n + 1 + k.nodes) m, show n + m + 1 + k.nodes = n + 1 + k.nodes + m by omega]
/-- The words of two texts with one byte 10 between them, and what is read of them. -/
theorem join_read {a b : List Nat} {N M : Nat} {us vs : List Ru} {i j : Nat} (ha : ∀ y ∈ a, y < 256) (hb : ∀ y ∈ b, y < 256) (hza : a.length ≤ 8000) (hzb : b.length ≤ 8000) (hN : stp a N = true) (hNl : N ≤ a.length) (hNb : ∀ j, j < N → stp a j = false) (hoa : ow a N ≠ none)
    (hM : stp b M = true) (hMl : M ≤ b.length) (hMb : ∀ j, j < M → stp b j = false) (hob : ow b M ≠ none) (h1 : trd a N = .ok us i) (h2 : trd b M = .ok vs j) :
    stp (a ++ ([10] ++ b)) (N + M) = true ∧ (∀ k, k < N + M → stp (a ++ ([10] ++ b)) k = false) ∧ ow (a ++ ([10] ++ b)) (N + M) ≠ none ∧ trd (a ++ ([10] ++ b)) (N + M) = .ok (us ++ vs.map (Ru.sh N)) (N + j) := by
  have Fa := fine_of ha (by omega) hN hNl hNb hoa
  have Fb := fine_of hb (by omega) hM hMl hMb hob
  obtain ⟨e, he⟩ : ∃ e, ow a N = some e := ⟨tkn a N, (toks_of hN hNb hoa).2 N (Nat.le_refl _)⟩
  have hk : e.kind = 1 := by rw [stp_some he] at hN; simpa using hN
  obtain ⟨j1, j2⟩ := join_ends ha hb gap0 hNb he hk hM hMb
  have jl := fun i (hi : i < N) => (join_left ha hb gap0 hNb hi).2
  have jr := fun j => (join_right ha hb gap0 hNb he hk j).2
  have hB1 : ∀ i, i < N → tkn (a ++ ([10] ++ b)) i = tkn a i := fun i hi => by unfold tkn; rw [jl i hi]
  have hB2 : ∀ i, tkn (a ++ ([10] ++ b)) (N + i) = tkn b i := fun i => by unfold tkn; rw [jr i]
  refine ⟨j1, fun k hk => j2 k hk, by rw [jr M]; exact hob, ?_⟩
  have s1 := ruls_short Fa (N + 1) 0 us i (Nat.zero_le _) h1
  have hr : ∀ g', M + 1 ≤ g' → ruls (tkn (a ++ ([10] ++ b))) (N + M) g' N = .ok (vs.map (Ru.sh N)) (N + j) := fun g' hg => by
    have := ruls_sim Fb (tk' := tkn (a ++ ([10] ++ b))) (N' := N + M) (s := N) hB2 (Nat.le_refl _) (M + 1) g' 0 vs j (Nat.zero_le _) h2 hg
    exact this
  have hk1 : (tkn (a ++ ([10] ++ b)) N).kind ≠ 1 := by
    have q := hB2 0
    rw [Nat.add_zero] at q
    rw [q]
    intro e0
    have h2' : ruls (tkn b) M (M + 1) 0 = .ok vs j := h2
    unfold ruls at h2'
    split at h2'
    · cases h2'
    · rename_i u z e1
      unfold rul at e1
      rw [if_pos (.inl (by rw [e0]; decide))] at e1
      cases e1
  have s2 := ruls_join Fa (tk' := tkn (a ++ ([10] ++ b))) (N' := N + M) (g := M + 1) hB1 (by show N ≤ N + M; omega) hr hk1 us.length (N + M + 1) 0 us i (Nat.zero_le _) s1.1 (by have h3 : 0 + us.length ≤ i := s1.2.1; have h4 : i ≤ N := s1.2.2; omega)
  exact s2
theorem rlsOf_join (us vs : List Ru) (N : Nat) : rlsOf (us ++ vs.map (Ru.sh N)) = rlsOf us ++ (rlsOf vs).map fun r => ⟨r.name, r.body + ((bod us).nodes : Nat)⟩ := by
  unfold rlsOf
  rw [app_bod, bod_sh, roots_app, sh_roots, roots_up (bod vs) 0 (bod us).nodes, List.zip_append (by rw [roots_len, bod_len]), List.map_append]
  congr 1
  rw [List.zip_map, List.map_map, List.map_map]
  refine List.map_congr_left fun x _ => ?_
  simp [Ru.sh]
theorem nodes_join (us vs : List Ru) (N : Nat) : (bod (us ++ vs.map (Ru.sh N))).nodes = (bod us).nodes + (bod vs).nodes := by rw [app_bod, bod_sh, Fr.nodes_app, sh_nodes]
end Go.Proofs.YtphdplommmkncaaGreatDoor
namespace Go.Proofs.YtphdplommmkncaaGreatDoor
open Go Go.RowKit
theorem pick8 (x n : Int) (hx : -9223372036854775808 ≤ x ∧ x < 9223372036854775808) (hn : 1 ≤ n ∧ n < 9223372036854775808) (w : World) :
    Calls Tryz.prog 14 #[.int .i64 x, .int .i64 n] w fun e w' => e = .returned (.int .i64 (x % n)) ∧ w = w' := by
  have h1 := Int.emod_nonneg x (show n ≠ 0 by omega)
  have h2 := Int.emod_lt_of_pos x (show 0 < n by omega)
  have ht := Int.tmod_eq_emod (a := x) (b := n)
  have hd0 : n ≠ 0 := by omega
  have hd1 : (n == 0) = false := by simpa using hd0
  obtain ⟨y, ey⟩ : ∃ y, y = x.tmod n := ⟨_, rfl⟩
  rw [← ey] at ht
  obtain ⟨z, ez⟩ : ∃ z, z = x % n := ⟨_, rfl⟩
  rw [← ez] at ht h1 h2 ⊢
  have hcase : (0 ≤ y ∧ y = z) ∨ (y < 0 ∧ y + n = z) := by
    split at ht
    · left; omega
    · right; omega
  have hy : x.tmod n = y := ey.symm
  have hn1 : ¬ n < 1 := by omega
  have hwy : IntKind.i64.wrap y = y := IntWalk.i64_in _ (by omega)
  clear ht ez ey hx
  rcases hcase with ⟨h3, rfl⟩ | ⟨h3, h4⟩
  · go_enter Tryz.func14, Tryz.ntmps14
    go_wp2_with fail
    go_ret
    exact ⟨rfl, rfl⟩
  · have hwz : IntKind.i64.wrap (y + n) = z := (IntWalk.i64_in _ (by omega)).trans h4
    clear h4
    go_enter Tryz.func14, Tryz.ntmps14
    go_wp2_with fail
    go_ret
    exact ⟨rfl, rfl⟩
/-- The gaps. -/
def gaps4 : Array Value := #[.string ⟨#[32]⟩, .string ⟨#[10]⟩, .string ⟨#[32, 35, 120, 10, 9]⟩, .string ⟨#[13, 10, 35, 10]⟩]
theorem gaps4_at : ∀ j, j < 4 → ∃ (gs : ByteArray) (x : List Nat), gaps4[j]? = some (.string gs) ∧ Str gs x ∧ Gap3 x := by
  intro j hj
  match j, hj with
  | 0, _ => exact ⟨_, _, rfl, rfl, gapA⟩
  | 1, _ => exact ⟨_, _, rfl, rfl, gapB⟩
  | 2, _ => exact ⟨_, _, rfl, rfl, gapC⟩
  | 3, _ => exact ⟨_, _, rfl, rfl, gapD⟩
/-- Whatever reading tells. -/
theorem text_gen (s : ByteArray) (l : List Nat) (hs : Str s l) (hl : l.length ≤ 16384) (w : World) (hT : Tab w) :
    Calls Tryz.prog 11 #[.string s] w fun e w' => Below w.heap.size w w' ∧ ∃ A0 n0 c0 A1 n1 c1 A2 n2 c2 A3 n3 c3 A4 n4 c4, ∃ (er at_ : Int), e = .returned (.tuple #[.agg #[.slice A0 n0 c0, .slice A1 n1 c1, .slice A2 n2 c2, .slice A3 n3 c3, .slice A4 n4 c4], dgv er at_]) := by
  obtain ⟨N, hNl, hN, hNb⟩ := ends hs.lt
  refine (text3 N s l hs hl hN hNl hNb w hT).mono fun e w' h => ?_
  obtain ⟨hb, ⟨h1, h2⟩ | ⟨er, j, h1, h2, _, h3⟩ | ⟨us, j, t, h1, h2, h3, _⟩⟩ := h
  · exact ⟨hb, none, 0, 0, none, 0, 0, none, 0, 0, none, 0, 0, none, 0, 0, 7, _, h2⟩
  · exact ⟨hb, none, 0, 0, none, 0, 0, none, 0, 0, none, 0, 0, none, 0, 0, er, _, h3⟩
  · exact ⟨hb, t.g.RA, t.g.rules.length, t.g.rc, t.g.NA, t.g.nodes.length, t.g.nc, t.PA, t.rp.length, t.pc, t.QA, t.np.length, t.qc, t.MA, t.nm.length, t.mc, 0, 0, h3⟩
set_option maxRecDepth 100000 in
set_option maxHeartbeats 2000000 in
theorem blanks_long (s t : ByteArray) (k : Int) (h : 1000 < s.size ∨ 1000 < t.size) (w : World) (hT : Tab w) :
    Calls Tryz.prog 6 #[.string s, .string t, .int .i64 k] w fun e w' => e = .returned (.bool true) ∧ Below w.heap.size w w' := by
  have AW := Lib.hid (awake8_any w hT)
  have TT := Lib.hid hT
  clear hT
  by_cases h3 : (1000 : Int) < s.size
  · clear h
    go_enter Tryz.func6, Tryz.ntmps6
    go_wp2_with (go_at_call 8; (with_reducible refine AW.out.mono ?_); rintro e w1 ⟨rfl, hb⟩; have HB := Lib.hid hb; have T1 := Lib.hid (TT.out.below hb); clear hb)
    go_ret
    exact ⟨rfl, HB.out⟩
  · have h4 : (1000 : Int) < t.size := by omega
    clear h
    go_enter Tryz.func6, Tryz.ntmps6
    go_wp2_with (go_at_call 8; (with_reducible refine AW.out.mono ?_); rintro e w1 ⟨rfl, hb⟩; have HB := Lib.hid hb; have T1 := Lib.hid (TT.out.below hb); clear hb)
    go_ret
    exact ⟨rfl, HB.out⟩
set_option maxRecDepth 100000 in
set_option maxHeartbeats 8000000 in
/-- The first text has something that is no word. -/
theorem blanks_no (s t : ByteArray) (a b : List Nat) (hs : Str s a) (ht : Str t b) (h1 : s.size ≤ 1000) (h2 : t.size ≤ 1000) (k : Int) (hk : -9223372036854775808 ≤ k ∧ k < 9223372036854775808) (N : Nat) (hN : stp a N = true) (hNl : N ≤ a.length) (hNb : ∀ j, j < N → stp a j = false) (ho : ow a N = none) (w : World) (hT : Tab w) :
    Calls Tryz.prog 6 #[.string s, .string t, .int .i64 k] w fun e w' => e = .returned (.bool true) ∧ Below w.heap.size w w' := by
  have z1 := hs.size
  have z2 := ht.size
  obtain ⟨j, ej, hj⟩ : ∃ j : Nat, k % 4 = j ∧ j < 4 := ⟨(k % 4).toNat, by omega, by omega⟩
  obtain ⟨gs, x, eg, hgs, hx⟩ := gaps4_at j hj
  have AL2 : RowKit.Hid (∀ W, Tab W → Calls Tryz.prog 13 #[.string s] W fun e w' => Below W.heap.size W w' ∧ e = .returned (.tuple #[.slice none 0 0, .int .i64 (beg a N : Nat), .int .i64 7])) := Lib.hid (fun W hW => (All_any N s a hs (by omega) hN hNl hNb W hW).mono fun e w' h => by
    obtain ⟨hb, ⟨_, h2⟩ | ⟨v, h2, _⟩⟩ := h
    · exact ⟨hb, h2⟩
    · exact absurd ho h2)
  have TXA : RowKit.Hid (∀ W, Tab W → Calls Tryz.prog 11 #[.string s] W fun e w' => Below W.heap.size W w' ∧ e = .returned (.tuple #[.agg z5, dgv 7 (beg a N : Nat)])) := Lib.hid (fun W hW => (text3 N s a hs (by omega) hN hNl hNb W hW).mono fun e w' h => by
    obtain ⟨hb, ⟨h1, h2⟩ | ⟨er, j, h1, _⟩ | ⟨us', j', t, h1, _⟩⟩ := h
    · exact ⟨hb, h2⟩
    · exact absurd ho h1
    · exact absurd ho h1)
  have TXB := Lib.hid (fun W hW => text_gen t b ht (by omega) W hW)
  have AW := Lib.hid (awake8_any w hT)
  have TT := Lib.hid hT
  have PK := Lib.hid (fun w => pick8 k 4 hk (by decide) w)
  rw [ej] at PK
  have EG := Lib.hid eg
  have i1 : (s.size : Int) ≤ 1000 := by omega
  have i2 : (t.size : Int) ≤ 1000 := by omega
  have j3 : (j : Int) < 4 := by omega
  obtain ⟨Z, eZ⟩ : ∃ Z : Int, Z = (beg a N : Nat) := ⟨_, rfl⟩
  rw [← eZ] at AL2 TXA
  clear hs ht hN hNb hNl hT hk ej eg z1 z2 hx hgs h1 h2 hj eZ ho
  go_enter Tryz.func6, Tryz.ntmps6
  go_upto_region 6 with (first | (go_at_call 8; (with_reducible refine AW.out.mono ?_); rintro e w1 ⟨rfl, hb⟩; have HB := Lib.hid hb; have T1 := Lib.hid (TT.out.below hb); clear hb) | (go_at_call 13; (with_reducible refine (AL2.out _ T1.out).mono ?_); rintro e w2 ⟨hb, rfl⟩; have HB2 := Lib.hid (bb HB.out hb); have T2 := Lib.hid (T1.out.below hb); clear hb))
  obtain ⟨w0, ew0⟩ : ∃ u, u = w2.alloc (.cells gaps4 9) := ⟨_, rfl⟩
  have F0 : RowKit.Hid (Blk w0 w2.heap.size gaps4 9) := Lib.hid (by rw [ew0]; exact Blk.new _ _ _)
  have B0 : RowKit.Hid (Below w.heap.size w w0) := Lib.hid (by rw [ew0]; exact bb HB2.out (B1 w2 _))
  have T0 : RowKit.Hid (Tab w0) := Lib.hid (by rw [ew0]; exact T2.out.below (B1 w2 _))
  have ew1 := ew0
  simp only [gaps4] at ew1
  go_wp2_with fail
  rw [← ew1]
  clear ew0 ew1
  refine (PK.out _).mono ?_
  rintro e w3 ⟨rfl, rfl⟩
  have c1 : w0.cell? ⟨w2.heap.size, j, none⟩ = some (.string gs) := by rw [F0.out.cell]; exact EG.out
  go_upto_region 8 with fail
  go_wp2_with fail
  go_loopw [11, 12] (fun v11 v12 wr => v11 = .string ⟨#[]⟩ ∧ v12 = .int .i64 0 ∧ wr = w0) (fun _ _ _ => 0)
  case atStart => exact ⟨rfl, rfl, rfl⟩
  case round =>
  obtain ⟨rfl, rfl, rfl⟩ := hrel
  go_upto_region 13 with (first | (go_at_call 11; (with_reducible refine (TXA.out _ T0.out).mono ?_); rintro e wt1 ⟨hb1, rfl⟩; have HT1 := Lib.hid hb1; have BT1 := Lib.hid (bb B0.out hb1); have TB1 := Lib.hid (T0.out.below hb1); clear hb1) | (refine wpList_store_whole rfl 31 (.tmp 13) (.tmp 71) rfl wt1.heap.size z5 rfl rfl 31 _ (two_blks wt1).1 (by kernel_rfl) (by rfl) (by simp [Value.oneCell']) ?_; intro wu1 hk2 hg2; have K2 := Lib.hid hk2; have G2 := Lib.hid hg2; have D2 := Lib.hid ((two_blks wt1).2.grown hg2 (by simp)); clear hk2 hg2) | (refine wpList_store_whole rfl 34 (.tmp 14) (.tmp 72) rfl (wt1.heap.size + 1) #[.int .i64 7, .int .i64 Z] rfl rfl 34 _ D2.out (by kernel_rfl) (by rfl) (by simp [Value.oneCell']) ?_; intro wv1 hk3 hg3; have H1 := Lib.hid (pair_set BT1.out BT1.out.size G2.out K2.out hg3 hk3); clear hk3 hg3))
  clear K2 G2 D2
  have TV1 := Lib.hid (TB1.out.below H1.out.2.1)
  have S1 : RowKit.Hid (wt1.heap.size + 1 < wv1.heap.size) := Lib.hid H1.out.2.2.2.lt
  have HV1 := Lib.hid H1.out.1
  have d0 : wv1.cell? ⟨wt1.heap.size + 1, 0, none⟩ = some (.int .i64 7) := H1.out.2.2.2.cell 0
  go_upto_region 18 with (first | (go_at_call 11; (with_reducible refine (TXB.out _ TV1.out).mono ?_); rintro e wt2 ⟨hb2, Ab0, nb0, cb0, Ab1, nb1, cb1, Ab2, nb2, cb2, Ab3, nb3, cb3, Ab4, nb4, cb4, erb, atb, rfl⟩; have HT2 := Lib.hid hb2; have BT2 := Lib.hid (bb HV1.out hb2); have TB2 := Lib.hid (TV1.out.below hb2); clear hb2) | (refine wpList_store_whole rfl 31 (.tmp 17) (.tmp 101) rfl wt2.heap.size #[.slice Ab0 nb0 cb0, .slice Ab1 nb1 cb1, .slice Ab2 nb2 cb2, .slice Ab3 nb3 cb3, .slice Ab4 nb4 cb4] rfl rfl 31 _ (two_blks wt2).1 (by kernel_rfl) (by rfl) (by simp [Value.oneCell']) ?_; intro wu2 hk2 hg2; have K2 := Lib.hid hk2; have G2 := Lib.hid hg2; have D2 := Lib.hid ((two_blks wt2).2.grown hg2 (by simp)); clear hk2 hg2) | (refine wpList_store_whole rfl 34 (.tmp 18) (.tmp 102) rfl (wt2.heap.size + 1) #[.int .i64 erb, .int .i64 atb] rfl rfl 34 _ D2.out (by kernel_rfl) (by rfl) (by simp [Value.oneCell']) ?_; intro wv2 hk3 hg3; have H2 := Lib.hid (pair_set BT2.out BT2.out.size G2.out K2.out hg3 hk3); clear hk3 hg3))
  clear K2 G2 D2
  have TV2 := Lib.hid (TB2.out.below H2.out.2.1)
  have S2 : RowKit.Hid (wt2.heap.size + 1 < wv2.heap.size) := Lib.hid H2.out.2.2.2.lt
  have d1 : wv2.cell? ⟨wt1.heap.size + 1, 0, none⟩ = some (.int .i64 7) := (H1.out.2.2.2.below (HT2.out.trans (H2.out.2.1.mono HT2.out.size)) (by have := S1.out; omega)).cell 0
  go_wp2_with fail
  go_ret
  exact ⟨rfl, H2.out.1⟩
end Go.Proofs.YtphdplommmkncaaGreatDoor
namespace Go.Proofs.YtphdplommmkncaaGreatDoor
open Go Go.RowKit
/-- The cells of a word of a row. -/
theorem cells_at {w : World} {base g n c i : Nat} {l : List Nat} {y : Wd} (h : w.ownsRow base 45 9 (.slice (some ⟨g, 0, none⟩) n c) n (wrow l n)) (hi : i < n) (hy : ow l i = some y) (j : Nat) (hj : j < 9) : w.cell? ⟨g, i * 9 + j, none⟩ = (wfull y (beg l i))[j]? := by
  rw [h.cellAt (i * 9 + j) (by omega), Nat.mul_comm i 9, wrow_at l i n j hi hj, wA_some hy]
theorem wt_fit {l : List Nat} (hl : ∀ y ∈ l, y < 256) {N : Nat} (hN : stp l N = true) (hNb : ∀ j, j < N → stp l j = false) (ho : ow l N ≠ none) {i : Nat} (hi : i ≤ N) : pos l i + (wt l i).length ≤ pos l (i + 1) := by
  have h := tkn_here hN hNb ho hi
  have h1 := (wt_len hl h).1
  have h2 := pos_some h
  have h3 := pos_beg l i
  omega
theorem spr_size {l x : List Nat} (hl : ∀ y ∈ l, y < 256) (hz : l.length ≤ 1000) (hx : x.length ≤ 5) {N : Nat} (hN : stp l N = true) (hNl : N ≤ l.length) (hNb : ∀ j, j < N → stp l j = false) (ho : ow l N ≠ none) {k : Nat} (hk : k ≤ N + 1) : (spr l x k).length ≤ 6005 := by
  have h1 := spr_len hx k (fun i hi => wt_fit hl hN hNb ho (by omega))
  have h2 := pos_le hl k
  omega
theorem spr_ge {l x : List Nat} (hx : x ≠ []) : ∀ k, k ≤ (spr l x k).length
  | 0 => Nat.zero_le _
  | k + 1 => by
    have := spr_ge (l := l) hx k
    have h : 0 < x.length := List.length_pos_iff.2 hx
    simp only [spr, List.length_append]
    omega
set_option maxRecDepth 100000 in
set_option maxHeartbeats 16000000 in
/-- The first text's words can't be read. -/
theorem blanks_er (s t : ByteArray) (a b : List Nat) (hs : Str s a) (ht : Str t b) (h1 : s.size ≤ 1000) (h2 : t.size ≤ 1000) (k : Int) (hk : -9223372036854775808 ≤ k ∧ k < 9223372036854775808) (N : Nat) (hN : stp a N = true) (hNl : N ≤ a.length) (hNb : ∀ j, j < N → stp a j = false) (ho : ow a N ≠ none) (er : Int) (jj : Nat) (hw : Why er) (htr : trd a N = .no er jj) (w : World) (hT : Tab w) :
    Calls Tryz.prog 6 #[.string s, .string t, .int .i64 k] w fun e w' => e = .returned (.bool true) ∧ Below w.heap.size w w' := by
  have z1 := hs.size
  have z2 := ht.size
  obtain ⟨j, ej, hj⟩ : ∃ j : Nat, k % 4 = j ∧ j < 4 := ⟨(k % 4).toNat, by omega, by omega⟩
  obtain ⟨gs, x, eg, hgs, hx⟩ := gaps4_at j hj
  have z3 := hgs.size
  have z4 := hx.len
  have AL2 : RowKit.Hid (∀ W, Tab W → Calls Tryz.prog 13 #[.string s] W fun e w' => Below W.heap.size W w' ∧ ∃ g c, e = .returned (.tuple #[.slice (some ⟨g, 0, none⟩) (N + 1) c, .int .i64 0, .int .i64 0]) ∧ w'.ownsRow W.heap.size 45 9 (.slice (some ⟨g, 0, none⟩) (N + 1) c) (N + 1) (wrow a (N + 1))) := Lib.hid (fun W hW => (All_any N s a hs (by omega) hN hNl hNb W hW).mono fun e w' h => by
    obtain ⟨hb, ⟨h2, _⟩ | ⟨v, _, h2, h4⟩⟩ := h
    · exact absurd h2 ho
    · have h5 := h4
      rcases h4.2 with ⟨_, h6⟩ | ⟨g, cap, cur, rfl, _⟩
      · omega
      · exact ⟨hb, g, cap, h2, h5⟩)
  obtain ⟨p1, p2, p3, p4⟩ := spread_same hs.lt hx hN hNb ho
  have LS := Lib.hid (fun k (hk : k ≤ N + 1) => spr_size hs.lt (by omega) z4 hN hNl hNb ho hk)
  have PS := Lib.hid (And.intro p1 (And.intro p2 (And.intro p3 p4)))
  have SP := Lib.hid (spr_lt hs.lt hx.lt (N + 1))
  have HERE := Lib.hid (fun k (hk : k ≤ N) => tkn_here hN hNb ho hk)
  have HA := Lib.hid hs
  have HG := Lib.hid hgs
  have HTT := Lib.hid ht
  have NN := Lib.hid (show N ≤ 1000 ∧ s.size ≤ 1000 ∧ gs.size ≤ 5 ∧ t.size ≤ 1000 by omega)
  have TXA : RowKit.Hid (∀ W, Tab W → Calls Tryz.prog 11 #[.string s] W fun e w' => Below W.heap.size W w' ∧ ∃ at_ : Int, e = .returned (.tuple #[.agg z5, dgv er at_])) := Lib.hid (fun W hW => (text3 N s a hs (by omega) hN hNl hNb W hW).mono fun e w' h => by
    obtain ⟨hb, ⟨h1, h2⟩ | ⟨er', j', h1, h2, _, h3⟩ | ⟨us', j', t, h1, h2, _⟩⟩ := h
    · exact absurd h1 ho
    · rw [htr] at h2; cases h2; exact ⟨hb, _, h3⟩
    · rw [htr] at h2; cases h2)
  have TXS : RowKit.Hid (∀ S : ByteArray, Str S (spr a x (N + 1)) → ∀ W, Tab W → Calls Tryz.prog 11 #[.string S] W fun e w' => Below W.heap.size W w' ∧ ∃ at_ : Int, e = .returned (.tuple #[.agg z5, dgv er at_])) := Lib.hid (fun S hS W hW => (text3 N S _ hS (by have := LS.out (N + 1) (Nat.le_refl _); omega) p1 (by have h := spread_at hs.lt hx hN hNb ho N (Nat.le_refl _); have h2 := beg_le SP.out N; have h3 : N ≤ (spr a x N).length := spr_ge hx.ne N; omega) p2 W hW).mono fun e w' h => by
    obtain ⟨hb, ⟨h1, h2⟩ | ⟨er', j', h1, h2, _, h3⟩ | ⟨us', j', t, h1, h2, _⟩⟩ := h
    · exact absurd h1 p3
    · rw [p4, htr] at h2; cases h2; exact ⟨hb, _, h3⟩
    · rw [p4, htr] at h2; cases h2)
  have TXB := Lib.hid (fun W hW => text_gen t b ht (by omega) W hW)
  have e1 : (er == 0) = false := by rcases hw with rfl | rfl <;> rfl
  have e2 : (er != 0) = true := by rcases hw with rfl | rfl <;> rfl
  have e3 : ¬ er = 0 := by rcases hw with rfl | rfl <;> decide
  have AW := Lib.hid (awake8_any w hT)
  have TT := Lib.hid hT
  have PK := Lib.hid (fun w => pick8 k 4 hk (by decide) w)
  rw [ej] at PK
  have EG := Lib.hid eg
  have i1 : (s.size : Int) ≤ 1000 := by omega
  have i2 : (t.size : Int) ≤ 1000 := by omega
  have j3 : (j : Int) < 4 := by omega
  clear hs ht hN hNb hNl hT hk ej eg z1 z2 z3 z4 hx hgs h1 h2 hj ho p1 p2 p3 p4 htr hw
  go_enter Tryz.func6, Tryz.ntmps6
  go_upto_region 6 with (first | (go_at_call 8; (with_reducible refine AW.out.mono ?_); rintro e w1 ⟨rfl, hb⟩; have HB := Lib.hid hb; have T1 := Lib.hid (TT.out.below hb); clear hb) | (go_at_call 13; (with_reducible refine (AL2.out _ T1.out).mono ?_); rintro e w2 ⟨hb, g, c, rfl, ho⟩; have HB2 := Lib.hid (bb HB.out hb); have T2 := Lib.hid (T1.out.below hb); have OW := Lib.hid ho; clear hb ho))
  obtain ⟨w0, ew0⟩ : ∃ u, u = w2.alloc (.cells gaps4 9) := ⟨_, rfl⟩
  have F0 : RowKit.Hid (Blk w0 w2.heap.size gaps4 9) := Lib.hid (by rw [ew0]; exact Blk.new _ _ _)
  have BB0 : RowKit.Hid (Below w2.heap.size w2 w0) := Lib.hid (by rw [ew0]; exact B1 w2 _)
  have B0 : RowKit.Hid (Below w.heap.size w w0) := Lib.hid (by rw [ew0]; exact bb HB2.out (B1 w2 _))
  have T0 : RowKit.Hid (Tab w0) := Lib.hid (by rw [ew0]; exact T2.out.below (B1 w2 _))
  have ew1 := ew0
  simp only [gaps4] at ew1
  go_wp2_with fail
  rw [← ew1]
  clear ew0 ew1
  refine (PK.out _).mono ?_
  rintro e w3 ⟨rfl, rfl⟩
  have c1 : w0.cell? ⟨w2.heap.size, j, none⟩ = some (.string gs) := by rw [F0.out.cell]; exact EG.out
  have OW0 := Lib.hid (own_below OW.out (show Below w2.heap.size w2 w0 from BB0.out))
  go_upto_region 8 with fail
  go_wp2_with fail
  go_loopw [11, 12] (fun v11 v12 wr => ∃ (i n : Nat) (S : ByteArray), i ≤ N + 1 ∧ v12 = .int .i64 i ∧ v11 = .string S ∧ Str S (spr a x i) ∧ wr = w0.drewN n) (fun _ v12 _ => N + 1 - (intOf v12).toNat)
  case atStart => exact ⟨0, 0, ⟨#[]⟩, Nat.zero_le _, rfl, rfl, rfl, rfl⟩
  case round =>
    obtain ⟨i, n, S, hi, rfl, rfl, hS, rfl⟩ := hrel
    have HS := Lib.hid hS
    clear hS
    have hi2 : i ≤ 1001 := by have := NN.out; omega
    by_cases hlt : i < N + 1
    · have hlt2 : (i : Int) < N + 1 := by omega
      have hlt3 : (i : Int) < ((N + 1 : Nat) : Int) := by omega
      have hy := HERE.out i (by omega)
      have RC := cells_at OW0.out hlt hy
      have r1 := RC 1 (by omega)
      have r2 := RC 2 (by omega)
      simp only [wfull, List.getElem?_toArray, List.getElem?_cons_zero, List.getElem?_cons_succ] at r1 r2
      have hl := wt_len HA.out.lt hy
      have hza := HA.out.size
      have hS1 := HS.out.size
      have hS2 := LS.out i (by omega)
      have hNN := NN.out
      obtain ⟨p, ep⟩ : ∃ p, p = beg a i := ⟨_, rfl⟩
      obtain ⟨q, eq⟩ : ∃ q, q = beg a i + (tkn a i).len := ⟨_, rfl⟩
      rw [← ep] at r1
      rw [← eq] at r2
      have HW : RowKit.Hid (Str (s.extract p q) (wt a i)) := Lib.hid (by
        have := HA.out.extract p q
        rw [ep, eq, Nat.add_sub_cancel_left] at this
        rw [ep, eq]
        exact this)
      have g1 : ¬ (q : Int) < p := by omega
      have g2 : ¬ (s.size : Int) < q := by omega
      have g3 : ¬ 9223372036854775807 < S.size + gs.size := by omega
      have g4 : ¬ 9223372036854775807 < (S ++ gs).size + (s.extract p q).size := by rw [ByteArray.size_append, ByteArray.size_extract]; omega
      have g5 : ¬ 9223372036854775807 < S.size + gs.size + (s.extract p q).size := by rw [ByteArray.size_extract]; omega
      have g6 : (0 : Int) ≤ p := by omega
      have g7 : (p : Int) ≤ q := by omega
      have g8 : (q : Int) ≤ s.size := by omega
      have SX : RowKit.Hid (Str (S ++ gs ++ s.extract p q) (spr a x (i + 1))) := Lib.hid (by
        have := (HS.out.append HG.out).append HW.out
        rw [List.append_assoc] at this
        exact this)
      clear RC hy hl hza hS1 hS2 hNN ep eq
      go_wp2_with fail
      go_quiet (fail)
      go_wp2_with fail
      go_roundw
      case rel => exact ⟨i + 1, n + nq, _, by omega, by go_num, rfl, SX.out, by first | rfl | exact World.drewN_drewN _ _ _⟩
      case measure => first | (simp [intOf]; done) | (simp [intOf]; omega)
    · have hlt2 : ¬ (i : Int) < N + 1 := by omega
      have hlt3 : ¬ (i : Int) < ((N + 1 : Nat) : Int) := by omega
      obtain rfl : i = N + 1 := by omega
      have ls : S.size < 16384 := by have := HS.out.size; have := LS.out (N + 1) (Nat.le_refl _); omega
      have ls2 : (S.size : Int) < 16384 := by omega
      obtain ⟨wa, ewa⟩ : ∃ u, u = w0.drewN n := ⟨_, rfl⟩
      have BA : RowKit.Hid (Below w.heap.size w wa) := Lib.hid (by rw [ewa]; exact bdrew B0.out)
      have TA : RowKit.Hid (Tab wa) := Lib.hid (by rw [ewa]; exact T0.out.below (bdrew (Below.refl _ _)))
      rw [← ewa]
      clear ewa hi hlt
      have SGZ : RowKit.Hid (∀ W : World, Calls Tryz.prog 15 #[.agg #[nil3, nil3], .agg #[nil3, nil3]] W fun e w' => e = .returned (.bool true) ∧ Below W.heap.size W w') := Lib.hid (fun W => by
        have h0 : Gr.At W ⟨none, 0, [], none, 0, []⟩ := ⟨fun h => by simp at h, fun h => by simp at h, fun x hx => by simp at hx, by simp, by simp, fun _ => rfl, fun _ => rfl, fun x hx => by simp at hx, fun x hx => by simp at hx⟩
        have := kitGram_any _ _ W h0 h0
        rw [sameGr_iff.2 ⟨rfl, rfl⟩] at this
        exact this)
      have TXS2 := Lib.hid (TXS.out S HS.out)
      go_upto_region 13 with (first | (go_at_call 11; (with_reducible refine (TXA.out _ TA.out).mono ?_); rintro e wt1 ⟨hb1, at1, rfl⟩; have HT1 := Lib.hid hb1; have BT1 := Lib.hid (bb BA.out hb1); have TB1 := Lib.hid (TA.out.below hb1); clear hb1) | (refine wpList_store_whole rfl 31 (.tmp 13) (.tmp 71) rfl wt1.heap.size z5 rfl rfl 31 _ (two_blks wt1).1 (by kernel_rfl) (by rfl) (by simp [Value.oneCell']) ?_; intro wu1 hk2 hg2; have K2 := Lib.hid hk2; have G2 := Lib.hid hg2; have D2 := Lib.hid ((two_blks wt1).2.grown hg2 (by simp)); clear hk2 hg2) | (refine wpList_store_whole rfl 34 (.tmp 14) (.tmp 72) rfl (wt1.heap.size + 1) #[.int .i64 er, .int .i64 at1] rfl rfl 34 _ D2.out (by kernel_rfl) (by rfl) (by simp [Value.oneCell']) ?_; intro wv1 hk3 hg3; have H1 := Lib.hid (pair_set BT1.out BT1.out.size G2.out K2.out hg3 hk3); clear hk3 hg3))
      clear K2 G2 D2
      have TV1 := Lib.hid (TB1.out.below H1.out.2.1)
      have S1 : RowKit.Hid (wt1.heap.size + 1 < wv1.heap.size) := Lib.hid H1.out.2.2.2.lt
      have HV1 := Lib.hid H1.out.1
      go_upto_region 15 with (first | (go_at_call 11; (with_reducible refine (TXS2.out _ TV1.out).mono ?_); rintro e wt2 ⟨hb2, at2, rfl⟩; have HT2 := Lib.hid hb2; have BT2 := Lib.hid (bb HV1.out hb2); have TB2 := Lib.hid (TV1.out.below hb2); clear hb2) | (refine wpList_store_whole rfl 31 (.tmp 15) (.tmp 83) rfl wt2.heap.size z5 rfl rfl 31 _ (two_blks wt2).1 (by kernel_rfl) (by rfl) (by simp [Value.oneCell']) ?_; intro wu2 hk2 hg2; have K2 := Lib.hid hk2; have G2 := Lib.hid hg2; have D2 := Lib.hid ((two_blks wt2).2.grown hg2 (by simp)); clear hk2 hg2) | (refine wpList_store_whole rfl 34 (.tmp 16) (.tmp 84) rfl (wt2.heap.size + 1) #[.int .i64 er, .int .i64 at2] rfl rfl 34 _ D2.out (by kernel_rfl) (by rfl) (by simp [Value.oneCell']) ?_; intro wv2 hk3 hg3; have H2 := Lib.hid (pair_set BT2.out BT2.out.size G2.out K2.out hg3 hk3); clear hk3 hg3))
      clear K2 G2 D2
      have TV2 := Lib.hid (TB2.out.below H2.out.2.1)
      have S2 : RowKit.Hid (wt2.heap.size + 1 < wv2.heap.size) := Lib.hid H2.out.2.2.2.lt
      have X12 := Lib.hid (HT2.out.trans (H2.out.2.1.mono HT2.out.size))
      have c0 : wv2.cell? ⟨wt1.heap.size + 1, 0, none⟩ = some (.int .i64 er) := (H1.out.2.2.2.below X12.out (by have := S1.out; omega)).cell 0
      have c1 : wv2.cell? ⟨wt2.heap.size + 1, 0, none⟩ = some (.int .i64 er) := H2.out.2.2.2.cell 0
      have c2 : wv2.cell? ⟨wt1.heap.size, 0, none⟩ = some nil3 := (H1.out.2.2.1.below X12.out (by have := S1.out; omega)).cell 0
      have c3 : wv2.cell? ⟨wt1.heap.size, 1, none⟩ = some nil3 := (H1.out.2.2.1.below X12.out (by have := S1.out; omega)).cell 1
      have c4 : wv2.cell? ⟨wt2.heap.size, 0, none⟩ = some nil3 := H2.out.2.2.1.cell 0
      have c5 : wv2.cell? ⟨wt2.heap.size, 1, none⟩ = some nil3 := H2.out.2.2.1.cell 1
      go_wp2_with fail
      with_reducible refine (SGZ.out _).mono ?_
      rintro e wg ⟨rfl, hb⟩
      have HV3 := Lib.hid (bb H2.out.1 hb)
      have TV3 := Lib.hid (TV2.out.below hb)
      have X3 := Lib.hid hb
      clear hb c0 c1 c2 c3 c4 c5
      go_upto_region 18 with (first | (go_at_call 11; (with_reducible refine (TXB.out _ TV3.out).mono ?_); rintro e wt3 ⟨hb3, Ab0, nb0, cb0, Ab1, nb1, cb1, Ab2, nb2, cb2, Ab3, nb3, cb3, Ab4, nb4, cb4, erb, atb, rfl⟩; have HT3 := Lib.hid hb3; have BT3 := Lib.hid (bb HV3.out hb3); have TB3 := Lib.hid (TV3.out.below hb3); clear hb3) | (refine wpList_store_whole rfl 31 (.tmp 17) (.tmp 101) rfl wt3.heap.size #[.slice Ab0 nb0 cb0, .slice Ab1 nb1 cb1, .slice Ab2 nb2 cb2, .slice Ab3 nb3 cb3, .slice Ab4 nb4 cb4] rfl rfl 31 _ (two_blks wt3).1 (by kernel_rfl) (by rfl) (by simp [Value.oneCell']) ?_; intro wu3 hk2 hg2; have K2 := Lib.hid hk2; have G2 := Lib.hid hg2; have D2 := Lib.hid ((two_blks wt3).2.grown hg2 (by simp)); clear hk2 hg2) | (refine wpList_store_whole rfl 34 (.tmp 18) (.tmp 102) rfl (wt3.heap.size + 1) #[.int .i64 erb, .int .i64 atb] rfl rfl 34 _ D2.out (by kernel_rfl) (by rfl) (by simp [Value.oneCell']) ?_; intro wv3 hk3 hg3; have H3 := Lib.hid (pair_set BT3.out BT3.out.size G2.out K2.out hg3 hk3); clear hk3 hg3))
      clear K2 G2 D2
      have TV3 := Lib.hid (TB3.out.below H3.out.2.1)
      have S3 : RowKit.Hid (wt3.heap.size + 1 < wv3.heap.size) := Lib.hid H3.out.2.2.2.lt
      have X13 := Lib.hid (X12.out.trans ((X3.out.trans ((HT3.out.trans (H3.out.2.1.mono HT3.out.size)).mono X3.out.size)).mono X12.out.size))
      have c0 : wv3.cell? ⟨wt1.heap.size + 1, 0, none⟩ = some (.int .i64 er) := (H1.out.2.2.2.below X13.out (by have := S1.out; omega)).cell 0
      go_wp2_with fail
      go_ret
      exact ⟨rfl, H3.out.1⟩
end Go.Proofs.YtphdplommmkncaaGreatDoor
namespace Go.Proofs.YtphdplommmkncaaGreatDoor
open Go Go.RowKit
theorem text_ok (N : Nat) (s : ByteArray) (l : List Nat) (hs : Str s l) (hl : l.length ≤ 16384) (hN : stp l N = true) (hNl : N ≤ l.length) (hNb : ∀ j, j < N → stp l j = false) (ho : ow l N ≠ none) {us : List Ru} {j : Nat} (ht : trd l N = .ok us j) (w : World) (hT : Tab w) :
    Calls Tryz.prog 11 #[.string s] w fun e w' => Below w.heap.size w w' ∧ ∃ (t : Tre) (rb ro : Nat), e = .returned (.tuple #[.agg #[.slice (some ⟨rb, ro, none⟩) us.length t.g.rc, .slice t.g.NA (bod us).nodes t.g.nc, .slice t.PA us.length t.pc, .slice t.QA (bod us).nodes t.qc, .slice t.MA (bod us).nodes t.mc], dgv 0 0]) ∧ t.g.RA = some ⟨rb, ro, none⟩ ∧ t.At w' ∧ t.Says l us := by
  refine (text3 N s l hs hl hN hNl hNb w hT).mono fun e w' h => ?_
  obtain ⟨hb, ⟨h1, h2⟩ | ⟨er, j, h1, h2, _⟩ | ⟨us', j', t, h1, h2, h3, h4, h5, G⟩⟩ := h
  · exact absurd h1 ho
  · rw [ht] at h2; cases h2
  · rw [ht] at h2
    cases h2
    obtain ⟨hn1, hn2, hn3⟩ := h5.nlen
    obtain ⟨hr1, hr2⟩ := h5.rlen
    obtain ⟨rb, ro, e1, _, _⟩ := h4.g.rules (by rw [hr1]; exact List.length_pos_iff.2 G.ne)
    refine ⟨hb, t, rb, ro, ?_, e1, h4, h5⟩
    rw [h3]
    simp only [Tre.val, e1, hn1, hn2, hn3, hr1, hr2]
/-- Two trees of the same rules are the same grammar. -/
theorem gram_eq {l l' : List Nat} {us : List Ru} {t u : Tre} {rb ro rb' ro' : Nat} {w : World} (h1 : t.At w) (h2 : u.At w) (s1 : t.Says l us) (s2 : u.Says l' us) (e1 : t.g.RA = some ⟨rb, ro, none⟩) (e2 : u.g.RA = some ⟨rb', ro', none⟩) :
    Calls Tryz.prog 15 #[.agg #[.slice (some ⟨rb, ro, none⟩) us.length t.g.rc, .slice t.g.NA (bod us).nodes t.g.nc], .agg #[.slice (some ⟨rb', ro', none⟩) us.length u.g.rc, .slice u.g.NA (bod us).nodes u.g.nc]] w fun e w' => e = .returned (.bool true) ∧ Below w.heap.size w w' := by
  have := kitGram_any t.g u.g w h1.g h2.g
  rw [sameGr_iff.2 ⟨by rw [s1.rules, s2.rules], by rw [s1.keys, s2.keys]⟩] at this
  simp only [Gr.val, e1, e2, s1.nlen.1, s2.nlen.1, s1.rlen.1, s2.rlen.1] at this
  exact this
theorem bound_spr {s : ByteArray} {a x : List Nat} {N : Nat} (hl : ∀ y ∈ a, y < 256) (hx : Gap3 x) (hN : stp a N = true) (hNb : ∀ j, j < N → stp a j = false) (ho : ow a N ≠ none) : N ≤ (spr a x (N + 1)).length := by
  have h := spread_at hl hx hN hNb ho N (Nat.le_refl _)
  have h2 := beg_le (spr_lt hl hx.lt (N + 1)) N
  have h3 : N ≤ (spr a x N).length := spr_ge hx.ne N
  omega
set_option maxRecDepth 100000 in
set_option maxHeartbeats 16000000 in
/-- The first text is read, the second one is not. -/
theorem blanks_ob (s t : ByteArray) (a b : List Nat) (hs : Str s a) (ht : Str t b) (h1 : s.size ≤ 1000) (h2 : t.size ≤ 1000) (k : Int) (hk : -9223372036854775808 ≤ k ∧ k < 9223372036854775808) (N : Nat) (hN : stp a N = true) (hNl : N ≤ a.length) (hNb : ∀ j, j < N → stp a j = false) (ho : ow a N ≠ none) {us : List Ru} {jj : Nat} (htr : trd a N = .ok us jj) (er : Int) (atb : Nat) (hw : Why er) (htb : ∀ W, Tab W → Calls Tryz.prog 11 #[.string t] W fun e w' => Below W.heap.size W w' ∧ e = .returned (.tuple #[.agg z5, dgv er atb])) (w : World) (hT : Tab w) :
    Calls Tryz.prog 6 #[.string s, .string t, .int .i64 k] w fun e w' => e = .returned (.bool true) ∧ Below w.heap.size w w' := by
  have z1 := hs.size
  have z2 := ht.size
  obtain ⟨j, ej, hj⟩ : ∃ j : Nat, k % 4 = j ∧ j < 4 := ⟨(k % 4).toNat, by omega, by omega⟩
  obtain ⟨gs, x, eg, hgs, hx⟩ := gaps4_at j hj
  have z3 := hgs.size
  have z4 := hx.len
  have AL2 : RowKit.Hid (∀ W, Tab W → Calls Tryz.prog 13 #[.string s] W fun e w' => Below W.heap.size W w' ∧ ∃ g c, e = .returned (.tuple #[.slice (some ⟨g, 0, none⟩) (N + 1) c, .int .i64 0, .int .i64 0]) ∧ w'.ownsRow W.heap.size 45 9 (.slice (some ⟨g, 0, none⟩) (N + 1) c) (N + 1) (wrow a (N + 1))) := Lib.hid (fun W hW => (All_any N s a hs (by omega) hN hNl hNb W hW).mono fun e w' h => by
    obtain ⟨hb, ⟨h2, _⟩ | ⟨v, _, h2, h4⟩⟩ := h
    · exact absurd h2 ho
    · have h5 := h4
      rcases h4.2 with ⟨_, h6⟩ | ⟨g, cap, cur, rfl, _⟩
      · omega
      · exact ⟨hb, g, cap, h2, h5⟩)
  obtain ⟨p1, p2, p3, p4⟩ := spread_same hs.lt hx hN hNb ho
  have LS := Lib.hid (fun k (hk : k ≤ N + 1) => spr_size hs.lt (by omega) z4 hN hNl hNb ho hk)
  have PS := Lib.hid (And.intro p1 (And.intro p2 (And.intro p3 p4)))
  have SP := Lib.hid (spr_lt hs.lt hx.lt (N + 1))
  have HERE := Lib.hid (fun k (hk : k ≤ N) => tkn_here hN hNb ho hk)
  have HA := Lib.hid hs
  have HG := Lib.hid hgs
  have HTT := Lib.hid ht
  have NN := Lib.hid (show N ≤ 1000 ∧ s.size ≤ 1000 ∧ gs.size ≤ 5 ∧ t.size ≤ 1000 by omega)
  have TXA := Lib.hid (fun W hW => text_ok N s a hs (by omega) hN hNl hNb ho htr W hW)
  have TXS := Lib.hid (fun (S : ByteArray) (hS : Str S (spr a x (N + 1))) W hW => text_ok N S _ hS (by have := LS.out (N + 1) (Nat.le_refl _); omega) p1 (bound_spr (s := s) hs.lt hx hN hNb ho) p2 p3 (p4.trans htr) W hW)
  obtain ⟨R, eR⟩ : ∃ R, R = us.length := ⟨_, rfl⟩
  obtain ⟨n1, en1⟩ : ∃ n, n = (bod us).nodes := ⟨_, rfl⟩
  have GE := Lib.hid (fun (t u : Tre) (rb ro rb' ro' : Nat) (W : World) h1 h2 s1 s2 e1 e2 => gram_eq (l := a) (l' := spr a x (N + 1)) (us := us) (t := t) (u := u) (rb := rb) (ro := ro) (rb' := rb') (ro' := ro') (w := W) h1 h2 s1 s2 e1 e2)
  have ER := Lib.hid (And.intro eR en1)
  have GOT := Lib.hid (got hs.lt (by omega) hN hNl hNb ho htr)
  rw [← eR, ← en1] at TXA TXS GE
  have TXB : RowKit.Hid (∀ W, Tab W → Calls Tryz.prog 11 #[.string t] W fun e w' => Below W.heap.size W w' ∧ e = .returned (.tuple #[.agg z5, dgv er atb])) := Lib.hid htb
  have e1 : (er == 0) = false := by rcases hw with rfl | rfl <;> rfl
  have e2 : (er != 0) = true := by rcases hw with rfl | rfl <;> rfl
  have e3 : ¬ er = 0 := by rcases hw with rfl | rfl <;> decide
  have AW := Lib.hid (awake8_any w hT)
  have TT := Lib.hid hT
  have PK := Lib.hid (fun w => pick8 k 4 hk (by decide) w)
  rw [ej] at PK
  have EG := Lib.hid eg
  have i1 : (s.size : Int) ≤ 1000 := by omega
  have i2 : (t.size : Int) ≤ 1000 := by omega
  have j3 : (j : Int) < 4 := by omega
  clear hs ht hN hNb hNl hT hk ej eg z1 z2 z3 z4 hx hgs h1 h2 hj ho p1 p2 p3 p4 htr hw htb eR en1
  go_enter Tryz.func6, Tryz.ntmps6
  go_upto_region 6 with (first | (go_at_call 8; (with_reducible refine AW.out.mono ?_); rintro e w1 ⟨rfl, hb⟩; have HB := Lib.hid hb; have T1 := Lib.hid (TT.out.below hb); clear hb) | (go_at_call 13; (with_reducible refine (AL2.out _ T1.out).mono ?_); rintro e w2 ⟨hb, g, c, rfl, ho⟩; have HB2 := Lib.hid (bb HB.out hb); have T2 := Lib.hid (T1.out.below hb); have OW := Lib.hid ho; clear hb ho))
  obtain ⟨w0, ew0⟩ : ∃ u, u = w2.alloc (.cells gaps4 9) := ⟨_, rfl⟩
  have F0 : RowKit.Hid (Blk w0 w2.heap.size gaps4 9) := Lib.hid (by rw [ew0]; exact Blk.new _ _ _)
  have BB0 : RowKit.Hid (Below w2.heap.size w2 w0) := Lib.hid (by rw [ew0]; exact B1 w2 _)
  have B0 : RowKit.Hid (Below w.heap.size w w0) := Lib.hid (by rw [ew0]; exact bb HB2.out (B1 w2 _))
  have T0 : RowKit.Hid (Tab w0) := Lib.hid (by rw [ew0]; exact T2.out.below (B1 w2 _))
  have ew1 := ew0
  simp only [gaps4] at ew1
  go_wp2_with fail
  rw [← ew1]
  clear ew0 ew1
  refine (PK.out _).mono ?_
  rintro e w3 ⟨rfl, rfl⟩
  have c1 : w0.cell? ⟨w2.heap.size, j, none⟩ = some (.string gs) := by rw [F0.out.cell]; exact EG.out
  have OW0 := Lib.hid (own_below OW.out (show Below w2.heap.size w2 w0 from BB0.out))
  go_upto_region 8 with fail
  go_wp2_with fail
  go_loopw [11, 12] (fun v11 v12 wr => ∃ (i n : Nat) (S : ByteArray), i ≤ N + 1 ∧ v12 = .int .i64 i ∧ v11 = .string S ∧ Str S (spr a x i) ∧ wr = w0.drewN n) (fun _ v12 _ => N + 1 - (intOf v12).toNat)
  case atStart => exact ⟨0, 0, ⟨#[]⟩, Nat.zero_le _, rfl, rfl, rfl, rfl⟩
  case round =>
    obtain ⟨i, n, S, hi, rfl, rfl, hS, rfl⟩ := hrel
    have HS := Lib.hid hS
    clear hS
    have hi2 : i ≤ 1001 := by have := NN.out; omega
    by_cases hlt : i < N + 1
    · have hlt2 : (i : Int) < N + 1 := by omega
      have hlt3 : (i : Int) < ((N + 1 : Nat) : Int) := by omega
      have hy := HERE.out i (by omega)
      have RC := cells_at OW0.out hlt hy
      have r1 := RC 1 (by omega)
      have r2 := RC 2 (by omega)
      simp only [wfull, List.getElem?_toArray, List.getElem?_cons_zero, List.getElem?_cons_succ] at r1 r2
      have hl := wt_len HA.out.lt hy
      have hza := HA.out.size
      have hS1 := HS.out.size
      have hS2 := LS.out i (by omega)
      have hNN := NN.out
      obtain ⟨p, ep⟩ : ∃ p, p = beg a i := ⟨_, rfl⟩
      obtain ⟨q, eq⟩ : ∃ q, q = beg a i + (tkn a i).len := ⟨_, rfl⟩
      rw [← ep] at r1
      rw [← eq] at r2
      have HW : RowKit.Hid (Str (s.extract p q) (wt a i)) := Lib.hid (by
        have := HA.out.extract p q
        rw [ep, eq, Nat.add_sub_cancel_left] at this
        rw [ep, eq]
        exact this)
      have g1 : ¬ (q : Int) < p := by omega
      have g2 : ¬ (s.size : Int) < q := by omega
      have g3 : ¬ 9223372036854775807 < S.size + gs.size := by omega
      have g4 : ¬ 9223372036854775807 < (S ++ gs).size + (s.extract p q).size := by rw [ByteArray.size_append, ByteArray.size_extract]; omega
      have g5 : ¬ 9223372036854775807 < S.size + gs.size + (s.extract p q).size := by rw [ByteArray.size_extract]; omega
      have g6 : (0 : Int) ≤ p := by omega
      have g7 : (p : Int) ≤ q := by omega
      have g8 : (q : Int) ≤ s.size := by omega
      have SX : RowKit.Hid (Str (S ++ gs ++ s.extract p q) (spr a x (i + 1))) := Lib.hid (by
        have := (HS.out.append HG.out).append HW.out
        rw [List.append_assoc] at this
        exact this)
      clear RC hy hl hza hS1 hS2 hNN ep eq
      go_wp2_with fail
      go_quiet (fail)
      go_wp2_with fail
      go_roundw
      case rel => exact ⟨i + 1, n + nq, _, by omega, by go_num, rfl, SX.out, by first | rfl | exact World.drewN_drewN _ _ _⟩
      case measure => first | (simp [intOf]; done) | (simp [intOf]; omega)
    · have hlt2 : ¬ (i : Int) < N + 1 := by omega
      have hlt3 : ¬ (i : Int) < ((N + 1 : Nat) : Int) := by omega
      obtain rfl : i = N + 1 := by omega
      have ls : S.size < 16384 := by have := HS.out.size; have := LS.out (N + 1) (Nat.le_refl _); omega
      have ls2 : (S.size : Int) < 16384 := by omega
      obtain ⟨wa, ewa⟩ : ∃ u, u = w0.drewN n := ⟨_, rfl⟩
      have BA : RowKit.Hid (Below w.heap.size w wa) := Lib.hid (by rw [ewa]; exact bdrew B0.out)
      have TA : RowKit.Hid (Tab wa) := Lib.hid (by rw [ewa]; exact T0.out.below (bdrew (Below.refl _ _)))
      rw [← ewa]
      clear ewa hi hlt

      have TXS2 := Lib.hid (TXS.out S HS.out)
      go_upto_region 13 with (first | (go_at_call 11; (with_reducible refine (TXA.out _ TA.out).mono ?_); rintro e wt1 ⟨hb1, tr1, r1b, r1o, rfl, er1, ha1, hs1⟩; have HT1 := Lib.hid hb1; have RA1 := Lib.hid er1; have AT1 := Lib.hid ha1; have SY1 := Lib.hid hs1; clear er1 ha1 hs1; have BT1 := Lib.hid (bb BA.out hb1); have TB1 := Lib.hid (TA.out.below hb1); clear hb1) | (refine wpList_store_whole rfl 31 (.tmp 13) (.tmp 71) rfl wt1.heap.size #[.slice (some ⟨r1b, r1o, none⟩) R tr1.g.rc, .slice tr1.g.NA n1 tr1.g.nc, .slice tr1.PA R tr1.pc, .slice tr1.QA n1 tr1.qc, .slice tr1.MA n1 tr1.mc] rfl rfl 31 _ (two_blks wt1).1 (by kernel_rfl) (by rfl) (by simp [Value.oneCell']) ?_; intro wu1 hk2 hg2; have K2 := Lib.hid hk2; have G2 := Lib.hid hg2; have D2 := Lib.hid ((two_blks wt1).2.grown hg2 (by simp)); clear hk2 hg2) | (refine wpList_store_whole rfl 34 (.tmp 14) (.tmp 72) rfl (wt1.heap.size + 1) #[.int .i64 0, .int .i64 0] rfl rfl 34 _ D2.out (by kernel_rfl) (by rfl) (by simp [Value.oneCell']) ?_; intro wv1 hk3 hg3; have H1 := Lib.hid (pair_set BT1.out BT1.out.size G2.out K2.out hg3 hk3); clear hk3 hg3))
      clear K2 G2 D2
      have TV1 := Lib.hid (TB1.out.below H1.out.2.1)
      have S1 : RowKit.Hid (wt1.heap.size + 1 < wv1.heap.size) := Lib.hid H1.out.2.2.2.lt
      have HV1 := Lib.hid H1.out.1
      go_upto_region 15 with (first | (go_at_call 11; (with_reducible refine (TXS2.out _ TV1.out).mono ?_); rintro e wt2 ⟨hb2, tr2, r2b, r2o, rfl, er2, ha2, hs2⟩; have HT2 := Lib.hid hb2; have RA2 := Lib.hid er2; have AT2 := Lib.hid ha2; have SY2 := Lib.hid hs2; clear er2 ha2 hs2; have BT2 := Lib.hid (bb HV1.out hb2); have TB2 := Lib.hid (TV1.out.below hb2); clear hb2) | (refine wpList_store_whole rfl 31 (.tmp 15) (.tmp 83) rfl wt2.heap.size #[.slice (some ⟨r2b, r2o, none⟩) R tr2.g.rc, .slice tr2.g.NA n1 tr2.g.nc, .slice tr2.PA R tr2.pc, .slice tr2.QA n1 tr2.qc, .slice tr2.MA n1 tr2.mc] rfl rfl 31 _ (two_blks wt2).1 (by kernel_rfl) (by rfl) (by simp [Value.oneCell']) ?_; intro wu2 hk2 hg2; have K2 := Lib.hid hk2; have G2 := Lib.hid hg2; have D2 := Lib.hid ((two_blks wt2).2.grown hg2 (by simp)); clear hk2 hg2) | (refine wpList_store_whole rfl 34 (.tmp 16) (.tmp 84) rfl (wt2.heap.size + 1) #[.int .i64 0, .int .i64 0] rfl rfl 34 _ D2.out (by kernel_rfl) (by rfl) (by simp [Value.oneCell']) ?_; intro wv2 hk3 hg3; have H2 := Lib.hid (pair_set BT2.out BT2.out.size G2.out K2.out hg3 hk3); clear hk3 hg3))
      clear K2 G2 D2
      have TV2 := Lib.hid (TB2.out.below H2.out.2.1)
      have S2 : RowKit.Hid (wt2.heap.size + 1 < wv2.heap.size) := Lib.hid H2.out.2.2.2.lt
      have X12 := Lib.hid (HT2.out.trans (H2.out.2.1.mono HT2.out.size))
      have AV1 := Lib.hid ((AT1.out.below H1.out.2.1).below X12.out)
      have AV2 := Lib.hid (AT2.out.below H2.out.2.1)
      have c0 : wv2.cell? ⟨wt1.heap.size + 1, 0, none⟩ = some (.int .i64 0) := (H1.out.2.2.2.below X12.out (by have := S1.out; omega)).cell 0
      have c1 : wv2.cell? ⟨wt2.heap.size + 1, 0, none⟩ = some (.int .i64 0) := H2.out.2.2.2.cell 0
      have c2 : wv2.cell? ⟨wt1.heap.size, 0, none⟩ = some (.slice (some ⟨r1b, r1o, none⟩) R tr1.g.rc) := (H1.out.2.2.1.below X12.out (by have := S1.out; omega)).cell 0
      have c3 : wv2.cell? ⟨wt1.heap.size, 1, none⟩ = some (.slice tr1.g.NA n1 tr1.g.nc) := (H1.out.2.2.1.below X12.out (by have := S1.out; omega)).cell 1
      have c4 : wv2.cell? ⟨wt2.heap.size, 0, none⟩ = some (.slice (some ⟨r2b, r2o, none⟩) R tr2.g.rc) := H2.out.2.2.1.cell 0
      have c5 : wv2.cell? ⟨wt2.heap.size, 1, none⟩ = some (.slice tr2.g.NA n1 tr2.g.nc) := H2.out.2.2.1.cell 1
      have GE2 := Lib.hid (GE.out tr1 tr2 r1b r1o r2b r2o wv2 AV1.out AV2.out SY1.out SY2.out RA1.out RA2.out)
      go_wp2_with fail
      with_reducible refine GE2.out.mono ?_
      rintro e wg ⟨rfl, hb⟩
      have HV3 := Lib.hid (bb H2.out.1 hb)
      have TV3 := Lib.hid (TV2.out.below hb)
      have X3 := Lib.hid hb
      have X1g := Lib.hid (X12.out.trans (hb.mono X12.out.size))
      clear hb c0 c1 c2 c3 c4 c5 GE2
      go_upto_region 18 with (first | (go_at_call 11; (with_reducible refine (TXB.out _ TV3.out).mono ?_); rintro e wt3 ⟨hb3, rfl⟩; have HT3 := Lib.hid hb3; have BT3 := Lib.hid (bb HV3.out hb3); have TB3 := Lib.hid (TV3.out.below hb3); clear hb3) | (refine wpList_store_whole rfl 31 (.tmp 17) (.tmp 101) rfl wt3.heap.size z5 rfl rfl 31 _ (two_blks wt3).1 (by kernel_rfl) (by rfl) (by simp [Value.oneCell']) ?_; intro wu3 hk2 hg2; have K2 := Lib.hid hk2; have G2 := Lib.hid hg2; have D2 := Lib.hid ((two_blks wt3).2.grown hg2 (by simp)); clear hk2 hg2) | (refine wpList_store_whole rfl 34 (.tmp 18) (.tmp 102) rfl (wt3.heap.size + 1) #[.int .i64 er, .int .i64 atb] rfl rfl 34 _ D2.out (by kernel_rfl) (by rfl) (by simp [Value.oneCell']) ?_; intro wv3 hk3 hg3; have H3 := Lib.hid (pair_set BT3.out BT3.out.size G2.out K2.out hg3 hk3); clear hk3 hg3))
      clear K2 G2 D2
      have TV3 := Lib.hid (TB3.out.below H3.out.2.1)
      have S3 : RowKit.Hid (wt3.heap.size + 1 < wv3.heap.size) := Lib.hid H3.out.2.2.2.lt
      have X13 := Lib.hid (X1g.out.trans ((HT3.out.trans (H3.out.2.1.mono HT3.out.size)).mono X1g.out.size))
      have c0 : wv3.cell? ⟨wt1.heap.size + 1, 0, none⟩ = some (.int .i64 0) := (H1.out.2.2.2.below X13.out (by have := S1.out; omega)).cell 0
      have c1 : wv3.cell? ⟨wt3.heap.size + 1, 0, none⟩ = some (.int .i64 er) := H3.out.2.2.2.cell 0
      go_wp2_with fail
      go_ret
      exact ⟨rfl, H3.out.1⟩
end Go.Proofs.YtphdplommmkncaaGreatDoor

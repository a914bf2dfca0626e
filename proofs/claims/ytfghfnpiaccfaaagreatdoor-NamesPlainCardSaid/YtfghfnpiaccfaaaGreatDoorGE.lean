/- What holds of each node that is made. -/
import Derived.Test.YtfghfnpiaccfaaaGreatDoorGD
set_option linter.unusedSimpArgs false
set_option linter.unusedVariables false
namespace Go.Proofs.YtfghfnpiaccfaaaGreatDoor
open Go Go.RowKit Go.Maps
def Fr.all (p : Px → Fr → Prop) : Fr → Prop
  | .nil => True
  | .cons x k r => p x k ∧ k.all p ∧ r.all p
def Fr.headAt : Fr → Option Nat
  | .nil => none
  | .cons x _ _ => some x.at_
/-- A node, its kids: how many at least, whose place, what name. -/
def okN (tk : Nat → Wd) (N : Nat) (x : Px) (ks : Fr) : Prop :=
  ((x.kind = 6 ∨ x.kind = 7) → 2 ≤ ks.len ∧ ks.headAt = some x.at_) ∧ (x.name ≠ [] ↔ x.kind = 5) ∧ (x.kind = 5 → x.name = (tk x.at_).text) ∧ (x.kind = 4 → x.text = (tk x.at_).text) ∧ x.at_ < N
section
variable {tk : Nat → Wd} {N : Nat}
abbrev AllOk (tk : Nat → Wd) (N : Nat) (p : Pn) : Prop := (p.fr .nil).all (okN tk N)
theorem okN_leaf {K : Int} {k : Nat} {cls : Nat → Bool} {ks : Fr} (h6 : K ≠ 6) (h7 : K ≠ 7) (h5 : K ≠ 5) (h4 : K ≠ 4) (hk : k < N) : okN tk N ⟨K, cls, [], 0, k, []⟩ ks :=
  ⟨fun h => by rcases h with h | h <;> contradiction, ⟨fun h => absurd rfl h, fun h => absurd h h5⟩, fun h => absurd h h5, fun h => absurd h h4, hk⟩
theorem behindK_is {s : List Nat} {K : Int} (h : behindK s = some K) : K = 8 ∨ K = 9 ∨ K = 10 := by
  unfold behindK at h
  split at h
  · cases h; simp
  split at h
  · cases h; simp
  split at h
  · cases h; simp
  · cases h
theorem aheadK_is {s : List Nat} {K : Int} (h : aheadK s = some K) : K = 11 ∨ K = 12 := by
  unfold aheadK at h
  split at h
  · cases h; simp
  split at h
  · cases h; simp
  · cases h
theorem suf_sh (h : Toks tk N) : ∀ (f : Nat) (p : Pn) (k : Nat) (q : Pn) (j : Nat), k ≤ N → AllOk tk N p → suf tk f p k = .ok q j → AllOk tk N q
  | 0, _, _, _, _, _, _, e => by cases e
  | f + 1, p, k, q, j, hk, hp, e => by
    unfold suf at e
    split at e
    · cases e; exact hp
    · rename_i K hK
      have hk1 := h.sign hk (behindK_ne hK)
      refine suf_sh h f _ (k + 1) q j hk1 ⟨okN_leaf ?_ ?_ ?_ ?_ (by omega), hp, trivial⟩ e <;> rcases behindK_is hK with rfl | rfl | rfl <;> decide
theorem sev_sh {one : Nat → Rs Pn} {more : Nat → Option Nat} (h1 : ∀ k p j, k ≤ N → one k = .ok p j → (k < j ∧ j ≤ N) ∧ AllOk tk N p) (h2 : ∀ k j, k ≤ N → more k = some j → k ≤ j ∧ j ≤ N) : ∀ (f k : Nat) (r : Fr) (j : Nat), k ≤ N → sev one more f k = .ok r j → r.all (okN tk N) ∧ 1 ≤ r.len
  | 0, _, _, _, _, e => by cases e
  | f + 1, k, r, j, hk, e => by
    unfold sev at e
    split at e
    · cases e
    · rename_i p j1 e1
      have g1 := h1 _ _ _ hk e1
      split at e
      · cases e; exact ⟨g1.2, by simp only [Pn.fr, Fr.len]; omega⟩
      · rename_i j2 e2
        have g2 := h2 _ _ g1.1.2 e2
        split at e
        · cases e
        · rename_i r' i e3
          cases e
          have := sev_sh h1 h2 f j2 _ _ g2.2 e3
          exact ⟨⟨g1.2.1, g1.2.2.1, this.1⟩, by simp only [Pn.fr, Fr.len]; omega⟩
theorem gath_sh {K : Int} (hK : K = 6 ∨ K = 7) {r : Fr} (h : r.all (okN tk N)) (hl : 1 ≤ r.len) : AllOk tk N (gath K r) := by
  cases r with
  | nil => simp [Fr.len] at hl
  | cons x k r =>
    cases r with
    | nil => exact h
    | cons y k' r' =>
      have h5 : K ≠ 5 := by rcases hK with rfl | rfl <;> decide
      have h4 : K ≠ 4 := by rcases hK with rfl | rfl <;> decide
      exact ⟨⟨fun _ => ⟨(by show 2 ≤ (r'.len + 1) + 1; omega), rfl⟩, ⟨fun h => absurd rfl h, fun h => absurd h h5⟩, fun h => absurd h h5, fun h => absurd h h4, h.1.2.2.2.2⟩, h, trivial⟩
theorem several_sh {K : Int} (hK : K = 6 ∨ K = 7) {one : Nat → Rs Pn} {more : Nat → Option Nat} (h1 : ∀ k p j, k ≤ N → one k = .ok p j → (k < j ∧ j ≤ N) ∧ AllOk tk N p) (h2 : ∀ k j, k ≤ N → more k = some j → k ≤ j ∧ j ≤ N) {f k : Nat} {p : Pn} {j : Nat} (hk : k ≤ N) (e : several K one more f k = .ok p j) : AllOk tk N p := by
  unfold several at e
  split at e
  · cases e
  · rename_i r j1 e1
    cases e
    have := sev_sh h1 h2 _ _ _ _ hk e1
    exact gath_sh hK this.1 this.2
theorem prim_sh (h : Toks tk N) (hnm : ∀ k, (tk k).kind = 2 → (tk k).text ≠ []) {al : Nat → Rs Pn} (h3 : ∀ k p j, k ≤ N → al k = .ok p j → AllOk tk N p) {d k : Nat} {p : Pn} {j : Nat} (hk : k ≤ N) (e : prim tk al d k = .ok p j) : AllOk tk N p := by
  unfold prim at e
  split at e
  · cases e
  · rename_i h0
    have g0 := h.next hk (mk_ne h0)
    split at e
    · rename_i h1
      cases e
      have hkd : (tk k).kind = 2 := by
        unfold mk at h1
        split at h1
        · assumption
        · split at h1
          · cases h1
          · split at h1
            · cases h1
            · split at h1
              · cases h1
              · split at h1 <;> cases h1
      exact ⟨⟨fun h => (by rcases h with h | h <;> cases h), ⟨fun _ => rfl, fun _ => hnm k hkd⟩, fun _ => rfl, fun h => (by cases h), by show k < N; omega⟩, trivial, trivial⟩
    split at e
    · cases e
      exact ⟨⟨fun h => (by rcases h with h | h <;> cases h), ⟨fun h => absurd rfl h, fun h => (by cases h)⟩, fun h => (by cases h), fun _ => rfl, by show k < N; omega⟩, trivial, trivial⟩
    split at e
    · cases e; exact ⟨okN_leaf (by decide) (by decide) (by decide) (by decide) (by omega), trivial, trivial⟩
    split at e
    · cases e; exact ⟨okN_leaf (by decide) (by decide) (by decide) (by decide) (by omega), trivial, trivial⟩
    split at e
    · cases e
    split at e
    · cases e; exact ⟨okN_leaf (by decide) (by decide) (by decide) (by decide) (by omega), trivial, trivial⟩
    split at e
    · cases e
    rename_i q i e2
    have := h3 _ _ _ g0 e2
    split at e
    · cases e; exact this
    · cases e
theorem itm_sh (h : Toks tk N) (hnm : ∀ k, (tk k).kind = 2 → (tk k).text ≠ []) {it al : Nat → Rs Pn} (h1 : ∀ k p j, k ≤ N → it k = .ok p j → AllOk tk N p) (h3 : ∀ k p j, k ≤ N → al k = .ok p j → (k < j ∧ j ≤ N) ∧ AllOk tk N p) {d k : Nat} {p : Pn} {j : Nat} (hk : k ≤ N) (e : itm tk N it al d k = .ok p j) : AllOk tk N p := by
  unfold itm at e
  split at e
  · rename_i K hK
    have g0 := h.sign hk (aheadK_ne hK)
    split at e
    · cases e
    · rename_i q i e1
      cases e
      have := h1 _ _ _ g0 e1
      refine ⟨okN_leaf ?_ ?_ ?_ ?_ (by omega), this, trivial⟩ <;> rcases aheadK_is hK with rfl | rfl <;> decide
  · unfold sufd at e
    split at e
    · cases e
    · rename_i q i e1
      have key := prim_lt h (fun k p j hk e => (h3 k p j hk e).1) hk e1
      exact suf_sh h _ _ _ _ _ key.2 (prim_sh h hnm (fun k p j hk e => (h3 k p j hk e).2) hk e1) e
theorem prs_sh (h : Toks tk N) (hnm : ∀ k, (tk k).kind = 2 → (tk k).text ≠ []) : ∀ (f m d k : Nat) (p : Pn) (j : Nat), k ≤ N → prs tk N f m d k = .ok p j → AllOk tk N p
  | 0, _, _, _, _, _, _, e => by unfold prs at e; cases e
  | f + 1, m, d, k, p, j, hk, e => by
    have IH := prs_sh h hnm f
    have LT := prs_lt h f
    unfold prs at e
    split at e
    · exact several_sh (.inr rfl) (fun k p j hk e => ⟨LT 2 d k p j hk e, IH 2 d k p j hk e⟩) (slash_le h) hk e
    split at e
    · exact several_sh (.inl rfl) (fun k p j hk e => ⟨LT 1 d k p j hk e, IH 1 d k p j hk e⟩) begins_le hk e
    · exact itm_sh h hnm (fun k p j hk e => IH 1 d k p j hk e) (fun k p j hk e => ⟨LT 3 (d + 1) k p j hk e, IH 3 (d + 1) k p j hk e⟩) hk e
theorem rul_sh (h : Toks tk N) (hnm : ∀ k, (tk k).kind = 2 → (tk k).text ≠ []) {k : Nat} {u : Ru} {j : Nat} (hk : k ≤ N) (e : rul tk N k = .ok u j) : AllOk tk N u.body ∧ u.name = (tk k).text ∧ u.at_ = k ∧ k < N := by
  unfold rul at e
  split at e
  · cases e
  rename_i h0
  have h0' : (tk k).kind = 2 := by simp only [not_or, ne_eq, Decidable.not_not] at h0; exact h0.1
  have g1 := h.next hk (by rw [h0']; decide)
  split at e
  · cases e
  rename_i h1
  have h1' : sgk tk (k + 1) = [60, 45] := by simpa using h1
  have g2 := h.sign g1 (by rw [h1']; simp)
  split at e
  · cases e
  rename_i p i e1
  have := prs_sh h hnm _ _ _ _ _ _ g2 e1
  split at e
  · cases e; exact ⟨this, rfl, rfl, by omega⟩
  · cases e
end
/-- Rules: their names are those of their words, the words one behind the other. -/
theorem ruls_sh {c : Cx} (hf : c.Fine) (hnm : ∀ k, (tkn c.l k).kind = 2 → (tkn c.l k).text ≠ []) : ∀ (f k : Nat) (us : List Ru) (j : Nat), k ≤ c.N → ruls (tkn c.l) c.N f k = .ok us j → us ≠ [] ∧ (bod us).all (okN (tkn c.l) c.N) ∧ (∀ u ∈ us, u.name = (tkn c.l u.at_).text ∧ k ≤ u.at_ ∧ u.at_ < c.N) ∧ us.Pairwise fun a b => a.at_ < b.at_
  | 0, _, _, _, _, e => by cases e
  | f + 1, k, us, j, hk, e => by
    unfold ruls at e
    split at e
    · cases e
    rename_i u i e1
    obtain ⟨g1, g2, g3, g4⟩ := rul_sh hf.toks hnm hk e1
    have g5 := rul_lt hf hk e1
    split at e
    · cases e
      refine ⟨by simp, ⟨g1.1, g1.2.1, trivial⟩, fun v hv => ?_, by simp⟩
      obtain rfl := List.mem_singleton.1 hv
      rw [g3]
      exact ⟨g2, Nat.le_refl _, g4⟩
    split at e
    · cases e
    rename_i l i2 e2
    cases e
    obtain ⟨_, r2, r3, r4⟩ := ruls_sh hf hnm f i _ _ g5.2 e2
    refine ⟨by simp, ⟨g1.1, g1.2.1, r2⟩, fun v hv => ?_, List.pairwise_cons.2 ⟨fun b hb => ?_, r4⟩⟩
    · rcases List.mem_cons.1 hv with rfl | hv
      · rw [g3]; exact ⟨g2, Nat.le_refl _, g4⟩
      · have := r3 v hv; exact ⟨this.1, by omega, this.2.2⟩
    · have := r3 b hb; rw [g3]; omega
end Go.Proofs.YtfghfnpiaccfaaaGreatDoor
namespace Go.Proofs.YtfghfnpiaccfaaaGreatDoor
open Go Go.RowKit Go.Maps
def Fr.parts : Fr → List (Px × Fr)
  | .nil => []
  | .cons x k r => (x, k) :: (k.parts ++ r.parts)
theorem parts_length : ∀ F : Fr, F.parts.length = F.nodes
  | .nil => rfl
  | .cons x k r => by simp only [Fr.parts, Fr.nodes, List.length_cons, List.length_append, parts_length k, parts_length r]; omega
theorem parts_all {p : Px → Fr → Prop} : ∀ F : Fr, F.all p → ∀ y ∈ F.parts, p y.1 y.2
  | .nil, _, y, hy => by cases hy
  | .cons x k r, h, y, hy => by
    simp only [Fr.parts, List.mem_cons, List.mem_append] at hy
    rcases hy with rfl | hy | hy
    · exact h.1
    · exact parts_all k h.2.1 y hy
    · exact parts_all r h.2.2 y hy
theorem flat_parts : ∀ (F : Fr) (n i : Nat), (flat n F)[i]? = F.parts[i]?.map fun y => (y.1, roots (n + i + 1) y.2)
  | .nil, n, i => by simp [flat, Fr.parts]
  | .cons x k r, n, i => by
    cases i with
    | zero => simp [flat, Fr.parts]
    | succ i =>
      simp only [flat, Fr.parts, List.getElem?_cons_succ]
      by_cases h : i < k.nodes
      · rw [List.getElem?_append_left (by rw [flat_length]; exact h), List.getElem?_append_left (by rw [parts_length]; exact h), flat_parts k]
        congr 1
        funext y
        rw [show n + 1 + i + 1 = n + (i + 1) + 1 by omega]
      · rw [List.getElem?_append_right (by rw [flat_length]; omega), List.getElem?_append_right (by rw [parts_length]; omega), flat_length, parts_length, flat_parts r]
        congr 1
        funext y
        rw [show n + 1 + k.nodes + (i - k.nodes) + 1 = n + (i + 1) + 1 by omega]
/-- Behind a part stand its kids' parts. -/
theorem parts_drop : ∀ (F : Fr) (i : Nat) (x : Px) (K : Fr), F.parts[i]? = some (x, K) → ∃ rest, F.parts.drop (i + 1) = K.parts ++ rest
  | .nil, i, x, K, h => by simp [Fr.parts] at h
  | .cons y k r, i, x, K, h => by
    cases i with
    | zero =>
      simp only [Fr.parts, List.getElem?_cons_zero, Option.some.injEq, Prod.mk.injEq] at h
      obtain ⟨rfl, rfl⟩ := h
      exact ⟨r.parts, by simp [Fr.parts]⟩
    | succ i =>
      simp only [Fr.parts, List.getElem?_cons_succ, List.drop_succ_cons] at h ⊢
      by_cases hi : i < k.nodes
      · rw [List.getElem?_append_left (by rw [parts_length]; exact hi)] at h
        obtain ⟨rest, hr⟩ := parts_drop k i x K h
        refine ⟨rest ++ r.parts, ?_⟩
        rw [List.drop_append_of_le_length (by rw [parts_length]; omega), hr, List.append_assoc]
      · rw [List.getElem?_append_right (by rw [parts_length]; omega), parts_length] at h
        obtain ⟨rest, hr⟩ := parts_drop r (i - k.nodes) x K h
        refine ⟨rest, ?_⟩
        rw [← hr, List.drop_append, parts_length, List.drop_eq_nil_of_le (by rw [parts_length]; omega), List.nil_append]
        congr 1
        omega
/-- Where the part at a place ends. -/
def endAt (F : Fr) (m : Nat) : Nat := m + 1 + ((F.parts[m]?.map fun y => y.2.nodes).getD 0)
def chain (E : Nat → Nat) : Nat → List Nat → Nat → Prop
  | a, [], b => a = b
  | a, k :: ks, b => k = a ∧ chain E (E a) ks b
theorem roots_chain (F : Fr) : ∀ (K : Fr) (m : Nat) (rest : List (Px × Fr)), F.parts.drop m = K.parts ++ rest → chain (endAt F) m (roots m K) (m + K.nodes)
  | .nil, m, _, _ => rfl
  | .cons x k r, m, rest, h => by
    have h0 : F.parts[m]? = some (x, k) := by
      have := congrArg (fun l => l[0]?) h
      simpa [Fr.parts] using this
    have h1 : F.parts.drop (m + 1 + k.nodes) = r.parts ++ rest := by
      have := congrArg (List.drop (1 + k.nodes)) h
      rw [List.drop_drop] at this
      rw [show m + 1 + k.nodes = m + (1 + k.nodes) by omega, this, show 1 + k.nodes = k.nodes + 1 by omega]
      simp only [Fr.parts, List.cons_append, List.drop_succ_cons, List.append_assoc]
      rw [List.drop_append_of_le_length (by rw [parts_length]; omega), List.drop_eq_nil_of_le (by rw [parts_length]; omega), List.nil_append]
    have he : endAt F m = m + 1 + k.nodes := by simp [endAt, h0]
    refine ⟨rfl, ?_⟩
    rw [he]
    have := roots_chain F r (m + 1 + k.nodes) rest h1
    rw [show m + (Fr.cons x k r).nodes = m + 1 + k.nodes + r.nodes by simp only [Fr.nodes]; omega]
    exact this
/-- The kids of the part at a place are a chain from the next place to its end. -/
theorem kids_chain (F : Fr) (m : Nat) (x : Px) (K : Fr) (h : F.parts[m]? = some (x, K)) : chain (endAt F) (m + 1) (roots (m + 1) K) (endAt F m) := by
  obtain ⟨rest, hr⟩ := parts_drop F m x K h
  have := roots_chain F K (m + 1) rest hr
  have he : endAt F m = m + 1 + K.nodes := by simp [endAt, h]
  rw [he]
  exact this
theorem all_chain (F : Fr) : chain (endAt F) 0 (roots 0 F) F.nodes := by
  have := roots_chain F F 0 [] (by simp)
  simpa using this
end Go.Proofs.YtfghfnpiaccfaaaGreatDoor
namespace Go.Proofs.YtfghfnpiaccfaaaGreatDoor
open Go Go.RowKit Go.Maps
theorem beg_self (l : List Nat) (k : Nat) : beg l k + sk false (l.drop (beg l k)) = beg l k := by
  have h := sk_idem (l.drop (pos l k))
  rw [List.drop_drop] at h
  have : sk false (l.drop (beg l k)) = 0 := h
  omega
theorem namR_text (n : Nat) (t d : List Nat) : (namR n t d).text = t := by
  unfold namR
  split
  · rfl
  · split
    · split <;> rfl
    · rfl
theorem wd_name {l : List Nat} {w : Wd} (h : wd l = some w) (hk : w.kind = 2) : w.text ≠ [] := by
  cases l with
  | nil => simp only [wd, Option.some.injEq] at h; subst h; cases hk
  | cons c r =>
    simp only [wd] at h
    split at h
    · rename_i hc
      cases h
      have hi : inm c = true := by simp [inm, hc]
      unfold nam
      rw [namR_text]
      simp [lead, hi]
    split at h
    · obtain ⟨y, _, rfl⟩ := Option.map_eq_some_iff.1 h; cases hk
    split at h
    · obtain ⟨y, _, rfl⟩ := Option.map_eq_some_iff.1 h; cases hk
    · obtain ⟨y, _, rfl⟩ := Option.map_eq_some_iff.1 h; cases hk
theorem tkn_name (l : List Nat) (k : Nat) (hk : (tkn l k).kind = 2) : (tkn l k).text ≠ [] := by
  cases h : ow l k with
  | none => unfold tkn at hk; rw [h] at hk; cases hk
  | some x => rw [tkn_some h] at hk ⊢; exact wd_name h hk
end Go.Proofs.YtfghfnpiaccfaaaGreatDoor

/- What holds of all nodes that are read, by what makes them. -/
import Derived.Test.YtfghfnpiaccfaaaGreatDoorGE
import Derived.Test.YtfghfnpiaccfaaaGreatDoorH0
import Derived.Deep.CutRange
set_option linter.unusedSimpArgs false
set_option linter.unusedVariables false
namespace Go.Proofs.YtfghfnpiaccfaaaGreatDoor
open Go Go.RowKit Go.Maps
/-- What each way to make a node keeps. -/
structure Makes (tk : Nat → Wd) (N : Nat) (P : Px → Fr → Prop) : Prop where
  call : ∀ k, k < N → (tk k).kind = 2 → P ⟨5, no, [], max (tk k).lev 0, k, (tk k).text⟩ .nil
  text : ∀ k, k < N → (tk k).kind = 3 → P ⟨4, no, (tk k).text, 0, k, []⟩ .nil
  set : ∀ k, k < N → (tk k).kind = 4 → P ⟨3, (tk k).cls, [], 0, k, []⟩ .nil
  any : ∀ k, k < N → P ⟨2, no, [], 0, k, []⟩ .nil
  empty : ∀ k, k < N → P ⟨1, no, [], 0, k, []⟩ .nil
  over : ∀ (K : Int) k (p : Pn), (K = 8 ∨ K = 9 ∨ K = 10 ∨ K = 11 ∨ K = 12) → k < N → (p.fr .nil).all P → P ⟨K, no, [], 0, k, []⟩ (p.fr .nil)
  gath : ∀ (K : Int) x k y k' r, (K = 6 ∨ K = 7) → (Fr.cons x k (.cons y k' r)).all P → P ⟨K, no, [], 0, x.at_, []⟩ (.cons x k (.cons y k' r))
section
variable {tk : Nat → Wd} {N : Nat} {P : Px → Fr → Prop}
abbrev AllP (P : Px → Fr → Prop) (p : Pn) : Prop := (p.fr .nil).all P
theorem suf_mk (M : Makes tk N P) (h : Toks tk N) : ∀ (f : Nat) (p : Pn) (k : Nat) (q : Pn) (j : Nat), k ≤ N → AllP P p → suf tk f p k = .ok q j → AllP P q
  | 0, _, _, _, _, _, _, e => by cases e
  | f + 1, p, k, q, j, hk, hp, e => by
    unfold suf at e
    split at e
    · cases e; exact hp
    · rename_i K hK
      have hk1 := h.sign hk (behindK_ne hK)
      refine suf_mk M h f _ (k + 1) q j hk1 ⟨M.over K k p ?_ (by omega) hp, hp, trivial⟩ e
      rcases behindK_is hK with rfl | rfl | rfl <;> simp
theorem sev_mk {one : Nat → Rs Pn} {more : Nat → Option Nat} (h1 : ∀ k p j, k ≤ N → one k = .ok p j → (k < j ∧ j ≤ N) ∧ AllP P p) (h2 : ∀ k j, k ≤ N → more k = some j → k ≤ j ∧ j ≤ N) : ∀ (f k : Nat) (r : Fr) (j : Nat), k ≤ N → sev one more f k = .ok r j → r.all P ∧ 1 ≤ r.len
  | 0, _, _, _, _, e => by cases e
  | f + 1, k, r, j, hk, e => by
    unfold sev at e
    split at e
    · cases e
    · rename_i p j1 e1
      have g1 := h1 _ _ _ hk e1
      split at e
      · cases e; exact ⟨g1.2, by simp only [Pn.fr, Fr.len]; omega⟩
      · rename_i j2 e2
        have g2 := h2 _ _ g1.1.2 e2
        split at e
        · cases e
        · rename_i r' i e3
          cases e
          have := sev_mk h1 h2 f j2 _ _ g2.2 e3
          exact ⟨⟨g1.2.1, g1.2.2.1, this.1⟩, by simp only [Pn.fr, Fr.len]; omega⟩
theorem gath_mk (M : Makes tk N P) {K : Int} (hK : K = 6 ∨ K = 7) {r : Fr} (h : r.all P) (hl : 1 ≤ r.len) : AllP P (gath K r) := by
  cases r with
  | nil => simp [Fr.len] at hl
  | cons x k r =>
    cases r with
    | nil => exact h
    | cons y k' r' => exact ⟨M.gath K x k y k' r' hK h, h, trivial⟩
theorem several_mk (M : Makes tk N P) {K : Int} (hK : K = 6 ∨ K = 7) {one : Nat → Rs Pn} {more : Nat → Option Nat} (h1 : ∀ k p j, k ≤ N → one k = .ok p j → (k < j ∧ j ≤ N) ∧ AllP P p) (h2 : ∀ k j, k ≤ N → more k = some j → k ≤ j ∧ j ≤ N) {f k : Nat} {p : Pn} {j : Nat} (hk : k ≤ N) (e : several K one more f k = .ok p j) : AllP P p := by
  unfold several at e
  split at e
  · cases e
  · rename_i r j1 e1
    cases e
    have := sev_mk h1 h2 _ _ _ _ hk e1
    exact gath_mk M hK this.1 this.2
theorem mk_is {k : Nat} : (mk tk k = 1 → (tk k).kind = 2) ∧ (mk tk k = 2 → (tk k).kind = 3) ∧ (mk tk k = 3 → (tk k).kind = 4) := by
  unfold mk
  split
  · simp_all
  · split
    · simp_all
    · split
      · simp_all
      · split
        · simp
        · split <;> simp
theorem prim_mk (M : Makes tk N P) (h : Toks tk N) {al : Nat → Rs Pn} (h3 : ∀ k p j, k ≤ N → al k = .ok p j → AllP P p) {d k : Nat} {p : Pn} {j : Nat} (hk : k ≤ N) (e : prim tk al d k = .ok p j) : AllP P p := by
  unfold prim at e
  split at e
  · cases e
  · rename_i h0
    have g0 := h.next hk (mk_ne h0)
    have hlt : k < N := by omega
    split at e
    · rename_i h1
      cases e
      exact ⟨M.call k hlt (mk_is.1 h1), trivial, trivial⟩
    split at e
    · rename_i h1; cases e; exact ⟨M.text k hlt (mk_is.2.1 h1), trivial, trivial⟩
    split at e
    · rename_i h1; cases e; exact ⟨M.set k hlt (mk_is.2.2 h1), trivial, trivial⟩
    split at e
    · cases e; exact ⟨M.any k hlt, trivial, trivial⟩
    split at e
    · cases e
    split at e
    · cases e; exact ⟨M.empty k hlt, trivial, trivial⟩
    split at e
    · cases e
    rename_i q i e2
    have := h3 _ _ _ g0 e2
    split at e
    · cases e; exact this
    · cases e
theorem itm_mk (M : Makes tk N P) (h : Toks tk N) {it al : Nat → Rs Pn} (h1 : ∀ k p j, k ≤ N → it k = .ok p j → AllP P p) (h3 : ∀ k p j, k ≤ N → al k = .ok p j → (k < j ∧ j ≤ N) ∧ AllP P p) {d k : Nat} {p : Pn} {j : Nat} (hk : k ≤ N) (e : itm tk N it al d k = .ok p j) : AllP P p := by
  unfold itm at e
  split at e
  · rename_i K hK
    have g0 := h.sign hk (aheadK_ne hK)
    split at e
    · cases e
    · rename_i q i e1
      cases e
      have := h1 _ _ _ g0 e1
      exact ⟨M.over K k q (by rcases aheadK_is hK with rfl | rfl <;> simp) (by omega) this, this, trivial⟩
  · unfold sufd at e
    split at e
    · cases e
    · rename_i q i e1
      have key := prim_lt h (fun k p j hk e => (h3 k p j hk e).1) hk e1
      exact suf_mk M h _ _ _ _ _ key.2 (prim_mk M h (fun k p j hk e => (h3 k p j hk e).2) hk e1) e
theorem prs_mk (M : Makes tk N P) (h : Toks tk N) : ∀ (f m d k : Nat) (p : Pn) (j : Nat), k ≤ N → prs tk N f m d k = .ok p j → AllP P p
  | 0, _, _, _, _, _, _, e => by unfold prs at e; cases e
  | f + 1, m, d, k, p, j, hk, e => by
    have IH := prs_mk M h f
    have LT := prs_lt h f
    unfold prs at e
    split at e
    · exact several_mk M (.inr rfl) (fun k p j hk e => ⟨LT 2 d k p j hk e, IH 2 d k p j hk e⟩) (slash_le h) hk e
    split at e
    · exact several_mk M (.inl rfl) (fun k p j hk e => ⟨LT 1 d k p j hk e, IH 1 d k p j hk e⟩) begins_le hk e
    · exact itm_mk M h (fun k p j hk e => IH 1 d k p j hk e) (fun k p j hk e => ⟨LT 3 (d + 1) k p j hk e, IH 3 (d + 1) k p j hk e⟩) hk e
theorem rul_mk (M : Makes tk N P) (h : Toks tk N) {k : Nat} {u : Ru} {j : Nat} (hk : k ≤ N) (e : rul tk N k = .ok u j) : AllP P u.body := by
  unfold rul at e
  split at e
  · cases e
  rename_i h0
  have h0' : (tk k).kind = 2 := by simp only [not_or, ne_eq, Decidable.not_not] at h0; exact h0.1
  have g1 := h.next hk (by rw [h0']; decide)
  split at e
  · cases e
  rename_i h1
  have h1' : sgk tk (k + 1) = [60, 45] := by simpa using h1
  have g2 := h.sign g1 (by rw [h1']; simp)
  split at e
  · cases e
  rename_i p i e1
  have := prs_mk M h _ _ _ _ _ _ g2 e1
  split at e
  · cases e; exact this
  · cases e
end
theorem ruls_mk {c : Cx} {P : Px → Fr → Prop} (hf : c.Fine) (M : Makes (tkn c.l) c.N P) : ∀ (f k : Nat) (us : List Ru) (j : Nat), k ≤ c.N → ruls (tkn c.l) c.N f k = .ok us j → (bod us).all P
  | 0, _, _, _, _, e => by cases e
  | f + 1, k, us, j, hk, e => by
    unfold ruls at e
    split at e
    · cases e
    rename_i u i e1
    have g1 := rul_mk M hf.toks hk e1
    have g5 := rul_lt hf hk e1
    split at e
    · cases e
      exact ⟨g1.1, g1.2.1, trivial⟩
    split at e
    · cases e
    rename_i l i2 e2
    cases e
    exact ⟨g1.1, g1.2.1, ruls_mk hf M f i _ _ g5.2 e2⟩
/-- A reader's things, wherever they lie: for the plain facts. -/
theorem fine_of {l : List Nat} {N : Nat} (hl : ∀ x ∈ l, x < 256) (hz : l.length ≤ 16384) (hN : stp l N = true) (hNl : N ≤ l.length) (hNb : ∀ j, j < N → stp l j = false) (ho : ow l N ≠ none) : (⟨l, N, 3, 0, 1, 2, N + 1⟩ : Cx).Fine :=
  ⟨hl, hz, (toks_of hN hNb ho).1, hNl, (by show 0 < 3; omega), (by show 1 < 3; omega), (by show 2 < 3; omega), Nat.le_refl _, (toks_of hN hNb ho).2⟩
theorem tkn_ok {l : List Nat} (hl : ∀ x ∈ l, x < 256) (k : Nat) : (tkn l k).text.length ≤ l.length ∧ (∀ x ∈ (tkn l k).text, x < 256) ∧ (tkn l k).lev ≤ 9999 := by
  cases h : ow l k with
  | none => unfold tkn; rw [h]; exact ⟨Nat.zero_le _, by simp, by decide⟩
  | some x =>
    rw [tkn_some h]
    obtain ⟨_, _, _, _, _, a6, a7, _, a9⟩ := wd_ok (drop_lt hl _) h
    exact ⟨Nat.le_trans a7 (by rw [List.length_drop]; omega), a6, a9⟩
/-- The texts and names of nodes are short, and rows of bytes. -/
def txN (l : List Nat) (x : Px) (_ : Fr) : Prop := (x.text.length ≤ l.length ∧ ∀ y ∈ x.text, y < 256) ∧ x.name.length ≤ l.length ∧ ∀ y ∈ x.name, y < 256
theorem makes_tx {l : List Nat} (hl : ∀ x ∈ l, x < 256) (N : Nat) : Makes (tkn l) N (txN l) where
  call := fun k _ _ => ⟨⟨Nat.zero_le _, by simp⟩, (tkn_ok hl k).1, (tkn_ok hl k).2.1⟩
  text := fun k _ _ => ⟨⟨(tkn_ok hl k).1, (tkn_ok hl k).2.1⟩, Nat.zero_le _, by simp⟩
  set := fun k _ _ => ⟨⟨Nat.zero_le _, by simp⟩, Nat.zero_le _, by simp⟩
  any := fun k _ => ⟨⟨Nat.zero_le _, by simp⟩, Nat.zero_le _, by simp⟩
  empty := fun k _ => ⟨⟨Nat.zero_le _, by simp⟩, Nat.zero_le _, by simp⟩
  over := fun K k p _ _ _ => ⟨⟨Nat.zero_le _, by simp⟩, Nat.zero_le _, by simp⟩
  gath := fun K x k y k' r _ _ => ⟨⟨Nat.zero_le _, by simp⟩, Nat.zero_le _, by simp⟩
/-- All that is read of a text with words, plainly. -/
structure Got (l : List Nat) (N : Nat) (us : List Ru) : Prop where
  lt : ∀ x ∈ l, x < 256
  ne : us ≠ []
  ok : (bod us).all (okN (tkn l) N)
  tx : (bod us).all (txN l)
  rules : ∀ u ∈ us, u.name = (tkn l u.at_).text ∧ u.at_ < N
  up : us.Pairwise fun a b => a.at_ < b.at_
  nodes : (bod us).nodes ≤ 2 * N
theorem got {l : List Nat} {N : Nat} (hl : ∀ x ∈ l, x < 256) (hz : l.length ≤ 16384) (hN : stp l N = true) (hNl : N ≤ l.length) (hNb : ∀ j, j < N → stp l j = false) (ho : ow l N ≠ none) {us : List Ru} {j : Nat} (h : trd l N = .ok us j) : Got l N us := by
  have F := fine_of hl hz hN hNl hNb ho
  obtain ⟨h1, h2, h3, h4⟩ := ruls_sh F (fun k hk => tkn_name l k hk) (N + 1) 0 us j (Nat.zero_le _) h
  have h5 := (ruls_nd F (N + 1) 0 us j (Nat.zero_le _) h)
  refine ⟨hl, h1, h2, ruls_mk F (makes_tx hl N) (N + 1) 0 us j (Nat.zero_le _) h, fun u hu => ⟨(h3 u hu).1, (h3 u hu).2.2⟩, h4, ?_⟩
  have h6 : j ≤ N := h5.2.1
  have := h5.2.2
  omega
end Go.Proofs.YtfghfnpiaccfaaaGreatDoor
namespace Go.Proofs.YtfghfnpiaccfaaaGreatDoor
open Go Go.RowKit
def ndOf (y : Nw) : Nd := ⟨y.x.kind, cw y.x.cls 0, cw y.x.cls 1, cw y.x.cls 2, cw y.x.cls 3, bsv y.x.text, 0, y.x.lev, y.A, y.cap, y.kids.map fun (k : Nat) => (k : Int)⟩
def rlsOf (us : List Ru) : List Rl := (us.zip (roots 0 (bod us))).map fun x => ⟨bsv x.1.name, (x.2 : Int)⟩
def strs (l : List ByteArray) : List Value := l.map Value.string
/-- A tree: its grammar, the places of its rules, of its nodes, the names. -/
structure Tre where
  g : Gr
  PA : Option Addr
  pc : Nat
  rp : List Int
  QA : Option Addr
  qc : Nat
  np : List Int
  MA : Option Addr
  mc : Nat
  nm : List ByteArray
abbrev Tre.val (t : Tre) : Value := .agg #[.slice t.g.RA t.g.rules.length t.g.rc, .slice t.g.NA t.g.nodes.length t.g.nc, .slice t.PA t.rp.length t.pc, .slice t.QA t.np.length t.qc, .slice t.MA t.nm.length t.mc]
structure Tre.At (w : World) (t : Tre) : Prop where
  g : Gr.At w t.g
  rp : Lies w t.PA (ints t.rp)
  np : Lies w t.QA (ints t.np)
  nm : Lies w t.MA (strs t.nm)
theorem Tre.At.below {w w' : World} {t : Tre} (h : Tre.At w t) (hb : Below w.heap.size w w') : Tre.At w' t := ⟨h.g.below hb, h.rp.below hb, h.np.below hb, h.nm.below hb⟩
/-- What a tree says. -/
structure Tre.Says (l : List Nat) (us : List Ru) (t : Tre) : Prop where
  rules : t.g.rules = rlsOf us
  nodes : ∃ NL, t.g.nodes = NL.map ndOf ∧ said NL = flat 0 (bod us)
  rp : t.rp = us.map fun u => ((beg l u.at_ : Nat) : Int)
  np : t.np = (flat 0 (bod us)).map fun p => ((beg l p.1.at_ : Nat) : Int)
  nm : t.nm = (flat 0 (bod us)).map fun p => bsv p.1.name
theorem ncl_any : ∀ (NL : List Nw) (i j : Nat), i < NL.length → j < 9 → (ncl NL)[i * 9 + j]? = ((NL.map ndOf).getD i Nd.zero).cells[j]?
  | [], i, j, h, _ => by simp at h
  | y :: NL, 0, j, _, hj => by
    rw [ncl, List.flatMap_cons, Nat.zero_mul, Nat.zero_add, List.getElem?_append_left (by simp [Nw.cells]; omega)]
    simp [Nw.cells, Nd.cells, ndOf]
  | y :: NL, i + 1, j, h, hj => by
    rw [ncl, List.flatMap_cons, List.getElem?_append_right (by simp [Nw.cells]; omega)]
    have := ncl_any NL i j (by simpa using h) hj
    rw [ncl] at this
    rw [show (i + 1) * 9 + j - y.cells.length = i * 9 + j by simp [Nw.cells]; omega, this]
    simp
theorem nodes_of {w : World} {base c : Nat} {A : Option Addr} {NL : List Nw} (h : w.ownsRow base 48 9 (.slice A NL.length c) NL.length (ncl NL)) : Nodes w A (NL.map ndOf) := by
  intro h0
  rw [List.length_map] at h0
  obtain ⟨g, cap, e, _, _, _, hg⟩ := own_shape h h0
  cases e
  refine ⟨g, 0, rfl, hg, fun i hi j hj => ?_⟩
  rw [List.length_map] at hi
  rw [Nat.zero_add, h.cellAt (i * 9 + j) (by omega), ncl_any NL i j hi hj]
theorem rlc_any : ∀ (us : List Ru) (rd : List Nat) (i : Nat), i < us.length → rd.length = us.length → (rlc us rd)[i * 2]? = some (.string (((us.zip rd).map fun x => (⟨bsv x.1.name, (x.2 : Int)⟩ : Rl)).getD i Rl.zero).name) ∧ (rlc us rd)[i * 2 + 1]? = some (.int .i64 (((us.zip rd).map fun x => (⟨bsv x.1.name, (x.2 : Int)⟩ : Rl)).getD i Rl.zero).body)
  | [], _, i, h, _ => by simp at h
  | u :: us, [], i, _, h => by simp at h
  | u :: us, r :: rd, 0, _, _ => by simp [rlc]
  | u :: us, r :: rd, i + 1, h, h2 => by
    have := rlc_any us rd i (by simpa using h) (by simpa using h2)
    unfold rlc at this ⊢
    rw [List.zip_cons_cons, List.flatMap_cons, show (i + 1) * 2 = i * 2 + 2 by omega, show i * 2 + 2 + 1 = i * 2 + 1 + 2 by omega]
    simpa using this
theorem rules_of {w : World} {base c : Nat} {A : Option Addr} {us : List Ru} {rd : List Nat} (hr : rd.length = us.length) (h : w.ownsRow base 50 2 (.slice A us.length c) us.length (rlc us rd)) : Rules w A ((us.zip rd).map fun x => (⟨bsv x.1.name, (x.2 : Int)⟩ : Rl)) := by
  intro h0
  rw [List.length_map, List.length_zip] at h0
  obtain ⟨g, cap, e, _, _, _, hg⟩ := own_shape h (by omega)
  cases e
  refine ⟨g, 0, rfl, hg, fun i hi => ?_⟩
  rw [List.length_map, List.length_zip] at hi
  obtain ⟨q1, q2⟩ := rlc_any us rd i (by omega) hr
  rw [Nat.zero_add, h.cellAt (i * 2) (by omega), h.cellAt (i * 2 + 1) (by omega)]
  exact ⟨q1, q2⟩
theorem lies_row {w : World} {base e n c : Nat} {A : Option Addr} {xs : List Value} (h : w.ownsRow base e 1 (.slice A n c) n xs) (hn : xs.length = n) : Lies w A xs := by subst hn; exact own_lies h
theorem roots_len : ∀ (F : Fr) (n : Nat), (roots n F).length = F.len
  | .nil, _ => rfl
  | .cons x k r, n => by rw [roots, List.length_cons, roots_len r, Fr.len]
theorem said_at {NL : List Nw} {F : Fr} (h : said NL = flat 0 F) {y : Nw} (hy : y ∈ NL) : ∃ K, (y.x, K) ∈ F.parts := by
  obtain ⟨i, hi, rfl⟩ := List.mem_iff_getElem.1 hy
  have h1 := congrArg (fun l => l[i]?) h
  simp only [flat_parts] at h1
  rw [said, List.getElem?_map, List.getElem?_eq_getElem hi] at h1
  cases h2 : F.parts[i]? with
  | none => rw [h2] at h1; cases h1
  | some z =>
    rw [h2] at h1
    simp only [Option.map_some, Option.some.injEq, Prod.mk.injEq] at h1
    refine ⟨z.2, ?_⟩
    rw [h1.1]
    exact List.mem_of_getElem? h2
theorem tre_of {l : List Nat} {N : Nat} {us : List Ru} {v : Value} {B : Nat} {w : World} (G : Got l N us) (hz : l.length ≤ 16384) (hN : N ≤ l.length) (h : TreeAt l us v B w) : ∃ t : Tre, v = t.val ∧ t.At w ∧ t.Says l us := by
  obtain ⟨vr, vrp, vn, vp, vm, NL, tb, rfl, _, hT, hs⟩ := h
  have o1 : w.ownsRow tb 50 2 vr us.length (rlc us (roots 0 (bod us))) := hT.rows.own ⟨50, 2, vr, us.length, rlc us (roots 0 (bod us))⟩ (List.mem_append.2 (.inl List.mem_cons_self))
  have o2 : w.ownsRow tb 3 1 vrp us.length (rpv l us) := hT.rows.own ⟨3, 1, vrp, us.length, rpv l us⟩ (List.mem_append.2 (.inl (List.mem_cons_of_mem _ List.mem_cons_self)))
  have o3 := hT.own_n
  have o4 := hT.own_p
  have o5 := hT.own_m
  have o6 : ∀ y ∈ NL, w.ownsRow tb 3 1 y.kv y.kids.length (numv y.kids) := fun y hy => hT.rows.own (krow y) (by
    simp only [trows, List.mem_append, List.mem_cons, List.mem_map]
    exact .inr (.inr (.inr (.inr ⟨y, hy, rfl⟩))))
  obtain ⟨A1, c1, rfl, n1, _⟩ := own_slice o1
  obtain ⟨A2, c2, rfl, n2, _⟩ := own_slice o2
  obtain ⟨A3, c3, rfl, n3, _⟩ := own_slice o3
  obtain ⟨A4, c4, rfl, n4, _⟩ := own_slice o4
  obtain ⟨A5, c5, rfl, n5, _⟩ := own_slice o5
  have hroots : (roots 0 (bod us)).length = us.length := by rw [roots_len, bod_len]
  have hrl : (rlsOf us).length = us.length := by rw [rlsOf, List.length_map, List.length_zip, hroots, Nat.min_self]
  have hNL : NL.length = (bod us).nodes := by have := congrArg List.length hs; rwa [said, List.length_map, flat_length] at this
  have hus : us.length ≤ (bod us).nodes := by rw [← bod_len]; exact Fr.len_le _
  have hnd := G.nodes
  have p1 : (us.map fun u => ((beg l u.at_ : Nat) : Int)).length = us.length := List.length_map _
  have e4 : plv l NL = ints ((flat 0 (bod us)).map fun p => ((beg l p.1.at_ : Nat) : Int)) := by
    rw [← hs]; simp [plv, ints, said]
  have e5 : nmv NL = strs ((flat 0 (bod us)).map fun p => bsv p.1.name) := by
    rw [← hs]; simp [nmv, strs, said]
  have e2 : rpv l us = ints (us.map fun u => ((beg l u.at_ : Nat) : Int)) := by simp [rpv, ints]
  refine ⟨⟨⟨A1, c1, rlsOf us, A3, c3, NL.map ndOf⟩, A2, c2, us.map fun u => ((beg l u.at_ : Nat) : Int), A4, c4, (flat 0 (bod us)).map fun p => ((beg l p.1.at_ : Nat) : Int), A5, c5, (flat 0 (bod us)).map fun p => bsv p.1.name⟩, ?_, ⟨⟨?_, nodes_of o3, ?_, ?_, ?_, ?_, ?_, ?_, ?_⟩, ?_, ?_, ?_⟩, ⟨rfl, ⟨NL, rfl, hs⟩, rfl, rfl, rfl⟩⟩
  · simp only [Tre.val, hrl, List.length_map, flat_length, hNL]
  · exact rules_of hroots o1
  · intro x hx
    obtain ⟨y, hy, rfl⟩ := List.mem_map.1 hx
    obtain ⟨K, hK⟩ := said_at hs hy
    have o := o6 y hy
    obtain ⟨g, c, e, n0, hle⟩ := own_slice o
    refine ⟨?_, ?_, ?_⟩
    · have := lies_row (A := y.A) (c := y.cap) o (by simp [numv])
      have e : numv y.kids = ints (ndOf y).kids := by simp [numv, ints, ndOf]
      rw [← e]; exact this
    · intro hA
      simp only [Nw.kv, Value.slice.injEq] at e
      have := (n0 (by rw [← e.1]; exact hA)).2
      show y.cap = 0
      omega
    · have hm := List.mem_iff_getElem?.1 hy
      obtain ⟨i, hi⟩ := hm
      have h1 := congrArg (fun l => l[i]?) hs
      simp only [flat_parts] at h1
      rw [said, List.getElem?_map, hi] at h1
      cases h2 : (bod us).parts[i]? with
      | none => rw [h2] at h1; cases h1
      | some z =>
        rw [h2] at h1
        simp only [Option.map_some, Option.some.injEq, Prod.mk.injEq] at h1
        have h3 : y.kids.length = z.2.len := by rw [h1.2, roots_len]
        have h4 := Fr.len_le z.2
        have h5 : z.2.nodes ≤ (bod us).nodes := by
          obtain ⟨rest, hr⟩ := parts_drop (bod us) i z.1 z.2 h2
          have := congrArg List.length hr
          rw [List.length_drop, List.length_append, parts_length, parts_length] at this
          omega
        show (y.kids.map fun (k : Nat) => (k : Int)).length ≤ _
        rw [List.length_map]
        omega
  · show (rlsOf us).length ≤ _; omega
  · show (NL.map ndOf).length ≤ _; rw [List.length_map]; omega
  · intro hA; exact (n1 hA).2
  · intro hA; exact (n3 hA).2
  · intro x hx
    obtain ⟨y, hy, rfl⟩ := List.mem_map.1 hx
    obtain ⟨K, hK⟩ := said_at hs hy
    have := parts_all _ G.tx _ hK
    show (bsv y.x.text).size ≤ _
    rw [(str_bsv this.1.2).size]
    have := this.1.1
    omega
  · intro r hr
    obtain ⟨z, hz', rfl⟩ := List.mem_map.1 hr
    have hu := (List.of_mem_zip hz').1
    show (bsv z.1.name).size ≤ _
    rw [(G.rules _ hu).1, (str_bsv (tkn_ok G.lt _).2.1).size]
    have := (tkn_ok G.lt z.1.at_).1
    omega
  · rw [← e2]; exact lies_row o2 (by simp [rpv])
  · rw [← e4]; exact lies_row o4 (by simp [plv])
  · rw [← e5]; exact lies_row o5 (by simp [nmv])
end Go.Proofs.YtfghfnpiaccfaaaGreatDoor
namespace Go.Proofs.YtfghfnpiaccfaaaGreatDoor
open Go Go.RowKit Go.Maps
abbrev Why (er : Int) : Prop := er = 3 ∨ er = 7
section
variable {tk : Nat → Wd} {N : Nat}
theorem suf_er (h : Toks tk N) : ∀ (f : Nat) (p : Pn) (k : Nat) (er : Int) (j : Nat), k ≤ N → N + 1 - k ≤ f → suf tk f p k = .no er j → Why er
  | 0, _, k, _, _, hk, hf, _ => by omega
  | f + 1, p, k, er, j, hk, hf, e => by
    unfold suf at e
    split at e
    · cases e
    · rename_i K hK
      have := h.sign hk (behindK_ne hK)
      exact suf_er h f _ (k + 1) er j (by omega) (by omega) e
theorem sev_er {one : Nat → Rs Pn} {more : Nat → Option Nat} {a : Nat} (h0 : ∀ k er j, a ≤ k → k ≤ N → one k = .no er j → Why er) (h1 : ∀ k p j, k ≤ N → one k = .ok p j → k < j ∧ j ≤ N) (h2 : ∀ k j, k ≤ N → more k = some j → k ≤ j ∧ j ≤ N) : ∀ (f k : Nat) (er : Int) (j : Nat), a ≤ k → k ≤ N → N + 1 - k ≤ f → sev one more f k = .no er j → Why er
  | 0, k, _, _, _, hk, hf, _ => by omega
  | f + 1, k, er, j, ha, hk, hf, e => by
    unfold sev at e
    split at e
    · rename_i e1; cases e; exact h0 _ _ _ ha hk e1
    · rename_i p j1 e1
      have g1 := h1 _ _ _ hk e1
      split at e
      · cases e
      · rename_i j2 e2
        have g2 := h2 _ _ g1.2 e2
        split at e
        · rename_i e3; cases e; exact sev_er h0 h1 h2 f j2 _ _ (by omega) g2.2 (by omega) e3
        · cases e
theorem several_er {K : Int} {one : Nat → Rs Pn} {more : Nat → Option Nat} {k : Nat} (h0 : ∀ k' er j, k ≤ k' → k' ≤ N → one k' = .no er j → Why er) (h1 : ∀ k p j, k ≤ N → one k = .ok p j → k < j ∧ j ≤ N) (h2 : ∀ k j, k ≤ N → more k = some j → k ≤ j ∧ j ≤ N) {f : Nat} {er : Int} {j : Nat} (hk : k ≤ N) (hf : N + 1 - k ≤ f) (e : several K one more f k = .no er j) : Why er := by
  unfold several at e
  split at e
  · rename_i e1; cases e; exact sev_er h0 h1 h2 f k _ _ (Nat.le_refl _) hk hf e1
  · cases e
theorem prim_er (h : Toks tk N) {al : Nat → Rs Pn} {d k : Nat} (h3 : ∀ er j, k + 1 ≤ N → al (k + 1) = .no er j → Why er) {er : Int} {j : Nat} (hk : k ≤ N) (e : prim tk al d k = .no er j) : Why er := by
  unfold prim at e
  split at e
  · cases e; exact .inr rfl
  · rename_i h0
    have g0 := h.next hk (mk_ne h0)
    split at e
    · cases e
    split at e
    · cases e
    split at e
    · cases e
    split at e
    · cases e
    split at e
    · cases e; exact .inl rfl
    split at e
    · cases e
    split at e
    · rename_i e2; cases e; exact h3 _ _ g0 e2
    split at e
    · cases e
    · cases e; exact .inr rfl
theorem itm_er (h : Toks tk N) {it al : Nat → Rs Pn} {d k : Nat} (h1 : ∀ er j, k + 1 ≤ N → it (k + 1) = .no er j → Why er) (h3 : ∀ er j, k + 1 ≤ N → al (k + 1) = .no er j → Why er) (h4 : ∀ k p j, k ≤ N → al k = .ok p j → k < j ∧ j ≤ N) {er : Int} {j : Nat} (hk : k ≤ N) (e : itm tk N it al d k = .no er j) : Why er := by
  unfold itm at e
  split at e
  · rename_i K hK
    have g0 := h.sign hk (aheadK_ne hK)
    split at e
    · rename_i e1; cases e; exact h1 _ _ g0 e1
    · cases e
  · unfold sufd at e
    split at e
    · rename_i e1; cases e; exact prim_er h h3 hk e1
    · rename_i q i e1
      have key := prim_lt h h4 hk e1
      exact suf_er h _ _ _ _ _ key.2 (Nat.le_refl _) e
theorem prs_er (h : Toks tk N) : ∀ (f m d k : Nat) (er : Int) (j : Nat), 1 ≤ m → m ≤ 3 → k ≤ N → 4 * (N + 1 - k) + m ≤ f → prs tk N f m d k = .no er j → Why er
  | 0, m, d, k, er, j, h1, _, _, hn, _ => by omega
  | f + 1, m, d, k, er, j, h1, h3, hk, hn, e => by
    have IH := prs_er h f
    have LT := prs_lt h f
    unfold prs at e
    split at e
    · exact several_er (fun k' er j hk' hkN e => IH 2 d k' er j (by omega) (by omega) hkN (by omega) e) (fun k p j => LT 2 d k p j) (slash_le h) hk (Nat.le_refl _) e
    split at e
    · exact several_er (fun k' er j hk' hkN e => IH 1 d k' er j (by omega) (by omega) hkN (by omega) e) (fun k p j => LT 1 d k p j) begins_le hk (Nat.le_refl _) e
    · exact itm_er h (fun er j hkN e => IH 1 d (k + 1) er j (by omega) (by omega) hkN (by omega) e) (fun er j hkN e => IH 3 (d + 1) (k + 1) er j (by omega) (by omega) hkN (by omega) e) (fun k p j => LT 3 (d + 1) k p j) hk e
theorem rul_er (h : Toks tk N) {k : Nat} {er : Int} {j : Nat} (hk : k ≤ N) (e : rul tk N k = .no er j) : Why er := by
  unfold rul at e
  split at e
  · cases e; exact .inr rfl
  rename_i h0
  have h0' : (tk k).kind = 2 := by simp only [not_or, ne_eq, Decidable.not_not] at h0; exact h0.1
  have g1 := h.next hk (by rw [h0']; decide)
  split at e
  · cases e; exact .inr rfl
  rename_i h1
  have h1' : sgk tk (k + 1) = [60, 45] := by simpa using h1
  have g2 := h.sign g1 (by rw [h1']; simp)
  split at e
  · rename_i e1; cases e; exact prs_er h _ _ _ _ _ _ (by omega) (by omega) g2 (by omega) e1
  split at e
  · cases e
  · cases e; exact .inr rfl
end
theorem ruls_er {c : Cx} (hf : c.Fine) : ∀ (f k : Nat) (er : Int) (j : Nat), k ≤ c.N → c.N + 1 - k ≤ f → ruls (tkn c.l) c.N f k = .no er j → Why er
  | 0, k, _, _, hk, hf, _ => by omega
  | f + 1, k, er, j, hk, hn, e => by
    unfold ruls at e
    split at e
    · rename_i e1; cases e; exact rul_er hf.toks hk e1
    rename_i u i e1
    have g5 := rul_lt hf hk e1
    split at e
    · cases e
    split at e
    · rename_i e2; cases e; exact ruls_er hf f i _ _ g5.2 (by omega) e2
    · cases e
theorem trd_er {l : List Nat} {N : Nat} (hl : ∀ x ∈ l, x < 256) (hz : l.length ≤ 16384) (hN : stp l N = true) (hNl : N ≤ l.length) (hNb : ∀ j, j < N → stp l j = false) (ho : ow l N ≠ none) {er : Int} {j : Nat} (h : trd l N = .no er j) : Why er :=
  ruls_er (fine_of hl hz hN hNl hNb ho) (N + 1) 0 er j (Nat.zero_le _) (by show N + 1 - 0 ≤ N + 1; omega) h
end Go.Proofs.YtfghfnpiaccfaaaGreatDoor
namespace Go.Proofs.YtfghfnpiaccfaaaGreatDoor
open Go Go.RowKit
abbrev Key := Int × Int × Int × Int × Int × ByteArray × Int × Int × List Int
def keyNd (x : Nd) : Key := (x.kind, x.c0, x.c1, x.c2, x.c3, x.text, x.rule, x.level, x.kids)
def kof (p : Px × List Nat) : Key := (p.1.kind, cw p.1.cls 0, cw p.1.cls 1, cw p.1.cls 2, cw p.1.cls 3, bsv p.1.text, 0, p.1.lev, p.2.map fun (k : Nat) => (k : Int))
theorem sameNd_key {x y : Nd} : sameNd x y = true ↔ keyNd x = keyNd y := by
  unfold sameNd keyNd
  simp only [decide_eq_true_eq, Prod.mk.injEq]
  constructor
  · rintro ⟨a, ⟨b, c, d, e⟩, f, g, h, i⟩; exact ⟨a, b, c, d, e, f, g, h, i⟩
  · rintro ⟨a, b, c, d, e, f, g, h, i⟩; exact ⟨a, ⟨b, c, d, e⟩, f, g, h, i⟩
theorem rowSame_iff {α : Type} {z : α} {f : α → α → Bool} {a b : List α} : rowSame z f a b = true ↔ a.length = b.length ∧ ∀ i, i < a.length → f (a.getD i z) (b.getD i z) = true := by unfold rowSame; rw [decide_eq_true_eq]
theorem row_keys {a b : List Nd} : rowSame Nd.zero sameNd a b = true ↔ a.map keyNd = b.map keyNd := by
  rw [rowSame_iff]
  constructor
  · rintro ⟨h, k⟩
    refine List.ext_getElem (by simpa using h) fun i h1 h2 => ?_
    rw [List.length_map] at h1 h2
    have := sameNd_key.1 (k i h1)
    rw [List.getD_eq_getElem?_getD, List.getD_eq_getElem?_getD, List.getElem?_eq_getElem h1, List.getElem?_eq_getElem h2] at this
    simpa using this
  · intro h
    have hl : a.length = b.length := by have := congrArg List.length h; simpa using this
    refine ⟨hl, fun i hi => sameNd_key.2 ?_⟩
    have := congrArg (fun l => l[i]?) h
    simp only [List.getElem?_map] at this
    rw [List.getElem?_eq_getElem hi, List.getElem?_eq_getElem (show i < b.length by omega)] at this
    rw [List.getD_eq_getElem?_getD, List.getD_eq_getElem?_getD, List.getElem?_eq_getElem hi, List.getElem?_eq_getElem (show i < b.length by omega)]
    simpa using this
theorem row_rls {a b : List Rl} : rowSame Rl.zero sameRl a b = true ↔ a = b := by
  rw [rowSame_iff]
  constructor
  · rintro ⟨h, k⟩
    refine List.ext_getElem h fun i h1 h2 => ?_
    have := k i h1
    rw [List.getD_eq_getElem?_getD, List.getD_eq_getElem?_getD, List.getElem?_eq_getElem h1, List.getElem?_eq_getElem h2] at this
    simp only [Option.getD_some, sameRl, decide_eq_true_eq] at this
    cases hx : a[i] with
    | mk n b' => cases hy : b[i] with
      | mk m c' => rw [hx, hy] at this; obtain ⟨rfl, rfl⟩ := this; rfl
  · rintro rfl; exact ⟨rfl, fun i _ => by simp [sameRl]⟩
theorem sameGr_iff {g h : Gr} : sameGr g h = true ↔ g.rules = h.rules ∧ g.nodes.map keyNd = h.nodes.map keyNd := by
  unfold sameGr
  rw [Bool.and_eq_true, row_rls, row_keys]
theorem said_keys {NL : List Nw} {L : List (Px × List Nat)} (h : said NL = L) : (NL.map ndOf).map keyNd = L.map kof := by
  subst h
  simp only [said, List.map_map]
  rfl
theorem Tre.Says.keys {l : List Nat} {us : List Ru} {t : Tre} (h : t.Says l us) : t.g.nodes.map keyNd = (flat 0 (bod us)).map kof := by
  obtain ⟨NL, e, hs⟩ := h.nodes
  rw [e, said_keys hs]
theorem Tre.Says.nlen {l : List Nat} {us : List Ru} {t : Tre} (h : t.Says l us) : t.g.nodes.length = (bod us).nodes ∧ t.np.length = (bod us).nodes ∧ t.nm.length = (bod us).nodes := by
  refine ⟨?_, by rw [h.np, List.length_map, flat_length], by rw [h.nm, List.length_map, flat_length]⟩
  have := congrArg List.length h.keys
  simpa [flat_length] using this
theorem Tre.Says.rlen {l : List Nat} {us : List Ru} {t : Tre} (h : t.Says l us) : t.g.rules.length = us.length ∧ t.rp.length = us.length := by
  refine ⟨?_, by rw [h.rp, List.length_map]⟩
  rw [h.rules, rlsOf, List.length_map, List.length_zip, roots_len, bod_len, Nat.min_self]
/-- A <- !"a"* / B:2 (); -/
def sm8 : List Nat := [65, 32, 60, 45, 32, 33, 34, 97, 34, 42, 32, 47, 32, 66, 58, 50, 32, 40, 41, 59]
abbrev sm8s : ByteArray := ⟨#[65, 32, 60, 45, 32, 33, 34, 97, 34, 42, 32, 47, 32, 66, 58, 50, 32, 40, 41, 59]⟩
theorem sm8_str : Str sm8s sm8 := by unfold Str; rfl
theorem sm8_lt : ∀ x ∈ sm8, x < 256 := by decide
theorem sm8_stp : stp sm8 10 = true ∧ ∀ j, j < 10 → stp sm8 j = false := by
  refine ⟨by kernel_rfl, ?_⟩
  have h : (List.range 10).all (fun j => !stp sm8 j) = true := by kernel_rfl
  intro j hj
  have := List.all_eq_true.1 h j (List.mem_range.2 hj)
  simpa using this
theorem sm8_ow : (ow sm8 10).isSome = true := by kernel_rfl
def sm8u : List Ru := [⟨[65], 0, (⟨7, no, [], 0, 2, []⟩, .cons ⟨11, no, [], 0, 2, []⟩ (.cons ⟨8, no, [], 0, 4, []⟩ (.cons ⟨4, no, [97], 0, 3, []⟩ .nil .nil) .nil) (.cons ⟨6, no, [], 0, 6, []⟩ (.cons ⟨5, no, [], 2, 6, [66]⟩ .nil (.cons ⟨1, no, [], 0, 7, []⟩ .nil .nil)) .nil))⟩]
theorem sm8_read : trd sm8 10 = .ok sm8u 10 := by kernel_rfl
end Go.Proofs.YtfghfnpiaccfaaaGreatDoor
namespace Go.Proofs.YtfghfnpiaccfaaaGreatDoor
open Go Go.RowKit
/-- What reading a text tells. -/
def Tx3 (l : List Nat) (N : Nat) (w : World) (e : Ending) (w' : World) : Prop :=
  Below w.heap.size w w' ∧ ((ow l N = none ∧ e = .returned (.tuple #[.agg z5, dgv 7 (beg l N : Nat)])) ∨ (∃ er j, ow l N ≠ none ∧ trd l N = .no er j ∧ Why er ∧ e = .returned (.tuple #[.agg z5, dgv er (beg l j : Nat)])) ∨
    (∃ (us : List Ru) (j : Nat) (t : Tre), ow l N ≠ none ∧ trd l N = .ok us j ∧ e = .returned (.tuple #[t.val, dgv 0 0]) ∧ t.At w' ∧ t.Says l us ∧ Got l N us))
theorem text3 (N : Nat) (s : ByteArray) (l : List Nat) (hs : Str s l) (hl : l.length ≤ 16384) (hN : stp l N = true) (hNl : N ≤ l.length) (hNb : ∀ j, j < N → stp l j = false) (w : World) (hT : Tab w) :
    Calls Tryz.prog 15 #[.string s] w (Tx3 l N w) := by
  refine (readText_any N s l hs hl hN hNl hNb w hT).mono fun e w' h => ?_
  obtain ⟨hb, ⟨h1, h2⟩ | ⟨h1, er, j, h2, h3⟩ | ⟨h1, us, j, v, h2, h3, h4⟩⟩ := h
  · exact ⟨hb, .inl ⟨h1, h2⟩⟩
  · exact ⟨hb, .inr (.inl ⟨er, j, h1, h2, trd_er hs.lt hl hN hNl hNb h1 h2, h3⟩)⟩
  · have G := got hs.lt hl hN hNl hNb h1 h2
    obtain ⟨t, rfl, ha, hy⟩ := tre_of G hl hNl h4
    exact ⟨hb, .inr (.inr ⟨us, j, t, h1, h2, h3, ha, hy, G⟩)⟩
theorem text_sm8 (w : World) (hT : Tab w) : Calls Tryz.prog 15 #[.string sm8s] w fun e w' => Below w.heap.size w w' ∧ ∃ t : Tre, e = .returned (.tuple #[t.val, dgv 0 0]) ∧ t.At w' ∧ t.Says sm8 sm8u := by
  refine (text3 10 sm8s sm8 sm8_str (by decide) sm8_stp.1 (by decide) sm8_stp.2 w hT).mono fun e w' h => ?_
  obtain ⟨hb, ⟨h1, h2⟩ | ⟨er, j, h1, h2, _⟩ | ⟨us, j, t, h1, h2, h3, h4, h5, _⟩⟩ := h
  · have := sm8_ow; rw [h1] at this; cases this
  · rw [sm8_read] at h2; cases h2
  · rw [sm8_read] at h2; cases h2; exact ⟨hb, t, h3, h4, h5⟩
abbrev tA8 : ByteArray := { data := #[65] }
abbrev ta8 : ByteArray := { data := #[97] }
abbrev tB8 : ByteArray := { data := #[66] }
abbrev te8 : ByteArray := { data := #[] }
def exN8 (k0 k1 k2 k3 : Option Addr) : List Nd := [⟨7, 0, 0, 0, 0, te8, 0, 0, k0, 2, [1, 4]⟩, ⟨11, 0, 0, 0, 0, te8, 0, 0, k1, 1, [2]⟩, ⟨8, 0, 0, 0, 0, te8, 0, 0, k2, 1, [3]⟩, ⟨4, 0, 0, 0, 0, ta8, 0, 0, none, 0, []⟩, ⟨6, 0, 0, 0, 0, te8, 0, 0, k3, 2, [5, 6]⟩, ⟨5, 0, 0, 0, 0, te8, 0, 2, none, 0, []⟩, ⟨1, 0, 0, 0, 0, te8, 0, 0, none, 0, []⟩]
def exR8 : List Rl := [⟨tA8, 0⟩]
def exG8 (ra na k0 k1 k2 k3 : Option Addr) : Gr := ⟨ra, 1, exR8, na, 7, exN8 k0 k1 k2 k3⟩
abbrev nd9 (k : Int) (t : ByteArray) (v : Int) (kv : Value) : List Value := [.int .i64 k, .int .u64 0, .int .u64 0, .int .u64 0, .int .u64 0, .string t, .int .i64 0, .int .i64 v, kv]
theorem Blk.newn {w : World} {n : Nat} {vs : Array Value} {T : TypeId} (h : w.heap.size = n) : Blk (w.alloc (.cells vs T)) n vs T := by subst h; exact Blk.new _ _ _
theorem lies_one' {w : World} {b : Nat} {x : Int} {T : TypeId} (h : Blk w b #[.int .i64 x] T) : Lies w (some ⟨b, 0, none⟩) (ints [x]) := by
  intro _
  refine ⟨b, 0, rfl, h.lt, fun i hi => ?_⟩
  rw [Nat.zero_add, h.cell]
  have : i = 0 := by simp [ints] at hi; omega
  subst this; rfl
theorem lies_two {w : World} {b : Nat} {x y : Int} {T : TypeId} (h : Blk w b #[.int .i64 x, .int .i64 y] T) : Lies w (some ⟨b, 0, none⟩) (ints [x, y]) := by
  intro _
  refine ⟨b, 0, rfl, h.lt, fun i hi => ?_⟩
  rw [Nat.zero_add, h.cell]
  have : i = 0 ∨ i = 1 := by simp [ints] at hi; omega
  rcases this with rfl | rfl <;> rfl
abbrev exC8 (b0 b1 b2 b3 : Nat) : Array Value := #[.int .i64 7, .int .u64 0, .int .u64 0, .int .u64 0, .int .u64 0, .string te8, .int .i64 0, .int .i64 0, .slice (some ⟨b0, 0, none⟩) 2 2, .int .i64 11, .int .u64 0, .int .u64 0, .int .u64 0, .int .u64 0, .string te8, .int .i64 0, .int .i64 0, .slice (some ⟨b1, 0, none⟩) 1 1,
      .int .i64 8, .int .u64 0, .int .u64 0, .int .u64 0, .int .u64 0, .string te8, .int .i64 0, .int .i64 0, .slice (some ⟨b2, 0, none⟩) 1 1, .int .i64 4, .int .u64 0, .int .u64 0, .int .u64 0, .int .u64 0, .string ta8, .int .i64 0, .int .i64 0, .slice none 0 0, .int .i64 6, .int .u64 0, .int .u64 0, .int .u64 0, .int .u64 0, .string te8, .int .i64 0, .int .i64 0, .slice (some ⟨b3, 0, none⟩) 2 2,
      .int .i64 5, .int .u64 0, .int .u64 0, .int .u64 0, .int .u64 0, .string te8, .int .i64 0, .int .i64 2, .slice none 0 0, .int .i64 1, .int .u64 0, .int .u64 0, .int .u64 0, .int .u64 0, .string te8, .int .i64 0, .int .i64 0, .slice none 0 0]
set_option maxRecDepth 100000 in
theorem ex8_at {W : World} {br b0 b1 b2 b3 bn : Nat} (hr : Blk W br #[.string tA8, .int .i64 0] 50) (h0 : Blk W b0 #[.int .i64 1, .int .i64 4] 3) (h1 : Blk W b1 #[.int .i64 2] 3) (h2 : Blk W b2 #[.int .i64 3] 3) (h3 : Blk W b3 #[.int .i64 5, .int .i64 6] 3)
    (h4 : Blk W bn (exC8 b0 b1 b2 b3) 48) :
    Gr.At W (exG8 (some ⟨br, 0, none⟩) (some ⟨bn, 0, none⟩) (some ⟨b0, 0, none⟩) (some ⟨b1, 0, none⟩) (some ⟨b2, 0, none⟩) (some ⟨b3, 0, none⟩)) where
  rules := fun _ => ⟨br, 0, rfl, hr.lt, fun i hi => by
    have : i = 0 := by simp [exG8, exR8] at hi; omega
    subst this
    exact ⟨hr.cell 0, hr.cell 1⟩⟩
  nodes := fun _ => ⟨bn, 0, rfl, h4.lt, fun i hi j hj => by
    have hi' : i = 0 ∨ i = 1 ∨ i = 2 ∨ i = 3 ∨ i = 4 ∨ i = 5 ∨ i = 6 := by simp [exG8, exN8] at hi; omega
    have hj' : j = 0 ∨ j = 1 ∨ j = 2 ∨ j = 3 ∨ j = 4 ∨ j = 5 ∨ j = 6 ∨ j = 7 ∨ j = 8 := by omega
    rw [h4.cell]
    rcases hi' with rfl | rfl | rfl | rfl | rfl | rfl | rfl <;> rcases hj' with rfl | rfl | rfl | rfl | rfl | rfl | rfl | rfl | rfl <;> rfl⟩
  kids := by
    intro x hx
    simp only [exG8, exN8, List.mem_cons, List.not_mem_nil, or_false] at hx
    rcases hx with rfl | rfl | rfl | rfl | rfl | rfl | rfl
    · exact ⟨lies_two h0, (fun h => by cases h), by simp⟩
    · exact ⟨lies_one' h1, (fun h => by cases h), by simp⟩
    · exact ⟨lies_one' h2, (fun h => by cases h), by simp⟩
    · exact ⟨fun h => by simp [ints] at h, fun _ => rfl, by simp⟩
    · exact ⟨lies_two h3, (fun h => by cases h), by simp⟩
    · exact ⟨fun h => by simp [ints] at h, fun _ => rfl, by simp⟩
    · exact ⟨fun h => by simp [ints] at h, fun _ => rfl, by simp⟩
  rl := by simp [exG8, exR8]
  nl := by simp [exG8, exN8]
  rn := fun h => by cases h
  nn := fun h => by cases h
  texts := by
    intro x hx
    simp only [exG8, exN8, List.mem_cons, List.not_mem_nil, or_false] at hx
    rcases hx with rfl | rfl | rfl | rfl | rfl | rfl | rfl <;> simp [ByteArray.size]
  names := by
    intro x hx
    simp only [exG8, exR8, List.mem_cons, List.not_mem_nil, or_false] at hx
    subst hx
    simp [ByteArray.size]
theorem ex8_same {t : Tre} (h : t.Says sm8 sm8u) (ra na k0 k1 k2 k3 : Option Addr) : sameGr t.g (exG8 ra na k0 k1 k2 k3) = true := by
  rw [sameGr_iff]
  refine ⟨?_, ?_⟩
  · rw [h.rules]; rfl
  · rw [h.keys]
    show (flat 0 (bod sm8u)).map kof = (exN8 k0 k1 k2 k3).map keyNd
    kernel_rfl
theorem nm8 {t : Tre} (h : t.Says sm8 sm8u) : t.nm.length = 7 ∧ t.nm.getD 5 te8 = tB8 := by
  rw [h.nm]
  refine ⟨?_, ?_⟩ <;> kernel_rfl
theorem lies_str {w : World} {A : Option Addr} {l : List ByteArray} (h : Lies w A (strs l)) {k : Nat} (hk : k < l.length) : ∃ b o, A = some ⟨b, o, none⟩ ∧ b < w.heap.size ∧ w.cell? ⟨b, o + k, none⟩ = some (.string (l.getD k te8)) := by
  have hl : (strs l).length = l.length := by simp [strs]
  obtain ⟨b, o, e, hb, hc⟩ := h (by omega)
  refine ⟨b, o, e, hb, (hc k (by omega)).trans ?_⟩
  simp [strs, List.getElem?_map, List.getElem?_eq_getElem hk, List.getD]
abbrev d2z : Array Value := #[.int .i64 0, .int .i64 0]
abbrev Tre.five (t : Tre) : Array Value := #[.slice t.g.RA t.g.rules.length t.g.rc, .slice t.g.NA t.g.nodes.length t.g.nc, .slice t.PA t.rp.length t.pc, .slice t.QA t.np.length t.qc, .slice t.MA t.nm.length t.mc]
theorem two_blks (w : World) : Blk ((w.alloc (.cells z5 36)).alloc (.cells d2z 38)) w.heap.size z5 36 ∧ Blk ((w.alloc (.cells z5 36)).alloc (.cells d2z 38)) (w.heap.size + 1) d2z 38 :=
  ⟨(Blk.new w _ _).alloc _, Blk.newn (by simp)⟩
/-- Two blocks made, both written: what is known then. -/
theorem pair_set {B : Nat} {w0 w w2 w3 : World} {cs ds : Array Value} {T D : Nat} (hb : Below B w0 w) (hB : B ≤ w.heap.size) (g2 : ((w.alloc (.cells z5 T)).alloc (.cells d2z D)).grownBy w2 (some w.heap.size)) (k2 : Blk w2 w.heap.size cs T) (g3 : w2.grownBy w3 (some (w.heap.size + 1))) (k3 : Blk w3 (w.heap.size + 1) ds D) :
    Below B w0 w3 ∧ Below w.heap.size w w3 ∧ Blk w3 w.heap.size cs T ∧ Blk w3 (w.heap.size + 1) ds D := by
  have h2 : Below w.heap.size w w2 := below_new (B2 w _ _) (by simp; omega) g2 (Nat.le_refl _)
  have hz : w.heap.size + 2 ≤ w2.heap.size := by have := g2.size; simp at this; omega
  have h3 : Below w.heap.size w w3 := below_new h2 (by omega) g3 (by omega)
  exact ⟨hb.trans (h3.mono hB), h3, k2.grown g3 (by simp), k3⟩
/-- The example as the law writes it, in memory. -/
def ex8w (w : World) : World := (((((((w.alloc (.cells #[.string tA8, .int .i64 0] 50)).alloc (.cells #[.int .i64 1, .int .i64 4] 3)).alloc (.cells #[.int .i64 2] 3)).alloc (.cells #[.int .i64 3] 3)).alloc (.cells #[.int .i64 5, .int .i64 6] 3)).alloc (.cells (exC8 (w.heap.size + 1) (w.heap.size + 1 + 1) (w.heap.size + 1 + 1 + 1) (w.heap.size + 1 + 1 + 1 + 1)) 48)).alloc (.cells #[.slice (some ⟨w.heap.size, 0, none⟩) 1 1, .slice (some ⟨w.heap.size + 1 + 1 + 1 + 1 + 1, 0, none⟩) 7 7] 25))
abbrev ex8g (w : World) : Gr := exG8 (some ⟨w.heap.size, 0, none⟩) (some ⟨w.heap.size + 1 + 1 + 1 + 1 + 1, 0, none⟩) (some ⟨w.heap.size + 1, 0, none⟩) (some ⟨w.heap.size + 1 + 1, 0, none⟩) (some ⟨w.heap.size + 1 + 1 + 1, 0, none⟩) (some ⟨w.heap.size + 1 + 1 + 1 + 1, 0, none⟩)
theorem ex8w_is (w : World) : Below w.heap.size w (ex8w w) ∧ Gr.At (ex8w w) (ex8g w) ∧ Blk (ex8w w) (w.heap.size + 1 + 1 + 1 + 1 + 1 + 1) #[.slice (some ⟨w.heap.size, 0, none⟩) 1 1, .slice (some ⟨w.heap.size + 1 + 1 + 1 + 1 + 1, 0, none⟩) 7 7] 25 := by
  refine ⟨?_, ex8_at ?_ ?_ ?_ ?_ ?_ ?_, Blk.newn (by simp)⟩
  · exact (((((B2 w _ _).alloc (by simp; omega) _).alloc (by simp; omega) _).alloc (by simp; omega) _).alloc (by simp; omega) _).alloc (by simp; omega) _
  · exact ((((((Blk.new w _ _).alloc _).alloc _).alloc _).alloc _).alloc _).alloc _
  · exact (((((Blk.newn (by simp)).alloc _).alloc _).alloc _).alloc _).alloc _
  · exact ((((Blk.newn (by simp)).alloc _).alloc _).alloc _).alloc _
  · exact (((Blk.newn (by simp)).alloc _).alloc _).alloc _
  · exact ((Blk.newn (by simp)).alloc _).alloc _
  · exact (Blk.newn (by simp)).alloc _
end Go.Proofs.YtfghfnpiaccfaaaGreatDoor

/- The order of the parts, plainly: how often each one leads to others that are not put yet. Nothing here speaks of a program. -/
import Derived.Test.YtlbjmkljmhfjdaaGreatC1
import Derived.Test.YtlbjmkljmhfjdaaGreatA7
import Derived.OrdersIn
import Derived.Test.YtlbjmkljmhfjdaaGreatB9
import Derived.Test.YtlbjmkljmhfjdaaGreatB2
import Derived.Shelf.Pu.Clone
import Derived.Deep.MidRow
import Derived.Laws.AppendOwn
import Derived.Maps.AppendAt
import Derived.Test.YtlbjmkljmhfjdaaGreatA2
import Derived.Test.YtlbjmkljmhfjdaaGreatA3
set_option linter.unusedSimpArgs false
set_option linter.unusedVariables false
namespace Go.Proofs.YtlbjmkljmhfjdaaGreat
/-- Who leads to whom, one behind the other. -/
def lnk (adj : Nat → List Nat) (n : Nat) : List (Nat × Nat) := (List.range n).flatMap fun a => (adj a).map fun b => (a, b)
/-- The place of a number's part. -/
def ofP (S : List (List Nat)) (a : Nat) : Nat := S.findIdx fun p => p.contains a
theorem mem_lnk {adj : Nat → List Nat} {n a b : Nat} (hi : InR adj n) : (a, b) ∈ lnk adj n ↔ b ∈ adj a := by
  simp only [lnk, List.mem_flatMap, List.mem_range, List.mem_map, Prod.mk.injEq]
  constructor
  · rintro ⟨x, _, y, h, rfl, rfl⟩; exact h
  · intro h; exact ⟨a, (hi a b h).1, b, h, rfl, rfl⟩
theorem lnk_lt {adj : Nat → List Nat} {n : Nat} (hi : InR adj n) {e : Nat × Nat} (h : e ∈ lnk adj n) : e.1 < n ∧ e.2 < n := hi _ _ ((mem_lnk hi (a := e.1) (b := e.2)).1 h)
theorem ofP_lt {adj : Nat → List Nat} {n a : Nat} {r : Nat → Nat → Bool} (hr : IsR adj n r) (ha : a < n) : ofP (sccs r n) a < (sccs r n).length :=
  List.findIdx_lt_length_of_exists ⟨scc r n a, (mem_sccs hr _).2 ⟨a, ha, rfl⟩, by simpa using scc_self hr ha⟩
theorem ofP_mem {adj : Nat → List Nat} {n a : Nat} {r : Nat → Nat → Bool} (hr : IsR adj n r) (ha : a < n) : (sccs r n).getD (ofP (sccs r n) a) [] = scc r n a := by
  have h := ofP_lt hr ha
  have h2 : ((sccs r n)[ofP (sccs r n) a]).contains a = true := List.findIdx_getElem (p := fun p : List Nat => p.contains a) (w := h)
  have h3 : (sccs r n)[ofP (sccs r n) a] ∈ sccs r n := List.getElem_mem h
  obtain ⟨b, hb, e⟩ := (mem_sccs hr _).1 h3
  simp only [List.getD, List.getElem?_eq_getElem h, Option.getD_some]
  rw [e] at h2 ⊢
  exact scc_congr hr hb ha ((mem_scc hr hb).1 (by simpa using h2)).2
/-- The place of a part is that of each of its numbers. -/
theorem ofP_at {adj : Nat → List Nat} {n a p : Nat} {r : Nat → Nat → Bool} (hr : IsR adj n r) (hp : p < (sccs r n).length) (ha : a ∈ (sccs r n).getD p []) : a < n ∧ ofP (sccs r n) a = p := by
  have hR := sccs_rise hr
  have e : (sccs r n).getD p [] = (sccs r n)[p] := by simp [List.getD, List.getElem?_eq_getElem hp]
  rw [e] at ha
  obtain ⟨b, hb, e2⟩ := (mem_sccs hr _).1 (List.getElem_mem hp)
  rw [e2] at ha
  obtain ⟨h1, h2⟩ := (mem_scc hr hb).1 ha
  refine ⟨h1, ?_⟩
  have h3 := ofP_lt hr h1
  have h4 := ofP_mem hr h1
  simp only [List.getD, List.getElem?_eq_getElem h3, Option.getD_some] at h4
  rw [← scc_congr hr hb h1 h2, ← e2] at h4
  rcases Nat.lt_trichotomy (ofP (sccs r n) a) p with h | h | h
  · have := List.pairwise_iff_getElem.1 hR _ _ h3 hp h; rw [h4] at this; omega
  · exact h
  · have := List.pairwise_iff_getElem.1 hR _ _ hp h3 h; rw [h4] at this; omega
theorem ofP_eq {adj : Nat → List Nat} {n a b : Nat} {r : Nat → Nat → Bool} (hr : IsR adj n r) (ha : a < n) (hb : b < n) : ofP (sccs r n) a = ofP (sccs r n) b ↔ Tog adj a b := by
  constructor
  · intro h
    have h1 := ofP_mem hr ha
    rw [h, ofP_mem hr hb] at h1
    exact ((scc_same hr hb ha).1 h1).symm
  · intro h
    exact (ofP_at hr (ofP_lt hr hb) (a := a) (by rw [ofP_mem hr hb]; exact (mem_scc hr hb).2 ⟨ha, h.symm⟩)).2
theorem le_of_all {l : List Nat} {k : Nat} (hn : l.Nodup) (h : ∀ q, q < k → q ∈ l) : k ≤ l.length := by
  have hp : (List.range k).Perm (l.filter fun q => decide (q < k)) := (List.perm_ext_iff_of_nodup List.nodup_range (List.Pairwise.filter _ hn)).2 fun q => by
    rw [List.mem_range, List.mem_filter]
    exact ⟨fun hq => ⟨h q hq, by simpa using hq⟩, fun hq => by simpa using hq.2⟩
  have h1 := hp.length_eq
  have h2 := List.length_filter_le (fun q => decide (q < k)) l
  rw [List.length_range] at h1
  omega
theorem all_of_le {l : List Nat} {k : Nat} (hn : l.Nodup) (h : ∀ q ∈ l, q < k) (hk : l.length = k) {q : Nat} (hq : q < k) : q ∈ l := by
  have hp : l.Perm ((List.range k).filter fun q => l.contains q) := (List.perm_ext_iff_of_nodup hn (List.Pairwise.filter _ List.nodup_range)).2 fun q => by
    rw [List.mem_filter, List.mem_range, List.contains_iff_mem]
    exact ⟨fun hq => ⟨h q hq, hq⟩, fun hq => hq.2⟩
  have h1 := hp.length_eq
  have h2 : ((List.range k).filter fun q => l.contains q).length = (List.range k).length := by rw [← h1, hk, List.length_range]
  have h3 := List.length_filter_eq_length_iff.1 h2 q (List.mem_range.2 hq)
  simpa using h3
/-- How often a part leads to others that are not put. -/
def wt (of : Nat → Nat) (E : List (Nat × Nat)) (pt : Nat → Bool) (q : Nat) : Nat := E.countP fun e => of e.1 == q && of e.2 != q && !pt (of e.2)
/-- May it be put next? -/
def rdy (of : Nat → Nat) (E : List (Nat × Nat)) (pt : Nat → Bool) (q : Nat) : Bool := E.all fun e => !(of e.1 == q) || of e.2 == q || pt (of e.2)
theorem wt_rdy {of : Nat → Nat} {E : List (Nat × Nat)} {pt : Nat → Bool} {q : Nat} : wt of E pt q = 0 ↔ rdy of E pt q = true := by
  simp only [wt, rdy, List.countP_eq_zero, List.all_eq_true]
  refine forall_congr' fun e => forall_congr' fun _ => ?_
  cases h1 : (of e.1 == q) <;> cases h2 : (of e.2 == q) <;> cases pt (of e.2) <;> simp_all
/-- Counts that are lowered for each thing of a row. -/
def decs (W : Nat → Int) (L : List Nat) : Nat → Int := fun q => W q - L.count q
theorem decs_nil (W : Nat → Int) : decs W [] = W := by funext q; simp [decs]
/-- Of each one in a part, who leads to it: their parts. -/
def rows (radj : Nat → List Nat) (of : Nat → Nat) (P : List Nat) : List Nat := (P.flatMap radj).map of
/-- What is known of the counts while parts are put. -/
def Cnt (of : Nat → Nat) (E : List (Nat × Nat)) (k : Nat) (pt : Nat → Bool) (W : Nat → Int) : Prop := ∀ q, q < k → (pt q = false → W q = wt of E pt q) ∧ (pt q = true → W q < 0)
theorem pairs_nodup {f : Nat → List Nat} {g : Nat → Nat → Nat × Nat} (hg : ∀ a b a' b', g a b = g a' b' → a = a' ∧ b = b') (hf : ∀ a, (f a).Nodup) : ∀ {l : List Nat}, l.Nodup → (l.flatMap fun a => (f a).map (g a)).Nodup
  | [], _ => by simp
  | a :: l, h => by
    obtain ⟨h1, h2⟩ := List.nodup_cons.1 h
    rw [List.flatMap_cons]
    refine List.nodup_append.2 ⟨?_, pairs_nodup hg hf h2, fun x hx y hy e => ?_⟩
    · have := hf a
      unfold List.Nodup at this ⊢
      rw [List.pairwise_map]
      exact this.imp fun hne e => hne (hg _ _ _ _ e).2
    · subst e
      obtain ⟨b, _, rfl⟩ := List.mem_map.1 hx
      obtain ⟨a', ha', h3⟩ := List.mem_flatMap.1 hy
      obtain ⟨b', _, e⟩ := List.mem_map.1 h3
      obtain ⟨rfl, _⟩ := hg _ _ _ _ e
      exact h1 ha'
/-- Who leads to those of a part: of each part as often as it leads there. -/
theorem rows_count {adj radj : Nat → List Nat} {n p q : Nat} {r : Nat → Nat → Bool} (hi : InR adj n) (hr : IsR adj n r) (ht : c_Trn adj radj) (hn : ∀ a, (adj a).Nodup) (hn' : ∀ a, (radj a).Nodup) (hp : p < (sccs r n).length) :
    (rows radj (ofP (sccs r n)) ((sccs r n).getD p [])).count q = (lnk adj n).countP fun e => ofP (sccs r n) e.1 == q && ofP (sccs r n) e.2 == p := by
  obtain ⟨S, eS⟩ : ∃ S, S = sccs r n := ⟨_, rfl⟩
  have hat := fun a ha => ofP_at (a := a) hr hp ha
  have hmem : ∀ a, a < n → ofP (sccs r n) a = p → a ∈ (sccs r n).getD p [] := fun a ha e => by rw [← e, ofP_mem hr ha]; exact scc_self hr ha
  have hnp : ((sccs r n).getD p []).Nodup := by
    simp only [List.getD, List.getElem?_eq_getElem hp, Option.getD_some]
    obtain ⟨b, _, e2⟩ := (mem_sccs hr _).1 (List.getElem_mem hp)
    rw [e2]; exact (scc_rises _ _ _).imp (fun h => Nat.ne_of_lt h)
  rw [← eS] at hat hmem hnp ⊢
  generalize S.getD p [] = P at hat hmem hnp
  have e1 : (rows radj (ofP S) P).count q = (P.flatMap fun b => (radj b).map fun a => (a, b)).countP fun e => ofP S e.1 == q := by
    unfold rows
    rw [List.count_eq_countP, List.countP_map, List.countP_flatMap, List.countP_flatMap]
    congr 1
    refine List.map_congr_left fun b _ => ?_
    simp only [Function.comp_def, List.countP_map]
  rw [e1]
  have e2 : (lnk adj n).countP (fun e => ofP S e.1 == q && ofP S e.2 == p) = ((lnk adj n).filter fun e => ofP S e.2 == p).countP fun e => ofP S e.1 == q := by
    rw [List.countP_filter]
  rw [e2]
  refine List.Perm.countP_eq _ ((List.perm_ext_iff_of_nodup (pairs_nodup (g := fun b a => (a, b)) (fun a b a' b' e => by simp at e; exact ⟨e.2, e.1⟩) hn' hnp) (List.Pairwise.filter _ (pairs_nodup (g := fun a b => (a, b)) (fun a b a' b' e => by simp at e; exact e) hn List.nodup_range))).2 fun e => ?_)
  obtain ⟨a, b⟩ := e
  have hl := mem_lnk (n := n) (a := a) (b := b) hi
  rw [List.mem_filter]
  show _ ↔ (a, b) ∈ lnk adj n ∧ _
  rw [hl, ht a b]
  simp only [List.mem_flatMap, List.mem_map, Prod.mk.injEq]
  constructor
  · rintro ⟨b', hb, a', ha, rfl, rfl⟩
    exact ⟨ha, by simpa using (hat _ hb).2⟩
  · rintro ⟨h1, h2⟩
    exact ⟨b, hmem b (hi a b ((ht a b).2 h1)).2 (by simpa using h2), a, h1, rfl, rfl⟩
theorem Cnt.step {adj radj : Nat → List Nat} {n p : Nat} {r : Nat → Nat → Bool} (hi : InR adj n) (hr : IsR adj n r) (ht : c_Trn adj radj) (hn : ∀ a, (adj a).Nodup) (hn' : ∀ a, (radj a).Nodup) (hp : p < (sccs r n).length)
    {pt : Nat → Bool} {W : Nat → Int} (h : Cnt (ofP (sccs r n)) (lnk adj n) (sccs r n).length pt W) (hw : W p = 0) :
    Cnt (ofP (sccs r n)) (lnk adj n) (sccs r n).length (mset pt p) (decs (fun q => if q = p then -1 else W q) (rows radj (ofP (sccs r n)) ((sccs r n).getD p []))) := by
  have hpt : pt p = false := by
    cases e : pt p with
    | false => rfl
    | true => have := (h p hp).2 e; omega
  intro q hq
  obtain ⟨h1, h2⟩ := h q hq
  unfold decs
  by_cases e : q = p
  · subst e
    refine ⟨fun h => (by rw [mset_iff.2 (.inl rfl)] at h; cases h), fun _ => ?_⟩
    show (if q = q then (-1 : Int) else W q) - _ < 0
    rw [if_pos rfl]
    omega
  · show (mset pt p q = false → (if q = p then (-1 : Int) else W q) - _ = _) ∧ (mset pt p q = true → (if q = p then (-1 : Int) else W q) - _ < 0)
    rw [if_neg e]
    refine ⟨fun h3 => ?_, fun h3 => ?_⟩
    · have h4 : pt q = false := (mset_false.1 h3).2
      rw [h1 h4, rows_count hi hr ht hn hn' hp]
      have hsum : wt (ofP (sccs r n)) (lnk adj n) pt q = wt (ofP (sccs r n)) (lnk adj n) (mset pt p) q + (lnk adj n).countP fun e => ofP (sccs r n) e.1 == q && ofP (sccs r n) e.2 == p := by
        unfold wt
        generalize lnk adj n = E
        induction E with
        | nil => rfl
        | cons x E ih =>
          simp only [List.countP_cons, ih]
          have : (if (ofP (sccs r n) x.1 == q && ofP (sccs r n) x.2 != q && !pt (ofP (sccs r n) x.2)) = true then 1 else 0) = (if (ofP (sccs r n) x.1 == q && ofP (sccs r n) x.2 != q && !mset pt p (ofP (sccs r n) x.2)) = true then 1 else 0) + if (ofP (sccs r n) x.1 == q && ofP (sccs r n) x.2 == p) = true then 1 else 0 := by
            by_cases h5 : ofP (sccs r n) x.1 = q
            · by_cases h6 : ofP (sccs r n) x.2 = p
              · have h7 : p ≠ q := fun e2 => e e2.symm
                simp [h5, h6, hpt, mset, h7]
              · simp [h5, h6, mset]
            · simp [h5]
          omega
      omega
    · have h4 : pt q = true := (mset_iff.1 h3).resolve_left e
      have := h2 h4
      omega
/-- As long as one is not put, one may be put. -/
theorem rdy_some {adj : Nat → List Nat} {n : Nat} {r : Nat → Nat → Bool} (hi : InR adj n) (hr : IsR adj n r) {pt : Nat → Bool} {q : Nat} (hq : q < (sccs r n).length) (hn : pt q = false) :
    ∃ p, p < (sccs r n).length ∧ pt p = false ∧ rdy (ofP (sccs r n)) (lnk adj n) pt p = true := by
  have hofe := fun a b ha hb => ofP_eq (a := a) (b := b) hr ha hb
  -- how many one leads on to
  let rc : Nat → Nat := fun a => ((List.range n).filter (r a)).length
  have step : ∀ d a, rc a ≤ d → a < n → pt (ofP (sccs r n) a) = false → ∃ b, b < n ∧ pt (ofP (sccs r n) b) = false ∧ ∀ c, c < n → Reach adj b c → pt (ofP (sccs r n) c) = false → Reach adj c b := by
    intro d
    induction d with
    | zero =>
      intro a hd ha
      exfalso
      have : a ∈ (List.range n).filter (r a) := List.mem_filter.2 ⟨List.mem_range.2 ha, (hr a a ha ha).2 (.refl _ _)⟩
      have := List.length_pos_of_mem this
      simp only [rc] at hd
      omega
    | succ d ih =>
      intro a hd ha hpa
      by_cases hall : ∀ c, c < n → Reach adj a c → pt (ofP (sccs r n) c) = false → Reach adj c a
      · exact ⟨a, ha, hpa, hall⟩
      · simp only [Classical.not_forall] at hall
        obtain ⟨c, hc, h1, h2, h3⟩ := hall
        refine ih c ?_ hc h2
        have sub : (List.range n).filter (r c) = (((List.range n).filter (r a)).filter (r c)) := by
          rw [List.filter_filter]
          refine List.filter_congr fun x hx => ?_
          have hx' := List.mem_range.1 hx
          cases e : r c x with
          | false => simp
          | true => simp [(hr a x ha hx').2 (h1.trans ((hr c x hc hx').1 e))]
        have lt : (((List.range n).filter (r a)).filter (r c)).length < ((List.range n).filter (r a)).length :=
          List.length_filter_lt_length_iff_exists.2 ⟨a, List.mem_filter.2 ⟨List.mem_range.2 ha, (hr a a ha ha).2 (.refl _ _)⟩, fun e => h3 ((hr c a hc ha).1 e)⟩
        rw [← sub] at lt
        show rc c ≤ d
        have hd2 : rc a ≤ d + 1 := hd
        simp only [rc] at hd2 ⊢
        omega
  obtain ⟨a0, ha0, e0⟩ : ∃ a, a < n ∧ ofP (sccs r n) a = q := by
    obtain ⟨b, hb, e⟩ := (mem_sccs hr _).1 (List.getElem_mem hq)
    refine ⟨b, hb, (ofP_at hr hq (a := b) ?_).2⟩
    simp only [List.getD, List.getElem?_eq_getElem hq, Option.getD_some]
    rw [e]; exact scc_self hr hb
  obtain ⟨b, hb, h1, h2⟩ := step (rc a0) a0 (Nat.le_refl _) ha0 (by rw [e0]; exact hn)
  refine ⟨ofP (sccs r n) b, ofP_lt hr hb, h1, ?_⟩
  simp only [rdy, List.all_eq_true]
  rintro ⟨x, y⟩ he
  have hxy := (mem_lnk hi).1 he
  obtain ⟨hx, hy⟩ := hi _ _ hxy
  by_cases h3 : ofP (sccs r n) x = ofP (sccs r n) b
  · cases h4 : pt (ofP (sccs r n) y) with
    | true => simp
    | false =>
      have h5 := (hofe x b hx hb).1 h3
      have h6 : Reach adj b y := h5.2.trans (.step rfl hxy (.one rfl))
      have h7 := h2 y hy h6 h4
      have := (hofe y b hy hb).2 ⟨h7, h6⟩
      simp [this]
  · simp [h3]
/-- The next one. -/
def nxt (rd : (Nat → Bool) → Nat → Bool) (k : Nat) (pt : Nat → Bool) : Nat := ((List.range k).find? fun q => !pt q && rd pt q).getD 0
/-- So many, one behind the other. -/
def ordL (rd : (Nat → Bool) → Nat → Bool) (k : Nat) : Nat → List Nat
  | 0 => []
  | t + 1 => ordL rd k t ++ [nxt rd k fun q => (ordL rd k t).contains q]
def ptO (rd : (Nat → Bool) → Nat → Bool) (k t : Nat) : Nat → Bool := fun q => (ordL rd k t).contains q
theorem ptO_next (rd : (Nat → Bool) → Nat → Bool) (k t : Nat) : ptO rd k (t + 1) = mset (ptO rd k t) (nxt rd k (ptO rd k t)) := by
  funext q
  rw [Bool.eq_iff_iff, mset_iff]
  show (ordL rd k t ++ [nxt rd k (ptO rd k t)]).contains q = true ↔ q = _ ∨ (ordL rd k t).contains q = true
  simp only [List.contains_iff_mem, List.mem_append, List.mem_singleton]
  exact Or.comm
theorem nxt_some {rd : (Nat → Bool) → Nat → Bool} {k : Nat} {pt : Nat → Bool} {p : Nat} (hp : p < k) (h1 : pt p = false) (h2 : rd pt p = true) :
    nxt rd k pt < k ∧ pt (nxt rd k pt) = false ∧ rd pt (nxt rd k pt) = true ∧ ∀ j, j < nxt rd k pt → (pt j = true ∨ rd pt j = false) := by
  unfold nxt
  cases e : (List.range k).find? fun q => !pt q && rd pt q with
  | none =>
    have := List.find?_eq_none.1 e p (List.mem_range.2 hp)
    simp [h1, h2] at this
  | some x =>
    obtain ⟨a1, a2, a3⟩ := List.find?_range_eq_some.1 e
    simp only [Bool.and_eq_true, Bool.not_eq_true'] at a1
    refine ⟨List.mem_range.1 a2, a1.1, a1.2, fun j hj => ?_⟩
    have := a3 j hj
    cases h : pt j <;> cases h' : rd pt j <;> simp_all
/-- There is always one to be put. -/
def Goes (rd : (Nat → Bool) → Nat → Bool) (k : Nat) : Prop := ∀ (pt : Nat → Bool) q, q < k → pt q = false → ∃ p, p < k ∧ pt p = false ∧ rd pt p = true
theorem ordL_length (rd : (Nat → Bool) → Nat → Bool) (k t : Nat) : (ordL rd k t).length = t := by
  induction t with
  | zero => rfl
  | succ t ih => simp [ordL, ih]
theorem ordL_facts {rd : (Nat → Bool) → Nat → Bool} {k : Nat} (hg : Goes rd k) : ∀ t, t ≤ k → (ordL rd k t).Nodup ∧ ∀ q ∈ ordL rd k t, q < k
  | 0, _ => ⟨List.nodup_nil, by simp [ordL]⟩
  | t + 1, ht => by
    obtain ⟨h1, h2⟩ := ordL_facts hg t (by omega)
    have hex : ∃ q, q < k ∧ (ptO rd k t) q = false := by
      refine Classical.byContradiction fun hno => ?_
      have hall : ∀ q, q < k → q ∈ ordL rd k t := fun q hq => by
        cases e : ptO rd k t q with
        | true => simpa [ptO] using e
        | false => exact absurd ⟨q, hq, e⟩ hno
      have := le_of_all h1 hall
      rw [ordL_length] at this
      omega
    obtain ⟨q, hq, hq2⟩ := hex
    obtain ⟨p, hp, p1, p2⟩ := hg _ q hq hq2
    obtain ⟨a1, a2, _, _⟩ := nxt_some hp p1 p2
    have a3 : nxt rd k (ptO rd k t) ∉ ordL rd k t := fun h => by
      have : ptO rd k t (nxt rd k (ptO rd k t)) = true := by simpa [ptO] using h
      rw [a2] at this; cases this
    refine ⟨List.nodup_append.2 ⟨h1, by simp, fun x hx y hy e => ?_⟩, fun x hx => ?_⟩
    · subst e
      have : x = nxt rd k (ptO rd k t) := List.mem_singleton.1 hy
      exact a3 (this ▸ hx)
    · rcases List.mem_append.1 hx with h | h
      · exact h2 x h
      · have : x = nxt rd k (ptO rd k t) := List.mem_singleton.1 h
        rw [this]; exact a1
theorem ordL_more {rd : (Nat → Bool) → Nat → Bool} {k : Nat} (hg : Goes rd k) {t : Nat} (ht : t < k) : ∃ q, q < k ∧ ptO rd k t q = false := by
  refine Classical.byContradiction fun hno => ?_
  have hall : ∀ q, q < k → q ∈ ordL rd k t := fun q hq => by
    cases e : ptO rd k t q with
    | true => simpa [ptO] using e
    | false => exact absurd ⟨q, hq, e⟩ hno
  have := le_of_all (ordL_facts hg t (by omega)).1 hall
  rw [ordL_length] at this
  omega
theorem ordL_next {rd : (Nat → Bool) → Nat → Bool} {k : Nat} (hg : Goes rd k) {t : Nat} (ht : t < k) :
    nxt rd k (ptO rd k t) < k ∧ ptO rd k t (nxt rd k (ptO rd k t)) = false ∧ rd (ptO rd k t) (nxt rd k (ptO rd k t)) = true ∧ ∀ j, j < nxt rd k (ptO rd k t) → (ptO rd k t j = true ∨ rd (ptO rd k t) j = false) := by
  obtain ⟨q, hq, hq2⟩ := ordL_more hg ht
  obtain ⟨p, hp, p1, p2⟩ := hg _ q hq hq2
  exact nxt_some hp p1 p2
theorem ordL_all {rd : (Nat → Bool) → Nat → Bool} {k : Nat} (hg : Goes rd k) {q : Nat} (hq : q < k) : q ∈ ordL rd k k := by
  obtain ⟨h1, h2⟩ := ordL_facts hg k (Nat.le_refl _)
  exact all_of_le h1 h2 (ordL_length _ _ _) hq
theorem ordL_take {rd : (Nat → Bool) → Nat → Bool} {k : Nat} : ∀ {t s : Nat}, s ≤ t → (ordL rd k t).take s = ordL rd k s
  | 0, s, h => by obtain rfl : s = 0 := by omega
                  rfl
  | t + 1, s, h => by
    by_cases e : s = t + 1
    · subst e
      rw [List.take_of_length_le (by rw [ordL_length]; exact Nat.le_refl _)]
    · show (ordL rd k t ++ [_]).take s = _
      rw [List.take_append_of_le_length (by rw [ordL_length]; omega)]
      exact ordL_take (by omega)
theorem ordL_at {rd : (Nat → Bool) → Nat → Bool} {k t s : Nat} (h : s < t) : (ordL rd k t).getD s 0 = nxt rd k (ptO rd k s) := by
  have h1 : (ordL rd k t).take (s + 1) = ordL rd k (s + 1) := ordL_take h
  have h2 : ((ordL rd k t).take (s + 1)).getD s 0 = (ordL rd k t).getD s 0 := by simp [List.getD]
  rw [← h2, h1]
  show (ordL rd k s ++ [nxt rd k (ptO rd k s)]).getD s 0 = _
  have h3 := ordL_length rd k s
  simp only [List.getD]
  rw [List.getElem?_append_right (by omega), h3]
  simp
/-- The parts in their order. -/
def partsOf (adj : Nat → List Nat) (r : Nat → Nat → Bool) (n : Nat) : List (List Nat) :=
  (ordL (rdy (ofP (sccs r n)) (lnk adj n)) (sccs r n).length (sccs r n).length).map fun p => (sccs r n).getD p []
theorem goes_of {adj : Nat → List Nat} {n : Nat} {r : Nat → Nat → Bool} (hi : InR adj n) (hr : IsR adj n r) : Goes (rdy (ofP (sccs r n)) (lnk adj n)) (sccs r n).length :=
  fun _ _ hq hn => rdy_some hi hr hq hn
end Go.Proofs.YtlbjmkljmhfjdaaGreat
namespace Go.Proofs.YtlbjmkljmhfjdaaGreat
open Go Go.RowKit
section
variable {P : Program} {ops : Array Oper} {Q : Exit → Act → World → Prop} {md : Region.Mode} {n : Nat}
theorem wpOpIn_round {l i : Nat} (hd : ∀ o, ops[i]? = some o → ∀ c, o.op ≠ .defer c) {K K' : Act → World → Prop} (hK : ∀ a w, K a w → K' a w) {a : Act} {w : World}
    (h : wpOpIn Fence.wide n P ops Q i K a w) : wpOpIn (Fence.wide.inRound l) n P ops Q i K' a w := by
  refine wpOpIn_mono hK ?_
  unfold wpOpIn at *
  cases hi : ops[i]? with
  | none => simp only [hi] at h; exact h
  | some o =>
    simp only [hi] at h
    dsimp only
    by_cases hw : Region.wanted o (yielded ops a.tmps) = true
    · rw [if_pos hw] at h ⊢
      unfold Oper.wpIn at *
      refine ⟨h.1, ?_⟩
      have h2 := h.2
      rw [show (Fence.wide.inRound l).round = some l from rfl, Oper.semAt_some l _ _ (hd o hi)]
      rw [show Fence.wide.round = none from rfl, Oper.semAt_none] at h2
      generalize (execOp a.eval o).run P w = r at h2 ⊢
      cases r with
      | ok x w' => cases x <;> exact h2
      | halt x w' => cases x <;> exact h2
    · rw [if_neg hw] at h ⊢
      exact h
theorem wpAnyIn_round {l : Nat} (hd : ∀ (i : Nat) (o : Oper), ops[i]? = some o → ∀ c, o.op ≠ .defer c) : ∀ (fuel : Nat) (listed : Array Bool) (a : Act) (w : World),
    wpAnyIn Fence.wide n P md ops Q fuel listed a w → wpAnyIn (Fence.wide.inRound l) n P md ops Q fuel listed a w
  | 0, _, _, _, h => h
  | fuel + 1, listed, a, w, h => ⟨h.1, fun i hi => wpOpIn_round (fun o => hd i o) (fun a w => wpAnyIn_round hd fuel _ a w) (h.2 i hi)⟩
def defers (ops : Array Oper) : Bool := ops.any fun o => match o.op with | .defer _ => true | _ => false
theorem wpIn_region_round {l id : Nat} {a : Act} {w : World} (hm : P.follows .mixedOrders = true) (hd : defers ops = false)
    (h : wpAnyIn Fence.wide n P .any ops Q ops.size (Array.replicate ops.size false) a w.drew) : (Code.region id ops true).wpIn (Fence.wide.inRound l) n P Q a w := by
  refine wpIn_region_any hm (wpAnyIn_round (fun i o ho c hc => ?_) _ _ _ _ h)
  have hm : o ∈ ops := Array.mem_of_getElem? ho
  unfold defers at hd
  rw [Array.any_eq_false] at hd
  obtain ⟨j, hj, e⟩ := Array.mem_iff_getElem.1 hm
  have := hd j hj
  rw [e, hc] at this
  exact this rfl
end
end Go.Proofs.YtlbjmkljmhfjdaaGreat
namespace Go.Proofs.YtlbjmkljmhfjdaaGreat
open Go Go.RowKit
section
variable {P : Program} {ops : Array Oper} {Q : Exit → Act → World → Prop} {n : Nat}
theorem opIn_gives {post : Value → World → Prop} {K : Act → World → Prop} {a : Act} {w : World} {i : Nat} {o : Oper} (ho : ops[i]? = some o) (hg : o.guard = none)
    (h : Gives P post ((execOp a.eval o).run P w)) (hK : ∀ v w', post v w' → K (a.put o.dst v) w') : wpOpIn Fence.wide n P ops Q i K a w := by
  unfold wpOpIn
  simp only [ho]
  have hw : Region.wanted o (yielded ops a.tmps) = true := by simp [Region.wanted, hg]
  rw [if_pos hw]
  refine ⟨fun _ _ => trivial, ?_⟩
  rw [show Fence.wide.round = none from rfl, Oper.semAt_none]
  generalize (execOp a.eval o).run P w = r at h
  cases r with
  | ok x w' =>
    cases x with
    | value v => exact hK _ _ h
    | skip => exact hK _ _ h
    | enter f args =>
      refine ⟨fun h => by simp [Fence.wide] at h, callsIn_wide.2 (Calls.mono h ?_)⟩
      rintro e w'' ⟨v, rfl, hp⟩
      exact hK _ _ hp
    | _ => exact h.elim
  | halt x w' => exact h.elim
theorem Gives.skip {post : Value → World → Prop} {r : Result Next} {w : World} (h : r = .ok .skip w) (hp : post undef w) : Gives P post r := by subst h; exact hp
/-- Does one wait for another one? -/
def waitsB (ops : Array Oper) (j i : Nat) : Bool := match ops[j]? with
  | some o => o.after.any fun e => Region.binds .any e && e.on == i
  | none => false
theorem waits_iff {j i : Nat} {o : Oper} (ho : ops[j]? = some o) : waitsB ops j i = true ↔ ∃ e ∈ o.after, Region.binds .any e = true ∧ e.on = i := by
  unfold waitsB
  rw [ho]
  simp only [Array.any_eq_true']
  constructor
  · rintro ⟨e, he, h⟩
    simp only [Bool.and_eq_true, beq_iff_eq] at h
    exact ⟨e, he, h⟩
  · rintro ⟨e, he, h⟩
    exact ⟨e, he, by simpa using h⟩
/-- .. over others, too. -/
def waitsT (ops : Array Oper) : Nat → Nat → Nat → Bool
  | 0, j, i => waitsB ops j i
  | f + 1, j, i => waitsB ops j i || (List.range ops.size).any fun k => waitsB ops j k && waitsT ops f k i
theorem waitsT_listed {listed : Array Bool} (hcl : ∀ i j, i < ops.size → listed.getD i true = true → waitsB ops i j = true → listed.getD j true = true) : ∀ (f i j : Nat), i < ops.size → listed.getD i true = true → waitsT ops f i j = true → listed.getD j true = true
  | 0, i, j, hi, hl, h => hcl i j hi hl h
  | f + 1, i, j, hi, hl, h => by
    unfold waitsT at h
    simp only [Bool.or_eq_true, List.any_eq_true, List.mem_range, Bool.and_eq_true] at h
    rcases h with h | ⟨k, hk, h1, h2⟩
    · exact hcl i j hi hl h
    · exact waitsT_listed hcl f k j hk (hcl i k hi hl h1) h2
/-- The world of a phase: those of the writers that are ahead have come up. -/
def Phase (m : Nat) (Ws : Nat → World) (wr : Nat → Nat) (listed : Array Bool) (w : World) : Prop := ∃ p, p ≤ m ∧ w = Ws p ∧ ∀ q, q < m → (listed.getD (wr q) true = true ↔ q < p)
/-- What a program tells of a region: temporaries, guards. -/
def checkB (ops : Array Oper) (N : Nat) : Bool := ops.all fun o => o.guard.isNone && match o.dst with | some d => decide (d < N) | none => true
/-- .. of the writers' chain. -/
def chainB (ops : Array Oper) (m : Nat) (wr : Nat → Nat) : Bool :=
  ((List.range m).all fun q => decide (wr q < ops.size)) && ((List.range m).all fun q => (List.range m).all fun q' => !(wr q == wr q') || q == q') && ((List.range m).all fun q => decide (m ≤ q + 1) || waitsB ops (wr (q + 1)) (wr q))
def isW (m : Nat) (wr : Nat → Nat) (j : Nat) : Bool := (List.range m).any fun q => wr q == j
theorem isW_iff (m : Nat) (wr : Nat → Nat) (j : Nat) : isW m wr j = true ↔ ∃ q, q < m ∧ wr q = j := by
  simp [isW, List.any_eq_true]
theorem wpAnyIn_phases {a0 : Act} {w0 : World} (hs : shapeB ops = true) (hcb : checkB ops a0.tmps.size = true) (m : Nat) (Ws : Nat → World) (wr : Nat → Nat) (val : Nat → Value)
    (h0 : Ws 0 = { w0 with drawn := w0.drawn + 1 }) (hwb : chainB ops m wr = true)
    (hop : ∀ (j : Nat) (o : Oper), ops[j]? = some o → ∀ (p : Nat) (a : Act), p ≤ m → (∀ q, q < m → wr q = j → p = q) → (∀ q, q < m → waitsB ops j (wr q) = true → q < p) → (∀ q, q < m → waitsT ops 8 (wr q) j = true → p ≤ q) →
      (∀ t, writesB ops t = false → a.tmps.getD t undef = a0.tmps.getD t undef) →
      (∀ (i : Nat) (p : Oper) (d : Tmp), ops[i]? = some p → p.dst = some d → waitsB ops j i = true → a.tmps.getD d undef = val i) →
      Gives P (fun v w' => v = val j ∧ w' = Ws (bif isW m wr j then p + 1 else p)) ((execOp a.eval o).run P (Ws p)))
    (hend : ∀ (a : Act), a.tmps.size = a0.tmps.size → a.defers = a0.defers → (∀ (i : Nat) (o : Oper) (d : Tmp), ops[i]? = some o → o.dst = some d → a.tmps.getD d undef = val i) →
      (∀ t, writesB ops t = false → a.tmps[t]? = a0.tmps[t]?) → Q .normal a (Ws m)) :
    wpAnyIn Fence.wide n P .any ops Q ops.size (Array.replicate ops.size false) a0 { w0 with drawn := w0.drawn + 1 } := by
  classical
  have hin : ∀ (i : Nat) (o : Oper) (d : Tmp), ops[i]? = some o → o.dst = some d → d < a0.tmps.size := fun i o d hi hd => by
    have := (Array.all_eq_true'.1 hcb) o (Array.mem_of_getElem? hi)
    simp only [hd, Bool.and_eq_true, decide_eq_true_eq] at this
    exact this.2
  have hng : ∀ (j : Nat) (o : Oper), ops[j]? = some o → o.guard = none := fun j o hj => by
    have := (Array.all_eq_true'.1 hcb) o (Array.mem_of_getElem? hj)
    simp only [Bool.and_eq_true, Option.isNone_iff_eq_none] at this
    exact this.1
  simp only [chainB, Bool.and_eq_true, List.all_eq_true, List.mem_range, decide_eq_true_eq, Bool.or_eq_true, Bool.not_eq_true', beq_iff_eq, beq_eq_false_iff_ne] at hwb
  obtain ⟨⟨hwr, hinj0⟩, hch0⟩ := hwb
  have hinj : ∀ q q', q < m → q' < m → wr q = wr q' → q = q' := fun q q' h h' e => (hinj0 q h q' h').resolve_left (fun hne => hne e)
  have hch : ∀ q, q + 1 < m → waitsB ops (wr (q + 1)) (wr q) = true := fun q h => (hch0 q (by omega)).resolve_left (by omega)
  have fin : ∀ (listed : Array Bool) (a : Act) (w : World), Known ops (fun i v _ => v = val i) (fun _ => True) a0 listed a w → Phase m Ws wr listed w → Region.ready .any ops listed = [] → Q .normal a w := by
    intro listed a w k hp hr
    have hl := all_listed hs k.size hr
    obtain ⟨p, h1, rfl, h2⟩ := hp
    have : p = m := by
      rcases Nat.lt_or_ge p m with h | h
      · have := (h2 p h).1 (hl _ (hwr p h)); omega
      · omega
    subst this
    refine hend a k.tsize k.defers (fun i o d hi hd => k.facts i o d hi hd (hl i (Array.getElem?_eq_some_iff.1 hi).1)) (fun t ht => k.rest t fun i o hi hd => ?_)
    have := Array.any_eq_false.1 ht i (Array.getElem?_eq_some_iff.1 hi).1
    rw [(Array.getElem?_eq_some_iff.1 hi).2, hd] at this
    simp at this
  have key : ∀ (fuel : Nat) (listed : Array Bool) (a : Act) (w : World), left ops listed ≤ fuel → Known ops (fun i v _ => v = val i) (fun _ => True) a0 listed a w → Phase m Ws wr listed w → (∀ i j, i < ops.size → listed.getD i true = true → waitsB ops i j = true → listed.getD j true = true) → wpAnyIn Fence.wide n P .any ops Q fuel listed a w := by
    intro fuel
    induction fuel with
    | zero =>
      intro listed a w hf k hp _
      have hr : Region.ready .any ops listed = [] := by
        cases h : Region.ready .any ops listed with
        | nil => rfl
        | cons i r =>
          obtain ⟨h1, o, h2, _⟩ := mem_ready.1 (show i ∈ Region.ready .any ops listed by rw [h]; simp)
          have := left_set (ops := ops) (listed := listed) (Array.getElem?_eq_some_iff.1 h2).1 h1
          omega
      exact ⟨hr, fin listed a w k hp hr⟩
    | succ fuel ih =>
      intro listed a w hf k hp hcl
      refine ⟨fun hr => fin listed a w k hp hr, fun j hj => ?_⟩
      obtain ⟨hj0, o, ho, hdep⟩ := mem_ready.1 hj
      have hjs : j < ops.size := (Array.getElem?_eq_some_iff.1 ho).1
      obtain ⟨p, hpm, rfl, hq⟩ := hp
      have hf0 : listed.getD j true = false := hj0
      have hjl : j < listed.size := by rw [k.size]; exact hjs
      have waited : ∀ i, waitsB ops j i = true → listed.getD i true = true := fun i hi => by
        obtain ⟨e, he, hb, rfl⟩ := (waits_iff ho).1 hi
        have hlt := (shape_at hs ho).1 e he hb
        have := hdep e he hb
        have hb2 : e.on < listed.size := by omega
        simpa [hb2] using this
      have e1 : ∀ q, q < m → wr q = j → p = q := fun q hqm e => by
        have h1 : ¬ q < p := fun h => by have := (hq q hqm).2 h; rw [e, hf0] at this; cases this
        rcases Nat.lt_or_ge p q with h | h
        · exfalso
          obtain ⟨q', rfl⟩ : ∃ q', q = q' + 1 := ⟨q - 1, by omega⟩
          have := waited _ (by rw [← e]; exact hch q' hqm)
          have := (hq q' (by omega)).1 this
          omega
        · omega
      have e2 : ∀ q, q < m → waitsB ops j (wr q) = true → q < p := fun q hqm h => (hq q hqm).1 (waited _ h)
      have e3 : ∀ q, q < m → waitsT ops 8 (wr q) j = true → p ≤ q := fun q hqm h => by
        rcases Nat.lt_or_ge q p with h1 | h1
        · exfalso
          have h2 := (hq q hqm).2 h1
          have := waitsT_listed hcl 8 _ _ (hwr q hqm) h2 h
          rw [hf0] at this; cases this
        · exact h1
      have hG := hop j o ho p a hpm e1 e2 e3 (fun t ht => ?rest) (fun i o' d hi hd hw => k.facts i o' d hi hd (waited i hw))
      refine opIn_gives ho (hng j o ho) hG ?_
      rintro v w' ⟨rfl, rfl⟩
      refine ih _ _ _ (by have := left_set (ops := ops) hjs hf0; omega) (Known.put (S := fun _ => True) (R := fun _ _ => True) hs (fun _ _ _ _ _ _ _ h => h) hin k ho trivial trivial rfl) ?ph ?cl
      case cl =>
        intro i i' hi hl hw
        by_cases e : i = j
        · subst e
          by_cases e' : i' = i
          · subst e'; simp [hjl]
          · rw [getD_set_ne true (fun h => e' h.symm)]; exact waited i' hw
        · rw [getD_set_ne true (fun h => e h.symm)] at hl
          by_cases e' : i' = j
          · subst e'; simp [hjl]
          · rw [getD_set_ne true (fun h => e' h.symm)]; exact hcl i i' hi hl hw
      case ph =>
        have hb : (bif isW m wr j then p + 1 else p) = if (∃ q, q < m ∧ wr q = j) then p + 1 else p := by
          cases e : isW m wr j with
          | true => rw [if_pos ((isW_iff m wr j).1 e)]; rfl
          | false => rw [if_neg (fun h => by rw [(isW_iff m wr j).2 h] at e; cases e)]; rfl
        rw [hb]
        refine ⟨_, ?_, rfl, ?_⟩
        · split
          · rename_i h
            obtain ⟨q, h1, h2⟩ := h
            have := e1 q h1 h2
            omega
          · exact hpm
        · intro q hqm
          by_cases e : wr q = j
          · have := e1 q hqm e
            subst this
            rw [if_pos ⟨p, hqm, e⟩, e]
            simp [hjl]
          · rw [getD_set_ne true (fun h => e h.symm), hq q hqm]
            split
            · rename_i h
              obtain ⟨q', h1, h2⟩ := h
              have := e1 q' h1 h2
              subst this
              have hne : q ≠ p := fun h => e (by rw [h]; exact h2)
              omega
            · exact Iff.rfl
      case rest =>
        have := k.rest t fun i o hi hd => by
          have := Array.any_eq_false.1 ht i (Array.getElem?_eq_some_iff.1 hi).1
          rw [(Array.getElem?_eq_some_iff.1 hi).2, hd] at this
          simp at this
        simp only [Array.getD_eq_getD_getElem?, this]
  refine key _ _ _ _ ?_ ?_ ?_ ?_
  · unfold left
    refine Nat.le_trans (List.countP_le_length) (by simp)
  · refine ⟨trivial, by simp, rfl, rfl, fun i o d hi _ hl => ?_, fun t _ => rfl⟩
    have := (Array.getElem?_eq_some_iff.1 hi).1
    simp [this] at hl
  · refine ⟨0, Nat.zero_le _, h0.symm, fun q hq => ?_⟩
    have := hwr q hq
    simp [this]
  · intro i j hi hl _
    simp [hi] at hl
/-- What the region's operations yield, put one by one. -/
def c_putOps : List Oper → (Nat → Value) → Act → Act
  | [], _, a => a
  | o :: os, f, a => c_putOps os f (match o.dst with | some d => a.put (some d) (f d) | none => a)
theorem c_putOps_defers : ∀ (l : List Oper) (f : Nat → Value) (a : Act), (c_putOps l f a).defers = a.defers
  | [], _, _ => rfl
  | o :: os, f, a => by
    unfold c_putOps
    rw [c_putOps_defers os f]
    cases o.dst <;> rfl
theorem c_putOps_size : ∀ (l : List Oper) (f : Nat → Value) (a : Act), (c_putOps l f a).tmps.size = a.tmps.size
  | [], _, _ => rfl
  | o :: os, f, a => by
    unfold c_putOps
    rw [c_putOps_size os f]
    cases o.dst <;> simp [Act.put]
theorem c_putOps_at : ∀ (l : List Oper) (f : Nat → Value) (a : Act) (t : Nat), t < a.tmps.size → (c_putOps l f a).tmps[t]? = if (l.any fun o => o.dst == some t) then some (f t) else a.tmps[t]?
  | [], _, _, _, _ => by simp [c_putOps]
  | o :: os, f, a, t, ht => by
    unfold c_putOps
    cases hd : o.dst with
    | none =>
      simp only [List.any_cons, hd]
      rw [c_putOps_at os f a t ht]
      simp
    | some d =>
      simp only [List.any_cons, hd]
      rw [c_putOps_at os f _ t (by simpa [Act.put] using ht)]
      by_cases hdt : d = t
      · subst hdt
        simp [Act.put, ht]
      · simp [Act.put, hdt]
/-- .. each by its number. -/
def putIdx : List Oper → Nat → (Nat → Value) → Act → Act
  | [], _, _, a => a
  | o :: os, i, f, a => putIdx os (i + 1) f (match o.dst with | some d => a.put (some d) (f i) | none => a)
theorem putOps_idx (f : Nat → Value) (val : Nat → Value) : ∀ (l : List Oper) (k : Nat) (a : Act), (∀ (i : Nat) (o : Oper) (d : Tmp), l[i]? = some o → o.dst = some d → f d = val (k + i)) → c_putOps l f a = putIdx l k val a
  | [], _, _, _ => rfl
  | o :: os, k, a, h => by
    unfold c_putOps putIdx
    have h0 := h 0 o
    have e : (match o.dst with | some d => a.put (some d) (f d) | none => a) = match o.dst with | some d => a.put (some d) (val k) | none => a := by
      cases hd : o.dst with
      | none => rfl
      | some d => exact congrArg (fun v => a.put (some d) v) (h0 d rfl hd)
    rw [e]
    exact putOps_idx f val os (k + 1) _ fun i o' d hi hd => by
      have := h (i + 1) o' d (by simpa using hi) hd
      rw [this]; congr 1; omega
theorem wpAnyIn_puts {l : List Oper} {a0 : Act} {w0 : World} (hs : shapeB l.toArray = true) (hcb : checkB l.toArray a0.tmps.size = true) (m : Nat) (Ws : Nat → World) (wr : Nat → Nat) (val : Nat → Value)
    (h0 : Ws 0 = { w0 with drawn := w0.drawn + 1 }) (hwb : chainB l.toArray m wr = true)
    (hop : ∀ (j : Nat) (o : Oper), l[j]? = some o → ∀ (p : Nat) (a : Act), p ≤ m → (∀ q, q < m → wr q = j → p = q) → (∀ q, q < m → waitsB l.toArray j (wr q) = true → q < p) → (∀ q, q < m → waitsT l.toArray 8 (wr q) j = true → p ≤ q) →
      (∀ t, writesB l.toArray t = false → a.tmps[t]?.getD undef = a0.tmps[t]?.getD undef) →
      (∀ (i : Nat) (d : Tmp), (l[i]?.bind fun p => p.dst) = some d → waitsB l.toArray j i = true → a.tmps[d]?.getD undef = val i) →
      Gives P (fun v w' => v = val j ∧ w' = Ws (bif isW m wr j then p + 1 else p)) ((execOp a.eval o).run P (Ws p)))
    (hend : Q .normal (putIdx l 0 val a0) (Ws m)) :
    wpAnyIn Fence.wide n P .any l.toArray Q l.toArray.size (Array.replicate l.toArray.size false) a0 { w0 with drawn := w0.drawn + 1 } := by
  refine wpAnyIn_phases hs hcb m Ws wr val h0 hwb (fun j o hj p a hp e1 e2 e3 hr hd => hop j o (by simpa using hj) p a hp e1 e2 e3 (fun t ht => by have := hr t ht; simpa [Array.getD_eq_getD_getElem?] using this) (fun i d hi hw => by
    cases hl : l[i]? with
    | none => rw [hl] at hi; cases hi
    | some q =>
      rw [hl] at hi
      have := hd i q d (by simpa using hl) (by simpa using hi) hw
      simpa [Array.getD_eq_getD_getElem?] using this)) (fun a hz hdf hf hr => ?_)
  have e : a = c_putOps l (fun t => a.tmps.getD t undef) a0 := by
    cases a with
    | mk tmps defers =>
      have h2 : (c_putOps l (fun t => tmps.getD t undef) a0).defers = defers := (c_putOps_defers _ _ _).trans hdf.symm
      have h1 : (c_putOps l (fun t => tmps.getD t undef) a0).tmps = tmps := by
        apply Array.ext_getElem?
        intro t
        by_cases ht : t < a0.tmps.size
        · rw [c_putOps_at _ _ _ _ ht]
          split
          · dsimp only at hz
            simp [Array.getD_eq_getD_getElem?, hz, ht]
          · rename_i hw
            exact (hr t (by simpa [writesB] using hw)).symm
        · dsimp only at hz
          rw [Array.getElem?_eq_none (by rw [c_putOps_size]; omega), Array.getElem?_eq_none (by omega)]
      cases hp : c_putOps l (fun t => tmps.getD t undef) a0 with
      | mk t2 d2 =>
        rw [hp] at h1 h2
        dsimp only at h1 h2 ⊢
        subst h1 h2
        rfl
  rw [e, putOps_idx _ val l 0 a0 (fun i o d hi hd => by rw [Nat.zero_add]; exact hf i o d (by simpa using hi) hd)]
  exact hend
end
end Go.Proofs.YtlbjmkljmhfjdaaGreat
namespace Go.Proofs.YtlbjmkljmhfjdaaGreat
open Go Go.RowKit
end Go.Proofs.YtlbjmkljmhfjdaaGreat
namespace Go.Proofs.YtlbjmkljmhfjdaaGreat
open Go Go.RowKit
variable {P : Program}
end Go.Proofs.YtlbjmkljmhfjdaaGreat
namespace Go.Proofs.YtlbjmkljmhfjdaaGreat
open Go Go.RowKit
end Go.Proofs.YtlbjmkljmhfjdaaGreat
namespace Go.Proofs.YtlbjmkljmhfjdaaGreat
open Go Go.RowKit
set_option maxHeartbeats 400000 in
theorem pick_any (x n : Int) (hx : -9223372036854775808 ≤ x ∧ x < 9223372036854775808) (hn : 1 ≤ n ∧ n < 9223372036854775808) (w : World) :
    Calls Tryz.prog 11 #[.int .i64 x, .int .i64 n] w fun e w' => e = .returned (.int .i64 (x % n)) ∧ w = w' := by
  have h1 := Int.emod_nonneg x (show n ≠ 0 by omega)
  have h2 := Int.emod_lt_of_pos x (show 0 < n by omega)
  have ht := Int.tmod_eq_emod (a := x) (b := n)
  have hd0 : n ≠ 0 := by omega
  have hd1 : (n == 0) = false := by simpa using hd0
  obtain ⟨y, ey⟩ : ∃ y, y = x.tmod n := ⟨_, rfl⟩
  rw [← ey] at ht
  obtain ⟨z, ez⟩ : ∃ z, z = x % n := ⟨_, rfl⟩
  rw [← ez] at ht h1 h2 ⊢
  have hcase : (0 ≤ y ∧ y = z) ∨ (y < 0 ∧ y + n = z) := by
    split at ht
    · left; omega
    · right; omega
  have hy : x.tmod n = y := ey.symm
  have hn1 : ¬ n < 1 := by omega
  have hwy : IntKind.i64.wrap y = y := IntWalk.i64_in _ (by omega)
  clear ht ez ey hx
  rcases hcase with ⟨h3, rfl⟩ | ⟨h3, h4⟩
  · go_enter Tryz.func11, Tryz.ntmps11
    go_wp2_with fail
    go_ret
    exact ⟨rfl, rfl⟩
  · have hwz : IntKind.i64.wrap (y + n) = z := (IntWalk.i64_in _ (by omega)).trans h4
    clear h4
    go_enter Tryz.func11, Tryz.ntmps11
    go_wp2_with fail
    go_ret
    exact ⟨rfl, rfl⟩
end Go.Proofs.YtlbjmkljmhfjdaaGreat
namespace Go.Proofs.YtlbjmkljmhfjdaaGreat
open Go Go.RowKit
end Go.Proofs.YtlbjmkljmhfjdaaGreat
namespace Go.Proofs.YtlbjmkljmhfjdaaGreat
open Go Go.RowKit
/-- Two grammars are the same, part by part. -/
def sameGr (g h : Gr) : Bool := rowSame Rl.zero sameRl g.rules h.rules && rowSame Nd.zero sameNd g.nodes h.nodes
end Go.Proofs.YtlbjmkljmhfjdaaGreat
namespace Go.Proofs.YtlbjmkljmhfjdaaGreat
open Go Go.RowKit Go.Maps
section
variable {P : Program} (w : World)
theorem run_append_view (base : Nat) (t ty e : TypeId) (i : TypeInfo) (z : Value) (size bytes : Nat) (ht : P.underlying t = some (.slice e)) (hi : P.info? e = some i) (hz : i.zero = some z)
    (hsize : i.size = size) (hby : i.bytes = bytes) (hzs : z.cells.size = size) (hsz : 0 < size)
    (v : Value) (n : Nat) (xs : List Value) (hown : w.ownsRow base e size v n xs)
    (a : Addr) (m c : Nat) (news : List Value) (hl : news.length = m * size) (hnews : ∀ j u, news[j]? = some u → w.cell? (a.add j) = some u) (h1 : ∀ u ∈ news, u.oneCell' = true)
    (h63 : n + m ≤ maxLen) (hbytes : (n + m) * bytes ≤ 140737488355328) (hbase : base ≤ w.heap.size) :
    ∃ v' w', (Builtin.append_ #[t, t] ty #[v, .slice (some a) m c]).run P w = .ok v' w' ∧ w'.ownsRow base e size v' (n + m) (xs ++ news) ∧ w'.ownsRow base e size v n xs ∧ w.grownBy w' v.ownBlock ∧ ((∃ b cap, v = .slice (some ⟨b, 0, none⟩) n cap ∧ v' = .slice (some ⟨b, 0, none⟩) (n + m) cap ∧ w.grownBy w' (some b)) ∨ (v'.ownBlock = some w.heap.size ∧ w.grownBy w' none) ∨ (m = 0 ∧ v' = v ∧ w' = w)) := by
  subst hsize
  subst hby
  have hsmall : n + m ≤ 9223372036854775807 := by simp only [maxLen] at h63; omega
  have hlen : (xs ++ news).length = (n + m) * i.size := by rw [List.length_append, hown.1, hl, Nat.add_mul]
  have grown : ∀ (old : Nat), old < n + m → ∀ (row : Option Nat),
      (w.drew.alloc (.cells (xs.toArray ++ news.toArray ++ Builtin.zeroCells z.cells (grownCap w (n + m) old e - (n + m))) e)).ownsRow base e i.size
        (.slice (some ⟨w.heap.size, 0, none⟩) (n + m) (grownCap w (n + m) old e)) (n + m) (xs ++ news) ∧
      w.grownBy (w.drew.alloc (.cells (xs.toArray ++ news.toArray ++ Builtin.zeroCells z.cells (grownCap w (n + m) old e - (n + m))) e)) row := by
    intro old ho row
    have hge := grownCap_ge w (n + m) old e
    have hcm : grownCap w (n + m) old e ≤ maxLen := grownCap_le_maxLen w (n + m) old e h63
    refine ⟨⟨hlen, .inr ⟨w.heap.size, _, _, rfl, hbase, Go.heap_alloc_new w.drew _, hge, hcm, ?_, ?_⟩⟩, ⟨rfl, rfl, rfl, by simp, fun k hk _ => Go.heap_alloc_old w.drew _ hk⟩⟩
    · simp only [Array.size_append, List.size_toArray, size_zeroCells, hzs, hown.1, hl, ← Nat.add_mul]
      congr 1
      omega
    · simp only [Array.toList_append, List.append_assoc]
      rw [← List.append_assoc, ← hlen]
      exact List.take_left
  rcases hown.2 with ⟨rfl, rfl⟩ | ⟨g, cap, cur, rfl, hbg, hg, hnc, hcm, hcs, htake⟩
  · have hx : xs = [] := List.eq_nil_of_length_eq_zero (by simpa using hown.1)
    subst hx
    by_cases hm : m = 0
    · subst hm
      have hn : news = [] := List.eq_nil_of_length_eq_zero (by simpa using hl)
      subst hn
      refine ⟨.slice none 0 0, w, ?_, World.ownsRow_nil w base e i.size, World.ownsRow_nil w base e i.size, ⟨rfl, rfl, rfl, Nat.le_refl _, fun _ _ _ => rfl⟩, .inr (.inr ⟨rfl, rfl, rfl⟩)⟩
      simp [Builtin.append_, run_underlying ht, sizeOf, typeInfo, hi, Builtin.lenOf, Builtin.firstCells, loadCells, loadCellsFrom]
    · have hr := run_append_nil (P := P) w t ty e i z ht hi hz a m c news hl hnews (by omega) (by omega) (by have hb := hbytes; simp only [Nat.zero_add] at hb; omega)
      have hgr := grown 0 (by omega) (Value.ownBlock (.slice none 0 0))
      have hgr2 := grown 0 (by omega) none
      simp only [Nat.zero_add, List.nil_append, Array.empty_append] at hgr hgr2 ⊢
      exact ⟨_, _, hr, hgr.1, World.ownsRow_nil _ base e i.size, hgr.2, .inr (.inl ⟨rfl, hgr2.2⟩)⟩
  · by_cases hroom : n + m ≤ cap
    · have hfit : n * i.size + news.length ≤ cur.size := by rw [hl, hcs, ← Nat.add_mul]; exact Nat.mul_le_mul_right _ hroom
      have hr := run_append_room (P := P) w t ty e i ht hi g n cap cur hg a m c news hl hnews h1 hroom hfit
      refine ⟨_, _, hr, ⟨hlen, .inr ⟨g, cap, _, rfl, hbg, setRow_heap w g cur _ e _ hg, hroom, hcm, ?_, ?_⟩⟩, ⟨hown.1, .inr ⟨g, cap, _, rfl, hbg, setRow_heap w g cur _ e _ hg, hnc, hcm, ?_, ?_⟩⟩, ⟨rfl, rfl, rfl, by simp, fun k _ hk => setRow_other w g k _ (fun e => hk (by simp [Value.ownBlock, e]))⟩, .inl ⟨g, cap, rfl, rfl, ⟨rfl, rfl, rfl, by simp, fun k _ hk => setRow_other w g k _ (fun e => hk (by simp [e]))⟩⟩⟩
      · simp only [List.size_toArray, List.length_append, List.length_take, List.length_drop, Array.length_toList]
        omega
      · rw [htake, ← hlen]
        exact List.take_left
      · simp only [List.size_toArray, List.length_append, List.length_take, List.length_drop, Array.length_toList]
        omega
      · rw [htake, List.append_assoc, ← hown.1]
        exact List.take_left
    · have holds : ∀ j u, xs[j]? = some u → w.cell? ((⟨g, 0, none⟩ : Addr).add j) = some u := hown.cells (g := g) rfl
      have hr := run_append_grow (P := P) w t ty e i z ht hi hz ⟨g, 0, none⟩ n cap xs hown.1 holds a m c news hl hnews (by omega) (by omega) (growslice_fits (by omega) hbytes)
      have hgr := grown cap (by omega) (Value.ownBlock (.slice (some ⟨g, 0, none⟩) n cap))
      have hgr2 := grown cap (by omega) none
      exact ⟨_, _, hr, hgr.1, hown.kept hgr2.2 (.inr (by simp [Value.ownBlock])), hgr.2, .inr (.inl ⟨rfl, hgr2.2⟩)⟩
end
theorem wpList_append_view {P : Program} {w : World} {ops : Array Oper} {rest : List Oper} {o : Oper} {a : Act} {Q : Exit → Act → World → Prop} (hgd : o.guard = none) (s x : Operand) (t : TypeId)
    (ho : o.op = .call { callee := .builtin .append, args := #[s, x], argTypes := #[t, t] })
    (base : Nat) (e : TypeId) (i : TypeInfo) (z : Value) (size bytes : Nat) (ht : P.underlying t = some (.slice e)) (hi : P.info? e = some i) (hz : i.zero = some z)
    (hsize : i.size = size) (hby : i.bytes = bytes) (hzs : z.cells.size = size) (hsz : 0 < size)
    (v : Value) (n : Nat) (xs : List Value) (hs : a.eval s = v) (hown : w.ownsRow base e size v n xs)
    (ad : Addr) (m c : Nat) (news : List Value) (hx : a.eval x = .slice (some ad) m c) (hl : news.length = m * size) (hnews : ∀ j u, news[j]? = some u → w.cell? (ad.add j) = some u) (h1 : ∀ u ∈ news, u.oneCell' = true)
    (h63 : n + m ≤ maxLen) (hbytes : (n + m) * bytes ≤ 140737488355328) (hbase : base ≤ w.heap.size)
    (h : ∀ v' w', w'.ownsRow base e size v' (n + m) (xs ++ news) → w'.ownsRow base e size v n xs → w.grownBy w' v.ownBlock → ((∃ b cap, v = .slice (some ⟨b, 0, none⟩) n cap ∧ v' = .slice (some ⟨b, 0, none⟩) (n + m) cap ∧ w.grownBy w' (some b)) ∨ (v'.ownBlock = some w.heap.size ∧ w.grownBy w' none) ∨ (m = 0 ∧ v' = v ∧ w' = w)) → wpList P ops Q rest (a.put o.dst v') w') :
    wpList P ops Q (o :: rest) a w := by
  refine wpList_plain hgd fun K hK => ?_
  obtain ⟨v', w', hr, h2, h3, h4, h5⟩ := run_append_view (P := P) w base t o.type e i z size bytes ht hi hz hsize hby hzs hsz v n xs hown ad m c news hl hnews h1 h63 hbytes hbase
  unfold Oper.wp execOp
  simp only [ho, resolve, invoke, builtin, Sem.run_bind, Sem.run_pure, Result.andThen_ok, List.map_toArray, List.map_cons, List.map_nil, hs, hx, hr]
  exact hK _ _ (h v' w' h2 h3 h4 h5)
end Go.Proofs.YtlbjmkljmhfjdaaGreat
namespace Go.Proofs.YtlbjmkljmhfjdaaGreat
open Go Go.RowKit Go.Maps
theorem own_type {w : World} {B B' e e' z z' n n' b : Nat} {v v' : Value} {xs xs' : List Value} (h : w.ownsRow B e z v n xs) (h' : w.ownsRow B' e' z' v' n' xs') (hb : v.ownBlock = some b) (hb' : v'.ownBlock = some b) : e = e' := by
  rcases h.2 with ⟨rfl, _⟩ | ⟨g, cap, cur, rfl, _, hg, _⟩
  · simp [Value.ownBlock] at hb
  · rcases h'.2 with ⟨rfl, _⟩ | ⟨g', cap', cur', rfl, _, hg', _⟩
    · simp [Value.ownBlock] at hb'
    · simp only [Value.ownBlock, Option.some.injEq] at hb hb'
      subst hb; subst hb'
      rw [hg] at hg'
      simp only [Option.some.injEq, Obj.cells.injEq] at hg'
      exact hg'.2.1
theorem own_store {W : World} {B e g n cap k : Nat} {xs : List Value} (h : W.ownsRow B e 1 (.slice (some ⟨g, 0, none⟩) n cap) n xs) (u : Value) : (W.setCell ⟨g, k, none⟩ u).ownsRow B e 1 (.slice (some ⟨g, 0, none⟩) n cap) n (xs.set k u) := by
  have hl := h.1
  rcases h.2 with ⟨h', _⟩ | ⟨g', cap', cur, h', hb, hg, hnc, hcm, hcs, htake⟩
  · simp at h'
  · simp only [Value.slice.injEq, Option.some.injEq, Addr.mk.injEq, and_true, true_and] at h'
    obtain ⟨rfl, rfl⟩ := h'
    refine ⟨by rw [List.length_set]; exact hl, .inr ⟨g, cap, cur.setIfInBounds k u, rfl, hb, heap_setCell_same W g k cur e u hg, hnc, hcm, by simpa using hcs, ?_⟩⟩
    rw [← htake, Array.toList_setIfInBounds, List.take_set]
theorem store_grown (W : World) (b o : Nat) (v : Value) : W.grownBy (W.setCell ⟨b, o, none⟩ v) (some b) := by
  have h := Below.setCell (Below.refl b W) (p := ⟨b, o, none⟩) (Nat.le_refl _) v
  exact ⟨h.os, h.tape, h.output, h.size, fun k hk hne => Below.heap_setCell _ _ _ k (fun e => hne (by rw [show k = b from e]))⟩
theorem own_beside {W W' : World} {B e z n : Nat} {v : Value} {xs : List Value} {row : Option Nat} (h : W.ownsRow B e z v n xs) (hg : W.grownBy W' row) (hne : ∀ q, v.ownBlock = some q → row ≠ some q) : W'.ownsRow B e z v n xs :=
  h.kept hg (by
    cases ho : v.ownBlock with
    | none => exact .inl rfl
    | some q => exact .inr fun e => hne q ho e.symm)
/-- Rows of numbers, in a row of rows; each of its own; all apart. T is the type of a row of numbers. -/
structure Fl (B T : Nat) (W : World) (lv : Value) (vs : List Value) (ms : Nat → List Int) : Prop where
  outer : W.ownsRow B T 1 lv vs.length vs
  rows : ∀ k, k < vs.length → W.ownsRow B 3 1 (vs.getD k undef) (ms k).length (ints (ms k))
  apart : ∀ j k q, j < vs.length → k < vs.length → j ≠ k → (vs.getD j undef).ownBlock = some q → (vs.getD k undef).ownBlock ≠ some q
theorem Fl.below {B T : Nat} {W W' : World} {lv : Value} {vs : List Value} {ms : Nat → List Int} (h : Fl B T W lv vs ms) (hb : Below W.heap.size W W') : Fl B T W' lv vs ms :=
  ⟨own_below h.outer hb, fun k hk => own_below (h.rows k hk) hb, h.apart⟩
def updL (ms : Nat → List Int) (k : Nat) (l : List Int) (j : Nat) : List Int := if j = k then l else ms j
theorem fints_set (l : List Int) (i : Nat) (x : Int) : (ints l).set i (.int .i64 x) = ints (l.set i x) := by
  unfold ints
  rw [List.map_set]
/-- Where a row's cell lies. -/
theorem Fl.cell {B T : Nat} {W : World} {lv : Value} {vs : List Value} {ms : Nat → List Int} (h : Fl B T W lv vs ms) {k i : Nat} (hk : k < vs.length) (hi : i < (ms k).length) :
    ∃ g cap, vs.getD k undef = .slice (some ⟨g, 0, none⟩) (ms k).length cap ∧ B ≤ g ∧ g < W.heap.size ∧ W.cell? ⟨g, i, none⟩ = some (.int .i64 ((ms k).getD i 0)) := by
  obtain ⟨g, cap, e, hb, _, _, hg⟩ := own_shape (h.rows k hk) (by omega)
  refine ⟨g, cap, e, hb, hg, ?_⟩
  have hr := h.rows k hk
  rw [e] at hr
  rw [hr.cellAt i (by omega)]
  simp [ints, List.getD, hi]
/-- A number is stored into one of them. -/
theorem Fl.put {B T : Nat} {W : World} {lv : Value} {vs : List Value} {ms : Nat → List Int} (h : Fl B T W lv vs ms) (hT : T ≠ 3) {k i g cap : Nat} (hk : k < vs.length) (e : vs.getD k undef = .slice (some ⟨g, 0, none⟩) (ms k).length cap) (x : Int) :
    Fl B T (W.setCell ⟨g, i, none⟩ (.int .i64 x)) lv vs (updL ms k ((ms k).set i x)) := by
  have ho : (vs.getD k undef).ownBlock = some g := by rw [e]; rfl
  have hg := store_grown W g i (.int .i64 x)
  refine ⟨own_beside h.outer hg (fun q hq eq => ?_), fun j hj => ?_, h.apart⟩
  · cases eq
    exact hT (own_type h.outer (h.rows k hk) hq ho)
  · unfold updL
    by_cases ejk : j = k
    · subst ejk
      rw [if_pos rfl, List.length_set]
      have hr := h.rows j hj
      rw [e] at hr ⊢
      have := own_store (k := i) hr (.int .i64 x)
      rw [fints_set] at this
      exact this
    · rw [if_neg ejk]
      exact own_beside (h.rows j hj) hg (fun q hq eq => by cases eq; exact h.apart j k g hj hk ejk hq ho)
/-- The mark of a place. -/
def mkN (k i : Int) : Int := 1000003 * (k + 7) + i
end Go.Proofs.YtlbjmkljmhfjdaaGreat
namespace Go.Proofs.YtlbjmkljmhfjdaaGreat
open Go Go.RowKit Go.Maps
/-- Nothing below B is changed, no block that there was but of numbers, and none from C on. -/
structure Lw (B C : Nat) (w W : World) : Prop where
  low : Below B w W
  keep : ∀ (b : Nat) (vs : Array Value) (T2 : TypeId), T2 ≠ 3 → Blk w b vs T2 → Blk W b vs T2
  high : ∀ b, C ≤ b → b < w.heap.size → W.heap[b]? = w.heap[b]?
/-- Where a row may lie that is changed. -/
def Home (C N : Nat) (v : Value) : Prop := ∀ q, v.ownBlock = some q → q < C ∨ N ≤ q
theorem Lw.refl (B C : Nat) (w : World) : Lw B C w w := ⟨Below.refl _ _, fun _ _ _ _ h => h, fun _ _ _ => rfl⟩
theorem Lw.size {B C : Nat} {w W : World} (h : Lw B C w W) : w.heap.size ≤ W.heap.size := h.low.size
theorem Lw.step {B C : Nat} {w W W' : World} (h : Lw B C w W) (hB : B ≤ W.heap.size) (hb : Below W.heap.size W W') : Lw B C w W' :=
  ⟨h.low.trans (hb.mono hB), fun b vs T2 h1 k => (h.keep b vs T2 h1 k).below' hb, fun b h1 h2 => (hb.block b (by have := h.size; omega)).trans (h.high b h1 h2)⟩
theorem Lw.grown {B B' C e z n : Nat} {w W W' : World} {v : Value} {xs : List Value} (h : Lw B C w W) (hB : B ≤ W.heap.size) (ho : W.ownsRow B e z v n xs) (he : (e = 3 ∧ Home C w.heap.size v) ∨ ∀ q, v.ownBlock = some q → w.heap.size ≤ q) (hg : W.grownBy W' v.ownBlock) : Lw B C w W' :=
  ⟨grown_below h.low hB hg (fun k e => (ho.lt k e).1), fun b vs T2 h1 k => (h.keep b vs T2 h1 k).grown hg (fun eq => by
    rcases he with ⟨rfl, _⟩ | he
    · exact own_ne ho (h.keep b vs T2 h1 k) h1 eq.symm
    · have h2 := he b eq.symm
      have h3 := k.lt
      omega), fun b h1 h2 => (hg.block b (by have := h.size; omega) (fun eq => by
    rcases he with ⟨_, he⟩ | he
    · have := he b eq.symm; omega
    · have := he b eq.symm; omega)).trans (h.high b h1 h2)⟩
theorem Lw.set {B C e z n g i : Nat} {w W : World} {v u : Value} {xs : List Value} (h : Lw B C w W) (hB : B ≤ W.heap.size) (ho : W.ownsRow B e z v n xs) (he : (e = 3 ∧ Home C w.heap.size v) ∨ ∀ q, v.ownBlock = some q → w.heap.size ≤ q) (hv : v.ownBlock = some g) : Lw B C w (W.setCell ⟨g, i, none⟩ u) :=
  h.grown (B' := B) hB ho he (by rw [hv]; exact store_grown W g i u)
/-- Rows whose first ones are marked, and a part of the next one. -/
structure M1 (B T C : Nat) (w W : World) (lv : Value) (vs : List Value) (ln : Nat → Nat) (ms : Nat → List Int) (k i : Nat) : Prop where
  fl : Fl B T W lv vs ms
  len : ∀ j, (ms j).length = ln j
  done : ∀ j, j < k → ∀ p, p < ln j → (ms j).getD p 0 = mkN j p
  part : ∀ p, p < i → (ms k).getD p 0 = mkN k p
  low : Lw B C w W
  home : ∀ j q, j < vs.length → (vs.getD j undef).ownBlock = some q → q < C
theorem M1.below {B T C : Nat} {w W W' : World} {lv : Value} {vs : List Value} {ln : Nat → Nat} {ms : Nat → List Int} {k i : Nat} (h : M1 B T C w W lv vs ln ms k i) (hB : B ≤ W.heap.size) (hb : Below W.heap.size W W') : M1 B T C w W' lv vs ln ms k i :=
  ⟨h.fl.below hb, h.len, h.done, h.part, h.low.step hB hb, h.home⟩
theorem M1.next {B T C : Nat} {w W : World} {lv : Value} {vs : List Value} {ln : Nat → Nat} {ms : Nat → List Int} {k i g cap : Nat} (h : M1 B T C w W lv vs ln ms k i) (hT : T ≠ 3) (hk : k < vs.length) (hi : i < ln k) (e : vs.getD k undef = .slice (some ⟨g, 0, none⟩) (ln k) cap) (hB : B ≤ W.heap.size) :
    M1 B T C w (W.setCell ⟨g, i, none⟩ (.int .i64 (mkN k i))) lv vs ln (updL ms k ((ms k).set i (mkN k i))) k (i + 1) := by
  have hlk := h.len k
  refine ⟨h.fl.put hT hk (by rw [hlk]; exact e) _, fun j => ?_, fun j hj p hp => ?_, fun p hp => ?_, h.low.set hB (h.fl.rows k hk) (.inl ⟨rfl, fun q e => .inl (h.home k q hk e)⟩) (by rw [e]; rfl), h.home⟩
  · unfold updL
    split
    · rename_i e2; rw [List.length_set, e2]; exact hlk
    · exact h.len j
  · unfold updL
    rw [if_neg (by omega)]
    exact h.done j hj p hp
  · unfold updL
    rw [if_pos rfl]
    by_cases e2 : p = i
    · subst e2
      simp only [List.getD]
      rw [List.getElem?_set_self (by omega)]
      rfl
    · have := h.part p (by omega)
      simp only [List.getD] at this ⊢
      rw [List.getElem?_set_ne (fun h => e2 h.symm)]
      exact this
theorem M1.row {B T C : Nat} {w W : World} {lv : Value} {vs : List Value} {ln : Nat → Nat} {ms : Nat → List Int} {k : Nat} (h : M1 B T C w W lv vs ln ms k (ln k)) : M1 B T C w W lv vs ln ms (k + 1) 0 :=
  ⟨h.fl, h.len, fun j hj p hp => by
    by_cases e : j = k
    · subst e; exact h.part p hp
    · exact h.done j (by omega) p hp, fun p hp => by omega, h.low, h.home⟩
/-- The row of rows, read at a place. -/
theorem Fl.outer_at {B T : Nat} {W : World} {lv : Value} {vs : List Value} {ms : Nat → List Int} (h : Fl B T W lv vs ms) {k lb n c : Nat} (e : lv = .slice (some ⟨lb, 0, none⟩) n c) (hk : k < vs.length) :
    ∃ A c', vs.getD k undef = .slice A (ms k).length c' ∧ W.cell? ⟨lb, k, none⟩ = some (.slice A (ms k).length c') ∧ lb < W.heap.size := by
  obtain ⟨A, c', e2, _, _⟩ := own_slice (h.rows k hk)
  have ho := h.outer
  obtain ⟨g, cap, e3, _, _, _, hlt⟩ := own_shape ho (by omega)
  rw [e] at e3 ho
  simp only [Value.slice.injEq, Option.some.injEq, Addr.mk.injEq, and_true, true_and] at e3
  obtain ⟨rfl, rfl, rfl⟩ := e3
  refine ⟨A, c', e2, ?_, hlt⟩
  have := ho.cellAt k (by omega)
  rw [this, ← e2]
  simp [List.getD, hk]
end Go.Proofs.YtlbjmkljmhfjdaaGreat

/- Who calls whom, plainly: a rule's body, whom it calls, whom it reaches. Nothing here speaks of a program. -/
import Derived.Test.YtfghfnpiaccfaaaGreatDoorJ3
import Derived.Test.YtfghfnpiaccfaaaGreatDoorU0
import Derived.Shelf.Abstract
import Derived.Shelf.RegionOpen
import Derived.LoopNIn
import Derived.LoopIn
set_option linter.unusedSimpArgs false
set_option linter.unusedVariables false
namespace Go.Proofs.YtfghfnpiaccfaaaGreatDoor.J
def begOf (g : Gr) (r : Nat) : Nat := (g.rules.getD r Rl.zero).body.toNat
def endOf (g : Gr) (r : Nat) : Nat := if r + 1 < g.rules.length then begOf g (r + 1) else g.nodes.length
def bodOf (g : Gr) (r : Nat) : List Nd := (g.nodes.drop (begOf g r)).take (endOf g r - begOf g r)
def isCall (x : Nd) : Bool := decide (x.kind = 5)
def calOf (l : List Nd) : List Nat := (l.filter isCall).map fun x => x.rule.toNat
/-- Whom a rule's body calls, as often as it does. -/
def cal (g : Gr) (r : Nat) : List Nat := calOf (bodOf g r)
theorem calOf_nil : calOf [] = [] := rfl
theorem calOf_app (a b : List Nd) : calOf (a ++ b) = calOf a ++ calOf b := by simp [calOf]
theorem calOf_one (x : Nd) : calOf [x] = if isCall x then [x.rule.toNat] else [] := by
  unfold calOf
  cases h : isCall x <;> simp [h]
theorem bodies_at {len : Nat} {ms : Nat → Meas} (h1 : ∀ m, m < len → 1 ≤ (ms m).1) : ∀ (l : List Rl) (next e : Int), 0 ≤ next → bodies len ms l next = some e → ∀ i, i < l.length → next ≤ (l.getD i Rl.zero).body ∧ (l.getD i Rl.zero).body < len ∧ (i + 1 < l.length → (l.getD i Rl.zero).body < (l.getD (i + 1) Rl.zero).body)
  | [], _, _, _, _, i, hi => by simp at hi
  | r :: l, next, e, hn, h, i, hi => by
    unfold bodies at h
    split at h
    · rename_i hc
      have hs := h1 next.toNat (by omega)
      have IH := bodies_at h1 l _ e (by omega) h
      cases i with
      | zero =>
        refine ⟨by simp [hc.1], by simp [hc.1, hc.2.1], fun h2 => ?_⟩
        have := (IH 0 (by simpa using h2)).1
        simp only [List.getD_cons_zero, List.getD_cons_succ, hc.1]
        omega
      | succ i =>
        obtain ⟨a, b, c⟩ := IH i (by simpa using hi)
        simp only [List.getD_cons_succ]
        exact ⟨by omega, b, fun h2 => c (by simpa using h2)⟩
    · cases h
/-- Where bodies begin and end, and whom calls name. -/
structure Lain (g : Gr) : Prop where
  n32 : 1 ≤ g.rules.length ∧ g.rules.length ≤ 32
  nodes : g.nodes.length ≤ 2048
  beg : ∀ r, r < g.rules.length → (g.rules.getD r Rl.zero).body = (begOf g r : Nat) ∧ begOf g r ≤ endOf g r ∧ endOf g r ≤ g.nodes.length ∧ begOf g r < g.nodes.length
  call : ∀ x ∈ g.nodes, x.kind = 5 → x.rule = (x.rule.toNat : Nat) ∧ x.rule.toNat < g.rules.length
theorem Right.lain {g : Gr} (h : Right g) : Lain g := by
  obtain ⟨ms, hm, hb⟩ := h.pre
  have A := bodies_at (fun m hl => (hm m (by omega) hl).1) g.rules 0 _ (by omega) hb
  refine ⟨h.rules, h.nodes, fun r hr => ?_, fun x hx hk => ?_⟩
  · obtain ⟨a, b, c⟩ := A r hr
    have e : (g.rules.getD r Rl.zero).body = (begOf g r : Nat) := by unfold begOf; omega
    refine ⟨e, ?_, ?_, by omega⟩
    · unfold endOf
      split
      · rename_i h2; have := c h2; unfold begOf; omega
      · omega
    · unfold endOf
      split
      · rename_i h2; have := A (r + 1) h2; unfold begOf; omega
      · omega
  · obtain ⟨i, hi, rfl⟩ := List.mem_iff_getElem.1 hx
    have := h.all i hi
    rw [show g.nodes.getD i Nd.zero = g.nodes[i] by simp [List.getD, List.getElem?_eq_getElem hi]] at this
    rcases (nodeOk_iff _ _).1 this with h | h | h | h | h | h <;> omega
theorem Lain.cal {g : Gr} (h : Lain g) {r c : Nat} (hc : c ∈ cal g r) : c < g.rules.length := by
  simp only [J.cal, calOf, List.mem_map, List.mem_filter, isCall, decide_eq_true_eq] at hc
  obtain ⟨x, ⟨hx, hk⟩, rfl⟩ := hc
  exact (h.call x (List.mem_of_mem_drop (List.mem_of_mem_take hx)) hk).2
/-- What is reached from x. -/
inductive Reach (f : Nat → List Nat) (x : Nat) : Nat → Prop
  | base : Reach f x x
  | step {a b : Nat} : Reach f x a → b ∈ f a → Reach f x b
theorem Reach.trans {f : Nat → List Nat} {x y z : Nat} (h : Reach f x y) (k : Reach f y z) : Reach f x z := by
  induction k with
  | base => exact h
  | step _ hb ih => exact .step ih hb
theorem reach_iff {f : Nat → List Nat} {x y : Nat} : Reach f x y ↔ y = x ∨ ∃ c ∈ f x, Reach f c y := by
  constructor
  · intro h
    induction h with
    | base => exact .inl rfl
    | step _ hb ih =>
      rcases ih with rfl | ⟨c, hc, hr⟩
      · exact .inr ⟨_, hb, .base⟩
      · exact .inr ⟨c, hc, .step hr hb⟩
  · rintro (rfl | ⟨c, hc, hr⟩)
    · exact .base
    · exact (Reach.step .base hc).trans hr
theorem Reach.lt {f : Nat → List Nat} {n x y : Nat} (hf : ∀ a b, b ∈ f a → b < n) (hx : x < n) (h : Reach f x y) : y < n := by
  cases h with
  | base => exact hx
  | step _ hb => exact hf _ _ hb
abbrev Aw := List Bool × List Nat
/-- One that is called is met, and put aside if it was not. -/
def push (s : Aw) (c : Nat) : Aw := if s.1.getD c false then s else (s.1.set c true, s.2 ++ [c])
def pushAll (s : Aw) (cs : List Nat) : Aw := cs.foldl push s
theorem pushAll_take (s : Aw) {cs : List Nat} {k : Nat} (hk : k < cs.length) : pushAll s (cs.take (k + 1)) = push (pushAll s (cs.take k)) (cs.getD k 0) := by
  rw [pushAll, pushAll, List.take_add_one, List.foldl_append, List.getElem?_eq_getElem hk]
  simp [List.getD, List.getElem?_eq_getElem hk]
def unmet (l : List Bool) : Nat := l.countP (fun b => !b)
def mu (s : Aw) : Nat := 2 * unmet s.1 + s.2.length
/-- What holds as one goes: but of r it need not hold that all that it calls are met. -/
structure Going (f : Nat → List Nat) (n x : Nat) (r : Option Nat) (s : Aw) : Prop where
  len : s.1.length = n
  own : s.1.getD x false = true
  back : ∀ a, s.1.getD a false = true → Reach f x a
  aside : ∀ a ∈ s.2, s.1.getD a false = true
  on : ∀ a, s.1.getD a false = true → a ∉ s.2 → some a ≠ r → ∀ b ∈ f a, s.1.getD b false = true
theorem met_lt {l : List Bool} {a : Nat} (h : l.getD a false = true) : a < l.length := by
  rcases Nat.lt_or_ge a l.length with h1 | h1
  · exact h1
  · simp [List.getD, List.getElem?_eq_none h1] at h
theorem getD_set (l : List Bool) (c a : Nat) : (l.set c true).getD a false = if a = c ∧ c < l.length then true else l.getD a false := by
  rcases Nat.lt_or_ge c l.length with h1 | h1
  · by_cases h : a = c
    · subst h; simp [List.getD, h1]
    · simp [List.getD, List.getElem?_set_ne (fun e => h e.symm), h]
  · rw [List.set_eq_of_length_le h1, if_neg (by omega)]
theorem Going.push {f : Nat → List Nat} {n x : Nat} {r : Option Nat} {s : Aw} (h : Going f n x r s) {c : Nat} (hc : c < n) (hr : Reach f x c) : Going f n x r (push s c) ∧ (push s c).1.getD c false = true ∧ ∀ a, s.1.getD a false = true → (J.push s c).1.getD a false = true := by
  unfold J.push
  split
  · rename_i hm; exact ⟨h, hm, fun _ h => h⟩
  · have hcl : c < s.1.length := by rw [h.len]; exact hc
    have up : ∀ a, s.1.getD a false = true → (s.1.set c true).getD a false = true := fun a ha => by rw [getD_set]; split <;> first | rfl | exact ha
    refine ⟨⟨by simp [h.len], up _ h.own, fun a ha => ?_, fun a ha => ?_, fun a ha hn hne b hb => ?_⟩, ?_, up⟩
    · rw [getD_set] at ha
      split at ha
      · rename_i e; rw [e.1]; exact hr
      · exact h.back a ha
    · rcases List.mem_append.1 ha with ha | ha
      · exact up a (h.aside a ha)
      · rw [List.mem_singleton.1 ha, getD_set, if_pos ⟨rfl, hcl⟩]
    · have hnc : a ≠ c := fun e => hn (List.mem_append.2 (.inr (List.mem_singleton.2 e)))
      rw [getD_set, if_neg (fun e => hnc e.1)] at ha
      exact up b (h.on a ha (fun h2 => hn (List.mem_append.2 (.inl h2))) hne b hb)
    · rw [getD_set, if_pos ⟨rfl, hcl⟩]
theorem unmet_set : ∀ (l : List Bool) (c : Nat), c < l.length → l.getD c false = false → unmet (l.set c true) + 1 = unmet l
  | [], c, h, _ => by simp at h
  | b :: l, 0, _, h2 => by simp at h2; simp [unmet, h2]
  | b :: l, c + 1, h, h2 => by
    have := unmet_set l c (by simpa using h) (by simpa using h2)
    simp only [unmet] at this
    simp only [List.set_cons_succ, unmet, List.countP_cons]
    omega
theorem push_mu {s : Aw} {c : Nat} (hc : c < s.1.length) : mu (push s c) ≤ mu s := by
  unfold push
  split
  · exact Nat.le_refl _
  · rename_i h
    have := unmet_set s.1 c hc (by simpa using h)
    simp only [mu, List.length_append, List.length_singleton]
    omega
theorem Going.all {f : Nat → List Nat} {n x : Nat} {r : Option Nat} : ∀ (cs : List Nat) {s : Aw}, Going f n x r s → (∀ c ∈ cs, c < n ∧ Reach f x c) → Going f n x r (pushAll s cs) ∧ (∀ c ∈ cs, (pushAll s cs).1.getD c false = true) ∧ (∀ a, s.1.getD a false = true → (pushAll s cs).1.getD a false = true) ∧ mu (pushAll s cs) ≤ mu s
  | [], s, h, _ => ⟨h, fun c hc => by simp at hc, fun _ h => h, Nat.le_refl _⟩
  | c :: cs, s, h, hc => by
    obtain ⟨q1, q2, q3⟩ := h.push (hc c List.mem_cons_self).1 (hc c List.mem_cons_self).2
    obtain ⟨p1, p2, p3, p4⟩ := Going.all cs q1 (fun d hd => hc d (List.mem_cons_of_mem _ hd))
    refine ⟨p1, fun d hd => ?_, fun a ha => p3 a (q3 a ha), Nat.le_trans p4 (push_mu (by rw [h.len]; exact (hc c List.mem_cons_self).1))⟩
    rcases List.mem_cons.1 hd with rfl | hd
    · exact p3 _ q2
    · exact p2 d hd
theorem Going.pop {f : Nat → List Nat} {n x r : Nat} {m : List Bool} {l : List Nat} (h : Going f n x none (m, l ++ [r])) : Going f n x (some r) (m, l) ∧ m.getD r false = true ∧ mu (m, l) + 1 = mu (m, l ++ [r]) :=
  ⟨⟨h.len, h.own, h.back, fun a ha => h.aside a (List.mem_append.2 (.inl ha)), fun a ha hn hne b hb => h.on a ha (fun h2 => by
      rcases List.mem_append.1 h2 with h2 | h2
      · exact hn h2
      · exact hne (by rw [List.mem_singleton.1 h2])) (by simp) b hb⟩, h.aside r (by simp), by simp [mu]; omega⟩
theorem Going.round {f : Nat → List Nat} {n x r : Nat} {s : Aw} (h : Going f n x (some r) s) (hr : ∀ b ∈ f r, s.1.getD b false = true) : Going f n x none s :=
  ⟨h.len, h.own, h.back, h.aside, fun a ha hn _ b hb => by
    by_cases e : a = r
    · subst e; exact hr b hb
    · exact h.on a ha hn (fun h => e (Option.some.inj h)) b hb⟩
theorem Going.done {f : Nat → List Nat} {n x : Nat} {m : List Bool} (h : Going f n x none (m, [])) (a : Nat) : m.getD a false = true ↔ Reach f x a := by
  refine ⟨h.back a, fun hr => ?_⟩
  induction hr with
  | base => exact h.own
  | step _ hb ih => exact h.on _ ih (by simp) (by simp) _ hb
theorem Going.start {f : Nat → List Nat} {n x : Nat} (hx : x < n) : Going f n x none ((List.replicate n false).set x true, [x]) := by
  have e : ∀ a, ((List.replicate n false).set x true).getD a false = true ↔ a = x := fun a => by
    rw [getD_set]
    by_cases h : a = x
    · simp [h, hx]
    · rw [if_neg (fun e => h e.1)]
      rcases Nat.lt_or_ge a n with h1 | h1 <;> simp [List.getD, h1, h]
  refine ⟨by simp, (e x).2 rfl, fun a ha => by rw [(e a).1 ha]; exact .base, fun a ha => by simp at ha; exact (e a).2 ha, fun a ha hn => by simp at hn; exact absurd ((e a).1 ha) hn⟩
end Go.Proofs.YtfghfnpiaccfaaaGreatDoor.J
namespace Go.Proofs.YtfghfnpiaccfaaaGreatDoor.J
/-- The first rule of a name, of the first k ones. -/
def fst (l : List Rl) (s : ByteArray) : Nat → Option Nat
  | 0 => none
  | k + 1 => match fst l s k with
    | some i => some i
    | none => if (l.getD k Rl.zero).name = s then some k else none
theorem fst_some {l : List Rl} {s : ByteArray} {i : Nat} : ∀ {k : Nat}, fst l s k = some i ↔ i < k ∧ (l.getD i Rl.zero).name = s ∧ ∀ j, j < i → (l.getD j Rl.zero).name ≠ s
  | 0 => by simp [fst]
  | k + 1 => by
    have IH := @fst_some l s i k
    rw [fst]
    cases h : fst l s k with
    | some m =>
      rw [h] at IH
      simp only
      rw [IH]
      constructor
      · rintro ⟨a, b, c⟩; exact ⟨by omega, b, c⟩
      · rintro ⟨a, b, c⟩
        refine ⟨?_, b, c⟩
        rcases Nat.lt_or_ge i k with h1 | h1
        · exact h1
        · have hm := (@fst_some l s m k).1 h
          exact absurd hm.2.1 (c m (by omega))
    | none =>
      rw [h] at IH
      simp only
      have hn : ∀ j, j < k → (l.getD j Rl.zero).name ≠ s := by
        intro j
        induction j using Nat.strongRecOn with
        | _ j ih =>
          intro hj e
          have := (@fst_some l s j k).2 ⟨hj, e, fun q hq => ih q hq (by omega)⟩
          rw [h] at this; cases this
      split
      · rename_i e
        constructor
        · rintro ⟨⟩; exact ⟨by omega, e, hn⟩
        · rintro ⟨a, b, c⟩
          rcases Nat.lt_trichotomy i k with h1 | h1 | h1
          · exact absurd b (hn i h1)
          · rw [h1]
          · omega
      · rename_i e
        constructor
        · intro h; cases h
        · rintro ⟨a, b, c⟩
          rcases Nat.lt_trichotomy i k with h1 | h1 | h1
          · exact absurd b (hn i h1)
          · subst h1; exact absurd b e
          · omega
theorem fst_none {l : List Rl} {s : ByteArray} {k : Nat} : fst l s k = none ↔ ∀ j, j < k → (l.getD j Rl.zero).name ≠ s := by
  constructor
  · intro h j
    induction j using Nat.strongRecOn with
    | _ j ih =>
      intro hj e
      have := (@fst_some l s j k).2 ⟨hj, e, fun q hq => ih q hq (by omega)⟩
      rw [h] at this; cases this
  · intro h
    cases e : fst l s k with
    | none => rfl
    | some i => have := fst_some.1 e; exact absurd this.2.1 (h i this.1)
/-- One rule more. -/
theorem fst_put {l : List Rl} {k : Nat} (h : fst l (l.getD k Rl.zero).name k = none) (c : ByteArray) : fst l c (k + 1) = if c = (l.getD k Rl.zero).name then some k else fst l c k := by
  rw [fst]
  by_cases e : c = (l.getD k Rl.zero).name
  · subst e; rw [h]
  · rw [if_neg e, if_neg (fun h => e h.symm)]
    cases fst l c k <;> rfl
theorem fst_keep {l : List Rl} {k : Nat} (h : fst l (l.getD k Rl.zero).name k ≠ none) (c : ByteArray) : fst l c (k + 1) = fst l c k := by
  rw [fst]
  cases e : fst l c k with
  | some i => rfl
  | none =>
    simp only
    rw [if_neg (fun e2 => h (by rw [e2]; exact e))]
/-- The first number of which something holds. -/
def firstOf (p : Nat → Bool) (n : Nat) : Option Nat := (List.range n).find? p
theorem firstOf_some {p : Nat → Bool} {n i : Nat} : firstOf p n = some i ↔ i < n ∧ p i = true ∧ ∀ j, j < i → p j = false := by
  unfold firstOf
  rw [List.find?_range_eq_some]
  simp only [List.mem_range, Bool.not_eq_true']
  constructor
  · rintro ⟨a, b, c⟩; exact ⟨b, a, c⟩
  · rintro ⟨a, b, c⟩; exact ⟨b, a, c⟩
theorem firstOf_none {p : Nat → Bool} {n : Nat} : firstOf p n = none ↔ ∀ j, j < n → p j = false := by
  simp [firstOf]
/-- The first rule with a name of two. -/
def twiceP (l : List Rl) (i : Nat) : Bool := decide (fst l (l.getD i Rl.zero).name l.length ≠ some i)
def lostP (g : Gr) (nm : List ByteArray) (n : Nat) : Bool := isCall (g.nodes.getD n Nd.zero) && (fst g.rules (nm.getD n ByteArray.empty) g.rules.length).isNone
def twiceAt (l : List Rl) : Option Nat := firstOf (twiceP l) l.length
def lostAt (g : Gr) (nm : List ByteArray) : Option Nat := firstOf (lostP g nm) g.nodes.length
/-- A node, resolved: a call has the first rule of its name. -/
def resNd (g : Gr) (x : Nd) (s : ByteArray) : Nd := if isCall x then { x with rule := ((fst g.rules s g.rules.length).getD 0 : Nat) } else x
def resNds (g : Gr) (nm : List ByteArray) (l : List Nd) : List Nd := (List.range l.length).map fun i => resNd g (l.getD i Nd.zero) (nm.getD i ByteArray.empty)
end Go.Proofs.YtfghfnpiaccfaaaGreatDoor.J
namespace Go.Proofs.YtfghfnpiaccfaaaGreatDoor.J
def rowOf (n : Nat) (p : Nat → Bool) : List Nat := (List.range n).filter p
theorem rowOf_succ (n : Nat) (p : Nat → Bool) : rowOf (n + 1) p = if p n then rowOf n p ++ [n] else rowOf n p := by
  unfold rowOf
  rw [List.range_succ, List.filter_append]
  cases h : p n <;> simp [h]
theorem rowOf_mem {n : Nat} {p : Nat → Bool} {i : Nat} : i ∈ rowOf n p ↔ i < n ∧ p i = true := by simp [rowOf]
theorem rowOf_len (p : Nat → Bool) : ∀ n : Nat, (rowOf n p).length ≤ n
  | 0 => by simp [rowOf]
  | n + 1 => by rw [rowOf_succ]; have := rowOf_len p n; split <;> simp <;> omega
theorem rowOf_rise (n : Nat) (p : Nat → Bool) : (rowOf n p).Pairwise (· < ·) := List.Pairwise.filter _ List.pairwise_lt_range
theorem rowOf_next {n : Nat} {p : Nat → Bool} {i : Nat} (h0 : 1 ≤ i) (h : i < (rowOf n p).length) : (rowOf n p).getD (i - 1) 0 < (rowOf n p).getD i 0 := by
  have := List.pairwise_iff_getElem.1 (rowOf_rise n p) (i - 1) i (by omega) h (by omega)
  simpa [List.getD, List.getElem?_eq_getElem h, List.getElem?_eq_getElem (show i - 1 < (rowOf n p).length by omega)] using this
theorem rowOf_congr {n : Nat} {p q : Nat → Bool} (h : ∀ i, i < n → p i = q i) : rowOf n p = rowOf n q := by
  unfold rowOf
  exact List.filter_congr fun i hi => h i (by simpa using hi)
def nums (l : List Nat) : List Int := l.map fun (k : Nat) => (k : Int)
theorem nums_len (l : List Nat) : (nums l).length = l.length := by simp [nums]
theorem nums_app (l : List Nat) (k : Nat) : nums (l ++ [k]) = nums l ++ [(k : Int)] := by simp [nums]
theorem nums_at {l : List Nat} {i : Nat} : (nums l).getD i 0 = (l.getD i 0 : Nat) := by
  simp only [nums, List.getD, List.getElem?_map]
  cases l[i]? <;> simp
noncomputable def reachB (g : Gr) (x r : Nat) : Bool := by classical exact decide (Reach (cal g) x r)
theorem reachB_iff {g : Gr} {x r : Nat} : reachB g x r = true ↔ Reach (cal g) x r := by unfold reachB; simp
def doesB (g : Gr) (a b : Nat) : Bool := decide (b ∈ cal g a)
end Go.Proofs.YtfghfnpiaccfaaaGreatDoor.J
namespace Go.Proofs.YtfghfnpiaccfaaaGreatDoor.J
open Go Go.RowKit Go.Shelf
attribute [local go_sem] Oper.semAt_some
theorem bdrewN {B : Nat} {w w1 : World} {n : Nat} (h : Below B w w1) : Below B w (w1.drewN n) := ⟨h.os, h.tape, h.output, h.size, h.block⟩
/-- What is asked: a grammar, a rule. -/
abbrev askV (g : Gr) (x : Nat) : Value := .agg #[.slice g.RA g.rules.length g.rc, .slice g.NA g.nodes.length g.nc, .int .i64 x]
abbrev askC (g : Gr) (x : Nat) : Array Value := #[.slice g.RA g.rules.length g.rc, .slice g.NA g.nodes.length g.nc, .int .i64 x]
theorem bodOf_len {g : Gr} (hl : Lain g) {r : Nat} (hr : r < g.rules.length) : (bodOf g r).length = endOf g r - begOf g r := by
  obtain ⟨_, h1, h2, h3⟩ := hl.beg r hr
  rw [bodOf, List.length_take, List.length_drop]
  omega
theorem bodOf_at {g : Gr} (hl : Lain g) {r i : Nat} (hr : r < g.rules.length) (hi : i < endOf g r - begOf g r) : (bodOf g r).getD i Nd.zero = g.nodes.getD (begOf g r + i) Nd.zero := by
  simp only [bodOf, List.getD, List.getElem?_take, List.getElem?_drop, if_pos hi]
/-- Where a rule's body lies. -/
def BodAt (w : World) (g : Gr) (r : Nat) (v : Value) : Prop := ∃ b o o' c, v = .slice (some ⟨b, o, none⟩) (bodOf g r).length c ∧ g.NA = some ⟨b, o', none⟩ ∧ Nodes w (some ⟨b, o, none⟩) (bodOf g r)
theorem BodAt.of {w : World} {g : Gr} (hg : Gr.At w g) (hl : Lain g) {r : Nat} (hr : r < g.rules.length) {nb no c : Nat} (eN : g.NA = some ⟨nb, no, none⟩) : BodAt w g r (.slice (some ⟨nb, no + begOf g r * 9, none⟩) (endOf g r - begOf g r) c) := by
  obtain ⟨_, h1, h2, h3⟩ := hl.beg r hr
  obtain ⟨b, o, e, hb, hc⟩ := hg.nodes (by omega)
  rw [e] at eN
  cases eN
  refine ⟨_, _, _, _, by rw [bodOf_len hl hr], e, fun h0 => ⟨_, _, rfl, hb, fun i hi j hj => ?_⟩⟩
  rw [bodOf_len hl hr] at hi
  rw [bodOf_at hl hr hi, show no + begOf g r * 9 + i * 9 + j = no + (begOf g r + i) * 9 + j by omega]
  exact hc _ (by omega) j hj
set_option maxRecDepth 100000 in
set_option maxHeartbeats 1000000 in
theorem body_any (g : Gr) (x r : Nat) (w : World) (hg : Gr.At w g) (hl : Lain g) (hc : g.nodes.length ≤ g.nc) (hr : r < g.rules.length) :
    Calls Tryz.prog 181 #[askV g x, .int .i64 r] w fun e w' => (∃ v, e = .returned v ∧ BodAt w g r v) ∧ Below w.heap.size w w' := by
  obtain ⟨hb, h1, h2, h3⟩ := hl.beg r hr
  obtain ⟨rb, ro, eR, hrb, hRc⟩ := hg.rules (by omega)
  obtain ⟨nb, no, eN, hnb, _⟩ := hg.nodes (by omega)
  have BA := Lib.hid (fun c => BodAt.of (c := c) hg hl hr eN)
  have q0 := (hRc r hr).2
  rw [hb] at q0
  obtain ⟨lo, elo⟩ : ∃ lo, lo = begOf g r := ⟨_, rfl⟩
  obtain ⟨hi, ehi⟩ : ∃ hi, hi = endOf g r := ⟨_, rfl⟩
  rw [← elo] at q0 h1 h3
  rw [← ehi] at h1 h2
  rw [← elo, ← ehi] at BA
  have hn := hl.nodes
  have h32 := hl.n32
  by_cases h4 : r + 1 < g.rules.length
  · have q1 := (hRc (r + 1) h4).2
    rw [(hl.beg (r + 1) h4).1, show begOf g (r + 1) = hi by rw [ehi, endOf, if_pos h4]] at q1
    have Q0 := Lib.hid (fun o => ((B1 w o).cell (p := ⟨rb, ro + r * 2 + 1, none⟩) hrb).trans q0)
    have Q1 := Lib.hid (fun o => ((B1 w o).cell (p := ⟨rb, ro + (r + 1) * 2 + 1, none⟩) hrb).trans q1)
    clear hg hl hRc q0 q1 elo ehi hb
    obtain ⟨m, em⟩ : ∃ m, m = g.nodes.length := ⟨_, rfl⟩
    obtain ⟨k, ek⟩ : ∃ k, k = g.rules.length := ⟨_, rfl⟩
    show Calls Tryz.prog 181 #[.agg #[.slice g.RA g.rules.length g.rc, .slice g.NA g.nodes.length g.nc, .int .i64 x], .int .i64 r] w _
    rw [eR, eN, ← em, ← ek]
    rw [← em] at h2 h3 hc hn
    rw [← ek] at hr h4 h32
    clear em ek eR eN
    have hr4 : (r : Int) + 1 < k := by omega
    have hlo : (lo : Int) ≤ hi := by omega
    have hhi : (hi : Int) ≤ g.nc := by omega
    go_enter Tryz.func181, Tryz.ntmps181
    have q0 := Q0.out
    have q1 := Q1.out
    go_wp2_with fail
    go_quiet (fail)
    go_wp2_with fail
    go_ret
    exact ⟨⟨_, rfl, BA.out _⟩, bdrewN (B1 _ _)⟩
  · have e2 : hi = g.nodes.length := by rw [ehi, endOf, if_neg h4]
    have Q0 := Lib.hid (fun o => ((B1 w o).cell (p := ⟨rb, ro + r * 2 + 1, none⟩) hrb).trans q0)
    clear hg hl hRc q0 elo ehi hb
    obtain ⟨m, em⟩ : ∃ m, m = g.nodes.length := ⟨_, rfl⟩
    obtain ⟨k, ek⟩ : ∃ k, k = g.rules.length := ⟨_, rfl⟩
    show Calls Tryz.prog 181 #[.agg #[.slice g.RA g.rules.length g.rc, .slice g.NA g.nodes.length g.nc, .int .i64 x], .int .i64 r] w _
    rw [eR, eN, ← em, ← ek]
    rw [← em] at h2 h3 hc hn e2
    rw [← ek] at hr h4 h32
    obtain rfl := e2
    clear em ek eR eN
    have hr4 : ¬ (r : Int) + 1 < k := by omega
    have hlo : (lo : Int) ≤ hi := by omega
    have hhi : (hi : Int) ≤ g.nc := by omega
    go_enter Tryz.func181, Tryz.ntmps181
    have q0 := Q0.out
    go_wp2_with fail
    go_quiet (fail)
    go_wp2_with fail
    go_ret
    exact ⟨⟨_, rfl, BA.out _⟩, bdrewN (B1 _ _)⟩
end Go.Proofs.YtfghfnpiaccfaaaGreatDoor.J
namespace Go.Proofs.YtfghfnpiaccfaaaGreatDoor.J
open Go Go.RowKit Go.Shelf
attribute [local go_sem] Oper.semAt_some
theorem calOf_take {l : List Nd} {i : Nat} (hi : i < l.length) : calOf (l.take (i + 1)) = if isCall (l.getD i Nd.zero) then calOf (l.take i) ++ [(l.getD i Nd.zero).rule.toNat] else calOf (l.take i) := by
  rw [List.take_add_one, List.getElem?_eq_getElem hi, Option.toList_some, calOf_app, calOf_one, show l.getD i Nd.zero = l[i] by simp [List.getD, List.getElem?_eq_getElem hi]]
  split <;> simp
theorem calOf_pre {l : List Nd} {i : Nat} (hi : i < l.length) (hc : isCall (l.getD i Nd.zero) = true) : (calOf (l.take i)).length < (calOf l).length ∧ (calOf l).getD (calOf (l.take i)).length 0 = (l.getD i Nd.zero).rule.toNat := by
  have e : calOf l = calOf (l.take (i + 1)) ++ calOf (l.drop (i + 1)) := by rw [← calOf_app, List.take_append_drop]
  rw [calOf_take hi, if_pos hc] at e
  rw [e]
  refine ⟨by simp, ?_⟩
  simp [List.getD, List.getElem?_append]
theorem calOf_le (l : List Nd) : (calOf l).length ≤ l.length := by rw [calOf, List.length_map]; exact List.length_filter_le _ _
theorem calls_any (g : Gr) (x r : Nat) (w : World) : Calls Tryz.prog 127 #[askV g x, .int .i64 r] w fun e w' => e = .returned (.func (.func 180) #[] #[.pointer (some ⟨w.heap.size, 0, none⟩), .pointer (some ⟨w.heap.size + 1, 0, none⟩)]) ∧ w' = (w.alloc (.cells (askC g x) 126)).alloc (.cells #[.int .i64 r] 3) := by
  show Calls Tryz.prog 127 #[.agg #[.slice g.RA g.rules.length g.rc, .slice g.NA g.nodes.length g.nc, .int .i64 x], .int .i64 r] w _
  go_enter Tryz.func127, Tryz.ntmps127
  go_wp2_with fail
  go_ret
  exact ⟨rfl, rfl⟩
theorem _root_.Go.Proofs.YtfghfnpiaccfaaaGreatDoor.Nodes.holds {w w' : World} {G : Nat → Prop} {A : Option Addr} {l : List Nd} (h : Nodes w A l) (hl : Holds G w w') (hg : ∀ b o, A = some ⟨b, o, none⟩ → 0 < l.length → G b) : Nodes w' A l := by
  intro h0
  obtain ⟨b, o, e, hb, hc⟩ := h h0
  exact ⟨b, o, e, Nat.lt_of_lt_of_le hb hl.size, fun i hi j hj => (World.cell?_of_block (a := ⟨b, o + i * 9 + j, none⟩) (hl.block b (hg b o e h0))).trans (hc i hi j hj)⟩
set_option maxRecDepth 100000 in
set_option maxHeartbeats 4000000 in
theorem calls_in (n : Nat) (hn : 6 ≤ n) (l p q : Nat) (g : Gr) (x r : Nat) (hl : Lain g) (hcap : g.nodes.length ≤ g.nc) (hr : r < g.rules.length) (G : Nat → Prop) (hG : ∀ b o, g.NA = some ⟨b, o, none⟩ → G b) (J Jx : Nat → World → Prop) (hJ : Grw J)
    (B : Nat) (hY : ∀ k W1, J k W1 → B ≤ W1.heap.size → k < (cal g r).length → YieldAt Fence.wide (n - 1) Tryz.prog l #[.int .i64 ((cal g r).getD k 0 : Nat)] W1 fun e W' =>
      (e = .returned (.bool true) ∧ J (k + 1) W' ∧ Holds G W1 W') ∨ (e = .returned (.bool false) ∧ Jx (k + 1) W' ∧ W1.heap.size ≤ W'.heap.size))
    (W : World) (hB : B ≤ W.heap.size) (hp : Blk W p (askC g x) 126) (hq : Blk W q #[.int .i64 r] 3) (hg : Gr.At W g) (h0 : J 0 W) :
    CallsIn Fence.wide n Tryz.prog 180 #[.func (.yield l) #[] #[], .pointer (some ⟨p, 0, none⟩), .pointer (some ⟨q, 0, none⟩)] W fun e W' => (∃ v, e = .returned v) ∧ (J (cal g r).length W' ∨ ∃ k, k ≤ (cal g r).length ∧ Jx k W') := by
  have c0 := hp.cell 0
  have c1 := hp.cell 1
  have c2 := hp.cell 2
  have d0 := hq.cell 0
  simp only [List.getElem?_toArray, List.getElem?_cons_zero, List.getElem?_cons_succ] at c0 c1 c2 d0
  have hm : (bodOf g r).length ≤ 2048 := by have := hl.beg r hr; have := hl.nodes; rw [bodOf_len hl hr]; omega
  have hcl : ∀ y ∈ bodOf g r, y.kind = 5 → y.rule = (y.rule.toNat : Nat) := fun y hy hk => (hl.call y (List.mem_of_mem_drop (List.mem_of_mem_take hy)) hk).1
  have BD := Lib.hid (fun (W' : World) (b : Below W.heap.size W W') => body_any g x r W' (hg.below b) hl hcap hr)
  have H0 := Lib.hid h0
  have HY := Lib.hid hY
  have HB := Lib.hid hB
  have HG := Lib.hid hG
  have HJ := Lib.hid hJ
  have HCL := Lib.hid hcl
  have EC : RowKit.Hid (cal g r = calOf (bodOf g r)) := Lib.hid rfl
  clear hp hq hg h0 hY hB hG hJ hl hcap hr hcl
  generalize cal g r = cs at HY EC ⊢
  unfold BodAt at BD
  generalize bodOf g r = l0 at BD HCL EC hm
  refine callsIn_of_wp Tryz.func180 rfl trivial ?_ rfl
  simp only [Tryz.ntmps180, List.size_toArray, List.length_cons, List.length_nil, Nat.reduceAdd, Nat.reduceSub, Array.replicate_succ, Array.replicate_zero, List.push_toArray, List.append_toArray, List.nil_append, List.cons_append]
  gi_wp2_with (refine ⟨trivial, fun _ => by omega, ?_⟩; gi_at_call 181; (with_reducible refine CallsIn.mono (callsIn_wide.2 (BD.out _ (Below.refl _ _))) ?_); rintro e w1 ⟨⟨v, rfl, b, o, o', c, rfl, eN, hN⟩, hb1⟩; have N1 := Lib.hid (hN.below hb1); have B1' := Lib.hid hb1; have EN := Lib.hid eN; clear hN hb1 eN c0 c1 c2 d0)
  obtain ⟨m, em⟩ : ∃ m, m = l0.length := ⟨_, rfl⟩
  rw [← em] at hm ⊢
  have EM := Lib.hid em
  clear em
  gi_loopw [10] (fun i wr => ∃ k : Nat, k ≤ m ∧ i = .int .i64 k ∧ J (calOf (l0.take k)).length wr ∧ Nodes wr (some ⟨b, o, none⟩) l0 ∧ B ≤ wr.heap.size)
    (fun i _ => m - (intOf i).toNat)
  case atStart => exact ⟨0, by omega, by go_num, HJ.out _ _ _ H0.out B1'.out, N1.out, Nat.le_trans HB.out B1'.out.size⟩
  case round =>
    obtain ⟨k, hk, rfl, hJ, hx, hz⟩ := hrel
    by_cases hlt : k < m
    · have hlt2 : (k : Int) < m := by omega
      have hkl : k < l0.length := by have := EM.out; omega
      obtain ⟨b1, o1, eA, _, n1, n2, n3, n4, n5, n6, n7, n8, n9⟩ := hx.nine hkl
      cases eA
      have CT := Lib.hid (calOf_take hkl)
      have CP := Lib.hid (calOf_pre hkl)
      have hcx := HCL.out (l0.getD k Nd.zero) (getD_mem hkl)
      generalize l0.getD k Nd.zero = y at CT CP n1 n2 n3 n4 n5 n6 n7 n8 n9 hcx
      have HHJ := Lib.hid hJ
      have HXX := Lib.hid hx
      have HZ := Lib.hid hz
      clear hJ hx hz
      by_cases h5 : y.kind = 5
      · have hc5 : (y.kind == 5) = true := by simpa using h5
        have CPP := Lib.hid (CP.out (by simpa [isCall] using h5))
        have CTT := Lib.hid (CT.out.trans (if_pos (by simpa [isCall] using h5)))
        have er := hcx h5
        have h5' := HY.out _ (wr.alloc (.cells #[.int .i64 y.kind, .int .u64 y.c0, .int .u64 y.c1, .int .u64 y.c2, .int .u64 y.c3, .string y.text, .int .i64 y.rule, .int .i64 y.level, .slice y.A y.kids.length y.cap] 48)) (HJ.out _ _ _ HHJ.out (B1 _ _)) (by have := HZ.out; simp; omega) (by rw [EC.out]; exact CPP.out.1)
        rw [EC.out, CPP.out.2, ← er] at h5'
        obtain ⟨fn, tmps, assign, body, hy, hR⟩ := h5'
        have HR := Lib.hid hR
        clear hR
        have E5 := Lib.hid h5
        have ER := Lib.hid er
        clear CT CP hcx h5 er
        gi_wp2_with fail
        refine ⟨fun _ => by omega, HR.out.mono ?_⟩
        clear hy n1 n2 n3 n4 n5 n6 n7 n8 n9
        rintro e W3 (⟨rfl, hJ3, hl3⟩ | ⟨rfl, hJx3, hz3⟩)
        · have HX3 := Lib.hid ((HXX.out.below (B1 wr _)).holds hl3 (fun b1 o1 e1 _ => by cases e1; exact HG.out _ _ EN.out))
          have HJ3 := Lib.hid hJ3
          have HZ3 : RowKit.Hid (B ≤ W3.heap.size) := Lib.hid (by have := HZ.out; have := hl3.size; simp at this; omega)
          clear hJ3 hl3
          gi_wp2_with fail
          go_roundw
          case rel => exact ⟨k + 1, by omega, by go_num, by rw [CTT.out, List.length_append]; exact HJ3.out, HX3.out, HZ3.out⟩
          case measure => simp [intOf]; omega
        · have HJ3 := Lib.hid hJx3
          clear hJx3 hz3
          gi_wp2_with fail
          refine bodyPost_ret (results_none rfl _ _ _) rfl ?_
          exact ⟨⟨_, rfl⟩, .inr ⟨_, by rw [EC.out]; exact CPP.out.1, HJ3.out⟩⟩
      · have hc5 : (y.kind == 5) = false := by simpa using h5
        have CTT := Lib.hid (CT.out.trans (if_neg (by simpa [isCall] using h5)))
        clear CT CP hcx h5
        gi_wp2_with fail
        refine ⟨(fun f h => by cases h), ?_⟩
        gi_wp2_with fail
        go_roundw
        case rel => exact ⟨k + 1, by omega, by go_num, by rw [CTT.out]; exact HJ.out _ _ _ HHJ.out (B1 _ _), HXX.out.below (B1 _ _), by have := HZ.out; simp; omega⟩
        case measure => simp [intOf]; omega
    · obtain rfl : k = m := by omega
      have HJ3 : RowKit.Hid (J cs.length wr) := Lib.hid (by rw [EC.out, ← List.take_length (l := l0), ← EM.out]; exact hJ)
      have hneg : ¬ (k : Int) < k := by omega
      clear hJ hx hz
      gi_wp2_with fail
      go_end0
      exact ⟨⟨_, rfl⟩, .inl HJ3.out⟩
end Go.Proofs.YtfghfnpiaccfaaaGreatDoor.J
namespace Go.Proofs.YtfghfnpiaccfaaaGreatDoor.J
open Go Go.RowKit Go.Shelf
attribute [local go_sem] Oper.semAt_some
theorem calls_seq (n : Nat) (hn : 6 ≤ n) (p q : Nat) (g : Gr) (x r : Nat) (hl : Lain g) (hcap : g.nodes.length ≤ g.nc) (hr : r < g.rules.length) (G : Nat → Prop) (hG : ∀ b o, g.NA = some ⟨b, o, none⟩ → G b) (w : World)
    (hp : Blk w p (askC g x) 126) (hq : Blk w q #[.int .i64 r] 3) (hg : Gr.At w g) :
    SeqG n Tryz.prog 180 #[.pointer (some ⟨p, 0, none⟩), .pointer (some ⟨q, 0, none⟩)] (fun k => #[.int .i64 ((cal g r).getD k 0 : Nat)]) (cal g r).length G w :=
  fun l J Jx W hW hJ hJx hY h0 => calls_in n hn l p q g x r hl hcap hr G hG J Jx hJ W.heap.size (fun k W1 h1 h2 h3 => hY k W1 h1 h2 h3) W (Nat.le_refl _) (hp.below' hW) (hq.below' hW) (hg.below hW) h0
theorem blk_put {w : World} {b d : Nat} {vs : Array Value} {T : TypeId} {lp : Loop} (h : Blk w d vs T) (hl : w.heap[b]? = some (.loop lp)) (o : Obj) : Blk (w.putObj b o) d vs T :=
  (World.putObj_heap_other (fun e => by subst e; have h' : w.heap[d]? = _ := h; rw [hl] at h'; cases h')).trans h
theorem results_cellv {P : Program} {fn : Func} {p : Tmp} {ty : TypeId} (h : fn.results = #[.cell p ty]) (tmps : Array Value) (w : World) (g : Nat) (v : Value) (hp : tmps.getD p undef = .pointer (some ⟨g, 0, none⟩)) (hc : w.cell? ⟨g, 0, none⟩ = some v) (ha : ∀ w, (isAgg ty).run P w = .ok false w) : (results fn tmps).run P w = .ok v w := by
  have hp' : tmps[p]?.getD undef = .pointer (some ⟨g, 0, none⟩) := by simpa using hp
  simp [results, h, hp', go_sem, hc, ha]
set_option maxRecDepth 100000 in
set_option maxHeartbeats 4000000 in
theorem does_any (g : Gr) (x a b : Nat) (w : World) (hg : Gr.At w g) (hl : Lain g) (hcap : g.nodes.length ≤ g.nc) (ha : a < g.rules.length) :
    Calls Tryz.prog 126 #[askV g x, .int .i64 a, .int .i64 b] w fun e w' => e = .returned (.bool (doesB g a b)) ∧ Below w.heap.size w w' := by
  obtain ⟨W3, eW3⟩ : ∃ u, u = ((w.alloc (.cells (askC g x) 126)).alloc (.cells #[.int .i64 b] 3)).alloc (.cells #[.bool false] 4) := ⟨_, rfl⟩
  have hs3 : W3.heap.size = w.heap.size + 3 := by rw [eW3]; simp
  have b3 : Below w.heap.size w W3 := by rw [eW3]; exact (B2 _ _ _).alloc (by simp; omega) _
  have k1 : Blk W3 w.heap.size (askC g x) 126 := by rw [eW3]; exact ((Blk.new w _ _).alloc _).alloc _
  have k2 : Blk W3 (w.heap.size + 1) #[.int .i64 b] 3 := by
    rw [eW3]; have := (Blk.new (w.alloc (.cells (askC g x) 126)) #[.int .i64 b] 3).alloc (.cells #[.bool false] 4); rw [World.size_alloc] at this; exact this
  have k3 : Blk W3 (w.heap.size + 1 + 1) #[.bool false] 4 := by
    rw [eW3]; have := (Blk.new ((w.alloc (.cells (askC g x) 126)).alloc (.cells #[.int .i64 b] 3)) #[.bool false] 4); rw [World.size_alloc, World.size_alloc] at this; exact this
  obtain ⟨wl, ewl⟩ : ∃ u, u = (W3.alloc (.cells (askC g x) 126)).alloc (.cells #[.int .i64 a] 3) := ⟨_, rfl⟩
  have bl : Below W3.heap.size W3 wl := by rw [ewl]; exact B2 _ _ _
  have hz : wl.heap.size = w.heap.size + 5 := by rw [ewl]; simp; omega
  have kp : Blk wl (w.heap.size + 3) (askC g x) 126 := by
    rw [ewl, ← hs3]; exact (Blk.new _ _ _).alloc _
  have kq : Blk wl (w.heap.size + 3 + 1) #[.int .i64 a] 3 := by
    rw [ewl, ← hs3]; have := Blk.new (W3.alloc (.cells (askC g x) 126)) #[.int .i64 a] 3; rw [World.size_alloc] at this; exact this
  have c1 : W3.cell? ⟨w.heap.size, 0, none⟩ = some (.slice g.RA g.rules.length g.rc) := k1.cell 0
  have c2 : W3.cell? ⟨w.heap.size, 1, none⟩ = some (.slice g.NA g.nodes.length g.nc) := k1.cell 1
  have c3 : W3.cell? ⟨w.heap.size, 2, none⟩ = some (.int .i64 x) := k1.cell 2
  have H := Lib.hid (And.intro hs3 (And.intro b3 (And.intro (k2.below' bl) (And.intro (k3.below' bl) (And.intro bl hz)))))
  have SQ := Lib.hid (calls_seq 11 (by omega) (w.heap.size + 3) (w.heap.size + 3 + 1) g x a hl hcap ha (fun k => k < w.heap.size) (fun b' o e => by
    obtain ⟨_, _, _, h4⟩ := hl.beg a ha
    obtain ⟨b1, o1, e1, hb1, _⟩ := hg.nodes (by omega)
    rw [e] at e1; cases e1; exact hb1) wl kp kq (hg.below (b3.trans (bl.mono (by omega)))))
  have DB : RowKit.Hid (doesB g a b = decide (b ∈ cal g a)) := Lib.hid rfl
  have E3 := Lib.hid eW3
  have EL := Lib.hid ewl
  have HS := Lib.hid hs3
  clear k1 k2 k3 b3 bl hz kp kq hg hl hcap ha
  generalize hcs : cal g a = cs at SQ DB
  clear hcs
  have c1' := Lib.hid c1
  clear hs3
  refine (callsIn_wide (n := 12)).1 ?_
  show CallsIn _ _ Tryz.prog 126 #[.agg #[.slice g.RA g.rules.length g.rc, .slice g.NA g.nodes.length g.nc, .int .i64 x], .int .i64 a, .int .i64 b] w _
  refine callsIn_of_wp_marks Tryz.func126 rfl trivial ?_ rfl
  simp only [Tryz.ntmps126, List.size_toArray, List.length_cons, List.length_nil, Nat.reduceAdd, Nat.reduceSub, Array.replicate_succ, Array.replicate_zero, List.push_toArray, List.append_toArray, List.nil_append, List.cons_append]
  refine wpIn_wide.2 ?_
  rw [eW3] at c1 c2 c3
  go_wp2_with (first | (go_at_call 127; refine (calls_any g x a _).mono ?_; rintro e w8 ⟨rfl, rfl⟩))
  rw [← E3.out, ← EL.out]
  clear c1 c2 c3 eW3 ewl c1'
  obtain ⟨hs3, hb3, k2, k3, bl, hz⟩ := H.out
  refine (wpIn_wide (n := 12)).1 ?_
  refine wpIn_rangeFunc_g (n := 12) (by omega) (gf := 180) (lb := #[.pointer (some ⟨w.heap.size + 3, 0, none⟩), .pointer (some ⟨w.heap.size + 3 + 1, 0, none⟩)]) (by rw [← HS.out]; rfl) (enters_of Tryz.func180 (by kernel_rfl) rfl)
    SQ.out (Below.refl _ _) (fun _ => rfl) (fun k h => by omega)
    (fun k W => Below wl.heap.size wl W ∧ ∀ j, j < k → cs.getD j 0 ≠ b) (fun cd _ W => cd = .ret ∧ Blk W (w.heap.size + 1 + 1) #[.bool true] 4 ∧ Below w.heap.size w W ∧ b ∈ cs) ?gi ?gx ?ai ?ax ⟨Below.refl _ _, fun j h => absurd h (by omega)⟩
    (fun k => { tmps := #[.agg #[.slice g.RA g.rules.length g.rc, .slice g.NA g.nodes.length g.nc, .int .i64 x], .int .i64 a, .int .i64 b, .pointer (some ⟨w.heap.size, 0, none⟩), undef, .pointer (some ⟨w.heap.size + 1, 0, none⟩), .pointer (some ⟨w.heap.size + 1 + 1, 0, none⟩), .int .i64 (cs.getD k 0 : Nat), .agg #[.slice g.RA g.rules.length g.rc, .slice g.NA g.nodes.length g.nc, .int .i64 x], .int .i64 a, .func (.func 180) #[] #[.pointer (some ⟨w.heap.size + 1 + 1 + 1, 0, none⟩), .pointer (some ⟨w.heap.size + 1 + 1 + 1 + 1, 0, none⟩)], .int .i64 (cs.getD k 0 : Nat), undef, undef, undef], defers := [] }) ?assign ?body ?done ?stop
  case gi => rintro s A A' ⟨h1, h2⟩ hb; exact ⟨h1.trans (hb.mono h1.size), h2⟩
  case gx => rintro cd s A A' ⟨h1, h2, h3, h4⟩ hb; exact ⟨h1, h2.below' hb, h3.trans (hb.mono h3.size), h4⟩
  case ai => rintro s b' A lp o hb' ⟨h1, h2⟩ hl; exact ⟨h1.trans (below_putObj A b' _ o hb'), h2⟩
  case ax => rintro cd s b' A lp o hb' ⟨h1, h2, h3, h4⟩ hl; exact ⟨h1, blk_put h2 hl o, h3.trans (below_putObj A b' _ o (by omega)), h4⟩
  case assign =>
    intro l2 k W K hK
    gi_wp2
    simp only [List.getD_eq_getElem?_getD] at hK ⊢
    exact hK
  case body =>
    rintro l2 k W ⟨hb, hne⟩ hsz hD hL hk
    have c2 : W.cell? ⟨w.heap.size + 1, 0, none⟩ = some (.int .i64 b) := (k2.below' hb).cell 0
    have c3 : W.cell? ⟨w.heap.size + 1 + 1, 0, none⟩ = some (.bool false) := (k3.below' hb).cell 0
    have f3 := (k3.below' hb).frozen 0
    have K3 := Lib.hid (k3.below' hb)
    have HB := Lib.hid hb
    have NEQ := Lib.hid hne
    have HK := Lib.hid hk
    have HZ := Lib.hid hz
    have HB3 := Lib.hid hb3
    have BL := Lib.hid bl
    have MEM := Lib.hid (show cs.getD k 0 ∈ cs from getD_mem hk)
    have EQ := Lib.hid (show ∀ j, j < k + 1 → j < k ∨ j = k from fun j h => by omega)
    generalize hcd : cs.getD k 0 = c at MEM ⊢
    have HCD := Lib.hid hcd
    clear hb hne hsz hD hL hk k2 k3 bl hz hb3 hs3 hcd
    by_cases hcb : c = b
    · have hcb2 : ((c : Int) == (b : Int)) = true := by simp; omega
      gi_wp2_with fail
      have kB : Blk (W.setCell ⟨w.heap.size + 1 + 1, 0, none⟩ (.bool true)) (w.heap.size + 1 + 1) #[.bool true] 4 := heap_setCell_same W (w.heap.size + 1 + 1) 0 #[.bool false] 4 _ K3.out
      have hwB : Below w.heap.size w W := HB3.out.trans ((BL.out.trans (HB.out.mono BL.out.size)).mono HB3.out.size)
      have hz := HZ.out
      refine ⟨⟨by simp [World.setCell], fun j hj => heap_setCell_other W ⟨w.heap.size + 1 + 1, 0, none⟩ j _ ?_⟩, rfl, kB, hwB.setCell (p := ⟨w.heap.size + 1 + 1, 0, none⟩) (by show w.heap.size ≤ w.heap.size + 1 + 1; omega) _, by rw [← hcb]; exact MEM.out⟩
      show j ≠ w.heap.size + 1 + 1
      rcases hj with hj | hj <;> omega
    · have hcb2 : ((c : Int) == (b : Int)) = false := by simp; omega
      gi_wp2_with fail
      refine ⟨⟨Nat.le_refl _, fun _ _ => rfl⟩, HB.out, fun j hj => ?_⟩
      rcases EQ.out j hj with h | rfl
      · exact NEQ.out j h
      · rw [HCD.out]; exact hcb
  case done =>
    rintro D W hD ⟨hb, hne⟩ hK
    have c3 : W.cell? ⟨w.heap.size + 1 + 1, 0, none⟩ = some (.bool false) := (k3.below' hb).cell 0
    have f3 := (k3.below' hb).frozen 0
    obtain ⟨W2, eW2⟩ : ∃ u, u = W.setCell ⟨w.heap.size + 1 + 1, 0, none⟩ (.bool false) := ⟨_, rfl⟩
    have kB : Blk W2 (w.heap.size + 1 + 1) #[.bool false] 4 := by rw [eW2]; exact heap_setCell_same W (w.heap.size + 1 + 1) 0 #[.bool false] 4 _ (k3.below' hb)
    have hwB : Below w.heap.size w W2 := by
      rw [eW2]
      exact (hb3.trans ((bl.trans (hb.mono bl.size)).mono hb3.size)).setCell (p := ⟨w.heap.size + 1 + 1, 0, none⟩) (by show w.heap.size ≤ w.heap.size + 1 + 1; omega) _
    have hKD : W2.heap[D]? = some (.deferred (some [])) := by rw [eW2]; exact (heap_setCell_other W ⟨w.heap.size + 1 + 1, 0, none⟩ D _ (by show D ≠ w.heap.size + 1 + 1; omega)).trans hK
    have HC := Lib.hid (And.intro kB (And.intro hwB hKD))
    have EW := Lib.hid eW2
    have HN : RowKit.Hid (w.heap.size + 1 + 1 ≠ D ∧ w.heap.size ≤ D) := Lib.hid (by omega)
    have NM : RowKit.Hid (decide (b ∈ cs) = false) := Lib.hid (by
      simp only [decide_eq_false_iff_not]
      intro hm
      obtain ⟨j, hj, e⟩ := List.mem_iff_getElem.1 hm
      exact hne j hj (by simp [List.getD, List.getElem?_eq_getElem hj, e]))
    clear hb hne hK eW2 kB hwB hKD k2 k3 bl hz hb3 hs3
    go_wp2_with fail
    rw [← EW.out]
    obtain ⟨q1, q2, q3⟩ := HC.out
    have n1 := HN.out
    refine ⟨by simp, .inl ⟨_, _, rfl, run_takeDeferred q3, ?_⟩⟩
    have z1 : Blk (W2.putObj D (.deferred none)) (w.heap.size + 1 + 1) #[.bool false] 4 := (World.putObj_heap_other n1.1).trans q1
    exact ⟨_, results_cellv rfl _ _ _ _ rfl (z1.cell 0) (fun w => Tryz.isAgg4 w), by rw [DB.out, NM.out]; rfl, q2.trans (below_putObj _ D _ _ n1.2)⟩
  case stop =>
    rintro D cd k W hD hk ⟨rfl, h2, h3, h4⟩ hK
    have HN : RowKit.Hid (w.heap.size + 1 + 1 ≠ D ∧ w.heap.size ≤ D) := Lib.hid (by omega)
    have HC := Lib.hid (And.intro h2 (And.intro h3 h4))
    have HD := Lib.hid hK
    clear h2 h3 h4 hK k2 k3 bl hz hb3 hs3
    gi_wp2
    obtain ⟨q1, q2, q3⟩ := HC.out
    have n1 := HN.out
    refine ⟨by simp, .inl ⟨_, _, rfl, run_takeDeferred HD.out, ?_⟩⟩
    have z1 : Blk (W.putObj D (.deferred none)) (w.heap.size + 1 + 1) #[.bool true] 4 := (World.putObj_heap_other n1.1).trans q1
    exact ⟨_, results_cellv rfl _ _ _ _ rfl (z1.cell 0) (fun w => Tryz.isAgg4 w), by rw [DB.out, decide_eq_true q3]; rfl, q2.trans (below_putObj _ D _ _ n1.2)⟩
end Go.Proofs.YtfghfnpiaccfaaaGreatDoor.J

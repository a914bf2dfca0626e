/- The law of Rg with a table of facts: 'is v' or a fact that stays while the world grows. Nothing here speaks of one program. -/
import Derived.Test.YtlbjmkljmhfjdaaGreatC1
import Derived.Test.YtlbjmkljmhfjdaaGreatA1
import Derived.Test.YtlbjmkljmhfjdaaGreatA7
import Derived.Test.YtlbjmkljmhfjdaaGreatB3
import Derived.Shelf.Pu.Clone
import Derived.Deep.MidRow
set_option linter.unusedSimpArgs false
set_option linter.unusedVariables false
namespace Go.Proofs.YtlbjmkljmhfjdaaGreat
open Go Go.RowKit

/-- A fact on a value that stays true while the world only grows. -/
structure Stay where
  holds : Value → World → Prop
  mono : ∀ v w w', Below w.heap.size w w' → holds v w → holds v w'
inductive Sp where
  | is (v : Value)
  | st (p : Stay)
def Sp.holds : Sp → Value → World → Prop
  | .is v, x, _ => x = v
  | .st p, x, w => p.holds x w
theorem Sp.mono (p : Sp) (v : Value) (w w' : World) (h : Below w.heap.size w w') (hp : p.holds v w) : p.holds v w' := by
  cases p with
  | is u => exact hp
  | st p => exact p.mono v w w' h hp

/-- The table's row, 'undef' for an operation that is passed over. -/
def rowOf (tbl : List (Option Sp)) (j : Nat) : Sp := match tbl[j]? with | some (some p) => p | _ => .is undef
def goes (tbl : List (Option Sp)) (j : Nat) : Bool := match tbl[j]? with | some (some _) => true | _ => false
def spBool : Sp → Option (Option Bool)
  | .is (.bool b) => some (some b)
  | .is (.tuple _) => some none
  | _ => none
theorem spBool_spec {p : Sp} {x : Option Bool} (h : spBool p = some x) (v : Value) (w : World) (hv : p.holds v w) : match x with | some b => v = .bool b | none => ∀ b, v ≠ .bool b := by
  cases p with
  | st p => simp [spBool] at h
  | is u =>
    have hv' : v = u := hv
    subst hv'
    cases v <;> simp [spBool] at h
    · subst h; rfl
    · subst h; intro b hb; cases hb

/-- THE GUARDS FIT THE TABLE. -/
def guardsB (ops : Array Oper) (tbl : List (Option Sp)) : Bool :=
  (List.range ops.size).all fun j => match ops[j]? with
    | none => true
    | some o => match o.guard with
      | none => goes tbl j
      | some (g, b) => match spBool (rowOf tbl g) with
        | some (some x) => if goes tbl j then x == b else x != b
        | some none => !goes tbl j
        | none => false

section
variable {P : Program} {Q : Exit → Act → World → Prop}

/-- What is owed for one operation. -/
def Owed (P : Program) (ops : Array Oper) (tbl : List (Option Sp)) (S : World → Prop) (a0 : Act) (j : Nat) (o : Oper) : Prop :=
  goes tbl j = true → ∀ (a : Act) (w : World), S w → (∀ t, writesB ops t = false → a.eval (.tmp t) = a0.eval (.tmp t)) →
    (∀ (i : Nat) (p : Oper) (t : Tmp), ops[i]? = some p → p.dst = some t → (o.looksAt ops).contains t = true → (rowOf tbl i).holds (a.eval (.tmp t)) w) →
    Gives P (fun v w' => Below w.heap.size w w' ∧ (rowOf tbl j).holds v w') ((execOp a.eval o).run P w)
def OwedAll (P : Program) (ops : Array Oper) (tbl : List (Option Sp)) (S : World → Prop) (a0 : Act) : Nat → List Oper → Prop
  | _, [] => True
  | j, o :: os => Owed P ops tbl S a0 j o ∧ OwedAll P ops tbl S a0 (j + 1) os
theorem owedAll_at {ops : Array Oper} {tbl : List (Option Sp)} {S : World → Prop} {a0 : Act} (l : List Oper) : ∀ (k : Nat), OwedAll P ops tbl S a0 k l → ∀ (j : Nat) (o : Oper), l[j]? = some o → Owed P ops tbl S a0 (k + j) o := by
  induction l with
  | nil => intro k _ j o ho; simp at ho
  | cons o' os ih =>
    intro k h j o ho
    cases j with
    | zero => simp at ho; subst ho; exact h.1
    | succ j =>
      have := ih (k + 1) h.2 j o (by simpa using ho)
      have e : k + (j + 1) = k + 1 + j := by omega
      rw [e]; exact this

theorem wp_region_table {id : Nat} {l : List Oper} {a0 : Act} {w0 : World} (tbl : List (Option Sp)) (hm : P.follows .mixedOrders = true)
    (hs : shapeB l.toArray = true) (hgd : guardsB l.toArray tbl = true) (hin : (l.all fun o => match o.dst with | some d => decide (d < a0.tmps.size) | none => true) = true)
    (hop : OwedAll P l.toArray tbl (fun w => Below w0.heap.size w0 w) a0 0 l)
    (hend : ∀ (a : Act) (w : World), Below w0.heap.size w0 w → a.tmps.size = a0.tmps.size → a.defers = a0.defers →
      (∀ (i : Nat) (o : Oper) (d : Tmp), l[i]? = some o → o.dst = some d → (rowOf tbl i).holds (a.tmps.getD d undef) w) →
      (∀ t, writesB l.toArray t = false → a.tmps[t]? = a0.tmps[t]?) → Q .normal a w) :
    (Code.region id l.toArray true).wp P Q a0 w0 := by
  have gat : ∀ (j : Nat) (o : Oper), l.toArray[j]? = some o → match o.guard with
      | none => goes tbl j = true
      | some (g, b) => ∃ x, spBool (rowOf tbl g) = some x ∧ match x with | some x => if goes tbl j then x = b else x ≠ b | none => goes tbl j = false := by
    intro j o hj
    have := List.all_eq_true.1 hgd j (List.mem_range.2 (Array.getElem?_eq_some_iff.1 hj).1)
    rw [hj] at this
    dsimp only at this
    cases hg : o.guard with
    | none => rw [hg] at this; exact this
    | some gb =>
      obtain ⟨g, b⟩ := gb
      rw [hg] at this
      dsimp only at this ⊢
      cases hx : spBool (rowOf tbl g) with
      | none => rw [hx] at this; cases this
      | some x =>
        rw [hx] at this
        refine ⟨x, rfl, ?_⟩
        cases x with
        | none => simpa using this
        | some x =>
          dsimp only at this ⊢
          split <;> rename_i h <;> simp [h] at this <;> exact this
  refine wp_region_facts hm (fun j v w => (rowOf tbl j).holds v w) (goes tbl) (fun w => Below w0.heap.size w0 w) (fun w w' => Below w.heap.size w w') hs ?_ (fun i v w w' _ _ h => (rowOf tbl i).mono v w w' h) (fun w => Below.refl _ w) ?_ ?_ ⟨rfl, rfl, rfl, Nat.le_refl _, fun _ _ => rfl⟩ ?_ ?_ ?_
  · intro i o d hi hd
    have := List.all_eq_true.1 hin o (by simpa using List.mem_of_getElem? (by simpa using hi))
    rw [hd] at this
    simpa using this
  · intro j o g b hj hg v w hv
    have h := gat j o hj
    rw [hg] at h
    obtain ⟨x, hx, hb⟩ := h
    have := spBool_spec hx v w hv
    cases x with
    | none => dsimp only at hb this; rw [hb]; simpa using this b
    | some x =>
      dsimp only at hb this
      subst this
      split <;> rename_i hgo <;> simp [hgo] at hb
      · rw [hb]
      · intro e; cases e; exact hb rfl
  · intro j o hj hg
    have h := gat j o hj
    rw [hg] at h; exact h
  · intro j o hj hgo a w hS hun hdep
    have ho := owedAll_at l 0 hop j o (by simpa using hj)
    rw [Nat.zero_add] at ho
    have := ho hgo a w hS hun fun i p t hp ht hl => by
      obtain ⟨e, he, hb, rfl⟩ := (shape_at hs hj).2.2.1 t (by simpa using hl) i p hp ht
      exact hdep e he hb p t hp ht
    generalize (execOp a.eval o).run P w = r at this ⊢
    cases r with
    | halt x w' => exact this.elim
    | ok n w' =>
      cases n <;> simp only [Gives] at this ⊢
      case value v => exact ⟨hS.trans (this.1.mono hS.size), this.1, this.2⟩
      case skip => exact ⟨hS.trans (this.1.mono hS.size), this.1, this.2⟩
      case enter f args =>
        refine this.mono ?_
        rintro e w'' ⟨v, rfl, h1, h2⟩
        exact ⟨v, rfl, hS.trans (h1.mono hS.size), h1, h2⟩
  · intro j o hj hgo w
    have : rowOf tbl j = .is undef := by
      unfold goes at hgo; unfold rowOf
      cases h : tbl[j]? with
      | none => rfl
      | some p => cases p with
        | none => rfl
        | some p => rw [h] at hgo; cases hgo
    rw [this]; rfl
  · intro a w hS hz hd hf hr
    exact hend a w hS hz hd (fun i o d hi => hf i o d (by simpa using hi)) hr
/-- The frame behind the region: what it has written is f's. -/
def layArr (l : List Oper) (a0 : Act) (f : Nat → Value) : Array Value := ((List.range a0.tmps.size).map fun t => if writesB l.toArray t then f t else a0.tmps.getD t undef).toArray

theorem wp_region_lay {id : Nat} {l : List Oper} {a0 : Act} {w0 : World} (tbl : List (Option Sp)) (fr : (Nat → Value) → Array Value) (hm : P.follows .mixedOrders = true)
    (hs : shapeB l.toArray = true) (hgd : guardsB l.toArray tbl = true) (hin : (l.all fun o => match o.dst with | some d => decide (d < a0.tmps.size) | none => true) = true)
    (hfr : ∀ f, layArr l a0 f = fr f)
    (hop : OwedAll P l.toArray tbl (fun w => Below w0.heap.size w0 w) a0 0 l)
    (hend : ∀ (f : Nat → Value) (w : World), Below w0.heap.size w0 w → (∀ (i : Nat) (o : Oper) (d : Tmp), l[i]? = some o → o.dst = some d → (rowOf tbl i).holds (f d) w) →
      Q .normal { tmps := fr f, defers := a0.defers } w) :
    (Code.region id l.toArray true).wp P Q a0 w0 := by
  refine wp_region_table tbl hm hs hgd hin hop fun a w hB hz hd hf hr => ?_
  have e : a = { tmps := fr (fun t => a.tmps.getD t undef), defers := a0.defers } := by
    rw [← hfr, ← hd]
    cases a with
    | mk tmps defers =>
      congr 1
      dsimp only at hz hr ⊢
      unfold layArr
      apply Array.ext
      · simp [hz]
      · intro t h1 h2
        have ht : t < a0.tmps.size := by omega
        simp only [List.getElem_toArray, List.getElem_map, List.getElem_range]
        split
        · simp
        · rename_i hw
          have h := hr t (by simpa using hw)
          rw [Array.getElem?_eq_getElem h1, Array.getElem?_eq_getElem ht] at h
          rw [Option.some.inj h]
          simp
  rw [e]
  exact hend _ w hB hf
end
end Go.Proofs.YtlbjmkljmhfjdaaGreat
namespace Go.Proofs.YtlbjmkljmhfjdaaGreat
open Go Go.RowKit
/-- What the region's operations yield, put one by one. -/
def putOps : List Oper → (Nat → Value) → Act → Act
  | [], _, a => a
  | o :: os, f, a => putOps os f (match o.dst with | some d => a.put (some d) (f d) | none => a)
theorem putOps_defers : ∀ (l : List Oper) (f : Nat → Value) (a : Act), (putOps l f a).defers = a.defers
  | [], _, _ => rfl
  | o :: os, f, a => by
    unfold putOps
    rw [putOps_defers os f]
    cases o.dst <;> rfl
theorem putOps_size : ∀ (l : List Oper) (f : Nat → Value) (a : Act), (putOps l f a).tmps.size = a.tmps.size
  | [], _, _ => rfl
  | o :: os, f, a => by
    unfold putOps
    rw [putOps_size os f]
    cases o.dst <;> simp [Act.put]
theorem putOps_at : ∀ (l : List Oper) (f : Nat → Value) (a : Act) (t : Nat), t < a.tmps.size → (putOps l f a).tmps[t]? = if (l.any fun o => o.dst == some t) then some (f t) else a.tmps[t]?
  | [], _, _, _, _ => by simp [putOps]
  | o :: os, f, a, t, ht => by
    unfold putOps
    cases hd : o.dst with
    | none =>
      simp only [List.any_cons, hd]
      rw [putOps_at os f a t ht]
      simp
    | some d =>
      simp only [List.any_cons, hd]
      rw [putOps_at os f _ t (by simpa [Act.put] using ht)]
      by_cases hdt : d = t
      · subst hdt
        simp [Act.put, ht]
      · simp [Act.put, hdt]
theorem wp_region_puts {P : Program} {Q : Exit → Act → World → Prop} {id : Nat} {l : List Oper} {a0 : Act} {w0 : World} (tbl : List (Option Sp)) (hm : P.follows .mixedOrders = true)
    (hs : shapeB l.toArray = true) (hgd : guardsB l.toArray tbl = true) (hin : (l.all fun o => match o.dst with | some d => decide (d < a0.tmps.size) | none => true) = true)
    (hop : OwedAll P l.toArray tbl (fun w => Below w0.heap.size w0 w) a0 0 l)
    (hend : ∀ (f : Nat → Value) (w : World), Below w0.heap.size w0 w → (∀ (i : Nat) (o : Oper) (d : Tmp), l[i]? = some o → o.dst = some d → (rowOf tbl i).holds (f d) w) →
      Q .normal (putOps l f a0) w) :
    (Code.region id l.toArray true).wp P Q a0 w0 := by
  refine wp_region_table tbl hm hs hgd hin hop fun a w hB hz hd hf hr => ?_
  have e : a = putOps l (fun t => a.tmps.getD t undef) a0 := by
    cases a with
    | mk tmps defers =>
      have h2 : (putOps l (fun t => tmps.getD t undef) a0).defers = defers := (putOps_defers _ _ _).trans hd.symm
      have h1 : (putOps l (fun t => tmps.getD t undef) a0).tmps = tmps := by
        apply Array.ext_getElem?
        intro t
        by_cases ht : t < a0.tmps.size
        · rw [putOps_at _ _ _ _ ht]
          split
          · dsimp only at hz
            simp [Array.getD_eq_getD_getElem?, hz, ht]
          · rename_i hw
            exact (hr t (by simpa [writesB] using hw)).symm
        · dsimp only at hz
          rw [Array.getElem?_eq_none (by rw [putOps_size]; omega), Array.getElem?_eq_none (by omega)]
      cases hp : putOps l (fun t => tmps.getD t undef) a0 with
      | mk t2 d2 =>
        rw [hp] at h1 h2
        dsimp only at h1 h2 ⊢
        subst h1 h2
        rfl
  rw [e]
  exact hend _ w hB hf
end Go.Proofs.YtlbjmkljmhfjdaaGreat
namespace Go.Proofs.YtlbjmkljmhfjdaaGreat
open Go Go.RowKit
section
variable {P : Program} {ops : Array Oper} {Q : Exit → Act → World → Prop}
/-- What is known, the store's fact besides. -/
structure KnownS (ops : Array Oper) (Φ : Nat → Value → World → Prop) (S : World → Prop) (a0 : Act) (s i8 c : Nat) (Θ : Value → World → Prop) (listed : Array Bool) (a : Act) (w : World) : Prop where
  k : Known ops Φ S a0 listed a w
  fin : listed.getD s true = true → listed.getD i8 true = true ∧ Θ (a.tmps.getD c undef) w
theorem wp_region_store {id : Nat} {a0 : Act} {w0 : World} (hm : P.follows .mixedOrders = true) (Φ : Nat → Value → World → Prop) (S : World → Prop) (R : World → World → Prop) (s i8 c : Nat) (Θ : Value → World → Prop)
    (hs : shapeB ops = true) (hin : ∀ (i : Nat) (o : Oper) (d : Tmp), ops[i]? = some o → o.dst = some d → d < a0.tmps.size)
    (hng : ∀ (j : Nat) (o : Oper), ops[j]? = some o → o.guard = none)
    (hz : s < ops.size ∧ i8 < ops.size) (hsd : ∀ o, ops[s]? = some o → o.dst = none ∧ ∃ e ∈ o.after, Region.binds .any e = true ∧ e.on = i8) (h8 : ∀ o, ops[i8]? = some o → o.dst = some c)
    (hmono : ∀ i v w w', R w w' → Φ i v w → Φ i v w') (hB : ∀ w w', Below w.heap.size w w' → R w w') (hΘ : ∀ v w w', Below w.heap.size w w' → Θ v w → Θ v w') (hΦs : ∀ v w, Φ s v w)
    (hS : S { w0 with drawn := w0.drawn + 1 })
    (hop : ∀ (j : Nat) (o : Oper), ops[j]? = some o → j ≠ s → ∀ (a : Act) (w : World), S w → (∀ t, writesB ops t = false → a.eval (.tmp t) = a0.eval (.tmp t)) →
      (∀ e ∈ o.after, Region.binds .any e = true → ∀ (p : Oper) (d : Tmp), ops[e.on]? = some p → p.dst = some d → Φ e.on (a.eval (.tmp d)) w) →
      Gives P (fun v w' => S w' ∧ Below w.heap.size w w' ∧ Φ j v w') ((execOp a.eval o).run P w))
    (hst : ∀ (o : Oper), ops[s]? = some o → ∀ (a : Act) (w : World), S w → (∀ t, writesB ops t = false → a.eval (.tmp t) = a0.eval (.tmp t)) →
      (∀ e ∈ o.after, Region.binds .any e = true → ∀ (p : Oper) (d : Tmp), ops[e.on]? = some p → p.dst = some d → Φ e.on (a.eval (.tmp d)) w) →
      Gives P (fun _ w' => S w' ∧ R w w' ∧ Θ (a.eval (.tmp c)) w') ((execOp a.eval o).run P w))
    (hend : ∀ (a : Act) (w : World), S w → a.tmps.size = a0.tmps.size → a.defers = a0.defers → (∀ (i : Nat) (o : Oper) (d : Tmp), ops[i]? = some o → o.dst = some d → Φ i (a.tmps.getD d undef) w) →
      (∀ t, writesB ops t = false → a.tmps[t]? = a0.tmps[t]?) → Θ (a.tmps.getD c undef) w → Q .normal a w) :
    (Code.region id ops true).wp P Q a0 w0 := by
  refine wp_region_any hm ?_
  have putS : ∀ (listed : Array Bool) (a : Act) (w w' : World) (j : Nat) (o : Oper) (v : Value), j ∈ Region.ready .any ops listed → KnownS ops Φ S a0 s i8 c Θ listed a w → ops[j]? = some o → S w' → R w w' → Φ j v w' → (j ≠ s → Below w.heap.size w w') → (j = s → Θ (a.eval (.tmp c)) w') →
      KnownS ops Φ S a0 s i8 c Θ (listed.setIfInBounds j true) (a.put o.dst v) w' := by
    intro listed a w w' j o v hj K ho h1 h2 h3 h4 h5
    refine ⟨Known.put (S := S) (R := R) hs (fun i v w w' _ _ => hmono i v w w') hin K.k ho h1 h2 h3, fun hl => ?_⟩
    obtain ⟨h0, o', ho', hdep⟩ := mem_ready.1 hj
    rw [ho] at ho'
    cases ho'
    have hsz : j < listed.size := by rw [K.k.size]; exact (Array.getElem?_eq_some_iff.1 ho).1
    by_cases e : j = s
    · subst e
      obtain ⟨hd, e', he, hb, hi⟩ := hsd o ho
      have h8l := hdep e' he hb
      rw [hi] at h8l
      have hne : j ≠ i8 := fun e8 => by
        have := h8 o (by rw [← e8]; exact ho)
        rw [hd] at this
        cases this
      have h8s : i8 < listed.size := by rw [K.k.size]; exact hz.2
      refine ⟨by rw [getD_set_ne true hne]; simpa [h8s] using h8l, ?_⟩
      rw [hd]
      exact h5 rfl
    · rw [getD_set_ne true e] at hl
      obtain ⟨f1, f2⟩ := K.fin hl
      have hne : j ≠ i8 := fun e8 => by
        rw [← e8] at f1
        have : listed.getD j true = false := h0
        rw [this] at f1
        cases f1
      refine ⟨by rw [getD_set_ne true hne]; exact f1, ?_⟩
      have hv : (a.put o.dst v).tmps.getD c undef = a.tmps.getD c undef := by
        cases hd : o.dst with
        | none => rfl
        | some d =>
          obtain ⟨o8, ho8⟩ : ∃ o8, ops[i8]? = some o8 := ⟨_, Array.getElem?_eq_getElem hz.2⟩
          have hne2 : d ≠ c := fun ec => (shape_at hs ho).2.1 i8 o8 ho8 (Ne.symm hne) d hd (by rw [h8 o8 ho8, ec])
          exact getD_put v hne2
      rw [hv]
      exact hΘ _ w w' (h4 e) f2
  have key : ∀ (fuel : Nat) (listed : Array Bool) (a : Act) (w : World), left ops listed ≤ fuel → KnownS ops Φ S a0 s i8 c Θ listed a w → wpAny P .any ops Q fuel listed a w := by
    have fin : ∀ (listed : Array Bool) (a : Act) (w : World), KnownS ops Φ S a0 s i8 c Θ listed a w → Region.ready .any ops listed = [] → Q .normal a w := by
      intro listed a w K hr
      have k := K.k
      have hl := all_listed hs k.size hr
      refine hend a w k.s k.tsize k.defers (fun i o d hi hd => k.facts i o d hi hd (hl i (Array.getElem?_eq_some_iff.1 hi).1)) (fun t ht => k.rest t fun i o hi hd => ?_) (K.fin (hl s hz.1)).2
      have := Array.any_eq_false.1 ht i (Array.getElem?_eq_some_iff.1 hi).1
      rw [(Array.getElem?_eq_some_iff.1 hi).2, hd] at this
      simp at this
    intro fuel
    induction fuel with
    | zero =>
      intro listed a w hf k
      have hr : Region.ready .any ops listed = [] := by
        cases h : Region.ready .any ops listed with
        | nil => rfl
        | cons j l =>
          have hj : j ∈ Region.ready .any ops listed := by rw [h]; simp
          obtain ⟨h0, o, ho, _⟩ := mem_ready.1 hj
          have := left_set (ops := ops) (Array.getElem?_eq_some_iff.1 ho).1 h0
          omega
      exact ⟨hr, fin listed a w k hr⟩
    | succ fuel ih =>
      intro listed a w hf K
      have k := K.k
      refine ⟨fin listed a w K, fun j hj => ?_⟩
      obtain ⟨h0, o, ho, hdep⟩ := mem_ready.1 hj
      have hl := left_set (ops := ops) (Array.getElem?_eq_some_iff.1 ho).1 h0
      have hdep' : ∀ e ∈ o.after, Region.binds .any e = true → ∀ (p : Oper) (d : Tmp), ops[e.on]? = some p → p.dst = some d → Φ e.on (a.tmps.getD d undef) w := by
        intro e he hb p d hp hd
        have h1 := hdep e he hb
        have hlt : e.on < listed.size := by rw [k.size]; exact (Array.getElem?_eq_some_iff.1 hp).1
        refine k.facts e.on p d hp hd ?_
        simpa [hlt] using h1
      have hun' : ∀ t, writesB ops t = false → a.eval (.tmp t) = a0.eval (.tmp t) := by
        intro t ht
        have := k.rest t fun i p hp hd => by
          have := Array.any_eq_false.1 ht i (Array.getElem?_eq_some_iff.1 hp).1
          rw [(Array.getElem?_eq_some_iff.1 hp).2, hd] at this
          simp at this
        simp [Act.eval, Array.getD_eq_getD_getElem?, this]
      have hw : Region.wanted o (yielded ops a.tmps) = true := by
        unfold Region.wanted
        simp [hng j o ho]
      unfold wpOp
      simp only [ho, hw, if_true]
      refine .inl ?_
      have hgv : Gives P (fun v w' => S w' ∧ R w w' ∧ Φ j v w' ∧ (j ≠ s → Below w.heap.size w w') ∧ (j = s → Θ (a.eval (.tmp c)) w')) ((execOp a.eval o).run P w) := by
        by_cases e : j = s
        · subst e
          have h := hst o ho a w k.s hun' hdep'
          revert h
          generalize (execOp a.eval o).run P w = r
          intro h
          cases r with
          | halt x w' => exact h.elim
          | ok n w' =>
            cases n <;> simp only [Gives] at h ⊢
            case value v => exact ⟨h.1, h.2.1, hΦs _ _, fun e => (e rfl).elim, fun _ => h.2.2⟩
            case skip => exact ⟨h.1, h.2.1, hΦs _ _, fun e => (e rfl).elim, fun _ => h.2.2⟩
            case enter f args => exact h.mono fun e w'' ⟨v, e1, h1, h2, h3⟩ => ⟨v, e1, h1, h2, hΦs _ _, fun e => (e rfl).elim, fun _ => h3⟩
        · have h := hop j o ho e a w k.s hun' hdep'
          revert h
          generalize (execOp a.eval o).run P w = r
          intro h
          cases r with
          | halt x w' => exact h.elim
          | ok n w' =>
            cases n <;> simp only [Gives] at h ⊢
            case value v => exact ⟨h.1, hB _ _ h.2.1, h.2.2, fun _ => h.2.1, fun e' => (e e').elim⟩
            case skip => exact ⟨h.1, hB _ _ h.2.1, h.2.2, fun _ => h.2.1, fun e' => (e e').elim⟩
            case enter f args => exact h.mono fun _ w'' ⟨v, e1, h1, h2, h3⟩ => ⟨v, e1, h1, hB _ _ h2, h3, fun _ => h2, fun e' => (e e').elim⟩
      unfold Oper.wp
      generalize (execOp a.eval o).run P w = r at hgv
      cases r with
      | halt x w' => exact hgv.elim
      | ok n w' =>
        cases n <;> simp only [Gives] at hgv <;> simp only [Oper.upon]
        case value v => exact ih _ _ _ (by omega) (putS listed a w w' j o _ hj K ho hgv.1 hgv.2.1 hgv.2.2.1 hgv.2.2.2.1 hgv.2.2.2.2)
        case skip => exact ih _ _ _ (by omega) (putS listed a w w' j o _ hj K ho hgv.1 hgv.2.1 hgv.2.2.1 hgv.2.2.2.1 hgv.2.2.2.2)
        case enter f args =>
          refine hgv.mono ?_
          rintro e w'' ⟨v, rfl, h1, h2, h3, h4, h5⟩
          exact ih _ _ _ (by omega) (putS listed a w w'' j o _ hj K ho h1 h2 h3 h4 h5)
  refine key _ _ _ _ ?_ ⟨⟨hS, by simp, rfl, rfl, fun i o d hi _ hl => ?_, fun t _ => rfl⟩, fun hl => ?_⟩
  · unfold left
    have := List.countP_le_length (p := fun i => !(Array.replicate ops.size false).getD i true) (l := List.range ops.size)
    simpa using this
  · have := (Array.getElem?_eq_some_iff.1 hi).1
    simp [this] at hl
  · simp [hz.1] at hl
end
def AllAt (F : Nat → Oper → Prop) : Nat → List Oper → Prop
  | _, [] => True
  | j, o :: os => F j o ∧ AllAt F (j + 1) os
theorem allAt_at {F : Nat → Oper → Prop} (l : List Oper) : ∀ (k : Nat), AllAt F k l → ∀ (j : Nat) (o : Oper), l[j]? = some o → F (k + j) o := by
  induction l with
  | nil => intro k _ j o ho; simp at ho
  | cons o' os ih =>
    intro k h j o ho
    cases j with
    | zero => simp at ho; subst ho; exact h.1
    | succ j =>
      have := ih (k + 1) h.2 j o (by simpa using ho)
      have e : k + (j + 1) = k + 1 + j := by omega
      rw [e]; exact this
/-- What is owed for an operation that is no store. -/
def OweG (P : Program) (l : List Oper) (Φ : Nat → Value → World → Prop) (S : World → Prop) (a0 : Act) (s : Nat) (j : Nat) (o : Oper) : Prop :=
  j ≠ s → ∀ (a : Act) (w : World), S w → (∀ t, writesB l.toArray t = false → a.eval (.tmp t) = a0.eval (.tmp t)) →
      (∀ e ∈ o.after, Region.binds .any e = true → ∀ (p : Oper) (d : Tmp), l[e.on]? = some p → p.dst = some d → Φ e.on (a.eval (.tmp d)) w) →
      Gives P (fun v w' => Below w.heap.size w w' ∧ Φ j v w') ((execOp a.eval o).run P w)
theorem wp_region_store_puts {P : Program} {Q : Exit → Act → World → Prop} {id : Nat} {l : List Oper} {a0 : Act} {w0 : World} (hm : P.follows .mixedOrders = true) (Φ : Nat → Value → World → Prop) (base : Nat) (R : World → World → Prop) (s i8 c : Nat) (Θ : Value → World → Prop)
    (hs : shapeB l.toArray = true) (hin : (l.all fun o => match o.dst with | some d => decide (d < a0.tmps.size) | none => true) = true) (hng : (l.all fun o => o.guard.isNone) = true)
    (hz : s < l.length ∧ i8 < l.length) (hsd : (match l[s]? with | some o => o.dst.isNone && o.after.any (fun e => Region.binds .any e && e.on == i8) | none => false) = true) (h8 : (match l[i8]? with | some o => o.dst == some c | none => false) = true)
    (hmono : ∀ i v w w', R w w' → Φ i v w → Φ i v w') (hB : ∀ w w', Below w.heap.size w w' → R w w') (hΘ : ∀ v w w', Below w.heap.size w w' → Θ v w → Θ v w') (hΦs : ∀ v w, Φ s v w)
    (hbase : base = w0.heap.size)
    (hop : AllAt (OweG P l Φ (fun W => Below base w0 W) a0 s) 0 l)
    (hst : ∀ (o : Oper), l[s]? = some o → ∀ (a : Act) (w : World), Below base w0 w → (∀ t, writesB l.toArray t = false → a.eval (.tmp t) = a0.eval (.tmp t)) →
      (∀ e ∈ o.after, Region.binds .any e = true → ∀ (p : Oper) (d : Tmp), l[e.on]? = some p → p.dst = some d → Φ e.on (a.eval (.tmp d)) w) →
      Gives P (fun _ w' => Below base w0 w' ∧ R w w' ∧ Θ (a.eval (.tmp c)) w') ((execOp a.eval o).run P w))
    (hend : ∀ (f : Nat → Value) (w : World), Below base w0 w → Θ (f c) w → Q .normal (putOps l f a0) w) :
    (Code.region id l.toArray true).wp P Q a0 w0 := by
  refine wp_region_store hm Φ (fun W => Below base w0 W) R s i8 c Θ hs ?_ ?_ (by simpa using hz) ?_ ?_ hmono hB hΘ hΦs ?_ ?_ ?_ ?_
  · intro i o d hi hd
    have := List.all_eq_true.1 hin o (by simpa using List.mem_of_getElem? (by simpa using hi))
    rw [hd] at this
    simpa using this
  · intro j o hj
    have := List.all_eq_true.1 hng o (by simpa using List.mem_of_getElem? (by simpa using hj))
    simpa using this
  · intro o ho
    have ho' : l[s]? = some o := by simpa using ho
    rw [ho'] at hsd
    simp only [Bool.and_eq_true, Option.isNone_iff_eq_none, Array.any_eq_true', beq_iff_eq] at hsd
    obtain ⟨h1, e, he, hb, h2⟩ := hsd
    exact ⟨h1, e, he, hb, h2⟩
  · intro o ho
    have ho' : l[i8]? = some o := by simpa using ho
    rw [ho'] at h8
    simpa using h8
  · rw [hbase]; exact bdrew1 (Below.refl _ _)
  · intro j o hj hjs a w hS hun hdep
    have h := allAt_at l 0 hop j o (by simpa using hj)
    rw [Nat.zero_add] at h
    have h := h hjs a w hS hun (fun e he hb p d hp hd => hdep e he hb p d (by simpa using hp) hd)
    revert h
    generalize (execOp a.eval o).run P w = r
    intro h
    have hlo : base ≤ w.heap.size := by rw [hbase]; exact hS.size
    cases r with
    | halt x w' => exact h.elim
    | ok n w' =>
      cases n <;> simp only [Gives] at h ⊢
      case value v => exact ⟨hS.trans (h.1.mono hlo), h.1, h.2⟩
      case skip => exact ⟨hS.trans (h.1.mono hlo), h.1, h.2⟩
      case enter f args => exact h.mono fun _ w'' ⟨v, e1, h1, h2⟩ => ⟨v, e1, hS.trans (h1.mono hlo), h1, h2⟩
  · intro o ho a w hS hun hdep
    exact hst o (by simpa using ho) a w hS hun (fun e he hb p d hp hd => hdep e he hb p d (by simpa using hp) hd)
  · intro a w hS hz' hd _ hr hT
    have e : a = putOps l (fun t => a.tmps.getD t undef) a0 := by
      cases a with
      | mk tmps defers =>
        have h2 : (putOps l (fun t => tmps.getD t undef) a0).defers = defers := (putOps_defers _ _ _).trans hd.symm
        have h1 : (putOps l (fun t => tmps.getD t undef) a0).tmps = tmps := by
          apply Array.ext_getElem?
          intro t
          by_cases ht : t < a0.tmps.size
          · rw [putOps_at _ _ _ _ ht]
            split
            · dsimp only at hz'
              simp [Array.getD_eq_getD_getElem?, hz', ht]
            · rename_i hw
              exact (hr t (by simpa [writesB] using hw)).symm
          · dsimp only at hz'
            rw [Array.getElem?_eq_none (by rw [putOps_size]; omega), Array.getElem?_eq_none (by omega)]
        cases hp : putOps l (fun t => tmps.getD t undef) a0 with
        | mk t2 d2 =>
          rw [hp] at h1 h2
          dsimp only at h1 h2 ⊢
          subst h1 h2
          rfl
    rw [e]
    exact hend _ w hS hT
end Go.Proofs.YtlbjmkljmhfjdaaGreat
namespace Go.Proofs.YtlbjmkljmhfjdaaGreat
open Go Go.RowKit
variable {P : Program}
/-- All but the caller's own blocks is kept; what was not the caller's is not made its. -/
structure Keep (C : Nat → World → Prop) (A A' : World) : Prop where
  size : A.heap.size ≤ A'.heap.size
  block : ∀ j, j < A.heap.size → ¬ C j A → A'.heap[j]? = A.heap[j]?
  own : ∀ j, j < A.heap.size → C j A' → C j A
theorem Keep.refl (C : Nat → World → Prop) (A : World) : Keep C A A := ⟨Nat.le_refl _, fun _ _ _ => rfl, fun _ _ h => h⟩
theorem Keep.trans {C : Nat → World → Prop} {A A' A'' : World} (h : Keep C A A') (k : Keep C A' A'') : Keep C A A'' :=
  ⟨Nat.le_trans h.size k.size, fun j hj hc => (k.block j (Nat.lt_of_lt_of_le hj h.size) (fun e => hc (h.own j hj e))).trans (h.block j hj hc), fun j hj hc => h.own j hj (k.own j (Nat.lt_of_lt_of_le hj h.size) hc)⟩
/-- A block that is no memory of values: a loop's record, a mark. -/
def NoCells (A : World) (b : Nat) : Prop := ∃ o : Obj, A.heap[b]? = some o ∧ ∀ vs T z, o ≠ .cells vs T z
theorem nc_loop {A : World} {b : Nat} {lp : Loop} (h : A.heap[b]? = some (.loop lp)) : NoCells A b := ⟨_, h, fun _ _ _ => by nofun⟩
theorem nc_def {A : World} {b : Nat} {ds : Option (List Deferred)} (h : A.heap[b]? = some (.deferred ds)) : NoCells A b := ⟨_, h, fun _ _ _ => by nofun⟩
theorem NoCells.ne {A : World} {b j : Nat} {vs : Array Value} {T : TypeId} {z : Nat × Nat} (h : NoCells A b) (hj : A.heap[j]? = some (.cells vs T z)) : j ≠ b := by
  rintro rfl
  obtain ⟨o, h1, h2⟩ := h
  rw [hj] at h1
  exact h2 _ _ _ (Option.some.inj h1).symm
/-- What a caller says while a function hands out: it stays as memory grows, and as loops' records turn. -/
structure Fair (B : Nat) (J : Nat → World → Prop) (C : Nat → World → Prop) : Prop where
  grow : ∀ s A A', J s A → Below A.heap.size A A' → J s A'
  put : ∀ s b A o, B ≤ b → J s A → NoCells A b → J s (A.putObj b o)
  cgrow : ∀ s A A' j, J s A → Below A.heap.size A A' → C j A' → C j A
  cput : ∀ s b A o j, B ≤ b → J s A → NoCells A b → C j (A.putObj b o) → C j A
  cell : ∀ s A j, J s A → C j A → ∃ vs T z, A.heap[j]? = some (.cells vs T z)
theorem Fair.keep {B : Nat} {J C : Nat → World → Prop} (f : Fair B J C) {s : Nat} {A A' : World} (h : J s A) (hb : Below A.heap.size A A') : Keep C A A' :=
  ⟨hb.size, fun j hj _ => hb.block j hj, fun j _ hc => f.cgrow s A A' j h hb hc⟩
theorem Fair.lt {B : Nat} {J C : Nat → World → Prop} (f : Fair B J C) {s : Nat} {A : World} (h : J s A) {j : Nat} (hc : C j A) : j < A.heap.size := by
  obtain ⟨vs, T, z, h⟩ := f.cell s A j h hc
  exact (Array.getElem?_eq_some_iff.1 h).1
/-- The contract: N things in their turn; T are the blocks that the function reads. -/
def SeqX (n : Nat) (P : Program) (gf : Nat) (lb : Array Value) (encs : Nat → Array Value) (N : Nat) (T : Nat → Prop) (w : World) : Prop :=
  ∀ (l : Nat) (J C : Nat → World → Prop) (W : World), Below w.heap.size w W → Fair W.heap.size J C → (∀ j, T j → ¬ C j W) →
    (∀ k W1, J k W1 → k < N → YieldAt Fence.wide (n - 1) P l (encs k) W1 fun e W' => e = .returned (.bool true) ∧ J (k + 1) W' ∧ Keep C W1 W') →
    J 0 W → CallsIn Fence.wide n P gf (#[.func (.yield l) #[] #[]] ++ lb) W fun e W' => (∃ v, e = .returned v) ∧ J N W' ∧ Keep C W W'
/-- How a body ends. -/
def endX (C : Nat → World → Prop) (I : Nat → World → Prop) (k : Nat) (W : World) : Exit → Act → World → Prop
  | .normal, _, W' => Keep C W W' ∧ I k W'
  | _, _, _ => False
theorem wpIn_rangeFunc_own {n : Nat} {g : Operand} {ps : Array Tmp} {assign body : Code} {Q : Exit → Act → World → Prop} {a : Act} {w : World} (h1 : 1 ≤ n) {gf : Nat} {lb : Array Value}
    (hg : a.eval g = .func (.func gf) #[] lb) (eg : ∀ args w, (callFunc gf args).run P w = .ok (.enter gf args) w) {encs : Nat → Array Value} {N : Nat} {T : Nat → Prop} {w0 : World}
    (hseq : SeqX (n - 1) P gf lb encs N T w0) (hb0 : Below w0.heap.size w0 w) (hps : ∀ k, (encs k).size = ps.size)
    (I C : Nat → World → Prop) (hF : Fair w.heap.size I C) (hT : ∀ j, T j → ¬ C j w) (h0 : I 0 w) (a₁ : Nat → Act)
    (hassign : ∀ (l k : Nat) (W : World) (K : Act → World → Prop), K (a₁ k) W →
      assign.wpIn (Fence.wide.inRound l) (n - 1 - 1) P (Exit.then K (fun _ _ _ => False)) { tmps := (ps.zip (encs k)).foldl (fun t (p, v) => t.setIfInBounds p v) a.tmps, defers := [] } W)
    (hbody : ∀ (l k : Nat) (W : World), I k W → k < N → body.wpIn (Fence.wide.inRound l) (n - 1 - 1) P (endX C I (k + 1) W) (a₁ k) W)
    (hdone : ∀ (D : Nat) (W : World), D = w.heap.size → I N W → Keep C w W → W.heap[D]? = some (.deferred (some [])) → Q .normal { a with defers := { target := .collected D, args := #[] } :: a.defers } W) :
    (Code.rangeFunc g ps assign body).wpIn Fence.wide n P Q a w := by
  refine wpIn_rangeFunc ?_
  intro fn hfn
  show ∃ _, _
  let rec0 : LoopState → Option Code → Loop := fun st pe => { state := st, pending := pe, fn, tmps := a.tmps, params := ps, assign, body, defers := w.heap.size }
  obtain ⟨D, eD⟩ : ∃ D, D = w.heap.size := ⟨_, rfl⟩
  obtain ⟨W1, eW⟩ : ∃ W1, W1 = (w.alloc (.deferred (some []))).alloc (.loop (rec0 .ready none)) := ⟨_, rfl⟩
  have hB2 : Below w.heap.size w W1 := by rw [eW]; exact B2 _ _ _
  have hzz : W1.heap.size = D + 2 := by rw [eW, eD]; simp
  have hD : W1.heap[D]? = some (.deferred (some [])) := by
    rw [eW, eD]; exact (Below.heap_alloc _ _ _ (by simp)).trans (World.alloc_heap_new w _)
  have hL : W1.heap[D + 1]? = some (.loop (rec0 .ready none)) := by
    rw [eW, eD]; have := World.alloc_heap_new (w.alloc (.deferred (some []))) (.loop (rec0 .ready none)); rwa [World.size_alloc] at this
  have hI1 : I 0 W1 := hF.grow 0 _ _ h0 hB2
  have K1 : Keep C w W1 := hF.keep h0 hB2
  refine ⟨D + 1, [{ target := .collected D, args := #[] }], W1, { target := .fn (.func gf) lb, args := #[.func (.yield (D + 1)) #[] #[]] }, W1, gf, #[.func (.yield (D + 1)) #[] #[]] ++ lb, W1, ?_, ?_, fun _ _ => trivial, ?_, fun _ => h1, ?_⟩
  · rw [eW, eD]; exact run_enterLoop_outer _ _ _ _ _
  · simp only [resolve, hg]
    simp [go_sem]
  · simp [invoke, go_sem, eg]
  have nodef : ∀ s A j d, I s A → A.heap[j]? = some (.deferred d) → ¬ C j A := fun s A j d h e hc => by
    obtain ⟨vs, T, z, h2⟩ := hF.cell s A j h hc
    rw [e] at h2; cases h2
  have noloop : ∀ s A j d, I s A → A.heap[j]? = some (.loop d) → ¬ C j A := fun s A j d h e hc => by
    obtain ⟨vs, T, z, h2⟩ := hF.cell s A j h hc
    rw [e] at h2; cases h2
  refine (hseq (D + 1) (fun k W => I k W ∧ W.heap[D + 1]? = some (.loop (rec0 .ready none)) ∧ W.heap[D]? = some (.deferred (some []))) C W1 (hb0.trans (hB2.mono hb0.size)) ?_ ?_ ?_ ⟨hI1, hL, hD⟩).mono ?_
  · constructor
    · rintro s A A' ⟨hi, hl, hd⟩ hb
      have q1 := (Array.getElem?_eq_some_iff.1 hl).1
      exact ⟨hF.grow s A A' hi hb, (hb.block _ q1).trans hl, (hb.block _ (by omega)).trans hd⟩
    · rintro s b A o hb ⟨hi, hl, hd⟩ he
      exact ⟨hF.put s b A o (by omega) hi he, (World.putObj_heap_other (by omega)).trans hl, (World.putObj_heap_other (by omega)).trans hd⟩
    · rintro s A A' j ⟨hi, hl, hd⟩ hb hc
      exact hF.cgrow s A A' j hi hb hc
    · rintro s b A o j hb ⟨hi, hl, hd⟩ he hc
      exact hF.cput s b A o j (by omega) hi he hc
    · rintro s A j ⟨hi, hl, hd⟩ hc
      exact hF.cell s A j hi hc
  · intro j hj hc
    exact hT j hj (hF.cgrow 0 _ _ j h0 hB2 hc)
  · rintro k W ⟨hi, hl, hd⟩ hk
    have hlt : D + 1 < W.heap.size := (Array.getElem?_eq_some_iff.1 hl).1
    refine ⟨fn, _, assign, body, run_yield (P := P) (args := encs k) hl (hps k), roundIn_of_wpIn hfn (hassign _ k W _ ⟨_, run_beginRound hl rfl, ?_⟩)⟩
    obtain ⟨Wb, eWb⟩ : ∃ Wb, Wb = W.putObj (D + 1) (.loop (rec0 .busy none)) := ⟨_, rfl⟩
    have hl2 : Wb.heap[D + 1]? = some (.loop (rec0 .busy none)) := by rw [eWb]; exact World.putObj_heap_same hlt
    have hd2 : Wb.heap[D]? = some (.deferred (some [])) := by rw [eWb]; exact (World.putObj_heap_other (by omega)).trans hd
    have hi2 : I k Wb := by rw [eWb]; exact hF.put k (D + 1) W _ (by omega) hi (nc_loop hl)
    have hzb : Wb.heap.size = W.heap.size := by rw [eWb]; simp
    have hcb : ∀ j, C j Wb → C j W := fun j hc => by rw [eWb] at hc; exact hF.cput k (D + 1) W _ j (by omega) hi (nc_loop hl) hc
    have hob : ∀ j, j ≠ D + 1 → Wb.heap[j]? = W.heap[j]? := fun j hj => by rw [eWb]; exact World.putObj_heap_other hj
    show body.wpIn _ _ _ _ _ (W.putObj (D + 1) (.loop (rec0 .busy none)))
    rw [← eWb]
    refine wpIn_mono (hbody _ k _ hi2 hk) ?_
    rintro e a3 W3 hp
    cases e with
    | normal =>
      obtain ⟨hk3, hi3⟩ := hp
      have hl3 := (hk3.block (D + 1) (by omega) (noloop _ _ _ _ hi2 hl2)).trans hl2
      have hd3 := (hk3.block D (by omega) (nodef _ _ _ _ hi2 hd2)).trans hd2
      refine ⟨_, _, run_endRound (P := P) none hl3, rfl, ⟨hF.put _ (D + 1) _ _ (by omega) hi3 (nc_loop hl3), World.putObj_heap_same (Array.getElem?_eq_some_iff.1 hl3).1, (World.putObj_heap_other (by omega)).trans hd3⟩, ?_⟩
      refine ⟨?_, fun j hj hc => ?_, fun j hj hc => ?_⟩
      · have := hk3.size; simp; omega
      · by_cases e : j = D + 1
        · subst e
          exact (World.putObj_heap_same (Array.getElem?_eq_some_iff.1 hl3).1).trans hl.symm
        · exact (World.putObj_heap_other e).trans ((hk3.block j (by omega) (fun h => hc (hcb j h))).trans (hob j e))
      · have c3 := hF.cput _ (D + 1) W3 _ j (by omega) hi3 (nc_loop hl3) hc
        exact hcb j (hk3.own j (by omega) c3)
    | ret => exact hp.elim
    | exit id => exact hp.elim
    | goto t => exact hp.elim
    | panic ch => exact hp.elim
    | outgrown => exact hp.elim
  · rintro e W2 ⟨⟨v, rfl⟩, ⟨hi, hl, hd⟩, hk2⟩
    have k2 := K1.trans hk2
    refine ⟨none, _, run_endLoop (P := P) hl (by simp [rec0]), hdone D _ eD (hF.put _ (D + 1) _ _ (by omega) hi (nc_loop hl)) ⟨by have := k2.size; simpa using this, fun j hj hc => (World.putObj_heap_other (by omega)).trans (k2.block j hj hc), fun j hj hc => k2.own j hj (hF.cput _ (D + 1) W2 _ j (by omega) hi (nc_loop hl) hc)⟩ ((World.putObj_heap_other (by omega)).trans hd)⟩
theorem roundX_any {m m' : Nat} {P : Program} {l : Nat} {f : FuncId} {tmps : Array Value} {assign body : Code} {w : World} {R : Ending → World → Prop}
    (h : RoundIn Fence.wide m P l f tmps assign body w R) : RoundIn Fence.wide m' P l f tmps assign body w R := ⟨h.1, fun c cs _ => h.2 c cs (fun d h => by cases h)⟩
theorem roundX_in {F : Fence} {n : Nat} {P : Program} {l l2 : Nat} {f : FuncId} {tmps : Array Value} {assign body : Code} {w : World} {R : Ending → World → Prop}
    (h : RoundIn F n P l f tmps assign body w R) : RoundIn (F.inRound l2) n P l f tmps assign body w R := h
theorem yieldX_any {m m' l : Nat} {P : Program} {args : Array Value} {w : World} {R : Ending → World → Prop} (h : YieldAt Fence.wide m P l args w R) : YieldAt Fence.wide m' P l args w R := by
  obtain ⟨fn, tmps, assign, body, hy, hR⟩ := h
  exact ⟨fn, tmps, assign, body, hy, roundX_any hR⟩
theorem seqX_any {m m' : Nat} {P : Program} {gf : Nat} {lb : Array Value} {encs : Nat → Array Value} {N : Nat} {T : Nat → Prop} {w : World} (h : SeqX m P gf lb encs N T w) : SeqX m' P gf lb encs N T w :=
  fun l J C W hb hf hT hY h0 => callsIn_wide.2 (callsIn_wide.1 (h l J C W hb hf hT (fun k W1 hk hlt => yieldX_any (hY k W1 hk hlt)) h0))
/-- The marks of ranges that are behind one. -/
structure Marks (B : Nat) (dl : List Nat) (W : World) : Prop where
  nodup : dl.Nodup
  each : ∀ D ∈ dl, B ≤ D ∧ W.heap[D]? = some (.deferred (some []))
def mkDf (D : Nat) : Deferred := { target := .collected D, args := #[] }
theorem Marks.cons {B D : Nat} {dl : List Nat} {W : World} (h : Marks B dl W) (hD : B ≤ D) (hn : D ∉ dl) (hW : W.heap[D]? = some (.deferred (some []))) : Marks B (D :: dl) W := ⟨List.nodup_cons.2 ⟨hn, h.nodup⟩, fun E hE => by
  rcases List.mem_cons.1 hE with rfl | hE
  · exact ⟨hD, hW⟩
  · exact h.each E hE⟩
theorem Marks.keep {B s : Nat} {J C : Nat → World → Prop} {dl : List Nat} {A A' : World} (h : Marks B dl A) (f : Fair B J C) (hj : J s A) (k : Keep C A A') : Marks B dl A' :=
  ⟨h.nodup, fun D hD => ⟨(h.each D hD).1, (k.block D (Array.getElem?_eq_some_iff.1 (h.each D hD).2).1 (fun hc => by
    obtain ⟨vs, T, z, h2⟩ := f.cell s A D hj hc
    rw [(h.each D hD).2] at h2; cases h2)).trans (h.each D hD).2⟩⟩
theorem leaves_marks {F : Fence} {n B s : Nat} {P : Program} {fn : Func} {tmps : Array Value} {R : Ending → World → Prop} {J C : Nat → World → Prop} (f : Fair B J C) {W0 : World} (hW0 : W0.heap.size ≤ B) : ∀ (dl : List Nat) (W : World), Marks B dl W → J s W → Keep C W0 W →
    (∀ W', J s W' → Keep C W0 W' → LeavesIn F n P fn tmps R [] .returning W') → LeavesInM F n P fn tmps R (dl.map mkDf) .returning W
  | [], W, _, hj, hk, h => h W hj hk
  | D :: dl, W, hd, hj, hk, h => by
    obtain ⟨h1, h2⟩ := hd.each D List.mem_cons_self
    refine ⟨by simp, .inl ⟨D, _, rfl, run_takeDeferred h2, leaves_marks f hW0 dl _ ⟨(List.nodup_cons.1 hd.nodup).2, fun E hE => ⟨(hd.each E (List.mem_cons_of_mem _ hE)).1, (World.putObj_heap_other (fun e => (List.nodup_cons.1 hd.nodup).1 (by rw [← e]; exact hE))).trans (hd.each E (List.mem_cons_of_mem _ hE)).2⟩⟩ (f.put s D W _ h1 hj (nc_def h2)) ?_ h⟩⟩
    exact ⟨by have := hk.size; simpa using this, fun j hj2 hc => (World.putObj_heap_other (by omega)).trans (hk.block j hj2 hc), fun j hj2 hc => hk.own j hj2 (f.cput s D W _ j h1 hj (nc_def h2) hc)⟩
end Go.Proofs.YtlbjmkljmhfjdaaGreat
namespace Go.Proofs.YtlbjmkljmhfjdaaGreat
open Go Go.RowKit
def Tryz.cloneRen : Go.Shelf.Ren := ⟨fun | 25 => 255 | n => n, fun | 37 => 151 | 47 => 306 | n => n, fun n => n⟩
theorem Tryz.cloneLays : Go.Proofs.LaysPu.n25 Tryz.prog Tryz.cloneRen := {
  mixed := by kernel_rfl
  f25 := Tryz.func255.trans (congrArg some (by kernel_rfl))
  t0 := Tryz.underlying0
  a0 := Tryz.isAgg0
  z0 := Tryz.sizeOf0
  v0 := Tryz.zeroValue0
  i0 := by kernel_rfl
  t3 := Tryz.underlying3
  a3 := Tryz.isAgg3
  z3 := Tryz.sizeOf3
  v3 := Tryz.zeroValue3
  i3 := by kernel_rfl
  t4 := Tryz.underlying4
  a4 := Tryz.isAgg4
  z4 := Tryz.sizeOf4
  v4 := Tryz.zeroValue4
  i4 := by kernel_rfl
  t5 := Tryz.underlying5
  a5 := Tryz.isAgg5
  z5 := Tryz.sizeOf5
  v5 := Tryz.zeroValue5
  i5 := by kernel_rfl
  t9 := Tryz.underlying9
  a9 := Tryz.isAgg9
  z9 := Tryz.sizeOf9
  v9 := Tryz.zeroValue9
  i9 := by kernel_rfl
  t37 := Tryz.underlying151
  a37 := Tryz.isAgg151
  z37 := Tryz.sizeOf151
  v37 := Tryz.zeroValue151
  i37 := by kernel_rfl
  t47 := Tryz.underlying306
  a47 := Tryz.isAgg306
  z47 := Tryz.sizeOf306
  v47 := Tryz.zeroValue306
  i47 := by kernel_rfl }
theorem lite_any (s : ByteArray) (hs : s.size ≤ 281474976710656) (w : World) : Calls Tryz.prog 255 #[.string s] w fun e w' => e = .returned (.string s) ∧ Below w.heap.size w w' :=
  Go.Proofs.AnyPu.stringslite_Clone Tryz.cloneLays s w hs
theorem cloneStr_any (s : ByteArray) (hs : s.size ≤ 281474976710656) (w : World) : Calls Tryz.prog 229 #[.string s] w fun e w' => e = .returned (.string s) ∧ Below w.heap.size w w' := by
  have C := Lib.hid (fun w => lite_any s hs w)
  clear hs
  go_enter Tryz.func229, Tryz.ntmps229
  go_wp2_with (go_at_call 255; refine (C.out _).mono ?_; rintro e w1 ⟨rfl, hb⟩; have HB := Lib.hid hb; clear hb)
  go_ret
  exact ⟨rfl, HB.out⟩
end Go.Proofs.YtlbjmkljmhfjdaaGreat
namespace Go.Proofs.YtlbjmkljmhfjdaaGreat
open Go Go.RowKit
variable {P : Program}
/-- What J says stays as memory grows. -/
def Grw (J : Nat → World → Prop) : Prop := ∀ (s : Nat) (A A' : World), J s A → Below A.heap.size A A' → J s A'
/-- What J says is not said of a loop's own record. -/
def Aside (B : Nat) (J : Nat → World → Prop) : Prop := ∀ (s b : Nat) (A : World) (lp : Loop) (o : Obj), B ≤ b → J s A → A.heap[b]? = some (.loop lp) → J s (A.putObj b o)
/-- The contract: N things in their turn, or a part of them, of each of which R tells in its round's world. -/
def SeqE {ε : Type} (n : Nat) (P : Program) (gf : Nat) (lb : Array Value) (encs : Nat → ε → Array Value) (R : Nat → ε → World → Prop) (N : Nat) (G : Nat → Prop) (w : World) : Prop :=
  ∀ (l : Nat) (J Jx : Nat → World → Prop) (W : World), Below w.heap.size w W → Grw J → Grw Jx →
    (∀ k x W1, J k W1 → R k x W1 → W.heap.size ≤ W1.heap.size → k < N → YieldAt Fence.wide (n - 1) P l (encs k x) W1 fun e W' =>
      (e = .returned (.bool true) ∧ J (k + 1) W' ∧ Left G W.heap.size W1 W') ∨ (e = .returned (.bool false) ∧ Jx (k + 1) W' ∧ Left (fun _ => False) W.heap.size W1 W')) →
    J 0 W → CallsIn Fence.wide n P gf (#[.func (.yield l) #[] #[]] ++ lb) W fun e W' => (∃ v, e = .returned v) ∧ (J N W' ∨ ∃ k, k ≤ N ∧ Jx k W')
theorem wpIn_rangeFunc_e {ε : Type} {n : Nat} {g : Operand} {ps : Array Tmp} {assign body : Code} {Q : Exit → Act → World → Prop} {a : Act} {w : World} (h1 : 1 ≤ n) {gf : Nat} {lb : Array Value}
    (hg : a.eval g = .func (.func gf) #[] lb) (eg : ∀ args w, (callFunc gf args).run P w = .ok (.enter gf args) w) {encs : Nat → ε → Array Value} {R : Nat → ε → World → Prop} {N : Nat} {G : Nat → Prop} {w0 : World}
    (hseq : SeqE (n - 1) P gf lb encs R N G w0) (hb0 : Below w0.heap.size w0 w) (hps : ∀ k x, (encs k x).size = ps.size) (hG : ∀ k, G k → k < w.heap.size)
    (I : Nat → World → Prop) (Ix : Code → Nat → World → Prop) (hI : Grw I) (hIx : ∀ c, Grw (Ix c)) (hIp : Aside w.heap.size I) (hIxp : ∀ c, Aside w.heap.size (Ix c)) (hRg : ∀ x, Grw (fun k W => R k x W)) (hRp : ∀ x, Aside w.heap.size (fun k W => R k x W)) (h0 : I 0 w) (a₁ : Nat → ε → Nat → Act) (ob : Nat → ε → Obj)
    (hassign : ∀ (l k : Nat) (x : ε) (W : World) (K : Act → World → Prop), K (a₁ k x W.heap.size) (W.alloc (ob k x)) →
      assign.wpIn (Fence.wide.inRound l) (n - 1 - 1) P (Exit.then K (fun _ _ _ => False)) { tmps := (ps.zip (encs k x)).foldl (fun t (p, v) => t.setIfInBounds p v) a.tmps, defers := [] } W)
    (hbody : ∀ (l k b : Nat) (x : ε) (W : World), I k W → R k x W → w.heap.size + 2 ≤ b → W.heap[b]? = some (ob k x) → k < N → body.wpIn (Fence.wide.inRound l) (n - 1 - 1) P (endN G w.heap.size I Ix (k + 1) W) (a₁ k x b) W)
    (hdone : ∀ (D : Nat) (W : World), w.heap.size ≤ D → I N W → W.heap[D]? = some (.deferred (some [])) → Q .normal { a with defers := { target := .collected D, args := #[] } :: a.defers } W)
    (hstop : ∀ (D : Nat) (c : Code) (k : Nat) (W : World), w.heap.size ≤ D → k ≤ N → Ix c k W → W.heap[D]? = some (.deferred (some [])) → c.wpIn Fence.wide n P Q { a with defers := { target := .collected D, args := #[] } :: a.defers } W) :
    (Code.rangeFunc g ps assign body).wpIn Fence.wide n P Q a w := by
  refine wpIn_rangeFunc ?_
  intro fn hfn
  show ∃ _, _
  let rec0 : LoopState → Option Code → Loop := fun st pe => { state := st, pending := pe, fn, tmps := a.tmps, params := ps, assign, body, defers := w.heap.size }
  obtain ⟨D, eD⟩ : ∃ D, D = w.heap.size := ⟨_, rfl⟩
  obtain ⟨W1, eW⟩ : ∃ W1, W1 = (w.alloc (.deferred (some []))).alloc (.loop (rec0 .ready none)) := ⟨_, rfl⟩
  have hB2 : Below w.heap.size w W1 := by rw [eW]; exact B2 _ _ _
  have hzz : W1.heap.size = D + 2 := by rw [eW, eD]; simp
  have hD : W1.heap[D]? = some (.deferred (some [])) := by
    rw [eW, eD]; exact (Below.heap_alloc _ _ _ (by simp)).trans (World.alloc_heap_new w _)
  have hL : W1.heap[D + 1]? = some (.loop (rec0 .ready none)) := by
    rw [eW, eD]; have := World.alloc_heap_new (w.alloc (.deferred (some []))) (.loop (rec0 .ready none)); rwa [World.size_alloc] at this
  have hI1 : I 0 W1 := hI 0 _ _ h0 hB2
  have keepI : ∀ (K : Nat → World → Prop) (hK : Aside w.heap.size K) (k : Nat) (W : World) (o : Obj) (lp : Loop), W.heap[D + 1]? = some (.loop lp) → K k W → K k (W.putObj (D + 1) o) := fun K hK k W o lp hl h => hK k _ _ lp o (by omega) h hl
  refine ⟨D + 1, [{ target := .collected D, args := #[] }], W1, { target := .fn (.func gf) lb, args := #[.func (.yield (D + 1)) #[] #[]] }, W1, gf, #[.func (.yield (D + 1)) #[] #[]] ++ lb, W1, ?_, ?_, fun _ _ => trivial, ?_, fun _ => h1, ?_⟩
  · rw [eW, eD]; exact run_enterLoop_outer _ _ _ _ _
  · simp only [resolve, hg]
    simp [go_sem]
  · simp [invoke, go_sem, eg]
  refine (hseq (D + 1) (fun k W => I k W ∧ W.heap[D + 1]? = some (.loop (rec0 .ready none)) ∧ W.heap[D]? = some (.deferred (some [])))
    (fun k W => ∃ c, Ix c k W ∧ W.heap[D + 1]? = some (.loop (rec0 .done (some c))) ∧ W.heap[D]? = some (.deferred (some []))) W1 (hb0.trans (hB2.mono hb0.size)) ?_ ?_ ?_ ⟨hI1, hL, hD⟩).mono ?_
  · rintro s A A' ⟨hi, hl, hd⟩ hb
    have q1 := (Array.getElem?_eq_some_iff.1 hl).1
    exact ⟨hI s A A' hi hb, (hb.block _ q1).trans hl, (hb.block _ (by omega)).trans hd⟩
  · rintro s A A' ⟨c, hi, hl, hd⟩ hb
    have q1 := (Array.getElem?_eq_some_iff.1 hl).1
    exact ⟨c, hIx c s A A' hi hb, (hb.block _ q1).trans hl, (hb.block _ (by omega)).trans hd⟩
  · rintro k x WW ⟨hi0, hl0, hd0⟩ hR0 hsz hk
    have hlt0 : D + 1 < WW.heap.size := (Array.getElem?_eq_some_iff.1 hl0).1
    obtain ⟨W, eWW⟩ : ∃ W, W = WW.alloc (ob k x) := ⟨_, rfl⟩
    have hbW : Below WW.heap.size WW W := by rw [eWW]; exact B1 _ _
    have hobW : W.heap[WW.heap.size]? = some (ob k x) := by rw [eWW]; exact World.alloc_heap_new WW _
    have hszW : W.heap.size = WW.heap.size + 1 := by rw [eWW]; simp
    have hi : I k W := hI k _ _ hi0 hbW
    have hRW : R k x W := hRg x k _ _ hR0 hbW
    have hl : W.heap[D + 1]? = some (.loop (rec0 .ready none)) := (hbW.block _ hlt0).trans hl0
    have hd : W.heap[D]? = some (.deferred (some [])) := (hbW.block _ (by omega)).trans hd0
    have hlt : D + 1 < W.heap.size := (Array.getElem?_eq_some_iff.1 hl).1
    have hlW : ∀ (G' : Nat → Prop) (B' : Nat), Left G' B' WW W := fun G' B' => Left.below hbW
    refine ⟨fn, _, assign, body, run_yield (P := P) (args := encs k x) hl0 (hps k x), roundIn_of_wpIn hfn (hassign _ k x WW _ ?_)⟩
    rw [← eWW]
    refine ⟨_, run_beginRound hl rfl, ?_⟩
    have hl2 : (W.putObj (D + 1) (.loop (rec0 .busy none))).heap[D + 1]? = some (.loop (rec0 .busy none)) := World.putObj_heap_same hlt
    have hd2 : (W.putObj (D + 1) (.loop (rec0 .busy none))).heap[D]? = some (.deferred (some [])) := (World.putObj_heap_other (by omega)).trans hd
    have hw2 : ∀ (X : World) (o : Obj), Left G (D + 2) X (X.putObj (D + 1) o) := fun X o => ⟨by simp, fun j _ hg => World.putObj_heap_other (by rcases hg with h | h; have := hG j h; omega; omega)⟩
    have hw3 : ∀ (X : World) (o : Obj), Left (fun _ => False) (D + 2) X (X.putObj (D + 1) o) := fun X o => ⟨by simp, fun j _ hg => World.putObj_heap_other (by rcases hg with h | h; exact h.elim; omega)⟩
    refine wpIn_mono (hbody _ k WW.heap.size x _ (keepI I hIp k W _ _ hl hi) (hRp x k _ _ _ _ (by omega) hRW hl) (by omega) ((World.putObj_heap_other (by omega)).trans hobW) hk) ?_
    have fin : ∀ (jump : Option Code) (W3 : World), Left (fun _ => False) w.heap.size (W.putObj (D + 1) (.loop (rec0 .busy none))) W3 →
        (Instr.endRound (D + 1) jump).run P W3 = .ok (.bool jump.isNone) (W3.putObj (D + 1) (.loop (rec0 (if jump.isNone then .ready else .done) jump))) ∧
        (W3.putObj (D + 1) (.loop (rec0 (if jump.isNone then .ready else .done) jump))).heap[D + 1]? = some (.loop (rec0 (if jump.isNone then .ready else .done) jump)) ∧
        (W3.putObj (D + 1) (.loop (rec0 (if jump.isNone then .ready else .done) jump))).heap[D]? = some (.deferred (some [])) ∧ W3.heap[D + 1]? = some (.loop (rec0 .busy none)) := fun jump W3 hk3 => by
      have hl3 := (hk3.block (D + 1) (by simpa using hlt) (.inr (by omega))).trans hl2
      have hd3 := (hk3.block D (by simp; omega) (.inr (by omega))).trans hd2
      exact ⟨run_endRound (P := P) jump hl3, World.putObj_heap_same (Array.getElem?_eq_some_iff.1 hl3).1, (World.putObj_heap_other (by omega)).trans hd3, hl3⟩
    rintro e a3 W3 hp
    cases e with
    | normal =>
      obtain ⟨hk3, hi3⟩ := hp
      obtain ⟨hr, hl4, hd4, hl3⟩ := fin none W3 (hk3.mono (fun j _ h => by rcases h with h | h; exact h.elim; exact .inr h))
      refine ⟨_, _, hr, .inl ⟨rfl, ⟨keepI I hIp _ _ _ _ hl3 hi3, hl4, hd4⟩, ?_⟩⟩
      rw [hzz]
      exact (hlW _ _).trans <| ((hw2 _ _).trans (hk3.mono (fun j _ h => by rcases h with h | h; exact .inl h; exact .inr (by omega)))).trans (hw2 _ _)
    | ret =>
      obtain ⟨hk3, hi3⟩ := hp
      obtain ⟨hr, hl4, hd4, hl3⟩ := fin (some .ret) W3 hk3
      exact ⟨_, _, hr, .inr ⟨rfl, ⟨.ret, keepI _ (hIxp _) _ _ _ _ hl3 hi3, hl4, hd4⟩, by rw [hzz]; exact (hlW _ _).trans <| ((hw3 _ _).trans (hk3.mono (fun j _ h => by rcases h with h | h; exact h.elim; exact .inr (by omega)))).trans (hw3 _ _)⟩⟩
    | exit id =>
      obtain ⟨hk3, hi3⟩ := hp
      obtain ⟨hr, hl4, hd4, hl3⟩ := fin (some (.exit id)) W3 hk3
      exact ⟨_, _, hr, .inr ⟨rfl, ⟨.exit id, keepI _ (hIxp _) _ _ _ _ hl3 hi3, hl4, hd4⟩, by rw [hzz]; exact (hlW _ _).trans <| ((hw3 _ _).trans (hk3.mono (fun j _ h => by rcases h with h | h; exact h.elim; exact .inr (by omega)))).trans (hw3 _ _)⟩⟩
    | goto t =>
      obtain ⟨hk3, hi3⟩ := hp
      obtain ⟨hr, hl4, hd4, hl3⟩ := fin (some (.goto t)) W3 hk3
      exact ⟨_, _, hr, .inr ⟨rfl, ⟨.goto t, keepI _ (hIxp _) _ _ _ _ hl3 hi3, hl4, hd4⟩, by rw [hzz]; exact (hlW _ _).trans <| ((hw3 _ _).trans (hk3.mono (fun j _ h => by rcases h with h | h; exact h.elim; exact .inr (by omega)))).trans (hw3 _ _)⟩⟩
    | panic ch => exact hp.elim
    | outgrown => exact hp.elim
  · rintro e W2 ⟨⟨v, rfl⟩, (⟨hi, hl, hd⟩ | ⟨k, hk, c, hi, hl, hd⟩)⟩
    · exact ⟨none, _, run_endLoop (P := P) hl (by simp [rec0]), hdone D _ (by omega) (keepI I hIp _ _ _ _ hl hi) ((World.putObj_heap_other (by omega)).trans hd)⟩
    · exact ⟨some c, _, run_endLoop (P := P) hl (by simp [rec0]), hstop D c k _ (by omega) hk (keepI _ (hIxp c) _ _ _ _ hl hi) ((World.putObj_heap_other (by omega)).trans hd)⟩
end Go.Proofs.YtlbjmkljmhfjdaaGreat
namespace Go.Proofs.YtlbjmkljmhfjdaaGreat
open Go Go.RowKit
theorem wpListIn_store_mid {F : Fence} {k : Nat} {P : Program} {w : World} {ops : Array Oper} {rest : List Oper} {o : Oper} {ac : Act} {Q : Exit → Act → World → Prop}
    (hgd : o.guard = none) (ty : TypeId) (x y : Operand) (hop : o.op = .store ty x y) (b off : Nat) (cells : Array Value) (hx : ac.eval x = .pointer (some ⟨b, off, none⟩)) (hy : ac.eval y = .agg cells)
    (ht : w.there b off cells.size) (hi : (P.info? ty).map (·.size) = some cells.size) (h1 : cells.all (·.oneCell') = true)
    (hK : wpListIn F k P ops Q rest (ac.put o.dst undef) (w.setCells b off cells.toList)) : wpListIn F k P ops Q (o :: rest) ac w := by
  refine wpListIn_plain hgd fun K hK' => ?_
  unfold Oper.wpIn
  constructor
  · simp [Oper.about, hop, Sem.run_pure]
  · rw [Oper.semAt_plain F _ _ (by rw [hop]; intro c hc'; cases hc')]
    simp only [execOp, hop, hx, hy, Instr.storeAt, Instr.sureAddr, Sem.run_bind, Sem.run_pure, Result.andThen_ok, run_storeVar_mid w b off ty cells ht hi h1]
    exact hK' _ _ hK
theorem own_set {w : World} {base e size n g cap : Nat} : ∀ (vs : List Value) (o : Nat) (w : World) (xs : List Value), w.ownsRow base e size (.slice (some ⟨g, 0, none⟩) n cap) n xs → o + vs.length ≤ xs.length →
    (w.setCells g o vs).ownsRow base e size (.slice (some ⟨g, 0, none⟩) n cap) n (xs.take o ++ vs ++ xs.drop (o + vs.length)) ∧ w.grownBy (w.setCells g o vs) (some g)
  | [], o, w, xs, h, _ => by
    simp only [World.setCells, List.append_nil, List.length_nil, Nat.add_zero, List.take_append_drop]
    exact ⟨h, World.grownBy.refl _ _⟩
  | v :: vs, o, w, xs, h, hl => by
    simp only [List.length_cons] at hl
    obtain ⟨h1, h2⟩ := h.stored o v
    obtain ⟨h3, h4⟩ := own_set (w := w) vs (o + 1) _ _ h1 (by rw [List.length_set]; omega)
    have e : (xs.set o v).take (o + 1) ++ vs ++ (xs.set o v).drop (o + 1 + vs.length) = xs.take o ++ (v :: vs) ++ xs.drop (o + (vs.length + 1)) := by
      rw [List.set_eq_take_append_cons_drop, if_pos (by omega)]
      rw [show xs.take o ++ v :: xs.drop (o + 1) = (xs.take o ++ [v]) ++ xs.drop (o + 1) by simp]
      rw [List.take_append_of_le_length (by simp; omega), List.drop_append]
      have l1 : (xs.take o ++ [v]).length = o + 1 := by simp; omega
      rw [List.take_of_length_le (by rw [l1]; omega), l1, List.drop_of_length_le (by rw [l1]; omega), List.drop_drop]
      simp only [List.nil_append, List.append_assoc, List.cons_append]
      congr 4
      omega
    refine ⟨by simp only [World.setCells, List.length_cons]; rw [← e]; exact h3, ?_⟩
    simp only [World.setCells]
    exact ⟨h4.os.trans h2.os, h4.tape.trans h2.tape, h4.output.trans h2.output, Nat.le_trans h2.size h4.size, fun k hk hne => (h4.block k (Nat.lt_of_lt_of_le hk h2.size) hne).trans (h2.block k hk hne)⟩
theorem own_there {w : World} {base e size n g cap o : Nat} {xs : List Value} (h : w.ownsRow base e size (.slice (some ⟨g, 0, none⟩) n cap) n xs) (m : Nat) (hm : o + m ≤ n * size) : w.there g o m := by
  intro j hj
  refine ⟨?_, h.frozenAt (o + j)⟩
  rw [h.cellAt (o + j) (by omega), List.getElem?_eq_getElem (by rw [h.1]; omega)]
  rfl
end Go.Proofs.YtlbjmkljmhfjdaaGreat

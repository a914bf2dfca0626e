/- The law of Rg with a table of facts: 'is v' or a fact that stays while the world grows. Nothing here speaks of one program. -/
import Derived.Test.YtjelgmdjmjnnfaaGreatC1
import Derived.Test.YtjelgmdjmjnnfaaGreatA1
import Derived.Test.YtjelgmdjmjnnfaaGreatB8
import Derived.Test.YtjelgmdjmjnnfaaGreatB9
import Derived.Deep.CutRange
set_option linter.unusedSimpArgs false
set_option linter.unusedVariables false
namespace Go.Proofs.YtjelgmdjmjnnfaaGreat
open Go Go.RowKit

/-- A fact on a value that stays true while the world only grows. -/
structure Stay where
  holds : Value → World → Prop
  mono : ∀ v w w', Below w.heap.size w w' → holds v w → holds v w'
inductive Sp where
  | is (v : Value)
  | st (p : Stay)
def Sp.holds : Sp → Value → World → Prop
  | .is v, x, _ => x = v
  | .st p, x, w => p.holds x w
theorem Sp.mono (p : Sp) (v : Value) (w w' : World) (h : Below w.heap.size w w') (hp : p.holds v w) : p.holds v w' := by
  cases p with
  | is u => exact hp
  | st p => exact p.mono v w w' h hp

/-- The table's row, 'undef' for an operation that is passed over. -/
def rowOf (tbl : List (Option Sp)) (j : Nat) : Sp := match tbl[j]? with | some (some p) => p | _ => .is undef
def goes (tbl : List (Option Sp)) (j : Nat) : Bool := match tbl[j]? with | some (some _) => true | _ => false
def spBool : Sp → Option (Option Bool)
  | .is (.bool b) => some (some b)
  | .is (.tuple _) => some none
  | _ => none
theorem spBool_spec {p : Sp} {x : Option Bool} (h : spBool p = some x) (v : Value) (w : World) (hv : p.holds v w) : match x with | some b => v = .bool b | none => ∀ b, v ≠ .bool b := by
  cases p with
  | st p => simp [spBool] at h
  | is u =>
    have hv' : v = u := hv
    subst hv'
    cases v <;> simp [spBool] at h
    · subst h; rfl
    · subst h; intro b hb; cases hb

/-- THE GUARDS FIT THE TABLE. -/
def guardsB (ops : Array Oper) (tbl : List (Option Sp)) : Bool :=
  (List.range ops.size).all fun j => match ops[j]? with
    | none => true
    | some o => match o.guard with
      | none => goes tbl j
      | some (g, b) => match spBool (rowOf tbl g) with
        | some (some x) => if goes tbl j then x == b else x != b
        | some none => !goes tbl j
        | none => false

section
variable {P : Program} {Q : Exit → Act → World → Prop}

/-- What is owed for one operation. -/
def Owed (P : Program) (ops : Array Oper) (tbl : List (Option Sp)) (S : World → Prop) (a0 : Act) (j : Nat) (o : Oper) : Prop :=
  goes tbl j = true → ∀ (a : Act) (w : World), S w → (∀ t, writesB ops t = false → a.eval (.tmp t) = a0.eval (.tmp t)) →
    (∀ (i : Nat) (p : Oper) (t : Tmp), ops[i]? = some p → p.dst = some t → (o.looksAt ops).contains t = true → (rowOf tbl i).holds (a.eval (.tmp t)) w) →
    Gives P (fun v w' => Below w.heap.size w w' ∧ (rowOf tbl j).holds v w') ((execOp a.eval o).run P w)
def OwedAll (P : Program) (ops : Array Oper) (tbl : List (Option Sp)) (S : World → Prop) (a0 : Act) : Nat → List Oper → Prop
  | _, [] => True
  | j, o :: os => Owed P ops tbl S a0 j o ∧ OwedAll P ops tbl S a0 (j + 1) os
theorem owedAll_at {ops : Array Oper} {tbl : List (Option Sp)} {S : World → Prop} {a0 : Act} (l : List Oper) : ∀ (k : Nat), OwedAll P ops tbl S a0 k l → ∀ (j : Nat) (o : Oper), l[j]? = some o → Owed P ops tbl S a0 (k + j) o := by
  induction l with
  | nil => intro k _ j o ho; simp at ho
  | cons o' os ih =>
    intro k h j o ho
    cases j with
    | zero => simp at ho; subst ho; exact h.1
    | succ j =>
      have := ih (k + 1) h.2 j o (by simpa using ho)
      have e : k + (j + 1) = k + 1 + j := by omega
      rw [e]; exact this

theorem wp_region_table {id : Nat} {l : List Oper} {a0 : Act} {w0 : World} (tbl : List (Option Sp)) (hm : P.follows .mixedOrders = true)
    (hs : shapeB l.toArray = true) (hgd : guardsB l.toArray tbl = true) (hin : (l.all fun o => match o.dst with | some d => decide (d < a0.tmps.size) | none => true) = true)
    (hop : OwedAll P l.toArray tbl (fun w => Below w0.heap.size w0 w) a0 0 l)
    (hend : ∀ (a : Act) (w : World), Below w0.heap.size w0 w → a.tmps.size = a0.tmps.size → a.defers = a0.defers →
      (∀ (i : Nat) (o : Oper) (d : Tmp), l[i]? = some o → o.dst = some d → (rowOf tbl i).holds (a.tmps.getD d undef) w) →
      (∀ t, writesB l.toArray t = false → a.tmps[t]? = a0.tmps[t]?) → Q .normal a w) :
    (Code.region id l.toArray true).wp P Q a0 w0 := by
  have gat : ∀ (j : Nat) (o : Oper), l.toArray[j]? = some o → match o.guard with
      | none => goes tbl j = true
      | some (g, b) => ∃ x, spBool (rowOf tbl g) = some x ∧ match x with | some x => if goes tbl j then x = b else x ≠ b | none => goes tbl j = false := by
    intro j o hj
    have := List.all_eq_true.1 hgd j (List.mem_range.2 (Array.getElem?_eq_some_iff.1 hj).1)
    rw [hj] at this
    dsimp only at this
    cases hg : o.guard with
    | none => rw [hg] at this; exact this
    | some gb =>
      obtain ⟨g, b⟩ := gb
      rw [hg] at this
      dsimp only at this ⊢
      cases hx : spBool (rowOf tbl g) with
      | none => rw [hx] at this; cases this
      | some x =>
        rw [hx] at this
        refine ⟨x, rfl, ?_⟩
        cases x with
        | none => simpa using this
        | some x =>
          dsimp only at this ⊢
          split <;> rename_i h <;> simp [h] at this <;> exact this
  refine wp_region_facts hm (fun j v w => (rowOf tbl j).holds v w) (goes tbl) (fun w => Below w0.heap.size w0 w) (fun w w' => Below w.heap.size w w') hs ?_ (fun i v w w' _ _ h => (rowOf tbl i).mono v w w' h) (fun w => Below.refl _ w) ?_ ?_ ⟨rfl, rfl, rfl, Nat.le_refl _, fun _ _ => rfl⟩ ?_ ?_ ?_
  · intro i o d hi hd
    have := List.all_eq_true.1 hin o (by simpa using List.mem_of_getElem? (by simpa using hi))
    rw [hd] at this
    simpa using this
  · intro j o g b hj hg v w hv
    have h := gat j o hj
    rw [hg] at h
    obtain ⟨x, hx, hb⟩ := h
    have := spBool_spec hx v w hv
    cases x with
    | none => dsimp only at hb this; rw [hb]; simpa using this b
    | some x =>
      dsimp only at hb this
      subst this
      split <;> rename_i hgo <;> simp [hgo] at hb
      · rw [hb]
      · intro e; cases e; exact hb rfl
  · intro j o hj hg
    have h := gat j o hj
    rw [hg] at h; exact h
  · intro j o hj hgo a w hS hun hdep
    have ho := owedAll_at l 0 hop j o (by simpa using hj)
    rw [Nat.zero_add] at ho
    have := ho hgo a w hS hun fun i p t hp ht hl => by
      obtain ⟨e, he, hb, rfl⟩ := (shape_at hs hj).2.2.1 t (by simpa using hl) i p hp ht
      exact hdep e he hb p t hp ht
    generalize (execOp a.eval o).run P w = r at this ⊢
    cases r with
    | halt x w' => exact this.elim
    | ok n w' =>
      cases n <;> simp only [Gives] at this ⊢
      case value v => exact ⟨hS.trans (this.1.mono hS.size), this.1, this.2⟩
      case skip => exact ⟨hS.trans (this.1.mono hS.size), this.1, this.2⟩
      case enter f args =>
        refine this.mono ?_
        rintro e w'' ⟨v, rfl, h1, h2⟩
        exact ⟨v, rfl, hS.trans (h1.mono hS.size), h1, h2⟩
  · intro j o hj hgo w
    have : rowOf tbl j = .is undef := by
      unfold goes at hgo; unfold rowOf
      cases h : tbl[j]? with
      | none => rfl
      | some p => cases p with
        | none => rfl
        | some p => rw [h] at hgo; cases hgo
    rw [this]; rfl
  · intro a w hS hz hd hf hr
    exact hend a w hS hz hd (fun i o d hi => hf i o d (by simpa using hi)) hr
/-- The frame behind the region: what it has written is f's. -/
def layArr (l : List Oper) (a0 : Act) (f : Nat → Value) : Array Value := ((List.range a0.tmps.size).map fun t => if writesB l.toArray t then f t else a0.tmps.getD t undef).toArray

theorem wp_region_lay {id : Nat} {l : List Oper} {a0 : Act} {w0 : World} (tbl : List (Option Sp)) (fr : (Nat → Value) → Array Value) (hm : P.follows .mixedOrders = true)
    (hs : shapeB l.toArray = true) (hgd : guardsB l.toArray tbl = true) (hin : (l.all fun o => match o.dst with | some d => decide (d < a0.tmps.size) | none => true) = true)
    (hfr : ∀ f, layArr l a0 f = fr f)
    (hop : OwedAll P l.toArray tbl (fun w => Below w0.heap.size w0 w) a0 0 l)
    (hend : ∀ (f : Nat → Value) (w : World), Below w0.heap.size w0 w → (∀ (i : Nat) (o : Oper) (d : Tmp), l[i]? = some o → o.dst = some d → (rowOf tbl i).holds (f d) w) →
      Q .normal { tmps := fr f, defers := a0.defers } w) :
    (Code.region id l.toArray true).wp P Q a0 w0 := by
  refine wp_region_table tbl hm hs hgd hin hop fun a w hB hz hd hf hr => ?_
  have e : a = { tmps := fr (fun t => a.tmps.getD t undef), defers := a0.defers } := by
    rw [← hfr, ← hd]
    cases a with
    | mk tmps defers =>
      congr 1
      dsimp only at hz hr ⊢
      unfold layArr
      apply Array.ext
      · simp [hz]
      · intro t h1 h2
        have ht : t < a0.tmps.size := by omega
        simp only [List.getElem_toArray, List.getElem_map, List.getElem_range]
        split
        · simp
        · rename_i hw
          have h := hr t (by simpa using hw)
          rw [Array.getElem?_eq_getElem h1, Array.getElem?_eq_getElem ht] at h
          rw [Option.some.inj h]
          simp
  rw [e]
  exact hend _ w hB hf
end
end Go.Proofs.YtjelgmdjmjnnfaaGreat
namespace Go.Proofs.YtjelgmdjmjnnfaaGreat
open Go Go.RowKit
/-- What the region's operations yield, put one by one. -/
def putOps : List Oper → (Nat → Value) → Act → Act
  | [], _, a => a
  | o :: os, f, a => putOps os f (match o.dst with | some d => a.put (some d) (f d) | none => a)
theorem putOps_defers : ∀ (l : List Oper) (f : Nat → Value) (a : Act), (putOps l f a).defers = a.defers
  | [], _, _ => rfl
  | o :: os, f, a => by
    unfold putOps
    rw [putOps_defers os f]
    cases o.dst <;> rfl
theorem putOps_size : ∀ (l : List Oper) (f : Nat → Value) (a : Act), (putOps l f a).tmps.size = a.tmps.size
  | [], _, _ => rfl
  | o :: os, f, a => by
    unfold putOps
    rw [putOps_size os f]
    cases o.dst <;> simp [Act.put]
theorem putOps_at : ∀ (l : List Oper) (f : Nat → Value) (a : Act) (t : Nat), t < a.tmps.size → (putOps l f a).tmps[t]? = if (l.any fun o => o.dst == some t) then some (f t) else a.tmps[t]?
  | [], _, _, _, _ => by simp [putOps]
  | o :: os, f, a, t, ht => by
    unfold putOps
    cases hd : o.dst with
    | none =>
      simp only [List.any_cons, hd]
      rw [putOps_at os f a t ht]
      simp
    | some d =>
      simp only [List.any_cons, hd]
      rw [putOps_at os f _ t (by simpa [Act.put] using ht)]
      by_cases hdt : d = t
      · subst hdt
        simp [Act.put, ht]
      · simp [Act.put, hdt]
theorem wp_region_puts {P : Program} {Q : Exit → Act → World → Prop} {id : Nat} {l : List Oper} {a0 : Act} {w0 : World} (tbl : List (Option Sp)) (hm : P.follows .mixedOrders = true)
    (hs : shapeB l.toArray = true) (hgd : guardsB l.toArray tbl = true) (hin : (l.all fun o => match o.dst with | some d => decide (d < a0.tmps.size) | none => true) = true)
    (hop : OwedAll P l.toArray tbl (fun w => Below w0.heap.size w0 w) a0 0 l)
    (hend : ∀ (f : Nat → Value) (w : World), Below w0.heap.size w0 w → (∀ (i : Nat) (o : Oper) (d : Tmp), l[i]? = some o → o.dst = some d → (rowOf tbl i).holds (f d) w) →
      Q .normal (putOps l f a0) w) :
    (Code.region id l.toArray true).wp P Q a0 w0 := by
  refine wp_region_table tbl hm hs hgd hin hop fun a w hB hz hd hf hr => ?_
  have e : a = putOps l (fun t => a.tmps.getD t undef) a0 := by
    cases a with
    | mk tmps defers =>
      have h2 : (putOps l (fun t => tmps.getD t undef) a0).defers = defers := (putOps_defers _ _ _).trans hd.symm
      have h1 : (putOps l (fun t => tmps.getD t undef) a0).tmps = tmps := by
        apply Array.ext_getElem?
        intro t
        by_cases ht : t < a0.tmps.size
        · rw [putOps_at _ _ _ _ ht]
          split
          · dsimp only at hz
            simp [Array.getD_eq_getD_getElem?, hz, ht]
          · rename_i hw
            exact (hr t (by simpa [writesB] using hw)).symm
        · dsimp only at hz
          rw [Array.getElem?_eq_none (by rw [putOps_size]; omega), Array.getElem?_eq_none (by omega)]
      cases hp : putOps l (fun t => tmps.getD t undef) a0 with
      | mk t2 d2 =>
        rw [hp] at h1 h2
        dsimp only at h1 h2 ⊢
        subst h1 h2
        rfl
  rw [e]
  exact hend _ w hB hf
end Go.Proofs.YtjelgmdjmjnnfaaGreat
namespace Go.Proofs.YtjelgmdjmjnnfaaGreat
open Go Go.RowKit
section
variable {P : Program} {ops : Array Oper} {Q : Exit → Act → World → Prop}
/-- What is known, the store's fact besides. -/
structure KnownS (ops : Array Oper) (Φ : Nat → Value → World → Prop) (S : World → Prop) (a0 : Act) (s i8 c : Nat) (Θ : Value → World → Prop) (listed : Array Bool) (a : Act) (w : World) : Prop where
  k : Known ops Φ S a0 listed a w
  fin : listed.getD s true = true → listed.getD i8 true = true ∧ Θ (a.tmps.getD c undef) w
theorem wp_region_store {id : Nat} {a0 : Act} {w0 : World} (hm : P.follows .mixedOrders = true) (Φ : Nat → Value → World → Prop) (S : World → Prop) (R : World → World → Prop) (s i8 c : Nat) (Θ : Value → World → Prop)
    (hs : shapeB ops = true) (hin : ∀ (i : Nat) (o : Oper) (d : Tmp), ops[i]? = some o → o.dst = some d → d < a0.tmps.size)
    (hng : ∀ (j : Nat) (o : Oper), ops[j]? = some o → o.guard = none)
    (hz : s < ops.size ∧ i8 < ops.size) (hsd : ∀ o, ops[s]? = some o → o.dst = none ∧ ∃ e ∈ o.after, Region.binds .any e = true ∧ e.on = i8) (h8 : ∀ o, ops[i8]? = some o → o.dst = some c)
    (hmono : ∀ i v w w', R w w' → Φ i v w → Φ i v w') (hB : ∀ w w', Below w.heap.size w w' → R w w') (hΘ : ∀ v w w', Below w.heap.size w w' → Θ v w → Θ v w') (hΦs : ∀ v w, Φ s v w)
    (hS : S { w0 with drawn := w0.drawn + 1 })
    (hop : ∀ (j : Nat) (o : Oper), ops[j]? = some o → j ≠ s → ∀ (a : Act) (w : World), S w → (∀ t, writesB ops t = false → a.eval (.tmp t) = a0.eval (.tmp t)) →
      (∀ e ∈ o.after, Region.binds .any e = true → ∀ (p : Oper) (d : Tmp), ops[e.on]? = some p → p.dst = some d → Φ e.on (a.eval (.tmp d)) w) →
      Gives P (fun v w' => S w' ∧ Below w.heap.size w w' ∧ Φ j v w') ((execOp a.eval o).run P w))
    (hst : ∀ (o : Oper), ops[s]? = some o → ∀ (a : Act) (w : World), S w → (∀ t, writesB ops t = false → a.eval (.tmp t) = a0.eval (.tmp t)) →
      (∀ e ∈ o.after, Region.binds .any e = true → ∀ (p : Oper) (d : Tmp), ops[e.on]? = some p → p.dst = some d → Φ e.on (a.eval (.tmp d)) w) →
      Gives P (fun _ w' => S w' ∧ R w w' ∧ Θ (a.eval (.tmp c)) w') ((execOp a.eval o).run P w))
    (hend : ∀ (a : Act) (w : World), S w → a.tmps.size = a0.tmps.size → a.defers = a0.defers → (∀ (i : Nat) (o : Oper) (d : Tmp), ops[i]? = some o → o.dst = some d → Φ i (a.tmps.getD d undef) w) →
      (∀ t, writesB ops t = false → a.tmps[t]? = a0.tmps[t]?) → Θ (a.tmps.getD c undef) w → Q .normal a w) :
    (Code.region id ops true).wp P Q a0 w0 := by
  refine wp_region_any hm ?_
  have putS : ∀ (listed : Array Bool) (a : Act) (w w' : World) (j : Nat) (o : Oper) (v : Value), j ∈ Region.ready .any ops listed → KnownS ops Φ S a0 s i8 c Θ listed a w → ops[j]? = some o → S w' → R w w' → Φ j v w' → (j ≠ s → Below w.heap.size w w') → (j = s → Θ (a.eval (.tmp c)) w') →
      KnownS ops Φ S a0 s i8 c Θ (listed.setIfInBounds j true) (a.put o.dst v) w' := by
    intro listed a w w' j o v hj K ho h1 h2 h3 h4 h5
    refine ⟨Known.put (S := S) (R := R) hs (fun i v w w' _ _ => hmono i v w w') hin K.k ho h1 h2 h3, fun hl => ?_⟩
    obtain ⟨h0, o', ho', hdep⟩ := mem_ready.1 hj
    rw [ho] at ho'
    cases ho'
    have hsz : j < listed.size := by rw [K.k.size]; exact (Array.getElem?_eq_some_iff.1 ho).1
    by_cases e : j = s
    · subst e
      obtain ⟨hd, e', he, hb, hi⟩ := hsd o ho
      have h8l := hdep e' he hb
      rw [hi] at h8l
      have hne : j ≠ i8 := fun e8 => by
        have := h8 o (by rw [← e8]; exact ho)
        rw [hd] at this
        cases this
      have h8s : i8 < listed.size := by rw [K.k.size]; exact hz.2
      refine ⟨by rw [getD_set_ne true hne]; simpa [h8s] using h8l, ?_⟩
      rw [hd]
      exact h5 rfl
    · rw [getD_set_ne true e] at hl
      obtain ⟨f1, f2⟩ := K.fin hl
      have hne : j ≠ i8 := fun e8 => by
        rw [← e8] at f1
        have : listed.getD j true = false := h0
        rw [this] at f1
        cases f1
      refine ⟨by rw [getD_set_ne true hne]; exact f1, ?_⟩
      have hv : (a.put o.dst v).tmps.getD c undef = a.tmps.getD c undef := by
        cases hd : o.dst with
        | none => rfl
        | some d =>
          obtain ⟨o8, ho8⟩ : ∃ o8, ops[i8]? = some o8 := ⟨_, Array.getElem?_eq_getElem hz.2⟩
          have hne2 : d ≠ c := fun ec => (shape_at hs ho).2.1 i8 o8 ho8 (Ne.symm hne) d hd (by rw [h8 o8 ho8, ec])
          exact getD_put v hne2
      rw [hv]
      exact hΘ _ w w' (h4 e) f2
  have key : ∀ (fuel : Nat) (listed : Array Bool) (a : Act) (w : World), left ops listed ≤ fuel → KnownS ops Φ S a0 s i8 c Θ listed a w → wpAny P .any ops Q fuel listed a w := by
    have fin : ∀ (listed : Array Bool) (a : Act) (w : World), KnownS ops Φ S a0 s i8 c Θ listed a w → Region.ready .any ops listed = [] → Q .normal a w := by
      intro listed a w K hr
      have k := K.k
      have hl := all_listed hs k.size hr
      refine hend a w k.s k.tsize k.defers (fun i o d hi hd => k.facts i o d hi hd (hl i (Array.getElem?_eq_some_iff.1 hi).1)) (fun t ht => k.rest t fun i o hi hd => ?_) (K.fin (hl s hz.1)).2
      have := Array.any_eq_false.1 ht i (Array.getElem?_eq_some_iff.1 hi).1
      rw [(Array.getElem?_eq_some_iff.1 hi).2, hd] at this
      simp at this
    intro fuel
    induction fuel with
    | zero =>
      intro listed a w hf k
      have hr : Region.ready .any ops listed = [] := by
        cases h : Region.ready .any ops listed with
        | nil => rfl
        | cons j l =>
          have hj : j ∈ Region.ready .any ops listed := by rw [h]; simp
          obtain ⟨h0, o, ho, _⟩ := mem_ready.1 hj
          have := left_set (ops := ops) (Array.getElem?_eq_some_iff.1 ho).1 h0
          omega
      exact ⟨hr, fin listed a w k hr⟩
    | succ fuel ih =>
      intro listed a w hf K
      have k := K.k
      refine ⟨fin listed a w K, fun j hj => ?_⟩
      obtain ⟨h0, o, ho, hdep⟩ := mem_ready.1 hj
      have hl := left_set (ops := ops) (Array.getElem?_eq_some_iff.1 ho).1 h0
      have hdep' : ∀ e ∈ o.after, Region.binds .any e = true → ∀ (p : Oper) (d : Tmp), ops[e.on]? = some p → p.dst = some d → Φ e.on (a.tmps.getD d undef) w := by
        intro e he hb p d hp hd
        have h1 := hdep e he hb
        have hlt : e.on < listed.size := by rw [k.size]; exact (Array.getElem?_eq_some_iff.1 hp).1
        refine k.facts e.on p d hp hd ?_
        simpa [hlt] using h1
      have hun' : ∀ t, writesB ops t = false → a.eval (.tmp t) = a0.eval (.tmp t) := by
        intro t ht
        have := k.rest t fun i p hp hd => by
          have := Array.any_eq_false.1 ht i (Array.getElem?_eq_some_iff.1 hp).1
          rw [(Array.getElem?_eq_some_iff.1 hp).2, hd] at this
          simp at this
        simp [Act.eval, Array.getD_eq_getD_getElem?, this]
      have hw : Region.wanted o (yielded ops a.tmps) = true := by
        unfold Region.wanted
        simp [hng j o ho]
      unfold wpOp
      simp only [ho, hw, if_true]
      refine .inl ?_
      have hgv : Gives P (fun v w' => S w' ∧ R w w' ∧ Φ j v w' ∧ (j ≠ s → Below w.heap.size w w') ∧ (j = s → Θ (a.eval (.tmp c)) w')) ((execOp a.eval o).run P w) := by
        by_cases e : j = s
        · subst e
          have h := hst o ho a w k.s hun' hdep'
          revert h
          generalize (execOp a.eval o).run P w = r
          intro h
          cases r with
          | halt x w' => exact h.elim
          | ok n w' =>
            cases n <;> simp only [Gives] at h ⊢
            case value v => exact ⟨h.1, h.2.1, hΦs _ _, fun e => (e rfl).elim, fun _ => h.2.2⟩
            case skip => exact ⟨h.1, h.2.1, hΦs _ _, fun e => (e rfl).elim, fun _ => h.2.2⟩
            case enter f args => exact h.mono fun e w'' ⟨v, e1, h1, h2, h3⟩ => ⟨v, e1, h1, h2, hΦs _ _, fun e => (e rfl).elim, fun _ => h3⟩
        · have h := hop j o ho e a w k.s hun' hdep'
          revert h
          generalize (execOp a.eval o).run P w = r
          intro h
          cases r with
          | halt x w' => exact h.elim
          | ok n w' =>
            cases n <;> simp only [Gives] at h ⊢
            case value v => exact ⟨h.1, hB _ _ h.2.1, h.2.2, fun _ => h.2.1, fun e' => (e e').elim⟩
            case skip => exact ⟨h.1, hB _ _ h.2.1, h.2.2, fun _ => h.2.1, fun e' => (e e').elim⟩
            case enter f args => exact h.mono fun _ w'' ⟨v, e1, h1, h2, h3⟩ => ⟨v, e1, h1, hB _ _ h2, h3, fun _ => h2, fun e' => (e e').elim⟩
      unfold Oper.wp
      generalize (execOp a.eval o).run P w = r at hgv
      cases r with
      | halt x w' => exact hgv.elim
      | ok n w' =>
        cases n <;> simp only [Gives] at hgv <;> simp only [Oper.upon]
        case value v => exact ih _ _ _ (by omega) (putS listed a w w' j o _ hj K ho hgv.1 hgv.2.1 hgv.2.2.1 hgv.2.2.2.1 hgv.2.2.2.2)
        case skip => exact ih _ _ _ (by omega) (putS listed a w w' j o _ hj K ho hgv.1 hgv.2.1 hgv.2.2.1 hgv.2.2.2.1 hgv.2.2.2.2)
        case enter f args =>
          refine hgv.mono ?_
          rintro e w'' ⟨v, rfl, h1, h2, h3, h4, h5⟩
          exact ih _ _ _ (by omega) (putS listed a w w'' j o _ hj K ho h1 h2 h3 h4 h5)
  refine key _ _ _ _ ?_ ⟨⟨hS, by simp, rfl, rfl, fun i o d hi _ hl => ?_, fun t _ => rfl⟩, fun hl => ?_⟩
  · unfold left
    have := List.countP_le_length (p := fun i => !(Array.replicate ops.size false).getD i true) (l := List.range ops.size)
    simpa using this
  · have := (Array.getElem?_eq_some_iff.1 hi).1
    simp [this] at hl
  · simp [hz.1] at hl
end
def AllAt (F : Nat → Oper → Prop) : Nat → List Oper → Prop
  | _, [] => True
  | j, o :: os => F j o ∧ AllAt F (j + 1) os
theorem allAt_at {F : Nat → Oper → Prop} (l : List Oper) : ∀ (k : Nat), AllAt F k l → ∀ (j : Nat) (o : Oper), l[j]? = some o → F (k + j) o := by
  induction l with
  | nil => intro k _ j o ho; simp at ho
  | cons o' os ih =>
    intro k h j o ho
    cases j with
    | zero => simp at ho; subst ho; exact h.1
    | succ j =>
      have := ih (k + 1) h.2 j o (by simpa using ho)
      have e : k + (j + 1) = k + 1 + j := by omega
      rw [e]; exact this
/-- What is owed for an operation that is no store. -/
def OweG (P : Program) (l : List Oper) (Φ : Nat → Value → World → Prop) (S : World → Prop) (a0 : Act) (s : Nat) (j : Nat) (o : Oper) : Prop :=
  j ≠ s → ∀ (a : Act) (w : World), S w → (∀ t, writesB l.toArray t = false → a.eval (.tmp t) = a0.eval (.tmp t)) →
      (∀ e ∈ o.after, Region.binds .any e = true → ∀ (p : Oper) (d : Tmp), l[e.on]? = some p → p.dst = some d → Φ e.on (a.eval (.tmp d)) w) →
      Gives P (fun v w' => Below w.heap.size w w' ∧ Φ j v w') ((execOp a.eval o).run P w)
theorem wp_region_store_puts {P : Program} {Q : Exit → Act → World → Prop} {id : Nat} {l : List Oper} {a0 : Act} {w0 : World} (hm : P.follows .mixedOrders = true) (Φ : Nat → Value → World → Prop) (base : Nat) (R : World → World → Prop) (s i8 c : Nat) (Θ : Value → World → Prop)
    (hs : shapeB l.toArray = true) (hin : (l.all fun o => match o.dst with | some d => decide (d < a0.tmps.size) | none => true) = true) (hng : (l.all fun o => o.guard.isNone) = true)
    (hz : s < l.length ∧ i8 < l.length) (hsd : (match l[s]? with | some o => o.dst.isNone && o.after.any (fun e => Region.binds .any e && e.on == i8) | none => false) = true) (h8 : (match l[i8]? with | some o => o.dst == some c | none => false) = true)
    (hmono : ∀ i v w w', R w w' → Φ i v w → Φ i v w') (hB : ∀ w w', Below w.heap.size w w' → R w w') (hΘ : ∀ v w w', Below w.heap.size w w' → Θ v w → Θ v w') (hΦs : ∀ v w, Φ s v w)
    (hbase : base = w0.heap.size)
    (hop : AllAt (OweG P l Φ (fun W => Below base w0 W) a0 s) 0 l)
    (hst : ∀ (o : Oper), l[s]? = some o → ∀ (a : Act) (w : World), Below base w0 w → (∀ t, writesB l.toArray t = false → a.eval (.tmp t) = a0.eval (.tmp t)) →
      (∀ e ∈ o.after, Region.binds .any e = true → ∀ (p : Oper) (d : Tmp), l[e.on]? = some p → p.dst = some d → Φ e.on (a.eval (.tmp d)) w) →
      Gives P (fun _ w' => Below base w0 w' ∧ R w w' ∧ Θ (a.eval (.tmp c)) w') ((execOp a.eval o).run P w))
    (hend : ∀ (f : Nat → Value) (w : World), Below base w0 w → Θ (f c) w → Q .normal (putOps l f a0) w) :
    (Code.region id l.toArray true).wp P Q a0 w0 := by
  refine wp_region_store hm Φ (fun W => Below base w0 W) R s i8 c Θ hs ?_ ?_ (by simpa using hz) ?_ ?_ hmono hB hΘ hΦs ?_ ?_ ?_ ?_
  · intro i o d hi hd
    have := List.all_eq_true.1 hin o (by simpa using List.mem_of_getElem? (by simpa using hi))
    rw [hd] at this
    simpa using this
  · intro j o hj
    have := List.all_eq_true.1 hng o (by simpa using List.mem_of_getElem? (by simpa using hj))
    simpa using this
  · intro o ho
    have ho' : l[s]? = some o := by simpa using ho
    rw [ho'] at hsd
    simp only [Bool.and_eq_true, Option.isNone_iff_eq_none, Array.any_eq_true', beq_iff_eq] at hsd
    obtain ⟨h1, e, he, hb, h2⟩ := hsd
    exact ⟨h1, e, he, hb, h2⟩
  · intro o ho
    have ho' : l[i8]? = some o := by simpa using ho
    rw [ho'] at h8
    simpa using h8
  · rw [hbase]; exact bdrew1 (Below.refl _ _)
  · intro j o hj hjs a w hS hun hdep
    have h := allAt_at l 0 hop j o (by simpa using hj)
    rw [Nat.zero_add] at h
    have h := h hjs a w hS hun (fun e he hb p d hp hd => hdep e he hb p d (by simpa using hp) hd)
    revert h
    generalize (execOp a.eval o).run P w = r
    intro h
    have hlo : base ≤ w.heap.size := by rw [hbase]; exact hS.size
    cases r with
    | halt x w' => exact h.elim
    | ok n w' =>
      cases n <;> simp only [Gives] at h ⊢
      case value v => exact ⟨hS.trans (h.1.mono hlo), h.1, h.2⟩
      case skip => exact ⟨hS.trans (h.1.mono hlo), h.1, h.2⟩
      case enter f args => exact h.mono fun _ w'' ⟨v, e1, h1, h2⟩ => ⟨v, e1, hS.trans (h1.mono hlo), h1, h2⟩
  · intro o ho a w hS hun hdep
    exact hst o (by simpa using ho) a w hS hun (fun e he hb p d hp hd => hdep e he hb p d (by simpa using hp) hd)
  · intro a w hS hz' hd _ hr hT
    have e : a = putOps l (fun t => a.tmps.getD t undef) a0 := by
      cases a with
      | mk tmps defers =>
        have h2 : (putOps l (fun t => tmps.getD t undef) a0).defers = defers := (putOps_defers _ _ _).trans hd.symm
        have h1 : (putOps l (fun t => tmps.getD t undef) a0).tmps = tmps := by
          apply Array.ext_getElem?
          intro t
          by_cases ht : t < a0.tmps.size
          · rw [putOps_at _ _ _ _ ht]
            split
            · dsimp only at hz'
              simp [Array.getD_eq_getD_getElem?, hz', ht]
            · rename_i hw
              exact (hr t (by simpa [writesB] using hw)).symm
          · dsimp only at hz'
            rw [Array.getElem?_eq_none (by rw [putOps_size]; omega), Array.getElem?_eq_none (by omega)]
        cases hp : putOps l (fun t => tmps.getD t undef) a0 with
        | mk t2 d2 =>
          rw [hp] at h1 h2
          dsimp only at h1 h2 ⊢
          subst h1 h2
          rfl
    rw [e]
    exact hend _ w hS hT
end Go.Proofs.YtjelgmdjmjnnfaaGreat
namespace Go.Proofs.YtjelgmdjmjnnfaaGreat
open Go Go.RowKit Go.Maps
attribute [local go_sem] Oper.semAt_some
def calm (Q : Exit → Act → World → Prop) : Exit → Act → World → Prop
  | .normal, a, w => Q .normal a w
  | _, _, _ => False
theorem calm_le (Q : Exit → Act → World → Prop) : ∀ e a w, calm Q e a w → Q e a w := by
  intro e a w h
  cases e <;> first | exact h | exact h.elim
theorem rk0_ints (g : Gr) : ints (rk g 0) = List.replicate g.rules.length (.int .i64 0) := by simp [rk, ints]
structure AtWork (w wx : World) (g : Gr) (q p mb rb : Nat) (r : List Int) : Prop where
  box : Blk wx q #[.pointer (some ⟨p, 0, none⟩)] 75
  wrk : Wrk wx p g mb rb r
  below : Below w.heap.size w wx
  new : w.heap.size ≤ p ∧ w.heap.size ≤ mb ∧ w.heap.size ≤ rb ∧ w.heap.size ≤ q
/-- A pointer's own block. -/
def IsPt (w : World) (j : Nat) : Prop := ∃ v, Blk w j #[v] 75
/-- Memory grows, and pointers' blocks turn. -/
structure Trn (w w' : World) : Prop where
  size : w.heap.size ≤ w'.heap.size
  block : ∀ j, j < w.heap.size → ¬ IsPt w j → w'.heap[j]? = w.heap[j]?
  pt : ∀ j, IsPt w j → IsPt w' j
theorem Trn.below {w w' : World} (h : Below w.heap.size w w') : Trn w w' := ⟨h.size, fun j hj _ => h.block j hj, fun j ⟨v, hv⟩ => ⟨v, hv.below' h⟩⟩
theorem Trn.blk {w w' : World} {b : Nat} {vs : Array Value} {T : TypeId} (h : Trn w w') (hb : Blk w b vs T) (hT : T ≠ 75) : Blk w' b vs T :=
  (h.block b hb.lt (fun ⟨v, hv⟩ => by have := hb.symm.trans hv; simp only [Option.some.injEq, Obj.cells.injEq] at this; exact hT this.2.1)).trans hb
theorem Trn.laws {w w' : World} {b : Nat} (h : Trn w w') (hb : Laws w b) : Laws w' b := by
  refine hb.kept (h.block b hb.lt fun ⟨v, hv⟩ => ?_)
  obtain ⟨es, clock, h1, _⟩ := hb
  have := h1.symm.trans hv
  cases this
/-- What each operation yields. -/
def wkF (base : Nat) (g : Gr) (bx : Nat) : Nat → Value → World → Prop
  | 0, v, _ => v = g.val
  | 1, v, w => ∃ b, v = .map (some b) ∧ base ≤ b ∧ Laws w b
  | 2, v, _ => v = .pointer (some ⟨bx, 0, none⟩)
  | 3, v, _ => v = .slice g.RA g.rules.length g.rc
  | 4, v, _ => v = .int .i64 g.rules.length
  | 5, v, w => ∃ b, v = .slice (some ⟨b, 0, none⟩) g.rules.length g.rules.length ∧ base ≤ b ∧ Blk w b (ints (rk g 0)).toArray 3
  | 6, v, w => ∃ mb rb, v = .agg #[.slice g.RA g.rules.length g.rc, .slice g.NA g.nodes.length g.nc, .map (some mb), .slice (some ⟨rb, 0, none⟩) g.rules.length g.rules.length] ∧ (base ≤ mb ∧ Laws w mb) ∧ base ≤ rb ∧ Blk w rb (ints (rk g 0)).toArray 3
  | 7, v, w => ∃ p mb rb, v = .pointer (some ⟨p, 0, none⟩) ∧ (base ≤ p ∧ Blk w p #[.slice g.RA g.rules.length g.rc, .slice g.NA g.nodes.length g.nc, .map (some mb), .slice (some ⟨rb, 0, none⟩) g.rules.length g.rules.length] 80) ∧ (base ≤ mb ∧ Laws w mb) ∧ base ≤ rb ∧ Blk w rb (ints (rk g 0)).toArray 3
  | 8, v, w => ∃ q, v = .pointer (some ⟨q, 0, none⟩) ∧ base ≤ q ∧ IsPt w q
  | _, _, _ => True
theorem wkF_mono (base : Nat) (g : Gr) (bx : Nat) : ∀ i v w w', Trn w w' → wkF base g bx i v w → wkF base g bx i v w' := by
  intro i v w w' h hf
  match i, hf with
  | 0, hf => exact hf
  | 1, ⟨b, e, h1, h2⟩ => exact ⟨b, e, h1, h.laws h2⟩
  | 2, hf => exact hf
  | 3, hf => exact hf
  | 4, hf => exact hf
  | 5, ⟨b, e, h1, h2⟩ => exact ⟨b, e, h1, h.blk h2 (by decide)⟩
  | 6, ⟨mb, rb, e, ⟨h1, h2⟩, h3, h4⟩ => exact ⟨mb, rb, e, ⟨h1, h.laws h2⟩, h3, h.blk h4 (by decide)⟩
  | 7, ⟨p, mb, rb, e, ⟨h1, h2⟩, ⟨h3, h4⟩, h5, h6⟩ => exact ⟨p, mb, rb, e, ⟨h1, h.blk h2 (by decide)⟩, ⟨h3, h.laws h4⟩, h5, h.blk h6 (by decide)⟩
  | 8, ⟨q, e, h1, h2⟩ => exact ⟨q, e, h1, h.pt q h2⟩
  | (n + 9), _ => exact trivial
/-- What the store leaves. -/
def wkT (base : Nat) (g : Gr) (v : Value) (w : World) : Prop := ∃ q p mb rb, v = .pointer (some ⟨q, 0, none⟩) ∧ (base ≤ q ∧ Blk w q #[.pointer (some ⟨p, 0, none⟩)] 75) ∧ (base ≤ p ∧ Blk w p #[.slice g.RA g.rules.length g.rc, .slice g.NA g.nodes.length g.nc, .map (some mb), .slice (some ⟨rb, 0, none⟩) g.rules.length g.rules.length] 80) ∧ (base ≤ mb ∧ Laws w mb) ∧ base ≤ rb ∧ Blk w rb (ints (rk g 0)).toArray 3
theorem wkT_mono (base : Nat) (g : Gr) (v : Value) (w w' : World) (h : Below w.heap.size w w') : wkT base g v w → wkT base g v w' := fun ⟨q, p, mb, rb, e, ⟨a1, a2⟩, ⟨b1, b2⟩, ⟨c1, c2⟩, d1, d2⟩ => ⟨q, p, mb, rb, e, ⟨a1, a2.below' h⟩, ⟨b1, b2.below' h⟩, ⟨c1, c2.below h⟩, d1, d2.below' h⟩
section
variable {a : Act} {w : World} {o : Oper} {Φ : Value → World → Prop}
theorem f_load2 {x : Operand} {b : Nat} {u v : Value} (ho : o.op = .load 25 x) (hx : a.eval x = .pointer (some ⟨b, 0, none⟩)) (h0 : w.cell? ⟨b, 0, none⟩ = some u) (h1 : w.cell? ⟨b, 1, none⟩ = some v) (h : Φ (.agg #[u, v]) w) :
    Gives Tryz.prog (fun v w' => Below w.heap.size w w' ∧ Φ v w') ((execOp a.eval o).run Tryz.prog w) := by
  refine .value (v := .agg #[u, v]) (w := w) ?_ ⟨Below.refl _ _, h⟩
  generalize a.eval = ρ at *
  simp only [execOp, ho, hx]
  go_simp
theorem f_field {x : Operand} {b : Nat} (ho : o.op = .fieldAddr 25 x 0) (hx : a.eval x = .pointer (some ⟨b, 0, none⟩)) (h : Φ (.pointer (some ⟨b, 0, none⟩)) w) :
    Gives Tryz.prog (fun v w' => Below w.heap.size w w' ∧ Φ v w') ((execOp a.eval o).run Tryz.prog w) := by
  refine .value (v := .pointer (some ⟨b, 0, none⟩)) (w := w) ?_ ⟨Below.refl _ _, h⟩
  generalize a.eval = ρ at *
  simp only [execOp, ho, hx]
  go_simp
theorem f_load1 {x : Operand} {b : Nat} {A : Option Addr} {n c : Nat} (ho : o.op = .load 22 x) (hx : a.eval x = .pointer (some ⟨b, 0, none⟩)) (h0 : w.cell? ⟨b, 0, none⟩ = some (.slice A n c)) (h : Φ (.slice A n c) w) :
    Gives Tryz.prog (fun v w' => Below w.heap.size w w' ∧ Φ v w') ((execOp a.eval o).run Tryz.prog w) := by
  refine .value (v := .slice A n c) (w := w) ?_ ⟨Below.refl _ _, h⟩
  generalize a.eval = ρ at *
  simp only [execOp, ho, hx]
  go_simp
theorem f_len {x : Operand} {A : Option Addr} {n c : Nat} (ho : o.op = .call { callee := .builtin .len, args := #[x], argTypes := #[22] }) (hx : a.eval x = .slice A n c) (h : Φ (.int .i64 n) w) :
    Gives Tryz.prog (fun v w' => Below w.heap.size w w' ∧ Φ v w') ((execOp a.eval o).run Tryz.prog w) := by
  refine .value (v := .int .i64 n) (w := w) ?_ ⟨Below.refl _ _, h⟩
  generalize a.eval = ρ at *
  simp only [execOp, ho, List.map_toArray, List.map_cons, List.map_nil, hx]
  go_simp
theorem f_call {f : FuncId} (ho : o.op = .call { callee := .value (.func f), args := #[], argTypes := #[] })
    (he : ∀ args w, (callFunc f args).run Tryz.prog w = .ok (.enter f args) w) (h : Calls Tryz.prog f #[] w fun e w' => ∃ v, e = .returned v ∧ Below w.heap.size w w' ∧ Φ v w') :
    Gives Tryz.prog (fun v w' => Below w.heap.size w w' ∧ Φ v w') ((execOp a.eval o).run Tryz.prog w) := by
  refine .enter (f := f) (args := #[]) (w := w) ?_ h
  simp only [execOp, ho, resolve, Act.eval]
  simp [invoke, Deferred.ofValue, he, go_sem]
theorem f_build {x y z : Operand} {A B : Option Addr} {n c k d mb rb r : Nat} (ho : o.op = .build 80 #[(0, x), (1, y), (2, z)]) (hx : a.eval x = .agg #[.slice A n c, .slice B k d]) (hy : a.eval y = .map (some mb)) (hz : a.eval z = .slice (some ⟨rb, 0, none⟩) r r)
    (h : Φ (.agg #[.slice A n c, .slice B k d, .map (some mb), .slice (some ⟨rb, 0, none⟩) r r]) w) :
    Gives Tryz.prog (fun v w' => Below w.heap.size w w' ∧ Φ v w') ((execOp a.eval o).run Tryz.prog w) := by
  refine .value (v := .agg #[.slice A n c, .slice B k d, .map (some mb), .slice (some ⟨rb, 0, none⟩) r r]) (w := w) ?_ ⟨Below.refl _ _, h⟩
  generalize a.eval = ρ at *
  simp only [execOp, ho, hx, hy, hz, List.map_toArray, List.map_cons, List.map_nil]
  go_simp
theorem f_box {x : Operand} {cs : Array Value} (ho : o.op = .box 80 x) (hx : a.eval x = .agg cs) (h : Φ (.pointer (some ⟨w.heap.size, 0, none⟩)) (w.alloc (.cells cs 80))) :
    Gives Tryz.prog (fun v w' => Below w.heap.size w w' ∧ Φ v w') ((execOp a.eval o).run Tryz.prog w) := by
  refine .value (v := .pointer (some ⟨w.heap.size, 0, none⟩)) (w := w.alloc (.cells cs 80)) ?_ ⟨B1 _ _, h⟩
  generalize a.eval = ρ at *
  simp only [execOp, ho, hx]
  go_simp
theorem f_alloc (ho : o.op = .alloc 75) (h : Φ (.pointer (some ⟨w.heap.size, 0, none⟩)) (w.alloc (.cells #[.pointer none] 75))) :
    Gives Tryz.prog (fun v w' => Below w.heap.size w w' ∧ Φ v w') ((execOp a.eval o).run Tryz.prog w) := by
  refine .value (v := .pointer (some ⟨w.heap.size, 0, none⟩)) (w := w.alloc (.cells #[.pointer none] 75)) ?_ ⟨B1 _ _, h⟩
  generalize a.eval = ρ at *
  simp only [execOp, ho]
  go_simp
theorem made_int (n : Nat) : madeCells (Value.int .i64 0).cells (n * 1) = (List.replicate n (Value.int .i64 0)).toArray := by
  apply Array.ext
  · simp [madeCells]
  · intro k h1 h2
    simp [madeCells, Value.cells, Nat.mod_one]
theorem f_make {x : Operand} {n : Nat} (ho : o.op = .makeSlice 41 x x) (hx : a.eval x = .int .i64 (n : Nat)) (hn : n ≤ 100) (h : Φ (.slice (some ⟨w.heap.size, 0, none⟩) n n) (w.alloc (.cells (List.replicate n (Value.int .i64 0)).toArray 3))) :
    Gives Tryz.prog (fun v w' => Below w.heap.size w w' ∧ Φ v w') ((execOp a.eval o).run Tryz.prog w) := by
  obtain ⟨i0, hi, hz0, hz1, hz2⟩ := info_parts Tryz.info3
  have hr := run_make (P := Tryz.prog) w 41 3 i0 (.int .i64 0) Tryz.underlying41 hi hz0 .i64 .i64 (n : Nat) (n : Nat) (by omega) (by omega) (by rw [hz2]; omega) (by omega)
  rw [hz1, Int.toNat_natCast, made_int] at hr
  refine .value (v := .slice (some ⟨w.heap.size, 0, none⟩) n n) (w := w.alloc (.cells (List.replicate n (Value.int .i64 0)).toArray 3)) ?_ ⟨B1 _ _, h⟩
  simp only [execOp, ho, hx, hr, Sem.run_bind, Result.andThen_ok]
  go_simp
/-- The store. -/
theorem f_store {x y : Operand} {q p : Nat} {v0 : Value} {Ψ : World → Prop} (ho : o.op = .store 75 x y) (hx : a.eval x = .pointer (some ⟨q, 0, none⟩)) (hy : a.eval y = .pointer (some ⟨p, 0, none⟩)) (hb : Blk w q #[v0] 75)
    (h : Ψ (w.setCell ⟨q, 0, none⟩ (.pointer (some ⟨p, 0, none⟩)))) : Gives Tryz.prog (fun _ w' => Ψ w') ((execOp a.eval o).run Tryz.prog w) := by
  have hc := hb.cell 0
  have hf := hb.frozen 0
  simp only [List.getElem?_toArray, List.getElem?_cons_zero] at hc
  have hr : (execOp a.eval o).run Tryz.prog w = .ok .skip (w.setCell ⟨q, 0, none⟩ (.pointer (some ⟨p, 0, none⟩))) := by
    generalize a.eval = ρ at *
    simp only [execOp, ho, hx, hy]
    go_simp
  rw [hr]
  exact h
end
end Go.Proofs.YtjelgmdjmjnnfaaGreat

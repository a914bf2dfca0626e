/- The law of Rg with a table of facts: 'is v' or a fact that stays while the world grows. Nothing here speaks of one program. -/
import Derived.Test.YtlbjmkljmhfjdaaGreatB8
import Derived.Test.YtlbjmkljmhfjdaaGreatA1
import Derived.Test.YtlbjmkljmhfjdaaGreatB5
set_option linter.unusedSimpArgs false
set_option linter.unusedVariables false
namespace Go.Proofs.YtlbjmkljmhfjdaaGreat
open Go Go.RowKit

/-- A fact on a value that stays true while the world only grows. -/
structure Stay where
  holds : Value → World → Prop
  mono : ∀ v w w', Below w.heap.size w w' → holds v w → holds v w'
inductive Sp where
  | is (v : Value)
  | st (p : Stay)
def Sp.holds : Sp → Value → World → Prop
  | .is v, x, _ => x = v
  | .st p, x, w => p.holds x w
theorem Sp.mono (p : Sp) (v : Value) (w w' : World) (h : Below w.heap.size w w') (hp : p.holds v w) : p.holds v w' := by
  cases p with
  | is u => exact hp
  | st p => exact p.mono v w w' h hp

/-- The table's row, 'undef' for an operation that is passed over. -/
def rowOf (tbl : List (Option Sp)) (j : Nat) : Sp := match tbl[j]? with | some (some p) => p | _ => .is undef
def goes (tbl : List (Option Sp)) (j : Nat) : Bool := match tbl[j]? with | some (some _) => true | _ => false
def spBool : Sp → Option (Option Bool)
  | .is (.bool b) => some (some b)
  | .is (.tuple _) => some none
  | _ => none
theorem spBool_spec {p : Sp} {x : Option Bool} (h : spBool p = some x) (v : Value) (w : World) (hv : p.holds v w) : match x with | some b => v = .bool b | none => ∀ b, v ≠ .bool b := by
  cases p with
  | st p => simp [spBool] at h
  | is u =>
    have hv' : v = u := hv
    subst hv'
    cases v <;> simp [spBool] at h
    · subst h; rfl
    · subst h; intro b hb; cases hb

/-- THE GUARDS FIT THE TABLE. -/
def guardsB (ops : Array Oper) (tbl : List (Option Sp)) : Bool :=
  (List.range ops.size).all fun j => match ops[j]? with
    | none => true
    | some o => match o.guard with
      | none => goes tbl j
      | some (g, b) => match spBool (rowOf tbl g) with
        | some (some x) => if goes tbl j then x == b else x != b
        | some none => !goes tbl j
        | none => false

section
variable {P : Program} {Q : Exit → Act → World → Prop}

/-- What is owed for one operation. -/
def Owed (P : Program) (ops : Array Oper) (tbl : List (Option Sp)) (S : World → Prop) (a0 : Act) (j : Nat) (o : Oper) : Prop :=
  goes tbl j = true → ∀ (a : Act) (w : World), S w → (∀ t, writesB ops t = false → a.eval (.tmp t) = a0.eval (.tmp t)) →
    (∀ (i : Nat) (p : Oper) (t : Tmp), ops[i]? = some p → p.dst = some t → (o.looksAt ops).contains t = true → (rowOf tbl i).holds (a.eval (.tmp t)) w) →
    Gives P (fun v w' => Below w.heap.size w w' ∧ (rowOf tbl j).holds v w') ((execOp a.eval o).run P w)
def OwedAll (P : Program) (ops : Array Oper) (tbl : List (Option Sp)) (S : World → Prop) (a0 : Act) : Nat → List Oper → Prop
  | _, [] => True
  | j, o :: os => Owed P ops tbl S a0 j o ∧ OwedAll P ops tbl S a0 (j + 1) os
theorem owedAll_at {ops : Array Oper} {tbl : List (Option Sp)} {S : World → Prop} {a0 : Act} (l : List Oper) : ∀ (k : Nat), OwedAll P ops tbl S a0 k l → ∀ (j : Nat) (o : Oper), l[j]? = some o → Owed P ops tbl S a0 (k + j) o := by
  induction l with
  | nil => intro k _ j o ho; simp at ho
  | cons o' os ih =>
    intro k h j o ho
    cases j with
    | zero => simp at ho; subst ho; exact h.1
    | succ j =>
      have := ih (k + 1) h.2 j o (by simpa using ho)
      have e : k + (j + 1) = k + 1 + j := by omega
      rw [e]; exact this

theorem wp_region_table {id : Nat} {l : List Oper} {a0 : Act} {w0 : World} (tbl : List (Option Sp)) (hm : P.follows .mixedOrders = true)
    (hs : shapeB l.toArray = true) (hgd : guardsB l.toArray tbl = true) (hin : (l.all fun o => match o.dst with | some d => decide (d < a0.tmps.size) | none => true) = true)
    (hop : OwedAll P l.toArray tbl (fun w => Below w0.heap.size w0 w) a0 0 l)
    (hend : ∀ (a : Act) (w : World), Below w0.heap.size w0 w → a.tmps.size = a0.tmps.size → a.defers = a0.defers →
      (∀ (i : Nat) (o : Oper) (d : Tmp), l[i]? = some o → o.dst = some d → (rowOf tbl i).holds (a.tmps.getD d undef) w) →
      (∀ t, writesB l.toArray t = false → a.tmps[t]? = a0.tmps[t]?) → Q .normal a w) :
    (Code.region id l.toArray true).wp P Q a0 w0 := by
  have gat : ∀ (j : Nat) (o : Oper), l.toArray[j]? = some o → match o.guard with
      | none => goes tbl j = true
      | some (g, b) => ∃ x, spBool (rowOf tbl g) = some x ∧ match x with | some x => if goes tbl j then x = b else x ≠ b | none => goes tbl j = false := by
    intro j o hj
    have := List.all_eq_true.1 hgd j (List.mem_range.2 (Array.getElem?_eq_some_iff.1 hj).1)
    rw [hj] at this
    dsimp only at this
    cases hg : o.guard with
    | none => rw [hg] at this; exact this
    | some gb =>
      obtain ⟨g, b⟩ := gb
      rw [hg] at this
      dsimp only at this ⊢
      cases hx : spBool (rowOf tbl g) with
      | none => rw [hx] at this; cases this
      | some x =>
        rw [hx] at this
        refine ⟨x, rfl, ?_⟩
        cases x with
        | none => simpa using this
        | some x =>
          dsimp only at this ⊢
          split <;> rename_i h <;> simp [h] at this <;> exact this
  refine wp_region_facts hm (fun j v w => (rowOf tbl j).holds v w) (goes tbl) (fun w => Below w0.heap.size w0 w) (fun w w' => Below w.heap.size w w') hs ?_ (fun i v w w' _ _ h => (rowOf tbl i).mono v w w' h) (fun w => Below.refl _ w) ?_ ?_ ⟨rfl, rfl, rfl, Nat.le_refl _, fun _ _ => rfl⟩ ?_ ?_ ?_
  · intro i o d hi hd
    have := List.all_eq_true.1 hin o (by simpa using List.mem_of_getElem? (by simpa using hi))
    rw [hd] at this
    simpa using this
  · intro j o g b hj hg v w hv
    have h := gat j o hj
    rw [hg] at h
    obtain ⟨x, hx, hb⟩ := h
    have := spBool_spec hx v w hv
    cases x with
    | none => dsimp only at hb this; rw [hb]; simpa using this b
    | some x =>
      dsimp only at hb this
      subst this
      split <;> rename_i hgo <;> simp [hgo] at hb
      · rw [hb]
      · intro e; cases e; exact hb rfl
  · intro j o hj hg
    have h := gat j o hj
    rw [hg] at h; exact h
  · intro j o hj hgo a w hS hun hdep
    have ho := owedAll_at l 0 hop j o (by simpa using hj)
    rw [Nat.zero_add] at ho
    have := ho hgo a w hS hun fun i p t hp ht hl => by
      obtain ⟨e, he, hb, rfl⟩ := (shape_at hs hj).2.2.1 t (by simpa using hl) i p hp ht
      exact hdep e he hb p t hp ht
    generalize (execOp a.eval o).run P w = r at this ⊢
    cases r with
    | halt x w' => exact this.elim
    | ok n w' =>
      cases n <;> simp only [Gives] at this ⊢
      case value v => exact ⟨hS.trans (this.1.mono hS.size), this.1, this.2⟩
      case skip => exact ⟨hS.trans (this.1.mono hS.size), this.1, this.2⟩
      case enter f args =>
        refine this.mono ?_
        rintro e w'' ⟨v, rfl, h1, h2⟩
        exact ⟨v, rfl, hS.trans (h1.mono hS.size), h1, h2⟩
  · intro j o hj hgo w
    have : rowOf tbl j = .is undef := by
      unfold goes at hgo; unfold rowOf
      cases h : tbl[j]? with
      | none => rfl
      | some p => cases p with
        | none => rfl
        | some p => rw [h] at hgo; cases hgo
    rw [this]; rfl
  · intro a w hS hz hd hf hr
    exact hend a w hS hz hd (fun i o d hi => hf i o d (by simpa using hi)) hr
/-- The frame behind the region: what it has written is f's. -/
def layArr (l : List Oper) (a0 : Act) (f : Nat → Value) : Array Value := ((List.range a0.tmps.size).map fun t => if writesB l.toArray t then f t else a0.tmps.getD t undef).toArray

theorem wp_region_lay {id : Nat} {l : List Oper} {a0 : Act} {w0 : World} (tbl : List (Option Sp)) (fr : (Nat → Value) → Array Value) (hm : P.follows .mixedOrders = true)
    (hs : shapeB l.toArray = true) (hgd : guardsB l.toArray tbl = true) (hin : (l.all fun o => match o.dst with | some d => decide (d < a0.tmps.size) | none => true) = true)
    (hfr : ∀ f, layArr l a0 f = fr f)
    (hop : OwedAll P l.toArray tbl (fun w => Below w0.heap.size w0 w) a0 0 l)
    (hend : ∀ (f : Nat → Value) (w : World), Below w0.heap.size w0 w → (∀ (i : Nat) (o : Oper) (d : Tmp), l[i]? = some o → o.dst = some d → (rowOf tbl i).holds (f d) w) →
      Q .normal { tmps := fr f, defers := a0.defers } w) :
    (Code.region id l.toArray true).wp P Q a0 w0 := by
  refine wp_region_table tbl hm hs hgd hin hop fun a w hB hz hd hf hr => ?_
  have e : a = { tmps := fr (fun t => a.tmps.getD t undef), defers := a0.defers } := by
    rw [← hfr, ← hd]
    cases a with
    | mk tmps defers =>
      congr 1
      dsimp only at hz hr ⊢
      unfold layArr
      apply Array.ext
      · simp [hz]
      · intro t h1 h2
        have ht : t < a0.tmps.size := by omega
        simp only [List.getElem_toArray, List.getElem_map, List.getElem_range]
        split
        · simp
        · rename_i hw
          have h := hr t (by simpa using hw)
          rw [Array.getElem?_eq_getElem h1, Array.getElem?_eq_getElem ht] at h
          rw [Option.some.inj h]
          simp
  rw [e]
  exact hend _ w hB hf
end
end Go.Proofs.YtlbjmkljmhfjdaaGreat
namespace Go.Proofs.YtlbjmkljmhfjdaaGreat
open Go Go.RowKit
/-- What the region's operations yield, put one by one. -/
def putOps : List Oper → (Nat → Value) → Act → Act
  | [], _, a => a
  | o :: os, f, a => putOps os f (match o.dst with | some d => a.put (some d) (f d) | none => a)
theorem putOps_defers : ∀ (l : List Oper) (f : Nat → Value) (a : Act), (putOps l f a).defers = a.defers
  | [], _, _ => rfl
  | o :: os, f, a => by
    unfold putOps
    rw [putOps_defers os f]
    cases o.dst <;> rfl
theorem putOps_size : ∀ (l : List Oper) (f : Nat → Value) (a : Act), (putOps l f a).tmps.size = a.tmps.size
  | [], _, _ => rfl
  | o :: os, f, a => by
    unfold putOps
    rw [putOps_size os f]
    cases o.dst <;> simp [Act.put]
theorem putOps_at : ∀ (l : List Oper) (f : Nat → Value) (a : Act) (t : Nat), t < a.tmps.size → (putOps l f a).tmps[t]? = if (l.any fun o => o.dst == some t) then some (f t) else a.tmps[t]?
  | [], _, _, _, _ => by simp [putOps]
  | o :: os, f, a, t, ht => by
    unfold putOps
    cases hd : o.dst with
    | none =>
      simp only [List.any_cons, hd]
      rw [putOps_at os f a t ht]
      simp
    | some d =>
      simp only [List.any_cons, hd]
      rw [putOps_at os f _ t (by simpa [Act.put] using ht)]
      by_cases hdt : d = t
      · subst hdt
        simp [Act.put, ht]
      · simp [Act.put, hdt]
theorem wp_region_puts {P : Program} {Q : Exit → Act → World → Prop} {id : Nat} {l : List Oper} {a0 : Act} {w0 : World} (tbl : List (Option Sp)) (hm : P.follows .mixedOrders = true)
    (hs : shapeB l.toArray = true) (hgd : guardsB l.toArray tbl = true) (hin : (l.all fun o => match o.dst with | some d => decide (d < a0.tmps.size) | none => true) = true)
    (hop : OwedAll P l.toArray tbl (fun w => Below w0.heap.size w0 w) a0 0 l)
    (hend : ∀ (f : Nat → Value) (w : World), Below w0.heap.size w0 w → (∀ (i : Nat) (o : Oper) (d : Tmp), l[i]? = some o → o.dst = some d → (rowOf tbl i).holds (f d) w) →
      Q .normal (putOps l f a0) w) :
    (Code.region id l.toArray true).wp P Q a0 w0 := by
  refine wp_region_table tbl hm hs hgd hin hop fun a w hB hz hd hf hr => ?_
  have e : a = putOps l (fun t => a.tmps.getD t undef) a0 := by
    cases a with
    | mk tmps defers =>
      have h2 : (putOps l (fun t => tmps.getD t undef) a0).defers = defers := (putOps_defers _ _ _).trans hd.symm
      have h1 : (putOps l (fun t => tmps.getD t undef) a0).tmps = tmps := by
        apply Array.ext_getElem?
        intro t
        by_cases ht : t < a0.tmps.size
        · rw [putOps_at _ _ _ _ ht]
          split
          · dsimp only at hz
            simp [Array.getD_eq_getD_getElem?, hz, ht]
          · rename_i hw
            exact (hr t (by simpa [writesB] using hw)).symm
        · dsimp only at hz
          rw [Array.getElem?_eq_none (by rw [putOps_size]; omega), Array.getElem?_eq_none (by omega)]
      cases hp : putOps l (fun t => tmps.getD t undef) a0 with
      | mk t2 d2 =>
        rw [hp] at h1 h2
        dsimp only at h1 h2 ⊢
        subst h1 h2
        rfl
  rw [e]
  exact hend _ w hB hf
end Go.Proofs.YtlbjmkljmhfjdaaGreat
namespace Go.Proofs.YtlbjmkljmhfjdaaGreat
open Go Go.RowKit
section
variable {P : Program} {ops : Array Oper} {Q : Exit → Act → World → Prop}
/-- What is known, the store's fact besides. -/
structure KnownS (ops : Array Oper) (Φ : Nat → Value → World → Prop) (S : World → Prop) (a0 : Act) (s i8 c : Nat) (Θ : Value → World → Prop) (listed : Array Bool) (a : Act) (w : World) : Prop where
  k : Known ops Φ S a0 listed a w
  fin : listed.getD s true = true → listed.getD i8 true = true ∧ Θ (a.tmps.getD c undef) w
theorem wp_region_store {id : Nat} {a0 : Act} {w0 : World} (hm : P.follows .mixedOrders = true) (Φ : Nat → Value → World → Prop) (S : World → Prop) (R : World → World → Prop) (s i8 c : Nat) (Θ : Value → World → Prop)
    (hs : shapeB ops = true) (hin : ∀ (i : Nat) (o : Oper) (d : Tmp), ops[i]? = some o → o.dst = some d → d < a0.tmps.size)
    (hng : ∀ (j : Nat) (o : Oper), ops[j]? = some o → o.guard = none)
    (hz : s < ops.size ∧ i8 < ops.size) (hsd : ∀ o, ops[s]? = some o → o.dst = none ∧ ∃ e ∈ o.after, Region.binds .any e = true ∧ e.on = i8) (h8 : ∀ o, ops[i8]? = some o → o.dst = some c)
    (hmono : ∀ i v w w', R w w' → Φ i v w → Φ i v w') (hB : ∀ w w', Below w.heap.size w w' → R w w') (hΘ : ∀ v w w', Below w.heap.size w w' → Θ v w → Θ v w') (hΦs : ∀ v w, Φ s v w)
    (hS : S { w0 with drawn := w0.drawn + 1 })
    (hop : ∀ (j : Nat) (o : Oper), ops[j]? = some o → j ≠ s → ∀ (a : Act) (w : World), S w → (∀ t, writesB ops t = false → a.eval (.tmp t) = a0.eval (.tmp t)) →
      (∀ e ∈ o.after, Region.binds .any e = true → ∀ (p : Oper) (d : Tmp), ops[e.on]? = some p → p.dst = some d → Φ e.on (a.eval (.tmp d)) w) →
      Gives P (fun v w' => S w' ∧ Below w.heap.size w w' ∧ Φ j v w') ((execOp a.eval o).run P w))
    (hst : ∀ (o : Oper), ops[s]? = some o → ∀ (a : Act) (w : World), S w → (∀ t, writesB ops t = false → a.eval (.tmp t) = a0.eval (.tmp t)) →
      (∀ e ∈ o.after, Region.binds .any e = true → ∀ (p : Oper) (d : Tmp), ops[e.on]? = some p → p.dst = some d → Φ e.on (a.eval (.tmp d)) w) →
      Gives P (fun _ w' => S w' ∧ R w w' ∧ Θ (a.eval (.tmp c)) w') ((execOp a.eval o).run P w))
    (hend : ∀ (a : Act) (w : World), S w → a.tmps.size = a0.tmps.size → a.defers = a0.defers → (∀ (i : Nat) (o : Oper) (d : Tmp), ops[i]? = some o → o.dst = some d → Φ i (a.tmps.getD d undef) w) →
      (∀ t, writesB ops t = false → a.tmps[t]? = a0.tmps[t]?) → Θ (a.tmps.getD c undef) w → Q .normal a w) :
    (Code.region id ops true).wp P Q a0 w0 := by
  refine wp_region_any hm ?_
  have putS : ∀ (listed : Array Bool) (a : Act) (w w' : World) (j : Nat) (o : Oper) (v : Value), j ∈ Region.ready .any ops listed → KnownS ops Φ S a0 s i8 c Θ listed a w → ops[j]? = some o → S w' → R w w' → Φ j v w' → (j ≠ s → Below w.heap.size w w') → (j = s → Θ (a.eval (.tmp c)) w') →
      KnownS ops Φ S a0 s i8 c Θ (listed.setIfInBounds j true) (a.put o.dst v) w' := by
    intro listed a w w' j o v hj K ho h1 h2 h3 h4 h5
    refine ⟨Known.put (S := S) (R := R) hs (fun i v w w' _ _ => hmono i v w w') hin K.k ho h1 h2 h3, fun hl => ?_⟩
    obtain ⟨h0, o', ho', hdep⟩ := mem_ready.1 hj
    rw [ho] at ho'
    cases ho'
    have hsz : j < listed.size := by rw [K.k.size]; exact (Array.getElem?_eq_some_iff.1 ho).1
    by_cases e : j = s
    · subst e
      obtain ⟨hd, e', he, hb, hi⟩ := hsd o ho
      have h8l := hdep e' he hb
      rw [hi] at h8l
      have hne : j ≠ i8 := fun e8 => by
        have := h8 o (by rw [← e8]; exact ho)
        rw [hd] at this
        cases this
      have h8s : i8 < listed.size := by rw [K.k.size]; exact hz.2
      refine ⟨by rw [getD_set_ne true hne]; simpa [h8s] using h8l, ?_⟩
      rw [hd]
      exact h5 rfl
    · rw [getD_set_ne true e] at hl
      obtain ⟨f1, f2⟩ := K.fin hl
      have hne : j ≠ i8 := fun e8 => by
        rw [← e8] at f1
        have : listed.getD j true = false := h0
        rw [this] at f1
        cases f1
      refine ⟨by rw [getD_set_ne true hne]; exact f1, ?_⟩
      have hv : (a.put o.dst v).tmps.getD c undef = a.tmps.getD c undef := by
        cases hd : o.dst with
        | none => rfl
        | some d =>
          obtain ⟨o8, ho8⟩ : ∃ o8, ops[i8]? = some o8 := ⟨_, Array.getElem?_eq_getElem hz.2⟩
          have hne2 : d ≠ c := fun ec => (shape_at hs ho).2.1 i8 o8 ho8 (Ne.symm hne) d hd (by rw [h8 o8 ho8, ec])
          exact getD_put v hne2
      rw [hv]
      exact hΘ _ w w' (h4 e) f2
  have key : ∀ (fuel : Nat) (listed : Array Bool) (a : Act) (w : World), left ops listed ≤ fuel → KnownS ops Φ S a0 s i8 c Θ listed a w → wpAny P .any ops Q fuel listed a w := by
    have fin : ∀ (listed : Array Bool) (a : Act) (w : World), KnownS ops Φ S a0 s i8 c Θ listed a w → Region.ready .any ops listed = [] → Q .normal a w := by
      intro listed a w K hr
      have k := K.k
      have hl := all_listed hs k.size hr
      refine hend a w k.s k.tsize k.defers (fun i o d hi hd => k.facts i o d hi hd (hl i (Array.getElem?_eq_some_iff.1 hi).1)) (fun t ht => k.rest t fun i o hi hd => ?_) (K.fin (hl s hz.1)).2
      have := Array.any_eq_false.1 ht i (Array.getElem?_eq_some_iff.1 hi).1
      rw [(Array.getElem?_eq_some_iff.1 hi).2, hd] at this
      simp at this
    intro fuel
    induction fuel with
    | zero =>
      intro listed a w hf k
      have hr : Region.ready .any ops listed = [] := by
        cases h : Region.ready .any ops listed with
        | nil => rfl
        | cons j l =>
          have hj : j ∈ Region.ready .any ops listed := by rw [h]; simp
          obtain ⟨h0, o, ho, _⟩ := mem_ready.1 hj
          have := left_set (ops := ops) (Array.getElem?_eq_some_iff.1 ho).1 h0
          omega
      exact ⟨hr, fin listed a w k hr⟩
    | succ fuel ih =>
      intro listed a w hf K
      have k := K.k
      refine ⟨fin listed a w K, fun j hj => ?_⟩
      obtain ⟨h0, o, ho, hdep⟩ := mem_ready.1 hj
      have hl := left_set (ops := ops) (Array.getElem?_eq_some_iff.1 ho).1 h0
      have hdep' : ∀ e ∈ o.after, Region.binds .any e = true → ∀ (p : Oper) (d : Tmp), ops[e.on]? = some p → p.dst = some d → Φ e.on (a.tmps.getD d undef) w := by
        intro e he hb p d hp hd
        have h1 := hdep e he hb
        have hlt : e.on < listed.size := by rw [k.size]; exact (Array.getElem?_eq_some_iff.1 hp).1
        refine k.facts e.on p d hp hd ?_
        simpa [hlt] using h1
      have hun' : ∀ t, writesB ops t = false → a.eval (.tmp t) = a0.eval (.tmp t) := by
        intro t ht
        have := k.rest t fun i p hp hd => by
          have := Array.any_eq_false.1 ht i (Array.getElem?_eq_some_iff.1 hp).1
          rw [(Array.getElem?_eq_some_iff.1 hp).2, hd] at this
          simp at this
        simp [Act.eval, Array.getD_eq_getD_getElem?, this]
      have hw : Region.wanted o (yielded ops a.tmps) = true := by
        unfold Region.wanted
        simp [hng j o ho]
      unfold wpOp
      simp only [ho, hw, if_true]
      refine .inl ?_
      have hgv : Gives P (fun v w' => S w' ∧ R w w' ∧ Φ j v w' ∧ (j ≠ s → Below w.heap.size w w') ∧ (j = s → Θ (a.eval (.tmp c)) w')) ((execOp a.eval o).run P w) := by
        by_cases e : j = s
        · subst e
          have h := hst o ho a w k.s hun' hdep'
          revert h
          generalize (execOp a.eval o).run P w = r
          intro h
          cases r with
          | halt x w' => exact h.elim
          | ok n w' =>
            cases n <;> simp only [Gives] at h ⊢
            case value v => exact ⟨h.1, h.2.1, hΦs _ _, fun e => (e rfl).elim, fun _ => h.2.2⟩
            case skip => exact ⟨h.1, h.2.1, hΦs _ _, fun e => (e rfl).elim, fun _ => h.2.2⟩
            case enter f args => exact h.mono fun e w'' ⟨v, e1, h1, h2, h3⟩ => ⟨v, e1, h1, h2, hΦs _ _, fun e => (e rfl).elim, fun _ => h3⟩
        · have h := hop j o ho e a w k.s hun' hdep'
          revert h
          generalize (execOp a.eval o).run P w = r
          intro h
          cases r with
          | halt x w' => exact h.elim
          | ok n w' =>
            cases n <;> simp only [Gives] at h ⊢
            case value v => exact ⟨h.1, hB _ _ h.2.1, h.2.2, fun _ => h.2.1, fun e' => (e e').elim⟩
            case skip => exact ⟨h.1, hB _ _ h.2.1, h.2.2, fun _ => h.2.1, fun e' => (e e').elim⟩
            case enter f args => exact h.mono fun _ w'' ⟨v, e1, h1, h2, h3⟩ => ⟨v, e1, h1, hB _ _ h2, h3, fun _ => h2, fun e' => (e e').elim⟩
      unfold Oper.wp
      generalize (execOp a.eval o).run P w = r at hgv
      cases r with
      | halt x w' => exact hgv.elim
      | ok n w' =>
        cases n <;> simp only [Gives] at hgv <;> simp only [Oper.upon]
        case value v => exact ih _ _ _ (by omega) (putS listed a w w' j o _ hj K ho hgv.1 hgv.2.1 hgv.2.2.1 hgv.2.2.2.1 hgv.2.2.2.2)
        case skip => exact ih _ _ _ (by omega) (putS listed a w w' j o _ hj K ho hgv.1 hgv.2.1 hgv.2.2.1 hgv.2.2.2.1 hgv.2.2.2.2)
        case enter f args =>
          refine hgv.mono ?_
          rintro e w'' ⟨v, rfl, h1, h2, h3, h4, h5⟩
          exact ih _ _ _ (by omega) (putS listed a w w'' j o _ hj K ho h1 h2 h3 h4 h5)
  refine key _ _ _ _ ?_ ⟨⟨hS, by simp, rfl, rfl, fun i o d hi _ hl => ?_, fun t _ => rfl⟩, fun hl => ?_⟩
  · unfold left
    have := List.countP_le_length (p := fun i => !(Array.replicate ops.size false).getD i true) (l := List.range ops.size)
    simpa using this
  · have := (Array.getElem?_eq_some_iff.1 hi).1
    simp [this] at hl
  · simp [hz.1] at hl
end
def AllAt (F : Nat → Oper → Prop) : Nat → List Oper → Prop
  | _, [] => True
  | j, o :: os => F j o ∧ AllAt F (j + 1) os
theorem allAt_at {F : Nat → Oper → Prop} (l : List Oper) : ∀ (k : Nat), AllAt F k l → ∀ (j : Nat) (o : Oper), l[j]? = some o → F (k + j) o := by
  induction l with
  | nil => intro k _ j o ho; simp at ho
  | cons o' os ih =>
    intro k h j o ho
    cases j with
    | zero => simp at ho; subst ho; exact h.1
    | succ j =>
      have := ih (k + 1) h.2 j o (by simpa using ho)
      have e : k + (j + 1) = k + 1 + j := by omega
      rw [e]; exact this
/-- What is owed for an operation that is no store. -/
def OweG (P : Program) (l : List Oper) (Φ : Nat → Value → World → Prop) (S : World → Prop) (a0 : Act) (s : Nat) (j : Nat) (o : Oper) : Prop :=
  j ≠ s → ∀ (a : Act) (w : World), S w → (∀ t, writesB l.toArray t = false → a.eval (.tmp t) = a0.eval (.tmp t)) →
      (∀ e ∈ o.after, Region.binds .any e = true → ∀ (p : Oper) (d : Tmp), l[e.on]? = some p → p.dst = some d → Φ e.on (a.eval (.tmp d)) w) →
      Gives P (fun v w' => Below w.heap.size w w' ∧ Φ j v w') ((execOp a.eval o).run P w)
theorem wp_region_store_puts {P : Program} {Q : Exit → Act → World → Prop} {id : Nat} {l : List Oper} {a0 : Act} {w0 : World} (hm : P.follows .mixedOrders = true) (Φ : Nat → Value → World → Prop) (base : Nat) (R : World → World → Prop) (s i8 c : Nat) (Θ : Value → World → Prop)
    (hs : shapeB l.toArray = true) (hin : (l.all fun o => match o.dst with | some d => decide (d < a0.tmps.size) | none => true) = true) (hng : (l.all fun o => o.guard.isNone) = true)
    (hz : s < l.length ∧ i8 < l.length) (hsd : (match l[s]? with | some o => o.dst.isNone && o.after.any (fun e => Region.binds .any e && e.on == i8) | none => false) = true) (h8 : (match l[i8]? with | some o => o.dst == some c | none => false) = true)
    (hmono : ∀ i v w w', R w w' → Φ i v w → Φ i v w') (hB : ∀ w w', Below w.heap.size w w' → R w w') (hΘ : ∀ v w w', Below w.heap.size w w' → Θ v w → Θ v w') (hΦs : ∀ v w, Φ s v w)
    (hbase : base = w0.heap.size)
    (hop : AllAt (OweG P l Φ (fun W => Below base w0 W) a0 s) 0 l)
    (hst : ∀ (o : Oper), l[s]? = some o → ∀ (a : Act) (w : World), Below base w0 w → (∀ t, writesB l.toArray t = false → a.eval (.tmp t) = a0.eval (.tmp t)) →
      (∀ e ∈ o.after, Region.binds .any e = true → ∀ (p : Oper) (d : Tmp), l[e.on]? = some p → p.dst = some d → Φ e.on (a.eval (.tmp d)) w) →
      Gives P (fun _ w' => Below base w0 w' ∧ R w w' ∧ Θ (a.eval (.tmp c)) w') ((execOp a.eval o).run P w))
    (hend : ∀ (f : Nat → Value) (w : World), Below base w0 w → Θ (f c) w → Q .normal (putOps l f a0) w) :
    (Code.region id l.toArray true).wp P Q a0 w0 := by
  refine wp_region_store hm Φ (fun W => Below base w0 W) R s i8 c Θ hs ?_ ?_ (by simpa using hz) ?_ ?_ hmono hB hΘ hΦs ?_ ?_ ?_ ?_
  · intro i o d hi hd
    have := List.all_eq_true.1 hin o (by simpa using List.mem_of_getElem? (by simpa using hi))
    rw [hd] at this
    simpa using this
  · intro j o hj
    have := List.all_eq_true.1 hng o (by simpa using List.mem_of_getElem? (by simpa using hj))
    simpa using this
  · intro o ho
    have ho' : l[s]? = some o := by simpa using ho
    rw [ho'] at hsd
    simp only [Bool.and_eq_true, Option.isNone_iff_eq_none, Array.any_eq_true', beq_iff_eq] at hsd
    obtain ⟨h1, e, he, hb, h2⟩ := hsd
    exact ⟨h1, e, he, hb, h2⟩
  · intro o ho
    have ho' : l[i8]? = some o := by simpa using ho
    rw [ho'] at h8
    simpa using h8
  · rw [hbase]; exact bdrew1 (Below.refl _ _)
  · intro j o hj hjs a w hS hun hdep
    have h := allAt_at l 0 hop j o (by simpa using hj)
    rw [Nat.zero_add] at h
    have h := h hjs a w hS hun (fun e he hb p d hp hd => hdep e he hb p d (by simpa using hp) hd)
    revert h
    generalize (execOp a.eval o).run P w = r
    intro h
    have hlo : base ≤ w.heap.size := by rw [hbase]; exact hS.size
    cases r with
    | halt x w' => exact h.elim
    | ok n w' =>
      cases n <;> simp only [Gives] at h ⊢
      case value v => exact ⟨hS.trans (h.1.mono hlo), h.1, h.2⟩
      case skip => exact ⟨hS.trans (h.1.mono hlo), h.1, h.2⟩
      case enter f args => exact h.mono fun _ w'' ⟨v, e1, h1, h2⟩ => ⟨v, e1, hS.trans (h1.mono hlo), h1, h2⟩
  · intro o ho a w hS hun hdep
    exact hst o (by simpa using ho) a w hS hun (fun e he hb p d hp hd => hdep e he hb p d (by simpa using hp) hd)
  · intro a w hS hz' hd _ hr hT
    have e : a = putOps l (fun t => a.tmps.getD t undef) a0 := by
      cases a with
      | mk tmps defers =>
        have h2 : (putOps l (fun t => tmps.getD t undef) a0).defers = defers := (putOps_defers _ _ _).trans hd.symm
        have h1 : (putOps l (fun t => tmps.getD t undef) a0).tmps = tmps := by
          apply Array.ext_getElem?
          intro t
          by_cases ht : t < a0.tmps.size
          · rw [putOps_at _ _ _ _ ht]
            split
            · dsimp only at hz'
              simp [Array.getD_eq_getD_getElem?, hz', ht]
            · rename_i hw
              exact (hr t (by simpa [writesB] using hw)).symm
          · dsimp only at hz'
            rw [Array.getElem?_eq_none (by rw [putOps_size]; omega), Array.getElem?_eq_none (by omega)]
        cases hp : putOps l (fun t => tmps.getD t undef) a0 with
        | mk t2 d2 =>
          rw [hp] at h1 h2
          dsimp only at h1 h2 ⊢
          subst h1 h2
          rfl
    rw [e]
    exact hend _ w hS hT
end Go.Proofs.YtlbjmkljmhfjdaaGreat
namespace Go.Proofs.YtlbjmkljmhfjdaaGreat
open Go Go.RowKit
def ncells : List Nd → List Value
  | [] => []
  | x :: l => x.cells ++ ncells l
theorem ncells_length : ∀ l : List Nd, (ncells l).length = l.length * 9
  | [] => rfl
  | x :: l => by simp [ncells, ncells_length l, Nd.cells]; omega
theorem ncells_app : ∀ (l : List Nd) (x : Nd), ncells (l ++ [x]) = ncells l ++ x.cells
  | [], x => by simp [ncells]
  | y :: l, x => by simp [ncells, ncells_app l x]
theorem ncells_at : ∀ (l : List Nd) (i j : Nat), i < l.length → j < 9 → (ncells l)[i * 9 + j]? = (l.getD i Nd.zero).cells[j]?
  | [], i, j, h, _ => by simp at h
  | x :: l, 0, j, h, hj => by
    rw [ncells, List.getElem?_append_left (by simp [Nd.cells]; omega)]
    simp
  | x :: l, i + 1, j, h, hj => by
    have := ncells_at l i j (by simpa using h) hj
    rw [ncells, List.getElem?_append_right (by simp [Nd.cells]; omega)]
    rw [show (i + 1) * 9 + j - x.cells.length = i * 9 + j by simp [Nd.cells]; omega, this]
    simp
theorem own_nodes {w : World} {base e c : Nat} {A : Option Addr} {l : List Nd} (h : w.ownsRow base e 9 (.slice A l.length c) l.length (ncells l)) : Nodes w A l := by
  intro h0
  rcases h.2 with ⟨h1, h2⟩ | ⟨g, cap, cur, h1, hbg, hgg, rest⟩
  · omega
  · simp only [Value.slice.injEq] at h1
    obtain ⟨rfl, _, rfl⟩ := h1
    refine ⟨g, 0, rfl, (Array.getElem?_eq_some_iff.1 hgg).1, fun i hi j hj => ?_⟩
    have q := ncells_at l i j hi hj
    have hc : j < (l.getD i Nd.zero).cells.length := by simp [Nd.cells]; omega
    rw [List.getElem?_eq_getElem hc] at q ⊢
    have q0 := h.cells (g := g) rfl _ _ q
    rw [Addr.add_lit] at q0
    rw [← Nat.add_assoc] at q0
    exact q0
/-- The same node, but for where its kids lie. -/
def Twin (x y : Nd) : Prop := ∃ A c, y = x.at_ A c
/-- A node's kids lie in a row of the call's own. -/
def Kid (w : World) (B : Nat) (o : Value) (x : Nd) : Prop := w.ownsRow B 3 1 (.slice x.A x.kids.length x.cap) x.kids.length (ints x.kids) ∧ (x.A = none → x.cap = 0) ∧ ∀ a, x.A = some a → o.ownBlock ≠ some a.block
theorem Kid.below {w w' : World} {B : Nat} {o : Value} {x : Nd} (h : Kid w B o x) (hb : Below w.heap.size w w') : Kid w' B o x := ⟨own_below h.1 hb, h.2⟩
theorem Kid.grown {w w' : World} {B : Nat} {o o' : Value} {x : Nd} (h : Kid w B o x) (hg : w.grownBy w' o.ownBlock) (hf : ∀ k, o'.ownBlock = some k → o.ownBlock = some k ∨ w.heap.size ≤ k) : Kid w' B o' x := by
  obtain ⟨h1, h2, h3⟩ := h
  refine ⟨h1.kept hg ?_, h2, fun a ha e => ?_⟩
  · cases hA : x.A with
    | none => exact .inl rfl
    | some a => exact .inr (fun e => h3 a hA e.symm)
  · rcases hf _ e with e | e
    · exact h3 a ha e
    · have := (h1.lt a.block (by rw [ha]; rfl)).2
      omega
theorem cells_one (x : Nd) : ∀ u ∈ x.cells, u.oneCell' = true := by
  intro u hu
  simp only [Nd.cells, List.mem_cons, List.not_mem_nil, or_false] at hu
  rcases hu with rfl | rfl | rfl | rfl | rfl | rfl | rfl | rfl | rfl <;> rfl
theorem new_news (w : World) (vs : List Value) (T : TypeId) : ∀ a, some (⟨w.heap.size, 0, none⟩ : Addr) = some a → ∀ j u, vs[j]? = some u → (w.alloc (.cells vs.toArray T)).cell? (a.add j) = some u := by
  intro a ha j u hu
  obtain rfl := Option.some.inj ha
  rw [Addr.add_lit, Nat.zero_add, (Blk.new w _ _).cell]
  simpa using hu
set_option maxRecDepth 100000 in
set_option maxHeartbeats 4000000 in
theorem copyNodes_any (A : Option Addr) (l : List Nd) (c : Nat) (hl : l.length ≤ 1000000) (w : World) (h : Nodes w A l) (hx : ∀ x ∈ l, Nd.At w x ∧ x.kids.length ≤ 1000000) :
    Calls Tryz.prog 198 #[.slice A l.length c] w fun e w' => ∃ A' c', e = .returned (.slice A' l.length c') ∧ ∃ cl : List Nd, cl.length = l.length ∧ (∀ j, j < l.length → Twin (l.getD j Nd.zero) (cl.getD j Nd.zero)) ∧ w'.ownsRow w.heap.size 40 9 (.slice A' l.length c') l.length (ncells cl) ∧ (∀ x ∈ cl, Kid w' w.heap.size (.slice A' l.length c') x) ∧ (A' = none → c' = 0) ∧ Below w.heap.size w w' := by
  obtain ⟨i0, hi, hz0, hz1, hz2⟩ := info_parts Tryz.info40
  have HN := Lib.hid h
  have HX := Lib.hid hx
  obtain ⟨m, em⟩ : ∃ m, m = l.length := ⟨_, rfl⟩
  have EM := Lib.hid em
  rw [← em] at hl ⊢
  clear h hx em
  go_enter Tryz.func198, Tryz.ntmps198
  go_wp2_with fail
  go_loopw [4, 3] (fun i o wr => ∃ (k : Nat) (cl : List Nd), k ≤ m ∧ i = .int .i64 k ∧ cl.length = k ∧ (∀ j, j < k → Twin (l.getD j Nd.zero) (cl.getD j Nd.zero)) ∧ wr.ownsRow w.heap.size 40 9 o k (ncells cl) ∧ (∀ x ∈ cl, Kid wr w.heap.size o x) ∧ Below w.heap.size w wr) (fun i _ _ => m - (intOf i).toNat)
  case atStart => exact ⟨0, [], by omega, rfl, rfl, fun j hj => by omega, World.ownsRow_nil _ _ _ _, by simp, Below.refl _ _⟩
  case round =>
    obtain ⟨k, cl, hk, rfl, hcl, htw, hown, hkid, hbl⟩ := hrel
    obtain ⟨O, oc, rfl, hOn, _⟩ := own_slice hown
    have HTW := Lib.hid htw
    have HOWN := Lib.hid hown
    have HKID := Lib.hid hkid
    have BL := Lib.hid hbl
    have HCL := Lib.hid hcl
    have HON := Lib.hid hOn
    clear htw hown hkid hbl hcl hOn
    by_cases hlt : k < m
    · have hlt2 : (k : Int) < m := by omega
      have hkl : k < l.length := by have := EM.out; omega
      obtain ⟨hat, hks⟩ := HX.out _ (getD_mem hkl)
      obtain ⟨b1, o1, eA, _, n1, n2, n3, n4, n5, n6, n7, n8, n9⟩ := (HN.out.below BL.out).nine hkl
      generalize hxx : l.getD k Nd.zero = x at hat hks n1 n2 n3 n4 n5 n6 n7 n8 n9
      have HXX := Lib.hid hxx
      have CN := Lib.hid (copyNode_any x hks wr (hat.below BL.out))
      rw [eA]
      clear hxx hat hks eA
      go_wp2_with (first | (go_at_call 232; refine CN.out.mono ?_; rintro e w1 ⟨A1, c1, rfl, ho, hnn, hb⟩; have HO := Lib.hid ho; have HNN := Lib.hid hnn; have H1 := Lib.hid hb; clear ho hnn hb n1 n2 n3 n4 n5 n6 n7 n8 n9) | (refine wpList_store_whole rfl 40 (.tmp 5) (.tmp 16) rfl w1.heap.size (x.at_ A1 c1).cells.toArray rfl rfl 40 _ (Blk.new _ _ _) (by kernel_rfl) (by rfl) (by simp [Nd.cells, Value.oneCell']) ?_; intro w2 hk2 hg; have H2 := Lib.hid (grown_below (B1 w1 _) (by simp) hg (fun k e => by cases e; exact Nat.le_refl _)); have d0 := hk2.cell 0; have d1 := hk2.cell 1; have d2 := hk2.cell 2; have d3 := hk2.cell 3; have d4 := hk2.cell 4; have d5 := hk2.cell 5; have d6 := hk2.cell 6; have d7 := hk2.cell 7; have d8 := hk2.cell 8; simp only [Nd.cells, List.getElem?_toArray, List.getElem?_cons_zero, List.getElem?_cons_succ] at d0 d1 d2 d3 d4 d5 d6 d7 d8; clear hk2 hg) | (at_builtin; refine wpList_append_onto _ rfl (.tmp 17) (.tmp 19) 23 rfl w.heap.size 40 i0 Nd.zero.val 9 96 Tryz.underlying23 hi hz0 hz1 hz2 rfl (by decide) (.slice O k oc) k (ncells cl) rfl (own_below (own_below (own_below HOWN.out H1.out) H2.out) (B1 w2 _)) (some ⟨w2.heap.size, 0, none⟩) 1 1 (x.at_ A1 c1).cells rfl rfl (new_news w2 (x.at_ A1 c1).cells 40) (fun h => nomatch h) (cells_one _) (by unfold maxLen; omega) (by omega) (by have := BL.out.size; have := H1.out.size; have := H2.out.size; simp; omega) ?_; intro v1 w4 ho hg hf; have HO4 := Lib.hid ho; have HG4 := Lib.hid hg; have HF4 := Lib.hid hf; clear ho hg hf))
      have HK1 : Kid w1 w.heap.size (.slice O k oc) (x.at_ A1 c1) := ⟨own_lower HO.out BL.out.size, HNN.out, fun a ha e => by
        have q1 := (HOWN.out.lt _ e).2
        have q2 := (HO.out.lt a.block (by dsimp only [Nd.at_] at ha; rw [ha]; rfl)).1
        omega⟩
      have B4 : Below w.heap.size w (w2.alloc (.cells (x.at_ A1 c1).cells.toArray 40)) := bb (bb (bb BL.out H1.out) H2.out) (B1 w2 _)
      have tk : ∀ y, Kid w1 w.heap.size (.slice O k oc) y → Kid w4 w.heap.size v1 y := fun y hy => ((hy.below H2.out).below (B1 w2 _)).grown HG4.out HF4.out
      refine ⟨⟨k + 1, cl ++ [x.at_ A1 c1], by omega, by go_num, by simp [HCL.out], fun j hj => ?_, by rw [ncells_app]; exact HO4.out, fun y hy => ?_, grown_below B4 B4.size HG4.out (fun q e => (HOWN.out.lt q e).1)⟩, by simp [intOf]; omega⟩
      · by_cases ej : j = k
        · subst ej
          rw [HXX.out, List.getD, List.getElem?_append_right (by rw [HCL.out]; omega), HCL.out]
          simp
          exact ⟨A1, c1, rfl⟩
        · have := HTW.out j (by omega)
          rw [List.getD, List.getD] at this ⊢
          rw [List.getElem?_append_left (by rw [HCL.out]; omega)]
          exact this
      · rcases List.mem_append.1 hy with hy | hy
        · exact tk y ((HKID.out y hy).below H1.out)
        · simp at hy
          subst hy
          exact tk _ HK1
    · obtain rfl : k = m := by omega
      have hlt2 : ¬ (k : Int) < k := by omega
      go_wp2_with fail
      go_ret
      exact ⟨O, oc, rfl, cl, HCL.out, HTW.out, HOWN.out, HKID.out, (fun e => (HON.out e).2), BL.out⟩
theorem nodes_none {w : World} {A : Option Addr} {l : List Nd} (h : Nodes w A l) (hA : A = none) : l.length = 0 := by
  by_cases h0 : 0 < l.length
  · obtain ⟨b, o, e, _⟩ := h h0; rw [hA] at e; cases e
  · omega
/-- The same grammar, but for where it lies. -/
structure GTwin (g h : Gr) : Prop where
  rules : h.rules = g.rules
  len : h.nodes.length = g.nodes.length
  node : ∀ j, j < g.nodes.length → Twin (g.nodes.getD j Nd.zero) (h.nodes.getD j Nd.zero)
theorem own_blk {w w' : World} {B e size n b : Nat} {v : Value} {xs : List Value} (h : w.ownsRow B e size v n xs) (hb : b < B) (hg : w.grownBy w' (some b)) : w'.ownsRow B e size v n xs := by
  refine h.kept hg ?_
  cases hv : v.ownBlock with
  | none => exact .inl rfl
  | some k => exact .inr (fun e => by have := (h.lt k hv).1; cases e; omega)
theorem Kid.blk {w w' : World} {B b : Nat} {o : Value} {x : Nd} (h : Kid w B o x) (hb : b < B) (hg : w.grownBy w' (some b)) : Kid w' B o x := ⟨own_blk h.1 hb hg, h.2⟩
theorem GTwin.mem {g h : Gr} (t : GTwin g h) {x : Nd} (hx : x ∈ h.nodes) : ∃ y ∈ g.nodes, Twin y x := by
  obtain ⟨j, hj, rfl⟩ := List.getElem_of_mem hx
  have hj2 : j < g.nodes.length := by rw [← t.len]; exact hj
  refine ⟨g.nodes[j], List.getElem_mem hj2, ?_⟩
  have := t.node j hj2
  simpa [List.getD, List.getElem?_eq_getElem hj, List.getElem?_eq_getElem hj2] using this
theorem GTwin.within {g h : Gr} (t : GTwin g h) (hi : Gr.In g) : Gr.In h := by
  intro x hx
  obtain ⟨y, hy, A, c, rfl⟩ := t.mem hx
  exact ⟨(hi y hy).kind, (hi y hy).text⟩
theorem GTwin.lies {w w' : World} {g h : Gr} (t : GTwin g h) (hg : Gr.At w g) (h1 : Rules w' h.RA h.rules) (h2 : Nodes w' h.NA h.nodes) (h3 : ∀ x ∈ h.nodes, Lies w' x.A (ints x.kids) ∧ (x.A = none → x.cap = 0)) (h4 : h.RA = none → h.rc = 0) (h5 : h.NA = none → h.nc = 0) : Gr.At w' h where
  rules := h1
  nodes := h2
  kids := fun x hx => by
    refine ⟨(h3 x hx).1, (h3 x hx).2, ?_⟩
    obtain ⟨y, hy, A, c, rfl⟩ := t.mem hx
    exact (hg.kids y hy).2.2
  rl := by rw [t.rules]; exact hg.rl
  nl := by rw [t.len]; exact hg.nl
  rn := h4
  nn := h5
  texts := fun x hx => by
    obtain ⟨y, hy, A, c, rfl⟩ := t.mem hx
    exact hg.texts y hy
  names := by rw [t.rules]; exact hg.names
end Go.Proofs.YtlbjmkljmhfjdaaGreat

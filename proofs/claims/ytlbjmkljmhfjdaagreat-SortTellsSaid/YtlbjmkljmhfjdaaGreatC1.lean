/- The law of Rg with a table of facts: 'is v' or a fact that stays while the world grows. Nothing here speaks of one program. -/
import Derived.Test.YtlbjmkljmhfjdaaGreatB9
import Derived.Test.YtlbjmkljmhfjdaaGreatA1
import Derived.Test.YtlbjmkljmhfjdaaGreatA7
import Derived.Test.YtlbjmkljmhfjdaaGreatB6
set_option linter.unusedSimpArgs false
set_option linter.unusedVariables false
namespace Go.Proofs.YtlbjmkljmhfjdaaGreat
open Go Go.RowKit

section
variable {P : Program} {Q : Exit → Act → World → Prop}

end
end Go.Proofs.YtlbjmkljmhfjdaaGreat
namespace Go.Proofs.YtlbjmkljmhfjdaaGreat
open Go Go.RowKit
/-- What the region's operations yield, put one by one. -/
def putOps : List Oper → (Nat → Value) → Act → Act
  | [], _, a => a
  | o :: os, f, a => putOps os f (match o.dst with | some d => a.put (some d) (f d) | none => a)
theorem putOps_defers : ∀ (l : List Oper) (f : Nat → Value) (a : Act), (putOps l f a).defers = a.defers
  | [], _, _ => rfl
  | o :: os, f, a => by
    unfold putOps
    rw [putOps_defers os f]
    cases o.dst <;> rfl
theorem putOps_size : ∀ (l : List Oper) (f : Nat → Value) (a : Act), (putOps l f a).tmps.size = a.tmps.size
  | [], _, _ => rfl
  | o :: os, f, a => by
    unfold putOps
    rw [putOps_size os f]
    cases o.dst <;> simp [Act.put]
theorem putOps_at : ∀ (l : List Oper) (f : Nat → Value) (a : Act) (t : Nat), t < a.tmps.size → (putOps l f a).tmps[t]? = if (l.any fun o => o.dst == some t) then some (f t) else a.tmps[t]?
  | [], _, _, _, _ => by simp [putOps]
  | o :: os, f, a, t, ht => by
    unfold putOps
    cases hd : o.dst with
    | none =>
      simp only [List.any_cons, hd]
      rw [putOps_at os f a t ht]
      simp
    | some d =>
      simp only [List.any_cons, hd]
      rw [putOps_at os f _ t (by simpa [Act.put] using ht)]
      by_cases hdt : d = t
      · subst hdt
        simp [Act.put, ht]
      · simp [Act.put, hdt]
end Go.Proofs.YtlbjmkljmhfjdaaGreat
namespace Go.Proofs.YtlbjmkljmhfjdaaGreat
open Go Go.RowKit
section
variable {P : Program} {ops : Array Oper} {Q : Exit → Act → World → Prop}
/-- What is known, the store's fact besides. -/
structure KnownS (ops : Array Oper) (Φ : Nat → Value → World → Prop) (S : World → Prop) (a0 : Act) (s i8 c : Nat) (Θ : Value → World → Prop) (listed : Array Bool) (a : Act) (w : World) : Prop where
  k : Known ops Φ S a0 listed a w
  fin : listed.getD s true = true → listed.getD i8 true = true ∧ Θ (a.tmps.getD c undef) w
theorem wp_region_store {id : Nat} {a0 : Act} {w0 : World} (hm : P.follows .mixedOrders = true) (Φ : Nat → Value → World → Prop) (S : World → Prop) (R : World → World → Prop) (s i8 c : Nat) (Θ : Value → World → Prop)
    (hs : shapeB ops = true) (hin : ∀ (i : Nat) (o : Oper) (d : Tmp), ops[i]? = some o → o.dst = some d → d < a0.tmps.size)
    (hng : ∀ (j : Nat) (o : Oper), ops[j]? = some o → o.guard = none)
    (hz : s < ops.size ∧ i8 < ops.size) (hsd : ∀ o, ops[s]? = some o → o.dst = none ∧ ∃ e ∈ o.after, Region.binds .any e = true ∧ e.on = i8) (h8 : ∀ o, ops[i8]? = some o → o.dst = some c)
    (hmono : ∀ i v w w', R w w' → Φ i v w → Φ i v w') (hB : ∀ w w', Below w.heap.size w w' → R w w') (hΘ : ∀ v w w', Below w.heap.size w w' → Θ v w → Θ v w') (hΦs : ∀ v w, Φ s v w)
    (hS : S { w0 with drawn := w0.drawn + 1 })
    (hop : ∀ (j : Nat) (o : Oper), ops[j]? = some o → j ≠ s → ∀ (a : Act) (w : World), S w → (∀ t, writesB ops t = false → a.eval (.tmp t) = a0.eval (.tmp t)) →
      (∀ e ∈ o.after, Region.binds .any e = true → ∀ (p : Oper) (d : Tmp), ops[e.on]? = some p → p.dst = some d → Φ e.on (a.eval (.tmp d)) w) →
      Gives P (fun v w' => S w' ∧ Below w.heap.size w w' ∧ Φ j v w') ((execOp a.eval o).run P w))
    (hst : ∀ (o : Oper), ops[s]? = some o → ∀ (a : Act) (w : World), S w → (∀ t, writesB ops t = false → a.eval (.tmp t) = a0.eval (.tmp t)) →
      (∀ e ∈ o.after, Region.binds .any e = true → ∀ (p : Oper) (d : Tmp), ops[e.on]? = some p → p.dst = some d → Φ e.on (a.eval (.tmp d)) w) →
      Gives P (fun _ w' => S w' ∧ R w w' ∧ Θ (a.eval (.tmp c)) w') ((execOp a.eval o).run P w))
    (hend : ∀ (a : Act) (w : World), S w → a.tmps.size = a0.tmps.size → a.defers = a0.defers → (∀ (i : Nat) (o : Oper) (d : Tmp), ops[i]? = some o → o.dst = some d → Φ i (a.tmps.getD d undef) w) →
      (∀ t, writesB ops t = false → a.tmps[t]? = a0.tmps[t]?) → Θ (a.tmps.getD c undef) w → Q .normal a w) :
    (Code.region id ops true).wp P Q a0 w0 := by
  refine wp_region_any hm ?_
  have putS : ∀ (listed : Array Bool) (a : Act) (w w' : World) (j : Nat) (o : Oper) (v : Value), j ∈ Region.ready .any ops listed → KnownS ops Φ S a0 s i8 c Θ listed a w → ops[j]? = some o → S w' → R w w' → Φ j v w' → (j ≠ s → Below w.heap.size w w') → (j = s → Θ (a.eval (.tmp c)) w') →
      KnownS ops Φ S a0 s i8 c Θ (listed.setIfInBounds j true) (a.put o.dst v) w' := by
    intro listed a w w' j o v hj K ho h1 h2 h3 h4 h5
    refine ⟨Known.put (S := S) (R := R) hs (fun i v w w' _ _ => hmono i v w w') hin K.k ho h1 h2 h3, fun hl => ?_⟩
    obtain ⟨h0, o', ho', hdep⟩ := mem_ready.1 hj
    rw [ho] at ho'
    cases ho'
    have hsz : j < listed.size := by rw [K.k.size]; exact (Array.getElem?_eq_some_iff.1 ho).1
    by_cases e : j = s
    · subst e
      obtain ⟨hd, e', he, hb, hi⟩ := hsd o ho
      have h8l := hdep e' he hb
      rw [hi] at h8l
      have hne : j ≠ i8 := fun e8 => by
        have := h8 o (by rw [← e8]; exact ho)
        rw [hd] at this
        cases this
      have h8s : i8 < listed.size := by rw [K.k.size]; exact hz.2
      refine ⟨by rw [getD_set_ne true hne]; simpa [h8s] using h8l, ?_⟩
      rw [hd]
      exact h5 rfl
    · rw [getD_set_ne true e] at hl
      obtain ⟨f1, f2⟩ := K.fin hl
      have hne : j ≠ i8 := fun e8 => by
        rw [← e8] at f1
        have : listed.getD j true = false := h0
        rw [this] at f1
        cases f1
      refine ⟨by rw [getD_set_ne true hne]; exact f1, ?_⟩
      have hv : (a.put o.dst v).tmps.getD c undef = a.tmps.getD c undef := by
        cases hd : o.dst with
        | none => rfl
        | some d =>
          obtain ⟨o8, ho8⟩ : ∃ o8, ops[i8]? = some o8 := ⟨_, Array.getElem?_eq_getElem hz.2⟩
          have hne2 : d ≠ c := fun ec => (shape_at hs ho).2.1 i8 o8 ho8 (Ne.symm hne) d hd (by rw [h8 o8 ho8, ec])
          exact getD_put v hne2
      rw [hv]
      exact hΘ _ w w' (h4 e) f2
  have key : ∀ (fuel : Nat) (listed : Array Bool) (a : Act) (w : World), left ops listed ≤ fuel → KnownS ops Φ S a0 s i8 c Θ listed a w → wpAny P .any ops Q fuel listed a w := by
    have fin : ∀ (listed : Array Bool) (a : Act) (w : World), KnownS ops Φ S a0 s i8 c Θ listed a w → Region.ready .any ops listed = [] → Q .normal a w := by
      intro listed a w K hr
      have k := K.k
      have hl := all_listed hs k.size hr
      refine hend a w k.s k.tsize k.defers (fun i o d hi hd => k.facts i o d hi hd (hl i (Array.getElem?_eq_some_iff.1 hi).1)) (fun t ht => k.rest t fun i o hi hd => ?_) (K.fin (hl s hz.1)).2
      have := Array.any_eq_false.1 ht i (Array.getElem?_eq_some_iff.1 hi).1
      rw [(Array.getElem?_eq_some_iff.1 hi).2, hd] at this
      simp at this
    intro fuel
    induction fuel with
    | zero =>
      intro listed a w hf k
      have hr : Region.ready .any ops listed = [] := by
        cases h : Region.ready .any ops listed with
        | nil => rfl
        | cons j l =>
          have hj : j ∈ Region.ready .any ops listed := by rw [h]; simp
          obtain ⟨h0, o, ho, _⟩ := mem_ready.1 hj
          have := left_set (ops := ops) (Array.getElem?_eq_some_iff.1 ho).1 h0
          omega
      exact ⟨hr, fin listed a w k hr⟩
    | succ fuel ih =>
      intro listed a w hf K
      have k := K.k
      refine ⟨fin listed a w K, fun j hj => ?_⟩
      obtain ⟨h0, o, ho, hdep⟩ := mem_ready.1 hj
      have hl := left_set (ops := ops) (Array.getElem?_eq_some_iff.1 ho).1 h0
      have hdep' : ∀ e ∈ o.after, Region.binds .any e = true → ∀ (p : Oper) (d : Tmp), ops[e.on]? = some p → p.dst = some d → Φ e.on (a.tmps.getD d undef) w := by
        intro e he hb p d hp hd
        have h1 := hdep e he hb
        have hlt : e.on < listed.size := by rw [k.size]; exact (Array.getElem?_eq_some_iff.1 hp).1
        refine k.facts e.on p d hp hd ?_
        simpa [hlt] using h1
      have hun' : ∀ t, writesB ops t = false → a.eval (.tmp t) = a0.eval (.tmp t) := by
        intro t ht
        have := k.rest t fun i p hp hd => by
          have := Array.any_eq_false.1 ht i (Array.getElem?_eq_some_iff.1 hp).1
          rw [(Array.getElem?_eq_some_iff.1 hp).2, hd] at this
          simp at this
        simp [Act.eval, Array.getD_eq_getD_getElem?, this]
      have hw : Region.wanted o (yielded ops a.tmps) = true := by
        unfold Region.wanted
        simp [hng j o ho]
      unfold wpOp
      simp only [ho, hw, if_true]
      refine .inl ?_
      have hgv : Gives P (fun v w' => S w' ∧ R w w' ∧ Φ j v w' ∧ (j ≠ s → Below w.heap.size w w') ∧ (j = s → Θ (a.eval (.tmp c)) w')) ((execOp a.eval o).run P w) := by
        by_cases e : j = s
        · subst e
          have h := hst o ho a w k.s hun' hdep'
          revert h
          generalize (execOp a.eval o).run P w = r
          intro h
          cases r with
          | halt x w' => exact h.elim
          | ok n w' =>
            cases n <;> simp only [Gives] at h ⊢
            case value v => exact ⟨h.1, h.2.1, hΦs _ _, fun e => (e rfl).elim, fun _ => h.2.2⟩
            case skip => exact ⟨h.1, h.2.1, hΦs _ _, fun e => (e rfl).elim, fun _ => h.2.2⟩
            case enter f args => exact h.mono fun e w'' ⟨v, e1, h1, h2, h3⟩ => ⟨v, e1, h1, h2, hΦs _ _, fun e => (e rfl).elim, fun _ => h3⟩
        · have h := hop j o ho e a w k.s hun' hdep'
          revert h
          generalize (execOp a.eval o).run P w = r
          intro h
          cases r with
          | halt x w' => exact h.elim
          | ok n w' =>
            cases n <;> simp only [Gives] at h ⊢
            case value v => exact ⟨h.1, hB _ _ h.2.1, h.2.2, fun _ => h.2.1, fun e' => (e e').elim⟩
            case skip => exact ⟨h.1, hB _ _ h.2.1, h.2.2, fun _ => h.2.1, fun e' => (e e').elim⟩
            case enter f args => exact h.mono fun _ w'' ⟨v, e1, h1, h2, h3⟩ => ⟨v, e1, h1, hB _ _ h2, h3, fun _ => h2, fun e' => (e e').elim⟩
      unfold Oper.wp
      generalize (execOp a.eval o).run P w = r at hgv
      cases r with
      | halt x w' => exact hgv.elim
      | ok n w' =>
        cases n <;> simp only [Gives] at hgv <;> simp only [Oper.upon]
        case value v => exact ih _ _ _ (by omega) (putS listed a w w' j o _ hj K ho hgv.1 hgv.2.1 hgv.2.2.1 hgv.2.2.2.1 hgv.2.2.2.2)
        case skip => exact ih _ _ _ (by omega) (putS listed a w w' j o _ hj K ho hgv.1 hgv.2.1 hgv.2.2.1 hgv.2.2.2.1 hgv.2.2.2.2)
        case enter f args =>
          refine hgv.mono ?_
          rintro e w'' ⟨v, rfl, h1, h2, h3, h4, h5⟩
          exact ih _ _ _ (by omega) (putS listed a w w'' j o _ hj K ho h1 h2 h3 h4 h5)
  refine key _ _ _ _ ?_ ⟨⟨hS, by simp, rfl, rfl, fun i o d hi _ hl => ?_, fun t _ => rfl⟩, fun hl => ?_⟩
  · unfold left
    have := List.countP_le_length (p := fun i => !(Array.replicate ops.size false).getD i true) (l := List.range ops.size)
    simpa using this
  · have := (Array.getElem?_eq_some_iff.1 hi).1
    simp [this] at hl
  · simp [hz.1] at hl
end
def AllAt (F : Nat → Oper → Prop) : Nat → List Oper → Prop
  | _, [] => True
  | j, o :: os => F j o ∧ AllAt F (j + 1) os
theorem allAt_at {F : Nat → Oper → Prop} (l : List Oper) : ∀ (k : Nat), AllAt F k l → ∀ (j : Nat) (o : Oper), l[j]? = some o → F (k + j) o := by
  induction l with
  | nil => intro k _ j o ho; simp at ho
  | cons o' os ih =>
    intro k h j o ho
    cases j with
    | zero => simp at ho; subst ho; exact h.1
    | succ j =>
      have := ih (k + 1) h.2 j o (by simpa using ho)
      have e : k + (j + 1) = k + 1 + j := by omega
      rw [e]; exact this
/-- What is owed for an operation that is no store. -/
def OweG (P : Program) (l : List Oper) (Φ : Nat → Value → World → Prop) (S : World → Prop) (a0 : Act) (s : Nat) (j : Nat) (o : Oper) : Prop :=
  j ≠ s → ∀ (a : Act) (w : World), S w → (∀ t, writesB l.toArray t = false → a.eval (.tmp t) = a0.eval (.tmp t)) →
      (∀ e ∈ o.after, Region.binds .any e = true → ∀ (p : Oper) (d : Tmp), l[e.on]? = some p → p.dst = some d → Φ e.on (a.eval (.tmp d)) w) →
      Gives P (fun v w' => Below w.heap.size w w' ∧ Φ j v w') ((execOp a.eval o).run P w)
theorem wp_region_store_puts {P : Program} {Q : Exit → Act → World → Prop} {id : Nat} {l : List Oper} {a0 : Act} {w0 : World} (hm : P.follows .mixedOrders = true) (Φ : Nat → Value → World → Prop) (base : Nat) (R : World → World → Prop) (s i8 c : Nat) (Θ : Value → World → Prop)
    (hs : shapeB l.toArray = true) (hin : (l.all fun o => match o.dst with | some d => decide (d < a0.tmps.size) | none => true) = true) (hng : (l.all fun o => o.guard.isNone) = true)
    (hz : s < l.length ∧ i8 < l.length) (hsd : (match l[s]? with | some o => o.dst.isNone && o.after.any (fun e => Region.binds .any e && e.on == i8) | none => false) = true) (h8 : (match l[i8]? with | some o => o.dst == some c | none => false) = true)
    (hmono : ∀ i v w w', R w w' → Φ i v w → Φ i v w') (hB : ∀ w w', Below w.heap.size w w' → R w w') (hΘ : ∀ v w w', Below w.heap.size w w' → Θ v w → Θ v w') (hΦs : ∀ v w, Φ s v w)
    (hbase : base = w0.heap.size)
    (hop : AllAt (OweG P l Φ (fun W => Below base w0 W) a0 s) 0 l)
    (hst : ∀ (o : Oper), l[s]? = some o → ∀ (a : Act) (w : World), Below base w0 w → (∀ t, writesB l.toArray t = false → a.eval (.tmp t) = a0.eval (.tmp t)) →
      (∀ e ∈ o.after, Region.binds .any e = true → ∀ (p : Oper) (d : Tmp), l[e.on]? = some p → p.dst = some d → Φ e.on (a.eval (.tmp d)) w) →
      Gives P (fun _ w' => Below base w0 w' ∧ R w w' ∧ Θ (a.eval (.tmp c)) w') ((execOp a.eval o).run P w))
    (hend : ∀ (f : Nat → Value) (w : World), Below base w0 w → Θ (f c) w → Q .normal (putOps l f a0) w) :
    (Code.region id l.toArray true).wp P Q a0 w0 := by
  refine wp_region_store hm Φ (fun W => Below base w0 W) R s i8 c Θ hs ?_ ?_ (by simpa using hz) ?_ ?_ hmono hB hΘ hΦs ?_ ?_ ?_ ?_
  · intro i o d hi hd
    have := List.all_eq_true.1 hin o (by simpa using List.mem_of_getElem? (by simpa using hi))
    rw [hd] at this
    simpa using this
  · intro j o hj
    have := List.all_eq_true.1 hng o (by simpa using List.mem_of_getElem? (by simpa using hj))
    simpa using this
  · intro o ho
    have ho' : l[s]? = some o := by simpa using ho
    rw [ho'] at hsd
    simp only [Bool.and_eq_true, Option.isNone_iff_eq_none, Array.any_eq_true', beq_iff_eq] at hsd
    obtain ⟨h1, e, he, hb, h2⟩ := hsd
    exact ⟨h1, e, he, hb, h2⟩
  · intro o ho
    have ho' : l[i8]? = some o := by simpa using ho
    rw [ho'] at h8
    simpa using h8
  · rw [hbase]; exact bdrew1 (Below.refl _ _)
  · intro j o hj hjs a w hS hun hdep
    have h := allAt_at l 0 hop j o (by simpa using hj)
    rw [Nat.zero_add] at h
    have h := h hjs a w hS hun (fun e he hb p d hp hd => hdep e he hb p d (by simpa using hp) hd)
    revert h
    generalize (execOp a.eval o).run P w = r
    intro h
    have hlo : base ≤ w.heap.size := by rw [hbase]; exact hS.size
    cases r with
    | halt x w' => exact h.elim
    | ok n w' =>
      cases n <;> simp only [Gives] at h ⊢
      case value v => exact ⟨hS.trans (h.1.mono hlo), h.1, h.2⟩
      case skip => exact ⟨hS.trans (h.1.mono hlo), h.1, h.2⟩
      case enter f args => exact h.mono fun _ w'' ⟨v, e1, h1, h2⟩ => ⟨v, e1, hS.trans (h1.mono hlo), h1, h2⟩
  · intro o ho a w hS hun hdep
    exact hst o (by simpa using ho) a w hS hun (fun e he hb p d hp hd => hdep e he hb p d (by simpa using hp) hd)
  · intro a w hS hz' hd _ hr hT
    have e : a = putOps l (fun t => a.tmps.getD t undef) a0 := by
      cases a with
      | mk tmps defers =>
        have h2 : (putOps l (fun t => tmps.getD t undef) a0).defers = defers := (putOps_defers _ _ _).trans hd.symm
        have h1 : (putOps l (fun t => tmps.getD t undef) a0).tmps = tmps := by
          apply Array.ext_getElem?
          intro t
          by_cases ht : t < a0.tmps.size
          · rw [putOps_at _ _ _ _ ht]
            split
            · dsimp only at hz'
              simp [Array.getD_eq_getD_getElem?, hz', ht]
            · rename_i hw
              exact (hr t (by simpa [writesB] using hw)).symm
          · dsimp only at hz'
            rw [Array.getElem?_eq_none (by rw [putOps_size]; omega), Array.getElem?_eq_none (by omega)]
        cases hp : putOps l (fun t => tmps.getD t undef) a0 with
        | mk t2 d2 =>
          rw [hp] at h1 h2
          dsimp only at h1 h2 ⊢
          subst h1 h2
          rfl
    rw [e]
    exact hend _ w hS hT
end Go.Proofs.YtlbjmkljmhfjdaaGreat
namespace Go.Proofs.YtlbjmkljmhfjdaaGreat
open Go Go.RowKit
variable {P : Program}
/-- All but the caller's own blocks is kept; what was not the caller's is not made its. -/
structure Keep (C : Nat → World → Prop) (A A' : World) : Prop where
  size : A.heap.size ≤ A'.heap.size
  block : ∀ j, j < A.heap.size → ¬ C j A → A'.heap[j]? = A.heap[j]?
  own : ∀ j, j < A.heap.size → C j A' → C j A
theorem Keep.refl (C : Nat → World → Prop) (A : World) : Keep C A A := ⟨Nat.le_refl _, fun _ _ _ => rfl, fun _ _ h => h⟩
theorem Keep.trans {C : Nat → World → Prop} {A A' A'' : World} (h : Keep C A A') (k : Keep C A' A'') : Keep C A A'' :=
  ⟨Nat.le_trans h.size k.size, fun j hj hc => (k.block j (Nat.lt_of_lt_of_le hj h.size) (fun e => hc (h.own j hj e))).trans (h.block j hj hc), fun j hj hc => h.own j hj (k.own j (Nat.lt_of_lt_of_le hj h.size) hc)⟩
/-- A block that is no memory of values: a loop's record, a mark. -/
def NoCells (A : World) (b : Nat) : Prop := ∃ o : Obj, A.heap[b]? = some o ∧ ∀ vs T z, o ≠ .cells vs T z
theorem nc_loop {A : World} {b : Nat} {lp : Loop} (h : A.heap[b]? = some (.loop lp)) : NoCells A b := ⟨_, h, fun _ _ _ => by nofun⟩
theorem nc_def {A : World} {b : Nat} {ds : Option (List Deferred)} (h : A.heap[b]? = some (.deferred ds)) : NoCells A b := ⟨_, h, fun _ _ _ => by nofun⟩
theorem NoCells.ne {A : World} {b j : Nat} {vs : Array Value} {T : TypeId} {z : Nat × Nat} (h : NoCells A b) (hj : A.heap[j]? = some (.cells vs T z)) : j ≠ b := by
  rintro rfl
  obtain ⟨o, h1, h2⟩ := h
  rw [hj] at h1
  exact h2 _ _ _ (Option.some.inj h1).symm
/-- What a caller says while a function hands out: it stays as memory grows, and as loops' records turn. -/
structure Fair (B : Nat) (J : Nat → World → Prop) (C : Nat → World → Prop) : Prop where
  grow : ∀ s A A', J s A → Below A.heap.size A A' → J s A'
  put : ∀ s b A o, B ≤ b → J s A → NoCells A b → J s (A.putObj b o)
  cgrow : ∀ s A A' j, J s A → Below A.heap.size A A' → C j A' → C j A
  cput : ∀ s b A o j, B ≤ b → J s A → NoCells A b → C j (A.putObj b o) → C j A
  cell : ∀ s A j, J s A → C j A → ∃ vs T z, A.heap[j]? = some (.cells vs T z)
theorem Fair.keep {B : Nat} {J C : Nat → World → Prop} (f : Fair B J C) {s : Nat} {A A' : World} (h : J s A) (hb : Below A.heap.size A A') : Keep C A A' :=
  ⟨hb.size, fun j hj _ => hb.block j hj, fun j _ hc => f.cgrow s A A' j h hb hc⟩
theorem Fair.lt {B : Nat} {J C : Nat → World → Prop} (f : Fair B J C) {s : Nat} {A : World} (h : J s A) {j : Nat} (hc : C j A) : j < A.heap.size := by
  obtain ⟨vs, T, z, h⟩ := f.cell s A j h hc
  exact (Array.getElem?_eq_some_iff.1 h).1
/-- The contract: N things in their turn; T are the blocks that the function reads. -/
def SeqX (n : Nat) (P : Program) (gf : Nat) (lb : Array Value) (encs : Nat → Array Value) (N : Nat) (T : Nat → Prop) (w : World) : Prop :=
  ∀ (l : Nat) (J C : Nat → World → Prop) (W : World), Below w.heap.size w W → Fair W.heap.size J C → (∀ j, T j → ¬ C j W) →
    (∀ k W1, J k W1 → k < N → YieldAt Fence.wide (n - 1) P l (encs k) W1 fun e W' => e = .returned (.bool true) ∧ J (k + 1) W' ∧ Keep C W1 W') →
    J 0 W → CallsIn Fence.wide n P gf (#[.func (.yield l) #[] #[]] ++ lb) W fun e W' => (∃ v, e = .returned v) ∧ J N W' ∧ Keep C W W'
/-- How a body ends. -/
def endX (C : Nat → World → Prop) (I : Nat → World → Prop) (k : Nat) (W : World) : Exit → Act → World → Prop
  | .normal, _, W' => Keep C W W' ∧ I k W'
  | _, _, _ => False
theorem wpIn_rangeFunc_own {n : Nat} {g : Operand} {ps : Array Tmp} {assign body : Code} {Q : Exit → Act → World → Prop} {a : Act} {w : World} (h1 : 1 ≤ n) {gf : Nat} {lb : Array Value}
    (hg : a.eval g = .func (.func gf) #[] lb) (eg : ∀ args w, (callFunc gf args).run P w = .ok (.enter gf args) w) {encs : Nat → Array Value} {N : Nat} {T : Nat → Prop} {w0 : World}
    (hseq : SeqX (n - 1) P gf lb encs N T w0) (hb0 : Below w0.heap.size w0 w) (hps : ∀ k, (encs k).size = ps.size)
    (I C : Nat → World → Prop) (hF : Fair w.heap.size I C) (hT : ∀ j, T j → ¬ C j w) (h0 : I 0 w) (a₁ : Nat → Act)
    (hassign : ∀ (l k : Nat) (W : World) (K : Act → World → Prop), K (a₁ k) W →
      assign.wpIn (Fence.wide.inRound l) (n - 1 - 1) P (Exit.then K (fun _ _ _ => False)) { tmps := (ps.zip (encs k)).foldl (fun t (p, v) => t.setIfInBounds p v) a.tmps, defers := [] } W)
    (hbody : ∀ (l k : Nat) (W : World), I k W → k < N → body.wpIn (Fence.wide.inRound l) (n - 1 - 1) P (endX C I (k + 1) W) (a₁ k) W)
    (hdone : ∀ (D : Nat) (W : World), D = w.heap.size → I N W → Keep C w W → W.heap[D]? = some (.deferred (some [])) → Q .normal { a with defers := { target := .collected D, args := #[] } :: a.defers } W) :
    (Code.rangeFunc g ps assign body).wpIn Fence.wide n P Q a w := by
  refine wpIn_rangeFunc ?_
  intro fn hfn
  show ∃ _, _
  let rec0 : LoopState → Option Code → Loop := fun st pe => { state := st, pending := pe, fn, tmps := a.tmps, params := ps, assign, body, defers := w.heap.size }
  obtain ⟨D, eD⟩ : ∃ D, D = w.heap.size := ⟨_, rfl⟩
  obtain ⟨W1, eW⟩ : ∃ W1, W1 = (w.alloc (.deferred (some []))).alloc (.loop (rec0 .ready none)) := ⟨_, rfl⟩
  have hB2 : Below w.heap.size w W1 := by rw [eW]; exact B2 _ _ _
  have hzz : W1.heap.size = D + 2 := by rw [eW, eD]; simp
  have hD : W1.heap[D]? = some (.deferred (some [])) := by
    rw [eW, eD]; exact (Below.heap_alloc _ _ _ (by simp)).trans (World.alloc_heap_new w _)
  have hL : W1.heap[D + 1]? = some (.loop (rec0 .ready none)) := by
    rw [eW, eD]; have := World.alloc_heap_new (w.alloc (.deferred (some []))) (.loop (rec0 .ready none)); rwa [World.size_alloc] at this
  have hI1 : I 0 W1 := hF.grow 0 _ _ h0 hB2
  have K1 : Keep C w W1 := hF.keep h0 hB2
  refine ⟨D + 1, [{ target := .collected D, args := #[] }], W1, { target := .fn (.func gf) lb, args := #[.func (.yield (D + 1)) #[] #[]] }, W1, gf, #[.func (.yield (D + 1)) #[] #[]] ++ lb, W1, ?_, ?_, fun _ _ => trivial, ?_, fun _ => h1, ?_⟩
  · rw [eW, eD]; exact run_enterLoop_outer _ _ _ _ _
  · simp only [resolve, hg]
    simp [go_sem]
  · simp [invoke, go_sem, eg]
  have nodef : ∀ s A j d, I s A → A.heap[j]? = some (.deferred d) → ¬ C j A := fun s A j d h e hc => by
    obtain ⟨vs, T, z, h2⟩ := hF.cell s A j h hc
    rw [e] at h2; cases h2
  have noloop : ∀ s A j d, I s A → A.heap[j]? = some (.loop d) → ¬ C j A := fun s A j d h e hc => by
    obtain ⟨vs, T, z, h2⟩ := hF.cell s A j h hc
    rw [e] at h2; cases h2
  refine (hseq (D + 1) (fun k W => I k W ∧ W.heap[D + 1]? = some (.loop (rec0 .ready none)) ∧ W.heap[D]? = some (.deferred (some []))) C W1 (hb0.trans (hB2.mono hb0.size)) ?_ ?_ ?_ ⟨hI1, hL, hD⟩).mono ?_
  · constructor
    · rintro s A A' ⟨hi, hl, hd⟩ hb
      have q1 := (Array.getElem?_eq_some_iff.1 hl).1
      exact ⟨hF.grow s A A' hi hb, (hb.block _ q1).trans hl, (hb.block _ (by omega)).trans hd⟩
    · rintro s b A o hb ⟨hi, hl, hd⟩ he
      exact ⟨hF.put s b A o (by omega) hi he, (World.putObj_heap_other (by omega)).trans hl, (World.putObj_heap_other (by omega)).trans hd⟩
    · rintro s A A' j ⟨hi, hl, hd⟩ hb hc
      exact hF.cgrow s A A' j hi hb hc
    · rintro s b A o j hb ⟨hi, hl, hd⟩ he hc
      exact hF.cput s b A o j (by omega) hi he hc
    · rintro s A j ⟨hi, hl, hd⟩ hc
      exact hF.cell s A j hi hc
  · intro j hj hc
    exact hT j hj (hF.cgrow 0 _ _ j h0 hB2 hc)
  · rintro k W ⟨hi, hl, hd⟩ hk
    have hlt : D + 1 < W.heap.size := (Array.getElem?_eq_some_iff.1 hl).1
    refine ⟨fn, _, assign, body, run_yield (P := P) (args := encs k) hl (hps k), roundIn_of_wpIn hfn (hassign _ k W _ ⟨_, run_beginRound hl rfl, ?_⟩)⟩
    obtain ⟨Wb, eWb⟩ : ∃ Wb, Wb = W.putObj (D + 1) (.loop (rec0 .busy none)) := ⟨_, rfl⟩
    have hl2 : Wb.heap[D + 1]? = some (.loop (rec0 .busy none)) := by rw [eWb]; exact World.putObj_heap_same hlt
    have hd2 : Wb.heap[D]? = some (.deferred (some [])) := by rw [eWb]; exact (World.putObj_heap_other (by omega)).trans hd
    have hi2 : I k Wb := by rw [eWb]; exact hF.put k (D + 1) W _ (by omega) hi (nc_loop hl)
    have hzb : Wb.heap.size = W.heap.size := by rw [eWb]; simp
    have hcb : ∀ j, C j Wb → C j W := fun j hc => by rw [eWb] at hc; exact hF.cput k (D + 1) W _ j (by omega) hi (nc_loop hl) hc
    have hob : ∀ j, j ≠ D + 1 → Wb.heap[j]? = W.heap[j]? := fun j hj => by rw [eWb]; exact World.putObj_heap_other hj
    show body.wpIn _ _ _ _ _ (W.putObj (D + 1) (.loop (rec0 .busy none)))
    rw [← eWb]
    refine wpIn_mono (hbody _ k _ hi2 hk) ?_
    rintro e a3 W3 hp
    cases e with
    | normal =>
      obtain ⟨hk3, hi3⟩ := hp
      have hl3 := (hk3.block (D + 1) (by omega) (noloop _ _ _ _ hi2 hl2)).trans hl2
      have hd3 := (hk3.block D (by omega) (nodef _ _ _ _ hi2 hd2)).trans hd2
      refine ⟨_, _, run_endRound (P := P) none hl3, rfl, ⟨hF.put _ (D + 1) _ _ (by omega) hi3 (nc_loop hl3), World.putObj_heap_same (Array.getElem?_eq_some_iff.1 hl3).1, (World.putObj_heap_other (by omega)).trans hd3⟩, ?_⟩
      refine ⟨?_, fun j hj hc => ?_, fun j hj hc => ?_⟩
      · have := hk3.size; simp; omega
      · by_cases e : j = D + 1
        · subst e
          exact (World.putObj_heap_same (Array.getElem?_eq_some_iff.1 hl3).1).trans hl.symm
        · exact (World.putObj_heap_other e).trans ((hk3.block j (by omega) (fun h => hc (hcb j h))).trans (hob j e))
      · have c3 := hF.cput _ (D + 1) W3 _ j (by omega) hi3 (nc_loop hl3) hc
        exact hcb j (hk3.own j (by omega) c3)
    | ret => exact hp.elim
    | exit id => exact hp.elim
    | goto t => exact hp.elim
    | panic ch => exact hp.elim
    | outgrown => exact hp.elim
  · rintro e W2 ⟨⟨v, rfl⟩, ⟨hi, hl, hd⟩, hk2⟩
    have k2 := K1.trans hk2
    refine ⟨none, _, run_endLoop (P := P) hl (by simp [rec0]), hdone D _ eD (hF.put _ (D + 1) _ _ (by omega) hi (nc_loop hl)) ⟨by have := k2.size; simpa using this, fun j hj hc => (World.putObj_heap_other (by omega)).trans (k2.block j hj hc), fun j hj hc => k2.own j hj (hF.cput _ (D + 1) W2 _ j (by omega) hi (nc_loop hl) hc)⟩ ((World.putObj_heap_other (by omega)).trans hd)⟩
theorem roundX_any {m m' : Nat} {P : Program} {l : Nat} {f : FuncId} {tmps : Array Value} {assign body : Code} {w : World} {R : Ending → World → Prop}
    (h : RoundIn Fence.wide m P l f tmps assign body w R) : RoundIn Fence.wide m' P l f tmps assign body w R := ⟨h.1, fun c cs _ => h.2 c cs (fun d h => by cases h)⟩
theorem roundX_in {F : Fence} {n : Nat} {P : Program} {l l2 : Nat} {f : FuncId} {tmps : Array Value} {assign body : Code} {w : World} {R : Ending → World → Prop}
    (h : RoundIn F n P l f tmps assign body w R) : RoundIn (F.inRound l2) n P l f tmps assign body w R := h
theorem yieldX_any {m m' l : Nat} {P : Program} {args : Array Value} {w : World} {R : Ending → World → Prop} (h : YieldAt Fence.wide m P l args w R) : YieldAt Fence.wide m' P l args w R := by
  obtain ⟨fn, tmps, assign, body, hy, hR⟩ := h
  exact ⟨fn, tmps, assign, body, hy, roundX_any hR⟩
theorem seqX_any {m m' : Nat} {P : Program} {gf : Nat} {lb : Array Value} {encs : Nat → Array Value} {N : Nat} {T : Nat → Prop} {w : World} (h : SeqX m P gf lb encs N T w) : SeqX m' P gf lb encs N T w :=
  fun l J C W hb hf hT hY h0 => callsIn_wide.2 (callsIn_wide.1 (h l J C W hb hf hT (fun k W1 hk hlt => yieldX_any (hY k W1 hk hlt)) h0))
/-- The marks of ranges that are behind one. -/
structure Marks (B : Nat) (dl : List Nat) (W : World) : Prop where
  nodup : dl.Nodup
  each : ∀ D ∈ dl, B ≤ D ∧ W.heap[D]? = some (.deferred (some []))
def mkDf (D : Nat) : Deferred := { target := .collected D, args := #[] }
theorem Marks.cons {B D : Nat} {dl : List Nat} {W : World} (h : Marks B dl W) (hD : B ≤ D) (hn : D ∉ dl) (hW : W.heap[D]? = some (.deferred (some []))) : Marks B (D :: dl) W := ⟨List.nodup_cons.2 ⟨hn, h.nodup⟩, fun E hE => by
  rcases List.mem_cons.1 hE with rfl | hE
  · exact ⟨hD, hW⟩
  · exact h.each E hE⟩
theorem Marks.keep {B s : Nat} {J C : Nat → World → Prop} {dl : List Nat} {A A' : World} (h : Marks B dl A) (f : Fair B J C) (hj : J s A) (k : Keep C A A') : Marks B dl A' :=
  ⟨h.nodup, fun D hD => ⟨(h.each D hD).1, (k.block D (Array.getElem?_eq_some_iff.1 (h.each D hD).2).1 (fun hc => by
    obtain ⟨vs, T, z, h2⟩ := f.cell s A D hj hc
    rw [(h.each D hD).2] at h2; cases h2)).trans (h.each D hD).2⟩⟩
theorem leaves_marks {F : Fence} {n B s : Nat} {P : Program} {fn : Func} {tmps : Array Value} {R : Ending → World → Prop} {J C : Nat → World → Prop} (f : Fair B J C) {W0 : World} (hW0 : W0.heap.size ≤ B) : ∀ (dl : List Nat) (W : World), Marks B dl W → J s W → Keep C W0 W →
    (∀ W', J s W' → Keep C W0 W' → LeavesIn F n P fn tmps R [] .returning W') → LeavesInM F n P fn tmps R (dl.map mkDf) .returning W
  | [], W, _, hj, hk, h => h W hj hk
  | D :: dl, W, hd, hj, hk, h => by
    obtain ⟨h1, h2⟩ := hd.each D List.mem_cons_self
    refine ⟨by simp, .inl ⟨D, _, rfl, run_takeDeferred h2, leaves_marks f hW0 dl _ ⟨(List.nodup_cons.1 hd.nodup).2, fun E hE => ⟨(hd.each E (List.mem_cons_of_mem _ hE)).1, (World.putObj_heap_other (fun e => (List.nodup_cons.1 hd.nodup).1 (by rw [← e]; exact hE))).trans (hd.each E (List.mem_cons_of_mem _ hE)).2⟩⟩ (f.put s D W _ h1 hj (nc_def h2)) ?_ h⟩⟩
    exact ⟨by have := hk.size; simpa using this, fun j hj2 hc => (World.putObj_heap_other (by omega)).trans (hk.block j hj2 hc), fun j hj2 hc => hk.own j hj2 (f.cput s D W _ j h1 hj (nc_def h2) hc)⟩
end Go.Proofs.YtlbjmkljmhfjdaaGreat
namespace Go.Proofs.YtlbjmkljmhfjdaaGreat
end Go.Proofs.YtlbjmkljmhfjdaaGreat
namespace Go.Proofs.YtlbjmkljmhfjdaaGreat
/-- A number more is met. -/
def mset (m : Nat → Bool) (a : Nat) : Nat → Bool := fun x => x == a || m x
/-- A path over numbers that are not met. -/
inductive WP (adj : Nat → List Nat) (m : Nat → Bool) : Nat → Nat → Prop
  | one {a : Nat} : m a = false → WP adj m a a
  | step {a b c : Nat} : m a = false → b ∈ adj a → WP adj m b c → WP adj m a c
/-- What is met, and done at its end, one behind the other. -/
inductive Thr (adj : Nat → List Nat) : (Nat → Bool) → List Nat → List Nat → (Nat → Bool) → Prop
  | nil (m : Nat → Bool) : Thr adj m [] [] m
  | met {m m' : Nat → Bool} {a : Nat} {l N : List Nat} : m a = true → Thr adj m l N m' → Thr adj m (a :: l) N m'
  | new {m m1 m2 : Nat → Bool} {a : Nat} {l N1 N2 : List Nat} : m a = false → Thr adj (mset m a) (adj a) N1 m1 → Thr adj m1 l N2 m2 → Thr adj m (a :: l) (N1 ++ a :: N2) m2
variable {adj : Nat → List Nat} {m m' : Nat → Bool}
theorem mset_iff {a x : Nat} : mset m a x = true ↔ x = a ∨ m x = true := by simp [mset]
theorem mset_false {a x : Nat} : mset m a x = false ↔ x ≠ a ∧ m x = false := by simp [mset]
theorem WP.head {a b : Nat} (h : WP adj m a b) : m a = false := by cases h <;> assumption
theorem WP.last {a b : Nat} (h : WP adj m a b) : m b = false := by induction h with | one h => exact h | step _ _ _ ih => exact ih
theorem WP.trans {a b c : Nat} (h : WP adj m a b) (k : WP adj m b c) : WP adj m a c := by
  induction h with
  | one _ => exact k
  | step h1 h2 _ ih => exact .step h1 h2 (ih k)
theorem WP.mono {a b : Nat} (hm : ∀ x, m' x = false → m x = false) (h : WP adj m' a b) : WP adj m a b := by
  induction h with
  | one h => exact .one (hm _ h)
  | step h1 h2 _ ih => exact .step (hm _ h1) h2 ih
/-- A path keeps off some numbers, or meets one of them. -/
theorem WP.split {m1 : Nat → Bool} {a b : Nat} (h : WP adj m a b) : WP adj m1 a b ∨ ∃ s, m1 s = true ∧ WP adj m a s ∧ WP adj m s b := by
  induction h with
  | @one a h =>
    cases e : m1 a with
    | true => exact .inr ⟨a, e, .one h, .one h⟩
    | false => exact .inl (.one e)
  | @step a b c h1 h2 h3 ih =>
    rcases ih with ih | ⟨s, k1, k2, k3⟩
    · cases e : m1 a with
      | true => exact .inr ⟨a, e, .one h1, .step h1 h2 h3⟩
      | false => exact .inl (.step e h2 ih)
    · exact .inr ⟨s, k1, .step h1 h2 k2, k3⟩
/-- Behind its last visit of a number a path keeps off it. -/
theorem WP.behind {a c x : Nat} (h : WP adj m c x) : WP adj (mset m a) c x ∨ x = a ∨ ∃ b ∈ adj a, WP adj (mset m a) b x := by
  induction h with
  | @one c h =>
    by_cases e : c = a
    · exact .inr (.inl e)
    · exact .inl (.one (mset_false.2 ⟨e, h⟩))
  | @step c b x h1 h2 h3 ih =>
    rcases ih with ih | ih
    · by_cases e : c = a
      · subst e; exact .inr (.inr ⟨b, h2, ih⟩)
      · exact .inl (.step (mset_false.2 ⟨e, h1⟩) h2 ih)
    · exact .inr ih
theorem WP.from {a x : Nat} (h : WP adj m a x) : x = a ∨ ∃ b ∈ adj a, WP adj (mset m a) b x := by
  rcases h.behind (a := a) with h | h
  · have := h.head
    simp [mset] at this
  · exact h
theorem Thr.facts {l N : List Nat} (h : Thr adj m l N m') : (∀ x, m' x = true ↔ m x = true ∨ x ∈ N) ∧ (∀ x ∈ N, m x = false) ∧ N.Nodup := by
  induction h with
  | nil m => exact ⟨fun x => by simp, by simp, List.nodup_nil⟩
  | met _ _ ih => exact ih
  | @new m m1 m2 a l N1 N2 h1 h2 h3 ih1 ih2 =>
    obtain ⟨a1, a2, a3⟩ := ih1
    obtain ⟨b1, b2, b3⟩ := ih2
    refine ⟨fun x => ?_, fun x hx => ?_, ?_⟩
    · rw [b1, a1, mset_iff]
      simp only [List.mem_append, List.mem_cons]
      constructor
      · rintro (((h | h) | h) | h)
        · exact .inr (.inr (.inl h))
        · exact .inl h
        · exact .inr (.inl h)
        · exact .inr (.inr (.inr h))
      · rintro (h | h | h | h)
        · exact .inl (.inl (.inr h))
        · exact .inl (.inr h)
        · exact .inl (.inl (.inl h))
        · exact .inr h
    · rcases List.mem_append.1 hx with h | h
      · exact (mset_false.1 (a2 x h)).2
      · rcases List.mem_cons.1 h with rfl | h
        · exact h1
        · have h4 := b2 x h
          cases e : m x with
          | false => rfl
          | true => rw [(a1 x).2 (.inl (mset_iff.2 (.inr e)))] at h4; cases h4
    · have n1 : a ∉ N1 := fun h => (mset_false.1 (a2 a h)).1 rfl
      have n2 : a ∉ N2 := fun h => by have := b2 a h; rw [(a1 a).2 (.inl (mset_iff.2 (.inl rfl)))] at this; cases this
      refine List.nodup_append.2 ⟨a3, List.nodup_cons.2 ⟨n2, b3⟩, fun x hx y hy e => ?_⟩
      subst e
      rcases List.mem_cons.1 hy with rfl | hy
      · exact n1 hx
      · have := b2 x hy; rw [(a1 x).2 (.inr hx)] at this; cases this
/-- Those that are met are those to which a path leads over numbers that were not met. -/
theorem Thr.iff {l N : List Nat} (h : Thr adj m l N m') : ∀ x, x ∈ N ↔ ∃ a ∈ l, WP adj m a x := by
  induction h with
  | nil m => simp
  | @met m m' a l N h1 h2 ih =>
    intro x
    rw [ih]
    constructor
    · rintro ⟨b, hb, h⟩; exact ⟨b, List.mem_cons_of_mem _ hb, h⟩
    · rintro ⟨b, hb, h⟩
      rcases List.mem_cons.1 hb with rfl | hb
      · rw [h.head] at h1; cases h1
      · exact ⟨b, hb, h⟩
  | @new m m1 m2 a l N1 N2 h1 h2 h3 ih1 ih2 =>
    intro x
    have f1 := h2.facts.1
    have up : ∀ s, mset m a s = false → m s = false := fun s h => (mset_false.1 h).2
    have inA : ∀ s, s ∈ N1 → WP adj m a s := fun s hs => by
      obtain ⟨b, hb, h⟩ := (ih1 s).1 hs
      exact .step h1 hb (h.mono up)
    have outA : ∀ s, WP adj m a s → s = a ∨ s ∈ N1 := fun s hs => by
      rcases hs.from with h | ⟨b, hb, h⟩
      · exact .inl h
      · exact .inr ((ih1 s).2 ⟨b, hb, h⟩)
    simp only [List.mem_append, List.mem_cons]
    constructor
    · rintro (h | rfl | h)
      · exact ⟨a, .inl rfl, inA x h⟩
      · exact ⟨x, .inl rfl, .one h1⟩
      · obtain ⟨b, hb, h⟩ := (ih2 x).1 h
        refine ⟨b, .inr hb, h.mono fun s hs => ?_⟩
        cases e : m s with
        | false => rfl
        | true => rw [(f1 s).2 (.inl (mset_iff.2 (.inr e)))] at hs; cases hs
    · rintro ⟨b, rfl | hb, h⟩
      · rcases outA x h with h | h
        · exact .inr (.inl h)
        · exact .inl h
      · rcases h.split (m1 := m1) with h | ⟨s, k1, k2, k3⟩
        · exact .inr (.inr ((ih2 x).2 ⟨b, hb, h⟩))
        · have hs : WP adj m a s := by
            rcases (f1 s).1 k1 with h | h
            · rcases mset_iff.1 h with rfl | h
              · exact .one h1
              · rw [k2.last] at h; cases h
            · exact inA s h
          rcases outA x (hs.trans k3) with h | h
          · exact .inr (.inl h)
          · exact .inl h
/-- y is z, or stands ahead of it. -/
def Ahead (N : List Nat) (y z : Nat) : Prop := ∃ A B, N = A ++ z :: B ∧ (y = z ∨ y ∈ A)
/-- Behind all to which one leads stands one that leads to it, and to which it leads. -/
theorem Thr.order {l N : List Nat} (h : Thr adj m l N m') : ∀ x y, x ∈ N → WP adj m x y → ∃ z, Ahead N y z ∧ WP adj m x z ∧ WP adj m z x := by
  induction h with
  | nil m => intro x y hx; simp at hx
  | met _ _ ih => exact ih
  | @new m m1 m2 a l N1 N2 h1 h2 h3 ih1 ih2 =>
    intro x y hx hp
    have f1 := h2.facts.1
    have up : ∀ s, mset m a s = false → m s = false := fun s h => (mset_false.1 h).2
    have inA : ∀ s, s ∈ N1 → WP adj m a s := fun s hs => by
      obtain ⟨b, hb, h⟩ := (h2.iff s).1 hs
      exact .step h1 hb (h.mono up)
    have outA : ∀ s, WP adj m a s → s = a ∨ s ∈ N1 := fun s hs => by
      rcases hs.from with h | ⟨b, hb, h⟩
      · exact .inl h
      · exact .inr ((h2.iff s).2 ⟨b, hb, h⟩)
    have aheadA : ∀ s, s = a ∨ s ∈ N1 → Ahead (N1 ++ a :: N2) s a := fun s hs => ⟨N1, N2, rfl, hs⟩
    have up2 : ∀ s, m1 s = false → m s = false := fun s hs => by
      cases e : m s with
      | false => rfl
      | true => rw [(f1 s).2 (.inl (mset_iff.2 (.inr e)))] at hs; cases hs
    rcases List.mem_append.1 hx with hx1 | hx1
    · rcases hp.split (m1 := mset m a) with h | ⟨s, k1, k2, k3⟩
      · obtain ⟨z, ⟨A, B, e, k⟩, z1, z2⟩ := ih1 x y hx1 h
        exact ⟨z, ⟨A, B ++ a :: N2, by rw [e]; simp, k⟩, z1.mono up, z2.mono up⟩
      · have hs : s = a := by
          rcases mset_iff.1 k1 with h | h
          · exact h
          · rw [k2.last] at h; cases h
        subst hs
        exact ⟨s, aheadA y (outA y ((inA x hx1).trans hp)), k2, inA x hx1⟩
    · rcases List.mem_cons.1 hx1 with rfl | hx2
      · exact ⟨x, aheadA y (outA y hp), .one h1, .one h1⟩
      · rcases hp.split (m1 := m1) with h | ⟨s, k1, k2, k3⟩
        · obtain ⟨z, ⟨A, B, e, k⟩, z1, z2⟩ := ih2 x y hx2 h
          exact ⟨z, ⟨N1 ++ a :: A, B, by rw [e]; simp, by rcases k with k | k; exact .inl k; exact .inr (by simp [k])⟩, z1.mono up2, z2.mono up2⟩
        · have hs : WP adj m a s := by
            rcases (f1 s).1 k1 with h | h
            · rcases mset_iff.1 h with rfl | h
              · exact .one h1
              · rw [k2.last] at h; cases h
            · exact inA s h
          have hy := outA y (hs.trans k3)
          have hx0 : m x = false := hp.head
          obtain ⟨A, B, e⟩ := List.append_of_mem hx2
          refine ⟨x, ⟨N1 ++ a :: A, B, by rw [e]; simp, .inr ?_⟩, .one hx0, .one hx0⟩
          rcases hy with rfl | h
          · simp
          · simp [h]
theorem Thr.app {m1 : Nat → Bool} {l k N1 N2 : List Nat} (h : Thr adj m l N1 m1) (h' : Thr adj m1 k N2 m') : Thr adj m (l ++ k) (N1 ++ N2) m' := by
  induction h with
  | nil m => exact h'
  | met h1 _ ih => exact .met h1 (ih h')
  | new h1 h2 _ _ ih => rw [List.append_assoc, List.cons_append]; exact .new h1 h2 (ih h')
end Go.Proofs.YtlbjmkljmhfjdaaGreat
namespace Go.Proofs.YtlbjmkljmhfjdaaGreat
abbrev Reach (adj : Nat → List Nat) (a b : Nat) : Prop := WP adj (fun _ => false) a b
def Tog (adj : Nat → List Nat) (a b : Nat) : Prop := Reach adj a b ∧ Reach adj b a
theorem Reach.refl (adj : Nat → List Nat) (a : Nat) : Reach adj a a := .one rfl
theorem WP.reach {adj : Nat → List Nat} {m : Nat → Bool} {a b : Nat} (h : WP adj m a b) : Reach adj a b := h.mono fun _ _ => rfl
theorem Tog.refl (adj : Nat → List Nat) (a : Nat) : Tog adj a a := ⟨.refl _ _, .refl _ _⟩
theorem Tog.symm {adj : Nat → List Nat} {a b : Nat} (h : Tog adj a b) : Tog adj b a := ⟨h.2, h.1⟩
theorem Tog.trans {adj : Nat → List Nat} {a b c : Nat} (h : Tog adj a b) (k : Tog adj b c) : Tog adj a c := ⟨h.1.trans k.1, k.2.trans h.2⟩
/-- Who leads to whom are numbers below n. -/
def InR (adj : Nat → List Nat) (n : Nat) : Prop := ∀ a b, b ∈ adj a → a < n ∧ b < n
theorem Reach.lt {adj : Nat → List Nat} {n a b : Nat} (hi : InR adj n) (h : Reach adj a b) (ha : a < n) : b < n := by
  induction h with
  | one _ => exact ha
  | step _ h2 _ ih => exact ih (hi _ _ h2).2
theorem Reach.lt' {adj : Nat → List Nat} {n a b : Nat} (hi : InR adj n) (h : Reach adj a b) (hb : b < n) : a < n := by
  cases h with
  | one _ => exact hb
  | step _ h2 _ => exact (hi _ _ h2).1
/-- The graph turned round. -/
def c_Trn (adj radj : Nat → List Nat) : Prop := ∀ a b, b ∈ adj a ↔ a ∈ radj b
theorem c_Trn.symm {adj radj : Nat → List Nat} (h : c_Trn adj radj) : c_Trn radj adj := fun a b => (h b a).symm
theorem WP.turn {adj radj : Nat → List Nat} (h : c_Trn adj radj) {m : Nat → Bool} {a b : Nat} (p : WP adj m a b) : WP radj m b a := by
  induction p with
  | one h1 => exact .one h1
  | step h1 h2 _ ih => exact ih.trans (.step ih.last ((h _ _).1 h2) (.one h1))
theorem WP.turn_iff {adj radj : Nat → List Nat} (h : c_Trn adj radj) {m : Nat → Bool} {a b : Nat} : WP radj m b a ↔ WP adj m a b := ⟨fun p => p.turn h.symm, fun p => p.turn h⟩
/-- The part of a number. -/
def scc (r : Nat → Nat → Bool) (n v : Nat) : List Nat := (List.range n).filter fun x => r v x && r x v
/-- The c_least number of its part. -/
def c_least (r : Nat → Nat → Bool) (a : Nat) : Bool := (List.range a).all fun b => !(r a b && r b a)
/-- The parts, by their c_least numbers. -/
def sccs (r : Nat → Nat → Bool) (n : Nat) : List (List Nat) := ((List.range n).filter (c_least r)).map (scc r n)
/-- A yes or a no for who leads on to whom. -/
def IsR (adj : Nat → List Nat) (n : Nat) (r : Nat → Nat → Bool) : Prop := ∀ a b, a < n → b < n → (r a b = true ↔ Reach adj a b)
theorem mem_scc {adj : Nat → List Nat} {n v x : Nat} {r : Nat → Nat → Bool} (hr : IsR adj n r) (hv : v < n) : x ∈ scc r n v ↔ x < n ∧ Tog adj v x := by
  simp only [scc, List.mem_filter, List.mem_range, Bool.and_eq_true]
  constructor
  · rintro ⟨h, h1, h2⟩; exact ⟨h, (hr _ _ hv h).1 h1, (hr _ _ h hv).1 h2⟩
  · rintro ⟨h, h1, h2⟩; exact ⟨h, (hr _ _ hv h).2 h1, (hr _ _ h hv).2 h2⟩
theorem scc_rises (r : Nat → Nat → Bool) (n v : Nat) : (scc r n v).Pairwise (· < ·) := List.Pairwise.filter _ List.pairwise_lt_range
theorem rises_eq {l k : List Nat} (hl : l.Pairwise (· < ·)) (hk : k.Pairwise (· < ·)) (h : ∀ x, x ∈ l ↔ x ∈ k) : l = k := by
  have n1 : l.Nodup := hl.imp (fun h => Nat.ne_of_lt h)
  have n2 : k.Nodup := hk.imp (fun h => Nat.ne_of_lt h)
  exact List.Perm.eq_of_pairwise (le := (· < ·)) (fun a b _ _ h1 h2 => absurd h1 (Nat.lt_asymm h2)) hl hk ((List.perm_ext_iff_of_nodup n1 n2).2 h)
theorem rises_of_le {l : List Nat} (h : l.Pairwise (· ≤ ·)) (hn : l.Nodup) : l.Pairwise (· < ·) :=
  (h.and hn).imp fun ⟨h1, h2⟩ => Nat.lt_of_le_of_ne h1 h2
theorem scc_congr {adj : Nat → List Nat} {n v x : Nat} {r : Nat → Nat → Bool} (hr : IsR adj n r) (hv : v < n) (hx : x < n) (h : Tog adj v x) : scc r n v = scc r n x :=
  rises_eq (scc_rises _ _ _) (scc_rises _ _ _) fun y => by
    rw [mem_scc hr hv, mem_scc hr hx]
    exact ⟨fun ⟨a, b⟩ => ⟨a, h.symm.trans b⟩, fun ⟨a, b⟩ => ⟨a, h.trans b⟩⟩
theorem scc_self {adj : Nat → List Nat} {n v : Nat} {r : Nat → Nat → Bool} (hr : IsR adj n r) (hv : v < n) : v ∈ scc r n v := (mem_scc hr hv).2 ⟨hv, .refl _ _⟩
theorem scc_same {adj : Nat → List Nat} {n v x : Nat} {r : Nat → Nat → Bool} (hr : IsR adj n r) (hv : v < n) (hx : x < n) : scc r n v = scc r n x ↔ Tog adj v x :=
  ⟨fun h => ((mem_scc hr hv).1 (by rw [h]; exact scc_self hr hx)).2, scc_congr hr hv hx⟩
/-- How far the search back is: k are left, M are met, P are the parts. -/
structure Kos (adj : Nat → List Nat) (n : Nat) (r : Nat → Nat → Bool) (O : List Nat) (k : Nat) (M : Nat → Bool) (P : List (List Nat)) : Prop where
  inP : ∀ x, M x = true ↔ ∃ p ∈ P, x ∈ p
  are : ∀ p ∈ P, ∃ a, a < n ∧ p = scc r n a
  nodup : P.Nodup
  done : ∀ x ∈ O.drop k, M x = true
theorem Kos.start (adj : Nat → List Nat) (n : Nat) (r : Nat → Nat → Bool) (O : List Nat) : Kos adj n r O O.length (fun _ => false) [] :=
  ⟨fun x => by simp, by simp, List.nodup_nil, by simp⟩
theorem Kos.closed {adj : Nat → List Nat} {n : Nat} {r : Nat → Nat → Bool} {O : List Nat} {k : Nat} {M : Nat → Bool} {P : List (List Nat)} (hi : InR adj n) (hr : IsR adj n r) (h : Kos adj n r O k M P) {x y : Nat} (hx : M x = true) (ht : Tog adj x y) : M y = true := by
  obtain ⟨p, hp, hxp⟩ := (h.inP x).1 hx
  obtain ⟨a, ha, rfl⟩ := h.are p hp
  obtain ⟨h1, h2⟩ := (mem_scc hr ha).1 hxp
  exact (h.inP y).2 ⟨_, hp, (mem_scc hr ha).2 ⟨(ht.1).lt hi h1, h2.trans ht⟩⟩
/-- The last one put aside is met: its part is those that are met new. -/
theorem Kos.step {adj radj : Nat → List Nat} {n : Nat} {r : Nat → Nat → Bool} {O : List Nat} {k : Nat} {M M' mf : Nat → Bool} {P : List (List Nat)} {N : List Nat} (hi : InR adj n) (hr : IsR adj n r) (ht : c_Trn adj radj)
    (hO : Thr adj (fun _ => false) (List.range n) O mf) (h : Kos adj n r O (k + 1) M P) (hk : k < O.length) (hT : Thr radj M [O.getD k 0] N M') :
    (N = [] → Kos adj n r O k M' P) ∧ (N ≠ [] → ∀ S : List Nat, S.Perm N → S.Pairwise (· ≤ ·) → Kos adj n r O k M' (P ++ [S])) := by
  obtain ⟨f1, f2, f3⟩ := hT.facts
  have hit := hT.iff
  obtain ⟨v, ev⟩ : ∃ v, v = O.getD k 0 := ⟨_, rfl⟩
  rw [← ev] at hit hT
  have hvO : v ∈ O := by rw [ev]; simp [List.getD, List.getElem?_eq_getElem hk]
  have inO : ∀ x, x ∈ O ↔ x < n := fun x => by
    rw [hO.iff]
    constructor
    · rintro ⟨a, ha, h⟩; exact h.reach.lt hi (List.mem_range.1 ha)
    · intro hx; exact ⟨x, List.mem_range.2 hx, .one rfl⟩
  have hv : v < n := (inO v).1 hvO
  have hdr : O.drop k = v :: O.drop (k + 1) := by rw [List.drop_eq_getElem_cons hk, ev]; simp [List.getD, List.getElem?_eq_getElem hk]
  cases hM : M v with
  | true =>
    have hN : N = [] := by
      cases hN : N with
      | nil => rfl
      | cons x t =>
        obtain ⟨a, ha, hp⟩ := (hit x).1 (by rw [hN]; simp)
        obtain rfl : a = v := by simpa using ha
        have := hp.head
        rw [hM] at this; cases this
    refine ⟨fun _ => ?_, fun h => absurd hN h⟩
    have e : ∀ x, M' x = true ↔ M x = true := fun x => by rw [f1 x, hN]; simp
    refine ⟨fun x => by rw [e, h.inP], h.are, h.nodup, fun x hx => ?_⟩
    rw [hdr] at hx
    rcases List.mem_cons.1 hx with rfl | hx
    · exact (e x).2 hM
    · exact (e x).2 (h.done x hx)
  | false =>
    have hvN : v ∈ N := (hit v).2 ⟨v, by simp, .one hM⟩
    have key : ∀ x, x ∈ N ↔ x ∈ scc r n v := fun x => by
      rw [mem_scc hr hv, hit]
      constructor
      · rintro ⟨a, ha, hp⟩
        obtain rfl : a = v := by simpa using ha
        have hq : WP adj M x a := (WP.turn_iff ht).1 hp
        have hx : x < n := hq.reach.lt' hi hv
        refine ⟨hx, ?_, hq.reach⟩
        obtain ⟨z, ⟨A, B, e, hz⟩, z1, z2⟩ := hO.order x a ((inO x).2 hx) hq.reach
        have hzM : M z = false := by
          cases e2 : M z with
          | false => rfl
          | true =>
            have := h.closed hi hr e2 (y := x) ⟨z2, z1⟩
            rw [hq.head] at this; cases this
        have nd := hO.facts.2.2
        have hzk : z = a := by
          rcases hz with hz | hz
          · exact hz.symm
          · exfalso
            have hlen : A.length ≤ k ∨ k < A.length := by omega
            have hge : O[k]? = some a := by rw [ev]; simp [List.getD, List.getElem?_eq_getElem hk]
            obtain ⟨j, hj, ej⟩ := List.getElem_of_mem hz
            have hja : O[j]? = some a := by rw [e, List.getElem?_append_left hj, List.getElem?_eq_getElem hj, ej]
            have hjk : j = k := (List.getElem?_inj hk nd).1 (hge.trans hja.symm) |>.symm
            have hzd : z ∈ O.drop (k + 1) := by
              have hz2 : O[A.length]? = some z := by rw [e]; simp
              refine List.mem_iff_getElem?.2 ⟨A.length - (k + 1), ?_⟩
              rw [List.getElem?_drop, show k + 1 + (A.length - (k + 1)) = A.length by omega]
              exact hz2
            rw [h.done z hzd] at hzM; cases hzM
        rw [← hzk]; exact z2
      · rintro ⟨hx, h1, h2⟩
        refine ⟨v, by simp, (WP.turn_iff ht).2 ?_⟩
        -- all on the way are of the part, and none of the part is met
        have : ∀ a b, Reach adj a b → Reach adj v a → Reach adj b v → WP adj M a b := by
          intro a b hab
          induction hab with
          | @one a _ =>
            intro h3 h4
            refine .one ?_
            cases e : M a with
            | false => rfl
            | true => rw [h.closed hi hr e (y := v) ⟨h4, h3⟩] at hM; cases hM
          | @step a b c _ h5 h6 ih =>
            intro h3 h4
            refine .step ?_ h5 (ih (h3.trans (.step rfl h5 (.one rfl))) h4)
            cases e : M a with
            | false => rfl
            | true => rw [h.closed hi hr e (y := v) ⟨(WP.step rfl h5 h6).trans h4, h3⟩] at hM; cases hM
        exact this x v h2 h1 (.refl _ _)
    refine ⟨fun hN => (by rw [hN] at hvN; cases hvN), fun _ S hS hs => ?_⟩
    have eS : S = scc r n v := rises_eq (rises_of_le hs (hS.nodup_iff.2 f3)) (scc_rises _ _ _) fun x => by rw [hS.mem_iff, key]
    subst eS
    refine ⟨fun x => ?_, fun p hp => ?_, ?_, fun x hx => ?_⟩
    · rw [f1, h.inP, key]
      simp only [List.mem_append, List.mem_singleton]
      constructor
      · rintro (⟨p, hp, h⟩ | h)
        · exact ⟨p, .inl hp, h⟩
        · exact ⟨_, .inr rfl, h⟩
      · rintro ⟨p, hp | rfl, h⟩
        · exact .inl ⟨p, hp, h⟩
        · exact .inr h
    · rcases List.mem_append.1 hp with hp | hp
      · exact h.are p hp
      · exact ⟨v, hv, by simpa using hp⟩
    · refine List.nodup_append.2 ⟨h.nodup, by simp, fun p hp q hq e => ?_⟩
      obtain rfl : q = scc r n v := by simpa using hq
      subst e
      rw [(h.inP v).2 ⟨_, hp, scc_self hr hv⟩] at hM; cases hM
    · rw [hdr] at hx
      rcases List.mem_cons.1 hx with rfl | hx
      · exact (f1 x).2 (.inr hvN)
      · exact (f1 x).2 (.inl (h.done x hx))
/-- Each part has a c_least number. -/
theorem least_of {adj : Nat → List Nat} {n : Nat} {r : Nat → Nat → Bool} (hr : IsR adj n r) : ∀ a, a < n → ∃ b, b ≤ a ∧ c_least r b = true ∧ Tog adj b a := by
  intro a
  induction a using Nat.strongRecOn with
  | ind a ih =>
    intro ha
    cases h : c_least r a with
    | true => exact ⟨a, Nat.le_refl _, h, .refl _ _⟩
    | false =>
      simp only [c_least, List.all_eq_false, List.mem_range] at h
      obtain ⟨b, hb, h⟩ := h
      simp at h
      obtain ⟨c, h1, h2, h3⟩ := ih b hb (by omega)
      exact ⟨c, by omega, h2, h3.trans ⟨(hr _ _ (by omega) ha).1 h.2, (hr _ _ ha (by omega)).1 h.1⟩⟩
theorem least_iff {adj : Nat → List Nat} {n a : Nat} {r : Nat → Nat → Bool} (hr : IsR adj n r) (ha : a < n) : c_least r a = true ↔ ∀ b, b < a → ¬ Tog adj a b := by
  simp only [c_least, List.all_eq_true, List.mem_range]
  refine forall_congr' fun b => forall_congr' fun hb => ?_
  have h1 := hr a b ha (by omega)
  have h2 := hr b a (by omega) ha
  unfold Tog
  rw [← h1, ← h2]
  cases r a b <;> cases r b a <;> simp
theorem scc_head {adj : Nat → List Nat} {n a : Nat} {r : Nat → Nat → Bool} (hr : IsR adj n r) (ha : a < n) (hl : c_least r a = true) : (scc r n a).getD 0 0 = a := by
  have hm := scc_self hr ha
  have hs := scc_rises r n a
  cases e : scc r n a with
  | nil => rw [e] at hm; cases hm
  | cons x t =>
    rw [e] at hs hm
    have hx : x ∈ scc r n a := by rw [e]; simp
    obtain ⟨h1, h2⟩ := (mem_scc hr ha).1 hx
    rcases List.mem_cons.1 hm with h | h
    · exact h.symm
    · exact absurd h2 ((least_iff hr ha).1 hl x ((List.pairwise_cons.1 hs).1 a h))
theorem mem_sccs {adj : Nat → List Nat} {n : Nat} {r : Nat → Nat → Bool} (hr : IsR adj n r) (p : List Nat) : p ∈ sccs r n ↔ ∃ a, a < n ∧ p = scc r n a := by
  simp only [sccs, List.mem_map, List.mem_filter, List.mem_range]
  constructor
  · rintro ⟨a, ⟨h, _⟩, rfl⟩; exact ⟨a, h, rfl⟩
  · rintro ⟨a, h, rfl⟩
    obtain ⟨b, h1, h2, h3⟩ := least_of hr a h
    exact ⟨b, ⟨by omega, h2⟩, scc_congr hr (by omega) h h3⟩
/-- By their c_least numbers: they rise. -/
theorem sccs_rise {adj : Nat → List Nat} {n : Nat} {r : Nat → Nat → Bool} (hr : IsR adj n r) : (sccs r n).Pairwise fun p q => p.getD 0 0 < q.getD 0 0 := by
  unfold sccs
  rw [List.pairwise_map]
  have h : ((List.range n).filter (c_least r)).Pairwise (· < ·) := List.Pairwise.filter _ List.pairwise_lt_range
  refine h.imp_of_mem fun {a b} ha hb hab => ?_
  obtain ⟨ha, hla⟩ := List.mem_filter.1 ha
  obtain ⟨hb, hlb⟩ := List.mem_filter.1 hb
  rw [scc_head hr (List.mem_range.1 ha) hla, scc_head hr (List.mem_range.1 hb) hlb]
  exact hab
theorem sccs_nodup {adj : Nat → List Nat} {n : Nat} {r : Nat → Nat → Bool} (hr : IsR adj n r) : (sccs r n).Nodup := (sccs_rise hr).imp fun h e => by rw [e] at h; omega
theorem Kos.perm {adj : Nat → List Nat} {n : Nat} {r : Nat → Nat → Bool} {O : List Nat} {M mf : Nat → Bool} {P : List (List Nat)} (hr : IsR adj n r)
    (hO : Thr adj (fun _ => false) (List.range n) O mf) (h : Kos adj n r O 0 M P) : P.Perm (sccs r n) := by
  refine (List.perm_ext_iff_of_nodup h.nodup (sccs_nodup hr)).2 fun p => ?_
  rw [mem_sccs hr]
  refine ⟨h.are p, ?_⟩
  rintro ⟨a, ha, rfl⟩
  have haO : a ∈ O := (hO.iff a).2 ⟨a, List.mem_range.2 ha, .one rfl⟩
  obtain ⟨p, hp, hap⟩ := (h.inP a).1 (h.done a haO)
  obtain ⟨b, hb, rfl⟩ := h.are p hp
  rw [← scc_congr hr hb ha ((mem_scc hr hb).1 hap).2]
  exact hp
/-- Parts that rise by their first numbers are the parts. -/
theorem sccs_of {adj : Nat → List Nat} {n : Nat} {r : Nat → Nat → Bool} (hr : IsR adj n r) {P Q : List (List Nat)} (hP : P.Perm (sccs r n)) (hQ : Q.Perm P) (hs : Q.Pairwise fun p q => p.getD 0 0 ≤ q.getD 0 0) : Q = sccs r n := by
  have hR := sccs_rise hr
  refine List.Perm.eq_of_pairwise (le := fun p q : List Nat => p.getD 0 0 ≤ q.getD 0 0) (fun a b ha hb h1 h2 => ?_) hs (hR.imp Nat.le_of_lt) (hQ.trans hP)
  have ha' := ((hQ.trans hP).mem_iff).1 ha
  by_cases e : a = b
  · exact e
  · exfalso
    have hne : a.getD 0 0 ≠ b.getD 0 0 := by
      obtain ⟨i, hi, rfl⟩ := List.getElem_of_mem ha'
      obtain ⟨j, hj, rfl⟩ := List.getElem_of_mem hb
      rcases Nat.lt_trichotomy i j with h | h | h
      · exact Nat.ne_of_lt (List.pairwise_iff_getElem.1 hR i j hi hj h)
      · subst h; exact absurd rfl e
      · exact (Nat.ne_of_lt (List.pairwise_iff_getElem.1 hR j i hj hi h)).symm
    omega
end Go.Proofs.YtlbjmkljmhfjdaaGreat

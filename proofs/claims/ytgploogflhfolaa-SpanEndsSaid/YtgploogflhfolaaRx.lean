/- The law with a table of facts, where what an operation may do to the world hangs on the operation: a fact need stay only over those for which its own operation does not wait. Nothing here speaks of one program. -/
import Derived.Test.YtgploogflhfolaaRp
namespace Go.Proofs.Ytgploogflhfolaa
open Go Go.RowKit
variable {G : World → World → Prop}
section
variable {P : Program} {Q : Exit → Act → World → Prop}

/-- What is owed for one operation. -/
def Owedx (P : Program) (R : Nat → World → World → Prop) (ops : Array Oper) (tbl : List (Option (Sp G))) (S : World → Prop) (a0 : Act) (j : Nat) (o : Oper) : Prop :=
  goes tbl j = true → ∀ (a : Act) (w : World), S w → (∀ t, writesB ops t = false → a.eval (.tmp t) = a0.eval (.tmp t)) →
    (∀ (i : Nat) (p : Oper) (t : Tmp), ops[i]? = some p → p.dst = some t → (o.looksAt ops).contains t = true → (rowOf tbl i).holds (a.eval (.tmp t)) w) →
    Gives P (fun v w' => R j w w' ∧ (rowOf tbl j).holds v w') ((execOp a.eval o).run P w)
def OwedxAll (P : Program) (R : Nat → World → World → Prop) (ops : Array Oper) (tbl : List (Option (Sp G))) (S : World → Prop) (a0 : Act) : Nat → List Oper → Prop
  | _, [] => True
  | j, o :: os => Owedx P R ops tbl S a0 j o ∧ OwedxAll P R ops tbl S a0 (j + 1) os
theorem owedxAll_at {R : Nat → World → World → Prop} {ops : Array Oper} {tbl : List (Option (Sp G))} {S : World → Prop} {a0 : Act} (l : List Oper) : ∀ (k : Nat), OwedxAll P R ops tbl S a0 k l → ∀ (j : Nat) (o : Oper), l[j]? = some o → Owedx P R ops tbl S a0 (k + j) o := by
  induction l with
  | nil => intro k _ j o ho; simp at ho
  | cons o' os ih =>
    intro k h j o ho
    cases j with
    | zero => simp at ho; subst ho; exact h.1
    | succ j =>
      have := ih (k + 1) h.2 j o (by simpa using ho)
      have e : k + (j + 1) = k + 1 + j := by omega
      rw [e]; exact this

theorem wp_region_tablex {id : Nat} {l : List Oper} {a0 : Act} {w0 : World} (R : Nat → World → World → Prop) (tbl : List (Option (Sp G))) (hm : P.follows .mixedOrders = true)
    (hs : shapeB l.toArray = true) (hgd : guardsB l.toArray tbl = true) (hin : (l.all fun o => match o.dst with | some d => decide (d < a0.tmps.size) | none => true) = true)
    (hop : OwedxAll P R l.toArray tbl (fun w => Below w0.heap.size w0 w) a0 0 l)
    (hRr : ∀ j w, R j w w) (hRS : ∀ j w w', Below w0.heap.size w0 w → R j w w' → Below w0.heap.size w0 w')
    (hst : ∀ i j v w w', ¬ Waits l.toArray i j → Below w0.heap.size w0 w → R j w w' → (rowOf tbl i).holds v w → (rowOf tbl i).holds v w')
    (hend : ∀ (a : Act) (w : World), Below w0.heap.size w0 w → a.tmps.size = a0.tmps.size → a.defers = a0.defers →
      (∀ (i : Nat) (o : Oper) (d : Tmp), l[i]? = some o → o.dst = some d → (rowOf tbl i).holds (a.tmps.getD d undef) w) →
      (∀ t, writesB l.toArray t = false → a.tmps[t]? = a0.tmps[t]?) → Q .normal a w) :
    (Code.region id l.toArray true).wp P Q a0 w0 := by
  have gat : ∀ (j : Nat) (o : Oper), l.toArray[j]? = some o → match o.guard with
      | none => goes tbl j = true
      | some (g, b) => ∃ x, spBool (rowOf tbl g) = some x ∧ match x with | some x => if goes tbl j then x = b else x ≠ b | none => goes tbl j = false := by
    intro j o hj
    have := List.all_eq_true.1 hgd j (List.mem_range.2 (Array.getElem?_eq_some_iff.1 hj).1)
    rw [hj] at this
    dsimp only at this
    cases hg : o.guard with
    | none => rw [hg] at this; exact this
    | some gb =>
      obtain ⟨g, b⟩ := gb
      rw [hg] at this
      dsimp only at this ⊢
      cases hx : spBool (rowOf tbl g) with
      | none => rw [hx] at this; cases this
      | some x =>
        rw [hx] at this
        refine ⟨x, rfl, ?_⟩
        cases x with
        | none => simpa using this
        | some x =>
          dsimp only at this ⊢
          split <;> rename_i h <;> simp [h] at this <;> exact this
  refine wp_region_facts hm (fun j v w => (rowOf tbl j).holds v w) (goes tbl) (fun w => Below w0.heap.size w0 w) R hs ?_ (fun i j v w w' hn hS _ h => hst i j v w w' hn hS h) hRr ?_ ?_ ⟨rfl, rfl, rfl, Nat.le_refl _, fun _ _ => rfl⟩ ?_ ?_ ?_
  · intro i o d hi hd
    have := List.all_eq_true.1 hin o (by simpa using List.mem_of_getElem? (by simpa using hi))
    rw [hd] at this
    simpa using this
  · intro j o g b hj hg v w hv
    have h := gat j o hj
    rw [hg] at h
    obtain ⟨x, hx, hb⟩ := h
    have := spBool_spec hx v w hv
    cases x with
    | none => dsimp only at hb this; rw [hb]; simpa using this b
    | some x =>
      dsimp only at hb this
      subst this
      split <;> rename_i hgo <;> simp [hgo] at hb
      · rw [hb]
      · intro e; cases e; exact hb rfl
  · intro j o hj hg
    have h := gat j o hj
    rw [hg] at h; exact h
  · intro j o hj hgo a w hS hun hdep
    have ho := owedxAll_at l 0 hop j o (by simpa using hj)
    rw [Nat.zero_add] at ho
    have := ho hgo a w hS hun fun i p t hp ht hl => by
      obtain ⟨e, he, hb, rfl⟩ := (shape_at hs hj).2.2.1 t (by simpa using hl) i p hp ht
      exact hdep e he hb p t hp ht
    generalize (execOp a.eval o).run P w = r at this ⊢
    cases r with
    | halt x w' => exact this.elim
    | ok n w' =>
      cases n <;> simp only [Gives] at this ⊢
      case value v => exact ⟨hRS _ _ _ hS this.1, this.1, this.2⟩
      case skip => exact ⟨hRS _ _ _ hS this.1, this.1, this.2⟩
      case enter f args =>
        refine this.mono ?_
        rintro e w'' ⟨v, rfl, h1, h2⟩
        exact ⟨v, rfl, hRS _ _ _ hS h1, h1, h2⟩
  · intro j o hj hgo w
    have : rowOf tbl j = .is undef := by
      unfold goes at hgo; unfold rowOf
      cases h : tbl[j]? with
      | none => rfl
      | some p => cases p with
        | none => rfl
        | some p => rw [h] at hgo; cases hgo
    rw [this]; rfl
  · intro a w hS hz hd hf hr
    exact hend a w hS hz hd (fun i o d hi => hf i o d (by simpa using hi)) hr
end
theorem wp_region_putsx {P : Program} {G : World → World → Prop} (R : Nat → World → World → Prop) {Q : Exit → Act → World → Prop} {id : Nat} {l : List Oper} {a0 : Act} {w0 : World} (tbl : List (Option (Sp G))) (hm : P.follows .mixedOrders = true)
    (hs : shapeB l.toArray = true) (hgd : guardsB l.toArray tbl = true) (hin : (l.all fun o => match o.dst with | some d => decide (d < a0.tmps.size) | none => true) = true)
    (hop : OwedxAll P R l.toArray tbl (fun w => Below w0.heap.size w0 w) a0 0 l)
    (hRr : ∀ j w, R j w w) (hRS : ∀ j w w', Below w0.heap.size w0 w → R j w w' → Below w0.heap.size w0 w')
    (hst : ∀ i j v w w', ¬ Waits l.toArray i j → Below w0.heap.size w0 w → R j w w' → (rowOf tbl i).holds v w → (rowOf tbl i).holds v w')
    (hend : ∀ (f : Nat → Value) (w : World), Below w0.heap.size w0 w → (∀ (i : Nat) (o : Oper) (d : Tmp), l[i]? = some o → o.dst = some d → (rowOf tbl i).holds (f d) w) →
      Q .normal (putOps l f a0) w) :
    (Code.region id l.toArray true).wp P Q a0 w0 := by
  refine wp_region_tablex R tbl hm hs hgd hin hop hRr hRS hst fun a w hB hz hd hf hr => ?_
  have e : a = putOps l (fun t => a.tmps.getD t undef) a0 := by
    cases a with
    | mk tmps defers =>
      have h2 : (putOps l (fun t => tmps.getD t undef) a0).defers = defers := (putOps_defers _ _ _).trans hd.symm
      have h1 : (putOps l (fun t => tmps.getD t undef) a0).tmps = tmps := by
        apply Array.ext_getElem?
        intro t
        by_cases ht : t < a0.tmps.size
        · rw [putOps_at _ _ _ _ ht]
          split
          · dsimp only at hz
            simp [Array.getD_eq_getD_getElem?, hz, ht]
          · rename_i hw
            exact (hr t (by simpa [writesB] using hw)).symm
        · dsimp only at hz
          rw [Array.getElem?_eq_none (by rw [putOps_size]; omega), Array.getElem?_eq_none (by omega)]
      cases hp : putOps l (fun t => tmps.getD t undef) a0 with
      | mk t2 d2 =>
        rw [hp] at h1 h2
        dsimp only at h1 h2 ⊢
        subst h1 h2
        rfl
  rw [e]
  exact hend _ w hB hf
end Go.Proofs.Ytgploogflhfolaa

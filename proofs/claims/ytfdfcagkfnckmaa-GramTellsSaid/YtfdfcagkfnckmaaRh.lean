/- The law of Rg with a table of facts: 'is v' or a fact that stays while the world grows. Nothing here speaks of one program. -/
import Derived.Test.YtfdfcagkfnckmaaRg
namespace Go.Proofs.Ytfdfcagkfnckmaa
open Go Go.RowKit

/-- A fact on a value that stays true while the world only grows. -/
structure Stay where
  holds : Value → World → Prop
  mono : ∀ v w w', Below w.heap.size w w' → holds v w → holds v w'
inductive Sp where
  | is (v : Value)
  | st (p : Stay)
def Sp.holds : Sp → Value → World → Prop
  | .is v, x, _ => x = v
  | .st p, x, w => p.holds x w
theorem Sp.mono (p : Sp) (v : Value) (w w' : World) (h : Below w.heap.size w w') (hp : p.holds v w) : p.holds v w' := by
  cases p with
  | is u => exact hp
  | st p => exact p.mono v w w' h hp

/-- The table's row, 'undef' for an operation that is passed over. -/
def rowOf (tbl : List (Option Sp)) (j : Nat) : Sp := match tbl[j]? with | some (some p) => p | _ => .is undef
def goes (tbl : List (Option Sp)) (j : Nat) : Bool := match tbl[j]? with | some (some _) => true | _ => false
def spBool : Sp → Option (Option Bool)
  | .is (.bool b) => some (some b)
  | .is (.tuple _) => some none
  | _ => none
theorem spBool_spec {p : Sp} {x : Option Bool} (h : spBool p = some x) (v : Value) (w : World) (hv : p.holds v w) : match x with | some b => v = .bool b | none => ∀ b, v ≠ .bool b := by
  cases p with
  | st p => simp [spBool] at h
  | is u =>
    have hv' : v = u := hv
    subst hv'
    cases v <;> simp [spBool] at h
    · subst h; rfl
    · subst h; intro b hb; cases hb

/-- THE GUARDS FIT THE TABLE. -/
def guardsB (ops : Array Oper) (tbl : List (Option Sp)) : Bool :=
  (List.range ops.size).all fun j => match ops[j]? with
    | none => true
    | some o => match o.guard with
      | none => goes tbl j
      | some (g, b) => match spBool (rowOf tbl g) with
        | some (some x) => if goes tbl j then x == b else x != b
        | some none => !goes tbl j
        | none => false

section
variable {P : Program} {Q : Exit → Act → World → Prop}

/-- What is owed for one operation. -/
def Owed (P : Program) (ops : Array Oper) (tbl : List (Option Sp)) (S : World → Prop) (a0 : Act) (j : Nat) (o : Oper) : Prop :=
  goes tbl j = true → ∀ (a : Act) (w : World), S w → (∀ t, writesB ops t = false → a.eval (.tmp t) = a0.eval (.tmp t)) →
    (∀ (i : Nat) (p : Oper) (t : Tmp), ops[i]? = some p → p.dst = some t → (o.looksAt ops).contains t = true → (rowOf tbl i).holds (a.eval (.tmp t)) w) →
    Gives P (fun v w' => Below w.heap.size w w' ∧ (rowOf tbl j).holds v w') ((execOp a.eval o).run P w)
def OwedAll (P : Program) (ops : Array Oper) (tbl : List (Option Sp)) (S : World → Prop) (a0 : Act) : Nat → List Oper → Prop
  | _, [] => True
  | j, o :: os => Owed P ops tbl S a0 j o ∧ OwedAll P ops tbl S a0 (j + 1) os
theorem owedAll_at {ops : Array Oper} {tbl : List (Option Sp)} {S : World → Prop} {a0 : Act} (l : List Oper) : ∀ (k : Nat), OwedAll P ops tbl S a0 k l → ∀ (j : Nat) (o : Oper), l[j]? = some o → Owed P ops tbl S a0 (k + j) o := by
  induction l with
  | nil => intro k _ j o ho; simp at ho
  | cons o' os ih =>
    intro k h j o ho
    cases j with
    | zero => simp at ho; subst ho; exact h.1
    | succ j =>
      have := ih (k + 1) h.2 j o (by simpa using ho)
      have e : k + (j + 1) = k + 1 + j := by omega
      rw [e]; exact this

theorem wp_region_table {id : Nat} {l : List Oper} {a0 : Act} {w0 : World} (tbl : List (Option Sp)) (hm : P.follows .mixedOrders = true)
    (hs : shapeB l.toArray = true) (hgd : guardsB l.toArray tbl = true) (hin : (l.all fun o => match o.dst with | some d => decide (d < a0.tmps.size) | none => true) = true)
    (hop : OwedAll P l.toArray tbl (fun w => Below w0.heap.size w0 w) a0 0 l)
    (hend : ∀ (a : Act) (w : World), Below w0.heap.size w0 w → a.tmps.size = a0.tmps.size → a.defers = a0.defers →
      (∀ (i : Nat) (o : Oper) (d : Tmp), l[i]? = some o → o.dst = some d → (rowOf tbl i).holds (a.tmps.getD d undef) w) →
      (∀ t, writesB l.toArray t = false → a.tmps[t]? = a0.tmps[t]?) → Q .normal a w) :
    (Code.region id l.toArray true).wp P Q a0 w0 := by
  have gat : ∀ (j : Nat) (o : Oper), l.toArray[j]? = some o → match o.guard with
      | none => goes tbl j = true
      | some (g, b) => ∃ x, spBool (rowOf tbl g) = some x ∧ match x with | some x => if goes tbl j then x = b else x ≠ b | none => goes tbl j = false := by
    intro j o hj
    have := List.all_eq_true.1 hgd j (List.mem_range.2 (Array.getElem?_eq_some_iff.1 hj).1)
    rw [hj] at this
    dsimp only at this
    cases hg : o.guard with
    | none => rw [hg] at this; exact this
    | some gb =>
      obtain ⟨g, b⟩ := gb
      rw [hg] at this
      dsimp only at this ⊢
      cases hx : spBool (rowOf tbl g) with
      | none => rw [hx] at this; cases this
      | some x =>
        rw [hx] at this
        refine ⟨x, rfl, ?_⟩
        cases x with
        | none => simpa using this
        | some x =>
          dsimp only at this ⊢
          split <;> rename_i h <;> simp [h] at this <;> exact this
  refine wp_region_facts hm (fun j v w => (rowOf tbl j).holds v w) (goes tbl) (fun w => Below w0.heap.size w0 w) (fun w w' => Below w.heap.size w w') hs ?_ (fun i v w w' _ _ h => (rowOf tbl i).mono v w w' h) (fun w => Below.refl _ w) ?_ ?_ ⟨rfl, rfl, rfl, Nat.le_refl _, fun _ _ => rfl⟩ ?_ ?_ ?_
  · intro i o d hi hd
    have := List.all_eq_true.1 hin o (by simpa using List.mem_of_getElem? (by simpa using hi))
    rw [hd] at this
    simpa using this
  · intro j o g b hj hg v w hv
    have h := gat j o hj
    rw [hg] at h
    obtain ⟨x, hx, hb⟩ := h
    have := spBool_spec hx v w hv
    cases x with
    | none => dsimp only at hb this; rw [hb]; simpa using this b
    | some x =>
      dsimp only at hb this
      subst this
      split <;> rename_i hgo <;> simp [hgo] at hb
      · rw [hb]
      · intro e; cases e; exact hb rfl
  · intro j o hj hg
    have h := gat j o hj
    rw [hg] at h; exact h
  · intro j o hj hgo a w hS hun hdep
    have ho := owedAll_at l 0 hop j o (by simpa using hj)
    rw [Nat.zero_add] at ho
    have := ho hgo a w hS hun fun i p t hp ht hl => by
      obtain ⟨e, he, hb, rfl⟩ := (shape_at hs hj).2.2.1 t (by simpa using hl) i p hp ht
      exact hdep e he hb p t hp ht
    generalize (execOp a.eval o).run P w = r at this ⊢
    cases r with
    | halt x w' => exact this.elim
    | ok n w' =>
      cases n <;> simp only [Gives] at this ⊢
      case value v => exact ⟨hS.trans (this.1.mono hS.size), this.1, this.2⟩
      case skip => exact ⟨hS.trans (this.1.mono hS.size), this.1, this.2⟩
      case enter f args =>
        refine this.mono ?_
        rintro e w'' ⟨v, rfl, h1, h2⟩
        exact ⟨v, rfl, hS.trans (h1.mono hS.size), h1, h2⟩
  · intro j o hj hgo w
    have : rowOf tbl j = .is undef := by
      unfold goes at hgo; unfold rowOf
      cases h : tbl[j]? with
      | none => rfl
      | some p => cases p with
        | none => rfl
        | some p => rw [h] at hgo; cases hgo
    rw [this]; rfl
  · intro a w hS hz hd hf hr
    exact hend a w hS hz hd (fun i o d hi => hf i o d (by simpa using hi)) hr
/-- The frame behind the region: what it has written is f's. -/
def layArr (l : List Oper) (a0 : Act) (f : Nat → Value) : Array Value := ((List.range a0.tmps.size).map fun t => if writesB l.toArray t then f t else a0.tmps.getD t undef).toArray

theorem wp_region_lay {id : Nat} {l : List Oper} {a0 : Act} {w0 : World} (tbl : List (Option Sp)) (fr : (Nat → Value) → Array Value) (hm : P.follows .mixedOrders = true)
    (hs : shapeB l.toArray = true) (hgd : guardsB l.toArray tbl = true) (hin : (l.all fun o => match o.dst with | some d => decide (d < a0.tmps.size) | none => true) = true)
    (hfr : ∀ f, layArr l a0 f = fr f)
    (hop : OwedAll P l.toArray tbl (fun w => Below w0.heap.size w0 w) a0 0 l)
    (hend : ∀ (f : Nat → Value) (w : World), Below w0.heap.size w0 w → (∀ (i : Nat) (o : Oper) (d : Tmp), l[i]? = some o → o.dst = some d → (rowOf tbl i).holds (f d) w) →
      Q .normal { tmps := fr f, defers := a0.defers } w) :
    (Code.region id l.toArray true).wp P Q a0 w0 := by
  refine wp_region_table tbl hm hs hgd hin hop fun a w hB hz hd hf hr => ?_
  have e : a = { tmps := fr (fun t => a.tmps.getD t undef), defers := a0.defers } := by
    rw [← hfr, ← hd]
    cases a with
    | mk tmps defers =>
      congr 1
      dsimp only at hz hr ⊢
      unfold layArr
      apply Array.ext
      · simp [hz]
      · intro t h1 h2
        have ht : t < a0.tmps.size := by omega
        simp only [List.getElem_toArray, List.getElem_map, List.getElem_range]
        split
        · simp
        · rename_i hw
          have h := hr t (by simpa using hw)
          rw [Array.getElem?_eq_getElem h1, Array.getElem?_eq_getElem ht] at h
          rw [Option.some.inj h]
          simp
  rw [e]
  exact hend _ w hB hf
end
end Go.Proofs.Ytfdfcagkfnckmaa

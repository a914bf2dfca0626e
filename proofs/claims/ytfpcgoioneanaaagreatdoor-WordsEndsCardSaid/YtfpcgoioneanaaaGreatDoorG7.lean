/- A LAW OF OUR OWN FOR A REGION THAT DRAWS ITS ORDER: each operation is given a fact about the value that it yields, a fact that stays true while the world only grows; then the order does not matter, and each operation is looked at once. Nothing here speaks of one program. -/
import Derived.Orders
import Derived.Below
import Derived.WalkKit
import Derived.Test.YtfpcgoioneanaaaGreatDoorG4
import Derived.Test.YtfpcgoioneanaaaGreatDoorG6
import Derived.StillTailTactics
set_option linter.unusedSimpArgs false
set_option linter.unusedVariables false
namespace Go.Proofs.YtfpcgoioneanaaaGreatDoor
open Go

/-- What an operation does, if it does not panic: it yields a value, or calls what returns one. -/
def Gives (P : Program) (post : Value → World → Prop) : Result Next → Prop
  | .ok (.value v) w' => post v w'
  | .ok .skip w' => post undef w'
  | .ok (.enter f args) w' => Calls P f args w' fun e w'' => ∃ v, e = .returned v ∧ post v w''
  | _ => False

theorem Gives.value {P : Program} {post : Value → World → Prop} {r : Result Next} {v : Value} {w : World} (h : r = .ok (.value v) w) (hp : post v w) : Gives P post r := by subst h; exact hp
theorem Gives.enter {P : Program} {post : Value → World → Prop} {r : Result Next} {f : FuncId} {args : Array Value} {w : World} (h : r = .ok (.enter f args) w)
    (hp : Calls P f args w fun e w'' => ∃ v, e = .returned v ∧ post v w'') : Gives P post r := by subst h; exact hp

section
variable {P : Program} {ops : Array Oper} {Q : Exit → Act → World → Prop}

/-- Does the region write temporary t? -/
def writesB (ops : Array Oper) (t : Tmp) : Bool := ops.any fun o => o.dst == some t

/-- THE REGION's SHAPE: each edge leads back; each temporary is written once; what an operation reads, its guard too, is not written in the region, or by one for which it waits. -/
def shapeB (ops : Array Oper) : Bool :=
  (List.range ops.size).all fun j => match ops[j]? with
    | none => true
    | some o =>
      (o.after.all fun e => !Region.binds .any e || decide (e.on < j)) &&
      ((List.range ops.size).all fun i => i == j || (match ops[i]? with | some p => p.dst == none || p.dst != o.dst | none => true)) &&
      ((o.looksAt ops).all fun t => (List.range ops.size).all fun i => match ops[i]? with
        | some p => p.dst != some t || o.after.any fun e => Region.binds .any e && e.on == i
        | none => true) &&
      (match o.guard with
       | some (g, _) => (match ops[g]? with | some p => p.dst.isSome && o.after.any (fun e => Region.binds .any e && e.on == g) | none => false)
       | none => true)

def slotOf (a : Act) (o : Oper) : Value := match o.dst with | some d => a.tmps.getD d undef | none => undef

/-- The values of the region's operations, laid into the frame. -/
def putAll : List Oper → List Value → Act → Act
  | o :: os, v :: vs, a => putAll os vs (a.put o.dst v)
  | _, _, a => a

theorem cnt_lt {p q : Nat → Bool} (hpq : ∀ i, q i = true → p i = true) : ∀ (l : List Nat) (j : Nat), j ∈ l → p j = true → q j = false → l.countP q + 1 ≤ l.countP p
  | i :: l, j, hj, hp, hq => by
    have hle : ∀ l : List Nat, l.countP q ≤ l.countP p := fun l => List.countP_mono_left fun i _ h => hpq i h
    have h0 := hle l
    rcases List.mem_cons.1 hj with rfl | h
    · simp only [List.countP_cons, hp, hq, if_true, Bool.false_eq_true, if_false]; omega
    · have := cnt_lt hpq l j h hp hq
      simp only [List.countP_cons]
      by_cases h1 : q i = true
      · simp only [h1, hpq i h1, if_true]; omega
      · by_cases h2 : p i = true
        · simp only [h1, h2, if_true]; simp; omega
        · simp only [h1, h2]; simp; omega

def left (ops : Array Oper) (listed : Array Bool) : Nat := (List.range ops.size).countP fun i => !listed.getD i true

theorem left_set {listed : Array Bool} {j : Nat} (hj : j < ops.size) (h : listed.getD j true = false) : left ops (listed.setIfInBounds j true) + 1 ≤ left ops listed := by
  unfold left
  refine cnt_lt (fun i hi => ?_) _ j (List.mem_range.2 hj) (by simp only [h, Bool.not_false]) ?_
  · by_cases e : j = i
    · subst e; simp only [h, Bool.not_false]
    · rw [getD_set_ne true e] at hi; exact hi
  · by_cases hb : j < listed.size
    · simp [hb]
    · simp [Array.getD_eq_getD_getElem?, Array.getElem?_eq_none (Nat.le_of_not_lt hb)] at h

theorem shape_at (hs : shapeB ops = true) {j : Nat} {o : Oper} (hj : ops[j]? = some o) :
    (∀ e ∈ o.after, Region.binds .any e = true → e.on < j) ∧
    (∀ (i : Nat) (p : Oper), ops[i]? = some p → i ≠ j → ∀ d, o.dst = some d → p.dst ≠ some d) ∧
    (∀ t ∈ o.looksAt ops, ∀ (i : Nat) (p : Oper), ops[i]? = some p → p.dst = some t → ∃ e ∈ o.after, Region.binds .any e = true ∧ e.on = i) ∧
    (∀ g b, o.guard = some (g, b) → ∃ p d, ops[g]? = some p ∧ p.dst = some d ∧ ∃ e ∈ o.after, Region.binds .any e = true ∧ e.on = g) := by
  have hlt : j < ops.size := (Array.getElem?_eq_some_iff.1 hj).1
  have h := List.all_eq_true.1 hs j (List.mem_range.2 hlt)
  rw [hj] at h
  simp only [Bool.and_eq_true] at h
  obtain ⟨⟨⟨h1, h2⟩, h3⟩, h4⟩ := h
  refine ⟨fun e he hb => ?_, fun i p hp hne d hd hpd => ?_, fun t ht i p hp hpt => ?_, fun g b hg => ?_⟩
  · have := Array.all_eq_true'.1 h1 e he
    rw [hb] at this; simpa using this
  · have := List.all_eq_true.1 h2 i (List.mem_range.2 (Array.getElem?_eq_some_iff.1 hp).1)
    rw [hp] at this
    dsimp only at this
    rw [hpd, hd] at this
    simp [hne] at this
  · have := List.all_eq_true.1 (List.all_eq_true.1 h3 t ht) i (List.mem_range.2 (Array.getElem?_eq_some_iff.1 hp).1)
    rw [hp] at this
    dsimp only at this
    rw [hpt] at this
    simp only [bne_self_eq_false, Bool.false_or, Array.any_eq_true'] at this
    obtain ⟨e, he, hbe⟩ := this
    simp only [Bool.and_eq_true, beq_iff_eq] at hbe
    exact ⟨e, he, hbe.1, hbe.2⟩
  · rw [hg] at h4
    cases hp : ops[g]? with
    | none => simp [hp] at h4
    | some p =>
      simp only [hp, Bool.and_eq_true, Array.any_eq_true'] at h4
      obtain ⟨hd, e, he, hbe⟩ := h4
      simp only [Bool.and_eq_true, beq_iff_eq] at hbe
      obtain ⟨d, hd⟩ := Option.isSome_iff_exists.1 hd
      exact ⟨p, d, rfl, hd, e, he, hbe.1, hbe.2⟩

theorem all_listed {listed : Array Bool} (hs : shapeB ops = true) (hz : listed.size = ops.size) (hr : Region.ready .any ops listed = []) : ∀ j, j < ops.size → listed.getD j true = true := by
  intro j
  induction j using Nat.strongRecOn with
  | ind j ih =>
    intro hj
    by_cases h : listed.getD j true = true
    · exact h
    · exfalso
      have h' : listed.getD j true = false := by simpa using h
      have hm : j ∈ Region.ready .any ops listed := by
        refine mem_ready.2 ⟨h', ops[j], Array.getElem?_eq_getElem hj, fun e he hb => ?_⟩
        have hlt := (shape_at hs (Array.getElem?_eq_getElem hj)).1 e he hb
        have := ih e.on hlt (by omega)
        have hb : e.on < listed.size := by omega
        simpa [hb] using this
      rw [hr] at hm; cases hm

/-- What the walk knows when some have come up. -/
structure Known (ops : Array Oper) (Φ : Nat → Value → World → Prop) (S : World → Prop) (a0 : Act) (listed : Array Bool) (a : Act) (w : World) : Prop where
  s : S w
  size : listed.size = ops.size
  tsize : a.tmps.size = a0.tmps.size
  defers : a.defers = a0.defers
  facts : ∀ (i : Nat) (o : Oper) (d : Tmp), ops[i]? = some o → o.dst = some d → listed.getD i true = true → Φ i (a.tmps.getD d undef) w
  rest : ∀ (t : Tmp), (∀ (i : Nat) (o : Oper), ops[i]? = some o → o.dst = some t → listed.getD i true = false) → a.tmps[t]? = a0.tmps[t]?

theorem getD_put {a : Act} {d t : Tmp} (v : Value) (h : d ≠ t) : (a.put (some d) v).tmps.getD t undef = a.tmps.getD t undef := by
  simp [Act.put, Array.getD_eq_getD_getElem?, Array.getElem?_setIfInBounds_ne h]

/-- One more has come up. -/
theorem Known.put {Φ : Nat → Value → World → Prop} {S : World → Prop} {R : World → World → Prop} {a0 : Act} {listed : Array Bool} {a : Act} {w w' : World} {j : Nat} {o : Oper} {v : Value}
    (hs : shapeB ops = true) (hmono : ∀ i v w w', S w → S w' → R w w' → Φ i v w → Φ i v w') (hin : ∀ (i : Nat) (o : Oper) (d : Tmp), ops[i]? = some o → o.dst = some d → d < a0.tmps.size)
    (k : Known ops Φ S a0 listed a w) (hj : ops[j]? = some o) (hS : S w') (hR : R w w') (hΦ : Φ j v w') :
    Known ops Φ S a0 (listed.setIfInBounds j true) (a.put o.dst v) w' where
  s := hS
  size := by simpa using k.size
  tsize := by cases o.dst <;> simp [Act.put, k.tsize]
  defers := by cases h : o.dst <;> simp [Act.put, k.defers]
  facts := by
    intro i p d hp hd hl
    by_cases e : j = i
    · subst e
      rw [hj] at hp; cases hp
      rw [hd]
      have hlt : d < a.tmps.size := by rw [k.tsize]; exact hin j o d hj hd
      simpa [Act.put, hlt] using hΦ
    · rw [getD_set_ne true e] at hl
      have hf := hmono i _ w w' k.s hS hR (k.facts i p d hp hd hl)
      cases ho : o.dst with
      | none => exact hf
      | some c =>
        have hne : c ≠ d := fun ec => (shape_at hs hj).2.1 i p hp (Ne.symm e) c ho (by rw [hd, ec])
        rw [getD_put v hne]; exact hf
  rest := by
    intro t ht
    have hold := k.rest t fun i p hp hd => by
      have := ht i p hp hd
      by_cases e : j = i
      · subst e
        have hlt : j < listed.size := by rw [k.size]; exact (Array.getElem?_eq_some_iff.1 hj).1
        simp [hlt] at this
      · rwa [getD_set_ne true e] at this
    cases ho : o.dst with
    | none => exact hold
    | some c =>
      have hne : c ≠ t := fun ec => by
        have := ht j o hj (by rw [ho, ec])
        have hlt : j < listed.size := by rw [k.size]; exact (Array.getElem?_eq_some_iff.1 hj).1
        simp [hlt] at this
      simp [Act.put, Array.getElem?_setIfInBounds_ne hne, hold]

theorem wp_region_facts {id : Nat} {a0 : Act} {w0 : World} (hm : P.follows .mixedOrders = true) (Φ : Nat → Value → World → Prop) (gd : Nat → Bool) (S : World → Prop) (R : World → World → Prop)
    (hs : shapeB ops = true) (hin : ∀ (i : Nat) (o : Oper) (d : Tmp), ops[i]? = some o → o.dst = some d → d < a0.tmps.size)
    (hmono : ∀ i v w w', S w → S w' → R w w' → Φ i v w → Φ i v w') (hRr : ∀ w, R w w)
    (hg : ∀ (j : Nat) (o : Oper) (g : Nat) (b : Bool), ops[j]? = some o → o.guard = some (g, b) → ∀ v w, Φ g v w → if gd j then v = .bool b else v ≠ .bool b)
    (hg0 : ∀ (j : Nat) (o : Oper), ops[j]? = some o → o.guard = none → gd j = true)
    (hS : S { w0 with drawn := w0.drawn + 1 })
    (hop : ∀ (j : Nat) (o : Oper), ops[j]? = some o → gd j = true → ∀ (a : Act) (w : World), S w → (∀ t, writesB ops t = false → a.eval (.tmp t) = a0.eval (.tmp t)) →
      (∀ e ∈ o.after, Region.binds .any e = true → ∀ (p : Oper) (d : Tmp), ops[e.on]? = some p → p.dst = some d → Φ e.on (a.eval (.tmp d)) w) →
      Gives P (fun v w' => S w' ∧ R w w' ∧ Φ j v w') ((execOp a.eval o).run P w))
    (hun : ∀ (j : Nat) (o : Oper), ops[j]? = some o → gd j = false → ∀ w, Φ j undef w)
    (hend : ∀ (a : Act) (w : World), S w → a.tmps.size = a0.tmps.size → a.defers = a0.defers → (∀ (i : Nat) (o : Oper) (d : Tmp), ops[i]? = some o → o.dst = some d → Φ i (a.tmps.getD d undef) w) →
      (∀ t, writesB ops t = false → a.tmps[t]? = a0.tmps[t]?) → Q .normal a w) :
    (Code.region id ops true).wp P Q a0 w0 := by
  refine wp_region_any hm ?_
  have key : ∀ (fuel : Nat) (listed : Array Bool) (a : Act) (w : World), left ops listed ≤ fuel → Known ops Φ S a0 listed a w → wpAny P .any ops Q fuel listed a w := by
    have fin : ∀ (listed : Array Bool) (a : Act) (w : World), Known ops Φ S a0 listed a w → Region.ready .any ops listed = [] → Q .normal a w := by
      intro listed a w k hr
      have hl := all_listed hs k.size hr
      refine hend a w k.s k.tsize k.defers (fun i o d hi hd => k.facts i o d hi hd (hl i (Array.getElem?_eq_some_iff.1 hi).1)) fun t ht => k.rest t fun i o hi hd => ?_
      have := Array.any_eq_false.1 ht i (Array.getElem?_eq_some_iff.1 hi).1
      rw [(Array.getElem?_eq_some_iff.1 hi).2, hd] at this
      simp at this
    intro fuel
    induction fuel with
    | zero =>
      intro listed a w hf k
      have hr : Region.ready .any ops listed = [] := by
        cases h : Region.ready .any ops listed with
        | nil => rfl
        | cons j l =>
          have hj : j ∈ Region.ready .any ops listed := by rw [h]; simp
          obtain ⟨h0, o, ho, _⟩ := mem_ready.1 hj
          have := left_set (ops := ops) (Array.getElem?_eq_some_iff.1 ho).1 h0
          omega
      exact ⟨hr, fin listed a w k hr⟩
    | succ fuel ih =>
      intro listed a w hf k
      refine ⟨fin listed a w k, fun j hj => ?_⟩
      obtain ⟨h0, o, ho, hdep⟩ := mem_ready.1 hj
      have hl := left_set (ops := ops) (Array.getElem?_eq_some_iff.1 ho).1 h0
      have hdep' : ∀ e ∈ o.after, Region.binds .any e = true → ∀ (p : Oper) (d : Tmp), ops[e.on]? = some p → p.dst = some d → Φ e.on (a.tmps.getD d undef) w := by
        intro e he hb p d hp hd
        have h1 := hdep e he hb
        have hlt : e.on < listed.size := by rw [k.size]; exact (Array.getElem?_eq_some_iff.1 hp).1
        refine k.facts e.on p d hp hd ?_
        simpa [hlt] using h1
      have hun' : ∀ t, writesB ops t = false → a.eval (.tmp t) = a0.eval (.tmp t) := by
        intro t ht
        have := k.rest t fun i p hp hd => by
          have := Array.any_eq_false.1 ht i (Array.getElem?_eq_some_iff.1 hp).1
          rw [(Array.getElem?_eq_some_iff.1 hp).2, hd] at this
          simp at this
        simp [Act.eval, Array.getD_eq_getD_getElem?, this]
      have hw : Region.wanted o (yielded ops a.tmps) = gd j := by
        unfold Region.wanted
        cases hgd : o.guard with
        | none => simp [hg0 j o ho hgd]
        | some gb =>
          obtain ⟨g, b⟩ := gb
          obtain ⟨p, d, hp, hd, e, he, hb, rfl⟩ := (shape_at hs ho).2.2.2 g b hgd
          have hv := hg j o _ b ho hgd _ w (hdep' e he hb p d hp hd)
          have hy : yielded ops a.tmps e.on = match a.tmps[d]? with | some (.bool x) => some x | _ => none := by
            unfold yielded; rw [hp]; simp only [Option.bind_some, hd]
            cases a.tmps[d]? with
            | none => rfl
            | some x => cases x <;> rfl
          have hz : a.tmps.getD d undef = (a.tmps[d]?).getD undef := by simp [Array.getD_eq_getD_getElem?]
          simp only [hy]
          rw [hz] at hv
          cases hx : a.tmps[d]? with
          | none =>
            rw [hx] at hv
            cases hgj : gd j with
            | true => rw [hgj] at hv; simp [undef] at hv
            | false => rfl
          | some x =>
            rw [hx] at hv
            cases hgj : gd j with
            | true => rw [hgj] at hv; simp at hv; subst hv; simp
            | false =>
              rw [hgj] at hv; simp at hv
              cases x <;> simp_all
      unfold wpOp
      simp only [ho, hw]
      cases hgj : gd j with
      | false =>
        simp only [Bool.false_eq_true, if_false]
        exact ih _ _ _ (by omega) (Known.put hs hmono hin k ho k.s (hRr w) (hun j o ho hgj w))
      | true =>
        simp only [if_true]
        refine .inl ?_
        have hgv := hop j o ho hgj a w k.s hun' hdep'
        unfold Oper.wp
        generalize (execOp a.eval o).run P w = r at hgv
        cases r with
        | halt x w' => exact hgv.elim
        | ok n w' =>
          cases n <;> simp only [Gives] at hgv <;> simp only [Oper.upon]
          case value v => exact ih _ _ _ (by omega) (Known.put hs hmono hin k ho hgv.1 hgv.2.1 hgv.2.2)
          case skip => exact ih _ _ _ (by omega) (Known.put hs hmono hin k ho hgv.1 hgv.2.1 hgv.2.2)
          case enter f args =>
            refine hgv.mono ?_
            rintro e w'' ⟨v, rfl, h1, h2, h3⟩
            exact ih _ _ _ (by omega) (Known.put hs hmono hin k ho h1 h2 h3)
  refine key _ _ _ _ ?_ ⟨hS, by simp, rfl, rfl, fun i o d hi _ hl => ?_, fun t _ => rfl⟩
  · unfold left
    have := List.countP_le_length (p := fun i => !(Array.replicate ops.size false).getD i true) (l := List.range ops.size)
    simpa using this
  · have := (Array.getElem?_eq_some_iff.1 hi).1
    simp [this] at hl
end
end Go.Proofs.YtfpcgoioneanaaaGreatDoor
namespace Go.Proofs.YtfpcgoioneanaaaGreatDoor
open Go Go.RowKit

/-- A fact on a value that stays true while the world only grows. -/
structure Stay where
  holds : Value → World → Prop
  mono : ∀ v w w', Below w.heap.size w w' → holds v w → holds v w'
inductive Sp where
  | is (v : Value)
  | st (p : Stay)
def Sp.holds : Sp → Value → World → Prop
  | .is v, x, _ => x = v
  | .st p, x, w => p.holds x w
theorem Sp.mono (p : Sp) (v : Value) (w w' : World) (h : Below w.heap.size w w') (hp : p.holds v w) : p.holds v w' := by
  cases p with
  | is u => exact hp
  | st p => exact p.mono v w w' h hp

/-- The table's row, 'undef' for an operation that is passed over. -/
def rowOf (tbl : List (Option Sp)) (j : Nat) : Sp := match tbl[j]? with | some (some p) => p | _ => .is undef
def goes (tbl : List (Option Sp)) (j : Nat) : Bool := match tbl[j]? with | some (some _) => true | _ => false
def spBool : Sp → Option (Option Bool)
  | .is (.bool b) => some (some b)
  | .is (.tuple _) => some none
  | _ => none
theorem spBool_spec {p : Sp} {x : Option Bool} (h : spBool p = some x) (v : Value) (w : World) (hv : p.holds v w) : match x with | some b => v = .bool b | none => ∀ b, v ≠ .bool b := by
  cases p with
  | st p => simp [spBool] at h
  | is u =>
    have hv' : v = u := hv
    subst hv'
    cases v <;> simp [spBool] at h
    · subst h; rfl
    · subst h; intro b hb; cases hb

/-- THE GUARDS FIT THE TABLE. -/
def guardsB (ops : Array Oper) (tbl : List (Option Sp)) : Bool :=
  (List.range ops.size).all fun j => match ops[j]? with
    | none => true
    | some o => match o.guard with
      | none => goes tbl j
      | some (g, b) => match spBool (rowOf tbl g) with
        | some (some x) => if goes tbl j then x == b else x != b
        | some none => !goes tbl j
        | none => false

section
variable {P : Program} {Q : Exit → Act → World → Prop}

/-- What is owed for one operation. -/
def Owed (P : Program) (ops : Array Oper) (tbl : List (Option Sp)) (S : World → Prop) (a0 : Act) (j : Nat) (o : Oper) : Prop :=
  goes tbl j = true → ∀ (a : Act) (w : World), S w → (∀ t, writesB ops t = false → a.eval (.tmp t) = a0.eval (.tmp t)) →
    (∀ (i : Nat) (p : Oper) (t : Tmp), ops[i]? = some p → p.dst = some t → (o.looksAt ops).contains t = true → (rowOf tbl i).holds (a.eval (.tmp t)) w) →
    Gives P (fun v w' => Below w.heap.size w w' ∧ (rowOf tbl j).holds v w') ((execOp a.eval o).run P w)
def OwedAll (P : Program) (ops : Array Oper) (tbl : List (Option Sp)) (S : World → Prop) (a0 : Act) : Nat → List Oper → Prop
  | _, [] => True
  | j, o :: os => Owed P ops tbl S a0 j o ∧ OwedAll P ops tbl S a0 (j + 1) os
theorem owedAll_at {ops : Array Oper} {tbl : List (Option Sp)} {S : World → Prop} {a0 : Act} (l : List Oper) : ∀ (k : Nat), OwedAll P ops tbl S a0 k l → ∀ (j : Nat) (o : Oper), l[j]? = some o → Owed P ops tbl S a0 (k + j) o := by
  induction l with
  | nil => intro k _ j o ho; simp at ho
  | cons o' os ih =>
    intro k h j o ho
    cases j with
    | zero => simp at ho; subst ho; exact h.1
    | succ j =>
      have := ih (k + 1) h.2 j o (by simpa using ho)
      have e : k + (j + 1) = k + 1 + j := by omega
      rw [e]; exact this

theorem wp_region_table {id : Nat} {l : List Oper} {a0 : Act} {w0 : World} (tbl : List (Option Sp)) (hm : P.follows .mixedOrders = true)
    (hs : shapeB l.toArray = true) (hgd : guardsB l.toArray tbl = true) (hin : (l.all fun o => match o.dst with | some d => decide (d < a0.tmps.size) | none => true) = true)
    (hop : OwedAll P l.toArray tbl (fun w => Below w0.heap.size w0 w) a0 0 l)
    (hend : ∀ (a : Act) (w : World), Below w0.heap.size w0 w → a.tmps.size = a0.tmps.size → a.defers = a0.defers →
      (∀ (i : Nat) (o : Oper) (d : Tmp), l[i]? = some o → o.dst = some d → (rowOf tbl i).holds (a.tmps.getD d undef) w) →
      (∀ t, writesB l.toArray t = false → a.tmps[t]? = a0.tmps[t]?) → Q .normal a w) :
    (Code.region id l.toArray true).wp P Q a0 w0 := by
  have gat : ∀ (j : Nat) (o : Oper), l.toArray[j]? = some o → match o.guard with
      | none => goes tbl j = true
      | some (g, b) => ∃ x, spBool (rowOf tbl g) = some x ∧ match x with | some x => if goes tbl j then x = b else x ≠ b | none => goes tbl j = false := by
    intro j o hj
    have := List.all_eq_true.1 hgd j (List.mem_range.2 (Array.getElem?_eq_some_iff.1 hj).1)
    rw [hj] at this
    dsimp only at this
    cases hg : o.guard with
    | none => rw [hg] at this; exact this
    | some gb =>
      obtain ⟨g, b⟩ := gb
      rw [hg] at this
      dsimp only at this ⊢
      cases hx : spBool (rowOf tbl g) with
      | none => rw [hx] at this; cases this
      | some x =>
        rw [hx] at this
        refine ⟨x, rfl, ?_⟩
        cases x with
        | none => simpa using this
        | some x =>
          dsimp only at this ⊢
          split <;> rename_i h <;> simp [h] at this <;> exact this
  refine wp_region_facts hm (fun j v w => (rowOf tbl j).holds v w) (goes tbl) (fun w => Below w0.heap.size w0 w) (fun w w' => Below w.heap.size w w') hs ?_ (fun i v w w' _ _ h => (rowOf tbl i).mono v w w' h) (fun w => Below.refl _ w) ?_ ?_ ⟨rfl, rfl, rfl, Nat.le_refl _, fun _ _ => rfl⟩ ?_ ?_ ?_
  · intro i o d hi hd
    have := List.all_eq_true.1 hin o (by simpa using List.mem_of_getElem? (by simpa using hi))
    rw [hd] at this
    simpa using this
  · intro j o g b hj hg v w hv
    have h := gat j o hj
    rw [hg] at h
    obtain ⟨x, hx, hb⟩ := h
    have := spBool_spec hx v w hv
    cases x with
    | none => dsimp only at hb this; rw [hb]; simpa using this b
    | some x =>
      dsimp only at hb this
      subst this
      split <;> rename_i hgo <;> simp [hgo] at hb
      · rw [hb]
      · intro e; cases e; exact hb rfl
  · intro j o hj hg
    have h := gat j o hj
    rw [hg] at h; exact h
  · intro j o hj hgo a w hS hun hdep
    have ho := owedAll_at l 0 hop j o (by simpa using hj)
    rw [Nat.zero_add] at ho
    have := ho hgo a w hS hun fun i p t hp ht hl => by
      obtain ⟨e, he, hb, rfl⟩ := (shape_at hs hj).2.2.1 t (by simpa using hl) i p hp ht
      exact hdep e he hb p t hp ht
    generalize (execOp a.eval o).run P w = r at this ⊢
    cases r with
    | halt x w' => exact this.elim
    | ok n w' =>
      cases n <;> simp only [Gives] at this ⊢
      case value v => exact ⟨hS.trans (this.1.mono hS.size), this.1, this.2⟩
      case skip => exact ⟨hS.trans (this.1.mono hS.size), this.1, this.2⟩
      case enter f args =>
        refine this.mono ?_
        rintro e w'' ⟨v, rfl, h1, h2⟩
        exact ⟨v, rfl, hS.trans (h1.mono hS.size), h1, h2⟩
  · intro j o hj hgo w
    have : rowOf tbl j = .is undef := by
      unfold goes at hgo; unfold rowOf
      cases h : tbl[j]? with
      | none => rfl
      | some p => cases p with
        | none => rfl
        | some p => rw [h] at hgo; cases hgo
    rw [this]; rfl
  · intro a w hS hz hd hf hr
    exact hend a w hS hz hd (fun i o d hi => hf i o d (by simpa using hi)) hr
/-- The frame behind the region: what it has written is f's. -/
def layArr (l : List Oper) (a0 : Act) (f : Nat → Value) : Array Value := ((List.range a0.tmps.size).map fun t => if writesB l.toArray t then f t else a0.tmps.getD t undef).toArray

theorem wp_region_lay {id : Nat} {l : List Oper} {a0 : Act} {w0 : World} (tbl : List (Option Sp)) (fr : (Nat → Value) → Array Value) (hm : P.follows .mixedOrders = true)
    (hs : shapeB l.toArray = true) (hgd : guardsB l.toArray tbl = true) (hin : (l.all fun o => match o.dst with | some d => decide (d < a0.tmps.size) | none => true) = true)
    (hfr : ∀ f, layArr l a0 f = fr f)
    (hop : OwedAll P l.toArray tbl (fun w => Below w0.heap.size w0 w) a0 0 l)
    (hend : ∀ (f : Nat → Value) (w : World), Below w0.heap.size w0 w → (∀ (i : Nat) (o : Oper) (d : Tmp), l[i]? = some o → o.dst = some d → (rowOf tbl i).holds (f d) w) →
      Q .normal { tmps := fr f, defers := a0.defers } w) :
    (Code.region id l.toArray true).wp P Q a0 w0 := by
  refine wp_region_table tbl hm hs hgd hin hop fun a w hB hz hd hf hr => ?_
  have e : a = { tmps := fr (fun t => a.tmps.getD t undef), defers := a0.defers } := by
    rw [← hfr, ← hd]
    cases a with
    | mk tmps defers =>
      congr 1
      dsimp only at hz hr ⊢
      unfold layArr
      apply Array.ext
      · simp [hz]
      · intro t h1 h2
        have ht : t < a0.tmps.size := by omega
        simp only [List.getElem_toArray, List.getElem_map, List.getElem_range]
        split
        · simp [Array.getD_eq_getD_getElem?, h1]
        · rename_i hw
          have h := hr t (by simpa using hw)
          rw [Array.getElem?_eq_getElem h1, Array.getElem?_eq_getElem ht] at h
          rw [Option.some.inj h]
          simp [Array.getD, ht]
  rw [e]
  exact hend _ w hB hf
end
end Go.Proofs.YtfpcgoioneanaaaGreatDoor
namespace Go.Proofs.YtfpcgoioneanaaaGreatDoor
open Go Go.RowKit
section
variable {P : Program} {ops : Array Oper} {Q : Exit → Act → World → Prop}
set_option maxHeartbeats 2000000 in
theorem wp_region_facts_tail {id : Nat} {a0 : Act} {w0 : World} (L : Nat) (oL : Oper) (hoL : ops[L]? = some oL) (hL : L + 1 = ops.size) (hgL : oL.guard = none) (hall : ∀ i, i < L → ∃ e ∈ oL.after, Region.binds .any e = true ∧ e.on = i) (hm : P.follows .mixedOrders = true) (Φ : Nat → Value → World → Prop) (gd : Nat → Bool) (S : World → Prop) (R : World → World → Prop)
    (hs : shapeB ops = true) (hin : ∀ (i : Nat) (o : Oper) (d : Tmp), ops[i]? = some o → o.dst = some d → d < a0.tmps.size)
    (hmono : ∀ i v w w', S w → S w' → R w w' → Φ i v w → Φ i v w') (hRr : ∀ w, R w w)
    (hg : ∀ (j : Nat) (o : Oper) (g : Nat) (b : Bool), ops[j]? = some o → j ≠ L → o.guard = some (g, b) → ∀ v w, Φ g v w → if gd j then v = .bool b else v ≠ .bool b)
    (hg0 : ∀ (j : Nat) (o : Oper), ops[j]? = some o → j ≠ L → o.guard = none → gd j = true)
    (hS : S { w0 with drawn := w0.drawn + 1 })
    (hop : ∀ (j : Nat) (o : Oper), ops[j]? = some o → j ≠ L → gd j = true → ∀ (a : Act) (w : World), S w → (∀ t, writesB ops t = false → a.eval (.tmp t) = a0.eval (.tmp t)) →
      (∀ e ∈ o.after, Region.binds .any e = true → ∀ (p : Oper) (d : Tmp), ops[e.on]? = some p → p.dst = some d → Φ e.on (a.eval (.tmp d)) w) →
      Gives P (fun v w' => S w' ∧ R w w' ∧ Φ j v w') ((execOp a.eval o).run P w))
    (hun : ∀ (j : Nat) (o : Oper), ops[j]? = some o → j ≠ L → gd j = false → ∀ w, Φ j undef w)
    (hend : ∀ (a : Act) (w : World), S w → a.tmps.size = a0.tmps.size → a.defers = a0.defers → (∀ (i : Nat) (o : Oper) (d : Tmp), ops[i]? = some o → i ≠ L → o.dst = some d → Φ i (a.tmps.getD d undef) w) →
      (∀ t, (∀ (i : Nat) (o : Oper), ops[i]? = some o → i ≠ L → o.dst ≠ some t) → a.tmps[t]? = a0.tmps[t]?) → oL.wp P a w (fun a' w' => Q .normal a' w') Q ∨ (oL.asks P a w ∧ LetsOut Q)) :
    (Code.region id ops true).wp P Q a0 w0 := by
  refine wp_region_any hm ?_
  have key : ∀ (fuel : Nat) (listed : Array Bool) (a : Act) (w : World), left ops listed ≤ fuel → listed.getD L true = false → Known ops Φ S a0 listed a w → wpAny P .any ops Q fuel listed a w := by
    have some' : ∀ (listed : Array Bool), listed.getD L true = false → listed.size = ops.size → Region.ready .any ops listed ≠ [] := by
      intro listed h hz hr
      have := all_listed hs hz hr L (by omega)
      rw [h] at this; cases this
    intro fuel
    induction fuel with
    | zero =>
      intro listed a w hf h0L k
      have := left_set (ops := ops) (by omega : L < ops.size) h0L
      omega
    | succ fuel ih =>
      intro listed a w hf h0L k
      refine ⟨fun hr => absurd hr (some' listed h0L k.size), fun j hj => ?_⟩
      obtain ⟨h0, o, ho, hdep⟩ := mem_ready.1 hj
      have hl := left_set (ops := ops) (Array.getElem?_eq_some_iff.1 ho).1 h0
      have hdep' : ∀ e ∈ o.after, Region.binds .any e = true → ∀ (p : Oper) (d : Tmp), ops[e.on]? = some p → p.dst = some d → Φ e.on (a.tmps.getD d undef) w := by
        intro e he hb p d hp hd
        have h1 := hdep e he hb
        have hlt : e.on < listed.size := by rw [k.size]; exact (Array.getElem?_eq_some_iff.1 hp).1
        refine k.facts e.on p d hp hd ?_
        simpa [hlt] using h1
      have hun' : ∀ t, writesB ops t = false → a.eval (.tmp t) = a0.eval (.tmp t) := by
        intro t ht
        have := k.rest t fun i p hp hd => by
          have := Array.any_eq_false.1 ht i (Array.getElem?_eq_some_iff.1 hp).1
          rw [(Array.getElem?_eq_some_iff.1 hp).2, hd] at this
          simp at this
        simp [Act.eval, Array.getD_eq_getD_getElem?, this]
      by_cases hjL : j = L
      · subst hjL
        obtain rfl : o = oL := Option.some.inj (ho.symm.trans hoL)
        have hlist : ∀ i, i < j → listed.getD i true = true := fun i hi => by
          obtain ⟨e, he, hb, rfl⟩ := hall i hi
          have h1 := hdep e he hb
          have hlt : e.on < listed.size := by rw [k.size]; omega
          simpa [hlt] using h1
        have hQ := hend a w k.s k.tsize k.defers (fun i p d hp hne hd => k.facts i p d hp hd (hlist i (by have := (Array.getElem?_eq_some_iff.1 hp).1; omega))) fun t ht => k.rest t fun i p hp hd => by
          by_cases hij : i = j
          · subst hij; exact h0L
          · exact absurd hd (ht i p hp hij)
        unfold wpOp
        simp only [ho, Region.wanted, hgL, if_true]
        refine hQ.imp (fun hh => Oper.wp_mono (fun a' w' hq => ?_) hh) (fun x => x)
        have hdone : Region.ready .any ops (listed.setIfInBounds j true) = [] := by
          cases h : Region.ready .any ops (listed.setIfInBounds j true) with
          | nil => rfl
          | cons x xs =>
            have hx : x ∈ Region.ready .any ops (listed.setIfInBounds j true) := by rw [h]; simp
            obtain ⟨hx0, p, hp, _⟩ := mem_ready.1 hx
            have hxl := (Array.getElem?_eq_some_iff.1 hp).1
            by_cases hxj : j = x
            · subst hxj
              have : j < listed.size := by rw [k.size]; omega
              simp [this] at hx0
            · rw [getD_set_ne true hxj, hlist x (by omega)] at hx0; cases hx0
        cases fuel with
        | zero => exact ⟨hdone, hq⟩
        | succ fuel => exact ⟨fun _ => hq, fun i hi => by rw [hdone] at hi; cases hi⟩
      have hkeep : (listed.setIfInBounds j true).getD L true = false := by rw [getD_set_ne true hjL]; exact h0L
      have hw : Region.wanted o (yielded ops a.tmps) = gd j := by
        unfold Region.wanted
        cases hgd : o.guard with
        | none => simp [hg0 j o ho hjL hgd]
        | some gb =>
          obtain ⟨g, b⟩ := gb
          obtain ⟨p, d, hp, hd, e, he, hb, rfl⟩ := (shape_at hs ho).2.2.2 g b hgd
          have hv := hg j o _ b ho hjL hgd _ w (hdep' e he hb p d hp hd)
          have hy : yielded ops a.tmps e.on = match a.tmps[d]? with | some (.bool x) => some x | _ => none := by
            unfold yielded; rw [hp]; simp only [Option.bind_some, hd]
            cases a.tmps[d]? with
            | none => rfl
            | some x => cases x <;> rfl
          have hz : a.tmps.getD d undef = (a.tmps[d]?).getD undef := by simp [Array.getD_eq_getD_getElem?]
          simp only [hy]
          rw [hz] at hv
          cases hx : a.tmps[d]? with
          | none =>
            rw [hx] at hv
            cases hgj : gd j with
            | true => rw [hgj] at hv; simp [undef] at hv
            | false => rfl
          | some x =>
            rw [hx] at hv
            cases hgj : gd j with
            | true => rw [hgj] at hv; simp at hv; subst hv; simp
            | false =>
              rw [hgj] at hv; simp at hv
              cases x <;> simp_all
      unfold wpOp
      simp only [ho, hw]
      cases hgj : gd j with
      | false =>
        simp only [Bool.false_eq_true, if_false]
        exact ih _ _ _ (by omega) hkeep (Known.put hs hmono hin k ho k.s (hRr w) (hun j o ho hjL hgj w))
      | true =>
        simp only [if_true]
        refine .inl ?_
        have hgv := hop j o ho hjL hgj a w k.s hun' hdep'
        unfold Oper.wp
        generalize (execOp a.eval o).run P w = r at hgv
        cases r with
        | halt x w' => exact hgv.elim
        | ok n w' =>
          cases n <;> simp only [Gives] at hgv <;> simp only [Oper.upon]
          case value v => exact ih _ _ _ (by omega) hkeep (Known.put hs hmono hin k ho hgv.1 hgv.2.1 hgv.2.2)
          case skip => exact ih _ _ _ (by omega) hkeep (Known.put hs hmono hin k ho hgv.1 hgv.2.1 hgv.2.2)
          case enter f args =>
            refine hgv.mono ?_
            rintro e w'' ⟨v, rfl, h1, h2, h3⟩
            exact ih _ _ _ (by omega) hkeep (Known.put hs hmono hin k ho h1 h2 h3)
  refine key _ _ _ _ ?_ (by simp [show L < ops.size by omega]) ⟨hS, by simp, rfl, rfl, fun i o d hi _ hl => ?_, fun t _ => rfl⟩
  · unfold left
    have := List.countP_le_length (p := fun i => !(Array.replicate ops.size false).getD i true) (l := List.range ops.size)
    simpa using this
  · have := (Array.getElem?_eq_some_iff.1 hi).1
    simp [this] at hl
end
end Go.Proofs.YtfpcgoioneanaaaGreatDoor
namespace Go.Proofs.YtfpcgoioneanaaaGreatDoor
open Go Go.RowKit
section
variable {P : Program} {Q : Exit → Act → World → Prop}
def tailB (m : List Oper) (oL : Oper) : Bool := oL.guard.isNone && (List.range (m.length - 1)).all fun i => oL.after.any fun e => Region.binds .any e && e.on == i
def guardsTB (m : List Oper) (tbl : List (Option Sp)) : Bool := guardsB m.dropLast.toArray tbl

theorem wp_region_lay_tail {id : Nat} {m : List Oper} {a0 : Act} {w0 : World} (tbl : List (Option Sp)) (fr : (Nat → Value) → Array Value) (oL : Oper) (hm : P.follows .mixedOrders = true)
    (hlast : m.getLast? = some oL) (hs : shapeB m.toArray = true) (hgd : guardsTB m tbl = true) (htl : tailB m oL = true)
    (hin : (m.all fun o => match o.dst with | some d => decide (d < a0.tmps.size) | none => true) = true)
    (hfr : ∀ f, layArr m.dropLast a0 f = fr f)
    (hop : OwedAll P m.toArray tbl (fun w => Below w0.heap.size w0 w) a0 0 m.dropLast)
    (hend : ∀ (f : Nat → Value) (w : World), Below w0.heap.size w0 w → (∀ (i : Nat) (o : Oper) (d : Tmp), m.dropLast[i]? = some o → o.dst = some d → (rowOf tbl i).holds (f d) w) →
      wpList P m.toArray Q [oL] { tmps := fr f, defers := a0.defers } w) :
    (Code.region id m.toArray true).wp P Q a0 w0 := by
  have hne : m ≠ [] := by rintro rfl; cases hlast
  have hsz : m.dropLast.length + 1 = m.length := by rw [List.length_dropLast]; have := List.length_pos_iff.2 hne; omega
  have hdl : ∀ (j : Nat) (o : Oper), m.toArray[j]? = some o → j ≠ m.length - 1 → m.dropLast[j]? = some o := by
    intro j o hj hne'
    have hj' : m[j]? = some o := by simpa using hj
    have hlt : j < m.length := (List.getElem?_eq_some_iff.1 hj').1
    rw [List.getElem?_dropLast, if_pos (by omega)]; exact hj'
  have hgd' : guardsB m.dropLast.toArray tbl = true := hgd
  simp only [tailB, Bool.and_eq_true] at htl
  have gat : ∀ (j : Nat) (o : Oper), m.dropLast[j]? = some o → match o.guard with
      | none => goes tbl j = true
      | some (g, b) => ∃ x, spBool (rowOf tbl g) = some x ∧ match x with | some x => if goes tbl j then x = b else x ≠ b | none => goes tbl j = false := by
    intro j o hj
    have hj' : m.dropLast.toArray[j]? = some o := by simpa using hj
    have := List.all_eq_true.1 hgd' j (List.mem_range.2 (Array.getElem?_eq_some_iff.1 hj').1)
    rw [hj'] at this
    dsimp only at this
    cases hg : o.guard with
    | none => rw [hg] at this; exact this
    | some gb =>
      obtain ⟨g, b⟩ := gb
      rw [hg] at this
      dsimp only at this ⊢
      cases hx : spBool (rowOf tbl g) with
      | none => rw [hx] at this; cases this
      | some x =>
        rw [hx] at this
        refine ⟨x, rfl, ?_⟩
        cases x with
        | none => simpa using this
        | some x =>
          dsimp only at this ⊢
          split <;> rename_i h <;> simp [h] at this <;> exact this
  refine wp_region_facts_tail (m.length - 1) oL (by rw [List.getElem?_toArray, ← List.getLast?_eq_getElem?]; exact hlast) (by simp; omega) (by simpa using htl.1) (fun i hi => ?_) hm (fun j v w => (rowOf tbl j).holds v w) (goes tbl) (fun w => Below w0.heap.size w0 w) (fun w w' => Below w.heap.size w w') hs ?_ (fun i v w w' _ _ h => (rowOf tbl i).mono v w w' h) (fun w => Below.refl _ w) ?_ ?_ ⟨rfl, rfl, rfl, Nat.le_refl _, fun _ _ => rfl⟩ ?_ ?_ ?_
  · have := List.all_eq_true.1 htl.2 i (List.mem_range.2 hi)
    rw [Array.any_eq_true'] at this
    obtain ⟨e, he, hbe⟩ := this
    simp only [Bool.and_eq_true, beq_iff_eq] at hbe
    exact ⟨e, he, hbe.1, hbe.2⟩
  · intro i o d hi hd
    have := List.all_eq_true.1 hin o (by simpa using List.mem_of_getElem? (by simpa using hi))
    rw [hd] at this
    simpa using this
  · intro j o g b hj hne' hg v w hv
    have h := gat j o (hdl j o hj hne')
    rw [hg] at h
    obtain ⟨x, hx, hb⟩ := h
    have := spBool_spec hx v w hv
    cases x with
    | none => dsimp only at hb this; rw [hb]; simpa using this b
    | some x =>
      dsimp only at hb this
      subst this
      split <;> rename_i hgo <;> simp [hgo] at hb
      · rw [hb]
      · intro e; cases e; exact hb rfl
  · intro j o hj hne' hg
    have h := gat j o (hdl j o hj hne')
    rw [hg] at h; exact h
  · intro j o hj hne' hgo a w hS hun hdep
    have ho := owedAll_at m.dropLast 0 hop j o (hdl j o hj hne')
    rw [Nat.zero_add] at ho
    have := ho hgo a w hS hun fun i p t hp ht hl => by
      obtain ⟨e, he, hb, rfl⟩ := (shape_at hs hj).2.2.1 t (by simpa using hl) i p hp ht
      exact hdep e he hb p t hp ht
    generalize (execOp a.eval o).run P w = r at this ⊢
    cases r with
    | halt x w' => exact this.elim
    | ok n w' =>
      cases n <;> simp only [Gives] at this ⊢
      case value v => exact ⟨hS.trans (this.1.mono hS.size), this.1, this.2⟩
      case skip => exact ⟨hS.trans (this.1.mono hS.size), this.1, this.2⟩
      case enter f args =>
        refine this.mono ?_
        rintro e w'' ⟨v, rfl, h1, h2⟩
        exact ⟨v, rfl, hS.trans (h1.mono hS.size), h1, h2⟩
  · intro j o hj hne' hgo w
    have : rowOf tbl j = .is undef := by
      unfold goes at hgo; unfold rowOf
      cases h : tbl[j]? with
      | none => rfl
      | some p => cases p with
        | none => rfl
        | some p => rw [h] at hgo; cases hgo
    rw [this]; rfl
  · intro a w hB hz hd hf hr
    have hfin := hend (fun t => a.tmps.getD t undef) w hB (fun i o d hi hd => by
      have hlt := (List.getElem?_eq_some_iff.1 hi).1
      refine hf i o d ?_ (by omega) hd
      rw [List.getElem?_dropLast] at hi
      split at hi
      · simpa using hi
      · cases hi)
    have e : a = { tmps := fr (fun t => a.tmps.getD t undef), defers := a0.defers } := by
      rw [← hfr, ← hd]
      cases a with
      | mk tmps defers =>
        congr 1
        dsimp only at hz hr ⊢
        unfold layArr
        apply Array.ext
        · simp [hz]
        · intro t h1 h2
          have ht : t < a0.tmps.size := by omega
          simp only [List.getElem_toArray, List.getElem_map, List.getElem_range]
          split
          · simp [Array.getD_eq_getD_getElem?, h1]
          · rename_i hw
            have h := hr t fun i o hi hne' hd => hw (by
              unfold writesB
              rw [Array.any_eq_true']
              have := List.mem_of_getElem? (hdl i o hi hne')
              exact ⟨o, by simpa using this, by simp [hd]⟩)
            rw [Array.getElem?_eq_getElem h1, Array.getElem?_eq_getElem ht] at h
            rw [Option.some.inj h]
            simp [Array.getD, ht]
    have hw : Region.wanted oL (yielded m.toArray a.tmps) = true := by
      have : oL.guard = none := by simpa using htl.1
      simp [Region.wanted, this]
    rw [← e] at hfin
    simp only [wpList, hw, if_true] at hfin
    exact hfin
end
end Go.Proofs.YtfpcgoioneanaaaGreatDoor
namespace Go.Proofs.YtfpcgoioneanaaaGreatDoor
open Go Go.RowKit
theorem add_nat {x y : Nat} (h : x + y < 18446744073709551616) : IntKind.u64.wrap ((x : Int) + (y : Int)) = ((x + y : Nat) : Int) := by rw [IntKind.wrap_u64]; omega
set_option maxHeartbeats 400000 in
theorem rhas_any (s : Nat → Bool) (x : Nat) (w : World) (h1 : x < 256) :
    Calls Tryz.prog 116 #[.agg #[.int .u64 (cw s 0), .int .u64 (cw s 1), .int .u64 (cw s 2), .int .u64 (cw s 3)], .int .u8 x] w fun e w' => e = .returned (.bool (s x)) ∧ Below w.heap.size w w' := by
  have hr := row_at s (x / 64) (by omega)
  go_enter Tryz.func116, Tryz.ntmps116
  go_wp2
  go_ret
  exact ⟨ret_bool (mod_bit s x), (Below.refl _ _).alloc (Nat.le_refl _) _⟩


theorem cls_congr {s t : Nat → Bool} (h : ∀ i, i < 256 → s i = t i) : (.agg #[.int .u64 (cw s 0), .int .u64 (cw s 1), .int .u64 (cw s 2), .int .u64 (cw s 3)] : Value) = .agg #[.int .u64 (cw t 0), .int .u64 (cw t 1), .int .u64 (cw t 2), .int .u64 (cw t 3)] := by
  rw [cw_eq_of_lt h (by decide : 0 < 4), cw_eq_of_lt h (by decide : 1 < 4), cw_eq_of_lt h (by decide : 2 < 4), cw_eq_of_lt h (by decide : 3 < 4)]
/-- BLOCK B IS A ROW OF 256 BOOLS, g. -/
def BoolsAt (w : World) (B : Nat) (g : Nat → Bool) : Prop := ∃ cur : Array Value, w.heap[B]? = some (.cells cur 4 (0, 0)) ∧ cur.size = 256 ∧ ∀ b, b < 256 → cur[b]? = some (.bool (g b))
theorem BoolsAt.lt {w : World} {B : Nat} {g : Nat → Bool} (h : BoolsAt w B g) : B < w.heap.size := by
  obtain ⟨_, h, _⟩ := h; exact (Array.getElem?_eq_some_iff.1 h).1
theorem BoolsAt.cell {w : World} {B : Nat} {g : Nat → Bool} (h : BoolsAt w B g) {b : Nat} (hb : b < 256) : w.cell? ⟨B, b, none⟩ = some (.bool (g b)) := by
  obtain ⟨cur, h, _, hc⟩ := h
  have := (show Blk w B cur 4 from h).cell b
  rw [this, hc b hb]
theorem BoolsAt.frozen {w : World} {B : Nat} {g : Nat → Bool} (h : BoolsAt w B g) (b : Nat) : w.frozen? ⟨B, b, none⟩ = false := by
  obtain ⟨cur, h, _⟩ := h
  exact (show Blk w B cur 4 from h).frozen b
theorem BoolsAt.below {w w' : World} {B C : Nat} {g : Nat → Bool} (h : BoolsAt w B g) (hb : Below C w w') (hB : B < C) : BoolsAt w' B g := by
  obtain ⟨cur, h, r⟩ := h
  exact ⟨cur, (hb.block B hB).trans h, r⟩
theorem BoolsAt.alloc {w : World} {B : Nat} {g : Nat → Bool} (h : BoolsAt w B g) (o : Obj) : BoolsAt (w.alloc o) B g := by
  obtain ⟨cur, h', r⟩ := h
  exact ⟨cur, (show Blk w B cur 4 from h').alloc o, r⟩
theorem BoolsAt.set {w : World} {B : Nat} {g g' : Nat → Bool} (h : BoolsAt w B g) {b : Nat} (v : Bool) (hb : b < 256) (hg : ∀ i, i < 256 → g' i = if i = b then v else g i) : BoolsAt (w.setCell ⟨B, b, none⟩ (.bool v)) B g' := by
  obtain ⟨cur, h, hz, hc⟩ := h
  refine ⟨_, (show Blk w B cur 4 from h).set b (.bool v), by simpa using hz, fun i hi => ?_⟩
  rw [hg i hi]
  by_cases e : i = b
  · subst e; simp [hz, hi]
  · rw [Array.getElem?_setIfInBounds_ne (Ne.symm e), hc i hi, if_neg e]
theorem made256 : ∃ mk : Array Value, (∀ w, (Instr.makeSlice 176 (.int .i64 256) (.int .i64 256)).run Tryz.prog w = .ok (.slice (some ⟨w.heap.size, 0, none⟩) 256 256) (w.alloc (.cells mk 4))) ∧
    ∀ w : World, BoolsAt (w.alloc (.cells mk 4)) w.heap.size (fun _ => false) :=
  ⟨Array.replicate 256 (.bool false), fun _ => by kernel_rfl, fun w => ⟨_, Blk.new w _ _, by simp, fun b hb => by simp [hb]⟩⟩


section
variable {a : Act} {w : World} {o : Oper} {Φ : Value → World → Prop}
theorem g_move {x : Operand} (ho : o.op = .move x) (h : Φ (a.eval x) w) : Gives Tryz.prog (fun v w' => Below w.heap.size w w' ∧ Φ v w') ((execOp a.eval o).run Tryz.prog w) :=
  .value (v := a.eval x) (w := w) (by simp [execOp, ho]) ⟨Below.refl _ _, h⟩
end


theorem row_set (s t : Nat → Bool) (q : Nat) (hq : q < 4) (h : ∀ k, k ≠ q → k < 4 → cw s k = cw t k) : (#[.int .u64 (cw s 0), .int .u64 (cw s 1), .int .u64 (cw s 2), .int .u64 (cw s 3)] : Array Value).setIfInBounds q (.int .u64 (cw t q)) = #[.int .u64 (cw t 0), .int .u64 (cw t 1), .int .u64 (cw t 2), .int .u64 (cw t 3)] := by
  have hq' : q = 0 ∨ q = 1 ∨ q = 2 ∨ q = 3 := by omega
  rcases hq' with rfl | rfl | rfl | rfl
  · rw [h 1 (by decide) (by decide), h 2 (by decide) (by decide), h 3 (by decide) (by decide)]; rfl
  · rw [h 0 (by decide) (by decide), h 2 (by decide) (by decide), h 3 (by decide) (by decide)]; rfl
  · rw [h 0 (by decide) (by decide), h 1 (by decide) (by decide), h 3 (by decide) (by decide)]; rfl
  · rw [h 0 (by decide) (by decide), h 1 (by decide) (by decide), h 2 (by decide) (by decide)]; rfl
/-- What is below k of g. -/
def lo (g : Nat → Bool) (k : Nat) : Nat → Bool := fun i => g i && decide (i < k)
theorem lo_zero (g : Nat → Bool) : lo g 0 = mem [] := by funext i; simp [lo, mem]
theorem lo_skip (g : Nat → Bool) (k : Nat) (h : g k = false) : lo g (k + 1) = lo g k := by
  funext i; unfold lo
  by_cases e : i = k
  · subst e; simp [h]
  · congr 1; rw [Bool.eq_iff_iff]; simp; omega
theorem lo_other (g : Nat → Bool) (k j : Nat) (h : j ≠ k / 64) : cw (lo g k) j = cw (lo g (k + 1)) j := by
  refine cw_congr fun i hi => ?_
  unfold lo; congr 1; rw [Bool.eq_iff_iff]; simp; omega
theorem lo_add (g : Nat → Bool) (k : Nat) (h : g k = true) : cw (lo g k) (k / 64) + 2 ^ (k % 64) = cw (lo g (k + 1)) (k / 64) := by
  have hx : cw (lo g k) (k / 64) < 2 ^ (k % 64) := by
    refine Nat.lt_pow_two_of_testBit _ fun i hi => ?_
    rw [testBit_cw]
    simp [lo]; intro _ _; omega
  have ht : k % 64 < 64 := Nat.mod_lt _ (by decide)
  have hp : 2 ^ (k % 64) * 2 ≤ 18446744073709551616 := by
    have := Nat.pow_le_pow_right (n := 2) (by decide) (show k % 64 + 1 ≤ 64 by omega)
    rw [Nat.pow_succ] at this; exact this
  refine eq_cw (by omega) fun i hi => ?_
  rw [Nat.add_comm]
  rcases Nat.lt_trichotomy i (k % 64) with e | e | e
  · rw [Nat.testBit_two_pow_add_gt e, testBit_cw]
    simp only [hi, decide_true, Bool.true_and, lo]; congr 1; rw [Bool.eq_iff_iff]; simp; omega
  · subst e
    rw [Nat.testBit_two_pow_add_eq, Nat.testBit_lt_two_pow hx, show 64 * (k / 64) + k % 64 = k by omega]
    simp [lo, h]
  · have hlt : 2 ^ (k % 64) + cw (lo g k) (k / 64) < 2 ^ i := Nat.lt_of_lt_of_le (by omega : _ < 2 ^ (k % 64) * 2) (by rw [← Nat.pow_succ]; exact Nat.pow_le_pow_right (by decide) e)
    rw [Nat.testBit_lt_two_pow hlt]
    simp [lo]; intro _; omega
section
variable {a : Act} {w : World} {o : Oper} {Φ : Value → World → Prop}
theorem g_quo64 {x : Operand} {j : Nat} (ho : o.op = .binOp .quo 3 x (.const (.int .i64 64)) 3) (hx : a.eval x = .int .i64 j) (hj : j < 256) (h : Φ (.int .i64 ((j / 64 : Nat) : Int)) w) :
    Gives Tryz.prog (fun v w' => Below w.heap.size w w' ∧ Φ v w') ((execOp a.eval o).run Tryz.prog w) := by
  refine .value (v := .int .i64 ((j / 64 : Nat) : Int)) (w := w) ?_ ⟨Below.refl _ _, h⟩
  have hc : a.eval (.const (.int .i64 64)) = .int .i64 64 := rfl
  generalize a.eval = ρ at *
  simp only [execOp, ho, hx, hc]
  go_simp
  rw [IntKind.wrap_i64]; omega
theorem g_rem64 {x : Operand} {j : Nat} (ho : o.op = .binOp .rem 3 x (.const (.int .i64 64)) 3) (hx : a.eval x = .int .i64 j) (hj : j < 256) (h : Φ (.int .i64 ((j % 64 : Nat) : Int)) w) :
    Gives Tryz.prog (fun v w' => Below w.heap.size w w' ∧ Φ v w') ((execOp a.eval o).run Tryz.prog w) := by
  refine .value (v := .int .i64 ((j % 64 : Nat) : Int)) (w := w) ?_ ⟨Below.refl _ _, h⟩
  have hc : a.eval (.const (.int .i64 64)) = .int .i64 64 := rfl
  generalize a.eval = ρ at *
  simp only [execOp, ho, hx, hc]
  go_simp
  exact Int.tmod_eq_emod_of_nonneg (by omega)
theorem g_shl {x : Operand} {j : Nat} (hj : j < 64) (ho : o.op = .binOp .shl 43 (.const (.int .u64 1)) x 3) (hx : a.eval x = .int .i64 j) (h : Φ (.int .u64 ((2 ^ j : Nat) : Int)) w) :
    Gives Tryz.prog (fun v w' => Below w.heap.size w w' ∧ Φ v w') ((execOp a.eval o).run Tryz.prog w) := by
  refine .value (v := .int .u64 ((2 ^ j : Nat) : Int)) (w := w) ?_ ⟨Below.refl _ _, h⟩
  have hp : 2 ^ j < 18446744073709551616 := Nat.pow_lt_pow_right (by decide) hj
  have e : IntKind.u64.wrap (2 ^ j) = ((2 ^ j : Nat) : Int) := by
    rw [IntKind.wrap_u64, show ((2 : Int) ^ j) = ((2 ^ j : Nat) : Int) from (by push_cast; rfl)]
    generalize 2 ^ j = y at hp ⊢
    omega
  have hc : a.eval (.const (.int .u64 1)) = .int .u64 1 := rfl
  generalize a.eval = ρ at *
  simp only [execOp, ho, hx, hc]
  go_simp
theorem g_add64 {x y : Operand} {m n : Nat} (hmn : m + n < 18446744073709551616) (ho : o.op = .binOp .add 43 x y 43) (hx : a.eval x = .int .u64 m) (hy : a.eval y = .int .u64 n) (h : Φ (.int .u64 ((m + n : Nat) : Int)) w) :
    Gives Tryz.prog (fun v w' => Below w.heap.size w w' ∧ Φ v w') ((execOp a.eval o).run Tryz.prog w) := by
  refine .value (v := .int .u64 ((m + n : Nat) : Int)) (w := w) ?_ ⟨Below.refl _ _, h⟩
  have hw := add_nat hmn
  generalize a.eval = ρ at *
  simp only [execOp, ho, hx, hy]
  go_simp
theorem g_index25 {x y : Operand} {B q : Nat} (hq : q < 4) (ho : o.op = .indexAddr 45 x y) (hx : a.eval x = .pointer (some ⟨B, 0, none⟩)) (hy : a.eval y = .int .i64 q) (h : Φ (.pointer (some ⟨B, q, none⟩)) w) :
    Gives Tryz.prog (fun v w' => Below w.heap.size w w' ∧ Φ v w') ((execOp a.eval o).run Tryz.prog w) := by
  refine .value (v := .pointer (some ⟨B, q, none⟩)) (w := w) ?_ ⟨Below.refl _ _, h⟩
  have h1 : (q : Int) < 4 := by omega
  generalize a.eval = ρ at *
  simp only [execOp, ho, hx, hy]
  go_simp
theorem g_load23 {x : Operand} {B q : Nat} {v : Value} (ho : o.op = .load 43 x) (hx : a.eval x = .pointer (some ⟨B, q, none⟩)) (hb : w.cell? ⟨B, q, none⟩ = some v) (h : Φ v w) :
    Gives Tryz.prog (fun v w' => Below w.heap.size w w' ∧ Φ v w') ((execOp a.eval o).run Tryz.prog w) := by
  refine .value (v := v) (w := w) ?_ ⟨Below.refl _ _, h⟩
  generalize a.eval = ρ at *
  simp only [execOp, ho, hx]
  go_simp
end

theorem row_cell (s : Nat → Bool) (q : Nat) (h : q < 4) : (#[.int .u64 (cw s 0), .int .u64 (cw s 1), .int .u64 (cw s 2), .int .u64 (cw s 3)] : Array Value)[q]? = some (.int .u64 (cw s q)) := by
  match q, h with
  | 0, _ => rfl
  | 1, _ => rfl
  | 2, _ => rfl
  | 3, _ => rfl
set_option maxRecDepth 100000 in
set_option maxHeartbeats 4000000 in
theorem rset_any (g : Nat → Bool) (B : Nat) (w : World) (hG : BoolsAt w B g) :
    Calls Tryz.prog 115 #[.slice (some ⟨B, 0, none⟩) 256 256] w fun e w' => e = .returned (.agg #[.int .u64 (cw g 0), .int .u64 (cw g 1), .int .u64 (cw g 2), .int .u64 (cw g 3)]) ∧ Below w.heap.size w w' := by
  have HR := Lib.hid row_none
  have HG := Lib.hid hG
  have hBl := hG.lt
  clear hG
  go_enter Tryz.func115, Tryz.ntmps115
  go_wp2
  go_loopw [4] (fun i wr => ∃ k : Nat, k ≤ 256 ∧ i = .int .i64 k ∧ Blk wr (w.heap.size + 1) #[.int .u64 (cw (lo g k) 0), .int .u64 (cw (lo g k) 1), .int .u64 (cw (lo g k) 2), .int .u64 (cw (lo g k) 3)] 45 ∧ Blk wr w.heap.size #[.int .u64 0, .int .u64 0, .int .u64 0, .int .u64 0] 45 ∧ Below w.heap.size w wr) (fun i _ => 256 - (intOf i).toNat)
  case atStart => exact ⟨0, by omega, rfl, by rw [lo_zero, ← HR.out]; exact blk_new1 _ _ _ _, (Blk.new _ _ _).alloc _, below2 _ _ _⟩
  case round =>
    obtain ⟨k, hk, rfl, hB, hA, hbl⟩ := hrel
    by_cases hk2 : k < 256
    · have hcell := (HG.out.below hbl hBl).cell hk2
      have i1 : (k : Int) < 256 := by omega
      have hdk : decide ((k : Int) < 256) = true := by simp; omega
      cases hgk : g k with
      | false =>
        rw [hgk] at hcell
        have HS := Lib.hid (lo_skip g k hgk)
        clear hgk
        go_wp2
        go_roundw
        case rel => exact ⟨k + 1, by omega, by go_num, by rw [HS.out]; exact hB, hA, hbl⟩
        case measure => simp [intOf]; omega
      | true =>
        rw [hgk] at hcell
        have hadd := lo_add g k hgk
        have HADD := Lib.hid hadd
        have hoth := Lib.hid (fun j (h : j ≠ k / 64) (_ : j < 4) => lo_other g k j h)
        have hq4 : k / 64 < 4 := by omega
        have hr64 : k % 64 < 64 := by omega
        have hsum : cw (lo g k) (k / 64) + 2 ^ (k % 64) < 18446744073709551616 := by rw [hadd]; exact cw_lt _ _
        have hrow := row_cell (lo g k) (k / 64) hq4
        have hBs := hB.lt
        clear hgk hadd
        have HSUM := Lib.hid hsum
        have HROW := Lib.hid hrow
        clear hsum hrow
        go_wp2
        have hsum := HSUM.out
        have hrow := HROW.out
        refine wp_region_lay_tail [some (.is (.int .i64 k)), some (.is (.int .i64 ((k / 64 : Nat) : Int))), some (.is (.int .i64 k)), some (.is (.int .i64 ((k / 64 : Nat) : Int))), some (.is (.pointer (some ⟨w.heap.size + 1, k / 64, none⟩))), some (.is (.int .u64 (cw (lo g k) (k / 64)))), some (.is (.int .i64 k)), some (.is (.int .i64 ((k % 64 : Nat) : Int))), some (.is (.int .u64 ((2 ^ (k % 64) : Nat) : Int))), some (.is (.int .u64 ((cw (lo g k) (k / 64) + 2 ^ (k % 64) : Nat) : Int))), some (.is (.pointer (some ⟨w.heap.size + 1, k / 64, none⟩)))] (fun f => #[.slice (some ⟨B, 0, none⟩) 256 256, undef, .pointer (some ⟨w.heap.size, 0, none⟩), .pointer (some ⟨w.heap.size + 1, 0, none⟩), .int .i64 k, .int .i64 k, .bool true, u7, u8, .slice (some ⟨B, 0, none⟩) 256 256, .int .i64 k, .pointer (some ⟨B, k, none⟩), .bool true, f 13, f 14, f 15, f 16, f 17, f 18, f 19, f 20, f 21, f 22, f 23, undef]) _ (by kernel_rfl) rfl (by kernel_rfl) (by kernel_rfl) (by kernel_rfl) (by kernel_rfl) (fun f => by kernel_rfl)
          ⟨by
            intro _ act W hS hun hd
            exact g_move rfl (hun 4 (by kernel_rfl)),
          by
            intro _ act W hS hun hd
            exact g_quo64 rfl (hd 0 _ 13 rfl rfl (by kernel_rfl)) hk2 rfl,
          by
            intro _ act W hS hun hd
            exact g_move rfl (hun 4 (by kernel_rfl)),
          by
            intro _ act W hS hun hd
            exact g_quo64 rfl (hd 2 _ 15 rfl rfl (by kernel_rfl)) hk2 rfl,
          by
            intro _ act W hS hun hd
            exact g_index25 hq4 rfl (hun 3 (by kernel_rfl)) (hd 3 _ 16 rfl rfl (by kernel_rfl)) rfl,
          by
            intro _ act W hS hun hd
            exact g_load23 rfl (hd 4 _ 17 rfl rfl (by kernel_rfl)) (((hB.below hS hB.lt).cell (k / 64)).trans hrow) rfl,
          by
            intro _ act W hS hun hd
            exact g_move rfl (hun 4 (by kernel_rfl)),
          by
            intro _ act W hS hun hd
            exact g_rem64 rfl (hd 6 _ 19 rfl rfl (by kernel_rfl)) hk2 rfl,
          by
            intro _ act W hS hun hd
            exact g_shl hr64 rfl (hd 7 _ 20 rfl rfl (by kernel_rfl)) rfl,
          by
            intro _ act W hS hun hd
            exact g_add64 hsum rfl (hd 5 _ 18 rfl rfl (by kernel_rfl)) (hd 8 _ 21 rfl rfl (by kernel_rfl)) rfl,
          by
            intro _ act W hS hun hd
            exact g_index25 hq4 rfl (hun 3 (by kernel_rfl)) (hd 1 _ 14 rfl rfl (by kernel_rfl)) rfl,
          trivial⟩ ?_
        intro f W hW hf
        have h22 : f 22 = .int .u64 ((cw (lo g k) (k / 64) + 2 ^ (k % 64) : Nat) : Int) := hf 9 _ 22 rfl rfl
        have h23 : f 23 = .pointer (some ⟨w.heap.size + 1, k / 64, none⟩) := hf 10 _ 23 rfl rfl
        have hB1 := hB.below hW hB.lt
        have hA1 := hA.below hW hA.lt
        have hbl1 := hbl.trans (hW.mono hbl.size)
        have hc := (hB1.cell (k / 64)).trans hrow
        have hfz := hB1.frozen (k / 64)
        have hst := hB1.set (k / 64) (.int .u64 ((cw (lo g (k + 1)) (k / 64) : Nat) : Int))
        rw [row_set (lo g k) (lo g (k + 1)) (k / 64) hq4 hoth.out] at hst
        rw [h22, h23, HADD.out]
        have HST := Lib.hid hst
        clear hf hW hst hcell hsum hrow
        go_wp2
        go_roundw
        case rel => exact ⟨k + 1, by omega, by go_num, HST.out, (Below.heap_setCell _ _ _ _ (by show w.heap.size ≠ w.heap.size + 1; omega)).trans hA1, hbl1.setCell (p := ⟨w.heap.size + 1, k / 64, none⟩) (by simp) _⟩
        case measure => simp [intOf]; omega
    · obtain rfl : k = 256 := by omega
      have hcg : (.agg #[.int .u64 (cw (lo g 256) 0), .int .u64 (cw (lo g 256) 1), .int .u64 (cw (lo g 256) 2), .int .u64 (cw (lo g 256) 3)] : Value) = .agg #[.int .u64 (cw g 0), .int .u64 (cw g 1), .int .u64 (cw g 2), .int .u64 (cw g 3)] := cls_congr fun i hi => by simp [lo, hi]
      obtain ⟨s, hs⟩ : ∃ s, s = lo g 256 := ⟨_, rfl⟩
      rw [← hs] at hB hcg
      have HCG := Lib.hid hcg
      clear hs hcg
      obtain ⟨⟨c0, c1, c2, c3⟩, ⟨f0, f1, f2, f3⟩⟩ := hB.four
      obtain ⟨⟨d0, d1, d2, d3⟩, ⟨g0, g1, g2, g3⟩⟩ := hA.four
      go_wp2
      refine bodyPost_ret (v := .agg #[.int .u64 (cw s 0), .int .u64 (cw s 1), .int .u64 (cw s 2), .int .u64 (cw s 3)]) (by simp [results, Tryz.results115, go_sem, *]; done) rfl ⟨by rw [HCG.out], ?_⟩
      exact below_set4 hbl (Nat.le_refl _) _ _ _ _
theorem ins_if (s : Nat → Bool) (x i : Nat) : cins s x i = if i = x then true else s i := by
  by_cases h : i = x <;> simp [cins, h]
theorem mem_nil : mem [] = fun _ => false := by funext i; simp [mem]

set_option maxRecDepth 100000 in
set_option maxHeartbeats 4000000 in
theorem rrange_any (a b : Nat) (w : World) (ha : a < 256) (hb : b < 256) :
    Calls Tryz.prog 89 #[.int .u8 a, .int .u8 b] w fun e w' => e = .returned (.agg #[.int .u64 (cw (rng a (b + 1)) 0), .int .u64 (cw (rng a (b + 1)) 1), .int .u64 (cw (rng a (b + 1)) 2), .int .u64 (cw (rng a (b + 1)) 3)]) ∧ Below w.heap.size w w' := by
  obtain ⟨mk, hmk, hnew⟩ := made256
  have HN := Lib.hid hnew
  clear hnew
  have hsetc := rset_any
  go_enter Tryz.func89, Tryz.ntmps89
  go_wp2
  have hst : BoolsAt ((w.alloc (.cells #[.int .u64 0, .int .u64 0, .int .u64 0, .int .u64 0] 45)).alloc (.cells mk 4)) (w.heap.size + 1) (mem []) := by
    have := HN.out (w.alloc (.cells #[.int .u64 0, .int .u64 0, .int .u64 0, .int .u64 0] 45))
    rw [World.size_alloc] at this; rw [mem_nil]; exact this
  have HST := Lib.hid hst
  clear hst hmk
  go_loopw [6] (fun i wr => ∃ n : Nat, a ≤ n ∧ (n ≤ b + 1 ∨ n = a) ∧ i = .int .i64 n ∧ BoolsAt wr (w.heap.size + 1) (rng a n) ∧ Blk wr w.heap.size #[.int .u64 0, .int .u64 0, .int .u64 0, .int .u64 0] 45 ∧ Below w.heap.size w wr) (fun i _ => b + 1 - (intOf i).toNat)
  case atStart => exact ⟨a, by omega, .inr rfl, rfl, by rw [rng_none a a (Nat.le_refl _)]; exact HST.out, (Blk.new _ _ _).alloc _, below2 _ _ _⟩
  case round =>
    obtain ⟨n, hn, hk, rfl, hB, hA, hbl⟩ := hrel
    by_cases hlt : n ≤ b
    · have hx : n < 256 := by omega
      have hm := rng_ins a n hn
      obtain ⟨s, hse⟩ : ∃ s, s = rng a n := ⟨_, rfl⟩
      rw [← hse] at hB hm
      have HM := Lib.hid hm
      have hxi : (n : Int) < 256 := by omega
      have hfz := hB.frozen n
      have hcx := hB.cell hx
      have HB := Lib.hid hB
      have HA := Lib.hid hA
      have HBL := Lib.hid hbl
      have hs2 := HB.out.lt
      clear hse hm hk hB hA hbl
      go_wp2
      go_roundw
      case rel => exact ⟨n + 1, by omega, by omega, by go_num, by rw [HM.out]; exact HB.out.set true hx (fun i _ => ins_if s n i), (Below.heap_setCell _ _ _ _ (by show w.heap.size ≠ w.heap.size + 1; omega)).trans HA.out, HBL.out.setCell (p := ⟨w.heap.size + 1, n, none⟩) (by simp) _⟩
      case measure => simp [intOf]; omega
    · have hm : rng a n = rng a (b + 1) := by
        rcases hk with h | rfl
        · rw [show n = b + 1 by omega]
        · rw [rng_none _ _ (Nat.le_refl _), rng_none _ _ (by omega)]
      rw [hm] at hB
      obtain ⟨s, hse⟩ : ∃ s, s = rng a (b + 1) := ⟨_, rfl⟩
      rw [← hse] at hB
      have HSE := Lib.hid hse
      have HB := Lib.hid hB
      clear hm hk hse hB
      go_wp2_with (go_at_call 115; (with_reducible refine (hsetc s (w.heap.size + 1) _ HB.out).mono ?_); rintro e w1 ⟨rfl, hb1⟩; have hA1 := hA.below hb1 hA.lt; have hbl1 := hbl.trans (hb1.mono hbl.size); obtain ⟨⟨d0, d1, d2, d3⟩, ⟨g0, g1, g2, g3⟩⟩ := hA1.four)
      refine bodyPost_ret (v := .agg #[.int .u64 (cw s 0), .int .u64 (cw s 1), .int .u64 (cw s 2), .int .u64 (cw s 3)]) (by simp [results, Tryz.results89, go_sem, *]; done) rfl ⟨by rw [HSE.out], ?_⟩
      exact below_set4 hbl1 (Nat.le_refl _) _ _ _ _

theorem lo_if (g : Nat → Bool) (k i : Nat) : lo g (k + 1) i = if i = k then g k else lo g k i := by
  unfold lo
  by_cases h : i = k
  · subst h; simp
  · rw [if_neg h]; congr 1; rw [Bool.eq_iff_iff]; simp; omega
theorem lo_zero' (g : Nat → Bool) : lo g 0 = fun _ => false := by funext i; simp [lo]
theorem lo_all (g : Nat → Bool) : (.agg #[.int .u64 (cw (lo g 256) 0), .int .u64 (cw (lo g 256) 1), .int .u64 (cw (lo g 256) 2), .int .u64 (cw (lo g 256) 3)] : Value) = .agg #[.int .u64 (cw g 0), .int .u64 (cw g 1), .int .u64 (cw g 2), .int .u64 (cw g 3)] := cls_congr fun i hi => by simp [lo, hi]

theorem ClsAt.slice {w : World} {B : Nat} {v : Value} {ss : List (Nat → Bool)} (h : ClsAt w B v ss) : ∃ ao cap, v = .slice ao ss.length cap ∧ ss.length ≤ maxLen ∧
    (0 < ss.length → ∃ b off, ao = some ⟨b, off, none⟩ ∧ b < B ∧ ∀ j, j < ss.length → ∀ i, i < 4 → w.cell? ⟨b, off + j * 4 + i, none⟩ = some (.int .u64 (cw (getS ss j) i))) := by
  rcases h with ⟨rfl, rfl⟩ | ⟨b, off, cap, rfl, hb, hm, hc⟩
  · exact ⟨none, 0, rfl, Nat.zero_le _, fun h => by simp at h⟩
  · exact ⟨_, cap, rfl, hm, fun _ => ⟨b, off, rfl, hb, hc⟩⟩
theorem anyS_take (ss : List (Nat → Bool)) (j k : Nat) (h : j < ss.length) : anyS (ss.take (j + 1)) k = (anyS (ss.take j) k || getS ss j k) := by
  unfold anyS
  rw [List.take_succ_eq_append_getElem h, List.any_append]; simp [getS, h]
/-- Row k of the answer G, half made: at k it is u. -/
def half (G : Nat → Bool) (k : Nat) (u : Bool) : Nat → Bool := fun i => if i = k then u else lo G k i
theorem half_start (G : Nat → Bool) (k : Nat) : half G k false = lo G k := by
  funext i; unfold half; by_cases h : i = k
  · subst h; simp [lo]
  · rw [if_neg h]
theorem half_end (G : Nat → Bool) (k : Nat) : half G k (G k) = lo G (k + 1) := by
  funext i; rw [lo_if]; rfl
theorem half_if (G : Nat → Bool) (k : Nat) (u u' : Bool) (i : Nat) : half G k u' i = if i = k then u' else half G k u i := by
  unfold half; by_cases h : i = k <;> simp [h]
theorem half_at (G : Nat → Bool) (k : Nat) (u : Bool) : half G k u k = u := by simp [half]

set_option maxRecDepth 100000 in
set_option maxHeartbeats 8000000 in
theorem ror_any (v : Value) (ss : List (Nat → Bool)) (w : World) (h : ClsAt w w.heap.size v ss) :
    Calls Tryz.prog 90 #[v] w fun e w' => e = .returned (.agg #[.int .u64 (cw (anyS ss) 0), .int .u64 (cw (anyS ss) 1), .int .u64 (cw (anyS ss) 2), .int .u64 (cw (anyS ss) 3)]) ∧ Below w.heap.size w w' := by
  obtain ⟨ao, cap, rfl, hm, hc⟩ := h.slice
  have HC := Lib.hid hc
  unfold maxLen at hm
  obtain ⟨g, hg⟩ : ∃ g : Nat → Bool, g = anyS ss := ⟨_, rfl⟩
  rw [← hg]
  have HG := Lib.hid hg
  obtain ⟨mk, hmk, hnew⟩ := made256
  have HN := Lib.hid hnew
  clear hnew hg hc h
  have hsetc := rset_any
  go_enter Tryz.func90, Tryz.ntmps90
  go_wp2
  have hst : BoolsAt ((w.alloc (.cells #[.int .u64 0, .int .u64 0, .int .u64 0, .int .u64 0] 45)).alloc (.cells mk 4)) (w.heap.size + 1) (lo g 0) := by
    have := HN.out (w.alloc (.cells #[.int .u64 0, .int .u64 0, .int .u64 0, .int .u64 0] 45))
    rw [World.size_alloc] at this; rw [lo_zero']; exact this
  have HST := Lib.hid hst
  clear hst hmk
  go_loopw [4] (fun i wr => ∃ k : Nat, k ≤ 256 ∧ i = .int .i64 k ∧ BoolsAt wr (w.heap.size + 1) (lo g k) ∧ Blk wr w.heap.size #[.int .u64 0, .int .u64 0, .int .u64 0, .int .u64 0] 45 ∧ Below w.heap.size w wr) (fun i _ => 256 - (intOf i).toNat)
  case atStart => exact ⟨0, by omega, rfl, HST.out, (Blk.new _ _ _).alloc _, below2 _ _ _⟩
  case round =>
    obtain ⟨k, hk, rfl, hB, hA, hbl⟩ := hrel
    by_cases hlt : k < 256
    · have hi : (k : Int) < 256 := by omega
      have hdk : decide ((k : Int) < 256) = true := by simp; omega
      have HB := Lib.hid hB
      have HA := Lib.hid hA
      have HBL := Lib.hid hbl
      clear hB hA hbl
      go_wp2
      obtain ⟨wo, rfl⟩ : ∃ wo : World, wo = wr := ⟨_, rfl⟩
      go_loopw [5] (fun i wi => ∃ j : Nat, j ≤ ss.length ∧ i = .int .i64 j ∧ BoolsAt wi (w.heap.size + 1) (half g k (anyS (ss.take j) k)) ∧ Blk wi w.heap.size #[.int .u64 0, .int .u64 0, .int .u64 0, .int .u64 0] 45 ∧ Below w.heap.size w wi) (fun i _ => ss.length - (intOf i).toNat)
      case atStart => exact ⟨0, by omega, rfl, by rw [show anyS (ss.take 0) k = false by simp [anyS], half_start]; exact HB.out, HA.out, HBL.out⟩
      case round =>
        obtain ⟨j, hj, rfl, hBi, hAi, hbi⟩ := hrel
        by_cases hjl : j < ss.length
        · obtain ⟨b, off, rfl, hb, hcl⟩ := HC.out (by omega)
          have e0 := (hbi.cell (p := ⟨b, off + j * 4 + 0, none⟩) hb).trans (hcl j hjl 0 (by decide))
          have e1 := (hbi.cell (p := ⟨b, off + j * 4 + 1, none⟩) hb).trans (hcl j hjl 1 (by decide))
          have e2 := (hbi.cell (p := ⟨b, off + j * 4 + 2, none⟩) hb).trans (hcl j hjl 2 (by decide))
          have e3 := (hbi.cell (p := ⟨b, off + j * 4 + 3, none⟩) hb).trans (hcl j hjl 3 (by decide))
          rw [Nat.add_zero] at e0
          have hcx := hBi.cell hlt
          rw [half_at] at hcx
          have hfz := hBi.frozen k
          have hat := anyS_take ss j k hjl
          obtain ⟨t, hte⟩ : ∃ t, t = getS ss j := ⟨_, rfl⟩
          rw [← hte] at e0 e1 e2 e3 hat
          have hrh := fun w => rhas_any t k w hlt
          obtain ⟨tk, htk⟩ : ∃ b, b = t k := ⟨_, rfl⟩
          rw [← htk] at hat hrh
          have HBI := Lib.hid hBi
          have HAI := Lib.hid hAi
          have hs2 := HBI.out.lt
          have HBBI := Lib.hid hbi
          clear hte htk hcl hBi hAi hbi
          cases hu : anyS (ss.take j) k with
          | true =>
            rw [hu] at hcx hat HBI
            have HAT := Lib.hid hat
            clear hu hat e0 e1 e2 e3
            go_wp2
            go_roundw
            case rel => exact ⟨j + 1, by omega, by go_num, by rw [HAT.out]; exact HBI.out.set true hlt (fun i _ => half_if g k true _ i), (Below.heap_setCell _ _ _ _ (by show w.heap.size ≠ w.heap.size + 1; omega)).trans HAI.out, HBBI.out.setCell (p := ⟨w.heap.size + 1, k, none⟩) (by simp) _⟩
            case measure => simp [intOf]; omega
          | false =>
            rw [hu] at hcx hat HBI
            have HAT := Lib.hid hat
            clear hu hat
            go_wp2_with (go_at_call 116; (with_reducible refine (hrh _).mono ?_); rintro e w1 ⟨rfl, hb1⟩; have hB1 := HBI.out.below hb1 hs2; have hA1 := HAI.out.below hb1 HAI.out.lt; have hbl1 := HBBI.out.trans (hb1.mono HBBI.out.size); have hfz1 := hB1.frozen k; have hcx1 := hB1.cell hlt; clear e0 e1 e2 e3 hcx hfz)
            go_roundw
            case rel => exact ⟨j + 1, by omega, by go_num, by rw [HAT.out]; exact hB1.set tk hlt (fun i _ => half_if g k false _ i), (Below.heap_setCell _ _ _ _ (by show w.heap.size ≠ w.heap.size + 1; omega)).trans hA1, hbl1.setCell (p := ⟨w.heap.size + 1, k, none⟩) (by simp) _⟩
            case measure => simp [intOf]; omega
        · obtain rfl : j = ss.length := by omega
          rw [List.take_length, ← HG.out, half_end] at hBi
          have HBI := Lib.hid hBi
          have HAI := Lib.hid hAi
          have HBBI := Lib.hid hbi
          clear hBi hAi hbi
          go_wp2
          go_roundw
          case rel => exact ⟨k + 1, by omega, by go_num, HBI.out, HAI.out, HBBI.out⟩
          case measure => simp [intOf]; omega
    · obtain rfl : k = 256 := by omega
      have HL := Lib.hid (lo_all g)
      obtain ⟨u, hu⟩ : ∃ u, u = lo g 256 := ⟨_, rfl⟩
      rw [← hu] at hB HL
      have HB := Lib.hid hB
      clear hB hu
      go_wp2_with (go_at_call 115; (with_reducible refine (hsetc u (w.heap.size + 1) _ HB.out).mono ?_); rintro e w1 ⟨rfl, hb1⟩; have hA1 := hA.below hb1 hA.lt; have hbl1 := hbl.trans (hb1.mono hbl.size); obtain ⟨⟨d0, d1, d2, d3⟩, ⟨g0, g1, g2, g3⟩⟩ := hA1.four)
      refine bodyPost_ret (v := .agg #[.int .u64 (cw u 0), .int .u64 (cw u 1), .int .u64 (cw u 2), .int .u64 (cw u 3)]) (by simp [results, Tryz.results90, go_sem, *]; done) rfl ⟨by rw [HL.out], ?_⟩
      exact below_set4 hbl1 (Nat.le_refl _) _ _ _ _
end Go.Proofs.YtfpcgoioneanaaaGreatDoor
namespace Go.Proofs.YtfpcgoioneanaaaGreatDoor
open Go Go.RowKit
/-- The word that a class in brackets is, or none. -/
def rcl (k : Nat) (o : Option (List (Nat × Nat) × Nat)) : Array Value := match o with
  | some x => #[.int .i64 4, .int .i64 k, .int .i64 (k + 1 + x.2 : Nat), .string ⟨#[]⟩, .int .i64 0, .int .u64 (cw (cls x.1) 0), .int .u64 (cw (cls x.1) 1), .int .u64 (cw (cls x.1) 2), .int .u64 (cw (cls x.1) 3)]
  | none => wzero
/-- Classes' cells. -/
def ccells : List (Nat × Nat) → List Value
  | [] => []
  | p :: r => .int .u64 (cw (rng p.1 (p.2 + 1)) 0) :: .int .u64 (cw (rng p.1 (p.2 + 1)) 1) :: .int .u64 (cw (rng p.1 (p.2 + 1)) 2) :: .int .u64 (cw (rng p.1 (p.2 + 1)) 3) :: ccells r
theorem ccells_length : ∀ l : List (Nat × Nat), (ccells l).length = l.length * 4
  | [] => rfl
  | p :: l => by simp [ccells, ccells_length l]; omega
theorem ccells_app : ∀ (a b : List (Nat × Nat)), ccells (a ++ b) = ccells a ++ ccells b
  | [], b => rfl
  | p :: a, b => by simp [ccells, ccells_app a b]
theorem ccells_at : ∀ (l : List (Nat × Nat)) (j i : Nat), j < l.length → i < 4 → (ccells l)[j * 4 + i]? = some (.int .u64 (cw (rng (l.getD j (0, 0)).1 ((l.getD j (0, 0)).2 + 1)) i))
  | [], j, i, h, _ => by simp at h
  | p :: l, 0, i, _, hi => by
    rcases (show i = 0 ∨ i = 1 ∨ i = 2 ∨ i = 3 by omega) with rfl | rfl | rfl | rfl <;> rfl
  | p :: l, j + 1, i, h, hi => by
    have := ccells_at l j i (by simpa using h) hi
    rw [show (j + 1) * 4 + i = (j * 4 + i) + 1 + 1 + 1 + 1 by omega]
    simpa [ccells] using this
theorem own_cls {w : World} {base : Nat} {v : Value} {acc : List (Nat × Nat)} (h : w.ownsRow base 45 4 v acc.length (ccells acc)) : ClsAt w w.heap.size v (acc.map fun p => rng p.1 (p.2 + 1)) := by
  have hlt := h.lt
  rcases h.2 with ⟨h1, h2⟩ | ⟨g, cap, cur, h1, hb, hh, hn, hc, hs, rest⟩
  · refine .inl ⟨h1, ?_⟩
    rw [List.length_eq_zero_iff.1 h2]
    rfl
  · subst h1
    refine .inr ⟨g, 0, cap, by rw [List.length_map], (hlt g rfl).2, by rw [List.length_map]; omega, fun j hj i hi => ?_⟩
    rw [List.length_map] at hj
    rw [Nat.zero_add, h.cellAt (j * 4 + i) (by omega), ccells_at acc j i hj hi]
    unfold getS
    rw [List.getElem?_map, List.getD_eq_getElem?_getD, List.getElem?_eq_getElem hj]
    rfl
theorem any_map (acc : List (Nat × Nat)) : anyS (acc.map fun p => rng p.1 (p.2 + 1)) = cls acc := by
  funext i
  simp only [anyS, cls, List.any_map, Function.comp_def, rng]
  congr 1
  funext p
  rw [Bool.eq_iff_iff]
  simp
  omega
theorem Tryz.infoCls : (Tryz.prog.info? 45).map (fun i => (i.zero, i.size, i.bytes)) = some (some (.agg #[.int .u64 0, .int .u64 0, .int .u64 0, .int .u64 0]), 4, 32) := by kernel_rfl
theorem item_none {l : List Nat} (h : rd 2 l = none) : item l = none := by unfold item; rw [h]
theorem item_one {l : List Nat} {x n : Nat} (h : rd 2 l = some (x, n)) (h2 : (l.drop n).head? ≠ some 45) : item l = some ((x, x), n) := by unfold item; rw [h]; dsimp only; rw [if_neg h2]
theorem item_half {l : List Nat} {x n : Nat} (h : rd 2 l = some (x, n)) (h2 : (l.drop n).head? = some 45) (h3 : rd 2 (l.drop (n + 1)) = none) : item l = none := by unfold item; rw [h]; dsimp only; rw [if_pos h2, h3]; rfl
theorem item_two {l : List Nat} {x n y m : Nat} (h : rd 2 l = some (x, n)) (h2 : (l.drop n).head? = some 45) (h3 : rd 2 (l.drop (n + 1)) = some (y, m)) : item l = some ((x, y), n + 1 + m) := by unfold item; rw [h]; dsimp only; rw [if_pos h2, h3]; rfl
theorem blk_own {w w' : World} {x base n e size : Nat} {vs : Array Value} {T : TypeId} {v : Value} {xs : List Value} (hB : Blk w x vs T) (hown : w.ownsRow base e size v n xs) (hT : T ≠ e) (hg : w.grownBy w' v.ownBlock) : Blk w' x vs T := by
  refine (hg.block x hB.lt (fun e' => ?_)).trans hB
  rcases hown.2 with ⟨h1, _⟩ | ⟨g, cap, cur, h1, _, hh, _⟩
  · subst h1; cases e'
  · subst h1
    simp only [Value.ownBlock, Option.some.injEq] at e'
    have hb9 : w.heap[x]? = some (.cells vs T (0, 0)) := hB
    rw [e', hh] at hb9
    simp only [Option.some.injEq, Obj.cells.injEq] at hb9
    exact hT hb9.2.1.symm
/-- What lies while a class is gone through. -/
structure RCL (w : World) (j : Nat) (v : Value) (acc : List (Nat × Nat)) (W : World) : Prop where
  row : W.ownsRow (w.heap.size + 1) 45 4 v acc.length (ccells acc)
  box : Blk W w.heap.size wzero 62
  low : Below w.heap.size w W
  up : w.heap.size + 1 ≤ W.heap.size
  few : acc.length ≤ j
theorem RCL.grow {w W W' : World} {j : Nat} {v : Value} {acc : List (Nat × Nat)} (h : RCL w j v acc W) (hb : Below W.heap.size W W') : RCL w j v acc W' :=
  ⟨own_below h.row hb, h.box.below' hb, bb h.low hb, Nat.le_trans h.up hb.size, h.few⟩
theorem RCL.drew {w W : World} {j : Nat} {v : Value} {acc : List (Nat × Nat)} (h : RCL w j v acc W) (n : Nat) : RCL w j v acc (W.drewN n) := h.grow (bdrew (Below.refl _ _))
theorem RCL.next {w W W' : World} {j j' : Nat} {v v' : Value} {acc : List (Nat × Nat)} {u y : Nat} {o : Obj} (h : RCL w j v acc W) (hj : j < j') (ho : W'.ownsRow (w.heap.size + 1) 45 4 v' (acc.length + 1) (ccells acc ++ [.int .u64 (cw (rng u (y + 1)) 0), .int .u64 (cw (rng u (y + 1)) 1), .int .u64 (cw (rng u (y + 1)) 2), .int .u64 (cw (rng u (y + 1)) 3)])) (hg : (W.alloc o).grownBy W' v.ownBlock) : RCL w j' v' (acc ++ [(u, y)]) W' := by
  have h1 := h.grow (B1 W o)
  refine ⟨by rw [ccells_app, List.length_append]; exact ho, blk_own h1.box h1.row (by decide) hg, h1.low.grown hg (by have := h1.low.size; exact this) (fun q hq => by have := (h1.row.lt q hq).1; omega), Nat.le_trans h1.up hg.size, by have := h.few; simp; omega⟩
set_option maxRecDepth 100000 in
set_option maxHeartbeats 8000000 in
theorem rclassed_any (k : Nat) (s : ByteArray) (l : List Nat) (hs : Str s l) (hl : l.length ≤ 60000) (hk : k < l.length) (w : World) :
    Calls Tryz.prog 62 #[.string s, .int .i64 k] w fun e w' => Below w.heap.size w w' ∧ e = .returned (.agg (rcl k (ST (l.drop (k + 1))))) := by
  have hz := hs.size
  have SH := Lib.hid hs
  have ZZ := Lib.hid hz
  have hz3 : (s.size : Int) ≤ 60000 := by omega
  have hk3 : (k : Int) + 1 ≤ s.size := by omega
  obtain ⟨o, eo⟩ : ∃ o, o = ST (l.drop (k + 1)) := ⟨_, rfl⟩
  rw [← eo]
  have EO := Lib.hid eo
  have RDA := Lib.hid (fun j w => rread_any s l j 2 hs hl w)
  obtain ⟨i0, hi0, hiz0, hiz1, hiz2⟩ := info_parts Tryz.infoCls
  have HI := Lib.hid (And.intro hi0 (And.intro hiz0 (And.intro hiz1 hiz2)))
  obtain ⟨w0, ew0⟩ : ∃ u, u = w.alloc (.cells wzero 62) := ⟨_, rfl⟩
  have F0 : RowKit.Hid (RCL w (k + 1) (.slice none 0 0) [] w0) := Lib.hid (by rw [ew0]; exact ⟨World.ownsRow_nil _ _ _ _, Blk.new _ _ _, B1 w _, by simp, by simp⟩)
  have ew1 := ew0
  simp only [wzero] at ew1
  clear hs hz eo ew0 hi0 hiz0 hiz1 hiz2
  go_enter Tryz.func62, Tryz.ntmps62
  go_wp2_with fail
  rw [← ew1]
  clear ew1
  go_loopw [5, 6, 7, 8, 9, 10, 11, 12, 13] (fun v5 v6 _ _ _ _ _ _ _ wr => ∃ (j : Nat) (acc : List (Nat × Nat)), k + 1 ≤ j ∧ j ≤ l.length ∧ v6 = .int .i64 j ∧ o = sAdd acc (j - (k + 1)) (ST (l.drop j)) ∧ RCL w j v5 acc wr) (fun _ v6 _ _ _ _ _ _ _ _ => l.length - (intOf v6).toNat)
  case atStart => exact ⟨k + 1, [], Nat.le_refl _, hk, by go_num, by rw [EO.out]; simp [sAdd], F0.out⟩
  case round =>
    obtain ⟨j, acc, hkj, hj, rfl, hq, hF⟩ := hrel
    have HQ := Lib.hid hq
    have FR := Lib.hid hF
    clear hq hF
    obtain ⟨A5, c5, rfl, hA5, _⟩ := own_slice FR.out.row
    by_cases hlt : j < l.length
    · obtain ⟨u, eu⟩ : ∃ v, v = l.getD j 0 := ⟨_, rfl⟩
      have hu : u < 256 := by rw [eu, List.getD_eq_getElem?_getD, List.getElem?_eq_getElem hlt]; exact SH.out.lt _ (List.getElem_mem hlt)
      have x0 : ∀ h, (s[j]'h).toNat = u := fun h => (SH.out.at_ j h).trans eu.symm
      have j3 : (j : Int) < s.size := by have := ZZ.out; omega
      have j4 : j < s.size := by have := ZZ.out; omega
      have hd : (l.drop j).head? = some u := by rw [List.drop_eq_getElem_cons hlt, eu]; simp [List.getD, List.getElem?_eq_getElem hlt]
      by_cases h93 : u = 93
      · have g1 : ((u : Int) == 93) = true := by simp; omega
        have g2 : ((u : Int) != 93) = false := by simp; omega
        have FIN : RowKit.Hid (o = some (acc, j - (k + 1) + 1)) := Lib.hid (by rw [HQ.out, ST_end (by rw [hd, h93])]; simp [sAdd])
        have NX := Lib.hid (show k + 1 + (j - (k + 1) + 1) = j + 1 by omega)
        have OR := Lib.hid (ror_any _ _ _ (own_cls FR.out.row))
        rw [any_map] at OR
        have w1 : IntKind.i64.wrap ((j : Int) + 1) = (j : Int) + 1 := IntWalk.i64_in _ (by omega)
        obtain ⟨cc', ec⟩ : ∃ c, c = cls acc := ⟨_, rfl⟩
        rw [← ec] at OR
        have EC := Lib.hid ec
        clear eu hu hd h93 hlt hkj hj hk ec
        go_wp2_with (first | (go_at_call 90; (with_reducible refine (OR.out).mono ?_); rintro e w3 ⟨rfl, hb⟩; have F3 := Lib.hid (FR.out.grow hb); clear hb) | (refine wpList_store_whole rfl 62 (.tmp 4) (.tmp 77) rfl w.heap.size #[.int .i64 4, .int .i64 k, .int .i64 ((j : Int) + 1), .string ⟨#[]⟩, .int .i64 0, .int .u64 (cw cc' 0), .int .u64 (cw cc' 1), .int .u64 (cw cc' 2), .int .u64 (cw cc' 3)] rfl rfl 62 _ F3.out.box (by kernel_rfl) (by rfl) (by simp [Value.oneCell']) ?_; intro w7 hk7 hg7; have K7 := Lib.hid hk7; have H7 := Lib.hid (below_store F3.out.low hg7 (Nat.le_refl _)); clear hk7 hg7))
        exact bodyPost_ret (results_cell_row rfl _ _ w.heap.size 62 _ _ _ rfl K7.out Tryz.underlying62 rfl (by kernel_rfl)) rfl ⟨H7.out, by rw [FIN.out]; simp only [rcl]; rw [NX.out, EC.out]; rfl⟩
      · have g1 : ((u : Int) == 93) = false := by simp; omega
        have g2 : ((u : Int) != 93) = true := by simp; omega
        have hh : (l.drop j).head? ≠ some 93 := by rw [hd]; intro e; cases e; exact h93 rfl
        have hdl : ∀ y ∈ l.drop j, y < 256 := fun y hy => SH.out.lt y (List.mem_of_mem_drop hy)
        have RJ := Lib.hid (fun w => RDA.out (j : Int) w)
        rw [rst_nat] at RJ
        cases hr : rd 2 (l.drop j) with
        | none =>
          rw [RE_none hr] at RJ
          have FIN : RowKit.Hid (o = none) := Lib.hid (by rw [HQ.out, ST_no hh (item_none hr)]; rfl)
          clear eu hu hd h93 hlt hkj hj hh hr hk hdl
          go_wp2_with (first | (go_at_call 88; (with_reducible refine (RJ.out _).mono ?_); rintro e w3 ⟨rfl, m, rfl⟩; have F3 := Lib.hid (FR.out.drew m)) | (refine wpList_store_whole rfl 62 (.tmp 4) (.tmp 35) rfl w.heap.size wzero rfl rfl 62 _ F3.out.box (by kernel_rfl) (by rfl) (by simp [Value.oneCell']) ?_; intro w7 hk7 hg7; have K7 := Lib.hid hk7; have H7 := Lib.hid (below_store F3.out.low hg7 (Nat.le_refl _)); clear hk7 hg7))
          exact bodyPost_ret (results_cell_row rfl _ _ w.heap.size 62 _ _ _ rfl K7.out Tryz.underlying62 rfl (by kernel_rfl)) rfl ⟨H7.out, by rw [FIN.out]; rfl⟩
        | some xn =>
          obtain ⟨x, n⟩ := xn
          rw [RE_some hr] at RJ
          obtain ⟨_, m1, m2, hx, _, _⟩ := rd_ok hdl hr
          rw [List.length_drop] at m2
          obtain ⟨q, eq⟩ : ∃ q : Nat, q = j + n := ⟨_, rfl⟩
          have eqI : (j : Int) + (n : Int) = q := by omega
          rw [eqI] at RJ
          have hql : q ≤ l.length := by omega
          have hqj : j < q := by omega
          have hdq : (l.drop j).drop n = l.drop q := by rw [List.drop_drop, eq]
          have LX := Lib.hid hx
          obtain ⟨hi0, hiz0, hiz1, hiz2⟩ := HI.out
          by_cases h45 : (l.drop q).head? = some 45
          · have hq3 : q < l.length := by
              apply Nat.lt_of_not_le
              intro hge
              rw [List.drop_of_length_le hge] at h45
              cases h45
            have y0 : ∀ h, (s[q]'h).toNat = 45 := fun h => (SH.out.at_ q h).trans (by rw [List.drop_eq_getElem_cons hq3] at h45; simp only [List.head?_cons, Option.some.injEq] at h45; simp [List.getD, List.getElem?_eq_getElem hq3, h45])
            have q3 : (q : Int) < s.size := by have := ZZ.out; omega
            have q4 : q < s.size := by have := ZZ.out; omega
            have RK := Lib.hid (fun w => RDA.out ((q + 1 : Nat) : Int) w)
            rw [rst_nat] at RK
            have w1 : IntKind.i64.wrap ((q : Int) + 1) = (q : Int) + 1 := IntWalk.i64_in _ (by omega)
            have hd45 : ((l.drop j).drop n).head? = some 45 := by rw [hdq]; exact h45
            have hdq1 : (l.drop j).drop (n + 1) = l.drop (q + 1) := by rw [List.drop_drop, eq, Nat.add_assoc]
            cases hr2 : rd 2 (l.drop (q + 1)) with
            | none =>
              rw [RE_none hr2, Int.natCast_add] at RK
              have FIN : RowKit.Hid (o = none) := Lib.hid (by rw [HQ.out, ST_no hh (item_half hr hd45 (by rw [hdq1]; exact hr2))]; rfl)
              clear eu hu hd h93 hlt hkj hj hh hr hk hdl eq eqI hdq h45 hd45 hdq1 hr2 m1 m2 hx hql hqj
              go_wp2_with fail
              go_at_call 88
              refine (RJ.out _).mono ?_
              rintro e w3 ⟨rfl, m, rfl⟩
              have F3 := Lib.hid (FR.out.drew m)
              go_wp2_with fail
              go_at_call 88
              refine (RK.out _).mono ?_
              rintro e w4 ⟨rfl, m2, rfl⟩
              have F4 := Lib.hid (FR.out.drew (m + m2))
              go_wp2_with (refine wpList_store_whole rfl 62 (.tmp 4) (.tmp 57) rfl w.heap.size wzero rfl rfl 62 _ F4.out.box (by kernel_rfl) (by rfl) (by simp [Value.oneCell']) ?_; intro w7 hk7 hg7; have K7 := Lib.hid hk7; have H7 := Lib.hid (below_store F4.out.low hg7 (Nat.le_refl _)); clear hk7 hg7)
              exact bodyPost_ret (results_cell_row rfl _ _ w.heap.size 62 _ _ _ rfl K7.out Tryz.underlying62 rfl (by kernel_rfl)) rfl ⟨H7.out, by rw [FIN.out]; rfl⟩
            | some ym =>
              obtain ⟨y, m⟩ := ym
              have hdl2 : ∀ y ∈ l.drop (q + 1), y < 256 := fun y hy => SH.out.lt y (List.mem_of_mem_drop hy)
              obtain ⟨_, m3, m4, hy, _, _⟩ := rd_ok hdl2 hr2
              rw [List.length_drop] at m4
              rw [RE_some hr2] at RK
              obtain ⟨p, ep⟩ : ∃ p : Nat, p = q + 1 + m := ⟨_, rfl⟩
              rw [show ((q + 1 : Nat) : Int) + (m : Int) = p by omega, Int.natCast_add] at RK
              have hit := item_two hr hd45 (by rw [hdq1]; exact hr2)
              have FIN : RowKit.Hid (o = sAdd (acc ++ [(x, y)]) (p - (k + 1)) (ST (l.drop p))) := Lib.hid (by
                rw [HQ.out, ST_more hdl hh hit, List.drop_drop, show j + (n + 1 + m) = p by omega]
                unfold sAdd
                rw [Option.map_map]
                congr 1
                funext y
                simp only [Function.comp_def, List.append_assoc, List.singleton_append, Prod.mk.injEq, true_and]
                omega)
              have LY := Lib.hid (And.intro hy (And.intro (show p ≤ l.length by omega) (show j < p by omega)))
              have RG := Lib.hid (fun w => rrange_any x y w hx hy)
              obtain ⟨c, ec⟩ : ∃ c, c = rng x (y + 1) := ⟨_, rfl⟩
              rw [← ec] at RG
              have EC := Lib.hid ec
              have HKJ := Lib.hid (And.intro hkj hj)
              clear eu hu hd h93 hkj hh hr hk hdl eq eqI hdq h45 hd45 hdq1 hr2 m1 m2 hx hql hqj hdl2 m3 m4 hy ep hit ec
              go_wp2_with fail
              go_at_call 88
              refine (RJ.out _).mono ?_
              rintro e w3 ⟨rfl, m', rfl⟩
              have F3 := Lib.hid (FR.out.drew m')
              go_wp2_with fail
              go_at_call 88
              refine (RK.out _).mono ?_
              rintro e w4 ⟨rfl, m2, rfl⟩
              have F4 := Lib.hid (FR.out.drew (m' + m2))
              go_wp2_with (first | (go_at_call 89; (with_reducible refine (RG.out _).mono ?_); rintro e w5 ⟨rfl, hb⟩; have F5 := Lib.hid (F4.out.grow hb); have F6 := Lib.hid (F5.out.grow (B1 w5 (.cells #[.int .u64 (cw c 0), .int .u64 (cw c 1), .int .u64 (cw c 2), .int .u64 (cw c 3)] 45))); clear hb) | (at_builtin; refine wpList_append_onto _ rfl (.tmp 60) (.tmp 64) 149 rfl (w.heap.size + 1) 45 i0 _ 4 32 Tryz.underlying149 hi0 hiz0 hiz1 hiz2 rfl (by decide) _ acc.length (ccells acc) rfl F6.out.row (some ⟨w5.heap.size, 0, none⟩) 1 1 [.int .u64 (cw c 0), .int .u64 (cw c 1), .int .u64 (cw c 2), .int .u64 (cw c 3)] rfl rfl (fun a ha j u hu => by cases ha; rw [Addr.add_lit, (Blk.new w5 _ _).cell]; simpa using hu) (fun h => by cases h) (by simp [Value.oneCell']) (by have := F6.out.few; unfold maxLen; omega) (by have := F6.out.few; omega) (by have := F6.out.up; exact this) ?_; intro v1 w7 hown hg _; have HO := Lib.hid hown; have HG := Lib.hid hg; clear hown hg))
              obtain ⟨A9, c9, rfl, _, _⟩ := own_slice HO.out
              go_roundw
              case rel => exact ⟨p, acc ++ [(x, y)], by have := LY.out; have := HKJ.out; omega, LY.out.2.1, rfl, FIN.out, F5.out.next LY.out.2.2 (by rw [← EC.out]; exact HO.out) HG.out⟩
              case measure => have := LY.out; simp [intOf]; omega
          · by_cases hq3 : q < l.length
            · obtain ⟨v, ev⟩ : ∃ v, v = l.getD q 0 := ⟨_, rfl⟩
              have hv : v ≠ 45 := by
                intro e
                apply h45
                rw [List.drop_eq_getElem_cons hq3, List.head?_cons, ← e, ev]
                simp [List.getD, List.getElem?_eq_getElem hq3]
              have y0 : ∀ h, (s[q]'h).toNat = v := fun h => (SH.out.at_ q h).trans ev.symm
              have q3 : (q : Int) < s.size := by have := ZZ.out; omega
              have q4 : q < s.size := by have := ZZ.out; omega
              have k1 : ((v : Int) == 45) = false := by simp; omega
              clear ev hv
              have hit := item_one hr (by rw [hdq]; exact h45)
              have FIN : RowKit.Hid (o = sAdd (acc ++ [(x, x)]) (q - (k + 1)) (ST (l.drop q))) := Lib.hid (by
                rw [HQ.out, ST_more hdl hh hit, hdq]
                unfold sAdd
                rw [Option.map_map]
                congr 1
                funext y
                simp only [Function.comp_def, List.append_assoc, List.singleton_append, Prod.mk.injEq, true_and]
                omega)
              have LY := Lib.hid (And.intro hql hqj)
              have RG := Lib.hid (fun w => rrange_any x x w hx hx)
              obtain ⟨c, ec⟩ : ∃ c, c = rng x (x + 1) := ⟨_, rfl⟩
              rw [← ec] at RG
              have EC := Lib.hid ec
              have HKJ := Lib.hid (And.intro hkj hj)
              clear eu hu hd h93 hkj hh hr hk hdl eq eqI hdq h45 m1 m2 hx hql hqj hit ec
              go_wp2_with fail
              go_at_call 88
              refine (RJ.out _).mono ?_
              rintro e w3 ⟨rfl, m', rfl⟩
              have F4 := Lib.hid (FR.out.drew m')
              go_wp2_with (first | (go_at_call 89; (with_reducible refine (RG.out _).mono ?_); rintro e w5 ⟨rfl, hb⟩; have F5 := Lib.hid (F4.out.grow hb); have F6 := Lib.hid (F5.out.grow (B1 w5 (.cells #[.int .u64 (cw c 0), .int .u64 (cw c 1), .int .u64 (cw c 2), .int .u64 (cw c 3)] 45))); clear hb) | (at_builtin; refine wpList_append_onto _ rfl (.tmp 60) (.tmp 64) 149 rfl (w.heap.size + 1) 45 i0 _ 4 32 Tryz.underlying149 hi0 hiz0 hiz1 hiz2 rfl (by decide) _ acc.length (ccells acc) rfl F6.out.row (some ⟨w5.heap.size, 0, none⟩) 1 1 [.int .u64 (cw c 0), .int .u64 (cw c 1), .int .u64 (cw c 2), .int .u64 (cw c 3)] rfl rfl (fun a ha j u hu => by cases ha; rw [Addr.add_lit, (Blk.new w5 _ _).cell]; simpa using hu) (fun h => by cases h) (by simp [Value.oneCell']) (by have := F6.out.few; unfold maxLen; omega) (by have := F6.out.few; omega) (by have := F6.out.up; exact this) ?_; intro v1 w7 hown hg _; have HO := Lib.hid hown; have HG := Lib.hid hg; clear hown hg))
              obtain ⟨A9, c9, rfl, _, _⟩ := own_slice HO.out
              go_roundw
              case rel => exact ⟨q, acc ++ [(x, x)], by have := LY.out; have := HKJ.out; omega, LY.out.1, rfl, FIN.out, F5.out.next LY.out.2 (by rw [← EC.out]; exact HO.out) HG.out⟩
              case measure => have := LY.out; simp [intOf]; omega
            · have q3 : ¬ (q : Int) < s.size := by have := ZZ.out; omega
              have q5 : (s.size : Int) ≤ q := by have := ZZ.out; omega
              have hit := item_one hr (by rw [hdq]; exact h45)
              have FIN : RowKit.Hid (o = sAdd (acc ++ [(x, x)]) (q - (k + 1)) (ST (l.drop q))) := Lib.hid (by
                rw [HQ.out, ST_more hdl hh hit, hdq]
                unfold sAdd
                rw [Option.map_map]
                congr 1
                funext y
                simp only [Function.comp_def, List.append_assoc, List.singleton_append, Prod.mk.injEq, true_and]
                omega)
              have LY := Lib.hid (And.intro hql hqj)
              have RG := Lib.hid (fun w => rrange_any x x w hx hx)
              obtain ⟨c, ec⟩ : ∃ c, c = rng x (x + 1) := ⟨_, rfl⟩
              rw [← ec] at RG
              have EC := Lib.hid ec
              have HKJ := Lib.hid (And.intro hkj hj)
              clear eu hu hd h93 hkj hh hr hk hdl eq eqI hdq h45 m1 m2 hx hql hqj hit ec
              go_wp2_with fail
              go_at_call 88
              refine (RJ.out _).mono ?_
              rintro e w3 ⟨rfl, m', rfl⟩
              have F4 := Lib.hid (FR.out.drew m')
              go_wp2_with (first | (go_at_call 89; (with_reducible refine (RG.out _).mono ?_); rintro e w5 ⟨rfl, hb⟩; have F5 := Lib.hid (F4.out.grow hb); have F6 := Lib.hid (F5.out.grow (B1 w5 (.cells #[.int .u64 (cw c 0), .int .u64 (cw c 1), .int .u64 (cw c 2), .int .u64 (cw c 3)] 45))); clear hb) | (at_builtin; refine wpList_append_onto _ rfl (.tmp 60) (.tmp 64) 149 rfl (w.heap.size + 1) 45 i0 _ 4 32 Tryz.underlying149 hi0 hiz0 hiz1 hiz2 rfl (by decide) _ acc.length (ccells acc) rfl F6.out.row (some ⟨w5.heap.size, 0, none⟩) 1 1 [.int .u64 (cw c 0), .int .u64 (cw c 1), .int .u64 (cw c 2), .int .u64 (cw c 3)] rfl rfl (fun a ha j u hu => by cases ha; rw [Addr.add_lit, (Blk.new w5 _ _).cell]; simpa using hu) (fun h => by cases h) (by simp [Value.oneCell']) (by have := F6.out.few; unfold maxLen; omega) (by have := F6.out.few; omega) (by have := F6.out.up; exact this) ?_; intro v1 w7 hown hg _; have HO := Lib.hid hown; have HG := Lib.hid hg; clear hown hg))
              obtain ⟨A9, c9, rfl, _, _⟩ := own_slice HO.out
              go_roundw
              case rel => exact ⟨q, acc ++ [(x, x)], by have := LY.out; have := HKJ.out; omega, LY.out.1, rfl, FIN.out, F5.out.next LY.out.2 (by rw [← EC.out]; exact HO.out) HG.out⟩
              case measure => have := LY.out; simp [intOf]; omega
    · have j3 : ¬ (j : Int) < s.size := by have := ZZ.out; omega
      have j5 : (s.size : Int) ≤ j := by omega
      have FIN : RowKit.Hid (o = none) := Lib.hid (by rw [HQ.out, List.drop_of_length_le (by omega)]; rfl)
      clear hlt hkj hj hk
      go_wp2_with (refine wpList_store_whole rfl 62 (.tmp 4) (.tmp 71) rfl w.heap.size wzero rfl rfl 62 _ FR.out.box (by kernel_rfl) (by rfl) (by simp [Value.oneCell']) ?_; intro w7 hk7 hg7; have K7 := Lib.hid hk7; have H7 := Lib.hid (below_store FR.out.low hg7 (Nat.le_refl _)); clear hk7 hg7)
      exact bodyPost_ret (results_cell_row rfl _ _ w.heap.size 62 _ _ _ rfl K7.out Tryz.underlying62 rfl (by kernel_rfl)) rfl ⟨H7.out, by rw [FIN.out]; rfl⟩
end Go.Proofs.YtfpcgoioneanaaaGreatDoor
namespace Go.Proofs.YtfpcgoioneanaaaGreatDoor
open Go Go.RowKit
/-- The word at a place, or none. -/
def rwd (k : Nat) (o : Option Wd) : Array Value := match o with
  | some x => wfull x k
  | none => wzero
theorem wfull_no (kd : Int) (n k E : Nat) (t : List Nat) (v : Int) (h : E = k + n) : wfull ⟨kd, n, t, v, no⟩ k = #[.int .i64 kd, .int .i64 k, .int .i64 E, .string (bsv t), .int .i64 v, .int .u64 0, .int .u64 0, .int .u64 0, .int .u64 0] := by
  subst h
  have e : ∀ j, (cw no j : Int) = 0 := fun j => by have : cw no j = 0 := cw_none j; omega
  simp only [wfull, e]
theorem wfull_cls (n k E : Nat) (c : Nat → Bool) (h : E = k + n) : wfull ⟨4, n, [], 0, c⟩ k = #[.int .i64 4, .int .i64 k, .int .i64 E, .string ⟨#[]⟩, .int .i64 0, .int .u64 (cw c 0), .int .u64 (cw c 1), .int .u64 (cw c 2), .int .u64 (cw c 3)] := by
  subst h
  rfl
def sl : List Nat := [47, 40, 41, 46, 59, 42, 43, 63, 33, 38]
theorem sgn_in {c : Nat} (r : List Nat) (h0 : c ≠ 60) (h : c ∈ sl) : sgn (c :: r) = some [c] := by
  unfold sgn
  simp only
  rw [if_neg h0]; exact if_pos h
theorem sgn_out {c : Nat} (r : List Nat) (h0 : c ≠ 60) (h : c ∉ sl) : sgn (c :: r) = none := by
  unfold sgn
  simp only
  rw [if_neg h0]; exact if_neg h
theorem sgn_two (r : List Nat) (h : r.head? = some 45) : sgn (60 :: r) = some [60, 45] := by
  unfold sgn
  simp [h]
theorem sgn_half (r : List Nat) (h : r.head? ≠ some 45) : sgn (60 :: r) = none := by
  unfold sgn
  simp [h]
theorem sl_str : Str ⟨#[47, 40, 41, 46, 59, 42, 43, 63, 33, 38]⟩ sl := rfl
theorem getD_mem' (l : List Nat) (i : Nat) (h : i < 10) (hl : l.length = 10 := by rfl) : l.getD i 0 ∈ l := by
  rw [List.getD_eq_getElem?_getD, List.getElem?_eq_getElem (by omega)]
  exact List.getElem_mem _
theorem part_one (l : List Nat) (i : Nat) (h : i < 10) (hl : l.length = 10 := by rfl) : (l.drop i).take (i + 1 - i) = [l.getD i 0] := by
  have hi : i < l.length := by omega
  rw [show i + 1 - i = 0 + 1 by omega, List.drop_eq_getElem_cons hi, List.take_succ_cons, List.take_zero, List.getD_eq_getElem?_getD, List.getElem?_eq_getElem hi]
  rfl
theorem not_sl {c : Nat} (h : ∀ j, j < 10 → sl.getD j 0 ≠ c) : c ∉ sl := by
  intro hm
  obtain ⟨j, hj, e⟩ := List.mem_iff_getElem.1 hm
  exact h j hj (by rw [← e]; simp [List.getD, List.getElem?_eq_getElem hj])
set_option maxRecDepth 100000 in
set_option maxHeartbeats 8000000 in
theorem rword_any (k : Nat) (s : ByteArray) (l : List Nat) (hs : Str s l) (hl : l.length ≤ 60000) (hk : k ≤ l.length) (w : World) :
    Calls Tryz.prog 37 #[.string s, .int .i64 k] w fun e w' => Below w.heap.size w w' ∧ e = .returned (.agg (rwd k (wd (l.drop k)))) := by
  have hz := hs.size
  have hz3 : (s.size : Int) ≤ 60000 := by omega
  have SH := Lib.hid hs
  have ZZ := Lib.hid hz
  obtain ⟨w0, ew0⟩ : ∃ u, u = w.alloc (.cells wzero 62) := ⟨_, rfl⟩
  have K0 : RowKit.Hid (Blk w0 w.heap.size wzero 62) := Lib.hid (by rw [ew0]; exact Blk.new _ _ _)
  have B0 : RowKit.Hid (Below w.heap.size w w0) := Lib.hid (by rw [ew0]; exact B1 w _)
  simp only [wzero] at ew0
  by_cases hlt : k < l.length
  · obtain ⟨c, ec⟩ : ∃ v, v = l.getD k 0 := ⟨_, rfl⟩
    have hc : c < 256 := by rw [ec, List.getD_eq_getElem?_getD, List.getElem?_eq_getElem hlt]; exact SH.out.lt _ (List.getElem_mem hlt)
    have x0 : ∀ h, (s[k]'h).toNat = c := fun h => (SH.out.at_ k h).trans ec.symm
    have j3 : (k : Int) < s.size := by have := ZZ.out; omega
    have j4 : k < s.size := by have := ZZ.out; omega
    have j5 : ¬ (k : Int) = s.size := by omega
    have hd : l.drop k = c :: l.drop (k + 1) := by rw [List.drop_eq_getElem_cons hlt, ec]; simp [List.getD, List.getElem?_eq_getElem hlt]
    have LT := Lib.hid (fun w => rletter_any c hc w)
    have RN := Lib.hid (fun w => rnamed_any k s l hs hl hk w)
    have RQ := Lib.hid (fun w => rquoted_any k s l hs hl hlt w)
    have RC := Lib.hid (fun w => rclassed_any k s l hs hl hlt w)
    cases hq : ltr c with
    | true =>
      rw [hq] at LT
      have FIN : RowKit.Hid (wd (l.drop k) = some (nam (l.drop k))) := Lib.hid (by rw [hd]; unfold wd; simp only; rw [if_pos hq])
      rw [FIN.out]
      obtain ⟨x, ex⟩ : ∃ x, x = nam (l.drop k) := ⟨_, rfl⟩
      rw [← ex] at RN ⊢
      clear hs hz ec hc hd hq ex hk hlt FIN
      go_enter Tryz.func37, Tryz.ntmps37
      go_wp2_with fail
      rw [← ew0]
      clear ew0
      go_wp2_with (first | (go_at_call 59; (with_reducible refine (LT.out _).mono ?_); rintro e w1 ⟨rfl, rfl⟩) | (go_at_call 60; (with_reducible refine (RN.out _).mono ?_); rintro e w2 ⟨rfl, hb⟩; have K2 := Lib.hid (K0.out.below' hb); have B2 := Lib.hid (bb B0.out hb); clear hb) | (refine wpList_store_whole rfl 62 (.tmp 4) (.tmp 23) rfl w.heap.size (wfull x k) rfl rfl 62 _ K2.out (by kernel_rfl) (by rfl) (by simp [Value.oneCell']) ?_; intro w7 hk7 hg7; have K7 := Lib.hid hk7; have H7 := Lib.hid (below_store B2.out hg7 (Nat.le_refl _)); clear hk7 hg7))
      exact bodyPost_ret (results_cell_row rfl _ _ w.heap.size 62 _ _ _ rfl K7.out Tryz.underlying62 rfl (by kernel_rfl)) rfl ⟨H7.out, rfl⟩
    | false =>
      rw [hq] at LT
      by_cases h34 : c = 34
      · have g1 : ((c : Int) == 34) = true := by simp; omega
        cases ho : QT (l.drop (k + 1)) with
        | none =>
          rw [ho] at RQ
          have FIN : RowKit.Hid (rwd k (wd (l.drop k)) = wzero) := Lib.hid (by rw [hd]; unfold wd; simp only; rw [hq, if_neg (by simp), if_pos h34, ho]; rfl)
          rw [FIN.out]
          clear hs hz ec hc hd hq hk hlt FIN ho h34
          go_enter Tryz.func37, Tryz.ntmps37
          go_wp2_with fail
          rw [← ew0]
          clear ew0
          go_wp2_with (first | (go_at_call 59; (with_reducible refine (LT.out _).mono ?_); rintro e w1 ⟨rfl, rfl⟩) | (go_at_call 61; (with_reducible refine (RQ.out _).mono ?_); rintro e w2 ⟨hb, rfl⟩; have K2 := Lib.hid (K0.out.below' hb); have B2 := Lib.hid (bb B0.out hb); clear hb) | (refine wpList_store_whole rfl 62 (.tmp 4) (.tmp 29) rfl w.heap.size wzero rfl rfl 62 _ K2.out (by kernel_rfl) (by rfl) (by simp [Value.oneCell']) ?_; intro w7 hk7 hg7; have K7 := Lib.hid hk7; have H7 := Lib.hid (below_store B2.out hg7 (Nat.le_refl _)); clear hk7 hg7))
          exact bodyPost_ret (results_cell_row rfl _ _ w.heap.size 62 _ _ _ rfl K7.out Tryz.underlying62 rfl (by kernel_rfl)) rfl ⟨H7.out, rfl⟩
        | some x =>
          obtain ⟨t, n⟩ := x
          rw [ho] at RQ
          have FIN : RowKit.Hid (rwd k (wd (l.drop k)) = #[.int .i64 3, .int .i64 k, .int .i64 (k + 1 + n : Nat), .string (bsv t), .int .i64 0, .int .u64 0, .int .u64 0, .int .u64 0, .int .u64 0]) := Lib.hid (by rw [hd]; unfold wd; simp only; rw [hq, if_neg (by simp), if_pos h34, ho]; exact wfull_no 3 (1 + n) k (k + 1 + n) t 0 (by omega))
          rw [FIN.out]
          obtain ⟨E, eE⟩ : ∃ E : Nat, E = k + 1 + n := ⟨_, rfl⟩
          simp only [rq] at RQ
          rw [← eE] at RQ ⊢
          clear hs hz ec hc hd hq hk hlt FIN ho h34 eE
          go_enter Tryz.func37, Tryz.ntmps37
          go_wp2_with fail
          rw [← ew0]
          clear ew0
          go_wp2_with (first | (go_at_call 59; (with_reducible refine (LT.out _).mono ?_); rintro e w1 ⟨rfl, rfl⟩) | (go_at_call 61; (with_reducible refine (RQ.out _).mono ?_); rintro e w2 ⟨hb, rfl⟩; have K2 := Lib.hid (K0.out.below' hb); have B2 := Lib.hid (bb B0.out hb); clear hb) | (refine wpList_store_whole rfl 62 (.tmp 4) (.tmp 29) rfl w.heap.size #[.int .i64 3, .int .i64 k, .int .i64 E, .string (bsv t), .int .i64 0, .int .u64 0, .int .u64 0, .int .u64 0, .int .u64 0] rfl rfl 62 _ K2.out (by kernel_rfl) (by rfl) (by simp [Value.oneCell']) ?_; intro w7 hk7 hg7; have K7 := Lib.hid hk7; have H7 := Lib.hid (below_store B2.out hg7 (Nat.le_refl _)); clear hk7 hg7))
          exact bodyPost_ret (results_cell_row rfl _ _ w.heap.size 62 _ _ _ rfl K7.out Tryz.underlying62 rfl (by kernel_rfl)) rfl ⟨H7.out, rfl⟩
      · have g1 : ((c : Int) == 34) = false := by simp; omega
        by_cases h91 : c = 91
        · have g2 : ((c : Int) == 91) = true := by simp; omega
          cases ho : ST (l.drop (k + 1)) with
          | none =>
            rw [ho] at RC
            have FIN : RowKit.Hid (rwd k (wd (l.drop k)) = wzero) := Lib.hid (by rw [hd]; unfold wd; simp only; rw [hq, if_neg (by simp), if_neg h34, if_pos h91, ho]; rfl)
            rw [FIN.out]
            clear hs hz ec hc hd hq hk hlt FIN ho h34 h91
            go_enter Tryz.func37, Tryz.ntmps37
            go_wp2_with fail
            rw [← ew0]
            clear ew0
            go_wp2_with (first | (go_at_call 59; (with_reducible refine (LT.out _).mono ?_); rintro e w1 ⟨rfl, rfl⟩) | (go_at_call 62; (with_reducible refine (RC.out _).mono ?_); rintro e w2 ⟨hb, rfl⟩; have K2 := Lib.hid (K0.out.below' hb); have B2 := Lib.hid (bb B0.out hb); clear hb) | (refine wpList_store_whole rfl 62 (.tmp 4) (.tmp 35) rfl w.heap.size wzero rfl rfl 62 _ K2.out (by kernel_rfl) (by rfl) (by simp [Value.oneCell']) ?_; intro w7 hk7 hg7; have K7 := Lib.hid hk7; have H7 := Lib.hid (below_store B2.out hg7 (Nat.le_refl _)); clear hk7 hg7))
            exact bodyPost_ret (results_cell_row rfl _ _ w.heap.size 62 _ _ _ rfl K7.out Tryz.underlying62 rfl (by kernel_rfl)) rfl ⟨H7.out, rfl⟩
          | some x =>
            obtain ⟨t, n⟩ := x
            rw [ho] at RC
            obtain ⟨cl, ecl⟩ : ∃ f, f = cls t := ⟨_, rfl⟩
            have FIN : RowKit.Hid (rwd k (wd (l.drop k)) = #[.int .i64 4, .int .i64 k, .int .i64 (k + 1 + n : Nat), .string ⟨#[]⟩, .int .i64 0, .int .u64 (cw cl 0), .int .u64 (cw cl 1), .int .u64 (cw cl 2), .int .u64 (cw cl 3)]) := Lib.hid (by rw [hd]; unfold wd; simp only; rw [hq, if_neg (by simp), if_neg h34, if_pos h91, ho, ecl]; exact wfull_cls (1 + n) k (k + 1 + n) (cls t) (by omega))
            rw [FIN.out]
            obtain ⟨E, eE⟩ : ∃ E : Nat, E = k + 1 + n := ⟨_, rfl⟩
            simp only [rcl] at RC
            rw [← eE] at RC ⊢
            rw [← ecl] at RC
            clear hs hz ec hc hd hq hk hlt FIN ho h34 h91 eE ecl
            go_enter Tryz.func37, Tryz.ntmps37
            go_wp2_with fail
            rw [← ew0]
            clear ew0
            go_wp2_with (first | (go_at_call 59; (with_reducible refine (LT.out _).mono ?_); rintro e w1 ⟨rfl, rfl⟩) | (go_at_call 62; (with_reducible refine (RC.out _).mono ?_); rintro e w2 ⟨hb, rfl⟩; have K2 := Lib.hid (K0.out.below' hb); have B2 := Lib.hid (bb B0.out hb); clear hb) | (refine wpList_store_whole rfl 62 (.tmp 4) (.tmp 35) rfl w.heap.size #[.int .i64 4, .int .i64 k, .int .i64 E, .string ⟨#[]⟩, .int .i64 0, .int .u64 (cw cl 0), .int .u64 (cw cl 1), .int .u64 (cw cl 2), .int .u64 (cw cl 3)] rfl rfl 62 _ K2.out (by kernel_rfl) (by rfl) (by simp [Value.oneCell']) ?_; intro w7 hk7 hg7; have K7 := Lib.hid hk7; have H7 := Lib.hid (below_store B2.out hg7 (Nat.le_refl _)); clear hk7 hg7))
            exact bodyPost_ret (results_cell_row rfl _ _ w.heap.size 62 _ _ _ rfl K7.out Tryz.underlying62 rfl (by kernel_rfl)) rfl ⟨H7.out, rfl⟩
        · have g2 : ((c : Int) == 91) = false := by simp; omega
          have WS : RowKit.Hid (wd (l.drop k) = (sgn (c :: l.drop (k + 1))).map fun t => ⟨5, t.length, t, 0, no⟩) := Lib.hid (by rw [hd]; unfold wd; simp only; rw [hq, if_neg (by simp), if_neg h34, if_neg h91])
          rw [WS.out]
          by_cases h60 : c = 60
          · have g3 : ((c : Int) == 60) = true := by simp; omega
            by_cases h45 : (l.drop (k + 1)).head? = some 45
            · have hq3 : k + 1 < l.length := by
                apply Nat.lt_of_not_le
                intro hge
                rw [List.drop_of_length_le hge] at h45
                cases h45
              have y0 : ∀ h, (s[k + 1]'h).toNat = 45 := fun h => (SH.out.at_ (k + 1) h).trans (by rw [List.drop_eq_getElem_cons hq3] at h45; simp only [List.head?_cons, Option.some.injEq] at h45; simp [List.getD, List.getElem?_eq_getElem hq3, h45])
              have z0 : ∀ h, (s[((k : Int) + 1).toNat]'h).toNat = 45 := fun h => by
                have := SH.out.atI ((k : Int) + 1) (k + 1) (by omega) h
                rw [this, ← y0 (by have := ZZ.out; omega)]
                exact ((SH.out.at_ (k + 1) _)).symm
              have q3 : (k : Int) + 1 < s.size := by have := ZZ.out; omega
              have q4 : k + 1 < s.size := by have := ZZ.out; omega
              have w1 : IntKind.i64.wrap ((k : Int) + 1) = (k : Int) + 1 := IntWalk.i64_in _ (by omega)
              have w2 : IntKind.i64.wrap ((k : Int) + 2) = (k : Int) + 2 := IntWalk.i64_in _ (by omega)
              have FIN : RowKit.Hid (rwd k ((sgn (c :: l.drop (k + 1))).map fun t => ⟨5, t.length, t, 0, no⟩) = #[.int .i64 5, .int .i64 k, .int .i64 ((k : Int) + 2), .string ⟨#[60, 45]⟩, .int .i64 0, .int .u64 0, .int .u64 0, .int .u64 0, .int .u64 0]) := Lib.hid (by rw [h60, sgn_two _ h45]; exact wfull_no 5 2 k (k + 2) [60, 45] 0 rfl)
              rw [FIN.out]
              clear hs hz ec hc hd hq hk hlt FIN h34 h91 h45 h60 WS
              go_enter Tryz.func37, Tryz.ntmps37
              go_wp2_with fail
              rw [← ew0]
              clear ew0
              go_wp2_with (first | (go_at_call 59; (with_reducible refine (LT.out _).mono ?_); rintro e w1 ⟨rfl, rfl⟩) | (refine wpList_store_whole rfl 62 (.tmp 4) (.tmp 56) rfl w.heap.size #[.int .i64 5, .int .i64 k, .int .i64 ((k : Int) + 2), .string ⟨#[60, 45]⟩, .int .i64 0, .int .u64 0, .int .u64 0, .int .u64 0, .int .u64 0] rfl rfl 62 _ K0.out (by kernel_rfl) (by rfl) (by simp [Value.oneCell']) ?_; intro w7 hk7 hg7; have K7 := Lib.hid hk7; have H7 := Lib.hid (below_store B0.out hg7 (Nat.le_refl _)); clear hk7 hg7))
              exact bodyPost_ret (results_cell_row rfl _ _ w.heap.size 62 _ _ _ rfl K7.out Tryz.underlying62 rfl (by kernel_rfl)) rfl ⟨H7.out, rfl⟩
            · have OUT : RowKit.Hid (c ∉ sl → rwd k ((sgn (c :: l.drop (k + 1))).map fun t => ⟨5, t.length, t, 0, no⟩) = wzero) := Lib.hid (fun _ => by rw [h60, sgn_half _ h45]; rfl)
              have IN : RowKit.Hid (c ∈ sl → rwd k ((sgn (c :: l.drop (k + 1))).map fun t => ⟨5, t.length, t, 0, no⟩) = #[.int .i64 5, .int .i64 k, .int .i64 ((k : Int) + 1), .string (bsv [c]), .int .i64 0, .int .u64 0, .int .u64 0, .int .u64 0, .int .u64 0]) := Lib.hid (fun h => by rw [h60] at h; simp [sl] at h)
              generalize rwd k ((sgn (c :: l.drop (k + 1))).map fun t => (⟨5, t.length, t, 0, no⟩ : Wd)) = R at OUT IN ⊢
              have w1 : IntKind.i64.wrap ((k : Int) + 1) = (k : Int) + 1 := IntWalk.i64_in _ (by omega)
              by_cases hq3 : k + 1 < l.length
              · obtain ⟨v2, ev2⟩ : ∃ v, v = l.getD (k + 1) 0 := ⟨_, rfl⟩
                have hv2 : v2 ≠ 45 := by
                  intro e
                  apply h45
                  rw [List.drop_eq_getElem_cons hq3, List.head?_cons, ← e, ev2]
                  simp [List.getD, List.getElem?_eq_getElem hq3]
                have z1 : ∀ h, (s[k + 1]'h).toNat = v2 := fun h => (SH.out.at_ (k + 1) h).trans ev2.symm
                have z0 : ∀ h, (s[((k : Int) + 1).toNat]'h).toNat = v2 := fun h => (SH.out.atI ((k : Int) + 1) (k + 1) (by omega) h).trans ev2.symm
                have q3 : (k : Int) + 1 < s.size := by have := ZZ.out; omega
                have q4 : k + 1 < s.size := by have := ZZ.out; omega
                have k2 : ((v2 : Int) == 45) = false := by simp; omega
                clear hs hz ec hc hd hq hk hlt h34 h91 h45 h60 WS ev2 hv2
                go_enter Tryz.func37, Tryz.ntmps37
                go_wp2_with fail
                rw [← ew0]
                clear ew0
                go_wp2_with (go_at_call 59; (with_reducible refine (LT.out _).mono ?_); rintro e w1 ⟨rfl, rfl⟩)
                go_loopw [7] (fun v7 wr => ∃ i : Nat, i ≤ 10 ∧ v7 = .int .i64 i ∧ (∀ j, j < i → sl.getD j 0 ≠ c) ∧ wr = w0) (fun v7 _ => 10 - (intOf v7).toNat)
                case atStart => exact ⟨0, by omega, rfl, fun j hj => by omega, rfl⟩
                case round =>
                  obtain ⟨i, hi, rfl, hn, rfl⟩ := hrel
                  by_cases hi2 : i < 10
                  · have i3 : (i : Int) < 10 := by omega
                    have HN := Lib.hid hn
                    obtain ⟨v, ev⟩ : ∃ v, v = sl.getD i 0 := ⟨_, rfl⟩
                    have y0 : ∀ h, ((⟨#[47, 40, 41, 46, 59, 42, 43, 63, 33, 38]⟩ : ByteArray)[i]'h).toNat = v := fun h => (sl_str.at_ i h).trans ev.symm
                    by_cases hv : v = c
                    · have k1 : ((v : Int) == (c : Int)) = true := by simp; omega
                      have FIN := Lib.hid (IN.out (by rw [← hv, ev]; exact getD_mem' sl i hi2))
                      have hsx : (⟨#[47, 40, 41, 46, 59, 42, 43, 63, 33, 38]⟩ : ByteArray).extract i (i + 1) = bsv [c] := by
                        have := (sl_str.extract i (i + 1)).eq
                        rw [this, ← hv, ev]
                        congr 1
                        exact part_one sl i hi2
                      have w9 : IntKind.i64.wrap ((i : Int) + 1) = (i : Int) + 1 := IntWalk.i64_in _ (by omega)
                      have hsl := fun wx => run_slice_string (P := Tryz.prog) wx 9 ⟨#[47, 40, 41, 46, 59, 42, 43, 63, 33, 38]⟩ .i64 .i64 (i : Int) ((i : Int) + 1) Tryz.underlying9 (by omega) (by omega) (by show (i : Int) + 1 ≤ 10; omega)
                      rw [show ((i : Int) + 1).toNat = i + 1 by omega, Int.toNat_natCast, hsx] at hsl
                      clear hn ev hv hsx
                      go_wp2_with (refine wpList_store_whole rfl 62 (.tmp 4) (.tmp 76) rfl w.heap.size #[.int .i64 5, .int .i64 k, .int .i64 ((k : Int) + 1), .string (bsv [c]), .int .i64 0, .int .u64 0, .int .u64 0, .int .u64 0, .int .u64 0] rfl rfl 62 _ K0.out (by kernel_rfl) (by rfl) (by simp [Value.oneCell']) ?_; intro w7 hk7 hg7; have K7 := Lib.hid hk7; have H7 := Lib.hid (below_store B0.out hg7 (Nat.le_refl _)); clear hk7 hg7)
                      exact bodyPost_ret (results_cell_row rfl _ _ w.heap.size 62 _ _ _ rfl K7.out Tryz.underlying62 rfl (by kernel_rfl)) rfl ⟨H7.out, by rw [FIN.out]⟩
                    · have k1 : ((v : Int) == (c : Int)) = false := by simp; omega
                      have NX : RowKit.Hid (∀ j, j < i + 1 → sl.getD j 0 ≠ c) := Lib.hid (fun j hj => by
                        by_cases e : j = i
                        · rw [e, ← ev]; exact hv
                        · exact HN.out j (by omega))
                      clear hn ev hv
                      go_wp2_with fail
                      go_roundw
                      case rel => exact ⟨i + 1, by omega, by go_num, NX.out, by first | trivial | rfl⟩
                      case measure => simp [intOf]; omega
                  · obtain rfl : i = 10 := by omega
                    have FIN := Lib.hid (OUT.out (not_sl hn))
                    clear hn
                    go_wp2_with (refine wpList_store_whole rfl 62 (.tmp 4) (.tmp 77) rfl w.heap.size wzero rfl rfl 62 _ K0.out (by kernel_rfl) (by rfl) (by simp [Value.oneCell']) ?_; intro w7 hk7 hg7; have K7 := Lib.hid hk7; have H7 := Lib.hid (below_store B0.out hg7 (Nat.le_refl _)); clear hk7 hg7)
                    exact bodyPost_ret (results_cell_row rfl _ _ w.heap.size 62 _ _ _ rfl K7.out Tryz.underlying62 rfl (by kernel_rfl)) rfl ⟨H7.out, by rw [FIN.out]⟩
              · have q3 : ¬ (k : Int) + 1 < s.size := by have := ZZ.out; omega
                have q5 : (s.size : Int) ≤ (k : Int) + 1 := by have := ZZ.out; omega
                clear hs hz ec hc hd hq hk hlt h34 h91 h45 h60 WS hq3
                go_enter Tryz.func37, Tryz.ntmps37
                go_wp2_with fail
                rw [← ew0]
                clear ew0
                go_wp2_with (go_at_call 59; (with_reducible refine (LT.out _).mono ?_); rintro e w1 ⟨rfl, rfl⟩)
                go_loopw [7] (fun v7 wr => ∃ i : Nat, i ≤ 10 ∧ v7 = .int .i64 i ∧ (∀ j, j < i → sl.getD j 0 ≠ c) ∧ wr = w0) (fun v7 _ => 10 - (intOf v7).toNat)
                case atStart => exact ⟨0, by omega, rfl, fun j hj => by omega, rfl⟩
                case round =>
                  obtain ⟨i, hi, rfl, hn, rfl⟩ := hrel
                  by_cases hi2 : i < 10
                  · have i3 : (i : Int) < 10 := by omega
                    have HN := Lib.hid hn
                    obtain ⟨v, ev⟩ : ∃ v, v = sl.getD i 0 := ⟨_, rfl⟩
                    have y0 : ∀ h, ((⟨#[47, 40, 41, 46, 59, 42, 43, 63, 33, 38]⟩ : ByteArray)[i]'h).toNat = v := fun h => (sl_str.at_ i h).trans ev.symm
                    by_cases hv : v = c
                    · have k1 : ((v : Int) == (c : Int)) = true := by simp; omega
                      have FIN := Lib.hid (IN.out (by rw [← hv, ev]; exact getD_mem' sl i hi2))
                      have hsx : (⟨#[47, 40, 41, 46, 59, 42, 43, 63, 33, 38]⟩ : ByteArray).extract i (i + 1) = bsv [c] := by
                        have := (sl_str.extract i (i + 1)).eq
                        rw [this, ← hv, ev]
                        congr 1
                        exact part_one sl i hi2
                      have w9 : IntKind.i64.wrap ((i : Int) + 1) = (i : Int) + 1 := IntWalk.i64_in _ (by omega)
                      have hsl := fun wx => run_slice_string (P := Tryz.prog) wx 9 ⟨#[47, 40, 41, 46, 59, 42, 43, 63, 33, 38]⟩ .i64 .i64 (i : Int) ((i : Int) + 1) Tryz.underlying9 (by omega) (by omega) (by show (i : Int) + 1 ≤ 10; omega)
                      rw [show ((i : Int) + 1).toNat = i + 1 by omega, Int.toNat_natCast, hsx] at hsl
                      clear hn ev hv hsx
                      go_wp2_with (refine wpList_store_whole rfl 62 (.tmp 4) (.tmp 76) rfl w.heap.size #[.int .i64 5, .int .i64 k, .int .i64 ((k : Int) + 1), .string (bsv [c]), .int .i64 0, .int .u64 0, .int .u64 0, .int .u64 0, .int .u64 0] rfl rfl 62 _ K0.out (by kernel_rfl) (by rfl) (by simp [Value.oneCell']) ?_; intro w7 hk7 hg7; have K7 := Lib.hid hk7; have H7 := Lib.hid (below_store B0.out hg7 (Nat.le_refl _)); clear hk7 hg7)
                      exact bodyPost_ret (results_cell_row rfl _ _ w.heap.size 62 _ _ _ rfl K7.out Tryz.underlying62 rfl (by kernel_rfl)) rfl ⟨H7.out, by rw [FIN.out]⟩
                    · have k1 : ((v : Int) == (c : Int)) = false := by simp; omega
                      have NX : RowKit.Hid (∀ j, j < i + 1 → sl.getD j 0 ≠ c) := Lib.hid (fun j hj => by
                        by_cases e : j = i
                        · rw [e, ← ev]; exact hv
                        · exact HN.out j (by omega))
                      clear hn ev hv
                      go_wp2_with fail
                      go_roundw
                      case rel => exact ⟨i + 1, by omega, by go_num, NX.out, by first | trivial | rfl⟩
                      case measure => simp [intOf]; omega
                  · obtain rfl : i = 10 := by omega
                    have FIN := Lib.hid (OUT.out (not_sl hn))
                    clear hn
                    go_wp2_with (refine wpList_store_whole rfl 62 (.tmp 4) (.tmp 77) rfl w.heap.size wzero rfl rfl 62 _ K0.out (by kernel_rfl) (by rfl) (by simp [Value.oneCell']) ?_; intro w7 hk7 hg7; have K7 := Lib.hid hk7; have H7 := Lib.hid (below_store B0.out hg7 (Nat.le_refl _)); clear hk7 hg7)
                    exact bodyPost_ret (results_cell_row rfl _ _ w.heap.size 62 _ _ _ rfl K7.out Tryz.underlying62 rfl (by kernel_rfl)) rfl ⟨H7.out, by rw [FIN.out]⟩
          · have g3 : ((c : Int) == 60) = false := by simp; omega
            have OUT : RowKit.Hid (c ∉ sl → rwd k ((sgn (c :: l.drop (k + 1))).map fun t => ⟨5, t.length, t, 0, no⟩) = wzero) := Lib.hid (fun h => by rw [sgn_out _ h60 h]; rfl)
            have IN : RowKit.Hid (c ∈ sl → rwd k ((sgn (c :: l.drop (k + 1))).map fun t => ⟨5, t.length, t, 0, no⟩) = #[.int .i64 5, .int .i64 k, .int .i64 ((k : Int) + 1), .string (bsv [c]), .int .i64 0, .int .u64 0, .int .u64 0, .int .u64 0, .int .u64 0]) := Lib.hid (fun h => by rw [sgn_in _ h60 h]; exact wfull_no 5 1 k (k + 1) [c] 0 rfl)
            generalize rwd k ((sgn (c :: l.drop (k + 1))).map fun t => (⟨5, t.length, t, 0, no⟩ : Wd)) = R at OUT IN ⊢
            have w1 : IntKind.i64.wrap ((k : Int) + 1) = (k : Int) + 1 := IntWalk.i64_in _ (by omega)
            clear hs hz ec hc hd hq hk hlt h34 h91 h60 WS
            go_enter Tryz.func37, Tryz.ntmps37
            go_wp2_with fail
            rw [← ew0]
            clear ew0
            go_wp2_with (go_at_call 59; (with_reducible refine (LT.out _).mono ?_); rintro e w1 ⟨rfl, rfl⟩)
            go_loopw [7] (fun v7 wr => ∃ i : Nat, i ≤ 10 ∧ v7 = .int .i64 i ∧ (∀ j, j < i → sl.getD j 0 ≠ c) ∧ wr = w0) (fun v7 _ => 10 - (intOf v7).toNat)
            case atStart => exact ⟨0, by omega, rfl, fun j hj => by omega, rfl⟩
            case round =>
              obtain ⟨i, hi, rfl, hn, rfl⟩ := hrel
              by_cases hi2 : i < 10
              · have i3 : (i : Int) < 10 := by omega
                have HN := Lib.hid hn
                obtain ⟨v, ev⟩ : ∃ v, v = sl.getD i 0 := ⟨_, rfl⟩
                have y0 : ∀ h, ((⟨#[47, 40, 41, 46, 59, 42, 43, 63, 33, 38]⟩ : ByteArray)[i]'h).toNat = v := fun h => (sl_str.at_ i h).trans ev.symm
                by_cases hv : v = c
                · have k1 : ((v : Int) == (c : Int)) = true := by simp; omega
                  have FIN := Lib.hid (IN.out (by rw [← hv, ev]; exact getD_mem' sl i hi2))
                  have hsx : (⟨#[47, 40, 41, 46, 59, 42, 43, 63, 33, 38]⟩ : ByteArray).extract i (i + 1) = bsv [c] := by
                    have := (sl_str.extract i (i + 1)).eq
                    rw [this, ← hv, ev]
                    congr 1
                    exact part_one sl i hi2
                  have w9 : IntKind.i64.wrap ((i : Int) + 1) = (i : Int) + 1 := IntWalk.i64_in _ (by omega)
                  have hsl := fun wx => run_slice_string (P := Tryz.prog) wx 9 ⟨#[47, 40, 41, 46, 59, 42, 43, 63, 33, 38]⟩ .i64 .i64 (i : Int) ((i : Int) + 1) Tryz.underlying9 (by omega) (by omega) (by show (i : Int) + 1 ≤ 10; omega)
                  rw [show ((i : Int) + 1).toNat = i + 1 by omega, Int.toNat_natCast, hsx] at hsl
                  clear hn ev hv hsx
                  go_wp2_with (refine wpList_store_whole rfl 62 (.tmp 4) (.tmp 76) rfl w.heap.size #[.int .i64 5, .int .i64 k, .int .i64 ((k : Int) + 1), .string (bsv [c]), .int .i64 0, .int .u64 0, .int .u64 0, .int .u64 0, .int .u64 0] rfl rfl 62 _ K0.out (by kernel_rfl) (by rfl) (by simp [Value.oneCell']) ?_; intro w7 hk7 hg7; have K7 := Lib.hid hk7; have H7 := Lib.hid (below_store B0.out hg7 (Nat.le_refl _)); clear hk7 hg7)
                  exact bodyPost_ret (results_cell_row rfl _ _ w.heap.size 62 _ _ _ rfl K7.out Tryz.underlying62 rfl (by kernel_rfl)) rfl ⟨H7.out, by rw [FIN.out]⟩
                · have k1 : ((v : Int) == (c : Int)) = false := by simp; omega
                  have NX : RowKit.Hid (∀ j, j < i + 1 → sl.getD j 0 ≠ c) := Lib.hid (fun j hj => by
                    by_cases e : j = i
                    · rw [e, ← ev]; exact hv
                    · exact HN.out j (by omega))
                  clear hn ev hv
                  go_wp2_with fail
                  go_roundw
                  case rel => exact ⟨i + 1, by omega, by go_num, NX.out, by first | trivial | rfl⟩
                  case measure => simp [intOf]; omega
              · obtain rfl : i = 10 := by omega
                have FIN := Lib.hid (OUT.out (not_sl hn))
                clear hn
                go_wp2_with (refine wpList_store_whole rfl 62 (.tmp 4) (.tmp 77) rfl w.heap.size wzero rfl rfl 62 _ K0.out (by kernel_rfl) (by rfl) (by simp [Value.oneCell']) ?_; intro w7 hk7 hg7; have K7 := Lib.hid hk7; have H7 := Lib.hid (below_store B0.out hg7 (Nat.le_refl _)); clear hk7 hg7)
                exact bodyPost_ret (results_cell_row rfl _ _ w.heap.size 62 _ _ _ rfl K7.out Tryz.underlying62 rfl (by kernel_rfl)) rfl ⟨H7.out, by rw [FIN.out]⟩
  · obtain rfl : k = l.length := by omega
    have FIN : RowKit.Hid (rwd l.length (wd (l.drop l.length)) = #[.int .i64 1, .int .i64 l.length, .int .i64 l.length, .string ⟨#[]⟩, .int .i64 0, .int .u64 0, .int .u64 0, .int .u64 0, .int .u64 0]) := Lib.hid (by rw [List.drop_length]; exact wfull_no 1 0 _ _ [] 0 rfl)
    have j3 : (l.length : Int) = s.size := by omega
    have J3 := Lib.hid j3
    rw [FIN.out]
    rw [j3]
    clear hs hz hk hlt j3
    go_enter Tryz.func37, Tryz.ntmps37
    go_upto_region 2 with fail
    rw [← ew0]
    clear ew0
    go_wp2_with (refine wpList_store_whole rfl 62 (.tmp 4) (.tmp 14) rfl w.heap.size #[.int .i64 1, .int .i64 s.size, .int .i64 s.size, .string ⟨#[]⟩, .int .i64 0, .int .u64 0, .int .u64 0, .int .u64 0, .int .u64 0] rfl rfl 62 _ K0.out (by kernel_rfl) (by rfl) (by simp [Value.oneCell']) ?_; intro w7 hk7 hg7; have K7 := Lib.hid hk7; have H7 := Lib.hid (below_store B0.out hg7 (Nat.le_refl _)); clear hk7 hg7)
    exact bodyPost_ret (results_cell_row rfl _ _ w.heap.size 62 _ _ _ rfl K7.out Tryz.underlying62 rfl (by kernel_rfl)) rfl ⟨H7.out, rfl⟩
end Go.Proofs.YtfpcgoioneanaaaGreatDoor
namespace Go.Proofs.YtfpcgoioneanaaaGreatDoor
open Go Go.RowKit
theorem wd_kind {l : List Nat} {x : Wd} (hl : ∀ y ∈ l, y < 256) (h : wd l = some x) : 1 ≤ x.kind ∧ x.kind ≤ 5 := by
  obtain ⟨_, _, _, h1, h2, _⟩ := wd_ok hl h
  exact ⟨h1, h2⟩
theorem blk_drew9 {w : World} {b : Nat} {vs : Array Value} {T : TypeId} (h : Blk w b vs T) : Blk w.drew b vs T := h
theorem grown_drew9 {w w' : World} {r : Option Nat} (g : w.grownBy w' r) : w.grownBy w'.drew r := ⟨g.os, g.tape, g.output, g.size, g.block⟩
set_option maxHeartbeats 1000000 in
theorem set9 {w : World} {b : Nat} {T : TypeId} {x0 x1 x2 x3 x4 x5 x6 x7 x8 v0 v1 v2 v3 v4 v5 v6 v7 v8 : Value} (h : Blk w b #[x0, x1, x2, x3, x4, x5, x6, x7, x8] T) :
    Blk (((((((((w.setCell ⟨b, 0, none⟩ v0).setCell ⟨b, 1, none⟩ v1).setCell ⟨b, 2, none⟩ v2).setCell ⟨b, 3, none⟩ v3).setCell ⟨b, 4, none⟩ v4).setCell ⟨b, 5, none⟩ v5).setCell ⟨b, 6, none⟩ v6).setCell ⟨b, 7, none⟩ v7).setCell ⟨b, 8, none⟩ v8).drew b #[v0, v1, v2, v3, v4, v5, v6, v7, v8] T ∧
    w.grownBy (((((((((w.setCell ⟨b, 0, none⟩ v0).setCell ⟨b, 1, none⟩ v1).setCell ⟨b, 2, none⟩ v2).setCell ⟨b, 3, none⟩ v3).setCell ⟨b, 4, none⟩ v4).setCell ⟨b, 5, none⟩ v5).setCell ⟨b, 6, none⟩ v6).setCell ⟨b, 7, none⟩ v7).setCell ⟨b, 8, none⟩ v8).drew (some b) := by
  have k := ((((((((h.set 0 v0).set 1 v1).set 2 v2).set 3 v3).set 4 v4).set 5 v5).set 6 v6).set 7 v7).set 8 v8
  have k2 : Blk (((((((((w.setCell ⟨b, 0, none⟩ v0).setCell ⟨b, 1, none⟩ v1).setCell ⟨b, 2, none⟩ v2).setCell ⟨b, 3, none⟩ v3).setCell ⟨b, 4, none⟩ v4).setCell ⟨b, 5, none⟩ v5).setCell ⟨b, 6, none⟩ v6).setCell ⟨b, 7, none⟩ v7).setCell ⟨b, 8, none⟩ v8) b #[v0, v1, v2, v3, v4, v5, v6, v7, v8] T := by simpa using k
  have g := setCells_grown b [v0, v1, v2, v3, v4, v5, v6, v7, v8] 0 w
  exact ⟨blk_drew9 k2, grown_drew9 g⟩
set_option maxRecDepth 100000 in
set_option maxHeartbeats 8000000 in
theorem rNext_no (k : Nat) (s : ByteArray) (l : List Nat) (hs : Str s l) (hl : l.length ≤ 60000) (hk : k ≤ l.length) (ho : wd (l.drop (k + sk false (l.drop k))) = none) (w : World) :
    Calls Tryz.prog 20 #[.string s, .int .i64 k] w fun e w' => e = .returned (.tuple #[.agg wzero, .bool false]) ∧ Below w.heap.size w w' := by
  have hz := hs.size
  have hs2 := sk_le (l.drop k) false
  rw [List.length_drop] at hs2
  have SK := Lib.hid (fun W => rskip_any k s l hs hl hk W)
  have RW := Lib.hid (fun W => rword_any (k + sk false (l.drop k)) s l hs hl (by omega) W)
  obtain ⟨p, ep⟩ : ∃ p, p = k + sk false (l.drop k) := ⟨_, rfl⟩
  rw [← ep] at SK RW ho
  rw [ho] at RW
  simp only [rwd] at RW
  have K0 := Lib.hid (Blk.new w wzero 62)
  have h0 : ¬ (k : Int) < 0 := by omega
  have h1 : ¬ (s.size : Int) < k := by omega
  have h2 : (k : Int) ≤ s.size := by omega
  have h3 : k ≤ s.size := by omega
  clear hs hl hk hz ep ho hs2
  go_enter Tryz.func20, Tryz.ntmps20
  go_upto_region 4 with (first | (go_at_call 23; (with_reducible refine (SK.out _).mono ?_); rintro e w1 ⟨rfl, rfl⟩) | (go_at_call 37; (with_reducible refine (RW.out _).mono ?_); rintro e w2 ⟨hb, rfl⟩; have K2 := Lib.hid (K0.out.below' hb); have B2' := Lib.hid (bb (B1 w _) hb); clear hb) | (refine wpList_store_whole rfl 62 (.tmp 6) (.tmp 20) rfl w2.heap.size wzero rfl rfl 62 _ (Blk.new _ _ _) (by kernel_rfl) (by rfl) (by simp [Value.oneCell']) ?_; intro w3 hk3 hg3; have K3 := Lib.hid hk3; have B23 := Lib.hid (Below.grown (B1 w2 (.cells #[.int .i64 0, .int .i64 0, .int .i64 0, .string ⟨#[]⟩, .int .i64 0, .int .u64 0, .int .u64 0, .int .u64 0, .int .u64 0] 62)) hg3 (by simp) (fun j hj => by cases hj; exact Nat.le_refl _)); clear hk3 hg3))
  obtain ⟨b6, e6⟩ : ∃ b, b = w2.heap.size := ⟨_, rfl⟩
  obtain ⟨b4, e4⟩ : ∃ b, b = w.heap.size := ⟨_, rfl⟩
  rw [← e6] at K3
  have K4 := Lib.hid (K2.out.below' B23.out)
  rw [← e4] at K4
  have hne : b4 ≠ b6 := by have := K2.out.lt; omega
  have hne2 : b6 ≠ b4 := by omega
  have c0 := K3.out.cell 0; have c1 := K3.out.cell 1; have c2 := K3.out.cell 2; have c3 := K3.out.cell 3; have c4 := K3.out.cell 4; have c5 := K3.out.cell 5; have c6 := K3.out.cell 6; have c7 := K3.out.cell 7; have c8 := K3.out.cell 8
  have d0 := K4.out.cell 0; have d1 := K4.out.cell 1; have d2 := K4.out.cell 2; have d3 := K4.out.cell 3; have d4 := K4.out.cell 4; have d5 := K4.out.cell 5; have d6 := K4.out.cell 6; have d7 := K4.out.cell 7; have d8 := K4.out.cell 8
  have f0 := K4.out.frozen 0; have f1 := K4.out.frozen 1; have f2 := K4.out.frozen 2; have f3 := K4.out.frozen 3; have f4 := K4.out.frozen 4; have f5 := K4.out.frozen 5; have f6 := K4.out.frozen 6; have f7 := K4.out.frozen 7; have f8 := K4.out.frozen 8
  simp only [List.getElem?_toArray, List.getElem?_cons_zero, List.getElem?_cons_succ] at c0 c1 c2 c3 c4 c5 c6 c7 c8 d0 d1 d2 d3 d4 d5 d6 d7 d8
  have E46 := Lib.hid (And.intro e4 e6)
  rw [← e6, ← e4]
  clear e4 e6
  go_region
  all_goals go_wp2_with fail
  all_goals obtain ⟨k5, g5⟩ := set9 (v0 := .int .i64 0) (v1 := .int .i64 0) (v2 := .int .i64 0) (v3 := .string ⟨#[]⟩) (v4 := .int .i64 0) (v5 := .int .u64 0) (v6 := .int .u64 0) (v7 := .int .u64 0) (v8 := .int .u64 0) K4.out
  all_goals exact bodyPost_ret (results_cell_tmp rfl _ _ b4 62 _ _ _ rfl rfl k5 Tryz.underlying62 rfl (by kernel_rfl)) rfl ⟨rfl, below_new (bb B2'.out B23.out) (bb B2'.out B23.out).size g5 (by rw [E46.out.1]; exact Nat.le_refl _)⟩
set_option maxRecDepth 100000 in
set_option maxHeartbeats 8000000 in
theorem rNext_yes (k : Nat) (x : Wd) (s : ByteArray) (l : List Nat) (hs : Str s l) (hl : l.length ≤ 60000) (hk : k ≤ l.length) (ho : wd (l.drop (k + sk false (l.drop k))) = some x) (w : World) :
    Calls Tryz.prog 20 #[.string s, .int .i64 k] w fun e w' => e = .returned (.tuple #[.agg (wfull x (k + sk false (l.drop k))), .bool true]) ∧ Below w.heap.size w w' := by
  have hz := hs.size
  have hs2 := sk_le (l.drop k) false
  rw [List.length_drop] at hs2
  have SK := Lib.hid (fun W => rskip_any k s l hs hl hk W)
  have RW := Lib.hid (fun W => rword_any (k + sk false (l.drop k)) s l hs hl (by omega) W)
  obtain ⟨p, ep⟩ : ∃ p, p = k + sk false (l.drop k) := ⟨_, rfl⟩
  rw [← ep] at SK RW ho ⊢
  rw [ho] at RW
  simp only [rwd] at RW
  obtain ⟨E, eE⟩ : ∃ E : Int, E = ((p + x.len : Nat) : Int) := ⟨_, rfl⟩
  obtain ⟨T, eT⟩ : ∃ T, T = bsv x.text := ⟨_, rfl⟩
  obtain ⟨z0, ez0⟩ : ∃ T : Int, T = (cw x.cls 0 : Int) := ⟨_, rfl⟩
  obtain ⟨z1, ez1⟩ : ∃ T : Int, T = (cw x.cls 1 : Int) := ⟨_, rfl⟩
  obtain ⟨z2, ez2⟩ : ∃ T : Int, T = (cw x.cls 2 : Int) := ⟨_, rfl⟩
  obtain ⟨z3, ez3⟩ : ∃ T : Int, T = (cw x.cls 3 : Int) := ⟨_, rfl⟩
  have hkd := (wd_kind (drop_lt hs.lt p) ho).1
  have hkn : (x.kind != 0) = true := by simp; omega
  unfold wfull at RW ⊢
  rw [← eE, ← eT, ← ez0, ← ez1, ← ez2, ← ez3] at RW ⊢
  have K0 := Lib.hid (Blk.new w wzero 62)
  have h0 : ¬ (k : Int) < 0 := by omega
  have h1 : ¬ (s.size : Int) < k := by omega
  have h2 : (k : Int) ≤ s.size := by omega
  have h3 : k ≤ s.size := by omega
  clear hs hl hk hz ep ho hs2 hkd eE eT ez0 ez1 ez2 ez3
  go_enter Tryz.func20, Tryz.ntmps20
  go_upto_region 4 with (first | (go_at_call 23; (with_reducible refine (SK.out _).mono ?_); rintro e w1 ⟨rfl, rfl⟩) | (go_at_call 37; (with_reducible refine (RW.out _).mono ?_); rintro e w2 ⟨hb, rfl⟩; have K2 := Lib.hid (K0.out.below' hb); have B2' := Lib.hid (bb (B1 w _) hb); clear hb) | (refine wpList_store_whole rfl 62 (.tmp 6) (.tmp 20) rfl w2.heap.size #[.int .i64 x.kind, .int .i64 p, .int .i64 E, .string T, .int .i64 x.lev, .int .u64 z0, .int .u64 z1, .int .u64 z2, .int .u64 z3] rfl rfl 62 _ (Blk.new _ _ _) (by kernel_rfl) (by rfl) (by simp [Value.oneCell']) ?_; intro w3 hk3 hg3; have K3 := Lib.hid hk3; have B23 := Lib.hid (Below.grown (B1 w2 (.cells #[.int .i64 0, .int .i64 0, .int .i64 0, .string ⟨#[]⟩, .int .i64 0, .int .u64 0, .int .u64 0, .int .u64 0, .int .u64 0] 62)) hg3 (by simp) (fun j hj => by cases hj; exact Nat.le_refl _)); clear hk3 hg3))
  obtain ⟨b6, e6⟩ : ∃ b, b = w2.heap.size := ⟨_, rfl⟩
  obtain ⟨b4, e4⟩ : ∃ b, b = w.heap.size := ⟨_, rfl⟩
  rw [← e6] at K3
  have K4 := Lib.hid (K2.out.below' B23.out)
  rw [← e4] at K4
  have hne : b4 ≠ b6 := by have := K2.out.lt; omega
  have hne2 : b6 ≠ b4 := by omega
  have c0 := K3.out.cell 0; have c1 := K3.out.cell 1; have c2 := K3.out.cell 2; have c3 := K3.out.cell 3; have c4 := K3.out.cell 4; have c5 := K3.out.cell 5; have c6 := K3.out.cell 6; have c7 := K3.out.cell 7; have c8 := K3.out.cell 8
  have d0 := K4.out.cell 0; have d1 := K4.out.cell 1; have d2 := K4.out.cell 2; have d3 := K4.out.cell 3; have d4 := K4.out.cell 4; have d5 := K4.out.cell 5; have d6 := K4.out.cell 6; have d7 := K4.out.cell 7; have d8 := K4.out.cell 8
  have f0 := K4.out.frozen 0; have f1 := K4.out.frozen 1; have f2 := K4.out.frozen 2; have f3 := K4.out.frozen 3; have f4 := K4.out.frozen 4; have f5 := K4.out.frozen 5; have f6 := K4.out.frozen 6; have f7 := K4.out.frozen 7; have f8 := K4.out.frozen 8
  simp only [List.getElem?_toArray, List.getElem?_cons_zero, List.getElem?_cons_succ] at c0 c1 c2 c3 c4 c5 c6 c7 c8 d0 d1 d2 d3 d4 d5 d6 d7 d8
  have E46 := Lib.hid (And.intro e4 e6)
  rw [← e6, ← e4]
  clear e4 e6
  go_region
  all_goals go_wp2_with fail
  all_goals obtain ⟨k5, g5⟩ := set9 (v0 := .int .i64 x.kind) (v1 := .int .i64 p) (v2 := .int .i64 E) (v3 := .string T) (v4 := .int .i64 x.lev) (v5 := .int .u64 z0) (v6 := .int .u64 z1) (v7 := .int .u64 z2) (v8 := .int .u64 z3) K4.out
  all_goals exact bodyPost_ret (results_cell_tmp rfl _ _ b4 62 _ _ _ rfl rfl k5 Tryz.underlying62 rfl (by kernel_rfl)) rfl ⟨rfl, below_new (bb B2'.out B23.out) (bb B2'.out B23.out).size g5 (by rw [E46.out.1]; exact Nat.le_refl _)⟩
set_option maxRecDepth 100000 in
set_option maxHeartbeats 4000000 in
theorem rNext_out (a : Int) (s : ByteArray) (ha : a < 0 ∨ (s.size : Int) < a) (w : World) :
    Calls Tryz.prog 20 #[.string s, .int .i64 a] w fun e w' => e = .returned (.tuple #[.agg wzero, .bool false]) ∧ Below w.heap.size w w' := by
  have K0 := Lib.hid (Blk.new w wzero 62)
  rcases Int.lt_or_le a 0 with h | h
  · clear ha
    go_enter Tryz.func20, Tryz.ntmps20
    go_wp2_with (refine wpList_store_whole rfl 62 (.tmp 4) (.tmp 15) rfl w.heap.size wzero rfl rfl 62 _ K0.out (by kernel_rfl) (by rfl) (by simp [Value.oneCell']) ?_; intro w5 hk2 hg2; have K5 := Lib.hid hk2; have G5 := Lib.hid hg2; clear hk2 hg2)
    exact bodyPost_ret (results_cell_tmp rfl _ _ w.heap.size 62 _ _ _ rfl rfl K5.out Tryz.underlying62 rfl (by kernel_rfl)) rfl ⟨rfl, below_store (B1 w _) G5.out (Nat.le_refl _)⟩
  · have h2 : (s.size : Int) < a := by omega
    clear ha
    go_enter Tryz.func20, Tryz.ntmps20
    go_wp2_with (refine wpList_store_whole rfl 62 (.tmp 4) (.tmp 15) rfl w.heap.size wzero rfl rfl 62 _ K0.out (by kernel_rfl) (by rfl) (by simp [Value.oneCell']) ?_; intro w5 hk2 hg2; have K5 := Lib.hid hk2; have G5 := Lib.hid hg2; clear hk2 hg2)
    exact bodyPost_ret (results_cell_tmp rfl _ _ w.heap.size 62 _ _ _ rfl rfl K5.out Tryz.underlying62 rfl (by kernel_rfl)) rfl ⟨rfl, below_store (B1 w _) G5.out (Nat.le_refl _)⟩
end Go.Proofs.YtfpcgoioneanaaaGreatDoor

/- A LAW OF OUR OWN FOR A REGION THAT DRAWS ITS ORDER: each operation is given a fact about the value that it yields, a fact that stays true while the world only grows; then the order does not matter, and each operation is looked at once. Nothing here speaks of one program. -/
import Derived.Orders
import Derived.Below
set_option linter.unusedSimpArgs false
set_option linter.unusedVariables false
namespace Go.Proofs.YtlbjmkljmhfjdaaGreat
open Go

/-- What an operation does, if it does not panic: it yields a value, or calls what returns one. -/
def Gives (P : Program) (post : Value → World → Prop) : Result Next → Prop
  | .ok (.value v) w' => post v w'
  | .ok .skip w' => post undef w'
  | .ok (.enter f args) w' => Calls P f args w' fun e w'' => ∃ v, e = .returned v ∧ post v w''
  | _ => False

theorem Gives.value {P : Program} {post : Value → World → Prop} {r : Result Next} {v : Value} {w : World} (h : r = .ok (.value v) w) (hp : post v w) : Gives P post r := by subst h; exact hp
theorem Gives.enter {P : Program} {post : Value → World → Prop} {r : Result Next} {f : FuncId} {args : Array Value} {w : World} (h : r = .ok (.enter f args) w)
    (hp : Calls P f args w fun e w'' => ∃ v, e = .returned v ∧ post v w'') : Gives P post r := by subst h; exact hp

section
variable {P : Program} {ops : Array Oper} {Q : Exit → Act → World → Prop}

/-- Does the region write temporary t? -/
def writesB (ops : Array Oper) (t : Tmp) : Bool := ops.any fun o => o.dst == some t

/-- THE REGION's SHAPE: each edge leads back; each temporary is written once; what an operation reads, its guard too, is not written in the region, or by one for which it waits. -/
def shapeB (ops : Array Oper) : Bool :=
  (List.range ops.size).all fun j => match ops[j]? with
    | none => true
    | some o =>
      (o.after.all fun e => !Region.binds .any e || decide (e.on < j)) &&
      ((List.range ops.size).all fun i => i == j || (match ops[i]? with | some p => p.dst == none || p.dst != o.dst | none => true)) &&
      ((o.looksAt ops).all fun t => (List.range ops.size).all fun i => match ops[i]? with
        | some p => p.dst != some t || o.after.any fun e => Region.binds .any e && e.on == i
        | none => true) &&
      (match o.guard with
       | some (g, _) => (match ops[g]? with | some p => p.dst.isSome && o.after.any (fun e => Region.binds .any e && e.on == g) | none => false)
       | none => true)

def slotOf (a : Act) (o : Oper) : Value := match o.dst with | some d => a.tmps.getD d undef | none => undef

/-- The values of the region's operations, laid into the frame. -/
def putAll : List Oper → List Value → Act → Act
  | o :: os, v :: vs, a => putAll os vs (a.put o.dst v)
  | _, _, a => a

theorem cnt_lt {p q : Nat → Bool} (hpq : ∀ i, q i = true → p i = true) : ∀ (l : List Nat) (j : Nat), j ∈ l → p j = true → q j = false → l.countP q + 1 ≤ l.countP p
  | i :: l, j, hj, hp, hq => by
    have hle : ∀ l : List Nat, l.countP q ≤ l.countP p := fun l => List.countP_mono_left fun i _ h => hpq i h
    have h0 := hle l
    rcases List.mem_cons.1 hj with rfl | h
    · simp only [List.countP_cons, hp, hq, if_true, Bool.false_eq_true, if_false]; omega
    · have := cnt_lt hpq l j h hp hq
      simp only [List.countP_cons]
      by_cases h1 : q i = true
      · simp only [h1, hpq i h1, if_true]; omega
      · by_cases h2 : p i = true
        · simp only [h1, h2, if_true]; simp; omega
        · simp only [h1, h2]; simp; omega

def left (ops : Array Oper) (listed : Array Bool) : Nat := (List.range ops.size).countP fun i => !listed.getD i true

theorem left_set {listed : Array Bool} {j : Nat} (hj : j < ops.size) (h : listed.getD j true = false) : left ops (listed.setIfInBounds j true) + 1 ≤ left ops listed := by
  unfold left
  refine cnt_lt (fun i hi => ?_) _ j (List.mem_range.2 hj) (by simp only [h, Bool.not_false]) ?_
  · by_cases e : j = i
    · subst e; simp only [h, Bool.not_false]
    · rw [getD_set_ne true e] at hi; exact hi
  · by_cases hb : j < listed.size
    · simp [hb]
    · simp [Array.getD_eq_getD_getElem?, Array.getElem?_eq_none (Nat.le_of_not_lt hb)] at h

theorem shape_at (hs : shapeB ops = true) {j : Nat} {o : Oper} (hj : ops[j]? = some o) :
    (∀ e ∈ o.after, Region.binds .any e = true → e.on < j) ∧
    (∀ (i : Nat) (p : Oper), ops[i]? = some p → i ≠ j → ∀ d, o.dst = some d → p.dst ≠ some d) ∧
    (∀ t ∈ o.looksAt ops, ∀ (i : Nat) (p : Oper), ops[i]? = some p → p.dst = some t → ∃ e ∈ o.after, Region.binds .any e = true ∧ e.on = i) ∧
    (∀ g b, o.guard = some (g, b) → ∃ p d, ops[g]? = some p ∧ p.dst = some d ∧ ∃ e ∈ o.after, Region.binds .any e = true ∧ e.on = g) := by
  have hlt : j < ops.size := (Array.getElem?_eq_some_iff.1 hj).1
  have h := List.all_eq_true.1 hs j (List.mem_range.2 hlt)
  rw [hj] at h
  simp only [Bool.and_eq_true] at h
  obtain ⟨⟨⟨h1, h2⟩, h3⟩, h4⟩ := h
  refine ⟨fun e he hb => ?_, fun i p hp hne d hd hpd => ?_, fun t ht i p hp hpt => ?_, fun g b hg => ?_⟩
  · have := Array.all_eq_true'.1 h1 e he
    rw [hb] at this; simpa using this
  · have := List.all_eq_true.1 h2 i (List.mem_range.2 (Array.getElem?_eq_some_iff.1 hp).1)
    rw [hp] at this
    dsimp only at this
    rw [hpd, hd] at this
    simp [hne] at this
  · have := List.all_eq_true.1 (List.all_eq_true.1 h3 t ht) i (List.mem_range.2 (Array.getElem?_eq_some_iff.1 hp).1)
    rw [hp] at this
    dsimp only at this
    rw [hpt] at this
    simp only [bne_self_eq_false, Bool.false_or, Array.any_eq_true'] at this
    obtain ⟨e, he, hbe⟩ := this
    simp only [Bool.and_eq_true, beq_iff_eq] at hbe
    exact ⟨e, he, hbe.1, hbe.2⟩
  · rw [hg] at h4
    cases hp : ops[g]? with
    | none => simp [hp] at h4
    | some p =>
      simp only [hp, Bool.and_eq_true, Array.any_eq_true'] at h4
      obtain ⟨hd, e, he, hbe⟩ := h4
      simp only [beq_iff_eq] at hbe
      obtain ⟨d, hd⟩ := Option.isSome_iff_exists.1 hd
      exact ⟨p, d, rfl, hd, e, he, hbe.1, hbe.2⟩

theorem all_listed {listed : Array Bool} (hs : shapeB ops = true) (hz : listed.size = ops.size) (hr : Region.ready .any ops listed = []) : ∀ j, j < ops.size → listed.getD j true = true := by
  intro j
  induction j using Nat.strongRecOn with
  | ind j ih =>
    intro hj
    by_cases h : listed.getD j true = true
    · exact h
    · exfalso
      have h' : listed.getD j true = false := by simpa using h
      have hm : j ∈ Region.ready .any ops listed := by
        refine mem_ready.2 ⟨h', ops[j], Array.getElem?_eq_getElem hj, fun e he hb => ?_⟩
        have hlt := (shape_at hs (Array.getElem?_eq_getElem hj)).1 e he hb
        have := ih e.on hlt (by omega)
        have hb : e.on < listed.size := by omega
        simpa [hb] using this
      rw [hr] at hm; cases hm

/-- What the walk knows when some have come up. -/
structure Known (ops : Array Oper) (Φ : Nat → Value → World → Prop) (S : World → Prop) (a0 : Act) (listed : Array Bool) (a : Act) (w : World) : Prop where
  s : S w
  size : listed.size = ops.size
  tsize : a.tmps.size = a0.tmps.size
  defers : a.defers = a0.defers
  facts : ∀ (i : Nat) (o : Oper) (d : Tmp), ops[i]? = some o → o.dst = some d → listed.getD i true = true → Φ i (a.tmps.getD d undef) w
  rest : ∀ (t : Tmp), (∀ (i : Nat) (o : Oper), ops[i]? = some o → o.dst = some t → listed.getD i true = false) → a.tmps[t]? = a0.tmps[t]?

theorem getD_put {a : Act} {d t : Tmp} (v : Value) (h : d ≠ t) : (a.put (some d) v).tmps.getD t undef = a.tmps.getD t undef := by
  simp [Act.put, Array.getD_eq_getD_getElem?, Array.getElem?_setIfInBounds_ne h]

/-- One more has come up. -/
theorem Known.put {Φ : Nat → Value → World → Prop} {S : World → Prop} {R : World → World → Prop} {a0 : Act} {listed : Array Bool} {a : Act} {w w' : World} {j : Nat} {o : Oper} {v : Value}
    (hs : shapeB ops = true) (hmono : ∀ i v w w', S w → S w' → R w w' → Φ i v w → Φ i v w') (hin : ∀ (i : Nat) (o : Oper) (d : Tmp), ops[i]? = some o → o.dst = some d → d < a0.tmps.size)
    (k : Known ops Φ S a0 listed a w) (hj : ops[j]? = some o) (hS : S w') (hR : R w w') (hΦ : Φ j v w') :
    Known ops Φ S a0 (listed.setIfInBounds j true) (a.put o.dst v) w' where
  s := hS
  size := by simpa using k.size
  tsize := by cases o.dst <;> simp [Act.put, k.tsize]
  defers := by cases h : o.dst <;> simp [Act.put, k.defers]
  facts := by
    intro i p d hp hd hl
    by_cases e : j = i
    · subst e
      rw [hj] at hp; cases hp
      rw [hd]
      have hlt : d < a.tmps.size := by rw [k.tsize]; exact hin j o d hj hd
      simpa [Act.put, hlt] using hΦ
    · rw [getD_set_ne true e] at hl
      have hf := hmono i _ w w' k.s hS hR (k.facts i p d hp hd hl)
      cases ho : o.dst with
      | none => exact hf
      | some c =>
        have hne : c ≠ d := fun ec => (shape_at hs hj).2.1 i p hp (Ne.symm e) c ho (by rw [hd, ec])
        rw [getD_put v hne]; exact hf
  rest := by
    intro t ht
    have hold := k.rest t fun i p hp hd => by
      have := ht i p hp hd
      by_cases e : j = i
      · subst e
        have hlt : j < listed.size := by rw [k.size]; exact (Array.getElem?_eq_some_iff.1 hj).1
        simp [hlt] at this
      · rwa [getD_set_ne true e] at this
    cases ho : o.dst with
    | none => exact hold
    | some c =>
      have hne : c ≠ t := fun ec => by
        have := ht j o hj (by rw [ho, ec])
        have hlt : j < listed.size := by rw [k.size]; exact (Array.getElem?_eq_some_iff.1 hj).1
        simp [hlt] at this
      simp [Act.put, Array.getElem?_setIfInBounds_ne hne, hold]

theorem wp_region_facts {id : Nat} {a0 : Act} {w0 : World} (hm : P.follows .mixedOrders = true) (Φ : Nat → Value → World → Prop) (gd : Nat → Bool) (S : World → Prop) (R : World → World → Prop)
    (hs : shapeB ops = true) (hin : ∀ (i : Nat) (o : Oper) (d : Tmp), ops[i]? = some o → o.dst = some d → d < a0.tmps.size)
    (hmono : ∀ i v w w', S w → S w' → R w w' → Φ i v w → Φ i v w') (hRr : ∀ w, R w w)
    (hg : ∀ (j : Nat) (o : Oper) (g : Nat) (b : Bool), ops[j]? = some o → o.guard = some (g, b) → ∀ v w, Φ g v w → if gd j then v = .bool b else v ≠ .bool b)
    (hg0 : ∀ (j : Nat) (o : Oper), ops[j]? = some o → o.guard = none → gd j = true)
    (hS : S { w0 with drawn := w0.drawn + 1 })
    (hop : ∀ (j : Nat) (o : Oper), ops[j]? = some o → gd j = true → ∀ (a : Act) (w : World), S w → (∀ t, writesB ops t = false → a.eval (.tmp t) = a0.eval (.tmp t)) →
      (∀ e ∈ o.after, Region.binds .any e = true → ∀ (p : Oper) (d : Tmp), ops[e.on]? = some p → p.dst = some d → Φ e.on (a.eval (.tmp d)) w) →
      Gives P (fun v w' => S w' ∧ R w w' ∧ Φ j v w') ((execOp a.eval o).run P w))
    (hun : ∀ (j : Nat) (o : Oper), ops[j]? = some o → gd j = false → ∀ w, Φ j undef w)
    (hend : ∀ (a : Act) (w : World), S w → a.tmps.size = a0.tmps.size → a.defers = a0.defers → (∀ (i : Nat) (o : Oper) (d : Tmp), ops[i]? = some o → o.dst = some d → Φ i (a.tmps.getD d undef) w) →
      (∀ t, writesB ops t = false → a.tmps[t]? = a0.tmps[t]?) → Q .normal a w) :
    (Code.region id ops true).wp P Q a0 w0 := by
  refine wp_region_any hm ?_
  have key : ∀ (fuel : Nat) (listed : Array Bool) (a : Act) (w : World), left ops listed ≤ fuel → Known ops Φ S a0 listed a w → wpAny P .any ops Q fuel listed a w := by
    have fin : ∀ (listed : Array Bool) (a : Act) (w : World), Known ops Φ S a0 listed a w → Region.ready .any ops listed = [] → Q .normal a w := by
      intro listed a w k hr
      have hl := all_listed hs k.size hr
      refine hend a w k.s k.tsize k.defers (fun i o d hi hd => k.facts i o d hi hd (hl i (Array.getElem?_eq_some_iff.1 hi).1)) fun t ht => k.rest t fun i o hi hd => ?_
      have := Array.any_eq_false.1 ht i (Array.getElem?_eq_some_iff.1 hi).1
      rw [(Array.getElem?_eq_some_iff.1 hi).2, hd] at this
      simp at this
    intro fuel
    induction fuel with
    | zero =>
      intro listed a w hf k
      have hr : Region.ready .any ops listed = [] := by
        cases h : Region.ready .any ops listed with
        | nil => rfl
        | cons j l =>
          have hj : j ∈ Region.ready .any ops listed := by rw [h]; simp
          obtain ⟨h0, o, ho, _⟩ := mem_ready.1 hj
          have := left_set (ops := ops) (Array.getElem?_eq_some_iff.1 ho).1 h0
          omega
      exact ⟨hr, fin listed a w k hr⟩
    | succ fuel ih =>
      intro listed a w hf k
      refine ⟨fin listed a w k, fun j hj => ?_⟩
      obtain ⟨h0, o, ho, hdep⟩ := mem_ready.1 hj
      have hl := left_set (ops := ops) (Array.getElem?_eq_some_iff.1 ho).1 h0
      have hdep' : ∀ e ∈ o.after, Region.binds .any e = true → ∀ (p : Oper) (d : Tmp), ops[e.on]? = some p → p.dst = some d → Φ e.on (a.tmps.getD d undef) w := by
        intro e he hb p d hp hd
        have h1 := hdep e he hb
        have hlt : e.on < listed.size := by rw [k.size]; exact (Array.getElem?_eq_some_iff.1 hp).1
        refine k.facts e.on p d hp hd ?_
        simpa [hlt] using h1
      have hun' : ∀ t, writesB ops t = false → a.eval (.tmp t) = a0.eval (.tmp t) := by
        intro t ht
        have := k.rest t fun i p hp hd => by
          have := Array.any_eq_false.1 ht i (Array.getElem?_eq_some_iff.1 hp).1
          rw [(Array.getElem?_eq_some_iff.1 hp).2, hd] at this
          simp at this
        simp [Act.eval, Array.getD_eq_getD_getElem?, this]
      have hw : Region.wanted o (yielded ops a.tmps) = gd j := by
        unfold Region.wanted
        cases hgd : o.guard with
        | none => simp [hg0 j o ho hgd]
        | some gb =>
          obtain ⟨g, b⟩ := gb
          obtain ⟨p, d, hp, hd, e, he, hb, rfl⟩ := (shape_at hs ho).2.2.2 g b hgd
          have hv := hg j o _ b ho hgd _ w (hdep' e he hb p d hp hd)
          have hy : yielded ops a.tmps e.on = match a.tmps[d]? with | some (.bool x) => some x | _ => none := by
            unfold yielded; rw [hp]; simp only [Option.bind_some, hd]
            cases a.tmps[d]? with
            | none => rfl
            | some x => cases x <;> rfl
          have hz : a.tmps.getD d undef = (a.tmps[d]?).getD undef := by simp [Array.getD_eq_getD_getElem?]
          simp only [hy]
          rw [hz] at hv
          cases hx : a.tmps[d]? with
          | none =>
            rw [hx] at hv
            cases hgj : gd j with
            | true => rw [hgj] at hv; simp [undef] at hv
            | false => rfl
          | some x =>
            rw [hx] at hv
            cases hgj : gd j with
            | true => rw [hgj] at hv; simp at hv; subst hv; simp
            | false =>
              rw [hgj] at hv; simp at hv
              cases x <;> simp_all
      unfold wpOp
      simp only [ho, hw]
      cases hgj : gd j with
      | false =>
        simp only [Bool.false_eq_true, if_false]
        exact ih _ _ _ (by omega) (Known.put hs hmono hin k ho k.s (hRr w) (hun j o ho hgj w))
      | true =>
        simp only [if_true]
        refine .inl ?_
        have hgv := hop j o ho hgj a w k.s hun' hdep'
        unfold Oper.wp
        generalize (execOp a.eval o).run P w = r at hgv
        cases r with
        | halt x w' => exact hgv.elim
        | ok n w' =>
          cases n <;> simp only [Gives] at hgv <;> simp only [Oper.upon]
          case value v => exact ih _ _ _ (by omega) (Known.put hs hmono hin k ho hgv.1 hgv.2.1 hgv.2.2)
          case skip => exact ih _ _ _ (by omega) (Known.put hs hmono hin k ho hgv.1 hgv.2.1 hgv.2.2)
          case enter f args =>
            refine hgv.mono ?_
            rintro e w'' ⟨v, rfl, h1, h2, h3⟩
            exact ih _ _ _ (by omega) (Known.put hs hmono hin k ho h1 h2 h3)
  refine key _ _ _ _ ?_ ⟨hS, by simp, rfl, rfl, fun i o d hi _ hl => ?_, fun t _ => rfl⟩
  · unfold left
    have := List.countP_le_length (p := fun i => !(Array.replicate ops.size false).getD i true) (l := List.range ops.size)
    simpa using this
  · have := (Array.getElem?_eq_some_iff.1 hi).1
    simp [this] at hl
end
end Go.Proofs.YtlbjmkljmhfjdaaGreat

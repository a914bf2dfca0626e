/- A LAW OF OUR OWN FOR A REGION THAT DRAWS ITS ORDER: each operation is given a fact about the value that it yields, a fact that stays true while the world only grows; then the order does not matter, and each operation is looked at once. Nothing here speaks of one program. -/
import Derived.Orders
import Derived.Below
set_option linter.unusedSimpArgs false
set_option linter.unusedVariables false
namespace Go.Proofs.YtlbjmkljmhfjdaaGreat
open Go

/-- What an operation does, if it does not panic: it yields a value, or calls what returns one. -/
def Gives (P : Program) (post : Value → World → Prop) : Result Next → Prop
  | .ok (.value v) w' => post v w'
  | .ok .skip w' => post undef w'
  | .ok (.enter f args) w' => Calls P f args w' fun e w'' => ∃ v, e = .returned v ∧ post v w''
  | _ => False

theorem Gives.value {P : Program} {post : Value → World → Prop} {r : Result Next} {v : Value} {w : World} (h : r = .ok (.value v) w) (hp : post v w) : Gives P post r := by subst h; exact hp
theorem Gives.enter {P : Program} {post : Value → World → Prop} {r : Result Next} {f : FuncId} {args : Array Value} {w : World} (h : r = .ok (.enter f args) w)
    (hp : Calls P f args w fun e w'' => ∃ v, e = .returned v ∧ post v w'') : Gives P post r := by subst h; exact hp

section
variable {P : Program} {ops : Array Oper} {Q : Exit → Act → World → Prop}

/-- Does the region write temporary t? -/
def writesB (ops : Array Oper) (t : Tmp) : Bool := ops.any fun o => o.dst == some t

/-- THE REGION's SHAPE: each edge leads back; each temporary is written once; what an operation reads, its guard too, is not written in the region, or by one for which it waits. -/
def shapeB (ops : Array Oper) : Bool :=
  (List.range ops.size).all fun j => match ops[j]? with
    | none => true
    | some o =>
      (o.after.all fun e => !Region.binds .any e || decide (e.on < j)) &&
      ((List.range ops.size).all fun i => i == j || (match ops[i]? with | some p => p.dst == none || p.dst != o.dst | none => true)) &&
      ((o.looksAt ops).all fun t => (List.range ops.size).all fun i => match ops[i]? with
        | some p => p.dst != some t || o.after.any fun e => Region.binds .any e && e.on == i
        | none => true) &&
      (match o.guard with
       | some (g, _) => (match ops[g]? with | some p => p.dst.isSome && o.after.any (fun e => Region.binds .any e && e.on == g) | none => false)
       | none => true)

theorem cnt_lt {p q : Nat → Bool} (hpq : ∀ i, q i = true → p i = true) : ∀ (l : List Nat) (j : Nat), j ∈ l → p j = true → q j = false → l.countP q + 1 ≤ l.countP p
  | i :: l, j, hj, hp, hq => by
    have hle : ∀ l : List Nat, l.countP q ≤ l.countP p := fun l => List.countP_mono_left fun i _ h => hpq i h
    have h0 := hle l
    rcases List.mem_cons.1 hj with rfl | h
    · simp only [List.countP_cons, hp, hq, if_true, Bool.false_eq_true, if_false]; omega
    · have := cnt_lt hpq l j h hp hq
      simp only [List.countP_cons]
      by_cases h1 : q i = true
      · simp only [h1, hpq i h1, if_true]; omega
      · by_cases h2 : p i = true
        · simp only [h1, h2, if_true]; simp; omega
        · simp only [h1, h2]; simp; omega

def left (ops : Array Oper) (listed : Array Bool) : Nat := (List.range ops.size).countP fun i => !listed.getD i true

theorem left_set {listed : Array Bool} {j : Nat} (hj : j < ops.size) (h : listed.getD j true = false) : left ops (listed.setIfInBounds j true) + 1 ≤ left ops listed := by
  unfold left
  refine cnt_lt (fun i hi => ?_) _ j (List.mem_range.2 hj) (by simp only [h, Bool.not_false]) ?_
  · by_cases e : j = i
    · subst e; simp only [h, Bool.not_false]
    · rw [getD_set_ne true e] at hi; exact hi
  · by_cases hb : j < listed.size
    · simp [hb]
    · simp [Array.getD_eq_getD_getElem?, Array.getElem?_eq_none (Nat.le_of_not_lt hb)] at h

theorem shape_at (hs : shapeB ops = true) {j : Nat} {o : Oper} (hj : ops[j]? = some o) :
    (∀ e ∈ o.after, Region.binds .any e = true → e.on < j) ∧
    (∀ (i : Nat) (p : Oper), ops[i]? = some p → i ≠ j → ∀ d, o.dst = some d → p.dst ≠ some d) ∧
    (∀ t ∈ o.looksAt ops, ∀ (i : Nat) (p : Oper), ops[i]? = some p → p.dst = some t → ∃ e ∈ o.after, Region.binds .any e = true ∧ e.on = i) ∧
    (∀ g b, o.guard = some (g, b) → ∃ p d, ops[g]? = some p ∧ p.dst = some d ∧ ∃ e ∈ o.after, Region.binds .any e = true ∧ e.on = g) := by
  have hlt : j < ops.size := (Array.getElem?_eq_some_iff.1 hj).1
  have h := List.all_eq_true.1 hs j (List.mem_range.2 hlt)
  rw [hj] at h
  simp only [Bool.and_eq_true] at h
  obtain ⟨⟨⟨h1, h2⟩, h3⟩, h4⟩ := h
  refine ⟨fun e he hb => ?_, fun i p hp hne d hd hpd => ?_, fun t ht i p hp hpt => ?_, fun g b hg => ?_⟩
  · have := Array.all_eq_true'.1 h1 e he
    rw [hb] at this; simpa using this
  · have := List.all_eq_true.1 h2 i (List.mem_range.2 (Array.getElem?_eq_some_iff.1 hp).1)
    rw [hp] at this
    dsimp only at this
    rw [hpd, hd] at this
    simp [hne] at this
  · have := List.all_eq_true.1 (List.all_eq_true.1 h3 t ht) i (List.mem_range.2 (Array.getElem?_eq_some_iff.1 hp).1)
    rw [hp] at this
    dsimp only at this
    rw [hpt] at this
    simp only [bne_self_eq_false, Bool.false_or, Array.any_eq_true'] at this
    obtain ⟨e, he, hbe⟩ := this
    simp only [Bool.and_eq_true, beq_iff_eq] at hbe
    exact ⟨e, he, hbe.1, hbe.2⟩
  · rw [hg] at h4
    cases hp : ops[g]? with
    | none => simp [hp] at h4
    | some p =>
      simp only [hp, Bool.and_eq_true, Array.any_eq_true'] at h4
      obtain ⟨hd, e, he, hbe⟩ := h4
      simp only [beq_iff_eq] at hbe
      obtain ⟨d, hd⟩ := Option.isSome_iff_exists.1 hd
      exact ⟨p, d, rfl, hd, e, he, hbe.1, hbe.2⟩

theorem all_listed {listed : Array Bool} (hs : shapeB ops = true) (hz : listed.size = ops.size) (hr : Region.ready .any ops listed = []) : ∀ j, j < ops.size → listed.getD j true = true := by
  intro j
  induction j using Nat.strongRecOn with
  | ind j ih =>
    intro hj
    by_cases h : listed.getD j true = true
    · exact h
    · exfalso
      have h' : listed.getD j true = false := by simpa using h
      have hm : j ∈ Region.ready .any ops listed := by
        refine mem_ready.2 ⟨h', ops[j], Array.getElem?_eq_getElem hj, fun e he hb => ?_⟩
        have hlt := (shape_at hs (Array.getElem?_eq_getElem hj)).1 e he hb
        have := ih e.on hlt (by omega)
        have hb : e.on < listed.size := by omega
        simpa [hb] using this
      rw [hr] at hm; cases hm

/-- What the walk knows when some have come up. -/
structure Known (ops : Array Oper) (Φ : Nat → Value → World → Prop) (S : World → Prop) (a0 : Act) (listed : Array Bool) (a : Act) (w : World) : Prop where
  s : S w
  size : listed.size = ops.size
  tsize : a.tmps.size = a0.tmps.size
  defers : a.defers = a0.defers
  facts : ∀ (i : Nat) (o : Oper) (d : Tmp), ops[i]? = some o → o.dst = some d → listed.getD i true = true → Φ i (a.tmps.getD d undef) w
  rest : ∀ (t : Tmp), (∀ (i : Nat) (o : Oper), ops[i]? = some o → o.dst = some t → listed.getD i true = false) → a.tmps[t]? = a0.tmps[t]?

theorem getD_put {a : Act} {d t : Tmp} (v : Value) (h : d ≠ t) : (a.put (some d) v).tmps.getD t undef = a.tmps.getD t undef := by
  simp [Act.put, Array.getD_eq_getD_getElem?, Array.getElem?_setIfInBounds_ne h]

/-- One more has come up. -/
theorem Known.put {Φ : Nat → Value → World → Prop} {S : World → Prop} {R : World → World → Prop} {a0 : Act} {listed : Array Bool} {a : Act} {w w' : World} {j : Nat} {o : Oper} {v : Value}
    (hs : shapeB ops = true) (hmono : ∀ i v w w', S w → S w' → R w w' → Φ i v w → Φ i v w') (hin : ∀ (i : Nat) (o : Oper) (d : Tmp), ops[i]? = some o → o.dst = some d → d < a0.tmps.size)
    (k : Known ops Φ S a0 listed a w) (hj : ops[j]? = some o) (hS : S w') (hR : R w w') (hΦ : Φ j v w') :
    Known ops Φ S a0 (listed.setIfInBounds j true) (a.put o.dst v) w' where
  s := hS
  size := by simpa using k.size
  tsize := by cases o.dst <;> simp [Act.put, k.tsize]
  defers := by cases h : o.dst <;> simp [Act.put, k.defers]
  facts := by
    intro i p d hp hd hl
    by_cases e : j = i
    · subst e
      rw [hj] at hp; cases hp
      rw [hd]
      have hlt : d < a.tmps.size := by rw [k.tsize]; exact hin j o d hj hd
      simpa [Act.put, hlt] using hΦ
    · rw [getD_set_ne true e] at hl
      have hf := hmono i _ w w' k.s hS hR (k.facts i p d hp hd hl)
      cases ho : o.dst with
      | none => exact hf
      | some c =>
        have hne : c ≠ d := fun ec => (shape_at hs hj).2.1 i p hp (Ne.symm e) c ho (by rw [hd, ec])
        rw [getD_put v hne]; exact hf
  rest := by
    intro t ht
    have hold := k.rest t fun i p hp hd => by
      have := ht i p hp hd
      by_cases e : j = i
      · subst e
        have hlt : j < listed.size := by rw [k.size]; exact (Array.getElem?_eq_some_iff.1 hj).1
        simp [hlt] at this
      · rwa [getD_set_ne true e] at this
    cases ho : o.dst with
    | none => exact hold
    | some c =>
      have hne : c ≠ t := fun ec => by
        have := ht j o hj (by rw [ho, ec])
        have hlt : j < listed.size := by rw [k.size]; exact (Array.getElem?_eq_some_iff.1 hj).1
        simp [hlt] at this
      simp [Act.put, Array.getElem?_setIfInBounds_ne hne, hold]

end
end Go.Proofs.YtlbjmkljmhfjdaaGreat

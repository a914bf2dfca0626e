/- The law of a region that draws its order and whose writers stand in a chain: each operation has one value, the world goes from one phase to the next. Nothing here speaks of one program. -/
import Derived.Test.YtmlaepbmdfmgbaaGreatB3
import Derived.Test.YtmlaepbmdfmgbaaGreatA3
set_option linter.unusedSimpArgs false
set_option linter.unusedVariables false
namespace Go.Proofs.YtmlaepbmdfmgbaaGreat
open Go Go.RowKit
section
variable {P : Program} {ops : Array Oper} {Q : Exit → Act → World → Prop} {n : Nat}
theorem opIn_gives {post : Value → World → Prop} {K : Act → World → Prop} {a : Act} {w : World} {i : Nat} {o : Oper} (ho : ops[i]? = some o) (hg : o.guard = none)
    (h : Gives P post ((execOp a.eval o).run P w)) (hK : ∀ v w', post v w' → K (a.put o.dst v) w') : wpOpIn Fence.wide n P ops Q i K a w := by
  unfold wpOpIn
  simp only [ho]
  have hw : Region.wanted o (yielded ops a.tmps) = true := by simp [Region.wanted, hg]
  rw [if_pos hw]
  refine ⟨fun _ _ => trivial, ?_⟩
  rw [show Fence.wide.round = none from rfl, Oper.semAt_none]
  generalize (execOp a.eval o).run P w = r at h
  cases r with
  | ok x w' =>
    cases x with
    | value v => exact hK _ _ h
    | skip => exact hK _ _ h
    | enter f args =>
      refine ⟨fun h => by simp [Fence.wide] at h, callsIn_wide.2 (Calls.mono h ?_)⟩
      rintro e w'' ⟨v, rfl, hp⟩
      exact hK _ _ hp
    | _ => exact h.elim
  | halt x w' => exact h.elim
theorem Gives.skip {post : Value → World → Prop} {r : Result Next} {w : World} (h : r = .ok .skip w) (hp : post undef w) : Gives P post r := by subst h; exact hp
/-- Does one wait for another one? -/
def waitsB (ops : Array Oper) (j i : Nat) : Bool := match ops[j]? with
  | some o => o.after.any fun e => Region.binds .any e && e.on == i
  | none => false
theorem waits_iff {j i : Nat} {o : Oper} (ho : ops[j]? = some o) : waitsB ops j i = true ↔ ∃ e ∈ o.after, Region.binds .any e = true ∧ e.on = i := by
  unfold waitsB
  rw [ho]
  simp only [Array.any_eq_true']
  constructor
  · rintro ⟨e, he, h⟩
    simp only [Bool.and_eq_true, beq_iff_eq] at h
    exact ⟨e, he, h⟩
  · rintro ⟨e, he, h⟩
    exact ⟨e, he, by simpa using h⟩
/-- .. over others, too. -/
def waitsT (ops : Array Oper) : Nat → Nat → Nat → Bool
  | 0, j, i => waitsB ops j i
  | f + 1, j, i => waitsB ops j i || (List.range ops.size).any fun k => waitsB ops j k && waitsT ops f k i
theorem waitsT_listed {listed : Array Bool} (hcl : ∀ i j, i < ops.size → listed.getD i true = true → waitsB ops i j = true → listed.getD j true = true) : ∀ (f i j : Nat), i < ops.size → listed.getD i true = true → waitsT ops f i j = true → listed.getD j true = true
  | 0, i, j, hi, hl, h => hcl i j hi hl h
  | f + 1, i, j, hi, hl, h => by
    unfold waitsT at h
    simp only [Bool.or_eq_true, List.any_eq_true, List.mem_range, Bool.and_eq_true] at h
    rcases h with h | ⟨k, hk, h1, h2⟩
    · exact hcl i j hi hl h
    · exact waitsT_listed hcl f k j hk (hcl i k hi hl h1) h2
/-- The world of a phase: those of the writers that are ahead have come up. -/
def Phase (m : Nat) (Ws : Nat → World) (wr : Nat → Nat) (listed : Array Bool) (w : World) : Prop := ∃ p, p ≤ m ∧ w = Ws p ∧ ∀ q, q < m → (listed.getD (wr q) true = true ↔ q < p)
/-- What a program tells of a region: temporaries, guards. -/
def checkB (ops : Array Oper) (N : Nat) : Bool := ops.all fun o => o.guard.isNone && match o.dst with | some d => decide (d < N) | none => true
/-- .. of the writers' chain. -/
def chainB (ops : Array Oper) (m : Nat) (wr : Nat → Nat) : Bool :=
  ((List.range m).all fun q => decide (wr q < ops.size)) && ((List.range m).all fun q => (List.range m).all fun q' => !(wr q == wr q') || q == q') && ((List.range m).all fun q => decide (m ≤ q + 1) || waitsB ops (wr (q + 1)) (wr q))
def isW (m : Nat) (wr : Nat → Nat) (j : Nat) : Bool := (List.range m).any fun q => wr q == j
theorem isW_iff (m : Nat) (wr : Nat → Nat) (j : Nat) : isW m wr j = true ↔ ∃ q, q < m ∧ wr q = j := by
  simp [isW, List.any_eq_true]
theorem wpAnyIn_phases {a0 : Act} {w0 : World} (hs : shapeB ops = true) (hcb : checkB ops a0.tmps.size = true) (m : Nat) (Ws : Nat → World) (wr : Nat → Nat) (val : Nat → Value)
    (h0 : Ws 0 = { w0 with drawn := w0.drawn + 1 }) (hwb : chainB ops m wr = true)
    (hop : ∀ (j : Nat) (o : Oper), ops[j]? = some o → ∀ (p : Nat) (a : Act), p ≤ m → (∀ q, q < m → wr q = j → p = q) → (∀ q, q < m → waitsB ops j (wr q) = true → q < p) → (∀ q, q < m → waitsT ops 8 (wr q) j = true → p ≤ q) →
      (∀ t, writesB ops t = false → a.tmps.getD t undef = a0.tmps.getD t undef) →
      (∀ (i : Nat) (p : Oper) (d : Tmp), ops[i]? = some p → p.dst = some d → waitsB ops j i = true → a.tmps.getD d undef = val i) →
      Gives P (fun v w' => v = val j ∧ w' = Ws (bif isW m wr j then p + 1 else p)) ((execOp a.eval o).run P (Ws p)))
    (hend : ∀ (a : Act), a.tmps.size = a0.tmps.size → a.defers = a0.defers → (∀ (i : Nat) (o : Oper) (d : Tmp), ops[i]? = some o → o.dst = some d → a.tmps.getD d undef = val i) →
      (∀ t, writesB ops t = false → a.tmps[t]? = a0.tmps[t]?) → Q .normal a (Ws m)) :
    wpAnyIn Fence.wide n P .any ops Q ops.size (Array.replicate ops.size false) a0 { w0 with drawn := w0.drawn + 1 } := by
  classical
  have hin : ∀ (i : Nat) (o : Oper) (d : Tmp), ops[i]? = some o → o.dst = some d → d < a0.tmps.size := fun i o d hi hd => by
    have := (Array.all_eq_true'.1 hcb) o (Array.mem_of_getElem? hi)
    simp only [hd, Bool.and_eq_true, decide_eq_true_eq] at this
    exact this.2
  have hng : ∀ (j : Nat) (o : Oper), ops[j]? = some o → o.guard = none := fun j o hj => by
    have := (Array.all_eq_true'.1 hcb) o (Array.mem_of_getElem? hj)
    simp only [Bool.and_eq_true, Option.isNone_iff_eq_none] at this
    exact this.1
  simp only [chainB, Bool.and_eq_true, List.all_eq_true, List.mem_range, decide_eq_true_eq, Bool.or_eq_true, Bool.not_eq_true', beq_iff_eq, beq_eq_false_iff_ne] at hwb
  obtain ⟨⟨hwr, hinj0⟩, hch0⟩ := hwb
  have hinj : ∀ q q', q < m → q' < m → wr q = wr q' → q = q' := fun q q' h h' e => (hinj0 q h q' h').resolve_left (fun hne => hne e)
  have hch : ∀ q, q + 1 < m → waitsB ops (wr (q + 1)) (wr q) = true := fun q h => (hch0 q (by omega)).resolve_left (by omega)
  have fin : ∀ (listed : Array Bool) (a : Act) (w : World), Known ops (fun i v _ => v = val i) (fun _ => True) a0 listed a w → Phase m Ws wr listed w → Region.ready .any ops listed = [] → Q .normal a w := by
    intro listed a w k hp hr
    have hl := all_listed hs k.size hr
    obtain ⟨p, h1, rfl, h2⟩ := hp
    have : p = m := by
      rcases Nat.lt_or_ge p m with h | h
      · have := (h2 p h).1 (hl _ (hwr p h)); omega
      · omega
    subst this
    refine hend a k.tsize k.defers (fun i o d hi hd => k.facts i o d hi hd (hl i (Array.getElem?_eq_some_iff.1 hi).1)) (fun t ht => k.rest t fun i o hi hd => ?_)
    have := Array.any_eq_false.1 ht i (Array.getElem?_eq_some_iff.1 hi).1
    rw [(Array.getElem?_eq_some_iff.1 hi).2, hd] at this
    simp at this
  have key : ∀ (fuel : Nat) (listed : Array Bool) (a : Act) (w : World), left ops listed ≤ fuel → Known ops (fun i v _ => v = val i) (fun _ => True) a0 listed a w → Phase m Ws wr listed w → (∀ i j, i < ops.size → listed.getD i true = true → waitsB ops i j = true → listed.getD j true = true) → wpAnyIn Fence.wide n P .any ops Q fuel listed a w := by
    intro fuel
    induction fuel with
    | zero =>
      intro listed a w hf k hp _
      have hr : Region.ready .any ops listed = [] := by
        cases h : Region.ready .any ops listed with
        | nil => rfl
        | cons i r =>
          obtain ⟨h1, o, h2, _⟩ := mem_ready.1 (show i ∈ Region.ready .any ops listed by rw [h]; simp)
          have := left_set (ops := ops) (listed := listed) (Array.getElem?_eq_some_iff.1 h2).1 h1
          omega
      exact ⟨hr, fin listed a w k hp hr⟩
    | succ fuel ih =>
      intro listed a w hf k hp hcl
      refine ⟨fun hr => fin listed a w k hp hr, fun j hj => ?_⟩
      obtain ⟨hj0, o, ho, hdep⟩ := mem_ready.1 hj
      have hjs : j < ops.size := (Array.getElem?_eq_some_iff.1 ho).1
      obtain ⟨p, hpm, rfl, hq⟩ := hp
      have hf0 : listed.getD j true = false := hj0
      have hjl : j < listed.size := by rw [k.size]; exact hjs
      have waited : ∀ i, waitsB ops j i = true → listed.getD i true = true := fun i hi => by
        obtain ⟨e, he, hb, rfl⟩ := (waits_iff ho).1 hi
        have hlt := (shape_at hs ho).1 e he hb
        have := hdep e he hb
        have hb2 : e.on < listed.size := by omega
        simpa [hb2] using this
      have e1 : ∀ q, q < m → wr q = j → p = q := fun q hqm e => by
        have h1 : ¬ q < p := fun h => by have := (hq q hqm).2 h; rw [e, hf0] at this; cases this
        rcases Nat.lt_or_ge p q with h | h
        · exfalso
          obtain ⟨q', rfl⟩ : ∃ q', q = q' + 1 := ⟨q - 1, by omega⟩
          have := waited _ (by rw [← e]; exact hch q' hqm)
          have := (hq q' (by omega)).1 this
          omega
        · omega
      have e2 : ∀ q, q < m → waitsB ops j (wr q) = true → q < p := fun q hqm h => (hq q hqm).1 (waited _ h)
      have e3 : ∀ q, q < m → waitsT ops 8 (wr q) j = true → p ≤ q := fun q hqm h => by
        rcases Nat.lt_or_ge q p with h1 | h1
        · exfalso
          have h2 := (hq q hqm).2 h1
          have := waitsT_listed hcl 8 _ _ (hwr q hqm) h2 h
          rw [hf0] at this; cases this
        · exact h1
      have hG := hop j o ho p a hpm e1 e2 e3 (fun t ht => ?rest) (fun i o' d hi hd hw => k.facts i o' d hi hd (waited i hw))
      refine opIn_gives ho (hng j o ho) hG ?_
      rintro v w' ⟨rfl, rfl⟩
      refine ih _ _ _ (by have := left_set (ops := ops) hjs hf0; omega) (Known.put (S := fun _ => True) (R := fun _ _ => True) hs (fun _ _ _ _ _ _ _ h => h) hin k ho trivial trivial rfl) ?ph ?cl
      case cl =>
        intro i i' hi hl hw
        by_cases e : i = j
        · subst e
          by_cases e' : i' = i
          · subst e'; simp [hjl]
          · rw [getD_set_ne true (fun h => e' h.symm)]; exact waited i' hw
        · rw [getD_set_ne true (fun h => e h.symm)] at hl
          by_cases e' : i' = j
          · subst e'; simp [hjl]
          · rw [getD_set_ne true (fun h => e' h.symm)]; exact hcl i i' hi hl hw
      case ph =>
        have hb : (bif isW m wr j then p + 1 else p) = if (∃ q, q < m ∧ wr q = j) then p + 1 else p := by
          cases e : isW m wr j with
          | true => rw [if_pos ((isW_iff m wr j).1 e)]; rfl
          | false => rw [if_neg (fun h => by rw [(isW_iff m wr j).2 h] at e; cases e)]; rfl
        rw [hb]
        refine ⟨_, ?_, rfl, ?_⟩
        · split
          · rename_i h
            obtain ⟨q, h1, h2⟩ := h
            have := e1 q h1 h2
            omega
          · exact hpm
        · intro q hqm
          by_cases e : wr q = j
          · have := e1 q hqm e
            subst this
            rw [if_pos ⟨p, hqm, e⟩, e]
            simp [hjl]
          · rw [getD_set_ne true (fun h => e h.symm), hq q hqm]
            split
            · rename_i h
              obtain ⟨q', h1, h2⟩ := h
              have := e1 q' h1 h2
              subst this
              have hne : q ≠ p := fun h => e (by rw [h]; exact h2)
              omega
            · exact Iff.rfl
      case rest =>
        have := k.rest t fun i o hi hd => by
          have := Array.any_eq_false.1 ht i (Array.getElem?_eq_some_iff.1 hi).1
          rw [(Array.getElem?_eq_some_iff.1 hi).2, hd] at this
          simp at this
        simp only [Array.getD_eq_getD_getElem?, this]
  refine key _ _ _ _ ?_ ?_ ?_ ?_
  · unfold left
    refine Nat.le_trans (List.countP_le_length) (by simp)
  · refine ⟨trivial, by simp, rfl, rfl, fun i o d hi _ hl => ?_, fun t _ => rfl⟩
    have := (Array.getElem?_eq_some_iff.1 hi).1
    simp [this] at hl
  · refine ⟨0, Nat.zero_le _, h0.symm, fun q hq => ?_⟩
    have := hwr q hq
    simp [this]
  · intro i j hi hl _
    simp [hi] at hl
/-- What the region's operations yield, put one by one. -/
def c_putOps : List Oper → (Nat → Value) → Act → Act
  | [], _, a => a
  | o :: os, f, a => c_putOps os f (match o.dst with | some d => a.put (some d) (f d) | none => a)
theorem c_putOps_defers : ∀ (l : List Oper) (f : Nat → Value) (a : Act), (c_putOps l f a).defers = a.defers
  | [], _, _ => rfl
  | o :: os, f, a => by
    unfold c_putOps
    rw [c_putOps_defers os f]
    cases o.dst <;> rfl
theorem c_putOps_size : ∀ (l : List Oper) (f : Nat → Value) (a : Act), (c_putOps l f a).tmps.size = a.tmps.size
  | [], _, _ => rfl
  | o :: os, f, a => by
    unfold c_putOps
    rw [c_putOps_size os f]
    cases o.dst <;> simp [Act.put]
theorem c_putOps_at : ∀ (l : List Oper) (f : Nat → Value) (a : Act) (t : Nat), t < a.tmps.size → (c_putOps l f a).tmps[t]? = if (l.any fun o => o.dst == some t) then some (f t) else a.tmps[t]?
  | [], _, _, _, _ => by simp [c_putOps]
  | o :: os, f, a, t, ht => by
    unfold c_putOps
    cases hd : o.dst with
    | none =>
      simp only [List.any_cons, hd]
      rw [c_putOps_at os f a t ht]
      simp
    | some d =>
      simp only [List.any_cons, hd]
      rw [c_putOps_at os f _ t (by simpa [Act.put] using ht)]
      by_cases hdt : d = t
      · subst hdt
        simp [Act.put, ht]
      · simp [Act.put, hdt]
/-- .. each by its number. -/
def putIdx : List Oper → Nat → (Nat → Value) → Act → Act
  | [], _, _, a => a
  | o :: os, i, f, a => putIdx os (i + 1) f (match o.dst with | some d => a.put (some d) (f i) | none => a)
theorem putOps_idx (f : Nat → Value) (val : Nat → Value) : ∀ (l : List Oper) (k : Nat) (a : Act), (∀ (i : Nat) (o : Oper) (d : Tmp), l[i]? = some o → o.dst = some d → f d = val (k + i)) → c_putOps l f a = putIdx l k val a
  | [], _, _, _ => rfl
  | o :: os, k, a, h => by
    unfold c_putOps putIdx
    have h0 := h 0 o
    have e : (match o.dst with | some d => a.put (some d) (f d) | none => a) = match o.dst with | some d => a.put (some d) (val k) | none => a := by
      cases hd : o.dst with
      | none => rfl
      | some d => exact congrArg (fun v => a.put (some d) v) (h0 d rfl hd)
    rw [e]
    exact putOps_idx f val os (k + 1) _ fun i o' d hi hd => by
      have := h (i + 1) o' d (by simpa using hi) hd
      rw [this]; congr 1; omega
theorem wpAnyIn_puts {l : List Oper} {a0 : Act} {w0 : World} (hs : shapeB l.toArray = true) (hcb : checkB l.toArray a0.tmps.size = true) (m : Nat) (Ws : Nat → World) (wr : Nat → Nat) (val : Nat → Value)
    (h0 : Ws 0 = { w0 with drawn := w0.drawn + 1 }) (hwb : chainB l.toArray m wr = true)
    (hop : ∀ (j : Nat) (o : Oper), l[j]? = some o → ∀ (p : Nat) (a : Act), p ≤ m → (∀ q, q < m → wr q = j → p = q) → (∀ q, q < m → waitsB l.toArray j (wr q) = true → q < p) → (∀ q, q < m → waitsT l.toArray 8 (wr q) j = true → p ≤ q) →
      (∀ t, writesB l.toArray t = false → a.tmps[t]?.getD undef = a0.tmps[t]?.getD undef) →
      (∀ (i : Nat) (d : Tmp), (l[i]?.bind fun p => p.dst) = some d → waitsB l.toArray j i = true → a.tmps[d]?.getD undef = val i) →
      Gives P (fun v w' => v = val j ∧ w' = Ws (bif isW m wr j then p + 1 else p)) ((execOp a.eval o).run P (Ws p)))
    (hend : Q .normal (putIdx l 0 val a0) (Ws m)) :
    wpAnyIn Fence.wide n P .any l.toArray Q l.toArray.size (Array.replicate l.toArray.size false) a0 { w0 with drawn := w0.drawn + 1 } := by
  refine wpAnyIn_phases hs hcb m Ws wr val h0 hwb (fun j o hj p a hp e1 e2 e3 hr hd => hop j o (by simpa using hj) p a hp e1 e2 e3 (fun t ht => by have := hr t ht; simpa [Array.getD_eq_getD_getElem?] using this) (fun i d hi hw => by
    cases hl : l[i]? with
    | none => rw [hl] at hi; cases hi
    | some q =>
      rw [hl] at hi
      have := hd i q d (by simpa using hl) (by simpa using hi) hw
      simpa [Array.getD_eq_getD_getElem?] using this)) (fun a hz hdf hf hr => ?_)
  have e : a = c_putOps l (fun t => a.tmps.getD t undef) a0 := by
    cases a with
    | mk tmps defers =>
      have h2 : (c_putOps l (fun t => tmps.getD t undef) a0).defers = defers := (c_putOps_defers _ _ _).trans hdf.symm
      have h1 : (c_putOps l (fun t => tmps.getD t undef) a0).tmps = tmps := by
        apply Array.ext_getElem?
        intro t
        by_cases ht : t < a0.tmps.size
        · rw [c_putOps_at _ _ _ _ ht]
          split
          · dsimp only at hz
            simp [Array.getD_eq_getD_getElem?, hz, ht]
          · rename_i hw
            exact (hr t (by simpa [writesB] using hw)).symm
        · dsimp only at hz
          rw [Array.getElem?_eq_none (by rw [c_putOps_size]; omega), Array.getElem?_eq_none (by omega)]
      cases hp : c_putOps l (fun t => tmps.getD t undef) a0 with
      | mk t2 d2 =>
        rw [hp] at h1 h2
        dsimp only at h1 h2 ⊢
        subst h1 h2
        rfl
  rw [e, putOps_idx _ val l 0 a0 (fun i o d hi hd => by rw [Nat.zero_add]; exact hf i o d (by simpa using hi) hd)]
  exact hend
end
end Go.Proofs.YtmlaepbmdfmgbaaGreat

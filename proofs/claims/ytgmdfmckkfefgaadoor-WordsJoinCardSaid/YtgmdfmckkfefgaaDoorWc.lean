/- The map of signs, and the same turned round. -/
import Derived.Test.YtgmdfmckkfefgaaDoorWb
import Derived.Maps.OwnSet
import Derived.Maps.RangeWalk
namespace Go.Proofs.YtgmdfmckkfefgaaDoor
open Go Go.RowKit Go.Maps

section
variable {H : Type} {P : Program} (w : World) {ops : Array Oper} {rest : List Oper} {o : Oper} {a : Act} {Q : Exit → Act → World → Prop}
/-- An entry of a literal map. -/
theorem wpList_insert_own (hg : o.guard = none) (m x v : Operand) (t : TypeId) (hop : o.op = Op.insert t m x v)
    (k e : TypeId) (K : Keyed P k) (ht : P.underlying t = some (.map k e)) (R : Value → Option (DataW H × List MemPlace)) (b n : Nat) (D : DataW H)
    (hm : a.eval m = .map (some b)) (hown : w.ownsMap P k R b n D) (hn : n < maxLen) (key val : Value) (kl : Lit) (hx : a.eval x = key) (hv : a.eval v = val) (hkey : keyOf P k key = some kl)
    (d : DataW H) (ps : List MemPlace) (hval : R val = some (d, ps))
    (hK : ∀ w', w'.ownsMap P k R b (n + 1) (D.put kl d) → w.grownBy w' (some b) → wpList P ops Q rest (a.put o.dst undef) w') :
    wpList P ops Q (o :: rest) a w := by
  refine wpList_plain hg fun K' hK' => ?_
  obtain ⟨w', hrun, r1, r2⟩ := hown.update K ht hn hkey hval
  unfold Oper.wp
  simp [execOp, hop, hm, hx, hv, hrun, Result.andThen]
  exact hK' _ _ (hK w' r1 r2)
end

abbrev lk (c : Int) : Lit := .int .u8 c
abbrev ld (c : Int) : DataW Unit := .lit (.int .u8 c)
theorem lk_wf {c : Int} (h : 0 ≤ c ∧ c < 256) : (lk c).wf = true := by
  have e1 : IntKind.u8.min = 0 := by decide
  have e2 : IntKind.u8.max = 255 := by decide
  have e3 : IntKind.u8.min ≤ c ∧ c ≤ IntKind.u8.max := by rw [e1, e2]; omega
  simpa [lk, Lit.wf] using e3
theorem Tryd.law5 : Keyed Tryd.prog 5 := int_keyed Tryd.underlying5
theorem has_put (D : DataW Unit) (hD : IsMap D) (k c d : Int) : Maps.has (D.put (lk k) (ld d)) (lk c) = if c = k then true else Maps.has D (lk c) := by
  by_cases h : c = k
  · subst h
    rw [if_pos rfl]
    exact has_put_same hD (k := lk c) trivial _
  · rw [if_neg h]
    exact has_put_other (fun e => h (by cases e; rfl)) _
theorem at_put (D : DataW Unit) (hD : IsMap D) (k c d : Int) (z : DataW Unit) : (D.put (lk k) (ld d)).atKey (lk c) z = if c = k then ld d else D.atKey (lk c) z := by
  by_cases h : c = k
  · subst h
    rw [if_pos rfl]
    exact atKey_put_same hD (k := lk c) trivial _ _
  · rw [if_neg h]
    exact atKey_put_other (fun e => h (by cases e; rfl)) _ _
def d0 : DataW Unit := .map []
def d1 : DataW Unit := d0.put (lk 10) (ld 110)
def d2 : DataW Unit := d1.put (lk 13) (ld 114)
def d3 : DataW Unit := d2.put (lk 9) (ld 116)
def d4 : DataW Unit := d3.put (lk 92) (ld 92)
def d5 : DataW Unit := d4.put (lk 34) (ld 34)
def d6 : DataW Unit := d5.put (lk 93) (ld 93)
def d7 : DataW Unit := d6.put (lk 45) (ld 45)
theorem im0 : IsMap d0 := ⟨[], rfl⟩
theorem im1 : IsMap d1 := im0.put _ _
theorem im2 : IsMap d2 := im1.put _ _
theorem im3 : IsMap d3 := im2.put _ _
theorem im4 : IsMap d4 := im3.put _ _
theorem im5 : IsMap d5 := im4.put _ _
theorem im6 : IsMap d6 := im5.put _ _
theorem im7 : IsMap d7 := im6.put _ _
theorem ki (c k : Nat) : ((c : Int) = (k : Int)) ↔ c = k := by omega
theorem h1 (c : Int) : Maps.has d1 (lk c) = if c = 10 then true else Maps.has d0 (lk c) := by unfold d1; exact has_put d0 im0 10 c 110
theorem a1 (c : Int) (z : DataW Unit) : d1.atKey (lk c) z = if c = 10 then ld 110 else d0.atKey (lk c) z := by unfold d1; exact at_put d0 im0 10 c 110 z
theorem h2 (c : Int) : Maps.has d2 (lk c) = if c = 13 then true else Maps.has d1 (lk c) := by unfold d2; exact has_put d1 im1 13 c 114
theorem a2 (c : Int) (z : DataW Unit) : d2.atKey (lk c) z = if c = 13 then ld 114 else d1.atKey (lk c) z := by unfold d2; exact at_put d1 im1 13 c 114 z
theorem h3 (c : Int) : Maps.has d3 (lk c) = if c = 9 then true else Maps.has d2 (lk c) := by unfold d3; exact has_put d2 im2 9 c 116
theorem a3 (c : Int) (z : DataW Unit) : d3.atKey (lk c) z = if c = 9 then ld 116 else d2.atKey (lk c) z := by unfold d3; exact at_put d2 im2 9 c 116 z
theorem h4 (c : Int) : Maps.has d4 (lk c) = if c = 92 then true else Maps.has d3 (lk c) := by unfold d4; exact has_put d3 im3 92 c 92
theorem a4 (c : Int) (z : DataW Unit) : d4.atKey (lk c) z = if c = 92 then ld 92 else d3.atKey (lk c) z := by unfold d4; exact at_put d3 im3 92 c 92 z
theorem h5 (c : Int) : Maps.has d5 (lk c) = if c = 34 then true else Maps.has d4 (lk c) := by unfold d5; exact has_put d4 im4 34 c 34
theorem a5 (c : Int) (z : DataW Unit) : d5.atKey (lk c) z = if c = 34 then ld 34 else d4.atKey (lk c) z := by unfold d5; exact at_put d4 im4 34 c 34 z
theorem h6 (c : Int) : Maps.has d6 (lk c) = if c = 93 then true else Maps.has d5 (lk c) := by unfold d6; exact has_put d5 im5 93 c 93
theorem a6 (c : Int) (z : DataW Unit) : d6.atKey (lk c) z = if c = 93 then ld 93 else d5.atKey (lk c) z := by unfold d6; exact at_put d5 im5 93 c 93 z
theorem h7 (c : Int) : Maps.has d7 (lk c) = if c = 45 then true else Maps.has d6 (lk c) := by unfold d7; exact has_put d6 im6 45 c 45
theorem a7 (c : Int) (z : DataW Unit) : d7.atKey (lk c) z = if c = 45 then ld 45 else d6.atKey (lk c) z := by unfold d7; exact at_put d6 im6 45 c 45 z
attribute [irreducible] d1 d2 d3 d4 d5 d6 d7
theorem d7_has (c : Nat) : Maps.has d7 (lk c) = (sg c).isSome := by
  have e0 : Maps.has d0 (lk c) = false := rfl
  rw [h7, h6, h5, h4, h3, h2, h1, e0]
  have k1 := ki c 10
  have k2 := ki c 13
  have k3 := ki c 9
  have k4 := ki c 92
  have k5 := ki c 34
  have k6 := ki c 93
  have k7 := ki c 45
  unfold sg
  repeat' split
  all_goals first
    | rfl
    | omega
theorem d7_at (c s : Nat) (h : sg c = some s) (z : DataW Unit) : d7.atKey (lk c) z = ld s := by
  rw [a7, a6, a5, a4, a3, a2, a1]
  have k1 := ki c 10
  have k2 := ki c 13
  have k3 := ki c 9
  have k4 := ki c 92
  have k5 := ki c 34
  have k6 := ki c 93
  have k7 := ki c 45
  unfold sg at h
  repeat' split at h
  all_goals first
    | (cases h; done)
    | (simp only [Option.some.injEq] at h
       subst h
       repeat' split
       all_goals first
         | rfl
         | omega)
theorem ins {w : World} {b n : Nat} {D : DataW Unit} (hown : w.ownsMap Tryd.prog 5 (plainElem Tryd.prog 5) b n D) (x v : Int) (hx : 0 ≤ x ∧ x < 256) (hv : 0 ≤ v ∧ v < 256) (hn : n < 100) :
    ∃ w', (Instr.mapUpdate 110 (.map (some b)) (.int .u8 x) (.int .u8 v)).run Tryd.prog w = .ok () w' ∧ w'.ownsMap Tryd.prog 5 (plainElem Tryd.prog 5) b (n + 1) (D.put (lk x) (ld v)) ∧ w.grownBy w' (some b) :=
  hown.update Tryd.law5 Tryd.underlying110 (by unfold maxLen; omega) (keyOf_int_mk Tryd.underlying5 (lk_wf hx)) (plainElem_int Tryd.underlying5 (lk_wf hv))
theorem below_map {a w w' : World} {b : Nat} (h : Below a.heap.size a w) (hg : w.grownBy w' (some b)) (hb : a.heap.size ≤ b) : Below a.heap.size a w' := h.grown hg h.size (fun j hj => by cases hj; exact hb)
set_option maxRecDepth 100000 in
set_option maxHeartbeats 1000000 in
theorem signs_any (w : World) :
    Calls Tryd.prog 69 #[] w fun e w' => e = .returned (.map (some w.heap.size)) ∧ w'.ownsMap Tryd.prog 5 (plainElem Tryd.prog 5) w.heap.size 7 d7 ∧ Below w.heap.size w w' := by
  have hmm := @run_makeMap Tryd.prog
  have m0 : (w.alloc (.map #[] 0)).ownsMap Tryd.prog 5 (plainElem Tryd.prog 5) w.heap.size 0 d0 := World.ownsMap_made w Tryd.prog 5 _
  have g0 : Below w.heap.size w (w.alloc (.map #[] 0)) := B1 _ _
  obtain ⟨w1, r1, m1, g1⟩ := ins m0 10 110 (by omega) (by omega) (by omega)
  have b1 := below_map g0 g1 (Nat.le_refl _)
  obtain ⟨w2, r2, m2, g2⟩ := ins m1 13 114 (by omega) (by omega) (by omega)
  have b2 := below_map b1 g2 (Nat.le_refl _)
  obtain ⟨w3, r3, m3, g3⟩ := ins m2 9 116 (by omega) (by omega) (by omega)
  have b3 := below_map b2 g3 (Nat.le_refl _)
  obtain ⟨w4, r4, m4, g4⟩ := ins m3 92 92 (by omega) (by omega) (by omega)
  have b4 := below_map b3 g4 (Nat.le_refl _)
  obtain ⟨w5, r5, m5, g5⟩ := ins m4 34 34 (by omega) (by omega) (by omega)
  have b5 := below_map b4 g5 (Nat.le_refl _)
  obtain ⟨w6, r6, m6, g6⟩ := ins m5 93 93 (by omega) (by omega) (by omega)
  have b6 := below_map b5 g6 (Nat.le_refl _)
  obtain ⟨w7, r7, m7, g7⟩ := ins m6 45 45 (by omega) (by omega) (by omega)
  have b7 := below_map b6 g7 (Nat.le_refl _)
  have M : RowKit.Hid (w7.ownsMap Tryd.prog 5 (plainElem Tryd.prog 5) w.heap.size 7 d7) := Lib.hid (by unfold d7 d6 d5 d4 d3 d2 d1; exact m7)
  have B := Lib.hid b7
  clear m0 m1 m2 m3 m4 m5 m6 m7 g0 g1 g2 g3 g4 g5 g6 g7 b1 b2 b3 b4 b5 b6 b7
  go_enter Tryd.func69, Tryd.ntmps69
  go_wp2_with fail
  go_ret
  exact ⟨rfl, M.out, B.out⟩

/-- The map turned round, but for what is still to come. -/
def Turned (D : DataW Unit) (left : Lit → Bool) : Prop :=
  IsMap D ∧ (∀ z : Nat, left (lk z) = true → (sg z).isSome = true) ∧ (∀ c : Nat, Maps.has D (lk c) = match sd c with | some z => !left (lk z) | none => false) ∧ ∀ (c z : Nat) (y : DataW Unit), sd c = some z → left (lk z) = false → D.atKey (lk c) y = ld z
theorem sg_inj {x z s : Nat} (h : sg x = some s) (h' : sg z = some s) : z = x := by
  have := sd_sg h
  rw [sd_sg h'] at this
  exact Option.some.inj this
theorem turned_start : Turned (.map []) (Maps.has d7) := by
  refine ⟨im0, fun z h => by rw [← d7_has]; exact h, fun c => ?_, fun c z y h h' => ?_⟩
  · cases h : sd c with
    | none => rfl
    | some z => simp only [d7_has, (sg_sd h).1]; rfl
  · rw [d7_has, (sg_sd h).1] at h'
    cases h'
theorem turned_step {D : DataW Unit} {left : Lit → Bool} (h : Turned D left) {x s : Nat} (hs : sg x = some s) : Turned (D.put (lk s) (ld x)) (fun z => left z && !z.sameKey (lk x)) := by
  obtain ⟨h1, h2, h3, h4⟩ := h
  have hsame : ∀ z : Nat, (lk (z : Int)).sameKey (lk x) = decide (z = x) := fun z => by
    by_cases e : z = x
    · subst e; simp [Lit.sameKey]
    · rw [sameKey_ne (fun e2 => e (by simp only [lk, Lit.int.injEq, true_and] at e2; omega))]; simp [e]
  refine ⟨h1.put _ _, fun z hz => h2 z (by simp only [Bool.and_eq_true] at hz; exact hz.1), fun c => ?_, fun c z y hc hl => ?_⟩
  · rw [has_put _ h1]
    by_cases e : c = s
    · subst e
      rw [if_pos rfl, sd_sg hs]
      simp only [hsame]
      simp
    · rw [if_neg (by omega), h3]
      cases hc : sd c with
      | none => rfl
      | some z =>
        have hz : z ≠ x := fun e2 => by
          subst e2
          have := (sg_sd hc).1
          rw [hs] at this
          exact e (Option.some.inj this).symm
        simp [hsame, hz]
  · rw [at_put _ h1]
    by_cases e : c = s
    · subst e
      rw [if_pos rfl]
      rw [sd_sg hs] at hc
      cases hc
      rfl
    · rw [if_neg (by omega)]
      have hz : z ≠ x := fun e2 => by
        subst e2
        have := (sg_sd hc).1
        rw [hs] at this
        exact e (Option.some.inj this).symm
      simp only [hsame, hz, decide_false, Bool.not_false, Bool.and_true] at hl
      exact h4 c z y hc hl
end Go.Proofs.YtgmdfmckkfefgaaDoor

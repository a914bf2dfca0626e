/- The map of what each Kind's taker is; whether a node is right: the program's answer. -/
import Derived.Test.YtlbjmkljmhfjdaaGreatA4
import Derived.Maps.OwnSet
set_option linter.unusedSimpArgs false
set_option linter.unusedVariables false
namespace Go.Proofs.YtlbjmkljmhfjdaaGreat
open Go Go.RowKit Go.Maps
abbrev lk (c : Int) : Lit := .int .i64 c
abbrev ld (c : Int) : DataW Unit := .lit (.int .i64 c)
theorem lk_wf {c : Int} (h : -9223372036854775808 ≤ c ∧ c < 9223372036854775808) : (lk c).wf = true := WalkArith.wf_i64 (by omega)
/-- How a function's name reads. -/
def fnElem : Value → Option (DataW Unit × List MemPlace)
  | .func (.func n) a b => if a.size = 0 ∧ b.size = 0 then some (ld n, []) else none
  | .nilFunc => some (ld 0, [])
  | _ => none
theorem Tryz.law26 : Keyed Tryz.prog 34 := int_keyed Tryz.underlying34
theorem has_put (D : DataW Unit) (hD : IsMap D) (k c d : Int) : Maps.has (D.put (lk k) (ld d)) (lk c) = if c = k then true else Maps.has D (lk c) := by
  by_cases h : c = k
  · subst h
    rw [if_pos rfl]
    exact has_put_same hD (k := lk c) trivial _
  · rw [if_neg h]
    exact has_put_other (fun e => h (by cases e; rfl)) _
theorem at_put (D : DataW Unit) (hD : IsMap D) (k c d : Int) (z : DataW Unit) : (D.put (lk k) (ld d)).atKey (lk c) z = if c = k then ld d else D.atKey (lk c) z := by
  by_cases h : c = k
  · subst h
    rw [if_pos rfl]
    exact atKey_put_same hD (k := lk c) trivial _ _
  · rw [if_neg h]
    exact atKey_put_other (fun e => h (by cases e; rfl)) _ _
/-- A map that is filled, the last entry first. -/
def Dr : List (Int × Int) → DataW Unit
  | [] => .map []
  | p :: l => (Dr l).put (lk p.1) (ld p.2)
theorem Dr_map : ∀ l, IsMap (Dr l)
  | [] => ⟨[], rfl⟩
  | _ :: l => (Dr_map l).put _ _
theorem Dr_has (c : Int) : ∀ l, Maps.has (Dr l) (lk c) = l.any (fun p => decide (c = p.1))
  | [] => rfl
  | p :: l => by
    rw [Dr, has_put _ (Dr_map l), Dr_has c l, List.any_cons]
    by_cases h : c = p.1 <;> simp [h]
def find (c : Int) : List (Int × Int) → Option Int
  | [] => none
  | p :: l => if c = p.1 then some p.2 else find c l
theorem Dr_at (c : Int) (z : DataW Unit) : ∀ l, (Dr l).atKey (lk c) z = match find c l with | some d => ld d | none => z
  | [] => by simp [Dr, find, DataW.atKey]
  | p :: l => by
    rw [Dr, at_put _ (Dr_map l), Dr_at c z l, find]
    by_cases h : c = p.1 <;> simp [h]
def tks : List (Int × Int) := [(12, 295), (11, 295), (10, 295), (9, 295), (8, 295), (7, 294), (6, 294), (5, 293), (4, 292), (3, 291), (2, 290), (1, 290)]
theorem ins {w : World} {b n : Nat} {D : DataW Unit} (hown : w.ownsMap Tryz.prog 34 fnElem b n D) (x : Int) (f : Nat) (hx : 0 ≤ x ∧ x < 256) (hn : n < 100) :
    ∃ w', (Instr.mapUpdate 285 (.map (some b)) (.int .i64 x) (.func (.func f) #[] #[])).run Tryz.prog w = .ok () w' ∧ w'.ownsMap Tryz.prog 34 fnElem b (n + 1) (D.put (lk x) (ld f)) ∧ w.grownBy w' (some b) :=
  hown.update Tryz.law26 Tryz.underlying285 (by unfold maxLen; omega) (keyOf_int_mk Tryz.underlying34 (lk_wf (by omega))) rfl
theorem below_map {a w w' : World} {b : Nat} (h : Below a.heap.size a w) (hg : w.grownBy w' (some b)) (hb : a.heap.size ≤ b) : Below a.heap.size a w' := h.grown hg h.size (fun j hj => by cases hj; exact hb)
/-- The map of the takers. -/
def Takers (w : World) (b : Nat) : Prop := w.ownsMap Tryz.prog 34 fnElem b 12 (Dr tks)
theorem Takers.below {w w' : World} {b : Nat} (h : Takers w b) (hb : Below w.heap.size w w') : Takers w' b := by
  obtain ⟨es, clock, h1, F, h2, h3⟩ := h
  exact ⟨es, clock, (hb.block b (Array.getElem?_eq_some_iff.1 h1).1).trans h1, F, h2, h3⟩
set_option maxRecDepth 100000 in
set_option maxHeartbeats 1000000 in
theorem takers_any (w : World) : Calls Tryz.prog 261 #[] w fun e w' => e = .returned (.map (some w.heap.size)) ∧ Takers w' w.heap.size ∧ Below w.heap.size w w' := by
  have hmm := @run_makeMap Tryz.prog
  have m0 : (w.alloc (.map #[] 0)).ownsMap Tryz.prog 34 fnElem w.heap.size 0 (.map []) := World.ownsMap_made w Tryz.prog 34 _
  have b0 : Below w.heap.size w (w.alloc (.map #[] 0)) := B1 _ _
  obtain ⟨w1, r1, m1, g1⟩ := ins m0 1 290 (by omega) (by omega)
  have b1 := below_map b0 g1 (Nat.le_refl _)
  obtain ⟨w2, r2, m2, g2⟩ := ins m1 2 290 (by omega) (by omega)
  have b2 := below_map b1 g2 (Nat.le_refl _)
  obtain ⟨w3, r3, m3, g3⟩ := ins m2 3 291 (by omega) (by omega)
  have b3 := below_map b2 g3 (Nat.le_refl _)
  obtain ⟨w4, r4, m4, g4⟩ := ins m3 4 292 (by omega) (by omega)
  have b4 := below_map b3 g4 (Nat.le_refl _)
  obtain ⟨w5, r5, m5, g5⟩ := ins m4 5 293 (by omega) (by omega)
  have b5 := below_map b4 g5 (Nat.le_refl _)
  obtain ⟨w6, r6, m6, g6⟩ := ins m5 6 294 (by omega) (by omega)
  have b6 := below_map b5 g6 (Nat.le_refl _)
  obtain ⟨w7, r7, m7, g7⟩ := ins m6 7 294 (by omega) (by omega)
  have b7 := below_map b6 g7 (Nat.le_refl _)
  obtain ⟨w8, r8, m8, g8⟩ := ins m7 8 295 (by omega) (by omega)
  have b8 := below_map b7 g8 (Nat.le_refl _)
  obtain ⟨w9, r9, m9, g9⟩ := ins m8 9 295 (by omega) (by omega)
  have b9 := below_map b8 g9 (Nat.le_refl _)
  obtain ⟨w10, r10, m10, g10⟩ := ins m9 10 295 (by omega) (by omega)
  have b10 := below_map b9 g10 (Nat.le_refl _)
  obtain ⟨w11, r11, m11, g11⟩ := ins m10 11 295 (by omega) (by omega)
  have b11 := below_map b10 g11 (Nat.le_refl _)
  obtain ⟨w12, r12, m12, g12⟩ := ins m11 12 295 (by omega) (by omega)
  have b12 := below_map b11 g12 (Nat.le_refl _)
  have M : RowKit.Hid (Takers w12 w.heap.size) := Lib.hid m12
  have B := Lib.hid b12
  clear m0 m1 m2 m3 m4 m5 m6 m7 m8 m9 m10 m11 m12 g1 g2 g3 g4 g5 g6 g7 g8 g9 g10 g11 g12 b0 b1 b2 b3 b4 b5 b6 b7 b8 b9 b10 b11 b12
  go_enter Tryz.func261, Tryz.ntmps261
  go_wp2_with fail
  go_ret
  exact ⟨rfl, M.out, B.out⟩
theorem any_find (c : Int) : ∀ l, l.any (fun p : Int × Int => decide (c = p.1)) = (find c l).isSome
  | [] => rfl
  | p :: l => by
    rw [List.any_cons, any_find c l, find]
    by_cases h : c = p.1 <;> simp [h]
theorem find_ge (c f : Int) : ∀ l : List (Int × Int), (∀ p ∈ l, 290 ≤ p.2) → find c l = some f → 290 ≤ f
  | [], _, h => by cases h
  | p :: l, hl, h => by
    rw [find] at h
    split at h
    · cases h; exact hl p (by simp)
    · exact find_ge c f l (fun q hq => hl q (by simp [hq])) h
theorem fnElem_inv {v : Value} {f : Int} {ps : List MemPlace} (h : fnElem v = some (ld f, ps)) : (∃ n : Nat, v = .func (.func n) #[] #[] ∧ f = n) ∨ f = 0 := by
  unfold fnElem at h
  split at h
  · rename_i n a b
    split at h
    · rename_i hs
      obtain ⟨h1, h2⟩ := hs
      obtain rfl := Array.eq_empty_of_size_eq_zero h1
      obtain rfl := Array.eq_empty_of_size_eq_zero h2
      simp at h
      exact .inl ⟨n, rfl, h.1.symm⟩
    · cases h
  · simp at h
    exact .inr h.1.symm
  · cases h
/-- What is looked up. -/
theorem look {w : World} {b : Nat} (h : Takers w b) (c : Int) (hc : -9223372036854775808 ≤ c ∧ c < 9223372036854775808) :
    (∀ n : Nat, find c tks = some (n : Int) → (Instr.lookup 285 (.map (some b)) (.int .i64 c) true).run Tryz.prog w = .ok (.tuple #[.func (.func n) #[] #[], .bool true]) w) ∧
    (find c tks = none → ∃ v : Value, (Instr.lookup 285 (.map (some b)) (.int .i64 c) true).run Tryz.prog w = .ok (.tuple #[v, .bool false]) w) := by
  obtain ⟨v, ps, hrun, hv⟩ := World.ownsMap.look_ok h Tryz.law26 Tryz.underlying285 (z := .nilFunc) (by kernel_rfl) (zd := ld 0) (zp := []) rfl (keyOf_int_mk Tryz.underlying34 (lk_wf (c := c) hc))
  rw [Dr_at] at hv
  rw [Dr_has, any_find] at hrun
  refine ⟨fun n hf => ?_, fun hf => ⟨v, ?_⟩⟩
  · rw [hf] at hv hrun
    have hge := find_ge c n tks (by decide) hf
    rcases fnElem_inv hv with ⟨n', rfl, e⟩ | e
    · obtain rfl : n = n' := by omega
      exact hrun
    · omega
  · rw [hf] at hrun
    exact hrun
end Go.Proofs.YtlbjmkljmhfjdaaGreat

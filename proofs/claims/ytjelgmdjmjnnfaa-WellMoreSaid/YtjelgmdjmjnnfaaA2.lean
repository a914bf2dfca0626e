/- The map of what each Kind's taker is; whether a node is right: the program's answer. -/
import Derived.Test.YtjelgmdjmjnnfaaA1
import Derived.Maps.OwnSet
import Derived.Laws.IdiomStrings
import Derived.Laws.BytesArg
set_option linter.unusedSimpArgs false
set_option linter.unusedVariables false
namespace Go.Proofs.Ytjelgmdjmjnnfaa
open Go Go.RowKit Go.Maps
abbrev lk (c : Int) : Lit := .int .i64 c
abbrev ld (c : Int) : DataW Unit := .lit (.int .i64 c)
theorem lk_wf {c : Int} (h : -9223372036854775808 ≤ c ∧ c < 9223372036854775808) : (lk c).wf = true := WalkArith.wf_i64 (by omega)
/-- How a function's name reads. -/
def fnElem : Value → Option (DataW Unit × List MemPlace)
  | .func (.func n) a b => if a.size = 0 ∧ b.size = 0 then some (ld n, []) else none
  | .nilFunc => some (ld 0, [])
  | _ => none
theorem Try.law26 : Keyed Try.prog 36 := int_keyed Try.underlying36
theorem has_put (D : DataW Unit) (hD : IsMap D) (k c d : Int) : Maps.has (D.put (lk k) (ld d)) (lk c) = if c = k then true else Maps.has D (lk c) := by
  by_cases h : c = k
  · subst h
    rw [if_pos rfl]
    exact has_put_same hD (k := lk c) trivial _
  · rw [if_neg h]
    exact has_put_other (fun e => h (by cases e; rfl)) _
theorem at_put (D : DataW Unit) (hD : IsMap D) (k c d : Int) (z : DataW Unit) : (D.put (lk k) (ld d)).atKey (lk c) z = if c = k then ld d else D.atKey (lk c) z := by
  by_cases h : c = k
  · subst h
    rw [if_pos rfl]
    exact atKey_put_same hD (k := lk c) trivial _ _
  · rw [if_neg h]
    exact atKey_put_other (fun e => h (by cases e; rfl)) _ _
/-- A map that is filled, the last entry first. -/
def Dr : List (Int × Int) → DataW Unit
  | [] => .map []
  | p :: l => (Dr l).put (lk p.1) (ld p.2)
theorem Dr_map : ∀ l, IsMap (Dr l)
  | [] => ⟨[], rfl⟩
  | _ :: l => (Dr_map l).put _ _
theorem Dr_has (c : Int) : ∀ l, Maps.has (Dr l) (lk c) = l.any (fun p => decide (c = p.1))
  | [] => rfl
  | p :: l => by
    rw [Dr, has_put _ (Dr_map l), Dr_has c l, List.any_cons]
    by_cases h : c = p.1 <;> simp [h]
def find (c : Int) : List (Int × Int) → Option Int
  | [] => none
  | p :: l => if c = p.1 then some p.2 else find c l
theorem Dr_at (c : Int) (z : DataW Unit) : ∀ l, (Dr l).atKey (lk c) z = match find c l with | some d => ld d | none => z
  | [] => by simp [Dr, find, DataW.atKey]
  | p :: l => by
    rw [Dr, at_put _ (Dr_map l), Dr_at c z l, find]
    by_cases h : c = p.1 <;> simp [h]
def tks : List (Int × Int) := [(12, 91), (11, 91), (10, 91), (9, 91), (8, 91), (7, 90), (6, 90), (5, 89), (4, 88), (3, 87), (2, 86), (1, 86)]
theorem ins {w : World} {b n : Nat} {D : DataW Unit} (hown : w.ownsMap Try.prog 36 fnElem b n D) (x : Int) (f : Nat) (hx : 0 ≤ x ∧ x < 256) (hn : n < 100) :
    ∃ w', (Instr.mapUpdate 114 (.map (some b)) (.int .i64 x) (.func (.func f) #[] #[])).run Try.prog w = .ok () w' ∧ w'.ownsMap Try.prog 36 fnElem b (n + 1) (D.put (lk x) (ld f)) ∧ w.grownBy w' (some b) :=
  hown.update Try.law26 Try.underlying114 (by unfold maxLen; omega) (keyOf_int_mk Try.underlying36 (lk_wf (by omega))) rfl
theorem below_map {a w w' : World} {b : Nat} (h : Below a.heap.size a w) (hg : w.grownBy w' (some b)) (hb : a.heap.size ≤ b) : Below a.heap.size a w' := h.grown hg h.size (fun j hj => by cases hj; exact hb)
/-- The map of the takers. -/
def Takers (w : World) (b : Nat) : Prop := w.ownsMap Try.prog 36 fnElem b 12 (Dr tks)
theorem Takers.below {w w' : World} {b : Nat} (h : Takers w b) (hb : Below w.heap.size w w') : Takers w' b := by
  obtain ⟨es, clock, h1, F, h2, h3⟩ := h
  exact ⟨es, clock, (hb.block b (Array.getElem?_eq_some_iff.1 h1).1).trans h1, F, h2, h3⟩
set_option maxRecDepth 100000 in
set_option maxHeartbeats 1000000 in
theorem takers_any (w : World) : Calls Try.prog 70 #[] w fun e w' => e = .returned (.map (some w.heap.size)) ∧ Takers w' w.heap.size ∧ Below w.heap.size w w' := by
  have hmm := @run_makeMap Try.prog
  have m0 : (w.alloc (.map #[] 0)).ownsMap Try.prog 36 fnElem w.heap.size 0 (.map []) := World.ownsMap_made w Try.prog 36 _
  have b0 : Below w.heap.size w (w.alloc (.map #[] 0)) := B1 _ _
  obtain ⟨w1, r1, m1, g1⟩ := ins m0 1 86 (by omega) (by omega)
  have b1 := below_map b0 g1 (Nat.le_refl _)
  obtain ⟨w2, r2, m2, g2⟩ := ins m1 2 86 (by omega) (by omega)
  have b2 := below_map b1 g2 (Nat.le_refl _)
  obtain ⟨w3, r3, m3, g3⟩ := ins m2 3 87 (by omega) (by omega)
  have b3 := below_map b2 g3 (Nat.le_refl _)
  obtain ⟨w4, r4, m4, g4⟩ := ins m3 4 88 (by omega) (by omega)
  have b4 := below_map b3 g4 (Nat.le_refl _)
  obtain ⟨w5, r5, m5, g5⟩ := ins m4 5 89 (by omega) (by omega)
  have b5 := below_map b4 g5 (Nat.le_refl _)
  obtain ⟨w6, r6, m6, g6⟩ := ins m5 6 90 (by omega) (by omega)
  have b6 := below_map b5 g6 (Nat.le_refl _)
  obtain ⟨w7, r7, m7, g7⟩ := ins m6 7 90 (by omega) (by omega)
  have b7 := below_map b6 g7 (Nat.le_refl _)
  obtain ⟨w8, r8, m8, g8⟩ := ins m7 8 91 (by omega) (by omega)
  have b8 := below_map b7 g8 (Nat.le_refl _)
  obtain ⟨w9, r9, m9, g9⟩ := ins m8 9 91 (by omega) (by omega)
  have b9 := below_map b8 g9 (Nat.le_refl _)
  obtain ⟨w10, r10, m10, g10⟩ := ins m9 10 91 (by omega) (by omega)
  have b10 := below_map b9 g10 (Nat.le_refl _)
  obtain ⟨w11, r11, m11, g11⟩ := ins m10 11 91 (by omega) (by omega)
  have b11 := below_map b10 g11 (Nat.le_refl _)
  obtain ⟨w12, r12, m12, g12⟩ := ins m11 12 91 (by omega) (by omega)
  have b12 := below_map b11 g12 (Nat.le_refl _)
  have M : RowKit.Hid (Takers w12 w.heap.size) := Lib.hid m12
  have B := Lib.hid b12
  clear m0 m1 m2 m3 m4 m5 m6 m7 m8 m9 m10 m11 m12 g1 g2 g3 g4 g5 g6 g7 g8 g9 g10 g11 g12 b0 b1 b2 b3 b4 b5 b6 b7 b8 b9 b10 b11 b12
  go_enter Try.func70, Try.ntmps70
  go_wp2_with fail
  go_ret
  exact ⟨rfl, M.out, B.out⟩
theorem any_find (c : Int) : ∀ l, l.any (fun p : Int × Int => decide (c = p.1)) = (find c l).isSome
  | [] => rfl
  | p :: l => by
    rw [List.any_cons, any_find c l, find]
    by_cases h : c = p.1 <;> simp [h]
theorem find_ge (c f : Int) : ∀ l : List (Int × Int), (∀ p ∈ l, 86 ≤ p.2) → find c l = some f → 86 ≤ f
  | [], _, h => by cases h
  | p :: l, hl, h => by
    rw [find] at h
    split at h
    · cases h; exact hl p (by simp)
    · exact find_ge c f l (fun q hq => hl q (by simp [hq])) h
theorem fnElem_inv {v : Value} {f : Int} {ps : List MemPlace} (h : fnElem v = some (ld f, ps)) : (∃ n : Nat, v = .func (.func n) #[] #[] ∧ f = n) ∨ f = 0 := by
  unfold fnElem at h
  split at h
  · rename_i n a b
    split at h
    · rename_i hs
      obtain ⟨h1, h2⟩ := hs
      obtain rfl := Array.eq_empty_of_size_eq_zero h1
      obtain rfl := Array.eq_empty_of_size_eq_zero h2
      simp at h
      exact .inl ⟨n, rfl, h.1.symm⟩
    · cases h
  · simp at h
    exact .inr h.1.symm
  · cases h
/-- What is looked up. -/
theorem look {w : World} {b : Nat} (h : Takers w b) (c : Int) (hc : -9223372036854775808 ≤ c ∧ c < 9223372036854775808) :
    (∀ n : Nat, find c tks = some (n : Int) → (Instr.lookup 114 (.map (some b)) (.int .i64 c) true).run Try.prog w = .ok (.tuple #[.func (.func n) #[] #[], .bool true]) w) ∧
    (find c tks = none → ∃ v : Value, (Instr.lookup 114 (.map (some b)) (.int .i64 c) true).run Try.prog w = .ok (.tuple #[v, .bool false]) w) := by
  obtain ⟨v, ps, hrun, hv⟩ := World.ownsMap.look_ok h Try.law26 Try.underlying114 (z := .nilFunc) (by kernel_rfl) (zd := ld 0) (zp := []) rfl (keyOf_int_mk Try.underlying36 (lk_wf (c := c) hc))
  rw [Dr_at] at hv
  rw [Dr_has, any_find] at hrun
  refine ⟨fun n hf => ?_, fun hf => ⟨v, ?_⟩⟩
  · rw [hf] at hv hrun
    have hge := find_ge c n tks (by decide) hf
    rcases fnElem_inv hv with ⟨n', rfl, e⟩ | e
    · obtain rfl : n = n' := by omega
      exact hrun
    · omega
  · rw [hf] at hrun
    exact hrun
end Go.Proofs.Ytjelgmdjmjnnfaa
namespace Go.Proofs.Ytjelgmdjmjnnfaa
open Go Go.RowKit
/-- What a taker leaves, and what it says. -/
def tk (n : Nat) (x : Nd) (r : Int) : Nd × Bool :=
  match n with
  | 86 => (x, true)
  | 87 => ({ x with c0 := 0, c1 := 0, c2 := 0, c3 := 0 }, !noCls x)
  | 88 => ({ x with text := { data := #[] } }, decide (1 ≤ (x.text.size : Int) ∧ (x.text.size : Int) ≤ 64))
  | 89 => ({ x with rule := 0, level := 0 }, callOk x r)
  | 90 => (x.less, kidsOk x 2 64)
  | 91 => (x.less, kidsOk x 1 1)
  | _ => (x, false)
def bare (k : Int) : Nd := ⟨k, 0, 0, 0, 0, { data := #[] }, 0, 0, none, 0, []⟩
theorem bare_at (k : Int) (w : World) : Nd.At w (bare k) := ⟨fun h => by simp [bare, ints] at h, fun _ => rfl, by simp [bare]⟩
/-- Whether a node is right, of so many rules. -/
def nodeOk (x : Nd) (r : Int) : Bool :=
  match find x.kind tks with
  | some n => (tk n.toNat x r).2 && sameNd (tk n.toNat x r).1 (bare x.kind)
  | none => false
theorem less_at {x : Nd} (w : World) : Nd.At w x.less := ⟨fun h => by simp [ints] at h, fun _ => rfl, by simp⟩
theorem nodeOk_of {x : Nd} {r : Int} {n : Nat} (h : find x.kind tks = some (n : Int)) : nodeOk x r = ((tk n x r).2 && sameNd (tk n x r).1 (bare x.kind)) := by
  unfold nodeOk; rw [h]; rfl
/-- A node that is read: numbers within their bounds. -/
structure Nd.In (x : Nd) : Prop where
  kind : -9223372036854775808 ≤ x.kind ∧ x.kind < 9223372036854775808
  text : x.text.size ≤ 9223372036854775807
theorem tk_at {w : World} {x : Nd} {r : Int} (n : Nat) (h : Nd.At w x) : Nd.At w (tk n x r).1 := by
  unfold tk
  split
  all_goals first
    | exact h
    | exact less_at w
theorem taker_any (n : Nat) (x : Nd) (r : Int) (hn : 86 ≤ n ∧ n ≤ 91) (hk : x.kids.length ≤ 140737488351232) (ht : x.text.size ≤ 9223372036854775807) (w : World) :
    Calls Try.prog n #[x.val, .int .i64 r] w fun e w' => e = .returned (.tuple #[(tk n x r).1.val, .bool (tk n x r).2]) ∧ Below w.heap.size w w' := by
  obtain rfl | rfl | rfl | rfl | rfl | rfl : n = 86 ∨ n = 87 ∨ n = 88 ∨ n = 89 ∨ n = 90 ∨ n = 91 := by omega
  · exact nothing_any x r w
  · exact set_any x r w
  · exact text_any x r ht w
  · exact call_any x r w
  · exact several_any x r hk w
  · exact single_any x r hk w
set_option maxHeartbeats 1000000 in
theorem right_none (x : Nd) (r : Int) (b : Nat) (w : World) (hi : Nd.In x) (hT : Takers w b) (hf : find x.kind tks = none) :
    Calls Try.prog 71 #[x.val, .int .i64 r, .map (some b)] w fun e w' => e = .returned (.bool (nodeOk x r)) ∧ Below w.heap.size w w' := by
  obtain ⟨v, hl⟩ := (look (hT.below (B1 w (.cells #[.int .i64 x.kind, .int .u64 x.c0, .int .u64 x.c1, .int .u64 x.c2, .int .u64 x.c3, .string x.text, .int .i64 x.rule, .int .i64 x.level, .slice x.A x.kids.length x.cap] 116))) x.kind hi.kind).2 hf
  have HV := Lib.hid (show nodeOk x r = false by unfold nodeOk; rw [hf])
  clear hi hT hf
  go_enter Try.func71, Try.ntmps71
  go_wp2_with fail
  go_ret
  exact ⟨ret_bool HV.out.symm, B1 _ _⟩
set_option maxRecDepth 100000 in
set_option maxHeartbeats 1000000 in
theorem right_58 (x : Nd) (r : Int) (b : Nat) (w : World) (hx : Nd.At w x) (hi : Nd.In x) (hT : Takers w b) (hf : find x.kind tks = some (86 : Nat)) :
    Calls Try.prog 71 #[x.val, .int .i64 r, .map (some b)] w fun e w' => e = .returned (.bool (nodeOk x r)) ∧ Below w.heap.size w w' := by
  have hl := (look (hT.below (B1 w (.cells #[.int .i64 x.kind, .int .u64 x.c0, .int .u64 x.c1, .int .u64 x.c2, .int .u64 x.c3, .string x.text, .int .i64 x.rule, .int .i64 x.level, .slice x.A x.kids.length x.cap] 116))) x.kind hi.kind).1 86 hf
  have T := Lib.hid (fun w => taker_any 86 x r (by omega) hx.2.2 hi.text w)
  have HV := Lib.hid (nodeOk_of (r := r) hf)
  have S := Lib.hid (fun (w' : World) (h : Below w.heap.size w w') => same_any (tk 86 x r).1 (bare x.kind) w' (tk_at 86 (hx.below h)) (bare_at _ _))
  generalize tk 86 x r = y at T HV S
  obtain ⟨y, yb⟩ := y
  dsimp only at T HV S
  generalize sameNd y (bare x.kind) = sb at HV S
  unfold bare at S
  clear hx hi hT hf
  cases yb with
  | true =>
    go_enter Try.func71, Try.ntmps71
    go_wp2_with (first | (go_at_call 86; refine (T.out _).mono ?_; rintro e w1 ⟨rfl, hb⟩; have c0 := fun o => (((Blk.new w _ _).below' hb).alloc o).cell 0; simp only [List.getElem?_toArray, List.getElem?_cons_zero] at c0; have H1 := Lib.hid (bb (B1 w _) hb); clear hb) | (go_at_call 92; refine (S.out _ (H1.out.alloc H1.out.size _)).mono ?_; rintro e w2 ⟨rfl, hb⟩; have H2 := Lib.hid (bb (H1.out.alloc H1.out.size _) hb); clear hb))
    go_ret
    exact ⟨ret_bool (by rw [HV.out]; rfl), H2.out⟩
  | false =>
    go_enter Try.func71, Try.ntmps71
    go_wp2_with (go_at_call 86; refine (T.out _).mono ?_; rintro e w1 ⟨rfl, hb⟩; have H1 := Lib.hid (bb (B1 w _) hb); clear hb)
    go_ret
    exact ⟨ret_bool (by rw [HV.out]; rfl), H1.out.alloc H1.out.size _⟩
set_option maxRecDepth 100000 in
set_option maxHeartbeats 1000000 in
theorem right_59 (x : Nd) (r : Int) (b : Nat) (w : World) (hx : Nd.At w x) (hi : Nd.In x) (hT : Takers w b) (hf : find x.kind tks = some (87 : Nat)) :
    Calls Try.prog 71 #[x.val, .int .i64 r, .map (some b)] w fun e w' => e = .returned (.bool (nodeOk x r)) ∧ Below w.heap.size w w' := by
  have hl := (look (hT.below (B1 w (.cells #[.int .i64 x.kind, .int .u64 x.c0, .int .u64 x.c1, .int .u64 x.c2, .int .u64 x.c3, .string x.text, .int .i64 x.rule, .int .i64 x.level, .slice x.A x.kids.length x.cap] 116))) x.kind hi.kind).1 87 hf
  have T := Lib.hid (fun w => taker_any 87 x r (by omega) hx.2.2 hi.text w)
  have HV := Lib.hid (nodeOk_of (r := r) hf)
  have S := Lib.hid (fun (w' : World) (h : Below w.heap.size w w') => same_any (tk 87 x r).1 (bare x.kind) w' (tk_at 87 (hx.below h)) (bare_at _ _))
  generalize tk 87 x r = y at T HV S
  obtain ⟨y, yb⟩ := y
  dsimp only at T HV S
  generalize sameNd y (bare x.kind) = sb at HV S
  unfold bare at S
  clear hx hi hT hf
  cases yb with
  | true =>
    go_enter Try.func71, Try.ntmps71
    go_wp2_with (first | (go_at_call 87; refine (T.out _).mono ?_; rintro e w1 ⟨rfl, hb⟩; have c0 := fun o => (((Blk.new w _ _).below' hb).alloc o).cell 0; simp only [List.getElem?_toArray, List.getElem?_cons_zero] at c0; have H1 := Lib.hid (bb (B1 w _) hb); clear hb) | (go_at_call 92; refine (S.out _ (H1.out.alloc H1.out.size _)).mono ?_; rintro e w2 ⟨rfl, hb⟩; have H2 := Lib.hid (bb (H1.out.alloc H1.out.size _) hb); clear hb))
    go_ret
    exact ⟨ret_bool (by rw [HV.out]; rfl), H2.out⟩
  | false =>
    go_enter Try.func71, Try.ntmps71
    go_wp2_with (go_at_call 87; refine (T.out _).mono ?_; rintro e w1 ⟨rfl, hb⟩; have H1 := Lib.hid (bb (B1 w _) hb); clear hb)
    go_ret
    exact ⟨ret_bool (by rw [HV.out]; rfl), H1.out.alloc H1.out.size _⟩
set_option maxRecDepth 100000 in
set_option maxHeartbeats 1000000 in
theorem right_60 (x : Nd) (r : Int) (b : Nat) (w : World) (hx : Nd.At w x) (hi : Nd.In x) (hT : Takers w b) (hf : find x.kind tks = some (88 : Nat)) :
    Calls Try.prog 71 #[x.val, .int .i64 r, .map (some b)] w fun e w' => e = .returned (.bool (nodeOk x r)) ∧ Below w.heap.size w w' := by
  have hl := (look (hT.below (B1 w (.cells #[.int .i64 x.kind, .int .u64 x.c0, .int .u64 x.c1, .int .u64 x.c2, .int .u64 x.c3, .string x.text, .int .i64 x.rule, .int .i64 x.level, .slice x.A x.kids.length x.cap] 116))) x.kind hi.kind).1 88 hf
  have T := Lib.hid (fun w => taker_any 88 x r (by omega) hx.2.2 hi.text w)
  have HV := Lib.hid (nodeOk_of (r := r) hf)
  have S := Lib.hid (fun (w' : World) (h : Below w.heap.size w w') => same_any (tk 88 x r).1 (bare x.kind) w' (tk_at 88 (hx.below h)) (bare_at _ _))
  generalize tk 88 x r = y at T HV S
  obtain ⟨y, yb⟩ := y
  dsimp only at T HV S
  generalize sameNd y (bare x.kind) = sb at HV S
  unfold bare at S
  clear hx hi hT hf
  cases yb with
  | true =>
    go_enter Try.func71, Try.ntmps71
    go_wp2_with (first | (go_at_call 88; refine (T.out _).mono ?_; rintro e w1 ⟨rfl, hb⟩; have c0 := fun o => (((Blk.new w _ _).below' hb).alloc o).cell 0; simp only [List.getElem?_toArray, List.getElem?_cons_zero] at c0; have H1 := Lib.hid (bb (B1 w _) hb); clear hb) | (go_at_call 92; refine (S.out _ (H1.out.alloc H1.out.size _)).mono ?_; rintro e w2 ⟨rfl, hb⟩; have H2 := Lib.hid (bb (H1.out.alloc H1.out.size _) hb); clear hb))
    go_ret
    exact ⟨ret_bool (by rw [HV.out]; rfl), H2.out⟩
  | false =>
    go_enter Try.func71, Try.ntmps71
    go_wp2_with (go_at_call 88; refine (T.out _).mono ?_; rintro e w1 ⟨rfl, hb⟩; have H1 := Lib.hid (bb (B1 w _) hb); clear hb)
    go_ret
    exact ⟨ret_bool (by rw [HV.out]; rfl), H1.out.alloc H1.out.size _⟩
set_option maxRecDepth 100000 in
set_option maxHeartbeats 1000000 in
theorem right_61 (x : Nd) (r : Int) (b : Nat) (w : World) (hx : Nd.At w x) (hi : Nd.In x) (hT : Takers w b) (hf : find x.kind tks = some (89 : Nat)) :
    Calls Try.prog 71 #[x.val, .int .i64 r, .map (some b)] w fun e w' => e = .returned (.bool (nodeOk x r)) ∧ Below w.heap.size w w' := by
  have hl := (look (hT.below (B1 w (.cells #[.int .i64 x.kind, .int .u64 x.c0, .int .u64 x.c1, .int .u64 x.c2, .int .u64 x.c3, .string x.text, .int .i64 x.rule, .int .i64 x.level, .slice x.A x.kids.length x.cap] 116))) x.kind hi.kind).1 89 hf
  have T := Lib.hid (fun w => taker_any 89 x r (by omega) hx.2.2 hi.text w)
  have HV := Lib.hid (nodeOk_of (r := r) hf)
  have S := Lib.hid (fun (w' : World) (h : Below w.heap.size w w') => same_any (tk 89 x r).1 (bare x.kind) w' (tk_at 89 (hx.below h)) (bare_at _ _))
  generalize tk 89 x r = y at T HV S
  obtain ⟨y, yb⟩ := y
  dsimp only at T HV S
  generalize sameNd y (bare x.kind) = sb at HV S
  unfold bare at S
  clear hx hi hT hf
  cases yb with
  | true =>
    go_enter Try.func71, Try.ntmps71
    go_wp2_with (first | (go_at_call 89; refine (T.out _).mono ?_; rintro e w1 ⟨rfl, hb⟩; have c0 := fun o => (((Blk.new w _ _).below' hb).alloc o).cell 0; simp only [List.getElem?_toArray, List.getElem?_cons_zero] at c0; have H1 := Lib.hid (bb (B1 w _) hb); clear hb) | (go_at_call 92; refine (S.out _ (H1.out.alloc H1.out.size _)).mono ?_; rintro e w2 ⟨rfl, hb⟩; have H2 := Lib.hid (bb (H1.out.alloc H1.out.size _) hb); clear hb))
    go_ret
    exact ⟨ret_bool (by rw [HV.out]; rfl), H2.out⟩
  | false =>
    go_enter Try.func71, Try.ntmps71
    go_wp2_with (go_at_call 89; refine (T.out _).mono ?_; rintro e w1 ⟨rfl, hb⟩; have H1 := Lib.hid (bb (B1 w _) hb); clear hb)
    go_ret
    exact ⟨ret_bool (by rw [HV.out]; rfl), H1.out.alloc H1.out.size _⟩
set_option maxRecDepth 100000 in
set_option maxHeartbeats 1000000 in
theorem right_62 (x : Nd) (r : Int) (b : Nat) (w : World) (hx : Nd.At w x) (hi : Nd.In x) (hT : Takers w b) (hf : find x.kind tks = some (90 : Nat)) :
    Calls Try.prog 71 #[x.val, .int .i64 r, .map (some b)] w fun e w' => e = .returned (.bool (nodeOk x r)) ∧ Below w.heap.size w w' := by
  have hl := (look (hT.below (B1 w (.cells #[.int .i64 x.kind, .int .u64 x.c0, .int .u64 x.c1, .int .u64 x.c2, .int .u64 x.c3, .string x.text, .int .i64 x.rule, .int .i64 x.level, .slice x.A x.kids.length x.cap] 116))) x.kind hi.kind).1 90 hf
  have T := Lib.hid (fun w => taker_any 90 x r (by omega) hx.2.2 hi.text w)
  have HV := Lib.hid (nodeOk_of (r := r) hf)
  have S := Lib.hid (fun (w' : World) (h : Below w.heap.size w w') => same_any (tk 90 x r).1 (bare x.kind) w' (tk_at 90 (hx.below h)) (bare_at _ _))
  generalize tk 90 x r = y at T HV S
  obtain ⟨y, yb⟩ := y
  dsimp only at T HV S
  generalize sameNd y (bare x.kind) = sb at HV S
  unfold bare at S
  clear hx hi hT hf
  cases yb with
  | true =>
    go_enter Try.func71, Try.ntmps71
    go_wp2_with (first | (go_at_call 90; refine (T.out _).mono ?_; rintro e w1 ⟨rfl, hb⟩; have c0 := fun o => (((Blk.new w _ _).below' hb).alloc o).cell 0; simp only [List.getElem?_toArray, List.getElem?_cons_zero] at c0; have H1 := Lib.hid (bb (B1 w _) hb); clear hb) | (go_at_call 92; refine (S.out _ (H1.out.alloc H1.out.size _)).mono ?_; rintro e w2 ⟨rfl, hb⟩; have H2 := Lib.hid (bb (H1.out.alloc H1.out.size _) hb); clear hb))
    go_ret
    exact ⟨ret_bool (by rw [HV.out]; rfl), H2.out⟩
  | false =>
    go_enter Try.func71, Try.ntmps71
    go_wp2_with (go_at_call 90; refine (T.out _).mono ?_; rintro e w1 ⟨rfl, hb⟩; have H1 := Lib.hid (bb (B1 w _) hb); clear hb)
    go_ret
    exact ⟨ret_bool (by rw [HV.out]; rfl), H1.out.alloc H1.out.size _⟩
set_option maxRecDepth 100000 in
set_option maxHeartbeats 1000000 in
theorem right_63 (x : Nd) (r : Int) (b : Nat) (w : World) (hx : Nd.At w x) (hi : Nd.In x) (hT : Takers w b) (hf : find x.kind tks = some (91 : Nat)) :
    Calls Try.prog 71 #[x.val, .int .i64 r, .map (some b)] w fun e w' => e = .returned (.bool (nodeOk x r)) ∧ Below w.heap.size w w' := by
  have hl := (look (hT.below (B1 w (.cells #[.int .i64 x.kind, .int .u64 x.c0, .int .u64 x.c1, .int .u64 x.c2, .int .u64 x.c3, .string x.text, .int .i64 x.rule, .int .i64 x.level, .slice x.A x.kids.length x.cap] 116))) x.kind hi.kind).1 91 hf
  have T := Lib.hid (fun w => taker_any 91 x r (by omega) hx.2.2 hi.text w)
  have HV := Lib.hid (nodeOk_of (r := r) hf)
  have S := Lib.hid (fun (w' : World) (h : Below w.heap.size w w') => same_any (tk 91 x r).1 (bare x.kind) w' (tk_at 91 (hx.below h)) (bare_at _ _))
  generalize tk 91 x r = y at T HV S
  obtain ⟨y, yb⟩ := y
  dsimp only at T HV S
  generalize sameNd y (bare x.kind) = sb at HV S
  unfold bare at S
  clear hx hi hT hf
  cases yb with
  | true =>
    go_enter Try.func71, Try.ntmps71
    go_wp2_with (first | (go_at_call 91; refine (T.out _).mono ?_; rintro e w1 ⟨rfl, hb⟩; have c0 := fun o => (((Blk.new w _ _).below' hb).alloc o).cell 0; simp only [List.getElem?_toArray, List.getElem?_cons_zero] at c0; have H1 := Lib.hid (bb (B1 w _) hb); clear hb) | (go_at_call 92; refine (S.out _ (H1.out.alloc H1.out.size _)).mono ?_; rintro e w2 ⟨rfl, hb⟩; have H2 := Lib.hid (bb (H1.out.alloc H1.out.size _) hb); clear hb))
    go_ret
    exact ⟨ret_bool (by rw [HV.out]; rfl), H2.out⟩
  | false =>
    go_enter Try.func71, Try.ntmps71
    go_wp2_with (go_at_call 91; refine (T.out _).mono ?_; rintro e w1 ⟨rfl, hb⟩; have H1 := Lib.hid (bb (B1 w _) hb); clear hb)
    go_ret
    exact ⟨ret_bool (by rw [HV.out]; rfl), H1.out.alloc H1.out.size _⟩
theorem find_mem (c f : Int) : ∀ l : List (Int × Int), find c l = some f → f ∈ l.map (fun p => p.2)
  | [], h => by cases h
  | p :: l, h => by
    rw [find] at h
    split at h
    · cases h; simp
    · exact List.mem_cons_of_mem _ (find_mem c f l h)
theorem find_cases (c : Int) : find c tks = none ∨ ∃ n : Nat, 86 ≤ n ∧ n ≤ 91 ∧ find c tks = some (n : Int) := by
  cases h : find c tks with
  | none => exact .inl rfl
  | some f =>
    have := find_mem c f tks h
    simp [tks] at this
    exact .inr ⟨f.toNat, by omega, by omega, by rw [show ((f.toNat : Nat) : Int) = f by omega]⟩
theorem right_any (x : Nd) (r : Int) (b : Nat) (w : World) (hx : Nd.At w x) (hi : Nd.In x) (hT : Takers w b) :
    Calls Try.prog 71 #[x.val, .int .i64 r, .map (some b)] w fun e w' => e = .returned (.bool (nodeOk x r)) ∧ Below w.heap.size w w' := by
  rcases find_cases x.kind with h | ⟨n, h1, h2, h⟩
  · exact right_none x r b w hi hT h
  · obtain rfl | rfl | rfl | rfl | rfl | rfl : n = 86 ∨ n = 87 ∨ n = 88 ∨ n = 89 ∨ n = 90 ∨ n = 91 := by omega
    · exact right_58 x r b w hx hi hT h
    · exact right_59 x r b w hx hi hT h
    · exact right_60 x r b w hx hi hT h
    · exact right_61 x r b w hx hi hT h
    · exact right_62 x r b w hx hi hT h
    · exact right_63 x r b w hx hi hT h
end Go.Proofs.Ytjelgmdjmjnnfaa
namespace Go.Proofs.Ytjelgmdjmjnnfaa
open Go Go.RowKit
theorem text_empty {t : ByteArray} : t = { data := #[] } ↔ t.toList = [] := by
  rw [← tl_inj, show ({ data := #[] } : ByteArray).toList = [] from by rw [ByteArray.toList_eq]]
theorem text_size {t : ByteArray} : t.toList = [] ↔ t.size = 0 := by
  rw [ByteArray.toList_eq]
  constructor
  · intro h; have := congrArg List.length h; simpa using this
  · intro h; apply List.eq_nil_of_length_eq_zero; simpa using h
/-- A node is right, part by part. -/
def NodeIs (x : Nd) (r : Int) : Prop :=
  ((x.kind = 1 ∨ x.kind = 2) ∧ (((x.c0 = 0 ∧ x.c1 = 0) ∧ x.c2 = 0) ∧ x.c3 = 0) ∧ x.text.toList = [] ∧ (x.rule = 0 ∧ x.level = 0) ∧ x.kids.length = 0) ∨
  (x.kind = 3 ∧ ¬ (((x.c0 = 0 ∧ x.c1 = 0) ∧ x.c2 = 0) ∧ x.c3 = 0) ∧ x.text.toList = [] ∧ (x.rule = 0 ∧ x.level = 0) ∧ x.kids.length = 0) ∨
  (x.kind = 4 ∧ (((x.c0 = 0 ∧ x.c1 = 0) ∧ x.c2 = 0) ∧ x.c3 = 0) ∧ (¬ x.text.toList = [] ∧ (x.text.size : Int) ≤ 64) ∧ (x.rule = 0 ∧ x.level = 0) ∧ x.kids.length = 0) ∨
  (x.kind = 5 ∧ (((x.c0 = 0 ∧ x.c1 = 0) ∧ x.c2 = 0) ∧ x.c3 = 0) ∧ x.text.toList = [] ∧ (0 ≤ x.rule ∧ x.rule < r ∧ 0 ≤ x.level ∧ x.level ≤ 99) ∧ x.kids.length = 0) ∨
  ((x.kind = 6 ∨ x.kind = 7) ∧ (((x.c0 = 0 ∧ x.c1 = 0) ∧ x.c2 = 0) ∧ x.c3 = 0) ∧ x.text.toList = [] ∧ (x.rule = 0 ∧ x.level = 0) ∧ 2 ≤ x.kids.length ∧ x.kids.length ≤ 64) ∨
  ((x.kind = 8 ∨ x.kind = 9 ∨ x.kind = 10 ∨ x.kind = 11 ∨ x.kind = 12) ∧ (((x.c0 = 0 ∧ x.c1 = 0) ∧ x.c2 = 0) ∧ x.c3 = 0) ∧ x.text.toList = [] ∧ (x.rule = 0 ∧ x.level = 0) ∧ x.kids.length = 1)
theorem find_none {c : Int} (h : ¬ (1 ≤ c ∧ c ≤ 12)) : find c tks = none := by
  unfold tks
  simp only [find]
  repeat rw [if_neg (by omega)]
set_option maxHeartbeats 2000000 in
theorem nodeOk_iff (x : Nd) (r : Int) : nodeOk x r = true ↔ NodeIs x r := by
  by_cases hk : 1 ≤ x.kind ∧ x.kind ≤ 12
  · have ht := text_empty (t := x.text)
    have hs := text_size (t := x.text)
    have hz : x.kids = [] ↔ x.kids.length = 0 := List.length_eq_zero_iff.symm
    have e1 : x.kind = 1 ∨ x.kind = 2 ∨ x.kind = 3 ∨ x.kind = 4 ∨ x.kind = 5 ∨ x.kind = 6 ∨ x.kind = 7 ∨ x.kind = 8 ∨ x.kind = 9 ∨ x.kind = 10 ∨ x.kind = 11 ∨ x.kind = 12 := by omega
    rcases e1 with h | h | h | h | h | h | h | h | h | h | h | h
    all_goals
      unfold nodeOk NodeIs
      rw [h]
      simp only [tks, find, Int.reduceEq, if_true, if_false, reduceIte, Int.reduceToNat, tk, sameNd, bare, noCls, callOk, kidsOk, Nd.less, ht, hz, h, Bool.and_eq_true, decide_eq_true_eq, true_and, Bool.not_eq_true', and_true, false_and, or_false, false_or, beq_iff_eq, List.length_nil, true_or, or_true, Bool.and_eq_false_imp]
    all_goals grind
  · unfold nodeOk NodeIs
    rw [find_none hk]
    constructor
    · intro h; cases h
    · intro h; omega
end Go.Proofs.Ytjelgmdjmjnnfaa
namespace Go.Proofs.Ytjelgmdjmjnnfaa
open Go Go.RowKit
/-- A name: a letter, then letters and digits, from 1 to 32 bytes. -/
def byteOk (i : Nat) (b : Int) : Bool := letter b || (decide (i ≠ 0) && digit b)
def nameOk (s : List UInt8) : Bool := decide (1 ≤ s.length ∧ s.length ≤ 32 ∧ ∀ i, i < s.length → byteOk i (s.getD i 0).toNat = true)
theorem conv_bytes (w : World) (s : ByteArray) : ∃ b c w', (convert 9 91 (.string s)).run Try.prog w = .ok (.slice (some ⟨b, 0, none⟩) s.size c) w' ∧ Below w.heap.size w w' ∧ b < w'.heap.size ∧ ∀ i, i < s.size → w'.cell? ⟨b, i, none⟩ = some (.int .u8 (s.data.toList.getD i 0).toNat) := by
  have h := run_bytes_of_string (P := Try.prog) w 9 91 5 s Try.underlying9 Try.underlying91 Try.underlying5
  refine ⟨_, _, _, h, ?_, ?_, fun i hi => ?_⟩
  · exact (bdrew1 (Below.refl _ _)).alloc (Nat.le_refl _) _
  · simp
  · rw [show w.heap.size = w.drew.heap.size from rfl, cell_of_row _ _ i _ _ _ (heap_alloc_new w.drew _), bytesRow_at _ _ i (by simpa using hi)]
    simp [List.getD, List.getElem?_eq_getElem (show i < s.data.toList.length from by simpa using hi)]
theorem nameOk_true {s : List UInt8} (h1 : 1 ≤ s.length) (h2 : s.length ≤ 32) (h : ∀ i, i < s.length → byteOk i (s.getD i 0).toNat = true) : nameOk s = true := by
  unfold nameOk; exact decide_eq_true ⟨h1, h2, h⟩
theorem nameOk_len {s : List UInt8} (h : ¬ (1 ≤ s.length ∧ s.length ≤ 32)) : nameOk s = false := by
  unfold nameOk; exact decide_eq_false fun ⟨a, b, _⟩ => h ⟨a, b⟩
theorem nameOk_byte {s : List UInt8} (i : Nat) (hi : i < s.length) (h : byteOk i (s.getD i 0).toNat = false) : nameOk s = false := by
  unfold nameOk; exact decide_eq_false fun ⟨_, _, c⟩ => by rw [c i hi] at h; cases h
theorem wpList_conv (w : World) {ops : Array Oper} {rest : List Oper} {o : Oper} {a : Act} {Q : Exit → Act → World → Prop}
    (hg : o.guard = none) (x : Operand) (hop : o.op = .convert 9 91 x) (s : ByteArray) (hx : a.eval x = .string s)
    (hK : ∀ b c w', Below w.heap.size w w' → (∀ i, i < s.size → w'.cell? ⟨b, i, none⟩ = some (.int .u8 (s.data.toList.getD i 0).toNat)) → wpList Try.prog ops Q rest (a.put o.dst (.slice (some ⟨b, 0, none⟩) s.size c)) w') :
    wpList Try.prog ops Q (o :: rest) a w := by
  obtain ⟨b, c, w', h1, h2, _, h3⟩ := conv_bytes w s
  refine wpList_plain hg fun K hK' => ?_
  unfold Oper.wp execOp
  simp only [hop, hx, Sem.run_bind, h1, Result.andThen_ok, Sem.run_pure]
  exact hK' _ _ (hK b c w' h2 h3)
set_option maxRecDepth 100000 in
set_option maxHeartbeats 2000000 in
theorem name_any (s : ByteArray) (hs : s.size ≤ 9223372036854775807) (w : World) : Calls Try.prog 69 #[.string s] w fun e w' => e = .returned (.bool (nameOk s.data.toList)) ∧ Below w.heap.size w w' := by
  have hl : s.data.toList.length = s.size := by simp
  by_cases hn : 1 ≤ s.size ∧ s.size ≤ 32
  · have NT := Lib.hid (nameOk_true (s := s.data.toList) (by omega) (by omega))
    have NB := Lib.hid (nameOk_byte (s := s.data.toList))
    have HL := Lib.hid hl
    have hn1 : (1 : Int) ≤ s.size := by omega
    have hn2 : (s.size : Int) ≤ 32 := by omega
    have hd : decide ((1 : Int) ≤ s.size ∧ (s.size : Int) ≤ 32) = true := by simp; omega
    have W33 := Lib.hid (fun w => by have := within_any 1 s.size 32 w; rw [hd] at this; exact this)
    clear hn hl hd
    go_enter Try.func69, Try.ntmps69
    go_wp2_with (first | (go_at_call 53; refine (W33.out _).mono ?_; rintro e w1 ⟨rfl, rfl⟩) | (refine wpList_conv _ rfl (.tmp 9) rfl s rfl ?_; intro b c w1 hb1 hc1; have HB := Lib.hid hb1; have HC := Lib.hid hc1; clear hb1 hc1))
    go_loopw [12, 3, 4] (fun i _ _ wr => ∃ k : Nat, k ≤ s.size ∧ i = .int .i64 k ∧ (∀ j, j < k → byteOk j (s.data.toList.getD j 0).toNat = true) ∧ wr = w1) (fun i _ _ _ => s.size - (intOf i).toNat)
    case atStart => exact ⟨0, by omega, rfl, fun j h => by omega, rfl⟩
    case round =>
      obtain ⟨k, hk, rfl, ht, rfl⟩ := hrel
      have HT := Lib.hid ht
      clear ht
      by_cases hlt : k < s.size
      · have hlt2 : (k : Int) < s.size := by omega
        have hc := HC.out k hlt
        obtain ⟨v, ev⟩ : ∃ v, v = s.data.toList.getD k 0 := ⟨_, rfl⟩
        rw [← ev] at hc
        have EV := Lib.hid ev
        have LA := Lib.hid (fun w => letter_any v.toNat w)
        have DA := Lib.hid (fun w => digit_any v.toNat w)
        have HV := Lib.hid (show byteOk k v.toNat = (letter v.toNat || (decide (k ≠ 0) && digit v.toNat)) from rfl)
        clear ev
        obtain ⟨lb, el⟩ : ∃ lb, lb = letter v.toNat := ⟨_, rfl⟩
        obtain ⟨db, ed⟩ : ∃ db, db = digit v.toNat := ⟨_, rfl⟩
        rw [← el] at LA HV
        rw [← ed] at DA HV
        clear el ed
        cases hbo : byteOk k v.toNat with
        | true =>
          have HBO := Lib.hid hbo
          rw [hbo] at HV
          clear hbo
          cases lb with
          | true =>
            go_wp2_with (go_at_call 84; refine (LA.out _).mono ?_; rintro e w2 ⟨rfl, rfl⟩)
            go_roundw
            case rel => exact ⟨k + 1, by omega, by go_num, fun j hj => by
                by_cases e : j = k
                · subst e; rw [← EV.out]; exact HBO.out
                · exact HT.out j (by omega), by first | trivial | rfl⟩
            case measure => simp [intOf]; omega
          | false =>
            cases db with
            | false => have := HV.out; simp at this
            | true =>
              have k0 : ((k : Int) == 0) = false := by have := HV.out; simp at this ⊢; omega
              go_wp2_with (first | (go_at_call 84; refine (LA.out _).mono ?_; rintro e w2 ⟨rfl, rfl⟩) | (go_at_call 85; refine (DA.out _).mono ?_; rintro e w2 ⟨rfl, rfl⟩))
              go_roundw
              case rel => exact ⟨k + 1, by omega, by go_num, fun j hj => by
                  by_cases e : j = k
                  · subst e; rw [← EV.out]; exact HBO.out
                  · exact HT.out j (by omega), by first | trivial | rfl⟩
              case measure => simp [intOf]; omega
        | false =>
          have HBO := Lib.hid hbo
          rw [hbo] at HV
          clear hbo
          cases lb with
          | true => have := HV.out; simp at this
          | false =>
            by_cases k0 : k = 0
            · have k1 : ((k : Int) == 0) = true := by simp [k0]
              clear k0
              go_wp2_with (first | (go_at_call 84; refine (LA.out _).mono ?_; rintro e w2 ⟨rfl, rfl⟩) | (go_at_call 85; refine (DA.out _).mono ?_; rintro e w2 ⟨rfl, rfl⟩))
              go_ret
              exact ⟨ret_bool (NB.out k (by rw [HL.out]; exact hlt) (by rw [← EV.out]; exact HBO.out)).symm, HB.out⟩
            · cases db with
              | true => have := HV.out; simp at this; exact absurd this k0
              | false =>
                have k1 : ((k : Int) == 0) = false := by simp; omega
                clear k0
                go_wp2_with (first | (go_at_call 84; refine (LA.out _).mono ?_; rintro e w2 ⟨rfl, rfl⟩) | (go_at_call 85; refine (DA.out _).mono ?_; rintro e w2 ⟨rfl, rfl⟩))
                go_ret
                exact ⟨ret_bool (NB.out k (by rw [HL.out]; exact hlt) (by rw [← EV.out]; exact HBO.out)).symm, HB.out⟩
      · obtain rfl : k = s.size := by omega
        have hlt2 : ¬ (s.size : Int) < s.size := by omega
        go_wp2_with fail
        go_ret
        exact ⟨ret_bool (NT.out (fun i hi => HT.out i (by rw [HL.out] at hi; exact hi))).symm, HB.out⟩
  · rw [nameOk_len (by omega)]
    have hd : decide ((1 : Int) ≤ s.size ∧ (s.size : Int) ≤ 32) = false := by simp; omega
    have W33 := Lib.hid (fun w => by have := within_any 1 s.size 32 w; rw [hd] at this; exact this)
    clear hn hd hl
    go_enter Try.func69, Try.ntmps69
    go_wp2_with (go_at_call 53; refine (W33.out _).mono ?_; rintro e w1 ⟨rfl, rfl⟩)
    go_ret
    exact ⟨rfl, Below.refl _ _⟩
end Go.Proofs.Ytjelgmdjmjnnfaa

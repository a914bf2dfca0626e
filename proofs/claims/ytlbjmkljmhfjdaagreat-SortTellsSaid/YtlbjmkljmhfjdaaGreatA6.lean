/- Whether a node is right: the program's answer. -/
import Derived.Test.YtlbjmkljmhfjdaaGreatA5
set_option linter.unusedSimpArgs false
set_option linter.unusedVariables false
namespace Go.Proofs.YtlbjmkljmhfjdaaGreat
open Go Go.RowKit
/-- What a taker leaves, and what it says. -/
def tk (n : Nat) (x : Nd) (r : Int) : Nd × Bool :=
  match n with
  | 290 => (x, true)
  | 291 => ({ x with c0 := 0, c1 := 0, c2 := 0, c3 := 0 }, !noCls x)
  | 292 => ({ x with text := { data := #[] } }, decide (1 ≤ (x.text.size : Int) ∧ (x.text.size : Int) ≤ 64))
  | 293 => ({ x with rule := 0, level := 0 }, callOk x r)
  | 294 => (x.less, kidsOk x 2 64)
  | 295 => (x.less, kidsOk x 1 1)
  | _ => (x, false)
def bare (k : Int) : Nd := ⟨k, 0, 0, 0, 0, { data := #[] }, 0, 0, none, 0, []⟩
theorem bare_at (k : Int) (w : World) : Nd.At w (bare k) := ⟨fun h => by simp [bare, ints] at h, fun _ => rfl, by simp [bare]⟩
/-- Whether a node is right, of so many rules. -/
def nodeOk (x : Nd) (r : Int) : Bool :=
  match find x.kind tks with
  | some n => (tk n.toNat x r).2 && sameNd (tk n.toNat x r).1 (bare x.kind)
  | none => false
theorem less_at {x : Nd} (w : World) : Nd.At w x.less := ⟨fun h => by simp [ints] at h, fun _ => rfl, by simp⟩
theorem nodeOk_of {x : Nd} {r : Int} {n : Nat} (h : find x.kind tks = some (n : Int)) : nodeOk x r = ((tk n x r).2 && sameNd (tk n x r).1 (bare x.kind)) := by
  unfold nodeOk; rw [h]; rfl
/-- A node that is read: numbers within their bounds. -/
structure Nd.In (x : Nd) : Prop where
  kind : -9223372036854775808 ≤ x.kind ∧ x.kind < 9223372036854775808
  text : x.text.size ≤ 9223372036854775807
theorem tk_at {w : World} {x : Nd} {r : Int} (n : Nat) (h : Nd.At w x) : Nd.At w (tk n x r).1 := by
  unfold tk
  split
  all_goals first
    | exact h
    | exact less_at w
theorem taker_any (n : Nat) (x : Nd) (r : Int) (hn : 290 ≤ n ∧ n ≤ 295) (hk : x.kids.length ≤ 140737488351232) (ht : x.text.size ≤ 9223372036854775807) (w : World) :
    Calls Tryz.prog n #[x.val, .int .i64 r] w fun e w' => e = .returned (.tuple #[(tk n x r).1.val, .bool (tk n x r).2]) ∧ Below w.heap.size w w' := by
  obtain rfl | rfl | rfl | rfl | rfl | rfl : n = 290 ∨ n = 291 ∨ n = 292 ∨ n = 293 ∨ n = 294 ∨ n = 295 := by omega
  · exact nothing_any x r w
  · exact set_any x r w
  · exact text_any x r ht w
  · exact call_any x r w
  · exact several_any x r hk w
  · exact single_any x r hk w
set_option maxHeartbeats 1000000 in
theorem right_none (x : Nd) (r : Int) (b : Nat) (w : World) (hi : Nd.In x) (hT : Takers w b) (hf : find x.kind tks = none) :
    Calls Tryz.prog 262 #[x.val, .int .i64 r, .map (some b)] w fun e w' => e = .returned (.bool (nodeOk x r)) ∧ Below w.heap.size w w' := by
  obtain ⟨v, hl⟩ := (look (hT.below (B1 w (.cells #[.int .i64 x.kind, .int .u64 x.c0, .int .u64 x.c1, .int .u64 x.c2, .int .u64 x.c3, .string x.text, .int .i64 x.rule, .int .i64 x.level, .slice x.A x.kids.length x.cap] 287))) x.kind hi.kind).2 hf
  have HV := Lib.hid (show nodeOk x r = false by unfold nodeOk; rw [hf])
  clear hi hT hf
  go_enter Tryz.func262, Tryz.ntmps262
  go_wp2_with fail
  go_ret
  exact ⟨ret_bool HV.out.symm, B1 _ _⟩
set_option maxRecDepth 100000 in
set_option maxHeartbeats 1000000 in
theorem right_58 (x : Nd) (r : Int) (b : Nat) (w : World) (hx : Nd.At w x) (hi : Nd.In x) (hT : Takers w b) (hf : find x.kind tks = some (290 : Nat)) :
    Calls Tryz.prog 262 #[x.val, .int .i64 r, .map (some b)] w fun e w' => e = .returned (.bool (nodeOk x r)) ∧ Below w.heap.size w w' := by
  have hl := (look (hT.below (B1 w (.cells #[.int .i64 x.kind, .int .u64 x.c0, .int .u64 x.c1, .int .u64 x.c2, .int .u64 x.c3, .string x.text, .int .i64 x.rule, .int .i64 x.level, .slice x.A x.kids.length x.cap] 287))) x.kind hi.kind).1 290 hf
  have T := Lib.hid (fun w => taker_any 290 x r (by omega) hx.2.2 hi.text w)
  have HV := Lib.hid (nodeOk_of (r := r) hf)
  have S := Lib.hid (fun (w' : World) (h : Below w.heap.size w w') => same_any (tk 290 x r).1 (bare x.kind) w' (tk_at 290 (hx.below h)) (bare_at _ _))
  generalize tk 290 x r = y at T HV S
  obtain ⟨y, yb⟩ := y
  dsimp only at T HV S
  generalize sameNd y (bare x.kind) = sb at HV S
  unfold bare at S
  clear hx hi hT hf
  cases yb with
  | true =>
    go_enter Tryz.func262, Tryz.ntmps262
    go_wp2_with (first | (go_at_call 290; refine (T.out _).mono ?_; rintro e w1 ⟨rfl, hb⟩; have c0 := fun o => (((Blk.new w _ _).below' hb).alloc o).cell 0; simp only [List.getElem?_toArray, List.getElem?_cons_zero] at c0; have H1 := Lib.hid (bb (B1 w _) hb); clear hb) | (go_at_call 296; refine (S.out _ (H1.out.alloc H1.out.size _)).mono ?_; rintro e w2 ⟨rfl, hb⟩; have H2 := Lib.hid (bb (H1.out.alloc H1.out.size _) hb); clear hb))
    go_ret
    exact ⟨ret_bool (by rw [HV.out]; rfl), H2.out⟩
  | false =>
    go_enter Tryz.func262, Tryz.ntmps262
    go_wp2_with (go_at_call 290; refine (T.out _).mono ?_; rintro e w1 ⟨rfl, hb⟩; have H1 := Lib.hid (bb (B1 w _) hb); clear hb)
    go_ret
    exact ⟨ret_bool (by rw [HV.out]; rfl), H1.out.alloc H1.out.size _⟩
set_option maxRecDepth 100000 in
set_option maxHeartbeats 1000000 in
theorem right_59 (x : Nd) (r : Int) (b : Nat) (w : World) (hx : Nd.At w x) (hi : Nd.In x) (hT : Takers w b) (hf : find x.kind tks = some (291 : Nat)) :
    Calls Tryz.prog 262 #[x.val, .int .i64 r, .map (some b)] w fun e w' => e = .returned (.bool (nodeOk x r)) ∧ Below w.heap.size w w' := by
  have hl := (look (hT.below (B1 w (.cells #[.int .i64 x.kind, .int .u64 x.c0, .int .u64 x.c1, .int .u64 x.c2, .int .u64 x.c3, .string x.text, .int .i64 x.rule, .int .i64 x.level, .slice x.A x.kids.length x.cap] 287))) x.kind hi.kind).1 291 hf
  have T := Lib.hid (fun w => taker_any 291 x r (by omega) hx.2.2 hi.text w)
  have HV := Lib.hid (nodeOk_of (r := r) hf)
  have S := Lib.hid (fun (w' : World) (h : Below w.heap.size w w') => same_any (tk 291 x r).1 (bare x.kind) w' (tk_at 291 (hx.below h)) (bare_at _ _))
  generalize tk 291 x r = y at T HV S
  obtain ⟨y, yb⟩ := y
  dsimp only at T HV S
  generalize sameNd y (bare x.kind) = sb at HV S
  unfold bare at S
  clear hx hi hT hf
  cases yb with
  | true =>
    go_enter Tryz.func262, Tryz.ntmps262
    go_wp2_with (first | (go_at_call 291; refine (T.out _).mono ?_; rintro e w1 ⟨rfl, hb⟩; have c0 := fun o => (((Blk.new w _ _).below' hb).alloc o).cell 0; simp only [List.getElem?_toArray, List.getElem?_cons_zero] at c0; have H1 := Lib.hid (bb (B1 w _) hb); clear hb) | (go_at_call 296; refine (S.out _ (H1.out.alloc H1.out.size _)).mono ?_; rintro e w2 ⟨rfl, hb⟩; have H2 := Lib.hid (bb (H1.out.alloc H1.out.size _) hb); clear hb))
    go_ret
    exact ⟨ret_bool (by rw [HV.out]; rfl), H2.out⟩
  | false =>
    go_enter Tryz.func262, Tryz.ntmps262
    go_wp2_with (go_at_call 291; refine (T.out _).mono ?_; rintro e w1 ⟨rfl, hb⟩; have H1 := Lib.hid (bb (B1 w _) hb); clear hb)
    go_ret
    exact ⟨ret_bool (by rw [HV.out]; rfl), H1.out.alloc H1.out.size _⟩
set_option maxRecDepth 100000 in
set_option maxHeartbeats 1000000 in
theorem right_60 (x : Nd) (r : Int) (b : Nat) (w : World) (hx : Nd.At w x) (hi : Nd.In x) (hT : Takers w b) (hf : find x.kind tks = some (292 : Nat)) :
    Calls Tryz.prog 262 #[x.val, .int .i64 r, .map (some b)] w fun e w' => e = .returned (.bool (nodeOk x r)) ∧ Below w.heap.size w w' := by
  have hl := (look (hT.below (B1 w (.cells #[.int .i64 x.kind, .int .u64 x.c0, .int .u64 x.c1, .int .u64 x.c2, .int .u64 x.c3, .string x.text, .int .i64 x.rule, .int .i64 x.level, .slice x.A x.kids.length x.cap] 287))) x.kind hi.kind).1 292 hf
  have T := Lib.hid (fun w => taker_any 292 x r (by omega) hx.2.2 hi.text w)
  have HV := Lib.hid (nodeOk_of (r := r) hf)
  have S := Lib.hid (fun (w' : World) (h : Below w.heap.size w w') => same_any (tk 292 x r).1 (bare x.kind) w' (tk_at 292 (hx.below h)) (bare_at _ _))
  generalize tk 292 x r = y at T HV S
  obtain ⟨y, yb⟩ := y
  dsimp only at T HV S
  generalize sameNd y (bare x.kind) = sb at HV S
  unfold bare at S
  clear hx hi hT hf
  cases yb with
  | true =>
    go_enter Tryz.func262, Tryz.ntmps262
    go_wp2_with (first | (go_at_call 292; refine (T.out _).mono ?_; rintro e w1 ⟨rfl, hb⟩; have c0 := fun o => (((Blk.new w _ _).below' hb).alloc o).cell 0; simp only [List.getElem?_toArray, List.getElem?_cons_zero] at c0; have H1 := Lib.hid (bb (B1 w _) hb); clear hb) | (go_at_call 296; refine (S.out _ (H1.out.alloc H1.out.size _)).mono ?_; rintro e w2 ⟨rfl, hb⟩; have H2 := Lib.hid (bb (H1.out.alloc H1.out.size _) hb); clear hb))
    go_ret
    exact ⟨ret_bool (by rw [HV.out]; rfl), H2.out⟩
  | false =>
    go_enter Tryz.func262, Tryz.ntmps262
    go_wp2_with (go_at_call 292; refine (T.out _).mono ?_; rintro e w1 ⟨rfl, hb⟩; have H1 := Lib.hid (bb (B1 w _) hb); clear hb)
    go_ret
    exact ⟨ret_bool (by rw [HV.out]; rfl), H1.out.alloc H1.out.size _⟩
set_option maxRecDepth 100000 in
set_option maxHeartbeats 1000000 in
theorem right_61 (x : Nd) (r : Int) (b : Nat) (w : World) (hx : Nd.At w x) (hi : Nd.In x) (hT : Takers w b) (hf : find x.kind tks = some (293 : Nat)) :
    Calls Tryz.prog 262 #[x.val, .int .i64 r, .map (some b)] w fun e w' => e = .returned (.bool (nodeOk x r)) ∧ Below w.heap.size w w' := by
  have hl := (look (hT.below (B1 w (.cells #[.int .i64 x.kind, .int .u64 x.c0, .int .u64 x.c1, .int .u64 x.c2, .int .u64 x.c3, .string x.text, .int .i64 x.rule, .int .i64 x.level, .slice x.A x.kids.length x.cap] 287))) x.kind hi.kind).1 293 hf
  have T := Lib.hid (fun w => taker_any 293 x r (by omega) hx.2.2 hi.text w)
  have HV := Lib.hid (nodeOk_of (r := r) hf)
  have S := Lib.hid (fun (w' : World) (h : Below w.heap.size w w') => same_any (tk 293 x r).1 (bare x.kind) w' (tk_at 293 (hx.below h)) (bare_at _ _))
  generalize tk 293 x r = y at T HV S
  obtain ⟨y, yb⟩ := y
  dsimp only at T HV S
  generalize sameNd y (bare x.kind) = sb at HV S
  unfold bare at S
  clear hx hi hT hf
  cases yb with
  | true =>
    go_enter Tryz.func262, Tryz.ntmps262
    go_wp2_with (first | (go_at_call 293; refine (T.out _).mono ?_; rintro e w1 ⟨rfl, hb⟩; have c0 := fun o => (((Blk.new w _ _).below' hb).alloc o).cell 0; simp only [List.getElem?_toArray, List.getElem?_cons_zero] at c0; have H1 := Lib.hid (bb (B1 w _) hb); clear hb) | (go_at_call 296; refine (S.out _ (H1.out.alloc H1.out.size _)).mono ?_; rintro e w2 ⟨rfl, hb⟩; have H2 := Lib.hid (bb (H1.out.alloc H1.out.size _) hb); clear hb))
    go_ret
    exact ⟨ret_bool (by rw [HV.out]; rfl), H2.out⟩
  | false =>
    go_enter Tryz.func262, Tryz.ntmps262
    go_wp2_with (go_at_call 293; refine (T.out _).mono ?_; rintro e w1 ⟨rfl, hb⟩; have H1 := Lib.hid (bb (B1 w _) hb); clear hb)
    go_ret
    exact ⟨ret_bool (by rw [HV.out]; rfl), H1.out.alloc H1.out.size _⟩
set_option maxRecDepth 100000 in
set_option maxHeartbeats 1000000 in
theorem right_62 (x : Nd) (r : Int) (b : Nat) (w : World) (hx : Nd.At w x) (hi : Nd.In x) (hT : Takers w b) (hf : find x.kind tks = some (294 : Nat)) :
    Calls Tryz.prog 262 #[x.val, .int .i64 r, .map (some b)] w fun e w' => e = .returned (.bool (nodeOk x r)) ∧ Below w.heap.size w w' := by
  have hl := (look (hT.below (B1 w (.cells #[.int .i64 x.kind, .int .u64 x.c0, .int .u64 x.c1, .int .u64 x.c2, .int .u64 x.c3, .string x.text, .int .i64 x.rule, .int .i64 x.level, .slice x.A x.kids.length x.cap] 287))) x.kind hi.kind).1 294 hf
  have T := Lib.hid (fun w => taker_any 294 x r (by omega) hx.2.2 hi.text w)
  have HV := Lib.hid (nodeOk_of (r := r) hf)
  have S := Lib.hid (fun (w' : World) (h : Below w.heap.size w w') => same_any (tk 294 x r).1 (bare x.kind) w' (tk_at 294 (hx.below h)) (bare_at _ _))
  generalize tk 294 x r = y at T HV S
  obtain ⟨y, yb⟩ := y
  dsimp only at T HV S
  generalize sameNd y (bare x.kind) = sb at HV S
  unfold bare at S
  clear hx hi hT hf
  cases yb with
  | true =>
    go_enter Tryz.func262, Tryz.ntmps262
    go_wp2_with (first | (go_at_call 294; refine (T.out _).mono ?_; rintro e w1 ⟨rfl, hb⟩; have c0 := fun o => (((Blk.new w _ _).below' hb).alloc o).cell 0; simp only [List.getElem?_toArray, List.getElem?_cons_zero] at c0; have H1 := Lib.hid (bb (B1 w _) hb); clear hb) | (go_at_call 296; refine (S.out _ (H1.out.alloc H1.out.size _)).mono ?_; rintro e w2 ⟨rfl, hb⟩; have H2 := Lib.hid (bb (H1.out.alloc H1.out.size _) hb); clear hb))
    go_ret
    exact ⟨ret_bool (by rw [HV.out]; rfl), H2.out⟩
  | false =>
    go_enter Tryz.func262, Tryz.ntmps262
    go_wp2_with (go_at_call 294; refine (T.out _).mono ?_; rintro e w1 ⟨rfl, hb⟩; have H1 := Lib.hid (bb (B1 w _) hb); clear hb)
    go_ret
    exact ⟨ret_bool (by rw [HV.out]; rfl), H1.out.alloc H1.out.size _⟩
set_option maxRecDepth 100000 in
set_option maxHeartbeats 1000000 in
theorem right_63 (x : Nd) (r : Int) (b : Nat) (w : World) (hx : Nd.At w x) (hi : Nd.In x) (hT : Takers w b) (hf : find x.kind tks = some (295 : Nat)) :
    Calls Tryz.prog 262 #[x.val, .int .i64 r, .map (some b)] w fun e w' => e = .returned (.bool (nodeOk x r)) ∧ Below w.heap.size w w' := by
  have hl := (look (hT.below (B1 w (.cells #[.int .i64 x.kind, .int .u64 x.c0, .int .u64 x.c1, .int .u64 x.c2, .int .u64 x.c3, .string x.text, .int .i64 x.rule, .int .i64 x.level, .slice x.A x.kids.length x.cap] 287))) x.kind hi.kind).1 295 hf
  have T := Lib.hid (fun w => taker_any 295 x r (by omega) hx.2.2 hi.text w)
  have HV := Lib.hid (nodeOk_of (r := r) hf)
  have S := Lib.hid (fun (w' : World) (h : Below w.heap.size w w') => same_any (tk 295 x r).1 (bare x.kind) w' (tk_at 295 (hx.below h)) (bare_at _ _))
  generalize tk 295 x r = y at T HV S
  obtain ⟨y, yb⟩ := y
  dsimp only at T HV S
  generalize sameNd y (bare x.kind) = sb at HV S
  unfold bare at S
  clear hx hi hT hf
  cases yb with
  | true =>
    go_enter Tryz.func262, Tryz.ntmps262
    go_wp2_with (first | (go_at_call 295; refine (T.out _).mono ?_; rintro e w1 ⟨rfl, hb⟩; have c0 := fun o => (((Blk.new w _ _).below' hb).alloc o).cell 0; simp only [List.getElem?_toArray, List.getElem?_cons_zero] at c0; have H1 := Lib.hid (bb (B1 w _) hb); clear hb) | (go_at_call 296; refine (S.out _ (H1.out.alloc H1.out.size _)).mono ?_; rintro e w2 ⟨rfl, hb⟩; have H2 := Lib.hid (bb (H1.out.alloc H1.out.size _) hb); clear hb))
    go_ret
    exact ⟨ret_bool (by rw [HV.out]; rfl), H2.out⟩
  | false =>
    go_enter Tryz.func262, Tryz.ntmps262
    go_wp2_with (go_at_call 295; refine (T.out _).mono ?_; rintro e w1 ⟨rfl, hb⟩; have H1 := Lib.hid (bb (B1 w _) hb); clear hb)
    go_ret
    exact ⟨ret_bool (by rw [HV.out]; rfl), H1.out.alloc H1.out.size _⟩
theorem find_mem (c f : Int) : ∀ l : List (Int × Int), find c l = some f → f ∈ l.map (fun p => p.2)
  | [], h => by cases h
  | p :: l, h => by
    rw [find] at h
    split at h
    · cases h; simp
    · exact List.mem_cons_of_mem _ (find_mem c f l h)
theorem find_cases (c : Int) : find c tks = none ∨ ∃ n : Nat, 290 ≤ n ∧ n ≤ 295 ∧ find c tks = some (n : Int) := by
  cases h : find c tks with
  | none => exact .inl rfl
  | some f =>
    have := find_mem c f tks h
    simp [tks] at this
    exact .inr ⟨f.toNat, by omega, by omega, by rw [show ((f.toNat : Nat) : Int) = f by omega]⟩
theorem right_any (x : Nd) (r : Int) (b : Nat) (w : World) (hx : Nd.At w x) (hi : Nd.In x) (hT : Takers w b) :
    Calls Tryz.prog 262 #[x.val, .int .i64 r, .map (some b)] w fun e w' => e = .returned (.bool (nodeOk x r)) ∧ Below w.heap.size w w' := by
  rcases find_cases x.kind with h | ⟨n, h1, h2, h⟩
  · exact right_none x r b w hi hT h
  · obtain rfl | rfl | rfl | rfl | rfl | rfl : n = 290 ∨ n = 291 ∨ n = 292 ∨ n = 293 ∨ n = 294 ∨ n = 295 := by omega
    · exact right_58 x r b w hx hi hT h
    · exact right_59 x r b w hx hi hT h
    · exact right_60 x r b w hx hi hT h
    · exact right_61 x r b w hx hi hT h
    · exact right_62 x r b w hx hi hT h
    · exact right_63 x r b w hx hi hT h
end Go.Proofs.YtlbjmkljmhfjdaaGreat

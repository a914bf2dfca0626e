/- Classes, rules compared; what each Kind's taker takes. -/
import Derived.Test.YtlbjmkljmhfjdaaGreatA1
set_option linter.unusedSimpArgs false
set_option linter.unusedVariables false
namespace Go.Proofs.YtlbjmkljmhfjdaaGreat
open Go Go.RowKit
@[go_sem] theorem eq29 (a b c d a' b' c' d' : Int) (w : World) : (Op.equalIn 10000 37 (.agg #[.int .u64 a, .int .u64 b, .int .u64 c, .int .u64 d]) (.agg #[.int .u64 a', .int .u64 b', .int .u64 c', .int .u64 d'])).run Tryz.prog w = .ok (a == a' && b == b' && c == c' && d == d') w := by
  have u3 := Tryz.underlying35
  have a3 := Tryz.isAgg35
  have z3 := Tryz.sizeOf35
  rw [show (10000 : Nat) = 9999 + 1 from rfl, Op.equalIn]
  simp only [Sem.run_bind, run_underlying Tryz.underlying37, Result.andThen_ok]
  simp only [Std.Legacy.Range.forIn_eq_forIn_range', Std.Legacy.Range.size, Nat.sub_zero, Nat.add_sub_cancel, Nat.div_one, List.range'_succ, List.range'_zero, List.forIn_cons, List.forIn_nil]
  go_simp
  by_cases h1 : a = a' <;> by_cases h2 : b = b' <;> by_cases h3 : c = c' <;> by_cases h4 : d = d' <;> simp [h1, h2, h3, h4]
theorem equal_int (a b : Int) (w : World) : Calls Tryz.prog 307 #[.int .i64 a, .int .i64 b] w fun e w' => e = .returned (.bool (a == b)) ∧ w = w' := by
  go_enter Tryz.func307, Tryz.ntmps307
  go_wp2_with fail
  all_goals go_ret
  all_goals exact ⟨rfl, rfl⟩
/-- A node less what its Kind names. -/
theorem nothing_any (x : Nd) (r : Int) (w : World) : Calls Tryz.prog 290 #[x.val, .int .i64 r] w fun e w' => e = .returned (.tuple #[x.val, .bool true]) ∧ Below w.heap.size w w' := by
  go_enter Tryz.func290, Tryz.ntmps290
  go_wp2_with fail
  exact bodyPost_ret (v := .tuple #[x.val, .bool true]) (by simp [results, Tryz.results290, go_sem]) rfl ⟨rfl, B2 _ _ _⟩
def noCls (x : Nd) : Bool := x.c0 == 0 && x.c1 == 0 && x.c2 == 0 && x.c3 == 0
theorem set_any (x : Nd) (r : Int) (w : World) : Calls Tryz.prog 291 #[x.val, .int .i64 r] w fun e w' => e = .returned (.tuple #[{ x with c0 := 0, c1 := 0, c2 := 0, c3 := 0 : Nd }.val, .bool (!noCls x)]) ∧ Below w.heap.size w w' := by
  go_enter Tryz.func291, Tryz.ntmps291
  go_wp2_with fail
  exact bodyPost_ret (v := .tuple #[{ x with c0 := 0, c1 := 0, c2 := 0, c3 := 0 : Nd }.val, .bool (!noCls x)]) (by simp [results, Tryz.results291, go_sem, noCls]) rfl ⟨rfl, B2 _ _ _⟩
theorem text_any (x : Nd) (r : Int) (hs : x.text.size ≤ 9223372036854775807) (w : World) : Calls Tryz.prog 292 #[x.val, .int .i64 r] w fun e w' => e = .returned (.tuple #[{ x with text := { data := #[] } : Nd }.val, .bool (decide (1 ≤ (x.text.size : Int) ∧ (x.text.size : Int) ≤ 64))]) ∧ Below w.heap.size w w' := by
  go_enter Tryz.func292, Tryz.ntmps292
  go_wp2_with (go_at_call 233; refine (within_any _ _ _ _).mono ?_; rintro e w1 ⟨rfl, rfl⟩)
  exact bodyPost_ret (v := .tuple #[{ x with text := { data := #[] } : Nd }.val, .bool (decide (1 ≤ (x.text.size : Int) ∧ (x.text.size : Int) ≤ 64))]) (by simp [results, Tryz.results292, go_sem]) rfl ⟨rfl, B2 _ _ _⟩
def callOk (x : Nd) (r : Int) : Bool := decide (0 ≤ x.rule ∧ x.rule < r ∧ 0 ≤ x.level ∧ x.level ≤ 99)
theorem call_any (x : Nd) (r : Int) (w : World) : Calls Tryz.prog 293 #[x.val, .int .i64 r] w fun e w' => e = .returned (.tuple #[{ x with rule := 0, level := 0 : Nd }.val, .bool (callOk x r)]) ∧ Below w.heap.size w w' := by
  go_enter Tryz.func293, Tryz.ntmps293
  go_wp2_with (go_at_call 233; refine (within_any _ _ _ _).mono ?_; rintro e w1 ⟨rfl, rfl⟩)
  all_goals exact bodyPost_ret (v := .tuple #[{ x with rule := 0, level := 0 : Nd }.val, .bool (callOk x r)]) (by simp [results, Tryz.results293, go_sem]; unfold callOk; rw [Bool.eq_iff_iff]; simp; omega) rfl ⟨rfl, B2 _ _ _⟩
theorem kids_any (x : Nd) (a b : Int) (hk : x.kids.length ≤ 140737488351232) (w : World) : Calls Tryz.prog 305 #[x.val, .int .i64 a, .int .i64 b] w fun e w' => e = .returned (.tuple #[{ x with A := none, cap := 0, kids := [] : Nd }.val, .bool (decide (a ≤ (x.kids.length : Int) ∧ (x.kids.length : Int) ≤ b))]) ∧ Below w.heap.size w w' := by
  go_enter Tryz.func305, Tryz.ntmps305
  go_wp2_with (go_at_call 233; refine (within_any _ _ _ _).mono ?_; rintro e w1 ⟨rfl, rfl⟩)
  exact bodyPost_ret (v := .tuple #[{ x with A := none, cap := 0, kids := [] : Nd }.val, .bool (decide (a ≤ (x.kids.length : Int) ∧ (x.kids.length : Int) ≤ b))]) (by simp [results, Tryz.results305, go_sem]) rfl ⟨rfl, B2 _ _ _⟩
theorem Blk.setRow {w : World} {b : Nat} {vs cs : Array Value} {T : TypeId} (h : Blk w b vs T) : Blk (w.setRow b cs) b cs T := setRow_heap w b vs cs T (0, 0) h
theorem bset {B b : Nat} {w0 w : World} {cs : Array Value} (h : Below B w0 w) (hb : B ≤ b) : Below B w0 (w.setRow b cs) :=
  ⟨h.os, h.tape, h.output, by simpa [World.setRow] using h.size, fun k hk => (setRow_other w b k cs (by omega)).trans (h.block k hk)⟩
theorem results_cell_tmp {P : Program} {fn : Func} {p q : Tmp} {ty : TypeId} (h : fn.results = #[.cell p ty, .tmp q]) (tmps : Array Value) (w : World) (g : Nat) (t : TypeId) (cs : Array Value) (d : TypeDesc) (v : Value) (hq : tmps.getD q undef = v)
    (hp : tmps.getD p undef = .pointer (some ⟨g, 0, none⟩)) (hg : Blk w g cs t) (hu : P.underlying ty = some d) (hd : (match d with | .struct _ | .array _ _ => true | _ => false) = true) (hi : (P.info? ty).map (·.size) = some cs.size) :
    (results fn tmps).run P w = .ok (.tuple #[.agg cs, v]) w := by
  have hp' : tmps[p]?.getD undef = .pointer (some ⟨g, 0, none⟩) := by simpa using hp
  have hq' : tmps[q]?.getD undef = v := by simpa using hq
  simp [results, h, hp', hq', asAddr, run_loadVar_row w g t ty cs (0, 0) d hg hu hd hi]
abbrev Nd.less (x : Nd) : Nd := { x with A := none, cap := 0, kids := [] }
abbrev kidsOk (x : Nd) (a b : Int) : Bool := decide (a ≤ (x.kids.length : Int) ∧ (x.kids.length : Int) ≤ b)
theorem several_any (x : Nd) (r : Int) (hk : x.kids.length ≤ 140737488351232) (w : World) : Calls Tryz.prog 294 #[x.val, .int .i64 r] w fun e w' => e = .returned (.tuple #[x.less.val, .bool (kidsOk x 2 64)]) ∧ Below w.heap.size w w' := by
  have K := Lib.hid (fun w => kids_any x 2 64 hk w)
  clear hk
  obtain ⟨bo, ebo⟩ : ∃ bo, bo = decide (2 ≤ (x.kids.length : Int) ∧ (x.kids.length : Int) ≤ 64) := ⟨_, rfl⟩
  rw [← ebo] at K
  unfold kidsOk
  rw [← ebo]
  clear ebo
  go_enter Tryz.func294, Tryz.ntmps294
  go_wp2_with (first | (go_at_call 305; refine (K.out _).mono ?_; rintro e w1 ⟨rfl, hb⟩; have HB := Lib.hid ((B2 w _ _).trans (hb.mono (by simp; omega))); have HK := Lib.hid (by have := (Blk.new (w.alloc _) _ _).below' hb; rw [World.size_alloc] at this; exact this); clear hb) | (refine wpList_store_row rfl 287 (.tmp 4) (.tmp 8) rfl (w.heap.size + 1) _ rfl rfl 287 _ HK.out (by kernel_rfl) (by rfl) (by simp [Value.oneCell']) ?_))
  exact bodyPost_ret (results_cell_tmp rfl _ _ (w.heap.size + 1) 287 _ _ _ rfl rfl HK.out.setRow Tryz.underlying287 rfl (by kernel_rfl)) rfl ⟨rfl, bset HB.out (by omega)⟩
theorem single_any (x : Nd) (r : Int) (hk : x.kids.length ≤ 140737488351232) (w : World) : Calls Tryz.prog 295 #[x.val, .int .i64 r] w fun e w' => e = .returned (.tuple #[x.less.val, .bool (kidsOk x 1 1)]) ∧ Below w.heap.size w w' := by
  have K := Lib.hid (fun w => kids_any x 1 1 hk w)
  clear hk
  obtain ⟨bo, ebo⟩ : ∃ bo, bo = decide (1 ≤ (x.kids.length : Int) ∧ (x.kids.length : Int) ≤ 1) := ⟨_, rfl⟩
  rw [← ebo] at K
  unfold kidsOk
  rw [← ebo]
  clear ebo
  go_enter Tryz.func295, Tryz.ntmps295
  go_wp2_with (first | (go_at_call 305; refine (K.out _).mono ?_; rintro e w1 ⟨rfl, hb⟩; have HB := Lib.hid ((B2 w _ _).trans (hb.mono (by simp; omega))); have HK := Lib.hid (by have := (Blk.new (w.alloc _) _ _).below' hb; rw [World.size_alloc] at this; exact this); clear hb) | (refine wpList_store_row rfl 287 (.tmp 4) (.tmp 8) rfl (w.heap.size + 1) _ rfl rfl 287 _ HK.out (by kernel_rfl) (by rfl) (by simp [Value.oneCell']) ?_))
  exact bodyPost_ret (results_cell_tmp rfl _ _ (w.heap.size + 1) 287 _ _ _ rfl rfl HK.out.setRow Tryz.underlying287 rfl (by kernel_rfl)) rfl ⟨rfl, bset HB.out (by omega)⟩
end Go.Proofs.YtlbjmkljmhfjdaaGreat

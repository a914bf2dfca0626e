/- Classes, rules compared; what each Kind's taker takes. -/
import Derived.Test.YtfdfcagkfnckmaaWb
namespace Go.Proofs.Ytfdfcagkfnckmaa
open Go Go.RowKit
@[go_sem] theorem eq29 (a b c d a' b' c' d' : Int) (w : World) : (Op.equalIn 10000 29 (.agg #[.int .u64 a, .int .u64 b, .int .u64 c, .int .u64 d]) (.agg #[.int .u64 a', .int .u64 b', .int .u64 c', .int .u64 d'])).run Try.prog w = .ok (a == a' && b == b' && c == c' && d == d') w := by
  have u3 := Try.underlying27
  have a3 := Try.isAgg27
  have z3 := Try.sizeOf27
  rw [show (10000 : Nat) = 9999 + 1 from rfl, Op.equalIn]
  simp only [Sem.run_bind, run_underlying Try.underlying29, Result.andThen_ok]
  simp only [Std.Legacy.Range.forIn_eq_forIn_range', Std.Legacy.Range.size, Nat.sub_zero, Nat.add_sub_cancel, Nat.div_one, List.range'_succ, List.range'_zero, List.forIn_cons, List.forIn_nil]
  go_simp
  by_cases h1 : a = a' <;> by_cases h2 : b = b' <;> by_cases h3 : c = c' <;> by_cases h4 : d = d' <;> simp [h1, h2, h3, h4]
@[go_sem] theorem eq45 (a b : ByteArray) (c d : Int) (w : World) : (Op.equalIn 10000 45 (.agg #[.string a, .int .i64 c]) (.agg #[.string b, .int .i64 d])).run Try.prog w = .ok (decide (a.toList = b.toList) && c == d) w := by
  have u3 := Try.underlying3
  have a3 := Try.isAgg3
  have z3 := Try.sizeOf3
  have u9 := Try.underlying9
  have a9 := Try.isAgg9
  have z9 := Try.sizeOf9
  rw [show (10000 : Nat) = 9999 + 1 from rfl, Op.equalIn]
  simp only [Sem.run_bind, run_underlying Try.underlying45, Result.andThen_ok]
  go_simp
  by_cases h1 : a.toList = b.toList <;> by_cases h2 : c = d <;> simp [h1, h2]
theorem equal_int (a b : Int) (w : World) : Calls Try.prog 76 #[.int .i64 a, .int .i64 b] w fun e w' => e = .returned (.bool (a == b)) ∧ w = w' := by
  go_enter Try.func76, Try.ntmps76
  go_wp2_with fail
  all_goals go_ret
  all_goals exact ⟨rfl, rfl⟩
def Rl.val (r : Rl) : Value := .agg #[.string r.name, .int .i64 r.body]
theorem equal_rule (a b : ByteArray) (c d : Int) (w : World) : Calls Try.prog 49 #[.agg #[.string a, .int .i64 c], .agg #[.string b, .int .i64 d]] w fun e w' => e = .returned (.bool (decide (a = b ∧ c = d))) ∧ Below w.heap.size w w' := by
  go_enter Try.func49, Try.ntmps49
  go_wp2_with fail
  all_goals go_ret
  all_goals exact ⟨ret_bool (by simp only [tl_inj] at *; simp_all), B2 _ _ _⟩
/-- A node less what its Kind names. -/
theorem nothing_any (x : Nd) (r : Int) (w : World) : Calls Try.prog 58 #[x.val, .int .i64 r] w fun e w' => e = .returned (.tuple #[x.val, .bool true]) ∧ Below w.heap.size w w' := by
  go_enter Try.func58, Try.ntmps58
  go_wp2_with fail
  exact bodyPost_ret (v := .tuple #[x.val, .bool true]) (by simp [results, Try.results58, go_sem]) rfl ⟨rfl, B2 _ _ _⟩
def noCls (x : Nd) : Bool := x.c0 == 0 && x.c1 == 0 && x.c2 == 0 && x.c3 == 0
theorem set_any (x : Nd) (r : Int) (w : World) : Calls Try.prog 59 #[x.val, .int .i64 r] w fun e w' => e = .returned (.tuple #[{ x with c0 := 0, c1 := 0, c2 := 0, c3 := 0 : Nd }.val, .bool (!noCls x)]) ∧ Below w.heap.size w w' := by
  go_enter Try.func59, Try.ntmps59
  go_wp2_with fail
  exact bodyPost_ret (v := .tuple #[{ x with c0 := 0, c1 := 0, c2 := 0, c3 := 0 : Nd }.val, .bool (!noCls x)]) (by simp [results, Try.results59, go_sem, noCls]) rfl ⟨rfl, B2 _ _ _⟩
theorem text_any (x : Nd) (r : Int) (hs : x.text.size ≤ 9223372036854775807) (w : World) : Calls Try.prog 60 #[x.val, .int .i64 r] w fun e w' => e = .returned (.tuple #[{ x with text := { data := #[] } : Nd }.val, .bool (decide (1 ≤ (x.text.size : Int) ∧ (x.text.size : Int) ≤ 64))]) ∧ Below w.heap.size w w' := by
  go_enter Try.func60, Try.ntmps60
  go_wp2_with (go_at_call 33; refine (within_any _ _ _ _).mono ?_; rintro e w1 ⟨rfl, rfl⟩)
  exact bodyPost_ret (v := .tuple #[{ x with text := { data := #[] } : Nd }.val, .bool (decide (1 ≤ (x.text.size : Int) ∧ (x.text.size : Int) ≤ 64))]) (by simp [results, Try.results60, go_sem]) rfl ⟨rfl, B2 _ _ _⟩
def callOk (x : Nd) (r : Int) : Bool := decide (0 ≤ x.rule ∧ x.rule < r ∧ 0 ≤ x.level ∧ x.level ≤ 99)
theorem call_any (x : Nd) (r : Int) (w : World) : Calls Try.prog 61 #[x.val, .int .i64 r] w fun e w' => e = .returned (.tuple #[{ x with rule := 0, level := 0 : Nd }.val, .bool (callOk x r)]) ∧ Below w.heap.size w w' := by
  go_enter Try.func61, Try.ntmps61
  go_wp2_with (go_at_call 33; refine (within_any _ _ _ _).mono ?_; rintro e w1 ⟨rfl, rfl⟩)
  all_goals exact bodyPost_ret (v := .tuple #[{ x with rule := 0, level := 0 : Nd }.val, .bool (callOk x r)]) (by simp [results, Try.results61, go_sem]; unfold callOk; rw [Bool.eq_iff_iff]; simp; omega) rfl ⟨rfl, B2 _ _ _⟩
theorem kids_any (x : Nd) (a b : Int) (hk : x.kids.length ≤ 140737488351232) (w : World) : Calls Try.prog 77 #[x.val, .int .i64 a, .int .i64 b] w fun e w' => e = .returned (.tuple #[{ x with A := none, cap := 0, kids := [] : Nd }.val, .bool (decide (a ≤ (x.kids.length : Int) ∧ (x.kids.length : Int) ≤ b))]) ∧ Below w.heap.size w w' := by
  go_enter Try.func77, Try.ntmps77
  go_wp2_with (go_at_call 33; refine (within_any _ _ _ _).mono ?_; rintro e w1 ⟨rfl, rfl⟩)
  exact bodyPost_ret (v := .tuple #[{ x with A := none, cap := 0, kids := [] : Nd }.val, .bool (decide (a ≤ (x.kids.length : Int) ∧ (x.kids.length : Int) ≤ b))]) (by simp [results, Try.results77, go_sem]) rfl ⟨rfl, B2 _ _ _⟩
theorem Blk.setRow {w : World} {b : Nat} {vs cs : Array Value} {T : TypeId} (h : Blk w b vs T) : Blk (w.setRow b cs) b cs T := setRow_heap w b vs cs T (0, 0) h
theorem bset {B b : Nat} {w0 w : World} {cs : Array Value} (h : Below B w0 w) (hb : B ≤ b) : Below B w0 (w.setRow b cs) :=
  ⟨h.os, h.tape, h.output, by simpa [World.setRow] using h.size, fun k hk => (setRow_other w b k cs (by omega)).trans (h.block k hk)⟩
theorem results_cell_tmp {P : Program} {fn : Func} {p q : Tmp} {ty : TypeId} (h : fn.results = #[.cell p ty, .tmp q]) (tmps : Array Value) (w : World) (g : Nat) (t : TypeId) (cs : Array Value) (d : TypeDesc) (v : Value) (hq : tmps.getD q undef = v)
    (hp : tmps.getD p undef = .pointer (some ⟨g, 0, none⟩)) (hg : Blk w g cs t) (hu : P.underlying ty = some d) (hd : (match d with | .struct _ | .array _ _ => true | _ => false) = true) (hi : (P.info? ty).map (·.size) = some cs.size) :
    (results fn tmps).run P w = .ok (.tuple #[.agg cs, v]) w := by
  have hp' : tmps[p]?.getD undef = .pointer (some ⟨g, 0, none⟩) := by simpa using hp
  have hq' : tmps[q]?.getD undef = v := by simpa using hq
  simp [results, h, hp', hq', asAddr, run_loadVar_row w g t ty cs (0, 0) d hg hu hd hi]
abbrev Nd.less (x : Nd) : Nd := { x with A := none, cap := 0, kids := [] }
abbrev kidsOk (x : Nd) (a b : Int) : Bool := decide (a ≤ (x.kids.length : Int) ∧ (x.kids.length : Int) ≤ b)
theorem several_any (x : Nd) (r : Int) (hk : x.kids.length ≤ 140737488351232) (w : World) : Calls Try.prog 62 #[x.val, .int .i64 r] w fun e w' => e = .returned (.tuple #[x.less.val, .bool (kidsOk x 2 64)]) ∧ Below w.heap.size w w' := by
  have K := Lib.hid (fun w => kids_any x 2 64 hk w)
  clear hk
  obtain ⟨bo, ebo⟩ : ∃ bo, bo = decide (2 ≤ (x.kids.length : Int) ∧ (x.kids.length : Int) ≤ 64) := ⟨_, rfl⟩
  rw [← ebo] at K
  unfold kidsOk
  rw [← ebo]
  clear ebo
  go_enter Try.func62, Try.ntmps62
  go_wp2_with (first | (go_at_call 77; refine (K.out _).mono ?_; rintro e w1 ⟨rfl, hb⟩; have HB := Lib.hid ((B2 w _ _).trans (hb.mono (by simp; omega))); have HK := Lib.hid (by have := (Blk.new (w.alloc _) _ _).below' hb; rw [World.size_alloc] at this; exact this); clear hb) | (refine wpList_store_row rfl 60 (.tmp 4) (.tmp 8) rfl (w.heap.size + 1) _ rfl rfl 60 _ HK.out (by kernel_rfl) (by rfl) (by simp [Value.oneCell']) ?_))
  exact bodyPost_ret (results_cell_tmp rfl _ _ (w.heap.size + 1) 60 _ _ _ rfl rfl HK.out.setRow Try.underlying60 rfl (by kernel_rfl)) rfl ⟨rfl, bset HB.out (by omega)⟩
theorem single_any (x : Nd) (r : Int) (hk : x.kids.length ≤ 140737488351232) (w : World) : Calls Try.prog 63 #[x.val, .int .i64 r] w fun e w' => e = .returned (.tuple #[x.less.val, .bool (kidsOk x 1 1)]) ∧ Below w.heap.size w w' := by
  have K := Lib.hid (fun w => kids_any x 1 1 hk w)
  clear hk
  obtain ⟨bo, ebo⟩ : ∃ bo, bo = decide (1 ≤ (x.kids.length : Int) ∧ (x.kids.length : Int) ≤ 1) := ⟨_, rfl⟩
  rw [← ebo] at K
  unfold kidsOk
  rw [← ebo]
  clear ebo
  go_enter Try.func63, Try.ntmps63
  go_wp2_with (first | (go_at_call 77; refine (K.out _).mono ?_; rintro e w1 ⟨rfl, hb⟩; have HB := Lib.hid ((B2 w _ _).trans (hb.mono (by simp; omega))); have HK := Lib.hid (by have := (Blk.new (w.alloc _) _ _).below' hb; rw [World.size_alloc] at this; exact this); clear hb) | (refine wpList_store_row rfl 60 (.tmp 4) (.tmp 8) rfl (w.heap.size + 1) _ rfl rfl 60 _ HK.out (by kernel_rfl) (by rfl) (by simp [Value.oneCell']) ?_))
  exact bodyPost_ret (results_cell_tmp rfl _ _ (w.heap.size + 1) 60 _ _ _ rfl rfl HK.out.setRow Try.underlying60 rfl (by kernel_rfl)) rfl ⟨rfl, bset HB.out (by omega)⟩
end Go.Proofs.Ytfdfcagkfnckmaa

/- Helpers: worlds, blocks, rows of values. -/
import Derived.Test.YtjelgmdjmjnnfaaRows
import Derived.WalkKit
import Derived.WalkSpells
import Derived.Lib.Hide
import Derived.Deep.QuietTactic
import Derived.BigQuiet
import Derived.Deep.Draws
import Derived.Deep.RegionWith
import Derived.Outline
import Derived.IntWalk
import Derived.OwnWalk
import Derived.Laws.OwnMore
import Derived.Laws.Rows
import Derived.Laws.AppendOwnNone
import Derived.Laws.MakeOwn
import Derived.WideShapes
import Derived.Below
set_option linter.unusedSimpArgs false
set_option linter.unusedVariables false
namespace Go.Proofs.Ytjelgmdjmjnnfaa
open Go Go.RowKit

theorem bt {B : Nat} {a b c : World} (h : Below B a b) (h' : Below b.heap.size b c) (hB : B ≤ b.heap.size) : Below B a c := h.trans (h'.mono hB)
theorem bb {a b c : World} (h : Below a.heap.size a b) (h' : Below b.heap.size b c) : Below a.heap.size a c := h.trans (h'.mono h.size)
theorem bdrew {B n : Nat} {a w : World} (h : Below B a w) : Below B a (w.drewN n) := ⟨h.os, h.tape, h.output, h.size, h.block⟩
theorem bdrew1 {B : Nat} {a w : World} (h : Below B a w) : Below B a w.drew := ⟨h.os, h.tape, h.output, h.size, h.block⟩
/-- Block b is whole, and reads vs. -/
def Blk (w : World) (b : Nat) (vs : Array Value) (T : TypeId) : Prop := w.heap[b]? = some (.cells vs T (0, 0))
theorem Blk.lt {w : World} {b : Nat} {vs : Array Value} {T : TypeId} (h : Blk w b vs T) : b < w.heap.size := (Array.getElem?_eq_some_iff.1 h).1
theorem Blk.cell {w : World} {b : Nat} {vs : Array Value} {T : TypeId} (h : Blk w b vs T) (j : Nat) : w.cell? ⟨b, j, none⟩ = vs[j]? := by simp [World.cell?, show w.heap[b]? = _ from h]
theorem Blk.frozen {w : World} {b : Nat} {vs : Array Value} {T : TypeId} (h : Blk w b vs T) (j : Nat) : w.frozen? ⟨b, j, none⟩ = false := by simp [World.frozen?, show w.heap[b]? = _ from h]
theorem Blk.below {w w' : World} {b B : Nat} {vs : Array Value} {T : TypeId} (h : Blk w b vs T) (hb : Below B w w') (hl : b < B) : Blk w' b vs T := (hb.block b hl).trans h
theorem Blk.below' {w w' : World} {b : Nat} {vs : Array Value} {T : TypeId} (h : Blk w b vs T) (hb : Below w.heap.size w w') : Blk w' b vs T := h.below hb h.lt
theorem Blk.alloc {w : World} {b : Nat} {vs : Array Value} {T : TypeId} (h : Blk w b vs T) (o : Obj) : Blk (w.alloc o) b vs T := (Below.heap_alloc w o b h.lt).trans h
theorem Blk.new (w : World) (vs : Array Value) (T : TypeId) : Blk (w.alloc (.cells vs T)) w.heap.size vs T := heap_alloc_new w _
theorem Blk.drewN {w : World} {b n : Nat} {vs : Array Value} {T : TypeId} (h : Blk w b vs T) : Blk (w.drewN n) b vs T := h
theorem ret_int {k : IntKind} {a b : Int} (h : a = b) : Ending.returned (.int k a) = .returned (.int k b) := by rw [h]
theorem ret_bool {a b : Bool} (h : a = b) : Ending.returned (.bool a) = .returned (.bool b) := by rw [h]
abbrev B1 (w : World) (o : Obj) : Below w.heap.size w (w.alloc o) := (Below.refl _ _).alloc (Nat.le_refl _) o
theorem B2 (w : World) (o p : Obj) : Below w.heap.size w ((w.alloc o).alloc p) := (B1 w o).alloc (by simp) p
theorem drewN_two (w : World) (n m : Nat) : (w.drewN n).drewN m = w.drewN (n + m) := by simp [World.drewN, Nat.add_assoc]

theorem q_left {P : Program} {f : FuncId} {args : Array Value} {w : World} {n : Nat} {v : Value}
    (h : Calls P f args (w.drewN n) fun e w' => e = .returned v ∧ w.drewN n = w') : Calls P f args (w.drewN n) fun e w'' => e = .returned v ∧ ∃ m, w'' = w.drewN m :=
  h.mono fun _ _ ⟨he, hm⟩ => ⟨he, n, hm.symm⟩
theorem q_drew {P : Program} {f : FuncId} {args : Array Value} {w : World} {n : Nat} {v : Value}
    (h : Calls P f args (w.drewN n) fun e w' => e = .returned v ∧ ∃ k, w' = (w.drewN n).drewN k) : Calls P f args (w.drewN n) fun e w'' => e = .returned v ∧ ∃ m, w'' = w.drewN m :=
  h.mono fun _ _ ⟨he, k, hm⟩ => ⟨he, n + k, by rw [hm, drewN_two]⟩

/-- Values in memory, one behind the other, one cell each. -/
def Lies (w : World) (A : Option Addr) (l : List Value) : Prop :=
  0 < l.length → ∃ b o, A = some ⟨b, o, none⟩ ∧ b < w.heap.size ∧ ∀ i, i < l.length → w.cell? ⟨b, o + i, none⟩ = l[i]?
theorem Lies.below {w w' : World} {A : Option Addr} {l : List Value} (h : Lies w A l) (hb : Below w.heap.size w w') : Lies w' A l := by
  intro h0
  obtain ⟨b, o, e, hl, hc⟩ := h h0
  exact ⟨b, o, e, Nat.lt_of_lt_of_le hl hb.size, fun i hi => (hb.cell (p := ⟨b, o + i, none⟩) hl).trans (hc i hi)⟩
theorem Lies.drewN {w : World} {A : Option Addr} {l : List Value} {n : Nat} (h : Lies w A l) : Lies (w.drewN n) A l := h

/-- What a row of the call's own is: none, or a slice. -/
theorem own_slice {w : World} {base n : Nat} {e size : Nat} {v : Value} {xs : List Value} (h : w.ownsRow base e size v n xs) : ∃ A c, v = .slice A n c ∧ (A = none → n = 0 ∧ c = 0) ∧ n ≤ c := by
  rcases h.2 with ⟨rfl, rfl⟩ | ⟨g, cap, cur, rfl, hb, hh, h1, h2, _⟩
  · exact ⟨none, 0, rfl, fun _ => ⟨rfl, rfl⟩, Nat.le_refl _⟩
  · exact ⟨_, cap, rfl, fun h => (by cases h), h1⟩
theorem own_shape {w : World} {base e size n : Nat} {v : Value} {xs : List Value} (h : w.ownsRow base e size v n xs) (h0 : 0 < n) : ∃ g cap, v = .slice (some ⟨g, 0, none⟩) n cap ∧ base ≤ g ∧ n ≤ cap ∧ cap ≤ maxLen ∧ g < w.heap.size := by
  rcases h.2 with ⟨_, hn⟩ | ⟨g, cap, cur, rfl, hb, hh, h1, h2, _⟩
  · omega
  · exact ⟨g, cap, rfl, hb, h1, h2, (Array.getElem?_eq_some_iff.1 hh).1⟩
theorem own_lies {w : World} {base e : Nat} {A : Option Addr} {c : Nat} {xs : List Value} (h : w.ownsRow base e 1 (.slice A xs.length c) xs.length xs) : Lies w A xs := by
  intro h0
  obtain ⟨g, cap, e, _, _, _, hg⟩ := own_shape h h0
  cases e
  refine ⟨g, 0, rfl, hg, fun i hi => ?_⟩
  rw [Nat.zero_add, h.cellAt i (by omega)]
theorem own_kept {w w' : World} {base e size n : Nat} {v : Value} {xs : List Value} (h : w.ownsRow base e size v n xs) (hk : ∀ k, v.ownBlock = some k → w'.heap[k]? = w.heap[k]?) : w'.ownsRow base e size v n xs := by
  refine ⟨h.1, ?_⟩
  rcases h.2 with hn | ⟨g, cap, cur, rfl, hb, hg, rest⟩
  · exact .inl hn
  · exact .inr ⟨g, cap, cur, rfl, hb, (hk g rfl).trans hg, rest⟩
theorem own_ne {w : World} {base e size n b : Nat} {v : Value} {xs : List Value} {vs : Array Value} {T : TypeId} (h : w.ownsRow base e size v n xs) (hb : Blk w b vs T) (hT : T ≠ e) : v.ownBlock ≠ some b := by
  rcases h.2 with ⟨rfl, _⟩ | ⟨g, cap, cur, rfl, _, hg, _⟩
  · simp [Value.ownBlock]
  · simp only [Value.ownBlock, ne_eq, Option.some.injEq]
    rintro rfl
    rw [show w.heap[g]? = _ from hb] at hg
    cases hg
    exact hT rfl

end Go.Proofs.Ytjelgmdjmjnnfaa
namespace Go.Proofs.Ytjelgmdjmjnnfaa
open Go Go.RowKit
def ints (l : List Int) : List Value := l.map (Value.int .i64)
theorem ints_length (l : List Int) : (ints l).length = l.length := by simp [ints]
theorem ints_one (l : List Int) : ∀ u ∈ ints l, u.oneCell' = true := by
  intro u hu
  obtain ⟨x, _, rfl⟩ := List.mem_map.1 hu
  rfl
theorem ints_at {l : List Int} {k : Nat} (h : k < l.length) : (ints l)[k]? = some (.int .i64 (l.getD k 0)) := by
  simp [ints, List.getElem?_map, List.getElem?_eq_getElem h, List.getD]
theorem lies_cell {w : World} {A : Option Addr} {l : List Int} (h : Lies w A (ints l)) {k : Nat} (hk : k < l.length) : ∃ b o, A = some ⟨b, o, none⟩ ∧ b < w.heap.size ∧ w.cell? ⟨b, o + k, none⟩ = some (.int .i64 (l.getD k 0)) := by
  obtain ⟨b, o, e, hb, hc⟩ := h (by rw [ints_length]; omega)
  exact ⟨b, o, e, hb, (hc k (by rw [ints_length]; exact hk)).trans (ints_at hk)⟩
/-- A node: its Kind, its class in four words, its text, rule and level; where its kids lie, their room, they themselves. -/
structure Nd where
  kind : Int
  c0 : Int
  c1 : Int
  c2 : Int
  c3 : Int
  text : ByteArray
  rule : Int
  level : Int
  A : Option Addr
  cap : Nat
  kids : List Int
def Nd.zero : Nd := ⟨0, 0, 0, 0, 0, ByteArray.empty, 0, 0, none, 0, []⟩
instance : Inhabited Nd := ⟨Nd.zero⟩
def Nd.cells (x : Nd) : List Value := [.int .i64 x.kind, .int .u64 x.c0, .int .u64 x.c1, .int .u64 x.c2, .int .u64 x.c3, .string x.text, .int .i64 x.rule, .int .i64 x.level, .slice x.A x.kids.length x.cap]
abbrev Nd.val (x : Nd) : Value := .agg #[.int .i64 x.kind, .int .u64 x.c0, .int .u64 x.c1, .int .u64 x.c2, .int .u64 x.c3, .string x.text, .int .i64 x.rule, .int .i64 x.level, .slice x.A x.kids.length x.cap]
/-- A node whose kids lie in memory. -/
def Nd.At (w : World) (x : Nd) : Prop := Lies w x.A (ints x.kids) ∧ (x.A = none → x.cap = 0) ∧ x.kids.length ≤ 140737488351232
theorem Nd.At.below {w w' : World} {x : Nd} (h : Nd.At w x) (hb : Below w.heap.size w w') : Nd.At w' x := ⟨h.1.below hb, h.2⟩
theorem Nd.At.alloc {w : World} {x : Nd} (h : Nd.At w x) (o : Obj) : Nd.At (w.alloc o) x := h.below (B1 _ _)
structure Rl where
  name : ByteArray
  body : Int
def Rl.zero : Rl := ⟨ByteArray.empty, 0⟩
instance : Inhabited Rl := ⟨Rl.zero⟩
/-- Nodes in memory. -/
def Nodes (w : World) (A : Option Addr) (l : List Nd) : Prop :=
  0 < l.length → ∃ b o, A = some ⟨b, o, none⟩ ∧ b < w.heap.size ∧ ∀ i, i < l.length → ∀ j, j < 9 → w.cell? ⟨b, o + i * 9 + j, none⟩ = (l.getD i Nd.zero).cells[j]?
/-- Rules in memory. -/
def Rules (w : World) (A : Option Addr) (l : List Rl) : Prop :=
  0 < l.length → ∃ b o, A = some ⟨b, o, none⟩ ∧ b < w.heap.size ∧ ∀ i, i < l.length → w.cell? ⟨b, o + i * 2, none⟩ = some (.string (l.getD i Rl.zero).name) ∧ w.cell? ⟨b, o + i * 2 + 1, none⟩ = some (.int .i64 (l.getD i Rl.zero).body)
theorem Nodes.below {w w' : World} {A : Option Addr} {l : List Nd} (h : Nodes w A l) (hb : Below w.heap.size w w') : Nodes w' A l := by
  intro h0
  obtain ⟨b, o, e, hl, hc⟩ := h h0
  exact ⟨b, o, e, Nat.lt_of_lt_of_le hl hb.size, fun i hi j hj => (hb.cell (p := ⟨b, o + i * 9 + j, none⟩) hl).trans (hc i hi j hj)⟩
theorem Rules.below {w w' : World} {A : Option Addr} {l : List Rl} (h : Rules w A l) (hb : Below w.heap.size w w') : Rules w' A l := by
  intro h0
  obtain ⟨b, o, e, hl, hc⟩ := h h0
  exact ⟨b, o, e, Nat.lt_of_lt_of_le hl hb.size, fun i hi => ⟨(hb.cell (p := ⟨b, o + i * 2, none⟩) hl).trans (hc i hi).1, (hb.cell (p := ⟨b, o + i * 2 + 1, none⟩) hl).trans (hc i hi).2⟩⟩
/-- A grammar: where its rules and nodes lie, their rooms, they themselves. -/
structure Gr where
  RA : Option Addr
  rc : Nat
  rules : List Rl
  NA : Option Addr
  nc : Nat
  nodes : List Nd
abbrev Gr.val (g : Gr) : Value := .agg #[.slice g.RA g.rules.length g.rc, .slice g.NA g.nodes.length g.nc]
/-- A grammar that lies in memory. -/
structure Gr.At (w : World) (g : Gr) : Prop where
  rules : Rules w g.RA g.rules
  nodes : Nodes w g.NA g.nodes
  kids : ∀ x ∈ g.nodes, Nd.At w x
  rl : g.rules.length ≤ 140737488351232
  nl : g.nodes.length ≤ 140737488351232
  rn : g.RA = none → g.rc = 0
  nn : g.NA = none → g.nc = 0
  texts : ∀ x ∈ g.nodes, x.text.size ≤ 9223372036854775807
  names : ∀ r ∈ g.rules, r.name.size ≤ 9223372036854775807
theorem Gr.At.below {w w' : World} {g : Gr} (h : Gr.At w g) (hb : Below w.heap.size w w') : Gr.At w' g :=
  ⟨h.rules.below hb, h.nodes.below hb, fun x hx => (h.kids x hx).below hb, h.rl, h.nl, h.rn, h.nn, h.texts, h.names⟩
theorem Gr.At.alloc {w : World} {g : Gr} (h : Gr.At w g) (o : Obj) : Gr.At (w.alloc o) g := h.below (B1 _ _)
theorem Gr.At.node {w : World} {g : Gr} (h : Gr.At w g) {i : Nat} (hi : i < g.nodes.length) : Nd.At w (g.nodes.getD i Nd.zero) := h.kids _ (by simp [List.getD, List.getElem?_eq_getElem hi])
/-- A node's cells. -/
theorem Nodes.nine {w : World} {A : Option Addr} {l : List Nd} (h : Nodes w A l) {i : Nat} (hi : i < l.length) : ∃ b o, A = some ⟨b, o, none⟩ ∧ b < w.heap.size ∧
    w.cell? ⟨b, o + i * 9, none⟩ = some (.int .i64 (l.getD i Nd.zero).kind) ∧ w.cell? ⟨b, o + i * 9 + 1, none⟩ = some (.int .u64 (l.getD i Nd.zero).c0) ∧ w.cell? ⟨b, o + i * 9 + 2, none⟩ = some (.int .u64 (l.getD i Nd.zero).c1) ∧ w.cell? ⟨b, o + i * 9 + 3, none⟩ = some (.int .u64 (l.getD i Nd.zero).c2) ∧
    w.cell? ⟨b, o + i * 9 + 4, none⟩ = some (.int .u64 (l.getD i Nd.zero).c3) ∧ w.cell? ⟨b, o + i * 9 + 5, none⟩ = some (.string (l.getD i Nd.zero).text) ∧ w.cell? ⟨b, o + i * 9 + 6, none⟩ = some (.int .i64 (l.getD i Nd.zero).rule) ∧
    w.cell? ⟨b, o + i * 9 + 7, none⟩ = some (.int .i64 (l.getD i Nd.zero).level) ∧ w.cell? ⟨b, o + i * 9 + 8, none⟩ = some (.slice (l.getD i Nd.zero).A (l.getD i Nd.zero).kids.length (l.getD i Nd.zero).cap) := by
  obtain ⟨b, o, e, hl, hc⟩ := h (by omega)
  have k := hc i hi
  exact ⟨b, o, e, hl, k 0 (by decide), k 1 (by decide), k 2 (by decide), k 3 (by decide), k 4 (by decide), k 5 (by decide), k 6 (by decide), k 7 (by decide), k 8 (by decide)⟩

theorem tl_inj {a b : ByteArray} : a.toList = b.toList ↔ a = b := ⟨fun h => Go.WideShapes.bytes_inj (by rw [← ByteArray.toList_eq, ← ByteArray.toList_eq, h]), fun h => by rw [h]⟩
def letter (b : Int) : Bool := decide ((97 ≤ b ∧ b ≤ 122) ∨ (65 ≤ b ∧ b ≤ 90) ∨ b = 95)
def digit (b : Int) : Bool := decide (48 ≤ b ∧ b ≤ 57)
theorem letter_any (b : Int) (w : World) : Calls Try.prog 84 #[.int .u8 b] w fun e w' => e = .returned (.bool (letter b)) ∧ w = w' := by
  go_enter Try.func84, Try.ntmps84
  go_wp2_with fail
  all_goals go_ret
  all_goals exact ⟨ret_bool (by unfold letter; rw [Bool.eq_iff_iff]; simp; omega), rfl⟩
theorem digit_any (b : Int) (w : World) : Calls Try.prog 85 #[.int .u8 b] w fun e w' => e = .returned (.bool (digit b)) ∧ w = w' := by
  go_enter Try.func85, Try.ntmps85
  go_wp2_with fail
  all_goals go_ret
  all_goals exact ⟨ret_bool (by unfold digit; rw [Bool.eq_iff_iff]; simp; omega), rfl⟩
theorem within_any (a n b : Int) (w : World) : Calls Try.prog 53 #[.int .i64 a, .int .i64 n, .int .i64 b] w fun e w' => e = .returned (.bool (decide (a ≤ n ∧ n ≤ b))) ∧ w = w' := by
  go_enter Try.func53, Try.ntmps53
  go_wp2_with fail
  all_goals go_ret
  all_goals exact ⟨ret_bool (by rw [Bool.eq_iff_iff]; simp; omega), rfl⟩
end Go.Proofs.Ytjelgmdjmjnnfaa
namespace Go.Proofs.Ytjelgmdjmjnnfaa
open Go Go.RowKit
@[go_sem] theorem eq29 (a b c d a' b' c' d' : Int) (w : World) : (Op.equalIn 10000 39 (.agg #[.int .u64 a, .int .u64 b, .int .u64 c, .int .u64 d]) (.agg #[.int .u64 a', .int .u64 b', .int .u64 c', .int .u64 d'])).run Try.prog w = .ok (a == a' && b == b' && c == c' && d == d') w := by
  have u3 := Try.underlying37
  have a3 := Try.isAgg37
  have z3 := Try.sizeOf37
  rw [show (10000 : Nat) = 9999 + 1 from rfl, Op.equalIn]
  simp only [Sem.run_bind, run_underlying Try.underlying39, Result.andThen_ok]
  simp only [Std.Legacy.Range.forIn_eq_forIn_range', Std.Legacy.Range.size, Nat.sub_zero, Nat.add_sub_cancel, Nat.div_one, List.range'_succ, List.range'_zero, List.forIn_cons, List.forIn_nil]
  go_simp
  by_cases h1 : a = a' <;> by_cases h2 : b = b' <;> by_cases h3 : c = c' <;> by_cases h4 : d = d' <;> simp [h1, h2, h3, h4]
@[go_sem] theorem eq45 (a b : ByteArray) (c d : Int) (w : World) : (Op.equalIn 10000 47 (.agg #[.string a, .int .i64 c]) (.agg #[.string b, .int .i64 d])).run Try.prog w = .ok (decide (a.toList = b.toList) && c == d) w := by
  have u3 := Try.underlying3
  have a3 := Try.isAgg3
  have z3 := Try.sizeOf3
  have u9 := Try.underlying9
  have a9 := Try.isAgg9
  have z9 := Try.sizeOf9
  rw [show (10000 : Nat) = 9999 + 1 from rfl, Op.equalIn]
  simp only [Sem.run_bind, run_underlying Try.underlying47, Result.andThen_ok]
  go_simp
  by_cases h1 : a.toList = b.toList <;> by_cases h2 : c = d <;> simp [h1, h2]
theorem equal_int (a b : Int) (w : World) : Calls Try.prog 99 #[.int .i64 a, .int .i64 b] w fun e w' => e = .returned (.bool (a == b)) ∧ w = w' := by
  go_enter Try.func99, Try.ntmps99
  go_wp2_with fail
  all_goals go_ret
  all_goals exact ⟨rfl, rfl⟩
def Rl.val (r : Rl) : Value := .agg #[.string r.name, .int .i64 r.body]
/-- A node less what its Kind names. -/
theorem nothing_any (x : Nd) (r : Int) (w : World) : Calls Try.prog 86 #[x.val, .int .i64 r] w fun e w' => e = .returned (.tuple #[x.val, .bool true]) ∧ Below w.heap.size w w' := by
  go_enter Try.func86, Try.ntmps86
  go_wp2_with fail
  exact bodyPost_ret (v := .tuple #[x.val, .bool true]) (by simp [results, Try.results86, go_sem]) rfl ⟨rfl, B2 _ _ _⟩
def noCls (x : Nd) : Bool := x.c0 == 0 && x.c1 == 0 && x.c2 == 0 && x.c3 == 0
theorem set_any (x : Nd) (r : Int) (w : World) : Calls Try.prog 87 #[x.val, .int .i64 r] w fun e w' => e = .returned (.tuple #[{ x with c0 := 0, c1 := 0, c2 := 0, c3 := 0 : Nd }.val, .bool (!noCls x)]) ∧ Below w.heap.size w w' := by
  go_enter Try.func87, Try.ntmps87
  go_wp2_with fail
  exact bodyPost_ret (v := .tuple #[{ x with c0 := 0, c1 := 0, c2 := 0, c3 := 0 : Nd }.val, .bool (!noCls x)]) (by simp [results, Try.results87, go_sem, noCls]) rfl ⟨rfl, B2 _ _ _⟩
theorem text_any (x : Nd) (r : Int) (hs : x.text.size ≤ 9223372036854775807) (w : World) : Calls Try.prog 88 #[x.val, .int .i64 r] w fun e w' => e = .returned (.tuple #[{ x with text := { data := #[] } : Nd }.val, .bool (decide (1 ≤ (x.text.size : Int) ∧ (x.text.size : Int) ≤ 64))]) ∧ Below w.heap.size w w' := by
  go_enter Try.func88, Try.ntmps88
  go_wp2_with (go_at_call 53; refine (within_any _ _ _ _).mono ?_; rintro e w1 ⟨rfl, rfl⟩)
  exact bodyPost_ret (v := .tuple #[{ x with text := { data := #[] } : Nd }.val, .bool (decide (1 ≤ (x.text.size : Int) ∧ (x.text.size : Int) ≤ 64))]) (by simp [results, Try.results88, go_sem]) rfl ⟨rfl, B2 _ _ _⟩
def callOk (x : Nd) (r : Int) : Bool := decide (0 ≤ x.rule ∧ x.rule < r ∧ 0 ≤ x.level ∧ x.level ≤ 99)
theorem call_any (x : Nd) (r : Int) (w : World) : Calls Try.prog 89 #[x.val, .int .i64 r] w fun e w' => e = .returned (.tuple #[{ x with rule := 0, level := 0 : Nd }.val, .bool (callOk x r)]) ∧ Below w.heap.size w w' := by
  go_enter Try.func89, Try.ntmps89
  go_wp2_with (go_at_call 53; refine (within_any _ _ _ _).mono ?_; rintro e w1 ⟨rfl, rfl⟩)
  all_goals exact bodyPost_ret (v := .tuple #[{ x with rule := 0, level := 0 : Nd }.val, .bool (callOk x r)]) (by simp [results, Try.results89, go_sem]; unfold callOk; rw [Bool.eq_iff_iff]; simp; omega) rfl ⟨rfl, B2 _ _ _⟩
theorem kids_any (x : Nd) (a b : Int) (hk : x.kids.length ≤ 140737488351232) (w : World) : Calls Try.prog 97 #[x.val, .int .i64 a, .int .i64 b] w fun e w' => e = .returned (.tuple #[{ x with A := none, cap := 0, kids := [] : Nd }.val, .bool (decide (a ≤ (x.kids.length : Int) ∧ (x.kids.length : Int) ≤ b))]) ∧ Below w.heap.size w w' := by
  go_enter Try.func97, Try.ntmps97
  go_wp2_with (go_at_call 53; refine (within_any _ _ _ _).mono ?_; rintro e w1 ⟨rfl, rfl⟩)
  exact bodyPost_ret (v := .tuple #[{ x with A := none, cap := 0, kids := [] : Nd }.val, .bool (decide (a ≤ (x.kids.length : Int) ∧ (x.kids.length : Int) ≤ b))]) (by simp [results, Try.results97, go_sem]) rfl ⟨rfl, B2 _ _ _⟩
theorem Blk.setRow {w : World} {b : Nat} {vs cs : Array Value} {T : TypeId} (h : Blk w b vs T) : Blk (w.setRow b cs) b cs T := setRow_heap w b vs cs T (0, 0) h
theorem bset {B b : Nat} {w0 w : World} {cs : Array Value} (h : Below B w0 w) (hb : B ≤ b) : Below B w0 (w.setRow b cs) :=
  ⟨h.os, h.tape, h.output, by simpa [World.setRow] using h.size, fun k hk => (setRow_other w b k cs (by omega)).trans (h.block k hk)⟩
theorem results_cell_tmp {P : Program} {fn : Func} {p q : Tmp} {ty : TypeId} (h : fn.results = #[.cell p ty, .tmp q]) (tmps : Array Value) (w : World) (g : Nat) (t : TypeId) (cs : Array Value) (d : TypeDesc) (v : Value) (hq : tmps.getD q undef = v)
    (hp : tmps.getD p undef = .pointer (some ⟨g, 0, none⟩)) (hg : Blk w g cs t) (hu : P.underlying ty = some d) (hd : (match d with | .struct _ | .array _ _ => true | _ => false) = true) (hi : (P.info? ty).map (·.size) = some cs.size) :
    (results fn tmps).run P w = .ok (.tuple #[.agg cs, v]) w := by
  have hp' : tmps[p]?.getD undef = .pointer (some ⟨g, 0, none⟩) := by simpa using hp
  have hq' : tmps[q]?.getD undef = v := by simpa using hq
  simp [results, h, hp', hq', asAddr, run_loadVar_row w g t ty cs (0, 0) d hg hu hd hi]
abbrev Nd.less (x : Nd) : Nd := { x with A := none, cap := 0, kids := [] }
abbrev kidsOk (x : Nd) (a b : Int) : Bool := decide (a ≤ (x.kids.length : Int) ∧ (x.kids.length : Int) ≤ b)
theorem several_any (x : Nd) (r : Int) (hk : x.kids.length ≤ 140737488351232) (w : World) : Calls Try.prog 90 #[x.val, .int .i64 r] w fun e w' => e = .returned (.tuple #[x.less.val, .bool (kidsOk x 2 64)]) ∧ Below w.heap.size w w' := by
  have K := Lib.hid (fun w => kids_any x 2 64 hk w)
  clear hk
  obtain ⟨bo, ebo⟩ : ∃ bo, bo = decide (2 ≤ (x.kids.length : Int) ∧ (x.kids.length : Int) ≤ 64) := ⟨_, rfl⟩
  rw [← ebo] at K
  unfold kidsOk
  rw [← ebo]
  clear ebo
  go_enter Try.func90, Try.ntmps90
  go_wp2_with (first | (go_at_call 97; refine (K.out _).mono ?_; rintro e w1 ⟨rfl, hb⟩; have HB := Lib.hid ((B2 w _ _).trans (hb.mono (by simp; omega))); have HK := Lib.hid (by have := (Blk.new (w.alloc _) _ _).below' hb; rw [World.size_alloc] at this; exact this); clear hb) | (refine wpList_store_row rfl 116 (.tmp 4) (.tmp 8) rfl (w.heap.size + 1) _ rfl rfl 116 _ HK.out (by kernel_rfl) (by rfl) (by simp [Value.oneCell']) ?_))
  exact bodyPost_ret (results_cell_tmp rfl _ _ (w.heap.size + 1) 116 _ _ _ rfl rfl HK.out.setRow Try.underlying116 rfl (by kernel_rfl)) rfl ⟨rfl, bset HB.out (by omega)⟩
theorem single_any (x : Nd) (r : Int) (hk : x.kids.length ≤ 140737488351232) (w : World) : Calls Try.prog 91 #[x.val, .int .i64 r] w fun e w' => e = .returned (.tuple #[x.less.val, .bool (kidsOk x 1 1)]) ∧ Below w.heap.size w w' := by
  have K := Lib.hid (fun w => kids_any x 1 1 hk w)
  clear hk
  obtain ⟨bo, ebo⟩ : ∃ bo, bo = decide (1 ≤ (x.kids.length : Int) ∧ (x.kids.length : Int) ≤ 1) := ⟨_, rfl⟩
  rw [← ebo] at K
  unfold kidsOk
  rw [← ebo]
  clear ebo
  go_enter Try.func91, Try.ntmps91
  go_wp2_with (first | (go_at_call 97; refine (K.out _).mono ?_; rintro e w1 ⟨rfl, hb⟩; have HB := Lib.hid ((B2 w _ _).trans (hb.mono (by simp; omega))); have HK := Lib.hid (by have := (Blk.new (w.alloc _) _ _).below' hb; rw [World.size_alloc] at this; exact this); clear hb) | (refine wpList_store_row rfl 116 (.tmp 4) (.tmp 8) rfl (w.heap.size + 1) _ rfl rfl 116 _ HK.out (by kernel_rfl) (by rfl) (by simp [Value.oneCell']) ?_))
  exact bodyPost_ret (results_cell_tmp rfl _ _ (w.heap.size + 1) 116 _ _ _ rfl rfl HK.out.setRow Try.underlying116 rfl (by kernel_rfl)) rfl ⟨rfl, bset HB.out (by omega)⟩
end Go.Proofs.Ytjelgmdjmjnnfaa
namespace Go.Proofs.Ytjelgmdjmjnnfaa
open Go Go.RowKit
/-- A world that has grown out of w. -/
structure Ext (w : World) where
  val : World
  grown : Below w.heap.size w val
instance (w : World) : Nonempty (Ext w) := ⟨⟨w, Below.refl _ _⟩⟩
theorem Ext.cell {w : World} {b o : Nat} {v : Value} (h : w.cell? ⟨b, o, none⟩ = some v) (e : Ext w) : e.val.cell? ⟨b, o, none⟩ = some v :=
  (e.grown.cell (p := ⟨b, o, none⟩) (World.block_lt_of_cell? _ _ h)).trans h
theorem wp_region_ext {P : Program} {id : Nat} {Q : Exit → Act → World → Prop} {a : Act} {w : World} {l : List Oper} (hm : P.follows .mixedOrders = true) (hB : Region.lexB .any l.toArray = true)
    (h : wpQuiet P l.toArray (fun w' => ∃ e : Ext w, w' = e.val) (fun a' => ∀ w', (∃ e : Ext w, w' = e.val) → Q .normal a' w') l a) : (Code.region id l.toArray true).wp P Q a w :=
  wp_region_quiet (C := fun w' => ∃ e : Ext w, w' = e.val) hm hB ⟨⟨{ w with drawn := w.drawn + 1 }, ⟨rfl, rfl, rfl, Nat.le_refl _, fun _ _ => rfl⟩⟩, rfl⟩ (by simpa using h)
theorem Calls.ext_of {P : Program} {f : FuncId} {args : Array Value} {w : World} {e : Ext w} {v : Value}
    (h : Calls P f args e.val fun x w' => x = .returned v ∧ Below e.val.heap.size e.val w') : Calls P f args e.val fun x w'' => x = .returned v ∧ ∃ e2 : Ext w, w'' = e2.1 :=
  h.mono fun _ w' ⟨he, hb⟩ => ⟨he, ⟨w', e.grown.trans (hb.mono e.grown.size)⟩, rfl⟩
end Go.Proofs.Ytjelgmdjmjnnfaa
namespace Go.Proofs.Ytjelgmdjmjnnfaa
open Go Go.RowKit
theorem mixed : Try.prog.follows .mixedOrders = true := by kernel_rfl
theorem take_same {a b : List Int} {k : Nat} (hk : k < a.length) (hl : a.length = b.length) (h : a.take k = b.take k) : a.take (k + 1) = b.take (k + 1) ↔ a.getD k 0 = b.getD k 0 := by
  have e1 : a.take (k + 1) = a.take k ++ [a.getD k 0] := by rw [List.take_succ_eq_append_getElem hk]; simp [List.getD, List.getElem?_eq_getElem hk]
  have e2 : b.take (k + 1) = b.take k ++ [b.getD k 0] := by rw [List.take_succ_eq_append_getElem (by omega)]; simp [List.getD, List.getElem?_eq_getElem (show k < b.length by omega)]
  rw [e1, e2, h]
  simp
theorem getD_ne {a b : List Int} {k : Nat} (h : a.getD k 0 ≠ b.getD k 0) : a ≠ b := fun e => h (by rw [e])
set_option maxHeartbeats 1000000 in
theorem row_int (A B : Option Addr) (c d : Nat) (a b : List Int) (ha : a.length ≤ 140737488351232) (hb : b.length ≤ 140737488351232) (w : World) (hA : Lies w A (ints a)) (hB : Lies w B (ints b)) :
    Calls Try.prog 98 #[.slice A a.length c, .slice B b.length d, .func (.func 99) #[] #[]] w fun e w' => e = .returned (.bool (decide (a = b))) ∧ ∃ n, w' = w.drewN n := by
  have HA := Lib.hid hA
  have HB := Lib.hid hB
  clear hA hB
  by_cases hl : a.length = b.length
  · have HL := Lib.hid hl
    obtain ⟨m, em⟩ : ∃ m, m = b.length := ⟨_, rfl⟩
    rw [← em] at hl hb ⊢
    rw [hl] at ha ⊢
    have EM := Lib.hid em
    clear em hl
    go_enter Try.func98, Try.ntmps98
    go_wp2_with fail
    go_loopw [15, 7] (fun i _ wr => ∃ (k n : Nat), k ≤ m ∧ i = .int .i64 k ∧ a.take k = b.take k ∧ wr = w.drewN n) (fun i _ _ => m - (intOf i).toNat)
    case atStart => exact ⟨0, 0, by omega, rfl, by simp, rfl⟩
    case round =>
      obtain ⟨k, n, hk, rfl, ht, rfl⟩ := hrel
      have HT := Lib.hid ht
      clear ht
      by_cases hlt : k < m
      · have hlt2 : (k : Int) < m := by omega
        obtain ⟨b1, o1, rfl, _, c1⟩ := lies_cell HA.out (show k < a.length by have := HL.out; have := EM.out; omega)
        obtain ⟨b2, o2, rfl, _, c2⟩ := lies_cell HB.out (show k < b.length by have := EM.out; omega)
        have HS := Lib.hid (take_same (a := a) (b := b) (k := k) (by have := HL.out; have := EM.out; omega) HL.out HT.out)
        have HN := Lib.hid (@getD_ne a b k)
        generalize a.getD k 0 = x at c1 HS HN
        generalize b.getD k 0 = y at c2 HS HN
        by_cases hxy : x = y
        · have HK := Lib.hid (HS.out.2 hxy)
          have hb : (x == y) = true := by simpa using hxy
          clear HS HN hxy
          go_wp2_with fail
          go_quiet ((go_at_call 99; exact (equal_int _ _ _).mono fun _ _ h => ⟨h.1, _, h.2.symm⟩))
          go_wp2_with fail
          go_roundw
          case rel => exact ⟨k + 1, n + nq, by omega, by go_num, HK.out, by first | rfl | exact World.drewN_drewN _ _ _⟩
          case measure => simp [intOf]; omega
        · have HK := Lib.hid (HN.out hxy)
          have hb : (x == y) = false := by simpa using hxy
          clear HS HN hxy
          go_wp2_with fail
          go_quiet ((go_at_call 99; exact (equal_int _ _ _).mono fun _ _ h => ⟨h.1, _, h.2.symm⟩))
          go_wp2_with fail
          go_ret
          exact ⟨ret_bool (by simpa using HK.out), n + nq, by first | rfl | exact World.drewN_drewN _ _ _⟩
      · obtain rfl : k = m := by omega
        have hlt2 : ¬ (k : Int) < k := by omega
        go_wp2_with fail
        go_ret
        exact ⟨ret_bool (by have := HT.out; rw [List.take_of_length_le (by have := HL.out; have := EM.out; omega), List.take_of_length_le (by have := EM.out; omega)] at this; simp [this]), n, rfl⟩
  · have hne : ¬ (a.length : Int) = b.length := by omega
    have hv : decide (a = b) = false := by simp; intro e; rw [e] at hl; exact hl rfl
    rw [hv]
    clear hv hl
    go_enter Try.func98, Try.ntmps98
    go_wp2_with fail
    go_ret
    exact ⟨rfl, 0, rfl⟩
/-- Two nodes are the same, part by part. -/
def sameNd (x y : Nd) : Bool := decide (x.kind = y.kind ∧ (x.c0 = y.c0 ∧ x.c1 = y.c1 ∧ x.c2 = y.c2 ∧ x.c3 = y.c3) ∧ x.text = y.text ∧ x.rule = y.rule ∧ x.level = y.level ∧ x.kids = y.kids)
set_option maxHeartbeats 1000000 in
theorem same_any (x y : Nd) (w : World) (hx : Nd.At w x) (hy : Nd.At w y) : Calls Try.prog 92 #[x.val, y.val] w fun e w' => e = .returned (.bool (sameNd x y)) ∧ Below w.heap.size w w' := by
  have R := Lib.hid (fun (w' : World) (h : Below w.heap.size w w') => row_int x.A y.A x.cap y.cap x.kids y.kids hx.2.2 hy.2.2 w' (hx.below h).1 (hy.below h).1)
  clear hx hy
  go_enter Try.func92, Try.ntmps92
  go_wp2_with (go_at_call 98; refine (R.out _ (B2 _ _ _)).mono ?_; rintro e w1 ⟨rfl, n, rfl⟩)
  all_goals go_ret
  all_goals refine ⟨ret_bool ?_, by first | exact B2 _ _ _ | exact bdrew (B2 _ _ _)⟩
  all_goals (unfold sameNd; rw [Bool.eq_iff_iff]; simp only [tl_inj, beq_iff_eq, Bool.and_eq_true, decide_eq_true_eq, Bool.false_eq_true] at *; simp_all)
end Go.Proofs.Ytjelgmdjmjnnfaa

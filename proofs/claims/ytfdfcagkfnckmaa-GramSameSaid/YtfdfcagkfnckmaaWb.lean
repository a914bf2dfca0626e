/- A grammar in memory: nodes, rules. The letters, digits; within. -/
import Derived.Test.YtfdfcagkfnckmaaWa
import Derived.WideShapes
namespace Go.Proofs.Ytfdfcagkfnckmaa
open Go Go.RowKit
def ints (l : List Int) : List Value := l.map (Value.int .i64)
theorem ints_length (l : List Int) : (ints l).length = l.length := by simp [ints]
theorem ints_one (l : List Int) : ∀ u ∈ ints l, u.oneCell' = true := by
  intro u hu
  obtain ⟨x, _, rfl⟩ := List.mem_map.1 hu
  rfl
theorem ints_at {l : List Int} {k : Nat} (h : k < l.length) : (ints l)[k]? = some (.int .i64 (l.getD k 0)) := by
  simp [ints, List.getElem?_map, List.getElem?_eq_getElem h, List.getD]
theorem lies_cell {w : World} {A : Option Addr} {l : List Int} (h : Lies w A (ints l)) {k : Nat} (hk : k < l.length) : ∃ b o, A = some ⟨b, o, none⟩ ∧ b < w.heap.size ∧ w.cell? ⟨b, o + k, none⟩ = some (.int .i64 (l.getD k 0)) := by
  obtain ⟨b, o, e, hb, hc⟩ := h (by rw [ints_length]; omega)
  exact ⟨b, o, e, hb, (hc k (by rw [ints_length]; exact hk)).trans (ints_at hk)⟩
/-- A node: its Kind, its class in four words, its text, rule and level; where its kids lie, their room, they themselves. -/
structure Nd where
  kind : Int
  c0 : Int
  c1 : Int
  c2 : Int
  c3 : Int
  text : ByteArray
  rule : Int
  level : Int
  A : Option Addr
  cap : Nat
  kids : List Int
def Nd.zero : Nd := ⟨0, 0, 0, 0, 0, ByteArray.empty, 0, 0, none, 0, []⟩
instance : Inhabited Nd := ⟨Nd.zero⟩
def Nd.cells (x : Nd) : List Value := [.int .i64 x.kind, .int .u64 x.c0, .int .u64 x.c1, .int .u64 x.c2, .int .u64 x.c3, .string x.text, .int .i64 x.rule, .int .i64 x.level, .slice x.A x.kids.length x.cap]
abbrev Nd.val (x : Nd) : Value := .agg #[.int .i64 x.kind, .int .u64 x.c0, .int .u64 x.c1, .int .u64 x.c2, .int .u64 x.c3, .string x.text, .int .i64 x.rule, .int .i64 x.level, .slice x.A x.kids.length x.cap]
/-- A node whose kids lie in memory. -/
def Nd.At (w : World) (x : Nd) : Prop := Lies w x.A (ints x.kids) ∧ (x.A = none → x.cap = 0) ∧ x.kids.length ≤ 140737488351232
theorem Nd.At.below {w w' : World} {x : Nd} (h : Nd.At w x) (hb : Below w.heap.size w w') : Nd.At w' x := ⟨h.1.below hb, h.2⟩
theorem Nd.At.alloc {w : World} {x : Nd} (h : Nd.At w x) (o : Obj) : Nd.At (w.alloc o) x := h.below (B1 _ _)
structure Rl where
  name : ByteArray
  body : Int
def Rl.zero : Rl := ⟨ByteArray.empty, 0⟩
instance : Inhabited Rl := ⟨Rl.zero⟩
/-- Nodes in memory. -/
def Nodes (w : World) (A : Option Addr) (l : List Nd) : Prop :=
  0 < l.length → ∃ b o, A = some ⟨b, o, none⟩ ∧ b < w.heap.size ∧ ∀ i, i < l.length → ∀ j, j < 9 → w.cell? ⟨b, o + i * 9 + j, none⟩ = (l.getD i Nd.zero).cells[j]?
/-- Rules in memory. -/
def Rules (w : World) (A : Option Addr) (l : List Rl) : Prop :=
  0 < l.length → ∃ b o, A = some ⟨b, o, none⟩ ∧ b < w.heap.size ∧ ∀ i, i < l.length → w.cell? ⟨b, o + i * 2, none⟩ = some (.string (l.getD i Rl.zero).name) ∧ w.cell? ⟨b, o + i * 2 + 1, none⟩ = some (.int .i64 (l.getD i Rl.zero).body)
theorem Nodes.below {w w' : World} {A : Option Addr} {l : List Nd} (h : Nodes w A l) (hb : Below w.heap.size w w') : Nodes w' A l := by
  intro h0
  obtain ⟨b, o, e, hl, hc⟩ := h h0
  exact ⟨b, o, e, Nat.lt_of_lt_of_le hl hb.size, fun i hi j hj => (hb.cell (p := ⟨b, o + i * 9 + j, none⟩) hl).trans (hc i hi j hj)⟩
theorem Rules.below {w w' : World} {A : Option Addr} {l : List Rl} (h : Rules w A l) (hb : Below w.heap.size w w') : Rules w' A l := by
  intro h0
  obtain ⟨b, o, e, hl, hc⟩ := h h0
  exact ⟨b, o, e, Nat.lt_of_lt_of_le hl hb.size, fun i hi => ⟨(hb.cell (p := ⟨b, o + i * 2, none⟩) hl).trans (hc i hi).1, (hb.cell (p := ⟨b, o + i * 2 + 1, none⟩) hl).trans (hc i hi).2⟩⟩
/-- A grammar: where its rules and nodes lie, their rooms, they themselves. -/
structure Gr where
  RA : Option Addr
  rc : Nat
  rules : List Rl
  NA : Option Addr
  nc : Nat
  nodes : List Nd
abbrev Gr.val (g : Gr) : Value := .agg #[.slice g.RA g.rules.length g.rc, .slice g.NA g.nodes.length g.nc]
/-- A grammar that lies in memory. -/
structure Gr.At (w : World) (g : Gr) : Prop where
  rules : Rules w g.RA g.rules
  nodes : Nodes w g.NA g.nodes
  kids : ∀ x ∈ g.nodes, Nd.At w x
  rl : g.rules.length ≤ 140737488351232
  nl : g.nodes.length ≤ 140737488351232
  rn : g.RA = none → g.rc = 0
  nn : g.NA = none → g.nc = 0
  texts : ∀ x ∈ g.nodes, x.text.size ≤ 9223372036854775807
  names : ∀ r ∈ g.rules, r.name.size ≤ 9223372036854775807
theorem Gr.At.below {w w' : World} {g : Gr} (h : Gr.At w g) (hb : Below w.heap.size w w') : Gr.At w' g :=
  ⟨h.rules.below hb, h.nodes.below hb, fun x hx => (h.kids x hx).below hb, h.rl, h.nl, h.rn, h.nn, h.texts, h.names⟩
theorem Gr.At.alloc {w : World} {g : Gr} (h : Gr.At w g) (o : Obj) : Gr.At (w.alloc o) g := h.below (B1 _ _)
theorem Gr.At.node {w : World} {g : Gr} (h : Gr.At w g) {i : Nat} (hi : i < g.nodes.length) : Nd.At w (g.nodes.getD i Nd.zero) := h.kids _ (by simp [List.getD, List.getElem?_eq_getElem hi])
/-- A node's cells. -/
theorem Nodes.nine {w : World} {A : Option Addr} {l : List Nd} (h : Nodes w A l) {i : Nat} (hi : i < l.length) : ∃ b o, A = some ⟨b, o, none⟩ ∧ b < w.heap.size ∧
    w.cell? ⟨b, o + i * 9, none⟩ = some (.int .i64 (l.getD i Nd.zero).kind) ∧ w.cell? ⟨b, o + i * 9 + 1, none⟩ = some (.int .u64 (l.getD i Nd.zero).c0) ∧ w.cell? ⟨b, o + i * 9 + 2, none⟩ = some (.int .u64 (l.getD i Nd.zero).c1) ∧ w.cell? ⟨b, o + i * 9 + 3, none⟩ = some (.int .u64 (l.getD i Nd.zero).c2) ∧
    w.cell? ⟨b, o + i * 9 + 4, none⟩ = some (.int .u64 (l.getD i Nd.zero).c3) ∧ w.cell? ⟨b, o + i * 9 + 5, none⟩ = some (.string (l.getD i Nd.zero).text) ∧ w.cell? ⟨b, o + i * 9 + 6, none⟩ = some (.int .i64 (l.getD i Nd.zero).rule) ∧
    w.cell? ⟨b, o + i * 9 + 7, none⟩ = some (.int .i64 (l.getD i Nd.zero).level) ∧ w.cell? ⟨b, o + i * 9 + 8, none⟩ = some (.slice (l.getD i Nd.zero).A (l.getD i Nd.zero).kids.length (l.getD i Nd.zero).cap) := by
  obtain ⟨b, o, e, hl, hc⟩ := h (by omega)
  have k := hc i hi
  exact ⟨b, o, e, hl, k 0 (by decide), k 1 (by decide), k 2 (by decide), k 3 (by decide), k 4 (by decide), k 5 (by decide), k 6 (by decide), k 7 (by decide), k 8 (by decide)⟩

theorem tl_inj {a b : ByteArray} : a.toList = b.toList ↔ a = b := ⟨fun h => Go.WideShapes.bytes_inj (by rw [← ByteArray.toList_eq, ← ByteArray.toList_eq, h]), fun h => by rw [h]⟩
def letter (b : Int) : Bool := decide ((97 ≤ b ∧ b ≤ 122) ∨ (65 ≤ b ∧ b ≤ 90) ∨ b = 95)
def digit (b : Int) : Bool := decide (48 ≤ b ∧ b ≤ 57)
theorem letter_any (b : Int) (w : World) : Calls Try.prog 34 #[.int .u8 b] w fun e w' => e = .returned (.bool (letter b)) ∧ w = w' := by
  go_enter Try.func34, Try.ntmps34
  go_wp2_with fail
  all_goals go_ret
  all_goals exact ⟨ret_bool (by unfold letter; rw [Bool.eq_iff_iff]; simp; omega), rfl⟩
theorem digit_any (b : Int) (w : World) : Calls Try.prog 35 #[.int .u8 b] w fun e w' => e = .returned (.bool (digit b)) ∧ w = w' := by
  go_enter Try.func35, Try.ntmps35
  go_wp2_with fail
  all_goals go_ret
  all_goals exact ⟨ret_bool (by unfold digit; rw [Bool.eq_iff_iff]; simp; omega), rfl⟩
theorem within_any (a n b : Int) (w : World) : Calls Try.prog 33 #[.int .i64 a, .int .i64 n, .int .i64 b] w fun e w' => e = .returned (.bool (decide (a ≤ n ∧ n ≤ b))) ∧ w = w' := by
  go_enter Try.func33, Try.ntmps33
  go_wp2_with fail
  all_goals go_ret
  all_goals exact ⟨ret_bool (by rw [Bool.eq_iff_iff]; simp; omega), rfl⟩
end Go.Proofs.Ytfdfcagkfnckmaa

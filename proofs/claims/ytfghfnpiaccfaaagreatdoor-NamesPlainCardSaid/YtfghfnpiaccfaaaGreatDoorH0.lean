/- A region that draws its order, whose own operations only read and whose callees may make memory: one walk in the order of the text, in any world that has grown out of the first. Nothing here speaks of one program. -/
import Derived.Deep.QuietTactic
import Derived.BigQuiet
import Derived.Below
import Derived.Test.YtfghfnpiaccfaaaGreatDoorG1
import Derived.Maps.AppendAt
import Derived.Laws.OwnMore
import Derived.Laws.AppendOwnNone
import Derived.WideShapes
set_option linter.unusedSimpArgs false
set_option linter.unusedVariables false
namespace Go.Proofs.YtfghfnpiaccfaaaGreatDoor
open Go Go.RowKit
/-- A world that has grown out of w. -/
structure Ext (w : World) where
  val : World
  grown : Below w.heap.size w val
instance (w : World) : Nonempty (Ext w) := ⟨⟨w, Below.refl _ _⟩⟩
theorem Ext.cell {w : World} {b o : Nat} {v : Value} (h : w.cell? ⟨b, o, none⟩ = some v) (e : Ext w) : e.val.cell? ⟨b, o, none⟩ = some v :=
  (e.grown.cell (p := ⟨b, o, none⟩) (World.block_lt_of_cell? _ _ h)).trans h
theorem wp_region_ext {P : Program} {id : Nat} {Q : Exit → Act → World → Prop} {a : Act} {w : World} {l : List Oper} (hm : P.follows .mixedOrders = true) (hB : Region.lexB .any l.toArray = true)
    (h : wpQuiet P l.toArray (fun w' => ∃ e : Ext w, w' = e.val) (fun a' => ∀ w', (∃ e : Ext w, w' = e.val) → Q .normal a' w') l a) : (Code.region id l.toArray true).wp P Q a w :=
  wp_region_quiet (C := fun w' => ∃ e : Ext w, w' = e.val) hm hB ⟨⟨{ w with drawn := w.drawn + 1 }, ⟨rfl, rfl, rfl, Nat.le_refl _, fun _ _ => rfl⟩⟩, rfl⟩ (by simpa using h)
theorem Calls.ext_of {P : Program} {f : FuncId} {args : Array Value} {w : World} {e : Ext w} {v : Value}
    (h : Calls P f args e.val fun x w' => x = .returned v ∧ Below e.val.heap.size e.val w') : Calls P f args e.val fun x w'' => x = .returned v ∧ ∃ e2 : Ext w, w'' = e2.1 :=
  h.mono fun _ w' ⟨he, hb⟩ => ⟨he, ⟨w', e.grown.trans (hb.mono e.grown.size)⟩, rfl⟩
end Go.Proofs.YtfghfnpiaccfaaaGreatDoor
namespace Go.Proofs.YtfghfnpiaccfaaaGreatDoor
open Go Go.RowKit
theorem Blk.setRow {w : World} {b : Nat} {vs cs : Array Value} {T : TypeId} (h : Blk w b vs T) : Blk (w.setRow b cs) b cs T := setRow_heap w b vs cs T (0, 0) h
theorem bset {B b : Nat} {w0 w : World} {cs : Array Value} (h : Below B w0 w) (hb : B ≤ b) : Below B w0 (w.setRow b cs) :=
  ⟨h.os, h.tape, h.output, by simpa [World.setRow] using h.size, fun k hk => (setRow_other w b k cs (by omega)).trans (h.block k hk)⟩
theorem run_append_onto {P : Program} (w : World) (base : Nat) (t ty e : TypeId) (i : TypeInfo) (z : Value) (size bytes : Nat) (ht : P.underlying t = some (.slice e)) (hi : P.info? e = some i) (hz : i.zero = some z)
    (hsize : i.size = size) (hby : i.bytes = bytes) (hzs : z.cells.size = size) (hsz : 0 < size)
    (v : Value) (n : Nat) (xs : List Value) (hown : w.ownsRow base e size v n xs) (A : Option Addr) (m c : Nat) (news : List Value) (hl : news.length = m * size)
    (hnews : ∀ a, A = some a → ∀ j u, news[j]? = some u → w.cell? (a.add j) = some u) (hnone : A = none → m = 0 ∧ c = 0) (h1 : ∀ u ∈ news, u.oneCell' = true)
    (h63 : n + m ≤ maxLen) (hbytes : (n + m) * bytes ≤ 140737488355328) (hbase : base ≤ w.heap.size) :
    ∃ v' w', (Builtin.append_ #[t, t] ty #[v, .slice A m c]).run P w = .ok v' w' ∧ w'.ownsRow base e size v' (n + m) (xs ++ news) ∧ w.grownBy w' v.ownBlock ∧ (∀ k, v'.ownBlock = some k → v.ownBlock = some k ∨ w.heap.size ≤ k) := by
  cases A with
  | none =>
    obtain ⟨rfl, rfl⟩ := hnone rfl
    have h0 : news = [] := List.eq_nil_of_length_eq_zero (by simpa using hl)
    subst h0
    exact ⟨v, w, run_append_owned_none w base t ty e i size ht hi v n xs hown, by simpa using hown, World.grownBy.refl _ _, fun _ h => .inl h⟩
  | some a =>
    have hnews' := hnews a rfl
    obtain ⟨v', w', hrun, hown', hg, hnn⟩ := run_append_own (P := P) w base t ty e i z size bytes ht hi hz hsize hby hzs hsz v n xs hown a m c news hl hnews' h1 h63 hbytes hbase
    refine ⟨v', w', hrun, hown', hg, ?_⟩
    subst hsize hby
    have hsm : n + m ≤ 9223372036854775807 := by simp only [maxLen] at h63; omega
    rcases hown.2 with ⟨rfl, rfl⟩ | ⟨g, cap, cur, rfl, hbg, hgh, hnc, hcm, hcs, htake⟩
    · by_cases hm : m = 0
      · rw [hnn.2 ⟨rfl, hm⟩]
        intro k h
        cases h
      · have hr := run_append_nil (P := P) w t ty e i z ht hi hz a m c news hl hnews' (by omega) (by omega) (by have hb := hbytes; rw [Nat.zero_add] at hb; omega)
        rw [hr] at hrun
        cases hrun
        intro k h
        simp only [Value.ownBlock, Option.some.injEq] at h
        exact .inr (by omega)
    · by_cases hroom : n + m ≤ cap
      · have hfit : n * i.size + news.length ≤ cur.size := by rw [hl, hcs, ← Nat.add_mul]; exact Nat.mul_le_mul_right _ hroom
        have hr := run_append_room (P := P) w t ty e i ht hi g n cap cur hgh a m c news hl hnews' h1 hroom hfit
        rw [hr] at hrun
        cases hrun
        exact fun k h => .inl h
      · have holds : ∀ j u, xs[j]? = some u → w.cell? ((⟨g, 0, none⟩ : Addr).add j) = some u := hown.cells (g := g) rfl
        have hr := run_append_grow (P := P) w t ty e i z ht hi hz ⟨g, 0, none⟩ n cap xs hown.1 holds a m c news hl hnews' (by omega) (by omega) (growslice_fits (by omega) hbytes)
        rw [hr] at hrun
        cases hrun
        intro k h
        simp only [Value.ownBlock, Option.some.injEq] at h
        exact .inr (by omega)
theorem wpList_append_onto {P : Program} (w : World) {ops : Array Oper} {rest : List Oper} {o : Oper} {ac : Act} {Q : Exit → Act → World → Prop}
    (hgd : o.guard = none) (s x : Operand) (t : TypeId) (hop : o.op = Op.call { callee := Callee.builtin Builtin.append, args := #[s, x], argTypes := #[t, t] })
    (base : Nat) (e : TypeId) (i : TypeInfo) (z : Value) (size bytes : Nat) (ht : P.underlying t = some (.slice e)) (hi : P.info? e = some i) (hz : i.zero = some z)
    (hsize : i.size = size) (hby : i.bytes = bytes) (hzs : z.cells.size = size) (hsz : 0 < size)
    (v : Value) (n : Nat) (xs : List Value) (hs : ac.eval s = v) (hown : w.ownsRow base e size v n xs) (A : Option Addr) (m c : Nat) (news : List Value) (hx : ac.eval x = .slice A m c) (hl : news.length = m * size)
    (hnews : ∀ a, A = some a → ∀ j u, news[j]? = some u → w.cell? (a.add j) = some u) (hnone : A = none → m = 0 ∧ c = 0) (h1 : ∀ u ∈ news, u.oneCell' = true)
    (h63 : n + m ≤ maxLen) (hbytes : (n + m) * bytes ≤ 140737488355328) (hbase : base ≤ w.heap.size)
    (hK : ∀ v' w', w'.ownsRow base e size v' (n + m) (xs ++ news) → w.grownBy w' v.ownBlock → (∀ k, v'.ownBlock = some k → v.ownBlock = some k ∨ w.heap.size ≤ k) → wpList P ops Q rest (ac.put o.dst v') w') :
    wpList P ops Q (o :: rest) ac w := by
  obtain ⟨v', w', hrun, r1, r2, r3⟩ := run_append_onto (P := P) w base t o.type e i z size bytes ht hi hz hsize hby hzs hsz v n xs hown A m c news hl hnews hnone h1 h63 hbytes hbase
  refine wpList_plain hgd fun K hK' => ?_
  unfold Oper.wp execOp
  simp only [hop, resolve, invoke, builtin, Sem.run_bind, Sem.run_pure, Result.andThen_ok, List.map_toArray, List.map_cons, List.map_nil, hs, hx, hrun]
  exact hK' _ _ (hK v' w' r1 r2 r3)
theorem setRow_grown (w : World) (g : Nat) (cs : Array Value) : w.grownBy (w.setRow g cs) (some g) :=
  ⟨rfl, rfl, rfl, by simp [World.setRow], fun k _ hk => setRow_other w g k _ (fun e => hk (by rw [e]))⟩
/-- A store of a whole value into a whole block. -/
theorem wpList_store_whole {P : Program} {ops : Array Oper} {rest : List Oper} {o : Oper} {a : Act} {w : World} {Q : Exit → Act → World → Prop} (hgd : o.guard = none) (ty : TypeId) (x y : Operand) (ho : o.op = .store ty x y)
    (g : Nat) (cells : Array Value) (hx : a.eval x = .pointer (some ⟨g, 0, none⟩)) (hy : a.eval y = .agg cells)
    (t : TypeId) (old : Array Value) (hg : Blk w g old t) (hi : (P.info? ty).map (·.size) = some cells.size)
    (hold : old.size = cells.size) (h1 : cells.all (·.oneCell') = true)
    (h : ∀ w', Blk w' g cells t → w.grownBy w' (some g) → wpList P ops Q rest (a.put o.dst undef) w') : wpList P ops Q (o :: rest) a w :=
  wpList_store_row hgd ty x y ho g cells hx hy t old hg hi hold h1 (h _ hg.setRow (setRow_grown w g cells))
/-- A store of one cell into a whole block. -/
theorem wpList_store_blk {P : Program} {ops : Array Oper} {rest : List Oper} {o : Oper} {a : Act} {w : World} {Q : Exit → Act → World → Prop} (hgd : o.guard = none) (ty : TypeId) (x y : Operand) (ho : o.op = .store ty x y)
    (g j : Nat) (v : Value) (hx : a.eval x = .pointer (some ⟨g, j, none⟩)) (hy : a.eval y = v) (h1 : v.oneCell' = true)
    (t : TypeId) (old : Array Value) (hg : Blk w g old t) (hj : j < old.size) (hi : (P.info? ty).map (·.size) = some 1) (cells : Array Value) (hc : cells = (old.toList.take j ++ [v] ++ old.toList.drop (j + 1)).toArray)
    (h : ∀ w', Blk w' g cells t → w.grownBy w' (some g) → wpList P ops Q rest (a.put o.dst undef) w') : wpList P ops Q (o :: rest) a w := by
  subst hc
  have hst := run_storeCells_at P g j t [v] 0 old w hg (by simp; omega) (fun u hu => by simp at hu; subst hu; exact h1)
  have hcv : v.cells = #[v] := by cases v <;> first | rfl | cases h1
  refine wpList_plain hgd fun K hK => ?_
  unfold Oper.wp execOp
  cases hq : P.info? ty with
  | none => simp [hq] at hi
  | some i =>
    have hs : i.size = 1 := by simpa [hq] using hi
    simp only [Nat.add_zero, List.length_cons, List.length_nil, Nat.zero_add] at hst
    have hsv : (storeVar ty ⟨g, j, none⟩ v).run P w = .ok () (w.setRow g (old.toList.take j ++ [v] ++ old.toList.drop (j + 1)).toArray) := by
      simp [storeVar, sizeOf, typeInfo, hq, hcv, hs, hst]
    simp only [ho, hx, hy, Instr.storeAt, Instr.sureAddr, Sem.run_bind, Sem.run_pure, Result.andThen_ok, hsv]
    exact hK _ _ (h _ hg.setRow (setRow_grown w g _))
theorem own_below {w w' : World} {base e size n : Nat} {v : Value} {xs : List Value} (h : w.ownsRow base e size v n xs) (hb : Below w.heap.size w w') : w'.ownsRow base e size v n xs := by
  refine ⟨h.1, ?_⟩
  rcases h.2 with hn | ⟨g, cap, cur, rfl, hbg, hgg, rest⟩
  · exact .inl hn
  · exact .inr ⟨g, cap, cur, rfl, hbg, (hb.block g (Array.getElem?_eq_some_iff.1 hgg).1).trans hgg, rest⟩
theorem own_lower {w : World} {base base' e size n : Nat} {v : Value} {xs : List Value} (h : w.ownsRow base e size v n xs) (hb : base' ≤ base) : w.ownsRow base' e size v n xs := by
  refine ⟨h.1, ?_⟩
  rcases h.2 with hn | ⟨g, cap, cur, rfl, hbg, rest⟩
  · exact .inl hn
  · exact .inr ⟨g, cap, cur, rfl, Nat.le_trans hb hbg, rest⟩
theorem Blk.grown {w w' : World} {b : Nat} {vs : Array Value} {T : TypeId} {row : Option Nat} (h : Blk w b vs T) (hg : w.grownBy w' row) (hne : some b ≠ row) : Blk w' b vs T := (hg.block b h.lt hne).trans h
theorem results_cell_tmp {P : Program} {fn : Func} {p q : Tmp} {ty : TypeId} (h : fn.results = #[.cell p ty, .tmp q]) (tmps : Array Value) (w : World) (g : Nat) (t : TypeId) (cs : Array Value) (d : TypeDesc) (v : Value) (hq : tmps.getD q undef = v)
    (hp : tmps.getD p undef = .pointer (some ⟨g, 0, none⟩)) (hg : Blk w g cs t) (hu : P.underlying ty = some d) (hd : (match d with | .struct _ | .array _ _ => true | _ => false) = true) (hi : (P.info? ty).map (·.size) = some cs.size) :
    (results fn tmps).run P w = .ok (.tuple #[.agg cs, v]) w := by
  have hp' : tmps[p]?.getD undef = .pointer (some ⟨g, 0, none⟩) := by simpa using hp
  have hq' : tmps[q]?.getD undef = v := by simpa using hq
  simp [results, h, hp', hq', asAddr, run_loadVar_row w g t ty cs (0, 0) d hg hu hd hi]
theorem grown_new {a w w' : World} {b r : Nat} (h : a.grownBy w (some b)) (hg : w.grownBy w' (some r)) (hr : a.heap.size ≤ r) : a.grownBy w' (some b) :=
  ⟨hg.os.trans h.os, hg.tape.trans h.tape, hg.output.trans h.output, Nat.le_trans h.size hg.size, fun k hk hn => (hg.block k (Nat.lt_of_lt_of_le hk h.size) (fun e => by have := Option.some.inj e; omega)).trans (h.block k hk hn)⟩
theorem below_new {B : Nat} {a w w' : World} {r : Nat} (h : Below B a w) (hB : B ≤ w.heap.size) (hg : w.grownBy w' (some r)) (hr : B ≤ r) : Below B a w' := h.grown hg hB (fun j hj => by cases hj; exact hr)
end Go.Proofs.YtfghfnpiaccfaaaGreatDoor
namespace Go.Proofs.YtfghfnpiaccfaaaGreatDoor
open Go Go.RowKit
theorem drewN_two (w : World) (n m : Nat) : (w.drewN n).drewN m = w.drewN (n + m) := by simp [World.drewN, Nat.add_assoc]
/-- Values in memory, one behind the other, one cell each. -/
def Lies (w : World) (A : Option Addr) (l : List Value) : Prop :=
  0 < l.length → ∃ b o, A = some ⟨b, o, none⟩ ∧ b < w.heap.size ∧ ∀ i, i < l.length → w.cell? ⟨b, o + i, none⟩ = l[i]?
theorem Lies.below {w w' : World} {A : Option Addr} {l : List Value} (h : Lies w A l) (hb : Below w.heap.size w w') : Lies w' A l := by
  intro h0
  obtain ⟨b, o, e, hl, hc⟩ := h h0
  exact ⟨b, o, e, Nat.lt_of_lt_of_le hl hb.size, fun i hi => (hb.cell (p := ⟨b, o + i, none⟩) hl).trans (hc i hi)⟩
theorem Lies.drewN {w : World} {A : Option Addr} {l : List Value} {n : Nat} (h : Lies w A l) : Lies (w.drewN n) A l := h

theorem own_shape {w : World} {base e size n : Nat} {v : Value} {xs : List Value} (h : w.ownsRow base e size v n xs) (h0 : 0 < n) : ∃ g cap, v = .slice (some ⟨g, 0, none⟩) n cap ∧ base ≤ g ∧ n ≤ cap ∧ cap ≤ maxLen ∧ g < w.heap.size := by
  rcases h.2 with ⟨_, hn⟩ | ⟨g, cap, cur, rfl, hb, hh, h1, h2, _⟩
  · omega
  · exact ⟨g, cap, rfl, hb, h1, h2, (Array.getElem?_eq_some_iff.1 hh).1⟩
theorem own_lies {w : World} {base e : Nat} {A : Option Addr} {c : Nat} {xs : List Value} (h : w.ownsRow base e 1 (.slice A xs.length c) xs.length xs) : Lies w A xs := by
  intro h0
  obtain ⟨g, cap, e, _, _, _, hg⟩ := own_shape h h0
  cases e
  refine ⟨g, 0, rfl, hg, fun i hi => ?_⟩
  rw [Nat.zero_add, h.cellAt i (by omega)]
def ints (l : List Int) : List Value := l.map (Value.int .i64)
theorem ints_length (l : List Int) : (ints l).length = l.length := by simp [ints]
theorem ints_one (l : List Int) : ∀ u ∈ ints l, u.oneCell' = true := by
  intro u hu
  obtain ⟨x, _, rfl⟩ := List.mem_map.1 hu
  rfl
theorem ints_at {l : List Int} {k : Nat} (h : k < l.length) : (ints l)[k]? = some (.int .i64 (l.getD k 0)) := by
  simp [ints, List.getElem?_map, List.getElem?_eq_getElem h, List.getD]
theorem lies_cell {w : World} {A : Option Addr} {l : List Int} (h : Lies w A (ints l)) {k : Nat} (hk : k < l.length) : ∃ b o, A = some ⟨b, o, none⟩ ∧ b < w.heap.size ∧ w.cell? ⟨b, o + k, none⟩ = some (.int .i64 (l.getD k 0)) := by
  obtain ⟨b, o, e, hb, hc⟩ := h (by rw [ints_length]; omega)
  exact ⟨b, o, e, hb, (hc k (by rw [ints_length]; exact hk)).trans (ints_at hk)⟩
/-- A node: its Kind, its class in four words, its text, rule and level; where its kids lie, their room, they themselves. -/
structure Nd where
  kind : Int
  c0 : Int
  c1 : Int
  c2 : Int
  c3 : Int
  text : ByteArray
  rule : Int
  level : Int
  A : Option Addr
  cap : Nat
  kids : List Int
def Nd.zero : Nd := ⟨0, 0, 0, 0, 0, ByteArray.empty, 0, 0, none, 0, []⟩
instance : Inhabited Nd := ⟨Nd.zero⟩
def Nd.cells (x : Nd) : List Value := [.int .i64 x.kind, .int .u64 x.c0, .int .u64 x.c1, .int .u64 x.c2, .int .u64 x.c3, .string x.text, .int .i64 x.rule, .int .i64 x.level, .slice x.A x.kids.length x.cap]
abbrev Nd.val (x : Nd) : Value := .agg #[.int .i64 x.kind, .int .u64 x.c0, .int .u64 x.c1, .int .u64 x.c2, .int .u64 x.c3, .string x.text, .int .i64 x.rule, .int .i64 x.level, .slice x.A x.kids.length x.cap]
/-- A node whose kids lie in memory. -/
def Nd.At (w : World) (x : Nd) : Prop := Lies w x.A (ints x.kids) ∧ (x.A = none → x.cap = 0) ∧ x.kids.length ≤ 140737488351232
theorem Nd.At.below {w w' : World} {x : Nd} (h : Nd.At w x) (hb : Below w.heap.size w w') : Nd.At w' x := ⟨h.1.below hb, h.2⟩
theorem Nd.At.alloc {w : World} {x : Nd} (h : Nd.At w x) (o : Obj) : Nd.At (w.alloc o) x := h.below (B1 _ _)
structure Rl where
  name : ByteArray
  body : Int
def Rl.zero : Rl := ⟨ByteArray.empty, 0⟩
instance : Inhabited Rl := ⟨Rl.zero⟩
/-- Nodes in memory. -/
def Nodes (w : World) (A : Option Addr) (l : List Nd) : Prop :=
  0 < l.length → ∃ b o, A = some ⟨b, o, none⟩ ∧ b < w.heap.size ∧ ∀ i, i < l.length → ∀ j, j < 9 → w.cell? ⟨b, o + i * 9 + j, none⟩ = (l.getD i Nd.zero).cells[j]?
/-- Rules in memory. -/
def Rules (w : World) (A : Option Addr) (l : List Rl) : Prop :=
  0 < l.length → ∃ b o, A = some ⟨b, o, none⟩ ∧ b < w.heap.size ∧ ∀ i, i < l.length → w.cell? ⟨b, o + i * 2, none⟩ = some (.string (l.getD i Rl.zero).name) ∧ w.cell? ⟨b, o + i * 2 + 1, none⟩ = some (.int .i64 (l.getD i Rl.zero).body)
theorem Nodes.below {w w' : World} {A : Option Addr} {l : List Nd} (h : Nodes w A l) (hb : Below w.heap.size w w') : Nodes w' A l := by
  intro h0
  obtain ⟨b, o, e, hl, hc⟩ := h h0
  exact ⟨b, o, e, Nat.lt_of_lt_of_le hl hb.size, fun i hi j hj => (hb.cell (p := ⟨b, o + i * 9 + j, none⟩) hl).trans (hc i hi j hj)⟩
theorem Rules.below {w w' : World} {A : Option Addr} {l : List Rl} (h : Rules w A l) (hb : Below w.heap.size w w') : Rules w' A l := by
  intro h0
  obtain ⟨b, o, e, hl, hc⟩ := h h0
  exact ⟨b, o, e, Nat.lt_of_lt_of_le hl hb.size, fun i hi => ⟨(hb.cell (p := ⟨b, o + i * 2, none⟩) hl).trans (hc i hi).1, (hb.cell (p := ⟨b, o + i * 2 + 1, none⟩) hl).trans (hc i hi).2⟩⟩
/-- A grammar: where its rules and nodes lie, their rooms, they themselves. -/
structure Gr where
  RA : Option Addr
  rc : Nat
  rules : List Rl
  NA : Option Addr
  nc : Nat
  nodes : List Nd
abbrev Gr.val (g : Gr) : Value := .agg #[.slice g.RA g.rules.length g.rc, .slice g.NA g.nodes.length g.nc]
/-- A grammar that lies in memory. -/
structure Gr.At (w : World) (g : Gr) : Prop where
  rules : Rules w g.RA g.rules
  nodes : Nodes w g.NA g.nodes
  kids : ∀ x ∈ g.nodes, Nd.At w x
  rl : g.rules.length ≤ 140737488351232
  nl : g.nodes.length ≤ 140737488351232
  rn : g.RA = none → g.rc = 0
  nn : g.NA = none → g.nc = 0
  texts : ∀ x ∈ g.nodes, x.text.size ≤ 9223372036854775807
  names : ∀ r ∈ g.rules, r.name.size ≤ 9223372036854775807
theorem Gr.At.below {w w' : World} {g : Gr} (h : Gr.At w g) (hb : Below w.heap.size w w') : Gr.At w' g :=
  ⟨h.rules.below hb, h.nodes.below hb, fun x hx => (h.kids x hx).below hb, h.rl, h.nl, h.rn, h.nn, h.texts, h.names⟩
theorem Gr.At.alloc {w : World} {g : Gr} (h : Gr.At w g) (o : Obj) : Gr.At (w.alloc o) g := h.below (B1 _ _)
theorem Gr.At.node {w : World} {g : Gr} (h : Gr.At w g) {i : Nat} (hi : i < g.nodes.length) : Nd.At w (g.nodes.getD i Nd.zero) := h.kids _ (by simp [List.getD, List.getElem?_eq_getElem hi])
/-- A node's cells. -/
theorem Nodes.nine {w : World} {A : Option Addr} {l : List Nd} (h : Nodes w A l) {i : Nat} (hi : i < l.length) : ∃ b o, A = some ⟨b, o, none⟩ ∧ b < w.heap.size ∧
    w.cell? ⟨b, o + i * 9, none⟩ = some (.int .i64 (l.getD i Nd.zero).kind) ∧ w.cell? ⟨b, o + i * 9 + 1, none⟩ = some (.int .u64 (l.getD i Nd.zero).c0) ∧ w.cell? ⟨b, o + i * 9 + 2, none⟩ = some (.int .u64 (l.getD i Nd.zero).c1) ∧ w.cell? ⟨b, o + i * 9 + 3, none⟩ = some (.int .u64 (l.getD i Nd.zero).c2) ∧
    w.cell? ⟨b, o + i * 9 + 4, none⟩ = some (.int .u64 (l.getD i Nd.zero).c3) ∧ w.cell? ⟨b, o + i * 9 + 5, none⟩ = some (.string (l.getD i Nd.zero).text) ∧ w.cell? ⟨b, o + i * 9 + 6, none⟩ = some (.int .i64 (l.getD i Nd.zero).rule) ∧
    w.cell? ⟨b, o + i * 9 + 7, none⟩ = some (.int .i64 (l.getD i Nd.zero).level) ∧ w.cell? ⟨b, o + i * 9 + 8, none⟩ = some (.slice (l.getD i Nd.zero).A (l.getD i Nd.zero).kids.length (l.getD i Nd.zero).cap) := by
  obtain ⟨b, o, e, hl, hc⟩ := h (by omega)
  have k := hc i hi
  exact ⟨b, o, e, hl, k 0 (by decide), k 1 (by decide), k 2 (by decide), k 3 (by decide), k 4 (by decide), k 5 (by decide), k 6 (by decide), k 7 (by decide), k 8 (by decide)⟩

theorem tl_inj {a b : ByteArray} : a.toList = b.toList ↔ a = b := ⟨fun h => Go.WideShapes.bytes_inj (by rw [← ByteArray.toList_eq, ← ByteArray.toList_eq, h]), fun h => by rw [h]⟩
end Go.Proofs.YtfghfnpiaccfaaaGreatDoor
namespace Go.Proofs.YtfghfnpiaccfaaaGreatDoor
open Go Go.RowKit
@[go_sem] theorem eqClass (a b c d a' b' c' d' : Int) (w : World) : (Op.equalIn 10000 46 (.agg #[.int .u64 a, .int .u64 b, .int .u64 c, .int .u64 d]) (.agg #[.int .u64 a', .int .u64 b', .int .u64 c', .int .u64 d'])).run Tryz.prog w = .ok (a == a' && b == b' && c == c' && d == d') w := by
  have u3 := Tryz.underlying44
  have a3 := Tryz.isAgg44
  have z3 := Tryz.sizeOf44
  rw [show (10000 : Nat) = 9999 + 1 from rfl, Op.equalIn]
  simp only [Sem.run_bind, run_underlying Tryz.underlying46, Result.andThen_ok]
  simp only [Std.Legacy.Range.forIn_eq_forIn_range', Std.Legacy.Range.size, Nat.sub_zero, Nat.add_sub_cancel, Nat.div_one, List.range'_succ, List.range'_zero, List.forIn_cons, List.forIn_nil]
  go_simp
  by_cases h1 : a = a' <;> by_cases h2 : b = b' <;> by_cases h3 : c = c' <;> by_cases h4 : d = d' <;> simp [h1, h2, h3, h4]
theorem eqRule (a b : ByteArray) (c d : Int) (w : World) : (Op.equalIn 10000 50 (.agg #[.string a, .int .i64 c]) (.agg #[.string b, .int .i64 d])).run Tryz.prog w = .ok (decide (a.toList = b.toList) && c == d) w := by
  have u3 := Tryz.underlying3
  have a3 := Tryz.isAgg3
  have z3 := Tryz.sizeOf3
  have u9 := Tryz.underlying9
  have a9 := Tryz.isAgg9
  have z9 := Tryz.sizeOf9
  rw [show (10000 : Nat) = 9999 + 1 from rfl, Op.equalIn]
  simp only [Sem.run_bind, run_underlying Tryz.underlying50, Result.andThen_ok]
  go_simp
  by_cases h1 : a.toList = b.toList <;> by_cases h2 : c = d <;> simp [h1, h2]
theorem take_same {a b : List Int} {k : Nat} (hk : k < a.length) (hl : a.length = b.length) (h : a.take k = b.take k) : a.take (k + 1) = b.take (k + 1) ↔ a.getD k 0 = b.getD k 0 := by
  have e1 : a.take (k + 1) = a.take k ++ [a.getD k 0] := by rw [List.take_succ_eq_append_getElem hk]; simp [List.getD, List.getElem?_eq_getElem hk]
  have e2 : b.take (k + 1) = b.take k ++ [b.getD k 0] := by rw [List.take_succ_eq_append_getElem (by omega)]; simp [List.getD, List.getElem?_eq_getElem (show k < b.length by omega)]
  rw [e1, e2, h]
  simp
theorem getD_ne {a b : List Int} {k : Nat} (h : a.getD k 0 ≠ b.getD k 0) : a ≠ b := fun e => h (by rw [e])
/-- Two nodes are the same, part by part. -/
def sameNd (x y : Nd) : Bool := decide (x.kind = y.kind ∧ (x.c0 = y.c0 ∧ x.c1 = y.c1 ∧ x.c2 = y.c2 ∧ x.c3 = y.c3) ∧ x.text = y.text ∧ x.rule = y.rule ∧ x.level = y.level ∧ x.kids = y.kids)
/-- Two rows are as long, and the same place by place. -/
def rowSame {α : Type} (z : α) (f : α → α → Bool) (a b : List α) : Bool := decide (a.length = b.length ∧ ∀ i, i < a.length → f (a.getD i z) (b.getD i z) = true)
theorem rowSame_true {α : Type} {z : α} {f : α → α → Bool} {a b : List α} (h : a.length = b.length) (h2 : ∀ i, i < a.length → f (a.getD i z) (b.getD i z) = true) : rowSame z f a b = true := by simp [rowSame, h]; intro i hi; simpa using h2 i (by omega)
theorem rowSame_false {α : Type} {z : α} {f : α → α → Bool} {a b : List α} (i : Nat) (hi : i < a.length) (h2 : f (a.getD i z) (b.getD i z) = false) : rowSame z f a b = false := by
  simp only [rowSame, decide_eq_false_iff_not]
  intro h
  rw [h.2 i hi] at h2
  cases h2
theorem rowSame_len {α : Type} {z : α} {f : α → α → Bool} {a b : List α} (h : a.length ≠ b.length) : rowSame z f a b = false := by simp [rowSame, h]
theorem getD_mem {α : Type} {l : List α} {k : Nat} {z : α} (h : k < l.length) : l.getD k z ∈ l := by rw [List.getD_eq_getElem?_getD, List.getElem?_eq_getElem h]; exact List.getElem_mem h
def sameRl (a b : Rl) : Bool := decide (a.name = b.name ∧ a.body = b.body)
theorem Rules.two {w : World} {A : Option Addr} {l : List Rl} (h : Rules w A l) {i : Nat} (hi : i < l.length) : ∃ b o, A = some ⟨b, o, none⟩ ∧ b < w.heap.size ∧ w.cell? ⟨b, o + i * 2, none⟩ = some (.string (l.getD i Rl.zero).name) ∧ w.cell? ⟨b, o + i * 2 + 1, none⟩ = some (.int .i64 (l.getD i Rl.zero).body) := by
  obtain ⟨b, o, e, hl, hc⟩ := h (by omega)
  exact ⟨b, o, e, hl, hc i hi⟩
/-- Two grammars are the same, part by part. -/
def sameGr (g h : Gr) : Bool := rowSame Rl.zero sameRl g.rules h.rules && rowSame Nd.zero sameNd g.nodes h.nodes
theorem bel {w w1 w2 : World} (h1 : Below w.heap.size w w1) (h2 : Below w1.heap.size w1 w2) : Below w.heap.size w w2 := bb h1 h2
set_option maxHeartbeats 1000000 in
theorem ints_same (A B : Option Addr) (c d : Nat) (a b : List Int) (ha : a.length ≤ 140737488351232) (hb : b.length ≤ 140737488351232) (w : World) (hA : Lies w A (ints a)) (hB : Lies w B (ints b)) :
    Calls Tryz.prog 101 #[.slice A a.length c, .slice B b.length d] w fun e w' => e = .returned (.bool (decide (a = b))) ∧ ∃ n, w' = w.drewN n := by
  have HA := Lib.hid hA
  have HB := Lib.hid hB
  clear hA hB
  by_cases hl : a.length = b.length
  · have HL := Lib.hid hl
    obtain ⟨m, em⟩ : ∃ m, m = b.length := ⟨_, rfl⟩
    rw [← em] at hl hb ⊢
    rw [hl] at ha ⊢
    have EM := Lib.hid em
    clear em hl
    go_enter Tryz.func101, Tryz.ntmps101
    go_wp2_with fail
    go_loopw [5] (fun i wr => ∃ (k n : Nat), k ≤ m ∧ i = .int .i64 k ∧ a.take k = b.take k ∧ wr = w.drewN n) (fun i _ => m - (intOf i).toNat)
    case atStart => exact ⟨0, 0, by omega, rfl, by simp, rfl⟩
    case round =>
      obtain ⟨k, n, hk, rfl, ht, rfl⟩ := hrel
      have HT := Lib.hid ht
      clear ht
      by_cases hlt : k < m
      · have hlt2 : (k : Int) < m := by omega
        obtain ⟨b1, o1, rfl, _, c1⟩ := lies_cell HA.out (show k < a.length by have := HL.out; have := EM.out; omega)
        obtain ⟨b2, o2, rfl, _, c2⟩ := lies_cell HB.out (show k < b.length by have := EM.out; omega)
        have HS := Lib.hid (take_same (a := a) (b := b) (k := k) (by have := HL.out; have := EM.out; omega) HL.out HT.out)
        have HN := Lib.hid (@getD_ne a b k)
        generalize a.getD k 0 = x at c1 HS HN
        generalize b.getD k 0 = y at c2 HS HN
        by_cases hxy : x = y
        · have HK := Lib.hid (HS.out.2 hxy)
          have hb : (x == y) = true := by simpa using hxy
          have hb2 : (x != y) = false := by simpa using hxy
          clear HS HN hxy
          go_wp2_with fail
          go_quiet (fail)
          go_wp2_with fail
          go_roundw
          case rel => exact ⟨k + 1, n + nq, by omega, by go_num, HK.out, by first | rfl | exact World.drewN_drewN _ _ _⟩
          case measure => simp [intOf]; omega
        · have HK := Lib.hid (HN.out hxy)
          have hb : (x == y) = false := by simpa using hxy
          have hb2 : (x != y) = true := by simpa using hxy
          clear HS HN hxy
          go_wp2_with fail
          go_quiet (fail)
          go_wp2_with fail
          go_ret
          exact ⟨ret_bool (by simpa using HK.out), n + nq, by first | rfl | exact World.drewN_drewN _ _ _⟩
      · obtain rfl : k = m := by omega
        have hlt2 : ¬ (k : Int) < k := by omega
        go_wp2_with fail
        go_ret
        exact ⟨ret_bool (by have := HT.out; rw [List.take_of_length_le (by have := HL.out; have := EM.out; omega), List.take_of_length_le (by have := EM.out; omega)] at this; simp [this]), n, rfl⟩
  · have hne : ¬ (a.length : Int) = b.length := by omega
    have hv : decide (a = b) = false := by simp; intro e; rw [e] at hl; exact hl rfl
    rw [hv]
    clear hv hl
    go_enter Tryz.func101, Tryz.ntmps101
    go_wp2_with fail
    go_ret
    exact ⟨rfl, 0, rfl⟩
set_option maxHeartbeats 1000000 in
theorem kitSame_any (x y : Nd) (w : World) (hx : Nd.At w x) (hy : Nd.At w y) : Calls Tryz.prog 100 #[x.val, y.val] w fun e w' => e = .returned (.bool (sameNd x y)) ∧ Below w.heap.size w w' := by
  have R := Lib.hid (fun (w' : World) (h : Below w.heap.size w w') => ints_same x.A y.A x.cap y.cap x.kids y.kids hx.2.2 hy.2.2 w' (hx.below h).1 (hy.below h).1)
  clear hx hy
  go_enter Tryz.func100, Tryz.ntmps100
  go_wp2_with (go_at_call 101; refine (R.out _ (B2 _ _ _)).mono ?_; rintro e w1 ⟨rfl, n, rfl⟩)
  all_goals go_ret
  all_goals refine ⟨ret_bool ?_, by first | exact B2 _ _ _ | exact bdrew (B2 _ _ _)⟩
  all_goals (unfold sameNd; rw [Bool.eq_iff_iff]; simp only [tl_inj, beq_iff_eq, Bool.and_eq_true, decide_eq_true_eq, Bool.false_eq_true] at *; simp_all)

set_option maxHeartbeats 2000000 in
theorem kitRules_any (A B : Option Addr) (c d : Nat) (a b : List Rl) (ha : a.length ≤ 140737488351232) (hb : b.length ≤ 140737488351232) (w : World) (hA : Rules w A a) (hB : Rules w B b) :
    Calls Tryz.prog 50 #[.slice A a.length c, .slice B b.length d] w fun e w' => e = .returned (.bool (rowSame Rl.zero sameRl a b)) ∧ ∃ n, w' = w.drewN n := by
  have HA := Lib.hid hA
  have HB := Lib.hid hB
  clear hA hB
  by_cases hl : a.length = b.length
  · have HL := Lib.hid hl
    have RT := Lib.hid (rowSame_true (z := Rl.zero) (f := sameRl) (a := a) (b := b))
    have RF := Lib.hid (rowSame_false (z := Rl.zero) (f := sameRl) (a := a) (b := b))
    obtain ⟨v, ev⟩ : ∃ v, v = rowSame Rl.zero sameRl a b := ⟨_, rfl⟩
    rw [← ev] at RT RF ⊢
    clear ev
    obtain ⟨m, em⟩ : ∃ m, m = b.length := ⟨_, rfl⟩
    rw [← em] at hl hb ⊢
    rw [hl] at ha ⊢
    have EM := Lib.hid em
    clear em hl
    go_enter Tryz.func50, Tryz.ntmps50
    go_wp2_with fail
    go_loopw [5] (fun i wr => ∃ (k n : Nat), k ≤ m ∧ i = .int .i64 k ∧ (∀ j, j < k → sameRl (a.getD j Rl.zero) (b.getD j Rl.zero) = true) ∧ wr = w.drewN n) (fun i _ => m - (intOf i).toNat)
    case atStart => exact ⟨0, 0, by omega, rfl, fun j h => by omega, rfl⟩
    case round =>
      obtain ⟨k, n, hk, rfl, ht, rfl⟩ := hrel
      have HT := Lib.hid ht
      clear ht
      by_cases hlt : k < m
      · have hlt2 : (k : Int) < m := by omega
        obtain ⟨b1, o1, rfl, _, c1, c2⟩ := HA.out.two (show k < a.length by have := HL.out; have := EM.out; omega)
        obtain ⟨b2, o2, rfl, _, c3, c4⟩ := HB.out.two (show k < b.length by have := EM.out; omega)
        generalize hx : a.getD k Rl.zero = x at *
        generalize hy : b.getD k Rl.zero = y at *
        have HX := Lib.hid hx
        have HY := Lib.hid hy
        clear hx hy
        obtain ⟨sv, es⟩ : ∃ sv, sv = sameRl x y := ⟨_, rfl⟩
        have q1 : (decide (x.name.toList = y.name.toList) && x.body == y.body) = sv := by rw [es, Bool.eq_iff_iff]; simp [sameRl, tl_inj]
        have ES := Lib.hid es
        have EQ : ∀ w', (Op.equalIn 10000 50 (.agg #[.string x.name, .int .i64 x.body]) (.agg #[.string y.name, .int .i64 y.body])).run Tryz.prog w' = .ok sv w' := fun w' => by rw [eqRule, q1]
        clear es q1
        generalize x.name = xn at *
        generalize y.name = yn at *
        generalize x.body = xb at *
        generalize y.body = yb at *
        cases sv with
        | true =>
          go_wp2_with fail
          go_quiet (fail)
          go_wp2_with fail
          go_roundw
          case rel => exact ⟨k + 1, n + nq, by omega, by go_num, fun j hj => by
              by_cases e : j = k
              · subst e; rw [HX.out, HY.out]; exact ES.out.symm
              · exact HT.out j (by omega), by first | rfl | exact World.drewN_drewN _ _ _⟩
          case measure => simp [intOf]; omega
        | false =>
          go_wp2_with fail
          go_quiet (fail)
          go_wp2_with fail
          go_ret
          exact ⟨ret_bool (RF.out k (by have := HL.out; have := EM.out; omega) (by rw [HX.out, HY.out]; exact ES.out.symm)).symm, n + nq, by first | rfl | exact World.drewN_drewN _ _ _⟩
      · obtain rfl : k = m := by omega
        have hlt2 : ¬ (k : Int) < k := by omega
        go_wp2_with fail
        go_ret
        exact ⟨ret_bool (RT.out HL.out (fun i hi => HT.out i (by have := HL.out; have := EM.out; omega))).symm, n, rfl⟩
  · have hne : ¬ (a.length : Int) = b.length := by omega
    rw [rowSame_len hl]
    clear hl
    go_enter Tryz.func50, Tryz.ntmps50
    go_wp2_with fail
    go_ret
    exact ⟨rfl, 0, rfl⟩
set_option maxRecDepth 100000 in
set_option maxHeartbeats 2000000 in
theorem kitNodes_any (A B : Option Addr) (c d : Nat) (a b : List Nd) (ha : a.length ≤ 140737488351232) (hb : b.length ≤ 140737488351232) (w : World) (hA : Nodes w A a) (hB : Nodes w B b) (hxa : ∀ x ∈ a, Nd.At w x) (hxb : ∀ x ∈ b, Nd.At w x) :
    Calls Tryz.prog 51 #[.slice A a.length c, .slice B b.length d] w fun e w' => e = .returned (.bool (rowSame Nd.zero sameNd a b)) ∧ Below w.heap.size w w' := by
  have HA := Lib.hid hA
  have HB := Lib.hid hB
  have XA := Lib.hid hxa
  have XB := Lib.hid hxb
  clear hxa hxb
  clear hA hB
  by_cases hl : a.length = b.length
  · have HL := Lib.hid hl
    have RT := Lib.hid (rowSame_true (z := Nd.zero) (f := sameNd) (a := a) (b := b))
    have RF := Lib.hid (rowSame_false (z := Nd.zero) (f := sameNd) (a := a) (b := b))
    obtain ⟨v, ev⟩ : ∃ v, v = rowSame Nd.zero sameNd a b := ⟨_, rfl⟩
    rw [← ev] at RT RF ⊢
    clear ev
    obtain ⟨m, em⟩ : ∃ m, m = b.length := ⟨_, rfl⟩
    rw [← em] at hl hb ⊢
    rw [hl] at ha ⊢
    have EM := Lib.hid em
    clear em hl
    go_enter Tryz.func51, Tryz.ntmps51
    go_wp2_with fail
    go_loopw [5] (fun i wr => ∃ (k : Nat), k ≤ m ∧ i = .int .i64 k ∧ (∀ j, j < k → sameNd (a.getD j Nd.zero) (b.getD j Nd.zero) = true) ∧ Below w.heap.size w wr) (fun i _ => m - (intOf i).toNat)
    case atStart => exact ⟨0, by omega, rfl, fun j h => by omega, Below.refl _ _⟩
    case round =>
      obtain ⟨k, hk, rfl, ht, hbl⟩ := hrel
      have HT := Lib.hid ht
      have BL := Lib.hid hbl
      clear ht hbl
      by_cases hlt : k < m
      · have hlt2 : (k : Int) < m := by omega
        obtain ⟨b1, o1, rfl, _, c1, c2, c3, c4, c5, c6, c7, c8, c9⟩ := (HA.out.below BL.out).nine (show k < a.length by have := HL.out; have := EM.out; omega)
        obtain ⟨b2, o2, rfl, _, c10, c11, c12, c13, c14, c15, c16, c17, c18⟩ := (HB.out.below BL.out).nine (show k < b.length by have := EM.out; omega)
        have T := Lib.hid (fun (w' : World) (h : Below wr.heap.size wr w') => kitSame_any (a.getD k Nd.zero) (b.getD k Nd.zero) w' (((XA.out _ (by exact getD_mem (by have := HL.out; have := EM.out; omega))).below BL.out).below h) (((XB.out _ (by exact getD_mem (by have := EM.out; omega))).below BL.out).below h))
        have SV := Lib.hid (show sameNd (a.getD k Nd.zero) (b.getD k Nd.zero) = sameNd (a.getD k Nd.zero) (b.getD k Nd.zero) from rfl)
        generalize hx : a.getD k Nd.zero = x at *
        generalize hy : b.getD k Nd.zero = y at *
        have HX := Lib.hid hx
        have HY := Lib.hid hy
        clear hx hy
        have d1 := fun e => Ext.cell c1 e
        have d2 := fun e => Ext.cell c2 e
        have d3 := fun e => Ext.cell c3 e
        have d4 := fun e => Ext.cell c4 e
        have d5 := fun e => Ext.cell c5 e
        have d6 := fun e => Ext.cell c6 e
        have d7 := fun e => Ext.cell c7 e
        have d8 := fun e => Ext.cell c8 e
        have d9 := fun e => Ext.cell c9 e
        have d10 := fun e => Ext.cell c10 e
        have d11 := fun e => Ext.cell c11 e
        have d12 := fun e => Ext.cell c12 e
        have d13 := fun e => Ext.cell c13 e
        have d14 := fun e => Ext.cell c14 e
        have d15 := fun e => Ext.cell c15 e
        have d16 := fun e => Ext.cell c16 e
        have d17 := fun e => Ext.cell c17 e
        have d18 := fun e => Ext.cell c18 e
        clear c1 c2 c3 c4 c5 c6 c7 c8 c9 c10 c11 c12 c13 c14 c15 c16 c17 c18
        obtain ⟨sv, es⟩ : ∃ sv, sv = sameNd x y := ⟨_, rfl⟩
        rw [← es] at T
        have ES := Lib.hid es
        clear es SV
        cases sv with
        | true =>
          go_wp2_with fail
          refine wp_region_ext (by kernel_rfl) (by kernel_rfl) ?_
          repeat (first | go_big_quiet_step ((go_at_call 100; exact Calls.ext_of (T.out _ (Ext.grown _)))) | quiet_step ((go_at_call 100; exact Calls.ext_of (T.out _ (Ext.grown _)))))
          refine wpQuiet_nil ?_
          intro _ hw'
          obtain ⟨⟨w1, hb1⟩, rfl⟩ := hw'
          have B1' := Lib.hid (bb BL.out hb1)
          clear hb1 d1 d2 d3 d4 d5 d6 d7 d8 d9 d10 d11 d12 d13 d14 d15 d16 d17 d18 T
          go_wp2_with fail
          go_roundw
          case rel => exact ⟨k + 1, by omega, by go_num, fun j hj => by
              by_cases e : j = k
              · subst e; rw [HX.out, HY.out]; exact ES.out.symm
              · exact HT.out j (by omega), B1'.out⟩
          case measure => simp [intOf]; omega
        | false =>
          go_wp2_with fail
          refine wp_region_ext (by kernel_rfl) (by kernel_rfl) ?_
          repeat (first | go_big_quiet_step ((go_at_call 100; exact Calls.ext_of (T.out _ (Ext.grown _)))) | quiet_step ((go_at_call 100; exact Calls.ext_of (T.out _ (Ext.grown _)))))
          refine wpQuiet_nil ?_
          intro _ hw'
          obtain ⟨⟨w1, hb1⟩, rfl⟩ := hw'
          have B1' := Lib.hid (bb BL.out hb1)
          clear hb1 d1 d2 d3 d4 d5 d6 d7 d8 d9 d10 d11 d12 d13 d14 d15 d16 d17 d18 T
          go_wp2_with fail
          go_ret
          exact ⟨ret_bool (RF.out k (by have := HL.out; have := EM.out; omega) (by rw [HX.out, HY.out]; exact ES.out.symm)).symm, B1'.out⟩
      · obtain rfl : k = m := by omega
        have hlt2 : ¬ (k : Int) < k := by omega
        go_wp2_with fail
        go_ret
        exact ⟨ret_bool (RT.out HL.out (fun i hi => HT.out i (by have := HL.out; have := EM.out; omega))).symm, BL.out⟩
  · have hne : ¬ (a.length : Int) = b.length := by omega
    rw [rowSame_len hl]
    clear hl
    go_enter Tryz.func51, Tryz.ntmps51
    go_wp2_with fail
    go_ret
    exact ⟨rfl, Below.refl _ _⟩

set_option maxHeartbeats 1000000 in
theorem kitGram_any (g h : Gr) (w : World) (hg : Gr.At w g) (hh : Gr.At w h) : Calls Tryz.prog 18 #[g.val, h.val] w fun e w' => e = .returned (.bool (sameGr g h)) ∧ Below w.heap.size w w' := by
  have R := Lib.hid (fun (w' : World) (b : Below w.heap.size w w') => kitRules_any g.RA h.RA g.rc h.rc g.rules h.rules hg.rl hh.rl w' (hg.below b).rules (hh.below b).rules)
  have N := Lib.hid (fun (w' : World) (b : Below w.heap.size w w') => kitNodes_any g.NA h.NA g.nc h.nc g.nodes h.nodes hg.nl hh.nl w' (hg.below b).nodes (hh.below b).nodes (hg.below b).kids (hh.below b).kids)
  clear hg hh
  have HV := Lib.hid (show sameGr g h = (rowSame Rl.zero sameRl g.rules h.rules && rowSame Nd.zero sameNd g.nodes h.nodes) from rfl)
  obtain ⟨x, ex⟩ : ∃ x, x = rowSame Rl.zero sameRl g.rules h.rules := ⟨_, rfl⟩
  obtain ⟨y, ey⟩ : ∃ y, y = rowSame Nd.zero sameNd g.nodes h.nodes := ⟨_, rfl⟩
  rw [← ex] at R HV
  rw [← ey] at N HV
  clear ex ey
  cases x with
  | true =>
    go_enter Tryz.func18, Tryz.ntmps18
    go_wp2_with (first | (go_at_call 50; refine (R.out _ (B2 _ _ _)).mono ?_; rintro e w1 ⟨rfl, nn, rfl⟩; have H1 := Lib.hid (bdrew (n := nn) (B2 w (.cells #[.slice g.RA g.rules.length g.rc, .slice g.NA g.nodes.length g.nc] 25) (.cells #[.slice h.RA h.rules.length h.rc, .slice h.NA h.nodes.length h.nc] 25)))) | (go_at_call 51; refine (N.out _ H1.out).mono ?_; rintro e w2 ⟨rfl, hb⟩; have H2 := Lib.hid (bb H1.out hb); clear hb))
    all_goals go_ret
    all_goals exact ⟨ret_bool (by rw [HV.out]; simp), H2.out⟩
  | false =>
    go_enter Tryz.func18, Tryz.ntmps18
    go_wp2_with (go_at_call 50; refine (R.out _ (B2 _ _ _)).mono ?_; rintro e w1 ⟨rfl, nn, rfl⟩)
    all_goals go_ret
    all_goals exact ⟨ret_bool (by rw [HV.out]; simp), bdrew (B2 _ _ _)⟩
end Go.Proofs.YtfghfnpiaccfaaaGreatDoor

/- Helpers: worlds, blocks, rows of values; an arena in memory. -/
import Derived.Test.YtfcacgiejoeneaaRows
import Derived.WalkKit
import Derived.WalkSpells
import Derived.Lib.Hide
import Derived.Deep.QuietTactic
import Derived.BigQuiet
import Derived.Deep.Draws
import Derived.Deep.RegionWith
import Derived.Outline
import Derived.IntWalk
import Derived.OwnWalk
import Derived.Laws.OwnMore
import Derived.Laws.Rows
import Derived.Laws.AppendOwnNone
import Derived.Laws.MakeOwn
import Derived.LaidEqlPtr
import Derived.Maps.AppendAt
import Derived.Lib.SliceRun
set_option linter.unusedSimpArgs false
set_option linter.unusedVariables false
namespace Go.Proofs.Ytfcacgiejoeneaa
open Go Go.RowKit

theorem bt {B : Nat} {a b c : World} (h : Below B a b) (h' : Below b.heap.size b c) (hB : B ≤ b.heap.size) : Below B a c := h.trans (h'.mono hB)
theorem bb {a b c : World} (h : Below a.heap.size a b) (h' : Below b.heap.size b c) : Below a.heap.size a c := h.trans (h'.mono h.size)
theorem bdrew {B n : Nat} {a w : World} (h : Below B a w) : Below B a (w.drewN n) := ⟨h.os, h.tape, h.output, h.size, h.block⟩
theorem bdrew1 {B : Nat} {a w : World} (h : Below B a w) : Below B a w.drew := ⟨h.os, h.tape, h.output, h.size, h.block⟩
/-- Block b is whole, and reads vs. -/
def Blk (w : World) (b : Nat) (vs : Array Value) (T : TypeId) : Prop := w.heap[b]? = some (.cells vs T (0, 0))
theorem Blk.lt {w : World} {b : Nat} {vs : Array Value} {T : TypeId} (h : Blk w b vs T) : b < w.heap.size := (Array.getElem?_eq_some_iff.1 h).1
theorem Blk.cell {w : World} {b : Nat} {vs : Array Value} {T : TypeId} (h : Blk w b vs T) (j : Nat) : w.cell? ⟨b, j, none⟩ = vs[j]? := by simp [World.cell?, show w.heap[b]? = _ from h]
theorem Blk.frozen {w : World} {b : Nat} {vs : Array Value} {T : TypeId} (h : Blk w b vs T) (j : Nat) : w.frozen? ⟨b, j, none⟩ = false := by simp [World.frozen?, show w.heap[b]? = _ from h]
theorem Blk.below {w w' : World} {b B : Nat} {vs : Array Value} {T : TypeId} (h : Blk w b vs T) (hb : Below B w w') (hl : b < B) : Blk w' b vs T := (hb.block b hl).trans h
theorem Blk.below' {w w' : World} {b : Nat} {vs : Array Value} {T : TypeId} (h : Blk w b vs T) (hb : Below w.heap.size w w') : Blk w' b vs T := h.below hb h.lt
theorem Blk.alloc {w : World} {b : Nat} {vs : Array Value} {T : TypeId} (h : Blk w b vs T) (o : Obj) : Blk (w.alloc o) b vs T := (Below.heap_alloc w o b h.lt).trans h
theorem Blk.new (w : World) (vs : Array Value) (T : TypeId) : Blk (w.alloc (.cells vs T)) w.heap.size vs T := heap_alloc_new w _
theorem Blk.drewN {w : World} {b n : Nat} {vs : Array Value} {T : TypeId} (h : Blk w b vs T) : Blk (w.drewN n) b vs T := h
theorem ret_int {k : IntKind} {a b : Int} (h : a = b) : Ending.returned (.int k a) = .returned (.int k b) := by rw [h]
theorem ret_bool {a b : Bool} (h : a = b) : Ending.returned (.bool a) = .returned (.bool b) := by rw [h]
abbrev B1 (w : World) (o : Obj) : Below w.heap.size w (w.alloc o) := (Below.refl _ _).alloc (Nat.le_refl _) o
theorem B2 (w : World) (o p : Obj) : Below w.heap.size w ((w.alloc o).alloc p) := (B1 w o).alloc (by simp) p
theorem drewN_two (w : World) (n m : Nat) : (w.drewN n).drewN m = w.drewN (n + m) := by simp [World.drewN, Nat.add_assoc]

theorem neq_same {P : Program} (w : World) {tp te : TypeId} {j : TypeInfo} (a : Addr) (hp : P.underlying tp = some (.pointer te)) (hte : P.info? te = some j) :
    (binOp .neq tp (.pointer (some a)) (.pointer (some a))).run P w = .ok (.bool false) w := by
  have h : ∀ d : Nat, (Op.equalIn (d + 1) tp (.pointer (some a)) (.pointer (some a))).run P w = .ok true w := fun d => by
    simp [Op.equalIn, run_underlying hp, sizeOf, typeInfo, hte, run_sameAddr_same]
  simp only [binOp]
  simp [Op.equal, Op.maxDepth, h 9999]
theorem neq_nil_l {P : Program} (w : World) {tp te : TypeId} (a : Addr) (hp : P.underlying tp = some (.pointer te)) :
    (binOp .neq tp (.pointer none) (.pointer (some a))).run P w = .ok (.bool true) w := by
  have h : ∀ d : Nat, (Op.equalIn (d + 1) tp (.pointer none) (.pointer (some a))).run P w = .ok false w := fun d => by
    simp [Op.equalIn, run_underlying hp]
  simp only [binOp]
  simp [Op.equal, Op.maxDepth, h 9999]

theorem q_left {P : Program} {f : FuncId} {args : Array Value} {w : World} {n : Nat} {v : Value}
    (h : Calls P f args (w.drewN n) fun e w' => e = .returned v ∧ w.drewN n = w') : Calls P f args (w.drewN n) fun e w'' => e = .returned v ∧ ∃ m, w'' = w.drewN m :=
  h.mono fun _ _ ⟨he, hm⟩ => ⟨he, n, hm.symm⟩
theorem q_drew {P : Program} {f : FuncId} {args : Array Value} {w : World} {n : Nat} {v : Value}
    (h : Calls P f args (w.drewN n) fun e w' => e = .returned v ∧ ∃ k, w' = (w.drewN n).drewN k) : Calls P f args (w.drewN n) fun e w'' => e = .returned v ∧ ∃ m, w'' = w.drewN m :=
  h.mono fun _ _ ⟨he, k, hm⟩ => ⟨he, n + k, by rw [hm, drewN_two]⟩

/-- Values in memory, one behind the other, one cell each. -/
def Lies (w : World) (A : Option Addr) (l : List Value) : Prop :=
  0 < l.length → ∃ b o, A = some ⟨b, o, none⟩ ∧ b < w.heap.size ∧ ∀ i, i < l.length → w.cell? ⟨b, o + i, none⟩ = l[i]?
theorem Lies.below {w w' : World} {A : Option Addr} {l : List Value} (h : Lies w A l) (hb : Below w.heap.size w w') : Lies w' A l := by
  intro h0
  obtain ⟨b, o, e, hl, hc⟩ := h h0
  exact ⟨b, o, e, Nat.lt_of_lt_of_le hl hb.size, fun i hi => (hb.cell (p := ⟨b, o + i, none⟩) hl).trans (hc i hi)⟩
theorem Lies.drewN {w : World} {A : Option Addr} {l : List Value} {n : Nat} (h : Lies w A l) : Lies (w.drewN n) A l := h

/-- What a row of the call's own is: none, or a slice. -/
theorem own_slice {w : World} {base n : Nat} {e size : Nat} {v : Value} {xs : List Value} (h : w.ownsRow base e size v n xs) : ∃ A c, v = .slice A n c ∧ (A = none → n = 0 ∧ c = 0) ∧ n ≤ c := by
  rcases h.2 with ⟨rfl, rfl⟩ | ⟨g, cap, cur, rfl, hb, hh, h1, h2, _⟩
  · exact ⟨none, 0, rfl, fun _ => ⟨rfl, rfl⟩, Nat.le_refl _⟩
  · exact ⟨_, cap, rfl, fun h => (by cases h), h1⟩
theorem own_shape {w : World} {base e size n : Nat} {v : Value} {xs : List Value} (h : w.ownsRow base e size v n xs) (h0 : 0 < n) : ∃ g cap, v = .slice (some ⟨g, 0, none⟩) n cap ∧ base ≤ g ∧ n ≤ cap ∧ cap ≤ maxLen ∧ g < w.heap.size := by
  rcases h.2 with ⟨_, hn⟩ | ⟨g, cap, cur, rfl, hb, hh, h1, h2, _⟩
  · omega
  · exact ⟨g, cap, rfl, hb, h1, h2, (Array.getElem?_eq_some_iff.1 hh).1⟩
theorem own_lies {w : World} {base e : Nat} {A : Option Addr} {c : Nat} {xs : List Value} (h : w.ownsRow base e 1 (.slice A xs.length c) xs.length xs) : Lies w A xs := by
  intro h0
  obtain ⟨g, cap, e, _, _, _, hg⟩ := own_shape h h0
  cases e
  refine ⟨g, 0, rfl, hg, fun i hi => ?_⟩
  rw [Nat.zero_add, h.cellAt i (by omega)]
theorem own_kept {w w' : World} {base e size n : Nat} {v : Value} {xs : List Value} (h : w.ownsRow base e size v n xs) (hk : ∀ k, v.ownBlock = some k → w'.heap[k]? = w.heap[k]?) : w'.ownsRow base e size v n xs := by
  refine ⟨h.1, ?_⟩
  rcases h.2 with hn | ⟨g, cap, cur, rfl, hb, hg, rest⟩
  · exact .inl hn
  · exact .inr ⟨g, cap, cur, rfl, hb, (hk g rfl).trans hg, rest⟩
theorem own_ne {w : World} {base e size n b : Nat} {v : Value} {xs : List Value} {vs : Array Value} {T : TypeId} (h : w.ownsRow base e size v n xs) (hb : Blk w b vs T) (hT : T ≠ e) : v.ownBlock ≠ some b := by
  rcases h.2 with ⟨rfl, _⟩ | ⟨g, cap, cur, rfl, _, hg, _⟩
  · simp [Value.ownBlock]
  · simp only [Value.ownBlock, ne_eq, Option.some.injEq]
    rintro rfl
    rw [show w.heap[g]? = _ from hb] at hg
    cases hg
    exact hT rfl

/-- An arena in memory: where it lies, how many it is for, how many it had at the most, its row, what it has. -/
structure Ar (T E : TypeId) (w : World) (base b : Nat) (most peak : Int) (v : Value) (xs : List Value) : Prop where
  lo : base ≤ b
  blk : Blk w b #[v, .int .i64 most, .int .i64 peak, .pointer (some ⟨b, 0, none⟩)] T
  own : w.ownsRow base E 1 v xs.length xs
  fits : (xs.length : Int) ≤ most
  room : most < 9223372036854775808
  up : (xs.length : Int) ≤ peak
  top : peak ≤ most

/-- What a call that turns an arena does: its own block, its row; a row that it has got is the one that it had, or new. -/
structure Turn (w w' : World) (b : Nat) (v v' : Value) : Prop where
  os : w'.os = w.os
  tape : w'.tape = w.tape
  output : w'.output = w.output
  size : w.heap.size ≤ w'.heap.size
  block : ∀ k, k < w.heap.size → k ≠ b → v.ownBlock ≠ some k → w'.heap[k]? = w.heap[k]?
  fresh : ∀ k, v'.ownBlock = some k → v.ownBlock = some k ∨ w.heap.size ≤ k
theorem Turn.below {T E : TypeId} {w w' : World} {base b : Nat} {most peak : Int} {v v' : Value} {xs : List Value} (h : Turn w w' b v v') (ha : Ar T E w base b most peak v xs) (hB : base ≤ w.heap.size) : Below base w w' :=
  ⟨h.os, h.tape, h.output, h.size, fun k hk => h.block k (by omega) (by have := ha.lo; omega) (fun e => by have := (ha.own.lt k e).1; omega)⟩
theorem Turn.same (w : World) (b n : Nat) (v : Value) : Turn w (w.drewN n) b v v := ⟨rfl, rfl, rfl, Nat.le_refl _, fun _ _ _ _ => rfl, fun _ h => .inl h⟩
theorem Turn.ofDrew {w w' : World} {b n : Nat} {v v' : Value} (h : Turn (w.drewN n) w' b v v') : Turn w w' b v v' := ⟨h.os, h.tape, h.output, h.size, h.block, h.fresh⟩
theorem Turn.thenDrew {w w' : World} {b n : Nat} {v v' : Value} (h : Turn w w' b v v') : Turn w (w'.drewN n) b v v' := ⟨h.os, h.tape, h.output, h.size, h.block, h.fresh⟩
theorem Ar.kept {T E : TypeId} {w w' : World} {base b : Nat} {most peak : Int} {v : Value} {xs : List Value} (h : Ar T E w base b most peak v xs) (h1 : w'.heap[b]? = w.heap[b]?) (h2 : ∀ k, v.ownBlock = some k → w'.heap[k]? = w.heap[k]?) : Ar T E w' base b most peak v xs :=
  ⟨h.lo, h1.trans h.blk, own_kept h.own h2, h.fits, h.room, h.up, h.top⟩
theorem Ar.below {T E : TypeId} {w w' : World} {base b : Nat} {most peak : Int} {v : Value} {xs : List Value} (h : Ar T E w base b most peak v xs) (hb : Below w.heap.size w w') : Ar T E w' base b most peak v xs :=
  h.kept (hb.block b h.blk.lt) (fun k e => hb.block k (h.own.lt k e).2)
theorem Ar.drewN {T E : TypeId} {w : World} {base b n : Nat} {most peak : Int} {v : Value} {xs : List Value} (h : Ar T E w base b most peak v xs) : Ar T E (w.drewN n) base b most peak v xs :=
  h.kept rfl (fun _ _ => rfl)
/-- An arena stays as another one turns: neither its block nor its row is the other's. -/
theorem Ar.other {T E : TypeId} {w w' : World} {base b c : Nat} {most peak : Int} {v u u' : Value} {xs : List Value} (h : Ar T E w base b most peak v xs) (ht : Turn w w' c u u') (hbc : b ≠ c) (hu : u.ownBlock ≠ some b) (hvc : v.ownBlock ≠ some c) (hvu : ∀ k, v.ownBlock = some k → u.ownBlock ≠ some k) : Ar T E w' base b most peak v xs :=
  h.kept (ht.block b h.blk.lt hbc hu) (fun k e => ht.block k (h.own.lt k e).2 (fun h => hvc (by rw [e, h])) (hvu k e))
theorem ar_cells {T E : TypeId} {w : World} {base b : Nat} {most peak : Int} {v : Value} {xs : List Value} (h : Ar T E w base b most peak v xs) :
    w.cell? ⟨b, 0, none⟩ = some v ∧ w.cell? ⟨b, 1, none⟩ = some (.int .i64 most) ∧ w.cell? ⟨b, 2, none⟩ = some (.int .i64 peak) ∧ w.cell? ⟨b, 3, none⟩ = some (.pointer (some ⟨b, 0, none⟩)) :=
  ⟨by rw [h.blk.cell]; rfl, by rw [h.blk.cell]; rfl, by rw [h.blk.cell]; rfl, by rw [h.blk.cell]; rfl⟩
/-- The greatest count is written beside a row that grew. -/
theorem peak_store {T E : TypeId} {w w1 : World} {base b : Nat} {most peak : Int} {v v1 : Value} {xs ys : List Value} (ha : Ar T E w base b most peak v xs) (hTE : T ≠ E)
    (ho : w1.ownsRow base E 1 v1 ys.length ys) (hB : Blk w1 b #[v1, .int .i64 most, .int .i64 peak, .pointer (some ⟨b, 0, none⟩)] T) (ht : Turn w w1 b v v1) (k : Nat) (p : Int) (h1 : (ys.length : Int) ≤ p) (h2 : p ≤ most) :
    Ar T E ((w1.drewN k).setCell ⟨b, 2, none⟩ (.int .i64 p)) base b most p v1 ys ∧ Turn w ((w1.drewN k).setCell ⟨b, 2, none⟩ (.int .i64 p)) b v v1 := by
  have hv1 := own_ne ho hB hTE
  have hB' : Blk (w1.drewN k) b #[v1, .int .i64 most, .int .i64 peak, .pointer (some ⟨b, 0, none⟩)] T := hB
  refine ⟨⟨ha.lo, heap_setCell_same (w1.drewN k) b 2 _ T _ hB', own_kept ho (fun j e => ?_), by omega, ha.room, h1, h2⟩, ⟨ht.os, ht.tape, ht.output, by simpa [World.setCell] using ht.size, fun j hj h3 h4 => ?_, ht.fresh⟩⟩
  · exact heap_setCell_other (w1.drewN k) ⟨b, 2, none⟩ j _ (fun h => hv1 (by rw [e, show j = b from h]))
  · exact (heap_setCell_other (w1.drewN k) ⟨b, 2, none⟩ j _ (show j ≠ b from h3)).trans (ht.block j hj h3 h4)
theorem max_if (p : Int) (a b : Nat) : (if p < (a : Int) + b then (a : Int) + b else p) = max p ((a + b : Nat) : Int) := by
  rw [Int.natCast_add]; split <;> omega
end Go.Proofs.Ytfcacgiejoeneaa
namespace Go.Proofs.Ytfcacgiejoeneaa
open Go Go.RowKit
theorem append_turn {P : Program} (w : World) (base : Nat) (t ty e : TypeId) (i : TypeInfo) (z : Value) (bytes : Nat) (ht : P.underlying t = some (.slice e)) (hi : P.info? e = some i) (hz : i.zero = some z)
    (hsize : i.size = 1) (hby : i.bytes = bytes) (hzs : z.cells.size = 1)
    (v : Value) (xs : List Value) (hown : w.ownsRow base e 1 v xs.length xs) (A : Option Addr) (c : Nat) (l : List Value) (hl : Lies w A l) (hnc : A = none → c = 0) (h1 : ∀ u ∈ l, u.oneCell' = true)
    (h63 : xs.length + l.length ≤ maxLen) (hbytes : (xs.length + l.length) * bytes ≤ 140737488355328) (hbase : base ≤ w.heap.size) :
    ∃ v' w', (Builtin.append_ #[t, t] ty #[v, .slice A l.length c]).run P w = .ok v' w' ∧ w'.ownsRow base e 1 v' (xs ++ l).length (xs ++ l) ∧ w.grownBy w' v.ownBlock ∧ (∀ k, v'.ownBlock = some k → v.ownBlock = some k ∨ w.heap.size ≤ k) := by
  cases A with
  | none =>
    have h0 : l = [] := by
      cases l with
      | nil => rfl
      | cons y l => obtain ⟨b, o, e, _⟩ := hl (by simp); cases e
    subst h0
    obtain rfl := hnc rfl
    refine ⟨v, w, run_append_owned_none w base t ty e i 1 ht hi v _ xs hown, by simpa using hown, World.grownBy.refl _ _, fun _ h => .inl h⟩
  | some a =>
    have hnews : ∀ j u, l[j]? = some u → w.cell? (a.add j) = some u := by
      intro j u hu
      have hj := (List.getElem?_eq_some_iff.1 hu).1
      obtain ⟨b, o, e, _, hc⟩ := hl (by omega)
      cases e
      rw [Addr.add_lit, hc j hj, hu]
    obtain ⟨v', w', hrun, hown', hg, hnone⟩ := run_append_own (P := P) w base t ty e i z 1 bytes ht hi hz hsize hby hzs (by decide) v xs.length xs hown a l.length c l (by simp) hnews h1 h63 hbytes hbase
    refine ⟨v', w', hrun, by rw [List.length_append]; exact hown', hg, ?_⟩
    subst hby
    have hsm : xs.length + l.length ≤ 9223372036854775807 := by simp only [maxLen] at h63; omega
    rcases hown.2 with ⟨rfl, hn⟩ | ⟨g, cap, cur, rfl, hbg, hgh, hnc2, hcm, hcs, htake⟩
    · by_cases hm : l.length = 0
      · rw [hnone.2 ⟨rfl, hm⟩]
        intro k h
        cases h
      · have hr := run_append_nil (P := P) w t ty e i z ht hi hz a l.length c l (by rw [hsize, Nat.mul_one]) hnews (by omega) (by omega) (by have hb := hbytes; rw [hn, Nat.zero_add] at hb; omega)
        rw [hr] at hrun
        cases hrun
        intro k h
        simp only [Value.ownBlock, Option.some.injEq] at h
        exact .inr (by omega)
    · by_cases hroom : xs.length + l.length ≤ cap
      · have hr := run_append_room (P := P) w t ty e i ht hi g xs.length cap cur hgh a l.length c l (by rw [hsize, Nat.mul_one]) hnews h1 hroom (by rw [hsize, Nat.mul_one, hcs, Nat.mul_one]; exact hroom)
        rw [hr] at hrun
        cases hrun
        exact fun k h => .inl h
      · have hr := run_append_grow (P := P) w t ty e i z ht hi hz ⟨g, 0, none⟩ xs.length cap xs (by rw [hsize, Nat.mul_one]) (hown.cells (g := g) rfl) a l.length c l (by rw [hsize, Nat.mul_one]) hnews (by omega) (by omega) (growslice_fits (by omega) hbytes)
        rw [hr] at hrun
        cases hrun
        intro k h
        simp only [Value.ownBlock, Option.some.injEq] at h
        exact .inr (by omega)

theorem wpList_append_turn {P : Program} (w : World) {ops : Array Oper} {rest : List Oper} {o : Oper} {ac : Act} {Q : Exit → Act → World → Prop}
    (hgd : o.guard = none) (s x : Operand) (t : TypeId) (hop : o.op = Op.call { callee := Callee.builtin Builtin.append, args := #[s, x], argTypes := #[t, t] })
    (base : Nat) (e : TypeId) (i : TypeInfo) (z : Value) (bytes : Nat) (ht : P.underlying t = some (.slice e)) (hi : P.info? e = some i) (hz : i.zero = some z)
    (hsize : i.size = 1) (hby : i.bytes = bytes) (hzs : z.cells.size = 1)
    (v : Value) (xs : List Value) (hs : ac.eval s = v) (hown : w.ownsRow base e 1 v xs.length xs) (A : Option Addr) (c : Nat) (l : List Value) (hx : ac.eval x = .slice A l.length c) (hl : Lies w A l) (hnc : A = none → c = 0) (h1 : ∀ u ∈ l, u.oneCell' = true)
    (h63 : xs.length + l.length ≤ maxLen) (hbytes : (xs.length + l.length) * bytes ≤ 140737488355328) (hbase : base ≤ w.heap.size)
    (hK : ∀ v' w', w'.ownsRow base e 1 v' (xs ++ l).length (xs ++ l) → w.grownBy w' v.ownBlock → (∀ k, v'.ownBlock = some k → v.ownBlock = some k ∨ w.heap.size ≤ k) → wpList P ops Q rest (ac.put o.dst v') w') :
    wpList P ops Q (o :: rest) ac w := by
  obtain ⟨v', w', hrun, r1, r2, r3⟩ := append_turn (P := P) w base t o.type e i z bytes ht hi hz hsize hby hzs v xs hown A c l hl hnc h1 h63 hbytes hbase
  refine wpList_plain hgd fun K hK' => ?_
  unfold Oper.wp execOp
  simp only [hop, resolve, invoke, builtin, Sem.run_bind, Sem.run_pure, Result.andThen_ok, List.map_toArray, List.map_cons, List.map_nil, hs, hx, hrun]
  exact hK' _ _ (hK v' w' r1 r2 r3)

/-- The end of a row is cleared. -/
theorem clear_turn {P : Program} (w : World) (base : Nat) (t e : TypeId) (z : Value) (ht : P.underlying t = some (.slice e)) (hv : ∀ w, (zeroValue e).run P w = .ok z w) (hz : z.cells = #[z]) (h1 : z.oneCell' = true)
    (g cap m : Nat) (xs : List Value) (hown : w.ownsRow base e 1 (.slice (some ⟨g, 0, none⟩) xs.length cap) xs.length xs) (hm : m < xs.length) :
    ∃ w', (∀ ty c, (Builtin.clear_ #[t] ty #[.slice (some ⟨g, m, none⟩) (xs.length - m) c]).run P w = .ok (.tuple #[]) w') ∧ w'.ownsRow base e 1 (.slice (some ⟨g, 0, none⟩) m cap) m (xs.take m) ∧ w.grownBy w' (some g) := by
  rcases hown.2 with ⟨h, _⟩ | ⟨g', cap', cur, h, hbg, hgh, hnc, hcm, hcs, htake⟩
  · cases h
  · simp only [Value.slice.injEq, Option.some.injEq, Addr.mk.injEq, and_true, true_and] at h
    obtain ⟨rfl, rfl⟩ := h
    obtain ⟨d, hd⟩ : ∃ d, xs.length - m = d + 1 := ⟨xs.length - m - 1, by omega⟩
    have hzc : (Builtin.zeroCells z.cells (xs.length - m)).toList = List.replicate (xs.length - m) z := by
      rw [hz]
      simp [Builtin.zeroCells]
      apply List.ext_getElem
      · simp
      · intro i h1 h2
        simp [Nat.mod_one]
    have hst := run_storeCells_at P g m e (List.replicate (xs.length - m) z) 0 cur w hgh (by simp; omega) (by intro v hv'; rw [List.eq_of_mem_replicate hv']; exact h1)
    simp only [Nat.add_zero] at hst
    rw [hd] at hzc hst
    generalize hL : (List.replicate (d + 1) z) = L at hzc hst
    have hLl : L.length = d + 1 := by rw [← hL]; simp
    rw [hLl] at hst
    refine ⟨w.setRow g (cur.toList.take m ++ L ++ cur.toList.drop (m + (d + 1))).toArray, fun ty c => ?_, ?_, ?_⟩
    · rw [hd]
      simp only [Builtin.clear_]
      simp [run_underlying ht, hv, hzc, hst]
    · refine ⟨by simp; omega, .inr ⟨g, cap, _, rfl, hbg, setRow_heap w g cur _ e _ hgh, by omega, hcm, ?_, ?_⟩⟩
      · simp; omega
      · rw [Nat.mul_one, List.append_assoc, List.take_append_of_le_length (by simp; omega), List.take_take, Nat.min_self, ← htake, List.take_take]
        congr 1
        omega
    · exact ⟨rfl, rfl, rfl, by simp, fun k _ hk => setRow_other w g k _ (fun e => hk (by simp [e]))⟩
theorem clear_none {P : Program} (w : World) (t ty : TypeId) (d : TypeDesc) (ht : P.underlying t = some d) (A : Option Addr) (c : Nat) : (Builtin.clear_ #[t] ty #[.slice A 0 c]).run P w = .ok (.tuple #[]) w := by
  cases A <;> simp [Builtin.clear_, run_underlying ht]
end Go.Proofs.Ytfcacgiejoeneaa
namespace Go.Proofs.Ytfcacgiejoeneaa
open Go Go.RowKit

theorem Try.has25 : ∃ j, Try.prog.info? 61 = some j := Option.isSome_iff_exists.1 (by kernel_rfl)
@[go_sem] theorem i_neq_same (a : Addr) (w : World) : (binOp .neq 25 (.pointer (some a)) (.pointer (some a))).run Try.prog w = .ok (.bool false) w := by
  obtain ⟨j, hj⟩ := Try.has25
  exact neq_same w a Try.underlying25 hj
@[go_sem] theorem i_neq_nil (a : Addr) (w : World) : (binOp .neq 25 (.pointer none) (.pointer (some a))).run Try.prog w = .ok (.bool true) w := neq_nil_l w a Try.underlying25

theorem i_none_any (b : Nat) (most peak : Int) (v : Value) (xs : List Value) (base : Nat) (w : World) (h : Ar 61 3 w base b most peak v xs) :
    Calls Try.prog 36 #[.pointer (some ⟨b, 0, none⟩)] w fun e w' => e = .returned (.bool false) ∧ w = w' := by
  obtain ⟨c0, c1, c2, c3⟩ := ar_cells h
  clear h
  go_enter Try.func36, Try.ntmps36
  go_wp2_with fail
  go_ret
  exact ⟨rfl, rfl⟩
theorem i_count_any (b n c : Nat) (A : Option Addr) (w : World) (h : w.cell? ⟨b, 0, none⟩ = some (.slice A n c)) :
    Calls Try.prog 37 #[.pointer (some ⟨b, 0, none⟩)] w fun e w' => e = .returned (.int .i64 n) ∧ w = w' := by
  go_enter Try.func37, Try.ntmps37
  go_wp2_with fail
  go_ret
  exact ⟨rfl, rfl⟩
theorem i_has_any (b n c : Nat) (A : Option Addr) (i : Int) (w : World) (h : w.cell? ⟨b, 0, none⟩ = some (.slice A n c)) :
    Calls Try.prog 39 #[.pointer (some ⟨b, 0, none⟩), .int .i64 i] w fun e w' => e = .returned (.bool (decide (0 ≤ i) && decide (i < n))) ∧ w = w' := by
  by_cases h0 : 0 ≤ i
  · go_enter Try.func39, Try.ntmps39
    go_wp2_with (go_at_call 37; refine (i_count_any b n c A _ h).mono ?_; rintro e w1 ⟨rfl, rfl⟩)
    go_ret
    exact ⟨ret_bool (by simp [h0]), rfl⟩
  · have h1 : i < 0 := by omega
    clear h0
    go_enter Try.func39, Try.ntmps39
    go_wp2_with (go_at_call 37; refine (i_count_any b n c A _ h).mono ?_; rintro e w1 ⟨rfl, rfl⟩)
    go_ret
    exact ⟨ret_bool (by simp; omega), rfl⟩
theorem i_known_any (b : Nat) (most peak : Int) (v : Value) (xs : List Value) (base : Nat) (w : World) (h : Ar 61 3 w base b most peak v xs) :
    Calls Try.prog 41 #[.pointer (some ⟨b, 0, none⟩)] w fun e w' => e = .returned (.pointer (some ⟨b, 0, none⟩)) ∧ w = w' := by
  have H := Lib.hid h
  clear h
  go_enter Try.func41, Try.ntmps41
  go_wp2_with (go_at_call 36; refine (i_none_any b most peak v xs base _ H.out).mono ?_; rintro e w1 ⟨rfl, rfl⟩)
  go_ret
  exact ⟨rfl, rfl⟩
theorem i_new_any (most : Int) (h0 : 0 ≤ most) (h1 : most < 9223372036854775808) (w : World) :
    Calls Try.prog 9 #[.int .i64 most] w fun e w' => e = .returned (.pointer (some ⟨w.heap.size, 0, none⟩)) ∧ Below w.heap.size w w' ∧ Ar 61 3 w' w.heap.size w.heap.size most 0 (.slice none 0 0) [] ∧ w'.heap.size = w.heap.size + 1 := by
  go_enter Try.func9, Try.ntmps9
  go_wp2_with fail
  go_ret
  exact ⟨rfl, B1 _ _, ⟨Nat.le_refl _, Blk.new _ _ _, World.ownsRow_nil _ _ _ _, by simpa using h0, h1, by simp, h0⟩, by simp⟩
end Go.Proofs.Ytfcacgiejoeneaa
namespace Go.Proofs.Ytfcacgiejoeneaa
open Go Go.RowKit
theorem Try.info3 : (Try.prog.info? 3).map (fun i => (i.zero, i.size, i.bytes)) = some (some (.int .i64 0), 1, 8) := by kernel_rfl
theorem i_zero (w : World) : (zeroValue 3).run Try.prog w = .ok (.int .i64 0) w := by
  obtain ⟨i0, hi, hz0, _, _⟩ := info_parts Try.info3
  simp [zeroValue, typeInfo, hi, hz0]
/-- An arena's block, its row beside it. -/
theorem turn_store {T E : TypeId} {w w1 : World} {base b : Nat} {most peak : Int} {v v1 : Value} {xs : List Value} (ha : Ar T E w base b most peak v xs) (hTE : T ≠ E) {ys : List Value}
    (ho : w1.ownsRow base E 1 v1 ys.length ys) (hg : w.grownBy w1 v.ownBlock) (hf : ∀ k, v1.ownBlock = some k → v.ownBlock = some k ∨ w.heap.size ≤ k) :
    (w1.setCell ⟨b, 0, none⟩ v1).ownsRow base E 1 v1 ys.length ys ∧ Blk (w1.setCell ⟨b, 0, none⟩ v1) b #[v1, .int .i64 most, .int .i64 peak, .pointer (some ⟨b, 0, none⟩)] T ∧ Turn w (w1.setCell ⟨b, 0, none⟩ v1) b v v1 := by
  have hvb := own_ne ha.own ha.blk hTE
  have hB : Blk w1 b #[v, .int .i64 most, .int .i64 peak, .pointer (some ⟨b, 0, none⟩)] T := (hg.block b ha.blk.lt (fun e => hvb e.symm)).trans ha.blk
  have hv1 := own_ne ho hB hTE
  refine ⟨own_kept ho (fun k e => heap_setCell_other _ _ _ _ (fun h => hv1 (by rw [e, show k = b from h]))), heap_setCell_same w1 b 0 _ T _ hB, ⟨hg.os, hg.tape, hg.output, by simpa [World.setCell] using hg.size, fun k hk h1 h2 => ?_, hf⟩⟩
  rw [heap_setCell_other _ _ _ _ (show k ≠ b from h1)]
  exact hg.block k hk (fun e => h2 e.symm)
set_option maxHeartbeats 1000000 in
theorem i_add_any (b : Nat) (most peak : Int) (v : Value) (xs : List Value) (base : Nat) (A : Option Addr) (c : Nat) (l : List Value) (hnc : A = none → c = 0) (h1 : ∀ u ∈ l, u.oneCell' = true) (h63 : xs.length + l.length ≤ maxLen) (hb : (xs.length + l.length) * 8 ≤ 140737488355328)
    (w : World) (hbase : base ≤ w.heap.size) (h : Ar 61 3 w base b most peak v xs) (hl : Lies w A l) :
    Calls Try.prog 38 #[.pointer (some ⟨b, 0, none⟩), .slice A l.length c] w fun e w' => e = .returned (.tuple #[]) ∧ ∃ v', w'.ownsRow base 3 1 v' (xs ++ l).length (xs ++ l) ∧ Blk w' b #[v', .int .i64 most, .int .i64 peak, .pointer (some ⟨b, 0, none⟩)] 61 ∧ Turn w w' b v v' := by
  obtain ⟨i0, hi, hz0, hz1, hz2⟩ := info_parts Try.info3
  obtain ⟨c0, _, _, _⟩ := ar_cells h
  have H := Lib.hid h
  have HL := Lib.hid hl
  have HN := Lib.hid hnc
  have H1 := Lib.hid h1
  have H6 := Lib.hid h63
  have HB := Lib.hid hb
  have hvb := Lib.hid (own_ne h.own h.blk (by decide))
  clear h hl hnc h1 h63 hb
  go_enter Try.func38, Try.ntmps38
  go_wp2_with (at_builtin; refine wpList_append_turn _ rfl (.tmp 8) (.tmp 9) 28 rfl base 3 i0 (.int .i64 0) 8 Try.underlying28 hi hz0 hz1 hz2 rfl v xs rfl H.out.own A c l rfl HL.out HN.out H1.out H6.out HB.out hbase ?_; intro v1 w1 ho hg hf; obtain ⟨A1, c1, rfl, _, _⟩ := own_slice ho; have HO := Lib.hid ho; have HG := Lib.hid hg; have HF := Lib.hid hf; have hB : Blk w1 b _ _ := (hg.block b H.out.blk.lt (fun e => hvb.out e.symm)).trans H.out.blk; have d0 := hB.cell 0; have f0 := hB.frozen 0; clear ho hg hf hB)
  go_end0
  rw [← List.length_append]
  exact ⟨rfl, _, turn_store H.out (by decide) HO.out HG.out HF.out⟩
set_option maxHeartbeats 1000000 in
theorem i_cut_any (b : Nat) (most peak : Int) (v : Value) (xs : List Value) (base m : Nat) (hm : m ≤ xs.length) (w : World) (h : Ar 61 3 w base b most peak v xs) :
    Calls Try.prog 40 #[.pointer (some ⟨b, 0, none⟩), .int .i64 m] w fun e w' => e = .returned (.tuple #[]) ∧ ∃ v', w'.ownsRow base 3 1 v' (xs.take m).length (xs.take m) ∧ Blk w' b #[v', .int .i64 most, .int .i64 peak, .pointer (some ⟨b, 0, none⟩)] 61 ∧ Turn w w' b v v' := by
  obtain ⟨c0, _, _, _⟩ := ar_cells h
  have H := Lib.hid h
  have hvb := Lib.hid (own_ne h.own h.blk (by decide))
  have hO := h.own
  have f0 := h.blk.frozen 0
  clear h
  by_cases hlt : m < xs.length
  · obtain ⟨g, cap, rfl, hbg, hnc, hcm, hgl⟩ := own_shape hO (by omega)
    obtain ⟨w2, hcl, ho2, hg2⟩ := clear_turn (P := Try.prog) w base 28 3 (.int .i64 0) Try.underlying28 i_zero rfl rfl g cap m xs hO hlt
    have hmc : ¬ cap = m := by omega
    have hB : Blk w2 b _ _ := (hg2.block b H.out.blk.lt (fun e => hvb.out e.symm)).trans H.out.blk
    have d0 := hB.cell 0
    have e0 := hB.frozen 0
    have HG := Lib.hid hg2
    have HO := Lib.hid ho2
    have hml : (xs.take m).length = m := by simp; omega
    clear hO hB hg2 ho2
    go_enter Try.func40, Try.ntmps40
    go_wp2_with fail
    go_end0
    exact ⟨rfl, _, turn_store (v1 := .slice (some ⟨g, 0, none⟩) m cap) (ys := xs.take m) H.out (by decide) (by rw [hml]; exact HO.out) HG.out (fun k e => .inl e)⟩
  · obtain rfl : m = xs.length := by omega
    obtain ⟨A, cap, rfl, hnil, hnc⟩ := own_slice hO
    have hcl := fun ty A c => clear_none (P := Try.prog) w 28 ty _ Try.underlying28 A c
    have hself := turn_store H.out (by decide) (ys := xs) H.out.own (World.grownBy.refl _ _) (fun k e => .inl e)
    have HS := Lib.hid hself
    rw [List.take_length]
    clear hO hself
    cases A with
    | none =>
      obtain ⟨hx0, rfl⟩ := hnil rfl
      rw [hx0] at HS c0 H ⊢
      simp only [hx0] at hvb
      clear hnil hlt hm hnc
      go_enter Try.func40, Try.ntmps40
      go_wp2_with fail
      go_end0
      exact ⟨rfl, _, HS.out⟩
    | some a =>
      clear hnil hlt hm
      obtain ⟨g, cap', e, _⟩ : ∃ g cap', a = ⟨g, 0, none⟩ ∧ cap' = cap := by
        rcases H.out.own.2 with ⟨h, _⟩ | ⟨g, cap', cur, h, _⟩
        · cases h
        · simp only [Value.slice.injEq, Option.some.injEq] at h
          exact ⟨g, cap, h.1, rfl⟩
      subst e
      by_cases hq : cap = xs.length
      · subst hq
        go_enter Try.func40, Try.ntmps40
        go_wp2_with fail
        go_end0
        exact ⟨rfl, _, HS.out⟩
      · go_enter Try.func40, Try.ntmps40
        go_wp2_with fail
        go_end0
        exact ⟨rfl, _, HS.out⟩
end Go.Proofs.Ytfcacgiejoeneaa
namespace Go.Proofs.Ytfcacgiejoeneaa
open Go Go.RowKit
set_option maxHeartbeats 1000000 in
theorem i_len_any (b : Nat) (most peak : Int) (v : Value) (xs : List Value) (base : Nat) (w : World) (h : Ar 61 3 w base b most peak v xs) :
    Calls Try.prog 24 #[.pointer (some ⟨b, 0, none⟩)] w fun e w' => e = .returned (.int .i64 xs.length) ∧ w = w' := by
  obtain ⟨c0, _, _, _⟩ := ar_cells h
  obtain ⟨A, cap, rfl, _, _⟩ := own_slice h.own
  have K := Lib.hid (i_known_any b most peak _ xs base w h)
  have C := Lib.hid (i_count_any b _ cap A w c0)
  clear h c0
  go_enter Try.func24, Try.ntmps24
  go_wp2_with (first | (go_at_call 41; refine K.out.mono ?_; rintro e w1 ⟨rfl, rfl⟩) | (go_at_call 37; refine C.out.mono ?_; rintro e w1 ⟨rfl, rfl⟩))
  go_ret
  exact ⟨rfl, rfl⟩
set_option maxHeartbeats 1000000 in
theorem i_mark_any (b : Nat) (most peak : Int) (v : Value) (xs : List Value) (base : Nat) (w : World) (h : Ar 61 3 w base b most peak v xs) :
    Calls Try.prog 23 #[.pointer (some ⟨b, 0, none⟩)] w fun e w' => e = .returned (.int .i64 xs.length) ∧ w = w' := by
  have K := Lib.hid (i_len_any b most peak _ xs base w h)
  clear h
  go_enter Try.func23, Try.ntmps23
  go_wp2_with (go_at_call 24; refine K.out.mono ?_; rintro e w1 ⟨rfl, rfl⟩)
  go_ret
  exact ⟨rfl, rfl⟩
set_option maxHeartbeats 1000000 in
theorem i_peak_any (b : Nat) (most peak : Int) (v : Value) (xs : List Value) (base : Nat) (w : World) (h : Ar 61 3 w base b most peak v xs) :
    Calls Try.prog 26 #[.pointer (some ⟨b, 0, none⟩)] w fun e w' => e = .returned (.int .i64 peak) ∧ w = w' := by
  obtain ⟨_, _, c2, _⟩ := ar_cells h
  have K := Lib.hid (i_known_any b most peak _ xs base w h)
  clear h
  go_enter Try.func26, Try.ntmps26
  go_wp2_with (go_at_call 41; refine K.out.mono ?_; rintro e w1 ⟨rfl, rfl⟩)
  go_ret
  exact ⟨rfl, rfl⟩
set_option maxHeartbeats 1000000 in
theorem i_left_any (b : Nat) (most peak : Int) (v : Value) (xs : List Value) (base : Nat) (w : World) (h : Ar 61 3 w base b most peak v xs) :
    Calls Try.prog 25 #[.pointer (some ⟨b, 0, none⟩)] w fun e w' => e = .returned (.int .i64 (most - xs.length)) ∧ ∃ n, w' = w.drewN n := by
  obtain ⟨c0, c1, _, _⟩ := ar_cells h
  obtain ⟨A, cap, rfl, _, _⟩ := own_slice h.own
  have K := Lib.hid (i_known_any b most peak _ xs base w h)
  have C := Lib.hid (fun n => i_count_any b _ cap A (w.drewN n) c0)
  have hw : IntKind.i64.wrap (most - xs.length) = most - xs.length := IntWalk.i64_in _ (by have := h.fits; have := h.room; omega)
  clear h
  go_enter Try.func25, Try.ntmps25
  go_wp2_with (go_at_call 41; refine K.out.mono ?_; rintro e w1 ⟨rfl, rfl⟩)
  go_quiet ((go_at_call 37; exact q_left (C.out _)))
  go_wp2_with fail
  go_ret
  exact ⟨rfl, _, rfl⟩
set_option maxHeartbeats 1000000 in
theorem i_at_yes (b : Nat) (most peak : Int) (v : Value) (xs : List Value) (base k : Nat) (x : Value) (hk : xs[k]? = some x) (w : World) (h : Ar 61 3 w base b most peak v xs) :
    Calls Try.prog 27 #[.pointer (some ⟨b, 0, none⟩), .int .i64 k] w fun e w' => e = .returned (.tuple #[x, .bool true]) ∧ w = w' := by
  have hlt : k < xs.length := (List.getElem?_eq_some_iff.1 hk).1
  obtain ⟨c0, _, _, _⟩ := ar_cells h
  obtain ⟨g, cap, rfl, _, _⟩ := own_shape h.own (by omega)
  have c4 := (h.own.cellAt k (by omega)).trans hk
  have K := Lib.hid (i_known_any b most peak _ xs base w h)
  have C := Lib.hid (i_has_any b _ cap _ k w c0)
  have hd : (decide ((0 : Int) ≤ k) && decide ((k : Int) < xs.length)) = true := by simp; omega
  rw [hd] at C
  have hlt2 : (k : Int) < xs.length := by omega
  clear h hd hk
  go_enter Try.func27, Try.ntmps27
  go_wp2_with (first | (go_at_call 41; refine K.out.mono ?_; rintro e w1 ⟨rfl, rfl⟩) | (go_at_call 39; refine C.out.mono ?_; rintro e w1 ⟨rfl, rfl⟩))
  go_ret2
  exact ⟨rfl, rfl⟩
set_option maxHeartbeats 1000000 in
theorem i_at_no (b : Nat) (most peak : Int) (v : Value) (xs : List Value) (base : Nat) (k : Int) (hk : k < 0 ∨ (xs.length : Int) ≤ k) (w : World) (h : Ar 61 3 w base b most peak v xs) :
    Calls Try.prog 27 #[.pointer (some ⟨b, 0, none⟩), .int .i64 k] w fun e w' => e = .returned (.tuple #[.int .i64 0, .bool false]) ∧ w = w' := by
  obtain ⟨c0, _, _, _⟩ := ar_cells h
  obtain ⟨A, cap, rfl, _, _⟩ := own_slice h.own
  have K := Lib.hid (i_known_any b most peak _ xs base w h)
  have C := Lib.hid (i_has_any b _ cap A k w c0)
  have hd : (decide ((0 : Int) ≤ k) && decide ((k : Int) < xs.length)) = false := by simp; omega
  rw [hd] at C
  clear h hd hk
  go_enter Try.func27, Try.ntmps27
  go_wp2_with (first | (go_at_call 41; refine K.out.mono ?_; rintro e w1 ⟨rfl, rfl⟩) | (go_at_call 39; refine C.out.mono ?_; rintro e w1 ⟨rfl, rfl⟩))
  go_ret2
  exact ⟨rfl, rfl⟩
end Go.Proofs.Ytfcacgiejoeneaa
namespace Go.Proofs.Ytfcacgiejoeneaa
open Go Go.RowKit
set_option maxHeartbeats 1000000 in
theorem i_put_full (b : Nat) (most peak : Int) (v : Value) (xs : List Value) (base n c : Nat) (A : Option Addr) (hf : most < xs.length + n) (w : World) (h : Ar 61 3 w base b most peak v xs) :
    Calls Try.prog 12 #[.pointer (some ⟨b, 0, none⟩), .slice A n c] w fun e w' => e = .returned (.tuple #[.int .i64 0, .int .i64 12]) ∧ ∃ n, w' = w.drewN n := by
  have K := Lib.hid (i_none_any b most peak _ xs base w h)
  have L := Lib.hid (i_left_any b most peak v xs base w h)
  have hlt : most - xs.length < n := by omega
  generalize most - xs.length = left at hlt L
  clear h hf
  go_enter Try.func12, Try.ntmps12
  go_wp2_with (first | (go_at_call 36; refine K.out.mono ?_; rintro e w1 ⟨rfl, rfl⟩) | (go_at_call 25; refine L.out.mono ?_; rintro e w1 ⟨rfl, m, rfl⟩))
  go_ret2
  exact ⟨rfl, _, rfl⟩
set_option maxHeartbeats 2000000 in
theorem i_put_room (b : Nat) (most peak : Int) (v : Value) (xs : List Value) (base : Nat) (A : Option Addr) (c : Nat) (l : List Value) (hnc : A = none → c = 0) (h1 : ∀ u ∈ l, u.oneCell' = true) (h63 : xs.length + l.length ≤ maxLen) (hb : (xs.length + l.length) * 8 ≤ 140737488355328) (hf : (xs.length : Int) + l.length ≤ most)
    (w : World) (hbase : base ≤ w.heap.size) (h : Ar 61 3 w base b most peak v xs) (hl : Lies w A l) :
    Calls Try.prog 12 #[.pointer (some ⟨b, 0, none⟩), .slice A l.length c] w fun e w' => e = .returned (.tuple #[.int .i64 xs.length, .int .i64 0]) ∧ ∃ v', Ar 61 3 w' base b most (max peak ((xs.length : Int) + l.length)) v' (xs ++ l) ∧ Turn w w' b v v' := by
  obtain ⟨c0, _, _, _⟩ := ar_cells h
  have K := Lib.hid (i_none_any b most peak _ xs base w h)
  have L := Lib.hid (i_left_any b most peak v xs base w h)
  have D := Lib.hid (fun n => i_add_any b most peak v xs base A c l hnc h1 h63 hb (w.drewN n) hbase h.drewN hl)
  have H := Lib.hid h
  obtain ⟨A0, cap, rfl, _, _⟩ := own_slice h.own
  have C := Lib.hid (fun n => i_count_any b _ cap A0 (w.drewN n) c0)
  have hlt : l.length ≤ most - xs.length := by omega
  have HF := Lib.hid hf
  generalize most - xs.length = left at hlt L
  clear h hf hnc h1 h63 hb hl hbase
  go_enter Try.func12, Try.ntmps12
  go_wp2_with (first | (go_at_call 36; refine K.out.mono ?_; rintro e w1 ⟨rfl, rfl⟩) | (go_at_call 25; refine L.out.mono ?_; rintro e w1 ⟨rfl, m, rfl⟩) | (go_at_call 37; refine (C.out m).mono ?_; rintro e w1 ⟨rfl, rfl⟩) | (go_at_call 38; refine (D.out m).mono ?_; rintro e w1 ⟨rfl, v1, ho, hB, ht⟩; obtain ⟨A1, c1, rfl, _, _⟩ := own_slice ho; have HO := Lib.hid ho; have HB := Lib.hid hB; have HT := Lib.hid ht; have d0 := hB.cell 0; have d2 := hB.cell 2; have f2 := hB.frozen 2; clear ho hB ht))
  have C2 := Lib.hid (fun n => i_count_any b _ c1 A1 (w1.drewN n) d0)
  have FIN : RowKit.Hid (∀ p : Int, p = max peak ((xs.length : Int) + l.length) → Ar 61 3 ((w1.drewN 1).setCell ⟨b, 2, none⟩ (.int .i64 p)) base b most (max peak ((xs.length : Int) + l.length)) (.slice A1 (xs ++ l).length c1) (xs ++ l) ∧ Turn w ((w1.drewN 1).setCell ⟨b, 2, none⟩ (.int .i64 p)) b (.slice A0 xs.length cap) (.slice A1 (xs ++ l).length c1)) :=
    Lib.hid (fun p hp => by
      have h1 := H.out.top
      have h2 := HF.out
      subst hp
      exact peak_store H.out (by decide) HO.out HB.out HT.out.ofDrew 1 _ (by simp only [List.length_append]; omega) (by omega))
  go_region_with (go_at_call 37; refine (C2.out _).mono ?_; rintro e w2 ⟨rfl, rfl⟩)
  all_goals go_wp2_with fail
  all_goals
    go_ret2
    refine ⟨rfl, _, FIN.out _ ?_⟩
    omega
set_option maxHeartbeats 1000000 in
theorem i_back_bad (b : Nat) (most peak : Int) (v : Value) (xs : List Value) (base : Nat) (k : Int) (hk : k < 0 ∨ (xs.length : Int) < k) (w : World) (h : Ar 61 3 w base b most peak v xs) :
    Calls Try.prog 18 #[.pointer (some ⟨b, 0, none⟩), .int .i64 k] w fun e w' => e = .returned (.int .i64 6) ∧ w = w' := by
  obtain ⟨c0, _, _, _⟩ := ar_cells h
  obtain ⟨A, cap, rfl, _, _⟩ := own_slice h.own
  have K := Lib.hid (i_none_any b most peak _ xs base w h)
  have C := Lib.hid (i_count_any b _ cap A w c0)
  clear h
  by_cases h0 : k < 0
  · clear hk
    go_enter Try.func18, Try.ntmps18
    go_wp2_with (first | (go_at_call 36; refine K.out.mono ?_; rintro e w1 ⟨rfl, rfl⟩) | (go_at_call 37; refine C.out.mono ?_; rintro e w1 ⟨rfl, rfl⟩))
    go_ret
    exact ⟨rfl, rfl⟩
  · have h1 : 0 ≤ k := by omega
    have h2 : (xs.length : Int) < k := by omega
    clear hk h0
    go_enter Try.func18, Try.ntmps18
    go_wp2_with (first | (go_at_call 36; refine K.out.mono ?_; rintro e w1 ⟨rfl, rfl⟩) | (go_at_call 37; refine C.out.mono ?_; rintro e w1 ⟨rfl, rfl⟩))
    go_ret
    exact ⟨rfl, rfl⟩
set_option maxHeartbeats 1000000 in
theorem i_back_good (b : Nat) (most peak : Int) (v : Value) (xs : List Value) (base m : Nat) (hm : m ≤ xs.length) (w : World) (h : Ar 61 3 w base b most peak v xs) :
    Calls Try.prog 18 #[.pointer (some ⟨b, 0, none⟩), .int .i64 m] w fun e w' => e = .returned (.int .i64 0) ∧ ∃ v', Ar 61 3 w' base b most peak v' (xs.take m) ∧ Turn w w' b v v' := by
  obtain ⟨c0, _, _, _⟩ := ar_cells h
  have D := Lib.hid (i_cut_any b most peak v xs base m hm w h)
  have H := Lib.hid h
  obtain ⟨A, cap, rfl, _, _⟩ := own_slice h.own
  have K := Lib.hid (i_none_any b most peak _ xs base w h)
  have C := Lib.hid (i_count_any b _ cap A w c0)
  have h1 : (m : Int) ≤ xs.length := by omega
  clear h hm
  go_enter Try.func18, Try.ntmps18
  go_wp2_with (first | (go_at_call 36; refine K.out.mono ?_; rintro e w1 ⟨rfl, rfl⟩) | (go_at_call 37; refine C.out.mono ?_; rintro e w1 ⟨rfl, rfl⟩) | (go_at_call 40; refine D.out.mono ?_; rintro e w1 ⟨rfl, v1, ho, hB, ht⟩; have HO := Lib.hid ho; have HB := Lib.hid hB; have HT := Lib.hid ht; clear ho hB ht))
  go_ret
  exact ⟨rfl, _, ⟨H.out.lo, HB.out, HO.out, by have := H.out.fits; simp only [List.length_take]; omega, H.out.room, by have := H.out.up; simp only [List.length_take]; omega, H.out.top⟩, HT.out⟩
end Go.Proofs.Ytfcacgiejoeneaa
namespace Go.Proofs.Ytfcacgiejoeneaa
open Go Go.RowKit
set_option maxHeartbeats 1000000 in
theorem set_no (b : Nat) (most peak : Int) (v : Value) (xs : List Value) (base : Nat) (k x : Int) (hk : k < 0 ∨ (xs.length : Int) ≤ k) (w : World) (h : Ar 61 3 w base b most peak v xs) :
    Calls Try.prog 16 #[.pointer (some ⟨b, 0, none⟩), .int .i64 k, .int .i64 x] w fun e w' => e = .returned (.int .i64 6) ∧ w = w' := by
  obtain ⟨c0, _, _, _⟩ := ar_cells h
  have K := Lib.hid (i_none_any b most peak _ xs base w h)
  obtain ⟨A, cap, rfl, _, _⟩ := own_slice h.own
  have C := Lib.hid (i_has_any b _ cap A k w c0)
  have hd : (decide ((0 : Int) ≤ k) && decide ((k : Int) < xs.length)) = false := by simp; omega
  rw [hd] at C
  clear h hd hk
  go_enter Try.func16, Try.ntmps16
  go_wp2_with (first | (go_at_call 36; refine K.out.mono ?_; rintro e w1 ⟨rfl, rfl⟩) | (go_at_call 39; refine C.out.mono ?_; rintro e w1 ⟨rfl, rfl⟩))
  go_ret
  exact ⟨rfl, rfl⟩
set_option maxHeartbeats 1000000 in
theorem set_yes (b : Nat) (most peak : Int) (v : Value) (xs : List Value) (base k : Nat) (x : Int) (hk : k < xs.length) (w : World) (h : Ar 61 3 w base b most peak v xs) :
    Calls Try.prog 16 #[.pointer (some ⟨b, 0, none⟩), .int .i64 k, .int .i64 x] w fun e w' => e = .returned (.int .i64 0) ∧ Ar 61 3 w' base b most peak v (xs.set k (.int .i64 x)) ∧ Turn w w' b v v := by
  obtain ⟨c0, _, _, _⟩ := ar_cells h
  have K := Lib.hid (i_none_any b most peak _ xs base w h)
  have H := Lib.hid h
  have hvb := own_ne h.own h.blk (by decide)
  obtain ⟨g, cap, rfl, _, _⟩ := own_shape h.own (by omega)
  have C := Lib.hid (i_has_any b _ cap _ k w c0)
  have hd : (decide ((0 : Int) ≤ k) && decide ((k : Int) < xs.length)) = true := by simp; omega
  rw [hd] at C
  have c4 := h.own.cellAt k (by omega)
  rw [List.getElem?_eq_getElem hk] at c4
  have f4 := h.own.frozenAt k
  have hlt2 : (k : Int) < xs.length := by omega
  have HO := Lib.hid (h.own.stored k (.int .i64 x))
  have hgb : b ≠ g := fun e => hvb (by rw [e]; rfl)
  clear h hd hvb
  go_enter Try.func16, Try.ntmps16
  go_wp2_with (first | (go_at_call 36; refine K.out.mono ?_; rintro e w1 ⟨rfl, rfl⟩) | (go_at_call 39; refine C.out.mono ?_; rintro e w1 ⟨rfl, rfl⟩))
  go_ret
  refine ⟨rfl, ⟨H.out.lo, (heap_setCell_other _ _ _ _ hgb).trans H.out.blk, by rw [List.length_set]; exact HO.out.1, by rw [List.length_set]; exact H.out.fits, H.out.room, by rw [List.length_set]; exact H.out.up, H.out.top⟩, ⟨rfl, rfl, rfl, by simp [World.setCell], fun j hj h1 h2 => heap_setCell_other _ _ _ _ (fun e => h2 (by rw [e]; rfl)), fun k h => .inl h⟩⟩

/-- What is no arena: none, or one that New did not answer. -/
def Noa (w : World) (p : Option Addr) : Prop := p = none ∨ ∃ b, p = some ⟨b, 0, none⟩ ∧ Blk w b #[.slice none 0 0, .int .i64 0, .int .i64 0, .pointer none] 61
theorem Noa.below {w w' : World} {p : Option Addr} (h : Noa w p) (hb : Below w.heap.size w w') : Noa w' p := by
  rcases h with h | ⟨b, e, h⟩
  · exact .inl h
  · exact .inr ⟨b, e, h.below' hb⟩
theorem noa_none (p : Option Addr) (w : World) (h : Noa w p) : Calls Try.prog 36 #[.pointer p] w fun e w' => e = .returned (.bool true) ∧ w = w' := by
  rcases h with rfl | ⟨b, rfl, h⟩
  · go_enter Try.func36, Try.ntmps36
    go_wp2_with fail
    go_ret
    exact ⟨rfl, rfl⟩
  · have c3 := h.cell 3
    clear h
    go_enter Try.func36, Try.ntmps36
    go_wp2_with fail
    go_ret
    exact ⟨rfl, rfl⟩
theorem noa_known (p : Option Addr) (w : World) (h : Noa w p) : Calls Try.prog 41 #[.pointer p] w fun e w' => e = .returned (.pointer (some ⟨w.heap.size, 0, none⟩)) ∧ Blk w' w.heap.size #[.slice none 0 0, .int .i64 0, .int .i64 0, .pointer none] 61 ∧ Below w.heap.size w w' := by
  have K := Lib.hid (noa_none p w h)
  clear h
  go_enter Try.func41, Try.ntmps41
  go_wp2_with (go_at_call 36; refine K.out.mono ?_; rintro e w1 ⟨rfl, rfl⟩)
  go_ret
  exact ⟨rfl, Blk.new _ _ _, B1 _ _⟩
theorem noa_put (p : Option Addr) (A : Option Addr) (n c : Nat) (w : World) (h : Noa w p) : Calls Try.prog 12 #[.pointer p, .slice A n c] w fun e w' => e = .returned (.tuple #[.int .i64 0, .int .i64 1]) ∧ w = w' := by
  have K := Lib.hid (noa_none p w h)
  clear h
  go_enter Try.func12, Try.ntmps12
  go_wp2_with (go_at_call 36; refine K.out.mono ?_; rintro e w1 ⟨rfl, rfl⟩)
  go_ret2
  exact ⟨rfl, rfl⟩
theorem noa_set (p : Option Addr) (k x : Int) (w : World) (h : Noa w p) : Calls Try.prog 16 #[.pointer p, .int .i64 k, .int .i64 x] w fun e w' => e = .returned (.int .i64 1) ∧ w = w' := by
  have K := Lib.hid (noa_none p w h)
  clear h
  go_enter Try.func16, Try.ntmps16
  go_wp2_with (go_at_call 36; refine K.out.mono ?_; rintro e w1 ⟨rfl, rfl⟩)
  go_ret
  exact ⟨rfl, rfl⟩
theorem noa_back (p : Option Addr) (k : Int) (w : World) (h : Noa w p) : Calls Try.prog 18 #[.pointer p, .int .i64 k] w fun e w' => e = .returned (.int .i64 1) ∧ w = w' := by
  have K := Lib.hid (noa_none p w h)
  clear h
  go_enter Try.func18, Try.ntmps18
  go_wp2_with (go_at_call 36; refine K.out.mono ?_; rintro e w1 ⟨rfl, rfl⟩)
  go_ret
  exact ⟨rfl, rfl⟩
set_option maxHeartbeats 1000000 in
theorem noa_len (p : Option Addr) (w : World) (h : Noa w p) : Calls Try.prog 24 #[.pointer p] w fun e w' => e = .returned (.int .i64 0) ∧ Below w.heap.size w w' := by
  have K := Lib.hid (noa_known p w h)
  clear h
  go_enter Try.func24, Try.ntmps24
  go_wp2_with (first | (go_at_call 41; refine K.out.mono ?_; rintro e w1 ⟨rfl, hB, hb⟩; have HB := Lib.hid hB; have Hb := Lib.hid hb; clear hB hb) | (go_at_call 37; refine (i_count_any _ 0 0 none _ (HB.out.cell 0)).mono ?_; rintro e w1 ⟨rfl, rfl⟩))
  go_ret
  exact ⟨rfl, Hb.out⟩
set_option maxHeartbeats 1000000 in
theorem noa_mark (p : Option Addr) (w : World) (h : Noa w p) : Calls Try.prog 23 #[.pointer p] w fun e w' => e = .returned (.int .i64 0) ∧ Below w.heap.size w w' := by
  have K := Lib.hid (noa_len p w h)
  clear h
  go_enter Try.func23, Try.ntmps23
  go_wp2_with (go_at_call 24; refine K.out.mono ?_; rintro e w1 ⟨rfl, hb⟩; have Hb := Lib.hid hb; clear hb)
  go_ret
  exact ⟨rfl, Hb.out⟩
set_option maxHeartbeats 1000000 in
theorem noa_peak (p : Option Addr) (w : World) (h : Noa w p) : Calls Try.prog 26 #[.pointer p] w fun e w' => e = .returned (.int .i64 0) ∧ Below w.heap.size w w' := by
  have K := Lib.hid (noa_known p w h)
  clear h
  go_enter Try.func26, Try.ntmps26
  go_wp2_with (go_at_call 41; refine K.out.mono ?_; rintro e w1 ⟨rfl, hB, hb⟩; have c2 := hB.cell 2; have Hb := Lib.hid hb; clear hB hb)
  go_ret
  exact ⟨rfl, Hb.out⟩
set_option maxHeartbeats 1000000 in
theorem noa_left (p : Option Addr) (w : World) (h : Noa w p) : Calls Try.prog 25 #[.pointer p] w fun e w' => e = .returned (.int .i64 0) ∧ Below w.heap.size w w' := by
  have K := Lib.hid (noa_known p w h)
  clear h
  go_enter Try.func25, Try.ntmps25
  go_wp2_with (go_at_call 41; refine K.out.mono ?_; rintro e w1 ⟨rfl, hB, hb⟩; have HB := Lib.hid hB; have c1 := hB.cell 1; have Hb := Lib.hid hb; clear hB hb)
  have C := Lib.hid (fun n => i_count_any w.heap.size 0 0 none (w1.drewN n) (HB.out.cell 0))
  go_quiet ((go_at_call 37; exact q_left (C.out _)))
  go_wp2_with fail
  go_ret
  exact ⟨rfl, bdrew Hb.out⟩
set_option maxHeartbeats 1000000 in
theorem noa_at (p : Option Addr) (k : Int) (w : World) (h : Noa w p) : Calls Try.prog 27 #[.pointer p, .int .i64 k] w fun e w' => e = .returned (.tuple #[.int .i64 0, .bool false]) ∧ Below w.heap.size w w' := by
  have K := Lib.hid (noa_known p w h)
  have hd : (decide ((0 : Int) ≤ k) && decide (k < ((0 : Nat) : Int))) = false := by simp
  have C := Lib.hid (fun w h => i_has_any w.heap.size 0 0 none k w h)
  clear h
  go_enter Try.func27, Try.ntmps27
  go_wp2_with (first | (go_at_call 41; refine K.out.mono ?_; rintro e w1 ⟨rfl, hB, hb⟩; have HB := Lib.hid hB; have Hb := Lib.hid hb; clear hB hb) | (go_at_call 39; refine (i_has_any _ 0 0 none k _ (HB.out.cell 0)).mono ?_; rintro e w2 ⟨rfl, rfl⟩; rw [hd]))
  go_ret2
  exact ⟨rfl, Hb.out⟩
end Go.Proofs.Ytfcacgiejoeneaa
namespace Go.Proofs.Ytfcacgiejoeneaa
open Go Go.RowKit
def ints (l : List Int) : List Value := l.map (Value.int .i64)
theorem ints_length (l : List Int) : (ints l).length = l.length := by simp [ints]
theorem ints_one (l : List Int) : ∀ u ∈ ints l, u.oneCell' = true := by
  intro u hu
  obtain ⟨x, _, rfl⟩ := List.mem_map.1 hu
  rfl
theorem ints_at {l : List Int} {k : Nat} (h : k < l.length) : (ints l)[k]? = some (.int .i64 (l.getD k 0)) := by
  simp [ints, List.getElem?_map, List.getElem?_eq_getElem h, List.getD]
theorem ints_getD {l : List Int} {k : Nat} (h : k < l.length) : (ints l).getD k undef = .int .i64 (l.getD k 0) := by
  rw [List.getD_eq_getElem?_getD, ints_at h]; rfl
theorem ints_app (l m : List Int) : ints (l ++ m) = ints l ++ ints m := by simp [ints]
theorem ints_take (l : List Int) (k : Nat) : ints (l.take k) = (ints l).take k := by simp [ints, List.map_take]
theorem ints_set (l : List Int) (k : Nat) (x : Int) : (ints l).set k (.int .i64 x) = ints (l.set k x) := by simp [ints, List.map_set]
theorem ints_ll (l m : List Int) {i : Nat} (h : i ≤ m.length) : (ints (l ++ m.take i)).length = l.length + i := by rw [ints_length]; simp; omega
theorem take_snoc {m : List Int} {i : Nat} (h : i < m.length) : m.take (i + 1) = m.take i ++ [m.getD i 0] := by
  rw [List.take_succ_eq_append_getElem h]; simp [List.getD, List.getElem?_eq_getElem h]
theorem ints_snoc (l : List Int) {m : List Int} {i : Nat} (h : i < m.length) : ints (l ++ m.take i) ++ [.int .i64 (m.getD i 0)] = ints (l ++ m.take (i + 1)) := by
  rw [take_snoc h]; simp [ints]
theorem ints_nil : ints [] = [] := rfl
theorem lies_cell {w : World} {A : Option Addr} {l : List Int} (h : Lies w A (ints l)) {k : Nat} (hk : k < l.length) : ∃ b o, A = some ⟨b, o, none⟩ ∧ b < w.heap.size ∧ w.cell? ⟨b, o + k, none⟩ = some (.int .i64 (l.getD k 0)) := by
  obtain ⟨b, o, e, hb, hc⟩ := h (by rw [ints_length]; omega)
  exact ⟨b, o, e, hb, (hc k (by rw [ints_length]; exact hk)).trans (ints_at hk)⟩
theorem lies_one (w : World) (v : Value) (T : TypeId) : Lies (w.alloc (.cells #[v] T)) (some ⟨w.heap.size, 0, none⟩) [v] := by
  intro h0
  refine ⟨_, 0, rfl, by simp, fun i hi => ?_⟩
  rw [Nat.zero_add, (Blk.new w _ _).cell]
  simp

set_option maxHeartbeats 400000 in
theorem pick_any (x n : Int) (hx : -9223372036854775808 ≤ x ∧ x < 9223372036854775808) (hn : 1 ≤ n ∧ n < 9223372036854775808) (w : World) :
    Calls Try.prog 10 #[.int .i64 x, .int .i64 n] w fun e w' => e = .returned (.int .i64 (x % n)) ∧ w = w' := by
  have h1 := Int.emod_nonneg x (show n ≠ 0 by omega)
  have h2 := Int.emod_lt_of_pos x (show 0 < n by omega)
  have ht := Int.tmod_eq_emod (a := x) (b := n)
  have hd0 : n ≠ 0 := by omega
  have hd1 : (n == 0) = false := by simpa using hd0
  obtain ⟨y, ey⟩ : ∃ y, y = x.tmod n := ⟨_, rfl⟩
  rw [← ey] at ht
  obtain ⟨z, ez⟩ : ∃ z, z = x % n := ⟨_, rfl⟩
  rw [← ez] at ht h1 h2 ⊢
  have hcase : (0 ≤ y ∧ y = z) ∨ (y < 0 ∧ y + n = z) := by
    split at ht
    · left; omega
    · right; omega
  have hy : x.tmod n = y := ey.symm
  have hn1 : ¬ n < 1 := by omega
  have hwy : IntKind.i64.wrap y = y := IntWalk.i64_in _ (by omega)
  clear ht ez ey hx
  rcases hcase with ⟨h3, rfl⟩ | ⟨h3, h4⟩
  · go_enter Try.func10, Try.ntmps10
    go_wp2_with fail
    go_ret
    exact ⟨rfl, rfl⟩
  · have hwz : IntKind.i64.wrap (y + n) = z := (IntWalk.i64_in _ (by omega)).trans h4
    clear h4
    go_enter Try.func10, Try.ntmps10
    go_wp2_with fail
    go_ret
    exact ⟨rfl, rfl⟩
set_option maxHeartbeats 400000 in
theorem mark_any (k i : Nat) (hk : k ≤ 1000) (hi : i ≤ 1000000) (w : World) :
    Calls Try.prog 35 #[.int .i64 k, .int .i64 i] w fun e w' => e = .returned (.int .i64 (1000003 * (k + 7) + i : Nat)) ∧ w = w' := by
  go_enter Try.func35, Try.ntmps35
  go_wp2
  go_ret
  exact ⟨ret_int (by omega), rfl⟩
end Go.Proofs.Ytfcacgiejoeneaa
namespace Go.Proofs.Ytfcacgiejoeneaa
open Go Go.RowKit
theorem Turn.ofAlloc {w w' : World} {b : Nat} {v v' : Value} {o : Obj} (h : Turn (w.alloc o) w' b v v') : Turn w w' b v v' :=
  ⟨h.os, h.tape, h.output, by have := h.size; simp at this; omega, fun k hk h1 h2 => (h.block k (by simp; omega) h1 h2).trans (Below.heap_alloc w o k hk), fun k e => (h.fresh k e).imp id (fun h => by simp at h; omega)⟩
/-- Things are put into an arena that has none. -/
theorem put_first (w : World) (base b : Nat) (most : Int) (v : Value) (A : Option Addr) (c n : Nat) (l : List Value) (hn : l.length = n) (hnc : A = none → c = 0) (h1 : ∀ u ∈ l, u.oneCell' = true) (hl : n ≤ 60000) (hm : (n : Int) ≤ most) (hbase : base ≤ w.heap.size)
    (h : Ar 61 3 w base b most 0 v []) (hA : Lies w A l) :
    Calls Try.prog 12 #[.pointer (some ⟨b, 0, none⟩), .slice A n c] w fun e w' => e = .returned (.tuple #[.int .i64 0, .int .i64 0]) ∧ ∃ v', Ar 61 3 w' base b most n v' l ∧ Turn w w' b v v' := by
  subst hn
  refine (i_put_room b most 0 v [] base A c l hnc h1 (by unfold maxLen; simp; omega) (by simp; omega) (by simpa using hm) w hbase h hA).mono ?_
  rintro e w' ⟨he, v', ha, ht⟩
  refine ⟨he, v', ?_, ht⟩
  have e1 : max (0 : Int) ((([] : List Value).length : Int) + l.length) = l.length := by simp
  rw [e1] at ha
  simpa using ha
/-- One thing is put. -/
theorem put_one (w : World) (base b N : Nat) (most peak : Int) (v x : Value) (xs : List Value) (hN : xs.length = N) (h1 : x.oneCell' = true) (hl : N ≤ 60000) (hm : (N : Int) + 1 ≤ most) (hbase : base ≤ w.heap.size)
    (h : Ar 61 3 w base b most peak v xs) :
    Calls Try.prog 12 #[.pointer (some ⟨b, 0, none⟩), .slice (some ⟨w.heap.size, 0, none⟩) 1 1] (w.alloc (.cells #[x] 3)) fun e w' => e = .returned (.tuple #[.int .i64 N, .int .i64 0]) ∧ ∃ v' pk, Ar 61 3 w' base b most pk v' (xs ++ [x]) ∧ Turn w w' b v v' := by
  have h' := h.below (B1 w (.cells #[x] 3))
  refine (i_put_room b most peak v xs base (some ⟨w.heap.size, 0, none⟩) 1 [x] (fun h => by cases h) (by simpa using h1) (by unfold maxLen; simp; omega) (by simp; omega) (by simp; omega) _ (by simp; omega) h' (lies_one w x 3)).mono ?_
  rintro e w' ⟨he, v', ha, ht⟩
  rw [hN] at he
  exact ⟨he, v', _, ha, ht.ofAlloc⟩
/-- One thing too many. -/
theorem put_none (w : World) (base b : Nat) (most peak : Int) (v x : Value) (xs : List Value) (hN : (xs.length : Int) = most) (h : Ar 61 3 w base b most peak v xs) :
    Calls Try.prog 12 #[.pointer (some ⟨b, 0, none⟩), .slice (some ⟨w.heap.size, 0, none⟩) 1 1] (w.alloc (.cells #[x] 3)) fun e w' => e = .returned (.tuple #[.int .i64 0, .int .i64 12]) ∧ Ar 61 3 w' base b most peak v xs ∧ Below w.heap.size w w' := by
  have h' := h.below (B1 w (.cells #[x] 3))
  refine (i_put_full b most peak v xs base 1 1 (some ⟨w.heap.size, 0, none⟩) (by omega) _ h').mono ?_
  rintro e w' ⟨he, n, rfl⟩
  exact ⟨he, h'.drewN, bdrew (B1 _ _)⟩
theorem len_is (b N : Nat) (most peak : Int) (v : Value) (xs : List Value) (base : Nat) (hN : xs.length = N) (w : World) (h : Ar 61 3 w base b most peak v xs) :
    Calls Try.prog 24 #[.pointer (some ⟨b, 0, none⟩)] w fun e w' => e = .returned (.int .i64 N) ∧ w = w' := by
  have := i_len_any b most peak v xs base w h
  rwa [hN] at this
theorem left_is (b : Nat) (most peak M : Int) (v : Value) (xs : List Value) (base : Nat) (hM : most - xs.length = M) (w : World) (h : Ar 61 3 w base b most peak v xs) :
    Calls Try.prog 25 #[.pointer (some ⟨b, 0, none⟩)] w fun e w' => e = .returned (.int .i64 M) ∧ ∃ n, w' = w.drewN n := by
  have := i_left_any b most peak v xs base w h
  rwa [hM] at this
theorem mark_is (b N : Nat) (most peak : Int) (v : Value) (xs : List Value) (base : Nat) (hN : xs.length = N) (w : World) (h : Ar 61 3 w base b most peak v xs) :
    Calls Try.prog 23 #[.pointer (some ⟨b, 0, none⟩)] w fun e w' => e = .returned (.int .i64 N) ∧ w = w' := by
  have := i_mark_any b most peak v xs base w h
  rwa [hN] at this
end Go.Proofs.Ytfcacgiejoeneaa

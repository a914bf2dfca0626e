/- Helpers: worlds, blocks, rows of values; an arena in memory. -/
import Derived.Test.YtfcacgiejoeneaaRows
import Derived.WalkKit
import Derived.WalkSpells
import Derived.Lib.Hide
import Derived.Deep.QuietTactic
import Derived.BigQuiet
import Derived.Deep.Draws
import Derived.Deep.RegionWith
import Derived.Outline
import Derived.IntWalk
import Derived.OwnWalk
import Derived.Laws.OwnMore
import Derived.Laws.Rows
import Derived.Laws.AppendOwnNone
import Derived.Laws.MakeOwn
import Derived.LaidEqlPtr
namespace Go.Proofs.Ytfcacgiejoeneaa
open Go Go.RowKit

theorem bt {B : Nat} {a b c : World} (h : Below B a b) (h' : Below b.heap.size b c) (hB : B ≤ b.heap.size) : Below B a c := h.trans (h'.mono hB)
theorem bb {a b c : World} (h : Below a.heap.size a b) (h' : Below b.heap.size b c) : Below a.heap.size a c := h.trans (h'.mono h.size)
theorem bdrew {B n : Nat} {a w : World} (h : Below B a w) : Below B a (w.drewN n) := ⟨h.os, h.tape, h.output, h.size, h.block⟩
theorem bdrew1 {B : Nat} {a w : World} (h : Below B a w) : Below B a w.drew := ⟨h.os, h.tape, h.output, h.size, h.block⟩
/-- Block b is whole, and reads vs. -/
def Blk (w : World) (b : Nat) (vs : Array Value) (T : TypeId) : Prop := w.heap[b]? = some (.cells vs T (0, 0))
theorem Blk.lt {w : World} {b : Nat} {vs : Array Value} {T : TypeId} (h : Blk w b vs T) : b < w.heap.size := (Array.getElem?_eq_some_iff.1 h).1
theorem Blk.cell {w : World} {b : Nat} {vs : Array Value} {T : TypeId} (h : Blk w b vs T) (j : Nat) : w.cell? ⟨b, j, none⟩ = vs[j]? := by simp [World.cell?, show w.heap[b]? = _ from h]
theorem Blk.frozen {w : World} {b : Nat} {vs : Array Value} {T : TypeId} (h : Blk w b vs T) (j : Nat) : w.frozen? ⟨b, j, none⟩ = false := by simp [World.frozen?, show w.heap[b]? = _ from h]
theorem Blk.below {w w' : World} {b B : Nat} {vs : Array Value} {T : TypeId} (h : Blk w b vs T) (hb : Below B w w') (hl : b < B) : Blk w' b vs T := (hb.block b hl).trans h
theorem Blk.below' {w w' : World} {b : Nat} {vs : Array Value} {T : TypeId} (h : Blk w b vs T) (hb : Below w.heap.size w w') : Blk w' b vs T := h.below hb h.lt
theorem Blk.alloc {w : World} {b : Nat} {vs : Array Value} {T : TypeId} (h : Blk w b vs T) (o : Obj) : Blk (w.alloc o) b vs T := (Below.heap_alloc w o b h.lt).trans h
theorem Blk.new (w : World) (vs : Array Value) (T : TypeId) : Blk (w.alloc (.cells vs T)) w.heap.size vs T := heap_alloc_new w _
theorem Blk.drewN {w : World} {b n : Nat} {vs : Array Value} {T : TypeId} (h : Blk w b vs T) : Blk (w.drewN n) b vs T := h
theorem ret_int {k : IntKind} {a b : Int} (h : a = b) : Ending.returned (.int k a) = .returned (.int k b) := by rw [h]
theorem ret_bool {a b : Bool} (h : a = b) : Ending.returned (.bool a) = .returned (.bool b) := by rw [h]
abbrev B1 (w : World) (o : Obj) : Below w.heap.size w (w.alloc o) := (Below.refl _ _).alloc (Nat.le_refl _) o
theorem B2 (w : World) (o p : Obj) : Below w.heap.size w ((w.alloc o).alloc p) := (B1 w o).alloc (by simp) p
theorem drewN_two (w : World) (n m : Nat) : (w.drewN n).drewN m = w.drewN (n + m) := by simp [World.drewN, Nat.add_assoc]

theorem neq_same {P : Program} (w : World) {tp te : TypeId} {j : TypeInfo} (a : Addr) (hp : P.underlying tp = some (.pointer te)) (hte : P.info? te = some j) :
    (binOp .neq tp (.pointer (some a)) (.pointer (some a))).run P w = .ok (.bool false) w := by
  have h : ∀ d : Nat, (Op.equalIn (d + 1) tp (.pointer (some a)) (.pointer (some a))).run P w = .ok true w := fun d => by
    simp [Op.equalIn, run_underlying hp, sizeOf, typeInfo, hte, run_sameAddr_same]
  simp only [binOp]
  simp [Op.equal, Op.maxDepth, h 9999]
theorem neq_nil_l {P : Program} (w : World) {tp te : TypeId} (a : Addr) (hp : P.underlying tp = some (.pointer te)) :
    (binOp .neq tp (.pointer none) (.pointer (some a))).run P w = .ok (.bool true) w := by
  have h : ∀ d : Nat, (Op.equalIn (d + 1) tp (.pointer none) (.pointer (some a))).run P w = .ok false w := fun d => by
    simp [Op.equalIn, run_underlying hp]
  simp only [binOp]
  simp [Op.equal, Op.maxDepth, h 9999]

theorem q_left {P : Program} {f : FuncId} {args : Array Value} {w : World} {n : Nat} {v : Value}
    (h : Calls P f args (w.drewN n) fun e w' => e = .returned v ∧ w.drewN n = w') : Calls P f args (w.drewN n) fun e w'' => e = .returned v ∧ ∃ m, w'' = w.drewN m :=
  h.mono fun _ _ ⟨he, hm⟩ => ⟨he, n, hm.symm⟩
theorem q_drew {P : Program} {f : FuncId} {args : Array Value} {w : World} {n : Nat} {v : Value}
    (h : Calls P f args (w.drewN n) fun e w' => e = .returned v ∧ ∃ k, w' = (w.drewN n).drewN k) : Calls P f args (w.drewN n) fun e w'' => e = .returned v ∧ ∃ m, w'' = w.drewN m :=
  h.mono fun _ _ ⟨he, k, hm⟩ => ⟨he, n + k, by rw [hm, drewN_two]⟩

/-- Values in memory, one behind the other, one cell each. -/
def Lies (w : World) (A : Option Addr) (l : List Value) : Prop :=
  0 < l.length → ∃ b o, A = some ⟨b, o, none⟩ ∧ b < w.heap.size ∧ ∀ i, i < l.length → w.cell? ⟨b, o + i, none⟩ = l[i]?
theorem Lies.below {w w' : World} {A : Option Addr} {l : List Value} (h : Lies w A l) (hb : Below w.heap.size w w') : Lies w' A l := by
  intro h0
  obtain ⟨b, o, e, hl, hc⟩ := h h0
  exact ⟨b, o, e, Nat.lt_of_lt_of_le hl hb.size, fun i hi => (hb.cell (p := ⟨b, o + i, none⟩) hl).trans (hc i hi)⟩
theorem Lies.drewN {w : World} {A : Option Addr} {l : List Value} {n : Nat} (h : Lies w A l) : Lies (w.drewN n) A l := h

/-- What a row of the call's own is: none, or a slice. -/
theorem own_slice {w : World} {base n : Nat} {e size : Nat} {v : Value} {xs : List Value} (h : w.ownsRow base e size v n xs) : ∃ A c, v = .slice A n c ∧ (A = none → n = 0 ∧ c = 0) ∧ n ≤ c := by
  rcases h.2 with ⟨rfl, rfl⟩ | ⟨g, cap, cur, rfl, hb, hh, h1, h2, _⟩
  · exact ⟨none, 0, rfl, fun _ => ⟨rfl, rfl⟩, Nat.le_refl _⟩
  · exact ⟨_, cap, rfl, fun h => (by cases h), h1⟩
theorem own_shape {w : World} {base e size n : Nat} {v : Value} {xs : List Value} (h : w.ownsRow base e size v n xs) (h0 : 0 < n) : ∃ g cap, v = .slice (some ⟨g, 0, none⟩) n cap ∧ base ≤ g ∧ n ≤ cap ∧ cap ≤ maxLen ∧ g < w.heap.size := by
  rcases h.2 with ⟨_, hn⟩ | ⟨g, cap, cur, rfl, hb, hh, h1, h2, _⟩
  · omega
  · exact ⟨g, cap, rfl, hb, h1, h2, (Array.getElem?_eq_some_iff.1 hh).1⟩
theorem own_lies {w : World} {base e : Nat} {A : Option Addr} {c : Nat} {xs : List Value} (h : w.ownsRow base e 1 (.slice A xs.length c) xs.length xs) : Lies w A xs := by
  intro h0
  obtain ⟨g, cap, e, _, _, _, hg⟩ := own_shape h h0
  cases e
  refine ⟨g, 0, rfl, hg, fun i hi => ?_⟩
  rw [Nat.zero_add, h.cellAt i (by omega)]
theorem own_kept {w w' : World} {base e size n : Nat} {v : Value} {xs : List Value} (h : w.ownsRow base e size v n xs) (hk : ∀ k, v.ownBlock = some k → w'.heap[k]? = w.heap[k]?) : w'.ownsRow base e size v n xs := by
  refine ⟨h.1, ?_⟩
  rcases h.2 with hn | ⟨g, cap, cur, rfl, hb, hg, rest⟩
  · exact .inl hn
  · exact .inr ⟨g, cap, cur, rfl, hb, (hk g rfl).trans hg, rest⟩
theorem own_ne {w : World} {base e size n b : Nat} {v : Value} {xs : List Value} {vs : Array Value} {T : TypeId} (h : w.ownsRow base e size v n xs) (hb : Blk w b vs T) (hT : T ≠ e) : v.ownBlock ≠ some b := by
  rcases h.2 with ⟨rfl, _⟩ | ⟨g, cap, cur, rfl, _, hg, _⟩
  · simp [Value.ownBlock]
  · simp only [Value.ownBlock, ne_eq, Option.some.injEq]
    rintro rfl
    rw [show w.heap[g]? = _ from hb] at hg
    cases hg
    exact hT rfl

/-- An arena in memory: where it lies, how many it is for, how many it had at the most, its row, what it has. -/
structure Ar (T E : TypeId) (w : World) (base b : Nat) (most peak : Int) (v : Value) (xs : List Value) : Prop where
  lo : base ≤ b
  blk : Blk w b #[v, .int .i64 most, .int .i64 peak, .pointer (some ⟨b, 0, none⟩)] T
  own : w.ownsRow base E 1 v xs.length xs
  fits : (xs.length : Int) ≤ most
  room : most < 9223372036854775808
  up : (xs.length : Int) ≤ peak
  top : peak ≤ most

/-- What a call that turns an arena does: its own block, its row; a row that it has got is the one that it had, or new. -/
structure Turn (w w' : World) (b : Nat) (v v' : Value) : Prop where
  os : w'.os = w.os
  tape : w'.tape = w.tape
  output : w'.output = w.output
  size : w.heap.size ≤ w'.heap.size
  block : ∀ k, k < w.heap.size → k ≠ b → v.ownBlock ≠ some k → w'.heap[k]? = w.heap[k]?
  fresh : ∀ k, v'.ownBlock = some k → v.ownBlock = some k ∨ w.heap.size ≤ k
theorem Turn.below {T E : TypeId} {w w' : World} {base b : Nat} {most peak : Int} {v v' : Value} {xs : List Value} (h : Turn w w' b v v') (ha : Ar T E w base b most peak v xs) (hB : base ≤ w.heap.size) : Below base w w' :=
  ⟨h.os, h.tape, h.output, h.size, fun k hk => h.block k (by omega) (by have := ha.lo; omega) (fun e => by have := (ha.own.lt k e).1; omega)⟩
theorem Turn.same (w : World) (b n : Nat) (v : Value) : Turn w (w.drewN n) b v v := ⟨rfl, rfl, rfl, Nat.le_refl _, fun _ _ _ _ => rfl, fun _ h => .inl h⟩
theorem Turn.ofDrew {w w' : World} {b n : Nat} {v v' : Value} (h : Turn (w.drewN n) w' b v v') : Turn w w' b v v' := ⟨h.os, h.tape, h.output, h.size, h.block, h.fresh⟩
theorem Turn.thenDrew {w w' : World} {b n : Nat} {v v' : Value} (h : Turn w w' b v v') : Turn w (w'.drewN n) b v v' := ⟨h.os, h.tape, h.output, h.size, h.block, h.fresh⟩
theorem Ar.kept {T E : TypeId} {w w' : World} {base b : Nat} {most peak : Int} {v : Value} {xs : List Value} (h : Ar T E w base b most peak v xs) (h1 : w'.heap[b]? = w.heap[b]?) (h2 : ∀ k, v.ownBlock = some k → w'.heap[k]? = w.heap[k]?) : Ar T E w' base b most peak v xs :=
  ⟨h.lo, h1.trans h.blk, own_kept h.own h2, h.fits, h.room, h.up, h.top⟩
theorem Ar.below {T E : TypeId} {w w' : World} {base b : Nat} {most peak : Int} {v : Value} {xs : List Value} (h : Ar T E w base b most peak v xs) (hb : Below w.heap.size w w') : Ar T E w' base b most peak v xs :=
  h.kept (hb.block b h.blk.lt) (fun k e => hb.block k (h.own.lt k e).2)
theorem Ar.drewN {T E : TypeId} {w : World} {base b n : Nat} {most peak : Int} {v : Value} {xs : List Value} (h : Ar T E w base b most peak v xs) : Ar T E (w.drewN n) base b most peak v xs :=
  h.kept rfl (fun _ _ => rfl)
/-- An arena stays as another one turns: neither its block nor its row is the other's. -/
theorem Ar.other {T E : TypeId} {w w' : World} {base b c : Nat} {most peak : Int} {v u u' : Value} {xs : List Value} (h : Ar T E w base b most peak v xs) (ht : Turn w w' c u u') (hbc : b ≠ c) (hu : u.ownBlock ≠ some b) (hvc : v.ownBlock ≠ some c) (hvu : ∀ k, v.ownBlock = some k → u.ownBlock ≠ some k) : Ar T E w' base b most peak v xs :=
  h.kept (ht.block b h.blk.lt hbc hu) (fun k e => ht.block k (h.own.lt k e).2 (fun h => hvc (by rw [e, h])) (hvu k e))
theorem ar_cells {T E : TypeId} {w : World} {base b : Nat} {most peak : Int} {v : Value} {xs : List Value} (h : Ar T E w base b most peak v xs) :
    w.cell? ⟨b, 0, none⟩ = some v ∧ w.cell? ⟨b, 1, none⟩ = some (.int .i64 most) ∧ w.cell? ⟨b, 2, none⟩ = some (.int .i64 peak) ∧ w.cell? ⟨b, 3, none⟩ = some (.pointer (some ⟨b, 0, none⟩)) :=
  ⟨by rw [h.blk.cell]; rfl, by rw [h.blk.cell]; rfl, by rw [h.blk.cell]; rfl, by rw [h.blk.cell]; rfl⟩
/-- The greatest count is written beside a row that grew. -/
theorem peak_store {T E : TypeId} {w w1 : World} {base b : Nat} {most peak : Int} {v v1 : Value} {xs ys : List Value} (ha : Ar T E w base b most peak v xs) (hTE : T ≠ E)
    (ho : w1.ownsRow base E 1 v1 ys.length ys) (hB : Blk w1 b #[v1, .int .i64 most, .int .i64 peak, .pointer (some ⟨b, 0, none⟩)] T) (ht : Turn w w1 b v v1) (k : Nat) (p : Int) (h1 : (ys.length : Int) ≤ p) (h2 : p ≤ most) :
    Ar T E ((w1.drewN k).setCell ⟨b, 2, none⟩ (.int .i64 p)) base b most p v1 ys ∧ Turn w ((w1.drewN k).setCell ⟨b, 2, none⟩ (.int .i64 p)) b v v1 := by
  have hv1 := own_ne ho hB hTE
  have hB' : Blk (w1.drewN k) b #[v1, .int .i64 most, .int .i64 peak, .pointer (some ⟨b, 0, none⟩)] T := hB
  refine ⟨⟨ha.lo, heap_setCell_same (w1.drewN k) b 2 _ T _ hB', own_kept ho (fun j e => ?_), by omega, ha.room, h1, h2⟩, ⟨ht.os, ht.tape, ht.output, by simpa [World.setCell] using ht.size, fun j hj h3 h4 => ?_, ht.fresh⟩⟩
  · exact heap_setCell_other (w1.drewN k) ⟨b, 2, none⟩ j _ (fun h => hv1 (by rw [e, show j = b from h]))
  · exact (heap_setCell_other (w1.drewN k) ⟨b, 2, none⟩ j _ (show j ≠ b from h3)).trans (ht.block j hj h3 h4)
theorem max_if (p : Int) (a b : Nat) : (if p < (a : Int) + b then (a : Int) + b else p) = max p ((a + b : Nat) : Int) := by
  rw [Int.natCast_add]; split <;> omega
end Go.Proofs.Ytfcacgiejoeneaa

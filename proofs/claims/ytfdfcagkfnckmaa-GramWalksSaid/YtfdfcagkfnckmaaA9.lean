/- Blocks that are written over: values may be others, kinds and sizes stay. Nothing here speaks of one program. -/
import Derived.Test.YtfdfcagkfnckmaaA7
import Derived.Deep.MidRow
import Derived.Test.YtfdfcagkfnckmaaA8
import Derived.Test.YtfdfcagkfnckmaaA6
import Derived.Test.YtfdfcagkfnckmaaAb
import Derived.Deep.RegionHeld3
import Derived.Deep.CutRange
set_option linter.unusedSimpArgs false
set_option linter.unusedVariables false
namespace Go.Proofs.Ytfdfcagkfnckmaa
open Go Go.RowKit
/-- Blocks of S may be written over, no other block turns; memory may grow. -/
structure Scr (S : Nat → Prop) (w w' : World) : Prop where
  os : w'.os = w.os
  tape : w'.tape = w.tape
  output : w'.output = w.output
  size : w.heap.size ≤ w'.heap.size
  block : ∀ j, j < w.heap.size → ¬ S j → w'.heap[j]? = w.heap[j]?
  room : ∀ j vs T, Blk w j vs T → ∃ vs', Blk w' j vs' T ∧ vs'.size = vs.size
theorem Scr.refl (S : Nat → Prop) (w : World) : Scr S w w := ⟨rfl, rfl, rfl, Nat.le_refl _, fun _ _ _ => rfl, fun j vs T h => ⟨vs, h, rfl⟩⟩
theorem Scr.trans {S : Nat → Prop} {a b c : World} (h : Scr S a b) (k : Scr S b c) : Scr S a c :=
  ⟨k.os.trans h.os, k.tape.trans h.tape, k.output.trans h.output, Nat.le_trans h.size k.size, fun j hj hs => (k.block j (Nat.lt_of_lt_of_le hj h.size) hs).trans (h.block j hj hs), fun j vs T hb => by
    obtain ⟨v1, b1, e1⟩ := h.room j vs T hb
    obtain ⟨v2, b2, e2⟩ := k.room j v1 T b1
    exact ⟨v2, b2, e2.trans e1⟩⟩
theorem Scr.of_below {S : Nat → Prop} {w w' : World} (h : Below w.heap.size w w') : Scr S w w' :=
  ⟨h.os, h.tape, h.output, h.size, fun j hj _ => h.block j hj, fun j vs T hb => ⟨vs, hb.below' h, rfl⟩⟩
theorem Scr.below {S : Nat → Prop} {w w' : World} {B : Nat} (h : Scr S w w') (hB : B ≤ w.heap.size) (hS : ∀ j, S j → B ≤ j) : Below B w w' :=
  ⟨h.os, h.tape, h.output, h.size, fun j hj => h.block j (by omega) (fun hs => by have := hS j hs; omega)⟩
theorem Scr.set (S : Nat → Prop) (w : World) (b i : Nat) (v : Value) (hS : S b) : Scr S w (w.setCell ⟨b, i, none⟩ v) :=
  ⟨rfl, rfl, rfl, by simp, fun j _ hs => heap_setCell_other w ⟨b, i, none⟩ j v (fun e => hs (by rw [e]; exact hS)), fun j vs T hb => by
    by_cases e : j = b
    · subst e
      exact ⟨_, heap_setCell_same w j i vs T v hb, by simp⟩
    · exact ⟨vs, (heap_setCell_other w ⟨b, i, none⟩ j v e).trans hb, rfl⟩⟩
theorem Scr.sets (S : Nat → Prop) (b : Nat) (hS : S b) : ∀ (vs : List Value) (o : Nat) (w : World), Scr S w (w.setCells b o vs)
  | [], _, w => Scr.refl S w
  | v :: vs, o, w => (Scr.set S w b o v hS).trans (Scr.sets S b hS vs (o + 1) _)
theorem Scr.mono {S S' : Nat → Prop} {w w' : World} (h : Scr S w w') (hs : ∀ j, S j → S' j) : Scr S' w w' :=
  ⟨h.os, h.tape, h.output, h.size, fun j hj hn => h.block j hj (fun k => hn (hs j k)), h.room⟩
theorem Scr.blk {S : Nat → Prop} {w w' : World} {b : Nat} {vs : Array Value} {T : TypeId} (h : Scr S w w') (hb : Blk w b vs T) (hs : ¬ S b) : Blk w' b vs T := (h.block b hb.lt hs).trans hb
theorem own_room {w : World} {B e size n g cap : Nat} {o : Nat} {xs : List Value} (h : w.ownsRow B e size (.slice (some ⟨g, o, none⟩) n cap) n xs) : o = 0 ∧ ∃ vs, Blk w g vs e ∧ n * size ≤ vs.size := by
  rcases h.2 with ⟨h1, _⟩ | ⟨g', cap', cur, h1, hbg, hgg, hn, hc, hs, rest⟩
  · cases h1
  · simp only [Value.slice.injEq, Option.some.injEq, Addr.mk.injEq] at h1
    obtain ⟨⟨rfl, rfl, _⟩, _, rfl⟩ := h1
    exact ⟨rfl, cur, hgg, by rw [hs]; exact Nat.mul_le_mul_right _ hn⟩
theorem Blk.there {w : World} {b o n : Nat} {vs : Array Value} {T : TypeId} (h : Blk w b vs T) (hn : o + n ≤ vs.size) : w.there b o n := fun j hj => by
  refine ⟨?_, h.frozen _⟩
  rw [h.cell, Array.getElem?_eq_getElem (by omega)]
  rfl
theorem Scr.there {S : Nat → Prop} {w w' : World} {B e size n g cap o m : Nat} {xs : List Value} (s : Scr S w w') (h : w.ownsRow B e size (.slice (some ⟨g, 0, none⟩) n cap) n xs) (hm : o + m ≤ n * size) : w'.there g o m := by
  obtain ⟨_, vs, hb, hl⟩ := own_room h
  obtain ⟨vs', hb', hl'⟩ := s.room g vs e hb
  exact hb'.there (by omega)
/-- A row of the call's own that lies elsewhere. -/
theorem Scr.own {S : Nat → Prop} {w w' : World} {B e size n : Nat} {v : Value} {xs : List Value} (s : Scr S w w') (h : w.ownsRow B e size v n xs) (hv : ∀ j, v.ownBlock = some j → ¬ S j) : w'.ownsRow B e size v n xs :=
  own_kept h (fun j hj => s.block j (h.lt j hj).2 (hv j hj))
theorem Scr.fresh {S : Nat → Prop} {w w' : World} {m : Nat} {k : Gr} (s : Scr S w w') (f : Fresh w m k) (hS : ∀ j, S j → j < m) : Fresh w' m k :=
  ⟨s.own f.rules (fun j hj hs => by have := (f.rules.lt j hj).1; have := hS j hs; omega), s.own f.nodes (fun j hj hs => by have := (f.nodes.lt j hj).1; have := hS j hs; omega),
    fun x hx => ⟨s.own (f.kids x hx).1 (fun j hj hs => by have := ((f.kids x hx).1.lt j hj).1; have := hS j hs; omega), (f.kids x hx).2⟩, f.rn, f.nn⟩
/-- The blocks of a row of nodes and of their kids. -/
def NodesOf (h : Gr) (j : Nat) : Prop := (Value.slice h.NA h.nodes.length h.nc).ownBlock = some j ∨ ∃ x ∈ h.nodes, (Value.slice x.A x.kids.length x.cap).ownBlock = some j
def RulesOf (h : Gr) (j : Nat) : Prop := (Value.slice h.RA h.rules.length h.rc).ownBlock = some j
theorem own_blkT {w : World} {B e size n b : Nat} {v : Value} {xs : List Value} (h : w.ownsRow B e size v n xs) (hv : v.ownBlock = some b) : ∃ vs, Blk w b vs e ∧ n * size ≤ vs.size := by
  rcases h.2 with ⟨rfl, _⟩ | ⟨g, cap, cur, rfl, hbg, hgg, hn, hc, hs, rest⟩
  · cases hv
  · simp only [Value.ownBlock, Option.some.injEq] at hv
    subst hv
    exact ⟨cur, hgg, by rw [hs]; exact Nat.mul_le_mul_right _ hn⟩
theorem Blk.same_T {w : World} {b : Nat} {vs vs' : Array Value} {T T' : TypeId} (h : Blk w b vs T) (h' : Blk w b vs' T') : T = T' := by
  have e : some (Obj.cells vs T (0, 0)) = some (Obj.cells vs' T' (0, 0)) := h.symm.trans h'
  simp only [Option.some.injEq, Obj.cells.injEq] at e
  exact e.2.1
theorem rulesOf_not {w : World} {B : Nat} {h : Gr} (f : Fresh w B h) {b : Nat} {vs : Array Value} {T : TypeId} (hb : Blk w b vs T) (hT : T ≠ 45) : ¬ RulesOf h b := fun e => by
  obtain ⟨_, h1, _⟩ := own_blkT f.rules e
  exact hT (hb.same_T h1)
theorem nodesOf_not {w : World} {B : Nat} {h : Gr} (f : Fresh w B h) {b : Nat} {vs : Array Value} {T : TypeId} (hb : Blk w b vs T) (hT : T ≠ 32 ∧ T ≠ 3) : ¬ NodesOf h b := fun e => by
  rcases e with e | ⟨x, hx, e⟩
  · obtain ⟨_, h1, _⟩ := own_blkT f.nodes e
    exact hT.1 (hb.same_T h1)
  · obtain ⟨_, h1, _⟩ := own_blkT (f.kids x hx).1 e
    exact hT.2 (hb.same_T h1)
/-- What still lies of nodes from the i-th on: where their kids lie. -/
def Heads (h : Gr) (i : Nat) (w : World) : Prop := ∀ g, h.NA = some ⟨g, 0, none⟩ → ∀ j, i ≤ j → j < h.nodes.length → w.cell? ⟨g, j * 9 + 8, none⟩ = some (.slice (h.nodes.getD j Nd.zero).A (h.nodes.getD j Nd.zero).kids.length (h.nodes.getD j Nd.zero).cap)
theorem Heads.start {w : World} {B : Nat} {h : Gr} (f : Fresh w B h) : Heads h 0 w := by
  intro g e j _ hj
  have hN := own_nodes f.nodes
  obtain ⟨b, o, e2, _, hc⟩ := hN (by omega)
  rw [e] at e2
  simp only [Option.some.injEq, Addr.mk.injEq] at e2
  obtain ⟨rfl, rfl, _⟩ := e2
  have := hc j hj 8 (by decide)
  rw [Nat.zero_add] at this
  exact this
theorem Heads.kid {w : World} {h : Gr} {i g : Nat} {p : Nat} {v : Value} (hh : Heads h i w) (hg : h.NA ≠ some ⟨g, 0, none⟩) : Heads h i (w.setCell ⟨g, p, none⟩ v) := by
  intro g' e j h1 h2
  rw [World.cell?_setCell_other _ _ _ _ (fun e2 => hg (by cases e2; exact e))]
  exact hh g' e j h1 h2
theorem Heads.node {w : World} {h : Gr} {i g : Nat} {vs : List Value} (hh : Heads h i w) (hv : vs.length = 9) : Heads h (i + 1) (w.setCells g (i * 9) vs) := by
  intro g' e j h1 h2
  rw [World.cell?_setCells_out _ _ _ _ _ (fun _ _ => by show j * 9 + 8 < i * 9 ∨ i * 9 + vs.length ≤ j * 9 + 8; omega)]
  exact hh g' e j (by omega) h2
theorem Scr.heads {S : Nat → Prop} {w w' : World} {h : Gr} {B : Nat} (s : Scr S w w') (f : Fresh w B h) (hS : ∀ g, h.NA = some ⟨g, 0, none⟩ → ¬ S g) : Heads h 0 w' := by
  intro g e j h1 h2
  have h0 := Heads.start f g e j h1 h2
  have hl : g < w.heap.size := World.block_lt_of_cell? _ _ h0
  exact (World.cell?_of_block (a := ⟨g, j * 9 + 8, none⟩) (s.block g hl (hS g e))).trans h0
/-- A store of several cells into the midst of a block: the world behind it by a name of its own. -/
theorem wpList_store_mid2 {P : Program} {ops : Array Oper} {rest : List Oper} {op : Oper} {a : Act} {w : World} {Q : Exit → Act → World → Prop} (hgd : op.guard = none) (ty : TypeId) (x y : Operand) (ho : op.op = .store ty x y)
    (b o : Nat) (cells : Array Value) (hx : a.eval x = .pointer (some ⟨b, o, none⟩)) (hy : a.eval y = .agg cells)
    (ht : w.there b o cells.size) (hi : (P.info? ty).map (·.size) = some cells.size) (h1 : cells.all (·.oneCell') = true)
    (h : ∀ W, W = w.setCells b o cells.toList → wpList P ops Q rest (a.put op.dst undef) W) : wpList P ops Q (op :: rest) a w :=
  wpList_store_mid hgd ty x y ho b o cells hx hy ht hi h1 (h _ rfl)
end Go.Proofs.Ytfdfcagkfnckmaa
namespace Go.Proofs.Ytfdfcagkfnckmaa
open Go Go.RowKit
abbrev zr : Array Value := #[.slice none 0 0, .slice none 0 0]
theorem balloc {w x : World} (h : Below w.heap.size w x) (o : Obj) : Below w.heap.size w (x.alloc o) := h.alloc h.size o
theorem blk_two (w : World) (o : Obj) (vs : Array Value) (T : TypeId) : Blk ((w.alloc o).alloc (.cells vs T)) (w.heap.size + 1) vs T := by
  have := Blk.new (w.alloc o) vs T
  rw [World.size_alloc] at this
  exact this
theorem box2 {w : World} {b : Nat} {x y : Value} {T : TypeId} (h : Blk w b #[x, y] T) : w.cell? ⟨b, 0, none⟩ = some x ∧ w.cell? ⟨b, 1, none⟩ = some y := ⟨h.cell 0, h.cell 1⟩
theorem blk_set {w : World} {b c j : Nat} {vs : Array Value} {T : TypeId} {v : Value} (h : Blk w b vs T) (hne : b ≠ c) : Blk (w.setCell ⟨c, j, none⟩ v) b vs T := (heap_setCell_other w ⟨c, j, none⟩ b v hne).trans h
theorem blk_drew {w : World} {b : Nat} {vs : Array Value} {T : TypeId} (h : Blk w b vs T) : Blk w.drew b vs T := h
/-- The blocks of a grammar's rows. -/
def Owns (h : Gr) (j : Nat) : Prop := (Value.slice h.RA h.rules.length h.rc).ownBlock = some j ∨ (Value.slice h.NA h.nodes.length h.nc).ownBlock = some j ∨ ∃ x ∈ h.nodes, (Value.slice x.A x.kids.length x.cap).ownBlock = some j
theorem Fresh.lt {w : World} {B : Nat} {h : Gr} (f : Fresh w B h) : ∀ j, Owns h j → B ≤ j ∧ j < w.heap.size := by
  rintro j (e | e | ⟨x, hx, e⟩)
  · exact f.rules.lt j e
  · exact f.nodes.lt j e
  · exact (f.kids x hx).1.lt j e
/-- Two copies, each in its variable. -/
def TwoC (a : Gr) (w : World) (B : Nat) (s5 s6 : Value) (wx : World) : Prop :=
  ∃ (c5 c6 : Nat) (h k : Gr), s5 = .pointer (some ⟨c5, 0, none⟩) ∧ s6 = .pointer (some ⟨c6, 0, none⟩) ∧ Blk wx c5 #[.slice h.RA h.rules.length h.rc, .slice h.NA h.nodes.length h.nc] 25 ∧ Blk wx c6 #[.slice k.RA k.rules.length k.rc, .slice k.NA k.nodes.length k.nc] 25 ∧ c5 ≠ c6 ∧ B ≤ c5 ∧ B ≤ c6 ∧ GTwin a h ∧ GTwin a k ∧ Fresh wx B h ∧ Fresh wx B k ∧ Below B w wx ∧ ∃ m, (∀ j, Owns h j → j < m) ∧ Fresh wx m k
theorem own_T {w : World} {B e size n b : Nat} {v : Value} {xs : List Value} {vs : Array Value} {T : TypeId} (h : w.ownsRow B e size v n xs) (hb : Blk w b vs T) (hT : e ≠ T) : v.ownBlock = none ∨ v.ownBlock ≠ some b := by
  rcases h.2 with ⟨rfl, _⟩ | ⟨g, cap, cur, rfl, hbg, hgg, rest⟩
  · exact .inl rfl
  · refine .inr (fun e' => ?_)
    simp only [Value.ownBlock, Option.some.injEq] at e'
    subst e'
    have hb' : w.heap[g]? = some (.cells vs T (0, 0)) := hb
    rw [hgg] at hb'
    simp only [Option.some.injEq, Obj.cells.injEq] at hb'
    exact hT hb'.2.1
theorem Fresh.keep {w w' : World} {B b : Nat} {h : Gr} {vs : Array Value} (f : Fresh w B h) (hb : Blk w b vs 25) (hg : w.grownBy w' (some b)) : Fresh w' B h :=
  ⟨f.rules.kept hg (own_T f.rules hb (by decide)), f.nodes.kept hg (own_T f.nodes hb (by decide)), fun x hx => ⟨(f.kids x hx).1.kept hg (own_T (f.kids x hx).1 hb (by decide)), (f.kids x hx).2⟩, f.rn, f.nn⟩
theorem Fresh.lower {w : World} {B B' : Nat} {h : Gr} (f : Fresh w B h) (hB : B' ≤ B) : Fresh w B' h :=
  ⟨own_lower f.rules hB, own_lower f.nodes hB, fun x hx => ⟨own_lower (f.kids x hx).1 hB, (f.kids x hx).2⟩, f.rn, f.nn⟩
theorem set_two {w : World} {b : Nat} {x y u v : Value} (h : Blk w b #[x, y] 25) : Blk ((w.setCell ⟨b, 0, none⟩ u).setCell ⟨b, 1, none⟩ v) b #[u, v] 25 ∧ w.grownBy ((w.setCell ⟨b, 0, none⟩ u).setCell ⟨b, 1, none⟩ v) (some b) := by
  have k1 : Blk (w.setCell ⟨b, 0, none⟩ u) b #[u, y] 25 := heap_setCell_same w b 0 #[x, y] 25 _ h
  exact ⟨heap_setCell_same _ b 1 #[u, y] 25 _ k1, ⟨rfl, rfl, rfl, by simp, fun k hk hne => (heap_setCell_other _ ⟨b, 1, none⟩ k _ (fun e => hne (by rw [e]))).trans (heap_setCell_other w ⟨b, 0, none⟩ k _ (fun e => hne (by rw [e])))⟩⟩
theorem fresh_alloc {w : World} {B : Nat} {h : Gr} (f : Fresh w B h) (o : Obj) : Fresh (w.alloc o) B h := f.below (B1 _ _)
theorem fresh_set {w : World} {B b : Nat} {h : Gr} {x y u v : Value} (f : Fresh w B h) (hb : Blk w b #[x, y] 25) : Fresh ((w.setCell ⟨b, 0, none⟩ u).setCell ⟨b, 1, none⟩ v) B h := f.keep hb (set_two hb).2
theorem blk_set2 {w : World} {b : Nat} {x y u v : Value} (h : Blk w b #[x, y] 25) : Blk ((w.setCell ⟨b, 0, none⟩ u).setCell ⟨b, 1, none⟩ v) b #[u, v] 25 := (set_two h).1
theorem GTwin.same' {g h : Gr} (t : GTwin g h) : sameGr g h = true := by
  unfold sameGr
  rw [rowSame_true (by rw [t.rules]) (fun i _ => by rw [t.rules]; simp [sameRl]), rowSame_true t.len.symm (fun i hi => by
    obtain ⟨A, c, e⟩ := t.node i hi
    rw [e]
    simp [sameNd])]
  rfl
theorem bsc {B : Nat} {a w : World} {b j : Nat} {v : Value} (h : Below B a w) (hb : B ≤ b) : Below B a (w.setCell ⟨b, j, none⟩ v) := h.setCell (p := ⟨b, j, none⟩) hb v
end Go.Proofs.Ytfdfcagkfnckmaa
namespace Go.Proofs.Ytfdfcagkfnckmaa
open Go Go.RowKit Go.Shelf
attribute [local go_sem] Oper.semAt_some
/-- A part of a row of nodes: the value written out. -/
theorem run_slice_nodes (W : World) (t e : TypeId) (ht : Try.prog.underlying t = some (.slice e)) (hz : ∀ w, (Go.sizeOf e).run Try.prog w = .ok 9 w) (b o len cap l h : Nat) (hlh : l < h) (hh : h ≤ cap) :
    (Instr.slice t (.slice (some ⟨b, o, none⟩) len cap) (some (.int .i64 (l : Int))) (some (.int .i64 (h : Int))) none).run Try.prog W = .ok (.slice (some ⟨b, o + l * 9, none⟩) (h - l) (cap - l)) W := by
  have ht' : Try.prog.underlying t = some (.slice (Try.prog.elem t)) := by simp [Program.elem, ht]
  have he : Try.prog.elem t = e := by simp [Program.elem, ht]
  rw [run_slice_lh W t _ _ _ ht' .i64 .i64 _ _ (by omega) (by omega) (by omega), he, hz]
  have hne : ¬ cap = l := by omega
  simp [sliced, hne, Result.andThen, Addr.add]
theorem part_getD (l : List Nd) (k z j : Nat) (hj : j < z) (h : k + z ≤ l.length) : ((l.drop k).take z).getD j Nd.zero = l.getD (k + j) Nd.zero := by
  simp only [List.getD_eq_getElem?_getD]
  rw [List.getElem?_take_of_lt hj, List.getElem?_drop]
theorem part_length (l : List Nd) (k z : Nat) (h : k + z ≤ l.length) : ((l.drop k).take z).length = z := by
  rw [List.length_take, List.length_drop]; omega
theorem Nodes.part {w : World} {b o : Nat} {l : List Nd} (h : Nodes w (some ⟨b, o, none⟩) l) (k z : Nat) (hk : k + z ≤ l.length) : Nodes w (some ⟨b, o + k * 9, none⟩) ((l.drop k).take z) := by
  intro h0
  rw [part_length l k z hk] at h0
  obtain ⟨b', o', e, hb, hc⟩ := h (by omega)
  simp only [Option.some.injEq, Addr.mk.injEq, and_true] at e
  obtain ⟨rfl, rfl⟩ := e
  refine ⟨b, o + k * 9, rfl, hb, fun i hi j hj => ?_⟩
  rw [part_length l k z hk] at hi
  rw [part_getD l k z i hi hk]
  have := hc (k + i) (by omega) j hj
  rw [← this]
  congr 2
  omega
/-- Copies of no nodes. -/
theorem copies_none {ε : Type} (n : Nat) (hn : 6 ≤ n) (p c : Nat) (v : Value) (encs : Nat → ε → Array Value) (R : Nat → ε → World → Prop) (G : Nat → Prop) (w : World) (hbox : Blk w p #[.slice none 0 c] 23) :
    SeqE n Try.prog 72 #[.pointer (some ⟨p, 0, none⟩), v] encs R 0 G w := by
  intro l J Jx W hW hJ hJx hY h0
  have HB := Lib.hid (hbox.below' hW)
  have H0 := Lib.hid h0
  have c0 := (hbox.below' hW).cell 0
  simp only [List.getElem?_toArray, List.getElem?_cons_zero] at c0
  clear hbox hW hJ hJx hY h0
  show CallsIn Fence.wide n Try.prog 72 #[.func (.yield l) #[] #[], .pointer (some ⟨p, 0, none⟩), v] W _
  refine callsIn_of_wp Try.func72 rfl trivial ?_ rfl
  simp only [Try.ntmps72, List.size_toArray, List.length_cons, List.length_nil, Nat.reduceAdd, Nat.reduceSub, Array.replicate_succ, Array.replicate_zero, List.push_toArray, List.append_toArray, List.nil_append, List.cons_append]
  gi_wp2_with (fail)
  clear c0
  gi_loopw [8] (fun i wr => i = .int .i64 0 ∧ wr = W)
    (fun i _ => 0)
  case atStart => exact ⟨rfl, rfl⟩
  case round =>
    obtain ⟨rfl, rfl⟩ := hrel
    gi_wp2_with fail
    go_end0
    exact ⟨⟨_, rfl⟩, .inl H0.out⟩
/-- What Walk tells. -/
def WalkEnd (w : World) (g : Gr) (n : Int) (e : Ending) (w' : World) : Prop :=
  Below w.heap.size w w' ∧ ∃ (p q : Nat) (cl : List Nd), e = .returned (.func (.func 72) #[] #[.pointer (some ⟨p, 0, none⟩), .pointer (some ⟨q, 0, none⟩)]) ∧ cl.length = (measOf g n).1.toNat ∧
    (∀ j, j < cl.length → Twin (g.nodes.getD (n.toNat + j) Nd.zero) (cl.getD j Nd.zero)) ∧
    ∀ (G : Nat → Prop), (∀ b, w.heap.size ≤ b → b < w'.heap.size → G b) → SeqE 11 Try.prog 72 #[.pointer (some ⟨p, 0, none⟩), .pointer (some ⟨q, 0, none⟩)] (fun k x => #[.int .i64 ((n.toNat + k : Nat) : Int), ((cl.getD k Nd.zero).at_ x.1 x.2).val]) (CopyIs w'.heap.size cl) cl.length G w'
theorem twin_kids {x y : Nd} (t : Twin x y) : y.kids = x.kids ∧ y.text = x.text := by
  obtain ⟨A, c, e⟩ := t
  rw [e]
  exact ⟨rfl, rfl⟩
set_option maxRecDepth 100000 in
set_option maxHeartbeats 4000000 in
theorem walk_any (g : Gr) (n : Int) (w : World) (hg : Gr.At w g) (hin : Gr.In g) (hcap : g.nodes.length ≤ g.nc) (hs : Small g) : Calls Try.prog 28 #[g.val, .int .i64 n] w (WalkEnd w g n) := by
  have SZ := Lib.hid (size_of g n _ (hg.below (B1 w (.cells #[.slice g.RA g.rules.length g.rc, .slice g.NA g.nodes.length g.nc] 25))) hin)
  have HG := Lib.hid hg
  have HS := Lib.hid hs
  by_cases hy : Right g ∧ 0 ≤ n ∧ n < g.nodes.length
  · obtain ⟨hr, h0, h1⟩ := hy
    obtain ⟨k, rfl⟩ : ∃ k : Nat, n = k := ⟨n.toNat, by omega⟩
    obtain ⟨ms, hm, _⟩ := hr.pre
    have hk : k < g.nodes.length := by omega
    obtain ⟨a1, _, a3, _⟩ := hm k (by omega) hk
    have hz := measOf_yes hr hm hk
    obtain ⟨z, ez⟩ : ∃ z : Nat, (z : Int) = (measOf g k).1 := ⟨(measOf g k).1.toNat, by rw [hz]; omega⟩
    rw [← hz, ← ez] at a1 a3
    have EZ := Lib.hid ez
    clear SZ
    have SZ := Lib.hid (fun (w' : World) (hb : Below w.heap.size w w') => by
      have := size_of g k w' (hg.below hb) hin
      unfold Gr.val at this
      rw [← ez] at this
      exact this)
    have hnl : g.nodes.length ≤ 1000000 := hs.nodes
    obtain ⟨b, o, eA, hbl, _⟩ := hg.nodes (by omega)
    have hpz : k + z ≤ g.nodes.length := by omega
    have hsl := fun W => run_slice_nodes W 23 32 (by kernel_rfl) (fun w => by kernel_rfl) b o g.nodes.length g.nc k (k + z) (by omega) (by omega)
    have hwr : IntKind.i64.wrap ((k : Int) + z) = (k : Int) + z := IntWalk.i64_in _ (by omega)
    have hpos : (0 : Int) < z := by omega
    rw [Nat.add_sub_cancel_left, Int.natCast_add] at hsl
    have CN := Lib.hid (fun (w' : World) (hb : Below w.heap.size w w') => by
      have hn1 := (hg.below hb).nodes
      rw [eA] at hn1
      have := gcopyNodes_any (some ⟨b, o + k * 9, none⟩) ((g.nodes.drop k).take z) (g.nc - k) (by rw [part_length _ _ _ hpz]; omega) (fun h => by cases h) w' (hn1.part k z hpz) (fun x hx => (hg.below hb).kids x (List.mem_of_mem_drop (List.mem_of_mem_take hx))) (fun x hx => hs.kids x (List.mem_of_mem_drop (List.mem_of_mem_take hx)))
      rw [part_length _ _ _ hpz] at this
      exact this)
    have HPZ := Lib.hid hpz
    have EA := Lib.hid eA
    show Calls Try.prog 28 #[.agg #[.slice g.RA g.rules.length g.rc, .slice g.NA g.nodes.length g.nc], .int .i64 k] w _
    rw [eA] at SZ ⊢
    clear hg hin hcap hs hr h0 h1 hm hk hz ez hnl eA hpz a1 a3 hbl
    go_enter Try.func28, Try.ntmps28
    go_wp2_with (first | (go_at_call 25; refine (SZ.out _ (B1 w _)).mono ?_; rintro e w1 ⟨rfl, hb⟩; have H1 := Lib.hid (bb (B1 w _) hb); have KB := Lib.hid ((Blk.new w _ _).below' hb); have a0 := KB.out.cell 0; have a1 := KB.out.cell 1; simp only [List.getElem?_toArray, List.getElem?_cons_zero, List.getElem?_cons_succ] at a0 a1; clear hb) | (go_at_call 47; refine (CN.out _ H1.out).mono ?_; rintro e w2 ⟨A', c', rfl, hcc⟩; have HC := Lib.hid hcc; clear hcc) | (go_at_call 54; refine (copies_any _ _ _ _ _).mono ?_; rintro e w8 ⟨rfl, rfl⟩))
    go_ret
    obtain ⟨cl, q1, q2, q3, q4, q5, q6⟩ := HC.out
    obtain ⟨w8, e8⟩ : ∃ u, u = (w2.alloc (.cells #[.slice A' z c'] 23)).alloc (.cells #[.int .i64 (k : Int)] 3) := ⟨_, rfl⟩
    have hb8 : Below w2.heap.size w2 w8 := by rw [e8]; exact B2 _ _ _
    have hz8 : w8.heap.size = w2.heap.size + 2 := by rw [e8]; simp
    have kp : Blk w8 w2.heap.size #[.slice A' z c'] 23 := by rw [e8]; exact (Blk.new _ _ _).alloc _
    have kq : Blk w8 (w2.heap.size + 1) #[.int .i64 (k : Int)] 3 := by
      rw [e8]; have := Blk.new (w2.alloc (.cells #[.slice A' z c'] 23)) #[.int .i64 (k : Int)] 3; rw [World.size_alloc] at this; exact this
    rw [← e8]
    have s1 := H1.out.size
    have s2 := q6.size
    have hmem : ∀ x ∈ cl, ∃ y ∈ g.nodes, x.kids = y.kids ∧ x.text = y.text := fun x hx => by
      obtain ⟨j, hj, rfl⟩ := List.mem_iff_getElem.1 hx
      have t := twin_kids (q2 j (by omega))
      rw [part_getD _ _ _ _ (by omega) HPZ.out] at t
      refine ⟨g.nodes.getD (k + j) Nd.zero, getD_mem (by have := HPZ.out; omega), ?_⟩
      simpa [List.getD_eq_getElem?_getD, hj] using t
    refine ⟨bb H1.out (bb q6 hb8), w2.heap.size, w2.heap.size + 1, cl, rfl, by rw [← EZ.out, q1]; simp, fun j hj => ?_, fun G hG => ?_⟩
    · have := q2 j (by omega)
      rw [part_getD _ _ _ _ (by omega) HPZ.out] at this
      exact this
    · have hx : Nodes w8 A' cl := (own_nodes (by rw [q1]; exact q3)).below hb8
      have hkA : ∀ x ∈ cl, Nd.At w8 x := fun x hx => Nd.At.below ⟨own_lies1 (q4 x hx).1, (q4 x hx).2.1, by obtain ⟨y, hy, e, _⟩ := hmem x hx; rw [e]; have := (HS.out.kids y hy).1; omega⟩ hb8
      have := copies_seq 11 (by omega) w2.heap.size (w2.heap.size + 1) A' c' k cl (by have := HPZ.out; have := HS.out.nodes; omega) (by have := HPZ.out; have := HS.out.nodes; omega)
        (fun x hx => by obtain ⟨y, hy, e1, e2⟩ := hmem x hx; rw [e1, e2]; exact HS.out.kids y hy) G (hG _ (by omega) (by omega)) (hG _ (by omega) (by omega))
        (fun b o e h0 => by
          have := q3.lt b (by rw [e]; rfl)
          exact hG b (by omega) (by omega))
        (fun x hx b o e h0 => by
          have := (q4 x hx).1.lt b (by rw [e]; rfl)
          exact hG b (by omega) (by omega))
        w8 (by rw [q1]; exact kp) kq hx hkA
      exact this
  · have hz : (measOf g n).1 = 0 := by rw [measOf_no hy]
    rw [hz] at SZ
    clear hg hin hcap hs hy
    show Calls Try.prog 28 #[.agg #[.slice g.RA g.rules.length g.rc, .slice g.NA g.nodes.length g.nc], .int .i64 n] w _
    have HZ := Lib.hid hz
    clear hz
    go_enter Try.func28, Try.ntmps28
    go_wp2_with (first | (go_at_call 25; refine (SZ.out).mono ?_; rintro e w1 ⟨rfl, hb⟩; have H1 := Lib.hid (bb (B1 w _) hb); clear hb) | (go_at_call 54; refine (copies_any _ _ _ _ _).mono ?_; rintro e w8 ⟨rfl, rfl⟩))
    go_ret
    refine ⟨bb H1.out (B2 _ _ _), w1.heap.size, w1.heap.size + 1, [], rfl, by rw [HZ.out]; rfl, fun j hj => by simp at hj, fun G _ => ?_⟩
    exact copies_none 11 (by omega) _ 0 _ _ _ _ _ ((Blk.new _ _ _).alloc _)
end Go.Proofs.Ytfdfcagkfnckmaa
namespace Go.Proofs.Ytfdfcagkfnckmaa
open Go Go.RowKit
/-- A node with other kids, as many. -/
abbrev Nd.with (x : Nd) (k : List Int) : Nd := { x with kids := k }
def turned (h : Gr) (m : Nat) (k : List Int) : Gr := { h with nodes := h.nodes.set m ((h.nodes.getD m Nd.zero).with k) }
theorem set_getD (l : List Nd) (m i : Nat) (y : Nd) (hi : i < l.length) : (l.set m y).getD i Nd.zero = if m = i then y else l.getD i Nd.zero := by
  simp only [List.getD_eq_getElem?_getD, List.getElem?_set]
  by_cases e : m = i
  · subst e; simp [hi]
  · simp [e]
theorem first_kid {l : List Nd} {ms : Nat → Meas} (h : Measured l ms 0) {j : Nat} (hj : j < l.length) {k : Int} {r : List Int} (e : kidsOf l j = k :: r) : k = j + 1 := by
  have := (h j (by omega) hj).2.2.2
  rw [e] at this
  unfold climb at this
  split at this
  · rename_i h; exact h.1
  · cases this
theorem climb_lt {len : Nat} {ms : Nat → Meas} (n0 : Nat) (hs : ∀ m : Nat, n0 ≤ m → m < len → 1 ≤ (ms m).1) : ∀ (r : List Int) (n h : Int) (x : Meas), (n0 : Int) ≤ n → climb len ms r n h = some x → ∀ k ∈ r, 0 ≤ k ∧ k < len
  | [], _, _, _, _, _, k, hk => by simp at hk
  | a :: r, n, h, x, hn, hc, k, hk => by
    unfold climb at hc
    split at hc
    · rename_i p
      have := hs a.toNat (by omega) (by omega)
      rcases List.mem_cons.1 hk with rfl | hk
      · omega
      · exact climb_lt n0 hs r _ _ _ (by omega) hc k hk
    · cases hc
theorem kid_lt {l : List Nd} {ms : Nat → Meas} (h : Measured l ms 0) {j : Nat} (hj : j < l.length) : ∀ k ∈ kidsOf l j, 0 ≤ k ∧ k < l.length :=
  climb_lt (j + 1) (fun m _ hl => (h m (by omega) hl).1) _ _ _ _ (by omega) (h j (by omega) hj).2.2.2
theorem own_first {w : World} {B e n g c : Nat} {A : Option Addr} {xs : List Value} {v : Value} (h : w.ownsRow B e 1 (.slice A n c) n xs) (hg : (Value.slice A n c).ownBlock = some g) (hv : xs[0]? = some v) : w.cell? ⟨g, 0, none⟩ = some v := by
  rcases h.2 with ⟨h1, h2⟩ | ⟨g', cap, cur, h1, hbg, hgg, rest⟩
  · subst h2; have := h.1; have := (List.getElem?_eq_some_iff.1 hv).1; omega
  · simp only [Value.slice.injEq] at h1
    obtain ⟨rfl, _, rfl⟩ := h1
    simp only [Value.ownBlock, Option.some.injEq] at hg
    subst hg
    rw [h.cellAt 0 (by have := h.1; have := (List.getElem?_eq_some_iff.1 hv).1; omega)]
    exact hv
/-- The row of kids of a node of a copy is no other node's. -/
theorem kids_apart {g h : Gr} {w : World} {B : Nat} {ms : Nat → Meas} (hm : Measured g.nodes ms 0) (t : GTwin g h) (f : Fresh w B h) {i j b : Nat} (hi : i < h.nodes.length) (hj : j < h.nodes.length)
    (ei : (Value.slice (h.nodes.getD i Nd.zero).A (h.nodes.getD i Nd.zero).kids.length (h.nodes.getD i Nd.zero).cap).ownBlock = some b) (ej : (Value.slice (h.nodes.getD j Nd.zero).A (h.nodes.getD j Nd.zero).kids.length (h.nodes.getD j Nd.zero).cap).ownBlock = some b)
    (ni : (h.nodes.getD i Nd.zero).kids ≠ []) (nj : (h.nodes.getD j Nd.zero).kids ≠ []) : i = j := by
  have hl := t.len
  have key : ∀ q, q < h.nodes.length → (h.nodes.getD q Nd.zero).kids ≠ [] → (Value.slice (h.nodes.getD q Nd.zero).A (h.nodes.getD q Nd.zero).kids.length (h.nodes.getD q Nd.zero).cap).ownBlock = some b → w.cell? ⟨b, 0, none⟩ = some (.int .i64 ((q : Int) + 1)) := fun q hq hne hb => by
    have hk : kidsOf g.nodes q = (h.nodes.getD q Nd.zero).kids := (t.kids q (by omega)).symm
    cases hr : (h.nodes.getD q Nd.zero).kids with
    | nil => exact absurd hr hne
    | cons k r =>
      have hf := first_kid hm (j := q) (by omega) (hk.trans hr)
      refine own_first (f.kids _ (getD_mem hq)).1 hb ?_
      rw [hr, hf]
      simp [ints]
  have h1 := key i hi ni ei
  have h2 := key j hj nj ej
  rw [h1] at h2
  simp only [Option.some.injEq, Value.int.injEq, true_and] at h2
  omega
theorem own_part {w : World} {B e n c : Nat} {A : Option Addr} {xs : List Value} (h : w.ownsRow B e 1 (.slice A n c) n xs) (h0 : 0 < n) : ∃ b, A = some ⟨b, 0, none⟩ ∧ (Value.slice A n c).ownBlock = some b ∧ B ≤ b := by
  rcases h.2 with ⟨h1, h2⟩ | ⟨g', cap, cur, h1, hbg, hgg, rest⟩
  · omega
  · simp only [Value.slice.injEq] at h1
    obtain ⟨rfl, _, rfl⟩ := h1
    exact ⟨g', rfl, rfl, hbg⟩
/-- The last kid of a node of a copy is turned: what lies then. -/
theorem turn_lies {g h : Gr} {w : World} {B : Nat} {ms : Nat → Meas} (hm : Measured g.nodes ms 0) (t : GTwin g h) (f : Fresh w B h) (hat : Gr.At w h) {m : Nat} (hml : m < h.nodes.length) (hk : 0 < (h.nodes.getD m Nd.zero).kids.length) :
    ∃ b, (h.nodes.getD m Nd.zero).A = some ⟨b, 0, none⟩ ∧ B ≤ b ∧ (∃ vs, Blk w b vs 3) ∧ w.frozen? ⟨b, (h.nodes.getD m Nd.zero).kids.length - 1, none⟩ = false ∧ w.cell? ⟨b, (h.nodes.getD m Nd.zero).kids.length - 1, none⟩ = some (.int .i64 ((h.nodes.getD m Nd.zero).kids.getD ((h.nodes.getD m Nd.zero).kids.length - 1) 0)) ∧
      ∀ v : Int, Gr.At (w.setCell ⟨b, (h.nodes.getD m Nd.zero).kids.length - 1, none⟩ (.int .i64 v)) (turned h m ((h.nodes.getD m Nd.zero).kids.set ((h.nodes.getD m Nd.zero).kids.length - 1) v)) := by
  have hmem := getD_mem (z := Nd.zero) hml
  have fk := (f.kids _ hmem).1
  have hap := fun j (hj : j < h.nodes.length) b' e1 e2 n1 n2 => kids_apart hm t f (i := m) (j := j) (b := b') hml hj e1 e2 n1 n2
  obtain ⟨x, ex⟩ : ∃ x, x = h.nodes.getD m Nd.zero := ⟨_, rfl⟩
  rw [← ex] at hk hmem fk hap ⊢
  obtain ⟨b, eA, eb, hB⟩ := own_part fk hk
  rw [eA] at fk
  obtain ⟨p, ep⟩ : ∃ p, p = x.kids.length - 1 := ⟨_, rfl⟩
  rw [← ep]
  have hp : p < x.kids.length := by omega
  have hc : w.cell? ⟨b, p, none⟩ = some (.int .i64 (x.kids.getD p 0)) := by
    rw [fk.cellAt p (by omega)]
    simp [ints, List.getD_eq_getElem?_getD, hp]
  refine ⟨b, eA, hB, (own_blkT fk rfl).imp fun _ h => h.1, fk.frozenAt p, hc, fun v => ?_⟩
  obtain ⟨s1, s2⟩ := fk.stored p (.int .i64 v)
  obtain ⟨_, hbb, _⟩ := own_blkT fk rfl
  have hz : (turned h m (x.kids.set p v)).nodes.length = h.nodes.length := by simp [turned]
  have hrules := own_rules (f.rules.kept s2 (own_T f.rules hbb (by decide)))
  have hnodes := own_nodes (f.nodes.kept s2 (own_T f.nodes hbb (by decide)))
  have hcells : ∀ i, i < h.nodes.length → ((turned h m (x.kids.set p v)).nodes.getD i Nd.zero).cells = (h.nodes.getD i Nd.zero).cells := fun i hi => by
    unfold turned
    dsimp only
    rw [set_getD _ _ _ _ hi]
    split
    · rename_i e
      subst e
      rw [← ex]
      simp [Nd.cells]
    · rfl
  refine { rules := hrules, nodes := ?_, kids := ?_, rl := hat.rl, nl := by rw [hz]; exact hat.nl, rn := hat.rn, nn := hat.nn, texts := ?_, names := hat.names }
  · intro h0
    rw [hz] at h0
    obtain ⟨b', o', e1, e2, e3⟩ := hnodes h0
    exact ⟨b', o', e1, e2, fun i hi j hj => by rw [hz] at hi; rw [e3 i hi j hj, hcells i hi]⟩
  · intro y hy
    obtain ⟨i, hi, rfl⟩ := List.mem_iff_getElem.1 hy
    rw [hz] at hi
    have eg : (turned h m (x.kids.set p v)).nodes[i]'(by rw [hz]; exact hi) = (turned h m (x.kids.set p v)).nodes.getD i Nd.zero := by simp [List.getD_eq_getElem?_getD, hz, hi]
    rw [eg]
    unfold turned
    dsimp only
    rw [set_getD _ _ _ _ hi, ← ex]
    split
    · rename_i e
      refine ⟨?_, (f.kids _ hmem).2, by simp; exact (hat.kids _ hmem).2.2⟩
      have q := own_lies1 s1
      have e2 : (ints x.kids).set p (.int .i64 v) = ints (x.kids.set p v) := by simp [ints, List.map_set]
      rw [e2] at q
      show Lies _ x.A _
      rw [eA]
      exact q
    · rename_i hne
      have hym := getD_mem (z := Nd.zero) hi
      by_cases h0 : (h.nodes.getD i Nd.zero).kids = []
      · exact ⟨fun h1 => by rw [h0] at h1; simp [ints] at h1, (f.kids _ hym).2, (hat.kids _ hym).2.2⟩
      · have := (f.kids _ hym).1.kept s2 (.inr (fun e' => hne (hap i hi b eb e' (by intro e; rw [e] at hk; simp at hk) h0)))
        exact ⟨own_lies1 this, (f.kids _ hym).2, (hat.kids _ hym).2.2⟩
  · intro y hy
    obtain ⟨i, hi, rfl⟩ := List.mem_iff_getElem.1 hy
    rw [hz] at hi
    have eg : (turned h m (x.kids.set p v)).nodes[i]'(by rw [hz]; exact hi) = (turned h m (x.kids.set p v)).nodes.getD i Nd.zero := by simp [List.getD_eq_getElem?_getD, hz, hi]
    rw [eg]
    unfold turned
    dsimp only
    rw [set_getD _ _ _ _ hi, ← ex]
    split
    · show x.text.size ≤ 9223372036854775807
      exact hat.texts x hmem
    · exact hat.texts _ (getD_mem hi)
theorem turn_within {h : Gr} (hi : Gr.In h) {m : Nat} (hm : m < h.nodes.length) (k : List Int) : Gr.In (turned h m k) := by
  intro y hy
  unfold turned at hy
  rcases List.mem_or_eq_of_mem_set hy with hy | rfl
  · exact hi y hy
  · exact ⟨(hi _ (getD_mem hm)).kind, (hi _ (getD_mem hm)).text⟩
theorem set_last {r : List Int} (h : 0 < r.length) (v : Int) : ∃ q a, r = q ++ [a] ∧ r.set (r.length - 1) v = q ++ [v] ∧ r.getD (r.length - 1) 0 = a := by
  rcases List.eq_nil_or_concat r with rfl | ⟨q, a, rfl⟩
  · simp at h
  · refine ⟨q, a, by simp, ?_, ?_⟩
    · simp
    · simp [List.getD_eq_getElem?_getD]
theorem turn_val (h : Gr) (m : Nat) (k : List Int) : (turned h m k).val = .agg #[.slice h.RA h.rules.length h.rc, .slice h.NA h.nodes.length h.nc] := by
  unfold Gr.val turned
  simp
/-- It is not right any more, and not the same. -/
theorem turn_not {g h : Gr} {ms : Nat → Meas} (hm : Measured g.nodes ms 0) (t : GTwin g h) {m : Nat} (hml : m < h.nodes.length) (hk : 0 < (h.nodes.getD m Nd.zero).kids.length) {v : Int} (hv : v ≠ (h.nodes.getD m Nd.zero).kids.getD ((h.nodes.getD m Nd.zero).kids.length - 1) 0) :
    rightB (turned h m ((h.nodes.getD m Nd.zero).kids.set ((h.nodes.getD m Nd.zero).kids.length - 1) v)) = false ∧ sameGr (turned h m ((h.nodes.getD m Nd.zero).kids.set ((h.nodes.getD m Nd.zero).kids.length - 1) v)) g = false := by
  have hl := t.len
  have hkm := t.kids m (by omega)
  obtain ⟨q, a, e1, e2, e3⟩ := set_last hk v
  rw [e3] at hv
  have hz : ∀ k, (turned h m k).nodes.length = h.nodes.length := fun k => by simp [turned]
  have hx : ∀ k, kidsOf (turned h m k).nodes m = k := fun k => by
    unfold kidsOf turned
    dsimp only
    rw [set_getD _ _ _ _ hml, if_pos rfl]
  constructor
  · rw [rightB_false]
    intro hr
    obtain ⟨ms', hm', _⟩ := hr.pre
    refine turned_not (ms' := ms') hm (by rw [hz]; exact hl) m (by omega) (fun j hj hjl => ?_) q a v (hkm.symm.trans e1) (by rw [hx]; exact e2) (fun e => hv e.symm) hm'
    rw [← t.kids j hjl]
    unfold kidsOf turned
    dsimp only
    rw [set_getD _ _ _ _ (by omega), if_neg (fun e => hj e.symm)]
  · refine turned_unlike (by rw [hz]; exact hl) m (by omega) ?_
    show kidsOf _ m ≠ kidsOf _ m
    rw [hx, ← hkm, e2]
    show q ++ [v] ≠ (h.nodes.getD m Nd.zero).kids
    rw [e1]
    intro e
    have := List.append_cancel_left e
    simp only [List.cons.injEq, and_true] at this
    exact hv this
end Go.Proofs.Ytfdfcagkfnckmaa

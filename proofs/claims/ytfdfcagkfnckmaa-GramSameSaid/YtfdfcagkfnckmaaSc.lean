/- Blocks that are written over: values may be others, kinds and sizes stay. Nothing here speaks of one program. -/
import Derived.Test.YtfdfcagkfnckmaaYg
import Derived.Deep.MidRow
namespace Go.Proofs.Ytfdfcagkfnckmaa
open Go Go.RowKit
/-- Blocks of S may be written over, no other block turns; memory may grow. -/
structure Scr (S : Nat → Prop) (w w' : World) : Prop where
  os : w'.os = w.os
  tape : w'.tape = w.tape
  output : w'.output = w.output
  size : w.heap.size ≤ w'.heap.size
  block : ∀ j, j < w.heap.size → ¬ S j → w'.heap[j]? = w.heap[j]?
  room : ∀ j vs T, Blk w j vs T → ∃ vs', Blk w' j vs' T ∧ vs'.size = vs.size
theorem Scr.refl (S : Nat → Prop) (w : World) : Scr S w w := ⟨rfl, rfl, rfl, Nat.le_refl _, fun _ _ _ => rfl, fun j vs T h => ⟨vs, h, rfl⟩⟩
theorem Scr.trans {S : Nat → Prop} {a b c : World} (h : Scr S a b) (k : Scr S b c) : Scr S a c :=
  ⟨k.os.trans h.os, k.tape.trans h.tape, k.output.trans h.output, Nat.le_trans h.size k.size, fun j hj hs => (k.block j (Nat.lt_of_lt_of_le hj h.size) hs).trans (h.block j hj hs), fun j vs T hb => by
    obtain ⟨v1, b1, e1⟩ := h.room j vs T hb
    obtain ⟨v2, b2, e2⟩ := k.room j v1 T b1
    exact ⟨v2, b2, e2.trans e1⟩⟩
theorem Scr.of_below {S : Nat → Prop} {w w' : World} (h : Below w.heap.size w w') : Scr S w w' :=
  ⟨h.os, h.tape, h.output, h.size, fun j hj _ => h.block j hj, fun j vs T hb => ⟨vs, hb.below' h, rfl⟩⟩
theorem Scr.below {S : Nat → Prop} {w w' : World} {B : Nat} (h : Scr S w w') (hB : B ≤ w.heap.size) (hS : ∀ j, S j → B ≤ j) : Below B w w' :=
  ⟨h.os, h.tape, h.output, h.size, fun j hj => h.block j (by omega) (fun hs => by have := hS j hs; omega)⟩
theorem Scr.set (S : Nat → Prop) (w : World) (b i : Nat) (v : Value) (hS : S b) : Scr S w (w.setCell ⟨b, i, none⟩ v) :=
  ⟨rfl, rfl, rfl, by simp, fun j _ hs => heap_setCell_other w ⟨b, i, none⟩ j v (fun e => hs (by rw [e]; exact hS)), fun j vs T hb => by
    by_cases e : j = b
    · subst e
      exact ⟨_, heap_setCell_same w j i vs T v hb, by simp⟩
    · exact ⟨vs, (heap_setCell_other w ⟨b, i, none⟩ j v e).trans hb, rfl⟩⟩
theorem Scr.sets (S : Nat → Prop) (b : Nat) (hS : S b) : ∀ (vs : List Value) (o : Nat) (w : World), Scr S w (w.setCells b o vs)
  | [], _, w => Scr.refl S w
  | v :: vs, o, w => (Scr.set S w b o v hS).trans (Scr.sets S b hS vs (o + 1) _)
theorem Scr.mono {S S' : Nat → Prop} {w w' : World} (h : Scr S w w') (hs : ∀ j, S j → S' j) : Scr S' w w' :=
  ⟨h.os, h.tape, h.output, h.size, fun j hj hn => h.block j hj (fun k => hn (hs j k)), h.room⟩
theorem Scr.blk {S : Nat → Prop} {w w' : World} {b : Nat} {vs : Array Value} {T : TypeId} (h : Scr S w w') (hb : Blk w b vs T) (hs : ¬ S b) : Blk w' b vs T := (h.block b hb.lt hs).trans hb
theorem own_room {w : World} {B e size n g cap : Nat} {o : Nat} {xs : List Value} (h : w.ownsRow B e size (.slice (some ⟨g, o, none⟩) n cap) n xs) : o = 0 ∧ ∃ vs, Blk w g vs e ∧ n * size ≤ vs.size := by
  rcases h.2 with ⟨h1, _⟩ | ⟨g', cap', cur, h1, hbg, hgg, hn, hc, hs, rest⟩
  · cases h1
  · simp only [Value.slice.injEq, Option.some.injEq, Addr.mk.injEq] at h1
    obtain ⟨⟨rfl, rfl, _⟩, _, rfl⟩ := h1
    exact ⟨rfl, cur, hgg, by rw [hs]; exact Nat.mul_le_mul_right _ hn⟩
theorem Blk.there {w : World} {b o n : Nat} {vs : Array Value} {T : TypeId} (h : Blk w b vs T) (hn : o + n ≤ vs.size) : w.there b o n := fun j hj => by
  refine ⟨?_, h.frozen _⟩
  rw [h.cell, Array.getElem?_eq_getElem (by omega)]
  rfl
theorem Scr.there {S : Nat → Prop} {w w' : World} {B e size n g cap o m : Nat} {xs : List Value} (s : Scr S w w') (h : w.ownsRow B e size (.slice (some ⟨g, 0, none⟩) n cap) n xs) (hm : o + m ≤ n * size) : w'.there g o m := by
  obtain ⟨_, vs, hb, hl⟩ := own_room h
  obtain ⟨vs', hb', hl'⟩ := s.room g vs e hb
  exact hb'.there (by omega)
/-- A row of the call's own that lies elsewhere. -/
theorem Scr.own {S : Nat → Prop} {w w' : World} {B e size n : Nat} {v : Value} {xs : List Value} (s : Scr S w w') (h : w.ownsRow B e size v n xs) (hv : ∀ j, v.ownBlock = some j → ¬ S j) : w'.ownsRow B e size v n xs :=
  own_kept h (fun j hj => s.block j (h.lt j hj).2 (hv j hj))
theorem Scr.fresh {S : Nat → Prop} {w w' : World} {m : Nat} {k : Gr} (s : Scr S w w') (f : Fresh w m k) (hS : ∀ j, S j → j < m) : Fresh w' m k :=
  ⟨s.own f.rules (fun j hj hs => by have := (f.rules.lt j hj).1; have := hS j hs; omega), s.own f.nodes (fun j hj hs => by have := (f.nodes.lt j hj).1; have := hS j hs; omega),
    fun x hx => ⟨s.own (f.kids x hx).1 (fun j hj hs => by have := ((f.kids x hx).1.lt j hj).1; have := hS j hs; omega), (f.kids x hx).2⟩, f.rn, f.nn⟩
/-- The blocks of a row of nodes and of their kids. -/
def NodesOf (h : Gr) (j : Nat) : Prop := (Value.slice h.NA h.nodes.length h.nc).ownBlock = some j ∨ ∃ x ∈ h.nodes, (Value.slice x.A x.kids.length x.cap).ownBlock = some j
def RulesOf (h : Gr) (j : Nat) : Prop := (Value.slice h.RA h.rules.length h.rc).ownBlock = some j
theorem own_blkT {w : World} {B e size n b : Nat} {v : Value} {xs : List Value} (h : w.ownsRow B e size v n xs) (hv : v.ownBlock = some b) : ∃ vs, Blk w b vs e ∧ n * size ≤ vs.size := by
  rcases h.2 with ⟨rfl, _⟩ | ⟨g, cap, cur, rfl, hbg, hgg, hn, hc, hs, rest⟩
  · cases hv
  · simp only [Value.ownBlock, Option.some.injEq] at hv
    subst hv
    exact ⟨cur, hgg, by rw [hs]; exact Nat.mul_le_mul_right _ hn⟩
theorem Blk.same_T {w : World} {b : Nat} {vs vs' : Array Value} {T T' : TypeId} (h : Blk w b vs T) (h' : Blk w b vs' T') : T = T' := by
  have e : some (Obj.cells vs T (0, 0)) = some (Obj.cells vs' T' (0, 0)) := h.symm.trans h'
  simp only [Option.some.injEq, Obj.cells.injEq] at e
  exact e.2.1
theorem rulesOf_not {w : World} {B : Nat} {h : Gr} (f : Fresh w B h) {b : Nat} {vs : Array Value} {T : TypeId} (hb : Blk w b vs T) (hT : T ≠ 45) : ¬ RulesOf h b := fun e => by
  obtain ⟨_, h1, _⟩ := own_blkT f.rules e
  exact hT (hb.same_T h1)
theorem nodesOf_not {w : World} {B : Nat} {h : Gr} (f : Fresh w B h) {b : Nat} {vs : Array Value} {T : TypeId} (hb : Blk w b vs T) (hT : T ≠ 32 ∧ T ≠ 3) : ¬ NodesOf h b := fun e => by
  rcases e with e | ⟨x, hx, e⟩
  · obtain ⟨_, h1, _⟩ := own_blkT f.nodes e
    exact hT.1 (hb.same_T h1)
  · obtain ⟨_, h1, _⟩ := own_blkT (f.kids x hx).1 e
    exact hT.2 (hb.same_T h1)
/-- What still lies of nodes from the i-th on: where their kids lie. -/
def Heads (h : Gr) (i : Nat) (w : World) : Prop := ∀ g, h.NA = some ⟨g, 0, none⟩ → ∀ j, i ≤ j → j < h.nodes.length → w.cell? ⟨g, j * 9 + 8, none⟩ = some (.slice (h.nodes.getD j Nd.zero).A (h.nodes.getD j Nd.zero).kids.length (h.nodes.getD j Nd.zero).cap)
theorem Heads.start {w : World} {B : Nat} {h : Gr} (f : Fresh w B h) : Heads h 0 w := by
  intro g e j _ hj
  have hN := own_nodes f.nodes
  obtain ⟨b, o, e2, _, hc⟩ := hN (by omega)
  rw [e] at e2
  simp only [Option.some.injEq, Addr.mk.injEq] at e2
  obtain ⟨rfl, rfl, _⟩ := e2
  have := hc j hj 8 (by decide)
  rw [Nat.zero_add] at this
  exact this
theorem Heads.kid {w : World} {h : Gr} {i g : Nat} {p : Nat} {v : Value} (hh : Heads h i w) (hg : h.NA ≠ some ⟨g, 0, none⟩) : Heads h i (w.setCell ⟨g, p, none⟩ v) := by
  intro g' e j h1 h2
  rw [World.cell?_setCell_other _ _ _ _ (fun e2 => hg (by cases e2; exact e))]
  exact hh g' e j h1 h2
theorem Heads.node {w : World} {h : Gr} {i g : Nat} {vs : List Value} (hh : Heads h i w) (hv : vs.length = 9) : Heads h (i + 1) (w.setCells g (i * 9) vs) := by
  intro g' e j h1 h2
  rw [World.cell?_setCells_out _ _ _ _ _ (fun _ _ => by show j * 9 + 8 < i * 9 ∨ i * 9 + vs.length ≤ j * 9 + 8; omega)]
  exact hh g' e j (by omega) h2
theorem Scr.heads {S : Nat → Prop} {w w' : World} {h : Gr} {B : Nat} (s : Scr S w w') (f : Fresh w B h) (hS : ∀ g, h.NA = some ⟨g, 0, none⟩ → ¬ S g) : Heads h 0 w' := by
  intro g e j h1 h2
  have h0 := Heads.start f g e j h1 h2
  have hl : g < w.heap.size := World.block_lt_of_cell? _ _ h0
  exact (World.cell?_of_block (a := ⟨g, j * 9 + 8, none⟩) (s.block g hl (hS g e))).trans h0
/-- A store of several cells into the midst of a block: the world behind it by a name of its own. -/
theorem wpList_store_mid2 {P : Program} {ops : Array Oper} {rest : List Oper} {op : Oper} {a : Act} {w : World} {Q : Exit → Act → World → Prop} (hgd : op.guard = none) (ty : TypeId) (x y : Operand) (ho : op.op = .store ty x y)
    (b o : Nat) (cells : Array Value) (hx : a.eval x = .pointer (some ⟨b, o, none⟩)) (hy : a.eval y = .agg cells)
    (ht : w.there b o cells.size) (hi : (P.info? ty).map (·.size) = some cells.size) (h1 : cells.all (·.oneCell') = true)
    (h : ∀ W, W = w.setCells b o cells.toList → wpList P ops Q rest (a.put op.dst undef) W) : wpList P ops Q (op :: rest) a w :=
  wpList_store_mid hgd ty x y ho b o cells hx hy ht hi h1 (h _ rfl)
end Go.Proofs.Ytfdfcagkfnckmaa

/- What single operations do at this program, for the table of facts. -/
import Derived.Test.YtgploogflhfolaaRp
import Derived.Test.YtgploogflhfolaaWb
import Derived.Sort.Grow
namespace Go.Proofs.Ytgploogflhfolaa
open Go Go.RowKit
/-- Grown, and drawn on. -/
structure Grown (w w' : World) : Prop where
  below : Below w.heap.size w w'
  drawn : w.drawn ≤ w'.drawn
theorem Grown.grow : Grow Grown :=
  ⟨fun _ => ⟨Below.refl _ _, Nat.le_refl _⟩, fun _ _ _ h k => ⟨h.below.trans (k.below.mono h.below.size), Nat.le_trans h.drawn k.drawn⟩, fun _ => ⟨⟨rfl, rfl, rfl, Nat.le_refl _, fun _ _ => rfl⟩, Nat.le_succ _⟩⟩
theorem Grown.refl (w : World) : Grown w w := Grown.grow.refl w
theorem Grown.trans {a b c : World} (h : Grown a b) (k : Grown b c) : Grown a c := Grown.grow.trans _ _ _ h k
theorem Grown.alloc (w : World) (o : Obj) : Grown w (w.alloc o) := ⟨(Below.refl _ _).alloc (Nat.le_refl _) o, Nat.le_refl _⟩
theorem Grown.world {w w' : World} (h : Grown w w') : ∃ q os', w' = Go.Sort.grow (w.drewN q) os' := by
  obtain ⟨⟨h1, h2, h3, h4, h5⟩, h6⟩ := h
  refine ⟨w'.drawn - w.drawn, w'.heap.extract w.heap.size w'.heap.size, ?_⟩
  cases w with
  | mk hp tp dr os ou =>
    cases w' with
    | mk hp' tp' dr' os' ou' =>
      dsimp only at h1 h2 h3 h4 h5 h6
      subst h1 h2 h3
      simp only [Go.Sort.grow, World.drewN]
      congr 1
      · apply Array.ext_getElem?
        intro k
        rw [Array.getElem?_append]
        by_cases hk : k < hp.size
        · rw [if_pos hk]; exact h5 k hk
        · rw [if_neg hk, Array.getElem?_extract]
          split
          · congr 1; omega
          · rw [Array.getElem?_eq_none]; omega
      · omega
section
variable {a : Act} {w : World} {o : Oper} {Φ : Value → World → Prop} {G : World → World → Prop}
theorem g_move (hG : Grow G) {x : Operand} {v : Value} (ho : o.op = .move x) (hx : a.eval x = v) (h : Φ v w) : Gives Try.prog (fun v w' => G w w' ∧ Φ v w') ((execOp a.eval o).run Try.prog w) :=
  .value (v := a.eval x) (w := w) (by simp [execOp, ho]) ⟨hG.refl _, by rw [hx]; exact h⟩
theorem g_assign (hG : Grow G) {x : Operand} {v : Value} (ho : o.op = .assign x) (hx : a.eval x = v) (h : Φ v w) : Gives Try.prog (fun v w' => G w w' ∧ Φ v w') ((execOp a.eval o).run Try.prog w) :=
  .value (v := a.eval x) (w := w) (by simp [execOp, ho]) ⟨hG.refl _, by rw [hx]; exact h⟩
theorem g_pick (hG : Grow G) {x y z : Operand} {c : Bool} {v : Value} (ho : o.op = .pick x y z) (hx : a.eval x = .bool c) (hv : (if c then a.eval y else a.eval z) = v) (h : Φ v w) :
    Gives Try.prog (fun v w' => G w w' ∧ Φ v w') ((execOp a.eval o).run Try.prog w) := by
  refine .value (v := v) (w := w) ?_ ⟨hG.refl _, h⟩
  simp only [execOp, ho, hx]
  cases c <;> simp at hv <;> subst hv <;> go_simp
theorem g_call {f : FuncId} {xs : Array Operand} {ts : Array TypeId} {args : Array Value} (ho : o.op = .call { callee := .value (.func f), args := xs, argTypes := ts })
    (he : ∀ args w, (callFunc f args).run Try.prog w = .ok (.enter f args) w) (hx : xs.map a.eval = args) (h : Calls Try.prog f args w fun e w' => ∃ v, e = .returned v ∧ G w w' ∧ Φ v w') :
    Gives Try.prog (fun v w' => G w w' ∧ Φ v w') ((execOp a.eval o).run Try.prog w) := by
  refine .enter (f := f) (args := args) (w := w) ?_ h
  simp only [execOp, ho, resolve, Act.eval] at hx ⊢
  rw [hx]
  simp [invoke, Deferred.ofValue, he, go_sem]
theorem g_not (hG : Grow G) {x : Operand} {c : Bool} (ho : o.op = .unOp .not 4 x) (hx : a.eval x = .bool c) (h : Φ (.bool !c) w) :
    Gives Try.prog (fun v w' => G w w' ∧ Φ v w') ((execOp a.eval o).run Try.prog w) := by
  refine .value (v := .bool !c) (w := w) ?_ ⟨hG.refl _, h⟩
  simp only [execOp, ho, hx]
  go_simp
theorem g_field51 (hG : Grow G) {x : Operand} {b k : Nat} (ho : o.op = .fieldAddr 51 x k) (hk : k = 0 ∨ k = 1) (hx : a.eval x = .pointer (some ⟨b, 0, none⟩)) (h : Φ (.pointer (some ⟨b, k, none⟩)) w) :
    Gives Try.prog (fun v w' => G w w' ∧ Φ v w') ((execOp a.eval o).run Try.prog w) := by
  refine .value (v := .pointer (some ⟨b, k, none⟩)) (w := w) ?_ ⟨hG.refl _, h⟩
  generalize a.eval = ρ at *
  rcases hk with rfl | rfl
  · simp only [execOp, ho, hx]
    go_simp
  · simp only [execOp, ho, hx]
    go_simp
theorem g_load23 (hG : Grow G) {x : Operand} {b : Nat} {n m : Int} (ho : o.op = .load 23 x) (hx : a.eval x = .pointer (some ⟨b, 0, none⟩)) (hc : w.cell? ⟨b, 0, none⟩ = some (.int .i64 n)) (hc1 : w.cell? ⟨b, 1, none⟩ = some (.int .i64 m)) (h : Φ (.agg #[.int .i64 n, .int .i64 m]) w) :
    Gives Try.prog (fun v w' => G w w' ∧ Φ v w') ((execOp a.eval o).run Try.prog w) := by
  refine .value (v := .agg #[.int .i64 n, .int .i64 m]) (w := w) ?_ ⟨hG.refl _, h⟩
  generalize a.eval = ρ at *
  simp only [execOp, ho, hx]
  go_simp
theorem g_load3 (hG : Grow G) {x : Operand} {b k : Nat} {n : Int} (ho : o.op = .load 3 x) (hx : a.eval x = .pointer (some ⟨b, k, none⟩)) (hc : w.cell? ⟨b, k, none⟩ = some (.int .i64 n)) (h : Φ (.int .i64 n) w) :
    Gives Try.prog (fun v w' => G w w' ∧ Φ v w') ((execOp a.eval o).run Try.prog w) := by
  refine .value (v := .int .i64 n) (w := w) ?_ ⟨hG.refl _, h⟩
  generalize a.eval = ρ at *
  simp only [execOp, ho, hx]
  go_simp
end
/-- A slice of two numbers. -/
def twoSt (x y : Int) : Stay Grown := ⟨fun v W => ∃ g, v = .slice (some ⟨g, 0, none⟩) 2 2 ∧ W.cell? ⟨g, 0, none⟩ = some (.int .i64 x) ∧ W.cell? ⟨g, 1, none⟩ = some (.int .i64 y),
  fun _ _ _ hb ⟨g, e, h0, h1⟩ => ⟨g, e, (hb.below.cell (p := ⟨g, 0, none⟩) (World.block_lt_of_cell? _ _ h0)).trans h0, (hb.below.cell (p := ⟨g, 1, none⟩) (World.block_lt_of_cell? _ _ h1)).trans h1⟩⟩
theorem g_two48 {a : Act} {w : World} {o : Oper} {x y : Operand} {n m : Int} (ho : o.op = .buildSlice 48 2 #[(0, x), (1, y)]) (hx : a.eval x = .int .i64 n) (hy : a.eval y = .int .i64 m) :
    Gives Try.prog (fun v w' => Grown w w' ∧ (Sp.st (twoSt n m)).holds v w') ((execOp a.eval o).run Try.prog w) := by
  refine .value (v := .slice (some ⟨w.heap.size, 0, none⟩) 2 2) (w := w.alloc (.cells #[.int .i64 n, .int .i64 m] 3)) ?_ ⟨Grown.alloc _ _, _, rfl, ?_, ?_⟩
  · generalize a.eval = ρ at *
    simp only [execOp, ho, hx, hy, List.map_toArray, List.map_cons, List.map_nil]
    go_simp
  · rw [(Blk.new w _ _).cell]; rfl
  · rw [(Blk.new w _ _).cell]; rfl
end Go.Proofs.Ytgploogflhfolaa

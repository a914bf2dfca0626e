/- What single operations do at this program, for the table of facts. -/
import Derived.Test.YtcnikeeapillnaaDoorRh
import Derived.Test.YtcnikeeapillnaaDoorWg
namespace Go.Proofs.YtcnikeeapillnaaDoor
open Go Go.RowKit

section
variable {a : Act} {w : World} {o : Oper} {Φ : Value → World → Prop}

theorem g_move {x : Operand} (ho : o.op = .move x) (h : Φ (a.eval x) w) : Gives Tryd.prog (fun v w' => Below w.heap.size w w' ∧ Φ v w') ((execOp a.eval o).run Tryd.prog w) :=
  .value (v := a.eval x) (w := w) (by simp [execOp, ho]) ⟨Below.refl _ _, h⟩
theorem g_assign {x : Operand} (ho : o.op = .assign x) (h : Φ (a.eval x) w) : Gives Tryd.prog (fun v w' => Below w.heap.size w w' ∧ Φ v w') ((execOp a.eval o).run Tryd.prog w) :=
  .value (v := a.eval x) (w := w) (by simp [execOp, ho]) ⟨Below.refl _ _, h⟩
theorem g_load4 {x : Operand} {b : Nat} {T : TypeId} {a0 a1 a2 a3 : Value} (ho : o.op = .load 25 x) (hx : a.eval x = .pointer (some ⟨b, 0, none⟩)) (hb : Blk w b #[a0, a1, a2, a3] T) (h : Φ (.agg #[a0, a1, a2, a3]) w) :
    Gives Tryd.prog (fun v w' => Below w.heap.size w w' ∧ Φ v w') ((execOp a.eval o).run Tryd.prog w) := by
  obtain ⟨⟨c0, c1, c2, c3⟩, _⟩ := hb.four
  refine .value (v := .agg #[a0, a1, a2, a3]) (w := w) ?_ ⟨Below.refl _ _, h⟩
  simp only [execOp, ho, hx]
  go_simp
theorem g_pick {x y z : Operand} {c : Bool} {v : Value} (ho : o.op = .pick x y z) (hx : a.eval x = .bool c) (hv : (if c then a.eval y else a.eval z) = v) (h : Φ v w) :
    Gives Tryd.prog (fun v w' => Below w.heap.size w w' ∧ Φ v w') ((execOp a.eval o).run Tryd.prog w) := by
  refine .value (v := v) (w := w) ?_ ⟨Below.refl _ _, h⟩
  simp only [execOp, ho, hx]
  cases c <;> simp at hv <;> subst hv <;> go_simp
theorem g_call {f : FuncId} {xs : Array Operand} {ts : Array TypeId} {args : Array Value} (ho : o.op = .call { callee := .value (.func f), args := xs, argTypes := ts })
    (he : ∀ args w, (callFunc f args).run Tryd.prog w = .ok (.enter f args) w) (hx : xs.map a.eval = args) (h : Calls Tryd.prog f args w fun e w' => ∃ v, e = .returned v ∧ Below w.heap.size w w' ∧ Φ v w') :
    Gives Tryd.prog (fun v w' => Below w.heap.size w w' ∧ Φ v w') ((execOp a.eval o).run Tryd.prog w) := by
  refine .enter (f := f) (args := args) (w := w) ?_ h
  simp only [execOp, ho, resolve, Act.eval] at hx ⊢
  rw [hx]
  simp [invoke, Deferred.ofValue, he, go_sem]
theorem g_neq25 {x y : Operand} {t : TypeId} {a0 a1 a2 a3 : Int} (ho : o.op = .binOp .neq 25 x y t) (hx : a.eval x = .agg #[.int .u64 a0, .int .u64 a1, .int .u64 a2, .int .u64 a3]) (hy : a.eval y = .agg #[.int .u64 a0, .int .u64 a1, .int .u64 a2, .int .u64 a3]) (h : Φ (.bool false) w) :
    Gives Tryd.prog (fun v w' => Below w.heap.size w w' ∧ Φ v w') ((execOp a.eval o).run Tryd.prog w) := by
  refine .value (v := .bool false) (w := w) ?_ ⟨Below.refl _ _, h⟩
  simp only [execOp, ho, hx, hy]
  go_simp
theorem g_eql25 {x y : Operand} {t : TypeId} {a0 a1 a2 a3 : Int} (ho : o.op = .binOp .eql 25 x y t) (hx : a.eval x = .agg #[.int .u64 a0, .int .u64 a1, .int .u64 a2, .int .u64 a3]) (hy : a.eval y = .agg #[.int .u64 a0, .int .u64 a1, .int .u64 a2, .int .u64 a3]) (h : Φ (.bool true) w) :
    Gives Tryd.prog (fun v w' => Below w.heap.size w w' ∧ Φ v w') ((execOp a.eval o).run Tryd.prog w) := by
  refine .value (v := .bool true) (w := w) ?_ ⟨Below.refl _ _, h⟩
  simp only [execOp, ho, hx, hy]
  go_simp
theorem g_build2 {x y : Operand} {s t : Nat → Bool} (ho : o.op = .buildSlice 41 2 #[(0, x), (1, y)]) (hx : a.eval x = .agg #[.int .u64 (wd s 0), .int .u64 (wd s 1), .int .u64 (wd s 2), .int .u64 (wd s 3)]) (hy : a.eval y = .agg #[.int .u64 (wd t 0), .int .u64 (wd t 1), .int .u64 (wd t 2), .int .u64 (wd t 3)]) :
    Gives Tryd.prog (fun v w' => Below w.heap.size w w' ∧ ClsAt w' w'.heap.size v [s, t]) ((execOp a.eval o).run Tryd.prog w) := by
  refine .value (v := .slice (some ⟨w.heap.size, 0, none⟩) 2 2) (w := w.alloc (.cells #[.int .u64 (wd s 0), .int .u64 (wd s 1), .int .u64 (wd s 2), .int .u64 (wd s 3), .int .u64 (wd t 0), .int .u64 (wd t 1), .int .u64 (wd t 2), .int .u64 (wd t 3)] 25)) ?_ ⟨(Below.refl _ _).alloc (Nat.le_refl _) _, .inr ⟨_, _, _, rfl, by simp, by simp [maxLen], fun j hj i hi => ?_⟩⟩
  · generalize a.eval = ρ at *
    simp only [execOp, ho, hx, hy, List.map_toArray, List.map_cons, List.map_nil]
    go_simp
  · rw [(Blk.new w _ _).cell]
    have hj' : j = 0 ∨ j = 1 := by simp at hj; omega
    have hi' : i = 0 ∨ i = 1 ∨ i = 2 ∨ i = 3 := by omega
    rcases hj' with rfl | rfl <;> rcases hi' with rfl | rfl | rfl | rfl <;> rfl
theorem g_build3 {x y z : Operand} {s t u : Nat → Bool} (ho : o.op = .buildSlice 41 3 #[(0, x), (1, y), (2, z)]) (hx : a.eval x = .agg #[.int .u64 (wd s 0), .int .u64 (wd s 1), .int .u64 (wd s 2), .int .u64 (wd s 3)]) (hy : a.eval y = .agg #[.int .u64 (wd t 0), .int .u64 (wd t 1), .int .u64 (wd t 2), .int .u64 (wd t 3)]) (hz : a.eval z = .agg #[.int .u64 (wd u 0), .int .u64 (wd u 1), .int .u64 (wd u 2), .int .u64 (wd u 3)]) :
    Gives Tryd.prog (fun v w' => Below w.heap.size w w' ∧ ClsAt w' w'.heap.size v [s, t, u]) ((execOp a.eval o).run Tryd.prog w) := by
  refine .value (v := .slice (some ⟨w.heap.size, 0, none⟩) 3 3) (w := w.alloc (.cells #[.int .u64 (wd s 0), .int .u64 (wd s 1), .int .u64 (wd s 2), .int .u64 (wd s 3), .int .u64 (wd t 0), .int .u64 (wd t 1), .int .u64 (wd t 2), .int .u64 (wd t 3), .int .u64 (wd u 0), .int .u64 (wd u 1), .int .u64 (wd u 2), .int .u64 (wd u 3)] 25)) ?_ ⟨(Below.refl _ _).alloc (Nat.le_refl _) _, .inr ⟨_, _, _, rfl, by simp, by simp [maxLen], fun j hj i hi => ?_⟩⟩
  · generalize a.eval = ρ at *
    simp only [execOp, ho, hx, hy, hz, List.map_toArray, List.map_cons, List.map_nil]
    go_simp
  · rw [(Blk.new w _ _).cell]
    have hj' : j = 0 ∨ j = 1 ∨ j = 2 := by simp at hj; omega
    have hi' : i = 0 ∨ i = 1 ∨ i = 2 ∨ i = 3 := by omega
    rcases hj' with rfl | rfl | rfl <;> rcases hi' with rfl | rfl | rfl | rfl <;> rfl
end
end Go.Proofs.YtcnikeeapillnaaDoor

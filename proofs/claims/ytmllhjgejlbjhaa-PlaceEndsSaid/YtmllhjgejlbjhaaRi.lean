/- What single operations do at this program, for the table of facts. -/
import Derived.Test.YtmllhjgejlbjhaaRp
import Derived.Test.YtmllhjgejlbjhaaWo
namespace Go.Proofs.Ytmllhjgejlbjhaa
open Go Go.RowKit
section
variable {a : Act} {w : World} {o : Oper} {Φ : Value → World → Prop}
theorem g_move {x : Operand} (ho : o.op = .move x) (h : Φ (a.eval x) w) : Gives Try.prog (fun v w' => Below w.heap.size w w' ∧ Φ v w') ((execOp a.eval o).run Try.prog w) :=
  .value (v := a.eval x) (w := w) (by simp [execOp, ho]) ⟨Below.refl _ _, h⟩
theorem g_pick {x y z : Operand} {c : Bool} {v : Value} (ho : o.op = .pick x y z) (hx : a.eval x = .bool c) (hv : (if c then a.eval y else a.eval z) = v) (h : Φ v w) :
    Gives Try.prog (fun v w' => Below w.heap.size w w' ∧ Φ v w') ((execOp a.eval o).run Try.prog w) := by
  refine .value (v := v) (w := w) ?_ ⟨Below.refl _ _, h⟩
  simp only [execOp, ho, hx]
  cases c <;> simp at hv <;> subst hv <;> go_simp
theorem g_call {f : FuncId} {xs : Array Operand} {ts : Array TypeId} {args : Array Value} (ho : o.op = .call { callee := .value (.func f), args := xs, argTypes := ts })
    (he : ∀ args w, (callFunc f args).run Try.prog w = .ok (.enter f args) w) (hx : xs.map a.eval = args) (h : Calls Try.prog f args w fun e w' => ∃ v, e = .returned v ∧ Below w.heap.size w w' ∧ Φ v w') :
    Gives Try.prog (fun v w' => Below w.heap.size w w' ∧ Φ v w') ((execOp a.eval o).run Try.prog w) := by
  refine .enter (f := f) (args := args) (w := w) ?_ h
  simp only [execOp, ho, resolve, Act.eval] at hx ⊢
  rw [hx]
  simp [invoke, Deferred.ofValue, he, go_sem]
theorem g_not {x : Operand} {c : Bool} (ho : o.op = .unOp .not 4 x) (hx : a.eval x = .bool c) (h : Φ (.bool !c) w) :
    Gives Try.prog (fun v w' => Below w.heap.size w w' ∧ Φ v w') ((execOp a.eval o).run Try.prog w) := by
  refine .value (v := .bool !c) (w := w) ?_ ⟨Below.refl _ _, h⟩
  simp only [execOp, ho, hx]
  go_simp
theorem g_idx31 {x y : Operand} {b n c k : Nat} (ho : o.op = .indexAddr 31 x y) (hx : a.eval x = .slice (some ⟨b, 0, none⟩) n c) (hy : a.eval y = .int .i64 k) (hk : k < n) (hn : n ≤ 65536) (h : Φ (.pointer (some ⟨b, k, none⟩)) w) :
    Gives Try.prog (fun v w' => Below w.heap.size w w' ∧ Φ v w') ((execOp a.eval o).run Try.prog w) := by
  refine .value (v := .pointer (some ⟨b, k, none⟩)) (w := w) ?_ ⟨Below.refl _ _, h⟩
  have hk2 : (k : Int) < n := by omega
  generalize a.eval = ρ at *
  simp only [execOp, ho, hx, hy]
  go_simp
theorem g_idx32 {x y : Operand} {b n c k : Nat} (ho : o.op = .indexAddr 32 x y) (hx : a.eval x = .slice (some ⟨b, 0, none⟩) n c) (hy : a.eval y = .int .i64 k) (hk : k < n) (hn : n ≤ 65536) (h : Φ (.pointer (some ⟨b, k, none⟩)) w) :
    Gives Try.prog (fun v w' => Below w.heap.size w w' ∧ Φ v w') ((execOp a.eval o).run Try.prog w) := by
  refine .value (v := .pointer (some ⟨b, k, none⟩)) (w := w) ?_ ⟨Below.refl _ _, h⟩
  have hk2 : (k : Int) < n := by omega
  generalize a.eval = ρ at *
  simp only [execOp, ho, hx, hy]
  go_simp
theorem g_load9 {x : Operand} {b k : Nat} {s : ByteArray} (ho : o.op = .load 9 x) (hx : a.eval x = .pointer (some ⟨b, k, none⟩)) (hc : w.cell? ⟨b, k, none⟩ = some (.string s)) (h : Φ (.string s) w) :
    Gives Try.prog (fun v w' => Below w.heap.size w w' ∧ Φ v w') ((execOp a.eval o).run Try.prog w) := by
  refine .value (v := .string s) (w := w) ?_ ⟨Below.refl _ _, h⟩
  generalize a.eval = ρ at *
  simp only [execOp, ho, hx]
  go_simp
theorem g_load3 {x : Operand} {b k : Nat} {n : Int} (ho : o.op = .load 3 x) (hx : a.eval x = .pointer (some ⟨b, k, none⟩)) (hc : w.cell? ⟨b, k, none⟩ = some (.int .i64 n)) (h : Φ (.int .i64 n) w) :
    Gives Try.prog (fun v w' => Below w.heap.size w w' ∧ Φ v w') ((execOp a.eval o).run Try.prog w) := by
  refine .value (v := .int .i64 n) (w := w) ?_ ⟨Below.refl _ _, h⟩
  generalize a.eval = ρ at *
  simp only [execOp, ho, hx]
  go_simp
end
/-- A slice that reads as a text. -/
def txtSt (l : List Nat) : Stay := ⟨fun v W => ∃ A c, v = .slice A l.length c ∧ Txt W A l, fun _ _ _ hb ⟨A, c, h1, h2⟩ => ⟨A, c, h1, h2.below hb⟩⟩
theorem g_conv {a : Act} {w : World} {o : Oper} {x : Operand} {s : ByteArray} {l : List Nat} (ho : o.op = .convert 9 22 x) (hx : a.eval x = .string s) (hs : s = ⟨(l.map UInt8.ofNat).toArray⟩) (hl : ∀ x ∈ l, x < 256) :
    Gives Try.prog (fun v w' => Below w.heap.size w w' ∧ (Sp.st (txtSt l)).holds v w') ((execOp a.eval o).run Try.prog w) := by
  subst hs
  obtain ⟨A, c, w', h1, h2, h3, h4⟩ := conv_txt w l hl
  refine .value (v := .slice A l.length c) (w := w') ?_ ⟨h2, A, c, rfl, h3⟩
  simp only [execOp, ho, hx, Sem.run_bind, h1, Result.andThen_ok, Sem.run_pure]
end Go.Proofs.Ytmllhjgejlbjhaa

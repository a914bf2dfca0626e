/- Whether a node is right: the program's Node. -/
import Derived.Test.YtfdfcagkfnckmaaWl
import Derived.Test.YtfdfcagkfnckmaaRp
import Derived.Deep.MidRow
namespace Go.Proofs.Ytfdfcagkfnckmaa
open Go Go.RowKit
section
variable {a : Act} {w : World} {o : Oper} {Φ : Value → World → Prop}
theorem g_move {x : Operand} (ho : o.op = .move x) (h : Φ (a.eval x) w) : Gives Try.prog (fun v w' => Below w.heap.size w w' ∧ Φ v w') ((execOp a.eval o).run Try.prog w) :=
  .value (v := a.eval x) (w := w) (by simp [execOp, ho]) ⟨Below.refl _ _, h⟩
theorem g_assign {x : Operand} (ho : o.op = .assign x) (h : Φ (a.eval x) w) : Gives Try.prog (fun v w' => Below w.heap.size w w' ∧ Φ v w') ((execOp a.eval o).run Try.prog w) :=
  .value (v := a.eval x) (w := w) (by simp [execOp, ho]) ⟨Below.refl _ _, h⟩
theorem g_call {f : FuncId} {xs : Array Operand} {ts : Array TypeId} {args : Array Value} (ho : o.op = .call { callee := .value (.func f), args := xs, argTypes := ts })
    (he : ∀ args w, (callFunc f args).run Try.prog w = .ok (.enter f args) w) (hx : xs.map a.eval = args) (h : Calls Try.prog f args w fun e w' => ∃ v, e = .returned v ∧ Below w.heap.size w w' ∧ Φ v w') :
    Gives Try.prog (fun v w' => Below w.heap.size w w' ∧ Φ v w') ((execOp a.eval o).run Try.prog w) := by
  refine .enter (f := f) (args := args) (w := w) ?_ h
  simp only [execOp, ho, resolve, Act.eval] at hx ⊢
  rw [hx]
  simp [invoke, Deferred.ofValue, he, go_sem]
theorem g_row {x : Operand} {ty : TypeId} {b : Nat} {cs : List Value} {T : TypeId} {d : TypeDesc} (ho : o.op = .load ty x) (hx : a.eval x = .pointer (some ⟨b, 0, none⟩)) (hb : Blk w b cs.toArray T)
    (hu : Try.prog.underlying ty = some d) (hd : d.isRow = true) (hi : (Try.prog.info? ty).map (·.size) = some cs.length) (h : Φ (.agg cs.toArray) w) :
    Gives Try.prog (fun v w' => Below w.heap.size w w' ∧ Φ v w') ((execOp a.eval o).run Try.prog w) := by
  refine .value (v := .agg cs.toArray) (w := w) ?_ ⟨Below.refl _ _, h⟩
  unfold execOp
  simp only [ho, hx, Instr.loadAt, Instr.sureAddr, Sem.run_bind, Sem.run_pure, Result.andThen_ok, run_loadVar_mid w b 0 ty cs d (fun j v hv => by rw [Nat.zero_add, hb.cell]; simpa using hv) hu hd hi]
end
/-- The map of the takers, wherever it lies. -/
def takersSt : Stay := ⟨fun v w => ∃ b, v = .map (some b) ∧ Takers w b, fun _ _ _ hb ⟨b, h1, h2⟩ => ⟨b, h1, h2.below hb⟩⟩
set_option maxRecDepth 100000 in
set_option maxHeartbeats 1000000 in
theorem node_any (x : Nd) (r : Int) (w : World) (hx : Nd.At w x) (hi : Nd.In x) : Calls Try.prog 13 #[x.val, .int .i64 r] w fun e w' => e = .returned (.bool (nodeOk x r)) ∧ Below w.heap.size w w' := by
  have R := Lib.hid (fun (w' : World) (h : Below w.heap.size w w') (b : Nat) (hT : Takers w' b) => right_any x r b w' (hx.below h) hi hT)
  clear hx hi
  have KB := Lib.hid (Blk.new w #[.int .i64 x.kind, .int .u64 x.c0, .int .u64 x.c1, .int .u64 x.c2, .int .u64 x.c3, .string x.text, .int .i64 x.rule, .int .i64 x.level, .slice x.A x.kids.length x.cap] 32)
  have en36 : ∀ args w, (callFunc 36 args).run Try.prog w = .ok (.enter 36 args) w := fun _ _ => by kernel_rfl
  have en37 : ∀ args w, (callFunc 37 args).run Try.prog w = .ok (.enter 37 args) w := fun _ _ => by kernel_rfl
  obtain ⟨bo, ebo⟩ : ∃ bo, bo = nodeOk x r := ⟨_, rfl⟩
  rw [← ebo] at R ⊢
  clear ebo
  go_enter Try.func13, Try.ntmps13
  go_wp2_with fail
  refine wp_region_puts [some (.is x.val), some (.is (.int .i64 r)), some (.st takersSt), some (.is (.bool bo)), some (.is (.bool bo))] (by kernel_rfl) (by kernel_rfl) (by kernel_rfl) (by kernel_rfl) ⟨by
    intro _ act W hS hun hd
    have h2 : act.eval (.tmp 2) = .pointer (some ⟨w.heap.size, 0, none⟩) := hun 2 (by kernel_rfl)
    exact g_row (cs := [.int .i64 x.kind, .int .u64 x.c0, .int .u64 x.c1, .int .u64 x.c2, .int .u64 x.c3, .string x.text, .int .i64 x.rule, .int .i64 x.level, .slice x.A x.kids.length x.cap]) rfl h2 (KB.out.below' hS) Try.underlying32 rfl (by kernel_rfl) rfl,
    by
    intro _ act W hS hun hd
    have h1 : act.eval (.tmp 1) = .int .i64 r := hun 1 (by kernel_rfl)
    exact g_move rfl h1,
    by
    intro _ act W hS hun hd
    exact g_call (f := 37) (args := #[]) rfl en37 (by simp) ((takers_any W).mono fun e w' ⟨h1, h2, h3⟩ => ⟨_, h1, h3, _, rfl, h2⟩),
    by
    intro _ act W hS hun hd
    have h5 : act.eval (.tmp 5) = x.val := hd 0 _ 5 rfl rfl (by kernel_rfl)
    have h6 : act.eval (.tmp 6) = .int .i64 r := hd 1 _ 6 rfl rfl (by kernel_rfl)
    have h7 : (Sp.st takersSt).holds (act.eval (.tmp 7)) W := hd 2 _ 7 rfl rfl (by kernel_rfl)
    obtain ⟨b, e7, hT⟩ := h7
    exact g_call (f := 36) (args := #[x.val, .int .i64 r, .map (some b)]) rfl en36 (by simp only [List.map_toArray, List.map_cons, List.map_nil, h5, h6, e7]) ((R.out W (bb (B1 _ _) hS) b hT).mono fun e w' ⟨h1, h2⟩ => ⟨_, h1, h2, rfl⟩),
    by
    intro _ act W hS hun hd
    have h8 : act.eval (.tmp 8) = .bool bo := hd 3 _ 8 rfl rfl (by kernel_rfl)
    exact g_assign rfl h8,
    trivial⟩ ?_
  intro f wx hbx hf
  have f4 := hf 4 _ 4 rfl rfl
  have H1 := Lib.hid (bb (B1 w _) hbx)
  have f4' : f 4 = .bool bo := f4
  clear hf f4 hbx
  simp only [putOps]
  go_simp
  go_wp2_with fail
  go_ret
  exact ⟨rfl, H1.out⟩
end Go.Proofs.Ytfdfcagkfnckmaa

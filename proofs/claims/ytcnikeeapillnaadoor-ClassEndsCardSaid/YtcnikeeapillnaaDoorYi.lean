/- What single operations do at this program, for the closed statement. -/
import Derived.Test.YtcnikeeapillnaaDoorYt
import Derived.Test.YtcnikeeapillnaaDoorWi
namespace Go.Proofs.YtcnikeeapillnaaDoor
open Go Go.RowKit
section
variable {a : Act} {w : World} {o : Oper} {Φ : Value → World → Prop}
theorem g_conv35 {x : Operand} {n m : Int} (ho : o.op = .convert 3 5 x) (hx : a.eval x = .int .i64 n) (hm : IntKind.u8.wrap n = m) (h : Φ (.int .u8 m) w) :
    Gives Tryd.prog (fun v w' => Below w.heap.size w w' ∧ Φ v w') ((execOp a.eval o).run Tryd.prog w) := by
  refine .value (v := .int .u8 m) (w := w) ?_ ⟨Below.refl _ _, h⟩
  generalize a.eval = ρ at *
  subst hm
  simp only [execOp, ho, hx]
  go_simp
theorem g_sub3 {x y : Operand} {t : TypeId} {n m r : Int} (ho : o.op = .binOp .sub 3 x y t) (hx : a.eval x = .int .i64 n) (hy : a.eval y = .int .i64 m) (hr : IntKind.i64.wrap (n - m) = r) (h : Φ (.int .i64 r) w) :
    Gives Tryd.prog (fun v w' => Below w.heap.size w w' ∧ Φ v w') ((execOp a.eval o).run Tryd.prog w) := by
  refine .value (v := .int .i64 r) (w := w) ?_ ⟨Below.refl _ _, h⟩
  generalize a.eval = ρ at *
  subst hr
  simp only [execOp, ho, hx, hy]
  go_simp
theorem g_add3 {x y : Operand} {t : TypeId} {n m r : Int} (ho : o.op = .binOp .add 3 x y t) (hx : a.eval x = .int .i64 n) (hy : a.eval y = .int .i64 m) (hr : IntKind.i64.wrap (n + m) = r) (h : Φ (.int .i64 r) w) :
    Gives Tryd.prog (fun v w' => Below w.heap.size w w' ∧ Φ v w') ((execOp a.eval o).run Tryd.prog w) := by
  refine .value (v := .int .i64 r) (w := w) ?_ ⟨Below.refl _ _, h⟩
  generalize a.eval = ρ at *
  subst hr
  simp only [execOp, ho, hx, hy]
  go_simp
theorem g_idx48 {x y : Operand} {b n c k : Nat} (ho : o.op = .indexAddr 48 x y) (hx : a.eval x = .slice (some ⟨b, 0, none⟩) n c) (hy : a.eval y = .int .i64 k) (hk : k < n) (hn : n ≤ 65536) (h : Φ (.pointer (some ⟨b, k, none⟩)) w) :
    Gives Tryd.prog (fun v w' => Below w.heap.size w w' ∧ Φ v w') ((execOp a.eval o).run Tryd.prog w) := by
  refine .value (v := .pointer (some ⟨b, k, none⟩)) (w := w) ?_ ⟨Below.refl _ _, h⟩
  have hk2 : (k : Int) < n := by omega
  generalize a.eval = ρ at *
  simp only [execOp, ho, hx, hy]
  go_simp
theorem g_load3 {x : Operand} {b k : Nat} {n : Int} (ho : o.op = .load 3 x) (hx : a.eval x = .pointer (some ⟨b, k, none⟩)) (hc : w.cell? ⟨b, k, none⟩ = some (.int .i64 n)) (h : Φ (.int .i64 n) w) :
    Gives Tryd.prog (fun v w' => Below w.heap.size w w' ∧ Φ v w') ((execOp a.eval o).run Tryd.prog w) := by
  refine .value (v := .int .i64 n) (w := w) ?_ ⟨Below.refl _ _, h⟩
  generalize a.eval = ρ at *
  simp only [execOp, ho, hx]
  go_simp
theorem g_build38 {x y : Operand} {n m : Int} (ho : o.op = .build 38 #[(0, x), (1, y)]) (hx : a.eval x = .int .u8 n) (hy : a.eval y = .int .u8 m) (h : Φ (.agg #[.int .u8 n, .int .u8 m]) w) :
    Gives Tryd.prog (fun v w' => Below w.heap.size w w' ∧ Φ v w') ((execOp a.eval o).run Tryd.prog w) := by
  refine .value (v := .agg #[.int .u8 n, .int .u8 m]) (w := w) ?_ ⟨Below.refl _ _, h⟩
  generalize a.eval = ρ at *
  simp only [execOp, ho, hx, hy, List.map_toArray, List.map_cons, List.map_nil]
  go_simp
end
/-- A slice that reads as a text. -/
def txtSt (l : List Nat) : Stay := ⟨fun v W => ∃ A c, v = .slice A l.length c ∧ (A = none → c = 0) ∧ Txt W A l, fun _ _ _ hb ⟨A, c, h1, h2, h3⟩ => ⟨A, c, h1, h2, h3.below hb⟩⟩
/-- A slice that reads as a row of cells. -/
def srcSt (n size : Nat) (cs : List Value) : Stay := ⟨fun v W => ∃ A c, v = .slice A n c ∧ SrcAt W W.heap.size v n size cs, fun _ _ _ hb ⟨A, c, h1, h2⟩ => ⟨A, c, h1, h2.below hb hb.size⟩⟩
section
variable {a : Act} {w : World} {o : Oper}
theorem g_two22 {x y : Operand} {k : Nat} (hk : k < 256) (ho : o.op = .buildSlice 22 2 #[(0, x), (1, y)]) (hx : a.eval x = .int .u8 k) (hy : a.eval y = .int .u8 k) :
    Gives Tryd.prog (fun v w' => Below w.heap.size w w' ∧ (Sp.st (txtSt [k, k])).holds v w') ((execOp a.eval o).run Tryd.prog w) := by
  refine .value (v := .slice (some ⟨w.heap.size, 0, none⟩) 2 2) (w := w.alloc (.cells #[.int .u8 k, .int .u8 k] 5)) ?_ ⟨(Below.refl _ _).alloc (Nat.le_refl _) _, _, 2, rfl, (fun h => by cases h), ?_, fun _ => ⟨_, _, rfl, by simp, fun i hi => ?_⟩⟩
  · generalize a.eval = ρ at *
    simp only [execOp, ho, hx, hy, List.map_toArray, List.map_cons, List.map_nil]
    go_simp
  · intro x hx; simp at hx; omega
  · rw [Nat.zero_add, (Blk.new w _ _).cell]
    have hi2 : i < 2 := hi
    have : i = 0 ∨ i = 1 := by omega
    rcases this with rfl | rfl <;> rfl
theorem g_two41 {x y : Operand} {s t : Nat → Bool} (ho : o.op = .buildSlice 41 2 #[(0, x), (1, y)]) (hx : a.eval x = .agg #[.int .u64 (wd s 0), .int .u64 (wd s 1), .int .u64 (wd s 2), .int .u64 (wd s 3)]) (hy : a.eval y = .agg #[.int .u64 (wd t 0), .int .u64 (wd t 1), .int .u64 (wd t 2), .int .u64 (wd t 3)]) :
    Gives Tryd.prog (fun v w' => Below w.heap.size w w' ∧ (Sp.st (srcSt 2 4 (ccells [s, t]))).holds v w') ((execOp a.eval o).run Tryd.prog w) := by
  refine .value (v := .slice (some ⟨w.heap.size, 0, none⟩) 2 2) (w := w.alloc (.cells #[.int .u64 (wd s 0), .int .u64 (wd s 1), .int .u64 (wd s 2), .int .u64 (wd s 3), .int .u64 (wd t 0), .int .u64 (wd t 1), .int .u64 (wd t 2), .int .u64 (wd t 3)] 25)) ?_ ⟨(Below.refl _ _).alloc (Nat.le_refl _) _, _, 2, rfl, .inr ⟨_, 0, 2, rfl, by simp, fun j hj => ?_⟩⟩
  · generalize a.eval = ρ at *
    simp only [execOp, ho, hx, hy, List.map_toArray, List.map_cons, List.map_nil]
    go_simp
  · rw [Nat.zero_add, (Blk.new w _ _).cell]
    simp [ccells]
theorem g_two30 {x y : Operand} {p q r u : Nat} (ho : o.op = .buildSlice 30 2 #[(0, x), (1, y)]) (hx : a.eval x = .agg #[.int .u8 p, .int .u8 q]) (hy : a.eval y = .agg #[.int .u8 r, .int .u8 u]) :
    Gives Tryd.prog (fun v w' => Below w.heap.size w w' ∧ (Sp.st (srcSt 2 2 (rcells [(p, q), (r, u)]))).holds v w') ((execOp a.eval o).run Tryd.prog w) := by
  refine .value (v := .slice (some ⟨w.heap.size, 0, none⟩) 2 2) (w := w.alloc (.cells #[.int .u8 p, .int .u8 q, .int .u8 r, .int .u8 u] 38)) ?_ ⟨(Below.refl _ _).alloc (Nat.le_refl _) _, _, 2, rfl, .inr ⟨_, 0, 2, rfl, by simp, fun j hj => ?_⟩⟩
  · generalize a.eval = ρ at *
    simp only [execOp, ho, hx, hy, List.map_toArray, List.map_cons, List.map_nil]
    go_simp
  · rw [Nat.zero_add, (Blk.new w _ _).cell]
    simp [rcells]
end
theorem txt_nil (W : World) : Txt W none [] := ⟨by simp, fun h => by simp at h⟩
end Go.Proofs.YtcnikeeapillnaaDoor

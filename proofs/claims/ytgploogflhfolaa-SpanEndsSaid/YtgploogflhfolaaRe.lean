/- Layer 3: the operations of the law SpanEnds. -/
import Derived.Test.YtgploogflhfolaaLs
import Derived.Test.YtgploogflhfolaaLa
namespace Go.Proofs.Ytgploogflhfolaa
open Go Go.Proofs Go.RowKit
section
variable {a : Act} {w : World} {o : Oper} {Φ : Value → World → Prop}
theorem e_index32 {x y : Operand} {b n c i : Nat} (ho : o.op = .indexAddr 32 x y) (hx : a.eval x = .slice (some ⟨b, 0, none⟩) n c) (hy : a.eval y = .int .i64 (i : Nat)) (hi : i < n) (h : Φ (.pointer (some ⟨b, i * 2, none⟩)) w) :
    Gives Try.prog (fun v w' => Bel w w' ∧ Φ v w') ((execOp a.eval o).run Try.prog w) := by
  have hi2 : (i : Int) < (n : Int) := by omega
  refine .value (v := .pointer (some ⟨b, i * 2, none⟩)) (w := w) ?_ ⟨Below.refl _ _, h⟩
  generalize a.eval = ρ at *
  simp only [execOp, ho, hx, hy]
  go_simp
theorem e_index48 {x y : Operand} {b n c i : Nat} (ho : o.op = .indexAddr 48 x y) (hx : a.eval x = .slice (some ⟨b, 0, none⟩) n c) (hy : a.eval y = .int .i64 (i : Nat)) (hi : i < n) (h : Φ (.pointer (some ⟨b, i, none⟩)) w) :
    Gives Try.prog (fun v w' => Bel w w' ∧ Φ v w') ((execOp a.eval o).run Try.prog w) := by
  have hi2 : (i : Int) < (n : Int) := by omega
  refine .value (v := .pointer (some ⟨b, i, none⟩)) (w := w) ?_ ⟨Below.refl _ _, h⟩
  generalize a.eval = ρ at *
  simp only [execOp, ho, hx, hy]
  go_simp
theorem e_load23 {x : Operand} {b k : Nat} {n m : Int} (ho : o.op = .load 23 x) (hx : a.eval x = .pointer (some ⟨b, k, none⟩)) (hc : w.cell? ⟨b, k, none⟩ = some (.int .i64 n)) (hc1 : w.cell? ⟨b, k + 1, none⟩ = some (.int .i64 m)) (h : Φ (.agg #[.int .i64 n, .int .i64 m]) w) :
    Gives Try.prog (fun v w' => Bel w w' ∧ Φ v w') ((execOp a.eval o).run Try.prog w) := by
  refine .value (v := .agg #[.int .i64 n, .int .i64 m]) (w := w) ?_ ⟨Below.refl _ _, h⟩
  generalize a.eval = ρ at *
  simp only [execOp, ho, hx]
  go_simp
theorem e_rem {x : Operand} {i c : Nat} (ho : o.op = .binOp .rem 3 x (.const (.int .i64 (c : Nat))) 3) (hx : a.eval x = .int .i64 (i : Nat)) (hi : i ≤ 1000) (hc : 0 < c ∧ c ≤ 100) (h : Φ (.int .i64 (i % c : Nat)) w) :
    Gives Try.prog (fun v w' => Bel w w' ∧ Φ v w') ((execOp a.eval o).run Try.prog w) := by
  refine .value (v := .int .i64 (i % c : Nat)) (w := w) ?_ ⟨Below.refl _ _, h⟩
  have hx2 : a.eval (.const (.int .i64 (c : Nat))) = .int .i64 (c : Nat) := rfl
  have h0 : (c : Int) ≠ 0 := by omega
  have h00 : ¬ c = 0 := by omega
  have ht : ((i : Int)).tmod c = ((i % c : Nat) : Int) := by rw [Int.tmod_eq_emod_of_nonneg (by omega)]; rfl
  have hw : IntKind.i64.wrap ((i % c : Nat) : Int) = ((i % c : Nat) : Int) := IntWalk.i64_in _ (by have := Nat.mod_lt i hc.1; omega)
  generalize a.eval = ρ at *
  simp only [execOp, ho, hx, hx2]
  go_simp
  all_goals omega
theorem e_add {x y : Operand} {i j : Nat} (ho : o.op = .binOp .add 3 x y 3) (hx : a.eval x = .int .i64 (i : Nat)) (hy : a.eval y = .int .i64 (j : Nat)) (hi : i ≤ 1000 ∧ j ≤ 1000) (h : Φ (.int .i64 (i + j : Nat)) w) :
    Gives Try.prog (fun v w' => Bel w w' ∧ Φ v w') ((execOp a.eval o).run Try.prog w) := by
  refine .value (v := .int .i64 (i + j : Nat)) (w := w) ?_ ⟨Below.refl _ _, h⟩
  have hw : IntKind.i64.wrap ((i : Int) + j) = (i : Int) + j := IntWalk.i64_in _ (by omega)
  generalize a.eval = ρ at *
  simp only [execOp, ho, hx, hy]
  go_simp
theorem e_mul {x : Operand} {i c : Nat} (ho : o.op = .binOp .mul 3 x (.const (.int .i64 (c : Nat))) 3) (hx : a.eval x = .int .i64 (i : Nat)) (hi : i ≤ 25) (hc : c ≤ 10) (h : Φ (.int .i64 (i * c : Nat)) w) :
    Gives Try.prog (fun v w' => Bel w w' ∧ Φ v w') ((execOp a.eval o).run Try.prog w) := by
  refine .value (v := .int .i64 (i * c : Nat)) (w := w) ?_ ⟨Below.refl _ _, h⟩
  have hx2 : a.eval (.const (.int .i64 (c : Nat))) = .int .i64 (c : Nat) := rfl
  have hm : i * c ≤ 250 := Nat.mul_le_mul hi hc
  have hci : (i : Int) * c = ((i * c : Nat) : Int) := by simp
  have hw : IntKind.i64.wrap ((i : Int) * c) = (i : Int) * c := IntWalk.i64_in _ (by rw [hci]; omega)
  clear hci hm
  generalize a.eval = ρ at *
  simp only [execOp, ho, hx, hx2]
  go_simp
theorem e_dec {x : Operand} {i : Nat} (ho : o.op = .binOp .sub 3 x (.const (.int .i64 1)) 3) (hx : a.eval x = .int .i64 (i : Nat)) (hi : i ≤ 1000) (h : Φ (.int .i64 ((i : Int) - 1)) w) :
    Gives Try.prog (fun v w' => Bel w w' ∧ Φ v w') ((execOp a.eval o).run Try.prog w) := by
  refine .value (v := .int .i64 ((i : Int) - 1)) (w := w) ?_ ⟨Below.refl _ _, h⟩
  have hw : IntKind.i64.wrap ((i : Int) - 1) = (i : Int) - 1 := IntWalk.i64_in _ (by omega)
  have hx2 : a.eval (.const (.int .i64 1)) = .int .i64 1 := rfl
  generalize a.eval = ρ at *
  simp only [execOp, ho, hx, hx2]
  go_simp
end
/-- Some spans in memory. -/
def lstSt (n : Nat) : Stay Bel := ⟨fun v W => ∃ b xs, v = .slice (some ⟨b, 0, none⟩) n n ∧ xs.length = n ∧ Inrs xs ∧ Spn W (some ⟨b, 0, none⟩) xs, fun _ _ _ hb h => by obtain ⟨b, xs, e, h1, h2, h3⟩ := h; exact ⟨b, xs, e, h1, h2, h3.below hb⟩⟩
/-- A span. -/
def spanSt : Stay Bel := ⟨fun v _ => ∃ s : Int × Int, v = .agg #[.int .i64 s.1, .int .i64 s.2] ∧ Inr s, fun _ _ _ _ h => h⟩
/-- A small text. -/
def txtSt : Stay Bel := ⟨fun v W => ∃ A ys c, v = .slice A ys.length c ∧ ys.length ≤ 5 ∧ (A = none → c = 0) ∧ ys.length ≤ c ∧ c ≤ 9223372036854775807 ∧ Txt W A ys, fun _ _ _ hb h => by obtain ⟨A, ys, c, e, h1, h2, h3, h4, h5⟩ := h; exact ⟨A, ys, c, e, h1, h2, h3, h4, h5.below hb⟩⟩
theorem spn_two (w : World) (p q : Int × Int) : Spn (w.alloc (.cells #[.int .i64 p.1, .int .i64 p.2, .int .i64 q.1, .int .i64 q.2] 23)) (some ⟨w.heap.size, 0, none⟩) [p, q] := fun _ => ⟨_, 0, rfl, by simp, fun i hi => by
  have hi : i < 2 := hi
  rw [(Blk.new w _ _).cell, (Blk.new w _ _).cell]
  have : i = 0 ∨ i = 1 := by omega
  rcases this with rfl | rfl <;> exact ⟨rfl, rfl⟩⟩
theorem spn_three (w : World) (p q r : Int × Int) : Spn (w.alloc (.cells #[.int .i64 p.1, .int .i64 p.2, .int .i64 q.1, .int .i64 q.2, .int .i64 r.1, .int .i64 r.2] 23)) (some ⟨w.heap.size, 0, none⟩) [p, q, r] := fun _ => ⟨_, 0, rfl, by simp, fun i hi => by
  have hi : i < 3 := hi
  rw [(Blk.new w _ _).cell, (Blk.new w _ _).cell]
  have : i = 0 ∨ i = 1 ∨ i = 2 := by omega
  rcases this with rfl | rfl | rfl <;> exact ⟨rfl, rfl⟩⟩
section
variable {a : Act} {w : World} {o : Oper}
theorem e_list2 {x y : Operand} {p q : Int × Int} (ho : o.op = .buildSlice 32 2 #[(0, x), (1, y)]) (hx : a.eval x = .agg #[.int .i64 p.1, .int .i64 p.2]) (hy : a.eval y = .agg #[.int .i64 q.1, .int .i64 q.2]) (hp : Inr p) (hq : Inr q) :
    Gives Try.prog (fun v w' => Bel w w' ∧ (Sp.st (lstSt 2)).holds v w') ((execOp a.eval o).run Try.prog w) := by
  refine .value (v := .slice (some ⟨w.heap.size, 0, none⟩) 2 2) (w := w.alloc (.cells #[.int .i64 p.1, .int .i64 p.2, .int .i64 q.1, .int .i64 q.2] 23)) ?_ ⟨B1 _ _, _, [p, q], rfl, rfl, (by intro z hz; simp at hz; rcases hz with rfl | rfl <;> assumption), spn_two w p q⟩
  generalize a.eval = ρ at *
  simp only [execOp, ho, hx, hy, List.map_toArray, List.map_cons, List.map_nil]
  go_simp
theorem e_list3 {x y z : Operand} {p q r : Int × Int} (ho : o.op = .buildSlice 32 3 #[(0, x), (1, y), (2, z)]) (hx : a.eval x = .agg #[.int .i64 p.1, .int .i64 p.2]) (hy : a.eval y = .agg #[.int .i64 q.1, .int .i64 q.2]) (hz : a.eval z = .agg #[.int .i64 r.1, .int .i64 r.2]) (hp : Inr p) (hq : Inr q) (hr : Inr r) :
    Gives Try.prog (fun v w' => Bel w w' ∧ (Sp.st (lstSt 3)).holds v w') ((execOp a.eval o).run Try.prog w) := by
  refine .value (v := .slice (some ⟨w.heap.size, 0, none⟩) 3 3) (w := w.alloc (.cells #[.int .i64 p.1, .int .i64 p.2, .int .i64 q.1, .int .i64 q.2, .int .i64 r.1, .int .i64 r.2] 23)) ?_ ⟨B1 _ _, _, [p, q, r], rfl, rfl, (by intro z hz; simp at hz; rcases hz with rfl | rfl | rfl <;> assumption), spn_three w p q r⟩
  generalize a.eval = ρ at *
  simp only [execOp, ho, hx, hy, hz, List.map_toArray, List.map_cons, List.map_nil]
  go_simp
theorem e_build1 {c : Int} (ho : o.op = .build 23 #[(1, .const (.int .i64 c))]) : Gives Try.prog (fun v w' => Bel w w' ∧ v = .agg #[.int .i64 0, .int .i64 c]) ((execOp a.eval o).run Try.prog w) := by
  refine .value (v := .agg #[.int .i64 0, .int .i64 c]) (w := w) ?_ ⟨Below.refl _ _, rfl⟩
  have hx2 : a.eval (.const (.int .i64 c)) = .int .i64 c := rfl
  generalize a.eval = ρ at *
  simp only [execOp, ho, hx2, List.map_toArray, List.map_cons, List.map_nil]
  go_simp
theorem e_build2 {c d : Int} (ho : o.op = .build 23 #[(0, .const (.int .i64 c)), (1, .const (.int .i64 d))]) : Gives Try.prog (fun v w' => Bel w w' ∧ v = .agg #[.int .i64 c, .int .i64 d]) ((execOp a.eval o).run Try.prog w) := by
  refine .value (v := .agg #[.int .i64 c, .int .i64 d]) (w := w) ?_ ⟨Below.refl _ _, rfl⟩
  have hx2 : a.eval (.const (.int .i64 c)) = .int .i64 c := rfl
  have hx3 : a.eval (.const (.int .i64 d)) = .int .i64 d := rfl
  generalize a.eval = ρ at *
  simp only [execOp, ho, hx2, hx3, List.map_toArray, List.map_cons, List.map_nil]
  go_simp
theorem e_byte1 {c : Nat} (hc : c < 256) (ho : o.op = .buildSlice 33 1 #[(0, .const (.int .u8 (c : Nat)))]) : Gives Try.prog (fun v w' => Bel w w' ∧ (Sp.st txtSt).holds v w') ((execOp a.eval o).run Try.prog w) := by
  refine .value (v := .slice (some ⟨w.heap.size, 0, none⟩) 1 1) (w := w.alloc (.cells #[.int .u8 (c : Nat)] 5)) ?_ ⟨B1 _ _, _, [c], 1, rfl, by simp, (fun h => by cases h), Nat.le_refl _, by decide, ⟨by simpa using hc, fun _ => ⟨_, 0, rfl, by simp, fun i hi => ?_⟩⟩⟩
  · have hx2 : a.eval (.const (.int .u8 (c : Nat))) = .int .u8 (c : Nat) := rfl
    generalize a.eval = ρ at *
    simp only [execOp, ho, hx2, List.map_toArray, List.map_cons, List.map_nil]
    go_simp
  · have hi : i < 1 := hi
    obtain rfl : i = 0 := by omega
    rw [(Blk.new w _ _).cell]; rfl
theorem e_make {x : Operand} {n : Nat} (ho : o.op = .makeSlice 33 x x) (hx : a.eval x = .int .i64 (n : Nat)) (hn : n < 5) : Gives Try.prog (fun v w' => Bel w w' ∧ (Sp.st txtSt).holds v w') ((execOp a.eval o).run Try.prog w) := by
  obtain ⟨i0, hi, hz0, hz1, hz2⟩ := info_parts Try.info5
  have hr := run_make (P := Try.prog) w 33 5 i0 (.int .u8 0) Try.underlying33 hi hz0 .i64 .i64 (n : Nat) (n : Nat) (by omega) (by omega) (by rw [hz2]; omega) (by omega)
  rw [hz1, Int.toNat_natCast] at hr
  refine .value (v := .slice (some ⟨w.heap.size, 0, none⟩) n n) (w := w.alloc (.cells (madeCells (Value.int .u8 0).cells (n * 1)) 5)) ?_ ⟨B1 _ _, some ⟨w.heap.size, 0, none⟩, List.replicate n 0, n, by simp, by simp; omega, (fun h => by cases h), by simp, by omega, ⟨by simp, fun _ => ⟨_, 0, rfl, by simp, fun i hi => ?_⟩⟩⟩
  · simp only [execOp, ho, hx, hr, Sem.run_bind, Result.andThen_ok]
    go_simp
  · have hi : i < n := by simpa using hi
    rw [(Blk.new w _ _).cell]
    have : n = 0 ∨ n = 1 ∨ n = 2 ∨ n = 3 ∨ n = 4 := by omega
    rcases this with rfl | rfl | rfl | rfl | rfl
    · omega
    · obtain rfl : i = 0 := by omega
      simp [madeCells, Value.cells]
    · have : i = 0 ∨ i = 1 := by omega
      rcases this with rfl | rfl <;> simp [madeCells, Value.cells]
    · have : i = 0 ∨ i = 1 ∨ i = 2 := by omega
      rcases this with rfl | rfl | rfl <;> simp [madeCells, Value.cells]
    · have : i = 0 ∨ i = 1 ∨ i = 2 ∨ i = 3 := by omega
      rcases this with rfl | rfl | rfl | rfl <;> simp [madeCells, Value.cells]
end
/-- The law SpanRows at a small row of spans, and a small text. -/
theorem rows_at (s : Int × Int) (hs : Inr s) (b n : Nat) (xs : List (Int × Int)) (hn : xs.length = n) (hn5 : n ≤ 5) (hr : Inrs xs) (w : World) (hS : Spn w (some ⟨b, 0, none⟩) xs) (A : Option Addr) (ys : List Nat) (c : Nat) (h1 : ys.length ≤ 5) (h2 : A = none → c = 0) (h3 : ys.length ≤ c) (h4 : c ≤ 9223372036854775807) (h5 : Txt w A ys) :
    Calls Try.prog 4 #[.agg #[.int .i64 s.1, .int .i64 s.2], .slice (some ⟨b, 0, none⟩) n n, .slice A ys.length c] w fun e w' => ∃ v, e = .returned v ∧ Bel w w' ∧ v = .bool true := by
  subst hn
  exact (rows_main s.1 s.2 hs (some ⟨b, 0, none⟩) xs xs.length A ys c (by omega) hr (fun h => by cases h) h2 h3 h4 w hS h5).mono fun _ _ ⟨he, hb⟩ => ⟨_, he, hb, rfl⟩
theorem tells_at (p q : Int × Int) (n : Int) (hp : Inr p) (w : World) (hq : Inr q) :
    Calls Try.prog 3 #[.agg #[.int .i64 p.1, .int .i64 p.2], .agg #[.int .i64 q.1, .int .i64 q.2], .int .i64 n] w fun e w' => ∃ v, e = .returned v ∧ Bel w w' ∧ v = .bool true :=
  (tells_raw awake_any p.1 p.2 q.1 q.2 n hp.2.2.2 w).mono fun _ _ ⟨he, hb⟩ => ⟨_, he, hb, rfl⟩
end Go.Proofs.Ytgploogflhfolaa

/- A store of several cells into a row of the call's own, inside a round. Nothing here speaks of one program. -/
import Derived.Test.YtfdfcagkfnckmaaVj
import Derived.Test.YtfdfcagkfnckmaaRx
import Derived.Deep.MidRow
namespace Go.Proofs.Ytfdfcagkfnckmaa
open Go Go.RowKit
theorem wpListIn_store_mid {F : Fence} {k : Nat} {P : Program} {w : World} {ops : Array Oper} {rest : List Oper} {o : Oper} {ac : Act} {Q : Exit → Act → World → Prop}
    (hgd : o.guard = none) (ty : TypeId) (x y : Operand) (hop : o.op = .store ty x y) (b off : Nat) (cells : Array Value) (hx : ac.eval x = .pointer (some ⟨b, off, none⟩)) (hy : ac.eval y = .agg cells)
    (ht : w.there b off cells.size) (hi : (P.info? ty).map (·.size) = some cells.size) (h1 : cells.all (·.oneCell') = true)
    (hK : wpListIn F k P ops Q rest (ac.put o.dst undef) (w.setCells b off cells.toList)) : wpListIn F k P ops Q (o :: rest) ac w := by
  refine wpListIn_plain hgd fun K hK' => ?_
  unfold Oper.wpIn
  constructor
  · simp [Oper.about, hop, Sem.run_pure]
  · rw [Oper.semAt_plain F _ _ (by rw [hop]; intro c hc'; cases hc')]
    simp only [execOp, hop, hx, hy, Instr.storeAt, Instr.sureAddr, Sem.run_bind, Sem.run_pure, Result.andThen_ok, run_storeVar_mid w b off ty cells ht hi h1]
    exact hK' _ _ hK
theorem own_set {w : World} {base e size n g cap : Nat} : ∀ (vs : List Value) (o : Nat) (w : World) (xs : List Value), w.ownsRow base e size (.slice (some ⟨g, 0, none⟩) n cap) n xs → o + vs.length ≤ xs.length →
    (w.setCells g o vs).ownsRow base e size (.slice (some ⟨g, 0, none⟩) n cap) n (xs.take o ++ vs ++ xs.drop (o + vs.length)) ∧ w.grownBy (w.setCells g o vs) (some g)
  | [], o, w, xs, h, _ => by
    simp only [World.setCells, List.append_nil, List.length_nil, Nat.add_zero, List.take_append_drop]
    exact ⟨h, World.grownBy.refl _ _⟩
  | v :: vs, o, w, xs, h, hl => by
    simp only [List.length_cons] at hl
    obtain ⟨h1, h2⟩ := h.stored o v
    obtain ⟨h3, h4⟩ := own_set (w := w) vs (o + 1) _ _ h1 (by rw [List.length_set]; omega)
    have e : (xs.set o v).take (o + 1) ++ vs ++ (xs.set o v).drop (o + 1 + vs.length) = xs.take o ++ (v :: vs) ++ xs.drop (o + (vs.length + 1)) := by
      rw [List.set_eq_take_append_cons_drop, if_pos (by omega)]
      rw [show xs.take o ++ v :: xs.drop (o + 1) = (xs.take o ++ [v]) ++ xs.drop (o + 1) by simp]
      rw [List.take_append_of_le_length (by simp; omega), List.drop_append]
      have l1 : (xs.take o ++ [v]).length = o + 1 := by simp; omega
      rw [List.take_of_length_le (by rw [l1]; omega), l1, List.drop_of_length_le (by rw [l1]; omega), List.drop_drop]
      simp only [List.nil_append, List.append_assoc, List.cons_append]
      congr 4
      omega
    refine ⟨by simp only [World.setCells, List.length_cons]; rw [← e]; exact h3, ?_⟩
    simp only [World.setCells]
    exact ⟨h4.os.trans h2.os, h4.tape.trans h2.tape, h4.output.trans h2.output, Nat.le_trans h2.size h4.size, fun k hk hne => (h4.block k (Nat.lt_of_lt_of_le hk h2.size) hne).trans (h2.block k hk hne)⟩
theorem own_there {w : World} {base e size n g cap o : Nat} {xs : List Value} (h : w.ownsRow base e size (.slice (some ⟨g, 0, none⟩) n cap) n xs) (m : Nat) (hm : o + m ≤ n * size) : w.there g o m := by
  intro j hj
  refine ⟨?_, h.frozenAt (o + j)⟩
  rw [h.cellAt (o + j) (by omega), List.getElem?_eq_getElem (by rw [h.1]; omega)]
  rfl
end Go.Proofs.Ytfdfcagkfnckmaa

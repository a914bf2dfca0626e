/- A byte, written: One and the document's. -/
import Derived.Test.YtgmdfmckkfefgaaDoorWd
import Derived.Laws.BytesArg
namespace Go.Proofs.YtgmdfmckkfefgaaDoor
open Go Go.RowKit Go.Maps
theorem str_nums (l : List Nat) : strOfNums (l.map fun x : Nat => (x : Int)) = bsv l := by
  unfold strOfNums bsv
  simp only [List.map_map]
  rfl
theorem look_d7 {w : World} {b : Nat} (h : w.ownsMap Tryd.prog 5 (plainElem Tryd.prog 5) b 7 d7) (c : Nat) (hc : c < 256) :
    (∀ s, sg c = some s → (Instr.lookup 110 (.map (some b)) (.int .u8 c) true).run Tryd.prog w = .ok (.tuple #[.int .u8 s, .bool true]) w) ∧
    (sg c = none → ∃ v : Int, (Instr.lookup 110 (.map (some b)) (.int .u8 c) true).run Tryd.prog w = .ok (.tuple #[.int .u8 v, .bool false]) w) := by
  obtain ⟨v, ps, hrun, hv⟩ := h.look_ok Tryd.law5 Tryd.underlying110 (z := .int .u8 0) (by first | exact Tryd.zeroValue5 _ | kernel_rfl | rfl) (plainElem_int Tryd.underlying5 (lk_wf (c := 0) (by omega))) (keyOf_int_mk Tryd.underlying5 (lk_wf (c := c) (by omega)))
  obtain ⟨x, rfl, hx, hwx⟩ := plainElem_int_inv Tryd.underlying5 hv
  rw [d7_has] at hrun
  refine ⟨fun s hs => ?_, fun hs => ⟨x, ?_⟩⟩
  · rw [hs] at hrun
    simp only [Prod.mk.injEq, d7_at c s hs] at hx
    have e : x = s := by have := hx.1; simp only [ld, DataW.lit.injEq, Lit.int.injEq, true_and] at this; omega
    rw [hrun, e]
    rfl
  · rw [hs] at hrun
    exact hrun
theorem look_signed {w : World} {b : Nat} (h : Signed w b) (c : Nat) (hc : c < 256) :
    (∀ s, sd c = some s → (Instr.lookup 110 (.map (some b)) (.int .u8 c) true).run Tryd.prog w = .ok (.tuple #[.int .u8 s, .bool true]) w) ∧
    (sd c = none → ∃ v : Int, (Instr.lookup 110 (.map (some b)) (.int .u8 c) true).run Tryd.prog w = .ok (.tuple #[.int .u8 v, .bool false]) w) := by
  obtain ⟨D, h, hD, hA⟩ := h
  obtain ⟨v, ps, hrun, hv⟩ := h.look_ok Tryd.law5 Tryd.underlying110 (z := .int .u8 0) (by first | exact Tryd.zeroValue5 _ | kernel_rfl | rfl) (plainElem_int Tryd.underlying5 (lk_wf (c := 0) (by omega))) (keyOf_int_mk Tryd.underlying5 (lk_wf (c := c) (by omega)))
  obtain ⟨x, rfl, hx, hwx⟩ := plainElem_int_inv Tryd.underlying5 hv
  rw [hD] at hrun
  refine ⟨fun s hs => ?_, fun hs => ⟨x, ?_⟩⟩
  · rw [hs] at hrun
    simp only [Prod.mk.injEq, hA c s _ hs] at hx
    have e : x = s := by have := hx.1; simp only [ld, DataW.lit.injEq, Lit.int.injEq, true_and] at this; omega
    rw [hrun, e]
    rfl
  · rw [hs] at hrun
    exact hrun
end Go.Proofs.YtgmdfmckkfefgaaDoor
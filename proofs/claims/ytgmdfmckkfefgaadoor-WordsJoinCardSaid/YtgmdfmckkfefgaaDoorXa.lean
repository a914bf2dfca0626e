/- The words of the example by which the laws of layer 7 see that they look. -/
import Derived.Test.YtgmdfmckkfefgaaDoorVv
namespace Go.Proofs.YtgmdfmckkfefgaaDoor
open Go Go.RowKit
/-- A:2 <- "a" [b-d]* ; -/
def smp : List Nat := [65, 58, 50, 32, 60, 45, 32, 34, 97, 34, 32, 91, 98, 45, 100, 93, 42, 32, 59]
theorem smp_str : Str ⟨#[65, 58, 50, 32, 60, 45, 32, 34, 97, 34, 32, 91, 98, 45, 100, 93, 42, 32, 59]⟩ smp := by unfold Str; rfl
theorem smp0 : (ow smp 0).map (fun x => (x.kind, x.lev, x.len)) = some (2, 2, 3) := by kernel_rfl
theorem smp1 : (ow smp 1).map (fun x => (x.kind, x.len)) = some (5, 2) := by kernel_rfl
theorem smp2 : (ow smp 2).map (fun x => (x.kind, x.text, x.len)) = some (3, [97], 3) := by kernel_rfl
theorem smp3 : (ow smp 3).map (fun x => (x.kind, cw x.cls 0, cw x.cls 1, cw x.cls 2, cw x.cls 3)) = some (4, 0, 120259084288, 0, 0) := by kernel_rfl
theorem smp4 : (ow smp 4).map (fun x => x.kind) = some 5 := by kernel_rfl
theorem smp5 : (ow smp 5).map (fun x => x.kind) = some 5 := by kernel_rfl
theorem smp6 : (ow smp 6).map (fun x => x.kind) = some 1 := by kernel_rfl
theorem stp_of {l : List Nat} {k : Nat} {a : Int} {b : Bool} (h : (ow l k).map (fun x => x.kind) = some a) (hb : (a == 1) = b) : stp l k = b := by
  cases ho : ow l k with
  | none => rw [ho] at h; cases h
  | some x => rw [ho] at h; rw [stp_some ho]; simp only [Option.map_some, Option.some.injEq] at h; rw [h]; exact hb
theorem smp_stp : stp smp 6 = true ∧ ∀ j, j < 6 → stp smp j = false := by
  refine ⟨by kernel_rfl, fun j hj => ?_⟩
  match j, hj with
  | 0, _ => exact (by kernel_rfl : stp smp 0 = false)
  | 1, _ => exact (by kernel_rfl : stp smp 1 = false)
  | 2, _ => exact (by kernel_rfl : stp smp 2 = false)
  | 3, _ => exact (by kernel_rfl : stp smp 3 = false)
  | 4, _ => exact (by kernel_rfl : stp smp 4 = false)
  | 5, _ => exact (by kernel_rfl : stp smp 5 = false)
/-- A cell of the words' row. -/
theorem wrow_at (l : List Nat) (k n i : Nat) (hk : k < n) (hi : i < 9) : (wrow l n)[9 * k + i]? = (wA l k)[i]? := by
  induction n with
  | zero => omega
  | succ n ih =>
    rw [wrow]
    by_cases h : k < n
    · rw [List.getElem?_append_left (by rw [wrow_length]; omega)]
      exact ih h
    · obtain rfl : k = n := by omega
      rw [List.getElem?_append_right (by rw [wrow_length]; omega), wrow_length, show 9 * k + i - k * 9 = i by omega, Array.getElem?_toList]
theorem smp_cells : (wrow smp 7)[0]? = some (.int .i64 2) ∧ (wrow smp 7)[4]? = some (.int .i64 2) ∧ (wrow smp 7)[21]? = some (.string ⟨#[97]⟩) ∧ (wrow smp 7)[32]? = some (.int .u64 0) ∧ (wrow smp 7)[33]? = some (.int .u64 120259084288) ∧ (wrow smp 7)[34]? = some (.int .u64 0) ∧ (wrow smp 7)[35]? = some (.int .u64 0) ∧ (wrow smp 7)[54]? = some (.int .i64 1) := by
  have f : ∀ {k : Nat} {α : Type} {g : Wd → α} {a : α}, (ow smp k).map g = some a → ∃ x, ow smp k = some x ∧ g x = a := by
    intro k α g a h
    cases ho : ow smp k with
    | none => rw [ho] at h; cases h
    | some x => rw [ho] at h; exact ⟨x, rfl, Option.some.inj h⟩
  obtain ⟨x0, h0, e0⟩ := f smp0
  obtain ⟨x2, h2, e2⟩ := f smp2
  obtain ⟨x3, h3, e3⟩ := f smp3
  obtain ⟨x6, h6, e6⟩ := f smp6
  simp only [Prod.mk.injEq] at e0 e2 e3 e6
  refine ⟨?_, ?_, ?_, ?_, ?_, ?_, ?_, ?_⟩
  · rw [wrow_at smp 0 7 0 (by omega) (by omega), wA_some h0]; simp [wfull, e0.1]
  · rw [wrow_at smp 0 7 4 (by omega) (by omega), wA_some h0]; simp [wfull, e0.2.1]
  · rw [wrow_at smp 2 7 3 (by omega) (by omega), wA_some h2]; simp [wfull, e2.2.1, bsv]
  · rw [wrow_at smp 3 7 5 (by omega) (by omega), wA_some h3]; simp [wfull, e3.2.1]
  · rw [wrow_at smp 3 7 6 (by omega) (by omega), wA_some h3]; simp [wfull, e3.2.2.1]
  · rw [wrow_at smp 3 7 7 (by omega) (by omega), wA_some h3]; simp [wfull, e3.2.2.2.1]
  · rw [wrow_at smp 3 7 8 (by omega) (by omega), wA_some h3]; simp [wfull, e3.2.2.2.2]
  · rw [wrow_at smp 6 7 0 (by omega) (by omega), wA_some h6]; simp [wfull, e6]
end Go.Proofs.YtgmdfmckkfefgaaDoor

/- WHAT IS PROVED: for any grammar and any two numbers the law NamesReach (of two rules of a right grammar: one calls the other as the other tells its callers; what a rule reaches is itself and all that those it calls reach, told rising; of a grammar that is not right no rows are told) returns true and changes nothing. CONDITIONS: five variables of the library read as their initialisers lay them, which the card ties to the program's text. -/
import Derived.Test.YtmfhbajhbbonoaaGreatDoorK1
import Derived.Test.YtmfhbajhbbonoaaGreatDoorTie
import Derived.Test.YtmfhbajhbbonoaaGreatDoorCards
set_option linter.unusedSimpArgs false
set_option linter.unusedVariables false
namespace Go.Proofs.YtmfhbajhbbonoaaGreatDoor.J
open Go Go.ChangeShapes Go.WideShapes Go.ChangeAt Go.RowKit Go.Joins Go.Deep
theorem both {a b : Bool} (h : a = true) (k : b = true) : (a && b) = true := by rw [h, k]; rfl
set_option maxHeartbeats 40000000 in
theorem reach_facts : joinedFacts Tryz.prog 8 Tryz.f8 Rows.namesReachSpec Rows.namesReachRow = true := by
  unfold joinedFacts
  repeat' (with_reducible refine both ?_ ?_)
  all_goals (as_aux_lemma => kernel_rfl)
theorem reach_row : Rows.NamesReachSaid :=
  OpenClaim.holds_of_wide 8 Tryz.f8 rfl rfl rfl rfl rfl rfl rfl ⟨rfl, rfl, rfl, rfl, rfl⟩ rfl rfl rfl rfl rfl (by as_aux_lemma => kernel_rfl) Tryz.func8 reach_facts
    (of_decide_eq_true (by as_aux_lemma => kernel_rfl)) (by unfold Func.isWrapper; first | (rw [if_pos (by decide +kernel)]; kernel_rfl) | (rw [if_neg (by decide +kernel)]; exact ⟨rfl, rfl⟩))
    (fun os started H enc _ => reach_lifted os started H enc)

theorem namesReach_holds : Rows.NamesReachCardSaid :=
  Claim7.holds_tied_plain_at .later [] [.data, .data, .data, .sentinel, .sentinel] true (true, "fe35d73a129ea8bad31b32dc39b1993413dba827bcb595e7b00ed93a0991d297") true
    reach_row (fun _ h => by cases h) (by kernel_rfl) (fun _ h => by cases h) namesReach_row_tie rfl ⟨rfl, rfl⟩ (by kernel_rfl) rfl
    (fun f fn hf hfn => by
      obtain rfl : f = 8 := Option.some.inj ((show Tryz.prog.funcNamed Rows.namesReachRow.func = some 8 by kernel_rfl).symm.trans hf) |>.symm
      obtain rfl : fn = Tryz.f8 := (Option.some.inj (Tryz.func8.symm.trans hfn)).symm
      exact ⟨by kernel_rfl, fun j t ht => by
        rw [Tryz.params8] at ht
        have hm : t ∈ [25, 3, 3] := by simpa using Array.mem_of_getElem? ht
        have hall : ([25, 3, 3].all fun u => !Tryz.prog.wantsStandIn u) = true := by kernel_rfl
        exact (show Tryz.prog.wantsStandIn t = false by simpa using List.all_eq_true.1 hall t hm)⟩)
    (by kernel_rfl)
#print axioms namesReach_holds
end Go.Proofs.YtmfhbajhbbonoaaGreatDoor.J

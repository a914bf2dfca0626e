/- WHAT IS PROVED: for any two strings and any number the law NamesPlain returns true and changes nothing: where the first one is read, changing the names of nodes that call nobody, and moving all places on by one number, leaves what it is resolved to as it was, or the same error as far on; one rule more at its end, that nobody calls, changes nothing of the others; and each call is of a rule of its own name. CONDITIONS: five variables of the library read as their initialisers lay them, which the card ties to the program's text. -/
import Derived.Test.YtfghfnpiaccfaaaGreatDoorF4
import Derived.Test.YtfghfnpiaccfaaaGreatDoorTie
import Derived.Test.YtfghfnpiaccfaaaGreatDoorCards
set_option linter.unusedSimpArgs false
set_option linter.unusedVariables false
namespace Go.Proofs.YtfghfnpiaccfaaaGreatDoor.J
open Go Go.ChangeShapes Go.WideShapes Go.ChangeAt Go.RowKit Go.Joins Go.Deep
theorem both2 {a b : Bool} (h : a = true) (k : b = true) : (a && b) = true := by rw [h, k]; rfl
set_option maxHeartbeats 40000000 in
theorem plain_facts : joinedFacts Tryz.prog 9 Tryz.f9 Rows.namesPlainSpec Rows.namesPlainRow = true := by
  unfold joinedFacts
  repeat' (with_reducible refine both2 ?_ ?_)
  all_goals (as_aux_lemma => kernel_rfl)
theorem plain_row : Rows.NamesPlainSaid :=
  OpenClaim.holds_of_wide 9 Tryz.f9 rfl rfl rfl rfl rfl rfl rfl ⟨rfl, rfl, rfl, rfl, rfl⟩ rfl rfl rfl rfl rfl (by as_aux_lemma => kernel_rfl) Tryz.func9 plain_facts
    (of_decide_eq_true (by as_aux_lemma => kernel_rfl)) (by unfold Func.isWrapper; first | (rw [if_pos (by decide +kernel)]; kernel_rfl) | (rw [if_neg (by decide +kernel)]; exact ⟨rfl, rfl⟩))
    (fun os started H enc _ => plain_lifted os started H enc)

theorem namesPlain_holds : Rows.NamesPlainCardSaid :=
  Claim7.holds_tied_plain_at .later [] [.data, .data, .data, .sentinel, .sentinel] true (true, "fe35d73a129ea8bad31b32dc39b1993413dba827bcb595e7b00ed93a0991d297") true
    plain_row (fun _ h => by cases h) (by kernel_rfl) (fun _ h => by cases h) namesPlain_row_tie rfl ⟨rfl, rfl⟩ (by kernel_rfl) rfl
    (fun f fn hf hfn => by
      obtain rfl : f = 9 := Option.some.inj ((show Tryz.prog.funcNamed Rows.namesPlainRow.func = some 9 by kernel_rfl).symm.trans hf) |>.symm
      obtain rfl : fn = Tryz.f9 := (Option.some.inj (Tryz.func9.symm.trans hfn)).symm
      exact ⟨by kernel_rfl, fun j t ht => by
        rw [Tryz.params9] at ht
        have hm : t ∈ [9, 9, 3] := by simpa using Array.mem_of_getElem? ht
        have hall : ([9, 9, 3].all fun u => !Tryz.prog.wantsStandIn u) = true := by kernel_rfl
        exact (show Tryz.prog.wantsStandIn t = false by simpa using List.all_eq_true.1 hall t hm)⟩)
    (by kernel_rfl)
#print axioms namesPlain_holds
end Go.Proofs.YtfghfnpiaccfaaaGreatDoor.J

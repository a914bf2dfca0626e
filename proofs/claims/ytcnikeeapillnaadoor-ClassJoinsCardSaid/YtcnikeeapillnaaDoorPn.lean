/- WHAT IS PROVED: for any class, any classes and any runs the law ClassJoins (what is not in a class, in one of any, in all of any, in any runs, is what the document tells; they stay) returns true and changes nothing. CONDITIONS: the table of math/bits reads as its initialiser lays it, which the card ties to the program's text. -/
import Derived.Test.YtcnikeeapillnaaDoorPq
import Derived.Test.YtcnikeeapillnaaDoorXj
import Derived.Test.YtcnikeeapillnaaDoorTie
import Derived.Test.YtcnikeeapillnaaDoorCards
namespace Go.Proofs.YtcnikeeapillnaaDoor
open Go Go.ChangeShapes Go.WideShapes Go.ChangeAt Go.RowKit

theorem laidOut : laidOutB Tryd.prog = true := by kernel_rfl
theorem bytes25 : Tryd.prog.bytesOf 25 = 32 := by kernel_rfl
theorem bytes38 : Tryd.prog.bytesOf 38 = 2 := by kernel_rfl
theorem door_met4 (os : Os) (args : Array Value) : laidMetH Tryd.prog laid1 ((World.doorLaid Tryd.prog 400 os).forCall (fun _ _ => 0) ⟨#[], args, []⟩).memory :=
  laidMetH_of_parts3 (fuel := 8) (laidMet_of_run' 8 (by kernel_rfl) (by kernel_rfl)) (by kernel_rfl) (by kernel_rfl)

set_option maxRecDepth 100000 in
theorem joins_lifted (os : Os) (started : os.Started) (H : Type) (enc : TypeId × Value → H) :
    ReturnsInHanded {} Tryd.checked os 4 .any (fun w args => (Rows.classJoinsSpec.pre enc Tryd.prog Tryd.f4 [] false w args ∧ laidMetH Tryd.prog laid1 w) ∧ sizedMet enc Tryd.prog Tryd.f4 (OpenSpec.ofChange Rows.classJoinsSpec) false w args)
      (Rows.classJoinsSpec.post enc Tryd.prog Tryd.f4 false true false false) := by
  refine returnsInHanded_of_change_and (C := Tryd.checked) (X := fun w _ => laidMetH Tryd.prog laid1 w) (fun _ _ _ hh h => h.of_heap hh) own started (by kernel_rfl) Tryd.func4
    (ChangeSpec.witness_shaped (enc := enc) (C := Tryd.checked) (os := os) (X := fun w _ => laidMetH Tryd.prog laid1 w) false (World.doorLaid Tryd.prog 400 os) #[.agg #[.int .u64 0, .int .u64 0, .int .u64 0, .int .u64 0], .slice none 0 0, .slice none 0 0] 8 rfl (World.shaped_of_RefB (by kernel_rfl) (by kernel_rfl)) (by kernel_rfl) (by kernel_rfl) (by kernel_rfl) (door_met4 os _)) ?_
  intro W base args ds gs before hval0 hW _ hsz0 hL _
  have hval : ∀ (j : Nat) t v, Tryd.f4.params[j]? = some t → args[j]? = some v → Value.okWide Tryd.prog W .any base t v := hval0
  have hsz : (DataW.weightsEach Tryd.prog (Tryd.f4.params.toList ++ Rows.classJoinsSpec.plain.varTypes Tryd.prog) (ds ++ gs)).all (· ≤ reachBytes) = true := hsz0
  have hW' := hW
  obtain ⟨p, q, hA0, hV, rfl, hfz, hnd⟩ := hW
  have hA : DataW.TrodAll enc Tryd.prog W 0 (fun _ => true) true Tryd.f4.params.toList args.toList ds p := hA0
  have hAk := hA
  rw [Tryd.params4] at hA hval hsz
  obtain ⟨v0, v1, v2, d0, d1, d2, p0, p1, p2, rfl, rfl, rfl, h0, h1, h2⟩ := trodAll_three hA
  obtain ⟨rfl, rfl⟩ := trodVars_none hV
  obtain ⟨a, rfl, rfl, rfl⟩ := open_cls (hval 0 25 v0 rfl rfl) h0
  obtain ⟨ac, ss, cc, rfl, hmc, hsc, hdc⟩ := open_clss (hval 1 41 v1 rfl rfl) h1
  obtain ⟨ar, rs, cr, rfl, hmr, hsm, hsr, hdr⟩ := open_runs (hval 2 30 v2 rfl rfl) h2
  have hT := of_laid hL
  clear hA0 hval0
  simp only [List.append_nil] at hW' hAk
  have wc : ss.length ≤ 140737488351232 := by
    rcases hdc with h | ⟨e, sp, rfl, he⟩
    · omega
    · have h2 : (e.length + sp.length) * Tryd.prog.bytesOf 25 ≤ reachBytes := of_decide_eq_true (List.all_eq_true.1 hsz ((e.length + sp.length) * Tryd.prog.bytesOf 25) (by simp [DataW.weights, DataW.weightsEach, dcls, Tryd.underlying25, Tryd.underlying41]))
      rw [bytes25] at h2
      unfold reachBytes at h2
      omega
  have wr : rs.length ≤ 140737488351232 := by
    rcases hdr with h | ⟨e, sp, rfl, he⟩
    · omega
    · have h2 : (e.length + sp.length) * Tryd.prog.bytesOf 38 ≤ reachBytes := of_decide_eq_true (List.all_eq_true.1 hsz ((e.length + sp.length) * Tryd.prog.bytesOf 38) (by simp [DataW.weights, DataW.weightsEach, dcls, Tryd.underlying25, Tryd.underlying41, Tryd.underlying30]))
      rw [bytes38] at h2
      unfold reachBytes at h2
      omega
  have key : Calls Tryd.prog 4 #[.agg #[.int .u64 (wd a 0), .int .u64 (wd a 1), .int .u64 (wd a 2), .int .u64 (wd a 3)], .slice ac ss.length cc, .slice ar rs.length cr] W fun e w' => e = .returned (.bool true) ∧ Below W.heap.size W w' := by
    by_cases h : 400 < ss.length + rs.length
    · exact joins_long a ac ar ss.length rs.length cc cr W hT (by omega) (by omega) (by omega) h
    · exact joins_any a _ _ ss rs W hT hsm 0 0 ac ar cc cr rfl rfl hsc hsr (by omega)
  refine key.mono fun e W' ⟨he, hb⟩ => ?_
  subst he
  exact ⟨_, rfl, post_true laidOut (by kernel_rfl) rfl (by kernel_rfl) Tryd.underlying4 hW' hAk rfl rfl rfl hb⟩

theorem joins_row : Rows.ClassJoinsSaid :=
  OpenClaim.holds_of_wide 4 Tryd.f4 rfl rfl rfl rfl rfl rfl rfl ⟨rfl, rfl, rfl, rfl, rfl⟩ rfl rfl rfl rfl rfl (by kernel_rfl) Tryd.func4 (by kernel_rfl)
    (of_decide_eq_true (by kernel_rfl)) (by unfold Func.isWrapper; first | (rw [if_pos (by decide +kernel)]; kernel_rfl) | (rw [if_neg (by decide +kernel)]; exact ⟨rfl, rfl⟩))
    (fun os started H enc _ => joins_lifted os started H enc)

theorem classJoins_holds : Rows.ClassJoinsCardSaid :=
  Claim7.holds_tied_plain_at .later [] [.data] true (true, "f7015686e9058541d6ffcb66bfaab7ee964b200df1fe41ceaa7e52d262f9362b") false
    joins_row (fun _ h => by cases h) (by kernel_rfl) (fun _ h => by cases h) classJoins_row_tie rfl ⟨rfl, rfl⟩ (by kernel_rfl) rfl
    (fun f fn hf hfn => by
      obtain rfl : f = 4 := Option.some.inj ((show Tryd.prog.funcNamed "seedling/seedlinglaw01.ClassJoins" = some 4 by kernel_rfl).symm.trans hf) |>.symm
      obtain rfl : fn = Tryd.f4 := (Option.some.inj (Tryd.func4.symm.trans hfn)).symm
      exact ⟨by kernel_rfl, fun j t ht => by
        rw [Tryd.params4] at ht
        have hm : t ∈ [25, 41, 30] := by simpa using Array.mem_of_getElem? ht
        have hall : ([25, 41, 30].all fun u => !Tryd.prog.wantsStandIn u) = true := by kernel_rfl
        exact (show Tryd.prog.wantsStandIn t = false by simpa using List.all_eq_true.1 hall t hm)⟩)
    (by kernel_rfl)
#print axioms classJoins_holds
end Go.Proofs.YtcnikeeapillnaaDoor

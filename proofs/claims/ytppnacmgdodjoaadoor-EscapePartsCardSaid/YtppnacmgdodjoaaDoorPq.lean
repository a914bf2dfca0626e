/- WHAT IS PROVED: for any two rows of bytes and any two strings the law EscapeParts (what is written of the two rows together is what is written of each, one behind the other; what is read of the two strings together is what is read of each; if the first can not be read on, that place or a later one is told) returns true and changes nothing. CONDITIONS: five variables of the library read as their initialisers lay them, which the card ties to the program's text. -/
import Derived.Test.YtppnacmgdodjoaaDoorPa
import Derived.Test.YtppnacmgdodjoaaDoorLq
import Derived.Test.YtppnacmgdodjoaaDoorTie
import Derived.Test.YtppnacmgdodjoaaDoorCards
namespace Go.Proofs.YtppnacmgdodjoaaDoor
open Go Go.ChangeShapes Go.WideShapes Go.ChangeAt Go.RowKit

theorem laidOut6 : laidOutB Tryd.prog = true := by kernel_rfl
theorem door_met6 (os : Os) (args : Array Value) : laidMetH Tryd.prog laid5 ((World.doorLaid Tryd.prog 400 os).forCall (fun _ _ => 0) ⟨#[], args, []⟩).memory :=
  laidMetH_of_parts3 (fuel := 8) (laidMet_of_run' 8 (by kernel_rfl) (by kernel_rfl)) (by kernel_rfl) (by kernel_rfl)

set_option maxRecDepth 100000 in
theorem parts_lifted (os : Os) (started : os.Started) (H : Type) (enc : TypeId × Value → H) :
    ReturnsInHanded {} Tryd.checked os 6 .any (fun w args => (Rows.escapePartsSpec.pre enc Tryd.prog Tryd.f6 [] false w args ∧ laidMetH Tryd.prog laid5 w) ∧ sizedMet enc Tryd.prog Tryd.f6 (OpenSpec.ofChange Rows.escapePartsSpec) false w args)
      (Rows.escapePartsSpec.post enc Tryd.prog Tryd.f6 false true false false) := by
  refine returnsInHanded_of_change_and (C := Tryd.checked) (X := fun w _ => laidMetH Tryd.prog laid5 w) (fun _ _ _ hh h => h.of_heap hh) own started (by kernel_rfl) Tryd.func6
    (ChangeSpec.witness_shaped (enc := enc) (C := Tryd.checked) (os := os) (X := fun w _ => laidMetH Tryd.prog laid5 w) false (World.doorLaid Tryd.prog 400 os) #[.slice none 0 0, .slice none 0 0, .string ⟨#[]⟩, .string ⟨#[]⟩] 8 rfl (World.shaped_of_RefB (by kernel_rfl) (by kernel_rfl)) (by kernel_rfl) (by kernel_rfl) (by kernel_rfl) (door_met6 os _)) ?_
  intro W base args ds gs before hval0 hW _ hsz0 hL _
  have hsz : (DataW.weightsEach Tryd.prog (Tryd.f6.params.toList ++ Rows.escapePartsSpec.plain.varTypes Tryd.prog) (ds ++ gs)).all (· ≤ reachBytes) = true := hsz0
  have hval : ∀ (j : Nat) t v, Tryd.f6.params[j]? = some t → args[j]? = some v → Value.okWide Tryd.prog W .any base t v := hval0
  have hW' := hW
  obtain ⟨p, q, hA0, hV, rfl, hfz, hnd⟩ := hW
  have hA : DataW.TrodAll enc Tryd.prog W 0 (fun _ => true) true Tryd.f6.params.toList args.toList ds p := hA0
  have hAk := hA
  rw [Tryd.params6] at hA hval hsz
  obtain ⟨v0, v1, v2, v3, d0, d1, d2, d3, p0, p1, p2, p3, rfl, rfl, rfl, h0, h1, h2, h3⟩ := trodAll_four' hA
  obtain ⟨rfl, rfl⟩ := trodVars_none hV
  obtain ⟨A, l1, c, rfl, hnc, hlm, htx⟩ := open_text (hval 0 22 v0 rfl rfl) h0
  obtain ⟨B, l2, d, rfl, hnB, hlm2, htx2⟩ := open_text (hval 1 22 v1 rfl rfl) h1
  obtain ⟨s, rfl, rfl, rfl⟩ := open_str h2 (hval 2 9 v2 rfl rfl)
  obtain ⟨t, rfl, rfl, rfl⟩ := open_str h3 (hval 3 9 v3 rfl rfl)
  have hdat1 := slice_data Tryd.underlying22 h0
  have hdat2 := slice_data Tryd.underlying22 h1
  have w1 : l1.length ≤ 140737488351232 := by
    rcases hdat1 with h | ⟨es, sp, rfl, he⟩
    · omega
    · have h2 : (es.length + sp.length) * Tryd.prog.bytesOf 5 ≤ reachBytes := of_decide_eq_true (List.all_eq_true.1 hsz ((es.length + sp.length) * Tryd.prog.bytesOf 5) (by simp [DataW.weights, DataW.weightsEach, Tryd.underlying22]))
      rw [bytes5] at h2
      unfold reachBytes at h2
      omega
  have w2 : l2.length ≤ 140737488351232 := by
    rcases hdat2 with h | ⟨es, sp, rfl, he⟩
    · omega
    · have h2 : (es.length + sp.length) * Tryd.prog.bytesOf 5 ≤ reachBytes := of_decide_eq_true (List.all_eq_true.1 hsz ((es.length + sp.length) * Tryd.prog.bytesOf 5) (by simp [DataW.weights, DataW.weightsEach, Tryd.underlying22]))
      rw [bytes5] at h2
      unfold reachBytes at h2
      omega
  have w3 : s.size ≤ 140737488351232 := by
    have h2 := sized_string hsz (j := 2) (t := 9) rfl rfl
    unfold reachBytes at h2
    have e : s.data.toList.length = s.size := Array.length_toList
    omega
  have w4 : t.size ≤ 140737488351232 := by
    have h2 := sized_string hsz (j := 3) (t := 9) rfl rfl
    unfold reachBytes at h2
    have e : t.data.toList.length = t.size := Array.length_toList
    omega
  have hT := of_laid hL
  clear hA0 hval0
  simp only [List.append_nil] at hW' hAk
  have key : Calls Tryd.prog 6 #[.slice A l1.length c, .slice B l2.length d, .string s, .string t] W fun e w' => e = .returned (.bool true) ∧ Below W.heap.size W w' := by
    rcases Nat.lt_or_ge 1000 (l1.length + l2.length + s.size + t.size) with h | h
    · exact parts_long A B l1.length l2.length c d s t h w1 w2 w3 w4 W
    · exact parts_main A B l1 l2 c d hnc hnB s t _ _ (str_self s) (str_self t) h W hT htx htx2
  refine key.mono fun e W' ⟨he, hb⟩ => ?_
  subst he
  exact ⟨_, rfl, post_true laidOut6 (by kernel_rfl) rfl (by kernel_rfl) Tryd.underlying4 hW' hAk rfl rfl rfl hb⟩

theorem parts_row : Rows.EscapePartsSaid :=
  OpenClaim.holds_of_wide 6 Tryd.f6 rfl rfl rfl rfl rfl rfl rfl ⟨rfl, rfl, rfl, rfl, rfl⟩ rfl rfl rfl rfl rfl (by kernel_rfl) Tryd.func6 (by kernel_rfl)
    (of_decide_eq_true (by kernel_rfl)) (by unfold Func.isWrapper; first | (rw [if_pos (by decide +kernel)]; kernel_rfl) | (rw [if_neg (by decide +kernel)]; exact ⟨rfl, rfl⟩))
    (fun os started H enc _ => parts_lifted os started H enc)

theorem escapeParts_holds : Rows.EscapePartsCardSaid :=
  Claim7.holds_tied_plain_at .later [] [.data, .data, .data, .sentinel, .sentinel] true (true, "12854fb3fca13f70ca214bd0fecca3ec28dfe8216971d0cfc4a2e50eba8bfd8b") true
    parts_row (fun _ h => by cases h) (by kernel_rfl) (fun _ h => by cases h) escapeParts_row_tie rfl ⟨rfl, rfl⟩ (by kernel_rfl) rfl
    (fun f fn hf hfn => by
      obtain rfl : f = 6 := Option.some.inj ((show Tryd.prog.funcNamed Rows.escapePartsRow.func = some 6 by kernel_rfl).symm.trans hf) |>.symm
      obtain rfl : fn = Tryd.f6 := (Option.some.inj (Tryd.func6.symm.trans hfn)).symm
      exact ⟨by kernel_rfl, fun j t ht => by
        rw [Tryd.params6] at ht
        have hm : t ∈ [22, 22, 9, 9] := by simpa using Array.mem_of_getElem? ht
        have hall : ([22, 22, 9, 9].all fun u => !Tryd.prog.wantsStandIn u) = true := by kernel_rfl
        exact (show Tryd.prog.wantsStandIn t = false by simpa using List.all_eq_true.1 hall t hm)⟩)
    (by kernel_rfl)
#print axioms escapeParts_holds
end Go.Proofs.YtppnacmgdodjoaaDoor

/- WHAT IS PROVED: for any bytes, any string and either place the law EscapeBack (bytes that are written are read again the same; each byte of what is written may be seen, and what ends the place stands behind a backslash; what is read of the string, written, is no longer than it, and read again the same) returns true and changes nothing. CONDITIONS: five variables of the library read as their initialisers lay them, which the card ties to the program's text. -/
import Derived.Test.YtppnacmgdodjoaaDoorPa
import Derived.Test.YtppnacmgdodjoaaDoorLb
import Derived.Test.YtppnacmgdodjoaaDoorTie
import Derived.Test.YtppnacmgdodjoaaDoorCards
namespace Go.Proofs.YtppnacmgdodjoaaDoor
open Go Go.ChangeShapes Go.WideShapes Go.ChangeAt Go.RowKit

theorem laidOut5 : laidOutB Tryd.prog = true := by kernel_rfl
theorem door_met5 (os : Os) (args : Array Value) : laidMetH Tryd.prog laid5 ((World.doorLaid Tryd.prog 400 os).forCall (fun _ _ => 0) ⟨#[], args, []⟩).memory :=
  laidMetH_of_parts3 (fuel := 8) (laidMet_of_run' 8 (by kernel_rfl) (by kernel_rfl)) (by kernel_rfl) (by kernel_rfl)

set_option maxRecDepth 100000 in
theorem back_lifted (os : Os) (started : os.Started) (H : Type) (enc : TypeId × Value → H) :
    ReturnsInHanded {} Tryd.checked os 5 .any (fun w args => (Rows.escapeBackSpec.pre enc Tryd.prog Tryd.f5 [] false w args ∧ laidMetH Tryd.prog laid5 w) ∧ sizedMet enc Tryd.prog Tryd.f5 (OpenSpec.ofChange Rows.escapeBackSpec) false w args)
      (Rows.escapeBackSpec.post enc Tryd.prog Tryd.f5 false true false false) := by
  refine returnsInHanded_of_change_and (C := Tryd.checked) (X := fun w _ => laidMetH Tryd.prog laid5 w) (fun _ _ _ hh h => h.of_heap hh) own started (by kernel_rfl) Tryd.func5
    (ChangeSpec.witness_shaped (enc := enc) (C := Tryd.checked) (os := os) (X := fun w _ => laidMetH Tryd.prog laid5 w) false (World.doorLaid Tryd.prog 400 os) #[.slice none 0 0, .string ⟨#[]⟩, .bool false] 8 rfl (World.shaped_of_RefB (by kernel_rfl) (by kernel_rfl)) (by kernel_rfl) (by kernel_rfl) (by kernel_rfl) (door_met5 os _)) ?_
  intro W base args ds gs before hval0 hW _ hsz0 hL _
  have hsz : (DataW.weightsEach Tryd.prog (Tryd.f5.params.toList ++ Rows.escapeBackSpec.plain.varTypes Tryd.prog) (ds ++ gs)).all (· ≤ reachBytes) = true := hsz0
  have hval : ∀ (j : Nat) t v, Tryd.f5.params[j]? = some t → args[j]? = some v → Value.okWide Tryd.prog W .any base t v := hval0
  have hW' := hW
  obtain ⟨p, q, hA0, hV, rfl, hfz, hnd⟩ := hW
  have hA : DataW.TrodAll enc Tryd.prog W 0 (fun _ => true) true Tryd.f5.params.toList args.toList ds p := hA0
  have hAk := hA
  rw [Tryd.params5] at hA hval hsz
  obtain ⟨v0, v1, v2, d0, d1, d2, p0, p1, p2, rfl, rfl, rfl, h0, h1, h2⟩ := trodAll_three hA
  obtain ⟨rfl, rfl⟩ := trodVars_none hV
  obtain ⟨A, l1, c, rfl, hnc, hlm, htx⟩ := open_text (hval 0 22 v0 rfl rfl) h0
  obtain ⟨s, rfl, rfl, rfl⟩ := open_str h1 (hval 1 9 v1 rfl rfl)
  obtain ⟨y, rfl, rfl, rfl⟩ := open_bool Tryd.underlying4 (hval 2 4 v2 rfl rfl) h2
  have hdat := slice_data Tryd.underlying22 h0
  have w1 : l1.length ≤ 140737488351232 := by
    rcases hdat with h | ⟨es, sp, rfl, he⟩
    · omega
    · have h2 : (es.length + sp.length) * Tryd.prog.bytesOf 5 ≤ reachBytes := of_decide_eq_true (List.all_eq_true.1 hsz ((es.length + sp.length) * Tryd.prog.bytesOf 5) (by simp [DataW.weights, DataW.weightsEach, Tryd.underlying22]))
      rw [bytes5] at h2
      unfold reachBytes at h2
      omega
  have w2 : s.size ≤ 140737488351232 := by
    have h2 := sized_string hsz (j := 1) (t := 9) rfl rfl
    unfold reachBytes at h2
    have e : s.data.toList.length = s.size := Array.length_toList
    omega
  have hT := of_laid hL
  clear hA0 hval0
  simp only [List.append_nil] at hW' hAk
  have key : Calls Tryd.prog 5 #[.slice A l1.length c, .string s, .bool y] W fun e w' => e = .returned (.bool true) ∧ Below W.heap.size W w' := by
    rcases Nat.lt_or_ge 1000 (l1.length + s.size) with h | h
    · exact back_long A l1.length c s y h w1 w2 W
    · cases y with
      | false => exact back_false A l1 c s _ (str_self s) h W hT htx
      | true => exact back_true A l1 c s _ (str_self s) h W hT htx
  refine key.mono fun e W' ⟨he, hb⟩ => ?_
  subst he
  exact ⟨_, rfl, post_true laidOut5 (by kernel_rfl) rfl (by kernel_rfl) Tryd.underlying4 hW' hAk rfl rfl rfl hb⟩

theorem back_row : Rows.EscapeBackSaid :=
  OpenClaim.holds_of_wide 5 Tryd.f5 rfl rfl rfl rfl rfl rfl rfl ⟨rfl, rfl, rfl, rfl, rfl⟩ rfl rfl rfl rfl rfl (by kernel_rfl) Tryd.func5 (by kernel_rfl)
    (of_decide_eq_true (by kernel_rfl)) (by unfold Func.isWrapper; first | (rw [if_pos (by decide +kernel)]; kernel_rfl) | (rw [if_neg (by decide +kernel)]; exact ⟨rfl, rfl⟩))
    (fun os started H enc _ => back_lifted os started H enc)

theorem escapeBack_holds : Rows.EscapeBackCardSaid :=
  Claim7.holds_tied_plain_at .later [] [.data, .data, .data, .sentinel, .sentinel] true (true, "12854fb3fca13f70ca214bd0fecca3ec28dfe8216971d0cfc4a2e50eba8bfd8b") true
    back_row (fun _ h => by cases h) (by kernel_rfl) (fun _ h => by cases h) escapeBack_row_tie rfl ⟨rfl, rfl⟩ (by kernel_rfl) rfl
    (fun f fn hf hfn => by
      obtain rfl : f = 5 := Option.some.inj ((show Tryd.prog.funcNamed Rows.escapeBackRow.func = some 5 by kernel_rfl).symm.trans hf) |>.symm
      obtain rfl : fn = Tryd.f5 := (Option.some.inj (Tryd.func5.symm.trans hfn)).symm
      exact ⟨by kernel_rfl, fun j t ht => by
        rw [Tryd.params5] at ht
        have hm : t ∈ [22, 9, 4] := by simpa using Array.mem_of_getElem? ht
        have hall : ([22, 9, 4].all fun u => !Tryd.prog.wantsStandIn u) = true := by kernel_rfl
        exact (show Tryd.prog.wantsStandIn t = false by simpa using List.all_eq_true.1 hall t hm)⟩)
    (by kernel_rfl)
#print axioms escapeBack_holds
end Go.Proofs.YtppnacmgdodjoaaDoor

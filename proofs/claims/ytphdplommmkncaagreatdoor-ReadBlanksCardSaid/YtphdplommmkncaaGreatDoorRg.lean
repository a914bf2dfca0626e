/- WHAT IS PROVED: for any two strings and any number the law ReadBlanks (a text's words with other gaps of blanks and remarks between them are read as the same grammar, or are none for the same reason; of two texts that are read, one behind the other, the rules of both are read, those of the second with their bodies behind all nodes of the first) returns true and changes nothing. CONDITIONS: five variables of the library read as their initialisers lay them, which the card ties to the program's text. -/
import Derived.Test.YtphdplommmkncaaGreatDoorH4
import Derived.Test.YtphdplommmkncaaGreatDoorH6
import Derived.Test.YtphdplommmkncaaGreatDoorTie
import Derived.Test.YtphdplommmkncaaGreatDoorCards
set_option linter.unusedSimpArgs false
set_option linter.unusedVariables false
namespace Go.Proofs.YtphdplommmkncaaGreatDoor
open Go Go.ChangeShapes Go.WideShapes Go.ChangeAt Go.RowKit

theorem blanks_true (s t : ByteArray) (k : Int) (hk : -9223372036854775808 ≤ k ∧ k < 9223372036854775808) (w : World) (hT : Tab w) :
    Calls Tryz.prog 6 #[.string s, .string t, .int .i64 k] w fun e w' => e = .returned (.bool true) ∧ Below w.heap.size w w' := by
  by_cases h : 1000 < s.size ∨ 1000 < t.size
  · exact blanks_long s t k h w hT
  · have hs := str_self s
    have ht := str_self t
    have hz := hs.size
    have hzt := ht.size
    obtain ⟨N, hNl, hN, hNb⟩ := ends hs.lt
    obtain ⟨M, hMl, hM, hMb⟩ := ends ht.lt
    cases ho : ow (s.data.toList.map UInt8.toNat) N with
    | none => exact blanks_no s t _ _ hs ht (by omega) (by omega) k hk N hN hNl hNb ho w hT
    | some y =>
      have ho' : ow (s.data.toList.map UInt8.toNat) N ≠ none := by rw [ho]; simp
      cases hr : trd (s.data.toList.map UInt8.toNat) N with
      | no er j => exact blanks_er s t _ _ hs ht (by omega) (by omega) k hk N hN hNl hNb ho' er j (trd_er hs.lt (by omega) hN hNl hNb ho' hr) hr w hT
      | ok us j =>
        by_cases hb : ow (t.data.toList.map UInt8.toNat) M = none ∨ ∃ er j, trd (t.data.toList.map UInt8.toNat) M = .no er j
        · obtain ⟨er, a, h1, h2, h3⟩ := text_no M t _ ht (by omega) hM hMl hMb hb
          exact blanks_ob s t _ _ hs ht (by omega) (by omega) k hk N hN hNl hNb ho' hr er a h1 h3 w hT
        · have hob : ow (t.data.toList.map UInt8.toNat) M ≠ none := fun e => hb (.inl e)
          cases hv : trd (t.data.toList.map UInt8.toNat) M with
          | no er j => exact absurd (.inr ⟨er, j, hv⟩) hb
          | ok vs jv => exact blanks_ok s t _ _ hs ht (by omega) (by omega) k hk N hN hNl hNb ho' hr M hM hMl hMb hob hv w hT

theorem laidOutB1 : laidOutB Tryz.prog = true := by kernel_rfl
theorem door_metB (os : Os) (args : Array Value) : laidMetH Tryz.prog laid5 ((World.doorLaid Tryz.prog 400 os).forCall (fun _ _ => 0) ⟨#[], args, []⟩).memory :=
  laidMetH_of_parts3 (fuel := 8) (laidMet_of_run' 8 (by kernel_rfl) (by kernel_rfl)) (by kernel_rfl) (by kernel_rfl)

set_option maxRecDepth 100000 in
theorem blanks_lifted (os : Os) (started : os.Started) (H : Type) (enc : TypeId × Value → H) :
    ReturnsInHanded {} Tryz.checked os 6 .any (fun w args => (Rows.readBlanksSpec.pre enc Tryz.prog Tryz.f6 [] false w args ∧ laidMetH Tryz.prog laid5 w) ∧ sizedMet enc Tryz.prog Tryz.f6 (OpenSpec.ofChange Rows.readBlanksSpec) false w args)
      (Rows.readBlanksSpec.post enc Tryz.prog Tryz.f6 false true false false) := by
  refine returnsInHanded_of_change_and (C := Tryz.checked) (X := fun w _ => laidMetH Tryz.prog laid5 w) (fun _ _ _ hh h => h.of_heap hh) own started (by kernel_rfl) Tryz.func6
    (ChangeSpec.witness_shaped (enc := enc) (C := Tryz.checked) (os := os) (X := fun w _ => laidMetH Tryz.prog laid5 w) false (World.doorLaid Tryz.prog 400 os) #[.string ⟨#[]⟩, .string ⟨#[]⟩, .int .i64 0] 8 rfl (World.shaped_of_RefB (by kernel_rfl) (by kernel_rfl)) (by kernel_rfl) (by kernel_rfl) (by kernel_rfl) (door_metB os _)) ?_
  intro W base args ds gs before hval0 hW _ _ hL _
  have hval : ∀ (j : Nat) t v, Tryz.f6.params[j]? = some t → args[j]? = some v → Value.okWide Tryz.prog W .any base t v := hval0
  have hW' := hW
  obtain ⟨p, q, hA0, hV, rfl, hfz, hnd⟩ := hW
  have hA : DataW.TrodAll enc Tryz.prog W 0 (fun _ => true) true Tryz.f6.params.toList args.toList ds p := hA0
  have hAk := hA
  rw [Tryz.params6] at hA hval
  obtain ⟨v0, v1, v2, d0, d1, d2, p0, p1, p2, rfl, rfl, rfl, h0, h1, h2⟩ := trodAll_three hA
  obtain ⟨rfl, rfl⟩ := trodVars_none hV
  obtain ⟨s, rfl, rfl, rfl⟩ := open_str h0 (hval 0 9 v0 rfl rfl)
  obtain ⟨t, rfl, rfl, rfl⟩ := open_str h1 (hval 1 9 v1 rfl rfl)
  obtain ⟨x, rfl, rfl, rfl, wx⟩ := open_int Tryz.underlying3 (hval 2 3 v2 rfl rfl) h2
  have bx := bounds_i64 wx
  have hT := of_laid hL
  clear hA0 hval0
  simp only [List.append_nil] at hW' hAk
  refine (blanks_true s t x (by omega) W hT).mono fun e W' ⟨he, hb⟩ => ?_
  subst he
  exact ⟨_, rfl, post_true laidOutB1 (by kernel_rfl) rfl (by kernel_rfl) Tryz.underlying4 hW' hAk rfl rfl rfl hb⟩

theorem blanks_row : Rows.ReadBlanksSaid :=
  OpenClaim.holds_of_wide 6 Tryz.f6 rfl rfl rfl rfl rfl rfl rfl ⟨rfl, rfl, rfl, rfl, rfl⟩ rfl rfl rfl rfl rfl (by kernel_rfl) Tryz.func6 (by kernel_rfl)
    (of_decide_eq_true (by kernel_rfl)) (by unfold Func.isWrapper; first | (rw [if_pos (by decide +kernel)]; kernel_rfl) | (rw [if_neg (by decide +kernel)]; exact ⟨rfl, rfl⟩))
    (fun os started H enc _ => blanks_lifted os started H enc)

theorem readBlanks_holds : Rows.ReadBlanksCardSaid :=
  Claim7.holds_tied_plain_at .later [] [.data, .data, .data, .sentinel, .sentinel] true (true, "4a9bec332908d1476f4582600ebdfa439bbecb44800ad60fa2f4b84608c89abe") true
    blanks_row (fun _ h => by cases h) (by kernel_rfl) (fun _ h => by cases h) readBlanks_row_tie rfl ⟨rfl, rfl⟩ (by kernel_rfl) rfl
    (fun f fn hf hfn => by
      obtain rfl : f = 6 := Option.some.inj ((show Tryz.prog.funcNamed Rows.readBlanksRow.func = some 6 by kernel_rfl).symm.trans hf) |>.symm
      obtain rfl : fn = Tryz.f6 := (Option.some.inj (Tryz.func6.symm.trans hfn)).symm
      exact ⟨by kernel_rfl, fun j t ht => by
        rw [Tryz.params6] at ht
        have hm : t ∈ [9, 9, 3] := by simpa using Array.mem_of_getElem? ht
        have hall : ([9, 9, 3].all fun u => !Tryz.prog.wantsStandIn u) = true := by kernel_rfl
        exact (show Tryz.prog.wantsStandIn t = false by simpa using List.all_eq_true.1 hall t hm)⟩)
    (by kernel_rfl)
#print axioms readBlanks_holds
end Go.Proofs.YtphdplommmkncaaGreatDoor

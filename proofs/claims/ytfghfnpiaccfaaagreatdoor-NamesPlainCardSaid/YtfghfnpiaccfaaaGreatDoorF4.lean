/- The law of names alone, of any text; at the door. -/
import Derived.Test.YtfghfnpiaccfaaaGreatDoorK0
import Derived.Test.YtfghfnpiaccfaaaGreatDoorF3
set_option linter.unusedSimpArgs false
set_option linter.unusedVariables false
namespace Go.Proofs.YtfghfnpiaccfaaaGreatDoor.J
open Go Go.ChangeShapes Go.WideShapes Go.ChangeAt Go.RowKit Go.Joins Go.Deep
theorem text_no2 (N : Nat) (s : ByteArray) (l : List Nat) (hs : Str s l) (hl : l.length ≤ 16384) (hN : stp l N = true) (hNl : N ≤ l.length) (hNb : ∀ j, j < N → stp l j = false) (h : ow l N = none ∨ ∃ er j, trd l N = .no er j) :
    ∃ (er : Int) (a : Nat), (er = 3 ∨ er = 7) ∧ a ≤ l.length ∧ ∀ W, Tab W → Calls Tryz.prog 15 #[.string s] W fun e w' => Below W.heap.size W w' ∧ e = .returned (.tuple #[.agg z5, dgv er a]) := by
  by_cases ho : ow l N = none
  · refine ⟨7, beg l N, .inr rfl, beg_le hs.lt N, fun W hW => (text3 N s l hs hl hN hNl hNb W hW).mono fun e w' h => ?_⟩
    obtain ⟨hb, ⟨h1, h2⟩ | ⟨er, j, h1, _⟩ | ⟨us', j', t, h1, _⟩⟩ := h
    · exact ⟨hb, h2⟩
    · exact absurd ho h1
    · exact absurd ho h1
  · obtain ⟨er, j, he⟩ : ∃ er j, trd l N = .no er j := by rcases h with h | h; exact absurd h ho; exact h
    refine ⟨er, beg l j, trd_er hs.lt hl hN hNl hNb ho he, beg_le hs.lt j, fun W hW => (text3 N s l hs hl hN hNl hNb W hW).mono fun e w' h => ?_⟩
    obtain ⟨hb, ⟨h1, h2⟩ | ⟨er', j', h1, h2, _, h3⟩ | ⟨us', j', t, h1, h2, _⟩⟩ := h
    · exact absurd h1 ho
    · rw [he] at h2; cases h2; exact ⟨hb, h3⟩
    · rw [he] at h2; cases h2
theorem plain_law (s wd : ByteArray) (by_ : Int) (hby : -9223372036854775808 ≤ by_ ∧ by_ < 9223372036854775808) (hwd : wd.size ≤ 9223372036854775807) (w : World) (hT : Tab w) :
    Calls Tryz.prog 9 #[.string s, .string wd, .int .i64 by_] w fun e w' => e = .returned (.bool true) ∧ Below w.heap.size w w' := by
  rcases Nat.lt_or_ge 1000 s.size with h | h
  · exact plain_long s wd by_ h w hT
  · have hs := str_self s
    have hz := hs.size
    obtain ⟨N, hNl, hN, hNb⟩ := ends hs.lt
    by_cases hb : ow (s.data.toList.map UInt8.toNat) N = none ∨ ∃ er j, trd (s.data.toList.map UInt8.toNat) N = .no er j
    · obtain ⟨er, a, h1, h2, h3⟩ := text_no2 N s _ hs (by omega) hN hNl hNb hb
      exact plain_bad s wd by_ er a h (by omega) h3 w hT
    · have ho : ow (s.data.toList.map UInt8.toNat) N ≠ none := fun e => hb (.inl e)
      cases ht : trd (s.data.toList.map UInt8.toNat) N with
      | no er j => exact absurd (.inr ⟨er, j, ht⟩) hb
      | ok us j => exact plain_yes N s _ hs h hN hNl hNb ho ht wd by_ hby hwd w hT
section
variable {H : Type} {enc : TypeId × Value → H} {P : Program}
theorem trodAll_threeP {w : World} {base : Nat} {spare : Nat → Bool} {held : Bool} {t t' t'' : TypeId} {args : Array Value} {ds : List (DataW H)} {ps : List MemPlace} (h : DataW.TrodAll enc P w base spare held [t, t', t''] args.toList ds ps) :
    ∃ v v' v'' d d' d'' p p' p'', args = #[v, v', v''] ∧ ds = [d, d', d''] ∧ ps = p ++ (p' ++ p'') ∧ DataW.Trod enc P w base spare held t v d p ∧ DataW.Trod enc P w base spare held t' v' d' p' ∧ DataW.Trod enc P w base spare held t'' v'' d'' p'' := by
  obtain ⟨v, vs, d, ds1, p, q, hargs, rfl, rfl, h0, hr⟩ := trodAll_cons h
  obtain ⟨v', vs1, d', ds2, p', q', rfl, rfl, rfl, h1, hr1⟩ := trodAll_cons hr
  obtain ⟨v'', vs2, d'', ds3, p'', q'', rfl, rfl, rfl, h2, hr2⟩ := trodAll_cons hr1
  obtain ⟨rfl, rfl, rfl⟩ := trodAll_nil hr2
  exact ⟨v, v', v'', d, d', d'', p, p', p'', by cases args; simp_all, rfl, by simp, h0, h1, h2⟩
end
theorem str_bound {H : Type} {enc : TypeId × Value → H} {W : World} {s : ByteArray} {d : DataW H} {p : List MemPlace} (h0 : DataW.Trod enc Tryz.prog W 0 (fun _ => true) true 9 (.string s) d p) : s.size ≤ 9223372036854775807 := by
  obtain ⟨fuel, hf⟩ := h0
  obtain ⟨s', e, _, hs⟩ := DataW.trod_string Tryz.underlying9 hf
  simp [Value.cells] at e
  subst e
  unfold maxLen at hs
  exact hs
theorem door_metQ (os : Os) (args : Array Value) : laidMetH Tryz.prog laid5 ((World.doorLaid Tryz.prog 400 os).forCall (fun _ _ => 0) ⟨#[], args, []⟩).memory :=
  laidMetH_of_parts3 (fuel := 8) (laidMet_of_run' 8 (by kernel_rfl) (by kernel_rfl)) (by kernel_rfl) (by kernel_rfl)
set_option maxRecDepth 100000 in
theorem plain_lifted (os : Os) (started : os.Started) (H : Type) (enc : TypeId × Value → H) :
    ReturnsInHanded {} Tryz.checked os 9 .any (fun w args => (Rows.namesPlainSpec.pre enc Tryz.prog Tryz.f9 [] false w args ∧ laidMetH Tryz.prog laid5 w) ∧ sizedMet enc Tryz.prog Tryz.f9 (OpenSpec.ofChange Rows.namesPlainSpec) false w args)
      (Rows.namesPlainSpec.post enc Tryz.prog Tryz.f9 false true false false) := by
  refine returnsInHanded_of_change_and (C := Tryz.checked) (X := fun w _ => laidMetH Tryz.prog laid5 w) (fun _ _ _ hh h => h.of_heap hh) own started (by kernel_rfl) Tryz.func9
    (ChangeSpec.witness_shaped (enc := enc) (C := Tryz.checked) (os := os) (X := fun w _ => laidMetH Tryz.prog laid5 w) false (World.doorLaid Tryz.prog 400 os) #[.string ⟨#[]⟩, .string ⟨#[]⟩, .int .i64 0] 8 rfl (World.shaped_of_RefB (by kernel_rfl) (by kernel_rfl)) (by kernel_rfl) (by kernel_rfl) (by kernel_rfl) (door_metQ os _)) ?_
  intro W base args ds gs before hval0 hW _ _ hL _
  have hval : ∀ (j : Nat) t v, Tryz.f9.params[j]? = some t → args[j]? = some v → Value.okWide Tryz.prog W .any base t v := hval0
  have hW' := hW
  obtain ⟨p, q, hA0, hV, rfl, hfz, hnd⟩ := hW
  have hA : DataW.TrodAll enc Tryz.prog W 0 (fun _ => true) true Tryz.f9.params.toList args.toList ds p := hA0
  have hAk := hA
  rw [Tryz.params9] at hA hval
  obtain ⟨v0, v1, v2, d0, d1, d2, p0, p1, p2, rfl, rfl, rfl, h0, h1, h2⟩ := trodAll_threeP hA
  obtain ⟨rfl, rfl⟩ := trodVars_none hV
  have hv1 := hval 1 9 v1 rfl rfl
  obtain ⟨s, rfl, rfl, rfl⟩ := open_str h0 (hval 0 9 v0 rfl rfl)
  have h1' := h1
  obtain ⟨wd, rfl, rfl, rfl⟩ := open_str h1 hv1
  obtain ⟨a, rfl, rfl, rfl, wa⟩ := open_int Tryz.underlying3 (hval 2 3 v2 rfl rfl) h2
  have ba := int_of_wf wa
  have hT := of_laid hL
  clear hA0 hval0
  simp only [List.append_nil] at hW' hAk
  refine (plain_law s wd a ba (str_bound h1') W hT).mono fun e W' ⟨he, hb⟩ => ?_
  subst he
  exact ⟨_, rfl, post_true laidOut (by kernel_rfl) rfl (by kernel_rfl) Tryz.underlying4 hW' hAk rfl rfl rfl hb⟩
end Go.Proofs.YtfghfnpiaccfaaaGreatDoor.J

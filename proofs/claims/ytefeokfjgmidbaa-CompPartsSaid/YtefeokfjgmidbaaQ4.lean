/- WHAT IS PROVED: for any graph and two numbers the law CompParts (THE STAGE'S THEOREM: of a right graph each number is in just one part, two are together just if each leads on to the other, who leads to a number of another part leads to one ahead in the order, a part that could have stood sooner has a greater least number than all from there up to it; of a wrong one, or of nothing, there are no parts) returns true and changes nothing. CONDITIONS: none. -/
import Derived.Test.YtefeokfjgmidbaaQ1
import Derived.Test.YtefeokfjgmidbaaL10
import Derived.Test.YtefeokfjgmidbaaRows
set_option linter.unusedSimpArgs false
set_option linter.unusedVariables false
namespace Go.Proofs.Ytefeokfjgmidbaa
open Go Go.ChangeShapes Go.WideShapes Go.ChangeAt Go.RowKit
theorem cparts_walk (A : Option Addr) (c : Nat) (vs : List Value) (L : List (List Int)) (a b : Int) (ha : -9223372036854775808 ≤ a ∧ a < 9223372036854775808) (hb : -9223372036854775808 ≤ b ∧ b < 9223372036854775808) (w : World) (hA : Gph w A vs L) :
    Calls Try.prog 3 #[.slice A L.length c, .int .i64 a, .int .i64 b] w fun e w' => e = .returned (.bool true) ∧ Below w.heap.size w w' := by
  cases er : rightL L with
  | false => exact cparts_no A c _ vs L rfl false er.symm (.inl rfl) a b w hA
  | true =>
    obtain ⟨G, hR, rfl⟩ := right_graph er
    by_cases h0 : G.length = 0
    · exact cparts_no A c _ vs _ rfl true er.symm (.inr (by simpa using h0)) a b w hA
    · rw [List.length_map]
      exact cparts_any A c _ vs G rfl hR (by omega) a b ha hb w hA
set_option maxRecDepth 100000 in
theorem cparts_lifted (os : Os) (started : os.Started) (H : Type) (enc : TypeId × Value → H) :
    ReturnsInHanded {} Try.checked os 3 .any (Rows.compPartsSpec.pre6 enc Try.prog Try.f3 Rows.compPartsRow.domain false) (Rows.compPartsSpec.post enc Try.prog Try.f3 false true false false) := by
  refine returnsInHanded_of_change_sized (C := Try.checked) own started (by kernel_rfl) Try.func3
    (ChangeSpec.witness6 (enc := enc) (C := Try.checked) false ⟨#[], #[.slice none 0 0, .int .i64 0, .int .i64 0], []⟩ 8 (by kernel_rfl) (by kernel_rfl) (by kernel_rfl) (by kernel_rfl)) ?_
  intro W base args ds gs before hval0 hW _ hsz0 _
  have hsz : (DataW.weightsEach Try.prog (Try.f3.params.toList ++ Rows.compPartsSpec.plain.varTypes Try.prog) (ds ++ gs)).all (· ≤ reachBytes) = true := hsz0
  have hval : ∀ (j : Nat) t v, Try.f3.params[j]? = some t → args[j]? = some v → Value.okWide Try.prog W .any base t v := hval0
  have hW' := hW
  obtain ⟨p, q, hA0, hV, rfl, _, _⟩ := hW
  have hA : DataW.TrodAll enc Try.prog W 0 (fun _ => true) true Try.f3.params.toList args.toList ds p := hA0
  have hAk := hA
  rw [Try.params3] at hA hval hsz
  obtain ⟨v0, v1, v2, d0, d1, d2, p0, p1, p2, rfl, rfl, rfl, h0, h1, h2⟩ := trodAll_threes hA
  obtain ⟨rfl, rfl⟩ := trodVars_none hV
  have hw : ∀ n ∈ d0.weights Try.prog 22, n ≤ reachBytes := fun n hn =>
    of_decide_eq_true (List.all_eq_true.1 hsz n (by simp [DataW.weightsEach]; exact .inl hn))
  obtain ⟨A, c, vs, L, rfl, hg⟩ := open_rows (hval 0 22 v0 rfl rfl) h0 hw
  obtain ⟨n, rfl, rfl, rfl, wn⟩ := open_int Try.underlying3 (hval 1 3 v1 rfl rfl) h1
  obtain ⟨n2, rfl, rfl, rfl, wn2⟩ := open_int Try.underlying3 (hval 2 3 v2 rfl rfl) h2
  have bn := int_of_wf wn
  have bn2 := int_of_wf wn2
  clear hA0 hval0
  simp only [List.append_nil] at hW' hAk
  refine (cparts_walk A c vs L n n2 bn bn2 W hg).mono fun e W' ⟨he, hb⟩ => ?_
  subst he
  exact ⟨_, rfl, post_true laidOut (by kernel_rfl) rfl (by kernel_rfl) Try.underlying4 hW' hAk rfl rfl rfl hb⟩

theorem compParts_holds : Rows.CompPartsSaid :=
  OpenClaim.holds_of_wide 3 Try.f3 rfl rfl rfl rfl rfl rfl rfl ⟨rfl, rfl, rfl, rfl, rfl⟩ rfl rfl rfl rfl rfl (by kernel_rfl) Try.func3 (by kernel_rfl)
    (of_decide_eq_true (by kernel_rfl)) (by unfold Func.isWrapper; first | (rw [if_pos (by decide +kernel)]; kernel_rfl) | (rw [if_neg (by decide +kernel)]; exact ⟨rfl, rfl⟩))
    (fun os started H enc _ => cparts_lifted os started H enc)
#print axioms compParts_holds
end Go.Proofs.Ytefeokfjgmidbaa

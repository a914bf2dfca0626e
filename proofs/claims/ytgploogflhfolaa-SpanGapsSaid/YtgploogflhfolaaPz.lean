/- WHAT IS PROVED: for any span, any spans and one span more the law SpanGaps (each place of a span is in just one of its gaps, if it is in none of the spans, else in none; gaps rise, none is empty, no two touch; with one span more no place comes into a gap) returns true and changes nothing. CONDITIONS: none. -/
import Derived.Test.YtgploogflhfolaaPa
import Derived.Test.YtgploogflhfolaaLd
namespace Go.Proofs.Ytgploogflhfolaa
open Go Go.ChangeShapes Go.WideShapes Go.ChangeAt Go.RowKit

set_option maxRecDepth 100000 in
theorem gaps_lifted (os : Os) (started : os.Started) (H : Type) (enc : TypeId × Value → H) :
    ReturnsInHanded {} Try.checked os 6 .any (Rows.spanGapsSpec.pre6 enc Try.prog Try.f6 Rows.spanGapsRow.domain false) (Rows.spanGapsSpec.post enc Try.prog Try.f6 false true false false) := by
  refine returnsInHanded_of_change (C := Try.checked) own started (by kernel_rfl) Try.func6
    (ChangeSpec.witness6 (enc := enc) (C := Try.checked) false ⟨#[], #[.agg #[.int .i64 0, .int .i64 0], .slice none 0 0, .agg #[.int .i64 0, .int .i64 0]], []⟩ 8 (by kernel_rfl) (by kernel_rfl) (by kernel_rfl) (by kernel_rfl)) ?_
  intro W base args ds gs before hval0 hW _ _
  have hval : ∀ (j : Nat) t v, Try.f6.params[j]? = some t → args[j]? = some v → Value.okWide Try.prog W .any base t v := hval0
  have hW' := hW
  obtain ⟨p, q, hA0, hV, rfl, _, _⟩ := hW
  have hA : DataW.TrodAll enc Try.prog W 0 (fun _ => true) true Try.f6.params.toList args.toList ds p := hA0
  have hAk := hA
  rw [Try.params6] at hA hval
  obtain ⟨v0, v1, v2, d0, d1, d2, p0, p1, p2, rfl, rfl, rfl, h0, h1, h2⟩ := trodAll_three hA
  obtain ⟨rfl, rfl⟩ := trodVars_none hV
  obtain ⟨a, rfl, ha⟩ := open_span (hval 0 23 v0 rfl rfl) h0
  obtain ⟨A, l, c, rfl, hnc, hlm, hr, hsp⟩ := open_spans (hval 1 32 v1 rfl rfl) h1
  obtain ⟨b, rfl, hb⟩ := open_span (hval 2 23 v2 rfl rfl) h2
  clear hA0 hval0
  simp only [List.append_nil] at hW' hAk
  have key : Calls Try.prog 6 #[.agg #[.int .i64 a.1, .int .i64 a.2], .slice A l.length c, .agg #[.int .i64 b.1, .int .i64 b.2]] W fun e w' => e = .returned (.bool true) ∧ Below W.heap.size W w' := by
    rcases Nat.lt_or_ge 60 l.length with h | h
    · exact gl_long a.1 a.2 b.1 b.2 A l.length c h (by unfold maxLen at hlm; omega) W
    · by_cases hx : a.1 < 0 ∨ 1099511627776 < a.1 ∨ 200 < ln a.1 a.2
      · exact gl_off a.1 a.2 b.1 b.2 ha.2.2.2 A l.length c h hx W
      · exact gl_main a.1 a.2 b.1 b.2 ha hb A l c h hr hnc (by omega) (by omega) (by omega) W hsp
  refine key.mono fun e W' ⟨he, hb⟩ => ?_
  subst he
  exact ⟨_, rfl, post_true laidOut (by kernel_rfl) rfl (by kernel_rfl) Try.underlying4 hW' hAk rfl rfl rfl hb⟩

theorem spanGaps_holds : Rows.SpanGapsSaid :=
  OpenClaim.holds_of_wide 6 Try.f6 rfl rfl rfl rfl rfl rfl rfl ⟨rfl, rfl, rfl, rfl, rfl⟩ rfl rfl rfl rfl rfl (by kernel_rfl) Try.func6 (by kernel_rfl)
    (of_decide_eq_true (by kernel_rfl)) (by unfold Func.isWrapper; first | (rw [if_pos (by decide +kernel)]; kernel_rfl) | (rw [if_neg (by decide +kernel)]; exact ⟨rfl, rfl⟩))
    (fun os started H enc _ => gaps_lifted os started H enc)
#print axioms spanGaps_holds
end Go.Proofs.Ytgploogflhfolaa

/- WHAT IS PROVED: for any three spans and any text the law SpanRules (In is an order among right spans, Less a strict one; the Join of two holds both, their Meet is held by both, and where one span is in the other Meet is the one and Join the other; Cut is just so long as Len says, says ok just where the span lies in the text, and the Cut of a span in another is the same bytes of that one's Cut) returns true and changes nothing. CONDITIONS: none. -/
import Derived.Test.YtgploogflhfolaaPa
import Derived.Test.YtgploogflhfolaaLr
namespace Go.Proofs.Ytgploogflhfolaa
open Go Go.ChangeShapes Go.WideShapes Go.ChangeAt Go.RowKit
/-- A slice of bytes that came in, with its room. -/
theorem open_text {H : Type} {enc : TypeId × Value → H} {W : World} {b0 : Nat} {v : Value} {d : DataW H} {p : List MemPlace}
    (hv : Value.okWide Try.prog W .any b0 33 v) (h0 : DataW.Trod enc Try.prog W 0 (fun _ => true) true 33 v d p) :
    ∃ (A : Option Addr) (l : List Nat) (c : Nat), v = .slice A l.length c ∧ (A = none → c = 0) ∧ l.length ≤ c ∧ c ≤ maxLen ∧ Txt W A l := by
  obtain ⟨A, l, c, rfl, h1, h2, h3, h4⟩ := open_txt (e := 5) Try.underlying33 Try.underlying5 cells5 hv h0
  refine ⟨A, l, c, rfl, h1, ?_, ?_, h3, h4⟩
  all_goals
    obtain ⟨fuel, hf⟩ := h0
    rcases open_ints Try.underlying33 Try.underlying5 cells5 hf with ⟨hcs, hx⟩ | ⟨a, len', cap', zs, hcs, _, hl, hm, _⟩
    · simp [Value.cells] at hcs
      obtain ⟨_, hl, rfl⟩ := hcs
      simp [hl]
    · simp [Value.cells] at hcs
      obtain ⟨_, e, rfl⟩ := hcs
      omega

set_option maxRecDepth 100000 in
theorem rules_lifted (os : Os) (started : os.Started) (H : Type) (enc : TypeId × Value → H) :
    ReturnsInHanded {} Try.checked os 7 .any (Rows.spanRulesSpec.pre6 enc Try.prog Try.f7 Rows.spanRulesRow.domain false) (Rows.spanRulesSpec.post enc Try.prog Try.f7 false true false false) := by
  refine returnsInHanded_of_change (C := Try.checked) own started (by kernel_rfl) Try.func7
    (ChangeSpec.witness6 (enc := enc) (C := Try.checked) false ⟨#[], #[.agg #[.int .i64 0, .int .i64 0], .agg #[.int .i64 0, .int .i64 0], .agg #[.int .i64 0, .int .i64 0], .slice none 0 0], []⟩ 8 (by kernel_rfl) (by kernel_rfl) (by kernel_rfl) (by kernel_rfl)) ?_
  intro W base args ds gs before hval0 hW _ _
  have hval : ∀ (j : Nat) t v, Try.f7.params[j]? = some t → args[j]? = some v → Value.okWide Try.prog W .any base t v := hval0
  have hW' := hW
  obtain ⟨p, q, hA0, hV, rfl, _, _⟩ := hW
  have hA : DataW.TrodAll enc Try.prog W 0 (fun _ => true) true Try.f7.params.toList args.toList ds p := hA0
  have hAk := hA
  rw [Try.params7] at hA hval
  obtain ⟨v0, v1, v2, v3, d0, d1, d2, d3, p0, p1, p2, p3, rfl, rfl, rfl, h0, h1, h2, h3⟩ := Go.RowKit.trodAll_four hA
  obtain ⟨rfl, rfl⟩ := trodVars_none hV
  obtain ⟨a, rfl, ha⟩ := open_span (hval 0 23 v0 rfl rfl) h0
  obtain ⟨b, rfl, hb⟩ := open_span (hval 1 23 v1 rfl rfl) h1
  obtain ⟨c, rfl, _⟩ := open_span (hval 2 23 v2 rfl rfl) h2
  obtain ⟨A, l, cp, rfl, hnc, hlc, hcm, hT⟩ := open_text (hval 3 33 v3 rfl rfl) h3
  clear hA0 hval0
  simp only [List.append_nil] at hW' hAk
  have key : Calls Try.prog 7 #[.agg #[.int .i64 a.1, .int .i64 a.2], .agg #[.int .i64 b.1, .int .i64 b.2], .agg #[.int .i64 c.1, .int .i64 c.2], .slice A l.length cp] W fun e w' => e = .returned (.bool true) ∧ Below W.heap.size W w' := by
    rcases Nat.lt_or_ge 300 l.length with h | h
    · exact rules_long a.1 a.2 b.1 b.2 c.1 c.2 A l.length cp h (by unfold maxLen at hcm; omega) W
    · exact rules_main a.1 a.2 b.1 b.2 c.1 c.2 ha hb A l cp h hlc (by unfold maxLen at hcm; omega) hnc W hT
  refine key.mono fun e W' ⟨he, hb⟩ => ?_
  subst he
  exact ⟨_, rfl, post_true laidOut (by kernel_rfl) rfl (by kernel_rfl) Try.underlying4 hW' hAk rfl rfl rfl hb⟩

theorem spanRules_holds : Rows.SpanRulesSaid :=
  OpenClaim.holds_of_wide 7 Try.f7 rfl rfl rfl rfl rfl rfl rfl ⟨rfl, rfl, rfl, rfl, rfl⟩ rfl rfl rfl rfl rfl (by kernel_rfl) Try.func7 (by kernel_rfl)
    (of_decide_eq_true (by kernel_rfl)) (by unfold Func.isWrapper; first | (rw [if_pos (by decide +kernel)]; kernel_rfl) | (rw [if_neg (by decide +kernel)]; exact ⟨rfl, rfl⟩))
    (fun os started H enc _ => rules_lifted os started H enc)
#print axioms spanRules_holds
end Go.Proofs.Ytgploogflhfolaa

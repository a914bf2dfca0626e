/- WHAT IS PROVED: for any span, any spans and any text the law SpanRows (the gaps that spans leave of a span, their Join, whether they are Nested, a span's Cut of a text or the error, are what the document tells; all stays, and what is told may be written over) returns true and changes nothing. CONDITIONS: none. -/
import Derived.Test.YtgploogflhfolaaPa
import Derived.Test.YtgploogflhfolaaLs
import Derived.SizedLaws
namespace Go.Proofs.Ytgploogflhfolaa
open Go Go.ChangeShapes Go.WideShapes Go.ChangeAt Go.RowKit
/-- A slice of bytes that came in, with its room. -/
theorem open_text {H : Type} {enc : TypeId × Value → H} {W : World} {b0 : Nat} {v : Value} {d : DataW H} {p : List MemPlace}
    (hv : Value.okWide Try.prog W .any b0 33 v) (h0 : DataW.Trod enc Try.prog W 0 (fun _ => true) true 33 v d p) :
    ∃ (A : Option Addr) (l : List Nat) (c : Nat), v = .slice A l.length c ∧ (A = none → c = 0) ∧ l.length ≤ c ∧ c ≤ maxLen ∧ Txt W A l := by
  obtain ⟨A, l, c, rfl, h1, h2, h3, h4⟩ := open_txt (e := 5) Try.underlying33 Try.underlying5 cells5 hv h0
  refine ⟨A, l, c, rfl, h1, ?_, ?_, h3, h4⟩
  all_goals
    obtain ⟨fuel, hf⟩ := h0
    rcases open_ints Try.underlying33 Try.underlying5 cells5 hf with ⟨hcs, hx⟩ | ⟨a, len', cap', zs, hcs, _, hl, hm, _⟩
    · simp [Value.cells] at hcs
      obtain ⟨_, hl, rfl⟩ := hcs
      simp [hl]
    · simp [Value.cells] at hcs
      obtain ⟨_, e, rfl⟩ := hcs
      omega
theorem slice_data {P : Program} {H : Type} {enc : TypeId × Value → H} {W : World} {t e : TypeId} {A : Option Addr} {n c : Nat} {d : DataW H} {p : List MemPlace} (ht : P.underlying t = some (.slice e))
    (h0 : DataW.Trod enc P W 0 (fun _ => true) true t (.slice A n c) d p) : n = 0 ∨ ∃ es sp, d = .slice es sp ∧ es.length = n := by
  obtain ⟨fuel, hf⟩ := h0
  rcases DataW.trod_slice ht hf with ⟨hcs, _⟩ | ⟨a, len, cap, elems, rest, m, _, hcs, hx, _, _, _, hlen, _⟩
  · simp [Value.cells] at hcs; exact .inl hcs.2.1
  · simp [Value.cells] at hcs
    obtain ⟨_, rfl, _⟩ := hcs
    right
    exact ⟨_, _, (Prod.mk.inj hx).1, by simpa using hlen⟩
theorem bytes23 : Try.prog.bytesOf 23 = 16 := by kernel_rfl
theorem bytes5 : Try.prog.bytesOf 5 = 1 := by kernel_rfl

set_option maxRecDepth 100000 in
theorem rows_lifted (os : Os) (started : os.Started) (H : Type) (enc : TypeId × Value → H) :
    ReturnsInHanded {} Try.checked os 4 .any (Rows.spanRowsSpec.pre6 enc Try.prog Try.f4 Rows.spanRowsRow.domain false) (Rows.spanRowsSpec.post enc Try.prog Try.f4 false true false false) := by
  refine returnsInHanded_of_change_sized (C := Try.checked) own started (by kernel_rfl) Try.func4
    (ChangeSpec.witness6 (enc := enc) (C := Try.checked) false ⟨#[], #[.agg #[.int .i64 0, .int .i64 0], .slice none 0 0, .slice none 0 0], []⟩ 8 (by kernel_rfl) (by kernel_rfl) (by kernel_rfl) (by kernel_rfl)) ?_
  intro W base args ds gs before hval0 hW _ hsz0 _
  have hsz : (DataW.weightsEach Try.prog (Try.f4.params.toList ++ Rows.spanRowsSpec.plain.varTypes Try.prog) (ds ++ gs)).all (· ≤ reachBytes) = true := hsz0
  have hval : ∀ (j : Nat) t v, Try.f4.params[j]? = some t → args[j]? = some v → Value.okWide Try.prog W .any base t v := hval0
  have hW' := hW
  obtain ⟨p, q, hA0, hV, rfl, _, _⟩ := hW
  have hA : DataW.TrodAll enc Try.prog W 0 (fun _ => true) true Try.f4.params.toList args.toList ds p := hA0
  have hAk := hA
  rw [Try.params4] at hA hval hsz
  obtain ⟨v0, v1, v2, d0, d1, d2, p0, p1, p2, rfl, rfl, rfl, h0, h1, h2⟩ := trodAll_three hA
  obtain ⟨rfl, rfl⟩ := trodVars_none hV
  obtain ⟨a, rfl, ha⟩ := open_span (hval 0 23 v0 rfl rfl) h0
  obtain ⟨A, l, c, rfl, hnc, hlm, hr, hsp⟩ := open_spans (hval 1 32 v1 rfl rfl) h1
  obtain ⟨B, t, d, rfl, hnd, htd, hdm, hT⟩ := open_text (hval 2 33 v2 rfl rfl) h2
  clear hA0 hval0
  simp only [List.append_nil] at hW' hAk
  have hdat1 := slice_data Try.underlying32 h1
  have hdat2 := slice_data Try.underlying33 h2
  have wl : l.length ≤ 140737488351232 := by
    rcases hdat1 with h | ⟨es, sp, rfl, he⟩
    · omega
    · have h2 : (es.length + sp.length) * Try.prog.bytesOf 23 ≤ reachBytes := of_decide_eq_true (List.all_eq_true.1 hsz ((es.length + sp.length) * Try.prog.bytesOf 23) (by simp [DataW.weights, DataW.weightsEach, Try.underlying32]))
      rw [bytes23] at h2
      unfold reachBytes at h2
      omega
  have wt : t.length ≤ 140737488351232 := by
    rcases hdat2 with h | ⟨es, sp, rfl, he⟩
    · omega
    · have h2 : (es.length + sp.length) * Try.prog.bytesOf 5 ≤ reachBytes := of_decide_eq_true (List.all_eq_true.1 hsz ((es.length + sp.length) * Try.prog.bytesOf 5) (by simp [DataW.weights, DataW.weightsEach, Try.underlying33]))
      rw [bytes5] at h2
      unfold reachBytes at h2
      omega
  have key : Calls Try.prog 4 #[.agg #[.int .i64 a.1, .int .i64 a.2], .slice A l.length c, .slice B t.length d] W fun e w' => e = .returned (.bool true) ∧ Below W.heap.size W w' := by
    rcases Nat.lt_or_ge 300 (l.length + t.length) with h | h
    · exact rows_long a.1 a.2 A l.length c B t.length d h (by omega) (by omega) W
    · exact rows_main a.1 a.2 ha A l c B t d h hr hnc hnd htd (by unfold maxLen at hdm; omega) W hsp hT
  refine key.mono fun e W' ⟨he, hb⟩ => ?_
  subst he
  exact ⟨_, rfl, post_true laidOut (by kernel_rfl) rfl (by kernel_rfl) Try.underlying4 hW' hAk rfl rfl rfl hb⟩

theorem spanRows_holds : Rows.SpanRowsSaid :=
  OpenClaim.holds_of_wide 4 Try.f4 rfl rfl rfl rfl rfl rfl rfl ⟨rfl, rfl, rfl, rfl, rfl⟩ rfl rfl rfl rfl rfl (by kernel_rfl) Try.func4 (by kernel_rfl)
    (of_decide_eq_true (by kernel_rfl)) (by unfold Func.isWrapper; first | (rw [if_pos (by decide +kernel)]; kernel_rfl) | (rw [if_neg (by decide +kernel)]; exact ⟨rfl, rfl⟩))
    (fun os started H enc _ => rows_lifted os started H enc)
#print axioms spanRows_holds
end Go.Proofs.Ytgploogflhfolaa

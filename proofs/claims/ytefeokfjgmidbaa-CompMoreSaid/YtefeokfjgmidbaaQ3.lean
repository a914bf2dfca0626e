/- Rows that came in: one of nothing has no room. -/
import Derived.Test.YtefeokfjgmidbaaQ1
import Derived.Test.YtefeokfjgmidbaaL9
import Derived.Test.YtefeokfjgmidbaaRows
set_option linter.unusedSimpArgs false
set_option linter.unusedVariables false
namespace Go.Proofs.Ytefeokfjgmidbaa
open Go Go.ChangeShapes Go.WideShapes Go.ChangeAt Go.RowKit Go.Joins Go.Deep Go.Maps
theorem rows_capd {H : Type} {enc : TypeId × Value → H} {W : World} {A : Option Addr} {n c : Nat} {vs : List Value} {L : List (List Int)} {d : DataW H} {p : List MemPlace} (en : n = L.length)
    (h0 : DataW.Trod enc Try.prog W 0 (fun _ => true) true 22 (.slice A n c) d p) (hg : Gph W A vs L) : Capd vs n := by
  obtain ⟨fuel, hf⟩ := h0
  rcases Go.Deep.open_slice1 Try.underlying22 cells26 hf with ⟨hcs, hx⟩ | ⟨a, len', cap', m, q, V, D, Pl, hcs, _, hl, hm, hmm, hx, hel⟩
  · simp [Value.cells] at hcs
    obtain ⟨rfl, rfl, rfl⟩ := hcs
    intro i m c hi
    omega
  · simp [Value.cells] at hcs
    obtain ⟨rfl, rfl, rfl⟩ := hcs
    simp only [if_true] at hmm
    intro i m' c' hi hv
    obtain ⟨b, o, e, _, hc⟩ := hg.cell (i := i) (by omega)
    obtain ⟨h1, h2⟩ := hel i (by omega)
    simp only [Option.some.injEq] at e
    subst e
    rw [Addr.add_lit, hc, hv] at h1
    have h1 := Option.some.inj h1
    rw [← h1] at h2
    rcases open_ints Try.underlying26 Try.underlying3 cells3 h2 with ⟨hcs, _⟩ | ⟨_, _, _, _, hcs, _⟩
    · simp at hcs
      exact hcs
    · simp at hcs
end Go.Proofs.Ytefeokfjgmidbaa
namespace Go.Proofs.Ytefeokfjgmidbaa
open Go Go.ChangeShapes Go.WideShapes Go.ChangeAt Go.RowKit
theorem cmore_walk (A : Option Addr) (c : Nat) (vs : List Value) (L : List (List Int)) (hc : Capd vs L.length) (a b : Int) (ha : -9223372036854775808 ≤ a ∧ a < 9223372036854775808) (hb : -9223372036854775808 ≤ b ∧ b < 9223372036854775808) (w : World) (hA : Gph w A vs L) :
    Calls Try.prog 6 #[.slice A L.length c, .int .i64 a, .int .i64 b] w fun e w' => e = .returned (.bool true) ∧ Below w.heap.size w w' := by
  cases er : rightL L with
  | false => exact cmore_no A c _ vs L rfl false er.symm (.inl rfl) a b w hA
  | true =>
    obtain ⟨G, hR, rfl⟩ := right_graph er
    by_cases h0 : G.length = 0
    · exact cmore_no A c _ vs _ rfl true er.symm (.inr (.inl (by simpa using h0))) a b w hA
    · by_cases h1 : G.length = 64
      · exact cmore_no A c _ vs _ rfl true er.symm (.inr (.inr (by simpa using h1))) a b w hA
      · rw [List.length_map] at hc ⊢
        exact cmore_any A c _ vs G rfl hR (by omega) (by have := hR.most; omega) hc a b ha hb w hA
set_option maxRecDepth 100000 in
theorem cmore_lifted (os : Os) (started : os.Started) (H : Type) (enc : TypeId × Value → H) :
    ReturnsInHanded {} Try.checked os 6 .any (Rows.compMoreSpec.pre6 enc Try.prog Try.f6 Rows.compMoreRow.domain false) (Rows.compMoreSpec.post enc Try.prog Try.f6 false true false false) := by
  refine returnsInHanded_of_change_sized (C := Try.checked) own started (by kernel_rfl) Try.func6
    (ChangeSpec.witness6 (enc := enc) (C := Try.checked) false ⟨#[], #[.slice none 0 0, .int .i64 0, .int .i64 0], []⟩ 8 (by kernel_rfl) (by kernel_rfl) (by kernel_rfl) (by kernel_rfl)) ?_
  intro W base args ds gs before hval0 hW _ hsz0 _
  have hsz : (DataW.weightsEach Try.prog (Try.f6.params.toList ++ Rows.compMoreSpec.plain.varTypes Try.prog) (ds ++ gs)).all (· ≤ reachBytes) = true := hsz0
  have hval : ∀ (j : Nat) t v, Try.f6.params[j]? = some t → args[j]? = some v → Value.okWide Try.prog W .any base t v := hval0
  have hW' := hW
  obtain ⟨p, q, hA0, hV, rfl, _, _⟩ := hW
  have hA : DataW.TrodAll enc Try.prog W 0 (fun _ => true) true Try.f6.params.toList args.toList ds p := hA0
  have hAk := hA
  rw [Try.params6] at hA hval hsz
  obtain ⟨v0, v1, v2, d0, d1, d2, p0, p1, p2, rfl, rfl, rfl, h0, h1, h2⟩ := trodAll_threes hA
  obtain ⟨rfl, rfl⟩ := trodVars_none hV
  have hw : ∀ n ∈ d0.weights Try.prog 22, n ≤ reachBytes := fun n hn =>
    of_decide_eq_true (List.all_eq_true.1 hsz n (by simp [DataW.weightsEach]; exact .inl hn))
  obtain ⟨A, c, vs, L, rfl, hg⟩ := open_rows (hval 0 22 v0 rfl rfl) h0 hw
  obtain ⟨n, rfl, rfl, rfl, wn⟩ := open_int Try.underlying3 (hval 1 3 v1 rfl rfl) h1
  obtain ⟨n2, rfl, rfl, rfl, wn2⟩ := open_int Try.underlying3 (hval 2 3 v2 rfl rfl) h2
  have bn := int_of_wf wn
  have bn2 := int_of_wf wn2
  have hcp := rows_capd rfl h0 hg
  clear hA0 hval0
  simp only [List.append_nil] at hW' hAk
  refine (cmore_walk A c vs L hcp n n2 bn bn2 W hg).mono fun e W' ⟨he, hb⟩ => ?_
  subst he
  exact ⟨_, rfl, post_true laidOut (by kernel_rfl) rfl (by kernel_rfl) Try.underlying4 hW' hAk rfl rfl rfl hb⟩

theorem compMore_holds : Rows.CompMoreSaid :=
  OpenClaim.holds_of_wide 6 Try.f6 rfl rfl rfl rfl rfl rfl rfl ⟨rfl, rfl, rfl, rfl, rfl⟩ rfl rfl rfl rfl rfl (by kernel_rfl) Try.func6 (by kernel_rfl)
    (of_decide_eq_true (by kernel_rfl)) (by unfold Func.isWrapper; first | (rw [if_pos (by decide +kernel)]; kernel_rfl) | (rw [if_neg (by decide +kernel)]; exact ⟨rfl, rfl⟩))
    (fun os started H enc _ => cmore_lifted os started H enc)
#print axioms compMore_holds
end Go.Proofs.Ytefeokfjgmidbaa

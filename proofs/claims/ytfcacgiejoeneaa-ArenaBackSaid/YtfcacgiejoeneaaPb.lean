/- WHAT IS PROVED: for any two rows of numbers and any number the law ArenaBack (an arena that has gone back to a mark has what it had at it, and the number that was next comes next; what stays keeps its number; what it has and what is left make the room) returns true and changes nothing. CONDITIONS: none. -/
import Derived.Test.YtfcacgiejoeneaaPa
import Derived.Test.YtfcacgiejoeneaaLb
namespace Go.Proofs.Ytfcacgiejoeneaa
open Go Go.ChangeShapes Go.WideShapes Go.ChangeAt Go.RowKit
set_option maxRecDepth 100000 in
theorem back_lifted (os : Os) (started : os.Started) (H : Type) (enc : TypeId × Value → H) :
    ReturnsInHanded {} Try.checked os 5 .any (Rows.arenaBackSpec.pre6 enc Try.prog Try.f5 Rows.arenaBackRow.domain false) (Rows.arenaBackSpec.post enc Try.prog Try.f5 false true false false) := by
  refine returnsInHanded_of_change_sized (C := Try.checked) own started (by kernel_rfl) Try.func5
    (ChangeSpec.witness6 (enc := enc) (C := Try.checked) false ⟨#[], #[.slice none 0 0, .slice none 0 0, .int .i64 0], []⟩ 8 (by kernel_rfl) (by kernel_rfl) (by kernel_rfl) (by kernel_rfl)) ?_
  intro W base args ds gs before hval0 hW _ hsz0 _
  have hsz : (DataW.weightsEach Try.prog (Try.f5.params.toList ++ Rows.arenaBackSpec.plain.varTypes Try.prog) (ds ++ gs)).all (· ≤ reachBytes) = true := hsz0
  have hval : ∀ (j : Nat) t v, Try.f5.params[j]? = some t → args[j]? = some v → Value.okWide Try.prog W .any base t v := hval0
  have hW' := hW
  obtain ⟨p, q, hA0, hV, rfl, _, _⟩ := hW
  have hA : DataW.TrodAll enc Try.prog W 0 (fun _ => true) true Try.f5.params.toList args.toList ds p := hA0
  have hAk := hA
  rw [Try.params5] at hA hval hsz
  obtain ⟨v0, v1, v2, d0, d1, d2, p0, p1, p2, rfl, rfl, rfl, h0, h1, h2⟩ := trodAll_three hA
  obtain ⟨rfl, rfl⟩ := trodVars_none hV
  obtain ⟨A, l, c, rfl, hnc, _, _, hla⟩ := open_nums (hval 0 28 v0 rfl rfl) h0
  obtain ⟨B, m, d, rfl, hnd, _, _, hlb⟩ := open_nums (hval 1 28 v1 rfl rfl) h1
  obtain ⟨n, rfl, rfl, rfl, wn⟩ := open_int Try.underlying3 (hval 2 3 v2 rfl rfl) h2
  have bn := bounds_i64 wn
  clear hA0 hval0
  simp only [List.append_nil] at hW' hAk
  have hdat1 := slice_data Try.underlying28 h0
  have hdat2 := slice_data Try.underlying28 h1
  have wl : l.length ≤ 140737488351232 := by
    rcases hdat1 with h | ⟨es, sp, rfl, he⟩
    · omega
    · have h2 : (es.length + sp.length) * Try.prog.bytesOf 3 ≤ reachBytes := of_decide_eq_true (List.all_eq_true.1 hsz ((es.length + sp.length) * Try.prog.bytesOf 3) (by simp [DataW.weights, DataW.weightsEach, Try.underlying28]))
      rw [bytes3] at h2
      unfold reachBytes at h2
      omega
  have wm : m.length ≤ 140737488351232 := by
    rcases hdat2 with h | ⟨es, sp, rfl, he⟩
    · omega
    · have h2 : (es.length + sp.length) * Try.prog.bytesOf 3 ≤ reachBytes := of_decide_eq_true (List.all_eq_true.1 hsz ((es.length + sp.length) * Try.prog.bytesOf 3) (by simp [DataW.weights, DataW.weightsEach, Try.underlying28]))
      rw [bytes3] at h2
      unfold reachBytes at h2
      omega
  have key : Calls Try.prog 5 #[.slice A l.length c, .slice B m.length d, .int .i64 n] W fun e w' => e = .returned (.bool true) ∧ Below W.heap.size W w' := by
    rcases Nat.lt_or_ge 400 (l.length + m.length) with h | h
    · exact back_long A B l.length m.length c d n wl wm h W
    · exact back_any A B l m c d hnc n (by omega) h W hla hlb
  refine key.mono fun e W' ⟨he, hb⟩ => ?_
  subst he
  exact ⟨_, rfl, post_true laidOut (by kernel_rfl) rfl (by kernel_rfl) Try.underlying4 hW' hAk rfl rfl rfl hb⟩

theorem arenaBack_holds : Rows.ArenaBackSaid :=
  OpenClaim.holds_of_wide 5 Try.f5 rfl rfl rfl rfl rfl rfl rfl ⟨rfl, rfl, rfl, rfl, rfl⟩ rfl rfl rfl rfl rfl (by kernel_rfl) Try.func5 (by kernel_rfl)
    (of_decide_eq_true (by kernel_rfl)) (by unfold Func.isWrapper; first | (rw [if_pos (by decide +kernel)]; kernel_rfl) | (rw [if_neg (by decide +kernel)]; exact ⟨rfl, rfl⟩))
    (fun os started H enc _ => back_lifted os started H enc)
#print axioms arenaBack_holds
end Go.Proofs.Ytfcacgiejoeneaa

/- How many rules, nodes, kids there are: some number. Pick. -/
import Derived.Test.YtmlaepbmdfmgbaaGreatA3
import Derived.Test.YtmlaepbmdfmgbaaGreatS3
import Derived.Test.YtmlaepbmdfmgbaaGreatP1
set_option linter.unusedSimpArgs false
set_option linter.unusedVariables false
namespace Go.Proofs.YtmlaepbmdfmgbaaGreat
open Go Go.RowKit
set_option maxHeartbeats 400000 in
theorem pick_any (x n : Int) (hx : -9223372036854775808 ≤ x ∧ x < 9223372036854775808) (hn : 1 ≤ n ∧ n < 9223372036854775808) (w : World) :
    Calls Tryz.prog 7 #[.int .i64 x, .int .i64 n] w fun e w' => e = .returned (.int .i64 (x % n)) ∧ w = w' := by
  have h1 := Int.emod_nonneg x (show n ≠ 0 by omega)
  have h2 := Int.emod_lt_of_pos x (show 0 < n by omega)
  have ht := Int.tmod_eq_emod (a := x) (b := n)
  have hd0 : n ≠ 0 := by omega
  have hd1 : (n == 0) = false := by simpa using hd0
  obtain ⟨y, ey⟩ : ∃ y, y = x.tmod n := ⟨_, rfl⟩
  rw [← ey] at ht
  obtain ⟨z, ez⟩ : ∃ z, z = x % n := ⟨_, rfl⟩
  rw [← ez] at ht h1 h2 ⊢
  have hcase : (0 ≤ y ∧ y = z) ∨ (y < 0 ∧ y + n = z) := by
    split at ht
    · left; omega
    · right; omega
  have hy : x.tmod n = y := ey.symm
  have hn1 : ¬ n < 1 := by omega
  have hwy : IntKind.i64.wrap y = y := IntWalk.i64_in _ (by omega)
  clear ht ez ey hx
  rcases hcase with ⟨h3, rfl⟩ | ⟨h3, h4⟩
  · go_enter Tryz.func7, Tryz.ntmps7
    go_wp2_with fail
    go_ret
    exact ⟨rfl, rfl⟩
  · have hwz : IntKind.i64.wrap (y + n) = z := (IntWalk.i64_in _ (by omega)).trans h4
    clear h4
    go_enter Tryz.func7, Tryz.ntmps7
    go_wp2_with fail
    go_ret
    exact ⟨rfl, rfl⟩
end Go.Proofs.YtmlaepbmdfmgbaaGreat
namespace Go.Proofs.YtmlaepbmdfmgbaaGreat
open Go Go.RowKit Go.Maps
set_option maxRecDepth 100000 in
theorem refString_any (s : Int) (w : World) : Calls Tryz.prog 9 #[.int .i64 s] w fun e w' => e = .returned (.string (sName s)) ∧ w' = w := by
  go_enter Tryz.func9, Tryz.ntmps9
  by_cases h0 : s = 0
  · subst h0
    go_wp2_with fail
    go_ret
    exact ⟨rfl, rfl⟩
  · by_cases h1 : s = 1
    · subst h1
      go_wp2_with fail
      go_ret
      exact ⟨rfl, rfl⟩
    · by_cases h2 : s = 2
      · subst h2
        go_wp2_with fail
        go_ret
        exact ⟨rfl, rfl⟩
      · by_cases h3 : s = 3
        · subst h3
          go_wp2_with fail
          go_ret
          exact ⟨rfl, rfl⟩
        · go_wp2_with fail
          go_ret
          refine ⟨?_, rfl⟩
          unfold sName
          rw [if_neg h0, if_neg h1, if_neg h2, if_neg h3]
          rfl
set_option maxRecDepth 100000 in
set_option maxHeartbeats 2000000 in
theorem names_law (s : Int) (hs : -9223372036854775808 ≤ s ∧ s < 9223372036854775808) (w : World) : Calls Tryz.prog 3 #[.int .i64 s] w fun e w' => e = .returned (.bool true) ∧ Below w.heap.size w w' := by
  have PK := Lib.hid (fun W => pick_any s 5 hs (by omega) W)
  have S1 := Lib.hid (fun W => sString_any s W)
  have S2 := Lib.hid (fun W => sString_any (s % 5) W)
  have R1 := Lib.hid (fun W => refString_any s W)
  have R2 := Lib.hid (fun W => refString_any (s % 5) W)
  have AW := Lib.hid (fun W => sawake_any W)
  have H0 := Lib.hid (Below.refl w.heap.size w)
  generalize s % 5 = t at *
  generalize sName s = n1 at *
  generalize sName t = n2 at *
  clear hs
  go_enter Tryz.func3, Tryz.ntmps3
  go_wp2_with fail
  refine (PK.out _).mono ?_
  rintro e w1 ⟨rfl, rfl⟩
  go_wp2_with fail
  refine (S1.out _).mono ?_
  rintro e w2 ⟨rfl, hb⟩
  have H2 := Lib.hid hb
  clear hb
  go_wp2_with fail
  refine (R1.out _).mono ?_
  rintro e w3 ⟨rfl, rfl⟩
  go_wp2_with fail
  refine (S2.out _).mono ?_
  rintro e w4 ⟨rfl, hb⟩
  have H4 := Lib.hid (bb H2.out hb)
  clear hb
  go_wp2_with fail
  refine (PK.out _).mono ?_
  rintro e w5 ⟨rfl, rfl⟩
  go_wp2_with fail
  refine (R2.out _).mono ?_
  rintro e w6 ⟨rfl, rfl⟩
  go_wp2_with fail
  refine (AW.out _).mono ?_
  rintro e w7 ⟨rfl, hb⟩
  have H7 := Lib.hid (bb H4.out hb)
  clear hb
  go_wp2_with fail
  go_ret
  exact ⟨rfl, H7.out⟩
end Go.Proofs.YtmlaepbmdfmgbaaGreat
namespace Go.Proofs.YtmlaepbmdfmgbaaGreat
open Go Go.ChangeShapes Go.WideShapes Go.ChangeAt Go.RowKit
set_option maxRecDepth 100000 in
theorem names_lifted (os : Os) (started : os.Started) (H : Type) (enc : TypeId × Value → H) :
    ReturnsInHanded {} Tryz.checked os 3 .any (Rows.sortNamesSpec.pre6 enc Tryz.prog Tryz.f3 Rows.sortNamesRow.domain false) (Rows.sortNamesSpec.post enc Tryz.prog Tryz.f3 false true false false) := by
  refine returnsInHanded_of_change_sized (C := Tryz.checked) own started (by kernel_rfl) Tryz.func3
    (ChangeSpec.witness6 (enc := enc) (C := Tryz.checked) false ⟨#[], #[.int .i64 0], []⟩ 8 (by kernel_rfl) (by kernel_rfl) (by kernel_rfl) (by kernel_rfl)) ?_
  intro W base args ds gs before hval0 hW _ hsz0 _
  have hsz : (DataW.weightsEach Tryz.prog (Tryz.f3.params.toList ++ Rows.sortNamesSpec.plain.varTypes Tryz.prog) (ds ++ gs)).all (· ≤ reachBytes) = true := hsz0
  have hval : ∀ (j : Nat) t v, Tryz.f3.params[j]? = some t → args[j]? = some v → Value.okWide Tryz.prog W .any base t v := hval0
  have hW' := hW
  obtain ⟨p, q, hA0, hV, rfl, _, _⟩ := hW
  have hA : DataW.TrodAll enc Tryz.prog W 0 (fun _ => true) true Tryz.f3.params.toList args.toList ds p := hA0
  have hAk := hA
  rw [Tryz.params3] at hA hval hsz
  obtain ⟨v0, d0, rfl, rfl, h0⟩ := trodAll_one hA
  obtain ⟨rfl, rfl⟩ := trodVars_none hV
  obtain ⟨n, rfl, rfl, rfl, wn⟩ := open_int Tryz.underlying3 (hval 0 3 v0 rfl rfl) h0
  have bn := int_of_wf wn
  clear hA0 hval0
  simp only [List.append_nil] at hW' hAk
  refine (names_law n bn W).mono fun e W' ⟨he, hb⟩ => ?_
  subst he
  exact ⟨_, rfl, post_true laidOut (by kernel_rfl) rfl (by kernel_rfl) Tryz.underlying4 hW' hAk rfl rfl rfl hb⟩

theorem sortNames_holds : Rows.SortNamesSaid :=
  OpenClaim.holds_of_wide 3 Tryz.f3 rfl rfl rfl rfl rfl rfl rfl ⟨rfl, rfl, rfl, rfl, rfl⟩ rfl rfl rfl rfl rfl (by kernel_rfl) Tryz.func3 (by kernel_rfl)
    (of_decide_eq_true (by kernel_rfl)) (by unfold Func.isWrapper; first | (rw [if_pos (by decide +kernel)]; kernel_rfl) | (rw [if_neg (by decide +kernel)]; exact ⟨rfl, rfl⟩))
    (fun os started H enc _ => names_lifted os started H enc)
#print axioms sortNames_holds
end Go.Proofs.YtmlaepbmdfmgbaaGreat

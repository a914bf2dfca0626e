/- Layer 3: the law SpanEnds, walked. -/
import Derived.Test.YtgploogflhfolaaLs
import Derived.Test.YtgploogflhfolaaRe
import Derived.Deep.CutRange
import Derived.BigRegion
namespace Go.Proofs.Ytgploogflhfolaa
open Go Go.Proofs Go.RowKit
theorem inr04 : Inr (0, 4) := by unfold Inr; decide
theorem inr05 : Inr (0, 5) := by unfold Inr; decide
theorem inr35 : Inr (3, 5) := by unfold Inr; decide
theorem inr23 : Inr (2, 3) := by unfold Inr; decide
theorem inr1m : Inr (1, 9223372036854775807) := by unfold Inr; decide
theorem inr0m : Inr (0, 9223372036854775807) := by unfold Inr; decide
theorem Inrs.snoc {xs : List (Int × Int)} {x : Int × Int} (h : Inrs xs) (hx : Inr x) : Inrs (xs ++ [x]) := by
  intro z hz
  rcases List.mem_append.1 hz with hz | hz
  · exact h z hz
  · rw [List.mem_singleton] at hz; subst hz; exact hx
set_option maxRecDepth 100000 in
set_option maxHeartbeats 8000000 in
theorem ends_raw (w : World) : Calls Try.prog 5 #[] w fun e w' => e = .returned (.bool true) ∧ Below w.heap.size w w' := by
  obtain ⟨i0, hi, hz0, hz1, hz2⟩ := info_parts Try.info23
  go_enter Try.func5, Try.ntmps5
  go_wp2_with fail
  go_loopw [1, 2] (fun v a wr => ∃ (xs : List (Int × Int)) (k : Nat), k ≤ 5 ∧ a = .int .i64 ((k : Int) - 1) ∧ xs.length = 5 * k ∧ Inrs xs ∧ wr.ownsRow w.heap.size 23 2 v xs.length (scells xs) ∧ Below w.heap.size w wr) (fun _ a _ => (4 - intOf a).toNat)
  case atStart => exact ⟨[], 0, by omega, rfl, rfl, (by intro z hz; simp at hz), World.ownsRow_nil _ _ _ _, Below.refl _ _⟩
  case round =>
    obtain ⟨xs, k, hk, rfl, hxl, hxr, hown, hb⟩ := hrel
    obtain ⟨wa, rfl⟩ : ∃ u, u = wr := ⟨_, rfl⟩
    by_cases hlt : k < 5
    · have hlt2 : (k : Int) - 1 < 4 := by omega
      have HO := Lib.hid hown
      have HX := Lib.hid hxr
      have HB := Lib.hid hb
      clear hown hxr hb
      go_wp2_with fail
      go_loopw [1, 3] (fun v b wr => ∃ (ys : List (Int × Int)) (m : Nat), m ≤ 5 ∧ b = .int .i64 ((m : Int) - 1) ∧ ys.length = 5 * k + m ∧ Inrs ys ∧ wr.ownsRow w.heap.size 23 2 v ys.length (scells ys) ∧ Below w.heap.size w wr) (fun _ b _ => (4 - intOf b).toNat)
      case atStart => exact ⟨xs, 0, by omega, rfl, by omega, HX.out, HO.out, HB.out⟩
      case round =>
        obtain ⟨ys, m, hm, rfl, hyl, hyr, hown, hb⟩ := hrel
        by_cases hlt3 : m < 5
        · have hlt4 : (m : Int) - 1 < 4 := by omega
          have HY := Lib.hid hyr
          have hsz := hb.size
          have HBB := Lib.hid hb
          clear hyr hb HO HX HB
          go_wp2_with (at_builtin; refine wpList_append_own _ rfl _ _ 32 rfl w.heap.size 23 i0 (.agg #[.int .i64 0, .int .i64 0]) 2 16 Try.underlying32 hi hz0 hz1 hz2 rfl (by decide) _ _ _ rfl (hown.alloc _) ⟨wr.heap.size, 0, none⟩ 1 1 [.int .i64 ((k : Int) - 1), .int .i64 ((m : Int) - 1)] rfl rfl (cell_two_new _ _ _ _) (by simp [Value.oneCell']) (by unfold maxLen; omega) (by omega) (by simp; omega) ?_; intro v' w7 hown' hgrow _)
          go_roundw
          case rel => exact ⟨ys ++ [((k : Int) - 1, (m : Int) - 1)], m + 1, by omega, by simp only [Value.int.injEq, true_and]; omega, by simp; omega, HY.out.snoc ⟨by simp only; omega, by simp only; omega, by simp only; omega, by simp only; omega⟩, by rw [List.length_append, scells_app]; simpa [scells_one] using hown', (HBB.out.alloc HBB.out.size _).grown hgrow (by simp; omega) (fun g hg => (hown.lt g hg).1)⟩
          case measure => simp [intOf]; omega
        · obtain rfl : m = 5 := by omega
          have HY := Lib.hid hyr
          have HOO := Lib.hid hown
          have HBB := Lib.hid hb
          clear hyr hb hown HO HX HB
          go_wp2_with fail
          go_roundw
          case rel => exact ⟨ys, k + 1, by omega, by simp only [Value.int.injEq, true_and]; omega, by omega, HY.out, HOO.out, HBB.out⟩
          case measure => simp [intOf]; omega
    · obtain rfl : k = 5 := by omega
      obtain ⟨g, cap, rfl, hg, hgc, hcm, hgl⟩ := own_shape hown (by omega)
      have hs := spn_at_own rfl hown
      have hx25 : xs.length = 25 := by omega
      have HS := Lib.hid hs
      have HX := Lib.hid hxr
      have HB := Lib.hid hb
      clear hown hxr hb hs hxl
      rw [hx25]
      have HCX : Hid (∀ j, j < 25 → wa.cell? ⟨g, j * 2, none⟩ = some (.int .i64 (xs.getD j (0, 0)).1) ∧ wa.cell? ⟨g, j * 2 + 1, none⟩ = some (.int .i64 (xs.getD j (0, 0)).2)) := Lib.hid (fun j hj => by
        obtain ⟨b', o', e, _, hc⟩ := HS.out (by omega)
        simp only [Option.some.injEq, Addr.mk.injEq] at e
        obtain ⟨rfl, rfl, _⟩ := e
        have := hc j (by omega)
        simpa using this)
      have en3 : ∀ args w, (callFunc 3 args).run Try.prog w = .ok (.enter 3 args) w := fun _ _ => by kernel_rfl
      have en4 : ∀ args w, (callFunc 4 args).run Try.prog w = .ok (.enter 4 args) w := fun _ _ => by kernel_rfl
      go_wp2_with fail
      go_loopw [4] (fun a wr => ∃ i : Nat, i ≤ 25 ∧ a = .int .i64 i ∧ Below wa.heap.size wa wr) (fun a _ => 25 - (intOf a).toNat)
      case atStart => exact ⟨0, by omega, rfl, Below.refl _ _⟩
      case round =>
        obtain ⟨i, hi, rfl, hb1⟩ := hrel
        have HB1 := Lib.hid hb1
        clear hb1
        by_cases hlt : i < 25
        · have hlt2 : (i : Int) < 25 := by omega
          go_wp2_with fail
          go_loopw [5] (fun a wr => ∃ k : Nat, k ≤ 25 ∧ a = .int .i64 k ∧ Below wa.heap.size wa wr) (fun a _ => 25 - (intOf a).toNat)
          case atStart => exact ⟨0, by omega, rfl, HB1.out⟩
          case round =>
            obtain ⟨k, hk, rfl, hb2⟩ := hrel
            obtain ⟨wb, rfl⟩ : ∃ u, u = wr := ⟨_, rfl⟩
            have HB2 := Lib.hid hb2
            by_cases hkt : k < 25
            · have hkt2 : (k : Int) < 25 := by omega
              have HCX0 := HCX
              have HCX : Hid (∀ j, j < 25 → wb.cell? ⟨g, j * 2, none⟩ = some (.int .i64 (xs.getD j (0, 0)).1) ∧ wb.cell? ⟨g, j * 2 + 1, none⟩ = some (.int .i64 (xs.getD j (0, 0)).2)) := Lib.hid (fun j hj => ⟨(hb2.cell (p := ⟨g, j * 2, none⟩) hgl).trans (HCX0.out j hj).1, (hb2.cell (p := ⟨g, j * 2 + 1, none⟩) hgl).trans (HCX0.out j hj).2⟩)
              have hgb : g < wb.heap.size := Nat.lt_of_lt_of_le hgl hb2.size
              clear hb2
              go_upto_region 15 with fail
              go_cut [6] from 37 to 57 (fun s6 wx => (lstSt 3).holds s6 wx ∧ Below wb.heap.size wb wx)
              case first =>
                refine wp_region_puts Grow.ofBelow [some (.is (.slice (some ⟨g, 0, none⟩) 25 cap)), some (.is (.int .i64 ((k : Nat) : Int))), some (.is (.pointer (some ⟨g, (k) * 2, none⟩))), some (.is (.agg #[.int .i64 (xs.getD (k) (0, 0)).1, .int .i64 (xs.getD (k) (0, 0)).2])), some (.is (.slice (some ⟨g, 0, none⟩) 25 cap)), some (.is (.int .i64 ((i : Nat) : Int))), some (.is (.int .i64 ((k : Nat) : Int))), some (.is (.int .i64 ((i + k : Nat) : Int))), some (.is (.int .i64 (((i + k) % 25 : Nat) : Int))), some (.is (.pointer (some ⟨g, ((i + k) % 25) * 2, none⟩))), some (.is (.agg #[.int .i64 (xs.getD ((i + k) % 25) (0, 0)).1, .int .i64 (xs.getD ((i + k) % 25) (0, 0)).2])), some (.is (.slice (some ⟨g, 0, none⟩) 25 cap)), some (.is (.int .i64 ((i : Nat) : Int))), some (.is (.int .i64 ((i * 7 : Nat) : Int))), some (.is (.int .i64 ((k : Nat) : Int))), some (.is (.int .i64 ((k * 3 : Nat) : Int))), some (.is (.int .i64 ((i * 7 + k * 3 : Nat) : Int))), some (.is (.int .i64 (((i * 7 + k * 3) % 25 : Nat) : Int))), some (.is (.pointer (some ⟨g, ((i * 7 + k * 3) % 25) * 2, none⟩))), some (.is (.agg #[.int .i64 (xs.getD ((i * 7 + k * 3) % 25) (0, 0)).1, .int .i64 (xs.getD ((i * 7 + k * 3) % 25) (0, 0)).2])), some (.st (lstSt 3)), some (.st (lstSt 3))] (by kernel_rfl) (by kernel_rfl) (by kernel_rfl) (by kernel_rfl) ⟨by
                  intro _ act W hS hun hd
                  have h1 : act.eval (.tmp 1) = .slice (some ⟨g, 0, none⟩) 25 cap := hun 1 (by kernel_rfl)
                  exact g_move Grow.ofBelow (v := .slice (some ⟨g, 0, none⟩) 25 cap) rfl h1 rfl,
                  by
                  intro _ act W hS hun hd
                  have h5 : act.eval (.tmp 5) = .int .i64 ((k : Nat) : Int) := hun 5 (by kernel_rfl)
                  exact g_move Grow.ofBelow (v := .int .i64 ((k : Nat) : Int)) rfl h5 rfl,
                  by
                  intro _ act W hS hun hd
                  have h37 : act.eval (.tmp 37) = .slice (some ⟨g, 0, none⟩) 25 cap := hd 0 _ 37 rfl rfl (by kernel_rfl)
                  have h38 : act.eval (.tmp 38) = .int .i64 ((k : Nat) : Int) := hd 1 _ 38 rfl rfl (by kernel_rfl)
                  exact e_index32 rfl h37 h38 (by omega) rfl,
                  by
                  intro _ act W hS hun hd
                  have h39 : act.eval (.tmp 39) = .pointer (some ⟨g, (k) * 2, none⟩) := hd 2 _ 39 rfl rfl (by kernel_rfl)
                  exact e_load23 rfl h39 ((hS.cell (p := ⟨g, (k) * 2, none⟩) hgb).trans (HCX.out (k) (by omega)).1) ((hS.cell (p := ⟨g, (k) * 2 + 1, none⟩) hgb).trans (HCX.out (k) (by omega)).2) rfl,
                  by
                  intro _ act W hS hun hd
                  have h1 : act.eval (.tmp 1) = .slice (some ⟨g, 0, none⟩) 25 cap := hun 1 (by kernel_rfl)
                  exact g_move Grow.ofBelow (v := .slice (some ⟨g, 0, none⟩) 25 cap) rfl h1 rfl,
                  by
                  intro _ act W hS hun hd
                  have h4 : act.eval (.tmp 4) = .int .i64 ((i : Nat) : Int) := hun 4 (by kernel_rfl)
                  exact g_move Grow.ofBelow (v := .int .i64 ((i : Nat) : Int)) rfl h4 rfl,
                  by
                  intro _ act W hS hun hd
                  have h5 : act.eval (.tmp 5) = .int .i64 ((k : Nat) : Int) := hun 5 (by kernel_rfl)
                  exact g_move Grow.ofBelow (v := .int .i64 ((k : Nat) : Int)) rfl h5 rfl,
                  by
                  intro _ act W hS hun hd
                  have h42 : act.eval (.tmp 42) = .int .i64 ((i : Nat) : Int) := hd 5 _ 42 rfl rfl (by kernel_rfl)
                  have h43 : act.eval (.tmp 43) = .int .i64 ((k : Nat) : Int) := hd 6 _ 43 rfl rfl (by kernel_rfl)
                  exact e_add rfl h42 h43 ⟨by omega, by omega⟩ rfl,
                  by
                  intro _ act W hS hun hd
                  have h44 : act.eval (.tmp 44) = .int .i64 ((i + k : Nat) : Int) := hd 7 _ 44 rfl rfl (by kernel_rfl)
                  exact e_rem (c := 25) rfl h44 (by omega) (by omega) rfl,
                  by
                  intro _ act W hS hun hd
                  have h41 : act.eval (.tmp 41) = .slice (some ⟨g, 0, none⟩) 25 cap := hd 4 _ 41 rfl rfl (by kernel_rfl)
                  have h45 : act.eval (.tmp 45) = .int .i64 (((i + k) % 25 : Nat) : Int) := hd 8 _ 45 rfl rfl (by kernel_rfl)
                  exact e_index32 rfl h41 h45 (by omega) rfl,
                  by
                  intro _ act W hS hun hd
                  have h46 : act.eval (.tmp 46) = .pointer (some ⟨g, ((i + k) % 25) * 2, none⟩) := hd 9 _ 46 rfl rfl (by kernel_rfl)
                  exact e_load23 rfl h46 ((hS.cell (p := ⟨g, ((i + k) % 25) * 2, none⟩) hgb).trans (HCX.out ((i + k) % 25) (by omega)).1) ((hS.cell (p := ⟨g, ((i + k) % 25) * 2 + 1, none⟩) hgb).trans (HCX.out ((i + k) % 25) (by omega)).2) rfl,
                  by
                  intro _ act W hS hun hd
                  have h1 : act.eval (.tmp 1) = .slice (some ⟨g, 0, none⟩) 25 cap := hun 1 (by kernel_rfl)
                  exact g_move Grow.ofBelow (v := .slice (some ⟨g, 0, none⟩) 25 cap) rfl h1 rfl,
                  by
                  intro _ act W hS hun hd
                  have h4 : act.eval (.tmp 4) = .int .i64 ((i : Nat) : Int) := hun 4 (by kernel_rfl)
                  exact g_move Grow.ofBelow (v := .int .i64 ((i : Nat) : Int)) rfl h4 rfl,
                  by
                  intro _ act W hS hun hd
                  have h49 : act.eval (.tmp 49) = .int .i64 ((i : Nat) : Int) := hd 12 _ 49 rfl rfl (by kernel_rfl)
                  exact e_mul (c := 7) rfl h49 (by omega) (by omega) rfl,
                  by
                  intro _ act W hS hun hd
                  have h5 : act.eval (.tmp 5) = .int .i64 ((k : Nat) : Int) := hun 5 (by kernel_rfl)
                  exact g_move Grow.ofBelow (v := .int .i64 ((k : Nat) : Int)) rfl h5 rfl,
                  by
                  intro _ act W hS hun hd
                  have h51 : act.eval (.tmp 51) = .int .i64 ((k : Nat) : Int) := hd 14 _ 51 rfl rfl (by kernel_rfl)
                  exact e_mul (c := 3) rfl h51 (by omega) (by omega) rfl,
                  by
                  intro _ act W hS hun hd
                  have h50 : act.eval (.tmp 50) = .int .i64 ((i * 7 : Nat) : Int) := hd 13 _ 50 rfl rfl (by kernel_rfl)
                  have h52 : act.eval (.tmp 52) = .int .i64 ((k * 3 : Nat) : Int) := hd 15 _ 52 rfl rfl (by kernel_rfl)
                  exact e_add rfl h50 h52 ⟨by omega, by omega⟩ rfl,
                  by
                  intro _ act W hS hun hd
                  have h53 : act.eval (.tmp 53) = .int .i64 ((i * 7 + k * 3 : Nat) : Int) := hd 16 _ 53 rfl rfl (by kernel_rfl)
                  exact e_rem (c := 25) rfl h53 (by omega) (by omega) rfl,
                  by
                  intro _ act W hS hun hd
                  have h48 : act.eval (.tmp 48) = .slice (some ⟨g, 0, none⟩) 25 cap := hd 11 _ 48 rfl rfl (by kernel_rfl)
                  have h54 : act.eval (.tmp 54) = .int .i64 (((i * 7 + k * 3) % 25 : Nat) : Int) := hd 17 _ 54 rfl rfl (by kernel_rfl)
                  exact e_index32 rfl h48 h54 (by omega) rfl,
                  by
                  intro _ act W hS hun hd
                  have h55 : act.eval (.tmp 55) = .pointer (some ⟨g, ((i * 7 + k * 3) % 25) * 2, none⟩) := hd 18 _ 55 rfl rfl (by kernel_rfl)
                  exact e_load23 rfl h55 ((hS.cell (p := ⟨g, ((i * 7 + k * 3) % 25) * 2, none⟩) hgb).trans (HCX.out ((i * 7 + k * 3) % 25) (by omega)).1) ((hS.cell (p := ⟨g, ((i * 7 + k * 3) % 25) * 2 + 1, none⟩) hgb).trans (HCX.out ((i * 7 + k * 3) % 25) (by omega)).2) rfl,
                  by
                  intro _ act W hS hun hd
                  have h40 : act.eval (.tmp 40) = .agg #[.int .i64 (xs.getD (k) (0, 0)).1, .int .i64 (xs.getD (k) (0, 0)).2] := hd 3 _ 40 rfl rfl (by kernel_rfl)
                  have h47 : act.eval (.tmp 47) = .agg #[.int .i64 (xs.getD ((i + k) % 25) (0, 0)).1, .int .i64 (xs.getD ((i + k) % 25) (0, 0)).2] := hd 10 _ 47 rfl rfl (by kernel_rfl)
                  have h56 : act.eval (.tmp 56) = .agg #[.int .i64 (xs.getD ((i * 7 + k * 3) % 25) (0, 0)).1, .int .i64 (xs.getD ((i * 7 + k * 3) % 25) (0, 0)).2] := hd 19 _ 56 rfl rfl (by kernel_rfl)
                  exact e_list3 (p := xs.getD (k) (0, 0)) (q := xs.getD ((i + k) % 25) (0, 0)) (r := xs.getD ((i * 7 + k * 3) % 25) (0, 0)) rfl h40 h47 h56 (HX.out.getD (k) (by rw [hx25]; omega)) (HX.out.getD ((i + k) % 25) (by rw [hx25]; omega)) (HX.out.getD ((i * 7 + k * 3) % 25) (by rw [hx25]; omega)),
                  by
                  intro _ act W hS hun hd
                  have h57 : (Sp.st (lstSt 3)).holds (act.eval (.tmp 57)) W := hd 20 _ 57 rfl rfl (by kernel_rfl)
                  exact g_assign Grow.ofBelow rfl rfl h57,
                  trivial⟩ ?_
                intro f W hS hf
                have h6 := hf 21 _ 6 rfl rfl
                simp only [putOps]
                go_simp
                go_wp2_with fail
                go_meet
                exact ⟨h6, hS⟩
              case rest =>
              obtain ⟨⟨b3, l3, rfl, hl3, hr3, hs3⟩, hb3⟩ := hcut
              have HL3 := Lib.hid hr3
              have HS3 := Lib.hid hs3
              have HB3 := Lib.hid (bt HB2.out hb3 HB2.out.size)
              have HCX1 := HCX
              have HCX : Hid (∀ j, j < 25 → wc.cell? ⟨g, j * 2, none⟩ = some (.int .i64 (xs.getD j (0, 0)).1) ∧ wc.cell? ⟨g, j * 2 + 1, none⟩ = some (.int .i64 (xs.getD j (0, 0)).2)) := Lib.hid (fun j hj => ⟨(hb3.cell (p := ⟨g, j * 2, none⟩) hgb).trans (HCX1.out j hj).1, (hb3.cell (p := ⟨g, j * 2 + 1, none⟩) hgb).trans (HCX1.out j hj).2⟩)
              have hgb : g < wc.heap.size := Nat.lt_of_lt_of_le hgb hb3.size
              obtain ⟨wd, rfl⟩ : ∃ u, u = wc := ⟨_, rfl⟩
              clear hr3 hs3 hb3
              go_upto_region 16 with fail
              go_cut [88] from 58 to 87 (fun s88 wx => s88 = .bool false ∧ Below wd.heap.size wd wx)
              case first =>
                refine wp_region_puts Grow.ofBelow [some (.is (.slice (some ⟨g, 0, none⟩) 25 cap)), some (.is (.int .i64 ((i : Nat) : Int))), some (.is (.pointer (some ⟨g, (i) * 2, none⟩))), some (.is (.agg #[.int .i64 (xs.getD (i) (0, 0)).1, .int .i64 (xs.getD (i) (0, 0)).2])), some (.is (.slice (some ⟨g, 0, none⟩) 25 cap)), some (.is (.int .i64 ((k : Nat) : Int))), some (.is (.pointer (some ⟨g, (k) * 2, none⟩))), some (.is (.agg #[.int .i64 (xs.getD (k) (0, 0)).1, .int .i64 (xs.getD (k) (0, 0)).2])), some (.is (.int .i64 ((k : Nat) : Int))), some (.is (.int .i64 ((k % 6 : Nat) : Int))), some (.is (.int .i64 (((k % 6 : Nat) : Int) - 1))), some (.is (.bool true)), some (.is (.bool false)), some (.is (.bool false)), some (.is (.slice (some ⟨g, 0, none⟩) 25 cap)), some (.is (.int .i64 ((i : Nat) : Int))), some (.is (.pointer (some ⟨g, (i) * 2, none⟩))), some (.is (.agg #[.int .i64 (xs.getD (i) (0, 0)).1, .int .i64 (xs.getD (i) (0, 0)).2])), some (.is (.slice (some ⟨b3, 0, none⟩) 3 3)), some (.is (.int .i64 ((k : Nat) : Int))), some (.is (.int .i64 ((k % 5 : Nat) : Int))), some (.st txtSt), some (.is (.bool true)), some (.is (.bool false)), some (.is (.bool false)), some (.is (.bool false)), some (.is (.agg #[.int .i64 0, .int .i64 4])), some (.is (.slice (some ⟨b3, 0, none⟩) 3 3)), some (.is (.bool true)), some (.is (.bool false)), some (.is (.bool false))] (by kernel_rfl) (by kernel_rfl) (by kernel_rfl) (by kernel_rfl) ⟨by
                  intro _ act W hS hun hd
                  have h1 : act.eval (.tmp 1) = .slice (some ⟨g, 0, none⟩) 25 cap := hun 1 (by kernel_rfl)
                  exact g_move Grow.ofBelow (v := .slice (some ⟨g, 0, none⟩) 25 cap) rfl h1 rfl,
                  by
                  intro _ act W hS hun hd
                  have h4 : act.eval (.tmp 4) = .int .i64 ((i : Nat) : Int) := hun 4 (by kernel_rfl)
                  exact g_move Grow.ofBelow (v := .int .i64 ((i : Nat) : Int)) rfl h4 rfl,
                  by
                  intro _ act W hS hun hd
                  have h58 : act.eval (.tmp 58) = .slice (some ⟨g, 0, none⟩) 25 cap := hd 0 _ 58 rfl rfl (by kernel_rfl)
                  have h59 : act.eval (.tmp 59) = .int .i64 ((i : Nat) : Int) := hd 1 _ 59 rfl rfl (by kernel_rfl)
                  exact e_index32 rfl h58 h59 (by omega) rfl,
                  by
                  intro _ act W hS hun hd
                  have h60 : act.eval (.tmp 60) = .pointer (some ⟨g, (i) * 2, none⟩) := hd 2 _ 60 rfl rfl (by kernel_rfl)
                  exact e_load23 rfl h60 ((hS.cell (p := ⟨g, (i) * 2, none⟩) hgb).trans (HCX.out (i) (by omega)).1) ((hS.cell (p := ⟨g, (i) * 2 + 1, none⟩) hgb).trans (HCX.out (i) (by omega)).2) rfl,
                  by
                  intro _ act W hS hun hd
                  have h1 : act.eval (.tmp 1) = .slice (some ⟨g, 0, none⟩) 25 cap := hun 1 (by kernel_rfl)
                  exact g_move Grow.ofBelow (v := .slice (some ⟨g, 0, none⟩) 25 cap) rfl h1 rfl,
                  by
                  intro _ act W hS hun hd
                  have h5 : act.eval (.tmp 5) = .int .i64 ((k : Nat) : Int) := hun 5 (by kernel_rfl)
                  exact g_move Grow.ofBelow (v := .int .i64 ((k : Nat) : Int)) rfl h5 rfl,
                  by
                  intro _ act W hS hun hd
                  have h62 : act.eval (.tmp 62) = .slice (some ⟨g, 0, none⟩) 25 cap := hd 4 _ 62 rfl rfl (by kernel_rfl)
                  have h63 : act.eval (.tmp 63) = .int .i64 ((k : Nat) : Int) := hd 5 _ 63 rfl rfl (by kernel_rfl)
                  exact e_index32 rfl h62 h63 (by omega) rfl,
                  by
                  intro _ act W hS hun hd
                  have h64 : act.eval (.tmp 64) = .pointer (some ⟨g, (k) * 2, none⟩) := hd 6 _ 64 rfl rfl (by kernel_rfl)
                  exact e_load23 rfl h64 ((hS.cell (p := ⟨g, (k) * 2, none⟩) hgb).trans (HCX.out (k) (by omega)).1) ((hS.cell (p := ⟨g, (k) * 2 + 1, none⟩) hgb).trans (HCX.out (k) (by omega)).2) rfl,
                  by
                  intro _ act W hS hun hd
                  have h5 : act.eval (.tmp 5) = .int .i64 ((k : Nat) : Int) := hun 5 (by kernel_rfl)
                  exact g_move Grow.ofBelow (v := .int .i64 ((k : Nat) : Int)) rfl h5 rfl,
                  by
                  intro _ act W hS hun hd
                  have h66 : act.eval (.tmp 66) = .int .i64 ((k : Nat) : Int) := hd 8 _ 66 rfl rfl (by kernel_rfl)
                  exact e_rem (c := 6) rfl h66 (by omega) (by omega) rfl,
                  by
                  intro _ act W hS hun hd
                  have h67 : act.eval (.tmp 67) = .int .i64 ((k % 6 : Nat) : Int) := hd 9 _ 67 rfl rfl (by kernel_rfl)
                  exact e_dec rfl h67 (by omega) rfl,
                  by
                  intro _ act W hS hun hd
                  have h61 : act.eval (.tmp 61) = .agg #[.int .i64 (xs.getD (i) (0, 0)).1, .int .i64 (xs.getD (i) (0, 0)).2] := hd 3 _ 61 rfl rfl (by kernel_rfl)
                  have h65 : act.eval (.tmp 65) = .agg #[.int .i64 (xs.getD (k) (0, 0)).1, .int .i64 (xs.getD (k) (0, 0)).2] := hd 7 _ 65 rfl rfl (by kernel_rfl)
                  have h68 : act.eval (.tmp 68) = .int .i64 (((k % 6 : Nat) : Int) - 1) := hd 10 _ 68 rfl rfl (by kernel_rfl)
                  exact g_call (G := Bel) (f := 3) (args := #[.agg #[.int .i64 (xs.getD (i) (0, 0)).1, .int .i64 (xs.getD (i) (0, 0)).2], .agg #[.int .i64 (xs.getD (k) (0, 0)).1, .int .i64 (xs.getD (k) (0, 0)).2], .int .i64 (((k % 6 : Nat) : Int) - 1)]) rfl en3 (by simp only [List.map_toArray, List.map_cons, List.map_nil, h61, h65, h68]) (tells_at (xs.getD (i) (0, 0)) (xs.getD (k) (0, 0)) (((k % 6 : Nat) : Int) - 1) (HX.out.getD (i) (by rw [hx25]; omega)) W (HX.out.getD (k) (by rw [hx25]; omega))),
                  by
                  intro _ act W hS hun hd
                  have h69 : act.eval (.tmp 69) = .bool true := hd 11 _ 69 rfl rfl (by kernel_rfl)
                  exact g_not Grow.ofBelow (c := true) rfl h69 rfl,
                  by
                  intro _ act W hS hun hd
                  have h70 : act.eval (.tmp 70) = .bool false := hd 12 _ 70 rfl rfl (by kernel_rfl)
                  exact g_move Grow.ofBelow (v := .bool false) rfl h70 rfl,
                  by
                  intro _ act W hS hun hd
                  have h1 : act.eval (.tmp 1) = .slice (some ⟨g, 0, none⟩) 25 cap := hun 1 (by kernel_rfl)
                  exact g_move Grow.ofBelow (v := .slice (some ⟨g, 0, none⟩) 25 cap) rfl h1 rfl,
                  by
                  intro _ act W hS hun hd
                  have h4 : act.eval (.tmp 4) = .int .i64 ((i : Nat) : Int) := hun 4 (by kernel_rfl)
                  exact g_move Grow.ofBelow (v := .int .i64 ((i : Nat) : Int)) rfl h4 rfl,
                  by
                  intro _ act W hS hun hd
                  have h72 : act.eval (.tmp 72) = .slice (some ⟨g, 0, none⟩) 25 cap := hd 14 _ 72 rfl rfl (by kernel_rfl)
                  have h73 : act.eval (.tmp 73) = .int .i64 ((i : Nat) : Int) := hd 15 _ 73 rfl rfl (by kernel_rfl)
                  exact e_index32 rfl h72 h73 (by omega) rfl,
                  by
                  intro _ act W hS hun hd
                  have h74 : act.eval (.tmp 74) = .pointer (some ⟨g, (i) * 2, none⟩) := hd 16 _ 74 rfl rfl (by kernel_rfl)
                  exact e_load23 rfl h74 ((hS.cell (p := ⟨g, (i) * 2, none⟩) hgb).trans (HCX.out (i) (by omega)).1) ((hS.cell (p := ⟨g, (i) * 2 + 1, none⟩) hgb).trans (HCX.out (i) (by omega)).2) rfl,
                  by
                  intro _ act W hS hun hd
                  have h6 : act.eval (.tmp 6) = .slice (some ⟨b3, 0, none⟩) 3 3 := hun 6 (by kernel_rfl)
                  exact g_move Grow.ofBelow (v := .slice (some ⟨b3, 0, none⟩) 3 3) rfl h6 rfl,
                  by
                  intro _ act W hS hun hd
                  have h5 : act.eval (.tmp 5) = .int .i64 ((k : Nat) : Int) := hun 5 (by kernel_rfl)
                  exact g_move Grow.ofBelow (v := .int .i64 ((k : Nat) : Int)) rfl h5 rfl,
                  by
                  intro _ act W hS hun hd
                  have h77 : act.eval (.tmp 77) = .int .i64 ((k : Nat) : Int) := hd 19 _ 77 rfl rfl (by kernel_rfl)
                  exact e_rem (c := 5) rfl h77 (by omega) (by omega) rfl,
                  by
                  intro _ act W hS hun hd
                  have h78 : act.eval (.tmp 78) = .int .i64 ((k % 5 : Nat) : Int) := hd 20 _ 78 rfl rfl (by kernel_rfl)
                  exact e_make rfl h78 (by omega),
                  by
                  intro _ act W hS hun hd
                  have h75 : act.eval (.tmp 75) = .agg #[.int .i64 (xs.getD (i) (0, 0)).1, .int .i64 (xs.getD (i) (0, 0)).2] := hd 17 _ 75 rfl rfl (by kernel_rfl)
                  have h76 : act.eval (.tmp 76) = .slice (some ⟨b3, 0, none⟩) 3 3 := hd 18 _ 76 rfl rfl (by kernel_rfl)
                  have h79 : (Sp.st txtSt).holds (act.eval (.tmp 79)) W := hd 21 _ 79 rfl rfl (by kernel_rfl)
                  obtain ⟨ta, ty, tc, et, t1, t2, t3, t4, t5⟩ := h79
                  exact g_call (G := Bel) (f := 4) (args := #[.agg #[.int .i64 (xs.getD (i) (0, 0)).1, .int .i64 (xs.getD (i) (0, 0)).2], .slice (some ⟨b3, 0, none⟩) 3 3, .slice ta ty.length tc]) rfl en4 (by simp only [List.map_toArray, List.map_cons, List.map_nil, h75, h76, et]; try rfl) (rows_at (xs.getD (i) (0, 0)) (HX.out.getD (i) (by rw [hx25]; omega)) b3 3 l3 hl3 (by omega) HL3.out W (HS3.out.below hS) ta ty tc t1 t2 t3 t4 t5),
                  by
                  intro _ act W hS hun hd
                  have h80 : act.eval (.tmp 80) = .bool true := hd 22 _ 80 rfl rfl (by kernel_rfl)
                  exact g_not Grow.ofBelow (c := true) rfl h80 rfl,
                  by
                  intro _ act W hS hun hd
                  have h71 : act.eval (.tmp 71) = .bool false := hd 13 _ 71 rfl rfl (by kernel_rfl)
                  have h81 : act.eval (.tmp 81) = .bool false := hd 23 _ 81 rfl rfl (by kernel_rfl)
                  exact g_pick Grow.ofBelow (c := false) rfl h71 h81 rfl,
                  by
                  intro _ act W hS hun hd
                  have h82 : act.eval (.tmp 82) = .bool false := hd 24 _ 82 rfl rfl (by kernel_rfl)
                  exact g_move Grow.ofBelow (v := .bool false) rfl h82 rfl,
                  by
                  intro _ act W hS hun hd
                  exact e_build1 rfl,
                  by
                  intro _ act W hS hun hd
                  have h6 : act.eval (.tmp 6) = .slice (some ⟨b3, 0, none⟩) 3 3 := hun 6 (by kernel_rfl)
                  exact g_move Grow.ofBelow (v := .slice (some ⟨b3, 0, none⟩) 3 3) rfl h6 rfl,
                  by
                  intro _ act W hS hun hd
                  have h84 : act.eval (.tmp 84) = .agg #[.int .i64 0, .int .i64 4] := hd 26 _ 84 rfl rfl (by kernel_rfl)
                  have h85 : act.eval (.tmp 85) = .slice (some ⟨b3, 0, none⟩) 3 3 := hd 27 _ 85 rfl rfl (by kernel_rfl)
                  exact g_call (G := Bel) (f := 4) (args := #[.agg #[.int .i64 0, .int .i64 4], .slice (some ⟨b3, 0, none⟩) 3 3, .slice none 0 0]) rfl en4 (by simp only [List.map_toArray, List.map_cons, List.map_nil, h84, h85]; try rfl) (rows_at (0, 4) inr04 b3 3 l3 hl3 (by omega) HL3.out W (HS3.out.below hS) none [] 0 (by simp) (fun _ => rfl) (by simp) (by omega) (txt_nil _ _)),
                  by
                  intro _ act W hS hun hd
                  have h86 : act.eval (.tmp 86) = .bool true := hd 28 _ 86 rfl rfl (by kernel_rfl)
                  exact g_not Grow.ofBelow (c := true) rfl h86 rfl,
                  by
                  intro _ act W hS hun hd
                  have h83 : act.eval (.tmp 83) = .bool false := hd 25 _ 83 rfl rfl (by kernel_rfl)
                  have h87 : act.eval (.tmp 87) = .bool false := hd 29 _ 87 rfl rfl (by kernel_rfl)
                  exact g_pick Grow.ofBelow (c := false) rfl h83 h87 rfl,
                  trivial⟩ ?_
                intro f W hS hf
                have h88 : f 88 = .bool false := hf 30 _ 88 rfl rfl
                simp only [putOps]
                go_simp
                go_wp2_with fail
                go_meet
                exact ⟨rfl, hS⟩
              case rest =>
              obtain ⟨rfl, hb4⟩ := hcut
              have HB4 := Lib.hid (bt HB3.out hb4 HB3.out.size)
              clear hb4
              go_wp2_with fail
              go_roundw
              case rel => exact ⟨k + 1, by omega, by go_num, HB4.out⟩
              case measure => simp [intOf]; omega
            · obtain rfl : k = 25 := by omega
              clear hb2
              go_wp2_with fail
              go_roundw
              case rel => exact ⟨i + 1, by omega, by go_num, HB2.out⟩
              case measure => simp [intOf]; omega
        · obtain rfl : i = 25 := by omega
          have HB1' := Lib.hid (bt HB.out HB1.out HB.out.size)
          clear HCX HS
          go_wp2_with fail
          obtain ⟨we, ewe⟩ : ∃ u, u = wr.alloc (.cells #[.int .i64 (-9223372036854775808), .int .i64 (-1), .int .i64 0, .int .i64 1, .int .i64 9223372036854775807] 3) := ⟨_, rfl⟩
          have hbe : Below wr.heap.size wr we := by rw [ewe]; exact B1 _ _
          obtain ⟨ge, ege⟩ : ∃ u, u = wr.heap.size := ⟨_, rfl⟩
          have HE : Hid (∀ j, j < 5 → ∃ v : Int, we.cell? ⟨ge, j, none⟩ = some (.int .i64 v) ∧ -9223372036854775808 ≤ v ∧ v < 9223372036854775808) := Lib.hid (fun j hj => by
            rw [ewe, ege, (Blk.new wr _ _).cell]
            have : j = 0 ∨ j = 1 ∨ j = 2 ∨ j = 3 ∨ j = 4 := by omega
            rcases this with rfl | rfl | rfl | rfl | rfl <;> exact ⟨_, rfl, by decide, by decide⟩)
          have hge : ge < we.heap.size := by rw [ewe, ege]; simp
          have HBE := Lib.hid (bt HB1'.out hbe HB1'.out.size)
          rw [← ewe, ← ege]
          clear hbe ewe ege HB1 HB1' HB HX
          go_loopw [8] (fun a wr => ∃ i : Nat, i ≤ 5 ∧ a = .int .i64 i ∧ Below we.heap.size we wr) (fun a _ => 5 - (intOf a).toNat)
          case atStart => exact ⟨0, by omega, rfl, Below.refl _ _⟩
          case round =>
            obtain ⟨i, hi, rfl, hb1⟩ := hrel
            have HB1 := Lib.hid hb1
            clear hb1
            by_cases hlt : i < 5
            · have hlt2 : (i : Int) < 5 := by omega
              obtain ⟨vi, ci, vi1, vi2⟩ := HE.out i hlt
              have CI := Lib.hid ci
              clear ci
              go_wp2_with fail
              go_loopw [9] (fun a wr => ∃ k : Nat, k ≤ 5 ∧ a = .int .i64 k ∧ Below we.heap.size we wr) (fun a _ => 5 - (intOf a).toNat)
              case atStart => exact ⟨0, by omega, rfl, HB1.out⟩
              case round =>
                obtain ⟨k, hk, rfl, hb2⟩ := hrel
                obtain ⟨wb, rfl⟩ : ∃ u, u = wr := ⟨_, rfl⟩
                have HB2 := Lib.hid hb2
                by_cases hkt : k < 5
                · have hkt2 : (k : Int) < 5 := by omega
                  obtain ⟨vk, ck, vk1, vk2⟩ := HE.out k hkt
                  have ci := (hb2.cell (p := ⟨ge, i, none⟩) hge).trans CI.out
                  have ck := (hb2.cell (p := ⟨ge, k, none⟩) hge).trans ck
                  have hpq : Inr (vi, vk) := ⟨vi1, vi2, vk1, vk2⟩
                  have hgb : ge < wb.heap.size := Nat.lt_of_lt_of_le hge hb2.size
                  clear hb2
                  go_upto_region 25 with fail
                  go_cut [10] from 98 to 106 (fun s10 wx => ∃ b, s10 = .pointer (some ⟨b, 0, none⟩) ∧ Blk wx b #[.int .i64 vi, .int .i64 vk] 23 ∧ Below wb.heap.size wb wx)
                  case first =>
                    go_region
                    all_goals (go_wp2_with fail)
                    all_goals go_meet
                    all_goals exact ⟨_, rfl, Blk.new wb.drew _ _, (bdrew (n := 1) (Below.refl wb.heap.size wb)).alloc (Nat.le_refl _) _⟩
                  case rest =>
                  obtain ⟨bx, rfl, hbx, hb3⟩ := hcut
                  obtain ⟨wd, rfl⟩ : ∃ u, u = wc := ⟨_, rfl⟩
                  obtain ⟨c0, c1⟩ := hbx.two
                  have ci := (hb3.cell (p := ⟨ge, i, none⟩) hgb).trans ci
                  have ck := (hb3.cell (p := ⟨ge, k, none⟩) hgb).trans ck
                  have HB3 := Lib.hid (bt HB2.out hb3 HB2.out.size)
                  clear hb3
                  go_upto_region 26 with fail
                  go_cut [141] from 107 to 140 (fun s141 wx => s141 = .bool false ∧ Below wd.heap.size wd wx)
                  case first =>
                    refine wp_region_puts Grow.ofBelow [some (.is (.agg #[.int .i64 vi, .int .i64 vk])), some (.is (.agg #[.int .i64 0, .int .i64 5])), some (.is (.slice (some ⟨ge, 0, none⟩) 5 5)), some (.is (.int .i64 ((k : Nat) : Int))), some (.is (.pointer (some ⟨ge, k, none⟩))), some (.is (.int .i64 vk)), some (.is (.bool true)), some (.is (.bool false)), some (.is (.bool false)), some (.is (.agg #[.int .i64 1, .int .i64 9223372036854775807])), some (.is (.agg #[.int .i64 vi, .int .i64 vk])), some (.is (.slice (some ⟨ge, 0, none⟩) 5 5)), some (.is (.int .i64 ((i : Nat) : Int))), some (.is (.pointer (some ⟨ge, i, none⟩))), some (.is (.int .i64 vi)), some (.is (.bool true)), some (.is (.bool false)), some (.is (.bool false)), some (.is (.bool false)), some (.is (.agg #[.int .i64 vi, .int .i64 vk])), some (.is (.agg #[.int .i64 3, .int .i64 5])), some (.is (.agg #[.int .i64 vi, .int .i64 vk])), some (.st (lstSt 2)), some (.is (.bool true)), some (.is (.bool false)), some (.is (.bool false)), some (.is (.bool false)), some (.is (.agg #[.int .i64 0, .int .i64 9223372036854775807])), some (.is (.agg #[.int .i64 vi, .int .i64 vk])), some (.is (.agg #[.int .i64 2, .int .i64 3])), some (.st (lstSt 2)), some (.st txtSt), some (.is (.bool true)), some (.is (.bool false)), some (.is (.bool false))] (by kernel_rfl) (by kernel_rfl) (by kernel_rfl) (by kernel_rfl) ⟨by
                      intro _ act W hS hun hd
                      have h10 : act.eval (.tmp 10) = .pointer (some ⟨bx, 0, none⟩) := hun 10 (by kernel_rfl)
                      exact g_load23 Grow.ofBelow rfl h10 (Ext.cell c0 ⟨W, hS⟩) (Ext.cell c1 ⟨W, hS⟩) rfl,
                      by
                      intro _ act W hS hun hd
                      exact e_build1 rfl,
                      by
                      intro _ act W hS hun hd
                      have h7 : act.eval (.tmp 7) = .slice (some ⟨ge, 0, none⟩) 5 5 := hun 7 (by kernel_rfl)
                      exact g_move Grow.ofBelow (v := .slice (some ⟨ge, 0, none⟩) 5 5) rfl h7 rfl,
                      by
                      intro _ act W hS hun hd
                      have h9 : act.eval (.tmp 9) = .int .i64 ((k : Nat) : Int) := hun 9 (by kernel_rfl)
                      exact g_move Grow.ofBelow (v := .int .i64 ((k : Nat) : Int)) rfl h9 rfl,
                      by
                      intro _ act W hS hun hd
                      have h109 : act.eval (.tmp 109) = .slice (some ⟨ge, 0, none⟩) 5 5 := hd 2 _ 109 rfl rfl (by kernel_rfl)
                      have h110 : act.eval (.tmp 110) = .int .i64 ((k : Nat) : Int) := hd 3 _ 110 rfl rfl (by kernel_rfl)
                      exact e_index48 rfl h109 h110 (by omega) rfl,
                      by
                      intro _ act W hS hun hd
                      have h111 : act.eval (.tmp 111) = .pointer (some ⟨ge, k, none⟩) := hd 4 _ 111 rfl rfl (by kernel_rfl)
                      exact g_load3 Grow.ofBelow rfl h111 (Ext.cell ck ⟨W, hS⟩) rfl,
                      by
                      intro _ act W hS hun hd
                      have h107 : act.eval (.tmp 107) = .agg #[.int .i64 vi, .int .i64 vk] := hd 0 _ 107 rfl rfl (by kernel_rfl)
                      have h108 : act.eval (.tmp 108) = .agg #[.int .i64 0, .int .i64 5] := hd 1 _ 108 rfl rfl (by kernel_rfl)
                      have h112 : act.eval (.tmp 112) = .int .i64 vk := hd 5 _ 112 rfl rfl (by kernel_rfl)
                      exact g_call (G := Bel) (f := 3) (args := #[.agg #[.int .i64 vi, .int .i64 vk], .agg #[.int .i64 0, .int .i64 5], .int .i64 vk]) rfl en3 (by simp only [List.map_toArray, List.map_cons, List.map_nil, h107, h108, h112]) (tells_at (vi, vk) (0, 5) (vk) hpq W inr05),
                      by
                      intro _ act W hS hun hd
                      have h113 : act.eval (.tmp 113) = .bool true := hd 6 _ 113 rfl rfl (by kernel_rfl)
                      exact g_not Grow.ofBelow (c := true) rfl h113 rfl,
                      by
                      intro _ act W hS hun hd
                      have h114 : act.eval (.tmp 114) = .bool false := hd 7 _ 114 rfl rfl (by kernel_rfl)
                      exact g_move Grow.ofBelow (v := .bool false) rfl h114 rfl,
                      by
                      intro _ act W hS hun hd
                      exact e_build2 rfl,
                      by
                      intro _ act W hS hun hd
                      have h10 : act.eval (.tmp 10) = .pointer (some ⟨bx, 0, none⟩) := hun 10 (by kernel_rfl)
                      exact g_load23 Grow.ofBelow rfl h10 (Ext.cell c0 ⟨W, hS⟩) (Ext.cell c1 ⟨W, hS⟩) rfl,
                      by
                      intro _ act W hS hun hd
                      have h7 : act.eval (.tmp 7) = .slice (some ⟨ge, 0, none⟩) 5 5 := hun 7 (by kernel_rfl)
                      exact g_move Grow.ofBelow (v := .slice (some ⟨ge, 0, none⟩) 5 5) rfl h7 rfl,
                      by
                      intro _ act W hS hun hd
                      have h8 : act.eval (.tmp 8) = .int .i64 ((i : Nat) : Int) := hun 8 (by kernel_rfl)
                      exact g_move Grow.ofBelow (v := .int .i64 ((i : Nat) : Int)) rfl h8 rfl,
                      by
                      intro _ act W hS hun hd
                      have h118 : act.eval (.tmp 118) = .slice (some ⟨ge, 0, none⟩) 5 5 := hd 11 _ 118 rfl rfl (by kernel_rfl)
                      have h119 : act.eval (.tmp 119) = .int .i64 ((i : Nat) : Int) := hd 12 _ 119 rfl rfl (by kernel_rfl)
                      exact e_index48 rfl h118 h119 (by omega) rfl,
                      by
                      intro _ act W hS hun hd
                      have h120 : act.eval (.tmp 120) = .pointer (some ⟨ge, i, none⟩) := hd 13 _ 120 rfl rfl (by kernel_rfl)
                      exact g_load3 Grow.ofBelow rfl h120 (Ext.cell ci ⟨W, hS⟩) rfl,
                      by
                      intro _ act W hS hun hd
                      have h116 : act.eval (.tmp 116) = .agg #[.int .i64 1, .int .i64 9223372036854775807] := hd 9 _ 116 rfl rfl (by kernel_rfl)
                      have h117 : act.eval (.tmp 117) = .agg #[.int .i64 vi, .int .i64 vk] := hd 10 _ 117 rfl rfl (by kernel_rfl)
                      have h121 : act.eval (.tmp 121) = .int .i64 vi := hd 14 _ 121 rfl rfl (by kernel_rfl)
                      exact g_call (G := Bel) (f := 3) (args := #[.agg #[.int .i64 1, .int .i64 9223372036854775807], .agg #[.int .i64 vi, .int .i64 vk], .int .i64 vi]) rfl en3 (by simp only [List.map_toArray, List.map_cons, List.map_nil, h116, h117, h121]) (tells_at (1, 9223372036854775807) (vi, vk) (vi) inr1m W hpq),
                      by
                      intro _ act W hS hun hd
                      have h122 : act.eval (.tmp 122) = .bool true := hd 15 _ 122 rfl rfl (by kernel_rfl)
                      exact g_not Grow.ofBelow (c := true) rfl h122 rfl,
                      by
                      intro _ act W hS hun hd
                      have h115 : act.eval (.tmp 115) = .bool false := hd 8 _ 115 rfl rfl (by kernel_rfl)
                      have h123 : act.eval (.tmp 123) = .bool false := hd 16 _ 123 rfl rfl (by kernel_rfl)
                      exact g_pick Grow.ofBelow (c := false) rfl h115 h123 rfl,
                      by
                      intro _ act W hS hun hd
                      have h124 : act.eval (.tmp 124) = .bool false := hd 17 _ 124 rfl rfl (by kernel_rfl)
                      exact g_move Grow.ofBelow (v := .bool false) rfl h124 rfl,
                      by
                      intro _ act W hS hun hd
                      have h10 : act.eval (.tmp 10) = .pointer (some ⟨bx, 0, none⟩) := hun 10 (by kernel_rfl)
                      exact g_load23 Grow.ofBelow rfl h10 (Ext.cell c0 ⟨W, hS⟩) (Ext.cell c1 ⟨W, hS⟩) rfl,
                      by
                      intro _ act W hS hun hd
                      exact e_build2 rfl,
                      by
                      intro _ act W hS hun hd
                      have h10 : act.eval (.tmp 10) = .pointer (some ⟨bx, 0, none⟩) := hun 10 (by kernel_rfl)
                      exact g_load23 Grow.ofBelow rfl h10 (Ext.cell c0 ⟨W, hS⟩) (Ext.cell c1 ⟨W, hS⟩) rfl,
                      by
                      intro _ act W hS hun hd
                      have h127 : act.eval (.tmp 127) = .agg #[.int .i64 3, .int .i64 5] := hd 20 _ 127 rfl rfl (by kernel_rfl)
                      have h128 : act.eval (.tmp 128) = .agg #[.int .i64 vi, .int .i64 vk] := hd 21 _ 128 rfl rfl (by kernel_rfl)
                      exact e_list2 (p := (3, 5)) (q := (vi, vk)) rfl h127 h128 inr35 hpq,
                      by
                      intro _ act W hS hun hd
                      have h126 : act.eval (.tmp 126) = .agg #[.int .i64 vi, .int .i64 vk] := hd 19 _ 126 rfl rfl (by kernel_rfl)
                      have h129 : (Sp.st (lstSt 2)).holds (act.eval (.tmp 129)) W := hd 22 _ 129 rfl rfl (by kernel_rfl)
                      obtain ⟨bl, ll, el, l1, l2, l3⟩ := h129
                      exact g_call (G := Bel) (f := 4) (args := #[.agg #[.int .i64 vi, .int .i64 vk], .slice (some ⟨bl, 0, none⟩) 2 2, .slice none 0 0]) rfl en4 (by simp only [List.map_toArray, List.map_cons, List.map_nil, h126, el]; try rfl) (rows_at (vi, vk) hpq bl 2 ll l1 (by omega) l2 W l3 none [] 0 (by simp) (fun _ => rfl) (by simp) (by omega) (txt_nil _ _)),
                      by
                      intro _ act W hS hun hd
                      have h130 : act.eval (.tmp 130) = .bool true := hd 23 _ 130 rfl rfl (by kernel_rfl)
                      exact g_not Grow.ofBelow (c := true) rfl h130 rfl,
                      by
                      intro _ act W hS hun hd
                      have h125 : act.eval (.tmp 125) = .bool false := hd 18 _ 125 rfl rfl (by kernel_rfl)
                      have h131 : act.eval (.tmp 131) = .bool false := hd 24 _ 131 rfl rfl (by kernel_rfl)
                      exact g_pick Grow.ofBelow (c := false) rfl h125 h131 rfl,
                      by
                      intro _ act W hS hun hd
                      have h132 : act.eval (.tmp 132) = .bool false := hd 25 _ 132 rfl rfl (by kernel_rfl)
                      exact g_move Grow.ofBelow (v := .bool false) rfl h132 rfl,
                      by
                      intro _ act W hS hun hd
                      exact e_build1 rfl,
                      by
                      intro _ act W hS hun hd
                      have h10 : act.eval (.tmp 10) = .pointer (some ⟨bx, 0, none⟩) := hun 10 (by kernel_rfl)
                      exact g_load23 Grow.ofBelow rfl h10 (Ext.cell c0 ⟨W, hS⟩) (Ext.cell c1 ⟨W, hS⟩) rfl,
                      by
                      intro _ act W hS hun hd
                      exact e_build2 rfl,
                      by
                      intro _ act W hS hun hd
                      have h135 : act.eval (.tmp 135) = .agg #[.int .i64 vi, .int .i64 vk] := hd 28 _ 135 rfl rfl (by kernel_rfl)
                      have h136 : act.eval (.tmp 136) = .agg #[.int .i64 2, .int .i64 3] := hd 29 _ 136 rfl rfl (by kernel_rfl)
                      exact e_list2 (p := (vi, vk)) (q := (2, 3)) rfl h135 h136 hpq inr23,
                      by
                      intro _ act W hS hun hd
                      exact e_byte1 (c := 1) (by decide) rfl,
                      by
                      intro _ act W hS hun hd
                      have h134 : act.eval (.tmp 134) = .agg #[.int .i64 0, .int .i64 9223372036854775807] := hd 27 _ 134 rfl rfl (by kernel_rfl)
                      have h137 : (Sp.st (lstSt 2)).holds (act.eval (.tmp 137)) W := hd 30 _ 137 rfl rfl (by kernel_rfl)
                      obtain ⟨bl, ll, el, l1, l2, l3⟩ := h137
                      have h138 : (Sp.st txtSt).holds (act.eval (.tmp 138)) W := hd 31 _ 138 rfl rfl (by kernel_rfl)
                      obtain ⟨ta, ty, tc, et, t1, t2, t3, t4, t5⟩ := h138
                      exact g_call (G := Bel) (f := 4) (args := #[.agg #[.int .i64 0, .int .i64 9223372036854775807], .slice (some ⟨bl, 0, none⟩) 2 2, .slice ta ty.length tc]) rfl en4 (by simp only [List.map_toArray, List.map_cons, List.map_nil, h134, el, et]; try rfl) (rows_at (0, 9223372036854775807) inr0m bl 2 ll l1 (by omega) l2 W l3 ta ty tc t1 t2 t3 t4 t5),
                      by
                      intro _ act W hS hun hd
                      have h139 : act.eval (.tmp 139) = .bool true := hd 32 _ 139 rfl rfl (by kernel_rfl)
                      exact g_not Grow.ofBelow (c := true) rfl h139 rfl,
                      by
                      intro _ act W hS hun hd
                      have h133 : act.eval (.tmp 133) = .bool false := hd 26 _ 133 rfl rfl (by kernel_rfl)
                      have h140 : act.eval (.tmp 140) = .bool false := hd 33 _ 140 rfl rfl (by kernel_rfl)
                      exact g_pick Grow.ofBelow (c := false) rfl h133 h140 rfl,
                      trivial⟩ ?_
                    intro f W hS hf
                    have h141 : f 141 = .bool false := hf 34 _ 141 rfl rfl
                    simp only [putOps]
                    go_simp
                    go_wp2_with fail
                    go_meet
                    exact ⟨rfl, hS⟩
                  case rest =>
                  obtain ⟨rfl, hb4⟩ := hcut
                  have HB4 := Lib.hid (bt HB3.out hb4 HB3.out.size)
                  clear hb4
                  go_wp2_with fail
                  go_roundw
                  case rel => exact ⟨k + 1, by omega, by go_num, HB4.out⟩
                  case measure => simp [intOf]; omega
                · obtain rfl : k = 5 := by omega
                  clear hb2
                  go_wp2_with fail
                  go_roundw
                  case rel => exact ⟨i + 1, by omega, by go_num, HB2.out⟩
                  case measure => simp [intOf]; omega
            · obtain rfl : i = 5 := by omega
              have HBF := Lib.hid (bt HBE.out HB1.out HBE.out.size)
              clear HB1 HBE HE
              go_wp2_with fail
              refine (nested_any none [] 0 (by simp) (by intro z hz; simp at hz) wr (fun h => by simp at h)).mono ?_
              rintro e w5 ⟨rfl, hb5⟩
              have HB5 := Lib.hid (bt HBF.out hb5 HBF.out.size)
              rw [show nestP [] = true by decide]
              clear hb5 HBF
              go_wp2_with fail
              refine (join_any none [] 0 (by simp) w5 (fun h => by simp at h)).mono ?_
              rintro e w6 ⟨rfl, hb6⟩
              have HB6 := Lib.hid (bt HB5.out hb6 HB5.out.size)
              rw [show (joinTo []).2.1 = 0 from rfl, show (joinTo []).2.2 = 0 from rfl]
              clear hb6 HB5
              go_wp2_with fail
              refine (awake_any _).mono ?_
              rintro e w7 ⟨rfl, hb7⟩
              have HB7 := Lib.hid (bt HB6.out hb7 HB6.out.size)
              clear hb7 HB6
              go_wp2_with fail
              go_ret
              exact ⟨rfl, HB7.out⟩
end Go.Proofs.Ytgploogflhfolaa

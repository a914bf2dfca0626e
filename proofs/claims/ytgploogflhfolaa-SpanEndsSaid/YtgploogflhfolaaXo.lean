/- The contract of the document's Nested. -/
import Derived.Test.YtgploogflhfolaaXk
import Derived.Test.YtgploogflhfolaaRy
import Derived.Deep.RegionWith
import Derived.Deep.CutRange
namespace Go.Proofs.Ytgploogflhfolaa
open Go Go.RowKit Go.Shelf
/-- As In has it. -/
def inr (a1 a2 b1 b2 : Int) : Bool := rt a1 a2 && rt b1 b2 && decide (b1 ≤ a1) && decide (a2 ≤ b2)
theorem rin_v (a1 a2 b1 b2 : Int) (w : World) : Calls Try.prog 17 #[.agg #[.int .i64 a1, .int .i64 a2], .agg #[.int .i64 b1, .int .i64 b2]] w fun e w' => e = .returned (.bool (inr a1 a2 b1 b2)) ∧ Below w.heap.size w w' := by
  have h := rin_raw a1 a2 b1 b2 w
  have e : inr a1 a2 b1 b2 = (rt a1 a2 && rt b1 b2 && decide (b1 ≤ a1) && decide (a2 ≤ b2)) := by unfold inr; rfl
  rw [e]; exact h
theorem inr_iff {a1 a2 b1 b2 : Int} : inr a1 a2 b1 b2 = true ↔ 0 ≤ a1 ∧ a1 ≤ a2 ∧ 0 ≤ b1 ∧ b1 ≤ b2 ∧ b1 ≤ a1 ∧ a2 ≤ b2 := by simp [inr, rt]; omega
attribute [irreducible] inr
theorem bad_iff {x1 x2 y1 y2 : Int} (hx : rt x1 x2 = true) (hy : rt y1 y2 = true) :
    (!inr x1 x2 y1 y2 && !inr y1 y2 x1 x2 && ism (x1, x2) (y1, y2) && decide (0 < ln (mee (x1, x2) (y1, y2)).1 (mee (x1, x2) (y1, y2)).2)) = decide (crs (y1, y2) (x1, x2)) := by
  have h1 := rt_iff.1 hx
  have h2 := rt_iff.1 hy
  rw [Bool.eq_iff_iff]
  simp only [Bool.and_eq_true, Bool.not_eq_true', decide_eq_true_eq, Bool.eq_false_iff, ne_eq, inr_iff]
  unfold crs
  dsimp only
  constructor
  · rintro ⟨⟨⟨a, b⟩, c⟩, d⟩
    rw [mee_of c, ln_pos (by show 0 ≤ max x1 y1; omega)] at d
    dsimp only at d
    omega
  · intro h
    have c : ism (x1, x2) (y1, y2) = true := by rw [ism_iff hx hy]; omega
    refine ⟨⟨⟨by omega, by omega⟩, c⟩, ?_⟩
    rw [mee_of c, ln_pos (by show 0 ≤ max x1 y1; omega)]
    show max x1 y1 < min x2 y2
    omega
set_option maxRecDepth 100000 in
set_option maxHeartbeats 4000000 in
theorem rnested_any (A : Option Addr) (l : List (Int × Int)) (c : Nat) (hl : l.length ≤ 65536) (hr : Inrs l) (w : World) (h : Spn w A l) :
    Calls Try.prog 31 #[.slice A l.length c] w fun e w' => e = .returned (.bool (nestP l)) ∧ Below w.heap.size w w' := by
  have HT := Lib.hid h
  have HRR := Lib.hid hr
  have R0 := Lib.hid (fun x y w => rright_any x y w)
  have M0 := Lib.hid rmeet_raw
  have I0 := Lib.hid rin_v
  have L0 := Lib.hid rlen_any
  obtain ⟨RR, eRR⟩ : ∃ r, r = nestP l := ⟨_, rfl⟩
  rw [← eRR]
  have ERR := Lib.hid eRR
  clear h hr eRR
  go_enter Try.func31, Try.ntmps31
  go_wp2_with fail
  go_loopw [3] (fun i wr => ∃ k : Nat, k ≤ l.length ∧ i = .int .i64 k ∧ (l.take k).all (fun x => rt x.1 x.2) = true ∧ (l.take k).Pairwise (fun a b => ¬ crs a b) ∧ Below w.heap.size w wr) (fun i _ => l.length - (intOf i).toNat)
  case atStart => exact ⟨0, by omega, rfl, by simp, by simp, Below.refl _ _⟩
  case round =>
    obtain ⟨k, hk, rfl, hall, hpw, hb⟩ := hrel
    obtain ⟨wa, rfl⟩ : ∃ u, u = wr := ⟨_, rfl⟩
    by_cases hlt : k < l.length
    · have hspw := HT.out.below hb
      obtain ⟨tb, ta, rfl, htl, htc⟩ := hspw (by omega)
      obtain ⟨hc0, hc1⟩ := htc k hlt
      have HTC := Lib.hid htc
      obtain ⟨x, ex⟩ : ∃ x, x = l.getD k (0, 0) := ⟨_, rfl⟩
      have hst := take_succ_getD hlt
      have hxr := HRR.out.getD k hlt
      rw [← ex] at hc0 hc1 hst hxr
      have hxm : x ∈ l := by rw [ex, List.getD_eq_getElem?_getD, List.getElem?_eq_getElem hlt]; simp
      obtain ⟨x1, x2⟩ := x
      dsimp only at hc0 hc1
      have hlt2 : (k : Int) < l.length := by omega
      have R := fun w => R0.out x1 x2 w
      have HB := Lib.hid hb
      have HALL := Lib.hid hall
      have HPW := Lib.hid hpw
      have HST := Lib.hid hst
      have HM := Lib.hid hxm
      have HXR := Lib.hid hxr
      clear htc ex hst hall hpw hb hxm hxr hspw
      cases hrt : rt x1 x2 with
      | false =>
        rw [hrt] at R
        have R := Lib.hid R
        have HRT := Lib.hid hrt
        clear hrt
        go_wp2_with fail
        refine (R.out _).mono ?_
        rintro e w1 ⟨rfl, hb1⟩
        have HB1 := Lib.hid (bt HB.out hb1 HB.out.size)
        clear hb1
        go_wp2_with fail
        go_ret
        refine ⟨?_, HB1.out⟩
        have : l.all (fun x => rt x.1 x.2) = false := by
          rw [List.all_eq_false]; exact ⟨_, HM.out, by simp [HRT.out]⟩
        rw [ERR.out]; simp [nestP, this]
      | true =>
        rw [hrt] at R
        have R := Lib.hid R
        have HRT := Lib.hid hrt
        clear hrt
        go_wp2_with fail
        refine (R.out _).mono ?_
        rintro e w1 ⟨rfl, hb1⟩
        have HB1 := Lib.hid hb1
        have hz1 := hb1.size
        clear hb1
        go_wp2_with fail
        go_loopw [4] (fun j wr => ∃ m : Nat, m ≤ k ∧ j = .int .i64 m ∧ (∀ y ∈ l.take m, ¬ crs y (x1, x2)) ∧ Below wa.heap.size wa wr) (fun j _ => k - (intOf j).toNat)
        case atStart => exact ⟨0, by omega, rfl, by simp, HB1.out⟩
        case round =>
          obtain ⟨m, hm, rfl, hno, hb2⟩ := hrel
          obtain ⟨wb, rfl⟩ : ∃ u, u = wr := ⟨_, rfl⟩
          by_cases hmk : m < k
          · obtain ⟨hd0, hd1⟩ := HTC.out m (by omega)
            have HC0 := Lib.hid hc0
            have HC1 := Lib.hid hc1
            have hc0 := (hb2.cell (p := ⟨tb, ta + k * 2, none⟩) htl).trans hc0
            have hc1 := (hb2.cell (p := ⟨tb, ta + k * 2 + 1, none⟩) htl).trans hc1
            have HD0 := Lib.hid hd0
            have HD1 := Lib.hid hd1
            have hd0 := (hb2.cell (p := ⟨tb, ta + m * 2, none⟩) htl).trans hd0
            have hd1 := (hb2.cell (p := ⟨tb, ta + m * 2 + 1, none⟩) htl).trans hd1
            obtain ⟨y, ey⟩ : ∃ y, y = l.getD m (0, 0) := ⟨_, rfl⟩
            rw [← ey] at hd0 hd1 HD0 HD1
            have hst2 := take_succ_getD (l := l) (show m < l.length by omega)
            rw [← ey] at hst2
            have hyr : rt y.1 y.2 = true := by
              have : y ∈ l.take k := by
                rw [ey, List.getD_eq_getElem?_getD, List.getElem?_eq_getElem (show m < l.length by omega)]
                exact List.mem_take_iff_getElem.2 ⟨m, by omega, rfl⟩
              exact List.all_eq_true.1 HALL.out y this
            have hym : y ∈ l.take k := by
              rw [ey, List.getD_eq_getElem?_getD, List.getElem?_eq_getElem (show m < l.length by omega)]
              exact List.mem_take_iff_getElem.2 ⟨m, by omega, rfl⟩
            have HYM := Lib.hid hym
            clear hym
            obtain ⟨y1, y2⟩ := y
            dsimp only at hd0 hd1 hyr HD0 HD1
            have hbad := bad_iff HRT.out hyr
            obtain ⟨M1, eM1⟩ : ∃ M, M = (mee (x1, x2) (y1, y2)).1 := ⟨_, rfl⟩
            obtain ⟨M2, eM2⟩ : ∃ M, M = (mee (x1, x2) (y1, y2)).2 := ⟨_, rfl⟩
            obtain ⟨is, eis⟩ : ∃ M, M = ism (x1, x2) (y1, y2) := ⟨_, rfl⟩
            have MM := fun w => M0.out x1 x2 y1 y2 w
            rw [← eM1, ← eM2, ← eis] at MM hbad
            have hM2 : M2 < 9223372036854775808 := by
              have := HXR.out.2.2.2
              rw [eM2]
              unfold mee mt
              split
              · dsimp only at this ⊢; omega
              · decide
            have MM := Lib.hid MM
            have HBAD := Lib.hid hbad
            have HNO := Lib.hid hno
            have HST2 := Lib.hid hst2
            have HB2 := Lib.hid hb2
            have hz2 : tb < wb.heap.size := Nat.lt_of_lt_of_le htl hb2.size
            have hmk2 : (m : Int) < k := by omega
            have hml2 : (m : Int) < l.length := by omega
            have hm0 : (0 : Int) ≤ m := by omega
            clear ey hst2 hyr eM1 eM2 eis hbad hno hb2
            go_upto_region 9 with fail
            go_cut [5, 6] from 24 to 35 (fun s5 s6 wx => ∃ b, s5 = .pointer (some ⟨b, 0, none⟩) ∧ Blk wx b #[.int .i64 M1, .int .i64 M2] 23 ∧ s6 = .bool is ∧ Below wa.heap.size wa wx)
            case first =>
              go_region_with (go_at_call 9; refine (MM.out _).mono ?_; rintro e w5 ⟨rfl, hb5⟩; (first | (have kb : Blk w5 wb.heap.size #[.int .i64 0, .int .i64 0] 23 := (Blk.new wb.drew #[.int .i64 0, .int .i64 0] 23).below hb5 (by simp); have q0 := kb.two.1; have q1 := kb.two.2; have qf := fun o => kb.frozen o; have ql := kb.lt) | skip))
              all_goals (go_wp2_with fail)
              all_goals go_meet
              all_goals first
                | exact ⟨_, rfl, Blk.new w5 _ _, rfl, (bt (bdrew (n := 1) HB2.out) hb5 HB2.out.size).alloc (bt (bdrew (n := 1) HB2.out) hb5 HB2.out.size).size _⟩
                | exact ⟨_, rfl, kb.put2, rfl, bput2 (bt ((bdrew (n := 1) HB2.out).alloc HB2.out.size _) hb5 (by have := HB2.out.size; simp; omega)) HB2.out.size⟩
            case rest =>
            obtain ⟨b, rfl, hblk, rfl, hb6⟩ := hcut
            have HB6 := Lib.hid hb6
            have hc0 := (hb6.cell (p := ⟨tb, ta + k * 2, none⟩) htl).trans HC0.out
            have hc1 := (hb6.cell (p := ⟨tb, ta + k * 2 + 1, none⟩) htl).trans HC1.out
            have hd0 := (hb6.cell (p := ⟨tb, ta + m * 2, none⟩) htl).trans HD0.out
            have hd1 := (hb6.cell (p := ⟨tb, ta + m * 2 + 1, none⟩) htl).trans HD1.out
            obtain ⟨g0, g1⟩ := hblk.two
            have d0 := fun e => Ext.cell hc0 e
            have d1 := fun e => Ext.cell hc1 e
            have d2 := fun e => Ext.cell hd0 e
            have d3 := fun e => Ext.cell hd1 e
            have d4 := fun e => Ext.cell g0 e
            have d5 := fun e => Ext.cell g1 e
            clear hb6 hblk hz2
            cases e1 : inr x1 x2 y1 y2 with
            | true =>
              have E1 := Lib.hid e1
              go_wp2_with fail
              refine wp_region_ext (by kernel_rfl) (by kernel_rfl) ?_
              repeat (first | go_big_quiet_step (first | (go_at_call 17; exact Calls.ext_of (I0.out _ _ _ _ _)) | (go_at_call 13; exact Calls.ext_of (L0.out _ _ hM2 _))) | quiet_step (first | (go_at_call 17; exact Calls.ext_of (I0.out _ _ _ _ _)) | (go_at_call 13; exact Calls.ext_of (L0.out _ _ hM2 _))))
              refine wpQuiet_nil ?_
              intro _ hw'
              obtain ⟨⟨w9, hb9⟩, rfl⟩ := hw'
              have HB9 := Lib.hid (bt HB6.out hb9 HB6.out.size)
              clear d0 d1 d2 d3 d4 d5 hb9
              go_wp2_with fail
              have hc : ¬ crs (y1, y2) (x1, x2) := by simpa [E1.out] using HBAD.out
              have HC := Lib.hid hc
              clear hc
              go_roundw
              case rel =>
                refine ⟨m + 1, by omega, by go_num, fun z hz => ?_, HB9.out⟩
                rw [HST2.out] at hz
                rcases List.mem_append.1 hz with hz | hz
                · exact HNO.out z hz
                · rw [List.mem_singleton] at hz; subst hz; exact HC.out
              case measure => simp [intOf]; omega
            | false =>
              have E1 := Lib.hid e1
              cases e2 : inr y1 y2 x1 x2 with
              | true =>
                have E2 := Lib.hid e2
                go_wp2_with fail
                refine wp_region_ext (by kernel_rfl) (by kernel_rfl) ?_
                repeat (first | go_big_quiet_step (first | (go_at_call 17; exact Calls.ext_of (I0.out _ _ _ _ _)) | (go_at_call 13; exact Calls.ext_of (L0.out _ _ hM2 _))) | quiet_step (first | (go_at_call 17; exact Calls.ext_of (I0.out _ _ _ _ _)) | (go_at_call 13; exact Calls.ext_of (L0.out _ _ hM2 _))))
                refine wpQuiet_nil ?_
                intro _ hw'
                obtain ⟨⟨w9, hb9⟩, rfl⟩ := hw'
                have HB9 := Lib.hid (bt HB6.out hb9 HB6.out.size)
                clear d0 d1 d2 d3 d4 d5 hb9
                go_wp2_with fail
                have hc : ¬ crs (y1, y2) (x1, x2) := by simpa [E2.out] using HBAD.out
                have HC := Lib.hid hc
                clear hc
                go_roundw
                case rel =>
                  refine ⟨m + 1, by omega, by go_num, fun z hz => ?_, HB9.out⟩
                  rw [HST2.out] at hz
                  rcases List.mem_append.1 hz with hz | hz
                  · exact HNO.out z hz
                  · rw [List.mem_singleton] at hz; subst hz; exact HC.out
                case measure => simp [intOf]; omega
              | false =>
                have E2 := Lib.hid e2
                cases is with
                | false =>
                  go_wp2_with fail
                  refine wp_region_ext (by kernel_rfl) (by kernel_rfl) ?_
                  repeat (first | go_big_quiet_step (first | (go_at_call 17; exact Calls.ext_of (I0.out _ _ _ _ _)) | (go_at_call 13; exact Calls.ext_of (L0.out _ _ hM2 _))) | quiet_step (first | (go_at_call 17; exact Calls.ext_of (I0.out _ _ _ _ _)) | (go_at_call 13; exact Calls.ext_of (L0.out _ _ hM2 _))))
                  refine wpQuiet_nil ?_
                  intro _ hw'
                  obtain ⟨⟨w9, hb9⟩, rfl⟩ := hw'
                  have HB9 := Lib.hid (bt HB6.out hb9 HB6.out.size)
                  clear d0 d1 d2 d3 d4 d5 hb9
                  go_wp2_with fail
                  have hc : ¬ crs (y1, y2) (x1, x2) := by simpa [] using HBAD.out
                  have HC := Lib.hid hc
                  clear hc
                  go_roundw
                  case rel =>
                    refine ⟨m + 1, by omega, by go_num, fun z hz => ?_, HB9.out⟩
                    rw [HST2.out] at hz
                    rcases List.mem_append.1 hz with hz | hz
                    · exact HNO.out z hz
                    · rw [List.mem_singleton] at hz; subst hz; exact HC.out
                  case measure => simp [intOf]; omega
                | true =>
                  by_cases hn : 0 < ln M1 M2
                  · have E3 := Lib.hid hn
                    go_wp2_with fail
                    refine wp_region_ext (by kernel_rfl) (by kernel_rfl) ?_
                    repeat (first | go_big_quiet_step (first | (go_at_call 17; exact Calls.ext_of (I0.out _ _ _ _ _)) | (go_at_call 13; exact Calls.ext_of (L0.out _ _ hM2 _))) | quiet_step (first | (go_at_call 17; exact Calls.ext_of (I0.out _ _ _ _ _)) | (go_at_call 13; exact Calls.ext_of (L0.out _ _ hM2 _))))
                    refine wpQuiet_nil ?_
                    intro _ hw'
                    obtain ⟨⟨w9, hb9⟩, rfl⟩ := hw'
                    have HB9 := Lib.hid (bt HB6.out hb9 HB6.out.size)
                    clear d0 d1 d2 d3 d4 d5 hb9
                    go_wp2_with fail
                    go_ret
                    have hc : crs (y1, y2) (x1, x2) := by simpa [E1.out, E2.out, E3.out] using HBAD.out
                    have hR : RR = false := by
                      rw [ERR.out]
                      simp only [nestP, Bool.and_eq_false_iff, decide_eq_false_iff_not]
                      right
                      intro hp
                      have h1 : (l.take (k + 1)).Pairwise (fun a b => ¬ crs a b) := hp.sublist (List.take_sublist _ _)
                      rw [HST.out] at h1
                      exact (List.pairwise_append.1 h1).2.2 _ HYM.out _ (by simp) hc
                    exact ⟨by rw [hR]; rfl, bt HB.out HB9.out HB.out.size⟩
                  · have E3 := Lib.hid hn
                    go_wp2_with fail
                    refine wp_region_ext (by kernel_rfl) (by kernel_rfl) ?_
                    repeat (first | go_big_quiet_step (first | (go_at_call 17; exact Calls.ext_of (I0.out _ _ _ _ _)) | (go_at_call 13; exact Calls.ext_of (L0.out _ _ hM2 _))) | quiet_step (first | (go_at_call 17; exact Calls.ext_of (I0.out _ _ _ _ _)) | (go_at_call 13; exact Calls.ext_of (L0.out _ _ hM2 _))))
                    refine wpQuiet_nil ?_
                    intro _ hw'
                    obtain ⟨⟨w9, hb9⟩, rfl⟩ := hw'
                    have HB9 := Lib.hid (bt HB6.out hb9 HB6.out.size)
                    clear d0 d1 d2 d3 d4 d5 hb9
                    go_wp2_with fail
                    have hc : ¬ crs (y1, y2) (x1, x2) := by have h := HBAD.out; rw [decide_eq_false (Int.not_lt.2 E3.out), Bool.and_false] at h; simpa using h
                    have HC := Lib.hid hc
                    clear hc
                    go_roundw
                    case rel =>
                      refine ⟨m + 1, by omega, by go_num, fun z hz => ?_, HB9.out⟩
                      rw [HST2.out] at hz
                      rcases List.mem_append.1 hz with hz | hz
                      · exact HNO.out z hz
                      · rw [List.mem_singleton] at hz; subst hz; exact HC.out
                    case measure => simp [intOf]; omega
          · obtain rfl : m = k := by omega
            have HB2 := Lib.hid (bt HB.out hb2 HB.out.size)
            have HNO := Lib.hid hno
            clear hb2 hno
            go_wp2_with fail
            go_roundw
            case rel =>
              refine ⟨m + 1, by omega, by go_num, by rw [HST.out, List.all_append, HALL.out]; simp [HRT.out], ?_, HB2.out⟩
              rw [HST.out]
              refine List.pairwise_append.2 ⟨HPW.out, by simp, fun y hy z hz => ?_⟩
              rw [List.mem_singleton] at hz; subst hz; exact HNO.out y hy
            case measure => simp [intOf]; omega
    · obtain rfl : k = l.length := by omega
      rw [List.take_length] at hall hpw
      have hR : RR = true := by rw [ERR.out]; simp [nestP]; exact ⟨by simpa using hall, hpw⟩
      have HB := Lib.hid hb
      clear hall hpw hb
      go_wp2_with fail
      go_ret
      exact ⟨by rw [hR]; rfl, HB.out⟩
end Go.Proofs.Ytgploogflhfolaa

/- The law EscapeEnds, walked. -/
import Derived.Test.YtppnacmgdodjoaaDoorWt
import Derived.Test.YtppnacmgdodjoaaDoorRq
namespace Go.Proofs.YtppnacmgdodjoaaDoor
open Go Go.RowKit Go.Maps
theorem reads_true (s : ByteArray) (hz : s.size ≤ 60000) (a p : Int) (ha : -9223372036854775808 ≤ a ∧ a < 9223372036854775808) (w : World) (hT : Tab w) :
    Calls Tryd.prog 12 #[.int .i64 p, .string s, .int .i64 a] w fun e w' => e = .returned (.bool true) ∧ Below w.heap.size w w' :=
  reads_any s (s.data.toList.map UInt8.toNat) a p rfl (by rw [List.length_map, Array.length_toList]; exact hz) ha w hT
/-- The numbers at which texts are read. -/
def eds : Array Value := #[.int .i64 (-9223372036854775808), .int .i64 (-1), .int .i64 0, .int .i64 1, .int .i64 2, .int .i64 3, .int .i64 4, .int .i64 9223372036854775807]
theorem eds_at : ∀ j, j < 8 → ∃ z : Int, eds[j]? = some (.int .i64 z) ∧ -9223372036854775808 ≤ z ∧ z < 9223372036854775808 := by
  intro j hj
  match j, hj with
  | 0, _ => exact ⟨_, rfl, by decide⟩
  | 1, _ => exact ⟨_, rfl, by decide⟩
  | 2, _ => exact ⟨_, rfl, by decide⟩
  | 3, _ => exact ⟨_, rfl, by decide⟩
  | 4, _ => exact ⟨_, rfl, by decide⟩
  | 5, _ => exact ⟨_, rfl, by decide⟩
  | 6, _ => exact ⟨_, rfl, by decide⟩
  | 7, _ => exact ⟨_, rfl, by decide⟩
/-- Six texts made of one byte. -/
def six (S : ByteArray) : Array Value := #[.string S, .string (⟨#[92]⟩ ++ S), .string (⟨#[92, 120]⟩ ++ S ++ ⟨#[97]⟩), .string (⟨#[92, 120, 48]⟩ ++ S), .string (⟨#[92, 120]⟩ ++ S), .string (⟨#[92]⟩ ++ S ++ ⟨#[120, 52, 49]⟩)]
theorem six_at (S : ByteArray) (hS : S.size = 1) : ∀ j, j < 6 → ∃ x : ByteArray, (six S)[j]? = some (.string x) ∧ x.size ≤ 10 := by
  have e : ∀ l : List UInt8, (⟨l.toArray⟩ : ByteArray).size = l.length := fun l => rfl
  intro j hj
  match j, hj with
  | 0, _ => exact ⟨_, rfl, by omega⟩
  | 1, _ => exact ⟨_, rfl, by rw [ByteArray.size_append, hS]; decide⟩
  | 2, _ => exact ⟨_, rfl, by rw [ByteArray.size_append, ByteArray.size_append, hS]; decide⟩
  | 3, _ => exact ⟨_, rfl, by rw [ByteArray.size_append, hS]; decide⟩
  | 4, _ => exact ⟨_, rfl, by rw [ByteArray.size_append, hS]; decide⟩
  | 5, _ => exact ⟨_, rfl, by rw [ByteArray.size_append, ByteArray.size_append, hS]; decide⟩
set_option maxRecDepth 100000 in
set_option maxHeartbeats 8000000 in
theorem ends_law (w : World) (hT : Tab w) : Calls Tryd.prog 4 #[] w fun e w' => e = .returned (.bool true) ∧ Below w.heap.size w w' := by
  have TH := Lib.hid hT
  have ED0 : Blk (w.alloc (.cells eds 3)) w.heap.size eds 3 := Blk.new w _ _
  have ED := Lib.hid ED0
  have B0 := Lib.hid (B1 w (.cells eds 3))
  obtain ⟨w0, ew0⟩ : ∃ w0, w0 = w.alloc (.cells eds 3) := ⟨_, rfl⟩
  have ew1 := ew0
  simp only [eds] at ew1
  rw [← ew0] at ED B0
  clear hT ED0
  go_enter Tryd.func4, Tryd.ntmps4
  go_wp2_with fail
  rw [← ew1]
  clear ew0 ew1
  have SZ0 := ED.out.lt
  go_loopw [2, 3, 4, 5, 6, 7] (fun v2 _ _ _ _ _ wr => ∃ p : Nat, p ≤ 4 ∧ v2 = .int .i64 p ∧ Below w0.heap.size w0 wr) (fun v2 _ _ _ _ _ _ => 4 - (intOf v2).toNat)
  case atStart => exact ⟨0, by omega, rfl, Below.refl _ _⟩
  case round =>
    obtain ⟨p, hp, rfl, hb⟩ := hrel
    have HB := Lib.hid hb
    clear hb
    obtain ⟨wa, rfl⟩ : ∃ u, u = wr := ⟨_, rfl⟩
    by_cases hp4 : p < 4
    · have hp3 : (p : Int) < 4 := by omega
      go_wp2_with fail
      go_loopw [3, 4, 5, 6] (fun v3 _ _ _ wr => ∃ b : Nat, b ≤ 256 ∧ v3 = .int .i64 b ∧ Below wa.heap.size wa wr) (fun v3 _ _ _ _ => 256 - (intOf v3).toNat)
      case atStart => exact ⟨0, by omega, rfl, Below.refl _ _⟩
      case round =>
        obtain ⟨b, hb2, rfl, hb⟩ := hrel
        have HB2 := Lib.hid hb
        clear hb
        obtain ⟨wb, rfl⟩ : ∃ u, u = wr := ⟨_, rfl⟩
        by_cases hb4 : b < 256
        · have hb3 : (b : Int) < 256 := by omega
          have hu : IntKind.u8.wrap (b : Int) = b := u8_in (by omega)
          have hv := fun w => conv1 w b
          have O1 := Lib.hid (fun w => one_any p b hb4 w)
          have O2 := Lib.hid (fun w => rone_any p b hb4 w)
          have hS : (bsv [b]).size = 1 := rfl
          generalize bsv [b] = S at hv hS
          generalize bsv (one p b) = OB at O1 O2
          clear hb4
          obtain ⟨wc, ewc⟩ : ∃ wc, wc = (wb.alloc (.cells #[.int .u8 b] 5)).alloc (.cells (six S) 9) := ⟨_, rfl⟩
          have SX : RowKit.Hid (Blk wc (wb.heap.size + 1) (six S) 9) := Lib.hid (by have h := Blk.new (wb.alloc (.cells #[.int .u8 b] 5)) (six S) 9; rw [World.size_alloc] at h; rw [ewc]; exact h)
          have BC : RowKit.Hid (Below wb.heap.size wb wc) := Lib.hid (by rw [ewc]; exact B2 wb _ _)
          have SA := Lib.hid (six_at S hS)
          simp only [six] at ewc
          go_wp2_with fail
          rw [← ewc]
          clear ewc
          refine (O1.out _).mono ?_
          rintro e wd ⟨rfl, hb1⟩
          have BD := Lib.hid (bb BC.out hb1)
          have SD := Lib.hid (SX.out.below' hb1)
          clear hb1
          go_wp2_with fail
          refine (O2.out _).mono ?_
          rintro e we ⟨rfl, hb1⟩
          have BE := Lib.hid (bb BD.out hb1)
          have SE := Lib.hid (SD.out.below' hb1)
          clear hb1 hv hS hu
          go_wp2_with fail
          go_loopw [6] (fun v6 wr => ∃ i : Nat, i ≤ 6 ∧ v6 = .int .i64 i ∧ Below we.heap.size we wr) (fun v6 _ => 6 - (intOf v6).toNat)
          case atStart => exact ⟨0, by omega, rfl, Below.refl _ _⟩
          case round =>
            obtain ⟨i, hi, rfl, hb⟩ := hrel
            have HB3 := Lib.hid hb
            clear hb
            obtain ⟨wf, rfl⟩ : ∃ u, u = wr := ⟨_, rfl⟩
            by_cases hi4 : i < 6
            · have hi3 : (i : Int) < 6 := by omega
              have BW := Lib.hid (bb (bb (bb (bb B0.out HB.out) HB2.out) BE.out) HB3.out)
              have TW := Lib.hid (TH.out.below BW.out)
              obtain ⟨x, ex, hx⟩ := SA.out i hi4
              obtain ⟨j, ej, hj⟩ : ∃ j, j = (i + b / 16) % 8 ∧ j < 8 := ⟨_, rfl, Nat.mod_lt _ (by omega)⟩
              obtain ⟨z, ez, hz⟩ := eds_at j hj
              have c1 : wf.cell? ⟨wb.heap.size + 1, i, none⟩ = some (.string x) := by rw [(SE.out.below' HB3.out).cell]; exact ex
              have c2 : wf.cell? ⟨w.heap.size, j, none⟩ = some (.int .i64 z) := by rw [(ED.out.below' (bb (bb (bb HB.out HB2.out) BE.out) HB3.out)).cell]; exact ez
              have d1 := fun e => Ext.cell c1 e
              have d2 := fun e => Ext.cell c2 e
              obtain ⟨M, eM⟩ : ∃ M : Int, M = (b % 16 : Nat) := ⟨_, rfl⟩
              obtain ⟨Q, eQ⟩ : ∃ Q : Int, Q = (b / 16 : Nat) := ⟨_, rfl⟩
              obtain ⟨R, eR⟩ : ∃ R : Int, R = (i : Int) + Q := ⟨_, rfl⟩
              have m1 : (b : Int) % 16 = M := by omega
              have m2 : (b : Int).tmod 16 = M := by rw [Int.tmod_eq_emod_of_nonneg (by omega)]; omega
              have q1 : IntKind.i64.wrap ((b : Int) / 16) = Q := (IntWalk.i64_in _ (by omega)).trans (by omega)
              have q2 : IntKind.i64.wrap ((b : Int).tdiv 16) = Q := by rw [Int.tdiv_eq_ediv_of_nonneg (by omega)]; exact q1
              have r1 : IntKind.i64.wrap ((i : Int) + Q) = R := (IntWalk.i64_in _ (by omega)).trans eR.symm
              have s1 : R % 8 = (j : Int) := by omega
              have s2 : R.tmod 8 = (j : Int) := by rw [Int.tmod_eq_emod_of_nonneg (by omega)]; exact s1
              have j3 : (j : Int) < 8 := by omega
              have xs : ¬ 9223372036854775807 < 1 + x.size := by omega
              have G1 : RowKit.Hid (x.size ≤ 60000 ∧ (-9223372036854775808 : Int) ≤ 0 ∧ (0 : Int) < 9223372036854775808) := Lib.hid ⟨by omega, by decide, by decide⟩
              have G2 : RowKit.Hid ((⟨#[97]⟩ ++ x : ByteArray).size ≤ 60000 ∧ -9223372036854775808 ≤ z ∧ z < 9223372036854775808) := Lib.hid ⟨by rw [ByteArray.size_append]; show 1 + x.size ≤ 60000; omega, hz⟩
              have RG := Lib.hid (fun (e : Ext wf) (y : ByteArray) (z : Int) (h : y.size ≤ 60000 ∧ -9223372036854775808 ≤ z ∧ z < 9223372036854775808) => reads_true y h.1 z p h.2 e.val (TW.out.below e.grown))
              clear c1 c2 eM eQ eR ex hx ej hj ez hz hi4
              by_cases hM : M = 0
              · subst hM
                go_wp2_with fail
                refine wp_region_ext (by kernel_rfl) (by kernel_rfl) ?_
                repeat (first | go_big_quiet_step ((go_at_call 12; exact Calls.ext_of (RG.out _ _ _ (by first | exact G1.out | exact G2.out)))) | quiet_step ((go_at_call 12; exact Calls.ext_of (RG.out _ _ _ (by first | exact G1.out | exact G2.out)))))
                refine wpQuiet_nil ?_
                intro _ hw'
                obtain ⟨⟨wg, hbg⟩, rfl⟩ := hw'
                have HBG := Lib.hid (bb HB3.out hbg)
                clear d1 d2 q1 q2 r1 s1 s2 m1 m2 xs hbg
                go_wp2_with fail
                go_roundw
                case rel => exact ⟨i + 1, by omega, by go_num, HBG.out⟩
                case measure => simp [intOf]; omega
              · have hM0 : (M == 0) = false := by simpa using hM
                clear hM
                go_wp2_with fail
                refine wp_region_ext (by kernel_rfl) (by kernel_rfl) ?_
                repeat (first | go_big_quiet_step ((go_at_call 12; exact Calls.ext_of (RG.out _ _ _ (by first | exact G1.out | exact G2.out)))) | quiet_step ((go_at_call 12; exact Calls.ext_of (RG.out _ _ _ (by first | exact G1.out | exact G2.out)))))
                refine wpQuiet_nil ?_
                intro _ hw'
                obtain ⟨⟨wg, hbg⟩, rfl⟩ := hw'
                have HBG := Lib.hid (bb HB3.out hbg)
                clear d1 d2 q1 q2 r1 s1 s2 m1 m2 xs hbg
                go_wp2_with fail
                go_roundw
                case rel => exact ⟨i + 1, by omega, by go_num, HBG.out⟩
                case measure => simp [intOf]; omega
            · obtain rfl : i = 6 := by omega
              have BZ := Lib.hid (bb (bb HB2.out BE.out) HB3.out)
              go_wp2_with fail
              go_roundw
              case rel => exact ⟨b + 1, by omega, by go_num, BZ.out⟩
              case measure => simp [intOf]; omega
        · have hb3 : ¬ (b : Int) < 256 := by omega
          clear hb4
          have BB := Lib.hid (bb HB.out HB2.out)
          go_wp2_with fail
          go_loopw [7] (fun v7 wr => ∃ i : Nat, i ≤ 8 ∧ v7 = .int .i64 i ∧ Below wb.heap.size wb wr) (fun v7 _ => 8 - (intOf v7).toNat)
          case atStart => exact ⟨0, by omega, rfl, Below.refl _ _⟩
          case round =>
            obtain ⟨i, hi, rfl, hb⟩ := hrel
            have HB3 := Lib.hid hb
            clear hb
            obtain ⟨wf, rfl⟩ : ∃ u, u = wr := ⟨_, rfl⟩
            by_cases hi4 : i < 8
            · have hi3 : (i : Int) < 8 := by omega
              have BW := Lib.hid (bb (bb B0.out BB.out) HB3.out)
              have TW := Lib.hid (TH.out.below BW.out)
              obtain ⟨z, ez, hz⟩ := eds_at i hi4
              have c2 : wf.cell? ⟨w.heap.size, i, none⟩ = some (.int .i64 z) := by rw [(ED.out.below' (bb BB.out HB3.out)).cell]; exact ez
              have R1 := Lib.hid (fun w hT => reads_true ⟨#[92, 120, 52]⟩ (by decide) z p hz w hT)
              have R2 := Lib.hid (fun w hT => reads_true ⟨#[]⟩ (by decide) z p hz w hT)
              have EZ := Lib.hid ez
              clear ez hz hi4
              go_wp2_with fail
              refine (R1.out _ TW.out).mono ?_
              rintro e wg ⟨rfl, hb1⟩
              have HG := Lib.hid (bb HB3.out hb1)
              clear hb1
              have c3 : wg.cell? ⟨w.heap.size, i, none⟩ = some (.int .i64 z) := by rw [(ED.out.below' (bb BB.out HG.out)).cell]; exact EZ.out
              clear c2
              go_wp2_with fail
              refine (R2.out _ (TH.out.below (bb (bb B0.out BB.out) HG.out))).mono ?_
              rintro e wh ⟨rfl, hb1⟩
              have HH := Lib.hid (bb HG.out hb1)
              clear hb1 c3
              go_wp2_with fail
              go_roundw
              case rel => exact ⟨i + 1, by omega, by go_num, HH.out⟩
              case measure => simp [intOf]; omega
            · obtain rfl : i = 8 := by omega
              have BZ := Lib.hid (bb BB.out HB3.out)
              go_wp2_with fail
              go_roundw
              case rel => exact ⟨p + 1, by omega, by go_num, BZ.out⟩
              case measure => simp [intOf]; omega
    · obtain rfl : p = 4 := by omega
      go_wp2_with (go_at_call 7; refine (awake_any _).mono ?_; rintro e w1 ⟨rfl, hb1⟩)
      go_ret
      exact ⟨rfl, bb (bb B0.out HB.out) hb1⟩
end Go.Proofs.YtppnacmgdodjoaaDoor

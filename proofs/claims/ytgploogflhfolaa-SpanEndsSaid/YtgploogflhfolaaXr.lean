/- The contract of the document's Join. -/
import Derived.Test.YtgploogflhfolaaXj
import Derived.RegionTactic
namespace Go.Proofs.Ytgploogflhfolaa
open Go Go.RowKit Go.Shelf
set_option maxRecDepth 100000 in
set_option maxHeartbeats 2000000 in
theorem rjoin_any (A : Option Addr) (l : List (Int × Int)) (c : Nat) (hl : l.length ≤ 65536) (w : World) (h : Spn w A l) :
    Calls Try.prog 29 #[.slice A l.length c] w fun e w' => e = .returned (.agg #[.int .i64 (joinTo l).2.1, .int .i64 (joinTo l).2.2]) ∧ Below w.heap.size w w' := by
  have HT := Lib.hid h
  clear h
  obtain ⟨J, eJ⟩ : ∃ J, J = joinTo l := ⟨_, rfl⟩
  rw [← eJ]
  have EJ := Lib.hid eJ
  have R0 := Lib.hid (fun x y w => rright_any x y w)
  clear eJ
  go_enter Try.func29, Try.ntmps29
  go_wp2_with fail
  have B20 := (Blk.new w #[.int .i64 0, .int .i64 0] 23).alloc (.cells #[.int .i64 0, .int .i64 0] 23)
  have B30 := Blk.new2 w (.cells #[.int .i64 0, .int .i64 0] 23) #[.int .i64 0, .int .i64 0] 23
  go_loopw [4, 5] (fun s i wr => ∃ k : Nat, k ≤ l.length ∧ i = .int .i64 k ∧ s = .bool (!(joinTo (l.take k)).1) ∧ Blk wr w.heap.size #[.int .i64 0, .int .i64 0] 23 ∧ Blk wr (w.heap.size + 1) #[.int .i64 (joinTo (l.take k)).2.1, .int .i64 (joinTo (l.take k)).2.2] 23 ∧ Below w.heap.size w wr) (fun _ i _ => l.length - (intOf i).toNat)
  case atStart => exact ⟨0, by omega, rfl, rfl, B20, B30, B2 _ _ _⟩
  case round =>
    obtain ⟨k, hk, rfl, rfl, hB2, hB3, hb⟩ := hrel
    by_cases hlt : k < l.length
    · obtain ⟨tb, to, rfl, htl, htc⟩ := HT.out (by omega)
      obtain ⟨hc0, hc1⟩ := htc k hlt
      have hc0 := (hb.cell (p := ⟨tb, to + k * 2, none⟩) htl).trans hc0
      have hc1 := (hb.cell (p := ⟨tb, to + k * 2 + 1, none⟩) htl).trans hc1
      obtain ⟨x, ex⟩ : ∃ x, x = l.getD k (0, 0) := ⟨_, rfl⟩
      have hst := joinTo_take hlt ex
      rw [← ex] at hc0 hc1
      obtain ⟨x1, x2⟩ := x
      dsimp only at hc0 hc1
      obtain ⟨s, es⟩ : ∃ s, s = joinTo (l.take k) := ⟨_, rfl⟩
      rw [← es] at hB3 hst ⊢
      obtain ⟨sb, s1, s2⟩ := s
      dsimp only at hB3 hst ⊢
      have HST := Lib.hid hst
      have hlt2 : (k : Int) < l.length := by omega
      have HB2 := Lib.hid hB2
      have HB3 := Lib.hid hB3
      have HB := Lib.hid hb
      have hl3 := hB3.lt
      have R := fun w => R0.out x1 x2 w
      clear hst es ex htc hB2 hB3 hb
      cases hr : rt x1 x2 with
      | false =>
        rw [hr] at R
        have R := Lib.hid R
        have HR := Lib.hid hr
        clear hr
        go_wp2_with fail
        refine (R.out _).mono ?_
        rintro e w1 ⟨rfl, hb1⟩
        have HB21 := Lib.hid (HB2.out.below hb1 HB2.out.lt)
        have HB31 := Lib.hid (HB3.out.below hb1 HB3.out.lt)
        have HB1 := Lib.hid (bt HB.out hb1 HB.out.size)
        clear hb1
        go_wp2_with fail
        go_roundw
        case rel => exact ⟨k + 1, by omega, by go_num, by rw [HST.out]; simp [joinS, HR.out], HB21.out, by rw [HST.out]; simpa [joinS, HR.out] using HB31.out, HB1.out⟩
        case measure => simp [intOf]; omega
      | true =>
        rw [hr] at R
        have R := Lib.hid R
        have HR := Lib.hid hr
        clear hr
        go_wp2_with fail
        refine (R.out _).mono ?_
        rintro e w1 ⟨rfl, hb1⟩
        have hB21 := HB2.out.below hb1 HB2.out.lt
        have hB31 := HB3.out.below hb1 HB3.out.lt
        have hbw := hb1
        obtain ⟨d0, d1⟩ := hB31.two
        have htl2 : tb < wr.heap.size := by omega
        have hc0 := (hb1.cell (p := ⟨tb, to + k * 2, none⟩) htl2).trans hc0
        have hc1 := (hb1.cell (p := ⟨tb, to + k * 2 + 1, none⟩) htl2).trans hc1
        have hl31 := hB31.lt
        have f3 := fun o => hB31.frozen o
        have hne1 : tb ≠ w.heap.size + 1 := by omega
        have hne2 : w.heap.size + 1 ≠ tb := by omega
        have HB21 := Lib.hid hB21
        have HB31 := Lib.hid hB31
        clear hB21 hB31 hbw B20 B30
        have HB1 := Lib.hid (bt HB.out hb1 HB.out.size)
        cases sb with
        | false =>
          go_wp2_with fail
          obtain ⟨W, eW⟩ : ∃ W, W = (w1.setCell ⟨w.heap.size + 1, 0, none⟩ (.int .i64 x1)).setCell ⟨w.heap.size + 1, 1, none⟩ (.int .i64 x2) := ⟨_, rfl⟩
          have HW2 : Hid (Blk W w.heap.size #[.int .i64 0, .int .i64 0] 23) := Lib.hid (by rw [eW]; exact HB21.out.else2 (by omega))
          have HW3 : Hid (Blk W (w.heap.size + 1) #[.int .i64 x1, .int .i64 x2] 23) := Lib.hid (by rw [eW]; exact HB31.out.put2)
          have HW1 : Hid (Below w.heap.size w W) := Lib.hid (by rw [eW]; exact bput2 HB1.out (by omega))
          have hbW : Below w.heap.size w1 W := by rw [eW]; exact bput2 (Below.refl _ _) (by omega)
          have hc0 : W.cell? ⟨tb, to + k * 2, none⟩ = some (.int .i64 x1) := (hbW.cell (p := ⟨tb, to + k * 2, none⟩) htl).trans hc0
          have hc1 : W.cell? ⟨tb, to + k * 2 + 1, none⟩ = some (.int .i64 x2) := (hbW.cell (p := ⟨tb, to + k * 2 + 1, none⟩) htl).trans hc1
          rw [← eW]
          clear eW d0 d1 f3 hl31 hbW HB31 HB21 HB1
          have hl32 := HW3.out.lt
          have f3 := fun o => HW3.out.frozen o
          obtain ⟨d0, d1⟩ := HW3.out.two
          go_region
          go_wp2_with fail
          obtain ⟨V, eV⟩ : ∃ V, V = (W.setCell ⟨w.heap.size + 1, 0, none⟩ (.int .i64 (x1))).drew := ⟨_, rfl⟩
          have HV2 : Hid (Blk V w.heap.size #[.int .i64 0, .int .i64 0] 23) := Lib.hid (by rw [eV]; exact (Below.heap_setCell _ _ _ _ (by simp)).trans HW2.out)
          have hbV : Below w.heap.size W V := by rw [eV]; exact bdrew (n := 1) ((Below.refl w.heap.size W).setCell (p := ⟨w.heap.size + 1, 0, none⟩) (by simp) _)
          have HV1 : Hid (Below w.heap.size w V) := Lib.hid (HW1.out.trans hbV)
          have hc0 := (hbV.cell (p := ⟨tb, to + k * 2, none⟩) htl).trans hc0
          have hc1 := (hbV.cell (p := ⟨tb, to + k * 2 + 1, none⟩) htl).trans hc1
          have hV3 : Blk V (w.heap.size + 1) #[.int .i64 (x1), .int .i64 x2] 23 := by rw [eV]; exact HW3.out.set0
          have HV3 := Lib.hid hV3
          rw [← eV]
          clear eV hbV d0 d1 f3 hl32 hV3
          have hl33 := HV3.out.lt
          have f3 := fun o => HV3.out.frozen o
          obtain ⟨d0, d1⟩ := HV3.out.two
          go_region
          go_wp2_with fail
          go_roundw
          case rel => exact ⟨k + 1, by omega, by go_num, by rw [HST.out]; simp [joinS, HR.out], (Below.heap_setCell _ _ _ _ (by simp)).trans HV2.out, by rw [HST.out]; simp [joinS, HR.out]; exact HV3.out.set1, bdrew (n := 1) (HV1.out.setCell (p := ⟨w.heap.size + 1, 1, none⟩) (by simp) _)⟩
          case measure => simp [intOf]; omega
        | true =>
          go_wp2_with fail
          have HW2 := HB21
          have HW3 := HB31
          have HW1 := HB1
          clear d0 d1 f3 hl31
          have hl32 := HW3.out.lt
          have f3 := fun o => HW3.out.frozen o
          obtain ⟨d0, d1⟩ := HW3.out.two
          go_region
          go_wp2_with fail
          obtain ⟨V, eV⟩ : ∃ V, V = (w1.setCell ⟨w.heap.size + 1, 0, none⟩ (.int .i64 (min s1 x1))).drew := ⟨_, rfl⟩
          have HV2 : Hid (Blk V w.heap.size #[.int .i64 0, .int .i64 0] 23) := Lib.hid (by rw [eV]; exact (Below.heap_setCell _ _ _ _ (by simp)).trans HW2.out)
          have hbV : Below w.heap.size w1 V := by rw [eV]; exact bdrew (n := 1) ((Below.refl w.heap.size w1).setCell (p := ⟨w.heap.size + 1, 0, none⟩) (by simp) _)
          have HV1 : Hid (Below w.heap.size w V) := Lib.hid (HW1.out.trans hbV)
          have hc0 := (hbV.cell (p := ⟨tb, to + k * 2, none⟩) htl).trans hc0
          have hc1 := (hbV.cell (p := ⟨tb, to + k * 2 + 1, none⟩) htl).trans hc1
          have hV3 : Blk V (w.heap.size + 1) #[.int .i64 (min s1 x1), .int .i64 s2] 23 := by rw [eV]; exact HW3.out.set0
          have HV3 := Lib.hid hV3
          rw [← eV]
          clear eV hbV d0 d1 f3 hl32 hV3
          have hl33 := HV3.out.lt
          have f3 := fun o => HV3.out.frozen o
          obtain ⟨d0, d1⟩ := HV3.out.two
          go_region
          go_wp2_with fail
          go_roundw
          case rel => exact ⟨k + 1, by omega, by go_num, by rw [HST.out]; simp [joinS, HR.out], (Below.heap_setCell _ _ _ _ (by simp)).trans HV2.out, by rw [HST.out]; simp [joinS, HR.out]; exact HV3.out.set1, bdrew (n := 1) (HV1.out.setCell (p := ⟨w.heap.size + 1, 1, none⟩) (by simp) _)⟩
          case measure => simp [intOf]; omega
    · obtain rfl : k = l.length := by omega
      rw [List.take_length, ← EJ.out] at hB3
      rw [List.take_length, ← EJ.out]
      obtain ⟨jb, j1, j2⟩ := J
      dsimp only at hB3 ⊢
      obtain ⟨d0, d1⟩ := hB3.two
      have f2 := fun o => hB2.frozen o
      have hl2 := hB2.lt
      have HB2 := Lib.hid hB2
      have HB := Lib.hid hb
      obtain ⟨c0, c1⟩ := hB2.two
      clear hB2 hB3 hb
      go_wp2_with fail
      (try simp only [Exit.inBlock, Exit.then])
      refine bodyPost_ret (v := .agg #[.int .i64 j1, .int .i64 j2]) ?_ rfl ⟨rfl, bput2 HB.out (Nat.le_refl _)⟩
      have hp := HB2.out.put2 (u := .int .i64 j1) (v := .int .i64 j2)
      exact results_cell_row (P := Try.prog) rfl _ _ w.heap.size 23 #[.int .i64 j1, .int .i64 j2] (0, 0) _ rfl hp Try.underlying23 rfl (by kernel_rfl)
end Go.Proofs.Ytgploogflhfolaa

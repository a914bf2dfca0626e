/- The document's Runs. -/
import Derived.Test.YtcnikeeapillnaaDoorMr
import Derived.Test.YtcnikeeapillnaaDoorXg
namespace Go.Proofs.YtcnikeeapillnaaDoor
open Go Go.RowKit
set_option maxRecDepth 100000 in
set_option maxHeartbeats 2000000 in
theorem rruns_any (s : Nat → Bool) (w : World) :
    Calls Tryd.prog 22 #[.agg #[.int .u64 (wd s 0), .int .u64 (wd s 1), .int .u64 (wd s 2), .int .u64 (wd s 3)]] w fun e W' => ∃ v, e = .returned v ∧ W'.ownsRow w.heap.size 38 2 v (runsOf (elems s 256)).length (rcells (runsOf (elems s 256))) ∧ Below w.heap.size w W' := by
  obtain ⟨i0, hi, hz0, hz1, hz2⟩ := info_parts Tryd.info38
  have R := Lib.hid (fun x h W => rhas_any s x W h)
  have hB := (Blk.new w #[.int .u64 (wd s 0), .int .u64 (wd s 1), .int .u64 (wd s 2), .int .u64 (wd s 3)] 25)
  have HB0 := Lib.hid hB
  clear hB
  go_enter Tryd.func22, Tryd.ntmps22
  go_wp2_with fail
  go_loopw [3, 4] (fun v i wr => ∃ p : Nat, p ≤ 256 ∧ i = .int .i64 p ∧ wr.ownsRow (w.heap.size + 1) 38 2 v (runsOf (elems s p)).length (rcells (runsOf (elems s p))) ∧ Blk wr w.heap.size #[.int .u64 (wd s 0), .int .u64 (wd s 1), .int .u64 (wd s 2), .int .u64 (wd s 3)] 25 ∧ Below w.heap.size w wr) (fun _ i _ => 256 - (intOf i).toNat)
  case atStart => exact ⟨0, by omega, rfl, World.ownsRow_nil _ _ _ _, HB0.out, (Below.refl _ _).alloc (Nat.le_refl _) _⟩
  case round =>
    clear HB0
    obtain ⟨p, hp, rfl, hown, hbl, hb⟩ := hrel
    obtain ⟨⟨c0, c1, c2, c3⟩, _⟩ := hbl.four
    have HO := Lib.hid hown
    have HL := Lib.hid hbl
    have HB := Lib.hid hb
    clear hown hbl hb
    by_cases hlt : p < 256
    · have hlt2 : (p : Int) < 256 := by omega
      have hw : IntKind.u8.wrap (p : Int) = p := IntWalk.u8_in _ (by omega)
      cases hs : s p with
      | false =>
        have R1 : ∀ W, Calls Tryd.prog 18 #[.agg #[.int .u64 (wd s 0), .int .u64 (wd s 1), .int .u64 (wd s 2), .int .u64 (wd s 3)], .int .u8 p] W fun e w' => e = .returned (.bool false) ∧ Below W.heap.size W w' := fun W => by rw [← hs]; exact R.out p hlt W
        have R2 := Lib.hid R1
        have HR := Lib.hid (runs_no hs)
        clear R1 hs
        go_wp2_with fail
        refine (R2.out _).mono ?_
        rintro e w1 ⟨rfl, hb1⟩
        go_wp2_with fail
        go_roundw
        case rel => exact ⟨p + 1, by omega, by go_num, by rw [HR.out]; exact ownsRow_below HO.out hb1, HL.out.below hb1 HL.out.lt, HB.out.trans (hb1.mono HB.out.size)⟩
        case measure => first | (simp [intOf]; done) | (simp [intOf]; omega)
      | true =>
        have R1 : ∀ W, Calls Tryd.prog 18 #[.agg #[.int .u64 (wd s 0), .int .u64 (wd s 1), .int .u64 (wd s 2), .int .u64 (wd s 3)], .int .u8 p] W fun e w' => e = .returned (.bool true) ∧ Below W.heap.size W w' := fun W => by rw [← hs]; exact R.out p hlt W
        have R2 := Lib.hid R1
        have HS := Lib.hid hs
        clear R1 hs
        go_wp2_with fail
        refine (R2.out _).mono ?_
        rintro e w1 ⟨rfl, hb1⟩
        have HO1 := Lib.hid (ownsRow_below HO.out hb1)
        have HL1 := Lib.hid (HL.out.below hb1 HL.out.lt)
        have HB1 := Lib.hid (HB.out.trans (hb1.mono HB.out.size))
        obtain ⟨⟨c0, c1, c2, c3⟩, _⟩ := HL1.out.four
        clear hb1
        by_cases hlong : 0 < p ∧ s (p - 1) = true
        · obtain ⟨hp0, hs1⟩ := hlong
          have hp1 : (1 : Int) ≤ p := by omega
          have R3 : ∀ W, Calls Tryd.prog 18 #[.agg #[.int .u64 (wd s 0), .int .u64 (wd s 1), .int .u64 (wd s 2), .int .u64 (wd s 3)], .int .u8 (p - 1 : Nat)] W fun e w' => e = .returned (.bool true) ∧ Below W.heap.size W w' := fun W => by rw [← hs1]; exact R.out (p - 1) (by omega) W
          have ep : ((p - 1 : Nat) : Int) = (p : Int) - 1 := by omega
          rw [ep] at R3
          have R4 := Lib.hid R3
          clear ep
          obtain ⟨q, a, h1, h2⟩ := ref_long hlt hp0 HS.out hs1
          have H2 := Lib.hid h2
          have ho := HO1.out
          rw [h1] at ho
          have hlen : (q ++ [(a, p - 1)]).length = q.length + 1 := by simp
          rw [hlen] at ho
          obtain ⟨g, cap, rfl⟩ := ownsRow_succ ho
          have HO2 := Lib.hid ho
          have hle := runsOf_length (elems s p)
          have hle2 := elems_le s p
          rw [h1, hlen] at hle
          have hgl := ho.lt g rfl
          clear R3 hs1 h1 h2 ho hlen
          have hd : decide (0 < (p : Int)) = true := by simp; omega
          go_wp2_with fail
          refine (R4.out _).mono ?_
          rintro e w2 ⟨rfl, hb2⟩
          have ho := ownsRow_below HO2.out hb2
          have hcell := (ho.cellAt (q.length * 2 + 1) (by omega)).trans (rcells_last q a (p - 1))
          have hfr := ho.frozenAt (q.length * 2 + 1)
          have hst := ho.stored (q.length * 2 + 1) (.int .u8 (p : Int))
          rw [rcells_set] at hst
          have HST := Lib.hid hst
          have HL2 := Lib.hid (HL1.out.below hb2 HL1.out.lt)
          have HB2 := Lib.hid (HB1.out.trans (hb2.mono HB1.out.size))
          clear hst ho hb2
          generalize ((p - 1 : Nat) : Int) = pv at hcell
          have hq1 : (0 : Int) ≤ q.length := by omega
          go_wp2_with fail
          go_roundw
          case rel => exact ⟨p + 1, by omega, by go_num, by rw [H2.out]; simpa using HST.out.1, (Below.heap_setCell _ _ _ _ (by show w.heap.size ≠ g; omega)).trans HL2.out, HB2.out.setCell (p := ⟨g, q.length * 2 + 1, none⟩) (by show w.heap.size ≤ g; omega) _⟩
          case measure => first | (simp [intOf]; done) | (simp [intOf]; omega)
        · have hnew : p = 0 ∨ s (p - 1) = false := by
            rcases Nat.eq_zero_or_pos p with h | h
            · exact .inl h
            · right
              cases hq : s (p - 1) with
              | false => rfl
              | true => exact absurd ⟨h, hq⟩ hlong
          have HN := Lib.hid (ref_new hlt HS.out hnew)
          have hle := runsOf_length (elems s p)
          have hle2 := elems_le s p
          clear hlong
          by_cases h0 : p = 0
          · subst h0
            clear hnew
            have WXe : ∃ WX, WX = w1 := ⟨_, rfl⟩
            obtain ⟨WX, rfl⟩ := WXe
            have HX := HO1; have HLX := HL1; have HBX := HB1
            clear HO1 HL1 HB1
            go_wp2_with (at_builtin; refine wpList_append_own _ rfl _ _ 30 rfl (w.heap.size + 1) 38 i0 (.agg #[.int .u8 0, .int .u8 0]) 2 2 Tryd.underlying30 hi hz0 hz1 hz2 rfl (by decide) _ _ _ rfl (HX.out.alloc _) ⟨WX.heap.size, 0, none⟩ 1 1 [.int .u8 ((0 : Nat) : Int), .int .u8 ((0 : Nat) : Int)] rfl rfl (cell_two_new _ _ _ _) (by simp [Value.oneCell']) (by unfold maxLen; omega) (by omega) (by have := HBX.out.size; have := HLX.out.lt; simp; omega) ?_; intro v' w3 hown' hgrow _)
            go_roundw
            case rel => exact ⟨0 + 1, by omega, by go_num, by rw [HN.out, List.length_append, rcells_app]; simpa [rcells_one] using hown', (hgrow.block _ ((HLX.out.alloc _).lt) (fun e => by have := HX.out.lt _ e.symm; omega)).trans (HLX.out.alloc _), (HBX.out.alloc HBX.out.size _).grown hgrow (by have := HBX.out.size; simp; omega) (fun r e => by have := (HX.out.lt r e).1; omega)⟩
            case measure => first | (simp [intOf]; done) | (simp [intOf]; omega)
          · have hs1 : s (p - 1) = false := by rcases hnew with h | h; exact absurd h h0; exact h
            have hp1 : (1 : Int) ≤ p := by omega
            have R3 : ∀ W, Calls Tryd.prog 18 #[.agg #[.int .u64 (wd s 0), .int .u64 (wd s 1), .int .u64 (wd s 2), .int .u64 (wd s 3)], .int .u8 (p - 1 : Nat)] W fun e w' => e = .returned (.bool false) ∧ Below W.heap.size W w' := fun W => by rw [← hs1]; exact R.out (p - 1) (by omega) W
            have ep : ((p - 1 : Nat) : Int) = (p : Int) - 1 := by omega
            rw [ep] at R3
            have R4 := Lib.hid R3
            have hd : decide (0 < (p : Int)) = true := by simp; omega
            clear R3 ep hs1 hnew h0
            go_wp2_with fail
            refine (R4.out _).mono ?_
            rintro e WX ⟨rfl, hb2⟩
            have HX := Lib.hid (ownsRow_below HO1.out hb2)
            have HLX := Lib.hid (HL1.out.below hb2 HL1.out.lt)
            have HBX := Lib.hid (HB1.out.trans (hb2.mono HB1.out.size))
            clear hb2 HO1 HL1 HB1
            go_wp2_with (at_builtin; refine wpList_append_own _ rfl _ _ 30 rfl (w.heap.size + 1) 38 i0 (.agg #[.int .u8 0, .int .u8 0]) 2 2 Tryd.underlying30 hi hz0 hz1 hz2 rfl (by decide) _ _ _ rfl (HX.out.alloc _) ⟨WX.heap.size, 0, none⟩ 1 1 [.int .u8 (p : Int), .int .u8 (p : Int)] rfl rfl (cell_two_new _ _ _ _) (by simp [Value.oneCell']) (by unfold maxLen; omega) (by omega) (by have := HBX.out.size; have := HLX.out.lt; simp; omega) ?_; intro v' w3 hown' hgrow _)
            go_roundw
            case rel => exact ⟨p + 1, by omega, by go_num, by rw [HN.out, List.length_append, rcells_app]; simpa [rcells_one] using hown', (hgrow.block _ ((HLX.out.alloc _).lt) (fun e => by have := HX.out.lt _ e.symm; omega)).trans (HLX.out.alloc _), (HBX.out.alloc HBX.out.size _).grown hgrow (by have := HBX.out.size; simp; omega) (fun r e => by have := (HX.out.lt r e).1; omega)⟩
            case measure => first | (simp [intOf]; done) | (simp [intOf]; omega)
    · obtain rfl : p = 256 := by omega
      go_wp2_with fail
      go_ret
      refine ⟨_, rfl, ?_, HB.out⟩
      obtain ⟨h1, h2⟩ := HO.out
      refine ⟨h1, ?_⟩
      rcases h2 with h2 | ⟨g, cap, cur, a1, a2, a3⟩
      · exact .inl h2
      · exact .inr ⟨g, cap, cur, a1, by omega, a3⟩
end Go.Proofs.YtcnikeeapillnaaDoor

/- The law SortAlone. -/
import Derived.Test.YtmlaepbmdfmgbaaGreatS8
import Derived.Deep.RegionHeld3
set_option linter.unusedSimpArgs false
set_option linter.unusedVariables false
namespace Go.Proofs.YtmlaepbmdfmgbaaGreat
open Go Go.RowKit Go.Maps
theorem body14R_any (g : Gr) (hR : Right g) (hc : Capd g) (hkl : ∀ x ∈ g.nodes, x.kids.length ≤ 1000) (q : Nat) (hq : q < g.rules.length) (w : World) (hg : Gr.At w g) (hin : Gr.In g) : Calls Tryz.prog 22 #[.agg #[.slice g.RA g.rules.length g.rc, .slice g.NA g.nodes.length g.nc], .int .i64 q] w fun e w' => ∃ A' c' fr s l', e = .returned (.slice A' l'.length c') ∧ (g.rules.getD q Rl.zero).body = (fr : Nat) ∧ (measOf g fr).1 = (s : Nat) ∧ fr + s ≤ g.nodes.length ∧ l'.map Nd.kz = partK g fr s ∧ l'.length ≤ g.nodes.length ∧ Owd w w' (.slice A' l'.length c') l' 2048 ∧ (A' = none → c' = 0) ∧ Below w.heap.size w w' := by
  refine Calls.mono (body12_any g hR hc hkl q hq w hg hin) ?_
  rintro e w' ⟨A', c', fr, s, l', rfl, f1, f2, f3, f4, f5, f6, hb⟩
  exact ⟨A', c', fr, s, l', rfl, f1, f2, f3, f4.kz, by rw [f4.1]; simp; omega, f5, f6, hb⟩
set_option maxRecDepth 100000 in
set_option maxHeartbeats 16000000 in
theorem alone_law (g : Gr) (n : Int) (hn : -9223372036854775808 ≤ n ∧ n < 9223372036854775808) (w : World) (hg : Gr.At w g) (hin : Gr.In g) (hc : Capd g) : Calls Tryz.prog 6 #[g.val, .int .i64 n] w fun e w' => e = .returned (.bool true) ∧ Below w.heap.size w w' := by
  obtain ⟨i0, hi, hz0, hz1, hz2⟩ := info_parts Tryz.info_nl
  have HG := Lib.hid hg
  have SZ := Lib.hid (fun (w' : World) (b : Below w.heap.size w w') => size12_all g w' (hg.below b))
  have RI := Lib.hid (fun (w' : World) (b : Below w.heap.size w w') => right_all g w' (hg.below b) hin)
  have HIN := Lib.hid (And.intro hin hc)
  have PK := Lib.hid (fun (h1 : 1 ≤ g.rules.length) (h2 : g.rules.length ≤ 32) (W : World) => pick_any n g.rules.length hn (by omega) W)
  have hnl := hg.nl
  have hrl := hg.rl
  clear hg hin hc hn
  show Calls Tryz.prog 6 #[.agg #[.slice g.RA g.rules.length g.rc, .slice g.NA g.nodes.length g.nc], .int .i64 n] w _
  go_enter Tryz.func6, Tryz.ntmps6
  go_wp2_with fail
  refine (sawake_any _).mono ?_
  rintro e w1 ⟨rfl, hb⟩
  have K1 := Lib.hid ((Blk.new w #[.slice g.RA g.rules.length g.rc, .slice g.NA g.nodes.length g.nc] 31).below' hb)
  have H1 := Lib.hid (bb (B1 w _) hb)
  have a0 := K1.out.cell 0
  have a1 := K1.out.cell 1
  simp only [List.getElem?_toArray, List.getElem?_cons_zero, List.getElem?_cons_succ] at a0 a1
  clear hb
  go_wp2_with fail
  refine (SZ.out _ H1.out).mono ?_
  rintro e w2 ⟨⟨z, rfl, hzz⟩, hb⟩
  have HZ := Lib.hid hzz
  have K2 := Lib.hid (K1.out.below' hb)
  have H2 := Lib.hid (bb H1.out hb)
  clear hb a0 a1 hzz
  by_cases hz : 300 < z
  · go_wp2_with fail
    go_ret
    exact ⟨rfl, H2.out⟩
  · have hz2' : ¬ 300 < z := hz
    have b0 := K2.out.cell 0
    have b1 := K2.out.cell 1
    simp only [List.getElem?_toArray, List.getElem?_cons_zero, List.getElem?_cons_succ] at b0 b1
    go_wp2_with fail
    refine (RI.out _ H2.out).mono ?_
    rintro e w3 ⟨rfl, hb⟩
    have K3 := Lib.hid (K2.out.below' hb)
    have H3 := Lib.hid (bb H2.out hb)
    clear hb b0 b1 K1 K2 H1 H2 SZ RI
    have b0 := K3.out.cell 0
    have b1 := K3.out.cell 1
    simp only [List.getElem?_toArray, List.getElem?_cons_zero, List.getElem?_cons_succ] at b0 b1
    cases hr : rightB g with
    | false =>
      clear hr
      go_wp2_with fail
      go_ret
      exact ⟨rfl, H3.out⟩
    | true =>
      have hR := rightB_true.1 hr
      have HR := Lib.hid hR
      have h32 := hR.rules.2
      have h1r := hR.rules.1
      have ZZ := Lib.hid (HZ.out (by omega))
      have BX := Lib.hid (fun (q : Nat) (hq : q < g.rules.length) (W : World) (h : Gr.At W g) => body14R_any g hR HIN.out.2 (fun x hx => by have := ZZ.out.2 x hx; omega) q hq W h HIN.out.1)
      have OX := Lib.hid (fun (i : Nat) (hi : i < g.rules.length) (W : World) (h : Gr.At W g) => sOfR_any g i hi W h HIN.out.1 HIN.out.2 hR)
      have HX := Lib.hid (fun (m : Int) (W : World) (h : Gr.At W g) => show Calls Tryz.prog 26 #[.agg #[.slice g.RA g.rules.length g.rc, .slice g.NA g.nodes.length g.nc], .int .i64 m] W (fun e w' => e = .returned (.int .i64 (measOf g m).2) ∧ Below W.heap.size W w') from height_of g m W h HIN.out.1)
      have P3 := Lib.hid (PK.out h1r h32 w3)
      have hc0 : 0 ≤ n % (g.rules.length : Int) ∧ n % (g.rules.length : Int) < g.rules.length := ⟨Int.emod_nonneg _ (by omega), Int.emod_lt_of_pos _ (by omega)⟩
      obtain ⟨c, ec⟩ : ∃ c : Nat, n % (g.rules.length : Int) = c := ⟨(n % (g.rules.length : Int)).toNat, by omega⟩
      rw [ec] at P3 hc0
      have hcR : c < g.rules.length := by omega
      clear hr hR HZ hc0 ec PK
      obtain ⟨R, eR⟩ : ∃ R, R = g.rules.length := ⟨_, rfl⟩
      have ER := Lib.hid eR
      rw [← eR] at h32 h1r hrl b0 BX OX HX K3 P3 hcR
      clear eR
      go_wp2_with fail
      refine P3.out.mono ?_
      rintro e w4 ⟨rfl, rfl⟩
      clear P3
      go_wp2_with fail
      go_loopw [6, 7, 8] (fun v ix _ wr => ∃ (i : Nat) (bs : List Bdy), i ≤ R ∧ ix = .int .i64 i ∧ AL g w wr v i c R bs) (fun _ ix _ _ => R - (intOf ix).toNat)
      case atStart => exact ⟨0, [], by omega, rfl, K3.out, RB.nil _ _ _ H3.out, rfl, fun j hj => by omega⟩
      case round =>
        obtain ⟨i, bs, hi', rfl, hab⟩ := hrel
        have c0 := hab.ka.cell 0
        have c1 := hab.ka.cell 1
        simp only [List.getElem?_toArray, List.getElem?_cons_zero, List.getElem?_cons_succ] at c0 c1
        have AX := Lib.hid hab
        clear hab b0 b1
        by_cases hlt : i < R
        · have hlt2 : (i : Int) < R := by omega
          have B0 := Lib.hid (BX.out i hlt wr (HG.out.below AX.out.r1.low))
          go_wp2_with fail
          refine B0.out.mono ?_
          rintro e w5 ⟨A', c', fr, s, l', rfl, f1, f2, f3, f4, f4', f5, f6, hb4⟩
          have F := Lib.hid (And.intro f1 (And.intro f2 (And.intro f3 (And.intro f4 f6))))
          have BO := Lib.hid f5
          have P4 := Lib.hid hb4
          have hl300 : l'.length ≤ 300 := by have := ZZ.out.1; omega
          clear f1 f2 f3 f4 f4' f5 f6 hb4 c0 c1 B0
          by_cases hic : i = c
          · have hic2 : (i : Int) = c := by omega
            obtain rfl : i = c := hic
            go_wp2_with fail
            refine (leaf_full 2 w5).mono ?_
            rintro e w6 ⟨A1, c1, L1, rfl, k1, o1, s1, n1, hb5⟩
            have hL1 : L1.length ≤ 1000 := by have := congrArg List.length k1; simp at this; omega
            have P5 := Lib.hid (bb P4.out hb5)
            have P5b := Lib.hid hb5
            have BO5 := Lib.hid ((BO.out.below hb5).bod (by omega))
            have CH := Lib.hid (chain_full A1 c1 L1 A' c' l' 100000 w6 ((o1.bod s1).mono (by omega)) (BO5.out.mono (by omega)) n1 F.out.2.2.2.2 hL1 (by omega) (by omega))
            rw [k1, F.out.2.2.2.1] at CH
            clear k1 o1 s1 n1 hb5
            go_wp2_with fail
            refine CH.out.mono ?_
            rintro e w8 ⟨A2, c2, L2, rfl, k2, o2, s2, n2, hb6⟩
            have hPl : (partK g fr s).length ≤ 300 := by have h := congrArg List.length F.out.2.2.2.1; rw [List.length_map] at h; omega
            have hL2 : L2.length ≤ 1000 := by
              have := congrArg List.length k2
              rw [hard_eq] at this
              simp at this
              omega
            have P6 := Lib.hid (bb P5.out hb6)
            have OB6 := Lib.hid (show Owd w w8 (bcell (A2, c2, L2)) L2 200000 from o2.lower (AX.out.r1.low.trans (P5.out.mono AX.out.r1.low.size)))
            have KZ2 := Lib.hid (show L2.map Nd.kz = altK g i i fr s from by unfold altK; rw [if_pos rfl]; exact k2)
            have N2 := Lib.hid n2
            have R16 := Lib.hid (AX.out.r1.below P6.out)
            have hs60 : bs.length ≤ 32 := by have := AX.out.l1; omega
            clear k2 o2 s2 n2 hb6 CH
            go_wp2_with (at_builtin; refine wpList_append_own_at _ rfl _ _ 44 rfl w.heap.size 29 i0 (.slice none 0 0) 1 24 Tryz.underlying_nll hi hz0 hz1 hz2 rfl (by decide) _ _ _ rfl (R16.out.row.alloc _) ⟨w8.heap.size, 0, none⟩ 1 1 [.slice A2 L2.length c2] rfl rfl (cell_one_new _ _ _) (by simp [Value.oneCell']) (by unfold maxLen; omega) (by omega) (by have := R16.out.low.size; simp; omega) ?_; intro v1' w7 hown hgrow hnil hblk; have O7 := Lib.hid hown; have G7 := Lib.hid hgrow; clear hown hgrow hnil hblk)
            have AB6 := Lib.hid (B1 w8 (.cells #[.slice A2 L2.length c2] 29))
            have R17 := Lib.hid ((R16.out.below AB6.out).add (b := (A2, c2, L2)) (OB6.out.below AB6.out) hL2 N2.out O7.out G7.out)
            have KA7 := Lib.hid (show Blk w7 w.heap.size #[.slice g.RA R g.rc, .slice g.NA g.nodes.length g.nc] 31 from by
              have h6 := (AX.out.ka.below' P6.out).alloc (.cells #[.slice A2 L2.length c2] 29)
              exact h6.grown G7.out (fun e => own_ne (R16.out.row.alloc _) h6 (by decide) (by exact e.symm)))
            go_roundw
            case rel => exact ⟨i + 1, bs ++ [(A2, c2, L2)], by omega, by go_num, AX.out.more _ KA7.out R17.out F.out.1 F.out.2.1 F.out.2.2.1 KZ2.out⟩
            case measure => simp [intOf]; omega
          · have hic2 : ¬ (i : Int) = c := by omega
            have P6 := Lib.hid P4.out
            have hL2 : l'.length ≤ 1000 := by omega
            have OB6 := Lib.hid (show Owd w w5 (bcell (A', c', l')) l' 200000 from (BO.out.lower AX.out.r1.low).monoK (by omega))
            have KZ2 := Lib.hid (show l'.map Nd.kz = altK g c i fr s from by unfold altK; rw [if_neg hic]; exact F.out.2.2.2.1)
            have N2 := Lib.hid F.out.2.2.2.2
            have R16 := Lib.hid (AX.out.r1.below P6.out)
            have hs60 : bs.length ≤ 32 := by have := AX.out.l1; omega
            clear hic
            go_wp2_with (at_builtin; refine wpList_append_own_at _ rfl _ _ 44 rfl w.heap.size 29 i0 (.slice none 0 0) 1 24 Tryz.underlying_nll hi hz0 hz1 hz2 rfl (by decide) _ _ _ rfl (R16.out.row.alloc _) ⟨w5.heap.size, 0, none⟩ 1 1 [.slice A' l'.length c'] rfl rfl (cell_one_new _ _ _) (by simp [Value.oneCell']) (by unfold maxLen; omega) (by omega) (by have := R16.out.low.size; simp; omega) ?_; intro v1' w7 hown hgrow hnil hblk; have O7 := Lib.hid hown; have G7 := Lib.hid hgrow; clear hown hgrow hnil hblk)
            have AB6 := Lib.hid (B1 w5 (.cells #[.slice A' l'.length c'] 29))
            have R17 := Lib.hid ((R16.out.below AB6.out).add (b := (A', c', l')) (OB6.out.below AB6.out) hL2 N2.out O7.out G7.out)
            have KA7 := Lib.hid (show Blk w7 w.heap.size #[.slice g.RA R g.rc, .slice g.NA g.nodes.length g.nc] 31 from by
              have h6 := (AX.out.ka.below' P6.out).alloc (.cells #[.slice A' l'.length c'] 29)
              exact h6.grown G7.out (fun e => own_ne (R16.out.row.alloc _) h6 (by decide) (by exact e.symm)))
            go_roundw
            case rel => exact ⟨i + 1, bs ++ [(A', c', l')], by omega, by go_num, AX.out.more _ KA7.out R17.out F.out.1 F.out.2.1 F.out.2.2.1 KZ2.out⟩
            case measure => simp [intOf]; omega
        · obtain rfl : R = i := by omega
          have hlt2 : ¬ (R : Int) < R := by omega
          obtain ⟨BA, bc, ev, _, _⟩ := own_slice AX.out.r1.row
          have HB5 := Lib.hid (show RB w wr (.slice BA bs.length bc) bs 200000 from by have := AX.out.r1; rw [ev] at this; exact this)
          have BLN := Lib.hid AX.out.l1
          have GF := Lib.hid (gram_full BA bs bc 200000 wr HB5.out.bds (by have := BLN.out; omega) (by omega))
          rw [BLN.out] at GF ev
          obtain ⟨bl, ebl⟩ : ∃ u, u = bs.map fun b => b.2.2.map Nd.kz := ⟨_, rfl⟩
          have BH := Lib.hid (show bl.length = R ∧ ∀ j, j < R → ∃ fr s : Nat, (g.rules.getD j Rl.zero).body = fr ∧ (measOf g fr).1 = s ∧ fr + s ≤ g.nodes.length ∧ bl.getD j [] = altK g c j fr s from by
            refine ⟨by rw [ebl, List.length_map]; exact BLN.out, fun j hj => ?_⟩
            obtain ⟨fr, s, f1, f2, f3, f4⟩ := AX.out.h1 j hj
            refine ⟨fr, s, f1, f2, f3, ?_⟩
            rw [ebl, ← f4]
            have hjl : j < bs.length := by rw [BLN.out]; exact hj
            simp [List.getD, List.getElem?_eq_getElem hjl])
          rw [← ebl] at GF
          subst ev
          clear ebl
          go_upto_region 15 with (first | (go_at_call 25; (with_reducible refine GF.out.mono ?_); rintro e w6 ⟨x, rfl, hst, hsp, hkl, hcp, hown, hb⟩; have ST := Lib.hid (hst w6 (Nat.le_refl _) (fun _ _ _ => rfl)); have SP := Lib.hid hsp; have KL := Lib.hid hkl; have CPX := Lib.hid hcp; have OWN := Lib.hid hown; have H6 := Lib.hid (show Below w.heap.size w w6 from AX.out.r1.low.trans (hb.mono AX.out.r1.low.size)); have KA6 := Lib.hid (AX.out.ka.below' hb); clear hst hsp hkl hcp hown hb) | (refine wpList_store_whole rfl 31 (.tmp 9) (.tmp 48) rfl w6.heap.size #[.slice x.RA x.rules.length x.rc, .slice x.NA x.nodes.length x.nc] rfl rfl 31 _ (Blk.new _ _ _) (by kernel_rfl) (by rfl) (by simp [Value.oneCell']) ?_; intro w7 hk2 hg2; have KX := Lib.hid hk2; have HG7 := Lib.hid (grown_below (B1 w6 _) (by simp) hg2 (fun k e => by cases e; exact Nat.le_refl _)); clear hk2 hg2))
          clear c0 c1 GF HB5
          have XR := Lib.hid (show x.rules.length = R from by
            have := congrArg (fun p => p.1.length) SP.out
            rw [← BH.out.1, ← gramL_rules _ bl rfl]; exact this)
          have H7 := Lib.hid (H6.out.trans (HG7.out.mono H6.out.size))
          have LOW := Lib.hid (show w.heap.size ≤ wr.heap.size from AX.out.r1.low.size)
          have N0 := Lib.hid (show Nmx w.heap.size w7 w7 x g w6.heap.size w.heap.size 0 from by
            refine ⟨by rw [mixR_zero]; exact own_below (own_lower OWN.out.1 LOW.out) HG7.out, Below.refl _ _, KX.out, ?_, fun _ _ _ _ _ _ _ h => h⟩
            have := KA6.out.below' HG7.out
            rw [ER.out] at this; exact this)
          obtain ⟨xb, exb⟩ : ∃ u, u = w6.heap.size := ⟨_, rfl⟩
          rw [← exb] at N0 ⊢
          have OWN7 := Lib.hid (show w7.ownsRow w.heap.size 60 9 (.slice x.NA x.nodes.length x.nc) x.nodes.length (ncells x.nodes) ∧ ∀ y ∈ x.nodes, w7.ownsRow w.heap.size 3 1 (.slice y.A y.kids.length y.cap) y.kids.length (ints y.kids) ∧ (y.A = none → y.cap = 0) from
            ⟨own_below (own_lower OWN.out.2.1 LOW.out) HG7.out, fun y hy => ⟨own_below (own_lower (OWN.out.2.2 y hy).1 LOW.out) HG7.out, (OWN.out.2.2 y hy).2⟩⟩)
          clear exb OWN KX KA6 HG7 H6
          go_wp2_with fail
          go_loopw [10] (fun ix wr => ∃ i : Nat, i ≤ R ∧ ix = .int .i64 i ∧ Nmx w.heap.size w7 wr x g xb w.heap.size i) (fun ix _ => R - (intOf ix).toNat)
          case atStart => exact ⟨0, by omega, rfl, N0.out⟩
          case round =>
            obtain ⟨i, hi', rfl, hM⟩ := hrel
            have c0 := hM.bx.cell 0
            have d0 := hM.bg.cell 0
            simp only [List.getElem?_toArray, List.getElem?_cons_zero, List.getElem?_cons_succ] at c0 d0
            rw [XR.out] at c0
            rw [← ER.out] at d0
            by_cases hlt3 : i < R
            · have hlt4 : (i : Int) < R := by omega
              have hix : i < x.rules.length := by rw [XR.out]; exact hlt3
              have hig : i < g.rules.length := by rw [← ER.out]; exact hlt3
              obtain ⟨gb, cap0, e0, _, _, _, _⟩ := own_shape hM.row (by omega)
              simp only [Value.slice.injEq, true_and] at e0
              obtain ⟨eA, eC⟩ := e0
              clear eC
              obtain ⟨b1, o1, eG, _, nm, _⟩ := (HG.out.below (H7.out.trans hM.low)).rules.two hig
              have hrow := hM.row
              rw [eA] at hrow
              have ck : wr.cell? ⟨gb, i * 2, none⟩ = some (.string ((mixR x.rules g.rules i).getD i Rl.zero).name) := by
                rw [hrow.cellAt (i * 2) (by omega)]
                exact (rcells_at _ i (by rw [mixR_length]; exact hix)).1
              have fk := hrow.frozenAt (i * 2)
              have ST2 := Lib.hid (hM.step hix eA)
              generalize ((mixR x.rules g.rules i).getD i Rl.zero).name = old at ck
              generalize (g.rules.getD i Rl.zero).name = nw at nm ST2
              rw [eA] at c0
              rw [eG] at d0
              clear hM hrow eA eG
              go_wp2_with fail
              go_region_with (fail)
              all_goals (
                go_wp2_with fail
                go_roundw
                case rel => exact ⟨i + 1, by omega, by go_num, (by first | exact ST2.out | exact ST2.out.below (by have := ST2.out.low.size; have := H7.out.size; omega) (bdrew1 (Below.refl _ _)) | exact ST2.out.below (by have := ST2.out.low.size; have := H7.out.size; omega) (bdrew (Below.refl _ _)))⟩
                case measure => simp [intOf]; omega)
            · obtain rfl : R = i := by omega
              have hlt4 : ¬ (R : Int) < R := by omega
              have DN := Lib.hid (done_of (w := w) (w1 := w7) (x := x) (g := g) (xb := xb) (bl := bl) (by rw [XR.out]; exact ER.out) (by rw [← ER.out]; exact h32) H7.out (by rw [XR.out]; exact hM) SP.out (by rw [BH.out.1]; exact ER.out) (fun b hb y hy => by
                obtain ⟨j, hj, rfl⟩ := List.getElem_of_mem hb
                obtain ⟨fr, s, _, _, _, f4⟩ := BH.out.2 j (by rw [← BH.out.1]; exact hj)
                have e : bl[j] = bl.getD j [] := by simp [List.getD, List.getElem?_eq_getElem hj]
                rw [e, f4] at hy
                exact altK_kind HR.out c j fr s y hy) KL.out (by
                  have h1 := alt_nodes HR.out (by rw [BH.out.1]; exact ER.out) (fun i hi => BH.out.2 i (by rw [ER.out]; exact hi))
                  have h2 := congrArg (fun p => p.2.length) SP.out
                  simp only [List.length_map] at h2
                  have := ZZ.out.1
                  omega) CPX.out HG.out.names ST.out.texts OWN7.out.1 OWN7.out.2 ST.out.rn ST.out.nn)
              have NLN := Lib.hid (show x.nodes.length ≤ 2048 from by
                have h1 := alt_nodes HR.out (by rw [BH.out.1]; exact ER.out) (fun i hi => BH.out.2 i (by rw [ER.out]; exact hi))
                have h2 := congrArg (fun p => p.2.length) SP.out
                simp only [List.length_map] at h2
                have := ZZ.out.1
                omega)
              obtain ⟨y, ey⟩ : ∃ y : Gr, y = { x with rules := mixR x.rules g.rules x.rules.length } := ⟨_, rfl⟩
              have NLY := Lib.hid (show y.nodes.length ≤ 2048 from by rw [ey]; exact NLN.out)
              rw [← ey] at DN
              have YR := Lib.hid (show y.rules.length = R from by rw [DN.out.built.len, BH.out.1])
              clear hM ey c0 d0 NLN N0
              have c0 := DN.out.bx.cell 0
              have c1 := DN.out.bx.cell 1
              have d0 := DN.out.bg.cell 0
              have d1 := DN.out.bg.cell 1
              simp only [List.getElem?_toArray, List.getElem?_cons_zero, List.getElem?_cons_succ] at c0 c1 d0 d1
              rw [← ER.out] at d0
              have RY := Lib.hid (show Calls Tryz.prog 12 #[.agg #[.slice y.RA y.rules.length y.rc, .slice y.NA y.nodes.length y.nc]] wr (fun e w' => e = .returned (.bool (rightB y)) ∧ Below wr.heap.size wr w') from right_all y wr DN.out.at_ DN.out.in_)
              go_wp2_with fail
              refine RY.out.mono ?_
              rintro e w8 ⟨rfl, hb8⟩
              have B8 := Lib.hid hb8
              have H8 := Lib.hid (DN.out.low.trans (hb8.mono DN.out.low.size))
              have AHB := Lib.hid (fun i (hi : i < g.rules.length) => BH.out.2 i (by rw [ER.out]; exact hi))
              clear c0 c1 d0 d1 RY hb8
              have d0 := (DN.out.bg.below' B8.out).cell 0
              have d1 := (DN.out.bg.below' B8.out).cell 1
              have c0 := (DN.out.bx.below' B8.out).cell 0
              have c1 := (DN.out.bx.below' B8.out).cell 1
              simp only [List.getElem?_toArray, List.getElem?_cons_zero, List.getElem?_cons_succ] at c0 c1 d0 d1
              rw [← ER.out] at d0
              have hcg : c < g.rules.length := by rw [← ER.out]; exact hcR
              cases hry : rightB y with
              | false =>
                have h16 : (measOf g (g.rules.getD c Rl.zero).body).2 = 16 := by
                  obtain ⟨ms, hm, hbd⟩ := HR.out.pre
                  have hb := HR.out.body c hcg
                  obtain ⟨fr, hfr⟩ : ∃ fr : Nat, (g.rules.getD c Rl.zero).body = fr := ⟨(g.rules.getD c Rl.zero).body.toNat, by omega⟩
                  have hhi := bodies_high (fun m hl => (hm m (by omega) hl).1) g.rules 0 _ (by omega) hbd c hcg
                  rw [hfr, Int.toNat_natCast] at hhi
                  have hme := measOf_yes HR.out hm (n := fr) (by omega)
                  rw [hfr, hme]
                  rcases Int.lt_or_le (ms fr).2 16 with h | h
                  · exfalso
                    have := Ahd.right HR.out DN.out.built (by rw [BH.out.1]; exact ER.out) hcg DN.out.names (by have := ZZ.out.1; omega) (fun i hi => AHB.out i hi) (by rw [hfr, hme]; exact h) NLY.out
                    rw [rightB_true.2 this] at hry
                    cases hry
                  · omega
                obtain ⟨b1, o1, eG, _, _, bd⟩ := (HG.out.below H8.out).rules.two hcg
                obtain ⟨bo, ebo⟩ : ∃ u, u = (g.rules.getD c Rl.zero).body := ⟨_, rfl⟩
                rw [← ebo] at bd h16
                rw [eG] at d0
                have e0 := fun (e : Ext w8) => Ext.cell d0 e
                have e1 := fun (e : Ext w8) => Ext.cell d1 e
                have e2 := fun (e : Ext w8) => Ext.cell bd e
                have HE := Lib.hid (fun (e : Ext w8) => show Calls Tryz.prog 26 #[.agg #[.slice (some ⟨b1, o1, none⟩) R g.rc, .slice g.NA g.nodes.length g.nc], .int .i64 bo] e.val (fun x w' => x = .returned (.int .i64 16) ∧ Below e.val.heap.size e.val w') from by
                  have := HX.out bo e.val (HG.out.below (H8.out.trans (e.grown.mono H8.out.size)))
                  rw [h16, eG] at this
                  exact this)
                have hci : (c : Int) < R := by omega
                clear hry h16 ebo eG d0 d1 bd c0 c1
                go_upto_region 20 with fail
                refine wp_region_ext (by kernel_rfl) (by kernel_rfl) ?_
                repeat (first | go_big_quiet_step (first | (go_at_call 26; exact Calls.ext_of (HE.out _))) | quiet_step (first | (go_at_call 26; exact Calls.ext_of (HE.out _))))
                refine wpQuiet_nil ?_
                intro w9 hw'
                obtain ⟨⟨_, hb9⟩, rfl⟩ := hw'
                have H9 := Lib.hid (H8.out.trans (hb9.mono H8.out.size))
                clear hb9
                go_wp2_with fail
                go_ret
                exact ⟨rfl, H9.out⟩
              | true =>
                have hY := rightB_true.1 hry
                have AHD := Lib.hid (show Ahd g y bl c from by
                  refine ⟨DN.out.built, by rw [BH.out.1]; exact ER.out, hcg, ?_, fun i hi hic => ?_⟩
                  · obtain ⟨fr, s, _, _, _, f4⟩ := AHB.out c hcg
                    exact ⟨partK g fr s, by rw [f4]; unfold altK; rw [if_pos rfl]⟩
                  · obtain ⟨fr, s, f1, f2, f3, f4⟩ := AHB.out i hi
                    exact ⟨fr, s, f1, f2, f3, by rw [f4]; unfold altK; rw [if_neg hic]; rfl⟩)
                have SY := Lib.hid (fun (i : Nat) (hi : i < R) => show sortN (graphOf y) i ≠ 0 → sortN (graphOf g) i ≠ 0 ∧ i ≠ c from fun h => by
                  have hg' : i < g.rules.length := by rw [← ER.out]; exact hi
                  have := AHD.out.goes HR.out hY hg' ((sort_goes hY (by rw [YR.out]; exact hi)).1 h)
                  exact ⟨(sort_goes HR.out hg').2 this.1, this.2⟩)
                have YX := Lib.hid (fun (i : Nat) (hi : i < R) (W : World) (h : Gr.At W y) => sOfR_any y i (by rw [YR.out]; exact hi) W h DN.out.in_ DN.out.cap hY)
                have Y0 := Lib.hid (show sortN (graphOf y) c = 0 from Classical.byContradiction fun h => (SY.out c hcR h).2 rfl)
                have YC := Lib.hid (YX.out c hcR w8 (DN.out.at_.below B8.out))
                rw [Y0.out] at YC
                clear hry hY
                go_wp2_with fail
                refine YC.out.mono ?_
                rintro e w9 ⟨rfl, hb9⟩
                have B9 := Lib.hid (bb B8.out hb9)
                clear hb9 c0 c1 d0 d1 YC
                go_wp2_with fail
                go_loopw [11] (fun ix wr2 => ∃ i : Nat, i ≤ R ∧ ix = .int .i64 i ∧ Below wr.heap.size wr wr2) (fun ix _ => R - (intOf ix).toNat)
                case atStart => exact ⟨0, by omega, rfl, B9.out⟩
                case round =>
                  obtain ⟨i, hi', rfl, hb⟩ := hrel
                  have HBI := Lib.hid hb
                  have c0 := (DN.out.bx.below' hb).cell 0
                  have c1 := (DN.out.bx.below' hb).cell 1
                  have d0 := (DN.out.bg.below' hb).cell 0
                  have d1 := (DN.out.bg.below' hb).cell 1
                  simp only [List.getElem?_toArray, List.getElem?_cons_zero, List.getElem?_cons_succ] at c0 c1 d0 d1
                  rw [← ER.out] at d0
                  by_cases hli : i < R
                  · have hli2 : (i : Int) < R := by omega
                    have YI := Lib.hid (YX.out i hli _ (DN.out.at_.below hb))
                    have SI := Lib.hid (SY.out i hli)
                    have GI := Lib.hid (fun (W : World) (h : Gr.At W g) => OX.out i hli W h)
                    have DB := Lib.hid (fun (W : World) (b : Below wr.heap.size wr W) => show Gr.At W g ∧ W.cell? ⟨w.heap.size, 0, none⟩ = some (.slice g.RA R g.rc) ∧ W.cell? ⟨w.heap.size, 1, none⟩ = some (.slice g.NA g.nodes.length g.nc) from
                      ⟨HG.out.below ((DN.out.low.trans (hb.mono DN.out.low.size)).trans (b.mono (Nat.le_trans DN.out.low.size hb.size))), ((b.cell (p := ⟨w.heap.size, 0, none⟩) (DN.out.bg.below' hb).lt).trans d0), ((b.cell (p := ⟨w.heap.size, 1, none⟩) (DN.out.bg.below' hb).lt).trans d1)⟩)
                    obtain ⟨sy, esy⟩ : ∃ u, u = sortN (graphOf y) i := ⟨_, rfl⟩
                    obtain ⟨sg, esg⟩ : ∃ u, u = sortN (graphOf g) i := ⟨_, rfl⟩
                    rw [← esy] at YI SI
                    rw [← esg] at GI SI
                    clear hb esy esg
                    by_cases hz0 : sy = 0
                    · rw [hz0] at YI
                      clear hz0
                      go_wp2_with fail
                      refine YI.out.mono ?_
                      rintro e w10 ⟨rfl, hb10⟩
                      have B10 := Lib.hid (bb HBI.out hb10)
                      clear hb10
                      go_wp2_with fail
                      go_roundw
                      case rel => first | exact ⟨i + 1, by omega, by go_num, B10.out⟩ | ((repeat apply Exists.intro); exact ⟨⟨i + 1, by omega, by go_num, B10.out⟩, rfl⟩)
                      case measure => simp [intOf]; omega
                    · have hs1 : ¬ (sy : Int) = 0 := by omega
                      have hs2 : ¬ (sg : Int) = 0 := by have := (SI.out hz0).1; omega
                      have hs3 : ((sy : Int) == 0) = false := by simpa using hz0
                      have hs4 : ((sg : Int) == 0) = false := by have := (SI.out hz0).1; simpa using this
                      have hs5 : ¬ sg = 0 := (SI.out hz0).1
                      have hs6 := hz0
                      clear hz0
                      go_wp2_with fail
                      refine YI.out.mono ?_
                      rintro e w10 ⟨rfl, hb10⟩
                      have B10 := Lib.hid (bb HBI.out hb10)
                      obtain ⟨g10, e10, f10⟩ := DB.out _ hb10
                      have G10 := Lib.hid (GI.out _ g10)
                      clear hb10 g10 c0 c1 d0 d1
                      go_wp2_with fail
                      refine G10.out.mono ?_
                      rintro e w11 ⟨rfl, hb11⟩
                      have B11 := Lib.hid (bb B10.out hb11)
                      clear hb11
                      go_wp2_with fail
                      go_roundw
                      case rel => first | exact ⟨i + 1, by omega, by go_num, B11.out⟩ | ((repeat apply Exists.intro); exact ⟨⟨i + 1, by omega, by go_num, B11.out⟩, rfl⟩)
                      case measure => simp [intOf]; omega
                  · obtain rfl : R = i := by omega
                    have hli2 : ¬ (R : Int) < R := by omega
                    clear hb
                    go_wp2_with fail
                    go_ret
                    exact ⟨rfl, DN.out.low.trans (HBI.out.mono DN.out.low.size)⟩
end Go.Proofs.YtmlaepbmdfmgbaaGreat

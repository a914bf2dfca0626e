/- The law LeftAhead, begun: its first loop. -/
import Derived.Test.YtmlaepbmdfmgbaaN2
import Derived.Test.YtmlaepbmdfmgbaaQ2
import Derived.Deep.CutRange
set_option linter.unusedSimpArgs false
set_option linter.unusedVariables false
namespace Go.Proofs.Ytmlaepbmdfmgbaa
open Go Go.RowKit Go.Maps
def bd0 : Bdy := (none, 0, [])
structure AB (g : Gr) (w W : World) (v1 v2 : Value) (i : Nat) (hs ss : List Bdy) : Prop where
  ka : Blk W w.heap.size #[.slice g.RA g.rules.length g.rc, .slice g.NA g.nodes.length g.nc] 25
  r1 : RB w W v1 hs 200000
  r2 : RB w W v2 ss 200000
  ap : ∀ k, v1.ownBlock = some k → v2.ownBlock ≠ some k
  l1 : hs.length = i
  l2 : ss.length = i
  k1 : ∀ b ∈ hs, ∀ y ∈ b.2.2.map Nd.kz, 1 ≤ y.kind ∧ y.kind ≤ 12
  k2 : ∀ b ∈ ss, ∀ y ∈ b.2.2.map Nd.kz, 1 ≤ y.kind ∧ y.kind ≤ 12
  h1 : ∀ j, j < i → ∃ b, (hs.getD j bd0).2.2.map Nd.kz = ofL 6 [[leafN 2], b]
  h2 : ∀ j, j < i → ∃ fr s : Nat, (g.rules.getD j Rl.zero).body = fr ∧ (measOf g fr).1 = s ∧ fr + s ≤ g.nodes.length ∧ (ss.getD j bd0).2.2.map Nd.kz = ofL 6 [ofL 12 [[leafN 1]], (((g.nodes.drop fr).take s).map Nd.kz).map (mvk (-(fr : Int)))]
set_option maxRecDepth 100000 in
set_option maxHeartbeats 16000000 in
theorem ahead_law (g : Gr) (w : World) (hg : Gr.At w g) (hin : Gr.In g) (hc : Capd g) : Calls Try.prog 4 #[g.val] w fun e w' => e = .returned (.bool true) ∧ Below w.heap.size w w' := by
  obtain ⟨i0, hi, hz0, hz1, hz2⟩ := info_parts Try.info_nl
  have HG := Lib.hid hg
  have SZ := Lib.hid (fun (w' : World) (b : Below w.heap.size w w') => size12_all g w' (hg.below b))
  have RI := Lib.hid (fun (w' : World) (b : Below w.heap.size w w') => right_all g w' (hg.below b) hin)
  have BD := Lib.hid (fun (hR : Right g) (hkl : ∀ x ∈ g.nodes, x.kids.length ≤ 1000) (q : Nat) (hq : q < g.rules.length) (w' : World) (b : Below w.heap.size w w') => body12_any g hR hc hkl q hq w' (hg.below b) hin)
  have hnl := hg.nl
  have hrl := hg.rl
  have HIN := Lib.hid (And.intro hin hc)
  clear hg hin hc
  show Calls Try.prog 4 #[.agg #[.slice g.RA g.rules.length g.rc, .slice g.NA g.nodes.length g.nc]] w _
  go_enter Try.func4, Try.ntmps4
  go_wp2_with fail
  refine (lawake_any _).mono ?_
  rintro e w1 ⟨rfl, hb⟩
  have K1 := Lib.hid ((Blk.new w #[.slice g.RA g.rules.length g.rc, .slice g.NA g.nodes.length g.nc] 25).below' hb)
  have H1 := Lib.hid (bb (B1 w _) hb)
  have a0 := K1.out.cell 0
  have a1 := K1.out.cell 1
  simp only [List.getElem?_toArray, List.getElem?_cons_zero, List.getElem?_cons_succ] at a0 a1
  clear hb
  go_wp2_with fail
  refine (SZ.out _ H1.out).mono ?_
  rintro e w2 ⟨⟨z, rfl, hzz⟩, hb⟩
  have HZ := Lib.hid hzz
  have K2 := Lib.hid (K1.out.below' hb)
  have H2 := Lib.hid (bb H1.out hb)
  clear hb a0 a1 hzz
  by_cases hz : 300 < z
  · go_wp2_with fail
    go_ret
    exact ⟨rfl, H2.out⟩
  · have hz2' : ¬ 300 < z := hz
    have b0 := K2.out.cell 0
    have b1 := K2.out.cell 1
    simp only [List.getElem?_toArray, List.getElem?_cons_zero, List.getElem?_cons_succ] at b0 b1
    go_wp2_with fail
    refine (RI.out _ H2.out).mono ?_
    rintro e w3 ⟨rfl, hb⟩
    have K3 := Lib.hid (K2.out.below' hb)
    have H3 := Lib.hid (bb H2.out hb)
    clear hb b0 b1 K1 K2 H1 H2 SZ RI
    cases hr : rightB g with
    | false =>
      clear hr
      go_wp2_with fail
      go_ret
      exact ⟨rfl, H3.out⟩
    | true =>
      have hR := rightB_true.1 hr
      have ZZ := Lib.hid (HZ.out (by omega))
      have B9 := Lib.hid (BD.out hR (fun x hx => by have := ZZ.out.2 x hx; omega))
      have HR := Lib.hid hR
      have h32 := hR.rules.2
      have h1r := hR.rules.1
      clear BD hr hR HZ
      obtain ⟨R, eR⟩ : ∃ R, R = g.rules.length := ⟨_, rfl⟩
      have ER := Lib.hid eR
      rw [← eR] at h32 h1r hrl ⊢
      clear eR
      go_wp2_with fail
      go_loopw [3, 4, 5] (fun v1 v2 ix wr => ∃ (i : Nat) (hs ss : List Bdy), i ≤ R ∧ ix = .int .i64 i ∧ AB g w wr v1 v2 i hs ss) (fun _ _ ix _ => R - (intOf ix).toNat)
      case atStart => exact ⟨0, [], [], by omega, rfl, K3.out, RB.nil _ _ _ H3.out, RB.nil _ _ _ H3.out, (fun k h => by simp [Value.ownBlock] at h), rfl, rfl, (fun b hb => by cases hb), (fun b hb => by cases hb), fun j hj => by omega, fun j hj => by omega⟩
      case round =>
        obtain ⟨i, hs, ss, hi', rfl, hab⟩ := hrel
        have b0 := hab.ka.cell 0
        have b1 := hab.ka.cell 1
        simp only [List.getElem?_toArray, List.getElem?_cons_zero, List.getElem?_cons_succ] at b0 b1
        rw [← ER.out] at b0
        have AX := Lib.hid hab
        by_cases hlt : i < R
        · have hlt2 : (i : Int) < R := by omega
          have hir : i < g.rules.length := by rw [← ER.out]; exact hlt
          have BB : RowKit.Hid (Calls Try.prog 19 #[.agg #[.slice g.RA R g.rc, .slice g.NA g.nodes.length g.nc], .int .i64 i] wr fun e w' => ∃ A' c' fr s l', e = .returned (.slice A' l'.length c') ∧ (g.rules.getD i Rl.zero).body = (fr : Nat) ∧ (measOf g fr).1 = (s : Nat) ∧ fr + s ≤ g.nodes.length ∧ Moved (-(fr : Int)) ((g.nodes.drop fr).take s) l' ∧ Owd wr w' (.slice A' l'.length c') l' 2048 ∧ (A' = none → c' = 0) ∧ Below wr.heap.size wr w') := Lib.hid (by rw [ER.out]; exact B9.out i hir wr hab.r1.low)
          clear hab
          go_wp2_with fail
          refine BB.out.mono ?_
          rintro e w4 ⟨A', c', fr, s, l', rfl, f1, f2, f3, f4, f5, f6, hb4⟩
          have F := Lib.hid (And.intro f1 (And.intro f2 (And.intro f3 (And.intro f4 f6))))
          have BO := Lib.hid f5
          have LW := Lib.hid AX.out.r1.low
          have P4 := Lib.hid hb4
          have hl300 : l'.length ≤ 300 := by
            have h := f4.1
            have := ZZ.out.1
            rw [h]; simp; omega
          clear f1 f2 f3 f4 f5 f6 hb4 b0 b1 BB
          go_wp2_with fail
          refine (leaf_full 2 w4).mono ?_
          rintro e w5 ⟨A1, c1, L1, rfl, k1, o1, s1, n1, hb5⟩
          have hL1 : L1.length ≤ 1000 := by have := congrArg List.length k1; simp at this; omega
          have P5 := Lib.hid (bb P4.out hb5)
          have P5b := Lib.hid hb5
          have BO5 := Lib.hid ((BO.out.below hb5).bod (by omega))
          have CH := Lib.hid (chain_full A1 c1 L1 A' c' l' 100000 w5 ((o1.bod s1).mono (by omega)) (BO5.out.mono (by omega)) n1 F.out.2.2.2.2 hL1 (by omega) (by omega))
          rw [k1] at CH
          clear k1 o1 s1 n1 hb5
          go_wp2_with fail
          refine CH.out.mono ?_
          rintro e w6 ⟨A2, c2, L2, rfl, k2, o2, s2, n2, hb6⟩
          have hL2 : L2.length ≤ 1000 := by
            have := congrArg List.length k2
            rw [hard_eq] at this
            simp at this
            omega
          have P6 := Lib.hid (bb P5.out hb6)
          have BO6 := Lib.hid ((BO.out.below (P5b.out.trans (hb6.mono P5b.out.size))).lower LW.out)
          have OB6 := Lib.hid (show Owd w w6 (bcell (A2, c2, L2)) L2 200000 from o2.lower (AX.out.r1.low.trans (P5.out.mono AX.out.r1.low.size)))
          have KZ2 := Lib.hid k2
          have N2 := Lib.hid n2
          have R16 := Lib.hid (AX.out.r1.below P6.out)
          have R26 := Lib.hid (AX.out.r2.below P6.out)
          have hs60 : hs.length ≤ 32 := by have := AX.out.l1; omega
          clear k2 o2 s2 n2 hb6 CH
          go_upto_region 11 with (at_builtin; refine wpList_append_own_at _ rfl _ _ 29 rfl w.heap.size 23 i0 (.slice none 0 0) 1 24 Try.underlying_nll hi hz0 hz1 hz2 rfl (by decide) _ _ _ rfl (R16.out.row.alloc _) ⟨w6.heap.size, 0, none⟩ 1 1 [.slice A2 L2.length c2] rfl rfl (cell_one_new _ _ _) (by simp [Value.oneCell']) (by unfold maxLen; omega) (by omega) (by have := R16.out.low.size; simp; omega) ?_; intro v1' w7 hown hgrow hnil hblk; have O7 := Lib.hid hown; have G7 := Lib.hid hgrow; have K7 := Lib.hid hblk; clear hown hgrow hnil hblk)
          have AB6 := Lib.hid (B1 w6 (.cells #[.slice A2 L2.length c2] 23))
          have R17 := Lib.hid ((R16.out.below AB6.out).add (b := (A2, c2, L2)) (OB6.out.below AB6.out) hL2 N2.out O7.out G7.out)
          have R27 := Lib.hid ((R16.out.below AB6.out).beside (R26.out.below AB6.out) AX.out.ap G7.out)
          have AP7 := Lib.hid ((R26.out.below AB6.out).apart AX.out.ap K7.out)
          have KA7 := Lib.hid (show Blk w7 w.heap.size #[.slice g.RA g.rules.length g.rc, .slice g.NA g.nodes.length g.nc] 25 from by
            have h6 := (AX.out.ka.below' P6.out).alloc (.cells #[.slice A2 L2.length c2] 23)
            exact h6.grown G7.out (fun e => own_ne (R16.out.row.alloc _) h6 (by decide) (by exact e.symm)))
          have BO7 := Lib.hid ((BO6.out.below AB6.out).rowed (R16.out.row.alloc _) G7.out)
          clear O7 G7 K7 R16 R26 OB6 BO6 AB6 P6 P5 P5b BO5 P4
          go_wp2_with fail
          refine (leaf_full 1 w7).mono ?_
          rintro e w8 ⟨A3, c3, L3, rfl, k3, o3, s3, n3, hb8⟩
          have hL3 : L3.length ≤ 1000 := by have := congrArg List.length k3; simp at this; omega
          have P8 := Lib.hid hb8
          have CI := Lib.hid (kin_full 12 A3 c3 L3 0 w8 (o3.bod s3) n3 hL3 (by omega))
          rw [k3] at CI
          clear k3 o3 s3 n3 hb8
          go_wp2_with fail
          refine CI.out.mono ?_
          rintro e w9 ⟨A4, c4, L4, rfl, k4, o4, s4, n4, hb9⟩
          have hL4 : L4.length ≤ 1000 := by
            have := congrArg List.length k4
            simp [ofL, ofN, leafN] at this
            omega
          have P9 := Lib.hid (bb P8.out hb9)
          have BO9 := Lib.hid ((BO7.out.below P9.out).bod (by omega))
          have CH2 := Lib.hid (chain_full A4 c4 L4 A' c' l' 100000 w9 ((o4.bod s4).mono (by omega)) (BO9.out.mono (by omega)) n4 F.out.2.2.2.2 hL4 (by omega) (by omega))
          rw [k4] at CH2
          clear k4 o4 s4 n4 hb9 CI
          go_wp2_with fail
          refine CH2.out.mono ?_
          rintro e w10 ⟨A5, c5, L5, rfl, k5, o5, s5, n5, hb10⟩
          have hL5 : L5.length ≤ 1000 := by
            have := congrArg List.length k5
            rw [soft6_eq] at this
            simp at this
            omega
          have P10 := Lib.hid (bb P9.out hb10)
          have OB10 := Lib.hid (show Owd w w10 (bcell (A5, c5, L5)) L5 200000 from o5.lower (R17.out.low.trans (P9.out.mono R17.out.low.size)))
          have KZ5 := Lib.hid k5
          have N5 := Lib.hid n5
          have R110 := Lib.hid (R17.out.below P10.out)
          have R210 := Lib.hid (R27.out.below P10.out)
          have ss60 : ss.length ≤ 32 := by have := AX.out.l2; omega
          clear k5 o5 s5 n5 hb10 CH2
          go_wp2_with (at_builtin; refine wpList_append_own_at _ rfl _ _ 29 rfl w.heap.size 23 i0 (.slice none 0 0) 1 24 Try.underlying_nll hi hz0 hz1 hz2 rfl (by decide) _ _ _ rfl (R210.out.row.alloc _) ⟨w10.heap.size, 0, none⟩ 1 1 [.slice A5 L5.length c5] rfl rfl (cell_one_new _ _ _) (by simp [Value.oneCell']) (by unfold maxLen; omega) (by omega) (by have := R210.out.low.size; simp; omega) ?_; intro v2' w11 hown hgrow hnil hblk; have O11 := Lib.hid hown; have G11 := Lib.hid hgrow; have K11 := Lib.hid hblk; clear hown hgrow hnil hblk)
          have AB10 := Lib.hid (B1 w10 (.cells #[.slice A5 L5.length c5] 23))
          have R211 := Lib.hid ((R210.out.below AB10.out).add (b := (A5, c5, L5)) (OB10.out.below AB10.out) hL5 N5.out O11.out G11.out)
          have FL := Lib.hid (fun k (h2 : u4.ownBlock = some k) (h1 : v1'.ownBlock = some k) => AP7.out k h1 h2)
          have R111 := Lib.hid ((R210.out.below AB10.out).beside (R110.out.below AB10.out) FL.out G11.out)
          have AP11 := Lib.hid ((R110.out.below AB10.out).apart FL.out K11.out)
          have KA11 := Lib.hid (show Blk w11 w.heap.size #[.slice g.RA g.rules.length g.rc, .slice g.NA g.nodes.length g.nc] 25 from by
            have h6 := (KA7.out.below' P10.out).alloc (.cells #[.slice A5 L5.length c5] 23)
            exact h6.grown G11.out (fun e => own_ne (R210.out.row.alloc _) h6 (by decide) (by exact e.symm)))
          go_roundw
          case rel =>
            have hl1 := AX.out.l1
            have hl2 := AX.out.l2
            refine ⟨i + 1, hs ++ [(A2, c2, L2)], ss ++ [(A5, c5, L5)], by omega, by go_num, KA11.out, R111.out, R211.out, fun k h1 h2 => AP11.out k h2 h1, by simp; omega, by simp; omega, fun b hb => ?_, fun b hb => ?_, fun j hj => ?_, fun j hj => ?_⟩
            · rcases List.mem_append.1 hb with hb | hb
              · exact AX.out.k1 b hb
              · obtain rfl : b = (A2, c2, L2) := by simpa using hb
                rw [show ((A2, c2, L2) : Bdy).2.2.map Nd.kz = _ from KZ2.out]
                exact hard_kinds (by rw [F.out.2.2.2.1.kz]; exact part_kinds HR.out fr s _)
            · rcases List.mem_append.1 hb with hb | hb
              · exact AX.out.k2 b hb
              · obtain rfl : b = (A5, c5, L5) := by simpa using hb
                rw [show ((A5, c5, L5) : Bdy).2.2.map Nd.kz = _ from KZ5.out]
                exact soft_kinds (by rw [F.out.2.2.2.1.kz]; exact part_kinds HR.out fr s _)
            · by_cases e : j < i
              · have := AX.out.h1 j e
                rw [show (hs ++ [(A2, c2, L2)]).getD j bd0 = hs.getD j bd0 from by simp only [List.getD]; rw [List.getElem?_append_left (by omega)]]
                exact this
              · obtain rfl : j = i := by omega
                rw [show (hs ++ [(A2, c2, L2)]).getD j bd0 = (A2, c2, L2) from by simp [List.getD, ← hl1]]
                exact ⟨_, KZ2.out⟩
            · by_cases e : j < i
              · have := AX.out.h2 j e
                rw [show (ss ++ [(A5, c5, L5)]).getD j bd0 = ss.getD j bd0 from by simp only [List.getD]; rw [List.getElem?_append_left (by omega)]]
                exact this
              · obtain rfl : j = i := by omega
                rw [show (ss ++ [(A5, c5, L5)]).getD j bd0 = (A5, c5, L5) from by simp [List.getD, ← hl2]]
                refine ⟨fr, s, F.out.1, F.out.2.1, F.out.2.2.1, ?_⟩
                rw [← F.out.2.2.2.1.kz]
                exact KZ5.out
          case measure => simp [intOf]; omega
        · obtain rfl : i = R := by omega
          have hlt2 : ¬ (i : Int) < i := by omega
          clear hab
          go_upto_region 12 with fail
          obtain ⟨A1, c1, q1, n1, m1⟩ := own_slice AX.out.r1.row
          obtain ⟨A2, c2, q2, n2, m2⟩ := own_slice AX.out.r2.row
          have hl1 := AX.out.l1
          have hl2 := AX.out.l2
          have hG : ∀ W : World, Below wr.heap.size wr W → Gr.At W g := fun W hb => HG.out.below (AX.out.r1.low.trans (hb.mono AX.out.r1.low.size))
          have hgr : g.rules.length ≤ 32 := by rw [← ER.out]; exact h32
          have hB1 : ∀ W, Below wr.heap.size wr W → Bds W A1 hs 200000 := fun W hb => by
            have h := AX.out.r1.below hb
            rw [q1] at h
            exact h.bds
          have hB2 : ∀ W, Below wr.heap.size wr W → Bds W A2 ss 200000 := fun W hb => by
            have h := AX.out.r2.below hb
            rw [q2] at h
            exact h.bds
          have e0 : (hs.map fun b => b.2.2.map Nd.kz).length = g.rules.length := by rw [List.length_map, hl1]; exact ER.out
          have f0 : (ss.map fun b => b.2.2.map Nd.kz).length = g.rules.length := by rw [List.length_map, hl2]; exact ER.out
          have kk1 : ∀ b ∈ hs.map fun b => b.2.2.map Nd.kz, ∀ y ∈ b, 1 ≤ y.kind ∧ y.kind ≤ 12 := fun b hb => by
            obtain ⟨z, hz, rfl⟩ := List.mem_map.1 hb
            exact AX.out.k1 z hz
          have kk2 : ∀ b ∈ ss.map fun b => b.2.2.map Nd.kz, ∀ y ∈ b, 1 ≤ y.kind ∧ y.kind ≤ 12 := fun b hb => by
            obtain ⟨z, hz, rfl⟩ := List.mem_map.1 hb
            exact AX.out.k2 z hz
          have hka := AX.out.ka
          refine wp_region_inv (IR wr g u3 u4 (hs.map fun b => b.2.2.map Nd.kz) (ss.map fun b => b.2.2.map Nd.kz)) (by kernel_rfl) (by kernel_rfl) (by kernel_rfl) (by kernel_rfl) (IR.start (bdrew1 (Below.refl _ _)) fun _ => rfl) ?hop ?hend
          case hop =>
            intro j o ho L a W h hj hd hu
            rcases j with _ | _ | _ | _ | _ | _ | _ | _ | _ | _ | _ | _ | j
            · obtain rfl := Option.some.inj ho
              exact st0 h rfl rfl (hu 3 (by kernel_rfl))
            · obtain rfl := Option.some.inj ho
              exact st1 h rfl rfl (hd ⟨0, .data⟩ (by simp) rfl) q1 hB1 (by omega) (by omega)
            · obtain rfl := Option.some.inj ho
              exact st2 h rfl rfl (hu 1 (by kernel_rfl)) hka
            · obtain rfl := Option.some.inj ho
              exact st3 h rfl rfl (hd ⟨1, .data⟩ (by simp) rfl) (hd ⟨2, .data⟩ (by simp) rfl) hj hgr e0 hG kk1
            · obtain rfl := Option.some.inj ho
              exact st4 h rfl rfl (hu 4 (by kernel_rfl))
            · obtain rfl := Option.some.inj ho
              exact st5 h rfl rfl (hd ⟨4, .data⟩ (by simp) rfl) (hd ⟨3, .chain⟩ (by simp) rfl) hj q2 hB2 (by omega) (by omega)
            · obtain rfl := Option.some.inj ho
              exact st6 h rfl rfl (hu 1 (by kernel_rfl)) hka
            · obtain rfl := Option.some.inj ho
              exact st7 h rfl rfl (hd ⟨5, .data⟩ (by simp) rfl) (hd ⟨6, .data⟩ (by simp) rfl) hj hgr f0 hG kk2
            · obtain rfl := Option.some.inj ho
              exact st8 h rfl rfl hj
            · obtain rfl := Option.some.inj ho
              exact st9 h rfl rfl hj
            · obtain rfl := Option.some.inj ho
              exact st10 h rfl rfl (hd ⟨7, .chain⟩ (by simp) rfl) (hd ⟨8, .data⟩ (by simp) rfl) (hd ⟨9, .phase⟩ (by simp) rfl) hj
            · obtain rfl := Option.some.inj ho
              exact st11 h rfl rfl (hd ⟨7, .data⟩ (by simp) rfl) (hd ⟨8, .phase⟩ (by simp) rfl) (hd ⟨9, .data⟩ (by simp) rfl) (hd ⟨10, .chain⟩ (by simp) rfl)
            · exact absurd (List.getElem?_eq_some_iff.1 ho).1 (by simp)
          case hend =>
            intro L f W hL h
            obtain ⟨x, y, b, c, e7, e8, kx, ky, dx, dy, hb⟩ := h.done (fun i hi => hL i hi)
            have hxl : x.rules.length = i := dx.built.len.trans (by rw [List.length_map]; exact hl1)
            have hyl : y.rules.length = i := dy.built.len.trans (by rw [List.length_map]; exact hl2)
            have XE := Lib.hid (fun (hR : rightB x = true) (k : Nat) (hk : k < x.rules.length) => show lcal x k = [] from by
              have hk2 : k < i := by omega
              obtain ⟨bb, hbb⟩ := AX.out.h1 k hk2
              exact hard_calls (rightB_true.1 hR) dx.built k (by rw [List.length_map]; omega) bb (by rw [getD_bodies hs k (by omega)]; exact hbb))
            have YE := Lib.hid (fun (hR : rightB y = true) => show graphOf y = graphOf g from graphs_same (by rw [hyl]; exact ER.out) (soft_calls HR.out (rightB_true.1 hR) dy.built f0 (fun k hk => by
              have hk2 : k < i := by rw [List.length_map] at hk; omega
              obtain ⟨fr, s, a1, a2, a3, a4⟩ := AX.out.h2 k hk2
              exact ⟨fr, s, a1, a2, a3, by rw [getD_bodies ss k (by omega)]; exact a4⟩)))
            have KX := Lib.hid (show Blk W b #[.slice x.RA i x.rc, .slice x.NA x.nodes.length x.nc] 25 from by rw [← hxl]; exact kx)
            have KY := Lib.hid (show Blk W c #[.slice y.RA i y.rc, .slice y.NA y.nodes.length y.nc] 25 from by rw [← hyl]; exact ky)
            have KG := Lib.hid (show Blk W w.heap.size #[.slice g.RA i g.rc, .slice g.NA g.nodes.length g.nc] 25 from by rw [ER.out]; exact hka.below' hb)
            have XE2 := XE
            have RX := Lib.hid (fun (W' : World) (b : Below W.heap.size W W') => right_n x i hxl dx.in_ W' (dx.at_.below b))
            have RY := Lib.hid (fun (W' : World) (b : Below W.heap.size W W') => right_n y i hyl dy.in_ W' (dy.at_.below b))
            have GX := Lib.hid (fun (hR : rightB x = true) (W' : World) (b : Below W.heap.size W W') => graph_n x i _ rfl hxl dx.in_ dx.cap (rightB_true.1 hR) W' (dx.at_.below b))
            have OX := Lib.hid (fun (hR : rightB x = true) (k : Nat) (hk : k < i) (W' : World) (b : Below W.heap.size W W') => goes_n x i hxl dx.in_ dx.cap k (by omega) false (goes_none (rightB_true.1 hR) (XE.out hR) k (by omega)) W' (dx.at_.below b))
            have GY := Lib.hid (fun (hR : rightB y = true) (W' : World) (b : Below W.heap.size W W') => graph_n y i _ (YE.out hR) hyl dy.in_ dy.cap (rightB_true.1 hR) W' (dy.at_.below b))
            have gat := hG W hb
            have GG := Lib.hid (fun (W' : World) (b : Below W.heap.size W W') => graph_n g i _ rfl ER.out.symm HIN.out.1 HIN.out.2 HR.out W' (gat.below b))
            have SA := Lib.hid (fun (wa wb w : World) (ga gb : Nat) (va vb : List Value) (hA : Rows2 wa w ga va (graphOf g)) (hB : Rows2 wb w gb vb (graphOf g)) => rows2_n (graphOf g) i (by rw [graphOf_len]; exact ER.out.symm) h32 (graphOf_rows g HR.out) wa wb w ga gb va vb hA hB)
            have HW := Lib.hid (AX.out.r1.low.trans (hb.mono AX.out.r1.low.size))
            have HXL := Lib.hid hxl
            simp only [putOps]
            rw [e7, e8]
            unfold bptr
            generalize f 44 = z44
            generalize f 45 = z45
            generalize f 46 = z46
            generalize f 47 = z47
            generalize f 48 = z48
            generalize f 49 = z49
            generalize f 50 = z50
            generalize f 51 = z51
            have x0 := KX.out.cell 0
            have x1 := KX.out.cell 1
            simp only [List.getElem?_toArray, List.getElem?_cons_zero, List.getElem?_cons_succ] at x0 x1
            clear hL h e7 e8 kx ky dx dy hb hxl hyl XE YE gat b0 b1 q1 n1 m1 q2 n2 m2 hl1 hl2 hG hgr hB1 hB2 e0 f0 kk1 kk2 hka HG HIN B9 HR AX
            go_simp
            go_wp2_with fail
            refine (RX.out W (Below.refl _ _)).mono ?_
            rintro e w13 ⟨rfl, hb13⟩
            have P13 := Lib.hid hb13
            clear hb13 x0 x1
            obtain ⟨rb, erb⟩ : ∃ r, r = rightB x := ⟨_, rfl⟩
            have ERB := Lib.hid erb
            rw [← erb]
            clear erb
            go_upto_if 53 with fail
            go_cut [9, 10] from 54 to 78 (fun _ _ wx => Below W.heap.size W wx)
            case first =>
              cases rb with
              | false =>
                go_wp2_with fail
                go_meet
                exact P13.out
              | true =>
                have G1 := Lib.hid (GX.out ERB.out.symm w13 P13.out)
                have O1 := Lib.hid (OX.out ERB.out.symm)
                have E1 := Lib.hid (XE2.out ERB.out.symm)
                have K13 := Lib.hid (KX.out.below' P13.out)
                have x0 := K13.out.cell 0
                have x1 := K13.out.cell 1
                simp only [List.getElem?_toArray, List.getElem?_cons_zero, List.getElem?_cons_succ] at x0 x1
                go_wp2_with fail
                refine G1.out.mono ?_
                rintro e w14 ⟨gb, vs, rfl, hro⟩
                have RO := Lib.hid hro
                have P14 := Lib.hid (bb P13.out hro.low)
                have KG14 := Lib.hid (KG.out.below' P14.out)
                have g0 := KG14.out.cell 0
                simp only [List.getElem?_toArray, List.getElem?_cons_zero] at g0
                clear hro x0 x1
                go_wp2_with fail
                go_loopw [10] (fun ix wr => ∃ k : Nat, k ≤ i ∧ ix = .int .i64 k ∧ Below w14.heap.size w14 wr) (fun ix _ => i - (intOf ix).toNat)
                case atStart => exact ⟨0, by omega, rfl, Below.refl _ _⟩
                case round =>
                  obtain ⟨k, hk, rfl, hb⟩ := hrel
                  have HBL := Lib.hid hb
                  by_cases hlt : k < i
                  · have hlt2 : (k : Int) < i := by omega
                    obtain ⟨A0, c0, hc0⟩ := none_cell (RO.out.below hb) E1.out (k := k) (by rw [HXL.out]; exact hlt)
                    have PW := Lib.hid (bb P14.out hb)
                    have KXW := Lib.hid (KX.out.below' PW.out)
                    have x0 := KXW.out.cell 0
                    have x1 := KXW.out.cell 1
                    simp only [List.getElem?_toArray, List.getElem?_cons_zero, List.getElem?_cons_succ] at x0 x1
                    have O2 := Lib.hid (O1.out k hlt wr PW.out)
                    clear hb
                    go_wp2_with fail
                    refine O2.out.mono ?_
                    rintro e w20 ⟨rfl, hb20⟩
                    have H20 := Lib.hid (HBL.out.trans (hb20.mono HBL.out.size))
                    clear hb20 x0 x1 hc0
                    go_wp2_with fail
                    go_roundw
                    case rel => exact ⟨k + 1, by omega, by go_num, H20.out⟩
                    case measure => simp [intOf]; omega
                  · obtain rfl : k = i := by omega
                    have hlt2 : ¬ (k : Int) < k := by omega
                    clear hb
                    go_wp2_with fail
                    go_meet
                    exact bb P14.out HBL.out
            case rest =>
              have HC := Lib.hid hcut
              have CY := Lib.hid (fun (W' : World) (b : Below W.heap.size W W') => (⟨(KY.out.below' b).cell 0, (KY.out.below' b).cell 1⟩ : W'.cell? ⟨c, 0, none⟩ = some (.slice y.RA i y.rc) ∧ W'.cell? ⟨c, 1, none⟩ = some (.slice y.NA y.nodes.length y.nc)))
              have CG := Lib.hid (fun (W' : World) (b : Below W.heap.size W W') => (⟨(KG.out.below' b).cell 0, (KG.out.below' b).cell 1⟩ : W'.cell? ⟨w.heap.size, 0, none⟩ = some (.slice g.RA i g.rc) ∧ W'.cell? ⟨w.heap.size, 1, none⟩ = some (.slice g.NA g.nodes.length g.nc)))
              obtain ⟨y0, y1⟩ := CY.out _ HC.out
              obtain ⟨g0, g1⟩ := CG.out _ HC.out
              clear hcut
              obtain ⟨ry, ery⟩ : ∃ r, r = rightB y := ⟨_, rfl⟩
              have ERY := Lib.hid ery
              rw [← ery] at RY
              clear ery
              cases ry with
              | false =>
                go_upto_region 22 with fail
                go_region_with (first | (go_at_call 7; (with_reducible refine (RY.out _ (bdrew1 HC.out)).mono ?_); rintro e w22 ⟨rfl, hb22⟩; have P22 := Lib.hid (bb (bdrew1 HC.out) hb22); clear hb22))
                all_goals go_simp
                all_goals (
                  go_wp2_with fail
                  go_ret
                  exact ⟨rfl, by first | exact bb HW.out P25.out | exact bb HW.out P22.out⟩)
              | true =>
                have GY1 := Lib.hid (GY.out ERY.out.symm)
                go_upto_region 22 with fail
                go_region_with (first | (go_at_call 7; (with_reducible refine (RY.out _ (bdrew1 HC.out)).mono ?_); rintro e w22 ⟨rfl, hb22⟩; have P22 := Lib.hid (bb (bdrew1 HC.out) hb22); obtain ⟨y0, y1⟩ := CY.out _ P22.out; obtain ⟨g0, g1⟩ := CG.out _ P22.out; clear hb22) | (go_at_call 21; (with_reducible refine (GY1.out _ P22.out).mono ?_); rintro e w23 ⟨ga, va, rfl, hra⟩; have RA1 := Lib.hid hra; have P23 := Lib.hid (bb P22.out hra.low); obtain ⟨g0, g1⟩ := CG.out _ P23.out; clear hra) | (go_at_call 21; (with_reducible refine (GG.out _ P23.out).mono ?_); rintro e w24 ⟨gc, vc, rfl, hrb⟩; have RB1 := Lib.hid hrb; have RA2 := Lib.hid (RA1.out.below hrb.low); have P24 := Lib.hid (bb P23.out hrb.low); clear hrb) | (go_at_call 23; (with_reducible refine (SA.out _ _ _ _ _ _ _ RA2.out RB1.out).mono ?_); rintro e w25 ⟨rfl, hb25⟩; have P25 := Lib.hid (bb P24.out hb25); clear hb25))
                all_goals go_simp
                all_goals (
                  go_wp2_with fail
                  go_ret
                  exact ⟨rfl, by first | exact bb HW.out P25.out | exact bb HW.out P22.out⟩)
end Go.Proofs.Ytmlaepbmdfmgbaa

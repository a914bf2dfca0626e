/- The law NullAhead. -/
import Derived.Test.YtmlaepbmdfmgbaaN2
import Derived.Test.YtmlaepbmdfmgbaaQ2
import Derived.Test.YtmlaepbmdfmgbaaR1
import Derived.Test.YtmlaepbmdfmgbaaR2
import Derived.Test.YtmlaepbmdfmgbaaB7
import Derived.Deep.CutRange
set_option linter.unusedSimpArgs false
set_option linter.unusedVariables false
namespace Go.Proofs.Ytmlaepbmdfmgbaa
open Go Go.RowKit Go.Maps
structure AN (g : Gr) (w W : World) (v1 v2 : Value) (i : Nat) (hs ss : List Bdy) : Prop where
  ka : Blk W w.heap.size #[.slice g.RA g.rules.length g.rc, .slice g.NA g.nodes.length g.nc] 25
  r1 : RB w W v1 hs 200000
  r2 : RB w W v2 ss 200000
  ap : ∀ k, v1.ownBlock = some k → v2.ownBlock ≠ some k
  l1 : hs.length = i
  l2 : ss.length = i
  k1 : ∀ b ∈ hs, ∀ y ∈ b.2.2.map Nd.kz, 1 ≤ y.kind ∧ y.kind ≤ 12
  k2 : ∀ b ∈ ss, ∀ y ∈ b.2.2.map Nd.kz, 1 ≤ y.kind ∧ y.kind ≤ 12
  h1 : ∀ j, j < i → ∃ fr s : Nat, (g.rules.getD j Rl.zero).body = fr ∧ (measOf g fr).1 = s ∧ fr + s ≤ g.nodes.length ∧ (hs.getD j (none, 0, [])).2.2.map Nd.kz = ofL 6 [[leafN 2], (((g.nodes.drop fr).take s).map Nd.kz).map (mvk (-(fr : Int)))]
  h2 : ∀ j, j < i → ∃ fr s : Nat, (g.rules.getD j Rl.zero).body = fr ∧ (measOf g fr).1 = s ∧ fr + s ≤ g.nodes.length ∧ (ss.getD j (none, 0, [])).2.2.map Nd.kz = ofL 10 [(((g.nodes.drop fr).take s).map Nd.kz).map (mvk (-(fr : Int)))]
theorem opt_kinds {b : List Nd} (h : ∀ y ∈ b, 1 ≤ y.kind ∧ y.kind ≤ 12) : ∀ y ∈ ofL 10 [b], 1 ≤ y.kind ∧ y.kind ≤ 12 := by
  intro y hy
  rw [opt_eq] at hy
  rcases List.mem_cons.1 hy with rfl | hy
  · exact ⟨by show (1 : Int) ≤ 10; decide, by show (10 : Int) ≤ 12; decide⟩
  · obtain ⟨z, hz, rfl⟩ := List.mem_map.1 hy
    exact h z hz
theorem rank_n (x : Gr) (n : Nat) (hn : x.rules.length = n) (hin : Gr.In x) (k : Nat) (hk : k < 100) (v : Int) (hv : rankOf x k = v) (W : World) (h : Gr.At W x) : Calls Try.prog 15 #[.agg #[.slice x.RA n x.rc, .slice x.NA x.nodes.length x.nc], .int .i64 k] W fun e w' => e = .returned (.int .i64 v) ∧ Below W.heap.size W w' := by
  subst hn
  subst hv
  exact rank_any x k (by omega) W h hin
theorem node_n (x : Gr) (n m : Nat) (hn : x.rules.length = n) (hm : x.nodes.length = m) (hin : Gr.In x) (k : Nat) (hk : k < 100000) (v : Bool) (hv : nodeB x k = v) (W : World) (h : Gr.At W x) : Calls Try.prog 16 #[.agg #[.slice x.RA n x.rc, .slice x.NA m x.nc], .int .i64 k] W fun e w' => e = .returned (.bool v) ∧ Below W.heap.size W w' := by
  subst hn
  subst hm
  subst hv
  exact node_of x k (by omega) W h hin
theorem rules_n (x : Gr) (n m : Nat) (hn : x.rules.length = n) (hm : (rulesOf x).length = m) (hin : Gr.In x) (W : World) (h : Gr.At W x) : Calls Try.prog 14 #[.agg #[.slice x.RA n x.rc, .slice x.NA x.nodes.length x.nc]] W fun e w' => ∃ A c, e = .returned (.slice A m c) ∧ Below W.heap.size W w' := by
  subst hn
  subst hm
  refine (rules_any x W h hin).mono ?_
  rintro e w' ⟨⟨v, rfl, ho, _⟩, hb⟩
  obtain ⟨A, c, rfl, _, _⟩ := own_slice ho
  exact ⟨A, c, rfl, hb⟩
set_option maxRecDepth 100000 in
set_option maxHeartbeats 16000000 in
theorem nullahead_law (g : Gr) (w : World) (hg : Gr.At w g) (hin : Gr.In g) (hc : Capd g) : Calls Try.prog 3 #[g.val] w fun e w' => e = .returned (.bool true) ∧ Below w.heap.size w w' := by
  obtain ⟨i0, hi, hz0, hz1, hz2⟩ := info_parts Try.info_nl
  have HG := Lib.hid hg
  have SZ := Lib.hid (fun (w' : World) (b : Below w.heap.size w w') => size11_all g w' (hg.below b))
  have RI := Lib.hid (fun (w' : World) (b : Below w.heap.size w w') => right_all g w' (hg.below b) hin)
  have BD := Lib.hid (fun (hR : Right g) (hkl : ∀ x ∈ g.nodes, x.kids.length ≤ 1000) (q : Nat) (hq : q < g.rules.length) (w' : World) (b : Below w.heap.size w w') => body11_any g hR hc hkl q hq w' (hg.below b) hin)
  have hnl := hg.nl
  have hrl := hg.rl
  have HIN := Lib.hid (And.intro hin hc)
  clear hg hin hc
  show Calls Try.prog 3 #[.agg #[.slice g.RA g.rules.length g.rc, .slice g.NA g.nodes.length g.nc]] w _
  go_enter Try.func3, Try.ntmps3
  go_wp2_with fail
  refine (awake_any _).mono ?_
  rintro e w1 ⟨rfl, hb⟩
  have K1 := Lib.hid ((Blk.new w #[.slice g.RA g.rules.length g.rc, .slice g.NA g.nodes.length g.nc] 25).below' hb)
  have H1 := Lib.hid (bb (B1 w _) hb)
  have a0 := K1.out.cell 0
  have a1 := K1.out.cell 1
  simp only [List.getElem?_toArray, List.getElem?_cons_zero, List.getElem?_cons_succ] at a0 a1
  clear hb
  go_wp2_with fail
  refine (SZ.out _ H1.out).mono ?_
  rintro e w2 ⟨⟨z, rfl, hzz⟩, hb⟩
  have HZ := Lib.hid hzz
  have K2 := Lib.hid (K1.out.below' hb)
  have H2 := Lib.hid (bb H1.out hb)
  clear hb a0 a1 hzz
  by_cases hz : 300 < z
  · go_wp2_with fail
    go_ret
    exact ⟨rfl, H2.out⟩
  · have hz2' : ¬ 300 < z := hz
    have b0 := K2.out.cell 0
    have b1 := K2.out.cell 1
    simp only [List.getElem?_toArray, List.getElem?_cons_zero, List.getElem?_cons_succ] at b0 b1
    go_wp2_with fail
    refine (RI.out _ H2.out).mono ?_
    rintro e w3 ⟨rfl, hb⟩
    have K3 := Lib.hid (K2.out.below' hb)
    have H3 := Lib.hid (bb H2.out hb)
    clear hb b0 b1 K1 K2 H1 H2 SZ RI
    cases hr : rightB g with
    | false =>
      clear hr
      go_wp2_with fail
      go_ret
      exact ⟨rfl, H3.out⟩
    | true =>
      have hR := rightB_true.1 hr
      have ZZ := Lib.hid (HZ.out (by omega))
      have B9 := Lib.hid (BD.out hR (fun x hx => by have := ZZ.out.2 x hx; omega))
      have HR := Lib.hid hR
      have h32 := hR.rules.2
      have h1r := hR.rules.1
      clear BD hr hR HZ
      obtain ⟨R, eR⟩ : ∃ R, R = g.rules.length := ⟨_, rfl⟩
      have ER := Lib.hid eR
      rw [← eR] at h32 h1r hrl ⊢
      clear eR
      go_wp2_with fail
      go_loopw [3, 4, 5] (fun v1 v2 ix wr => ∃ (i : Nat) (hs ss : List Bdy), i ≤ R ∧ ix = .int .i64 i ∧ AN g w wr v1 v2 i hs ss) (fun _ _ ix _ => R - (intOf ix).toNat)
      case atStart => exact ⟨0, [], [], by omega, rfl, K3.out, RB.nil _ _ _ H3.out, RB.nil _ _ _ H3.out, (fun k h => by simp [Value.ownBlock] at h), rfl, rfl, (fun b hb => by cases hb), (fun b hb => by cases hb), fun j hj => by omega, fun j hj => by omega⟩
      case round =>
        obtain ⟨i, hs, ss, hi', rfl, hab⟩ := hrel
        have b0 := hab.ka.cell 0
        have b1 := hab.ka.cell 1
        simp only [List.getElem?_toArray, List.getElem?_cons_zero, List.getElem?_cons_succ] at b0 b1
        rw [← ER.out] at b0
        have AX := Lib.hid hab
        by_cases hlt : i < R
        · have hlt2 : (i : Int) < R := by omega
          have hir : i < g.rules.length := by rw [← ER.out]; exact hlt
          have BB : RowKit.Hid (Calls Try.prog 8 #[.agg #[.slice g.RA R g.rc, .slice g.NA g.nodes.length g.nc], .int .i64 i] wr fun e w' => ∃ A' c' fr s l', e = .returned (.slice A' l'.length c') ∧ (g.rules.getD i Rl.zero).body = (fr : Nat) ∧ (measOf g fr).1 = (s : Nat) ∧ fr + s ≤ g.nodes.length ∧ Moved (-(fr : Int)) ((g.nodes.drop fr).take s) l' ∧ Owd wr w' (.slice A' l'.length c') l' 2048 ∧ (A' = none → c' = 0) ∧ Below wr.heap.size wr w') := Lib.hid (by rw [ER.out]; exact B9.out i hir wr hab.r1.low)
          clear hab
          go_wp2_with fail
          refine BB.out.mono ?_
          rintro e w4 ⟨A', c', fr, s, l', rfl, f1, f2, f3, f4, f5, f6, hb4⟩
          have F := Lib.hid (And.intro f1 (And.intro f2 (And.intro f3 (And.intro f4 f6))))
          have BO := Lib.hid f5
          have LW := Lib.hid AX.out.r1.low
          have P4 := Lib.hid hb4
          have hl300 : l'.length ≤ 300 := by
            have h := f4.1
            have := ZZ.out.1
            rw [h]; simp; omega
          clear f1 f2 f3 f4 f5 f6 hb4 b0 b1 BB
          go_wp2_with fail
          refine (leaf_full 2 w4).mono ?_
          rintro e w5 ⟨A1, c1, L1, rfl, k1, o1, s1, n1, hb5⟩
          have hL1 : L1.length ≤ 1000 := by have := congrArg List.length k1; simp at this; omega
          have P5 := Lib.hid (bb P4.out hb5)
          have P5b := Lib.hid hb5
          have BO5 := Lib.hid ((BO.out.below hb5).bod (by omega))
          have CH := Lib.hid (chain_full A1 c1 L1 A' c' l' 100000 w5 ((o1.bod s1).mono (by omega)) (BO5.out.mono (by omega)) n1 F.out.2.2.2.2 hL1 (by omega) (by omega))
          rw [k1] at CH
          clear k1 o1 s1 n1 hb5
          go_wp2_with fail
          refine CH.out.mono ?_
          rintro e w6 ⟨A2, c2, L2, rfl, k2, o2, s2, n2, hb6⟩
          have hL2 : L2.length ≤ 1000 := by
            have := congrArg List.length k2
            rw [hard_eq] at this
            simp at this
            omega
          have P6 := Lib.hid (bb P5.out hb6)
          have BO6 := Lib.hid ((BO.out.below (P5b.out.trans (hb6.mono P5b.out.size))).lower LW.out)
          have OB6 := Lib.hid (show Owd w w6 (bcell (A2, c2, L2)) L2 200000 from o2.lower (AX.out.r1.low.trans (P5.out.mono AX.out.r1.low.size)))
          have KZ2 := Lib.hid k2
          have N2 := Lib.hid n2
          have R16 := Lib.hid (AX.out.r1.below P6.out)
          have R26 := Lib.hid (AX.out.r2.below P6.out)
          have hs60 : hs.length ≤ 32 := by have := AX.out.l1; omega
          clear k2 o2 s2 n2 hb6 CH
          go_upto_region 11 with (at_builtin; refine wpList_append_own_at _ rfl _ _ 29 rfl w.heap.size 23 i0 (.slice none 0 0) 1 24 Try.underlying_nll hi hz0 hz1 hz2 rfl (by decide) _ _ _ rfl (R16.out.row.alloc _) ⟨w6.heap.size, 0, none⟩ 1 1 [.slice A2 L2.length c2] rfl rfl (cell_one_new _ _ _) (by simp [Value.oneCell']) (by unfold maxLen; omega) (by omega) (by have := R16.out.low.size; simp; omega) ?_; intro v1' w7 hown hgrow hnil hblk; have O7 := Lib.hid hown; have G7 := Lib.hid hgrow; have K7 := Lib.hid hblk; clear hown hgrow hnil hblk)
          have AB6 := Lib.hid (B1 w6 (.cells #[.slice A2 L2.length c2] 23))
          have R17 := Lib.hid ((R16.out.below AB6.out).add (b := (A2, c2, L2)) (OB6.out.below AB6.out) hL2 N2.out O7.out G7.out)
          have R27 := Lib.hid ((R16.out.below AB6.out).beside (R26.out.below AB6.out) AX.out.ap G7.out)
          have AP7 := Lib.hid ((R26.out.below AB6.out).apart AX.out.ap K7.out)
          have KA7 := Lib.hid (show Blk w7 w.heap.size #[.slice g.RA g.rules.length g.rc, .slice g.NA g.nodes.length g.nc] 25 from by
            have h6 := (AX.out.ka.below' P6.out).alloc (.cells #[.slice A2 L2.length c2] 23)
            exact h6.grown G7.out (fun e => own_ne (R16.out.row.alloc _) h6 (by decide) (by exact e.symm)))
          have BO7 := Lib.hid ((BO6.out.below AB6.out).rowed (R16.out.row.alloc _) G7.out)
          clear O7 G7 K7 R16 R26 OB6 BO6 AB6 P6 P5 P5b BO5 P4
          go_wp2_with fail
          refine (kin_full 10 A' c' l' 100000 w7 ((BO7.out.bod (by omega)).mono (by omega)) F.out.2.2.2.2 (by omega) (by omega)).mono ?_
          rintro e w10 ⟨A5, c5, L5, rfl, k5, o5, s5, n5, hb10⟩
          have hL5 : L5.length ≤ 1000 := by
            have := congrArg List.length k5
            rw [opt_eq] at this
            simp at this
            omega
          have P10 := Lib.hid hb10
          have OB10 := Lib.hid (show Owd w w10 (bcell (A5, c5, L5)) L5 200000 from o5.lower R17.out.low)
          have KZ5 := Lib.hid k5
          have N5 := Lib.hid n5
          have R110 := Lib.hid (R17.out.below P10.out)
          have R210 := Lib.hid (R27.out.below P10.out)
          have ss60 : ss.length ≤ 32 := by have := AX.out.l2; omega
          clear k5 o5 s5 n5 hb10
          go_wp2_with (at_builtin; refine wpList_append_own_at _ rfl _ _ 29 rfl w.heap.size 23 i0 (.slice none 0 0) 1 24 Try.underlying_nll hi hz0 hz1 hz2 rfl (by decide) _ _ _ rfl (R210.out.row.alloc _) ⟨w10.heap.size, 0, none⟩ 1 1 [.slice A5 L5.length c5] rfl rfl (cell_one_new _ _ _) (by simp [Value.oneCell']) (by unfold maxLen; omega) (by omega) (by have := R210.out.low.size; simp; omega) ?_; intro v2' w11 hown hgrow hnil hblk; have O11 := Lib.hid hown; have G11 := Lib.hid hgrow; have K11 := Lib.hid hblk; clear hown hgrow hnil hblk)
          have AB10 := Lib.hid (B1 w10 (.cells #[.slice A5 L5.length c5] 23))
          have R211 := Lib.hid ((R210.out.below AB10.out).add (b := (A5, c5, L5)) (OB10.out.below AB10.out) hL5 N5.out O11.out G11.out)
          have FL := Lib.hid (fun k (h2 : u4.ownBlock = some k) (h1 : v1'.ownBlock = some k) => AP7.out k h1 h2)
          have R111 := Lib.hid ((R210.out.below AB10.out).beside (R110.out.below AB10.out) FL.out G11.out)
          have AP11 := Lib.hid ((R110.out.below AB10.out).apart FL.out K11.out)
          have KA11 := Lib.hid (show Blk w11 w.heap.size #[.slice g.RA g.rules.length g.rc, .slice g.NA g.nodes.length g.nc] 25 from by
            have h6 := (KA7.out.below' P10.out).alloc (.cells #[.slice A5 L5.length c5] 23)
            exact h6.grown G11.out (fun e => own_ne (R210.out.row.alloc _) h6 (by decide) (by exact e.symm)))
          go_roundw
          case rel =>
            have hl1 := AX.out.l1
            have hl2 := AX.out.l2
            refine ⟨i + 1, hs ++ [(A2, c2, L2)], ss ++ [(A5, c5, L5)], by omega, by go_num, KA11.out, R111.out, R211.out, fun k h1 h2 => AP11.out k h2 h1, by simp; omega, by simp; omega, fun b hb => ?_, fun b hb => ?_, fun j hj => ?_, fun j hj => ?_⟩
            · rcases List.mem_append.1 hb with hb | hb
              · exact AX.out.k1 b hb
              · obtain rfl : b = (A2, c2, L2) := by simpa using hb
                rw [show ((A2, c2, L2) : Bdy).2.2.map Nd.kz = _ from KZ2.out]
                exact hard_kinds (by rw [F.out.2.2.2.1.kz]; exact part_kinds HR.out fr s _)
            · rcases List.mem_append.1 hb with hb | hb
              · exact AX.out.k2 b hb
              · obtain rfl : b = (A5, c5, L5) := by simpa using hb
                rw [show ((A5, c5, L5) : Bdy).2.2.map Nd.kz = _ from KZ5.out]
                exact opt_kinds (by rw [F.out.2.2.2.1.kz]; exact part_kinds HR.out fr s _)
            · by_cases e : j < i
              · have := AX.out.h1 j e
                rw [show (hs ++ [(A2, c2, L2)]).getD j (none, 0, []) = hs.getD j (none, 0, []) from by simp only [List.getD]; rw [List.getElem?_append_left (by omega)]]
                exact this
              · obtain rfl : j = i := by omega
                rw [show (hs ++ [(A2, c2, L2)]).getD j (none, 0, []) = (A2, c2, L2) from by simp [List.getD, ← hl1]]
                refine ⟨fr, s, F.out.1, F.out.2.1, F.out.2.2.1, ?_⟩
                rw [← F.out.2.2.2.1.kz]
                exact KZ2.out
            · by_cases e : j < i
              · have := AX.out.h2 j e
                rw [show (ss ++ [(A5, c5, L5)]).getD j (none, 0, []) = ss.getD j (none, 0, []) from by simp only [List.getD]; rw [List.getElem?_append_left (by omega)]]
                exact this
              · obtain rfl : j = i := by omega
                rw [show (ss ++ [(A5, c5, L5)]).getD j (none, 0, []) = (A5, c5, L5) from by simp [List.getD, ← hl2]]
                refine ⟨fr, s, F.out.1, F.out.2.1, F.out.2.2.1, ?_⟩
                rw [← F.out.2.2.2.1.kz]
                exact KZ5.out
          case measure => simp [intOf]; omega
        · obtain rfl : i = R := by omega
          have hlt2 : ¬ (i : Int) < i := by omega
          clear hab
          go_upto_region 12 with fail
          obtain ⟨A1, c1, q1, n1, m1⟩ := own_slice AX.out.r1.row
          obtain ⟨A2, c2, q2, n2, m2⟩ := own_slice AX.out.r2.row
          have hl1 := AX.out.l1
          have hl2 := AX.out.l2
          have hG : ∀ W : World, Below wr.heap.size wr W → Gr.At W g := fun W hb => HG.out.below (AX.out.r1.low.trans (hb.mono AX.out.r1.low.size))
          have hgr : g.rules.length ≤ 32 := by rw [← ER.out]; exact h32
          have hB1 : ∀ W, Below wr.heap.size wr W → Bds W A1 hs 200000 := fun W hb => by
            have h := AX.out.r1.below hb
            rw [q1] at h
            exact h.bds
          have hB2 : ∀ W, Below wr.heap.size wr W → Bds W A2 ss 200000 := fun W hb => by
            have h := AX.out.r2.below hb
            rw [q2] at h
            exact h.bds
          have e0 : (hs.map fun b => b.2.2.map Nd.kz).length = g.rules.length := by rw [List.length_map, hl1]; exact ER.out
          have f0 : (ss.map fun b => b.2.2.map Nd.kz).length = g.rules.length := by rw [List.length_map, hl2]; exact ER.out
          have kk1 : ∀ b ∈ hs.map fun b => b.2.2.map Nd.kz, ∀ y ∈ b, 1 ≤ y.kind ∧ y.kind ≤ 12 := fun b hb => by
            obtain ⟨z, hz, rfl⟩ := List.mem_map.1 hb
            exact AX.out.k1 z hz
          have kk2 : ∀ b ∈ ss.map fun b => b.2.2.map Nd.kz, ∀ y ∈ b, 1 ≤ y.kind ∧ y.kind ≤ 12 := fun b hb => by
            obtain ⟨z, hz, rfl⟩ := List.mem_map.1 hb
            exact AX.out.k2 z hz
          have hka := AX.out.ka
          refine wp_region_inv (IS wr g u3 u4 (hs.map fun b => b.2.2.map Nd.kz) (ss.map fun b => b.2.2.map Nd.kz)) (by kernel_rfl) (by kernel_rfl) (by kernel_rfl) (by kernel_rfl) (IS.start (bdrew1 (Below.refl _ _)) fun _ => rfl) ?hop ?hend
          case hop =>
            intro j o ho L a W h hj hd hu
            rcases j with _ | _ | _ | _ | _ | _ | _ | _ | _ | _ | _ | _ | j
            · obtain rfl := Option.some.inj ho
              exact sn0 h rfl rfl (hu 3 (by kernel_rfl))
            · obtain rfl := Option.some.inj ho
              exact sn1 h rfl rfl (hd ⟨0, .data⟩ (by simp) rfl) q1 hB1 (by omega) (by omega)
            · obtain rfl := Option.some.inj ho
              exact sn2 h rfl rfl (hu 1 (by kernel_rfl)) hka
            · obtain rfl := Option.some.inj ho
              exact sn3 h rfl rfl (hd ⟨1, .data⟩ (by simp) rfl) (hd ⟨2, .data⟩ (by simp) rfl) hj hgr e0 hG kk1
            · obtain rfl := Option.some.inj ho
              exact sn4 h rfl rfl (hu 4 (by kernel_rfl))
            · obtain rfl := Option.some.inj ho
              exact sn5 h rfl rfl (hd ⟨4, .data⟩ (by simp) rfl) (hd ⟨3, .chain⟩ (by simp) rfl) hj q2 hB2 (by omega) (by omega)
            · obtain rfl := Option.some.inj ho
              exact sn6 h rfl rfl (hu 1 (by kernel_rfl)) hka
            · obtain rfl := Option.some.inj ho
              exact sn7 h rfl rfl (hd ⟨5, .data⟩ (by simp) rfl) (hd ⟨6, .data⟩ (by simp) rfl) hj hgr f0 hG kk2
            · obtain rfl := Option.some.inj ho
              exact sn8 h rfl rfl hj
            · obtain rfl := Option.some.inj ho
              exact sn9 h rfl rfl hj
            · obtain rfl := Option.some.inj ho
              exact sn10 h rfl rfl (hd ⟨7, .chain⟩ (by simp) rfl) (hd ⟨8, .data⟩ (by simp) rfl) (hd ⟨9, .phase⟩ (by simp) rfl) hj
            · obtain rfl := Option.some.inj ho
              exact sn11 h rfl rfl (hd ⟨7, .data⟩ (by simp) rfl) (hd ⟨8, .phase⟩ (by simp) rfl) (hd ⟨9, .data⟩ (by simp) rfl) (hd ⟨10, .chain⟩ (by simp) rfl)
            · exact absurd (List.getElem?_eq_some_iff.1 ho).1 (by simp)
          case hend =>
            intro L f W hL h
            obtain ⟨x, y, bx, c, e7, e8, kx, ky, dx, dy, hb⟩ := h.done (fun i hi => hL i hi)
            have hxl : x.rules.length = i := dx.built.len.trans (by rw [List.length_map]; exact hl1)
            have hyl : y.rules.length = i := dy.built.len.trans (by rw [List.length_map]; exact hl2)
            have TW := Lib.hid (two_of HR.out dx.built dy.built e0 f0 dx.names dy.names (by have := ZZ.out.1; omega) (fun k hk => by
              have hk2 : k < i := by rw [ER.out]; exact hk
              obtain ⟨fr, s, a1, a2, a3, a4⟩ := AX.out.h1 k hk2
              exact ⟨fr, s, a1, a2, a3, by rw [getD_bodies hs k (by omega)]; exact a4⟩) (fun k hk => by
              have hk2 : k < i := by rw [ER.out]; exact hk
              obtain ⟨fr, s, a1, a2, a3, a4⟩ := AX.out.h2 k hk2
              exact ⟨fr, s, a1, a2, a3, by rw [getD_bodies ss k (by omega)]; exact a4⟩))
            obtain ⟨m, em⟩ : ∃ m, m = x.nodes.length := ⟨_, rfl⟩
            have EMX := Lib.hid em
            have KX := Lib.hid (show Blk W bx #[.slice x.RA i x.rc, .slice x.NA m x.nc] 25 from by rw [← hxl, em]; exact kx)
            have KY := Lib.hid (show Blk W c #[.slice y.RA i y.rc, .slice y.NA y.nodes.length y.nc] 25 from by rw [← hyl]; exact ky)
            have KG := Lib.hid (show Blk W w.heap.size #[.slice g.RA i g.rc, .slice g.NA g.nodes.length g.nc] 25 from by rw [ER.out]; exact hka.below' hb)
            obtain ⟨rb, erb⟩ : ∃ r, r = rightB x := ⟨_, rfl⟩
            have ERB := Lib.hid erb
            have ERY := Lib.hid (erb.trans TW.out.same)
            have RX := Lib.hid (fun (W' : World) (b : Below W.heap.size W W') => right_n x i hxl dx.in_ W' (dx.at_.below b))
            have RY := Lib.hid (fun (W' : World) (b : Below W.heap.size W W') => right_n y i hyl dy.in_ W' (dy.at_.below b))
            rw [← ERB.out, ← em] at RX
            rw [← ERY.out] at RY
            have KNX := Lib.hid (fun (hr : rightB x = true) (k : Nat) (hk : k < i) (W' : World) (b : Below W.heap.size W W') => rank_n x i hxl dx.in_ k (by omega) 0 (TW.out.r0 hr k (by rw [← ER.out]; exact hk)) W' (dx.at_.below b))
            have KNY := Lib.hid (fun (hr : rightB y = true) (k : Nat) (hk : k < i) (W' : World) (b : Below W.heap.size W W') => rank_n y i hyl dy.in_ k (by omega) 1 (TW.out.r1 hr k (by rw [← ER.out]; exact hk)) W' (dy.at_.below b))
            have NDX := Lib.hid (fun (hr : rightB x = true) (k : Nat) (hk : k < m) (h5 : (x.nodes.getD k Nd.zero).kind = 5) (W' : World) (b : Below W.heap.size W W') => node_n x i m hxl em.symm dx.in_ k (by have := (rightB_true.1 hr).nodes; omega) false (TW.out.nd hr k (by omega) h5) W' (dx.at_.below b))
            have RLX := Lib.hid (fun (hr : rightB x = false) (W' : World) (b : Below W.heap.size W W') => rules_n x i 0 hxl (by rw [rules_no hr]; rfl) dx.in_ W' (dx.at_.below b))
            have RLY := Lib.hid (fun (hr : rightB y = true) (W' : World) (b : Below W.heap.size W W') => rules_n y i i hyl ((TW.out.rl hr).trans ER.out.symm) dy.in_ W' (dy.at_.below b))
            rw [← em] at KNX RLX
            have NX := Lib.hid (fun (W' : World) (b : Below W.heap.size W W') (k : Nat) (hk : k < m) => (dx.at_.below b).nodes.nine (i := k) (by omega))
            have MX := Lib.hid (fun (hr : rightB x = true) => show m ≤ 2048 from by have := (rightB_true.1 hr).nodes; omega)
            have HW := Lib.hid (AX.out.r1.low.trans (hb.mono AX.out.r1.low.size))
            simp only [putOps]
            rw [e7, e8]
            unfold bptr
            generalize f 42 = z42
            generalize f 43 = z43
            generalize f 44 = z44
            generalize f 45 = z45
            generalize f 46 = z46
            generalize f 47 = z47
            generalize f 48 = z48
            generalize f 49 = z49
            have x0 := KX.out.cell 0
            have x1 := KX.out.cell 1
            have y0 := KY.out.cell 0
            have y1 := KY.out.cell 1
            simp only [List.getElem?_toArray, List.getElem?_cons_zero, List.getElem?_cons_succ] at x0 x1 y0 y1
            clear hL h e7 e8 kx ky dx dy hb hxl hyl b0 b1 q1 n1 m1 q2 n2 m2 hl1 hl2 hG hgr hB1 hB2 e0 f0 kk1 kk2 hka HG HIN B9 HR AX em erb TW
            have CX := Lib.hid (fun (W' : World) (b : Below W.heap.size W W') => (⟨(KX.out.below' b).cell 0, (KX.out.below' b).cell 1⟩ : W'.cell? ⟨bx, 0, none⟩ = some (.slice x.RA i x.rc) ∧ W'.cell? ⟨bx, 1, none⟩ = some (.slice x.NA m x.nc)))
            have CY := Lib.hid (fun (W' : World) (b : Below W.heap.size W W') => (⟨(KY.out.below' b).cell 0, (KY.out.below' b).cell 1⟩ : W'.cell? ⟨c, 0, none⟩ = some (.slice y.RA i y.rc) ∧ W'.cell? ⟨c, 1, none⟩ = some (.slice y.NA y.nodes.length y.nc)))
            have CG := Lib.hid (fun (W' : World) (b : Below W.heap.size W W') => (⟨(KG.out.below' b).cell 0, (KG.out.below' b).cell 1⟩ : W'.cell? ⟨w.heap.size, 0, none⟩ = some (.slice g.RA i g.rc) ∧ W'.cell? ⟨w.heap.size, 1, none⟩ = some (.slice g.NA g.nodes.length g.nc)))
            cases rb with
            | false =>
              have RX1 := Lib.hid (RLX.out ERB.out.symm)
              clear KNX KNY NDX RLX RLY NX MX
              go_simp
              go_wp2_with fail
              refine (RX.out W (Below.refl _ _)).mono ?_
              rintro e w13 ⟨rfl, hb13⟩
              have P13 := Lib.hid hb13
              clear hb13 x0 x1 y0 y1
              obtain ⟨x0, x1⟩ := CX.out _ P13.out
              obtain ⟨y0, y1⟩ := CY.out _ P13.out
              go_upto_region 14 with fail
              go_region_with (first | (go_at_call 7; (with_reducible refine (RX.out _ (bdrew1 P13.out)).mono ?_); rintro e w15 ⟨rfl, hb15⟩; have P15 := Lib.hid (bb (bdrew1 P13.out) hb15); obtain ⟨x0, x1⟩ := CX.out _ P15.out; obtain ⟨y0, y1⟩ := CY.out _ P15.out; clear hb15) | (go_at_call 7; (with_reducible refine (RY.out _ P15.out).mono ?_); rintro e w16 ⟨rfl, hb16⟩; have P16 := Lib.hid (bb P15.out hb16); obtain ⟨x0, x1⟩ := CX.out _ P16.out; clear hb16) | (go_at_call 14; (with_reducible refine (RX1.out _ P16.out).mono ?_); rintro e w17 ⟨A9, c9, rfl, hb17⟩; have P17 := Lib.hid (bb P16.out hb17); clear hb17))
              all_goals go_simp
              all_goals (
                go_wp2_with fail
                go_ret
                exact ⟨rfl, bb HW.out P17.out⟩)
            | true =>
              have KX1 := Lib.hid (KNX.out ERB.out.symm)
              have KY1 := Lib.hid (KNY.out ERY.out.symm)
              have ND1 := Lib.hid (NDX.out ERB.out.symm)
              have RY1 := Lib.hid (RLY.out ERY.out.symm)
              have MX1 := Lib.hid (MX.out ERB.out.symm)
              clear KNX KNY NDX RLX RLY MX
              go_simp
              go_wp2_with fail
              refine (RX.out W (Below.refl _ _)).mono ?_
              rintro e w13 ⟨rfl, hb13⟩
              have P13 := Lib.hid hb13
              clear hb13 x0 x1 y0 y1
              obtain ⟨x0, x1⟩ := CX.out _ P13.out
              obtain ⟨y0, y1⟩ := CY.out _ P13.out
              go_wp2_with fail
              refine (RY.out w13 P13.out).mono ?_
              rintro e w14 ⟨rfl, hb14⟩
              have P14 := Lib.hid (bb P13.out hb14)
              clear hb14 x0 x1 y0 y1
              go_wp2_with fail
              go_loopw [9] (fun ix wr => ∃ k : Nat, k ≤ i ∧ ix = .int .i64 k ∧ Below W.heap.size W wr) (fun ix _ => i - (intOf ix).toNat)
              case atStart => exact ⟨0, by omega, rfl, P14.out⟩
              case round =>
                obtain ⟨k, hk, rfl, hb⟩ := hrel
                have HBL := Lib.hid hb
                obtain ⟨x0, x1⟩ := CX.out _ hb
                obtain ⟨y0, y1⟩ := CY.out _ hb
                obtain ⟨g0, g1⟩ := CG.out _ hb
                by_cases hlt : k < i
                · have hlt2 : (k : Int) < i := by omega
                  have Q1 := Lib.hid (KX1.out k hlt)
                  have Q2 := Lib.hid (KY1.out k hlt)
                  clear hb
                  go_wp2_with fail
                  refine (Q1.out _ HBL.out).mono ?_
                  rintro e w20 ⟨rfl, hb20⟩
                  have H20 := Lib.hid (bb HBL.out hb20)
                  clear hb20 x0 x1 y0 y1 g0 g1
                  obtain ⟨y0, y1⟩ := CY.out _ H20.out
                  go_wp2_with fail
                  refine (Q2.out _ H20.out).mono ?_
                  rintro e w21 ⟨rfl, hb21⟩
                  have H21 := Lib.hid (bb H20.out hb21)
                  clear hb21 y0 y1
                  go_wp2_with fail
                  go_roundw
                  case rel => exact ⟨k + 1, by omega, by go_num, H21.out⟩
                  case measure => simp [intOf]; omega
                · obtain rfl : k = i := by omega
                  have hlt2 : ¬ (k : Int) < k := by omega
                  clear hb KX1 KY1
                  go_wp2_with fail
                  go_loopw [10] (fun ix wr => ∃ n : Nat, n ≤ m ∧ ix = .int .i64 n ∧ Below W.heap.size W wr) (fun ix _ => m - (intOf ix).toNat)
                  case atStart => exact ⟨0, by omega, rfl, HBL.out⟩
                  case round =>
                    obtain ⟨n, hn, rfl, hb⟩ := hrel
                    have HC := Lib.hid hb
                    obtain ⟨x0, x1⟩ := CX.out _ hb
                    by_cases hnt : n < m
                    · have hnt2 : (n : Int) < m := by omega
                      have hm2 := MX1.out
                      obtain ⟨nb, no, eA, _, kc, _⟩ := NX.out _ hb n hnt
                      have N5 := Lib.hid (ND1.out n hnt)
                      rw [eA] at x1 N5
                      obtain ⟨kd, ekd⟩ : ∃ u, u = (x.nodes.getD n Nd.zero).kind := ⟨_, rfl⟩
                      rw [← ekd] at kc N5
                      have EKD := Lib.hid ekd
                      clear hb eA ekd
                      by_cases h5 : kd = 5
                      · subst h5
                        have N6 := Lib.hid (N5.out rfl)
                        go_wp2_with fail
                        refine (N6.out _ HC.out).mono ?_
                        rintro e w24 ⟨rfl, hb24⟩
                        have H24 := Lib.hid (bb HC.out hb24)
                        clear hb24 x0 x1 kc
                        go_wp2_with fail
                        go_roundw
                        case rel => exact ⟨n + 1, by omega, by go_num, H24.out⟩
                        case measure => simp [intOf]; omega
                      · have h5b : (kd == 5) = false := by simpa using h5
                        go_wp2_with fail
                        go_roundw
                        case rel => exact ⟨n + 1, by omega, by go_num, HC.out⟩
                        case measure => simp [intOf]; omega
                    · obtain rfl : n = m := by omega
                      have hnt2 : ¬ (n : Int) < n := by omega
                      clear hb ND1 NX
                      obtain ⟨y0, y1⟩ := CY.out _ HC.out
                      obtain ⟨g0, g1⟩ := CG.out _ HC.out
                      go_upto_region 25 with fail
                      clear x0 x1
                      go_region_with (first | (go_at_call 14; (with_reducible refine (RY1.out _ (bdrew1 HC.out)).mono ?_); rintro e w25 ⟨A9, c9, rfl, hb25⟩; have P25 := Lib.hid (bb (bdrew1 HC.out) hb25); obtain ⟨g0, g1⟩ := CG.out _ P25.out; clear hb25))
                      all_goals go_simp
                      all_goals (
                        go_wp2_with fail
                        go_ret
                        exact ⟨rfl, bb HW.out P25.out⟩)
end Go.Proofs.Ytmlaepbmdfmgbaa

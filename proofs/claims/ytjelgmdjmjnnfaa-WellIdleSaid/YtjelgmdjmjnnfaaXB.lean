/- The law WellIdle: true of any grammar. -/
import Derived.Test.YtjelgmdjmjnnfaaC3
import Derived.Test.YtjelgmdjmjnnfaaX9
import Derived.Deep.CutRange
set_option linter.unusedSimpArgs false
set_option linter.unusedVariables false
namespace Go.Proofs.Ytjelgmdjmjnnfaa
open Go Go.RowKit Go.Maps
noncomputable def idleR (g : Gr) (n : Nat) : Bool := rightB g && idleN g n
theorem idleRow_eq (g : Gr) : idleRow g = rowOf' g.nodes.length (idleR g) := by
  unfold idleRow
  cases h : rightB g with
  | true => exact rowOf_congr fun i _ => by unfold idleR; rw [h]; rfl
  | false =>
    symm
    apply List.eq_nil_iff_forall_not_mem.2
    intro n hn
    have := (rowOf_mem.1 hn).2
    unfold idleR at this
    rw [h] at this
    cases this
theorem idleB_eq {g : Gr} {m : Nat} (hm : m < g.nodes.length) : idleB g m = idleR g m := by
  unfold idleB idleR
  rw [Int.toNat_natCast, decide_eq_true (show (0 : Int) ≤ m ∧ (m : Int) < g.nodes.length by omega), Bool.true_and]
set_option maxRecDepth 100000 in
set_option maxHeartbeats 8000000 in
theorem idle_law (g : Gr) (w : World) (hg : Gr.At w g) (hin : Gr.In g) : Calls Try.prog 4 #[g.val] w fun e w' => e = .returned (.bool true) ∧ Below w.heap.size w w' := by
  have HG := Lib.hid hg
  have SZ := Lib.hid (fun (w' : World) (b : Below w.heap.size w w') => size15_all g w' (hg.below b))
  have RI := Lib.hid (fun (w' : World) (b : Below w.heap.size w w') => right_all g w' (hg.below b) hin)
  have AL := Lib.hid (fun (w' : World) (b : Below w.heap.size w w') => wellAll_any g w' (hg.below b) hin)
  have FI := Lib.hid (fun (w' : World) (b : Below w.heap.size w w') => wellFirst_any g w' (hg.below b) hin)
  have WW := Lib.hid (fun (w' : World) (b : Below w.heap.size w w') => wellWell_any g w' (hg.below b) hin)
  have ID := Lib.hid (fun (n : Nat) (hn : n < 1000000) (w' : World) (b : Below w.heap.size w w') => wellIdle_any g n (by omega) w' (hg.below b) hin)
  have ND := Lib.hid (fun (n : Int) (hn : -9223372036854775808 ≤ n ∧ n < 9223372036854775808) (w' : World) (b : Below w.heap.size w w') => node_of g n hn w' (hg.below b) hin)
  clear hg hin
  go_enter Try.func4, Try.ntmps4
  go_upto_region 5 with (first | (go_at_call 6; (with_reducible refine (wawake_any _).mono ?_); rintro e w1 ⟨rfl, hb⟩; have H1 := Lib.hid (bb (B1 w _) hb); have K1 := Lib.hid ((Blk.new w _ _).below' hb); have a0 := K1.out.cell 0; have a1 := K1.out.cell 1; simp only [List.getElem?_toArray, List.getElem?_cons_zero, List.getElem?_cons_succ] at a0 a1; clear hb) | (go_at_call 7; (with_reducible refine (SZ.out _ H1.out).mono ?_); rintro e w2 ⟨⟨z, rfl, hz⟩, hb⟩; have HZ := Lib.hid hz; have H2 := Lib.hid (bb H1.out hb); have K2 := Lib.hid (K1.out.below' hb); have b0 := K2.out.cell 0; have b1 := K2.out.cell 1; simp only [List.getElem?_toArray, List.getElem?_cons_zero, List.getElem?_cons_succ] at b0 b1; clear hb hz a0 a1))
  · -- TOO GREAT
    go_ret
    exact ⟨rfl, H2.out⟩
  · have hz : z ≤ 300 := by assumption
    have hsz := HZ.out hz
    have hN3 : g.nodes.length ≤ 300 := by have := hsz.1; omega
    obtain ⟨gb, egb⟩ : ∃ u, u = w.heap.size := ⟨_, rfl⟩
    obtain ⟨N, eN⟩ : ∃ u, u = g.nodes.length := ⟨_, rfl⟩
    have hN : N ≤ 300 := by rw [eN]; exact hN3
    have KG2 : RowKit.Hid (Blk w2 gb #[.slice g.RA g.rules.length g.rc, .slice g.NA N g.nc] 25) := Lib.hid (by rw [egb, eN]; exact K2.out)
    have GV := Lib.hid (show g.val = .agg #[.slice g.RA g.rules.length g.rc, .slice g.NA N g.nc] from by unfold Gr.val; rw [eN])
    have EN := Lib.hid eN
    have LQ := Lib.hid (idleRow_eq g)
    rw [← egb] at b0 b1 ⊢
    rw [GV.out] at RI AL FI WW ID ND
    have IDR := Lib.hid (fun (n : Nat) (hn : n < N) (w' : World) (b : Below w.heap.size w w') => show Calls Try.prog 15 #[.agg #[.slice g.RA g.rules.length g.rc, .slice g.NA N g.nc], .int .i64 n] w' (fun e w'' => e = .returned (.bool (idleR g n)) ∧ Below w'.heap.size w' w'') from by
      have := ID.out n (by omega) w' b
      rw [idleB_eq (by rw [← EN.out]; exact hn)] at this
      exact this)
    rw [← EN.out] at b1
    clear egb eN K2 SZ hsz hz HZ H1 K1 ID hN3
    -- l, first, is
    obtain ⟨L, eL⟩ : ∃ L, L = idleRow g := ⟨_, rfl⟩
    rw [← eL] at AL FI LQ
    have WV := Lib.hid (show wellB g = (rightB g && decide (L.length = 0)) from by rw [eL]; rfl)
    have RN := Lib.hid (show rightB g = false → L = [] from fun h => by rw [eL]; unfold idleRow; rw [h]; rfl)
    clear eL
    unfold firstVal at FI
    obtain ⟨n, en⟩ : ∃ n, n = L.length := ⟨_, rfl⟩
    obtain ⟨x0, ex0⟩ : ∃ x : Int, x = (L.getD 0 0 : Nat) := ⟨_, rfl⟩
    rw [← en, ← ex0] at FI
    have ENL := Lib.hid en
    have EX0 := Lib.hid ex0
    have hn3 : n ≤ 300 := by rw [en, LQ.out]; exact Nat.le_trans (rowOf_len _ _) (by rw [← EN.out]; exact hN)
    clear en ex0
    obtain ⟨yes, eyes⟩ : ∃ b, b = decide (0 < n) := ⟨_, rfl⟩
    rw [← eyes] at FI
    have EYES := Lib.hid eyes
    clear eyes
    go_upto_region 7 with (first | (go_at_call 10; (with_reducible refine (AL.out _ H2.out).mono ?_); rintro e w3 ⟨⟨v, rfl, ho, _⟩, hb⟩; obtain ⟨A, cp, rfl, _, _⟩ := own_slice ho; rw [← ENL.out] at ho ⊢; have HO := Lib.hid ho; have H3 := Lib.hid (bb H2.out hb); have K3 := Lib.hid (KG2.out.below' hb); clear ho hb b0 b1; have b0 := K3.out.cell 0; have b1 := K3.out.cell 1; simp only [List.getElem?_toArray, List.getElem?_cons_zero, List.getElem?_cons_succ] at b0 b1) | (go_at_call 16; (with_reducible refine (FI.out _ H3.out).mono ?_); rintro e w4 ⟨rfl, hb⟩; have H4 := Lib.hid (bb H3.out hb); have K4 := Lib.hid (K3.out.below' hb); have HO4 := Lib.hid (own_below HO.out hb); clear hb b0 b1; have b0 := K4.out.cell 0; have b1 := K4.out.cell 1; simp only [List.getElem?_toArray, List.getElem?_cons_zero, List.getElem?_cons_succ] at b0 b1))
    have LI := Lib.hid (own_lies1 HO4.out)
    -- region 7, by what there is
    have RGW := Lib.hid (fun (b : Bool) (hb : rightB g = b) (e : Ext w4) => show Calls Try.prog 9 #[.agg #[.slice g.RA g.rules.length g.rc, .slice g.NA N g.nc]] e.val (fun x w' => x = .returned (.bool b) ∧ Below e.val.heap.size e.val w') from by
      have := RI.out e.val (bb H4.out e.grown)
      rw [hb] at this
      exact this)
    have WGW := Lib.hid (fun (b : Bool) (hb : wellB g = b) (e : Ext w4) => show Calls Try.prog 11 #[.agg #[.slice g.RA g.rules.length g.rc, .slice g.NA N g.nc]] e.val (fun x w' => x = .returned (.bool b) ∧ Below e.val.heap.size e.val w') from by
      have := WW.out e.val (bb H4.out e.grown)
      rw [hb] at this
      exact this)
    have c0' := fun e => Ext.cell b0 e
    have c1' := fun e => Ext.cell b1 e
    clear b0 b1
    go_cut [3, 16, 55] from 22 to 54 (fun s3 s16 s55 wx => s3 = .slice A n cp ∧ s55 = .bool false ∧ Below w4.heap.size w4 wx)
    case first =>
      cases hr : rightB g with
      | false =>
        have h0 : n = 0 := by rw [ENL.out, RN.out hr]; rfl
        have hy : yes = false := by rw [EYES.out, h0]; rfl
        have hx : x0 = 0 := by rw [EX0.out, RN.out hr]; rfl
        have RG := Lib.hid (RGW.out false hr)
        have WG := Lib.hid (WGW.out false (by rw [WV.out, hr]; rfl))
        clear hr RGW WGW WV RN EYES EX0 ENL
        subst h0 hy hx
        refine wp_region_ext (by kernel_rfl) (by kernel_rfl) ?_
        repeat (first | go_big_quiet_step (first | (go_at_call 11; with_reducible exact Calls.ext_of (WG.out _)) | (go_at_call 9; with_reducible exact Calls.ext_of (RG.out _))) | quiet_step (first | (go_at_call 11; with_reducible exact Calls.ext_of (WG.out _)) | (go_at_call 9; with_reducible exact Calls.ext_of (RG.out _))))
        refine wpQuiet_nil ?_
        intro w9 hw'
        obtain ⟨⟨_, hb9⟩, rfl⟩ := hw'
        have P9 := Lib.hid hb9
        clear hb9
        first | (go_wp2_with fail; go_meet) | go_meet
        exact ⟨rfl, rfl, P9.out⟩
      | true =>
        by_cases h0 : n = 0
        · have hy : yes = false := by rw [EYES.out, h0]; rfl
          have hL : L = [] := List.length_eq_zero_iff.1 (by rw [← ENL.out]; exact h0)
          have hx : x0 = 0 := by rw [EX0.out, hL]; rfl
          have RG := Lib.hid (RGW.out true hr)
          have WG := Lib.hid (WGW.out true (by rw [WV.out, hr, hL]; rfl))
          clear hr RGW WGW WV RN EYES EX0 ENL hL
          subst h0 hy hx
          refine wp_region_ext (by kernel_rfl) (by kernel_rfl) ?_
          repeat (first | go_big_quiet_step (first | (go_at_call 11; with_reducible exact Calls.ext_of (WG.out _)) | (go_at_call 9; with_reducible exact Calls.ext_of (RG.out _))) | quiet_step (first | (go_at_call 11; with_reducible exact Calls.ext_of (WG.out _)) | (go_at_call 9; with_reducible exact Calls.ext_of (RG.out _))))
          refine wpQuiet_nil ?_
          intro w9 hw'
          obtain ⟨⟨_, hb9⟩, rfl⟩ := hw'
          have P9 := Lib.hid hb9
          clear hb9
          first | (go_wp2_with fail; go_meet) | go_meet
          exact ⟨rfl, rfl, P9.out⟩
        · have hp : 0 < n := by omega
          have hpi : (0 : Int) < n := by omega
          have hy : yes = true := by rw [EYES.out]; exact decide_eq_true hp
          have RG := Lib.hid (RGW.out true hr)
          have WG := Lib.hid (WGW.out false (by rw [WV.out, hr, ← ENL.out, decide_eq_false h0]; rfl))
          have hnl : (nums L).length = n := by rw [nums_len, ENL.out]
          obtain ⟨bA, oA, eA, _, cA⟩ := lies_cell LI.out (k := 0) (by rw [hnl]; exact hp)
          rw [nums_at, ← EX0.out, Nat.add_zero] at cA
          have cA' := fun e => Ext.cell cA e
          have EA := Lib.hid eA
          rw [eA]
          clear hr RGW WGW WV RN EYES EX0 ENL cA eA hnl
          subst hy
          refine wp_region_ext (by kernel_rfl) (by kernel_rfl) ?_
          repeat (first | go_big_quiet_step (first | (go_at_call 11; with_reducible exact Calls.ext_of (WG.out _)) | (go_at_call 9; with_reducible exact Calls.ext_of (RG.out _))) | quiet_step (first | (go_at_call 11; with_reducible exact Calls.ext_of (WG.out _)) | (go_at_call 9; with_reducible exact Calls.ext_of (RG.out _))))
          refine wpQuiet_nil ?_
          intro w9 hw'
          obtain ⟨⟨_, hb9⟩, rfl⟩ := hw'
          have P9 := Lib.hid hb9
          clear hb9
          first | (go_wp2_with fail; go_meet) | go_meet
          exact ⟨by rw [EA.out], rfl, P9.out⟩
    case rest =>
    obtain ⟨rfl, rfl, hb5⟩ := hcut
    obtain ⟨wd, rfl⟩ : ∃ u, u = wc := ⟨_, rfl⟩
    have H5 := Lib.hid (bb H4.out hb5)
    have K5 := Lib.hid (K4.out.below' hb5)
    have LI5 := Lib.hid (LI.out.below hb5)
    have G5 := Lib.hid (HG.out.below H5.out)
    have RI5 := Lib.hid (fun (w6 : World) (h6 : Below wd.heap.size wd w6) (b : Bool) (hb : rightB g = b) (e : Ext w6) => show Calls Try.prog 9 #[.agg #[.slice g.RA g.rules.length g.rc, .slice g.NA N g.nc]] e.val (fun x w' => x = .returned (.bool b) ∧ Below e.val.heap.size e.val w') from by
      have := RI.out e.val (bb (bb H5.out h6) e.grown)
      rw [hb] at this
      exact this)
    have ND5 := Lib.hid (fun (w6 : World) (h6 : Below wd.heap.size wd w6) (q : Nat) (hq : q < N) (hr : rightB g = true) (v : Bool) (hv : mayN g.nodes (inB (ranks g)) q = v) (e : Ext w6) => show Calls Try.prog 17 #[.agg #[.slice g.RA g.rules.length g.rc, .slice g.NA N g.nc], .int .i64 q] e.val (fun x w' => x = .returned (.bool v) ∧ Below e.val.heap.size e.val w') from by
      have := ND.out q (by omega) e.val (bb (bb H5.out h6) e.grown)
      rw [nodeB_of (rightB_true.1 hr) q (by rw [← EN.out]; exact hq), hv] at this
      exact this)
    have ID5 := Lib.hid (fun (m : Nat) (hm : m < N) (w6 : World) (h6 : Below wd.heap.size wd w6) => IDR.out m hm w6 (bb H5.out h6))
    have LR := Lib.hid (show L = rowOf' N (idleR g) from by rw [EN.out]; exact LQ.out)
    clear hb5 c0' c1' RGW WGW HO HO4 K4 K3 KG2 H4 H3 LI RI AL FI WW ND IDR WV RN EYES EX0 LQ
    go_wp2_with fail
    go_loopw [6, 7] (fun many i wr => ∃ m : Nat, m ≤ N ∧ i = .int .i64 m ∧ many = .int .i64 ((rowOf' m (idleR g)).length : Nat) ∧ Below wd.heap.size wd wr) (fun _ i _ => N - (intOf i).toNat)
    case atStart => exact ⟨0, by omega, rfl, rfl, Below.refl _ _⟩
    case round =>
      obtain ⟨m, hm, rfl, rfl, hbl⟩ := hrel
      have BL := Lib.hid hbl
      have KR := Lib.hid (K5.out.below' hbl)
      have LIR := Lib.hid (LI5.out.below hbl)
      have GR := Lib.hid (G5.out.below hbl)
      clear hbl
      have b0 := KR.out.cell 0; have b1 := KR.out.cell 1
      simp only [List.getElem?_toArray, List.getElem?_cons_zero, List.getElem?_cons_succ] at b0 b1
      by_cases hlt : m < N
      · have hlt2 : (m : Int) < N := by omega
        have hlg : m < g.nodes.length := by rw [← EN.out]; exact hlt
        obtain ⟨bN, oN, eA, _, k1, k2, k3, k4, k5, k6, k7, k8, k9⟩ := GR.out.nodes.nine hlg
        rw [eA] at b1
        clear eA
        have SCM := Lib.hid (rowOf_succ m (idleR g))
        have NXM := Lib.hid (fun h => rowOf_next (q := idleR g) hlt h)
        have IRE := Lib.hid (show idleR g m = (rightB g && (repB (g.nodes.getD m Nd.zero).kind && mayN g.nodes (inB (ranks g)) (kid0 (g.nodes.getD m Nd.zero)))) from rfl)
        have ONE := Lib.hid (fun (hr : rightB g = true) (hk : repB (g.nodes.getD m Nd.zero).kind = true) => And.intro (one_kid ((rightB_true.1 hr).all m hlg) hk) (kid0_in (rightB_true.1 hr) m hlg hk))
        have HXA := Lib.hid (GR.out.node hlg).1
        generalize g.nodes.getD m Nd.zero = x at k1 k2 k3 k4 k5 k6 k7 k8 k9 IRE ONE HXA
        have HRB := Lib.hid (show repB x.kind = (decide (x.kind = 8) || decide (x.kind = 9)) from rfl)
        go_upto_region 14 with (refine wpList_store_whole rfl 41 (.tmp 8) (.tmp 67) rfl wr.heap.size x.cells.toArray rfl rfl 41 _ (Blk.new _ _ _) (by kernel_rfl) (by rfl) (by simp [Nd.cells, Value.oneCell']) ?_; intro w6 hk hgr; have KX := Lib.hid hk; have H6 := Lib.hid (show Below wr.heap.size wr w6 from grown_below (B1 wr _) (by simp) hgr (fun k e => by cases e; exact Nat.le_refl _)); clear hk hgr b0 b1 k1 k2 k3 k4 k5 k6 k7 k8 k9)
        have B6 := Lib.hid (BL.out.trans (H6.out.mono BL.out.size))
        have KG6 := Lib.hid (KR.out.below' H6.out)
        have b0 := KG6.out.cell 0; have b1 := KG6.out.cell 1
        have d0 := KX.out.cell 0; have d8 := KX.out.cell 8
        simp only [Nd.cells, List.getElem?_toArray, List.getElem?_cons_zero, List.getElem?_cons_succ] at b0 b1 d0 d8
        have b0' := fun e => Ext.cell b0 e
        have b1' := fun e => Ext.cell b1 e
        obtain ⟨xb, exb⟩ : ∃ u, u = wr.heap.size := ⟨_, rfl⟩
        rw [← exb] at d0 d8 ⊢
        have d0' := fun e => Ext.cell d0 e
        have HX6 := Lib.hid (HXA.out.below (H6.out))
        clear exb KX KG6 b0 b1
        simp only [Act.put]
        go_cut [9] from 68 to 87 (fun s9 wx => s9 = .bool (idleR g m) ∧ Below w6.heap.size w6 wx)
        case first =>
          cases hr : rightB g with
          | false =>
            have RG := Lib.hid (RI5.out w6 B6.out false hr)
            have NDE := Lib.hid (fun (e : Ext w6) => RG.out e)
            have IRM := Lib.hid (show idleR g m = false from by rw [IRE.out, hr]; rfl)
            clear hr RI5 ND5 IRE ONE HRB HX6
            refine wp_region_ext (by kernel_rfl) (by kernel_rfl) ?_
            repeat (first | go_big_quiet_step (first | (go_at_call 17; with_reducible exact Calls.ext_of (NDE.out _)) | (go_at_call 9; with_reducible exact Calls.ext_of (RG.out _))) | quiet_step (first | (go_at_call 17; with_reducible exact Calls.ext_of (NDE.out _)) | (go_at_call 9; with_reducible exact Calls.ext_of (RG.out _))))
            refine wpQuiet_nil ?_
            intro w9 hw'
            obtain ⟨⟨_, hb9⟩, rfl⟩ := hw'
            have P9 := Lib.hid hb9
            clear hb9
            first | (go_wp2_with fail; go_meet) | go_meet
            exact ⟨by rw [IRM.out], P9.out⟩
          | true =>
            have RG := Lib.hid (RI5.out w6 B6.out true hr)
            by_cases h89 : x.kind = 8 ∨ x.kind = 9
            · have hrb : repB x.kind = true := repB_true.2 h89
              obtain ⟨hl1, hk1, hk2⟩ := ONE.out hr hrb
              obtain ⟨b2, o2, eK, _, kk⟩ := lies_cell HX6.out (k := 0) (by rw [hl1]; decide)
              obtain ⟨q, hq⟩ : ∃ q : Nat, kid0 x = q := ⟨(kid0 x).toNat, by omega⟩
              have kk2 : w6.cell? ⟨b2, o2, none⟩ = some (.int .i64 q) := by rw [← hq]; exact kk
              rw [eK, hl1] at d8
              have d8' := fun e => Ext.cell d8 e
              have kk' := fun e => Ext.cell kk2 e
              have hqn : q < N := by rw [EN.out]; omega
              obtain ⟨v, ev⟩ : ∃ v, v = mayN g.nodes (inB (ranks g)) q := ⟨_, rfl⟩
              have NDE := Lib.hid (ND5.out w6 B6.out q hqn hr v ev.symm)
              have IRM := Lib.hid (show idleR g m = v from by rw [IRE.out, hr, hrb, hq, ev]; rfl)
              clear hr hrb hl1 hk1 hk2 eK kk kk2 hq ev hqn RI5 ND5 IRE ONE HRB HX6 d0 d8
              rcases h89 with h8 | h9
              · rw [h8] at d0'
                clear h8
                refine wp_region_ext (by kernel_rfl) (by kernel_rfl) ?_
                repeat (first | go_big_quiet_step (first | (go_at_call 17; with_reducible exact Calls.ext_of (NDE.out _)) | (go_at_call 9; with_reducible exact Calls.ext_of (RG.out _))) | quiet_step (first | (go_at_call 17; with_reducible exact Calls.ext_of (NDE.out _)) | (go_at_call 9; with_reducible exact Calls.ext_of (RG.out _))))
                refine wpQuiet_nil ?_
                intro w9 hw'
                obtain ⟨⟨_, hb9⟩, rfl⟩ := hw'
                have P9 := Lib.hid hb9
                clear hb9
                first | (go_wp2_with fail; go_meet) | go_meet
                exact ⟨by rw [IRM.out], P9.out⟩
              · rw [h9] at d0'
                clear h9
                refine wp_region_ext (by kernel_rfl) (by kernel_rfl) ?_
                repeat (first | go_big_quiet_step (first | (go_at_call 17; with_reducible exact Calls.ext_of (NDE.out _)) | (go_at_call 9; with_reducible exact Calls.ext_of (RG.out _))) | quiet_step (first | (go_at_call 17; with_reducible exact Calls.ext_of (NDE.out _)) | (go_at_call 9; with_reducible exact Calls.ext_of (RG.out _))))
                refine wpQuiet_nil ?_
                intro w9 hw'
                obtain ⟨⟨_, hb9⟩, rfl⟩ := hw'
                have P9 := Lib.hid hb9
                clear hb9
                first | (go_wp2_with fail; go_meet) | go_meet
                exact ⟨by rw [IRM.out], P9.out⟩
            · have h8 : (x.kind == 8) = false := by simp; omega
              have h9 : (x.kind == 9) = false := by simp; omega
              have IRM := Lib.hid (show idleR g m = false from by rw [IRE.out, HRB.out]; simp; omega)
              have NDE := Lib.hid (fun (e : Ext w6) => RG.out e)
              clear hr h89 RI5 ND5 IRE ONE HRB HX6
              have EKD : ∃ kd, x.kind = kd := ⟨_, rfl⟩
              obtain ⟨kd, ekd⟩ := EKD
              rw [ekd] at d0' h8 h9
              clear ekd d0 d8
              refine wp_region_ext (by kernel_rfl) (by kernel_rfl) ?_
              repeat (first | go_big_quiet_step (first | (go_at_call 17; with_reducible exact Calls.ext_of (NDE.out _)) | (go_at_call 9; with_reducible exact Calls.ext_of (RG.out _))) | quiet_step (first | (go_at_call 17; with_reducible exact Calls.ext_of (NDE.out _)) | (go_at_call 9; with_reducible exact Calls.ext_of (RG.out _))))
              refine wpQuiet_nil ?_
              intro w9 hw'
              obtain ⟨⟨_, hb9⟩, rfl⟩ := hw'
              have P9 := Lib.hid hb9
              clear hb9
              first | (go_wp2_with fail; go_meet) | go_meet
              exact ⟨by rw [IRM.out], P9.out⟩
        case rest =>
        obtain ⟨rfl, hb9⟩ := hcut
        have B9 := Lib.hid (B6.out.trans (hb9.mono B6.out.size))
        have KR9 := Lib.hid (K5.out.below' B9.out)
        have LI9 := Lib.hid (LI5.out.below B9.out)
        have CI := Lib.hid (ID5.out m hlt wc B9.out)
        have b0 := KR9.out.cell 0; have b1 := KR9.out.cell 1
        simp only [List.getElem?_toArray, List.getElem?_cons_zero, List.getElem?_cons_succ] at b0 b1
        clear b0' b1' d0' HX6 HXA ONE IRE HRB hb9 RI5 ND5 ID5 GR KR LIR d0 d8
        obtain ⟨k, ek⟩ : ∃ k, k = (rowOf' m (idleR g)).length := ⟨_, rfl⟩
        have EK := Lib.hid ek
        rw [← ek]
        clear ek
        cases hq : idleR g m with
        | false =>
          rw [hq] at CI SCM
          clear hq NXM
          go_wp2_with (go_at_call 15; (with_reducible refine CI.out.mono ?_); rintro e w10 ⟨rfl, hb⟩; have B10 := Lib.hid (B9.out.trans (hb.mono B9.out.size)); clear hb b0 b1)
          go_roundw
          case rel => exact ⟨m + 1, by omega, by go_num, by rw [SCM.out, EK.out]; rfl, B10.out⟩
          case measure => simp [intOf]; omega
        | true =>
          rw [hq] at CI SCM
          have NXT := Lib.hid (NXM.out hq)
          have hkn : k < n := by rw [EK.out, ENL.out, LR.out]; exact NXT.out.1
          have hkni : (k : Int) < n := by omega
          have hknn : ¬ (n : Int) ≤ k := by omega
          have hnl : (nums L).length = n := by rw [nums_len, ENL.out]
          obtain ⟨bA, oA, eA, _, cA⟩ := lies_cell LI9.out (k := k) (by rw [hnl]; exact hkn)
          rw [nums_at, show L.getD k 0 = m by rw [LR.out, EK.out]; exact NXT.out.2] at cA
          have CA := Lib.hid cA
          clear hq NXM hnl cA
          subst eA
          go_upto_region 18 with (go_at_call 15; (with_reducible refine CI.out.mono ?_); rintro e w10 ⟨rfl, hb⟩; have HB := Lib.hid hb; clear hb b0 b1)
          have B10 := Lib.hid (B9.out.trans (HB.out.mono B9.out.size))
          have cA := (HB.out.cell (p := ⟨bA, oA + k, none⟩) (World.block_lt_of_cell? _ _ CA.out)).trans CA.out
          go_wp2_with fail
          go_roundw
          case rel => exact ⟨m + 1, by omega, by go_num, by rw [SCM.out, if_pos trivial, List.length_append, ← EK.out]; go_num, B10.out⟩
          case measure => simp [intOf]; omega
      · obtain rfl : m = N := by omega
        have hlt2 : ¬ (m : Int) < m := by omega
        have LL := Lib.hid (show (rowOf' m (idleR g)).length = n from by rw [ENL.out, LR.out])
        rw [LL.out]
        go_wp2_with fail
        go_ret
        exact ⟨rfl, bb H5.out BL.out⟩
end Go.Proofs.Ytjelgmdjmjnnfaa

/- The law SortGoes. -/
import Derived.Test.YtmlaepbmdfmgbaaGreatS3
import Derived.Deep.RegionHeld3
set_option linter.unusedSimpArgs false
set_option linter.unusedVariables false
namespace Go.Proofs.YtmlaepbmdfmgbaaGreat
open Go Go.RowKit Go.Maps
/-- What the law's loops stand on. -/
structure SG (w W : World) (g : Gr) (R : Nat) (XA AA : Option Addr) (xvs : List Value) : Prop where
  ka : Blk W w.heap.size #[.slice g.RA R g.rc, .slice g.NA g.nodes.length g.nc] 31
  gr : Gr.At W g
  x : Gph W XA xvs ((graphOf g).map nums)
  a : Lies W AA (ints (nums (allOf g)))
  low : Below w.heap.size w W
theorem SG.below {w W W' : World} {g : Gr} {R : Nat} {XA AA : Option Addr} {xvs : List Value} (h : SG w W g R XA AA xvs) (hb : Below W.heap.size W W') : SG w W' g R XA AA xvs :=
  ⟨h.ka.below' hb, h.gr.below hb, h.x.below hb, h.a.below hb, h.low.trans (hb.mono h.low.size)⟩
theorem sGraph_any (g : Gr) (w : World) (hg : Gr.At w g) (hin : Gr.In g) (hc : Capd g) (hR : Right g) : Calls Tryz.prog 17 #[.agg #[.slice g.RA g.rules.length g.rc, .slice g.NA g.nodes.length g.nc]] w fun e w' => ∃ gb vs, e = .returned (.slice (some ⟨gb, 0, none⟩) g.rules.length g.rules.length) ∧ Gph w' (some ⟨gb, 0, none⟩) vs ((graphOf g).map nums) ∧ Below w.heap.size w w' := by
  have hG := graphOf_RG hR
  refine Calls.mono (graph_any g w hg hin hc hR) ?_
  rintro e w' ⟨gb, vs, rfl, h⟩
  exact ⟨gb, vs, rfl, h.gph (by have := hG.most; omega) (fun i _ => by have := hG.len i; unfold adjG at this; omega), h.low⟩
theorem sAllR_any (g : Gr) (w : World) (hg : Gr.At w g) (hin : Gr.In g) (hc : Capd g) (hR : Right g) : Calls Tryz.prog 13 #[.agg #[.slice g.RA g.rules.length g.rc, .slice g.NA g.nodes.length g.nc]] w fun e w' => ∃ A c, e = .returned (.slice A g.rules.length c) ∧ Lies w' A (ints (nums (allOf g))) ∧ Below w.heap.size w w' := by
  refine Calls.mono (sAll_any g w hg hin hc) ?_
  rintro e w' ⟨⟨v, rfl, ho⟩, hb⟩
  obtain ⟨A, c, rfl, _, _⟩ := own_slice ho
  have hl := (allOf_yes hR).1
  rw [hl] at ho ⊢
  exact ⟨A, c, rfl, own_lies1 ho, hb⟩
theorem sWithR_any (g : Gr) (i : Nat) (w : World) (hg : Gr.At w g) (hin : Gr.In g) (hc : Capd g) : Calls Tryz.prog 18 #[.agg #[.slice g.RA g.rules.length g.rc, .slice g.NA g.nodes.length g.nc], .int .i64 i] w fun e w' => ∃ A c, e = .returned (.slice A (withOf g i).length c) ∧ Lies w' A (ints (nums (withOf g i))) ∧ Below w.heap.size w w' :=
  Calls.mono (sWithF_any g i w hg hin hc) fun e w' h => row_told h rfl
theorem sToR_any (g : Gr) (i : Nat) (hi : i ≤ 1000000) (w : World) (hg : Gr.At w g) (hin : Gr.In g) (hc : Capd g) : Calls Tryz.prog 21 #[.agg #[.slice g.RA g.rules.length g.rc, .slice g.NA g.nodes.length g.nc], .int .i64 i] w fun e w' => ∃ A c, e = .returned (.slice A (toOf g i).length c) ∧ Lies w' A (ints (nums (toOf g i))) ∧ Below w.heap.size w w' :=
  Calls.mono (to_any g i (by omega) w hg hin hc) fun e w' h => row_told h rfl
theorem sOfR_any (g : Gr) (i : Nat) (hi : i < g.rules.length) (w : World) (hg : Gr.At w g) (hin : Gr.In g) (hc : Capd g) (hR : Right g) : Calls Tryz.prog 16 #[.agg #[.slice g.RA g.rules.length g.rc, .slice g.NA g.nodes.length g.nc], .int .i64 i] w fun e w' => e = .returned (.int .i64 (sortN (graphOf g) i)) ∧ Below w.heap.size w w' := by
  have := sOf_any g i w hg hin hc
  rw [sofN_at hR hi] at this
  exact this
theorem sGoesR_any (g : Gr) (i : Nat) (hi : i ≤ 1000000) (w : World) (hg : Gr.At w g) (hin : Gr.In g) (hc : Capd g) : Calls Tryz.prog 19 #[.agg #[.slice g.RA g.rules.length g.rc, .slice g.NA g.nodes.length g.nc], .int .i64 i] w fun e w' => e = .returned (.bool (goesB g i)) ∧ Below w.heap.size w w' :=
  goes_any g i (by omega) w hg hin hc
theorem sHas4_any (A : Option Addr) (c : Nat) (L : List Nat) (k n : Nat) (en : n = L.length) (hl : n ≤ 1000) (W : World) (hW : Lies W A (ints (nums L))) : Calls Tryz.prog 20 #[.slice A n c, .int .i64 k] W fun e w' => e = .returned (.bool (decide (k ∈ L))) ∧ w' = W := by
  have := lhas_any A c (nums L) k (by rw [nums_len, ← en]; omega) W hW
  rw [nums_len, ← en] at this
  rw [show decide (k ∈ L) = decide ((k : Int) ∈ nums L) from decide_eq_decide.2 mem_nums.symm]
  exact this
theorem sFreeR_any (g : Gr) (w : World) (hg : Gr.At w g) (hin : Gr.In g) (hc : Capd g) (hR : Right g) : Calls Tryz.prog 15 #[.agg #[.slice g.RA g.rules.length g.rc, .slice g.NA g.nodes.length g.nc]] w fun e w' => e = .returned (.bool (decide (∀ i, i < g.rules.length → goesB g i = false))) ∧ Below w.heap.size w w' := by
  have := sFree_any g w hg hin hc
  rw [freeB_goes hR] at this
  exact this
set_option maxRecDepth 100000 in
set_option maxHeartbeats 16000000 in
theorem goes_law (g : Gr) (w : World) (hg : Gr.At w g) (hin : Gr.In g) (hc : Capd g) : Calls Tryz.prog 4 #[g.val] w fun e w' => e = .returned (.bool true) ∧ Below w.heap.size w w' := by
  have HG := Lib.hid hg
  have SZ := Lib.hid (fun (w' : World) (b : Below w.heap.size w w') => size12_all g w' (hg.below b))
  have RI := Lib.hid (fun (w' : World) (b : Below w.heap.size w w') => right_all g w' (hg.below b) hin)
  have HIN := Lib.hid (And.intro hin hc)
  have hnl := hg.nl
  have hrl := hg.rl
  clear hg hin hc
  show Calls Tryz.prog 4 #[.agg #[.slice g.RA g.rules.length g.rc, .slice g.NA g.nodes.length g.nc]] w _
  go_enter Tryz.func4, Tryz.ntmps4
  go_wp2_with fail
  refine (sawake_any _).mono ?_
  rintro e w1 ⟨rfl, hb⟩
  have K1 := Lib.hid ((Blk.new w #[.slice g.RA g.rules.length g.rc, .slice g.NA g.nodes.length g.nc] 31).below' hb)
  have H1 := Lib.hid (bb (B1 w _) hb)
  have a0 := K1.out.cell 0
  have a1 := K1.out.cell 1
  simp only [List.getElem?_toArray, List.getElem?_cons_zero, List.getElem?_cons_succ] at a0 a1
  clear hb
  go_wp2_with fail
  refine (SZ.out _ H1.out).mono ?_
  rintro e w2 ⟨⟨z, rfl, hzz⟩, hb⟩
  have HZ := Lib.hid hzz
  have K2 := Lib.hid (K1.out.below' hb)
  have H2 := Lib.hid (bb H1.out hb)
  clear hb a0 a1 hzz
  by_cases hz : 300 < z
  · go_wp2_with fail
    go_ret
    exact ⟨rfl, H2.out⟩
  · have hz2' : ¬ 300 < z := hz
    have b0 := K2.out.cell 0
    have b1 := K2.out.cell 1
    simp only [List.getElem?_toArray, List.getElem?_cons_zero, List.getElem?_cons_succ] at b0 b1
    go_wp2_with fail
    refine (RI.out _ H2.out).mono ?_
    rintro e w3 ⟨rfl, hb⟩
    have K3 := Lib.hid (K2.out.below' hb)
    have H3 := Lib.hid (bb H2.out hb)
    clear hb b0 b1 K1 K2 H1 H2 SZ RI HZ
    have b0 := K3.out.cell 0
    have b1 := K3.out.cell 1
    simp only [List.getElem?_toArray, List.getElem?_cons_zero, List.getElem?_cons_succ] at b0 b1
    cases hr : rightB g with
    | false =>
      have d0 := fun (e : Ext w3) => Ext.cell b0 e
      have d1 := fun (e : Ext w3) => Ext.cell b1 e
      have AE := Lib.hid (fun (e : Ext w3) => sAll_no g e.val (HG.out.below (H3.out.trans (e.grown.mono H3.out.size))) HIN.out.1 hr)
      have OE := Lib.hid (fun (e : Ext w3) => sOrder_no g e.val (HG.out.below (H3.out.trans (e.grown.mono H3.out.size))) HIN.out.1 HIN.out.2 hr)
      have FE := Lib.hid (fun (e : Ext w3) => show Calls Tryz.prog 15 #[g.val] e.val fun x w' => x = .returned (.bool false) ∧ Below e.val.heap.size e.val w' from by
        have := sFree_any g e.val (HG.out.below (H3.out.trans (e.grown.mono H3.out.size))) HIN.out.1 HIN.out.2
        rw [show freeB g = false from by unfold freeB; rw [hr]; rfl] at this
        exact this)
      have QE := Lib.hid (fun (e : Ext w3) => show Calls Tryz.prog 16 #[g.val, .int .i64 0] e.val fun x w' => x = .returned (.int .i64 0) ∧ Below e.val.heap.size e.val w' from by
        have := sOf_any g 0 e.val (HG.out.below (H3.out.trans (e.grown.mono H3.out.size))) HIN.out.1 HIN.out.2
        rw [sofN_no (g := g) (i := 0) (fun h => by have := h.1; rw [hr] at this; cases this)] at this
        exact this)
      clear hr
      go_upto_region 6 with fail
      refine wp_region_ext (by kernel_rfl) (by kernel_rfl) ?_
      repeat (first | go_big_quiet_step (first | (go_at_call 13; exact Calls.ext_of (AE.out _)) | (go_at_call 14; exact Calls.ext_of (OE.out _)) | (go_at_call 15; exact Calls.ext_of (FE.out _)) | (go_at_call 16; exact Calls.ext_of (QE.out _))) | quiet_step (first | (go_at_call 13; exact Calls.ext_of (AE.out _)) | (go_at_call 14; exact Calls.ext_of (OE.out _)) | (go_at_call 15; exact Calls.ext_of (FE.out _)) | (go_at_call 16; exact Calls.ext_of (QE.out _))))
      refine wpQuiet_nil ?_
      intro w9 hw'
      obtain ⟨⟨_, hb9⟩, rfl⟩ := hw'
      have H9 := Lib.hid (H3.out.trans (hb9.mono H3.out.size))
      clear hb9
      go_wp2_with fail
      go_ret
      exact ⟨rfl, H9.out⟩
    | true =>
      have hR := rightB_true.1 hr
      have HR := Lib.hid hR
      have h32 := hR.rules.2
      have h1r := hR.rules.1
      have GX2 := Lib.hid (fun (W : World) (b : Below w.heap.size w W) => sGraph_any g W (HG.out.below b) HIN.out.1 HIN.out.2 hR)
      have AX2 := Lib.hid (fun (W : World) (b : Below w.heap.size w W) => sAllR_any g W (HG.out.below b) HIN.out.1 HIN.out.2 hR)
      have WX := Lib.hid (fun (i : Nat) (W : World) (h : Gr.At W g) => sWithR_any g i W h HIN.out.1 HIN.out.2)
      have TX := Lib.hid (fun (i : Nat) (hi : i ≤ 1000000) (W : World) (h : Gr.At W g) => sToR_any g i hi W h HIN.out.1 HIN.out.2)
      have OX := Lib.hid (fun (i : Nat) (hi : i < g.rules.length) (W : World) (h : Gr.At W g) => sOfR_any g i hi W h HIN.out.1 HIN.out.2 hR)
      have GX := Lib.hid (fun (i : Nat) (hi : i ≤ 1000000) (W : World) (h : Gr.At W g) => sGoesR_any g i hi W h HIN.out.1 HIN.out.2)
      have FX := Lib.hid (fun (W : World) (h : Gr.At W g) => sFreeR_any g W h HIN.out.1 HIN.out.2 hR)
      have RGG := Lib.hid (graphOf_RG hR)
      have CG := Lib.hid (fun (W' : World) (b : Below w3.heap.size w3 W') => (⟨(K3.out.below' b).cell 0, (K3.out.below' b).cell 1⟩ : W'.cell? ⟨w.heap.size, 0, none⟩ = some (.slice g.RA g.rules.length g.rc) ∧ W'.cell? ⟨w.heap.size, 1, none⟩ = some (.slice g.NA g.nodes.length g.nc)))
      clear hr hR
      obtain ⟨R, eR⟩ : ∃ R, R = g.rules.length := ⟨_, rfl⟩
      have ER := Lib.hid eR
      rw [← eR] at h32 h1r hrl b0 GX2 AX2 WX TX OX GX FX CG K3
      clear eR
      go_upto_region 7 with fail
      go_cut [3, 4] from 37 to 40 (fun s3 s4 wx => ∃ gb vs A c, s3 = .slice (some ⟨gb, 0, none⟩) R R ∧ s4 = .slice A R c ∧ Gph wx (some ⟨gb, 0, none⟩) vs ((graphOf g).map nums) ∧ Lies wx A (ints (nums (allOf g))) ∧ Below w3.heap.size w3 wx)
      case first =>
        go_region_with (first | (go_at_call 17; (with_reducible refine (GX2.out _ (bdrew1 H3.out)).mono ?_); rintro e w4 ⟨gb, vs, rfl, hg1, hb1⟩; have X1 := Lib.hid hg1; have P1 := Lib.hid (show Below w3.heap.size w3 w4 from (bdrew1 (Below.refl _ _)).trans hb1); obtain ⟨cb0, cb1⟩ := CG.out _ P1.out; clear hg1 hb1) | (go_at_call 13; (with_reducible refine (AX2.out _ (bb H3.out P1.out)).mono ?_); rintro e w5 ⟨A, c, rfl, hl, hb2⟩; have X2 := Lib.hid (X1.out.below hb2); have L2 := Lib.hid hl; have P2 := Lib.hid (bb P1.out hb2); clear hl hb2))
        all_goals go_simp
        all_goals (first | go_meet | (go_wp2_with fail; go_meet) | skip)
        all_goals exact ⟨_, _, _, _, rfl, rfl, X2.out, L2.out, P2.out⟩
      case rest =>
      obtain ⟨gb, xvs, AA, ac, rfl, rfl, hx, hl, hb⟩ := hcut
      have S0 := Lib.hid (show SG w _ g R (some ⟨gb, 0, none⟩) AA xvs from ⟨K3.out.below' hb, HG.out.below (bb H3.out hb), hx, hl, bb H3.out hb⟩)
      have b0 := S0.out.ka.cell 0
      have b1 := S0.out.ka.cell 1
      simp only [List.getElem?_toArray, List.getElem?_cons_zero, List.getElem?_cons_succ] at b0 b1
      clear hx hl hb CG GX2 AX2 K3 H3
      have HL64 := Lib.hid (fun (i : Nat) (hi : i < R) => withOf_len HR.out (i := i) (by rw [← ER.out]; exact hi))
      go_wp2_with fail
      go_loopw [6, 5, 7, 8, 9, 10] (fun ix fr _ _ _ _ wr => ∃ (i : Nat) (f : Bool), i ≤ R ∧ ix = .int .i64 i ∧ fr = .bool f ∧ f = decide (∀ j, j < i → goesB g j = false) ∧ SG w wr g R (some ⟨gb, 0, none⟩) AA xvs) (fun ix _ _ _ _ _ _ => R - (intOf ix).toNat)
      case atStart => exact ⟨0, true, by omega, rfl, rfl, (decide_eq_true (fun j h => by omega)).symm, S0.out⟩
      case round =>
        obtain ⟨i, f, hi, rfl, rfl, hf, hs⟩ := hrel
        have HF := Lib.hid hf
        have S1 := Lib.hid hs
        have c0 := hs.ka.cell 0
        have c1 := hs.ka.cell 1
        simp only [List.getElem?_toArray, List.getElem?_cons_zero, List.getElem?_cons_succ] at c0 c1
        by_cases hlt : i < R
        · have hlt2 : (i : Int) < R := by omega
          have hig : i < g.rules.length := by rw [← ER.out]; exact hlt
          obtain ⟨ab, ao, rfl, hab, ca⟩ := lies_cell hs.a (k := i) (by rw [nums_len, (allOf_yes HR.out).1]; exact hig)
          rw [nums_at, (allOf_yes HR.out).2 i hig] at ca
          obtain ⟨sn, esn⟩ : ∃ u, u = sortN (graphOf g) i := ⟨_, rfl⟩
          rw [← esn] at ca
          have CF := Lib.hid (fun (W' : World) (b : Below wr.heap.size wr W') => (⟨((hs.below b).ka.cell 0).trans rfl, ((hs.below b).ka.cell 1).trans rfl, (b.cell (p := ⟨ab, ao + i, none⟩) hab).trans ca⟩ : W'.cell? ⟨w.heap.size, 0, none⟩ = some (.slice g.RA R g.rc) ∧ W'.cell? ⟨w.heap.size, 1, none⟩ = some (.slice g.NA g.nodes.length g.nc) ∧ W'.cell? ⟨ab, ao + i, none⟩ = some (.int .i64 sn)))
          have W1 := Lib.hid (WX.out i wr.drew (hs.gr.below (bdrew1 (Below.refl _ _))))
          have G1 := Lib.hid (fun W (h : Gr.At W g) => GX.out i (by omega) W h)
          have O1 := Lib.hid (fun W (h : Gr.At W g) => OX.out i hlt W h)
          have ESN := Lib.hid esn
          have WLN := Lib.hid (HL64.out i hlt)
          rw [← esn] at O1 WLN
          obtain ⟨wl, ewl⟩ : ∃ u, u = (withOf g i).length := ⟨_, rfl⟩
          have EWL := Lib.hid ewl
          rw [← ewl] at W1 WLN
          have hsg := sort_goes HR.out hig
          rw [← esn] at hsg
          have hself : (sn = 1 ∨ sn = 3) ↔ i ∈ lcal g i := by rw [esn]; exact (sortN_self _ _).trans (selfB_iff hig)
          have hs4 : sn < 4 := by rw [esn]; exact (lawB_at _ _).1
          have SGO := Lib.hid hsg
          have SEL := Lib.hid hself
          clear hs hf esn ewl hsg hself
          go_upto_region 14 with fail
          go_cut [7, 8] from 53 to 59 (fun s7 s8 wx => ∃ A c, s7 = .int .i64 sn ∧ s8 = .slice A wl c ∧ Lies wx A (ints (nums (withOf g i))) ∧ Below wr.heap.size wr wx)
          case first =>
            go_region_with (go_at_call 18; (with_reducible refine W1.out.mono ?_); rintro e w4 ⟨A, c, rfl, hl, hb1⟩; have X1 := Lib.hid hl; have P1 := Lib.hid (show Below wr.heap.size wr w4 from (bdrew1 (Below.refl _ _)).trans hb1); obtain ⟨cb0, cb1, cb2⟩ := CF.out _ P1.out; clear hl hb1)
            all_goals go_simp
            all_goals (first | go_meet | (go_wp2_with fail; go_meet) | skip)
            all_goals exact ⟨_, _, rfl, rfl, X1.out, P1.out⟩
          case rest =>
          obtain ⟨WA, wq, rfl, rfl, hwl, hb⟩ := hcut
          have S5 := Lib.hid (S1.out.below hb)
          have HW5 := Lib.hid hwl
          have c0 := S5.out.ka.cell 0
          have c1 := S5.out.ka.cell 1
          simp only [List.getElem?_toArray, List.getElem?_cons_zero, List.getElem?_cons_succ] at c0 c1
          obtain ⟨go, ego⟩ : ∃ u, u = goesB g i := ⟨_, rfl⟩
          have EGO := Lib.hid ego
          rw [← ego] at G1 SGO
          have GC := Lib.hid (G1.out _ S5.out.gr)
          clear hwl hb ego CF W1 ca
          go_upto_region 16 with (go_at_call 19; (with_reducible refine GC.out.mono ?_); rintro e w6 ⟨rfl, hb6⟩; have S6 := Lib.hid (S5.out.below hb6); have HW6 := Lib.hid (HW5.out.below hb6); clear hb6)
          clear c0 c1 GC
          go_cut [5, 9] from 60 to 67 (fun s5 s9 wx => s5 = .bool (f && !go) ∧ s9 = .bool go ∧ w6 = wx)
          case first =>
            clear HF EGO SGO
            cases f <;> cases go
            all_goals go_wp2_with fail
            all_goals go_meet
            all_goals exact ⟨rfl, rfl, rfl⟩
          case rest =>
          obtain ⟨fv, efv⟩ : ∃ u, u = (f && !go) := ⟨_, rfl⟩
          have EFV := Lib.hid efv
          rw [← efv] at hcut
          obtain ⟨rfl, rfl, rfl⟩ := hcut
          clear efv
          have c0 := S6.out.ka.cell 0
          have c1 := S6.out.ka.cell 1
          simp only [List.getElem?_toArray, List.getElem?_cons_zero, List.getElem?_cons_succ] at c0 c1
          have OC := Lib.hid (O1.out _ S6.out.gr)
          obtain ⟨xb, xo, XB, xc, exb, hxb, cx, hxl⟩ := S6.out.x.at_ (i := i) (by rw [List.length_map, graphOf_len]; exact hig)
          rw [getD_map_nums, nums_len, graphOf_at hig] at cx
          rw [getD_map_nums, graphOf_at hig] at hxl
          cases exb
          simp only [Nat.zero_add] at cx
          have HXL := Lib.hid hxl
          obtain ⟨ll, ell⟩ : ∃ u, u = (lcal g i).length := ⟨_, rfl⟩
          have hll : ll ≤ 32 := by rw [ell]; exact Nat.le_trans (lcal_len g i) HR.out.rules.2
          have HH := Lib.hid (fun (W : World) (hW : Lies W XB (ints (nums (lcal g i)))) => show Calls Tryz.prog 20 #[.slice XB ll xc, .int .i64 i] W (fun e w' => e = .returned (.bool (decide (i ∈ lcal g i))) ∧ w' = W) from by
            have := lhas_any XB xc (nums (lcal g i)) i (by rw [nums_len, ← ell]; omega) W hW
            rw [nums_len, ← ell] at this
            rw [show decide (i ∈ lcal g i) = decide ((i : Int) ∈ nums (lcal g i)) from decide_eq_decide.2 mem_nums.symm]
            exact this)
          obtain ⟨sf, esf⟩ : ∃ u, u = decide (i ∈ lcal g i) := ⟨_, rfl⟩
          have ESF := Lib.hid (show sf = true ↔ (sn = 1 ∨ sn = 3) from by rw [esf, decide_eq_true_iff]; exact SEL.out.symm)
          rw [← esf] at HH
          rw [← ell] at cx
          clear hxl ell esf SEL
          go_upto_region 17 with fail
          go_cut [5, 7, 8, 9, 109] from 68 to 108 (fun s5 s7 s8 s9 s109 wx => s5 = .bool fv ∧ s7 = .int .i64 sn ∧ s8 = .slice WA wl wq ∧ s9 = .bool go ∧ s109 = .bool false ∧ Below w6.heap.size w6 wx)
          case first =>
            obtain rfl | rfl | rfl | rfl : sn = 0 ∨ sn = 1 ∨ sn = 2 ∨ sn = 3 := by omega
            · obtain rfl : go = false := by
                cases go with
                | false => rfl
                | true => exact absurd (SGO.out.2 rfl) (by decide)
              obtain rfl : sf = false := by
                cases sf with
                | false => rfl
                | true => exact absurd (ESF.out.1 rfl) (by decide)
              obtain rfl : wl = 0 := by
                have := WLN.out.1 rfl
                rw [EWL.out, this]; rfl
              clear SGO ESF WLN HF EGO EFV
              go_wp2_with (first | (go_at_call 16; (with_reducible refine OC.out.mono ?_); rintro e w7 ⟨rfl, hb7⟩; have P7 := Lib.hid hb7; have c2 := (hb7.cell (p := ⟨gb, i, none⟩) hxb).trans cx; have HH7 := Lib.hid (HH.out w7 (HXL.out.below hb7)); clear hb7) | (go_at_call 20; (with_reducible refine HH7.out.mono ?_); rintro e w8 ⟨rfl, rfl⟩))
              all_goals go_meet
              all_goals exact ⟨rfl, rfl, rfl, rfl, (by first | rfl | (rw [show ((wl : Int) == 1) = false from by simpa using hw1, show ((wl : Int) == 0) = false from by simpa using hw0]; rfl)), P7.out⟩
            · obtain rfl : go = true := by
                cases go with
                | true => rfl
                | false => exact absurd (SGO.out.1 (by decide)) (by decide)
              obtain rfl : sf = true := by
                cases sf with
                | true => rfl
                | false => exact absurd (ESF.out.2 (by decide)) (by decide)
              obtain rfl : wl = 1 := WLN.out.2.2.1 rfl
              clear SGO ESF WLN HF EGO EFV
              go_wp2_with (first | (go_at_call 16; (with_reducible refine OC.out.mono ?_); rintro e w7 ⟨rfl, hb7⟩; have P7 := Lib.hid hb7; have c2 := (hb7.cell (p := ⟨gb, i, none⟩) hxb).trans cx; have HH7 := Lib.hid (HH.out w7 (HXL.out.below hb7)); clear hb7) | (go_at_call 20; (with_reducible refine HH7.out.mono ?_); rintro e w8 ⟨rfl, rfl⟩))
              all_goals go_meet
              all_goals exact ⟨rfl, rfl, rfl, rfl, (by first | rfl | (rw [show ((wl : Int) == 1) = false from by simpa using hw1, show ((wl : Int) == 0) = false from by simpa using hw0]; rfl)), P7.out⟩
            · obtain rfl : go = true := by
                cases go with
                | true => rfl
                | false => exact absurd (SGO.out.1 (by decide)) (by decide)
              obtain rfl : sf = false := by
                cases sf with
                | false => rfl
                | true => exact absurd (ESF.out.1 rfl) (by decide)
              have hw2 := WLN.out.2.2.2.1 (by decide)
              have hw1 : ¬ (wl : Int) = 1 := by omega
              have hw0 : ¬ (wl : Int) = 0 := by omega
              clear SGO ESF WLN HF EGO EFV
              go_wp2_with (first | (go_at_call 16; (with_reducible refine OC.out.mono ?_); rintro e w7 ⟨rfl, hb7⟩; have P7 := Lib.hid hb7; have c2 := (hb7.cell (p := ⟨gb, i, none⟩) hxb).trans cx; have HH7 := Lib.hid (HH.out w7 (HXL.out.below hb7)); clear hb7) | (go_at_call 20; (with_reducible refine HH7.out.mono ?_); rintro e w8 ⟨rfl, rfl⟩))
              all_goals go_meet
              all_goals exact ⟨rfl, rfl, rfl, rfl, (by first | rfl | (rw [show ((wl : Int) == 1) = false from by simpa using hw1, show ((wl : Int) == 0) = false from by simpa using hw0]; rfl)), P7.out⟩
            · obtain rfl : go = true := by
                cases go with
                | true => rfl
                | false => exact absurd (SGO.out.1 (by decide)) (by decide)
              obtain rfl : sf = true := by
                cases sf with
                | true => rfl
                | false => exact absurd (ESF.out.2 (by decide)) (by decide)
              have hw2 := WLN.out.2.2.2.1 (by decide)
              have hw1 : ¬ (wl : Int) = 1 := by omega
              have hw0 : ¬ (wl : Int) = 0 := by omega
              clear SGO ESF WLN HF EGO EFV
              go_wp2_with (first | (go_at_call 16; (with_reducible refine OC.out.mono ?_); rintro e w7 ⟨rfl, hb7⟩; have P7 := Lib.hid hb7; have c2 := (hb7.cell (p := ⟨gb, i, none⟩) hxb).trans cx; have HH7 := Lib.hid (HH.out w7 (HXL.out.below hb7)); clear hb7) | (go_at_call 20; (with_reducible refine HH7.out.mono ?_); rintro e w8 ⟨rfl, rfl⟩))
              all_goals go_meet
              all_goals exact ⟨rfl, rfl, rfl, rfl, (by first | rfl | (rw [show ((wl : Int) == 1) = false from by simpa using hw1, show ((wl : Int) == 0) = false from by simpa using hw0]; rfl)), P7.out⟩
          case rest =>
          obtain ⟨rfl, rfl, rfl, rfl, rfl, hb⟩ := hcut
          have S7 := Lib.hid (S6.out.below hb)
          have HW7 := Lib.hid (HW6.out.below hb)
          have hwl64 : wl ≤ 64 := WLN.out.2.2.2.2
          clear hb c0 c1 cx OC HH HXL S6 HW6 S5 HW5 O1 G1 S1 hxb
          go_wp2_with fail
          go_loopw [10] (fun kx wr2 => ∃ (k : Nat), k ≤ R ∧ kx = .int .i64 k ∧ Lies wr2 WA (ints (nums (withOf g i))) ∧ SG w wr2 g R (some ⟨gb, 0, none⟩) (some ⟨ab, ao, none⟩) xvs) (fun kx _ => R - (intOf kx).toNat)
          case atStart => exact ⟨0, by omega, rfl, HW7.out, S7.out⟩
          case round =>
            obtain ⟨k, hk, rfl, hw, hs⟩ := hrel
            have HWK := Lib.hid hw
            have SK := Lib.hid hs
            have c0 := hs.ka.cell 0
            have c1 := hs.ka.cell 1
            simp only [List.getElem?_toArray, List.getElem?_cons_zero, List.getElem?_cons_succ] at c0 c1
            clear hw hs
            by_cases hlk : k < R
            · have hlk2 : (k : Int) < R := by omega
              cases go with
              | false =>
                go_wp2_with fail
                go_roundw
                case rel => exact ⟨k + 1, by omega, by go_num, HWK.out, SK.out⟩
                case measure => simp [intOf]; omega
              | true =>
                have hkg : k < g.rules.length := by rw [← ER.out]; exact hlk
                have MEM := Lib.hid (show k ∈ withOf g i ↔ k = i ∨ (k ∈ toOf g i ∧ i ∈ toOf g k) from by
                  rw [WLN.out.2.1 (SGO.out.2 rfl), mem_part HR.out hig, toOf_mem HR.out hig, toOf_mem HR.out hkg])
                have H1 := Lib.hid (sHas4_any WA wq (withOf g i) k wl EWL.out (by omega) _ HWK.out)
                obtain ⟨h, eh⟩ : ∃ u, u = decide (k ∈ withOf g i) := ⟨_, rfl⟩
                have EH := Lib.hid eh
                rw [← eh] at H1
                clear eh
                by_cases e : k = i
                · obtain rfl : i = k := e.symm
                  obtain rfl : h = true := by rw [EH.out]; exact decide_eq_true (MEM.out.2 (.inl rfl))
                  clear MEM EH
                  go_wp2_with (go_at_call 20; (with_reducible refine H1.out.mono ?_); rintro e w8 ⟨rfl, rfl⟩)
                  go_roundw
                  case rel =>
                    first | exact ⟨i + 1, by omega, by go_num, HWK.out, SK.out⟩ | ((repeat apply Exists.intro); exact ⟨⟨i + 1, by omega, by go_num, HWK.out, SK.out⟩, rfl⟩)
                  case measure => simp [intOf]; omega
                · have hne : ¬ (k : Int) = i := by omega
                  have T1 := Lib.hid (TX.out i (by omega) _ SK.out.gr)
                  obtain ⟨tl, etl⟩ : ∃ u, u = (toOf g i).length := ⟨_, rfl⟩
                  have htl : tl ≤ 32 := by rw [etl]; exact rowOf_len _ _
                  have ETL := Lib.hid etl
                  rw [← etl] at T1
                  clear etl
                  go_wp2_with (go_at_call 20; (with_reducible refine H1.out.mono ?_); rintro e w8 ⟨rfl, rfl⟩)
                  refine T1.out.mono ?_
                  rintro e w9 ⟨A1, c9, rfl, hl1, hb⟩
                  have S9 := Lib.hid (SK.out.below hb)
                  have HW9 := Lib.hid (HWK.out.below hb)
                  have H2 := Lib.hid (sHas4_any A1 c9 (toOf g i) k tl ETL.out (by omega) _ hl1)
                  obtain ⟨a, ea⟩ : ∃ u, u = decide (k ∈ toOf g i) := ⟨_, rfl⟩
                  have EA := Lib.hid ea
                  rw [← ea] at H2
                  have c2 := S9.out.ka.cell 0
                  have c3 := S9.out.ka.cell 1
                  simp only [List.getElem?_toArray, List.getElem?_cons_zero, List.getElem?_cons_succ] at c2 c3
                  clear ea hl1 hb c0 c1 T1 H1
                  cases a with
                  | false =>
                    obtain rfl : h = false := by
                      rw [EH.out]
                      exact decide_eq_false (fun h2 => by
                        rcases MEM.out.1 h2 with h3 | h3
                        · exact e h3
                        · have := of_decide_eq_false EA.out.symm; exact this h3.1)
                    clear MEM EH EA
                    go_wp2_with (go_at_call 20; (with_reducible refine H2.out.mono ?_); rintro e w8 ⟨rfl, rfl⟩)
                    go_roundw
                    case rel =>
                      first | exact ⟨k + 1, by omega, by go_num, HW9.out, S9.out⟩ | ((repeat apply Exists.intro); exact ⟨⟨k + 1, by omega, by go_num, HW9.out, S9.out⟩, rfl⟩)
                    case measure => simp [intOf]; omega
                  | true =>
                    have T2 := Lib.hid (TX.out k (by omega) _ S9.out.gr)
                    obtain ⟨t2, et2⟩ : ∃ u, u = (toOf g k).length := ⟨_, rfl⟩
                    have ht2 : t2 ≤ 32 := by rw [et2]; exact rowOf_len _ _
                    have ET2 := Lib.hid et2
                    rw [← et2] at T2
                    clear et2
                    go_wp2_with (go_at_call 20; (with_reducible refine H2.out.mono ?_); rintro e w8 ⟨rfl, rfl⟩)
                    refine T2.out.mono ?_
                    rintro e w10 ⟨A2, c10, rfl, hl2, hb⟩
                    have S10 := Lib.hid (S9.out.below hb)
                    have HW10 := Lib.hid (HW9.out.below hb)
                    have H3 := Lib.hid (sHas4_any A2 c10 (toOf g k) i t2 ET2.out (by omega) _ hl2)
                    obtain rfl : h = decide (i ∈ toOf g k) := by
                      rw [EH.out]
                      refine decide_eq_decide.2 ⟨fun h2 => ?_, fun h2 => MEM.out.2 (.inr ⟨of_decide_eq_true EA.out.symm, h2⟩)⟩
                      rcases MEM.out.1 h2 with h3 | h3
                      · exact absurd h3 e
                      · exact h3.2
                    generalize decide (i ∈ toOf g k) = h at *
                    clear hl2 hb c2 c3 T2 H2 MEM EH EA
                    cases h with
                    | true =>
                      go_wp2_with (go_at_call 20; (with_reducible refine H3.out.mono ?_); rintro e w8 ⟨rfl, rfl⟩)
                      go_roundw
                      case rel =>
                        first | exact ⟨k + 1, by omega, by go_num, HW10.out, S10.out⟩ | ((repeat apply Exists.intro); exact ⟨⟨k + 1, by omega, by go_num, HW10.out, S10.out⟩, rfl⟩)
                      case measure => simp [intOf]; omega
                    | false =>
                      go_wp2_with (go_at_call 20; (with_reducible refine H3.out.mono ?_); rintro e w8 ⟨rfl, rfl⟩)
                      go_roundw
                      case rel =>
                        first | exact ⟨k + 1, by omega, by go_num, HW10.out, S10.out⟩ | ((repeat apply Exists.intro); exact ⟨⟨k + 1, by omega, by go_num, HW10.out, S10.out⟩, rfl⟩)
                      case measure => simp [intOf]; omega
            · obtain rfl : k = R := by omega
              have hlk2 : ¬ (k : Int) < k := by omega
              go_wp2_with fail
              go_roundw
              case rel =>
                refine ⟨i + 1, _, by omega, by go_num, rfl, ?_, SK.out⟩
                rw [EFV.out, HF.out, EGO.out]
                cases hg : goesB g i with
                | true =>
                  rw [Bool.not_true, Bool.and_false]
                  exact (decide_eq_false (fun h => by have := h i (by omega); rw [hg] at this; cases this)).symm
                | false =>
                  rw [Bool.not_false, Bool.and_true]
                  refine decide_eq_decide.2 ⟨fun h j hj => ?_, fun h j hj => h j (by omega)⟩
                  by_cases e : j = i
                  · subst e; exact hg
                  · exact h j (by omega)
              case measure => simp [intOf]; omega
        · obtain rfl : i = R := by omega
          have hlt2 : ¬ (i : Int) < i := by omega
          clear hs hf
          obtain ⟨q, eq⟩ : ∃ q, q = decide (∀ j, j < i → goesB g j = false) := ⟨_, rfl⟩
          have FQ := Lib.hid (FX.out wr S1.out.gr)
          rw [← eq] at FQ
          obtain rfl : f = q := by rw [eq]; exact HF.out
          have hqq : (f == f) = true := by cases f <;> rfl
          clear eq
          go_wp2_with fail
          refine FQ.out.mono ?_
          rintro e w9 ⟨rfl, hb9⟩
          have H9 := Lib.hid (S1.out.low.trans (hb9.mono S1.out.low.size))
          clear hb9
          go_wp2_with fail
          go_ret
          exact ⟨ret_bool (by simp), H9.out⟩
end Go.Proofs.YtmlaepbmdfmgbaaGreat

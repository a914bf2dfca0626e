/- The law WellMend: true of any grammar. -/
import Derived.Test.YtjelgmdjmjnnfaaC3
import Derived.Test.YtjelgmdjmjnnfaaX9
import Derived.Deep.CutRange
import Derived.Deep.RegionHeld3
set_option linter.unusedSimpArgs false
set_option linter.unusedVariables false
namespace Go.Proofs.Ytjelgmdjmjnnfaa
open Go Go.RowKit Go.Maps
set_option maxRecDepth 100000 in
set_option maxHeartbeats 8000000 in
theorem mend_law (g : Gr) (w : World) (hg : Gr.At w g) (hin : Gr.In g) : Calls Try.prog 3 #[g.val] w fun e w' => e = .returned (.bool true) ∧ Below w.heap.size w w' := by
  have HG := Lib.hid hg
  have HIN := Lib.hid hin
  have SZ := Lib.hid (fun (w' : World) (b : Below w.heap.size w w') => size15_all g w' (hg.below b))
  have RI := Lib.hid (fun (w' : World) (b : Below w.heap.size w w') => right_all g w' (hg.below b) hin)
  have MD := Lib.hid (fun (w' : World) (b : Below w.heap.size w w') => wellMend_any g w' (hg.below b) hin)
  have NG := Lib.hid (fun (w' : World) (b : Below w.heap.size w w') => nodes_any g w' (hg.below b) hin)
  have AL := Lib.hid (fun (w' : World) (b : Below w.heap.size w w') => wellAll_any g w' (hg.below b) hin)
  have WW := Lib.hid (fun (w' : World) (b : Below w.heap.size w w') => wellWell_any g w' (hg.below b) hin)
  have ID := Lib.hid (fun (n : Nat) (hn : n < 1000000) (w' : World) (b : Below w.heap.size w w') => wellIdle_any g n (by omega) w' (hg.below b) hin)
  clear hg hin
  go_enter Try.func3, Try.ntmps3
  go_upto_region 5 with (first | (go_at_call 6; (with_reducible refine (wawake_any _).mono ?_); rintro e w1 ⟨rfl, hb⟩; have H1 := Lib.hid (bb (B1 w _) hb); have K1 := Lib.hid ((Blk.new w _ _).below' hb); have a0 := K1.out.cell 0; have a1 := K1.out.cell 1; simp only [List.getElem?_toArray, List.getElem?_cons_zero, List.getElem?_cons_succ] at a0 a1; clear hb) | (go_at_call 7; (with_reducible refine (SZ.out _ H1.out).mono ?_); rintro e w2 ⟨⟨z, rfl, hz⟩, hb⟩; have HZ := Lib.hid hz; have H2 := Lib.hid (bb H1.out hb); have K2 := Lib.hid (K1.out.below' hb); have b0 := K2.out.cell 0; have b1 := K2.out.cell 1; simp only [List.getElem?_toArray, List.getElem?_cons_zero, List.getElem?_cons_succ] at b0 b1; clear hb hz a0 a1))
  · -- TOO GREAT
    go_ret
    exact ⟨rfl, H2.out⟩
  · obtain ⟨gb, egb⟩ : ∃ u, u = w.heap.size := ⟨_, rfl⟩
    have KG2 : RowKit.Hid (Blk w2 gb #[.slice g.RA g.rules.length g.rc, .slice g.NA g.nodes.length g.nc] 25) := Lib.hid (by rw [egb]; exact K2.out)
    have HGB := Lib.hid (show w.heap.size ≤ gb by omega)
    rw [← egb] at b0 b1 ⊢
    clear egb K2 SZ
    cases hr : rightB g with
    | false =>
      have NL := Lib.hid (show idleRow g = [] from by unfold idleRow; rw [hr]; rfl)
      have WF := Lib.hid (show wellB g = false from by unfold wellB; rw [hr]; rfl)
      have HR := Lib.hid hr
      rw [hr] at RI
      clear hr
      go_upto_region 7 with (first | (go_at_call 8; (with_reducible refine (MD.out _ H2.out).mono ?_); rintro e w3 ⟨_, hn, hb⟩; obtain rfl := hn HR.out; have H3 := Lib.hid (bb H2.out hb); have KG3 := Lib.hid (KG2.out.below' hb); clear hn hb b0 b1; have b0 := KG3.out.cell 0; have b1 := KG3.out.cell 1; simp only [List.getElem?_toArray, List.getElem?_cons_zero, List.getElem?_cons_succ] at b0 b1) | (refine wpList_store_whole rfl 25 (.tmp 3) (.tmp 16) rfl w3.heap.size #[.slice none 0 0, .slice none 0 0] rfl rfl 25 _ (Blk.new _ _ _) (by kernel_rfl) (by rfl) (by simp [Value.oneCell']) ?_; intro w4 hk hgr; have KX := Lib.hid hk; have H34 := Lib.hid (show Below w3.heap.size w3 w4 from grown_below (B1 w3 _) (by simp) hgr (fun k e => by cases e; exact Nat.le_refl _)); have H4 := Lib.hid (bb H3.out H34.out); have KG4 := Lib.hid (KG3.out.below' H34.out); clear hk hgr b0 b1; have b0 := KG4.out.cell 0; have b1 := KG4.out.cell 1; have x0 := KX.out.cell 0; have x1 := KX.out.cell 1; simp only [List.getElem?_toArray, List.getElem?_cons_zero, List.getElem?_cons_succ] at b0 b1 x0 x1) | (go_at_call 9; (with_reducible refine (RI.out _ H4.out).mono ?_); rintro e w5 ⟨rfl, hb⟩; have H5 := Lib.hid (bb H4.out hb); have KG5 := Lib.hid (KG4.out.below' hb); have KX5 := Lib.hid (KX.out.below' hb); clear hb b0 b1 x0 x1; have b0 := KG5.out.cell 0; have b1 := KG5.out.cell 1; have x0 := KX5.out.cell 0; have x1 := KX5.out.cell 1; simp only [List.getElem?_toArray, List.getElem?_cons_zero, List.getElem?_cons_succ] at b0 b1 x0 x1))
      have A6 := Lib.hid (fun (e : Ext w5) => show Calls Try.prog 10 #[.agg #[.slice g.RA g.rules.length g.rc, .slice g.NA g.nodes.length g.nc]] e.val (fun x w' => x = .returned (.slice none 0 0) ∧ Below e.val.heap.size e.val w') from (AL.out _ (bb H5.out e.grown)).mono fun _ _ h => row_no h NL.out)
      have A7 := Lib.hid (fun (e : Ext w5) => show Calls Try.prog 11 #[.agg #[.slice g.RA g.rules.length g.rc, .slice g.NA g.nodes.length g.nc]] e.val (fun x w' => x = .returned (.bool false) ∧ Below e.val.heap.size e.val w') from (WW.out _ (bb H5.out e.grown)).mono fun _ _ h => ⟨by rw [h.1, WF.out], h.2⟩)
      have c0' := fun e => Ext.cell b0 e
      have c1' := fun e => Ext.cell b1 e
      have x0' := fun e => Ext.cell x0 e
      have x1' := fun e => Ext.cell x1 e
      clear b0 b1 x0 x1
      refine wp_region_ext (by kernel_rfl) (by kernel_rfl) ?_
      repeat (first | go_big_quiet_step (first | (go_at_call 10; with_reducible exact Calls.ext_of (A6.out _)) | (go_at_call 11; with_reducible exact Calls.ext_of (A7.out _))) | quiet_step (first | (go_at_call 10; with_reducible exact Calls.ext_of (A6.out _)) | (go_at_call 11; with_reducible exact Calls.ext_of (A7.out _))))
      refine wpQuiet_nil ?_
      intro w9 hw'
      obtain ⟨⟨_, hb9⟩, rfl⟩ := hw'
      have B9 := Lib.hid (bb H5.out hb9)
      clear hb9 c0' c1' x0' x1' A6 A7
      go_wp2_with fail
      go_ret
      exact ⟨rfl, B9.out⟩
    | true =>
      have hR := rightB_true.1 hr
      have HR := Lib.hid hr
      have HRR := Lib.hid hR
      have hnl := hR.nodes
      rw [hr] at RI
      have IDX := Lib.hid (fun (n : Nat) (hn : n < g.nodes.length) (w' : World) (b : Below w.heap.size w w') => show Calls Try.prog 15 #[.agg #[.slice g.RA g.rules.length g.rc, .slice g.NA g.nodes.length g.nc], .int .i64 n] w' (fun e w'' => e = .returned (.bool (decide (n ∈ idles g))) ∧ Below w'.heap.size w' w'') from by
        have := ID.out n (by omega) w' b
        rw [idleB_of hR hn] at this
        exact this)
      have GT := Lib.hid (fun (h : Gr) (t : GTwin g h) => mnd_of hR HIN.out t)
      clear hr ID AL hR
      -- mended
      go_upto_region 6 with (first | (go_at_call 8; (with_reducible refine (MD.out _ H2.out).mono ?_); rintro e w3 ⟨hm, _, hb⟩; obtain ⟨h, rfl, ht, hf⟩ := hm HR.out; have HT := Lib.hid ht; have HF := Lib.hid hf; have H3 := Lib.hid (bb H2.out hb); have H3S := Lib.hid hb.size; have HB23 := Lib.hid hb; have KG3 := Lib.hid (KG2.out.below' hb); clear hm ht hf hb b0 b1; have b0 := KG3.out.cell 0; have b1 := KG3.out.cell 1; simp only [List.getElem?_toArray, List.getElem?_cons_zero, List.getElem?_cons_succ] at b0 b1) | (refine wpList_store_whole rfl 25 (.tmp 3) (.tmp 16) rfl w3.heap.size #[.slice h.RA h.rules.length h.rc, .slice h.NA (h.opts (idles g)).nodes.length h.nc] rfl rfl 25 _ (Blk.new _ _ _) (by kernel_rfl) (by rfl) (by simp [Value.oneCell']) ?_; intro w4 hk hgr; have KX0 := Lib.hid hk; have H34 := Lib.hid (show Below w3.heap.size w3 w4 from grown_below (B1 w3 _) (by simp) hgr (fun k e => by cases e; exact Nat.le_refl _)); have H4 := Lib.hid (bb H3.out H34.out); have KG4 := Lib.hid (KG3.out.below' H34.out); clear hk hgr b0 b1))
      have MN := Lib.hid (GT.out h HT.out)
      have hXr : (h.opts (idles g)).rules.length = g.rules.length := MN.out.rlen
      have hXn : (h.opts (idles g)).nodes.length = g.nodes.length := MN.out.nlen
      obtain ⟨X, eX⟩ : ∃ X, X = h.opts (idles g) := ⟨_, rfl⟩
      have F4 := Lib.hid (show Fresh w4 w2.heap.size X from by rw [eX]; exact HF.out.below H34.out)
      have G4 := Lib.hid (HG.out.below H4.out)
      have X4 := Lib.hid (show Gr.At w4 X from by rw [eX]; exact (HF.out.below H34.out).at_opts HT.out G4.out)
      have EXX := Lib.hid eX
      have MX := Lib.hid (show Mnd g X from by rw [eX]; exact MN.out)
      obtain ⟨xb, exb⟩ : ∃ u, u = w3.heap.size := ⟨_, rfl⟩
      obtain ⟨R, eR⟩ : ∃ R, R = g.rules.length := ⟨_, rfl⟩
      obtain ⟨N, eN⟩ : ∃ N, N = g.nodes.length := ⟨_, rfl⟩
      have KX4 := Lib.hid (show Blk w4 xb #[.slice X.RA R X.rc, .slice X.NA N X.nc] 25 from by
        have := KX0.out
        rw [hXn, ← exb] at this
        rw [eX, eR, eN]
        show Blk w4 xb #[.slice h.RA g.rules.length h.rc, .slice h.NA g.nodes.length h.nc] 25
        rw [← HT.out.rules]
        exact this)
      have KG5 := Lib.hid (show Blk w4 gb #[.slice g.RA R g.rc, .slice g.NA N g.nc] 25 from by rw [eR, eN]; exact KG4.out)
      have XV := Lib.hid (show X.val = .agg #[.slice X.RA R X.rc, .slice X.NA N X.nc] from by unfold Gr.val; rw [MX.out.rlen, MX.out.nlen, eR, eN])
      have GV := Lib.hid (show g.val = .agg #[.slice g.RA R g.rc, .slice g.NA N g.nc] from by unfold Gr.val; rw [eR, eN])
      have RI2 := Lib.hid (show ∀ (w' : World), Below w.heap.size w w' → Calls Try.prog 9 #[.agg #[.slice g.RA R g.rc, .slice g.NA N g.nc]] w' (fun e w'' => e = .returned (.bool true) ∧ Below w'.heap.size w' w'') from by rw [← GV.out]; exact RI.out)
      have XBW := Lib.hid (show w2.heap.size ≤ xb ∧ w.heap.size ≤ w2.heap.size ∧ gb < w2.heap.size by
        have := KG2.out.lt; have h1 := H2.out.size; have : w2.heap.size ≤ w3.heap.size := H3S.out
        omega)
      rw [← exb]
      have b0 := KG5.out.cell 0; have b1 := KG5.out.cell 1
      simp only [List.getElem?_toArray, List.getElem?_cons_zero, List.getElem?_cons_succ] at b0 b1
      have ER := Lib.hid eR
      have EN := Lib.hid eN
      have K2N := Lib.hid (show Blk w2 gb #[.slice g.RA R g.rc, .slice g.NA N g.nc] 25 from by rw [eR, eN]; exact KG2.out)
      have G2 := Lib.hid (HG.out.below H2.out)
      have B24 := Lib.hid (HB23.out.trans (H34.out.mono H3S.out))
      clear KG2 KG3 KG4 KX0 HF H3S RI MD GT eX hXr hXn H34 exb eR eN
      go_upto_region 8 with (go_at_call 9; go_loud ((with_reducible refine (RI2.out _ H4.out).mono ?_); rintro e w5 ⟨rfl, hb⟩; have HB5 := Lib.hid hb; clear hb b0 b1))
      have H5 := Lib.hid (bb H4.out HB5.out)
      have B25 := Lib.hid (B24.out.trans (HB5.out.mono B24.out.size))
      have KG := Lib.hid (KG5.out.below' HB5.out)
      have KX := Lib.hid (KX4.out.below' HB5.out)
      have F5 := Lib.hid (F4.out.below HB5.out)
      have G5 := Lib.hid (G4.out.below HB5.out)
      have X5 := Lib.hid (X4.out.below HB5.out)
      have CC := Lib.hid (fun (W' : World) (hb : Below w5.heap.size w5 W') => (⟨(KG.out.below' hb).cell 0, (KG.out.below' hb).cell 1, (KX.out.below' hb).cell 0, (KX.out.below' hb).cell 1⟩ : W'.cell? ⟨gb, 0, none⟩ = some (.slice g.RA R g.rc) ∧ W'.cell? ⟨gb, 1, none⟩ = some (.slice g.NA N g.nc) ∧ W'.cell? ⟨xb, 0, none⟩ = some (.slice X.RA R X.rc) ∧ W'.cell? ⟨xb, 1, none⟩ = some (.slice X.NA N X.nc)))
      have WX := Lib.hid (fun (W' : World) (hb : Below w5.heap.size w5 W') => show Calls Try.prog 11 #[.agg #[.slice X.RA R X.rc, .slice X.NA N X.nc]] W' (fun e w'' => e = .returned (.bool true) ∧ Below W'.heap.size W' w'') from by
        have := wellWell_any X W' (X5.out.below hb) MX.out.into
        rw [XV.out, MX.out.well] at this
        exact this)
      have WG := Lib.hid (fun (W' : World) (hb : Below w5.heap.size w5 W') => show Calls Try.prog 11 #[.agg #[.slice g.RA R g.rc, .slice g.NA N g.nc]] W' (fun e w'' => e = .returned (.bool (wellB g)) ∧ Below W'.heap.size W' w'') from by
        have := WW.out W' (bb H5.out hb)
        rw [GV.out] at this
        exact this)
      have NX := Lib.hid (fun (W' : World) (hb : Below w5.heap.size w5 W') => show Calls Try.prog 13 #[.agg #[.slice X.RA R X.rc, .slice X.NA N X.nc]] W' (Row W' (nodesOf g)) from by
        have := nodes_any X W' (X5.out.below hb) MX.out.into
        rw [XV.out, MX.out.nodes] at this
        exact this)
      have NN := Lib.hid (fun (W' : World) (hb : Below w5.heap.size w5 W') => show Calls Try.prog 13 #[.agg #[.slice g.RA R g.rc, .slice g.NA N g.nc]] W' (Row W' (nodesOf g)) from by
        have := NG.out W' (bb H5.out hb)
        rw [GV.out] at this
        exact this)
      have NL := Lib.hid (show (nodesOf g).length ≤ 140737488351232 from by
        rw [nodesOf_of HRR.out]
        have := rowOf_len (fun n => mayN g.nodes (inB (ranks g)) n) g.nodes.length
        omega)
      clear WW NG KG5 KX4 F4 G4 X4 HB5 H4
      go_cut [65] from 42 to 64 (fun s65 wx => s65 = .bool false ∧ Below w5.heap.size w5 wx)
      case first =>
        obtain ⟨c0, c1, c2, c3⟩ := CC.out _ (Below.refl _ _)
        generalize nodesOf g = L at NX NN NL
        go_region_held3 (fun W' => W'.cell? ⟨gb, 0, none⟩ = some (.slice g.RA R g.rc) ∧ W'.cell? ⟨gb, 1, none⟩ = some (.slice g.NA N g.nc) ∧ W'.cell? ⟨xb, 0, none⟩ = some (.slice X.RA R X.rc) ∧ W'.cell? ⟨xb, 1, none⟩ = some (.slice X.NA N X.nc)) (first | exact CC.out _ P4.out | exact CC.out _ P3.out | exact CC.out _ P2.out | exact CC.out _ P1.out | exact CC.out _ (bdrew1 (Below.refl _ _)) | exact CC.out _ (Below.refl _ _)) (first | (go_at_call 11; (with_reducible refine (WX.out _ (by first | exact bdrew1 (Below.refl _ _) | exact Below.refl _ _)).mono ?_); rintro e w6 ⟨rfl, hb'⟩; have P1 := Lib.hid (show Below w5.heap.size w5 w6 from (by first | exact hb' | exact (bdrew1 (Below.refl _ _)).trans hb')); clear hb') | (go_at_call 13; (with_reducible refine (NN.out _ P2.out).mono ?_); rintro e w8 ⟨⟨v2, rfl, ho2, _⟩, hb2⟩; obtain ⟨A2, d2, rfl, _, _⟩ := own_slice ho2; have LB := Lib.hid (own_lies1 ho2); have LA2 := Lib.hid (LA.out.below hb2); have P3 := Lib.hid (bb P2.out hb2); clear ho2 hb2) | (go_at_call 13; (with_reducible refine (NX.out _ P1.out).mono ?_); rintro e w7 ⟨⟨v1, rfl, ho1, _⟩, hb1⟩; obtain ⟨A1, d1, rfl, _, _⟩ := own_slice ho1; have LA := Lib.hid (own_lies1 ho1); have P2 := Lib.hid (bb P1.out hb1); clear ho1 hb1) | (go_at_call 13; (with_reducible refine (NX.out _ P2.out).mono ?_); rintro e w8 ⟨⟨v2, rfl, ho2, _⟩, hb2⟩; obtain ⟨A2, d2, rfl, _, _⟩ := own_slice ho2; have LA2 := Lib.hid (own_lies1 ho2); have LB := Lib.hid (LBB.out.below hb2); have P3 := Lib.hid (bb P2.out hb2); clear ho2 hb2) | (go_at_call 13; (with_reducible refine (NN.out _ P1.out).mono ?_); rintro e w7 ⟨⟨v1, rfl, ho1, _⟩, hb1⟩; obtain ⟨A1, d1, rfl, _, _⟩ := own_slice ho1; have LBB := Lib.hid (own_lies1 ho1); have P2 := Lib.hid (bb P1.out hb1); clear ho1 hb1) | (go_at_call 12; (with_reducible refine (same_row _ _ _ _ L NL.out _ LA2.out LB.out).mono ?_); rintro e w9 ⟨rfl, hb3⟩; have P4 := Lib.hid (bb P3.out hb3); clear hb3))
        all_goals go_simp
        all_goals (first | go_meet | (go_wp2_with fail; go_meet) | skip)
        all_goals exact ⟨rfl, P4.out⟩
      case rest =>
      obtain ⟨rfl, hb9⟩ := hcut
      have P9 := Lib.hid hb9
      have MDX := Lib.hid (fun (W' : World) (hb : Below w5.heap.size w5 W') => show Calls Try.prog 8 #[.agg #[.slice X.RA R X.rc, .slice X.NA N X.nc]] W' (fun e w'' => ∃ y : Gr, e = .returned (.tuple #[.agg #[.slice y.RA R y.rc, .slice y.NA N y.nc], .bool true]) ∧ Gr.At w'' y ∧ sameGr y X = true ∧ y.rules.length = R ∧ y.nodes.length = N ∧ Below W'.heap.size W' w'') from by
        have := wellMend_any X W' (X5.out.below hb) MX.out.into
        rw [XV.out] at this
        refine this.mono ?_
        rintro e w'' ⟨hm, _, hb2⟩
        obtain ⟨y, he, ht, hf⟩ := hm MX.out.right
        rw [MX.out.idles, opts_none] at he hf
        have e1 : y.rules.length = R := by rw [ht.rules, MX.out.rlen, ER.out]
        have e2 : y.nodes.length = N := by rw [ht.len, MX.out.nlen, EN.out]
        refine ⟨y, ?_, hf.lies ht (X5.out.below (hb.trans (hb2.mono hb.size))), ht.same, e1, e2, hb2⟩
        rw [he]
        unfold Gr.val
        rw [e1, e2])
      obtain ⟨c0, c1, c2, c3⟩ := CC.out _ hb9
      clear hb9 NX NN NL WX
      go_upto_region 11 with (first | (go_at_call 8; (with_reducible refine (MDX.out _ P9.out).mono ?_); rintro e w10 ⟨y, rfl, hy, hs, hy1, hy2, hb⟩; have HY := Lib.hid hy; have HS := Lib.hid hs; have HY1 := Lib.hid hy1; have HY2 := Lib.hid hy2; have P10 := Lib.hid (bb P9.out hb); clear hy hs hy1 hy2 hb c0 c1 c2 c3) | (refine wpList_store_whole rfl 25 (.tmp 5) (.tmp 69) rfl w10.heap.size #[.slice y.RA R y.rc, .slice y.NA N y.nc] rfl rfl 25 _ (Blk.new _ _ _) (by kernel_rfl) (by rfl) (by simp [Value.oneCell']) ?_; intro w11 hk hgr; have KY := Lib.hid hk; have H11 := Lib.hid (show Below w10.heap.size w10 w11 from grown_below (B1 w10 _) (by simp) hgr (fun k e => by cases e; exact Nat.le_refl _)); clear hk hgr))
      have P11 := Lib.hid (bb P10.out H11.out)
      have Y11 := Lib.hid (HY.out.below H11.out)
      have YV := Lib.hid (show y.val = .agg #[.slice y.RA R y.rc, .slice y.NA N y.nc] from by unfold Gr.val; rw [HY1.out, HY2.out])
      have S1 := Lib.hid (fun (e : Ext w11) => show Calls Try.prog 14 #[.agg #[.slice y.RA R y.rc, .slice y.NA N y.nc], .agg #[.slice X.RA R X.rc, .slice X.NA N X.nc]] e.val (fun x w' => x = .returned (.bool true) ∧ Below e.val.heap.size e.val w') from by
        have := kitGram_any y X e.val (Y11.out.below e.grown) (X5.out.below (bb P11.out e.grown))
        rw [HS.out, YV.out, XV.out] at this
        exact this)
      have S2 := Lib.hid (fun (e : Ext w11) => WG.out e.val (bb P11.out e.grown))
      have S3 := Lib.hid (fun (e : Ext w11) => show Calls Try.prog 14 #[.agg #[.slice X.RA R X.rc, .slice X.NA N X.nc], .agg #[.slice g.RA R g.rc, .slice g.NA N g.nc]] e.val (fun x w' => x = .returned (.bool (wellB g)) ∧ Below e.val.heap.size e.val w') from by
        have := kitGram_any X g e.val (X5.out.below (bb P11.out e.grown)) (G5.out.below (bb P11.out e.grown))
        rw [MX.out.same, XV.out, GV.out] at this
        exact this)
      obtain ⟨c0, c1, c2, c3⟩ := CC.out _ P11.out
      have y0 := KY.out.cell 0; have y1 := KY.out.cell 1
      simp only [List.getElem?_toArray, List.getElem?_cons_zero, List.getElem?_cons_succ] at y0 y1
      have c0' := fun e => Ext.cell c0 e
      have c1' := fun e => Ext.cell c1 e
      have c2' := fun e => Ext.cell c2 e
      have c3' := fun e => Ext.cell c3 e
      have y0' := fun e => Ext.cell y0 e
      have y1' := fun e => Ext.cell y1 e
      generalize wellB g = wb at S2 S3
      clear c0 c1 c2 c3 y0 y1 MDX WG H11 HY P10
      obtain ⟨yb, eyb⟩ : ∃ u, u = w10.heap.size := ⟨_, rfl⟩
      rw [← eyb] at y0' y1' ⊢
      clear eyb
      refine wp_region_ext (by kernel_rfl) (by kernel_rfl) ?_
      repeat (first | go_big_quiet_step (first | (go_at_call 11; with_reducible exact Calls.ext_of (S2.out _)) | (go_at_call 14; with_reducible exact Calls.ext_of (S1.out _)) | (go_at_call 14; with_reducible exact Calls.ext_of (S3.out _))) | quiet_step (first | (go_at_call 11; with_reducible exact Calls.ext_of (S2.out _)) | (go_at_call 14; with_reducible exact Calls.ext_of (S1.out _)) | (go_at_call 14; with_reducible exact Calls.ext_of (S3.out _))))
      refine wpQuiet_nil ?_
      intro w12 hw'
      obtain ⟨⟨_, hb12⟩, rfl⟩ := hw'
      have P12 := Lib.hid (bb P11.out hb12)
      clear hb12 c0' c1' c2' c3' y0' y1' S1 S2 S3 Y11 KY
      go_wp2_with fail
      have F12 := Lib.hid (show Fresh w12 w2.heap.size { h with nodes := undo g h 0 } from by
        have := F5.out.below P12.out
        rw [EXX.out] at this
        rw [undo_zero]
        exact this)
      have KX12 := Lib.hid (show Blk w12 xb #[.slice h.RA R h.rc, .slice h.NA N h.nc] 25 from by
        have := KX.out.below' P12.out
        rw [EXX.out] at this
        exact this)
      have B212 := Lib.hid (B25.out.trans (P12.out.mono B25.out.size))
      have ID2 := Lib.hid (show ∀ (n : Nat), n < N → ∀ (w' : World), Below w.heap.size w w' → Calls Try.prog 15 #[.agg #[.slice g.RA R g.rc, .slice g.NA N g.nc], .int .i64 n] w' (fun e w'' => e = .returned (.bool (decide (n ∈ idles g))) ∧ Below w'.heap.size w' w'') from by
        rw [EN.out, ER.out]
        exact IDX.out)
      have hN : N ≤ 2048 := by rw [EN.out]; exact hnl
      clear IDX F5 KX X5 CC XV MX EXX P12 P11 P9 H5 KG HY1 HY2 HS YV hnl G5
      go_loopw [7] (fun i wr => ∃ m : Nat, m ≤ N ∧ i = .int .i64 m ∧ Blk wr xb #[.slice h.RA R h.rc, .slice h.NA N h.nc] 25 ∧ Fresh wr w2.heap.size { h with nodes := undo g h m } ∧ Below w2.heap.size w2 wr) (fun i _ => N - (intOf i).toNat)
      case atStart => exact ⟨0, by omega, rfl, KX12.out, F12.out, B212.out⟩
      case round =>
        obtain ⟨m, hm, rfl, hkx, hf, hbl⟩ := hrel
        have KXR := Lib.hid hkx
        have FR := Lib.hid hf
        have BL := Lib.hid hbl
        have LW := Lib.hid (bb H2.out hbl)
        have GR := Lib.hid (G2.out.below hbl)
        have KGR := Lib.hid (K2N.out.below' hbl)
        clear hkx hf hbl
        have b0 := KGR.out.cell 0; have b1 := KGR.out.cell 1
        have x0 := KXR.out.cell 0; have x1 := KXR.out.cell 1
        simp only [List.getElem?_toArray, List.getElem?_cons_zero, List.getElem?_cons_succ] at b0 b1 x0 x1
        by_cases hlt : m < N
        · have hlt2 : (m : Int) < N := by omega
          have C := Lib.hid (ID2.out m hlt wr LW.out)
          by_cases hq : m ∈ idles g
          · rw [decide_eq_true hq] at C
            have HQ := Lib.hid hq
            clear hq
            go_upto_region 17 with (go_at_call 15; (with_reducible refine C.out.mono ?_); rintro e w13 ⟨rfl, hb⟩; have HB13 := Lib.hid hb; clear hb b0 b1 x0 x1)
            have F13 := FR.out.below HB13.out
            have B213 := Lib.hid (BL.out.trans (HB13.out.mono BL.out.size))
            have KX13 := KXR.out.below' HB13.out
            have hln : ({ h with nodes := undo g h m } : Gr).nodes.length = N := by rw [EN.out, ← HT.out.len]; exact undo_len g h m
            obtain ⟨nb, enb, hnb, hnb2⟩ := F13.shape (by rw [hln]; omega)
            have enb2 : h.NA = some ⟨nb, 0, none⟩ := enb
            obtain ⟨b1, o1, eA, _, k0, _⟩ := (GR.out.below HB13.out).nodes.nine (show m < g.nodes.length by rw [← EN.out]; exact hlt)
            have UST := undo_step HT.out (show m < g.nodes.length by rw [← EN.out]; exact hlt)
            generalize (g.nodes.getD m Nd.zero).kind = kd at k0 UST
            have TH : w13.there nb (m * 9) 9 := by
              have := F13.nodes
              rw [enb, hln] at this
              exact own_there this 9 (by omega)
            obtain ⟨u, hu⟩ := Option.isSome_iff_exists.1 (TH 0 (by omega)).1
            have f0 := (TH 0 (by omega)).2
            rw [Nat.add_zero] at hu f0
            have hne : xb ≠ nb := by
              intro e
              obtain ⟨vs, q1, _⟩ := own_blkT (b := nb) F13.nodes (by rw [enb]; rfl)
              rw [← e] at q1
              exact absurd (q1.same_T KX13) (by decide)
            have ST := Lib.hid (fun (W' : World) (hb : Below w13.heap.size w13 W') => show Blk (W'.setCell ⟨nb, m * 9, none⟩ (.int .i64 kd)) xb #[.slice h.RA R h.rc, .slice h.NA N h.nc] 25 ∧ Fresh (W'.setCell ⟨nb, m * 9, none⟩ (.int .i64 kd)) w2.heap.size { h with nodes := undo g h (m + 1) } ∧ Below w2.heap.size w2 (W'.setCell ⟨nb, m * 9, none⟩ (.int .i64 kd)) from by
              refine ⟨(heap_setCell_other W' ⟨nb, m * 9, none⟩ xb _ (by show xb ≠ nb; exact hne)).trans (KX13.below' hb), ?_, (B213.out.trans (hb.mono B213.out.size)).setCell (p := ⟨nb, m * 9, none⟩) hnb _⟩
              have := ((F13.below hb).kindv kd enb (by rw [hln]; exact hlt)).1
              rw [← UST]
              exact this)
            have b1' := (KGR.out.below' HB13.out).cell 1
            have x1' := KX13.cell 1
            simp only [List.getElem?_toArray, List.getElem?_cons_zero, List.getElem?_cons_succ] at b1' x1'
            rw [eA] at b1'
            rw [enb2] at x1'
            clear F13 KX13 hln enb hnb hnb2 enb2 eA UST TH hne FR KXR BL LW GR KGR HB13 B213
            go_region_with (fail)
            all_goals (
              go_wp2_with fail
              go_roundw
              case rel =>
                obtain ⟨q1, q2, q3⟩ := ST.out w13 (Below.refl _ _)
                exact ⟨m + 1, by omega, by go_num, q1, q2.below (bdrew1 (Below.refl _ _)), bdrew1 q3⟩
              case measure => simp [intOf]; omega)
          · rw [decide_eq_false hq] at C
            have US := Lib.hid (undo_same (h := h) hq)
            clear hq
            go_wp2_with (go_at_call 15; (with_reducible refine C.out.mono ?_); rintro e w13 ⟨rfl, hb⟩; have HB13 := Lib.hid hb; clear hb b0 b1 x0 x1)
            go_roundw
            case rel => exact ⟨m + 1, by omega, by go_num, KXR.out.below' HB13.out, by rw [US.out]; exact FR.out.below HB13.out, BL.out.trans (HB13.out.mono BL.out.size)⟩
            case measure => simp [intOf]; omega
        · obtain rfl : m = N := by omega
          have hlt2 : ¬ (m : Int) < m := by omega
          have UF := undo_full g h
          rw [← EN.out] at UF
          have FH : Fresh wr w2.heap.size h := by
            have := FR.out
            rw [UF] at this
            exact this
          have HA := Lib.hid (FH.lies HT.out GR.out)
          have SF := Lib.hid (fun (W' : World) (hb : Below wr.heap.size wr W') => show Calls Try.prog 14 #[.agg #[.slice h.RA R h.rc, .slice h.NA m h.nc], .agg #[.slice g.RA R g.rc, .slice g.NA m g.nc]] W' (fun x w' => x = .returned (.bool true) ∧ Below W'.heap.size W' w') from by
            have := kitGram_any h g W' (HA.out.below hb) (GR.out.below hb)
            rw [HT.out.same, GV.out, show h.val = .agg #[.slice h.RA R h.rc, .slice h.NA m h.nc] from by unfold Gr.val; rw [HT.out.rules, HT.out.len, ER.out, EN.out]] at this
            exact this)
          clear UF FH FR
          go_wp2_with (go_at_call 14; (with_reducible refine (SF.out _ (by first | exact Below.refl _ _ | exact bdrew1 (Below.refl _ _))).mono ?_); rintro e w14 ⟨rfl, hb⟩; have P14 := Lib.hid hb; clear hb)
          go_ret
          exact ⟨rfl, bb LW.out P14.out⟩
end Go.Proofs.Ytjelgmdjmjnnfaa

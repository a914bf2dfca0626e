/- The law's example, awake: what well tells of it. -/
import Derived.Test.YtjelgmdjmjnnfaaX7
import Derived.Test.YtjelgmdjmjnnfaaX8
import Derived.Deep.CutRange
set_option linter.unusedSimpArgs false
set_option linter.unusedVariables false
namespace Go.Proofs.Ytjelgmdjmjnnfaa
open Go Go.RowKit Go.Maps
set_option maxRecDepth 100000 in
set_option maxHeartbeats 16000000 in
theorem wawake_any (w : World) : Calls Try.prog 6 #[] w fun e w' => e = .returned (.bool true) ∧ Below w.heap.size w w' := by
  go_enter Try.func6, Try.ntmps6
  go_upto_region 2 with (first | (go_at_call 23; (refine (wexample_any _).mono ?_); rintro e w1 ⟨g1, rfl, h1, h2, hb⟩; have GA0 := Lib.hid h1; have EA := Lib.hid h2; have HWa := Lib.hid (show Below w.heap.size w w1 from hb); clear h1 h2 hb) | (refine wpList_store_whole rfl 25 (.tmp 1) (.tmp 7) rfl w1.heap.size #[.slice g1.RA g1.rules.length g1.rc, .slice g1.NA g1.nodes.length g1.nc] rfl rfl 25 _ (Blk.new _ _ _) (by kernel_rfl) (by rfl) (by simp [Value.oneCell']) ?_; intro w2 hk2 hg2; have KA := Lib.hid hk2; have HG2 := Lib.hid (grown_below (B1 w1 _) (by simp) hg2 (fun k e => by cases e; exact Nat.le_refl _)); clear hk2 hg2))
  have HW := Lib.hid (show Below w.heap.size w w2 from HWa.out.trans (HG2.out.mono HWa.out.size))
  have GA := Lib.hid (GA0.out.below HG2.out)
  have IA := Lib.hid (in_of EA.out wx0_in)
  have RA := Lib.hid (show rightB g1 = true from by rw [← rightB_kz, EA.out]; exact rightB_true.2 wx0_right)
  have LA := Lib.hid (show idles g1 = [1] from by rw [← idles_kz, EA.out]; exact wx_idles)
  have LR := Lib.hid (show idleRow g1 = [1] from by unfold idleRow; rw [RA.out, LA.out]; rfl)
  have NA := Lib.hid (show g1.nodes.length = 10 from by have h := congrArg (fun g : Gr => g.nodes.length) EA.out; simp only [Gr.kz, List.length_map] at h; rw [h]; rfl)
  obtain ⟨ba, eba⟩ : ∃ u, u = w1.heap.size := ⟨_, rfl⟩
  rw [← eba] at KA ⊢
  have a0 := KA.out.cell 0; have a1 := KA.out.cell 1
  simp only [List.getElem?_toArray, List.getElem?_cons_zero, List.getElem?_cons_succ] at a0 a1
  clear GA0 HWa HG2 eba
  have FV := Lib.hid (show firstVal [1] = .tuple #[.int .i64 1, .bool true] from rfl)
  go_upto_region 3 with (go_at_call 16; (with_reducible refine (wellFirst_any g1 _ GA.out IA.out).mono ?_); rintro e w3 ⟨rfl, hb⟩; have HB := Lib.hid hb; rw [LR.out, FV.out]; clear hb a0 a1)
  have GA_3 := Lib.hid (GA.out.below HB.out)
  have KA_3 := Lib.hid (KA.out.below' HB.out)
  have HW_3 := Lib.hid (bb HW.out HB.out)
  have a0 := KA_3.out.cell 0; have a1 := KA_3.out.cell 1
  simp only [List.getElem?_toArray, List.getElem?_cons_zero, List.getElem?_cons_succ] at a0 a1
  clear HB
  go_upto_region 4 with (first | (go_at_call 8; (with_reducible refine (wellMend_any g1 _ GA_3.out IA.out).mono ?_); rintro e w4 ⟨hm, _, hb⟩; have HB := Lib.hid hb; obtain ⟨h, rfl, ht, hf⟩ := hm RA.out; have HT := Lib.hid ht; have HF := Lib.hid hf; rw [LA.out] at hf; have HF := Lib.hid hf; rw [LA.out]; clear hm ht hf hb a0 a1) | (refine wpList_store_whole rfl 25 (.tmp 4) (.tmp 16) rfl w4.heap.size #[.slice h.RA h.rules.length h.rc, .slice h.NA (h.opts [1]).nodes.length h.nc] rfl rfl 25 _ (Blk.new _ _ _) (by kernel_rfl) (by rfl) (by simp [Value.oneCell']) ?_; intro w5 hk2 hg2; have KM := Lib.hid hk2; have HG2 := Lib.hid (grown_below (B1 w4 _) (by simp) hg2 (fun k e => by cases e; exact Nat.le_refl _)); clear hk2 hg2))
  have MK := Lib.hid (show (h.opts [1]).kz = (mended g1).kz from by unfold mended; rw [LA.out]; exact opts_kz HT.out [1])
  have GA_4 := Lib.hid (GA_3.out.below HB.out)
  have KA_4 := Lib.hid (KA_3.out.below' HB.out)
  have HW_4 := Lib.hid (bb HW_3.out HB.out)
  have GA_5 := Lib.hid (GA_4.out.below HG2.out)
  have KA_5 := Lib.hid (KA_4.out.below' HG2.out)
  have HW_5 := Lib.hid (bb HW_4.out HG2.out)
  have HF_5 := Lib.hid (HF.out.below HG2.out)
  have GM := Lib.hid (HF_5.out.at_opts HT.out GA_5.out)
  have IM := Lib.hid (show Gr.In (h.opts [1]) from in_opts (HT.out.within IA.out))
  have WM := Lib.hid (show wellB (h.opts [1]) = true from by rw [← wellB_kz, MK.out, wellB_kz]; exact mended_well (rightB_true.1 RA.out))
  have NM := Lib.hid (show (h.opts [1]).nodes.length = 10 from by rw [show (h.opts [1]).nodes.length = h.nodes.length from opts_len _ _, HT.out.len]; exact NA.out)
  have KD := Lib.hid (show ((h.opts [1]).nodes.getD 1 Nd.zero).kind = 10 from by
    rw [show (h.opts [1]).nodes.getD 1 Nd.zero = _ from opts_at [1] h.nodes 1 (by rw [HT.out.len, NA.out]; decide)]
    rfl)
  have KM2 := Lib.hid (show Blk w5 w4.heap.size #[.slice (h.opts [1]).RA (h.opts [1]).rules.length (h.opts [1]).rc, .slice (h.opts [1]).NA (h.opts [1]).nodes.length (h.opts [1]).nc] 25 from KM.out)
  obtain ⟨bm, ebm⟩ : ∃ u, u = w4.heap.size := ⟨_, rfl⟩
  rw [← ebm] at KM2 ⊢
  clear HF HF_5 KM HT MK HB HG2
  generalize h.opts [1] = m at KM2 GM IM WM NM KD
  clear ebm
  go_wp2_with fail
  refine (word_any ⟨#[97]⟩ (by decide) _).mono ?_
  rintro e w6 ⟨Aa, ca, La, rfl, sa, ba, na, hb⟩
  have Sa := Lib.hid sa
  have Na := Lib.hid na
  have Ba_6 := Lib.hid ba
  have GA_6 := Lib.hid (GA_5.out.below hb)
  have KA_6 := Lib.hid (KA_5.out.below' hb)
  have HW_6 := Lib.hid (bb HW_5.out hb)
  have GM_6 := Lib.hid (GM.out.below hb)
  have KM_6 := Lib.hid (KM2.out.below' hb)
  clear sa ba na hb
  go_wp2_with fail
  refine (kin_any 10 Aa ca La 0 _ Ba_6.out Na.out (by have h := congrArg List.length Sa.out; simp only [List.length_map] at h; rw [h]; decide) (by decide)).mono ?_
  rintro e w7 ⟨Aq, cq, Lq, rfl, sq, bq, nq, hb⟩
  rw [Sa.out] at sq
  have Sq := Lib.hid sq
  have Nq := Lib.hid nq
  have Bq_7 := Lib.hid bq
  have Ba_7 := Lib.hid (Ba_6.out.below hb)
  have GA_7 := Lib.hid (GA_6.out.below hb)
  have KA_7 := Lib.hid (KA_6.out.below' hb)
  have HW_7 := Lib.hid (bb HW_6.out hb)
  have GM_7 := Lib.hid (GM_6.out.below hb)
  have KM_7 := Lib.hid (KM_6.out.below' hb)
  clear sq bq nq hb
  go_wp2_with fail
  refine (kin_any 10 Aq cq Lq 100000 _ Bq_7.out Nq.out (by have h := congrArg List.length Sq.out; simp only [List.length_map] at h; rw [h]; decide) (by decide)).mono ?_
  rintro e w8 ⟨Ad, cd, Ld, rfl, sd, bd, nd, hb⟩
  rw [Sq.out] at sd
  have Sd := Lib.hid sd
  have Nd := Lib.hid nd
  have Bd_8 := Lib.hid bd
  have Ba_8 := Lib.hid (Ba_7.out.below hb)
  have Bq_8 := Lib.hid (Bq_7.out.below hb)
  have GA_8 := Lib.hid (GA_7.out.below hb)
  have KA_8 := Lib.hid (KA_7.out.below' hb)
  have HW_8 := Lib.hid (bb HW_7.out hb)
  have GM_8 := Lib.hid (GM_7.out.below hb)
  have KM_8 := Lib.hid (KM_7.out.below' hb)
  clear sd bd nd hb
  have GR := Lib.hid (gram_any (some ⟨w8.heap.size, 0, none⟩) [(Ad, cd, Ld)] 1 200000 (w8.alloc (.cells #[.slice Ad Ld.length cd] 23)) ⟨lies_one (Blk.new _ _ _), fun x hx => by
    simp at hx; subst hx
    exact ⟨Bd_8.out.below (B1 _ _), (by have h := congrArg List.length Sd.out; simp only [List.length_map] at h; rw [h]; decide), Nd.out⟩⟩ (by simp) (by decide))
  simp only [List.length_cons, List.length_nil, Nat.reduceAdd, List.map_cons, List.map_nil, Sd.out] at GR
  go_wp2_with fail
  refine GR.out.mono ?_
  rintro e w10 ⟨g2, rfl, hst, hsp, hkl, hcp, hb0⟩
  have hb : Below w8.heap.size w8 w10 := (B1 w8 _).trans (hb0.mono (by simp))
  have GA_10 := Lib.hid (GA_8.out.below hb)
  have KA_10 := Lib.hid (KA_8.out.below' hb)
  have HW_10 := Lib.hid (bb HW_8.out hb)
  have GM_10 := Lib.hid (GM_8.out.below hb)
  have KM_10 := Lib.hid (KM_8.out.below' hb)
  have GB := Lib.hid hst.at_
  have EB := Lib.hid (show g2.kz = wy0 from kz_of (hsp.trans wy_gram))
  clear hst hsp hkl hcp hb0 hb GR
  have IB := Lib.hid (in_of EB.out wy0_in)
  have WB := Lib.hid (show wellB g2 = true from by rw [← wellB_kz, EB.out]; unfold wellB idleRow; rw [rightB_true.2 wy0_right, wy_idles]; rfl)
  have WA := Lib.hid (show wellB g1 = false from by unfold wellB; rw [LR.out, RA.out]; rfl)
  go_upto_region 5 with (refine wpList_store_whole rfl 25 (.tmp 6) (.tmp 22) rfl w10.heap.size #[.slice g2.RA g2.rules.length g2.rc, .slice g2.NA g2.nodes.length g2.nc] rfl rfl 25 _ (Blk.new _ _ _) (by kernel_rfl) (by rfl) (by simp [Value.oneCell']) ?_; intro w11 hk2 hg2; have KB := Lib.hid hk2; have HG2 := Lib.hid (grown_below (B1 w10 _) (by simp) hg2 (fun k e => by cases e; exact Nat.le_refl _)); clear hk2 hg2)
  have GA_11 := Lib.hid (GA_10.out.below HG2.out)
  have KA_11 := Lib.hid (KA_10.out.below' HG2.out)
  have HW_11 := Lib.hid (bb HW_10.out HG2.out)
  have GM_11 := Lib.hid (GM_10.out.below HG2.out)
  have KM_11 := Lib.hid (KM_10.out.below' HG2.out)
  have GB_11 := Lib.hid (GB.out.below HG2.out)
  obtain ⟨bh, ebh⟩ : ∃ u, u = w10.heap.size := ⟨_, rfl⟩
  rw [← ebh] at KB ⊢
  clear ebh HG2
  have a0 := KA_11.out.cell 0; have a1 := KA_11.out.cell 1; simp only [List.getElem?_toArray, List.getElem?_cons_zero, List.getElem?_cons_succ] at a0 a1; have m0 := KM_11.out.cell 0; have m1 := KM_11.out.cell 1; simp only [List.getElem?_toArray, List.getElem?_cons_zero, List.getElem?_cons_succ] at m0 m1; have h0 := KB.out.cell 0; have h1 := KB.out.cell 1; simp only [List.getElem?_toArray, List.getElem?_cons_zero, List.getElem?_cons_succ] at h0 h1
  have SI := Lib.hid (fun (w12 : World) (Av : Option Addr) (cv : Nat) (ho : w12.ownsRow w11.heap.size 3 1 (.slice Av 1 cv) 1 (ints [1])) => show Calls Try.prog 12 #[.slice Av 1 cv, .slice (some ⟨w12.heap.size, 0, none⟩) 1 1] (w12.alloc (.cells #[.int .i64 1] 3)) (fun e w13 => e = .returned (.bool true) ∧ Below w12.heap.size w12 w13) from (same_row Av (some ⟨w12.heap.size, 0, none⟩) cv 1 [1] (by decide) _ (own_lies (xs := ints (nums [1])) (own_below ho (B1 w12 _))) (lies_one (Blk.new w12 _ _))).mono fun e w13 h => ⟨h.1, (B1 w12 _).trans (h.2.mono (by simp))⟩)
  go_wp2_with (first | (go_at_call 10; (with_reducible refine (wellAll_any g1 _ GA_11.out IA.out).mono ?_); rintro e w12 ⟨⟨v, rfl, ho, _⟩, hb⟩; rw [LR.out] at ho; replace ho : w12.ownsRow w11.heap.size 3 1 v 1 (ints [1]) := ho; obtain ⟨Av, cv, rfl, _, _⟩ := own_slice ho; have HO := Lib.hid ho; have GA_12 := Lib.hid (GA_11.out.below hb); have KA_12 := Lib.hid (KA_11.out.below' hb); have HW_12 := Lib.hid (bb HW_11.out hb); have GM_12 := Lib.hid (GM_11.out.below hb); have KM_12 := Lib.hid (KM_11.out.below' hb); have GB_12 := Lib.hid (GB_11.out.below hb); have KB_12 := Lib.hid (KB.out.below' hb); clear a0 a1 m0 m1 h0 h1; have a0 := KA_12.out.cell 0; have a1 := KA_12.out.cell 1; simp only [List.getElem?_toArray, List.getElem?_cons_zero, List.getElem?_cons_succ] at a0 a1; have m0 := KM_12.out.cell 0; have m1 := KM_12.out.cell 1; simp only [List.getElem?_toArray, List.getElem?_cons_zero, List.getElem?_cons_succ] at m0 m1; have h0 := KB_12.out.cell 0; have h1 := KB_12.out.cell 1; simp only [List.getElem?_toArray, List.getElem?_cons_zero, List.getElem?_cons_succ] at h0 h1; skip; clear ho hb) | (go_at_call 12; (with_reducible refine (SI.out w12 Av cv HO.out).mono ?_); rintro e w13 ⟨rfl, hbs⟩; have GA_13 := Lib.hid (GA_12.out.below hbs); have KA_13 := Lib.hid (KA_12.out.below' hbs); have HW_13 := Lib.hid (bb HW_12.out hbs); have GM_13 := Lib.hid (GM_12.out.below hbs); have KM_13 := Lib.hid (KM_12.out.below' hbs); have GB_13 := Lib.hid (GB_12.out.below hbs); have KB_13 := Lib.hid (KB_12.out.below' hbs); clear a0 a1 m0 m1 h0 h1; have a0 := KA_13.out.cell 0; have a1 := KA_13.out.cell 1; simp only [List.getElem?_toArray, List.getElem?_cons_zero, List.getElem?_cons_succ] at a0 a1; have m0 := KM_13.out.cell 0; have m1 := KM_13.out.cell 1; simp only [List.getElem?_toArray, List.getElem?_cons_zero, List.getElem?_cons_succ] at m0 m1; have h0 := KB_13.out.cell 0; have h1 := KB_13.out.cell 1; simp only [List.getElem?_toArray, List.getElem?_cons_zero, List.getElem?_cons_succ] at h0 h1; skip; clear hbs) | (go_at_call 11; (with_reducible refine (wellWell_any g1 _ GA_13.out IA.out).mono ?_); rintro e w14 ⟨rfl, hb⟩; rw [WA.out]; have GA_14 := Lib.hid (GA_13.out.below hb); have KA_14 := Lib.hid (KA_13.out.below' hb); have HW_14 := Lib.hid (bb HW_13.out hb); have GM_14 := Lib.hid (GM_13.out.below hb); have KM_14 := Lib.hid (KM_13.out.below' hb); have GB_14 := Lib.hid (GB_13.out.below hb); have KB_14 := Lib.hid (KB_13.out.below' hb); clear a0 a1 m0 m1 h0 h1; have a0 := KA_14.out.cell 0; have a1 := KA_14.out.cell 1; simp only [List.getElem?_toArray, List.getElem?_cons_zero, List.getElem?_cons_succ] at a0 a1; have m0 := KM_14.out.cell 0; have m1 := KM_14.out.cell 1; simp only [List.getElem?_toArray, List.getElem?_cons_zero, List.getElem?_cons_succ] at m0 m1; have h0 := KB_14.out.cell 0; have h1 := KB_14.out.cell 1; simp only [List.getElem?_toArray, List.getElem?_cons_zero, List.getElem?_cons_succ] at h0 h1; skip; clear hb) | (go_at_call 11; (with_reducible refine (wellWell_any g2 _ GB_14.out IB.out).mono ?_); rintro e w15 ⟨rfl, hb⟩; rw [WB.out]; have GA_15 := Lib.hid (GA_14.out.below hb); have KA_15 := Lib.hid (KA_14.out.below' hb); have HW_15 := Lib.hid (bb HW_14.out hb); have GM_15 := Lib.hid (GM_14.out.below hb); have KM_15 := Lib.hid (KM_14.out.below' hb); have GB_15 := Lib.hid (GB_14.out.below hb); have KB_15 := Lib.hid (KB_14.out.below' hb); clear a0 a1 m0 m1 h0 h1; have a0 := KA_15.out.cell 0; have a1 := KA_15.out.cell 1; simp only [List.getElem?_toArray, List.getElem?_cons_zero, List.getElem?_cons_succ] at a0 a1; have m0 := KM_15.out.cell 0; have m1 := KM_15.out.cell 1; simp only [List.getElem?_toArray, List.getElem?_cons_zero, List.getElem?_cons_succ] at m0 m1; have h0 := KB_15.out.cell 0; have h1 := KB_15.out.cell 1; simp only [List.getElem?_toArray, List.getElem?_cons_zero, List.getElem?_cons_succ] at h0 h1; obtain ⟨bn, on, en, _, k0, _⟩ := GM_15.out.nodes.nine (show 1 < m.nodes.length by rw [NM.out]; decide); rw [en, NM.out] at m1; rw [NA.out] at a1; rw [KD.out] at k0; have MV := Lib.hid (show m.val = .agg #[.slice m.RA m.rules.length m.rc, .slice (some ⟨bn, on, none⟩) 10 m.nc] from by unfold Gr.val; rw [en, NM.out]); skip; clear hb en) | (go_at_call 11; (with_reducible refine (show Calls Try.prog 11 #[.agg #[.slice m.RA m.rules.length m.rc, .slice (some ⟨bn, on, none⟩) 10 m.nc]] _ _ from MV.out ▸ wellWell_any m _ GM_15.out IM.out).mono ?_); rintro e w16 ⟨rfl, hb⟩; rw [WM.out]; have GA_16 := Lib.hid (GA_15.out.below hb); have KA_16 := Lib.hid (KA_15.out.below' hb); have HW_16 := Lib.hid (bb HW_15.out hb); have GM_16 := Lib.hid (GM_15.out.below hb); have KM_16 := Lib.hid (KM_15.out.below' hb); have GB_16 := Lib.hid (GB_15.out.below hb); have KB_16 := Lib.hid (KB_15.out.below' hb); skip; clear hb))
  go_ret
  exact ⟨rfl, HW_16.out⟩
end Go.Proofs.Ytjelgmdjmjnnfaa
namespace Go.Proofs.Ytjelgmdjmjnnfaa
open Go Go.RowKit Go.Maps
/-- What holds of a mended grammar. -/
structure Mnd (g X : Gr) : Prop where
  right : rightB X = true
  idles : idles X = []
  well : wellB X = true
  nodes : nodesOf X = nodesOf g
  nlen : X.nodes.length = g.nodes.length
  rlen : X.rules.length = g.rules.length
  same : sameGr X g = wellB g
  into : Gr.In X
theorem mnd_of {g h : Gr} (hR : Right g) (hi : Gr.In g) (t : GTwin g h) : Mnd g (h.opts (idles g)) := by
  have e : (h.opts (idles g)).kz = (mended g).kz := opts_kz t _
  refine ⟨by rw [← rightB_kz, e, rightB_kz]; exact rightB_true.2 (mended_right hR), by rw [← idles_kz, e, idles_kz]; exact mended_idles hR, by rw [← wellB_kz, e, wellB_kz]; exact mended_well hR, by rw [← nodesOf_kz, e, nodesOf_kz]; exact mended_nodes hR, ?_, ?_, ?_, in_opts (t.within hi)⟩
  · exact (opts_len _ _).trans t.len
  · show h.rules.length = _
    rw [t.rules]
  · rw [mended_same hR t]
    unfold wellB
    rw [rightB_true.2 hR]
    rfl
theorem nodes_ext {a b : List Nd} (h : a.length = b.length) (h2 : ∀ i, i < a.length → a.getD i Nd.zero = b.getD i Nd.zero) : a = b := by
  refine List.ext_getElem h fun i h1 h3 => ?_
  have := h2 i h1
  rw [List.getD_eq_getElem?_getD, List.getD_eq_getElem?_getD, List.getElem?_eq_getElem h1, List.getElem?_eq_getElem h3] at this
  exact this
/-- The Kinds of the first m are what they were. -/
noncomputable def undo (g h : Gr) (m : Nat) : List Nd := opts h.nodes ((idles g).filter (fun n => decide (m ≤ n)))
theorem undo_len (g h : Gr) (m : Nat) : (undo g h m).length = h.nodes.length := opts_len _ _
theorem undo_at (g h : Gr) (m j : Nat) (hj : j < h.nodes.length) : (undo g h m).getD j Nd.zero = if j ∈ idles g ∧ m ≤ j then (h.nodes.getD j Nd.zero).opt else h.nodes.getD j Nd.zero := by
  unfold undo
  rw [opts_at _ _ j hj]
  simp
theorem undo_zero (g h : Gr) : undo g h 0 = opts h.nodes (idles g) := by
  unfold undo
  congr 1
  simp
theorem undo_full (g h : Gr) : undo g h g.nodes.length = h.nodes := by
  unfold undo
  have : (idles g).filter (fun n => decide (g.nodes.length ≤ n)) = [] := by
    apply List.filter_eq_nil_iff.2
    intro n hn
    have := (idles_mem.1 hn).1
    simp
    omega
  rw [this]
  rfl
theorem undo_same {g h : Gr} {m : Nat} (hm : m ∉ idles g) : undo g h (m + 1) = undo g h m := by
  refine nodes_ext (by rw [undo_len, undo_len]) fun j hj => ?_
  rw [undo_len] at hj
  rw [undo_at _ _ _ _ hj, undo_at _ _ _ _ hj]
  by_cases e : j = m
  · subst e
    rw [if_neg (fun h => hm h.1), if_neg (fun h => hm h.1)]
  · have : (j ∈ idles g ∧ m + 1 ≤ j) ↔ (j ∈ idles g ∧ m ≤ j) := ⟨fun h => ⟨h.1, by omega⟩, fun h => ⟨h.1, by omega⟩⟩
    simp only [this]
theorem undo_step {g h : Gr} (t : GTwin g h) {m : Nat} (hl : m < g.nodes.length) : kindAt (undo g h m) m (g.nodes.getD m Nd.zero).kind = undo g h (m + 1) := by
  have hk : (h.nodes.getD m Nd.zero).kind = (g.nodes.getD m Nd.zero).kind := by
    obtain ⟨A, c, e⟩ := t.node m hl
    rw [e]
  have hlm : m < h.nodes.length := by rw [t.len]; exact hl
  refine nodes_ext (by rw [show (kindAt (undo g h m) m (g.nodes.getD m Nd.zero).kind).length = (undo g h m).length by simp [kindAt], undo_len, undo_len]) fun j hj => ?_
  rw [show (kindAt (undo g h m) m (g.nodes.getD m Nd.zero).kind).length = (undo g h m).length by simp [kindAt], undo_len] at hj
  by_cases e : j = m
  · subst e
    rw [undo_at _ _ _ _ hj, if_neg (by omega)]
    unfold kindAt
    rw [List.getD_eq_getElem?_getD, List.getElem?_set_self (by rw [undo_len]; exact hj), Option.getD_some, undo_at _ _ _ _ hj, ← hk]
    by_cases hh : j ∈ idles g ∧ j ≤ j
    · rw [if_pos hh]; rfl
    · rw [if_neg hh]
  · unfold kindAt
    rw [List.getD_eq_getElem?_getD, List.getElem?_set_ne (fun h => e h.symm), ← List.getD_eq_getElem?_getD, undo_at _ _ _ _ hj, undo_at _ _ _ _ hj]
    have : (j ∈ idles g ∧ m + 1 ≤ j) ↔ (j ∈ idles g ∧ m ≤ j) := ⟨fun h => ⟨h.1, by omega⟩, fun h => ⟨h.1, by omega⟩⟩
    simp only [this]
theorem idleB_of {g : Gr} (hR : Right g) {m : Nat} (hm : m < g.nodes.length) : idleB g m = decide (m ∈ idles g) := by
  unfold idleB
  rw [rightB_true.2 hR, Int.toNat_natCast, Bool.eq_iff_iff]
  simp [idles_mem, hm]
end Go.Proofs.Ytjelgmdjmjnnfaa

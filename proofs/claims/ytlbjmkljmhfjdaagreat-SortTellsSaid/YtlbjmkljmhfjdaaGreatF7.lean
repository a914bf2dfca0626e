/- Behind an And of an Empty each rule calls whom it did. -/
import Derived.Test.YtlbjmkljmhfjdaaGreatF6
import Derived.Test.YtlbjmkljmhfjdaaGreatB8
import Derived.Deep.CutRange
import Derived.Test.YtlbjmkljmhfjdaaGreatC7
import Derived.Maps.AppendAt
import Derived.Test.YtlbjmkljmhfjdaaGreatE9
import Derived.Test.YtlbjmkljmhfjdaaGreatF1
import Derived.Test.YtlbjmkljmhfjdaaGreatC2
import Derived.Test.YtlbjmkljmhfjdaaGreatE3
set_option linter.unusedSimpArgs false
set_option linter.unusedVariables false
namespace Go.Proofs.YtlbjmkljmhfjdaaGreat
open Go Go.RowKit Go.Maps
end Go.Proofs.YtlbjmkljmhfjdaaGreat
namespace Go.Proofs.YtlbjmkljmhfjdaaGreat
open Go Go.RowKit
end Go.Proofs.YtlbjmkljmhfjdaaGreat
namespace Go.Proofs.YtlbjmkljmhfjdaaGreat
open Go Go.RowKit Go.Maps
end Go.Proofs.YtlbjmkljmhfjdaaGreat
namespace Go.Proofs.YtlbjmkljmhfjdaaGreat
open Go Go.RowKit Go.Maps
end Go.Proofs.YtlbjmkljmhfjdaaGreat
namespace Go.Proofs.YtlbjmkljmhfjdaaGreat
open Go Go.RowKit Go.Maps
end Go.Proofs.YtlbjmkljmhfjdaaGreat
namespace Go.Proofs.YtlbjmkljmhfjdaaGreat
open Go Go.RowKit
theorem okI_kz (g : Gr) (i : Int) : okI g.kz i ↔ okI g i := by unfold okI; rw [rightB_kz]; exact Iff.rfl
theorem allOf_kz (g : Gr) : allOf g.kz = allOf g := by unfold allOf; rw [rightB_kz, graphOf_kz]; rfl
theorem withOf_kz (g : Gr) (i : Int) : withOf g.kz i = withOf g i := by
  by_cases h : okI g i ∧ sortN (graphOf g) i.toNat ≠ 0
  · rw [withOf_yes h.1 h.2, withOf_yes ((okI_kz g i).2 h.1) (by rw [graphOf_kz]; exact h.2), graphOf_kz]
  · rw [withOf_no h, withOf_no fun h2 => h ⟨(okI_kz g i).1 h2.1, by rw [← graphOf_kz]; exact h2.2⟩]
theorem freeB_kz (g : Gr) : freeB g.kz = freeB g := by unfold freeB; rw [rightB_kz, graphOf_kz]; rfl
theorem ordOf_kz (g : Gr) : ordOf g.kz = ordOf g := by unfold ordOf; rw [rightB_kz, graphOf_kz]
theorem sx_rb : rightB sx0 = true := rightB_true.2 sx_right
theorem sx_all : allOf sx0 = [1, 2, 2, 0] := by
  unfold allOf
  rw [sx_rb, show graphOf sx0 = sxG from sx_graph, show sx0.rules.length = 4 from rfl, sx_sorts]
  rfl
theorem sx_at (i : Nat) (hi : i < 4) : sortN sxG i = [1, 2, 2, 0].getD i 0 := by
  have h := fun k => congrArg (fun l => List.getD l k 9) sx_sorts
  match i, hi with
  | 0, _ => exact h 0
  | 1, _ => exact h 1
  | 2, _ => exact h 2
  | 3, _ => exact h 3
theorem sx_ord : ordOf sx0 = [3, 1, 2, 0] := by
  unfold ordOf
  rw [sx_rb, show graphOf sx0 = sxG from sx_graph, sxG_parts]
  rfl
theorem sx_free : freeB sx0 = false := by
  unfold freeB
  rw [sx_rb, show graphOf sx0 = sxG from sx_graph]
  simp only [Bool.true_and, decide_eq_false_iff_not]
  intro h
  have := h 0 (by decide)
  rw [sx_at 0 (by decide)] at this
  exact absurd this (by decide)
theorem sx_with : withOf sx0 1 = [1, 2] := by
  rw [withOf_yes ⟨sx_rb, by decide, by decide⟩ (by
    rw [show graphOf sx0 = sxG from sx_graph, show (1 : Int).toNat = 1 from rfl, sx_at 1 (by decide)]; decide)]
  rw [show graphOf sx0 = sxG from sx_graph, show (1 : Int).toNat = 1 from rfl, sxG_pt 1 (by decide)]
  decide
def sName (s : Int) : ByteArray := if s = 0 then ⟨#[110, 111, 110, 101]⟩ else if s = 1 then ⟨#[100, 105, 114, 101, 99, 116]⟩ else if s = 2 then ⟨#[105, 110, 100, 105, 114, 101, 99, 116]⟩ else if s = 3 then ⟨#[98, 111, 116, 104]⟩ else ⟨#[63]⟩
set_option maxRecDepth 100000 in
set_option maxHeartbeats 2000000 in
theorem sString_any (s : Int) (w : World) : Calls Tryz.prog 62 #[.int .i64 s] w fun e w' => e = .returned (.string (sName s)) ∧ Below w.heap.size w w' := by
  go_enter Tryz.func62, Tryz.ntmps62
  go_upto_region 2 with (refine wpList_store_whole rfl 146 (.tmp 3) (.tmp 4) rfl w.heap.size #[.string ⟨#[110, 111, 110, 101]⟩, .string ⟨#[100, 105, 114, 101, 99, 116]⟩, .string ⟨#[105, 110, 100, 105, 114, 101, 99, 116]⟩, .string ⟨#[98, 111, 116, 104]⟩] rfl rfl 146 _ (Blk.new _ _ _) (by kernel_rfl) (by rfl) (by simp [Value.oneCell']) ?_; intro w2 hk2 hg2; have KA := Lib.hid hk2; have HG2 := Lib.hid (grown_below (B1 w _) (by simp) hg2 (fun k e => by cases e; exact Nat.le_refl _)); clear hk2 hg2)
  by_cases h0 : s < 0
  · go_wp2_with fail
    go_ret
    exact ⟨by unfold sName; rw [if_neg (by omega), if_neg (by omega), if_neg (by omega), if_neg (by omega)]; rfl, HG2.out⟩
  · by_cases h4 : 4 ≤ s
    · go_wp2_with fail
      go_ret
      exact ⟨by unfold sName; rw [if_neg (by omega), if_neg (by omega), if_neg (by omega), if_neg (by omega)]; rfl, HG2.out⟩
    · obtain rfl | rfl | rfl | rfl : s = 0 ∨ s = 1 ∨ s = 2 ∨ s = 3 := by omega
      · have c0 := KA.out.cell 0
        simp only [List.getElem?_toArray, List.getElem?_cons_zero, List.getElem?_cons_succ] at c0
        go_wp2_with fail
        go_ret
        exact ⟨rfl, HG2.out⟩
      · have c0 := KA.out.cell 1
        simp only [List.getElem?_toArray, List.getElem?_cons_zero, List.getElem?_cons_succ] at c0
        go_wp2_with fail
        go_ret
        exact ⟨rfl, HG2.out⟩
      · have c0 := KA.out.cell 2
        simp only [List.getElem?_toArray, List.getElem?_cons_zero, List.getElem?_cons_succ] at c0
        go_wp2_with fail
        go_ret
        exact ⟨rfl, HG2.out⟩
      · have c0 := KA.out.cell 3
        simp only [List.getElem?_toArray, List.getElem?_cons_zero, List.getElem?_cons_succ] at c0
        go_wp2_with fail
        go_ret
        exact ⟨rfl, HG2.out⟩
/-- What the example stands on. -/
structure Awk4 (w W : World) (g : Gr) (kb : Nat) (A : Option Addr) : Prop where
  ka : Blk W kb #[.slice g.RA g.rules.length g.rc, .slice g.NA g.nodes.length g.nc] 25
  gr : Gr.At W g
  x0 : Lies W A (ints [1, 2, 2, 0])
  low : Below w.heap.size w W
theorem Awk4.below {w W W' : World} {g : Gr} {kb : Nat} {A : Option Addr} (h : Awk4 w W g kb A) (hb : Below W.heap.size W W') : Awk4 w W' g kb A :=
  ⟨h.ka.below' hb, h.gr.below hb, h.x0.below hb, h.low.trans (hb.mono h.low.size)⟩
theorem ints_yes (A B : Option Addr) (c d n : Nat) (a : List Int) (ha : a.length = n) (hn : n ≤ 1000) (w : World) (hA : Lies w A (ints a)) (hB : Lies w B (ints a)) :
    Calls Tryz.prog 58 #[.slice A n c, .slice B n d] w fun e w' => e = .returned (.bool true) ∧ Below w.heap.size w w' := by
  subst ha
  refine (ints_same A B c d a a (by omega) (by omega) w hA hB).mono ?_
  rintro e w' ⟨rfl, n, rfl⟩
  exact ⟨by rw [decide_eq_true rfl], bdrew (Below.refl _ _)⟩
set_option maxRecDepth 100000 in
set_option maxHeartbeats 8000000 in
theorem sawake_any (w : World) : Calls Tryz.prog 17 #[] w fun e w' => e = .returned (.bool true) ∧ Below w.heap.size w w' := by
  go_enter Tryz.func17, Tryz.ntmps17
  go_upto_region 2 with (first | (go_at_call 56; (refine (sexample_any _).mono ?_); rintro e w1 ⟨g, rfl, h1, h2, h3, hb⟩; have GA := Lib.hid h1; have EA := Lib.hid h2; have CP := Lib.hid h3; have HWa := Lib.hid (show Below w.heap.size w w1 from hb); clear h1 h2 h3 hb) | (refine wpList_store_whole rfl 25 (.tmp 1) (.tmp 3) rfl w1.heap.size #[.slice g.RA g.rules.length g.rc, .slice g.NA g.nodes.length g.nc] rfl rfl 25 _ (Blk.new _ _ _) (by kernel_rfl) (by rfl) (by simp [Value.oneCell']) ?_; intro w2 hk2 hg2; have KA := Lib.hid hk2; have HG2 := Lib.hid (grown_below (B1 w1 _) (by simp) hg2 (fun k e => by cases e; exact Nat.le_refl _)); clear hk2 hg2))
  have HW2 := Lib.hid (show Below w.heap.size w w2 from HWa.out.trans (HG2.out.mono HWa.out.size))
  have GA2 := Lib.hid (GA.out.below HG2.out)
  obtain ⟨kb, ekb⟩ : ∃ u, u = w1.heap.size := ⟨_, rfl⟩
  rw [← ekb] at KA ⊢
  have KA2 := Lib.hid (show Blk w2 kb #[.slice g.RA g.rules.length g.rc, .slice g.NA g.nodes.length g.nc] 25 from KA.out)
  have hin : Gr.In g := in_of EA.out sx_in
  have AL := Lib.hid (fun (W : World) (h : Gr.At W g) => show Calls Tryz.prog 57 #[.agg #[.slice g.RA g.rules.length g.rc, .slice g.NA g.nodes.length g.nc]] W (fun e w' => ∃ A c, e = .returned (.slice A 4 c) ∧ Lies w' A (ints [1, 2, 2, 0]) ∧ Below W.heap.size W w') from by
    refine (sAll_any g W h hin CP.out).mono ?_
    rintro e w' ⟨⟨v, rfl, ho⟩, hb⟩
    rw [← allOf_kz, EA.out, sx_all] at ho
    obtain ⟨A, c, rfl, _, _⟩ := own_slice ho
    exact ⟨A, c, rfl, own_lies1 ho, hb⟩)
  have WT := Lib.hid (fun (W : World) (h : Gr.At W g) => (sWithF_any g 1 W h hin CP.out).mono (fun e w' h => row_told h (M := [1, 2]) (by rw [← withOf_kz, EA.out]; exact sx_with)))
  have OD := Lib.hid (fun (W : World) (h : Gr.At W g) => (sOrder_any g W h hin CP.out).mono (fun e w' h => row_told h (M := [3, 1, 2, 0]) (by rw [← ordOf_kz, EA.out]; exact sx_ord)))
  have FR := Lib.hid (fun (W : World) (h : Gr.At W g) => by have := sFree_any g W h hin CP.out; rw [← freeB_kz, EA.out, sx_free] at this; exact this)
  have ST := Lib.hid (fun (W : World) => sString_any 1 W)
  have q0 := KA2.out.cell 0
  have q1 := KA2.out.cell 1
  simp only [List.getElem?_toArray, List.getElem?_cons_zero, List.getElem?_cons_succ] at q0 q1
  have A2 := Lib.hid (AL.out w2 GA2.out)
  clear hin ekb KA GA HWa HG2 AL
  go_upto_region 3 with (go_at_call 57; (with_reducible refine A2.out.mono ?_); rintro e v0 ⟨A, c, rfl, hl, hb⟩; have LA := Lib.hid hl; have HV0 := Lib.hid hb; clear hl hb)
  have K0 := Lib.hid (show Awk4 w v0 g kb A from ⟨KA2.out.below' HV0.out, GA2.out.below HV0.out, LA.out, HW2.out.trans (HV0.out.mono HW2.out.size)⟩)
  clear q0 q1 A2 LA HV0 KA2 HW2 GA2
  obtain ⟨b1, o1, rfl, hb1, hc⟩ := K0.out.x0 (by decide)
  have d0 := hc 0 (by decide); have d1 := hc 1 (by decide); have d2 := hc 2 (by decide); have d3 := hc 3 (by decide)
  simp only [ints, List.map_cons, List.map_nil, List.getElem?_cons_zero, List.getElem?_cons_succ, Nat.add_zero] at d0 d1 d2 d3
  have a0 := K0.out.ka.cell 0; have a1 := K0.out.ka.cell 1
  simp only [List.getElem?_toArray, List.getElem?_cons_zero, List.getElem?_cons_succ] at a0 a1
  have CW := Lib.hid (WT.out v0 K0.out.gr)
  clear hc WT
  go_wp2_with fail
  refine CW.out.mono ?_
  rintro e v1 ⟨A1, c1, rfl, hl1, hb⟩
  have K1 := Lib.hid (K0.out.below hb)
  have L1 := Lib.hid hl1
  clear hl1 hb CW a0 a1 d0 d1 d2 d3
  have a0 := K1.out.ka.cell 0; have a1 := K1.out.ka.cell 1
  simp only [List.getElem?_toArray, List.getElem?_cons_zero, List.getElem?_cons_succ] at a0 a1
  have C := Lib.hid (ints_yes A1 (some ⟨v1.heap.size, 0, none⟩) c1 2 2 [1, 2] rfl (by decide) (v1.alloc (.cells #[.int .i64 1, .int .i64 2] 3)) (L1.out.below (B1 _ _)) (lies_two' (Blk.new _ _ _)))
  go_wp2_with fail
  refine C.out.mono ?_
  rintro e v2 ⟨rfl, hb⟩
  have K2 := Lib.hid ((K1.out.below (B1 v1 _)).below hb)
  clear hb C a0 a1 L1
  have a0 := K2.out.ka.cell 0; have a1 := K2.out.ka.cell 1
  simp only [List.getElem?_toArray, List.getElem?_cons_zero, List.getElem?_cons_succ] at a0 a1
  have CO := Lib.hid (OD.out v2 K2.out.gr)
  go_wp2_with fail
  refine CO.out.mono ?_
  rintro e v3 ⟨A3, c3, rfl, hl3, hb⟩
  have K3 := Lib.hid (K2.out.below hb)
  have L3 := Lib.hid hl3
  clear hl3 hb CO a0 a1
  have a0 := K3.out.ka.cell 0; have a1 := K3.out.ka.cell 1
  simp only [List.getElem?_toArray, List.getElem?_cons_zero, List.getElem?_cons_succ] at a0 a1
  have C := Lib.hid (ints_yes A3 (some ⟨v3.heap.size, 0, none⟩) c3 4 4 [3, 1, 2, 0] rfl (by decide) (v3.alloc (.cells #[.int .i64 3, .int .i64 1, .int .i64 2, .int .i64 0] 3)) (L3.out.below (B1 _ _)) (lies_four (Blk.new _ _ _)))
  go_wp2_with fail
  refine C.out.mono ?_
  rintro e v4 ⟨rfl, hb⟩
  have K4 := Lib.hid ((K3.out.below (B1 v3 _)).below hb)
  clear hb C a0 a1 L3
  have a0 := K4.out.ka.cell 0; have a1 := K4.out.ka.cell 1
  simp only [List.getElem?_toArray, List.getElem?_cons_zero, List.getElem?_cons_succ] at a0 a1
  have CF := Lib.hid (FR.out v4 K4.out.gr)
  go_wp2_with fail
  refine CF.out.mono ?_
  rintro e v5 ⟨rfl, hb⟩
  have K5 := Lib.hid (K4.out.below hb)
  clear hb CF a0 a1
  have CS := Lib.hid (ST.out v5)
  go_wp2_with fail
  refine CS.out.mono ?_
  rintro e v6 ⟨rfl, hb⟩
  have K6 := Lib.hid (K5.out.below hb)
  clear hb CS
  rw [show sName 1 = ⟨#[100, 105, 114, 101, 99, 116]⟩ from rfl]
  go_wp2_with fail
  go_ret
  exact ⟨rfl, K6.out.low⟩
end Go.Proofs.YtlbjmkljmhfjdaaGreat
namespace Go.Proofs.YtlbjmkljmhfjdaaGreat
open Go Go.Proofs Go.RowKit Go.Lib Go.Maps
def pk (x n : Int) : Int := if n < 1 then 0 else x % n
theorem pk_any (x : Int) (hx : -9223372036854775808 ≤ x ∧ x < 9223372036854775808) (n : Nat) (hn : n ≤ 1000000) (w : World) :
    Calls Tryz.prog 11 #[.int .i64 x, .int .i64 n] w fun e w' => e = .returned (.int .i64 (pk x n)) ∧ Below w.heap.size w w' := by
  by_cases h : 1 ≤ n
  · refine (pick_any x n hx (by omega) w).mono ?_
    rintro e w' ⟨rfl, rfl⟩
    exact ⟨by unfold pk; rw [if_neg (by omega)], Below.refl _ _⟩
  · obtain rfl : n = 0 := by omega
    have e : pk x ((0 : Nat) : Int) = 0 := rfl
    rw [e]
    go_enter Tryz.func11, Tryz.ntmps11
    go_wp2_with fail
    go_ret
    exact ⟨rfl, Below.refl _ _⟩
end Go.Proofs.YtlbjmkljmhfjdaaGreat
namespace Go.Proofs.YtlbjmkljmhfjdaaGreat
open Go Go.Proofs Go.RowKit Go.Lib Go.Maps
set_option maxRecDepth 100000 in
set_option maxHeartbeats 8000000 in
theorem sortTells_law (g : Gr) (n : Int) (hn : -9223372036854775808 ≤ n ∧ n < 9223372036854775808) (w : World) (hg : Gr.At w g) (hin : Gr.In g) :
    Calls Tryz.prog 6 #[g.val, .int .i64 n] w fun e w' => e = .returned (.bool true) ∧ Below w.heap.size w w' := by
  have SZ := Lib.hid (fun (W : World) (b : Below w.heap.size w W) => size14_all g W (hg.below b))
  have AWK := Lib.hid (fun W => sawake_any W)
  have TL := Lib.hid (fun (W : World) (b : Below w.heap.size w W) (a : Int) h1 h2 h3 => stells_part g a W (hg.below b) hin h1 h2 h3)
  have PN := Lib.hid (fun m hm W => pk_any n hn m hm W)
  have HN := Lib.hid hn
  clear hg hin hn
  show Calls Tryz.prog 6 #[.agg #[.slice g.RA g.rules.length g.rc, .slice g.NA g.nodes.length g.nc], .int .i64 n] w _
  go_enter Tryz.func6, Tryz.ntmps6
  go_wp2_with (first | (go_at_call 16; (with_reducible refine (SZ.out _ (B1 _ _)).mono ?_); rintro e w1 ⟨⟨z, rfl, hz⟩, hb⟩; have HZ := Lib.hid hz; have H1 := Lib.hid (bb (B1 w _) hb); have KB := Lib.hid ((Blk.new w #[.slice g.RA g.rules.length g.rc, .slice g.NA g.nodes.length g.nc] 25).below' hb); clear hb hz) | (go_at_call 17; (with_reducible refine (AWK.out _).mono ?_); rintro e w2 ⟨rfl, hb⟩; have H2 := Lib.hid (bb H1.out hb); clear hb))
  · go_ret
    exact ⟨rfl, H2.out⟩
  · have hz3 : z ≤ 300 := by assumption
    have HZ2 := Lib.hid (HZ.out hz3)
    have g0 := KB.out.cell 0
    have g1 := KB.out.cell 1
    simp only [List.getElem?_toArray, List.getElem?_cons_zero, List.getElem?_cons_succ] at g0 g1
    have f0 := fun (e : Ext w1) => Ext.cell g0 e
    have f1 := fun (e : Ext w1) => Ext.cell g1 e
    have hr : g.rules.length ≤ 1000 := by have := HZ2.out.1; omega
    have hnl : g.nodes.length ≤ 1000 := by have := HZ2.out.1; omega
    have hk : ∀ x ∈ g.nodes, x.kids.length ≤ 100000 := fun x hx => by have := HZ2.out.2 x hx; omega
    have P1 := Lib.hid (fun W => PN.out g.rules.length (by omega) W)
    have T1 := Lib.hid (fun (e : Ext w1) => TL.out e.val (bb H1.out e.grown) n (by omega) (by omega) hk)
    have T2 := Lib.hid (fun (e : Ext w1) => TL.out e.val (bb H1.out e.grown) (pk n g.rules.length) (by omega) (by omega) hk)
    generalize pk n g.rules.length = pn at P1 T2
    clear g0 g1 hr hnl hk
    go_wp2_with fail
    refine wp_region_ext (by kernel_rfl) (by kernel_rfl) ?_
    repeat (first | go_big_quiet_step ((first | (go_at_call 17; with_reducible exact Calls.ext_of (AWK.out _)) | (go_at_call 11; with_reducible exact Calls.ext_of (P1.out _)) | (go_at_call 18; with_reducible exact Calls.ext_of (T1.out _)) | (go_at_call 18; with_reducible exact Calls.ext_of (T2.out _)))) | quiet_step ((first | (go_at_call 17; with_reducible exact Calls.ext_of (AWK.out _)) | (go_at_call 11; with_reducible exact Calls.ext_of (P1.out _)) | (go_at_call 18; with_reducible exact Calls.ext_of (T1.out _)) | (go_at_call 18; with_reducible exact Calls.ext_of (T2.out _)))))
    refine wpQuiet_nil ?_
    intro w13 hw'
    obtain ⟨⟨_, hb13⟩, rfl⟩ := hw'
    have H13 := Lib.hid (bb H1.out hb13)
    clear hb13 f0 f1
    go_wp2_with fail
    go_ret
    exact ⟨rfl, H13.out⟩
end Go.Proofs.YtlbjmkljmhfjdaaGreat

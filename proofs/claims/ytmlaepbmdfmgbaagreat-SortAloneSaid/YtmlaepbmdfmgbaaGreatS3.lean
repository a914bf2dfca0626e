/- The law's example, plainly. Nothing here walks the program. -/
import Derived.Test.YtmlaepbmdfmgbaaGreatL6
import Derived.Test.YtmlaepbmdfmgbaaGreatK6
import Derived.Test.YtmlaepbmdfmgbaaGreatS2
import Derived.KernelRfl
import Derived.Test.YtmlaepbmdfmgbaaGreatB7
import Derived.Deep.CutRange
import Derived.Test.YtmlaepbmdfmgbaaGreatL5
import Derived.Test.YtmlaepbmdfmgbaaGreatN2
import Derived.Test.YtmlaepbmdfmgbaaGreatL7
set_option linter.unusedSimpArgs false
set_option linter.unusedVariables false
namespace Go.Proofs.YtmlaepbmdfmgbaaGreat
open Go Go.RowKit
def sxBl : List (List Nd) := [ofL 7 [ofL 6 [[callN 0 0], [wordN ⟨#[97]⟩]], [callN 1 0]], [callN 2 0], ofL 7 [ofL 6 [[callN 1 0], [wordN ⟨#[99]⟩]], [callN 3 0]], ofL 6 [[wordN ⟨#[100]⟩], [callN 3 0]]]
def sxN : List Nd := [⟨7, 0, 0, 0, 0, ⟨#[]⟩, 0, 0, none, 0, [1, 4]⟩, ⟨6, 0, 0, 0, 0, ⟨#[]⟩, 0, 0, none, 0, [2, 3]⟩, ⟨5, 0, 0, 0, 0, ⟨#[]⟩, 0, 0, none, 0, []⟩, ⟨4, 0, 0, 0, 0, ⟨#[97]⟩, 0, 0, none, 0, []⟩, ⟨5, 0, 0, 0, 0, ⟨#[]⟩, 1, 0, none, 0, []⟩, ⟨5, 0, 0, 0, 0, ⟨#[]⟩, 2, 0, none, 0, []⟩, ⟨7, 0, 0, 0, 0, ⟨#[]⟩, 0, 0, none, 0, [7, 10]⟩, ⟨6, 0, 0, 0, 0, ⟨#[]⟩, 0, 0, none, 0, [8, 9]⟩, ⟨5, 0, 0, 0, 0, ⟨#[]⟩, 1, 0, none, 0, []⟩, ⟨4, 0, 0, 0, 0, ⟨#[99]⟩, 0, 0, none, 0, []⟩, ⟨5, 0, 0, 0, 0, ⟨#[]⟩, 3, 0, none, 0, []⟩, ⟨6, 0, 0, 0, 0, ⟨#[]⟩, 0, 0, none, 0, [12, 13]⟩, ⟨4, 0, 0, 0, 0, ⟨#[100]⟩, 0, 0, none, 0, []⟩, ⟨5, 0, 0, 0, 0, ⟨#[]⟩, 3, 0, none, 0, []⟩]
def sxR : List Rl := [⟨⟨#[65]⟩, 0⟩, ⟨⟨#[66]⟩, 5⟩, ⟨⟨#[67]⟩, 6⟩, ⟨⟨#[68]⟩, 11⟩]
theorem sx_gram : gramL sxBl = (sxR, sxN) := by rfl
def sx0 : Gr := ⟨none, 0, sxR, none, 0, sxN⟩
def sxM : Nat → Meas
  | 0 => (5, 3) | 1 => (3, 2) | 6 => (5, 3) | 7 => (3, 2) | 11 => (3, 2) | _ => (1, 1)
theorem sx_right : Right sx0 where
  rules := by decide
  nodes := by decide
  named := by
    intro i hi
    have : i = 0 ∨ i = 1 ∨ i = 2 ∨ i = 3 := by simp [sx0, sxR] at hi; omega
    rcases this with rfl | rfl | rfl | rfl
    all_goals exact ⟨by simp [sx0, sxR, nameOk, byteOk, letter], by simp [sx0, sxR, ruleAt, ruleFrom]⟩
  all := by
    intro i hi
    have : i = 0 ∨ i = 1 ∨ i = 2 ∨ i = 3 ∨ i = 4 ∨ i = 5 ∨ i = 6 ∨ i = 7 ∨ i = 8 ∨ i = 9 ∨ i = 10 ∨ i = 11 ∨ i = 12 ∨ i = 13 := by simp [sx0, sxN] at hi; omega
    rw [nodeOk_iff]
    rcases this with rfl | rfl | rfl | rfl | rfl | rfl | rfl | rfl | rfl | rfl | rfl | rfl | rfl | rfl
    all_goals simp [sx0, sxN, sxR, NodeIs, ByteArray.toList_eq, ByteArray.size]
  pre := ⟨sxM, fun m _ hm => by
    have : m = 0 ∨ m = 1 ∨ m = 2 ∨ m = 3 ∨ m = 4 ∨ m = 5 ∨ m = 6 ∨ m = 7 ∨ m = 8 ∨ m = 9 ∨ m = 10 ∨ m = 11 ∨ m = 12 ∨ m = 13 := by simp [sx0, sxN] at hm; omega
    rcases this with rfl | rfl | rfl | rfl | rfl | rfl | rfl | rfl | rfl | rfl | rfl | rfl | rfl | rfl
    all_goals exact ⟨by decide, by decide, by decide, by rfl⟩, by rfl⟩
theorem sx_graph : graphOf sx0 = [[0, 1], [2], [1, 3], []] := by kernel_rfl
theorem sx_in : Gr.In sx0 := by
  intro x hx
  simp only [sx0, sxN, List.mem_cons, List.not_mem_nil, or_false] at hx
  rcases hx with rfl | rfl | rfl | rfl | rfl | rfl | rfl | rfl | rfl | rfl | rfl | rfl | rfl | rfl
  all_goals exact ⟨by decide, by decide⟩
def sxG : List (List Nat) := [[0, 1], [2], [1, 3], []]
theorem sxG_right : RG sxG := by
  refine ⟨by decide, fun i => ?_, fun i b hb => ?_⟩
  · match i with
    | 0 | 1 | 2 | 3 => simp [sxG, List.getD]
    | i + 4 => simp [sxG, List.getD]
  · match i with
    | 0 | 1 | 2 | 3 => simp [sxG, List.getD] at hb ⊢; try omega
    | i + 4 => simp [sxG, List.getD] at hb
theorem sxG_is : IsR (adjG sxG) 4 (reB (adjG sxG)) := reB_is fun a ha => by
  match a, ha with
  | 0, _ => decide
  | 1, _ => decide
  | 2, _ => decide
  | 3, _ => decide
theorem sxG_parts : pG sxG = [[3], [1, 2], [0]] := by
  have e : sccs (rG sxG) sxG.length = sccs (reB (adjG sxG)) 4 := sccs_congr (rG_is sxG 4) sxG_is
  have e2 : sccs (reB (adjG sxG)) 4 = [[0], [1, 2], [3]] := by decide
  unfold pG partsOf
  rw [e, e2]
  decide
theorem sxG_pt (i : Nat) (hi : i < 4) : ptG sxG i = (List.range 4).filter fun b => reB (adjG sxG) i b && reB (adjG sxG) b i := by
  unfold ptG scc
  refine List.filter_congr fun b hb => ?_
  have hb : b < 4 := List.mem_range.1 hb
  have e : ∀ a c, a < 4 → c < 4 → rG sxG a c = reB (adjG sxG) a c := fun a c ha hc => by rw [Bool.eq_iff_iff, rG_is sxG 4 a c ha hc, sxG_is a c ha hc]
  rw [e i b hi hb, e b i hb hi]
theorem sx_sorts : (List.range 4).map (sortN sxG) = [1, 2, 2, 0] := by
  have h : ∀ i, i < 4 → sortN sxG i = (match decide ((i : Int) ∈ nums (adjG sxG i)), decide (1 < ((List.range 4).filter fun b => reB (adjG sxG) i b && reB (adjG sxG) b i).length) with | false, false => 0 | true, false => 1 | false, true => 2 | true, true => 3) := fun i hi => by
    unfold sortN selfB othB
    rw [sxG_pt i hi]
    rfl
  have e : (List.range 4).map (sortN sxG) = [sortN sxG 0, sortN sxG 1, sortN sxG 2, sortN sxG 3] := rfl
  rw [e, h 0 (by decide), h 1 (by decide), h 2 (by decide), h 3 (by decide)]
  decide
end Go.Proofs.YtmlaepbmdfmgbaaGreat
namespace Go.Proofs.YtmlaepbmdfmgbaaGreat
open Go Go.RowKit
set_option maxRecDepth 100000 in
set_option maxHeartbeats 8000000 in
theorem sexample_any (w : World) : Calls Tryz.prog 27 #[] w fun e w' => ∃ g : Gr, e = .returned g.val ∧ Gr.At w' g ∧ g.kz = sx0 ∧ Capd g ∧ Below w.heap.size w w' := by
  go_enter Tryz.func27, Tryz.ntmps27
  go_upto_region 1 with fail
  obtain ⟨w0, ew0⟩ : ∃ u, u = w.alloc (.cells #[.slice none 0 0, .slice none 0 0] 31) := ⟨_, rfl⟩
  have HW0 := Lib.hid (show Below w.heap.size w w0 from by rw [ew0]; exact B1 _ _)
  have R_0 := Lib.hid (show Blk w0 w.heap.size #[.slice none 0 0, .slice none 0 0] 31 from by rw [ew0]; exact Blk.new _ _ _)
  rw [← ew0]
  clear ew0
  go_wp2_with fail
  refine (kcall_any 0 0 _).mono ?_
  rintro e w1 ⟨Aa, ca, La, rfl, sa, ba, na, hb⟩
  have Sa := Lib.hid sa
  have Na := Lib.hid na
  have Ba_1 := Lib.hid ba
  have HW1 := Lib.hid (HW0.out.trans (hb.mono HW0.out.size))
  have R_1 := Lib.hid (R_0.out.below' hb)
  clear sa ba na hb
  go_wp2_with fail
  refine (word_any ⟨#[97]⟩ (by decide) _).mono ?_
  rintro e w2 ⟨Ab, cb, Lb, rfl, sb, bb, nb, hb⟩
  have Sb := Lib.hid sb
  have Nb := Lib.hid nb
  have Bb_2 := Lib.hid bb
  have Ba_2 := Lib.hid (Ba_1.out.below hb)
  have HW2 := Lib.hid (HW1.out.trans (hb.mono HW1.out.size))
  have R_2 := Lib.hid (R_1.out.below' hb)
  clear sb bb nb hb
  go_wp2_with fail
  refine (chain_any Aa ca La Ab cb Lb 0 _ (Ba_2.out.mono (K' := 0) (by decide)) (Bb_2.out.mono (K' := 0) (by decide)) Na.out Nb.out (by have h := congrArg List.length Sa.out; simp only [List.length_map] at h; rw [h]; decide) (by have h := congrArg List.length Sb.out; simp only [List.length_map] at h; rw [h]; decide) (by decide)).mono ?_
  rintro e w3 ⟨Ac, cc, Lc, rfl, sc, bc, nc, hb⟩
  rw [Sa.out] at sc
  rw [Sb.out] at sc
  have Sc := Lib.hid sc
  have Nc := Lib.hid nc
  have Bc_3 := Lib.hid bc
  have Ba_3 := Lib.hid (Ba_2.out.below hb)
  have Bb_3 := Lib.hid (Bb_2.out.below hb)
  have HW3 := Lib.hid (HW2.out.trans (hb.mono HW2.out.size))
  have R_3 := Lib.hid (R_2.out.below' hb)
  clear sc bc nc hb
  go_wp2_with fail
  refine (kcall_any 1 0 _).mono ?_
  rintro e w4 ⟨Ad, cd, Ld, rfl, sd, bd, nd, hb⟩
  have Sd := Lib.hid sd
  have Nd := Lib.hid nd
  have Bd_4 := Lib.hid bd
  have Ba_4 := Lib.hid (Ba_3.out.below hb)
  have Bb_4 := Lib.hid (Bb_3.out.below hb)
  have Bc_4 := Lib.hid (Bc_3.out.below hb)
  have HW4 := Lib.hid (HW3.out.trans (hb.mono HW3.out.size))
  have R_4 := Lib.hid (R_3.out.below' hb)
  clear sd bd nd hb
  go_wp2_with fail
  refine (first_any Ac cc Lc Ad cd Ld 100000 _ (Bc_4.out.mono (K' := 100000) (by decide)) (Bd_4.out.mono (K' := 100000) (by decide)) Nc.out Nd.out (by have h := congrArg List.length Sc.out; simp only [List.length_map] at h; rw [h]; decide) (by have h := congrArg List.length Sd.out; simp only [List.length_map] at h; rw [h]; decide) (by decide)).mono ?_
  rintro e w5 ⟨Ag1, cg1, Lg1, rfl, sg1, bg1, ng1, hb⟩
  rw [Sc.out] at sg1
  rw [Sd.out] at sg1
  have Sg1 := Lib.hid sg1
  have Ng1 := Lib.hid ng1
  have Bg1_5 := Lib.hid bg1
  have Ba_5 := Lib.hid (Ba_4.out.below hb)
  have Bb_5 := Lib.hid (Bb_4.out.below hb)
  have Bc_5 := Lib.hid (Bc_4.out.below hb)
  have Bd_5 := Lib.hid (Bd_4.out.below hb)
  have HW5 := Lib.hid (HW4.out.trans (hb.mono HW4.out.size))
  have R_5 := Lib.hid (R_4.out.below' hb)
  clear sg1 bg1 ng1 hb
  go_wp2_with fail
  refine (kcall_any 2 0 _).mono ?_
  rintro e w6 ⟨Ag2, cg2, Lg2, rfl, sg2, bg2, ng2, hb⟩
  have Sg2 := Lib.hid sg2
  have Ng2 := Lib.hid ng2
  have Bg2_6 := Lib.hid bg2
  have Ba_6 := Lib.hid (Ba_5.out.below hb)
  have Bb_6 := Lib.hid (Bb_5.out.below hb)
  have Bc_6 := Lib.hid (Bc_5.out.below hb)
  have Bd_6 := Lib.hid (Bd_5.out.below hb)
  have Bg1_6 := Lib.hid (Bg1_5.out.below hb)
  have HW6 := Lib.hid (HW5.out.trans (hb.mono HW5.out.size))
  have R_6 := Lib.hid (R_5.out.below' hb)
  clear sg2 bg2 ng2 hb
  go_wp2_with fail
  refine (kcall_any 1 0 _).mono ?_
  rintro e w7 ⟨Ah, ch, Lh, rfl, sh, bh, nh, hb⟩
  have Sh := Lib.hid sh
  have Nh := Lib.hid nh
  have Bh_7 := Lib.hid bh
  have Ba_7 := Lib.hid (Ba_6.out.below hb)
  have Bb_7 := Lib.hid (Bb_6.out.below hb)
  have Bc_7 := Lib.hid (Bc_6.out.below hb)
  have Bd_7 := Lib.hid (Bd_6.out.below hb)
  have Bg1_7 := Lib.hid (Bg1_6.out.below hb)
  have Bg2_7 := Lib.hid (Bg2_6.out.below hb)
  have HW7 := Lib.hid (HW6.out.trans (hb.mono HW6.out.size))
  have R_7 := Lib.hid (R_6.out.below' hb)
  clear sh bh nh hb
  go_wp2_with fail
  refine (word_any ⟨#[99]⟩ (by decide) _).mono ?_
  rintro e w8 ⟨Ai, ci, Li, rfl, si, bi, ni, hb⟩
  have Si := Lib.hid si
  have Ni := Lib.hid ni
  have Bi_8 := Lib.hid bi
  have Ba_8 := Lib.hid (Ba_7.out.below hb)
  have Bb_8 := Lib.hid (Bb_7.out.below hb)
  have Bc_8 := Lib.hid (Bc_7.out.below hb)
  have Bd_8 := Lib.hid (Bd_7.out.below hb)
  have Bg1_8 := Lib.hid (Bg1_7.out.below hb)
  have Bg2_8 := Lib.hid (Bg2_7.out.below hb)
  have Bh_8 := Lib.hid (Bh_7.out.below hb)
  have HW8 := Lib.hid (HW7.out.trans (hb.mono HW7.out.size))
  have R_8 := Lib.hid (R_7.out.below' hb)
  clear si bi ni hb
  go_wp2_with fail
  refine (chain_any Ah ch Lh Ai ci Li 0 _ (Bh_8.out.mono (K' := 0) (by decide)) (Bi_8.out.mono (K' := 0) (by decide)) Nh.out Ni.out (by have h := congrArg List.length Sh.out; simp only [List.length_map] at h; rw [h]; decide) (by have h := congrArg List.length Si.out; simp only [List.length_map] at h; rw [h]; decide) (by decide)).mono ?_
  rintro e w9 ⟨Aj, cj, Lj, rfl, sj, bj, nj, hb⟩
  rw [Sh.out] at sj
  rw [Si.out] at sj
  have Sj := Lib.hid sj
  have Nj := Lib.hid nj
  have Bj_9 := Lib.hid bj
  have Ba_9 := Lib.hid (Ba_8.out.below hb)
  have Bb_9 := Lib.hid (Bb_8.out.below hb)
  have Bc_9 := Lib.hid (Bc_8.out.below hb)
  have Bd_9 := Lib.hid (Bd_8.out.below hb)
  have Bg1_9 := Lib.hid (Bg1_8.out.below hb)
  have Bg2_9 := Lib.hid (Bg2_8.out.below hb)
  have Bh_9 := Lib.hid (Bh_8.out.below hb)
  have Bi_9 := Lib.hid (Bi_8.out.below hb)
  have HW9 := Lib.hid (HW8.out.trans (hb.mono HW8.out.size))
  have R_9 := Lib.hid (R_8.out.below' hb)
  clear sj bj nj hb
  go_wp2_with fail
  refine (kcall_any 3 0 _).mono ?_
  rintro e w10 ⟨Ak, ck, Lk, rfl, sk, bk, nk, hb⟩
  have Sk := Lib.hid sk
  have Nk := Lib.hid nk
  have Bk_10 := Lib.hid bk
  have Ba_10 := Lib.hid (Ba_9.out.below hb)
  have Bb_10 := Lib.hid (Bb_9.out.below hb)
  have Bc_10 := Lib.hid (Bc_9.out.below hb)
  have Bd_10 := Lib.hid (Bd_9.out.below hb)
  have Bg1_10 := Lib.hid (Bg1_9.out.below hb)
  have Bg2_10 := Lib.hid (Bg2_9.out.below hb)
  have Bh_10 := Lib.hid (Bh_9.out.below hb)
  have Bi_10 := Lib.hid (Bi_9.out.below hb)
  have Bj_10 := Lib.hid (Bj_9.out.below hb)
  have HW10 := Lib.hid (HW9.out.trans (hb.mono HW9.out.size))
  have R_10 := Lib.hid (R_9.out.below' hb)
  clear sk bk nk hb
  go_wp2_with fail
  refine (first_any Aj cj Lj Ak ck Lk 100000 _ (Bj_10.out.mono (K' := 100000) (by decide)) (Bk_10.out.mono (K' := 100000) (by decide)) Nj.out Nk.out (by have h := congrArg List.length Sj.out; simp only [List.length_map] at h; rw [h]; decide) (by have h := congrArg List.length Sk.out; simp only [List.length_map] at h; rw [h]; decide) (by decide)).mono ?_
  rintro e w11 ⟨Ag3, cg3, Lg3, rfl, sg3, bg3, ng3, hb⟩
  rw [Sj.out] at sg3
  rw [Sk.out] at sg3
  have Sg3 := Lib.hid sg3
  have Ng3 := Lib.hid ng3
  have Bg3_11 := Lib.hid bg3
  have Ba_11 := Lib.hid (Ba_10.out.below hb)
  have Bb_11 := Lib.hid (Bb_10.out.below hb)
  have Bc_11 := Lib.hid (Bc_10.out.below hb)
  have Bd_11 := Lib.hid (Bd_10.out.below hb)
  have Bg1_11 := Lib.hid (Bg1_10.out.below hb)
  have Bg2_11 := Lib.hid (Bg2_10.out.below hb)
  have Bh_11 := Lib.hid (Bh_10.out.below hb)
  have Bi_11 := Lib.hid (Bi_10.out.below hb)
  have Bj_11 := Lib.hid (Bj_10.out.below hb)
  have Bk_11 := Lib.hid (Bk_10.out.below hb)
  have HW11 := Lib.hid (HW10.out.trans (hb.mono HW10.out.size))
  have R_11 := Lib.hid (R_10.out.below' hb)
  clear sg3 bg3 ng3 hb
  go_wp2_with fail
  refine (word_any ⟨#[100]⟩ (by decide) _).mono ?_
  rintro e w12 ⟨Am, cm, Lm, rfl, sm, bm, nm, hb⟩
  have Sm := Lib.hid sm
  have Nm := Lib.hid nm
  have Bm_12 := Lib.hid bm
  have Ba_12 := Lib.hid (Ba_11.out.below hb)
  have Bb_12 := Lib.hid (Bb_11.out.below hb)
  have Bc_12 := Lib.hid (Bc_11.out.below hb)
  have Bd_12 := Lib.hid (Bd_11.out.below hb)
  have Bg1_12 := Lib.hid (Bg1_11.out.below hb)
  have Bg2_12 := Lib.hid (Bg2_11.out.below hb)
  have Bh_12 := Lib.hid (Bh_11.out.below hb)
  have Bi_12 := Lib.hid (Bi_11.out.below hb)
  have Bj_12 := Lib.hid (Bj_11.out.below hb)
  have Bk_12 := Lib.hid (Bk_11.out.below hb)
  have Bg3_12 := Lib.hid (Bg3_11.out.below hb)
  have HW12 := Lib.hid (HW11.out.trans (hb.mono HW11.out.size))
  have R_12 := Lib.hid (R_11.out.below' hb)
  clear sm bm nm hb
  go_wp2_with fail
  refine (kcall_any 3 0 _).mono ?_
  rintro e w13 ⟨An, cn, Ln, rfl, sn, bn, nn, hb⟩
  have Sn := Lib.hid sn
  have Nn := Lib.hid nn
  have Bn_13 := Lib.hid bn
  have Ba_13 := Lib.hid (Ba_12.out.below hb)
  have Bb_13 := Lib.hid (Bb_12.out.below hb)
  have Bc_13 := Lib.hid (Bc_12.out.below hb)
  have Bd_13 := Lib.hid (Bd_12.out.below hb)
  have Bg1_13 := Lib.hid (Bg1_12.out.below hb)
  have Bg2_13 := Lib.hid (Bg2_12.out.below hb)
  have Bh_13 := Lib.hid (Bh_12.out.below hb)
  have Bi_13 := Lib.hid (Bi_12.out.below hb)
  have Bj_13 := Lib.hid (Bj_12.out.below hb)
  have Bk_13 := Lib.hid (Bk_12.out.below hb)
  have Bg3_13 := Lib.hid (Bg3_12.out.below hb)
  have Bm_13 := Lib.hid (Bm_12.out.below hb)
  have HW13 := Lib.hid (HW12.out.trans (hb.mono HW12.out.size))
  have R_13 := Lib.hid (R_12.out.below' hb)
  clear sn bn nn hb
  go_wp2_with fail
  refine (chain_any Am cm Lm An cn Ln 0 _ (Bm_13.out.mono (K' := 0) (by decide)) (Bn_13.out.mono (K' := 0) (by decide)) Nm.out Nn.out (by have h := congrArg List.length Sm.out; simp only [List.length_map] at h; rw [h]; decide) (by have h := congrArg List.length Sn.out; simp only [List.length_map] at h; rw [h]; decide) (by decide)).mono ?_
  rintro e w14 ⟨Ag4, cg4, Lg4, rfl, sg4, bg4, ng4, hb⟩
  rw [Sm.out] at sg4
  rw [Sn.out] at sg4
  have Sg4 := Lib.hid sg4
  have Ng4 := Lib.hid ng4
  have Bg4_14 := Lib.hid bg4
  have Ba_14 := Lib.hid (Ba_13.out.below hb)
  have Bb_14 := Lib.hid (Bb_13.out.below hb)
  have Bc_14 := Lib.hid (Bc_13.out.below hb)
  have Bd_14 := Lib.hid (Bd_13.out.below hb)
  have Bg1_14 := Lib.hid (Bg1_13.out.below hb)
  have Bg2_14 := Lib.hid (Bg2_13.out.below hb)
  have Bh_14 := Lib.hid (Bh_13.out.below hb)
  have Bi_14 := Lib.hid (Bi_13.out.below hb)
  have Bj_14 := Lib.hid (Bj_13.out.below hb)
  have Bk_14 := Lib.hid (Bk_13.out.below hb)
  have Bg3_14 := Lib.hid (Bg3_13.out.below hb)
  have Bm_14 := Lib.hid (Bm_13.out.below hb)
  have Bn_14 := Lib.hid (Bn_13.out.below hb)
  have HW14 := Lib.hid (HW13.out.trans (hb.mono HW13.out.size))
  have R_14 := Lib.hid (R_13.out.below' hb)
  clear sg4 bg4 ng4 hb
  have GR := Lib.hid (gram_any (some ⟨w14.heap.size, 0, none⟩) [(Ag1, cg1, Lg1), (Ag2, cg2, Lg2), (Ag3, cg3, Lg3), (Ag4, cg4, Lg4)] 4 200000 (w14.alloc (.cells #[.slice Ag1 Lg1.length cg1, .slice Ag2 Lg2.length cg2, .slice Ag3 Lg3.length cg3, .slice Ag4 Lg4.length cg4] 29)) ⟨lies_four (Blk.new _ _ _), fun x hx => by
    simp only [List.mem_cons, List.not_mem_nil, or_false] at hx
    rcases hx with rfl | rfl | rfl | rfl
    · exact ⟨(Bg1_14.out.mono (by decide)).below (B1 _ _), (by have h := congrArg List.length Sg1.out; simp only [List.length_map] at h; rw [h]; decide), Ng1.out⟩
    · exact ⟨(Bg2_14.out.mono (by decide)).below (B1 _ _), (by have h := congrArg List.length Sg2.out; simp only [List.length_map] at h; rw [h]; decide), Ng2.out⟩
    · exact ⟨(Bg3_14.out.mono (by decide)).below (B1 _ _), (by have h := congrArg List.length Sg3.out; simp only [List.length_map] at h; rw [h]; decide), Ng3.out⟩
    · exact ⟨(Bg4_14.out.mono (by decide)).below (B1 _ _), (by have h := congrArg List.length Sg4.out; simp only [List.length_map] at h; rw [h]; decide), Ng4.out⟩
    ⟩ (by simp) (by decide))
  simp only [List.length_cons, List.length_nil, Nat.reduceAdd, List.map_cons, List.map_nil, Sg1.out, Sg2.out, Sg3.out, Sg4.out] at GR
  go_wp2_with fail
  refine GR.out.mono ?_
  rintro e wg ⟨g, rfl, hst, hsp, hkl, hcp, hb⟩
  have HST := Lib.hid hst
  have HSP := Lib.hid hsp
  have HCP := Lib.hid hcp
  have RG := Lib.hid (show Blk wg w.heap.size #[.slice none 0 0, .slice none 0 0] 31 from ((R_14.out.alloc _).below' hb))
  have HWG := Lib.hid (show Below w.heap.size w wg from (HW14.out.alloc HW14.out.size _).trans (hb.mono (by have := HW14.out.size; simp; omega)))
  have HLO := Lib.hid (show w.heap.size < w14.heap.size from R_14.out.lt)
  clear hst hsp hkl hcp hb GR
  go_wp2_with (refine wpList_store_whole rfl 31 (.tmp 0) (.tmp 16) rfl w.heap.size #[.slice g.RA g.rules.length g.rc, .slice g.NA g.nodes.length g.nc] rfl rfl 31 _ RG.out (by kernel_rfl) (by rfl) (by simp [Value.oneCell']) ?_; intro w5 hk5 hg5; have K5 := Lib.hid hk5; have G5 := Lib.hid hg5; clear hk5 hg5)
  refine bodyPost_ret (results_cell_row rfl _ _ w.heap.size 31 _ (0, 0) _ rfl K5.out Tryz.underlying31 rfl (by kernel_rfl)) rfl ?_
  exact ⟨g, rfl, HST.out w5 G5.out.size (fun b h1 h2 => G5.out.block b h2 (fun e => by have := HLO.out; cases e; simp at h1; omega)), kz_of (HSP.out.trans sx_gram), HCP.out, grown_below HWG.out HWG.out.size G5.out (fun k e => by cases e; exact Nat.le_refl _)⟩
end Go.Proofs.YtmlaepbmdfmgbaaGreat
namespace Go.Proofs.YtmlaepbmdfmgbaaGreat
open Go Go.RowKit Go.Maps
set_option maxRecDepth 100000 in
set_option maxHeartbeats 2000000 in
theorem size12_all (g : Gr) (w : World) (hg : Gr.At w g) : Calls Tryz.prog 11 #[g.val] w fun e w' => (∃ z : Int, e = .returned (.int .i64 z) ∧ (z ≤ 300 → g.rules.length + g.nodes.length ≤ 300 ∧ ∀ x ∈ g.nodes, x.kids.length ≤ 300)) ∧ Below w.heap.size w w' := by
  have HG := Lib.hid hg
  have h1 := hg.rl
  have h2 := hg.nl
  obtain ⟨RA, rc, rules, NA, nc, nodes⟩ := g
  dsimp only at h1 h2
  obtain ⟨m, em⟩ : ∃ m, m = nodes.length := ⟨_, rfl⟩
  obtain ⟨r, er⟩ : ∃ m, m = rules.length := ⟨_, rfl⟩
  show Calls Tryz.prog 11 #[.agg #[.slice RA rules.length rc, .slice NA nodes.length nc]] w _
  have EM := Lib.hid em
  have ER := Lib.hid er
  rw [← em, ← er]
  rw [← em] at h2
  rw [← er] at h1
  clear hg em er
  go_enter Tryz.func11, Tryz.ntmps11
  go_wp2_with fail
  obtain ⟨wb, ewb⟩ : ∃ u, u = w.alloc (.cells #[.slice RA r rc, .slice NA m nc] 31) := ⟨_, rfl⟩
  have hb2 : Below w.heap.size w wb := by rw [ewb]; exact B1 _ _
  have c0 : wb.cell? ⟨w.heap.size, 0, none⟩ = some (.slice RA r rc) := by rw [ewb]; exact (Blk.new _ _ _).cell 0
  have c1 : wb.cell? ⟨w.heap.size, 1, none⟩ = some (.slice NA m nc) := by rw [ewb]; exact (Blk.new _ _ _).cell 1
  rw [← ewb]
  have BB := Lib.hid hb2
  clear ewb hb2
  go_loopw [3, 4] (fun s i wr => ∃ (k : Nat) (n : Int), k ≤ m ∧ s = .int .i64 n ∧ i = .int .i64 k ∧ n ≤ 500000000000000 ∧ (r + m : Nat) ≤ n ∧ (∀ j, j < k → ((nodes.getD j Nd.zero).kids.length : Int) ≤ n) ∧ wr = wb) (fun _ i _ => m - (intOf i).toNat)
  case atStart => exact ⟨0, r + m, by omega, rfl, rfl, by omega, by omega, fun j h => by omega, rfl⟩
  case round =>
    obtain ⟨k, n, hk, rfl, rfl, hn, hn0, hkk, rfl⟩ := hrel
    have HK := Lib.hid hkk
    clear hkk
    by_cases hlt : k < m
    · have hlt2 : (k : Int) < m := by omega
      by_cases hle : n ≤ 300
      · obtain ⟨b1, o1, eA, _, _, _, _, _, _, _, _, _, c9⟩ := (HG.out.below BB.out).nodes.nine (show k < nodes.length by have := EM.out; omega)
        have hx := ((HG.out.below BB.out).node (show k < nodes.length by have := EM.out; omega)).2.2
        dsimp only at eA c9 hx
        rw [eA] at c1
        generalize hxx : nodes.getD k Nd.zero = x at c9 hx
        have HX := Lib.hid hxx
        clear eA hxx
        go_wp2_with fail
        go_roundw
        case rel => exact ⟨k + 1, n + x.kids.length, by omega, by first | rfl | go_num, by go_num, by omega, by omega, fun j hj => (by
          by_cases ej : j = k
          · subst ej; rw [HX.out]; omega
          · have := HK.out j (by omega); omega), by first | trivial | rfl⟩
        case measure => simp [intOf]; omega
      · have hle2 : 300 < n := by omega
        go_wp2_with fail
        go_ret
        exact ⟨⟨n, rfl, fun h => absurd h (by omega)⟩, BB.out⟩
    · obtain rfl : k = m := by omega
      have hlt2 : ¬ (k : Int) < k := by omega
      go_wp2_with fail
      go_ret
      exact ⟨⟨n, rfl, fun h => ⟨by have := EM.out; have := ER.out; omega, fun x hx => by
        obtain ⟨j, hj, rfl⟩ := List.getElem_of_mem hx
        have := HK.out j (by have := EM.out; omega)
        simp only [List.getD, List.getElem?_eq_getElem hj, Option.getD_some] at this
        skip
        omega⟩⟩, BB.out⟩
set_option maxRecDepth 100000 in
theorem lhas_any (A : Option Addr) (c : Nat) (a : List Int) (k : Int) (ha : a.length ≤ 100000) (w : World) (hA : Lies w A (ints a)) :
    Calls Tryz.prog 20 #[.slice A a.length c, .int .i64 k] w fun e w' => e = .returned (.bool (decide (k ∈ a))) ∧ w' = w := by
  have HA := Lib.hid hA
  obtain ⟨m, em⟩ : ∃ m, m = a.length := ⟨_, rfl⟩
  have EM := Lib.hid em
  rw [← em] at ha ⊢
  clear hA em
  go_enter Tryz.func20, Tryz.ntmps20
  go_wp2_with fail
  go_loopw [5, 6] (fun o i wr => ∃ j : Nat, j ≤ m ∧ i = .int .i64 j ∧ o = .bool (hasN a k j) ∧ wr = w) (fun _ i _ => m - (intOf i).toNat)
  case atStart => exact ⟨0, by omega, rfl, rfl, rfl⟩
  case round =>
    obtain ⟨j, hj, rfl, rfl, rfl⟩ := hrel
    by_cases hlt : j < m
    · have hlt2 : (j : Int) < m := by omega
      have hja : j < a.length := by rw [← EM.out]; exact hlt
      obtain ⟨b1, o1, rfl, _, c1⟩ := lies_cell HA.out hja
      have TK := Lib.hid (hasN_next (k := k) hja)
      generalize a.getD j 0 = x at c1 TK
      cases hd : hasN a k j with
      | true =>
        rw [hd] at TK
        clear hd hja
        go_wp2_with fail
        go_roundw
        case rel => exact ⟨j + 1, by omega, by go_num, by rw [TK.out]; first | rfl | simp, by first | trivial | rfl⟩
        case measure => simp [intOf]; omega
      | false =>
        rw [hd] at TK
        clear hd hja
        go_wp2_with fail
        go_roundw
        case rel => exact ⟨j + 1, by omega, by go_num, by rw [TK.out]; first | rfl | simp, by first | trivial | rfl⟩
        case measure => simp [intOf]; omega
    · obtain rfl : j = m := by omega
      have hlt2 : ¬ (j : Int) < j := by omega
      go_wp2_with fail
      go_ret
      exact ⟨ret_bool (by rw [EM.out, hasN_all]), rfl⟩
set_option maxRecDepth 100000 in
set_option maxHeartbeats 4000000 in
theorem body12_any (g : Gr) (hR : Right g) (hc : Capd g) (hkl : ∀ x ∈ g.nodes, x.kids.length ≤ 1000) (q : Nat) (hq : q < g.rules.length) (w : World) (hg : Gr.At w g) (hin : Gr.In g) :
    Calls Tryz.prog 22 #[g.val, .int .i64 q] w fun e w' => ∃ A' c' fr s l', e = .returned (.slice A' l'.length c') ∧ (g.rules.getD q Rl.zero).body = (fr : Nat) ∧ (measOf g fr).1 = (s : Nat) ∧ fr + s ≤ g.nodes.length ∧ Moved (-(fr : Int)) ((g.nodes.drop fr).take s) l' ∧ Owd w w' (.slice A' l'.length c') l' 2048 ∧ (A' = none → c' = 0) ∧ Below w.heap.size w w' := by
  obtain ⟨fr, hfr, hfl⟩ : ∃ fr : Nat, (g.rules.getD q Rl.zero).body = fr ∧ fr < g.nodes.length := by
    have := hR.body q hq
    exact ⟨(g.rules.getD q Rl.zero).body.toNat, by omega, by omega⟩
  obtain ⟨ms, hm, _⟩ := hR.pre
  have hms := hm fr (by omega) hfl
  have hme := measOf_yes hR hm hfl
  obtain ⟨s, hs⟩ : ∃ s : Nat, (measOf g fr).1 = s := ⟨(measOf g fr).1.toNat, by rw [hme]; omega⟩
  have hfs : fr + s ≤ g.nodes.length := by rw [hme] at hs; omega
  have hs1 : 1 ≤ s := by rw [hme] at hs; omega
  have hN := hR.nodes
  have hcap := hc.nodes
  have SZ := Lib.hid (fun (w' : World) (b : Below w.heap.size w w') => by have := size_of g fr w' (hg.below b) hin; rw [hs] at this; exact this)
  obtain ⟨nb, no, eN, _, _⟩ := hg.nodes.nine hfl
  obtain ⟨rb, ro, eR, hrb, _, hrbody⟩ := hg.rules.two hq
  rw [hfr] at hrbody
  obtain ⟨L, eL⟩ : ∃ L, L = (g.nodes.drop fr).take s := ⟨_, rfl⟩
  have hLl : L.length = s := by rw [eL]; simp; omega
  have hLm : ∀ j, j < s → L.getD j Nd.zero = g.nodes.getD (fr + j) Nd.zero := fun j hj => by
    rw [eL]
    simp only [List.getD_eq_getElem?_getD, List.getElem?_take, if_pos hj, List.getElem?_drop]
  have hLin : ∀ x ∈ L, x ∈ g.nodes := fun x hx => by rw [eL] at hx; exact List.mem_of_mem_drop (List.mem_of_mem_take hx)
  have LK := Lib.hid (fun x (hx : x ∈ L) => show x.kids.length ≤ 1000 ∧ ∀ k ∈ x.kids, 0 ≤ k + -(fr : Int) ∧ k + -(fr : Int) < 2048 from by
    refine ⟨hkl x (hLin x hx), fun k hk => ?_⟩
    obtain ⟨j, hj, rfl⟩ := List.getElem_of_mem hx
    have e : L[j] = g.nodes.getD (fr + j) Nd.zero := by rw [← hLm j (by omega)]; simp [List.getD, List.getElem?_eq_getElem hj]
    rw [e] at hk
    have := hR.kidsUp (fr + j) (by omega) k hk
    omega)
  have LT := Lib.hid (fun x (hx : x ∈ L) => hg.texts x (hLin x hx))
  have CN := Lib.hid (fun (w' : World) (b : Below w.heap.size w w') (c : Nat) => copyNodes2_any (some ⟨nb, no + fr * 9, none⟩) L c (by omega) w' (by
    have h := (hg.below b).nodes
    rw [eN] at h
    rw [eL]
    exact h.part hfs) (fun x hx => ⟨(hg.below b).kids x (hLin x hx), by have := hkl x (hLin x hx); omega⟩))
  have HG := Lib.hid hg
  have FIN := Lib.hid (And.intro hfr (And.intro hs hfs))
  have EL := Lib.hid eL
  have hLs : L.length ≤ 100000 := by omega
  rw [hLl] at CN
  have HLL := Lib.hid hLl
  obtain ⟨N, enn⟩ : ∃ N, N = g.nodes.length := ⟨_, rfl⟩
  obtain ⟨R, err⟩ : ∃ R, R = g.rules.length := ⟨_, rfl⟩
  show Calls Tryz.prog 22 #[.agg #[.slice g.RA g.rules.length g.rc, .slice g.NA g.nodes.length g.nc], .int .i64 q] w _
  have hSZ : RowKit.Hid (∀ (w' : World), Below w.heap.size w w' → Calls Tryz.prog 43 #[.agg #[.slice (some ⟨rb, ro, none⟩) R g.rc, .slice (some ⟨nb, no, none⟩) N g.nc], .int .i64 fr] w' fun e w'' => e = .returned (.int .i64 s) ∧ Below w'.heap.size w' w'') := Lib.hid (fun w' b => by
    have := SZ.out w' b
    rw [err, enn, ← eR, ← eN]
    exact this)
  rw [eR, eN, ← err, ← enn]
  rw [← err] at hq
  rw [← enn] at hfs hfl hN hcap
  have hrb2 : rb < w.heap.size := hrb
  clear SZ eL hLl hLm hLin hm hms hme hs hfr hR hc hg hin eN eR enn err hkl
  go_enter Tryz.func22, Tryz.ntmps22
  have hqi : (q : Int) < R := by omega
  go_upto_region 2 with fail
  obtain ⟨wb, ewb⟩ : ∃ u, u = w.alloc (.cells #[.slice (some ⟨rb, ro, none⟩) R g.rc, .slice (some ⟨nb, no, none⟩) N g.nc] 31) := ⟨_, rfl⟩
  have KB := Lib.hid (show Blk wb w.heap.size #[.slice (some ⟨rb, ro, none⟩) R g.rc, .slice (some ⟨nb, no, none⟩) N g.nc] 31 from by rw [ewb]; exact Blk.new _ _ _)
  have BW := Lib.hid (show Below w.heap.size w wb from by rw [ewb]; exact B1 _ _)
  rw [← ewb]
  clear ewb hrbody hrb hrb2
  obtain ⟨e, ee⟩ : ∃ e, e = fr + s := ⟨_, rfl⟩
  have hwr : IntKind.wrap .i64 ((fr : Int) + s) = e := by rw [IntKind.wrap_i64]; omega
  have he1 : fr ≤ e := by omega
  have he2 : (fr : Int) ≤ e := by omega
  have he3 : e ≤ g.nc := by omega
  have he4 : (e : Int) ≤ g.nc := by omega
  have he5 : e - fr = s := by omega
  have he6 : ¬ g.nc = fr := by omega
  have he7 : (0 : Int) ≤ fr := by omega
  have he8 : ¬ g.nc - fr = 0 := by omega
  have SF := Lib.hid (fun (W' : World) (hb : Below wb.heap.size wb W') => (⟨by have := (KB.out.below' hb).cell 0; simp only [List.getElem?_toArray, List.getElem?_cons_zero, List.getElem?_cons_succ] at this; exact this, by have := (KB.out.below' hb).cell 1; simp only [List.getElem?_toArray, List.getElem?_cons_zero, List.getElem?_cons_succ] at this; exact this⟩ : W'.cell? ⟨w.heap.size, 0, none⟩ = some (.slice (some ⟨rb, ro, none⟩) R g.rc) ∧ W'.cell? ⟨w.heap.size, 1, none⟩ = some (.slice (some ⟨nb, no, none⟩) N g.nc)))
  have hsl : s ≤ 2048 := by omega
  have FS := Lib.hid hfs
  clear ee hfs hfl
  go_cut [6] from 15 to 24 (fun s6 wx => ∃ A1 c1, s6 = .slice A1 s c1 ∧ ∃ cl : List Nd, cl.length = s ∧ (∀ j, j < s → Twin (L.getD j Nd.zero) (cl.getD j Nd.zero)) ∧ wx.ownsRow w.heap.size 60 9 (.slice A1 s c1) s (ncells cl) ∧ (∀ x ∈ cl, Kid wx w.heap.size (.slice A1 s c1) x) ∧ (∀ i j, i < j → j < cl.length → ∀ a b, (cl.getD i Nd.zero).A = some a → (cl.getD j Nd.zero).A = some b → a.block ≠ b.block) ∧ (A1 = none → c1 = 0) ∧ Below w.heap.size w wx)
  case first =>
    go_region_held3 (fun W' => W'.cell? ⟨w.heap.size, 0, none⟩ = some (.slice (some ⟨rb, ro, none⟩) R g.rc) ∧ W'.cell? ⟨w.heap.size, 1, none⟩ = some (.slice (some ⟨nb, no, none⟩) N g.nc)) (first | exact SF.out _ P2.out | exact SF.out _ P1.out | exact SF.out _ (bdrew1 (Below.refl _ _)) | exact SF.out _ (Below.refl _ _)) (first | (go_at_call 43; (refine (hSZ.out _ (by first | exact BW.out | exact bdrew1 BW.out)).mono ?_); rintro e w3 ⟨rfl, hb'⟩; have P1 := Lib.hid (show Below wb.heap.size wb w3 from (by first | exact hb' | exact (bdrew1 (Below.refl _ _)).trans hb')); clear hb') | (go_at_call 42; (refine (CN.out _ (bb BW.out P1.out) _).mono ?_); rintro e w4 ⟨A1, c1, rfl, cl, h1, h2, h3, h4, h5, h6, h7⟩; have C1 := Lib.hid h1; have C2 := Lib.hid h2; have C3 := Lib.hid (own_lower h3 (bb BW.out P1.out).size); have C4 := Lib.hid h4; have C5 := Lib.hid h5; have C6 := Lib.hid h6; have P2 := Lib.hid (bb P1.out h7); clear h1 h2 h3 h4 h5 h6 h7))
    all_goals go_simp
    all_goals (first | go_meet | (go_wp2_with fail; go_meet) | skip)
    all_goals exact ⟨_, _, rfl, cl, C1.out, C2.out, C3.out, fun x hx => ⟨own_lower (C4.out x hx).1 (bb BW.out P1.out).size, (C4.out x hx).2⟩, C5.out, C6.out, bb BW.out P2.out⟩
  case rest =>
  obtain ⟨A1, c1, rfl, cl, h1, h2, h3, h4, h5, h6, h7⟩ := hcut
  have C1 := Lib.hid h1; have C2 := Lib.hid h2; have C3 := Lib.hid h3; have C4 := Lib.hid h4; have C5 := Lib.hid h5; have C6 := Lib.hid h6; have C7 := Lib.hid h7
  clear h1 h2 h3 h4 h5 h6 h7 CN SF KB BW hSZ hwr he1 he2 he3 he4 he5 he6 he7 he8
  have M0 : RowKit.Hid (Mvd w wc cl (-(fr : Int)) (.slice A1 s c1) s 0 0) := Lib.hid ⟨C3.out, fun j hj => by
    rw [mst_zero]
    exact (C4.out _ (getD_mem (by have := C1.out; omega))).1, C7.out⟩
  have hcl : cl.length = s := C1.out
  have HKB := Lib.hid (fun i (hi : i < s) => show (cl.getD i Nd.zero).kids.length ≤ 1000 ∧ ∀ k, k < (cl.getD i Nd.zero).kids.length → 0 ≤ (cl.getD i Nd.zero).kids.getD k 0 + -(fr : Int) ∧ (cl.getD i Nd.zero).kids.getD k 0 + -(fr : Int) < 2048 from by
    obtain ⟨A', c', e⟩ := C2.out i hi
    have hm : L.getD i Nd.zero ∈ L := getD_mem (by have := HLL.out; omega)
    rw [e]
    exact ⟨(LK.out _ hm).1, fun k hk => (LK.out _ hm).2 _ (getD_mem_int hk)⟩)
  go_wp2_with fail
  go_loopw [7] (fun i wr => ∃ k : Nat, k ≤ s ∧ i = .int .i64 k ∧ Mvd w wr cl (-(fr : Int)) (.slice A1 s c1) s k 0) (fun i _ => s - (intOf i).toNat)
  case atStart => exact ⟨0, by omega, by go_num, M0.out⟩
  case round =>
    obtain ⟨i, hi, rfl, hM⟩ := hrel
    by_cases hlt : i < s
    · have hlt2 : (i : Int) < s := by omega
      have hM0 := Lib.hid hM
      obtain ⟨hk1, hk2⟩ := HKB.out i hlt
      have HK2 := Lib.hid hk2
      clear hM hk2
      obtain ⟨kl, ekl⟩ : ∃ kl, kl = (cl.getD i Nd.zero).kids.length := ⟨_, rfl⟩
      have EKL := Lib.hid ekl
      rw [← ekl] at hk1
      clear ekl
      go_wp2_with fail
      go_loopw [8] (fun q wr => ∃ k : Nat, k ≤ kl ∧ q = .int .i64 k ∧ Mvd w wr cl (-(fr : Int)) (.slice A1 s c1) s i k) (fun q _ => kl - (intOf q).toNat)
      case atStart => exact ⟨0, by omega, by go_num, hM0.out⟩
      case round =>
        obtain ⟨k, hk, rfl, hM⟩ := hrel
        obtain ⟨g0, cap0, e0, _, _, _, _⟩ := own_shape hM.row (by omega)
        simp only [Value.slice.injEq, true_and] at e0
        obtain ⟨eA, eC⟩ := e0
        have hN : Nodes wr A1 cl := own_nodes (by rw [C1.out]; exact hM.row)
        obtain ⟨b1, o1, eA1, hb1, _, _, _, _, _, _, _, _, c9⟩ := hN.nine (show i < cl.length by omega)
        rw [← EKL.out] at c9
        by_cases hltk : k < kl
        · have hltk2 : (k : Int) < kl := by omega
          have hrow := hM.kids i hlt
          obtain ⟨gk, capk, ek, _, _, _, _⟩ := own_shape hrow (by have := EKL.out; omega)
          simp only [Value.slice.injEq, true_and] at ek
          obtain ⟨eKA, eKC⟩ := ek
          rw [eKA] at hrow c9
          obtain ⟨s1, s2⟩ := mst_set cl (-(fr : Int)) i k (by have := EKL.out; omega)
          have ck : wr.cell? ⟨gk, k, none⟩ = some (.int .i64 ((cl.getD i Nd.zero).kids.getD k 0)) := by
            rw [hrow.cellAt k (by have := EKL.out; omega), ← s1]
            exact ints_at (by rw [mst_length]; have := EKL.out; omega)
          have fk := hrow.frozenAt k
          obtain ⟨v1, v2⟩ := HK2.out k (by have := EKL.out; omega)
          have ST := Lib.hid (eA1 ▸ hM.step hlt (by omega) (by have := EKL.out; omega) eKA C5.out)
          generalize (cl.getD i Nd.zero).kids.getD k 0 = xv at ck v1 v2 ST
          have hw : IntKind.wrap .i64 (xv - fr) = xv - fr := by rw [IntKind.wrap_i64]; omega
          have hsb : xv + -(fr : Int) = xv - fr := by omega
          rw [hsb] at ST
          clear hsb
          generalize (cl.getD i Nd.zero).cap = capq at c9
          rw [eA1]
          clear hM hN hrow s1 s2 eKA eKC eA eC
          go_wp2_with fail
          go_region_with (fail)
          all_goals (
            go_wp2_with fail
            go_roundw
            case rel => exact ⟨k + 1, by omega, by go_num, (by first | exact ST.out | exact ST.out.below (bdrew1 (Below.refl _ _)) | exact ST.out.below (bdrew1 (bdrew1 (Below.refl _ _))) | exact ST.out.below (bdrew (Below.refl _ _)))⟩
            case measure => simp [intOf]; omega)
        · obtain rfl : k = kl := by omega
          have hneg : ¬ (k : Int) < k := by omega
          have hM1 := Lib.hid hM
          generalize (cl.getD i Nd.zero).cap = capq at c9
          generalize (cl.getD i Nd.zero).A = Aq at c9
          rw [eA1]
          clear hM hN eA eC
          go_wp2_with fail
          go_roundw
          case rel => exact ⟨i + 1, by omega, by go_num, by have := hM1.out; rw [EKL.out, eA1] at this; exact this.next⟩
          case measure => simp [intOf]; omega
    · obtain rfl : i = s := by omega
      have hneg : ¬ (i : Int) < i := by omega
      have hM0 := Lib.hid hM
      clear hM
      go_wp2_with fail
      go_ret
      obtain ⟨l', q1, q2, q3, q4⟩ := hM0.out.fin2 C1.out.symm (by have := C1.out; have := HLL.out; omega) (fun j hj => C2.out j (by have := HLL.out; omega)) (fun x hx => (C4.out x hx).2.1) LK.out LT.out hLs
      have e : i = l'.length := by have := q1.1; have := HLL.out; omega
      rw [e]
      exact ⟨A1, c1, fr, i, l', by rw [← e]; rfl, FIN.out.1, FIN.out.2.1, FS.out, by rw [← EL.out]; exact q1, ⟨q3, fun x hx => ⟨q4 x hx, (q2.kids x hx).1.2.1⟩, fun x hx => ⟨(q2.kids x hx).2.1, (q2.kids x hx).2.2, q2.texts x hx⟩, hM0.out.low⟩, C6.out, hM0.out.low⟩
end Go.Proofs.YtmlaepbmdfmgbaaGreat
namespace Go.Proofs.YtmlaepbmdfmgbaaGreat
open Go Go.RowKit
theorem okI_kz (g : Gr) (i : Int) : okI g.kz i ↔ okI g i := by unfold okI; rw [rightB_kz]; exact Iff.rfl
theorem sofN_kz (g : Gr) (i : Int) : sofN g.kz i = sofN g i := by
  by_cases h : okI g i
  · rw [sofN_yes h, sofN_yes ((okI_kz g i).2 h), graphOf_kz]
  · rw [sofN_no h, sofN_no fun h2 => h ((okI_kz g i).1 h2)]
theorem allOf_kz (g : Gr) : allOf g.kz = allOf g := by unfold allOf; rw [rightB_kz, graphOf_kz]; rfl
theorem withOf_kz (g : Gr) (i : Int) : withOf g.kz i = withOf g i := by
  by_cases h : okI g i ∧ sortN (graphOf g) i.toNat ≠ 0
  · rw [withOf_yes h.1 h.2, withOf_yes ((okI_kz g i).2 h.1) (by rw [graphOf_kz]; exact h.2), graphOf_kz]
  · rw [withOf_no h, withOf_no fun h2 => h ⟨(okI_kz g i).1 h2.1, by rw [← graphOf_kz]; exact h2.2⟩]
theorem freeB_kz (g : Gr) : freeB g.kz = freeB g := by unfold freeB; rw [rightB_kz, graphOf_kz]; rfl
theorem ordOf_kz (g : Gr) : ordOf g.kz = ordOf g := by unfold ordOf; rw [rightB_kz, graphOf_kz]
theorem sx_rb : rightB sx0 = true := rightB_true.2 sx_right
theorem sx_all : allOf sx0 = [1, 2, 2, 0] := by
  unfold allOf
  rw [sx_rb, show graphOf sx0 = sxG from sx_graph, show sx0.rules.length = 4 from rfl, sx_sorts]
  rfl
theorem sx_at (i : Nat) (hi : i < 4) : sortN sxG i = [1, 2, 2, 0].getD i 0 := by
  have h := fun k => congrArg (fun l => List.getD l k 9) sx_sorts
  match i, hi with
  | 0, _ => exact h 0
  | 1, _ => exact h 1
  | 2, _ => exact h 2
  | 3, _ => exact h 3
theorem sx_ord : ordOf sx0 = [3, 1, 2, 0] := by
  unfold ordOf
  rw [sx_rb, show graphOf sx0 = sxG from sx_graph, sxG_parts]
  rfl
theorem sx_free : freeB sx0 = false := by
  unfold freeB
  rw [sx_rb, show graphOf sx0 = sxG from sx_graph]
  simp only [Bool.true_and, decide_eq_false_iff_not]
  intro h
  have := h 0 (by decide)
  rw [sx_at 0 (by decide)] at this
  exact absurd this (by decide)
theorem sx_with : withOf sx0 1 = [1, 2] := by
  rw [withOf_yes ⟨sx_rb, by decide, by decide⟩ (by
    rw [show graphOf sx0 = sxG from sx_graph, show (1 : Int).toNat = 1 from rfl, sx_at 1 (by decide)]; decide)]
  rw [show graphOf sx0 = sxG from sx_graph, show (1 : Int).toNat = 1 from rfl, sxG_pt 1 (by decide)]
  decide
def sName (s : Int) : ByteArray := if s = 0 then ⟨#[110, 111, 110, 101]⟩ else if s = 1 then ⟨#[100, 105, 114, 101, 99, 116]⟩ else if s = 2 then ⟨#[105, 110, 100, 105, 114, 101, 99, 116]⟩ else if s = 3 then ⟨#[98, 111, 116, 104]⟩ else ⟨#[63]⟩
set_option maxRecDepth 100000 in
set_option maxHeartbeats 2000000 in
theorem sString_any (s : Int) (w : World) : Calls Tryz.prog 8 #[.int .i64 s] w fun e w' => e = .returned (.string (sName s)) ∧ Below w.heap.size w w' := by
  go_enter Tryz.func8, Tryz.ntmps8
  go_upto_region 2 with (refine wpList_store_whole rfl 53 (.tmp 3) (.tmp 4) rfl w.heap.size #[.string ⟨#[110, 111, 110, 101]⟩, .string ⟨#[100, 105, 114, 101, 99, 116]⟩, .string ⟨#[105, 110, 100, 105, 114, 101, 99, 116]⟩, .string ⟨#[98, 111, 116, 104]⟩] rfl rfl 53 _ (Blk.new _ _ _) (by kernel_rfl) (by rfl) (by simp [Value.oneCell']) ?_; intro w2 hk2 hg2; have KA := Lib.hid hk2; have HG2 := Lib.hid (grown_below (B1 w _) (by simp) hg2 (fun k e => by cases e; exact Nat.le_refl _)); clear hk2 hg2)
  by_cases h0 : s < 0
  · go_wp2_with fail
    go_ret
    exact ⟨by unfold sName; rw [if_neg (by omega), if_neg (by omega), if_neg (by omega), if_neg (by omega)]; rfl, HG2.out⟩
  · by_cases h4 : 4 ≤ s
    · go_wp2_with fail
      go_ret
      exact ⟨by unfold sName; rw [if_neg (by omega), if_neg (by omega), if_neg (by omega), if_neg (by omega)]; rfl, HG2.out⟩
    · obtain rfl | rfl | rfl | rfl : s = 0 ∨ s = 1 ∨ s = 2 ∨ s = 3 := by omega
      · have c0 := KA.out.cell 0
        simp only [List.getElem?_toArray, List.getElem?_cons_zero, List.getElem?_cons_succ] at c0
        go_wp2_with fail
        go_ret
        exact ⟨rfl, HG2.out⟩
      · have c0 := KA.out.cell 1
        simp only [List.getElem?_toArray, List.getElem?_cons_zero, List.getElem?_cons_succ] at c0
        go_wp2_with fail
        go_ret
        exact ⟨rfl, HG2.out⟩
      · have c0 := KA.out.cell 2
        simp only [List.getElem?_toArray, List.getElem?_cons_zero, List.getElem?_cons_succ] at c0
        go_wp2_with fail
        go_ret
        exact ⟨rfl, HG2.out⟩
      · have c0 := KA.out.cell 3
        simp only [List.getElem?_toArray, List.getElem?_cons_zero, List.getElem?_cons_succ] at c0
        go_wp2_with fail
        go_ret
        exact ⟨rfl, HG2.out⟩
/-- What the example stands on. -/
structure Awk4 (w W : World) (g : Gr) (kb : Nat) (A : Option Addr) : Prop where
  ka : Blk W kb #[.slice g.RA g.rules.length g.rc, .slice g.NA g.nodes.length g.nc] 31
  gr : Gr.At W g
  x0 : Lies W A (ints [1, 2, 2, 0])
  low : Below w.heap.size w W
theorem Awk4.below {w W W' : World} {g : Gr} {kb : Nat} {A : Option Addr} (h : Awk4 w W g kb A) (hb : Below W.heap.size W W') : Awk4 w W' g kb A :=
  ⟨h.ka.below' hb, h.gr.below hb, h.x0.below hb, h.low.trans (hb.mono h.low.size)⟩
theorem ints_yes (A B : Option Addr) (c d n : Nat) (a : List Int) (ha : a.length = n) (hn : n ≤ 1000) (w : World) (hA : Lies w A (ints a)) (hB : Lies w B (ints a)) :
    Calls Tryz.prog 28 #[.slice A n c, .slice B n d] w fun e w' => e = .returned (.bool true) ∧ Below w.heap.size w w' := by
  subst ha
  refine (ints_same A B c d a a (by omega) (by omega) w hA hB).mono ?_
  rintro e w' ⟨rfl, n, rfl⟩
  exact ⟨by rw [decide_eq_true rfl], bdrew (Below.refl _ _)⟩
set_option maxRecDepth 100000 in
set_option maxHeartbeats 8000000 in
theorem sawake_any (w : World) : Calls Tryz.prog 10 #[] w fun e w' => e = .returned (.bool true) ∧ Below w.heap.size w w' := by
  go_enter Tryz.func10, Tryz.ntmps10
  go_upto_region 2 with (first | (go_at_call 27; (refine (sexample_any _).mono ?_); rintro e w1 ⟨g, rfl, h1, h2, h3, hb⟩; have GA := Lib.hid h1; have EA := Lib.hid h2; have CP := Lib.hid h3; have HWa := Lib.hid (show Below w.heap.size w w1 from hb); clear h1 h2 h3 hb) | (refine wpList_store_whole rfl 31 (.tmp 1) (.tmp 3) rfl w1.heap.size #[.slice g.RA g.rules.length g.rc, .slice g.NA g.nodes.length g.nc] rfl rfl 31 _ (Blk.new _ _ _) (by kernel_rfl) (by rfl) (by simp [Value.oneCell']) ?_; intro w2 hk2 hg2; have KA := Lib.hid hk2; have HG2 := Lib.hid (grown_below (B1 w1 _) (by simp) hg2 (fun k e => by cases e; exact Nat.le_refl _)); clear hk2 hg2))
  have HW2 := Lib.hid (show Below w.heap.size w w2 from HWa.out.trans (HG2.out.mono HWa.out.size))
  have GA2 := Lib.hid (GA.out.below HG2.out)
  obtain ⟨kb, ekb⟩ : ∃ u, u = w1.heap.size := ⟨_, rfl⟩
  rw [← ekb] at KA ⊢
  have KA2 := Lib.hid (show Blk w2 kb #[.slice g.RA g.rules.length g.rc, .slice g.NA g.nodes.length g.nc] 31 from KA.out)
  have hin : Gr.In g := in_of EA.out sx_in
  have AL := Lib.hid (fun (W : World) (h : Gr.At W g) => show Calls Tryz.prog 13 #[.agg #[.slice g.RA g.rules.length g.rc, .slice g.NA g.nodes.length g.nc]] W (fun e w' => ∃ A c, e = .returned (.slice A 4 c) ∧ Lies w' A (ints [1, 2, 2, 0]) ∧ Below W.heap.size W w') from by
    refine (sAll_any g W h hin CP.out).mono ?_
    rintro e w' ⟨⟨v, rfl, ho⟩, hb⟩
    rw [← allOf_kz, EA.out, sx_all] at ho
    obtain ⟨A, c, rfl, _, _⟩ := own_slice ho
    exact ⟨A, c, rfl, own_lies1 ho, hb⟩)
  have WT := Lib.hid (fun (W : World) (h : Gr.At W g) => (sWithF_any g 1 W h hin CP.out).mono (fun e w' h => row_told h (M := [1, 2]) (by rw [← withOf_kz, EA.out]; exact sx_with)))
  have OD := Lib.hid (fun (W : World) (h : Gr.At W g) => (sOrder_any g W h hin CP.out).mono (fun e w' h => row_told h (M := [3, 1, 2, 0]) (by rw [← ordOf_kz, EA.out]; exact sx_ord)))
  have FR := Lib.hid (fun (W : World) (h : Gr.At W g) => by have := sFree_any g W h hin CP.out; rw [← freeB_kz, EA.out, sx_free] at this; exact this)
  have ST := Lib.hid (fun (W : World) => sString_any 1 W)
  have q0 := KA2.out.cell 0
  have q1 := KA2.out.cell 1
  simp only [List.getElem?_toArray, List.getElem?_cons_zero, List.getElem?_cons_succ] at q0 q1
  have A2 := Lib.hid (AL.out w2 GA2.out)
  clear hin ekb KA GA HWa HG2 AL
  go_upto_region 3 with (go_at_call 13; (with_reducible refine A2.out.mono ?_); rintro e v0 ⟨A, c, rfl, hl, hb⟩; have LA := Lib.hid hl; have HV0 := Lib.hid hb; clear hl hb)
  have K0 := Lib.hid (show Awk4 w v0 g kb A from ⟨KA2.out.below' HV0.out, GA2.out.below HV0.out, LA.out, HW2.out.trans (HV0.out.mono HW2.out.size)⟩)
  clear q0 q1 A2 LA HV0 KA2 HW2 GA2
  obtain ⟨b1, o1, rfl, hb1, hc⟩ := K0.out.x0 (by decide)
  have d0 := hc 0 (by decide); have d1 := hc 1 (by decide); have d2 := hc 2 (by decide); have d3 := hc 3 (by decide)
  simp only [ints, List.map_cons, List.map_nil, List.getElem?_cons_zero, List.getElem?_cons_succ, Nat.add_zero] at d0 d1 d2 d3
  have a0 := K0.out.ka.cell 0; have a1 := K0.out.ka.cell 1
  simp only [List.getElem?_toArray, List.getElem?_cons_zero, List.getElem?_cons_succ] at a0 a1
  have CW := Lib.hid (WT.out v0 K0.out.gr)
  clear hc WT
  go_wp2_with fail
  refine CW.out.mono ?_
  rintro e v1 ⟨A1, c1, rfl, hl1, hb⟩
  have K1 := Lib.hid (K0.out.below hb)
  have L1 := Lib.hid hl1
  clear hl1 hb CW a0 a1 d0 d1 d2 d3
  have a0 := K1.out.ka.cell 0; have a1 := K1.out.ka.cell 1
  simp only [List.getElem?_toArray, List.getElem?_cons_zero, List.getElem?_cons_succ] at a0 a1
  have C := Lib.hid (ints_yes A1 (some ⟨v1.heap.size, 0, none⟩) c1 2 2 [1, 2] rfl (by decide) (v1.alloc (.cells #[.int .i64 1, .int .i64 2] 3)) (L1.out.below (B1 _ _)) (lies_two' (Blk.new _ _ _)))
  go_wp2_with fail
  refine C.out.mono ?_
  rintro e v2 ⟨rfl, hb⟩
  have K2 := Lib.hid ((K1.out.below (B1 v1 _)).below hb)
  clear hb C a0 a1 L1
  have a0 := K2.out.ka.cell 0; have a1 := K2.out.ka.cell 1
  simp only [List.getElem?_toArray, List.getElem?_cons_zero, List.getElem?_cons_succ] at a0 a1
  have CO := Lib.hid (OD.out v2 K2.out.gr)
  go_wp2_with fail
  refine CO.out.mono ?_
  rintro e v3 ⟨A3, c3, rfl, hl3, hb⟩
  have K3 := Lib.hid (K2.out.below hb)
  have L3 := Lib.hid hl3
  clear hl3 hb CO a0 a1
  have a0 := K3.out.ka.cell 0; have a1 := K3.out.ka.cell 1
  simp only [List.getElem?_toArray, List.getElem?_cons_zero, List.getElem?_cons_succ] at a0 a1
  have C := Lib.hid (ints_yes A3 (some ⟨v3.heap.size, 0, none⟩) c3 4 4 [3, 1, 2, 0] rfl (by decide) (v3.alloc (.cells #[.int .i64 3, .int .i64 1, .int .i64 2, .int .i64 0] 3)) (L3.out.below (B1 _ _)) (lies_four (Blk.new _ _ _)))
  go_wp2_with fail
  refine C.out.mono ?_
  rintro e v4 ⟨rfl, hb⟩
  have K4 := Lib.hid ((K3.out.below (B1 v3 _)).below hb)
  clear hb C a0 a1 L3
  have a0 := K4.out.ka.cell 0; have a1 := K4.out.ka.cell 1
  simp only [List.getElem?_toArray, List.getElem?_cons_zero, List.getElem?_cons_succ] at a0 a1
  have CF := Lib.hid (FR.out v4 K4.out.gr)
  go_wp2_with fail
  refine CF.out.mono ?_
  rintro e v5 ⟨rfl, hb⟩
  have K5 := Lib.hid (K4.out.below hb)
  clear hb CF a0 a1
  have CS := Lib.hid (ST.out v5)
  go_wp2_with fail
  refine CS.out.mono ?_
  rintro e v6 ⟨rfl, hb⟩
  have K6 := Lib.hid (K5.out.below hb)
  clear hb CS
  rw [show sName 1 = ⟨#[100, 105, 114, 101, 99, 116]⟩ from rfl]
  go_wp2_with fail
  go_ret
  exact ⟨rfl, K6.out.low⟩
end Go.Proofs.YtmlaepbmdfmgbaaGreat
namespace Go.Proofs.YtmlaepbmdfmgbaaGreat
open Go Go.RowKit
theorem adjG_graph {g : Gr} {a : Nat} (h : a < g.rules.length) : adjG (graphOf g) a = lcal g a := graphOf_at h
theorem To.reach {g : Gr} {i k : Nat} (hi : i < g.rules.length) (h : To (lcal g) i k) : Reach (adjG (graphOf g)) i k := by
  induction h with
  | one h => exact .step rfl (by rw [adjG_graph hi]; exact h) (.one rfl)
  | more h hk ih => exact ih.trans (.step rfl (by rw [adjG_graph h.lt]; exact hk) (.one rfl))
theorem reach_to {g : Gr} (hR : Right g) {a b : Nat} (h : Reach (adjG (graphOf g)) a b) : a = b ∨ To (lcal g) a b := by
  induction h with
  | one _ => exact .inl rfl
  | @step a b c _ h2 _ ih =>
    have ha := ((graphOf_RG hR).inR a b h2).1
    rw [graphOf_len] at ha
    rw [adjG_graph ha] at h2
    rcases ih with rfl | ih
    · exact .inr (.one h2)
    · exact .inr (.head h2 ih)
theorem mem_part {g : Gr} (hR : Right g) {i k : Nat} (hi : i < g.rules.length) : k ∈ ptG (graphOf g) i ↔ k = i ∨ (tB g i k = true ∧ tB g k i = true) := by
  rw [mem_ptG (by rw [graphOf_len]; exact hi), graphOf_len]
  constructor
  · rintro ⟨hk, h1, h2⟩
    rcases reach_to hR h1 with e | h1
    · exact .inl e.symm
    · rcases reach_to hR h2 with e | h2
      · exact .inl e
      · exact .inr ⟨(tB_iff hR hi).2 h1, (tB_iff hR hk).2 h2⟩
  · rintro (rfl | ⟨h1, h2⟩)
    · exact ⟨hi, Tog.refl _ _⟩
    · have t1 := (tB_iff hR hi).1 h1
      exact ⟨t1.lt, t1.reach hi, ((tB_iff hR t1.lt).1 h2).reach t1.lt⟩
theorem selfB_iff {g : Gr} {i : Nat} (hi : i < g.rules.length) : selfB (graphOf g) i = true ↔ i ∈ lcal g i := by
  unfold selfB
  rw [decide_eq_true_iff, adjG_graph hi]
  exact mem_nums
theorem othB_iff {g : Gr} (hR : Right g) {i : Nat} (hi : i < g.rules.length) : othB (graphOf g) i = true ↔ ∃ x, x ∈ ptG (graphOf g) i ∧ x ≠ i := by
  unfold othB
  rw [decide_eq_true_iff]
  exact one_more (ptG_nodup _ _) (ptG_self (graphOf_RG hR) (by rw [graphOf_len]; exact hi))
theorem sortN_ne (G : List (List Nat)) (i : Nat) : sortN G i ≠ 0 ↔ selfB G i = true ∨ othB G i = true := by
  unfold sortN
  cases selfB G i <;> cases othB G i <;> simp
theorem sort_goes {g : Gr} (hR : Right g) {i : Nat} (hi : i < g.rules.length) : sortN (graphOf g) i ≠ 0 ↔ goesB g i = true := by
  rw [sortN_ne, selfB_iff hi, othB_iff hR hi, goesB_iff hR hi]
  constructor
  · rintro (h | ⟨x, hx, hxi⟩)
    · exact (tB_iff hR hi).2 (.one h)
    · rcases (mem_part hR hi).1 hx with e | ⟨h1, h2⟩
      · exact absurd e hxi
      · have t1 := (tB_iff hR hi).1 h1
        exact (tB_iff hR hi).2 (t1.trans ((tB_iff hR t1.lt).1 h2))
  · intro h
    obtain ⟨k, hk, h2⟩ := ((tB_iff hR hi).1 h).first
    by_cases e : k = i
    · subst e; exact .inl hk
    · refine .inr ⟨k, (mem_part hR hi).2 (.inr ⟨(tB_iff hR hi).2 (.one hk), ?_⟩), e⟩
      rcases h2 with h2 | h2
      · exact absurd h2 e
      · exact (tB_iff hR (lcal_lt hk)).2 h2
theorem sortN_self (G : List (List Nat)) (i : Nat) : (sortN G i = 1 ∨ sortN G i = 3) ↔ selfB G i = true := by
  unfold sortN
  cases selfB G i <;> cases othB G i <;> simp
theorem sortN_oth (G : List (List Nat)) (i : Nat) : (sortN G i = 2 ∨ sortN G i = 3) ↔ 1 < (ptG G i).length := by
  have h : othB G i = true ↔ 1 < (ptG G i).length := by unfold othB; rw [decide_eq_true_iff]
  rw [← h]
  unfold sortN
  cases selfB G i <;> cases othB G i <;> simp
theorem okI_of {g : Gr} (hR : Right g) {i : Nat} (hi : i < g.rules.length) : okI g i := ⟨rightB_true.2 hR, by omega, by omega⟩
theorem sofN_at {g : Gr} (hR : Right g) {i : Nat} (hi : i < g.rules.length) : sofN g i = sortN (graphOf g) i := by rw [sofN_yes (okI_of hR hi), Int.toNat_natCast]
theorem allOf_yes {g : Gr} (hR : Right g) : (allOf g).length = g.rules.length ∧ ∀ i, i < g.rules.length → (allOf g).getD i 0 = sortN (graphOf g) i := by
  unfold allOf
  rw [rightB_true.2 hR]
  exact ⟨by simp, fun i hi => by simp [List.getD, hi]⟩
/-- Those with a rule: none, it alone, or more. -/
theorem withOf_len {g : Gr} (hR : Right g) {i : Nat} (hi : i < g.rules.length) : (sortN (graphOf g) i = 0 → withOf g i = []) ∧ (sortN (graphOf g) i ≠ 0 → withOf g i = ptG (graphOf g) i) ∧ (sortN (graphOf g) i = 1 → (withOf g i).length = 1) ∧ (sortN (graphOf g) i = 2 ∨ sortN (graphOf g) i = 3 → 1 < (withOf g i).length) ∧ (withOf g i).length ≤ 64 := by
  have hl : i < (graphOf g).length := by rw [graphOf_len]; exact hi
  have h0 : sortN (graphOf g) i = 0 → withOf g i = [] := fun h => withOf_no fun h2 => h2.2 (by rw [Int.toNat_natCast]; exact h)
  have h1 : sortN (graphOf g) i ≠ 0 → withOf g i = ptG (graphOf g) i := fun h => by rw [withOf_yes (okI_of hR hi) (by rw [Int.toNat_natCast]; exact h), Int.toNat_natCast]
  have hp := ptG_self (graphOf_RG hR) hl
  refine ⟨h0, h1, fun h => ?_, fun h => ?_, ?_⟩
  · rw [h1 (by omega)]
    have : ¬ 1 < (ptG (graphOf g) i).length := fun h2 => by have := (sortN_oth _ _).2 h2; omega
    have := List.length_pos_of_mem hp
    omega
  · rw [h1 (by omega)]
    exact (sortN_oth _ _).1 h
  · by_cases h : sortN (graphOf g) i = 0
    · rw [h0 h]; simp
    · rw [h1 h]; exact ptG_len (graphOf_RG hR) hl
theorem freeB_goes {g : Gr} (hR : Right g) : freeB g = decide (∀ i, i < g.rules.length → goesB g i = false) := by
  unfold freeB
  rw [rightB_true.2 hR, Bool.true_and]
  refine decide_eq_decide.2 (forall_congr' fun i => forall_congr' fun hi => ?_)
  have := sort_goes hR hi
  cases h : goesB g i with
  | true => rw [h] at this; simp only [iff_true] at this; simp [this]
  | false => rw [h] at this; simp only [Bool.false_eq_true, iff_false, Classical.not_not] at this; simp [this]
set_option maxRecDepth 100000 in
theorem sAll_no (g : Gr) (w : World) (hg : Gr.At w g) (hin : Gr.In g) (hr : rightB g = false) : Calls Tryz.prog 13 #[g.val] w fun e w' => e = .returned (.slice none 0 0) ∧ Below w.heap.size w w' := by
  have HB1 := Lib.hid (B1 w (.cells #[.slice g.RA g.rules.length g.rc, .slice g.NA g.nodes.length g.nc] 31))
  have C1 := Lib.hid (sWork_no g _ (hg.below HB1.out) hin hr)
  clear hg hin hr
  show Calls Tryz.prog 13 #[.agg #[.slice g.RA g.rules.length g.rc, .slice g.NA g.nodes.length g.nc]] w _
  go_enter Tryz.func13, Tryz.ntmps13
  go_wp2_with (go_at_call 30; (refine C1.out.mono ?_); rintro e w1 ⟨rfl, hb⟩; have H1 := Lib.hid (bb HB1.out hb); clear hb)
  go_ret
  exact ⟨rfl, H1.out⟩
theorem sOrder_no (g : Gr) (w : World) (hg : Gr.At w g) (hin : Gr.In g) (hc : Capd g) (hr : rightB g = false) : Calls Tryz.prog 14 #[g.val] w fun e w' => e = .returned (.slice none 0 0) ∧ Below w.heap.size w w' := by
  refine (sOrder_any g w hg hin hc).mono ?_
  rintro e w' ⟨⟨v, rfl, _, hn⟩, hb⟩
  rw [hn.2 (by unfold ordOf; rw [hr]; rfl)]
  exact ⟨rfl, hb⟩
end Go.Proofs.YtmlaepbmdfmgbaaGreat

/- A grammar wherever it lies: what left tells of it is the same; the law's example, plainly. Nothing here walks the program. -/
import Derived.Test.YtlbjmkljmhfjdaaGreatD5
import Derived.Test.YtlbjmkljmhfjdaaGreatE6
import Derived.KernelRfl
import Derived.Deep.CutRange
import Derived.Test.YtlbjmkljmhfjdaaGreatD6
import Derived.Test.YtlbjmkljmhfjdaaGreatE2
import Derived.Deep.RegionHeld3
import Derived.Test.YtlbjmkljmhfjdaaGreatD9
set_option linter.unusedSimpArgs false
set_option linter.unusedVariables false
namespace Go.Proofs.YtlbjmkljmhfjdaaGreat
open Go Go.RowKit
theorem fsts_kz (x : Nd) (may : Int → Bool) : fsts x.kz may = fsts x may := rfl
theorem ownF_kz (l : List Nd) (may : Int → Bool) : ∀ (f : Nat) (n : Int), ownF (l.map Nd.kz) may f n = ownF l may f n
  | 0, _ => rfl
  | f + 1, n => by
    unfold ownF
    rw [kz_getD, fsts_kz, show ownF (l.map Nd.kz) may f = ownF l may f from funext (ownF_kz l may f)]
theorem ownN_kz (l : List Nd) (may : Int → Bool) (n : Int) : ownN (l.map Nd.kz) may n = ownN l may n := by
  unfold ownN
  rw [List.length_map, ownF_kz]
theorem callsB_kz (l : List Nd) (may : Int → Bool) (n : Int) (r : Nat) : callsB (l.map Nd.kz) may n r = callsB l may n r := by
  unfold callsB
  rw [ownN_kz]
  congr 1
  funext m
  rw [kz_getD]
  rfl
theorem mayG_kz (g : Gr) : mayG g.kz = mayG g := by
  unfold mayG
  rw [ranks_kz]
  funext n
  exact mayN_kz g.nodes _ n
theorem callsOf_kz (g : Gr) (n : Int) : callsOf g.kz n = callsOf g n := by
  unfold callsOf
  rw [mayG_kz]
  show rowOf' g.rules.length (callsB (g.nodes.map Nd.kz) (mayG g) n) = _
  rw [show callsB (g.nodes.map Nd.kz) (mayG g) n = callsB g.nodes (mayG g) n from funext fun r => callsB_kz _ _ _ r]
theorem lcal_kz (g : Gr) : lcal g.kz = lcal g := by
  funext r
  unfold lcal
  rw [callsOf_kz]
  rfl
theorem graphOf_kz (g : Gr) : graphOf g.kz = graphOf g := by
  unfold graphOf
  rw [lcal_kz]
  rfl
theorem srch_kz (g : Gr) (i : Int) : srch g.kz i = srch g i := by
  unfold srch
  rw [lcal_kz, rightB_kz]
  rfl
theorem toOf_kz (g : Gr) (i : Int) : toOf g.kz i = toOf g i := by
  unfold toOf
  rw [srch_kz]
theorem wayOf_kz (g : Gr) (i k : Int) : wayOf g.kz i k = wayOf g i k := by
  unfold wayOf
  rw [srch_kz]
theorem goesB_kz (g : Gr) (i : Int) : goesB g.kz i = goesB g i := by
  unfold goesB
  rw [wayOf_kz]
/-- The law's example. -/
def lxBl : List (List Nd) := [ofL 7 [ofL 6 [ofL 10 [[callN 1 0]], [callN 0 0], [wordN ⟨#[120]⟩]], ofL 6 [ofL 11 [[callN 2 0]], [leafN 2]]], ofL 6 [[wordN ⟨#[98]⟩], [callN 0 0]], ofL 6 [ofL 8 [[wordN ⟨#[99]⟩]], [callN 2 0]]]
def lxN : List Nd := [⟨7, 0, 0, 0, 0, ⟨#[]⟩, 0, 0, none, 0, [1, 6]⟩, ⟨6, 0, 0, 0, 0, ⟨#[]⟩, 0, 0, none, 0, [2, 4, 5]⟩, ⟨10, 0, 0, 0, 0, ⟨#[]⟩, 0, 0, none, 0, [3]⟩, ⟨5, 0, 0, 0, 0, ⟨#[]⟩, 1, 0, none, 0, []⟩, ⟨5, 0, 0, 0, 0, ⟨#[]⟩, 0, 0, none, 0, []⟩, ⟨4, 0, 0, 0, 0, ⟨#[120]⟩, 0, 0, none, 0, []⟩,
  ⟨6, 0, 0, 0, 0, ⟨#[]⟩, 0, 0, none, 0, [7, 9]⟩, ⟨11, 0, 0, 0, 0, ⟨#[]⟩, 0, 0, none, 0, [8]⟩, ⟨5, 0, 0, 0, 0, ⟨#[]⟩, 2, 0, none, 0, []⟩, ⟨2, 0, 0, 0, 0, ⟨#[]⟩, 0, 0, none, 0, []⟩,
  ⟨6, 0, 0, 0, 0, ⟨#[]⟩, 0, 0, none, 0, [11, 12]⟩, ⟨4, 0, 0, 0, 0, ⟨#[98]⟩, 0, 0, none, 0, []⟩, ⟨5, 0, 0, 0, 0, ⟨#[]⟩, 0, 0, none, 0, []⟩,
  ⟨6, 0, 0, 0, 0, ⟨#[]⟩, 0, 0, none, 0, [14, 16]⟩, ⟨8, 0, 0, 0, 0, ⟨#[]⟩, 0, 0, none, 0, [15]⟩, ⟨4, 0, 0, 0, 0, ⟨#[99]⟩, 0, 0, none, 0, []⟩, ⟨5, 0, 0, 0, 0, ⟨#[]⟩, 2, 0, none, 0, []⟩]
def lxR : List Rl := [⟨⟨#[65]⟩, 0⟩, ⟨⟨#[66]⟩, 10⟩, ⟨⟨#[67]⟩, 13⟩]
theorem lx_gram : gramL lxBl = (lxR, lxN) := by rfl
def lx0 : Gr := ⟨none, 0, lxR, none, 0, lxN⟩
def lxM : Nat → Meas
  | 0 => (10, 4) | 1 => (5, 3) | 2 => (2, 2) | 6 => (4, 3) | 7 => (2, 2) | 10 => (3, 2) | 13 => (4, 3) | 14 => (2, 2) | _ => (1, 1)
theorem lx_right : Right lx0 where
  rules := by decide
  nodes := by decide
  named := by
    intro i hi
    have : i = 0 ∨ i = 1 ∨ i = 2 := by simp [lx0, lxR] at hi; omega
    rcases this with rfl | rfl | rfl
    all_goals exact ⟨by simp [lx0, lxR, nameOk, byteOk, letter], by simp [lx0, lxR, ruleAt, ruleFrom]⟩
  all := by
    intro i hi
    have : i = 0 ∨ i = 1 ∨ i = 2 ∨ i = 3 ∨ i = 4 ∨ i = 5 ∨ i = 6 ∨ i = 7 ∨ i = 8 ∨ i = 9 ∨ i = 10 ∨ i = 11 ∨ i = 12 ∨ i = 13 ∨ i = 14 ∨ i = 15 ∨ i = 16 := by simp [lx0, lxN] at hi; omega
    rw [nodeOk_iff]
    rcases this with rfl | rfl | rfl | rfl | rfl | rfl | rfl | rfl | rfl | rfl | rfl | rfl | rfl | rfl | rfl | rfl | rfl
    all_goals simp [lx0, lxN, lxR, NodeIs, ByteArray.toList_eq, ByteArray.size]
  pre := ⟨lxM, fun m _ hm => by
    have : m = 0 ∨ m = 1 ∨ m = 2 ∨ m = 3 ∨ m = 4 ∨ m = 5 ∨ m = 6 ∨ m = 7 ∨ m = 8 ∨ m = 9 ∨ m = 10 ∨ m = 11 ∨ m = 12 ∨ m = 13 ∨ m = 14 ∨ m = 15 ∨ m = 16 := by simp [lx0, lxN] at hm; omega
    rcases this with rfl | rfl | rfl | rfl | rfl | rfl | rfl | rfl | rfl | rfl | rfl | rfl | rfl | rfl | rfl | rfl | rfl
    all_goals exact ⟨by decide, by decide, by decide, by rfl⟩, by rfl⟩
theorem lx_graph : graphOf lx0 = [[0, 1, 2], [], [2]] := by kernel_rfl
theorem lx_bfs0 : (bfs (lcal lx0) 0).1 = [true, true, true] ++ List.replicate 29 false ∧ (bfs (lcal lx0) 0).2.1 = List.replicate 32 0 := by exact ⟨by kernel_rfl, by kernel_rfl⟩
theorem lx_bfs1 : (bfs (lcal lx0) 1).1 = List.replicate 32 false := by kernel_rfl
theorem lx_bfs2 : (bfs (lcal lx0) 2).1 = [false, false, true] ++ List.replicate 29 false := by kernel_rfl
theorem lx_srch (i : Nat) (h : i < 3) : srch lx0 i = bfs (lcal lx0) i := srch_yes lx_right h
theorem lx_to : toOf lx0 0 = [0, 1, 2] := by
  unfold toOf
  rw [show srch lx0 0 = bfs (lcal lx0) 0 from lx_srch 0 (by decide), lx_bfs0.1]
  rfl
theorem lx_way : wayOf lx0 0 2 = [0, 2] := by
  have e : srch lx0 0 = bfs (lcal lx0) 0 := lx_srch 0 (by decide)
  rw [way_yes (by decide) (by decide) (by rw [e, lx_bfs0.1]; rfl), e]
  unfold wayB
  rw [lx_bfs0.2]
  rfl
theorem lx_goes : goesB lx0 0 = true ∧ goesB lx0 1 = false ∧ goesB lx0 2 = true := by
  have e0 : srch lx0 0 = bfs (lcal lx0) 0 := lx_srch 0 (by decide)
  have e1 : srch lx0 1 = bfs (lcal lx0) 1 := lx_srch 1 (by decide)
  have e2 : srch lx0 2 = bfs (lcal lx0) 2 := lx_srch 2 (by decide)
  unfold goesB
  refine ⟨?_, ?_, ?_⟩
  · rw [way_yes (by decide) (by decide) (by rw [e0, lx_bfs0.1]; rfl)]
    simp [wayB]
  · rw [way_no (fun h => by have := h.2.2; rw [e1, lx_bfs1] at this; exact absurd this (by decide))]
    rfl
  · rw [way_yes (by decide) (by decide) (by rw [e2, lx_bfs2]; rfl)]
    simp [wayB]
end Go.Proofs.YtlbjmkljmhfjdaaGreat
namespace Go.Proofs.YtlbjmkljmhfjdaaGreat
open Go Go.RowKit
theorem lies_three {w : World} {b : Nat} {x y z : Value} {T : TypeId} (h : Blk w b #[x, y, z] T) : Lies w (some ⟨b, 0, none⟩) [x, y, z] := fun _ => ⟨b, 0, rfl, h.lt, fun i hi => by
  have : i = 0 ∨ i = 1 ∨ i = 2 := by simp at hi; omega
  rcases this with rfl | rfl | rfl <;> (rw [Nat.zero_add, h.cell]; rfl)⟩
set_option maxRecDepth 100000 in
set_option maxHeartbeats 8000000 in
theorem lexample_any (w : World) : Calls Tryz.prog 22 #[] w fun e w' => ∃ g : Gr, e = .returned g.val ∧ Gr.At w' g ∧ g.kz = lx0 ∧ Capd g ∧ Below w.heap.size w w' := by
  go_enter Tryz.func22, Tryz.ntmps22
  go_upto_region 1 with fail
  obtain ⟨w0, ew0⟩ : ∃ u, u = w.alloc (.cells #[.slice none 0 0, .slice none 0 0] 25) := ⟨_, rfl⟩
  have HW0 := Lib.hid (show Below w.heap.size w w0 from by rw [ew0]; exact B1 _ _)
  have R_0 := Lib.hid (show Blk w0 w.heap.size #[.slice none 0 0, .slice none 0 0] 25 from by rw [ew0]; exact Blk.new _ _ _)
  rw [← ew0]
  clear ew0
  go_wp2_with fail
  refine (kcall_any 0 0 _).mono ?_
  rintro e w1 ⟨Aa, ca, La, rfl, sa, ba, na, hb⟩
  have Sa := Lib.hid sa
  have Na := Lib.hid na
  have Ba_1 := Lib.hid ba
  have HW1 := Lib.hid (HW0.out.trans (hb.mono HW0.out.size))
  have R_1 := Lib.hid (R_0.out.below' hb)
  clear sa ba na hb
  go_wp2_with fail
  refine (kcall_any 1 0 _).mono ?_
  rintro e w2 ⟨Ab, cb, Lb, rfl, sb, bb, nb, hb⟩
  have Sb := Lib.hid sb
  have Nb := Lib.hid nb
  have Bb_2 := Lib.hid bb
  have Ba_2 := Lib.hid (Ba_1.out.below hb)
  have HW2 := Lib.hid (HW1.out.trans (hb.mono HW1.out.size))
  have R_2 := Lib.hid (R_1.out.below' hb)
  clear sb bb nb hb
  go_wp2_with fail
  refine (kcall_any 2 0 _).mono ?_
  rintro e w3 ⟨Ac, cc, Lc, rfl, sc, bc, nc, hb⟩
  have Sc := Lib.hid sc
  have Nc := Lib.hid nc
  have Bc_3 := Lib.hid bc
  have Ba_3 := Lib.hid (Ba_2.out.below hb)
  have Bb_3 := Lib.hid (Bb_2.out.below hb)
  have HW3 := Lib.hid (HW2.out.trans (hb.mono HW2.out.size))
  have R_3 := Lib.hid (R_2.out.below' hb)
  clear sc bc nc hb
  go_wp2_with fail
  refine (kin_any 10 Ab cb Lb 0 _ Bb_3.out Nb.out (by have h := congrArg List.length Sb.out; simp only [List.length_map] at h; rw [h]; decide) (by decide)).mono ?_
  rintro e w4 ⟨Ad, cd, Ld, rfl, sd, bd, nd, hb⟩
  rw [Sb.out] at sd
  have Sd := Lib.hid sd
  have Nd := Lib.hid nd
  have Bd_4 := Lib.hid bd
  have Ba_4 := Lib.hid (Ba_3.out.below hb)
  have Bb_4 := Lib.hid (Bb_3.out.below hb)
  have Bc_4 := Lib.hid (Bc_3.out.below hb)
  have HW4 := Lib.hid (HW3.out.trans (hb.mono HW3.out.size))
  have R_4 := Lib.hid (R_3.out.below' hb)
  clear sd bd nd hb
  go_wp2_with fail
  refine (word_any ⟨#[120]⟩ (by decide) _).mono ?_
  rintro e w5 ⟨Af, cf, Lf, rfl, sf, bf, nf, hb⟩
  have Sf := Lib.hid sf
  have Nf := Lib.hid nf
  have Bf_5 := Lib.hid bf
  have Ba_5 := Lib.hid (Ba_4.out.below hb)
  have Bb_5 := Lib.hid (Bb_4.out.below hb)
  have Bc_5 := Lib.hid (Bc_4.out.below hb)
  have Bd_5 := Lib.hid (Bd_4.out.below hb)
  have HW5 := Lib.hid (HW4.out.trans (hb.mono HW4.out.size))
  have R_5 := Lib.hid (R_4.out.below' hb)
  clear sf bf nf hb
  have GR := Lib.hid (of_any 6 (some ⟨w5.heap.size, 0, none⟩) [(Ad, cd, Ld), (Aa, ca, La), (Af, cf, Lf)] 3 100000 (w5.alloc (.cells #[.slice Ad Ld.length cd, .slice Aa La.length ca, .slice Af Lf.length cf] 23)) ⟨lies_three (Blk.new _ _ _), fun x hx => by
    simp only [List.mem_cons, List.not_mem_nil, or_false] at hx
    rcases hx with rfl | rfl | rfl
    · exact ⟨(Bd_5.out.mono (by decide)).below (B1 _ _), (by have h := congrArg List.length Sd.out; simp only [List.length_map] at h; rw [h]; decide), Nd.out⟩
    · exact ⟨(Ba_5.out.mono (by decide)).below (B1 _ _), (by have h := congrArg List.length Sa.out; simp only [List.length_map] at h; rw [h]; decide), Na.out⟩
    · exact ⟨(Bf_5.out.mono (by decide)).below (B1 _ _), (by have h := congrArg List.length Sf.out; simp only [List.length_map] at h; rw [h]; decide), Nf.out⟩
    ⟩ (by simp) (by decide))
  simp only [List.length_cons, List.length_nil, Nat.reduceAdd, List.map_cons, List.map_nil, Sd.out, Sa.out, Sf.out] at GR
  go_wp2_with fail
  refine GR.out.mono ?_
  rintro e w6 ⟨Ah, ch, Lh, rfl, sh, bh, nh, _, hb0⟩
  have hb : Below w5.heap.size w5 w6 := (B1 w5 _).trans (hb0.mono (by simp))
  clear hb0 GR
  have Sh := Lib.hid sh
  have Nh := Lib.hid nh
  have Bh_6 := Lib.hid bh
  have Ba_6 := Lib.hid (Ba_5.out.below hb)
  have Bb_6 := Lib.hid (Bb_5.out.below hb)
  have Bc_6 := Lib.hid (Bc_5.out.below hb)
  have Bd_6 := Lib.hid (Bd_5.out.below hb)
  have Bf_6 := Lib.hid (Bf_5.out.below hb)
  have HW6 := Lib.hid (HW5.out.trans (hb.mono HW5.out.size))
  have R_6 := Lib.hid (R_5.out.below' hb)
  clear sh bh nh hb
  go_wp2_with fail
  refine (kin_any 11 Ac cc Lc 0 _ Bc_6.out Nc.out (by have h := congrArg List.length Sc.out; simp only [List.length_map] at h; rw [h]; decide) (by decide)).mono ?_
  rintro e w7 ⟨Ai, ci, Li, rfl, si, bi, ni, hb⟩
  rw [Sc.out] at si
  have Si := Lib.hid si
  have Ni := Lib.hid ni
  have Bi_7 := Lib.hid bi
  have Ba_7 := Lib.hid (Ba_6.out.below hb)
  have Bb_7 := Lib.hid (Bb_6.out.below hb)
  have Bc_7 := Lib.hid (Bc_6.out.below hb)
  have Bd_7 := Lib.hid (Bd_6.out.below hb)
  have Bf_7 := Lib.hid (Bf_6.out.below hb)
  have Bh_7 := Lib.hid (Bh_6.out.below hb)
  have HW7 := Lib.hid (HW6.out.trans (hb.mono HW6.out.size))
  have R_7 := Lib.hid (R_6.out.below' hb)
  clear si bi ni hb
  go_wp2_with fail
  refine (leaf_any 2 _).mono ?_
  rintro e w8 ⟨Aj, cj, Lj, rfl, sj, bj, nj, hb⟩
  have Sj := Lib.hid sj
  have Nj := Lib.hid nj
  have Bj_8 := Lib.hid bj
  have Ba_8 := Lib.hid (Ba_7.out.below hb)
  have Bb_8 := Lib.hid (Bb_7.out.below hb)
  have Bc_8 := Lib.hid (Bc_7.out.below hb)
  have Bd_8 := Lib.hid (Bd_7.out.below hb)
  have Bf_8 := Lib.hid (Bf_7.out.below hb)
  have Bh_8 := Lib.hid (Bh_7.out.below hb)
  have Bi_8 := Lib.hid (Bi_7.out.below hb)
  have HW8 := Lib.hid (HW7.out.trans (hb.mono HW7.out.size))
  have R_8 := Lib.hid (R_7.out.below' hb)
  clear sj bj nj hb
  go_wp2_with fail
  refine (chain_any Ai ci Li Aj cj Lj 100000 _ (Bi_8.out.mono (K' := 100000) (by decide)) (Bj_8.out.mono (K' := 100000) (by decide)) Ni.out Nj.out (by have h := congrArg List.length Si.out; simp only [List.length_map] at h; rw [h]; decide) (by have h := congrArg List.length Sj.out; simp only [List.length_map] at h; rw [h]; decide) (by decide)).mono ?_
  rintro e w9 ⟨Ak, ck, Lk, rfl, sk, bk, nk, hb⟩
  rw [Si.out] at sk
  rw [Sj.out] at sk
  have Sk := Lib.hid sk
  have Nk := Lib.hid nk
  have Bk_9 := Lib.hid bk
  have Ba_9 := Lib.hid (Ba_8.out.below hb)
  have Bb_9 := Lib.hid (Bb_8.out.below hb)
  have Bc_9 := Lib.hid (Bc_8.out.below hb)
  have Bd_9 := Lib.hid (Bd_8.out.below hb)
  have Bf_9 := Lib.hid (Bf_8.out.below hb)
  have Bh_9 := Lib.hid (Bh_8.out.below hb)
  have Bi_9 := Lib.hid (Bi_8.out.below hb)
  have Bj_9 := Lib.hid (Bj_8.out.below hb)
  have HW9 := Lib.hid (HW8.out.trans (hb.mono HW8.out.size))
  have R_9 := Lib.hid (R_8.out.below' hb)
  clear sk bk nk hb
  go_wp2_with fail
  refine (first_any Ah ch Lh Ak ck Lk 200000 _ (Bh_9.out.mono (K' := 200000) (by decide)) (Bk_9.out.mono (K' := 200000) (by decide)) Nh.out Nk.out (by have h := congrArg List.length Sh.out; simp only [List.length_map] at h; rw [h]; decide) (by have h := congrArg List.length Sk.out; simp only [List.length_map] at h; rw [h]; decide) (by decide)).mono ?_
  rintro e w10 ⟨Ag1, cg1, Lg1, rfl, sg1, bg1, ng1, hb⟩
  rw [Sh.out] at sg1
  rw [Sk.out] at sg1
  have Sg1 := Lib.hid sg1
  have Ng1 := Lib.hid ng1
  have Bg1_10 := Lib.hid bg1
  have Ba_10 := Lib.hid (Ba_9.out.below hb)
  have Bb_10 := Lib.hid (Bb_9.out.below hb)
  have Bc_10 := Lib.hid (Bc_9.out.below hb)
  have Bd_10 := Lib.hid (Bd_9.out.below hb)
  have Bf_10 := Lib.hid (Bf_9.out.below hb)
  have Bh_10 := Lib.hid (Bh_9.out.below hb)
  have Bi_10 := Lib.hid (Bi_9.out.below hb)
  have Bj_10 := Lib.hid (Bj_9.out.below hb)
  have Bk_10 := Lib.hid (Bk_9.out.below hb)
  have HW10 := Lib.hid (HW9.out.trans (hb.mono HW9.out.size))
  have R_10 := Lib.hid (R_9.out.below' hb)
  clear sg1 bg1 ng1 hb
  go_wp2_with fail
  refine (word_any ⟨#[98]⟩ (by decide) _).mono ?_
  rintro e w11 ⟨Am, cm, Lm, rfl, sm, bm, nm, hb⟩
  have Sm := Lib.hid sm
  have Nm := Lib.hid nm
  have Bm_11 := Lib.hid bm
  have Ba_11 := Lib.hid (Ba_10.out.below hb)
  have Bb_11 := Lib.hid (Bb_10.out.below hb)
  have Bc_11 := Lib.hid (Bc_10.out.below hb)
  have Bd_11 := Lib.hid (Bd_10.out.below hb)
  have Bf_11 := Lib.hid (Bf_10.out.below hb)
  have Bh_11 := Lib.hid (Bh_10.out.below hb)
  have Bi_11 := Lib.hid (Bi_10.out.below hb)
  have Bj_11 := Lib.hid (Bj_10.out.below hb)
  have Bk_11 := Lib.hid (Bk_10.out.below hb)
  have Bg1_11 := Lib.hid (Bg1_10.out.below hb)
  have HW11 := Lib.hid (HW10.out.trans (hb.mono HW10.out.size))
  have R_11 := Lib.hid (R_10.out.below' hb)
  clear sm bm nm hb
  go_wp2_with fail
  refine (chain_any Am cm Lm Aa ca La 0 _ (Bm_11.out.mono (K' := 0) (by decide)) (Ba_11.out.mono (K' := 0) (by decide)) Nm.out Na.out (by have h := congrArg List.length Sm.out; simp only [List.length_map] at h; rw [h]; decide) (by have h := congrArg List.length Sa.out; simp only [List.length_map] at h; rw [h]; decide) (by decide)).mono ?_
  rintro e w12 ⟨Ag2, cg2, Lg2, rfl, sg2, bg2, ng2, hb⟩
  rw [Sm.out] at sg2
  rw [Sa.out] at sg2
  have Sg2 := Lib.hid sg2
  have Ng2 := Lib.hid ng2
  have Bg2_12 := Lib.hid bg2
  have Ba_12 := Lib.hid (Ba_11.out.below hb)
  have Bb_12 := Lib.hid (Bb_11.out.below hb)
  have Bc_12 := Lib.hid (Bc_11.out.below hb)
  have Bd_12 := Lib.hid (Bd_11.out.below hb)
  have Bf_12 := Lib.hid (Bf_11.out.below hb)
  have Bh_12 := Lib.hid (Bh_11.out.below hb)
  have Bi_12 := Lib.hid (Bi_11.out.below hb)
  have Bj_12 := Lib.hid (Bj_11.out.below hb)
  have Bk_12 := Lib.hid (Bk_11.out.below hb)
  have Bg1_12 := Lib.hid (Bg1_11.out.below hb)
  have Bm_12 := Lib.hid (Bm_11.out.below hb)
  have HW12 := Lib.hid (HW11.out.trans (hb.mono HW11.out.size))
  have R_12 := Lib.hid (R_11.out.below' hb)
  clear sg2 bg2 ng2 hb
  go_wp2_with fail
  refine (word_any ⟨#[99]⟩ (by decide) _).mono ?_
  rintro e w13 ⟨An, cn, Ln, rfl, sn, bn, nn, hb⟩
  have Sn := Lib.hid sn
  have Nn := Lib.hid nn
  have Bn_13 := Lib.hid bn
  have Ba_13 := Lib.hid (Ba_12.out.below hb)
  have Bb_13 := Lib.hid (Bb_12.out.below hb)
  have Bc_13 := Lib.hid (Bc_12.out.below hb)
  have Bd_13 := Lib.hid (Bd_12.out.below hb)
  have Bf_13 := Lib.hid (Bf_12.out.below hb)
  have Bh_13 := Lib.hid (Bh_12.out.below hb)
  have Bi_13 := Lib.hid (Bi_12.out.below hb)
  have Bj_13 := Lib.hid (Bj_12.out.below hb)
  have Bk_13 := Lib.hid (Bk_12.out.below hb)
  have Bg1_13 := Lib.hid (Bg1_12.out.below hb)
  have Bm_13 := Lib.hid (Bm_12.out.below hb)
  have Bg2_13 := Lib.hid (Bg2_12.out.below hb)
  have HW13 := Lib.hid (HW12.out.trans (hb.mono HW12.out.size))
  have R_13 := Lib.hid (R_12.out.below' hb)
  clear sn bn nn hb
  go_wp2_with fail
  refine (kin_any 8 An cn Ln 0 _ Bn_13.out Nn.out (by have h := congrArg List.length Sn.out; simp only [List.length_map] at h; rw [h]; decide) (by decide)).mono ?_
  rintro e w14 ⟨Ap, cp, Lp, rfl, sp, bp, np, hb⟩
  rw [Sn.out] at sp
  have Sp := Lib.hid sp
  have Np := Lib.hid np
  have Bp_14 := Lib.hid bp
  have Ba_14 := Lib.hid (Ba_13.out.below hb)
  have Bb_14 := Lib.hid (Bb_13.out.below hb)
  have Bc_14 := Lib.hid (Bc_13.out.below hb)
  have Bd_14 := Lib.hid (Bd_13.out.below hb)
  have Bf_14 := Lib.hid (Bf_13.out.below hb)
  have Bh_14 := Lib.hid (Bh_13.out.below hb)
  have Bi_14 := Lib.hid (Bi_13.out.below hb)
  have Bj_14 := Lib.hid (Bj_13.out.below hb)
  have Bk_14 := Lib.hid (Bk_13.out.below hb)
  have Bg1_14 := Lib.hid (Bg1_13.out.below hb)
  have Bm_14 := Lib.hid (Bm_13.out.below hb)
  have Bg2_14 := Lib.hid (Bg2_13.out.below hb)
  have Bn_14 := Lib.hid (Bn_13.out.below hb)
  have HW14 := Lib.hid (HW13.out.trans (hb.mono HW13.out.size))
  have R_14 := Lib.hid (R_13.out.below' hb)
  clear sp bp np hb
  go_wp2_with fail
  refine (chain_any Ap cp Lp Ac cc Lc 100000 _ (Bp_14.out.mono (K' := 100000) (by decide)) (Bc_14.out.mono (K' := 100000) (by decide)) Np.out Nc.out (by have h := congrArg List.length Sp.out; simp only [List.length_map] at h; rw [h]; decide) (by have h := congrArg List.length Sc.out; simp only [List.length_map] at h; rw [h]; decide) (by decide)).mono ?_
  rintro e w15 ⟨Ag3, cg3, Lg3, rfl, sg3, bg3, ng3, hb⟩
  rw [Sp.out] at sg3
  rw [Sc.out] at sg3
  have Sg3 := Lib.hid sg3
  have Ng3 := Lib.hid ng3
  have Bg3_15 := Lib.hid bg3
  have Ba_15 := Lib.hid (Ba_14.out.below hb)
  have Bb_15 := Lib.hid (Bb_14.out.below hb)
  have Bc_15 := Lib.hid (Bc_14.out.below hb)
  have Bd_15 := Lib.hid (Bd_14.out.below hb)
  have Bf_15 := Lib.hid (Bf_14.out.below hb)
  have Bh_15 := Lib.hid (Bh_14.out.below hb)
  have Bi_15 := Lib.hid (Bi_14.out.below hb)
  have Bj_15 := Lib.hid (Bj_14.out.below hb)
  have Bk_15 := Lib.hid (Bk_14.out.below hb)
  have Bg1_15 := Lib.hid (Bg1_14.out.below hb)
  have Bm_15 := Lib.hid (Bm_14.out.below hb)
  have Bg2_15 := Lib.hid (Bg2_14.out.below hb)
  have Bn_15 := Lib.hid (Bn_14.out.below hb)
  have Bp_15 := Lib.hid (Bp_14.out.below hb)
  have HW15 := Lib.hid (HW14.out.trans (hb.mono HW14.out.size))
  have R_15 := Lib.hid (R_14.out.below' hb)
  clear sg3 bg3 ng3 hb
  have GR := Lib.hid (gram_any (some ⟨w15.heap.size, 0, none⟩) [(Ag1, cg1, Lg1), (Ag2, cg2, Lg2), (Ag3, cg3, Lg3)] 3 300000 (w15.alloc (.cells #[.slice Ag1 Lg1.length cg1, .slice Ag2 Lg2.length cg2, .slice Ag3 Lg3.length cg3] 23)) ⟨lies_three (Blk.new _ _ _), fun x hx => by
    simp only [List.mem_cons, List.not_mem_nil, or_false] at hx
    rcases hx with rfl | rfl | rfl
    · exact ⟨(Bg1_15.out.mono (by decide)).below (B1 _ _), (by have h := congrArg List.length Sg1.out; simp only [List.length_map] at h; rw [h]; decide), Ng1.out⟩
    · exact ⟨(Bg2_15.out.mono (by decide)).below (B1 _ _), (by have h := congrArg List.length Sg2.out; simp only [List.length_map] at h; rw [h]; decide), Ng2.out⟩
    · exact ⟨(Bg3_15.out.mono (by decide)).below (B1 _ _), (by have h := congrArg List.length Sg3.out; simp only [List.length_map] at h; rw [h]; decide), Ng3.out⟩
    ⟩ (by simp) (by decide))
  simp only [List.length_cons, List.length_nil, Nat.reduceAdd, List.map_cons, List.map_nil, Sg1.out, Sg2.out, Sg3.out] at GR
  go_wp2_with fail
  refine GR.out.mono ?_
  rintro e wg ⟨g, rfl, hst, hsp, hkl, hcp, hb⟩
  have HST := Lib.hid hst
  have HSP := Lib.hid hsp
  have HCP := Lib.hid hcp
  have RG := Lib.hid (show Blk wg w.heap.size #[.slice none 0 0, .slice none 0 0] 25 from ((R_15.out.alloc _).below' hb))
  have HWG := Lib.hid (show Below w.heap.size w wg from (HW15.out.alloc HW15.out.size _).trans (hb.mono (by have := HW15.out.size; simp; omega)))
  have HLO := Lib.hid (show w.heap.size < w15.heap.size from R_15.out.lt)
  clear hst hsp hkl hcp hb GR
  go_wp2_with (refine wpList_store_whole rfl 25 (.tmp 0) (.tmp 26) rfl w.heap.size #[.slice g.RA g.rules.length g.rc, .slice g.NA g.nodes.length g.nc] rfl rfl 25 _ RG.out (by kernel_rfl) (by rfl) (by simp [Value.oneCell']) ?_; intro w5 hk5 hg5; have K5 := Lib.hid hk5; have G5 := Lib.hid hg5; clear hk5 hg5)
  refine bodyPost_ret (results_cell_row rfl _ _ w.heap.size 25 _ (0, 0) _ rfl K5.out Tryz.underlying25 rfl (by kernel_rfl)) rfl ?_
  exact ⟨g, rfl, HST.out w5 G5.out.size (fun b h1 h2 => G5.out.block b h2 (fun e => by have := HLO.out; cases e; simp at h1; omega)), kz_of (HSP.out.trans lx_gram), HCP.out, grown_below HWG.out HWG.out.size G5.out (fun k e => by cases e; exact Nat.le_refl _)⟩
end Go.Proofs.YtlbjmkljmhfjdaaGreat
namespace Go.Proofs.YtlbjmkljmhfjdaaGreat
open Go Go.RowKit Go.Maps
set_option maxRecDepth 100000 in
set_option maxHeartbeats 2000000 in
theorem size12_any (g : Gr) (w : World) (hg : Gr.At w g) : Calls Tryz.prog 8 #[g.val] w fun e w' => (∃ z : Int, e = .returned (.int .i64 z)) ∧ Below w.heap.size w w' := by
  have HG := Lib.hid hg
  have h1 := hg.rl
  have h2 := hg.nl
  obtain ⟨RA, rc, rules, NA, nc, nodes⟩ := g
  dsimp only at h1 h2
  obtain ⟨m, em⟩ : ∃ m, m = nodes.length := ⟨_, rfl⟩
  obtain ⟨r, er⟩ : ∃ m, m = rules.length := ⟨_, rfl⟩
  show Calls Tryz.prog 8 #[.agg #[.slice RA rules.length rc, .slice NA nodes.length nc]] w _
  have EM := Lib.hid em
  rw [← em, ← er]
  rw [← em] at h2
  rw [← er] at h1
  clear hg em er
  go_enter Tryz.func8, Tryz.ntmps8
  go_wp2_with fail
  obtain ⟨wb, ewb⟩ : ∃ u, u = w.alloc (.cells #[.slice RA r rc, .slice NA m nc] 25) := ⟨_, rfl⟩
  have hb2 : Below w.heap.size w wb := by rw [ewb]; exact B1 _ _
  have c0 : wb.cell? ⟨w.heap.size, 0, none⟩ = some (.slice RA r rc) := by rw [ewb]; exact (Blk.new _ _ _).cell 0
  have c1 : wb.cell? ⟨w.heap.size, 1, none⟩ = some (.slice NA m nc) := by rw [ewb]; exact (Blk.new _ _ _).cell 1
  rw [← ewb]
  have BB := Lib.hid hb2
  clear ewb hb2
  go_loopw [3, 4] (fun s i wr => ∃ (k : Nat) (n : Int), k ≤ m ∧ s = .int .i64 n ∧ i = .int .i64 k ∧ n ≤ 500000000000000 ∧ 0 ≤ n ∧ wr = wb) (fun _ i _ => m - (intOf i).toNat)
  case atStart => exact ⟨0, r + m, by omega, rfl, rfl, by omega, by omega, rfl⟩
  case round =>
    obtain ⟨k, n, hk, rfl, rfl, hn, hn0, rfl⟩ := hrel
    by_cases hlt : k < m
    · have hlt2 : (k : Int) < m := by omega
      by_cases hle : n ≤ 300
      · obtain ⟨b1, o1, eA, _, _, _, _, _, _, _, _, _, c9⟩ := (HG.out.below BB.out).nodes.nine (show k < nodes.length by have := EM.out; omega)
        have hx := ((HG.out.below BB.out).node (show k < nodes.length by have := EM.out; omega)).2.2
        dsimp only at eA c9 hx
        rw [eA] at c1
        generalize nodes.getD k Nd.zero = x at c9 hx
        clear eA
        go_wp2_with fail
        go_roundw
        case rel => exact ⟨k + 1, n + x.kids.length, by omega, by first | rfl | go_num, by go_num, by omega, by omega, by first | trivial | rfl⟩
        case measure => simp [intOf]; omega
      · have hle2 : 300 < n := by omega
        go_wp2_with fail
        go_ret
        exact ⟨⟨n, rfl⟩, BB.out⟩
    · obtain rfl : k = m := by omega
      have hlt2 : ¬ (k : Int) < k := by omega
      go_wp2_with fail
      go_ret
      exact ⟨⟨n, rfl⟩, BB.out⟩
theorem lsame_any (A B : Option Addr) (c d : Nat) (a b : List Int) (ha : a.length ≤ 140737488351232) (hb : b.length ≤ 140737488351232) (w : World) (hA : Lies w A (ints a)) (hB : Lies w B (ints b)) :
    Calls Tryz.prog 24 #[.slice A a.length c, .slice B b.length d] w fun e w' => e = .returned (.bool (decide (a = b))) ∧ Below w.heap.size w w' := by
  have I := Lib.hid (ints_same A B c d a b ha hb w hA hB)
  generalize decide (a = b) = bo at I ⊢
  obtain ⟨x, ex⟩ : ∃ x, x = a.length := ⟨_, rfl⟩
  obtain ⟨y, ey⟩ : ∃ x, x = b.length := ⟨_, rfl⟩
  rw [← ex, ← ey] at I ⊢
  clear hA hB ex ey
  go_enter Tryz.func24, Tryz.ntmps24
  go_wp2_with (go_at_call 58; with_reducible refine I.out.mono ?_; rintro e w1 ⟨rfl, n, rfl⟩)
  go_ret
  exact ⟨rfl, bdrew (Below.refl _ _)⟩
def hasN (a : List Int) (k : Int) (j : Nat) : Bool := (a.take j).any fun x => x == k
theorem hasN_next {a : List Int} {k : Int} {j : Nat} (h : j < a.length) : hasN a k (j + 1) = (hasN a k j || (a.getD j 0 == k)) := by
  unfold hasN; rw [take_one h, any_one]
theorem hasN_all (a : List Int) (k : Int) : hasN a k a.length = decide (k ∈ a) := by
  unfold hasN
  rw [List.take_length, Bool.eq_iff_iff]
  simp
end Go.Proofs.YtlbjmkljmhfjdaaGreat
namespace Go.Proofs.YtlbjmkljmhfjdaaGreat
open Go Go.RowKit
/-- What the example stands on. -/
structure Awk (w W : World) (g : Gr) (kb gb : Nat) (A0 A1 A2 : Option Addr) (c0 c1 c2 : Nat) : Prop where
  ka : Blk W kb #[.slice g.RA g.rules.length g.rc, .slice g.NA g.nodes.length g.nc] 25
  gr : Gr.At W g
  xb : Blk W gb #[.slice A0 3 c0, .slice A1 0 c1, .slice A2 1 c2] 38
  x0 : Lies W A0 (ints [0, 1, 2])
  x2 : Lies W A2 (ints [2])
  low : Below w.heap.size w W
theorem Awk.below {w W W' : World} {g : Gr} {kb gb : Nat} {A0 A1 A2 : Option Addr} {c0 c1 c2 : Nat} (h : Awk w W g kb gb A0 A1 A2 c0 c1 c2) (hb : Below W.heap.size W W') : Awk w W' g kb gb A0 A1 A2 c0 c1 c2 :=
  ⟨h.ka.below' hb, h.gr.below hb, h.xb.below' hb, h.x0.below hb, h.x2.below hb, h.low.trans (hb.mono h.low.size)⟩
theorem lx_in : Gr.In lx0 := by
  intro x hx
  simp only [lx0, lxN, List.mem_cons, List.not_mem_nil, or_false] at hx
  rcases hx with rfl | rfl | rfl | rfl | rfl | rfl | rfl | rfl | rfl | rfl | rfl | rfl | rfl | rfl | rfl | rfl | rfl
  all_goals exact ⟨by decide, by decide⟩
theorem lsame_yes (A B : Option Addr) (c d n : Nat) (a : List Int) (ha : a.length = n) (hn : n ≤ 1000) (w : World) (hA : Lies w A (ints a)) (hB : Lies w B (ints a)) :
    Calls Tryz.prog 24 #[.slice A n c, .slice B n d] w fun e w' => e = .returned (.bool true) ∧ Below w.heap.size w w' := by
  have := lsame_any A B c d a a (by omega) (by omega) w hA hB
  rw [ha, decide_eq_true rfl] at this
  exact this
theorem row_told {w w' : World} {L M : List Nat} {e : Ending} (h : Row w L e w') (hL : L = M) : ∃ A c, e = .returned (.slice A M.length c) ∧ Lies w' A (ints (nums M)) ∧ Below w.heap.size w w' := by
  subst hL
  obtain ⟨⟨v, rfl, ho, hn⟩, hb⟩ := h
  obtain ⟨A, c, rfl, _, _⟩ := own_slice ho
  exact ⟨A, c, rfl, own_lies1 ho, hb⟩
set_option maxRecDepth 100000 in
set_option maxHeartbeats 8000000 in
theorem lawake_any (w : World) : Calls Tryz.prog 9 #[] w fun e w' => e = .returned (.bool true) ∧ Below w.heap.size w w' := by
  go_enter Tryz.func9, Tryz.ntmps9
  go_upto_region 2 with (first | (go_at_call 22; (refine (lexample_any _).mono ?_); rintro e w1 ⟨g, rfl, h1, h2, h3, hb⟩; have GA := Lib.hid h1; have EA := Lib.hid h2; have CP := Lib.hid h3; have HWa := Lib.hid (show Below w.heap.size w w1 from hb); clear h1 h2 h3 hb) | (refine wpList_store_whole rfl 25 (.tmp 1) (.tmp 3) rfl w1.heap.size #[.slice g.RA g.rules.length g.rc, .slice g.NA g.nodes.length g.nc] rfl rfl 25 _ (Blk.new _ _ _) (by kernel_rfl) (by rfl) (by simp [Value.oneCell']) ?_; intro w2 hk2 hg2; have KA := Lib.hid hk2; have HG2 := Lib.hid (grown_below (B1 w1 _) (by simp) hg2 (fun k e => by cases e; exact Nat.le_refl _)); clear hk2 hg2))
  have HW2 := Lib.hid (show Below w.heap.size w w2 from HWa.out.trans (HG2.out.mono HWa.out.size))
  have GA2 := Lib.hid (GA.out.below HG2.out)
  obtain ⟨kb, ekb⟩ : ∃ u, u = w1.heap.size := ⟨_, rfl⟩
  rw [← ekb] at KA ⊢
  have KA2 := Lib.hid (show Blk w2 kb #[.slice g.RA g.rules.length g.rc, .slice g.NA g.nodes.length g.nc] 25 from KA.out)
  have hR : Right g := (right_kz g).1 (by rw [EA.out]; exact lx_right)
  have hin : Gr.In g := in_of EA.out lx_in
  have hr3 : g.rules.length = 3 := by
    have : g.kz.rules.length = 3 := by rw [EA.out]; rfl
    exact this
  have GR := Lib.hid (show Calls Tryz.prog 23 #[.agg #[.slice g.RA g.rules.length g.rc, .slice g.NA g.nodes.length g.nc]] w2 (fun e w' => ∃ gb vs, e = .returned (.slice (some ⟨gb, 0, none⟩) 3 3) ∧ Rows2 w2 w' gb vs [[0, 1, 2], [], [2]]) from by
    have := graph_any g w2 GA2.out hin CP.out hR
    rw [show graphOf g = [[0, 1, 2], [], [2]] from by rw [← graphOf_kz, EA.out]; exact lx_graph] at this
    refine this.mono ?_
    rintro e w' ⟨gb, vs, h1, h2⟩
    exact ⟨gb, vs, by rw [h1, hr3], h2⟩)
  have TOX := Lib.hid (fun (W : World) (h : Gr.At W g) => (to_any g 0 (by decide) W h hin CP.out).mono (fun e w' h => row_told h (M := [0, 1, 2]) (by rw [← toOf_kz, EA.out]; exact lx_to)))
  have WAX := Lib.hid (fun (W : World) (h : Gr.At W g) => (way_any g 0 2 (by decide) (by decide) W h hin CP.out).mono (fun e w' h => row_told h (M := [0, 2]) (by rw [← wayOf_kz, EA.out]; exact lx_way)))
  have GO0 := Lib.hid (fun (W : World) (h : Gr.At W g) => by have := goes_any g 0 (by decide) W h hin CP.out; rw [← goesB_kz, EA.out, lx_goes.1] at this; exact this)
  have GO1 := Lib.hid (fun (W : World) (h : Gr.At W g) => by have := goes_any g 1 (by decide) W h hin CP.out; rw [← goesB_kz, EA.out, lx_goes.2.1] at this; exact this)
  have GO2 := Lib.hid (fun (W : World) (h : Gr.At W g) => by have := goes_any g 2 (by decide) W h hin CP.out; rw [← goesB_kz, EA.out, lx_goes.2.2] at this; exact this)
  have q0 := KA2.out.cell 0
  have q1 := KA2.out.cell 1
  simp only [List.getElem?_toArray, List.getElem?_cons_zero, List.getElem?_cons_succ] at q0 q1
  clear hR hin ekb hr3 KA GA HWa HG2
  go_wp2_with fail
  refine GR.out.mono ?_
  rintro e v0 ⟨gb, vs, rfl, hr⟩
  obtain ⟨u0, u1, u2, rfl⟩ : ∃ u0 u1 u2, vs = [u0, u1, u2] := by
    have hl := hr.len
    match vs, hl with
    | [a, b, c], _ => exact ⟨a, b, c, rfl⟩
  have r0 := hr.row 0 (by decide)
  have r1 := hr.row 1 (by decide)
  have r2 := hr.row 2 (by decide)
  obtain ⟨A0, c0, e0, _, _⟩ := own_slice r0
  obtain ⟨A1, c1, e1, _, _⟩ := own_slice r1
  obtain ⟨A2, c2, e2, _, _⟩ := own_slice r2
  simp only [List.getD_cons_zero, List.getD_cons_succ, List.length_cons, List.length_nil] at e0 e1 e2
  subst e0 e1 e2
  have K_0 := Lib.hid (show Awk w v0 g kb gb A0 A1 A2 c0 c1 c2 from ⟨KA2.out.below' hr.low, GA2.out.below hr.low, hr.blk, own_lies1 r0, own_lies1 r2, HW2.out.trans (hr.low.mono HW2.out.size)⟩)
  clear hr r0 r1 r2 GR q0 q1 KA2 HW2 GA2
  have a0 := K_0.out.ka.cell 0; have a1 := K_0.out.ka.cell 1; have b0 := K_0.out.xb.cell 0; have b1 := K_0.out.xb.cell 1; have b2 := K_0.out.xb.cell 2
  simp only [List.getElem?_toArray, List.getElem?_cons_zero, List.getElem?_cons_succ] at a0 a1 b0 b1 b2
  have C := Lib.hid (lsame_yes A0 (some ⟨v0.heap.size, 0, none⟩) c0 3 3 [0, 1, 2] rfl (by decide) (v0.alloc (.cells #[.int .i64 0, .int .i64 1, .int .i64 2] 3)) (K_0.out.x0.below (B1 _ _)) (lies_three (Blk.new _ _ _)))
  go_wp2_with fail
  refine C.out.mono ?_
  rintro e v1 ⟨rfl, hb⟩
  have K_1 := Lib.hid ((K_0.out.below (B1 v0 _)).below hb)
  clear hb C a0 a1 b0 b1 b2
  have a0 := K_1.out.ka.cell 0; have a1 := K_1.out.ka.cell 1; have b0 := K_1.out.xb.cell 0; have b1 := K_1.out.xb.cell 1; have b2 := K_1.out.xb.cell 2
  simp only [List.getElem?_toArray, List.getElem?_cons_zero, List.getElem?_cons_succ] at a0 a1 b0 b1 b2
  have C := Lib.hid (lsame_yes A2 (some ⟨v1.heap.size, 0, none⟩) c2 1 1 [2] rfl (by decide) (v1.alloc (.cells #[.int .i64 2] 3)) (K_1.out.x2.below (B1 _ _)) (lies_one (Blk.new _ _ _)))
  go_wp2_with fail
  refine C.out.mono ?_
  rintro e v2 ⟨rfl, hb⟩
  have K_2 := Lib.hid ((K_1.out.below (B1 v1 _)).below hb)
  clear hb C a0 a1 b0 b1 b2
  have a0 := K_2.out.ka.cell 0; have a1 := K_2.out.ka.cell 1; have b0 := K_2.out.xb.cell 0; have b1 := K_2.out.xb.cell 1; have b2 := K_2.out.xb.cell 2
  simp only [List.getElem?_toArray, List.getElem?_cons_zero, List.getElem?_cons_succ] at a0 a1 b0 b1 b2
  go_wp2_with fail
  refine (TOX.out v2 K_2.out.gr).mono ?_
  rintro e v3 ⟨At, ct, rfl, hl, hb⟩
  have K_3 := Lib.hid (K_2.out.below hb); have Lt := Lib.hid hl
  clear hb hl a0 a1 b0 b1 b2
  have a0 := K_3.out.ka.cell 0; have a1 := K_3.out.ka.cell 1; have b0 := K_3.out.xb.cell 0; have b1 := K_3.out.xb.cell 1; have b2 := K_3.out.xb.cell 2
  simp only [List.getElem?_toArray, List.getElem?_cons_zero, List.getElem?_cons_succ] at a0 a1 b0 b1 b2
  have C := Lib.hid (lsame_yes At (some ⟨v3.heap.size, 0, none⟩) ct 3 3 [0, 1, 2] rfl (by decide) (v3.alloc (.cells #[.int .i64 0, .int .i64 1, .int .i64 2] 3)) (Lt.out.below (B1 _ _)) (lies_three (Blk.new _ _ _)))
  go_wp2_with fail
  refine C.out.mono ?_
  rintro e v4 ⟨rfl, hb⟩
  have K_4 := Lib.hid ((K_3.out.below (B1 v3 _)).below hb)
  clear hb C a0 a1 b0 b1 b2
  have a0 := K_4.out.ka.cell 0; have a1 := K_4.out.ka.cell 1; have b0 := K_4.out.xb.cell 0; have b1 := K_4.out.xb.cell 1; have b2 := K_4.out.xb.cell 2
  simp only [List.getElem?_toArray, List.getElem?_cons_zero, List.getElem?_cons_succ] at a0 a1 b0 b1 b2
  go_wp2_with fail
  refine (GO0.out v4 K_4.out.gr).mono ?_
  rintro e v5 ⟨rfl, hb⟩
  have K_5 := Lib.hid (K_4.out.below hb)
  clear hb a0 a1 b0 b1 b2
  have a0 := K_5.out.ka.cell 0; have a1 := K_5.out.ka.cell 1; have b0 := K_5.out.xb.cell 0; have b1 := K_5.out.xb.cell 1; have b2 := K_5.out.xb.cell 2
  simp only [List.getElem?_toArray, List.getElem?_cons_zero, List.getElem?_cons_succ] at a0 a1 b0 b1 b2
  go_wp2_with fail
  refine (GO1.out v5 K_5.out.gr).mono ?_
  rintro e v6 ⟨rfl, hb⟩
  have K_6 := Lib.hid (K_5.out.below hb)
  clear hb a0 a1 b0 b1 b2
  have a0 := K_6.out.ka.cell 0; have a1 := K_6.out.ka.cell 1; have b0 := K_6.out.xb.cell 0; have b1 := K_6.out.xb.cell 1; have b2 := K_6.out.xb.cell 2
  simp only [List.getElem?_toArray, List.getElem?_cons_zero, List.getElem?_cons_succ] at a0 a1 b0 b1 b2
  go_wp2_with fail
  refine (GO2.out v6 K_6.out.gr).mono ?_
  rintro e v7 ⟨rfl, hb⟩
  have K_7 := Lib.hid (K_6.out.below hb)
  clear hb a0 a1 b0 b1 b2
  have a0 := K_7.out.ka.cell 0; have a1 := K_7.out.ka.cell 1; have b0 := K_7.out.xb.cell 0; have b1 := K_7.out.xb.cell 1; have b2 := K_7.out.xb.cell 2
  simp only [List.getElem?_toArray, List.getElem?_cons_zero, List.getElem?_cons_succ] at a0 a1 b0 b1 b2
  go_wp2_with fail
  refine (WAX.out v7 K_7.out.gr).mono ?_
  rintro e v8 ⟨Ay, cy, rfl, hl, hb⟩
  have K_8 := Lib.hid (K_7.out.below hb); have Ly := Lib.hid hl
  clear hb hl a0 a1 b0 b1 b2
  have a0 := K_8.out.ka.cell 0; have a1 := K_8.out.ka.cell 1; have b0 := K_8.out.xb.cell 0; have b1 := K_8.out.xb.cell 1; have b2 := K_8.out.xb.cell 2
  simp only [List.getElem?_toArray, List.getElem?_cons_zero, List.getElem?_cons_succ] at a0 a1 b0 b1 b2
  have C := Lib.hid (lsame_yes Ay (some ⟨v8.heap.size, 0, none⟩) cy 2 2 [0, 2] rfl (by decide) (v8.alloc (.cells #[.int .i64 0, .int .i64 2] 3)) (Ly.out.below (B1 _ _)) (lies_two' (Blk.new _ _ _)))
  go_wp2_with fail
  refine C.out.mono ?_
  rintro e v9 ⟨rfl, hb⟩
  have K_9 := Lib.hid ((K_8.out.below (B1 v8 _)).below hb)
  clear hb C a0 a1 b0 b1 b2
  have a0 := K_9.out.ka.cell 0; have a1 := K_9.out.ka.cell 1; have b0 := K_9.out.xb.cell 0; have b1 := K_9.out.xb.cell 1; have b2 := K_9.out.xb.cell 2
  simp only [List.getElem?_toArray, List.getElem?_cons_zero, List.getElem?_cons_succ] at a0 a1 b0 b1 b2
  go_wp2_with fail
  go_ret
  exact ⟨rfl, K_9.out.low⟩
end Go.Proofs.YtlbjmkljmhfjdaaGreat
namespace Go.Proofs.YtlbjmkljmhfjdaaGreat
open Go Go.Proofs Go.RowKit Go.Lib Go.Maps
end Go.Proofs.YtlbjmkljmhfjdaaGreat
namespace Go.Proofs.YtlbjmkljmhfjdaaGreat
open Go Go.RowKit Go.Maps
set_option maxRecDepth 100000 in
set_option maxHeartbeats 4000000 in
theorem put_ints (B bb : Nat) (c0 c1 lv : Value) (cs : List Value) (vs : List Value) (A : Option Addr) (n c : Nat) (w : World) (hB : B ≤ w.heap.size) (hb : Blk w bb (c0 :: c1 :: lv :: cs).toArray 121) (ho : w.ownsRow B 38 1 lv vs.length vs) (hn : vs.length ≤ 100000) :
    Calls Tryz.prog 110 #[.pointer (some ⟨bb, 0, none⟩), .slice A n c] w fun e w' => e = .returned (.tuple #[]) ∧ ∃ lv' w1, w1.ownsRow B 38 1 lv' (vs.length + 1) (vs ++ [.slice A n c]) ∧ (w.alloc (.cells #[.slice A n c] 38)).grownBy w1 lv.ownBlock ∧ Blk w1 bb (c0 :: c1 :: lv :: cs).toArray 121 ∧ w' = w1.setCell ⟨bb, 2, none⟩ lv' := by
  obtain ⟨i1, ji, jz0, jz1, jz2⟩ := info_parts Tryz.info_s
  obtain ⟨A0, d0, e0, _, _⟩ := own_slice ho
  subst e0
  have HBB := Lib.hid hb
  have k2 := hb.cell 2
  simp only [List.getElem?_toArray, List.getElem?_cons_zero, List.getElem?_cons_succ] at k2
  have B1' := Lib.hid (B1 w (.cells #[.slice A n c] 38))
  have O1 := Lib.hid (own_below ho B1'.out)
  have hHB := hB
  have HO := Lib.hid ho
  clear hb ho
  go_enter Tryz.func110, Tryz.ntmps110
  go_wp2_with (at_builtin; refine wpList_append_view rfl _ _ 31 rfl B 38 i1 (.slice none 0 0) 1 24 Tryz.underlying31 ji jz0 jz1 jz2 rfl (by decide) _ _ _ rfl O1.out ⟨w.heap.size, 0, none⟩ 1 1 [.slice A n c] rfl rfl (cell_one_new _ _ _) (by simp [Value.oneCell']) (by unfold maxLen; omega) (by omega) (by simp; omega) ?_; intro lv' w1 hown hview hgrow hcase; obtain ⟨Ag, cg, eg, _, _⟩ := own_slice hown; subst eg; have OW := Lib.hid hown; have GW := Lib.hid hgrow; have KB := Lib.hid ((HBB.out.below' B1'.out).grown hgrow (fun e => own_ne O1.out (HBB.out.below' B1'.out) (by decide) e.symm)); have ck := KB.out.cell 2; have fk := KB.out.frozen 2; simp only [List.getElem?_toArray, List.getElem?_cons_zero, List.getElem?_cons_succ] at ck; clear hown hview hgrow hcase)
  refine bodyPost_end (results_none rfl _ _ _) rfl ?_
  exact ⟨rfl, _, _, OW.out, GW.out, KB.out, rfl⟩
end Go.Proofs.YtlbjmkljmhfjdaaGreat

/- A grammar wherever it lies: what null tells of it is the same. Nothing here walks the program. -/
import Derived.Test.YtjelgmdjmjnnfaaGreatD3
import Derived.Test.YtjelgmdjmjnnfaaGreatC3
import Derived.KernelRfl
import Derived.Deep.CutRange
import Derived.Test.YtjelgmdjmjnnfaaGreatB4
set_option linter.unusedSimpArgs false
set_option linter.unusedVariables false
namespace Go.Proofs.YtjelgmdjmjnnfaaGreat
open Go Go.RowKit
def Gr.kz (g : Gr) : Gr := ⟨none, 0, g.rules, none, 0, g.nodes.map Nd.kz⟩
theorem kz_getD (l : List Nd) (n : Nat) : (l.map Nd.kz).getD n Nd.zero = (l.getD n Nd.zero).kz := by
  simp only [List.getD, List.getElem?_map]
  cases l[n]? <;> rfl
theorem mayF_kz (l : List Nd) (inn : Int → Bool) : ∀ (f : Nat) (n : Int), mayF (l.map Nd.kz) inn f n = mayF l inn f n
  | 0, _ => rfl
  | f + 1, n => by
    unfold mayF
    rw [kz_getD, show mayF (l.map Nd.kz) inn f = mayF l inn f from funext (mayF_kz l inn f)]
    rfl
theorem mayN_kz (l : List Nd) (inn : Int → Bool) (n : Int) : mayN (l.map Nd.kz) inn n = mayN l inn n := by
  unfold mayN
  rw [List.length_map, mayF_kz]
theorem rk_kz (g : Gr) : ∀ k, rk g.kz k = rk g k
  | 0 => rfl
  | k + 1 => by
    unfold rk
    rw [rk_kz g k]
    have e : comB g.kz (rk g k) = comB g (rk g k) := by
      funext i
      unfold comB
      show (!inB (rk g k) i && mayN (g.nodes.map Nd.kz) (inB (rk g k)) _) = _
      rw [mayN_kz]
      rfl
    rw [e]
    rfl
theorem ranks_kz (g : Gr) : ranks g.kz = ranks g := rk_kz g _
theorem climb_kz (l : List Nd) (n : Nat) : kidsOf (l.map Nd.kz) n = kidsOf l n := by
  unfold kidsOf
  rw [kz_getD]
  rfl
theorem right_kz (g : Gr) : Right g.kz ↔ Right g := by
  have hl : g.kz.nodes.length = g.nodes.length := List.length_map _
  have hA : AllRight g.kz.nodes g.kz.rules.length ↔ AllRight g.nodes g.rules.length := by
    unfold AllRight
    rw [hl]
    refine forall_congr' fun i => ?_
    refine imp_congr_right fun hi => ?_
    show nodeOk ((g.nodes.map Nd.kz).getD i Nd.zero) g.rules.length = true ↔ _
    rw [kz_getD, nodeOk_iff, nodeOk_iff]
    exact Iff.rfl
  have hM : ∀ ms, Measured g.kz.nodes ms 0 ↔ Measured g.nodes ms 0 := fun ms => by
    unfold Measured
    rw [hl]
    refine forall_congr' fun m => ?_
    show (_ → _ → _ ∧ _ ∧ _ ∧ climb _ ms (kidsOf (g.nodes.map Nd.kz) m) _ _ = _) ↔ _
    rw [climb_kz]
  constructor
  · intro h
    exact ⟨h.rules, by rw [← hl]; exact h.nodes, h.named, hA.1 h.all, by
      obtain ⟨ms, a, b⟩ := h.pre
      exact ⟨ms, (hM ms).1 a, by rw [hl] at b; exact b⟩⟩
  · intro h
    exact ⟨h.rules, by rw [hl]; exact h.nodes, h.named, hA.2 h.all, by
      obtain ⟨ms, a, b⟩ := h.pre
      exact ⟨ms, (hM ms).2 a, by rw [hl]; exact b⟩⟩
theorem rightB_kz (g : Gr) : rightB g.kz = rightB g := by
  rw [Bool.eq_iff_iff, rightB_true, rightB_true, right_kz]
theorem rankOf_kz (g : Gr) (i : Int) : rankOf g.kz i = rankOf g i := by
  unfold rankOf
  rw [rightB_kz, ranks_kz]
  rfl
theorem nodeB_kz (g : Gr) (n : Int) : nodeB g.kz n = nodeB g n := by
  unfold nodeB
  rw [rightB_kz, ranks_kz]
  show (_ && (decide (0 ≤ n ∧ n < ((g.nodes.map Nd.kz).length : Int)) && mayN (g.nodes.map Nd.kz) _ n)) = _
  rw [List.length_map, mayN_kz]
theorem nodesOf_kz (g : Gr) : nodesOf g.kz = nodesOf g := by
  unfold nodesOf
  rw [rightB_kz, ranks_kz]
  show (if _ then rowOf' (g.nodes.map Nd.kz).length (fun n => mayN (g.nodes.map Nd.kz) _ n) else _) = _
  rw [List.length_map]
  have : (fun n : Nat => mayN (g.nodes.map Nd.kz) (inB (ranks g)) n) = fun n : Nat => mayN g.nodes (inB (ranks g)) n := funext fun n => mayN_kz _ _ _
  rw [this]
/-- By its rules and its nodes, wherever they lie. -/
theorem kz_of {g : Gr} {R : List Rl} {N : List Nd} (h : (g.rules, g.nodes.map Nd.kz) = (R, N)) : g.kz = ⟨none, 0, R, none, 0, N⟩ := by
  simp only [Prod.mk.injEq] at h
  unfold Gr.kz
  rw [h.1, h.2]
/-- The law's example. -/
def exBl : List (List Nd) := [ofL 7 [ofL 6 [[callN 1 0], [callN 2 0]], [wordN ⟨#[97]⟩]], ofL 10 [[wordN ⟨#[98]⟩]], ofL 6 [ofL 8 [[callN 1 0]], ofL 9 [[callN 3 0]]], ofL 7 [ofL 11 [[callN 0 0]], [leafN 2]]]
def exN : List Nd := [⟨7, 0, 0, 0, 0, ⟨#[]⟩, 0, 0, none, 0, [1, 4]⟩, ⟨6, 0, 0, 0, 0, ⟨#[]⟩, 0, 0, none, 0, [2, 3]⟩, ⟨5, 0, 0, 0, 0, ⟨#[]⟩, 1, 0, none, 0, []⟩, ⟨5, 0, 0, 0, 0, ⟨#[]⟩, 2, 0, none, 0, []⟩, ⟨4, 0, 0, 0, 0, ⟨#[97]⟩, 0, 0, none, 0, []⟩,
  ⟨10, 0, 0, 0, 0, ⟨#[]⟩, 0, 0, none, 0, [6]⟩, ⟨4, 0, 0, 0, 0, ⟨#[98]⟩, 0, 0, none, 0, []⟩,
  ⟨6, 0, 0, 0, 0, ⟨#[]⟩, 0, 0, none, 0, [8, 10]⟩, ⟨8, 0, 0, 0, 0, ⟨#[]⟩, 0, 0, none, 0, [9]⟩, ⟨5, 0, 0, 0, 0, ⟨#[]⟩, 1, 0, none, 0, []⟩, ⟨9, 0, 0, 0, 0, ⟨#[]⟩, 0, 0, none, 0, [11]⟩, ⟨5, 0, 0, 0, 0, ⟨#[]⟩, 3, 0, none, 0, []⟩,
  ⟨7, 0, 0, 0, 0, ⟨#[]⟩, 0, 0, none, 0, [13, 15]⟩, ⟨11, 0, 0, 0, 0, ⟨#[]⟩, 0, 0, none, 0, [14]⟩, ⟨5, 0, 0, 0, 0, ⟨#[]⟩, 0, 0, none, 0, []⟩, ⟨2, 0, 0, 0, 0, ⟨#[]⟩, 0, 0, none, 0, []⟩]
def exR : List Rl := [⟨⟨#[65]⟩, 0⟩, ⟨⟨#[66]⟩, 5⟩, ⟨⟨#[67]⟩, 7⟩, ⟨⟨#[68]⟩, 12⟩]
theorem ex_gram : gramL exBl = (exR, exN) := by rfl
def ex0 : Gr := ⟨none, 0, exR, none, 0, exN⟩
def exM : Nat → Meas
  | 0 => (5, 3) | 1 => (3, 2) | 5 => (2, 2) | 7 => (5, 3) | 8 => (2, 2) | 10 => (2, 2) | 12 => (4, 3) | 13 => (2, 2) | _ => (1, 1)
theorem ex_right : Right ex0 where
  rules := by decide
  nodes := by decide
  named := by
    intro i hi
    have : i = 0 ∨ i = 1 ∨ i = 2 ∨ i = 3 := by simp [ex0, exR] at hi; omega
    rcases this with rfl | rfl | rfl | rfl
    all_goals exact ⟨by simp [ex0, exR, nameOk, byteOk, letter], by simp [ex0, exR, ruleAt, ruleFrom]⟩
  all := by
    intro i hi
    have : i = 0 ∨ i = 1 ∨ i = 2 ∨ i = 3 ∨ i = 4 ∨ i = 5 ∨ i = 6 ∨ i = 7 ∨ i = 8 ∨ i = 9 ∨ i = 10 ∨ i = 11 ∨ i = 12 ∨ i = 13 ∨ i = 14 ∨ i = 15 := by simp [ex0, exN] at hi; omega
    rw [nodeOk_iff]
    rcases this with rfl | rfl | rfl | rfl | rfl | rfl | rfl | rfl | rfl | rfl | rfl | rfl | rfl | rfl | rfl | rfl
    all_goals simp [ex0, exN, exR, NodeIs, ByteArray.toList_eq, ByteArray.size]
  pre := ⟨exM, fun m _ hm => by
    have : m = 0 ∨ m = 1 ∨ m = 2 ∨ m = 3 ∨ m = 4 ∨ m = 5 ∨ m = 6 ∨ m = 7 ∨ m = 8 ∨ m = 9 ∨ m = 10 ∨ m = 11 ∨ m = 12 ∨ m = 13 ∨ m = 14 ∨ m = 15 := by simp [ex0, exN] at hm; omega
    rcases this with rfl | rfl | rfl | rfl | rfl | rfl | rfl | rfl | rfl | rfl | rfl | rfl | rfl | rfl | rfl | rfl
    all_goals exact ⟨by decide, by decide, by decide, by rfl⟩, by rfl⟩
theorem ex_ranks : ranks ex0 = [3, 1, 2, 1] := by kernel_rfl
theorem ex_rank : rankOf ex0 0 = 3 ∧ rankOf ex0 1 = 1 ∧ rankOf ex0 2 = 2 ∧ rankOf ex0 3 = 1 := by
  have h := rightB_true.2 ex_right
  unfold rankOf
  rw [h, ex_ranks]
  exact ⟨by rfl, by rfl, by rfl, by rfl⟩
/-- A rule that calls itself alone; that, or nothing. -/
def al0 : Gr := ⟨none, 0, [⟨⟨#[65]⟩, 0⟩], none, 0, [callN 0 0]⟩
def al1 : Gr := ⟨none, 0, [⟨⟨#[65]⟩, 0⟩], none, 0, [⟨7, 0, 0, 0, 0, ⟨#[]⟩, 0, 0, none, 0, [1, 2]⟩, callN 0 0, leafN 1]⟩
theorem al0_gram : gramL [[callN 0 0]] = (al0.rules, al0.nodes) := by rfl
theorem al1_gram : gramL [ofL 7 [[callN 0 0], [leafN 1]]] = (al1.rules, al1.nodes) := by rfl
theorem al0_right : Right al0 where
  rules := by decide
  nodes := by decide
  named := by
    intro i hi
    have : i = 0 := by simp [al0] at hi; omega
    subst this
    exact ⟨by simp [al0, nameOk, byteOk, letter], by simp [al0, ruleAt, ruleFrom]⟩
  all := by
    intro i hi
    have : i = 0 := by simp [al0] at hi; omega
    subst this
    rw [nodeOk_iff]
    simp [al0, callN, Nd.zero, NodeIs, ByteArray.toList_eq, ByteArray.size]
  pre := ⟨fun _ => (1, 1), fun m _ hm => by
    have : m = 0 := by simp [al0] at hm; omega
    subst this
    exact ⟨by decide, by decide, by decide, by rfl⟩, by rfl⟩
theorem al1_right : Right al1 where
  rules := by decide
  nodes := by decide
  named := by
    intro i hi
    have : i = 0 := by simp [al1] at hi; omega
    subst this
    exact ⟨by simp [al1, nameOk, byteOk, letter], by simp [al1, ruleAt, ruleFrom]⟩
  all := by
    intro i hi
    have : i = 0 ∨ i = 1 ∨ i = 2 := by simp [al1] at hi; omega
    rw [nodeOk_iff]
    rcases this with rfl | rfl | rfl
    all_goals simp [al1, callN, leafN, Nd.zero, NodeIs, ByteArray.toList_eq, ByteArray.size]
  pre := ⟨fun m => if m = 0 then (3, 2) else (1, 1), fun m _ hm => by
    have : m = 0 ∨ m = 1 ∨ m = 2 := by simp [al1] at hm; omega
    rcases this with rfl | rfl | rfl
    all_goals exact ⟨by decide, by decide, by decide, by rfl⟩, by rfl⟩
theorem al0_tells : rankOf al0 0 = 0 ∧ nodesOf al0 = [] := by
  have h := rightB_true.2 al0_right
  have e : ranks al0 = [0] := by kernel_rfl
  unfold rankOf nodesOf
  rw [h, e]
  exact ⟨by rfl, by kernel_rfl⟩
theorem al1_tells : rankOf al1 0 = 1 ∧ nodeB al1 2 = true := by
  have h := rightB_true.2 al1_right
  have e : ranks al1 = [1] := by kernel_rfl
  unfold rankOf nodeB
  rw [h, e]
  exact ⟨by rfl, by kernel_rfl⟩
end Go.Proofs.YtjelgmdjmjnnfaaGreat
namespace Go.Proofs.YtjelgmdjmjnnfaaGreat
open Go Go.RowKit
theorem lies_four {w : World} {b : Nat} {x y z u : Value} {T : TypeId} (h : Blk w b #[x, y, z, u] T) : Lies w (some ⟨b, 0, none⟩) [x, y, z, u] := fun _ => ⟨b, 0, rfl, h.lt, fun i hi => by
  have : i = 0 ∨ i = 1 ∨ i = 2 ∨ i = 3 := by simp at hi; omega
  rcases this with rfl | rfl | rfl | rfl <;> (rw [Nat.zero_add, h.cell]; rfl)⟩
set_option maxRecDepth 100000 in
set_option maxHeartbeats 8000000 in
theorem example_any (w : World) : Calls Tryz.prog 29 #[] w fun e w' => ∃ g : Gr, e = .returned g.val ∧ Gr.At w' g ∧ g.kz = ex0 ∧ (∀ x ∈ g.nodes, x.kids.length ≤ 1000) ∧ Below w.heap.size w w' := by
  go_enter Tryz.func29, Tryz.ntmps29
  go_upto_region 1 with fail
  obtain ⟨w0, ew0⟩ : ∃ u, u = w.alloc (.cells #[.slice none 0 0, .slice none 0 0] 25) := ⟨_, rfl⟩
  have HW0 := Lib.hid (show Below w.heap.size w w0 from by rw [ew0]; exact B1 _ _)
  have R_0 := Lib.hid (show Blk w0 w.heap.size #[.slice none 0 0, .slice none 0 0] 25 from by rw [ew0]; exact Blk.new _ _ _)
  rw [← ew0]
  clear ew0
  go_wp2_with fail
  refine (kcall_any 1 0 _).mono ?_
  rintro e w1 ⟨Ab, cb, Lb, rfl, sb, bb, nb, hb⟩
  have Sb := Lib.hid sb
  have Nb := Lib.hid nb
  have Bb_1 := Lib.hid bb
  have HW1 := Lib.hid (HW0.out.trans (hb.mono HW0.out.size))
  have R_1 := Lib.hid (R_0.out.below' hb)
  clear sb bb nb hb
  go_wp2_with fail
  refine (kcall_any 2 0 _).mono ?_
  rintro e w2 ⟨Ac, cc, Lc, rfl, sc, bc, nc, hb⟩
  have Sc := Lib.hid sc
  have Nc := Lib.hid nc
  have Bc_2 := Lib.hid bc
  have Bb_2 := Lib.hid (Bb_1.out.below hb)
  have HW2 := Lib.hid (HW1.out.trans (hb.mono HW1.out.size))
  have R_2 := Lib.hid (R_1.out.below' hb)
  clear sc bc nc hb
  go_wp2_with fail
  refine (kcall_any 3 0 _).mono ?_
  rintro e w3 ⟨Ad, cd, Ld, rfl, sd, bd, nd, hb⟩
  have Sd := Lib.hid sd
  have Nd := Lib.hid nd
  have Bd_3 := Lib.hid bd
  have Bb_3 := Lib.hid (Bb_2.out.below hb)
  have Bc_3 := Lib.hid (Bc_2.out.below hb)
  have HW3 := Lib.hid (HW2.out.trans (hb.mono HW2.out.size))
  have R_3 := Lib.hid (R_2.out.below' hb)
  clear sd bd nd hb
  go_wp2_with fail
  refine (chain_any Ab cb Lb Ac cc Lc 0 _ (Bb_3.out.mono (K' := 0) (by decide)) (Bc_3.out.mono (K' := 0) (by decide)) Nb.out Nc.out (by have h := congrArg List.length Sb.out; simp only [List.length_map] at h; rw [h]; decide) (by have h := congrArg List.length Sc.out; simp only [List.length_map] at h; rw [h]; decide) (by decide)).mono ?_
  rintro e w4 ⟨Ae, ce, Le, rfl, se, be, ne, hb⟩
  rw [Sb.out] at se
  rw [Sc.out] at se
  have Se := Lib.hid se
  have Ne := Lib.hid ne
  have Be_4 := Lib.hid be
  have Bb_4 := Lib.hid (Bb_3.out.below hb)
  have Bc_4 := Lib.hid (Bc_3.out.below hb)
  have Bd_4 := Lib.hid (Bd_3.out.below hb)
  have HW4 := Lib.hid (HW3.out.trans (hb.mono HW3.out.size))
  have R_4 := Lib.hid (R_3.out.below' hb)
  clear se be ne hb
  go_wp2_with fail
  refine (word_any ⟨#[97]⟩ (by decide) _).mono ?_
  rintro e w5 ⟨Af, cf, Lf, rfl, sf, bf, nf, hb⟩
  have Sf := Lib.hid sf
  have Nf := Lib.hid nf
  have Bf_5 := Lib.hid bf
  have Bb_5 := Lib.hid (Bb_4.out.below hb)
  have Bc_5 := Lib.hid (Bc_4.out.below hb)
  have Bd_5 := Lib.hid (Bd_4.out.below hb)
  have Be_5 := Lib.hid (Be_4.out.below hb)
  have HW5 := Lib.hid (HW4.out.trans (hb.mono HW4.out.size))
  have R_5 := Lib.hid (R_4.out.below' hb)
  clear sf bf nf hb
  go_wp2_with fail
  refine (first_any Ae ce Le Af cf Lf 100000 _ (Be_5.out.mono (K' := 100000) (by decide)) (Bf_5.out.mono (K' := 100000) (by decide)) Ne.out Nf.out (by have h := congrArg List.length Se.out; simp only [List.length_map] at h; rw [h]; decide) (by have h := congrArg List.length Sf.out; simp only [List.length_map] at h; rw [h]; decide) (by decide)).mono ?_
  rintro e w6 ⟨Ag1, cg1, Lg1, rfl, sg1, bg1, ng1, hb⟩
  rw [Se.out] at sg1
  rw [Sf.out] at sg1
  have Sg1 := Lib.hid sg1
  have Ng1 := Lib.hid ng1
  have Bg1_6 := Lib.hid bg1
  have Bb_6 := Lib.hid (Bb_5.out.below hb)
  have Bc_6 := Lib.hid (Bc_5.out.below hb)
  have Bd_6 := Lib.hid (Bd_5.out.below hb)
  have Be_6 := Lib.hid (Be_5.out.below hb)
  have Bf_6 := Lib.hid (Bf_5.out.below hb)
  have HW6 := Lib.hid (HW5.out.trans (hb.mono HW5.out.size))
  have R_6 := Lib.hid (R_5.out.below' hb)
  clear sg1 bg1 ng1 hb
  go_wp2_with fail
  refine (word_any ⟨#[98]⟩ (by decide) _).mono ?_
  rintro e w7 ⟨Ah, ch, Lh, rfl, sh, bh, nh, hb⟩
  have Sh := Lib.hid sh
  have Nh := Lib.hid nh
  have Bh_7 := Lib.hid bh
  have Bb_7 := Lib.hid (Bb_6.out.below hb)
  have Bc_7 := Lib.hid (Bc_6.out.below hb)
  have Bd_7 := Lib.hid (Bd_6.out.below hb)
  have Be_7 := Lib.hid (Be_6.out.below hb)
  have Bf_7 := Lib.hid (Bf_6.out.below hb)
  have Bg1_7 := Lib.hid (Bg1_6.out.below hb)
  have HW7 := Lib.hid (HW6.out.trans (hb.mono HW6.out.size))
  have R_7 := Lib.hid (R_6.out.below' hb)
  clear sh bh nh hb
  go_wp2_with fail
  refine (kin_any 10 Ah ch Lh 0 _ Bh_7.out Nh.out (by have h := congrArg List.length Sh.out; simp only [List.length_map] at h; rw [h]; decide) (by decide)).mono ?_
  rintro e w8 ⟨Ai, ci, Li, rfl, si, bi, ni, hb⟩
  rw [Sh.out] at si
  have Si := Lib.hid si
  have Ni := Lib.hid ni
  have Bi_8 := Lib.hid bi
  have Bb_8 := Lib.hid (Bb_7.out.below hb)
  have Bc_8 := Lib.hid (Bc_7.out.below hb)
  have Bd_8 := Lib.hid (Bd_7.out.below hb)
  have Be_8 := Lib.hid (Be_7.out.below hb)
  have Bf_8 := Lib.hid (Bf_7.out.below hb)
  have Bg1_8 := Lib.hid (Bg1_7.out.below hb)
  have Bh_8 := Lib.hid (Bh_7.out.below hb)
  have HW8 := Lib.hid (HW7.out.trans (hb.mono HW7.out.size))
  have R_8 := Lib.hid (R_7.out.below' hb)
  clear si bi ni hb
  go_wp2_with fail
  refine (kin_any 8 Ab cb Lb 0 _ Bb_8.out Nb.out (by have h := congrArg List.length Sb.out; simp only [List.length_map] at h; rw [h]; decide) (by decide)).mono ?_
  rintro e w9 ⟨Aj, cj, Lj, rfl, sj, bj, nj, hb⟩
  rw [Sb.out] at sj
  have Sj := Lib.hid sj
  have Nj := Lib.hid nj
  have Bj_9 := Lib.hid bj
  have Bb_9 := Lib.hid (Bb_8.out.below hb)
  have Bc_9 := Lib.hid (Bc_8.out.below hb)
  have Bd_9 := Lib.hid (Bd_8.out.below hb)
  have Be_9 := Lib.hid (Be_8.out.below hb)
  have Bf_9 := Lib.hid (Bf_8.out.below hb)
  have Bg1_9 := Lib.hid (Bg1_8.out.below hb)
  have Bh_9 := Lib.hid (Bh_8.out.below hb)
  have Bi_9 := Lib.hid (Bi_8.out.below hb)
  have HW9 := Lib.hid (HW8.out.trans (hb.mono HW8.out.size))
  have R_9 := Lib.hid (R_8.out.below' hb)
  clear sj bj nj hb
  go_wp2_with fail
  refine (kin_any 9 Ad cd Ld 0 _ Bd_9.out Nd.out (by have h := congrArg List.length Sd.out; simp only [List.length_map] at h; rw [h]; decide) (by decide)).mono ?_
  rintro e w10 ⟨Ak, ck, Lk, rfl, sk, bk, nk, hb⟩
  rw [Sd.out] at sk
  have Sk := Lib.hid sk
  have Nk := Lib.hid nk
  have Bk_10 := Lib.hid bk
  have Bb_10 := Lib.hid (Bb_9.out.below hb)
  have Bc_10 := Lib.hid (Bc_9.out.below hb)
  have Bd_10 := Lib.hid (Bd_9.out.below hb)
  have Be_10 := Lib.hid (Be_9.out.below hb)
  have Bf_10 := Lib.hid (Bf_9.out.below hb)
  have Bg1_10 := Lib.hid (Bg1_9.out.below hb)
  have Bh_10 := Lib.hid (Bh_9.out.below hb)
  have Bi_10 := Lib.hid (Bi_9.out.below hb)
  have Bj_10 := Lib.hid (Bj_9.out.below hb)
  have HW10 := Lib.hid (HW9.out.trans (hb.mono HW9.out.size))
  have R_10 := Lib.hid (R_9.out.below' hb)
  clear sk bk nk hb
  go_wp2_with fail
  refine (chain_any Aj cj Lj Ak ck Lk 100000 _ (Bj_10.out.mono (K' := 100000) (by decide)) (Bk_10.out.mono (K' := 100000) (by decide)) Nj.out Nk.out (by have h := congrArg List.length Sj.out; simp only [List.length_map] at h; rw [h]; decide) (by have h := congrArg List.length Sk.out; simp only [List.length_map] at h; rw [h]; decide) (by decide)).mono ?_
  rintro e w11 ⟨Al, cl, Ll, rfl, sl, bl, nl, hb⟩
  rw [Sj.out] at sl
  rw [Sk.out] at sl
  have Sl := Lib.hid sl
  have Nl := Lib.hid nl
  have Bl_11 := Lib.hid bl
  have Bb_11 := Lib.hid (Bb_10.out.below hb)
  have Bc_11 := Lib.hid (Bc_10.out.below hb)
  have Bd_11 := Lib.hid (Bd_10.out.below hb)
  have Be_11 := Lib.hid (Be_10.out.below hb)
  have Bf_11 := Lib.hid (Bf_10.out.below hb)
  have Bg1_11 := Lib.hid (Bg1_10.out.below hb)
  have Bh_11 := Lib.hid (Bh_10.out.below hb)
  have Bi_11 := Lib.hid (Bi_10.out.below hb)
  have Bj_11 := Lib.hid (Bj_10.out.below hb)
  have Bk_11 := Lib.hid (Bk_10.out.below hb)
  have HW11 := Lib.hid (HW10.out.trans (hb.mono HW10.out.size))
  have R_11 := Lib.hid (R_10.out.below' hb)
  clear sl bl nl hb
  go_wp2_with fail
  refine (kcall_any 0 0 _).mono ?_
  rintro e w12 ⟨Am, cm, Lm, rfl, sm, bm, nm, hb⟩
  have Sm := Lib.hid sm
  have Nm := Lib.hid nm
  have Bm_12 := Lib.hid bm
  have Bb_12 := Lib.hid (Bb_11.out.below hb)
  have Bc_12 := Lib.hid (Bc_11.out.below hb)
  have Bd_12 := Lib.hid (Bd_11.out.below hb)
  have Be_12 := Lib.hid (Be_11.out.below hb)
  have Bf_12 := Lib.hid (Bf_11.out.below hb)
  have Bg1_12 := Lib.hid (Bg1_11.out.below hb)
  have Bh_12 := Lib.hid (Bh_11.out.below hb)
  have Bi_12 := Lib.hid (Bi_11.out.below hb)
  have Bj_12 := Lib.hid (Bj_11.out.below hb)
  have Bk_12 := Lib.hid (Bk_11.out.below hb)
  have Bl_12 := Lib.hid (Bl_11.out.below hb)
  have HW12 := Lib.hid (HW11.out.trans (hb.mono HW11.out.size))
  have R_12 := Lib.hid (R_11.out.below' hb)
  clear sm bm nm hb
  go_wp2_with fail
  refine (kin_any 11 Am cm Lm 0 _ Bm_12.out Nm.out (by have h := congrArg List.length Sm.out; simp only [List.length_map] at h; rw [h]; decide) (by decide)).mono ?_
  rintro e w13 ⟨Ap, cp, Lp, rfl, sp, bp, np, hb⟩
  rw [Sm.out] at sp
  have Sp := Lib.hid sp
  have Np := Lib.hid np
  have Bp_13 := Lib.hid bp
  have Bb_13 := Lib.hid (Bb_12.out.below hb)
  have Bc_13 := Lib.hid (Bc_12.out.below hb)
  have Bd_13 := Lib.hid (Bd_12.out.below hb)
  have Be_13 := Lib.hid (Be_12.out.below hb)
  have Bf_13 := Lib.hid (Bf_12.out.below hb)
  have Bg1_13 := Lib.hid (Bg1_12.out.below hb)
  have Bh_13 := Lib.hid (Bh_12.out.below hb)
  have Bi_13 := Lib.hid (Bi_12.out.below hb)
  have Bj_13 := Lib.hid (Bj_12.out.below hb)
  have Bk_13 := Lib.hid (Bk_12.out.below hb)
  have Bl_13 := Lib.hid (Bl_12.out.below hb)
  have Bm_13 := Lib.hid (Bm_12.out.below hb)
  have HW13 := Lib.hid (HW12.out.trans (hb.mono HW12.out.size))
  have R_13 := Lib.hid (R_12.out.below' hb)
  clear sp bp np hb
  go_wp2_with fail
  refine (leaf_any 2 _).mono ?_
  rintro e w14 ⟨Aq, cq, Lq, rfl, sq, bq, nq, hb⟩
  have Sq := Lib.hid sq
  have Nq := Lib.hid nq
  have Bq_14 := Lib.hid bq
  have Bb_14 := Lib.hid (Bb_13.out.below hb)
  have Bc_14 := Lib.hid (Bc_13.out.below hb)
  have Bd_14 := Lib.hid (Bd_13.out.below hb)
  have Be_14 := Lib.hid (Be_13.out.below hb)
  have Bf_14 := Lib.hid (Bf_13.out.below hb)
  have Bg1_14 := Lib.hid (Bg1_13.out.below hb)
  have Bh_14 := Lib.hid (Bh_13.out.below hb)
  have Bi_14 := Lib.hid (Bi_13.out.below hb)
  have Bj_14 := Lib.hid (Bj_13.out.below hb)
  have Bk_14 := Lib.hid (Bk_13.out.below hb)
  have Bl_14 := Lib.hid (Bl_13.out.below hb)
  have Bm_14 := Lib.hid (Bm_13.out.below hb)
  have Bp_14 := Lib.hid (Bp_13.out.below hb)
  have HW14 := Lib.hid (HW13.out.trans (hb.mono HW13.out.size))
  have R_14 := Lib.hid (R_13.out.below' hb)
  clear sq bq nq hb
  go_wp2_with fail
  refine (first_any Ap cp Lp Aq cq Lq 100000 _ (Bp_14.out.mono (K' := 100000) (by decide)) (Bq_14.out.mono (K' := 100000) (by decide)) Np.out Nq.out (by have h := congrArg List.length Sp.out; simp only [List.length_map] at h; rw [h]; decide) (by have h := congrArg List.length Sq.out; simp only [List.length_map] at h; rw [h]; decide) (by decide)).mono ?_
  rintro e w15 ⟨Ar, cr, Lr, rfl, sr, br, nr, hb⟩
  rw [Sp.out] at sr
  rw [Sq.out] at sr
  have Sr := Lib.hid sr
  have Nr := Lib.hid nr
  have Br_15 := Lib.hid br
  have Bb_15 := Lib.hid (Bb_14.out.below hb)
  have Bc_15 := Lib.hid (Bc_14.out.below hb)
  have Bd_15 := Lib.hid (Bd_14.out.below hb)
  have Be_15 := Lib.hid (Be_14.out.below hb)
  have Bf_15 := Lib.hid (Bf_14.out.below hb)
  have Bg1_15 := Lib.hid (Bg1_14.out.below hb)
  have Bh_15 := Lib.hid (Bh_14.out.below hb)
  have Bi_15 := Lib.hid (Bi_14.out.below hb)
  have Bj_15 := Lib.hid (Bj_14.out.below hb)
  have Bk_15 := Lib.hid (Bk_14.out.below hb)
  have Bl_15 := Lib.hid (Bl_14.out.below hb)
  have Bm_15 := Lib.hid (Bm_14.out.below hb)
  have Bp_15 := Lib.hid (Bp_14.out.below hb)
  have Bq_15 := Lib.hid (Bq_14.out.below hb)
  have HW15 := Lib.hid (HW14.out.trans (hb.mono HW14.out.size))
  have R_15 := Lib.hid (R_14.out.below' hb)
  clear sr br nr hb
  have GR := Lib.hid (gram_any (some ⟨w15.heap.size, 0, none⟩) [(Ag1, cg1, Lg1), (Ai, ci, Li), (Al, cl, Ll), (Ar, cr, Lr)] 4 200000 (w15.alloc (.cells #[.slice Ag1 Lg1.length cg1, .slice Ai Li.length ci, .slice Al Ll.length cl, .slice Ar Lr.length cr] 23)) ⟨lies_four (Blk.new _ _ _), fun x hx => by
    simp only [List.mem_cons, List.not_mem_nil, or_false] at hx
    rcases hx with rfl | rfl | rfl | rfl
    · exact ⟨(Bg1_15.out.mono (by decide)).below (B1 _ _), (by have h := congrArg List.length Sg1.out; simp only [List.length_map] at h; rw [h]; decide), Ng1.out⟩
    · exact ⟨(Bi_15.out.mono (by decide)).below (B1 _ _), (by have h := congrArg List.length Si.out; simp only [List.length_map] at h; rw [h]; decide), Ni.out⟩
    · exact ⟨(Bl_15.out.mono (by decide)).below (B1 _ _), (by have h := congrArg List.length Sl.out; simp only [List.length_map] at h; rw [h]; decide), Nl.out⟩
    · exact ⟨(Br_15.out.mono (by decide)).below (B1 _ _), (by have h := congrArg List.length Sr.out; simp only [List.length_map] at h; rw [h]; decide), Nr.out⟩
    ⟩ (by simp) (by decide))
  simp only [List.length_cons, List.length_nil, Nat.reduceAdd, List.map_cons, List.map_nil, Sg1.out, Si.out, Sl.out, Sr.out] at GR
  go_wp2_with fail
  refine GR.out.mono ?_
  rintro e wg ⟨g, rfl, hst, hsp, hkl, _, hb⟩
  have HST := Lib.hid hst
  have HSP := Lib.hid hsp
  have HKL := Lib.hid hkl
  have RG := Lib.hid (show Blk wg w.heap.size #[.slice none 0 0, .slice none 0 0] 25 from ((R_15.out.alloc _).below' hb))
  have HWG := Lib.hid (show Below w.heap.size w wg from (HW15.out.alloc HW15.out.size _).trans (hb.mono (by have := HW15.out.size; simp; omega)))
  have HLO := Lib.hid (show w.heap.size < w15.heap.size from R_15.out.lt)
  clear hst hsp hkl hb GR
  skip
  go_wp2_with (refine wpList_store_whole rfl 25 (.tmp 0) (.tmp 24) rfl w.heap.size #[.slice g.RA g.rules.length g.rc, .slice g.NA g.nodes.length g.nc] rfl rfl 25 _ RG.out (by kernel_rfl) (by rfl) (by simp [Value.oneCell']) ?_; intro w5 hk5 hg5; have K5 := Lib.hid hk5; have G5 := Lib.hid hg5; clear hk5 hg5)
  refine bodyPost_ret (results_cell_row rfl _ _ w.heap.size 25 _ (0, 0) _ rfl K5.out Tryz.underlying25 rfl (by kernel_rfl)) rfl ?_
  exact ⟨g, rfl, HST.out w5 G5.out.size (fun b h1 h2 => G5.out.block b h2 (fun e => by have := HLO.out; cases e; simp at h1; omega)), kz_of (HSP.out.trans ex_gram), HKL.out, grown_below HWG.out HWG.out.size G5.out (fun k e => by cases e; exact Nat.le_refl _)⟩
/-- What comes in, of a grammar by hand. -/
theorem in_of {g g0 : Gr} (h : g.kz = g0) (h0 : Gr.In g0) : Gr.In g := by
  intro x hx
  have hm : x.kz ∈ g0.nodes := by rw [← h]; exact List.mem_map_of_mem hx
  have := h0 _ hm
  exact ⟨this.kind, this.text⟩
theorem ex_in : Gr.In ex0 := by
  intro x hx
  simp only [ex0, exN, List.mem_cons, List.not_mem_nil, or_false] at hx
  rcases hx with rfl | rfl | rfl | rfl | rfl | rfl | rfl | rfl | rfl | rfl | rfl | rfl | rfl | rfl | rfl | rfl
  all_goals exact ⟨by decide, by decide⟩
theorem al0_in : Gr.In al0 := by
  intro x hx
  simp only [al0, List.mem_cons, List.not_mem_nil, or_false] at hx
  subst hx
  exact ⟨by decide, by decide⟩
theorem al1_in : Gr.In al1 := by
  intro x hx
  simp only [al1, List.mem_cons, List.not_mem_nil, or_false] at hx
  rcases hx with rfl | rfl | rfl
  all_goals exact ⟨by decide, by decide⟩
set_option maxRecDepth 100000 in
set_option maxHeartbeats 16000000 in
theorem awake_any (w : World) : Calls Tryz.prog 9 #[] w fun e w' => e = .returned (.bool true) ∧ Below w.heap.size w w' := by
  go_enter Tryz.func9, Tryz.ntmps9
  go_upto_region 2 with (first | (go_at_call 29; (refine (example_any _).mono ?_); rintro e w1 ⟨g1, rfl, h1, h2, h3, hb⟩; have GA := Lib.hid h1; have EA := Lib.hid h2; have HWa := Lib.hid (show Below w.heap.size w w1 from hb); clear h1 h2 h3 hb) | (refine wpList_store_whole rfl 25 (.tmp 1) (.tmp 4) rfl w1.heap.size #[.slice g1.RA g1.rules.length g1.rc, .slice g1.NA g1.nodes.length g1.nc] rfl rfl 25 _ (Blk.new _ _ _) (by kernel_rfl) (by rfl) (by simp [Value.oneCell']) ?_; intro w2 hk2 hg2; have KA := Lib.hid hk2; have HG2 := Lib.hid (grown_below (B1 w1 _) (by simp) hg2 (fun k e => by cases e; exact Nat.le_refl _)); clear hk2 hg2))
  have HW0 := Lib.hid (show Below w.heap.size w w2 from HWa.out.trans (HG2.out.mono HWa.out.size))
  have GA2 := Lib.hid (GA.out.below HG2.out)
  have KA2 := Lib.hid (show Blk w2 w1.heap.size #[.slice g1.RA g1.rules.length g1.rc, .slice g1.NA g1.nodes.length g1.nc] 25 from KA.out)
  go_wp2_with fail
  refine (kcall_any 0 0 _).mono ?_
  rintro e w3 ⟨Ab, cb, Lb, rfl, sb, bb1, nb, hb⟩
  have SB := Lib.hid sb; have NB := Lib.hid nb; have BB3 := Lib.hid bb1
  have HW3 := Lib.hid (HW0.out.trans (hb.mono HW0.out.size)); have GA3 := Lib.hid (GA2.out.below hb); have KA3 := Lib.hid (KA2.out.below' hb)
  clear sb bb1 nb hb
  have GR := Lib.hid (gram_any (some ⟨w3.heap.size, 0, none⟩) [(Ab, cb, Lb)] 1 0 (w3.alloc (.cells #[.slice Ab Lb.length cb] 23)) ⟨lies_one (Blk.new _ _ _), fun x hx => by
    simp at hx; subst hx
    exact ⟨BB3.out.below (B1 _ _), by have h := congrArg List.length SB.out; simp only [List.length_map] at h; rw [h]; decide, NB.out⟩⟩ (by simp) (by decide))
  simp only [List.length_cons, List.length_nil, Nat.reduceAdd, List.map_cons, List.map_nil, SB.out] at GR
  go_wp2_with fail
  refine GR.out.mono ?_
  rintro e w4 ⟨g2, rfl, hst, hsp, hkl, _, hb⟩
  have GB4 := Lib.hid hst.at_; have EB := Lib.hid (show g2.kz = al0 from kz_of (hsp.trans al0_gram)); have GA4 := Lib.hid ((GA3.out.below (B1 w3 _)).below hb); have KA4 := Lib.hid ((KA3.out.alloc _).below' hb); have HW4 := Lib.hid (show Below w.heap.size w w4 from (HW3.out.alloc HW3.out.size _).trans (hb.mono (by have := HW3.out.size; simp; omega)))
  clear hst hsp hkl hb GR
  go_upto_region 3 with (refine wpList_store_whole rfl 25 (.tmp 2) (.tmp 7) rfl w4.heap.size #[.slice g2.RA g2.rules.length g2.rc, .slice g2.NA g2.nodes.length g2.nc] rfl rfl 25 _ (Blk.new _ _ _) (by kernel_rfl) (by rfl) (by simp [Value.oneCell']) ?_; intro w5 hk2 hg2; have KB := Lib.hid hk2; have H5 := Lib.hid (grown_below (B1 w4 _) (by simp) hg2 (fun k e => by cases e; exact Nat.le_refl _)); clear hk2 hg2)
  have GA5 := Lib.hid (GA4.out.below H5.out); have GB5 := Lib.hid (GB4.out.below H5.out); have KA5 := Lib.hid (KA4.out.below' H5.out); have HW5 := Lib.hid (HW4.out.trans (H5.out.mono HW4.out.size))
  go_wp2_with fail
  refine (kcall_any 0 0 _).mono ?_
  rintro e w6 ⟨Ac, cc, Lc, rfl, sc, bc1, nc, hb⟩
  have SC := Lib.hid sc; have NC := Lib.hid nc; have BC6 := Lib.hid bc1
  have HW6 := Lib.hid (HW5.out.trans (hb.mono HW5.out.size)); have GA6 := Lib.hid (GA5.out.below hb); have GB6 := Lib.hid (GB5.out.below hb); have KA6 := Lib.hid (KA5.out.below' hb); have KB6 := Lib.hid (KB.out.below' hb)
  clear sc bc1 nc hb
  go_wp2_with fail
  refine (leaf_any 1 _).mono ?_
  rintro e w7 ⟨Ad, cd, Ld, rfl, sd, bd1, nd, hb⟩
  have SD := Lib.hid sd; have ND := Lib.hid nd; have BD7 := Lib.hid bd1; have BC7 := Lib.hid (BC6.out.below hb)
  have HW7 := Lib.hid (HW6.out.trans (hb.mono HW6.out.size)); have GA7 := Lib.hid (GA6.out.below hb); have GB7 := Lib.hid (GB6.out.below hb); have KA7 := Lib.hid (KA6.out.below' hb); have KB7 := Lib.hid (KB6.out.below' hb)
  clear sd bd1 nd hb
  go_wp2_with fail
  refine (first_any Ac cc Lc Ad cd Ld 0 _ BC7.out BD7.out NC.out ND.out (by have h := congrArg List.length SC.out; simp only [List.length_map] at h; rw [h]; decide) (by have h := congrArg List.length SD.out; simp only [List.length_map] at h; rw [h]; decide) (by decide)).mono ?_
  rintro e w8 ⟨Ae, ce, Le, rfl, se, be1, ne, hb⟩
  rw [SC.out, SD.out] at se
  have SE := Lib.hid se; have NE := Lib.hid ne; have BE8 := Lib.hid be1
  have HW8 := Lib.hid (HW7.out.trans (hb.mono HW7.out.size)); have GA8 := Lib.hid (GA7.out.below hb); have GB8 := Lib.hid (GB7.out.below hb); have KA8 := Lib.hid (KA7.out.below' hb); have KB8 := Lib.hid (KB7.out.below' hb)
  clear se be1 ne hb
  have GR := Lib.hid (gram_any (some ⟨w8.heap.size, 0, none⟩) [(Ae, ce, Le)] 1 100000 (w8.alloc (.cells #[.slice Ae Le.length ce] 23)) ⟨lies_one (Blk.new _ _ _), fun x hx => by
    simp at hx; subst hx
    exact ⟨BE8.out.below (B1 _ _), (by have h := congrArg List.length SE.out; simp only [List.length_map] at h; rw [h]; decide), NE.out⟩⟩ (by simp) (by decide))
  simp only [List.length_cons, List.length_nil, Nat.reduceAdd, List.map_cons, List.map_nil, SE.out] at GR
  go_wp2_with fail
  refine GR.out.mono ?_
  rintro e w9 ⟨g3, rfl, hst, hsp, hkl, _, hb⟩
  have GC9 := Lib.hid hst.at_; have EC := Lib.hid (show g3.kz = al1 from kz_of (hsp.trans al1_gram)); have GA9 := Lib.hid ((GA8.out.below (B1 w8 _)).below hb); have GB9 := Lib.hid ((GB8.out.below (B1 w8 _)).below hb); have KA9 := Lib.hid ((KA8.out.alloc _).below' hb); have KB9 := Lib.hid ((KB8.out.alloc _).below' hb); have HW9 := Lib.hid (show Below w.heap.size w w9 from (HW8.out.alloc HW8.out.size _).trans (hb.mono (by have := HW8.out.size; simp; omega)))
  clear hst hsp hkl hb GR
  go_upto_region 4 with (refine wpList_store_whole rfl 25 (.tmp 3) (.tmp 12) rfl w9.heap.size #[.slice g3.RA g3.rules.length g3.rc, .slice g3.NA g3.nodes.length g3.nc] rfl rfl 25 _ (Blk.new _ _ _) (by kernel_rfl) (by rfl) (by simp [Value.oneCell']) ?_; intro v0 hk2 hg2; have KC := Lib.hid hk2; have HC := Lib.hid (grown_below (B1 w9 _) (by simp) hg2 (fun k e => by cases e; exact Nat.le_refl _)); clear hk2 hg2)
  have GAv := Lib.hid (GA9.out.below HC.out); have GBv := Lib.hid (GB9.out.below HC.out); have GCv := Lib.hid (GC9.out.below HC.out); have KA_0 := Lib.hid (KA9.out.below' HC.out); have KB_0 := Lib.hid (KB9.out.below' HC.out); have KC_0 := Lib.hid (show Blk v0 w9.heap.size #[.slice g3.RA g3.rules.length g3.rc, .slice g3.NA g3.nodes.length g3.nc] 25 from KC.out); have HV_0 := Lib.hid (HW9.out.trans (HC.out.mono HW9.out.size)); have D_0 := Lib.hid (Below.refl v0.heap.size v0)
  have IA := Lib.hid (in_of EA.out ex_in); have IB := Lib.hid (in_of EB.out al0_in); have IC := Lib.hid (in_of EC.out al1_in)
  have c0 := KA_0.out.cell 0; have c1 := KA_0.out.cell 1
  simp only [List.getElem?_toArray, List.getElem?_cons_zero, List.getElem?_cons_succ] at c0 c1
  have RC := Lib.hid (show Calls Tryz.prog 30 #[.agg #[.slice g1.RA g1.rules.length g1.rc, .slice g1.NA g1.nodes.length g1.nc], .int .i64 0] v0 (fun e w' => e = .returned (.int .i64 3) ∧ Below v0.heap.size v0 w') from by
    have h := rank_any g1 0 (by decide) v0 (GAv.out.below D_0.out) IA.out
    rw [show rankOf g1 0 = 3 from by rw [← rankOf_kz, EA.out]; exact ex_rank.1] at h
    exact h)
  go_wp2_with fail
  refine RC.out.mono ?_
  rintro e v1 ⟨rfl, hb⟩
  have KA_1 := Lib.hid (KA_0.out.below' hb); have KB_1 := Lib.hid (KB_0.out.below' hb); have KC_1 := Lib.hid (KC_0.out.below' hb); have HV_1 := Lib.hid (HV_0.out.trans (hb.mono HV_0.out.size)); have D_1 := Lib.hid (D_0.out.trans (hb.mono D_0.out.size))
  clear hb RC c0 c1
  have c0 := KA_1.out.cell 0; have c1 := KA_1.out.cell 1
  simp only [List.getElem?_toArray, List.getElem?_cons_zero, List.getElem?_cons_succ] at c0 c1
  have RC := Lib.hid (show Calls Tryz.prog 30 #[.agg #[.slice g1.RA g1.rules.length g1.rc, .slice g1.NA g1.nodes.length g1.nc], .int .i64 1] v1 (fun e w' => e = .returned (.int .i64 1) ∧ Below v1.heap.size v1 w') from by
    have h := rank_any g1 1 (by decide) v1 (GAv.out.below D_1.out) IA.out
    rw [show rankOf g1 1 = 1 from by rw [← rankOf_kz, EA.out]; exact ex_rank.2.1] at h
    exact h)
  go_wp2_with fail
  refine RC.out.mono ?_
  rintro e v2 ⟨rfl, hb⟩
  have KA_2 := Lib.hid (KA_1.out.below' hb); have KB_2 := Lib.hid (KB_1.out.below' hb); have KC_2 := Lib.hid (KC_1.out.below' hb); have HV_2 := Lib.hid (HV_1.out.trans (hb.mono HV_1.out.size)); have D_2 := Lib.hid (D_1.out.trans (hb.mono D_1.out.size))
  clear hb RC c0 c1
  have c0 := KA_2.out.cell 0; have c1 := KA_2.out.cell 1
  simp only [List.getElem?_toArray, List.getElem?_cons_zero, List.getElem?_cons_succ] at c0 c1
  have RC := Lib.hid (show Calls Tryz.prog 30 #[.agg #[.slice g1.RA g1.rules.length g1.rc, .slice g1.NA g1.nodes.length g1.nc], .int .i64 2] v2 (fun e w' => e = .returned (.int .i64 2) ∧ Below v2.heap.size v2 w') from by
    have h := rank_any g1 2 (by decide) v2 (GAv.out.below D_2.out) IA.out
    rw [show rankOf g1 2 = 2 from by rw [← rankOf_kz, EA.out]; exact ex_rank.2.2.1] at h
    exact h)
  go_wp2_with fail
  refine RC.out.mono ?_
  rintro e v3 ⟨rfl, hb⟩
  have KA_3 := Lib.hid (KA_2.out.below' hb); have KB_3 := Lib.hid (KB_2.out.below' hb); have KC_3 := Lib.hid (KC_2.out.below' hb); have HV_3 := Lib.hid (HV_2.out.trans (hb.mono HV_2.out.size)); have D_3 := Lib.hid (D_2.out.trans (hb.mono D_2.out.size))
  clear hb RC c0 c1
  have c0 := KA_3.out.cell 0; have c1 := KA_3.out.cell 1
  simp only [List.getElem?_toArray, List.getElem?_cons_zero, List.getElem?_cons_succ] at c0 c1
  have RC := Lib.hid (show Calls Tryz.prog 30 #[.agg #[.slice g1.RA g1.rules.length g1.rc, .slice g1.NA g1.nodes.length g1.nc], .int .i64 3] v3 (fun e w' => e = .returned (.int .i64 1) ∧ Below v3.heap.size v3 w') from by
    have h := rank_any g1 3 (by decide) v3 (GAv.out.below D_3.out) IA.out
    rw [show rankOf g1 3 = 1 from by rw [← rankOf_kz, EA.out]; exact ex_rank.2.2.2] at h
    exact h)
  go_wp2_with fail
  refine RC.out.mono ?_
  rintro e v4 ⟨rfl, hb⟩
  have KA_4 := Lib.hid (KA_3.out.below' hb); have KB_4 := Lib.hid (KB_3.out.below' hb); have KC_4 := Lib.hid (KC_3.out.below' hb); have HV_4 := Lib.hid (HV_3.out.trans (hb.mono HV_3.out.size)); have D_4 := Lib.hid (D_3.out.trans (hb.mono D_3.out.size))
  clear hb RC c0 c1
  have c0 := KB_4.out.cell 0; have c1 := KB_4.out.cell 1
  simp only [List.getElem?_toArray, List.getElem?_cons_zero, List.getElem?_cons_succ] at c0 c1
  have RC := Lib.hid (show Calls Tryz.prog 31 #[.agg #[.slice g2.RA g2.rules.length g2.rc, .slice g2.NA g2.nodes.length g2.nc], .int .i64 0] v4 (fun e w' => e = .returned (.bool false) ∧ Below v4.heap.size v4 w') from by
    have h := rule_of g2 0 (by decide) v4 (GBv.out.below D_4.out) IB.out
    rw [show decide (0 < rankOf g2 0) = false from by rw [← rankOf_kz, EB.out, al0_tells.1]; rfl] at h
    exact h)
  go_wp2_with fail
  refine RC.out.mono ?_
  rintro e v5 ⟨rfl, hb⟩
  have KA_5 := Lib.hid (KA_4.out.below' hb); have KB_5 := Lib.hid (KB_4.out.below' hb); have KC_5 := Lib.hid (KC_4.out.below' hb); have HV_5 := Lib.hid (HV_4.out.trans (hb.mono HV_4.out.size)); have D_5 := Lib.hid (D_4.out.trans (hb.mono D_4.out.size))
  clear hb RC c0 c1
  have c0 := KC_5.out.cell 0; have c1 := KC_5.out.cell 1
  simp only [List.getElem?_toArray, List.getElem?_cons_zero, List.getElem?_cons_succ] at c0 c1
  have RC := Lib.hid (show Calls Tryz.prog 30 #[.agg #[.slice g3.RA g3.rules.length g3.rc, .slice g3.NA g3.nodes.length g3.nc], .int .i64 0] v5 (fun e w' => e = .returned (.int .i64 1) ∧ Below v5.heap.size v5 w') from by
    have h := rank_any g3 0 (by decide) v5 (GCv.out.below D_5.out) IC.out
    rw [show rankOf g3 0 = 1 from by rw [← rankOf_kz, EC.out]; exact al1_tells.1] at h
    exact h)
  go_wp2_with fail
  refine RC.out.mono ?_
  rintro e v6 ⟨rfl, hb⟩
  have KA_6 := Lib.hid (KA_5.out.below' hb); have KB_6 := Lib.hid (KB_5.out.below' hb); have KC_6 := Lib.hid (KC_5.out.below' hb); have HV_6 := Lib.hid (HV_5.out.trans (hb.mono HV_5.out.size)); have D_6 := Lib.hid (D_5.out.trans (hb.mono D_5.out.size))
  clear hb RC c0 c1
  have c0 := KC_6.out.cell 0; have c1 := KC_6.out.cell 1
  simp only [List.getElem?_toArray, List.getElem?_cons_zero, List.getElem?_cons_succ] at c0 c1
  have RC := Lib.hid (show Calls Tryz.prog 32 #[.agg #[.slice g3.RA g3.rules.length g3.rc, .slice g3.NA g3.nodes.length g3.nc], .int .i64 2] v6 (fun e w' => e = .returned (.bool true) ∧ Below v6.heap.size v6 w') from by
    have h := node_of g3 2 (by decide) v6 (GCv.out.below D_6.out) IC.out
    rw [show nodeB g3 2 = true from by rw [← nodeB_kz, EC.out]; exact al1_tells.2] at h
    exact h)
  go_wp2_with fail
  refine RC.out.mono ?_
  rintro e v7 ⟨rfl, hb⟩
  have KA_7 := Lib.hid (KA_6.out.below' hb); have KB_7 := Lib.hid (KB_6.out.below' hb); have KC_7 := Lib.hid (KC_6.out.below' hb); have HV_7 := Lib.hid (HV_6.out.trans (hb.mono HV_6.out.size)); have D_7 := Lib.hid (D_6.out.trans (hb.mono D_6.out.size))
  clear hb RC c0 c1
  have c0 := KB_7.out.cell 0; have c1 := KB_7.out.cell 1
  simp only [List.getElem?_toArray, List.getElem?_cons_zero, List.getElem?_cons_succ] at c0 c1
  have RC := Lib.hid (show Calls Tryz.prog 33 #[.agg #[.slice g2.RA g2.rules.length g2.rc, .slice g2.NA g2.nodes.length g2.nc]] v7 (fun e w' => e = .returned (.slice none 0 0) ∧ Below v7.heap.size v7 w') from (nodes_any g2 v7 (GBv.out.below D_7.out) IB.out).mono fun e w' h => by
    obtain ⟨⟨v, e1, _, hn⟩, hb⟩ := h
    exact ⟨by rw [e1, hn.2 (by rw [← nodesOf_kz, EB.out]; exact al0_tells.2)], hb⟩)
  go_wp2_with fail
  refine RC.out.mono ?_
  rintro e v8 ⟨rfl, hb⟩
  have HV_8 := Lib.hid (HV_7.out.trans (hb.mono HV_7.out.size))
  clear hb RC c0 c1
  go_wp2_with fail
  go_ret
  exact ⟨rfl, HV_8.out⟩
end Go.Proofs.YtjelgmdjmjnnfaaGreat
namespace Go.Proofs.YtjelgmdjmjnnfaaGreat
open Go Go.RowKit Go.Maps
def bls (l : List Bool) : List Value := l.map Value.bool
theorem bls_length (l : List Bool) : (bls l).length = l.length := by simp [bls]
theorem bls_at {l : List Bool} {k : Nat} (h : k < l.length) : (bls l)[k]? = some (.bool (l.getD k false)) := by
  simp [bls, List.getD, List.getElem?_eq_getElem h]
theorem bls_set (l : List Bool) (k : Nat) (b : Bool) : (bls l).set k (.bool b) = bls (l.set k b) := by simp [bls, List.map_set]
theorem ints_set (l : List Int) (k : Nat) (b : Int) : (ints l).set k (.int .i64 b) = ints (l.set k b) := by simp [ints, List.map_set]
theorem Blk.put {w : World} {b k : Nat} {l : List Value} {T : TypeId} (h : Blk w b l.toArray T) (v : Value) : Blk (w.setCell ⟨b, k, none⟩ v) b (l.set k v).toArray T := by
  have := heap_setCell_same w b k l.toArray T v h
  unfold Blk
  rw [this]
  simp
theorem made_blk {w : World} {base b n : Nat} {e : TypeId} {xs : List Value} (h : w.ownsRow base e 1 (.slice (some ⟨b, 0, none⟩) n n) n xs) : Blk w b xs.toArray e := by
  have h1 := h.1
  rcases h.2 with ⟨hn, _⟩ | ⟨g', cap', cur, hv, hbg, hgh, hnc, hcm, hcs, htake⟩
  · cases hn
  · simp only [Value.slice.injEq, Option.some.injEq, Addr.mk.injEq, and_true, true_and] at hv
    obtain ⟨rfl, rfl⟩ := hv
    have : cur.toList = xs := by
      rw [List.take_of_length_le (by simp; omega)] at htake
      exact htake
    unfold Blk
    rw [hgh, ← this]
theorem all_take {p : Int → Bool} {l : List Int} {k : Nat} (h : k < l.length) : (l.take (k + 1)).all p = ((l.take k).all p && p (l.getD k 0)) := by
  rw [List.take_add_one, List.all_append, List.getElem?_eq_getElem h]
  simp [List.getD, List.getElem?_eq_getElem h]
theorem any_take {p : Int → Bool} {l : List Int} {k : Nat} (h : k < l.length) : (l.take (k + 1)).any p = ((l.take k).any p || p (l.getD k 0)) := by
  rw [List.take_add_one, List.any_append, List.getElem?_eq_getElem h]
  simp [List.getD, List.getElem?_eq_getElem h]
theorem and_eq {a b c : Bool} (h : a = (b && c)) : a = if b = true then c else false := by subst h; cases b <;> rfl
end Go.Proofs.YtjelgmdjmjnnfaaGreat
namespace Go.Proofs.YtjelgmdjmjnnfaaGreat
open Go Go.RowKit Go.Maps
theorem in_later {g : Gr} {k i : Nat} (h : inB (rk g k) i = true) : inB (rk g (k + 1)) i = true := by
  simp only [inB, Int.toNat_natCast, decide_eq_true_eq] at h ⊢
  rw [rk_keeps g k i h]; exact h
/-- A rule that is in is in with its body. -/
theorem in_body {g : Gr} : ∀ (k i : Nat), i < g.rules.length → 0 < (rk g (k + 1)).getD i 0 → mayN g.nodes (inB (rk g k)) (g.rules.getD i Rl.zero).body = true
  | k, i, hi, h => by
    rw [rk_next g k i hi] at h
    by_cases hc : comB g (rk g k) i = true
    · unfold comB at hc
      simp only [Bool.and_eq_true] at hc
      exact hc.2
    · rw [if_neg hc] at h
      cases k with
      | zero => rw [rk_zero] at h; omega
      | succ k =>
        refine mayN_mono (i := inB (rk g k)) (fun q hq => ?_) (in_body k i hi h)
        simp only [inB, decide_eq_true_eq] at hq ⊢
        rw [rk_keeps g k _ hq]; exact hq
theorem body_in {g : Gr} (k i : Nat) (hi : i < g.rules.length) : mayN g.nodes (inB (rk g k)) (g.rules.getD i Rl.zero).body = decide (0 < (rk g (k + 1)).getD i 0) := by
  by_cases h : 0 < (rk g (k + 1)).getD i 0
  · rw [in_body k i hi h, decide_eq_true h]
  · rw [decide_eq_false h]
    cases hm : mayN g.nodes (inB (rk g k)) (g.rules.getD i Rl.zero).body with
    | false => rfl
    | true =>
      exfalso
      apply h
      by_cases h0 : inB (rk g k) i = true
      · have := in_later h0
        simpa [inB] using this
      · rw [rk_next g k i hi, if_pos (by unfold comB; rw [hm]; simpa using h0)]
        omega
theorem rk_past (g : Gr) : rk g (g.rules.length + 1) = ranks g := by
  obtain ⟨N, h1, h2, _⟩ := rounds_end g
  have := rk_stay g N h2 (g.rules.length + 1 - N)
  rw [show N + (g.rules.length + 1 - N) = g.rules.length + 1 by omega] at this
  rw [this, ranks_fix g h1 h2]
theorem ranks_length (g : Gr) : (ranks g).length = g.rules.length := rk_length g _
theorem ranks_pos (g : Gr) (i : Nat) : 0 ≤ (ranks g).getD i 0 := (rk_bound g _ i).1
theorem ranks_le (g : Gr) (i : Nat) : (ranks g).getD i 0 ≤ g.rules.length := (rk_bound g _ i).2
/-- A rule is in just as its body may. -/
theorem body_ranks {g : Gr} (i : Nat) (hi : i < g.rules.length) : mayN g.nodes (inB (ranks g)) (g.rules.getD i Rl.zero).body = decide (0 < (ranks g).getD i 0) := by
  have := body_in (g := g) g.rules.length i hi
  rw [rk_past] at this
  exact this
/-- The ranks below a number. -/
def low (r : List Int) (k : Nat) : List Int := r.map fun x => if x < (k : Int) + 1 then x else 0
theorem low_length (r : List Int) (k : Nat) : (low r k).length = r.length := by simp [low]
theorem low_at {r : List Int} {k i : Nat} (h : i < r.length) : (low r k).getD i 0 = if r.getD i 0 < (k : Int) + 1 then r.getD i 0 else 0 := by
  simp [low, List.getD, List.getElem?_eq_getElem h]
theorem ext_getD {a b : List Int} (h : a.length = b.length) (h2 : ∀ i, i < a.length → a.getD i 0 = b.getD i 0) : a = b := by
  apply List.ext_getElem h
  intro i h3 h4
  have := h2 i h3
  simpa [List.getD, List.getElem?_eq_getElem h3, List.getElem?_eq_getElem h4] using this
theorem low_ranks (g : Gr) (k : Nat) (hk : k ≤ g.rules.length) : low (ranks g) k = rk g k := by
  apply ext_getD
  · rw [low_length, rk_length, ranks_length]
  · intro i hi
    rw [low_length] at hi
    rw [low_at hi]
    have := rk_below g i (g.rules.length - k) k
    rw [show k + (g.rules.length - k) = g.rules.length by omega] at this
    rw [this]
    show (if (ranks g).getD i 0 < (k : Int) + 1 then (ranks g).getD i 0 else 0) = if (ranks g).getD i 0 ≤ k then (ranks g).getD i 0 else 0
    by_cases h : (ranks g).getD i 0 ≤ k
    · rw [if_pos h, if_pos (by omega)]
    · rw [if_neg h, if_neg (by omega)]
theorem rk_upto (g : Gr) (k i : Nat) (hk : k ≤ g.rules.length) : decide (0 < (rk g (k + 1)).getD i 0) = decide (0 < (ranks g).getD i 0 ∧ (ranks g).getD i 0 ≤ (k : Int) + 1) := by
  by_cases h : k = g.rules.length
  · subst h
    rw [rk_past]
    have := ranks_le g i
    have h2 : (ranks g).getD i 0 ≤ (g.rules.length : Int) + 1 := by omega
    exact decide_eq_decide.2 ⟨fun h => ⟨h, h2⟩, fun h => h.1⟩
  · have := rk_below g i (g.rules.length - (k + 1)) (k + 1)
    rw [show (k + 1) + (g.rules.length - (k + 1)) = g.rules.length by omega] at this
    rw [this]
    show decide (0 < if (ranks g).getD i 0 ≤ ((k + 1 : Nat) : Int) then (ranks g).getD i 0 else 0) = _
    by_cases h : (ranks g).getD i 0 ≤ ((k + 1 : Nat) : Int)
    · rw [if_pos h]
      have h2 : (ranks g).getD i 0 ≤ (k : Int) + 1 := by omega
      exact decide_eq_decide.2 ⟨fun h => ⟨h, h2⟩, fun h => h.1⟩
    · rw [if_neg h]
      have h2 : ¬ (ranks g).getD i 0 ≤ (k : Int) + 1 := by omega
      exact decide_eq_decide.2 ⟨fun h => absurd h (by omega), fun h => absurd h.2 h2⟩
theorem body_low {g : Gr} (k i : Nat) (hi : i < g.rules.length) (hk : k ≤ g.rules.length) : mayN g.nodes (inB (low (ranks g) k)) (g.rules.getD i Rl.zero).body = decide (0 < (ranks g).getD i 0 ∧ (ranks g).getD i 0 ≤ (k : Int) + 1) := by
  rw [low_ranks g k hk, body_in k i hi, rk_upto g k i hk]
/-- What a node may, by what its kids may. -/
theorem may_step {g : Gr} (hR : Right g) (inn : Int → Bool) (l : List Bool) (n : Nat) (hn : n < g.nodes.length) (h : ∀ j, n < j → j < g.nodes.length → l.getD j false = mayN g.nodes inn j) :
    stepMay (g.nodes.getD n Nd.zero) (fun k => l.getD k.toNat false) inn = mayN g.nodes inn n := by
  rw [mayN_eq hR.kidsUp inn (n := n) (by omega) (by omega), Int.toNat_natCast]
  refine stepMay_congr (fun k hk => ?_) (fun _ => rfl)
  have := hR.kidsUp n hn k hk
  obtain ⟨j, rfl⟩ : ∃ j : Nat, k = j := ⟨k.toNat, by omega⟩
  simpa using h j (by omega) (by omega)
theorem made_ints (n : Nat) : (madeCells (Value.int .i64 0).cells (n * 1)).toList.toArray = (ints (List.replicate n 0)).toArray := by
  rw [made_int]; simp [ints]
theorem made_bools (n : Nat) : (madeCells (Value.bool false).cells (n * 1)).toList.toArray = (bls (List.replicate n false)).toArray := by
  have : madeCells (Value.bool false).cells (n * 1) = (List.replicate n (Value.bool false)).toArray := by
    apply Array.ext
    · simp [madeCells]
    · intro k h1 h2
      simp [madeCells, Value.cells, Nat.mod_one]
  rw [this]; simp [bls]
end Go.Proofs.YtjelgmdjmjnnfaaGreat

/- The contract of a span's gaps beside parts, as a range-function. -/
import Derived.Test.YtgploogflhfolaaMa
import Derived.Test.YtgploogflhfolaaRl
import Derived.Shelf.Abstract
import Derived.Shelf.RegionOpen
import Derived.LoopNIn
import Derived.LoopIn
namespace Go.Proofs.Ytgploogflhfolaa
open Go Go.RowKit Go.Shelf
attribute [local go_sem] Oper.semAt_some

theorem own_at {w w' : World} {base e size n g k c : Nat} {xs : List Value} (h : w.ownsRow base e size (.slice (some ⟨g, 0, none⟩) k c) n xs) (hb : w'.heap[g]? = w.heap[g]?) : w'.ownsRow base e size (.slice (some ⟨g, 0, none⟩) k c) n xs := by
  obtain ⟨h1, h2⟩ := h
  refine ⟨h1, ?_⟩
  rcases h2 with ⟨h2, _⟩ | ⟨g', cap, cur, a, b, hg, d⟩
  · cases h2
  · cases a
    exact .inr ⟨g, _, cur, rfl, b, hb.trans hg, d⟩
theorem drop_getD {l : List (Int × Int)} {k : Nat} (h : k < l.length) : l.drop k = l.getD k (0, 0) :: l.drop (k + 1) := by
  rw [List.drop_eq_getElem_cons h]; simp [List.getD, List.getElem?_eq_getElem h]

set_option maxRecDepth 100000 in
set_option maxHeartbeats 4000000 in
theorem besides1_in (n : Nat) (hn : 1 ≤ n) (l b1 b2 base : Nat) (s1 s2 : Int) (hs : Inr (s1, s2)) (xs : List (Int × Int)) (hxs : Inrs xs) (hlen : xs.length ≤ 65536) (v : Value) (P0 : Nat → Prop) (J : (Nat → Prop) → List (Int × Int) → World → Prop)
    (hJ : Bears (fun r _ => v.ownBlock = some r) J) (hP1 : P0 b1) (hPG : ∀ r, v.ownBlock = some r → P0 r) (hne : v.ownBlock ≠ some b1)
    (hY : ∀ Pr pre x W1, J Pr pre W1 → pre.length < xs.length + 1 → YieldAt Fence.wide (n - 1) Try.prog l #[.agg #[.int .i64 (x : Int × Int).1, .int .i64 x.2]] W1 fun e W' => e = .returned (.bool true) ∧ J Pr (pre ++ [x]) W' ∧ W1.heap.size ≤ W'.heap.size ∧ ∀ k, Pr k → W'.heap[k]? = W1.heap[k]?)
    (W : World) (hB1 : Blk W b1 #[.int .i64 s1, .int .i64 s2] 23) (hB2 : Boxed W b2 57 v) (hbase : base ≤ W.heap.size) (hown : W.ownsRow base 51 2 v xs.length (scells xs)) (h0 : J P0 [] W) :
    CallsIn Fence.wide n Try.prog 42 #[.func (.yield l) #[] #[], .pointer (some ⟨b1, 0, none⟩), .pointer (some ⟨b2, 0, none⟩)] W fun e W' => (∃ v, e = .returned v) ∧ ∃ Pr ys, ys = sweep s2 s1 (xs ++ [(s2, s2)]) ∧ J Pr ys W' := by
  obtain ⟨i0, hi, hz0, hz1, hz2⟩ := info_parts Try.info51
  obtain ⟨q1, q2, q3, q4⟩ := hs
  dsimp only at q1 q2 q3 q4
  have c2 := hB2.cell
  obtain ⟨c0, c1⟩ := hB1.two
  have HY := Lib.hid hY
  have HJ := Lib.hid hJ
  have H0 := Lib.hid h0
  have HPG := Lib.hid hPG
  have HNE := Lib.hid hne
  have HB1 := Lib.hid hB1
  have HX := Lib.hid hxs
  have HO := Lib.hid hown
  have HP1 := Lib.hid hP1
  clear hY hJ h0 hPG hne hB1 hB2 hxs hown hP1
  obtain ⟨ys, eys⟩ : ∃ ys, ys = xs ++ [(s2, s2)] := ⟨_, rfl⟩
  rw [← eys]
  have EY := Lib.hid eys
  clear eys
  refine callsIn_of_wp Try.func42 rfl trivial ?_ rfl
  simp only [Try.ntmps42, List.size_toArray, List.length_cons, List.length_nil, Nat.reduceAdd, Nat.reduceSub, Array.replicate_succ, Array.replicate_zero, List.push_toArray, List.append_toArray, List.nil_append, List.cons_append]
  gi_wp2_with (gi_at_builtin; refine wpListIn_append_where _ rfl _ _ 57 rfl base 51 i0 (.agg #[.int .i64 0, .int .i64 0]) 2 16 Try.underlying57 hi hz0 hz1 hz2 rfl (by decide) _ _ _ rfl (HO.out.alloc _) ⟨W.heap.size, 0, none⟩ 1 1 [.int .i64 s2, .int .i64 s2] rfl rfl (cell_two_new _ _ _ _) (by simp [Value.oneCell']) (by unfold maxLen; omega) (by omega) (by simp; omega) (by omega) ?_; intro g cap W2 hown2 hgrow0 hwhere0)
  have hgrow : (W.alloc (.cells #[.int .i64 s2, .int .i64 s2] 51)).grownBy W2 v.ownBlock := hgrow0
  have hwhere : v.ownBlock = some g ∨ ((W.alloc (.cells #[.int .i64 s2, .int .i64 s2] 51)).heap.size ≤ g ∧ g < W2.heap.size) := hwhere0
  clear hgrow0 hwhere0
  obtain ⟨N, eN⟩ : ∃ N, N = xs.length + 1 := ⟨_, rfl⟩
  have eys := EY.out
  have hyl : ys.length = N := by rw [eys, eN]; simp
  have hyr : Inrs ys := by
    rw [eys]; intro x hx
    rcases List.mem_append.1 hx with h | h
    · exact HX.out x h
    · simp at h; subst h; exact ⟨q3, q4, q3, q4⟩
  have hown3 : W2.ownsRow base 51 2 (.slice (some ⟨g, 0, none⟩) N cap) N (scells ys) := by
    rw [eys, eN, scells_app]; exact hown2
  have hNl : N ≤ 65537 := by omega
  have eNi : ((xs.length : Int) + 1) = (N : Int) := by omega
  rw [← eN, eNi]
  rw [← eN] at HY
  clear eNi
  have hJ1 : J P0 [] (W.alloc (.cells #[.int .i64 s2, .int .i64 s2] 51)) := HJ.out.below H0.out ((Below.refl _ _).alloc (Nat.le_refl _) _)
  have hJ2 : J (fun k => P0 k ∨ k = g) [] W2 := HJ.out P0 _ [] _ _ v.ownBlock hJ1 hgrow (fun r e => e) (fun k hk => by
    rcases hk with h | rfl
    · exact .inl h
    · rcases hwhere with h | h
      · exact .inl (HPG.out _ h)
      · exact .inr h)
  have hB3 : Blk W2 b1 #[.int .i64 s1, .int .i64 s2] 23 := (hgrow.block b1 (by have := HB1.out.lt; simp; omega) (fun e => HNE.out e.symm)).trans (HB1.out.alloc _)
  have HR := Lib.hid hyr
  have HW := Lib.hid hown3
  have HJ2 := Lib.hid hJ2
  have HB3 := Lib.hid hB3
  have HS := Lib.hid (rfl : sweep s2 s1 ys = sweep s2 s1 ys)
  have HE := Lib.hid hyl
  clear hyr hown3 hJ2 hB3 hJ1 hgrow hwhere hown2 c0 c1 c2 eys eN HX HO H0 HB1 HNE HPG hyl hlen
  gi_loopw [4, 19] (fun a i wr => ∃ (k : Nat) (at_ : Int) (pre : List (Int × Int)), k ≤ N ∧ a = .int .i64 at_ ∧ i = .int .i64 k ∧ -9223372036854775808 ≤ at_ ∧ at_ < 9223372036854775808 ∧ pre ++ sweep s2 at_ (ys.drop k) = sweep s2 s1 ys ∧ pre.length ≤ k ∧ J (fun k => P0 k ∨ k = g) pre wr ∧ wr.heap[g]? = W2.heap[g]? ∧ wr.heap[b1]? = W2.heap[b1]?)
    (fun _ i _ => N - (intOf i).toNat)
  case atStart => exact ⟨0, s1, [], by omega, rfl, rfl, q1, q2, by simp, by simp, HJ2.out, rfl, rfl⟩
  case round =>
    obtain ⟨k, at_, pre, hk, rfl, rfl, ha1, ha2, hsw, hpk, hJp, hgk, hbk⟩ := hrel
    have hB4 : Blk wr b1 #[.int .i64 s1, .int .i64 s2] 23 := hbk.trans HB3.out
    have hW4 := own_at HW.out hgk
    by_cases hlt : k < N
    · have hx := HR.out.getD k (by rw [HE.out]; exact hlt)
      have hsc := scells_at (xs := ys) (i := k) (by rw [HE.out]; exact hlt)
      have hdr := drop_getD (l := ys) (k := k) (by rw [HE.out]; exact hlt)
      obtain ⟨x, ex⟩ : ∃ x, x = ys.getD k (0, 0) := ⟨_, rfl⟩
      rw [← ex] at hx hsc hdr
      clear ex
      obtain ⟨x1, x2⟩ := x
      obtain ⟨r1, r2, r3, r4⟩ := hx
      dsimp only at hsc r1 r2 r3 r4
      have c0 := (hW4.cellAt (k * 2) (by omega)).trans hsc.1
      have c1 := (hW4.cellAt (k * 2 + 1) (by omega)).trans hsc.2
      obtain ⟨d0, d1⟩ := hB4.two
      rw [hdr] at hsw
      have HSW := Lib.hid hsw
      have HB4 := Lib.hid hB4
      have HJp := Lib.hid hJp
      have HGK := Lib.hid hgk
      have HBK := Lib.hid hbk
      have hb1 := hB4.lt
      clear hsw hsc hdr hW4 hB4 hJp hgk hbk
      have hlt2 : (k : Int) < N := by omega
      gi_wp2_with fail
      obtain ⟨m, em⟩ : ∃ m, m = min x1 s2 := ⟨_, rfl⟩
      rw [← em]
      have hm1 : m < 9223372036854775808 := by omega
      have L := fun w => len_any at_ m hm1 w
      obtain ⟨q, eq⟩ : ∃ q, q = ln at_ m := ⟨_, rfl⟩
      rw [← eq] at L
      refine ⟨trivial, ?_⟩
      refine (callsIn_wide.2 (L _)).mono ?_
      clear L
      rintro e w1 ⟨rfl, hb⟩
      have hBw : Below wr.heap.size wr w1 := (B2 _ _ _).trans (hb.mono (by simp; omega))
      have hT6 := ((Blk.new wr #[.int .i64 x1, .int .i64 x2] 51).alloc (.cells #[.int .i64 at_, .int .i64 m] 23)).below hb (by simp; omega)
      have hT7 := (Blk.new2 wr (.cells #[.int .i64 x1, .int .i64 x2] 51) #[.int .i64 at_, .int .i64 m] 23).below hb (by simp)
      have hJ4 : J (fun k => (P0 k ∨ k = g) ∨ k = wr.heap.size) pre w1 := HJ.out _ _ pre wr w1 none HJp.out (grown_of_below hBw none) (fun r e => by cases e) (fun k hk => by
        rcases hk with h | rfl
        · exact .inl h
        · exact .inr ⟨Nat.le_refl _, hT6.lt⟩)
      have hg1 : w1.heap[g]? = W2.heap[g]? := by
        rw [← HGK.out]
        refine hBw.block g ?_
        have := (own_at HW.out HGK.out).lt g rfl
        exact this.2
      have hb11 : w1.heap[b1]? = W2.heap[b1]? := by
        rw [← HBK.out]
        exact hBw.block b1 hb1
      obtain ⟨e0, e1⟩ := hT7.two
      obtain ⟨f0, f1⟩ := hT6.two
      have HT6 := Lib.hid hT6
      have HG1 := Lib.hid hg1
      have HB11 := Lib.hid hb11
      have HJ4 := Lib.hid hJ4
      have EM := Lib.hid em
      have EQ := Lib.hid eq
      have hz6 := hT6.lt
      clear hb hBw hT6 hT7 hg1 hb11 hJ4 c0 c1 d0 d1 HJp HGK HBK HB4 hb1
      by_cases hq : 0 < q
      · have hsw2 := HSW.out
        rw [sweep_hit (p := (x1, x2)) (by rw [← EM.out, ← EQ.out]; exact hq)] at hsw2
        dsimp only at hsw2
        rw [← EM.out] at hsw2
        have HSW2 := Lib.hid hsw2
        obtain ⟨fn, tmps, assign, body, hy, hR⟩ := HY.out _ pre (at_, m) w1 HJ4.out (by omega)
        dsimp only at hy
        have HRR := Lib.hid hR
        clear hsw2 HSW em eq hR
        gi_wp2_with fail
        refine HRR.out.mono ?_
        rintro e W3 ⟨rfl, hJ5, hz5, hg5⟩
        have hT := (hg5 wr.heap.size (.inr rfl)).trans HT6.out
        have hT2 : Blk W3 wr.heap.size #[.int .i64 x1, .int .i64 x2] 51 := hT
        obtain ⟨f0, f1⟩ := hT2.two
        have hG5 := (hg5 g (.inl (.inr rfl))).trans HG1.out
        have hB5 := (hg5 b1 (.inl (.inl HP1.out))).trans HB11.out
        have hJ6 : J (fun k => P0 k ∨ k = g) (pre ++ [(at_, m)]) W3 := HJ.out _ _ _ W3 W3 none hJ5 ⟨rfl, rfl, rfl, Nat.le_refl _, fun _ _ _ => rfl⟩ (fun r e => by cases e) (fun k hk => .inl (.inl hk))
        have HJ6 := Lib.hid hJ6
        have HG5 := Lib.hid hG5
        have HB5 := Lib.hid hB5
        have HSW2 := HSW2
        clear hT hT2 hG5 hB5 hJ5 hJ6 hg5 hy HRR HT6
        gi_wp2_with fail
        go_roundw
        case rel => exact ⟨k + 1, max at_ x2, pre ++ [(at_, m)], by omega, rfl, by go_num, by omega, by omega, by rw [List.append_assoc]; exact HSW2.out, by simp; omega, HJ6.out, HG5.out, HB5.out⟩
        case measure => simp [intOf]; omega
      · have hsw2 := HSW.out
        rw [sweep_miss (p := (x1, x2)) (by rw [← EM.out, ← EQ.out]; exact hq)] at hsw2
        dsimp only at hsw2
        have HSW2 := Lib.hid hsw2
        clear hsw2 HSW em eq
        have hJ6 : J (fun k => P0 k ∨ k = g) pre w1 := HJ.out _ _ _ w1 w1 none HJ4.out ⟨rfl, rfl, rfl, Nat.le_refl _, fun _ _ _ => rfl⟩ (fun r e => by cases e) (fun k hk => .inl (.inl hk))
        have HJ6 := Lib.hid hJ6
        clear hJ6
        gi_wp2_with fail
        refine ⟨fun f h => (by cases h), ?_⟩
        gi_wp2_with fail
        go_roundw
        case rel => exact ⟨k + 1, max at_ x2, pre, by omega, rfl, by go_num, by omega, by omega, HSW2.out, by omega, HJ6.out, HG1.out, HB11.out⟩
        case measure => simp [intOf]; omega
    · obtain rfl : k = N := by omega
      have hsw2 := hsw
      rw [List.drop_of_length_le (by rw [HE.out]; exact Nat.le_refl _)] at hsw2
      simp only [sweep, List.append_nil] at hsw2
      have HSW2 := Lib.hid hsw2
      have HJp := Lib.hid hJp
      clear hsw2 hsw hJp hW4 hB4 hgk hbk
      gi_wp2_with fail
      go_end0
      exact ⟨⟨_, rfl⟩, (fun k => P0 k ∨ k = g), HSW2.out ▸ HJp.out⟩
end Go.Proofs.Ytgploogflhfolaa

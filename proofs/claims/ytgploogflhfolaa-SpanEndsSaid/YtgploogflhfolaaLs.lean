/- Layer 3: the law SpanRows, walked. -/
import Derived.Test.YtgploogflhfolaaXp
import Derived.Test.YtgploogflhfolaaXo
import Derived.Test.YtgploogflhfolaaKe
import Derived.Test.YtgploogflhfolaaTx
namespace Go.Proofs.Ytgploogflhfolaa
open Go Go.Proofs Go.RowKit
/-- What stays over the law. -/
def RW (w0 : World) (x y : Int) (A : Option Addr) (l : List (Int × Int)) (B : Option Addr) (t : List Nat) (gi gb : Nat) (W : World) : Prop :=
  Below w0.heap.size w0 W ∧ Blk W w0.heap.size #[.int .i64 x, .int .i64 y] 23 ∧ Spn W A l ∧ Txt W B t ∧ Spn W (some ⟨gi, 0, none⟩) l ∧ Lent W gb t
theorem RW.below {w0 : World} {x y : Int} {A : Option Addr} {l : List (Int × Int)} {B : Option Addr} {t : List Nat} {gi gb : Nat} {W W' : World} (h : RW w0 x y A l B t gi gb W) (hb : Below W.heap.size W W') : RW w0 x y A l B t gi gb W' :=
  ⟨bt h.1 hb h.1.size, h.2.1.below hb h.2.1.lt, h.2.2.1.below hb, h.2.2.2.1.below hb, h.2.2.2.2.1.below hb, h.2.2.2.2.2.below hb⟩
theorem Lent.txt {w : World} {g : Nat} {l : List Nat} (h : Lent w g l) (hx : ∀ x ∈ l, x < 256) : Txt w (some ⟨g, 0, none⟩) l :=
  ⟨hx, fun _ => ⟨g, 0, rfl, h.1, fun i hi => by rw [Nat.zero_add, h.2 i (by omega), lent_text hi]⟩⟩
theorem spn_at_own {w : World} {base g cap n : Nat} {xs : List (Int × Int)} (hn : xs.length = n) (h : w.ownsRow base 23 2 (.slice (some ⟨g, 0, none⟩) n cap) n (scells xs)) : Spn w (some ⟨g, 0, none⟩) xs := by
  subst hn
  obtain ⟨A, c, e, h⟩ := spn_of_own h
  simp only [Value.slice.injEq] at e
  obtain ⟨rfl, _, _⟩ := e
  exact h
set_option maxRecDepth 100000 in
set_option maxHeartbeats 2000000 in
theorem rows_long (x y : Int) (A : Option Addr) (n c : Nat) (B : Option Addr) (m d : Nat) (hn : 300 < n + m) (h1 : n ≤ 4611686018427387903) (h2 : m ≤ 4611686018427387903) (w : World) :
    Calls Try.prog 4 #[.agg #[.int .i64 x, .int .i64 y], .slice A n c, .slice B m d] w fun e w' => e = .returned (.bool true) ∧ Below w.heap.size w w' := by
  have hn' : (300 : Int) < (n : Int) + m := by omega
  have hw : IntKind.i64.wrap ((n : Int) + m) = (n : Int) + m := IntWalk.i64_in _ (by omega)
  go_enter Try.func4, Try.ntmps4
  go_wp2_with fail
  refine (awake_any _).mono ?_
  rintro e w1 ⟨rfl, hb⟩
  go_wp2_with fail
  go_ret
  exact ⟨rfl, bt (B1 _ _) hb (by simp)⟩

set_option maxRecDepth 100000 in
set_option maxHeartbeats 8000000 in
theorem rows_main (x y : Int) (hs : Inr (x, y)) (A : Option Addr) (l : List (Int × Int)) (c : Nat) (B : Option Addr) (t : List Nat) (d : Nat) (hn : l.length + t.length ≤ 300) (hr : Inrs l) (hnc : A = none → c = 0)
    (hnd : B = none → d = 0) (htd : t.length ≤ d) (hd2 : d ≤ 9223372036854775807) (w : World) (hA : Spn w A l) (hB : Txt w B t) :
    Calls Try.prog 4 #[.agg #[.int .i64 x, .int .i64 y], .slice A l.length c, .slice B t.length d] w fun e w' => e = .returned (.bool true) ∧ Below w.heap.size w w' := by
  have hn' : (l.length : Int) + t.length ≤ 300 := by omega
  have hl : l.length ≤ 300 := by omega
  have ht : t.length ≤ 300 := by omega
  have hw : IntKind.i64.wrap ((l.length : Int) + t.length) = (l.length : Int) + t.length := IntWalk.i64_in _ (by omega)
  have HS := Lib.hid hs
  have HR := Lib.hid hr
  have HNC := Lib.hid hnc
  have HND := Lib.hid hnd
  have HA := Lib.hid hA
  have HB := Lib.hid hB
  clear hs hr hnc hnd hA hB
  go_enter Try.func4, Try.ntmps4
  have hb0 := B1 w (.cells #[.int .i64 x, .int .i64 y] 23)
  have bs0 := Blk.new w #[.int .i64 x, .int .i64 y] 23
  obtain ⟨W1, eW1⟩ : ∃ W1, W1 = w.alloc (.cells #[.int .i64 x, .int .i64 y] 23) := ⟨_, rfl⟩
  rw [← eW1] at hb0 bs0
  have HA1 := Lib.hid (HA.out.below hb0)
  have HB1 := Lib.hid (HB.out.below hb0)
  have HB0 := Lib.hid hb0
  have BS0 := Lib.hid bs0
  clear hb0 bs0
  go_upto_region 3 with fail
  rw [← eW1]
  clear eW1
  go_wp2_with (at_builtin; refine wpList_append_first _ rfl (.tmp 23) (.tmp 24) rfl W1.heap.size W1.heap.size A l c rfl rfl HNC.out (by omega) (B1 W1 _).size (own_empty W1 (Nat.le_refl _)) (HA1.out.below (B1 _ _)) ?_; intro gi ci w2 hown2 hb2)
  have hb12 := bt (B1 W1 (.cells #[] 23)) hb2 (B1 W1 (.cells #[] 23)).size
  have HS2 := Lib.hid (spn_at_own rfl hown2)
  have HB12 := Lib.hid hb12
  clear hown2 hb2 hb12
  refine (lent_any B t d (by omega) HND.out w2 (HB1.out.below HB12.out)).mono ?_
  rintro e w3 ⟨⟨gb, cb, rfl, hgb, hown3⟩, hb3⟩
  obtain ⟨hlent, hcb, hcb2⟩ := Lent.of_own hown3
  have hb13 := bt HB12.out hb3 HB12.out.size
  have HRW3 : Hid (RW w x y A l B t gi gb w3) := Lib.hid ⟨bt HB0.out hb13 HB0.out.size, BS0.out.below hb13 BS0.out.lt, HA1.out.below hb13, HB1.out.below hb13, HS2.out.below hb3, hlent⟩
  have hcb3 : cb ≤ 9223372036854775807 := by unfold maxLen at hcb2; omega
  have C3_3 := Lib.hid (Below.refl w3.heap.size w3)
  clear hgb hown3 hlent hb3 hb13 HB12 HS2 HA HB HA1 HB1 HB0 BS0 hcb2
  obtain ⟨c0, c1⟩ := HRW3.out.2.1.two
  go_wp2_with fail
  refine (gaps_any (x, y) HS.out (some ⟨gi, 0, none⟩) l ci (by omega) HR.out w3 HRW3.out.2.2.2.2.1).mono ?_
  rintro e w4 ⟨v, rfl, hown4, hb4⟩
  have hgl := gapsF_len x y l
  obtain ⟨G, eG⟩ : ∃ G, G = gapsF x y l := ⟨_, rfl⟩
  dsimp only at hown4
  rw [← eG] at hown4 hgl
  obtain ⟨Ag, cg, rfl, hSg⟩ := spn_of_own hown4
  have EG := Lib.hid eG
  have HG4 := Lib.hid hown4
  have HSg4 := Lib.hid hSg
  have C3_4 := Lib.hid (bt C3_3.out hb4 C3_3.out.size)
  have C4_4 := Lib.hid (Below.refl w4.heap.size w4)
  have hz34 : w3.heap.size ≤ w4.heap.size := hb4.size
  have HRW4 := Lib.hid (HRW3.out.below C3_4.out)
  clear hown4 hSg eG hb4 c0 c1 C3_3
  obtain ⟨c0, c1⟩ := HRW4.out.2.1.two
  go_wp2_with fail
  refine (cut_all (some ⟨gb, 0, none⟩) t cb x y (by omega) (by omega) hcb3 (fun h => by cases h) w4 (HRW4.out.2.2.2.2.2.txt HRW4.out.2.2.2.1.1)).mono ?_
  rintro e w5 ⟨v, rfl, hown5, hb5⟩
  have hcl := cutR_length t x y
  have hcm := fun b hb => HRW4.out.2.2.2.1.1 b (cutR_mem (l := t) (x := x) (y := y) hb)
  obtain ⟨K, eK⟩ : ∃ K, K = cutR t x y := ⟨_, rfl⟩
  obtain ⟨ke, eke⟩ : ∃ K, K = cutE t x y := ⟨_, rfl⟩
  rw [← eK] at hown5 hcl hcm
  rw [← eke]
  have EK := Lib.hid eK
  have EKE := Lib.hid eke
  have HCM := Lib.hid hcm
  obtain ⟨Ac, cc, rfl, hTc, hc1, hc2, hc3⟩ := text_of_own' hown5 rfl HCM.out
  have HC5 := Lib.hid hown5
  have HTc5 := Lib.hid hTc
  have C3_5 := Lib.hid (bt C3_4.out hb5 C3_4.out.size)
  have C4_5 := Lib.hid (bt C4_4.out hb5 C4_4.out.size)
  have C5_5 := Lib.hid (Below.refl w5.heap.size w5)
  have hz45 : w4.heap.size ≤ w5.heap.size := hb5.size
  have HRW5 := Lib.hid (HRW3.out.below C3_5.out)
  clear hown5 hTc eK eke hb5 c0 c1 hcm hc1 hc2 hc3 HRW4 C3_4 C4_4
  obtain ⟨c0, c1⟩ := HRW5.out.2.1.two
  go_wp2_with fail
  refine (rcut_all B t d x y (by omega) htd hd2 HND.out w5 HRW5.out.2.2.2.1).mono ?_
  rintro e w6 ⟨v, rfl, hown6, hb6⟩
  rw [← EK.out] at hown6
  rw [← EKE.out]
  obtain ⟨Ad, cd, rfl, hTd, hd1, hd2', hd3⟩ := text_of_own' hown6 rfl HCM.out
  have HTd6 := Lib.hid hTd
  have C3_6 := Lib.hid (bt C3_5.out hb6 C3_5.out.size)
  have C4_6 := Lib.hid (bt C4_5.out hb6 C4_5.out.size)
  have C5_6 := Lib.hid (bt C5_5.out hb6 C5_5.out.size)
  have C6_6 := Lib.hid (Below.refl w6.heap.size w6)
  have HRW6 := Lib.hid (HRW3.out.below C3_6.out)
  clear hown6 hTd hb6 c0 c1 hd1 hd2' hd3 HRW5 C3_5 C4_5 C5_5 EKE EK
  obtain ⟨c0, c1⟩ := HRW6.out.2.1.two
  go_wp2_with fail
  refine (rgaps_any (x, y) A l c (by omega) HR.out w6 HRW6.out.2.2.1).mono ?_
  rintro e w7 ⟨v, rfl, hown7, hb7⟩
  dsimp only at hown7
  rw [← EG.out] at hown7
  obtain ⟨Ar, cr, rfl, hSr⟩ := spn_of_own hown7
  have HSr7 := Lib.hid hSr
  have C3_7 := Lib.hid (bt C3_6.out hb7 C3_6.out.size)
  have C4_7 := Lib.hid (bt C4_6.out hb7 C4_6.out.size)
  have C5_7 := Lib.hid (bt C5_6.out hb7 C5_6.out.size)
  have C6_7 := Lib.hid (bt C6_6.out hb7 C6_6.out.size)
  clear hown7 hSr hb7 c0 c1 HRW6 C3_6 C4_6 C5_6 C6_6 EG
  go_wp2_with fail
  refine (same_any Ag Ar G G cg cr (by omega) (by omega) w7 (HSg4.out.below C4_7.out) HSr7.out).mono ?_
  rintro e w8 ⟨rfl, n8, e8⟩
  have hb8 : Below w7.heap.size w7 w8 := by rw [e8]; exact bdrew (Below.refl _ _)
  have C3_8 := Lib.hid (bt C3_7.out hb8 C3_7.out.size)
  have C4_8 := Lib.hid (bt C4_7.out hb8 C4_7.out.size)
  have C5_8 := Lib.hid (bt C5_7.out hb8 C5_7.out.size)
  have C6_8 := Lib.hid (bt C6_7.out hb8 C6_7.out.size)
  rw [decide_eq_true (rfl : G = G)]
  clear e8 hb8 HSr7 C3_7 C4_7 C5_7 C6_7
  go_wp2_with fail
  refine (sameb_any Ac Ad K K cc cd (by omega) (by omega) w8 (HTc5.out.below C5_8.out) (HTd6.out.below C6_8.out)).mono ?_
  rintro e w9 ⟨rfl, n9, e9⟩
  have hb9 : Below w8.heap.size w8 w9 := by rw [e9]; exact bdrew (Below.refl _ _)
  have C3_9 := Lib.hid (bt C3_8.out hb9 C3_8.out.size)
  have C4_9 := Lib.hid (bt C4_8.out hb9 C4_8.out.size)
  have C5_9 := Lib.hid (bt C5_8.out hb9 C5_8.out.size)
  rw [decide_eq_true (rfl : K = K)]
  have HRW9 := Lib.hid (HRW3.out.below C3_9.out)
  clear e9 hb9 HTd6 C3_8 C4_8 C5_8 C6_8
  go_wp2_with fail
  refine (join_any (some ⟨gi, 0, none⟩) l ci (by omega) w9 HRW9.out.2.2.2.2.1).mono ?_
  rintro e w10 ⟨rfl, hb10⟩
  have C3_10 := Lib.hid (bt C3_9.out hb10 C3_9.out.size)
  have C4_10 := Lib.hid (bt C4_9.out hb10 C4_9.out.size)
  have C5_10 := Lib.hid (bt C5_9.out hb10 C5_9.out.size)
  have HRW10 := Lib.hid (HRW3.out.below C3_10.out)
  clear hb10 HRW9 C3_9 C4_9 C5_9
  go_wp2_with fail
  refine (rjoin_any A l c (by omega) w10 HRW10.out.2.2.1).mono ?_
  rintro e w11 ⟨rfl, hb11⟩
  have C3_11 := Lib.hid (bt C3_10.out hb11 C3_10.out.size)
  have C4_11 := Lib.hid (bt C4_10.out hb11 C4_10.out.size)
  have C5_11 := Lib.hid (bt C5_10.out hb11 C5_10.out.size)
  have HRW11 := Lib.hid (HRW3.out.below C3_11.out)
  clear hb11 HRW10 C3_10 C4_10 C5_10
  generalize (joinTo l).2.1 = j1
  generalize (joinTo l).2.2 = j2
  go_wp2_with fail
  refine (nested_any (some ⟨gi, 0, none⟩) l ci (by omega) HR.out w11 HRW11.out.2.2.2.2.1).mono ?_
  rintro e w12 ⟨rfl, hb12⟩
  have C3_12 := Lib.hid (bt C3_11.out hb12 C3_11.out.size)
  have C4_12 := Lib.hid (bt C4_11.out hb12 C4_11.out.size)
  have C5_12 := Lib.hid (bt C5_11.out hb12 C5_11.out.size)
  have HRW12 := Lib.hid (HRW3.out.below C3_12.out)
  clear hb12 HRW11 C3_11 C4_11 C5_11
  go_wp2_with fail
  refine (rnested_any A l c (by omega) HR.out w12 HRW12.out.2.2.1).mono ?_
  rintro e w13 ⟨rfl, hb13⟩
  have C3_13 := Lib.hid (bt C3_12.out hb13 C3_12.out.size)
  have C4_13 := Lib.hid (bt C4_12.out hb13 C4_12.out.size)
  have C5_13 := Lib.hid (bt C5_12.out hb13 C5_12.out.size)
  clear hb13 HRW12 C3_12 C4_12 C5_12
  generalize nestP l = np
  go_wp2_with fail
  refine (over_any w4.heap.size K.length (.slice Ac K.length cc) (K.map natb) (by omega) w13 (own_below HC5.out C5_13.out)).mono ?_
  rintro e w14 ⟨rfl, hgr14⟩
  have hk14 : ∀ k, (Value.slice Ac K.length cc).ownBlock = some k → w4.heap.size ≤ k := fun k hk => ((own_below HC5.out C5_13.out).lt k hk).1
  have C4_14 := Lib.hid (C4_13.out.grown hgr14 C4_13.out.size hk14)
  have C3_14 := Lib.hid (C3_13.out.grown hgr14 C3_13.out.size (fun k hk => Nat.le_trans hz34 (hk14 k hk)))
  have HG14 := Lib.hid (own_below HG4.out C4_14.out)
  clear hgr14 hk14 C3_13 C4_13 C5_13 HC5 HTc5
  go_wp2_with fail
  go_loopw [15] (fun i wr => ∃ k : Nat, k ≤ G.length ∧ i = .int .i64 k ∧ Below w3.heap.size w3 wr ∧ ∃ ys, wr.ownsRow w3.heap.size 23 2 (.slice Ag G.length cg) G.length ys) (fun i _ => G.length - (intOf i).toNat)
  case atStart => exact ⟨0, by omega, rfl, C3_14.out, _, HG14.out⟩
  case round =>
    obtain ⟨k, hk, rfl, hb, ys, hown⟩ := hrel
    by_cases hlt : k < G.length
    · obtain ⟨gg, cap, e, hgg, hgc, hgm, hgh⟩ := own_shape hown (by omega)
      simp only [Value.slice.injEq] at e
      obtain ⟨rfl, _, rfl⟩ := e
      have hlen := hown.1
      obtain ⟨u0, k0⟩ : ∃ u, wr.cell? ⟨gg, k * 2, none⟩ = some u := by
        have c1 := hown.cellAt (k * 2) (by omega)
        rw [List.getElem?_eq_getElem (show k * 2 < ys.length by omega)] at c1
        exact ⟨_, c1⟩
      obtain ⟨u1, k1⟩ : ∃ u, wr.cell? ⟨gg, k * 2 + 1, none⟩ = some u := by
        have c1 := hown.cellAt (k * 2 + 1) (by omega)
        rw [List.getElem?_eq_getElem (show k * 2 + 1 < ys.length by omega)] at c1
        exact ⟨_, c1⟩
      have f1 := fun o => hown.frozenAt o
      have hlt2 : (k : Int) < G.length := by omega
      have HW := Lib.hid hown
      have HBB := Lib.hid hb
      clear hown hb
      go_wp2_with fail
      go_roundw
      case rel =>
        refine ⟨k + 1, by omega, by go_num, ?_⟩
        obtain ⟨q1, q2⟩ := HW.out.stored (k * 2) (.int .i64 77)
        obtain ⟨q3, q4⟩ := q1.stored (k * 2 + 1) (.int .i64 0)
        exact ⟨(HBB.out.grown q2 HBB.out.size (fun g h => by cases h; exact hgg)).grown q4 (Nat.le_trans HBB.out.size q2.size) (fun g h => by cases h; exact hgg), _, q3⟩
      case measure => simp [intOf]; omega
    · obtain rfl : k = G.length := by omega
      have HRW15 := Lib.hid (HRW3.out.below hb)
      clear hb hown HG14 C3_14 C4_14
      go_wp2_with fail
      refine (same_any (some ⟨gi, 0, none⟩) A l l ci c (by omega) (by omega) wr HRW15.out.2.2.2.2.1 HRW15.out.2.2.1).mono ?_
      rintro e w16 ⟨rfl, n16, e16⟩
      have hb16 : Below wr.heap.size wr w16 := by rw [e16]; exact bdrew (Below.refl _ _)
      have HRW16 := Lib.hid (HRW15.out.below hb16)
      rw [decide_eq_true (rfl : l = l)]
      clear e16 hb16
      go_wp2_with fail
      refine (kept_any B t d gb cb (by omega) hcb hcb3 w16 HRW16.out.2.2.2.1 HRW16.out.2.2.2.2.2).mono ?_
      rintro e w17 ⟨rfl, n17, e17⟩
      have hb17 : Below w16.heap.size w16 w17 := by rw [e17]; exact bdrew (Below.refl _ _)
      have HRW17 := Lib.hid (HRW16.out.below hb17)
      clear e17 hb17
      go_wp2_with fail
      refine (awake_any _).mono ?_
      rintro e w18 ⟨rfl, hb18⟩
      have HRW18 := Lib.hid (HRW17.out.below hb18)
      clear hb18
      go_wp2_with fail
      go_ret
      exact ⟨rfl, HRW18.out.1⟩
end Go.Proofs.Ytgploogflhfolaa

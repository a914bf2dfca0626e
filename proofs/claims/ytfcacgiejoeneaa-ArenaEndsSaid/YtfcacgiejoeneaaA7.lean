/- The law ArenaDoes, walked: the deeds. -/
import Derived.Test.YtfcacgiejoeneaaA6
import Derived.Deep.CutRange
set_option linter.unusedSimpArgs false
set_option linter.unusedVariables false
namespace Go.Proofs.Ytfcacgiejoeneaa
open Go Go.RowKit Go.Shelf
attribute [local go_sem] Oper.semAt_some
theorem Good.below {w w' : World} {d : Deed} (h : Good w d) (hb : Below w.heap.size w w') : Good w' d := ⟨h.1, h.2.1, h.2.2.1, h.2.2.2.1, h.2.2.2.2.1.below hb, h.2.2.2.2.2⟩
/-- What the law lent: its row, its block, how long it is. -/
structure In (w : World) (base g cap : Nat) (l : List Int) : Prop where
  own : w.ownsRow base 3 1 (.slice (some ⟨g, 0, none⟩) (ints (l ++ marks 12)).length cap) (ints (l ++ marks 12)).length (ints (l ++ marks 12))
  lo : base ≤ g
theorem In.lt4 {w : World} {base g cap : Nat} {l : List Int} (h : In w base g cap l) : g < w.heap.size := (Lent.of_own h.own).1.1
theorem In.lent {w : World} {base g cap : Nat} {l : List Int} (h : In w base g cap l) : Lent w g l := (Lent.of_own h.own).1
theorem In.of {w : World} {base g cap : Nat} {l : List Int} (h : w.ownsRow base 3 1 (.slice (some ⟨g, 0, none⟩) (ints (l ++ marks 12)).length cap) (ints (l ++ marks 12)).length (ints (l ++ marks 12))) (hg : base ≤ g) :
    (In w base g cap l ∧ (l.length + 12 ≤ cap ∧ cap ≤ 9223372036854775807)) ∧ Lies w (some ⟨g, 0, none⟩) (ints l) := by
  have h1 := Lent.of_own h
  refine ⟨⟨⟨h, hg⟩, h1.2.1, by have := h1.2.2; unfold maxLen at this; omega⟩, ?_⟩
  have h2 := lies_take (own_lies h) l.length
  rw [← ints_take, List.take_left'] at h2
  · exact h2
  · rfl
theorem In.turn {w w' : World} {base g cap b : Nat} {l : List Int} {v v' : Value} (h : In w base g cap l) (ht : Turn w w' b v v') (h1 : g ≠ b) (h2 : v.ownBlock ≠ some g) (h3 : g < w.heap.size) : In w' base g cap l :=
  ⟨own_kept h.own (fun k e => by
    have : k = g := by simpa [Value.ownBlock] using e.symm
    subst this
    exact ht.block k h3 h1 h2), h.lo⟩
theorem In.drew {w : World} {base g cap : Nat} {l : List Int} (h : In w base g cap l) (n : Nat) : (w.drewN n).ownsRow base 3 1 (.slice (some ⟨g, 0, none⟩) (ints (l ++ marks 12)).length cap) (ints (l ++ marks 12)).length (ints (l ++ marks 12)) :=
  own_kept h.own (fun _ _ => rfl)
theorem In.ne {w0 w w' : World} {b c q g cap : Nat} {room pk pk' : Int} {v u : Value} {ys xs : List Int} {D : Array Value} {l : List Int} {p : Prop} (h : In w' w.heap.size g cap l ∧ p) (m : Mid w0 w b c q room pk pk' v u ys xs D) :
    g ≠ b ∧ v.ownBlock ≠ some g ∧ g ≠ c ∧ u.ownBlock ≠ some g :=
  have h1 := h.1.lo
  ⟨fun e => by have := m.a.blk.lt; omega, fun e => by have := (m.a.own.lt g e).2; omega, fun e => by have := m.r.blk.lt; omega, fun e => by have := (m.r.own.lt g e).2; omega⟩
theorem Mid.below {w0 w w' : World} {b c q : Nat} {room pk pk' : Int} {v u : Value} {ys xs : List Int} {D : Array Value} (h : Mid w0 w b c q room pk pk' v u ys xs D) (hb : Below w.heap.size w w') : Mid w0 w' b c q room pk pk' v u ys xs D :=
  ⟨h.a.below hb, h.r.below hb, h.apart, h.q.below' hb, bt h.low hb h.low.size⟩
set_option maxRecDepth 100000 in
set_option maxHeartbeats 40000000 in
theorem does_any (room : Int) (A : Option Addr) (ds : List Deed) (c : Nat) (hroom : -9223372036854775808 ≤ room ∧ room < 9223372036854775808) (hd : ds.length ≤ 60) (ht : ds.length + things ds ≤ 400) (w : World) (hg : ∀ d ∈ ds, Good w d) (hA : Deeds w A ds) :
    Calls Try.prog 3 #[.int .i64 room, .slice A ds.length c] w fun e w' => e = .returned (.bool true) ∧ Below w.heap.size w w' := by
  have hl : ∀ d ∈ ds, d.l.length ≤ 140737488351232 := fun d h => (hg d h).2.2.2.2.2
  have SZ0 := size_yes A ds c (by omega) hl ht w hA
  have SZ := Lib.hid SZ0
  have HG := Lib.hid hg
  have HA := Lib.hid hA
  have HT := Lib.hid ht
  have hd2 : (ds.length : Int) ≤ 60 := by omega
  clear hl SZ0 hg hA ht
  by_cases h0 : room < 0
  · go_enter Try.func3, Try.ntmps3
    go_wp2_with (first | (go_at_call 7; refine SZ.out.mono ?_; rintro e w1 ⟨⟨z, rfl, hz⟩, rfl⟩) | (go_at_call 9; refine (new_nil room h0 _).mono ?_; rintro e w1 ⟨rfl, rfl⟩) | (go_at_call 8; refine (awake_any _).mono ?_; rintro e w2 ⟨rfl, hb2⟩; have HB2 := Lib.hid ((B1 _ _).trans (hb2.mono (by simp))); clear hb2))
    all_goals go_ret
    all_goals exact ⟨rfl, HB2.out⟩
  · have h0' : 0 ≤ room := by omega
    go_enter Try.func3, Try.ntmps3
    go_wp2_with (first | (go_at_call 7; refine SZ.out.mono ?_; rintro e w1 ⟨⟨z, rfl, hz⟩, rfl⟩) | (go_at_call 9; refine (new_op room h0' _).mono ?_; rintro e w1 ⟨b, rfl, hlo, hblk, hb1⟩; have HN := Lib.hid (show w.heap.size ≤ b ∧ Blk w1 b _ 61 ∧ Below w.heap.size w w1 from ⟨hlo, hblk, hb1⟩); clear hlo hblk hb1))
    have P0 : RowKit.Hid (Pair (w1.alloc (.cells #[.int .i64 room, .int .i64 0, .slice none 0 0] 30)) w.heap.size b w1.heap.size room 0 (.slice none 0 0) (.slice none 0 0) []) := Lib.hid
      ⟨⟨HN.out.1, HN.out.2.1.alloc _, World.ownsRow_nil _ _ _ _, by simp [ints]; omega, by omega, by simp [ints], by omega⟩, ⟨HN.out.2.2.size, Blk.new _ _ _, World.ownsRow_nil _ _ _ _⟩, by simp [Value.ownBlock]⟩
    have B0 : RowKit.Hid (Below w.heap.size w (w1.alloc (.cells #[.int .i64 room, .int .i64 0, .slice none 0 0] 30))) := Lib.hid (HN.out.2.2.alloc HN.out.2.2.size _)
    generalize w1.alloc (.cells #[.int .i64 room, .int .i64 0, .slice none 0 0] 30) = w2 at P0 B0 ⊢
    generalize w1.heap.size = rb at P0 ⊢
    clear HN
    go_loopw [7, 8, 9, 10, 11, 12, 13] (fun s _ _ _ _ _ _ wr => ∃ (k : Nat) (v u : Value) (pk : Int) (xs : List Int), k ≤ ds.length ∧ s = .int .i64 k ∧ Pair wr w.heap.size b rb room pk v u xs ∧ xs.length ≤ things (ds.take k) ∧ Below w.heap.size w wr) (fun s _ _ _ _ _ _ _ => ds.length - (intOf s).toNat)
    case atStart => exact ⟨0, _, _, _, [], by omega, rfl, P0.out, by simp, B0.out⟩
    case round =>
      obtain ⟨k, v, u, pk, xs, hk, rfl, hp, hx, hb⟩ := hrel
      obtain ⟨wa, rfl⟩ : ∃ u, u = wr := ⟨_, rfl⟩
      have HP := Lib.hid hp
      have HB := Lib.hid hb
      have HX := Lib.hid hx
      clear hp hb hx P0 B0
      by_cases hlt : k < ds.length
      · have hlt2 : (k : Int) < ds.length := by omega
        obtain ⟨db, dO, rfl, hdl, hc⟩ := HA.out (by omega)
        obtain ⟨a0, a1, a2, a3⟩ := hc k hlt
        have hgd0 := HG.out (ds.getD k Deed.zero) (by simp [List.getD, List.getElem?_eq_getElem hlt])
        have htk := things_take hlt
        have hst := things_le ds (k + 1)
        obtain ⟨d, ed⟩ : ∃ d, d = ds.getD k Deed.zero := ⟨_, rfl⟩
        rw [← ed] at a0 a1 a2 a3 hgd0 htk
        have c0 := (HB.out.cell (p := ⟨db, dO + k * 4, none⟩) hdl).trans a0
        have c1 := (HB.out.cell (p := ⟨db, dO + k * 4 + 1, none⟩) hdl).trans a1
        have c2 := (HB.out.cell (p := ⟨db, dO + k * 4 + 2, none⟩) hdl).trans a2
        have c3 := (HB.out.cell (p := ⟨db, dO + k * 4 + 3, none⟩) hdl).trans a3
        have GD := Lib.hid hgd0
        have TT : RowKit.Hid (things (ds.take (k + 1)) = things (ds.take k) + d.l.length ∧ things (ds.take (k + 1)) ≤ 400) := Lib.hid ⟨htk, by have := HT.out; omega⟩
        clear a0 a1 a2 a3 hgd0 htk hst hc ed hdl
        obtain ⟨what, n, x, A1, c9, l⟩ := d
        dsimp only at c0 c1 c2 c3 TT GD
        go_wp2_with fail
        have hm4 : what % 4 = 0 ∨ what % 4 = 1 ∨ what % 4 = 2 ∨ what % 4 = 3 := by omega
        have PK0 := fun W => pick_any what 4 GD.out.1 (by decide) W
        obtain ⟨we, ewe⟩ : ∃ u, u = wa.alloc (.cells #[.int .i64 what, .int .i64 n, .int .i64 x, .slice A1 l.length c9] 32) := ⟨_, rfl⟩
        obtain ⟨q, eq⟩ : ∃ q, q = wa.heap.size := ⟨_, rfl⟩
        rw [← ewe, ← eq]
        have hbe : Below wa.heap.size wa we := by rw [ewe]; exact B1 _ _
        have hq : Blk we q #[.int .i64 what, .int .i64 n, .int .i64 x, .slice A1 l.length c9] 32 := by rw [ewe, eq]; exact Blk.new _ _ _
        have ME := Lib.hid (Mid.of (HP.out.below hbe) hq (bt HB.out hbe HB.out.size))
        obtain ⟨e0, e1, e2, e3⟩ := hq.four
        clear c0 c1 c2 c3 hbe hq ewe eq HP HB
        generalize what % 4 = m at hm4 PK0
        have PK := Lib.hid PK0
        clear PK0
        rcases hm4 with rfl | rfl | rfl | rfl
        · have hm0 := True.intro
          obtain ⟨r, E, pk', ys, hpi, hys⟩ := put_is room pk xs l
          have PI := Lib.hid hpi
          clear hpi hm0
          have hl6 : l.length ≤ 400 := by have := TT.out; omega
          have hx6 : xs.length + l.length ≤ 400 := by have := TT.out; have := HX.out; omega
          have LI : RowKit.Hid (∀ W, Below w.heap.size w W → Lies W A1 (ints l)) := Lib.hid (fun W h => (GD.out.below h).2.2.2.2.1)
          have NC : RowKit.Hid (A1 = none → c9 = 0) := Lib.hid GD.out.2.2.2.1
          go_wp2_with (first | (go_at_call 10; refine (PK.out _).mono ?_; rintro e w4 ⟨rfl, rfl⟩) | (go_at_call 11; refine (lent_any A1 l c9 (by omega) NC.out _ (LI.out _ ME.out.low)).mono ?_; rintro e w4 ⟨⟨g, cap, rfl, hg4, hown4⟩, hb4⟩; have M4 := Lib.hid (ME.out.below hb4); have I4 := Lib.hid (In.of hown4 hg4); clear hown4 hg4 hb4))
          clear e0 e1 e2 e3
          have hcap1 := I4.out.1.2
          have NE4 := Lib.hid (In.ne I4.out.1 ME.out)
          go_wp2_with (go_at_call 12; refine (a_put b room pk v xs w.heap.size (some ⟨g, 0, none⟩) cap l r E pk' ys PI.out (fun h => by cases h) (by omega) _ M4.out.low.size M4.out.a I4.out.2).mono ?_; rintro e w5 ⟨rfl, v5, ha5, ht5⟩; have M5 := Lib.hid (M4.out.left ha5 ht5); have I5 := Lib.hid (I4.out.1.1.turn ht5 NE4.out.1 NE4.out.2.1 (In.lt4 I4.out.1.1)); obtain ⟨_, _, _, e3⟩ := M5.out.q.four; have N5 : RowKit.Hid (g ≠ b ∧ g ≠ rb ∧ v5.ownBlock ≠ some g ∧ u.ownBlock ≠ some g) := Lib.hid ⟨NE4.out.1, NE4.out.2.2.1, fun e => by { rcases ht5.fresh g e with h | h; exact NE4.out.2.1 h; have := (In.lt4 I4.out.1.1); omega }, NE4.out.2.2.2⟩; clear ha5 ht5)
          go_wp2_with (go_at_call 13; refine (r_put rb room pk u xs w.heap.size A1 c9 l r E pk' ys PI.out NC.out (by omega) _ M5.out.low.size M5.out.r (LI.out _ M5.out.low)).mono ?_; rintro e w6 ⟨rfl, u6, hr6, ht6⟩; have M6 := Lib.hid (M5.out.right hr6 ht6); have I6 := Lib.hid (I5.out.turn ht6 N5.out.2.1 N5.out.2.2.2 (In.lt4 I5.out)); have N6 : RowKit.Hid (u6.ownBlock ≠ some g) := Lib.hid (fun e => by { rcases ht6.fresh g e with h | h; exact N5.out.2.2.2 h; have := (In.lt4 I5.out); omega }); clear e3; obtain ⟨_, _, _, e3⟩ := M6.out.q.four; clear hr6 ht6)
          go_wp2_with (first | (go_at_call 14; refine (kept_any A1 l c9 g cap (by omega) hcap1.1 hcap1.2 _ (LI.out _ M6.out.low) I6.out.lent).mono ?_; rintro e w7 ⟨rfl, n7, rfl⟩) | (go_at_call 15; refine (over_any _ g cap _ l.length _ (by omega) _ (I6.out.drew n7) hcap1.1 hcap1.2).mono ?_; rintro e w8 ⟨rfl, hg8⟩; have P8 := Lib.hid (Pair.over (M6.out.pair.below (bdrew (Below.refl _ _))) hg8 N5.out.1 N5.out.2.1 N5.out.2.2.1 N6.out); have B8 : RowKit.Hid (Below w.heap.size w w8) := Lib.hid ((bdrew M6.out.low).grown hg8 M6.out.low.size (fun j hj => by { cases hj; have := I6.out.lo; have := ME.out.low.size; omega })); clear hg8) | (go_at_call 20; refine (same_any b rb room pk' v5 u6 ys w.heap.size (by omega) _ P8.out.a P8.out.r).mono ?_; rintro e w9 ⟨rfl, hb9⟩; have B9 := Lib.hid hb9; clear hb9))
          go_roundw
          case rel => exact ⟨k + 1, v5, u6, pk', ys, hlt, by go_num, P8.out.below B9.out, by have := HX.out; have := TT.out; omega, bt B8.out B9.out B8.out.size⟩
          case measure => simp [intOf]; omega
        · obtain ⟨E, ys, hsi, hys⟩ := set_is xs n x
          have SI := Lib.hid hsi
          clear hsi
          go_wp2_with (go_at_call 10; refine (PK.out _).mono ?_; rintro e w4 ⟨rfl, rfl⟩)
          go_cut [97, 108] from 35 to 112 (fun s97 s108 wx => s97 = .bool false ∧ ∃ v' u', Pair wx w.heap.size b rb room pk v' u' ys ∧ Below w.heap.size w wx)
          case first =>
            refine wp_mono (Q := calm _) ?_ (calm_le _)
            have hm := mixed
            refine wp_region_any hm ?_
            simp only [List.size_toArray, List.length_cons, List.length_nil, Nat.reduceAdd]
            obtain ⟨wd, ed⟩ : ∃ u : World, u = { we with drawn := we.drawn + 1 } := ⟨_, rfl⟩
            rw [← ed]
            have MD : RowKit.Hid (Mid w wd b rb q room pk pk v u xs xs _) := Lib.hid (by rw [ed]; exact ME.out.drew1)
            clear ed e0 e1 e2 e3
            obtain ⟨_, e1, e2, _⟩ := MD.out.q.four
            have SA := Lib.hid (a_set b room pk v xs w.heap.size n x E ys SI.out wd MD.out.a)
            refine wpAny_take (i := 0) (v := ?_) rfl (by kernel_rfl) (by kernel_rfl) (by kernel_rfl) (fun _ _ _ h => h) (Or.inl ⟨by rfl, ?_⟩) ?_
            rotate_left
            · intro w; go_simp; try with_reducible rfl
            refine wpAny_take (i := 1) (v := ?_) rfl (by kernel_rfl) (by kernel_rfl) (by kernel_rfl) (fun _ _ _ h => h) (Or.inl ⟨by rfl, ?_⟩) ?_
            rotate_left
            · intro w; go_simp; try with_reducible rfl
            refine wpAny_take (i := 3) (v := ?_) rfl (by kernel_rfl) (by kernel_rfl) (by kernel_rfl) (fun _ _ _ h => h) (Or.inl ⟨by rfl, ?_⟩) ?_
            rotate_left
            · intro w; go_simp; try with_reducible rfl
            refine wpAny_take (i := 6) (v := ?_) rfl (by kernel_rfl) (by kernel_rfl) (by kernel_rfl) (fun _ _ _ h => h) (Or.inl ⟨by rfl, ?_⟩) ?_
            rotate_left
            · intro w; go_simp; try with_reducible rfl
            refine wpAny_take (i := 7) (v := ?_) rfl (by kernel_rfl) (by kernel_rfl) (by kernel_rfl) (fun _ _ _ h => h) (Or.inl ⟨by rfl, ?_⟩) ?_
            rotate_left
            · intro w; go_simp; try with_reducible rfl
            refine wpAny_take (i := 9) (v := ?_) rfl (by kernel_rfl) (by kernel_rfl) (by kernel_rfl) (fun _ _ _ h => h) (Or.inl ⟨by rfl, ?_⟩) ?_
            rotate_left
            · intro w; go_simp; try with_reducible rfl
            refine wpAny_ready (rs := [2, 4, 8, 10]) (by kernel_rfl) (by simp) ?_
            refine AllReady.cons rfl (fun K hK => ?_) ?_
            · go_simp
              refine hK _ _ ?_
              clear hK K
              refine wpAny_ready (rs := [4, 8, 10]) (by kernel_rfl) (by simp) ?_
              refine AllReady.cons rfl (fun K hK => ?_) ?_
              · go_simp
                refine hK _ _ ?_
                clear hK K
                refine wpAny_ready (rs := [5, 8, 10]) (by kernel_rfl) (by simp) ?_
                refine AllReady.cons rfl (fun K hK => ?_) ?_
                · go_simp
                  go_at_call 16
                  refine SA.out.mono ?_
                  rintro e w6 ⟨rfl, v6, ha6, ht6⟩
                  have M6 := Lib.hid (MD.out.left ha6 ht6)
                  obtain ⟨_, d1, d2, _⟩ := M6.out.q.four
                  clear ha6 ht6
                  try go_simp
                  refine hK _ _ ?_
                  clear hK K
                  refine wpAny_ready (rs := [8, 10]) (by kernel_rfl) (by simp) ?_
                  refine AllReady.cons rfl (fun K hK => ?_) ?_
                  · go_simp
                    refine hK _ _ ?_
                    clear hK K
                    refine wpAny_ready (rs := [10]) (by kernel_rfl) (by simp) ?_
                    refine AllReady.cons rfl (fun K hK => ?_) ?_
                    · go_simp
                      refine hK _ _ ?_
                      clear hK K
                      refine wpAny_ready (rs := [11]) (by kernel_rfl) (by simp) ?_
                      refine AllReady.cons rfl (fun K hK => ?_) ?_
                      · go_simp
                        go_at_call 17
                        refine (r_set rb room pk u xs w.heap.size n x E ys SI.out w6 M6.out.r).mono ?_
                        rintro e w7 ⟨rfl, u7, hr7, ht7⟩
                        have M7 := Lib.hid (M6.out.right hr7 ht7)
                        clear hr7 ht7
                        try go_simp
                        refine hK _ _ ?_
                        clear hK K
                        refine wpAny_take (i := 12) (v := ?_) rfl (by kernel_rfl) (by kernel_rfl) (by kernel_rfl) (fun _ _ _ h => h) (Or.inl ⟨by rfl, ?_⟩) ?_
                        rotate_left
                        · intro w; go_simp; try with_reducible rfl
                        refine wpAny_done (by kernel_rfl) ?_ _
                        simp only [calm]
                        go_wp2_with fail
                        go_meet
                        exact ⟨by simp, v6, u7, M7.out.pair, M7.out.low⟩
                      exact AllReady.nil
                    exact AllReady.nil
                  refine AllReady.cons rfl (fun K hK => ?_) ?_
                  · go_simp
                    refine hK _ _ ?_
                    clear hK K
                    refine wpAny_ready (rs := [8]) (by kernel_rfl) (by simp) ?_
                    refine AllReady.cons rfl (fun K hK => ?_) ?_
                    · go_simp
                      refine hK _ _ ?_
                      clear hK K
                      refine wpAny_ready (rs := [11]) (by kernel_rfl) (by simp) ?_
                      refine AllReady.cons rfl (fun K hK => ?_) ?_
                      · go_simp
                        go_at_call 17
                        refine (r_set rb room pk u xs w.heap.size n x E ys SI.out w6 M6.out.r).mono ?_
                        rintro e w7 ⟨rfl, u7, hr7, ht7⟩
                        have M7 := Lib.hid (M6.out.right hr7 ht7)
                        clear hr7 ht7
                        try go_simp
                        refine hK _ _ ?_
                        clear hK K
                        refine wpAny_take (i := 12) (v := ?_) rfl (by kernel_rfl) (by kernel_rfl) (by kernel_rfl) (fun _ _ _ h => h) (Or.inl ⟨by rfl, ?_⟩) ?_
                        rotate_left
                        · intro w; go_simp; try with_reducible rfl
                        refine wpAny_done (by kernel_rfl) ?_ _
                        simp only [calm]
                        go_wp2_with fail
                        go_meet
                        exact ⟨by simp, v6, u7, M7.out.pair, M7.out.low⟩
                      exact AllReady.nil
                    exact AllReady.nil
                  exact AllReady.nil
                refine AllReady.cons rfl (fun K hK => ?_) ?_
                · go_simp
                  refine hK _ _ ?_
                  clear hK K
                  refine wpAny_ready (rs := [5, 10]) (by kernel_rfl) (by simp) ?_
                  refine AllReady.cons rfl (fun K hK => ?_) ?_
                  · go_simp
                    go_at_call 16
                    refine SA.out.mono ?_
                    rintro e w6 ⟨rfl, v6, ha6, ht6⟩
                    have M6 := Lib.hid (MD.out.left ha6 ht6)
                    obtain ⟨_, d1, d2, _⟩ := M6.out.q.four
                    clear ha6 ht6
                    try go_simp
                    refine hK _ _ ?_
                    clear hK K
                    refine wpAny_ready (rs := [10]) (by kernel_rfl) (by simp) ?_
                    refine AllReady.cons rfl (fun K hK => ?_) ?_
                    · go_simp
                      refine hK _ _ ?_
                      clear hK K
                      refine wpAny_ready (rs := [11]) (by kernel_rfl) (by simp) ?_
                      refine AllReady.cons rfl (fun K hK => ?_) ?_
                      · go_simp
                        go_at_call 17
                        refine (r_set rb room pk u xs w.heap.size n x E ys SI.out w6 M6.out.r).mono ?_
                        rintro e w7 ⟨rfl, u7, hr7, ht7⟩
                        have M7 := Lib.hid (M6.out.right hr7 ht7)
                        clear hr7 ht7
                        try go_simp
                        refine hK _ _ ?_
                        clear hK K
                        refine wpAny_take (i := 12) (v := ?_) rfl (by kernel_rfl) (by kernel_rfl) (by kernel_rfl) (fun _ _ _ h => h) (Or.inl ⟨by rfl, ?_⟩) ?_
                        rotate_left
                        · intro w; go_simp; try with_reducible rfl
                        refine wpAny_done (by kernel_rfl) ?_ _
                        simp only [calm]
                        go_wp2_with fail
                        go_meet
                        exact ⟨by simp, v6, u7, M7.out.pair, M7.out.low⟩
                      exact AllReady.nil
                    exact AllReady.nil
                  refine AllReady.cons rfl (fun K hK => ?_) ?_
                  · go_simp
                    refine hK _ _ ?_
                    clear hK K
                    refine wpAny_ready (rs := [5]) (by kernel_rfl) (by simp) ?_
                    refine AllReady.cons rfl (fun K hK => ?_) ?_
                    · go_simp
                      go_at_call 16
                      refine SA.out.mono ?_
                      rintro e w6 ⟨rfl, v6, ha6, ht6⟩
                      have M6 := Lib.hid (MD.out.left ha6 ht6)
                      obtain ⟨_, d1, d2, _⟩ := M6.out.q.four
                      clear ha6 ht6
                      try go_simp
                      refine hK _ _ ?_
                      clear hK K
                      refine wpAny_ready (rs := [11]) (by kernel_rfl) (by simp) ?_
                      refine AllReady.cons rfl (fun K hK => ?_) ?_
                      · go_simp
                        go_at_call 17
                        refine (r_set rb room pk u xs w.heap.size n x E ys SI.out w6 M6.out.r).mono ?_
                        rintro e w7 ⟨rfl, u7, hr7, ht7⟩
                        have M7 := Lib.hid (M6.out.right hr7 ht7)
                        clear hr7 ht7
                        try go_simp
                        refine hK _ _ ?_
                        clear hK K
                        refine wpAny_take (i := 12) (v := ?_) rfl (by kernel_rfl) (by kernel_rfl) (by kernel_rfl) (fun _ _ _ h => h) (Or.inl ⟨by rfl, ?_⟩) ?_
                        rotate_left
                        · intro w; go_simp; try with_reducible rfl
                        refine wpAny_done (by kernel_rfl) ?_ _
                        simp only [calm]
                        go_wp2_with fail
                        go_meet
                        exact ⟨by simp, v6, u7, M7.out.pair, M7.out.low⟩
                      exact AllReady.nil
                    exact AllReady.nil
                  exact AllReady.nil
                refine AllReady.cons rfl (fun K hK => ?_) ?_
                · go_simp
                  refine hK _ _ ?_
                  clear hK K
                  refine wpAny_ready (rs := [5, 8]) (by kernel_rfl) (by simp) ?_
                  refine AllReady.cons rfl (fun K hK => ?_) ?_
                  · go_simp
                    go_at_call 16
                    refine SA.out.mono ?_
                    rintro e w6 ⟨rfl, v6, ha6, ht6⟩
                    have M6 := Lib.hid (MD.out.left ha6 ht6)
                    obtain ⟨_, d1, d2, _⟩ := M6.out.q.four
                    clear ha6 ht6
                    try go_simp
                    refine hK _ _ ?_
                    clear hK K
                    refine wpAny_ready (rs := [8]) (by kernel_rfl) (by simp) ?_
                    refine AllReady.cons rfl (fun K hK => ?_) ?_
                    · go_simp
                      refine hK _ _ ?_
                      clear hK K
                      refine wpAny_ready (rs := [11]) (by kernel_rfl) (by simp) ?_
                      refine AllReady.cons rfl (fun K hK => ?_) ?_
                      · go_simp
                        go_at_call 17
                        refine (r_set rb room pk u xs w.heap.size n x E ys SI.out w6 M6.out.r).mono ?_
                        rintro e w7 ⟨rfl, u7, hr7, ht7⟩
                        have M7 := Lib.hid (M6.out.right hr7 ht7)
                        clear hr7 ht7
                        try go_simp
                        refine hK _ _ ?_
                        clear hK K
                        refine wpAny_take (i := 12) (v := ?_) rfl (by kernel_rfl) (by kernel_rfl) (by kernel_rfl) (fun _ _ _ h => h) (Or.inl ⟨by rfl, ?_⟩) ?_
                        rotate_left
                        · intro w; go_simp; try with_reducible rfl
                        refine wpAny_done (by kernel_rfl) ?_ _
                        simp only [calm]
                        go_wp2_with fail
                        go_meet
                        exact ⟨by simp, v6, u7, M7.out.pair, M7.out.low⟩
                      exact AllReady.nil
                    exact AllReady.nil
                  refine AllReady.cons rfl (fun K hK => ?_) ?_
                  · go_simp
                    refine hK _ _ ?_
                    clear hK K
                    refine wpAny_ready (rs := [5]) (by kernel_rfl) (by simp) ?_
                    refine AllReady.cons rfl (fun K hK => ?_) ?_
                    · go_simp
                      go_at_call 16
                      refine SA.out.mono ?_
                      rintro e w6 ⟨rfl, v6, ha6, ht6⟩
                      have M6 := Lib.hid (MD.out.left ha6 ht6)
                      obtain ⟨_, d1, d2, _⟩ := M6.out.q.four
                      clear ha6 ht6
                      try go_simp
                      refine hK _ _ ?_
                      clear hK K
                      refine wpAny_ready (rs := [11]) (by kernel_rfl) (by simp) ?_
                      refine AllReady.cons rfl (fun K hK => ?_) ?_
                      · go_simp
                        go_at_call 17
                        refine (r_set rb room pk u xs w.heap.size n x E ys SI.out w6 M6.out.r).mono ?_
                        rintro e w7 ⟨rfl, u7, hr7, ht7⟩
                        have M7 := Lib.hid (M6.out.right hr7 ht7)
                        clear hr7 ht7
                        try go_simp
                        refine hK _ _ ?_
                        clear hK K
                        refine wpAny_take (i := 12) (v := ?_) rfl (by kernel_rfl) (by kernel_rfl) (by kernel_rfl) (fun _ _ _ h => h) (Or.inl ⟨by rfl, ?_⟩) ?_
                        rotate_left
                        · intro w; go_simp; try with_reducible rfl
                        refine wpAny_done (by kernel_rfl) ?_ _
                        simp only [calm]
                        go_wp2_with fail
                        go_meet
                        exact ⟨by simp, v6, u7, M7.out.pair, M7.out.low⟩
                      exact AllReady.nil
                    exact AllReady.nil
                  exact AllReady.nil
                exact AllReady.nil
              refine AllReady.cons rfl (fun K hK => ?_) ?_
              · go_simp
                refine hK _ _ ?_
                clear hK K
                refine wpAny_ready (rs := [4, 10]) (by kernel_rfl) (by simp) ?_
                refine AllReady.cons rfl (fun K hK => ?_) ?_
                · go_simp
                  refine hK _ _ ?_
                  clear hK K
                  refine wpAny_ready (rs := [5, 10]) (by kernel_rfl) (by simp) ?_
                  refine AllReady.cons rfl (fun K hK => ?_) ?_
                  · go_simp
                    go_at_call 16
                    refine SA.out.mono ?_
                    rintro e w6 ⟨rfl, v6, ha6, ht6⟩
                    have M6 := Lib.hid (MD.out.left ha6 ht6)
                    obtain ⟨_, d1, d2, _⟩ := M6.out.q.four
                    clear ha6 ht6
                    try go_simp
                    refine hK _ _ ?_
                    clear hK K
                    refine wpAny_ready (rs := [10]) (by kernel_rfl) (by simp) ?_
                    refine AllReady.cons rfl (fun K hK => ?_) ?_
                    · go_simp
                      refine hK _ _ ?_
                      clear hK K
                      refine wpAny_ready (rs := [11]) (by kernel_rfl) (by simp) ?_
                      refine AllReady.cons rfl (fun K hK => ?_) ?_
                      · go_simp
                        go_at_call 17
                        refine (r_set rb room pk u xs w.heap.size n x E ys SI.out w6 M6.out.r).mono ?_
                        rintro e w7 ⟨rfl, u7, hr7, ht7⟩
                        have M7 := Lib.hid (M6.out.right hr7 ht7)
                        clear hr7 ht7
                        try go_simp
                        refine hK _ _ ?_
                        clear hK K
                        refine wpAny_take (i := 12) (v := ?_) rfl (by kernel_rfl) (by kernel_rfl) (by kernel_rfl) (fun _ _ _ h => h) (Or.inl ⟨by rfl, ?_⟩) ?_
                        rotate_left
                        · intro w; go_simp; try with_reducible rfl
                        refine wpAny_done (by kernel_rfl) ?_ _
                        simp only [calm]
                        go_wp2_with fail
                        go_meet
                        exact ⟨by simp, v6, u7, M7.out.pair, M7.out.low⟩
                      exact AllReady.nil
                    exact AllReady.nil
                  refine AllReady.cons rfl (fun K hK => ?_) ?_
                  · go_simp
                    refine hK _ _ ?_
                    clear hK K
                    refine wpAny_ready (rs := [5]) (by kernel_rfl) (by simp) ?_
                    refine AllReady.cons rfl (fun K hK => ?_) ?_
                    · go_simp
                      go_at_call 16
                      refine SA.out.mono ?_
                      rintro e w6 ⟨rfl, v6, ha6, ht6⟩
                      have M6 := Lib.hid (MD.out.left ha6 ht6)
                      obtain ⟨_, d1, d2, _⟩ := M6.out.q.four
                      clear ha6 ht6
                      try go_simp
                      refine hK _ _ ?_
                      clear hK K
                      refine wpAny_ready (rs := [11]) (by kernel_rfl) (by simp) ?_
                      refine AllReady.cons rfl (fun K hK => ?_) ?_
                      · go_simp
                        go_at_call 17
                        refine (r_set rb room pk u xs w.heap.size n x E ys SI.out w6 M6.out.r).mono ?_
                        rintro e w7 ⟨rfl, u7, hr7, ht7⟩
                        have M7 := Lib.hid (M6.out.right hr7 ht7)
                        clear hr7 ht7
                        try go_simp
                        refine hK _ _ ?_
                        clear hK K
                        refine wpAny_take (i := 12) (v := ?_) rfl (by kernel_rfl) (by kernel_rfl) (by kernel_rfl) (fun _ _ _ h => h) (Or.inl ⟨by rfl, ?_⟩) ?_
                        rotate_left
                        · intro w; go_simp; try with_reducible rfl
                        refine wpAny_done (by kernel_rfl) ?_ _
                        simp only [calm]
                        go_wp2_with fail
                        go_meet
                        exact ⟨by simp, v6, u7, M7.out.pair, M7.out.low⟩
                      exact AllReady.nil
                    exact AllReady.nil
                  exact AllReady.nil
                refine AllReady.cons rfl (fun K hK => ?_) ?_
                · go_simp
                  refine hK _ _ ?_
                  clear hK K
                  refine wpAny_ready (rs := [4]) (by kernel_rfl) (by simp) ?_
                  refine AllReady.cons rfl (fun K hK => ?_) ?_
                  · go_simp
                    refine hK _ _ ?_
                    clear hK K
                    refine wpAny_ready (rs := [5]) (by kernel_rfl) (by simp) ?_
                    refine AllReady.cons rfl (fun K hK => ?_) ?_
                    · go_simp
                      go_at_call 16
                      refine SA.out.mono ?_
                      rintro e w6 ⟨rfl, v6, ha6, ht6⟩
                      have M6 := Lib.hid (MD.out.left ha6 ht6)
                      obtain ⟨_, d1, d2, _⟩ := M6.out.q.four
                      clear ha6 ht6
                      try go_simp
                      refine hK _ _ ?_
                      clear hK K
                      refine wpAny_ready (rs := [11]) (by kernel_rfl) (by simp) ?_
                      refine AllReady.cons rfl (fun K hK => ?_) ?_
                      · go_simp
                        go_at_call 17
                        refine (r_set rb room pk u xs w.heap.size n x E ys SI.out w6 M6.out.r).mono ?_
                        rintro e w7 ⟨rfl, u7, hr7, ht7⟩
                        have M7 := Lib.hid (M6.out.right hr7 ht7)
                        clear hr7 ht7
                        try go_simp
                        refine hK _ _ ?_
                        clear hK K
                        refine wpAny_take (i := 12) (v := ?_) rfl (by kernel_rfl) (by kernel_rfl) (by kernel_rfl) (fun _ _ _ h => h) (Or.inl ⟨by rfl, ?_⟩) ?_
                        rotate_left
                        · intro w; go_simp; try with_reducible rfl
                        refine wpAny_done (by kernel_rfl) ?_ _
                        simp only [calm]
                        go_wp2_with fail
                        go_meet
                        exact ⟨by simp, v6, u7, M7.out.pair, M7.out.low⟩
                      exact AllReady.nil
                    exact AllReady.nil
                  exact AllReady.nil
                exact AllReady.nil
              refine AllReady.cons rfl (fun K hK => ?_) ?_
              · go_simp
                refine hK _ _ ?_
                clear hK K
                refine wpAny_ready (rs := [4, 8]) (by kernel_rfl) (by simp) ?_
                refine AllReady.cons rfl (fun K hK => ?_) ?_
                · go_simp
                  refine hK _ _ ?_
                  clear hK K
                  refine wpAny_ready (rs := [5, 8]) (by kernel_rfl) (by simp) ?_
                  refine AllReady.cons rfl (fun K hK => ?_) ?_
                  · go_simp
                    go_at_call 16
                    refine SA.out.mono ?_
                    rintro e w6 ⟨rfl, v6, ha6, ht6⟩
                    have M6 := Lib.hid (MD.out.left ha6 ht6)
                    obtain ⟨_, d1, d2, _⟩ := M6.out.q.four
                    clear ha6 ht6
                    try go_simp
                    refine hK _ _ ?_
                    clear hK K
                    refine wpAny_ready (rs := [8]) (by kernel_rfl) (by simp) ?_
                    refine AllReady.cons rfl (fun K hK => ?_) ?_
                    · go_simp
                      refine hK _ _ ?_
                      clear hK K
                      refine wpAny_ready (rs := [11]) (by kernel_rfl) (by simp) ?_
                      refine AllReady.cons rfl (fun K hK => ?_) ?_
                      · go_simp
                        go_at_call 17
                        refine (r_set rb room pk u xs w.heap.size n x E ys SI.out w6 M6.out.r).mono ?_
                        rintro e w7 ⟨rfl, u7, hr7, ht7⟩
                        have M7 := Lib.hid (M6.out.right hr7 ht7)
                        clear hr7 ht7
                        try go_simp
                        refine hK _ _ ?_
                        clear hK K
                        refine wpAny_take (i := 12) (v := ?_) rfl (by kernel_rfl) (by kernel_rfl) (by kernel_rfl) (fun _ _ _ h => h) (Or.inl ⟨by rfl, ?_⟩) ?_
                        rotate_left
                        · intro w; go_simp; try with_reducible rfl
                        refine wpAny_done (by kernel_rfl) ?_ _
                        simp only [calm]
                        go_wp2_with fail
                        go_meet
                        exact ⟨by simp, v6, u7, M7.out.pair, M7.out.low⟩
                      exact AllReady.nil
                    exact AllReady.nil
                  refine AllReady.cons rfl (fun K hK => ?_) ?_
                  · go_simp
                    refine hK _ _ ?_
                    clear hK K
                    refine wpAny_ready (rs := [5]) (by kernel_rfl) (by simp) ?_
                    refine AllReady.cons rfl (fun K hK => ?_) ?_
                    · go_simp
                      go_at_call 16
                      refine SA.out.mono ?_
                      rintro e w6 ⟨rfl, v6, ha6, ht6⟩
                      have M6 := Lib.hid (MD.out.left ha6 ht6)
                      obtain ⟨_, d1, d2, _⟩ := M6.out.q.four
                      clear ha6 ht6
                      try go_simp
                      refine hK _ _ ?_
                      clear hK K
                      refine wpAny_ready (rs := [11]) (by kernel_rfl) (by simp) ?_
                      refine AllReady.cons rfl (fun K hK => ?_) ?_
                      · go_simp
                        go_at_call 17
                        refine (r_set rb room pk u xs w.heap.size n x E ys SI.out w6 M6.out.r).mono ?_
                        rintro e w7 ⟨rfl, u7, hr7, ht7⟩
                        have M7 := Lib.hid (M6.out.right hr7 ht7)
                        clear hr7 ht7
                        try go_simp
                        refine hK _ _ ?_
                        clear hK K
                        refine wpAny_take (i := 12) (v := ?_) rfl (by kernel_rfl) (by kernel_rfl) (by kernel_rfl) (fun _ _ _ h => h) (Or.inl ⟨by rfl, ?_⟩) ?_
                        rotate_left
                        · intro w; go_simp; try with_reducible rfl
                        refine wpAny_done (by kernel_rfl) ?_ _
                        simp only [calm]
                        go_wp2_with fail
                        go_meet
                        exact ⟨by simp, v6, u7, M7.out.pair, M7.out.low⟩
                      exact AllReady.nil
                    exact AllReady.nil
                  exact AllReady.nil
                refine AllReady.cons rfl (fun K hK => ?_) ?_
                · go_simp
                  refine hK _ _ ?_
                  clear hK K
                  refine wpAny_ready (rs := [4]) (by kernel_rfl) (by simp) ?_
                  refine AllReady.cons rfl (fun K hK => ?_) ?_
                  · go_simp
                    refine hK _ _ ?_
                    clear hK K
                    refine wpAny_ready (rs := [5]) (by kernel_rfl) (by simp) ?_
                    refine AllReady.cons rfl (fun K hK => ?_) ?_
                    · go_simp
                      go_at_call 16
                      refine SA.out.mono ?_
                      rintro e w6 ⟨rfl, v6, ha6, ht6⟩
                      have M6 := Lib.hid (MD.out.left ha6 ht6)
                      obtain ⟨_, d1, d2, _⟩ := M6.out.q.four
                      clear ha6 ht6
                      try go_simp
                      refine hK _ _ ?_
                      clear hK K
                      refine wpAny_ready (rs := [11]) (by kernel_rfl) (by simp) ?_
                      refine AllReady.cons rfl (fun K hK => ?_) ?_
                      · go_simp
                        go_at_call 17
                        refine (r_set rb room pk u xs w.heap.size n x E ys SI.out w6 M6.out.r).mono ?_
                        rintro e w7 ⟨rfl, u7, hr7, ht7⟩
                        have M7 := Lib.hid (M6.out.right hr7 ht7)
                        clear hr7 ht7
                        try go_simp
                        refine hK _ _ ?_
                        clear hK K
                        refine wpAny_take (i := 12) (v := ?_) rfl (by kernel_rfl) (by kernel_rfl) (by kernel_rfl) (fun _ _ _ h => h) (Or.inl ⟨by rfl, ?_⟩) ?_
                        rotate_left
                        · intro w; go_simp; try with_reducible rfl
                        refine wpAny_done (by kernel_rfl) ?_ _
                        simp only [calm]
                        go_wp2_with fail
                        go_meet
                        exact ⟨by simp, v6, u7, M7.out.pair, M7.out.low⟩
                      exact AllReady.nil
                    exact AllReady.nil
                  exact AllReady.nil
                exact AllReady.nil
              exact AllReady.nil
            refine AllReady.cons rfl (fun K hK => ?_) ?_
            · go_simp
              refine hK _ _ ?_
              clear hK K
              refine wpAny_ready (rs := [2, 8, 10]) (by kernel_rfl) (by simp) ?_
              refine AllReady.cons rfl (fun K hK => ?_) ?_
              · go_simp
                refine hK _ _ ?_
                clear hK K
                refine wpAny_ready (rs := [5, 8, 10]) (by kernel_rfl) (by simp) ?_
                refine AllReady.cons rfl (fun K hK => ?_) ?_
                · go_simp
                  go_at_call 16
                  refine SA.out.mono ?_
                  rintro e w6 ⟨rfl, v6, ha6, ht6⟩
                  have M6 := Lib.hid (MD.out.left ha6 ht6)
                  obtain ⟨_, d1, d2, _⟩ := M6.out.q.four
                  clear ha6 ht6
                  try go_simp
                  refine hK _ _ ?_
                  clear hK K
                  refine wpAny_ready (rs := [8, 10]) (by kernel_rfl) (by simp) ?_
                  refine AllReady.cons rfl (fun K hK => ?_) ?_
                  · go_simp
                    refine hK _ _ ?_
                    clear hK K
                    refine wpAny_ready (rs := [10]) (by kernel_rfl) (by simp) ?_
                    refine AllReady.cons rfl (fun K hK => ?_) ?_
                    · go_simp
                      refine hK _ _ ?_
                      clear hK K
                      refine wpAny_ready (rs := [11]) (by kernel_rfl) (by simp) ?_
                      refine AllReady.cons rfl (fun K hK => ?_) ?_
                      · go_simp
                        go_at_call 17
                        refine (r_set rb room pk u xs w.heap.size n x E ys SI.out w6 M6.out.r).mono ?_
                        rintro e w7 ⟨rfl, u7, hr7, ht7⟩
                        have M7 := Lib.hid (M6.out.right hr7 ht7)
                        clear hr7 ht7
                        try go_simp
                        refine hK _ _ ?_
                        clear hK K
                        refine wpAny_take (i := 12) (v := ?_) rfl (by kernel_rfl) (by kernel_rfl) (by kernel_rfl) (fun _ _ _ h => h) (Or.inl ⟨by rfl, ?_⟩) ?_
                        rotate_left
                        · intro w; go_simp; try with_reducible rfl
                        refine wpAny_done (by kernel_rfl) ?_ _
                        simp only [calm]
                        go_wp2_with fail
                        go_meet
                        exact ⟨by simp, v6, u7, M7.out.pair, M7.out.low⟩
                      exact AllReady.nil
                    exact AllReady.nil
                  refine AllReady.cons rfl (fun K hK => ?_) ?_
                  · go_simp
                    refine hK _ _ ?_
                    clear hK K
                    refine wpAny_ready (rs := [8]) (by kernel_rfl) (by simp) ?_
                    refine AllReady.cons rfl (fun K hK => ?_) ?_
                    · go_simp
                      refine hK _ _ ?_
                      clear hK K
                      refine wpAny_ready (rs := [11]) (by kernel_rfl) (by simp) ?_
                      refine AllReady.cons rfl (fun K hK => ?_) ?_
                      · go_simp
                        go_at_call 17
                        refine (r_set rb room pk u xs w.heap.size n x E ys SI.out w6 M6.out.r).mono ?_
                        rintro e w7 ⟨rfl, u7, hr7, ht7⟩
                        have M7 := Lib.hid (M6.out.right hr7 ht7)
                        clear hr7 ht7
                        try go_simp
                        refine hK _ _ ?_
                        clear hK K
                        refine wpAny_take (i := 12) (v := ?_) rfl (by kernel_rfl) (by kernel_rfl) (by kernel_rfl) (fun _ _ _ h => h) (Or.inl ⟨by rfl, ?_⟩) ?_
                        rotate_left
                        · intro w; go_simp; try with_reducible rfl
                        refine wpAny_done (by kernel_rfl) ?_ _
                        simp only [calm]
                        go_wp2_with fail
                        go_meet
                        exact ⟨by simp, v6, u7, M7.out.pair, M7.out.low⟩
                      exact AllReady.nil
                    exact AllReady.nil
                  exact AllReady.nil
                refine AllReady.cons rfl (fun K hK => ?_) ?_
                · go_simp
                  refine hK _ _ ?_
                  clear hK K
                  refine wpAny_ready (rs := [5, 10]) (by kernel_rfl) (by simp) ?_
                  refine AllReady.cons rfl (fun K hK => ?_) ?_
                  · go_simp
                    go_at_call 16
                    refine SA.out.mono ?_
                    rintro e w6 ⟨rfl, v6, ha6, ht6⟩
                    have M6 := Lib.hid (MD.out.left ha6 ht6)
                    obtain ⟨_, d1, d2, _⟩ := M6.out.q.four
                    clear ha6 ht6
                    try go_simp
                    refine hK _ _ ?_
                    clear hK K
                    refine wpAny_ready (rs := [10]) (by kernel_rfl) (by simp) ?_
                    refine AllReady.cons rfl (fun K hK => ?_) ?_
                    · go_simp
                      refine hK _ _ ?_
                      clear hK K
                      refine wpAny_ready (rs := [11]) (by kernel_rfl) (by simp) ?_
                      refine AllReady.cons rfl (fun K hK => ?_) ?_
                      · go_simp
                        go_at_call 17
                        refine (r_set rb room pk u xs w.heap.size n x E ys SI.out w6 M6.out.r).mono ?_
                        rintro e w7 ⟨rfl, u7, hr7, ht7⟩
                        have M7 := Lib.hid (M6.out.right hr7 ht7)
                        clear hr7 ht7
                        try go_simp
                        refine hK _ _ ?_
                        clear hK K
                        refine wpAny_take (i := 12) (v := ?_) rfl (by kernel_rfl) (by kernel_rfl) (by kernel_rfl) (fun _ _ _ h => h) (Or.inl ⟨by rfl, ?_⟩) ?_
                        rotate_left
                        · intro w; go_simp; try with_reducible rfl
                        refine wpAny_done (by kernel_rfl) ?_ _
                        simp only [calm]
                        go_wp2_with fail
                        go_meet
                        exact ⟨by simp, v6, u7, M7.out.pair, M7.out.low⟩
                      exact AllReady.nil
                    exact AllReady.nil
                  refine AllReady.cons rfl (fun K hK => ?_) ?_
                  · go_simp
                    refine hK _ _ ?_
                    clear hK K
                    refine wpAny_ready (rs := [5]) (by kernel_rfl) (by simp) ?_
                    refine AllReady.cons rfl (fun K hK => ?_) ?_
                    · go_simp
                      go_at_call 16
                      refine SA.out.mono ?_
                      rintro e w6 ⟨rfl, v6, ha6, ht6⟩
                      have M6 := Lib.hid (MD.out.left ha6 ht6)
                      obtain ⟨_, d1, d2, _⟩ := M6.out.q.four
                      clear ha6 ht6
                      try go_simp
                      refine hK _ _ ?_
                      clear hK K
                      refine wpAny_ready (rs := [11]) (by kernel_rfl) (by simp) ?_
                      refine AllReady.cons rfl (fun K hK => ?_) ?_
                      · go_simp
                        go_at_call 17
                        refine (r_set rb room pk u xs w.heap.size n x E ys SI.out w6 M6.out.r).mono ?_
                        rintro e w7 ⟨rfl, u7, hr7, ht7⟩
                        have M7 := Lib.hid (M6.out.right hr7 ht7)
                        clear hr7 ht7
                        try go_simp
                        refine hK _ _ ?_
                        clear hK K
                        refine wpAny_take (i := 12) (v := ?_) rfl (by kernel_rfl) (by kernel_rfl) (by kernel_rfl) (fun _ _ _ h => h) (Or.inl ⟨by rfl, ?_⟩) ?_
                        rotate_left
                        · intro w; go_simp; try with_reducible rfl
                        refine wpAny_done (by kernel_rfl) ?_ _
                        simp only [calm]
                        go_wp2_with fail
                        go_meet
                        exact ⟨by simp, v6, u7, M7.out.pair, M7.out.low⟩
                      exact AllReady.nil
                    exact AllReady.nil
                  exact AllReady.nil
                refine AllReady.cons rfl (fun K hK => ?_) ?_
                · go_simp
                  refine hK _ _ ?_
                  clear hK K
                  refine wpAny_ready (rs := [5, 8]) (by kernel_rfl) (by simp) ?_
                  refine AllReady.cons rfl (fun K hK => ?_) ?_
                  · go_simp
                    go_at_call 16
                    refine SA.out.mono ?_
                    rintro e w6 ⟨rfl, v6, ha6, ht6⟩
                    have M6 := Lib.hid (MD.out.left ha6 ht6)
                    obtain ⟨_, d1, d2, _⟩ := M6.out.q.four
                    clear ha6 ht6
                    try go_simp
                    refine hK _ _ ?_
                    clear hK K
                    refine wpAny_ready (rs := [8]) (by kernel_rfl) (by simp) ?_
                    refine AllReady.cons rfl (fun K hK => ?_) ?_
                    · go_simp
                      refine hK _ _ ?_
                      clear hK K
                      refine wpAny_ready (rs := [11]) (by kernel_rfl) (by simp) ?_
                      refine AllReady.cons rfl (fun K hK => ?_) ?_
                      · go_simp
                        go_at_call 17
                        refine (r_set rb room pk u xs w.heap.size n x E ys SI.out w6 M6.out.r).mono ?_
                        rintro e w7 ⟨rfl, u7, hr7, ht7⟩
                        have M7 := Lib.hid (M6.out.right hr7 ht7)
                        clear hr7 ht7
                        try go_simp
                        refine hK _ _ ?_
                        clear hK K
                        refine wpAny_take (i := 12) (v := ?_) rfl (by kernel_rfl) (by kernel_rfl) (by kernel_rfl) (fun _ _ _ h => h) (Or.inl ⟨by rfl, ?_⟩) ?_
                        rotate_left
                        · intro w; go_simp; try with_reducible rfl
                        refine wpAny_done (by kernel_rfl) ?_ _
                        simp only [calm]
                        go_wp2_with fail
                        go_meet
                        exact ⟨by simp, v6, u7, M7.out.pair, M7.out.low⟩
                      exact AllReady.nil
                    exact AllReady.nil
                  refine AllReady.cons rfl (fun K hK => ?_) ?_
                  · go_simp
                    refine hK _ _ ?_
                    clear hK K
                    refine wpAny_ready (rs := [5]) (by kernel_rfl) (by simp) ?_
                    refine AllReady.cons rfl (fun K hK => ?_) ?_
                    · go_simp
                      go_at_call 16
                      refine SA.out.mono ?_
                      rintro e w6 ⟨rfl, v6, ha6, ht6⟩
                      have M6 := Lib.hid (MD.out.left ha6 ht6)
                      obtain ⟨_, d1, d2, _⟩ := M6.out.q.four
                      clear ha6 ht6
                      try go_simp
                      refine hK _ _ ?_
                      clear hK K
                      refine wpAny_ready (rs := [11]) (by kernel_rfl) (by simp) ?_
                      refine AllReady.cons rfl (fun K hK => ?_) ?_
                      · go_simp
                        go_at_call 17
                        refine (r_set rb room pk u xs w.heap.size n x E ys SI.out w6 M6.out.r).mono ?_
                        rintro e w7 ⟨rfl, u7, hr7, ht7⟩
                        have M7 := Lib.hid (M6.out.right hr7 ht7)
                        clear hr7 ht7
                        try go_simp
                        refine hK _ _ ?_
                        clear hK K
                        refine wpAny_take (i := 12) (v := ?_) rfl (by kernel_rfl) (by kernel_rfl) (by kernel_rfl) (fun _ _ _ h => h) (Or.inl ⟨by rfl, ?_⟩) ?_
                        rotate_left
                        · intro w; go_simp; try with_reducible rfl
                        refine wpAny_done (by kernel_rfl) ?_ _
                        simp only [calm]
                        go_wp2_with fail
                        go_meet
                        exact ⟨by simp, v6, u7, M7.out.pair, M7.out.low⟩
                      exact AllReady.nil
                    exact AllReady.nil
                  exact AllReady.nil
                exact AllReady.nil
              refine AllReady.cons rfl (fun K hK => ?_) ?_
              · go_simp
                refine hK _ _ ?_
                clear hK K
                refine wpAny_ready (rs := [2, 10]) (by kernel_rfl) (by simp) ?_
                refine AllReady.cons rfl (fun K hK => ?_) ?_
                · go_simp
                  refine hK _ _ ?_
                  clear hK K
                  refine wpAny_ready (rs := [5, 10]) (by kernel_rfl) (by simp) ?_
                  refine AllReady.cons rfl (fun K hK => ?_) ?_
                  · go_simp
                    go_at_call 16
                    refine SA.out.mono ?_
                    rintro e w6 ⟨rfl, v6, ha6, ht6⟩
                    have M6 := Lib.hid (MD.out.left ha6 ht6)
                    obtain ⟨_, d1, d2, _⟩ := M6.out.q.four
                    clear ha6 ht6
                    try go_simp
                    refine hK _ _ ?_
                    clear hK K
                    refine wpAny_ready (rs := [10]) (by kernel_rfl) (by simp) ?_
                    refine AllReady.cons rfl (fun K hK => ?_) ?_
                    · go_simp
                      refine hK _ _ ?_
                      clear hK K
                      refine wpAny_ready (rs := [11]) (by kernel_rfl) (by simp) ?_
                      refine AllReady.cons rfl (fun K hK => ?_) ?_
                      · go_simp
                        go_at_call 17
                        refine (r_set rb room pk u xs w.heap.size n x E ys SI.out w6 M6.out.r).mono ?_
                        rintro e w7 ⟨rfl, u7, hr7, ht7⟩
                        have M7 := Lib.hid (M6.out.right hr7 ht7)
                        clear hr7 ht7
                        try go_simp
                        refine hK _ _ ?_
                        clear hK K
                        refine wpAny_take (i := 12) (v := ?_) rfl (by kernel_rfl) (by kernel_rfl) (by kernel_rfl) (fun _ _ _ h => h) (Or.inl ⟨by rfl, ?_⟩) ?_
                        rotate_left
                        · intro w; go_simp; try with_reducible rfl
                        refine wpAny_done (by kernel_rfl) ?_ _
                        simp only [calm]
                        go_wp2_with fail
                        go_meet
                        exact ⟨by simp, v6, u7, M7.out.pair, M7.out.low⟩
                      exact AllReady.nil
                    exact AllReady.nil
                  refine AllReady.cons rfl (fun K hK => ?_) ?_
                  · go_simp
                    refine hK _ _ ?_
                    clear hK K
                    refine wpAny_ready (rs := [5]) (by kernel_rfl) (by simp) ?_
                    refine AllReady.cons rfl (fun K hK => ?_) ?_
                    · go_simp
                      go_at_call 16
                      refine SA.out.mono ?_
                      rintro e w6 ⟨rfl, v6, ha6, ht6⟩
                      have M6 := Lib.hid (MD.out.left ha6 ht6)
                      obtain ⟨_, d1, d2, _⟩ := M6.out.q.four
                      clear ha6 ht6
                      try go_simp
                      refine hK _ _ ?_
                      clear hK K
                      refine wpAny_ready (rs := [11]) (by kernel_rfl) (by simp) ?_
                      refine AllReady.cons rfl (fun K hK => ?_) ?_
                      · go_simp
                        go_at_call 17
                        refine (r_set rb room pk u xs w.heap.size n x E ys SI.out w6 M6.out.r).mono ?_
                        rintro e w7 ⟨rfl, u7, hr7, ht7⟩
                        have M7 := Lib.hid (M6.out.right hr7 ht7)
                        clear hr7 ht7
                        try go_simp
                        refine hK _ _ ?_
                        clear hK K
                        refine wpAny_take (i := 12) (v := ?_) rfl (by kernel_rfl) (by kernel_rfl) (by kernel_rfl) (fun _ _ _ h => h) (Or.inl ⟨by rfl, ?_⟩) ?_
                        rotate_left
                        · intro w; go_simp; try with_reducible rfl
                        refine wpAny_done (by kernel_rfl) ?_ _
                        simp only [calm]
                        go_wp2_with fail
                        go_meet
                        exact ⟨by simp, v6, u7, M7.out.pair, M7.out.low⟩
                      exact AllReady.nil
                    exact AllReady.nil
                  exact AllReady.nil
                refine AllReady.cons rfl (fun K hK => ?_) ?_
                · go_simp
                  refine hK _ _ ?_
                  clear hK K
                  refine wpAny_ready (rs := [2]) (by kernel_rfl) (by simp) ?_
                  refine AllReady.cons rfl (fun K hK => ?_) ?_
                  · go_simp
                    refine hK _ _ ?_
                    clear hK K
                    refine wpAny_ready (rs := [5]) (by kernel_rfl) (by simp) ?_
                    refine AllReady.cons rfl (fun K hK => ?_) ?_
                    · go_simp
                      go_at_call 16
                      refine SA.out.mono ?_
                      rintro e w6 ⟨rfl, v6, ha6, ht6⟩
                      have M6 := Lib.hid (MD.out.left ha6 ht6)
                      obtain ⟨_, d1, d2, _⟩ := M6.out.q.four
                      clear ha6 ht6
                      try go_simp
                      refine hK _ _ ?_
                      clear hK K
                      refine wpAny_ready (rs := [11]) (by kernel_rfl) (by simp) ?_
                      refine AllReady.cons rfl (fun K hK => ?_) ?_
                      · go_simp
                        go_at_call 17
                        refine (r_set rb room pk u xs w.heap.size n x E ys SI.out w6 M6.out.r).mono ?_
                        rintro e w7 ⟨rfl, u7, hr7, ht7⟩
                        have M7 := Lib.hid (M6.out.right hr7 ht7)
                        clear hr7 ht7
                        try go_simp
                        refine hK _ _ ?_
                        clear hK K
                        refine wpAny_take (i := 12) (v := ?_) rfl (by kernel_rfl) (by kernel_rfl) (by kernel_rfl) (fun _ _ _ h => h) (Or.inl ⟨by rfl, ?_⟩) ?_
                        rotate_left
                        · intro w; go_simp; try with_reducible rfl
                        refine wpAny_done (by kernel_rfl) ?_ _
                        simp only [calm]
                        go_wp2_with fail
                        go_meet
                        exact ⟨by simp, v6, u7, M7.out.pair, M7.out.low⟩
                      exact AllReady.nil
                    exact AllReady.nil
                  exact AllReady.nil
                exact AllReady.nil
              refine AllReady.cons rfl (fun K hK => ?_) ?_
              · go_simp
                refine hK _ _ ?_
                clear hK K
                refine wpAny_ready (rs := [2, 8]) (by kernel_rfl) (by simp) ?_
                refine AllReady.cons rfl (fun K hK => ?_) ?_
                · go_simp
                  refine hK _ _ ?_
                  clear hK K
                  refine wpAny_ready (rs := [5, 8]) (by kernel_rfl) (by simp) ?_
                  refine AllReady.cons rfl (fun K hK => ?_) ?_
                  · go_simp
                    go_at_call 16
                    refine SA.out.mono ?_
                    rintro e w6 ⟨rfl, v6, ha6, ht6⟩
                    have M6 := Lib.hid (MD.out.left ha6 ht6)
                    obtain ⟨_, d1, d2, _⟩ := M6.out.q.four
                    clear ha6 ht6
                    try go_simp
                    refine hK _ _ ?_
                    clear hK K
                    refine wpAny_ready (rs := [8]) (by kernel_rfl) (by simp) ?_
                    refine AllReady.cons rfl (fun K hK => ?_) ?_
                    · go_simp
                      refine hK _ _ ?_
                      clear hK K
                      refine wpAny_ready (rs := [11]) (by kernel_rfl) (by simp) ?_
                      refine AllReady.cons rfl (fun K hK => ?_) ?_
                      · go_simp
                        go_at_call 17
                        refine (r_set rb room pk u xs w.heap.size n x E ys SI.out w6 M6.out.r).mono ?_
                        rintro e w7 ⟨rfl, u7, hr7, ht7⟩
                        have M7 := Lib.hid (M6.out.right hr7 ht7)
                        clear hr7 ht7
                        try go_simp
                        refine hK _ _ ?_
                        clear hK K
                        refine wpAny_take (i := 12) (v := ?_) rfl (by kernel_rfl) (by kernel_rfl) (by kernel_rfl) (fun _ _ _ h => h) (Or.inl ⟨by rfl, ?_⟩) ?_
                        rotate_left
                        · intro w; go_simp; try with_reducible rfl
                        refine wpAny_done (by kernel_rfl) ?_ _
                        simp only [calm]
                        go_wp2_with fail
                        go_meet
                        exact ⟨by simp, v6, u7, M7.out.pair, M7.out.low⟩
                      exact AllReady.nil
                    exact AllReady.nil
                  refine AllReady.cons rfl (fun K hK => ?_) ?_
                  · go_simp
                    refine hK _ _ ?_
                    clear hK K
                    refine wpAny_ready (rs := [5]) (by kernel_rfl) (by simp) ?_
                    refine AllReady.cons rfl (fun K hK => ?_) ?_
                    · go_simp
                      go_at_call 16
                      refine SA.out.mono ?_
                      rintro e w6 ⟨rfl, v6, ha6, ht6⟩
                      have M6 := Lib.hid (MD.out.left ha6 ht6)
                      obtain ⟨_, d1, d2, _⟩ := M6.out.q.four
                      clear ha6 ht6
                      try go_simp
                      refine hK _ _ ?_
                      clear hK K
                      refine wpAny_ready (rs := [11]) (by kernel_rfl) (by simp) ?_
                      refine AllReady.cons rfl (fun K hK => ?_) ?_
                      · go_simp
                        go_at_call 17
                        refine (r_set rb room pk u xs w.heap.size n x E ys SI.out w6 M6.out.r).mono ?_
                        rintro e w7 ⟨rfl, u7, hr7, ht7⟩
                        have M7 := Lib.hid (M6.out.right hr7 ht7)
                        clear hr7 ht7
                        try go_simp
                        refine hK _ _ ?_
                        clear hK K
                        refine wpAny_take (i := 12) (v := ?_) rfl (by kernel_rfl) (by kernel_rfl) (by kernel_rfl) (fun _ _ _ h => h) (Or.inl ⟨by rfl, ?_⟩) ?_
                        rotate_left
                        · intro w; go_simp; try with_reducible rfl
                        refine wpAny_done (by kernel_rfl) ?_ _
                        simp only [calm]
                        go_wp2_with fail
                        go_meet
                        exact ⟨by simp, v6, u7, M7.out.pair, M7.out.low⟩
                      exact AllReady.nil
                    exact AllReady.nil
                  exact AllReady.nil
                refine AllReady.cons rfl (fun K hK => ?_) ?_
                · go_simp
                  refine hK _ _ ?_
                  clear hK K
                  refine wpAny_ready (rs := [2]) (by kernel_rfl) (by simp) ?_
                  refine AllReady.cons rfl (fun K hK => ?_) ?_
                  · go_simp
                    refine hK _ _ ?_
                    clear hK K
                    refine wpAny_ready (rs := [5]) (by kernel_rfl) (by simp) ?_
                    refine AllReady.cons rfl (fun K hK => ?_) ?_
                    · go_simp
                      go_at_call 16
                      refine SA.out.mono ?_
                      rintro e w6 ⟨rfl, v6, ha6, ht6⟩
                      have M6 := Lib.hid (MD.out.left ha6 ht6)
                      obtain ⟨_, d1, d2, _⟩ := M6.out.q.four
                      clear ha6 ht6
                      try go_simp
                      refine hK _ _ ?_
                      clear hK K
                      refine wpAny_ready (rs := [11]) (by kernel_rfl) (by simp) ?_
                      refine AllReady.cons rfl (fun K hK => ?_) ?_
                      · go_simp
                        go_at_call 17
                        refine (r_set rb room pk u xs w.heap.size n x E ys SI.out w6 M6.out.r).mono ?_
                        rintro e w7 ⟨rfl, u7, hr7, ht7⟩
                        have M7 := Lib.hid (M6.out.right hr7 ht7)
                        clear hr7 ht7
                        try go_simp
                        refine hK _ _ ?_
                        clear hK K
                        refine wpAny_take (i := 12) (v := ?_) rfl (by kernel_rfl) (by kernel_rfl) (by kernel_rfl) (fun _ _ _ h => h) (Or.inl ⟨by rfl, ?_⟩) ?_
                        rotate_left
                        · intro w; go_simp; try with_reducible rfl
                        refine wpAny_done (by kernel_rfl) ?_ _
                        simp only [calm]
                        go_wp2_with fail
                        go_meet
                        exact ⟨by simp, v6, u7, M7.out.pair, M7.out.low⟩
                      exact AllReady.nil
                    exact AllReady.nil
                  exact AllReady.nil
                exact AllReady.nil
              exact AllReady.nil
            refine AllReady.cons rfl (fun K hK => ?_) ?_
            · go_simp
              refine hK _ _ ?_
              clear hK K
              refine wpAny_ready (rs := [2, 4, 10]) (by kernel_rfl) (by simp) ?_
              refine AllReady.cons rfl (fun K hK => ?_) ?_
              · go_simp
                refine hK _ _ ?_
                clear hK K
                refine wpAny_ready (rs := [4, 10]) (by kernel_rfl) (by simp) ?_
                refine AllReady.cons rfl (fun K hK => ?_) ?_
                · go_simp
                  refine hK _ _ ?_
                  clear hK K
                  refine wpAny_ready (rs := [5, 10]) (by kernel_rfl) (by simp) ?_
                  refine AllReady.cons rfl (fun K hK => ?_) ?_
                  · go_simp
                    go_at_call 16
                    refine SA.out.mono ?_
                    rintro e w6 ⟨rfl, v6, ha6, ht6⟩
                    have M6 := Lib.hid (MD.out.left ha6 ht6)
                    obtain ⟨_, d1, d2, _⟩ := M6.out.q.four
                    clear ha6 ht6
                    try go_simp
                    refine hK _ _ ?_
                    clear hK K
                    refine wpAny_ready (rs := [10]) (by kernel_rfl) (by simp) ?_
                    refine AllReady.cons rfl (fun K hK => ?_) ?_
                    · go_simp
                      refine hK _ _ ?_
                      clear hK K
                      refine wpAny_ready (rs := [11]) (by kernel_rfl) (by simp) ?_
                      refine AllReady.cons rfl (fun K hK => ?_) ?_
                      · go_simp
                        go_at_call 17
                        refine (r_set rb room pk u xs w.heap.size n x E ys SI.out w6 M6.out.r).mono ?_
                        rintro e w7 ⟨rfl, u7, hr7, ht7⟩
                        have M7 := Lib.hid (M6.out.right hr7 ht7)
                        clear hr7 ht7
                        try go_simp
                        refine hK _ _ ?_
                        clear hK K
                        refine wpAny_take (i := 12) (v := ?_) rfl (by kernel_rfl) (by kernel_rfl) (by kernel_rfl) (fun _ _ _ h => h) (Or.inl ⟨by rfl, ?_⟩) ?_
                        rotate_left
                        · intro w; go_simp; try with_reducible rfl
                        refine wpAny_done (by kernel_rfl) ?_ _
                        simp only [calm]
                        go_wp2_with fail
                        go_meet
                        exact ⟨by simp, v6, u7, M7.out.pair, M7.out.low⟩
                      exact AllReady.nil
                    exact AllReady.nil
                  refine AllReady.cons rfl (fun K hK => ?_) ?_
                  · go_simp
                    refine hK _ _ ?_
                    clear hK K
                    refine wpAny_ready (rs := [5]) (by kernel_rfl) (by simp) ?_
                    refine AllReady.cons rfl (fun K hK => ?_) ?_
                    · go_simp
                      go_at_call 16
                      refine SA.out.mono ?_
                      rintro e w6 ⟨rfl, v6, ha6, ht6⟩
                      have M6 := Lib.hid (MD.out.left ha6 ht6)
                      obtain ⟨_, d1, d2, _⟩ := M6.out.q.four
                      clear ha6 ht6
                      try go_simp
                      refine hK _ _ ?_
                      clear hK K
                      refine wpAny_ready (rs := [11]) (by kernel_rfl) (by simp) ?_
                      refine AllReady.cons rfl (fun K hK => ?_) ?_
                      · go_simp
                        go_at_call 17
                        refine (r_set rb room pk u xs w.heap.size n x E ys SI.out w6 M6.out.r).mono ?_
                        rintro e w7 ⟨rfl, u7, hr7, ht7⟩
                        have M7 := Lib.hid (M6.out.right hr7 ht7)
                        clear hr7 ht7
                        try go_simp
                        refine hK _ _ ?_
                        clear hK K
                        refine wpAny_take (i := 12) (v := ?_) rfl (by kernel_rfl) (by kernel_rfl) (by kernel_rfl) (fun _ _ _ h => h) (Or.inl ⟨by rfl, ?_⟩) ?_
                        rotate_left
                        · intro w; go_simp; try with_reducible rfl
                        refine wpAny_done (by kernel_rfl) ?_ _
                        simp only [calm]
                        go_wp2_with fail
                        go_meet
                        exact ⟨by simp, v6, u7, M7.out.pair, M7.out.low⟩
                      exact AllReady.nil
                    exact AllReady.nil
                  exact AllReady.nil
                refine AllReady.cons rfl (fun K hK => ?_) ?_
                · go_simp
                  refine hK _ _ ?_
                  clear hK K
                  refine wpAny_ready (rs := [4]) (by kernel_rfl) (by simp) ?_
                  refine AllReady.cons rfl (fun K hK => ?_) ?_
                  · go_simp
                    refine hK _ _ ?_
                    clear hK K
                    refine wpAny_ready (rs := [5]) (by kernel_rfl) (by simp) ?_
                    refine AllReady.cons rfl (fun K hK => ?_) ?_
                    · go_simp
                      go_at_call 16
                      refine SA.out.mono ?_
                      rintro e w6 ⟨rfl, v6, ha6, ht6⟩
                      have M6 := Lib.hid (MD.out.left ha6 ht6)
                      obtain ⟨_, d1, d2, _⟩ := M6.out.q.four
                      clear ha6 ht6
                      try go_simp
                      refine hK _ _ ?_
                      clear hK K
                      refine wpAny_ready (rs := [11]) (by kernel_rfl) (by simp) ?_
                      refine AllReady.cons rfl (fun K hK => ?_) ?_
                      · go_simp
                        go_at_call 17
                        refine (r_set rb room pk u xs w.heap.size n x E ys SI.out w6 M6.out.r).mono ?_
                        rintro e w7 ⟨rfl, u7, hr7, ht7⟩
                        have M7 := Lib.hid (M6.out.right hr7 ht7)
                        clear hr7 ht7
                        try go_simp
                        refine hK _ _ ?_
                        clear hK K
                        refine wpAny_take (i := 12) (v := ?_) rfl (by kernel_rfl) (by kernel_rfl) (by kernel_rfl) (fun _ _ _ h => h) (Or.inl ⟨by rfl, ?_⟩) ?_
                        rotate_left
                        · intro w; go_simp; try with_reducible rfl
                        refine wpAny_done (by kernel_rfl) ?_ _
                        simp only [calm]
                        go_wp2_with fail
                        go_meet
                        exact ⟨by simp, v6, u7, M7.out.pair, M7.out.low⟩
                      exact AllReady.nil
                    exact AllReady.nil
                  exact AllReady.nil
                exact AllReady.nil
              refine AllReady.cons rfl (fun K hK => ?_) ?_
              · go_simp
                refine hK _ _ ?_
                clear hK K
                refine wpAny_ready (rs := [2, 10]) (by kernel_rfl) (by simp) ?_
                refine AllReady.cons rfl (fun K hK => ?_) ?_
                · go_simp
                  refine hK _ _ ?_
                  clear hK K
                  refine wpAny_ready (rs := [5, 10]) (by kernel_rfl) (by simp) ?_
                  refine AllReady.cons rfl (fun K hK => ?_) ?_
                  · go_simp
                    go_at_call 16
                    refine SA.out.mono ?_
                    rintro e w6 ⟨rfl, v6, ha6, ht6⟩
                    have M6 := Lib.hid (MD.out.left ha6 ht6)
                    obtain ⟨_, d1, d2, _⟩ := M6.out.q.four
                    clear ha6 ht6
                    try go_simp
                    refine hK _ _ ?_
                    clear hK K
                    refine wpAny_ready (rs := [10]) (by kernel_rfl) (by simp) ?_
                    refine AllReady.cons rfl (fun K hK => ?_) ?_
                    · go_simp
                      refine hK _ _ ?_
                      clear hK K
                      refine wpAny_ready (rs := [11]) (by kernel_rfl) (by simp) ?_
                      refine AllReady.cons rfl (fun K hK => ?_) ?_
                      · go_simp
                        go_at_call 17
                        refine (r_set rb room pk u xs w.heap.size n x E ys SI.out w6 M6.out.r).mono ?_
                        rintro e w7 ⟨rfl, u7, hr7, ht7⟩
                        have M7 := Lib.hid (M6.out.right hr7 ht7)
                        clear hr7 ht7
                        try go_simp
                        refine hK _ _ ?_
                        clear hK K
                        refine wpAny_take (i := 12) (v := ?_) rfl (by kernel_rfl) (by kernel_rfl) (by kernel_rfl) (fun _ _ _ h => h) (Or.inl ⟨by rfl, ?_⟩) ?_
                        rotate_left
                        · intro w; go_simp; try with_reducible rfl
                        refine wpAny_done (by kernel_rfl) ?_ _
                        simp only [calm]
                        go_wp2_with fail
                        go_meet
                        exact ⟨by simp, v6, u7, M7.out.pair, M7.out.low⟩
                      exact AllReady.nil
                    exact AllReady.nil
                  refine AllReady.cons rfl (fun K hK => ?_) ?_
                  · go_simp
                    refine hK _ _ ?_
                    clear hK K
                    refine wpAny_ready (rs := [5]) (by kernel_rfl) (by simp) ?_
                    refine AllReady.cons rfl (fun K hK => ?_) ?_
                    · go_simp
                      go_at_call 16
                      refine SA.out.mono ?_
                      rintro e w6 ⟨rfl, v6, ha6, ht6⟩
                      have M6 := Lib.hid (MD.out.left ha6 ht6)
                      obtain ⟨_, d1, d2, _⟩ := M6.out.q.four
                      clear ha6 ht6
                      try go_simp
                      refine hK _ _ ?_
                      clear hK K
                      refine wpAny_ready (rs := [11]) (by kernel_rfl) (by simp) ?_
                      refine AllReady.cons rfl (fun K hK => ?_) ?_
                      · go_simp
                        go_at_call 17
                        refine (r_set rb room pk u xs w.heap.size n x E ys SI.out w6 M6.out.r).mono ?_
                        rintro e w7 ⟨rfl, u7, hr7, ht7⟩
                        have M7 := Lib.hid (M6.out.right hr7 ht7)
                        clear hr7 ht7
                        try go_simp
                        refine hK _ _ ?_
                        clear hK K
                        refine wpAny_take (i := 12) (v := ?_) rfl (by kernel_rfl) (by kernel_rfl) (by kernel_rfl) (fun _ _ _ h => h) (Or.inl ⟨by rfl, ?_⟩) ?_
                        rotate_left
                        · intro w; go_simp; try with_reducible rfl
                        refine wpAny_done (by kernel_rfl) ?_ _
                        simp only [calm]
                        go_wp2_with fail
                        go_meet
                        exact ⟨by simp, v6, u7, M7.out.pair, M7.out.low⟩
                      exact AllReady.nil
                    exact AllReady.nil
                  exact AllReady.nil
                refine AllReady.cons rfl (fun K hK => ?_) ?_
                · go_simp
                  refine hK _ _ ?_
                  clear hK K
                  refine wpAny_ready (rs := [2]) (by kernel_rfl) (by simp) ?_
                  refine AllReady.cons rfl (fun K hK => ?_) ?_
                  · go_simp
                    refine hK _ _ ?_
                    clear hK K
                    refine wpAny_ready (rs := [5]) (by kernel_rfl) (by simp) ?_
                    refine AllReady.cons rfl (fun K hK => ?_) ?_
                    · go_simp
                      go_at_call 16
                      refine SA.out.mono ?_
                      rintro e w6 ⟨rfl, v6, ha6, ht6⟩
                      have M6 := Lib.hid (MD.out.left ha6 ht6)
                      obtain ⟨_, d1, d2, _⟩ := M6.out.q.four
                      clear ha6 ht6
                      try go_simp
                      refine hK _ _ ?_
                      clear hK K
                      refine wpAny_ready (rs := [11]) (by kernel_rfl) (by simp) ?_
                      refine AllReady.cons rfl (fun K hK => ?_) ?_
                      · go_simp
                        go_at_call 17
                        refine (r_set rb room pk u xs w.heap.size n x E ys SI.out w6 M6.out.r).mono ?_
                        rintro e w7 ⟨rfl, u7, hr7, ht7⟩
                        have M7 := Lib.hid (M6.out.right hr7 ht7)
                        clear hr7 ht7
                        try go_simp
                        refine hK _ _ ?_
                        clear hK K
                        refine wpAny_take (i := 12) (v := ?_) rfl (by kernel_rfl) (by kernel_rfl) (by kernel_rfl) (fun _ _ _ h => h) (Or.inl ⟨by rfl, ?_⟩) ?_
                        rotate_left
                        · intro w; go_simp; try with_reducible rfl
                        refine wpAny_done (by kernel_rfl) ?_ _
                        simp only [calm]
                        go_wp2_with fail
                        go_meet
                        exact ⟨by simp, v6, u7, M7.out.pair, M7.out.low⟩
                      exact AllReady.nil
                    exact AllReady.nil
                  exact AllReady.nil
                exact AllReady.nil
              refine AllReady.cons rfl (fun K hK => ?_) ?_
              · go_simp
                refine hK _ _ ?_
                clear hK K
                refine wpAny_ready (rs := [2, 4]) (by kernel_rfl) (by simp) ?_
                refine AllReady.cons rfl (fun K hK => ?_) ?_
                · go_simp
                  refine hK _ _ ?_
                  clear hK K
                  refine wpAny_ready (rs := [4]) (by kernel_rfl) (by simp) ?_
                  refine AllReady.cons rfl (fun K hK => ?_) ?_
                  · go_simp
                    refine hK _ _ ?_
                    clear hK K
                    refine wpAny_ready (rs := [5]) (by kernel_rfl) (by simp) ?_
                    refine AllReady.cons rfl (fun K hK => ?_) ?_
                    · go_simp
                      go_at_call 16
                      refine SA.out.mono ?_
                      rintro e w6 ⟨rfl, v6, ha6, ht6⟩
                      have M6 := Lib.hid (MD.out.left ha6 ht6)
                      obtain ⟨_, d1, d2, _⟩ := M6.out.q.four
                      clear ha6 ht6
                      try go_simp
                      refine hK _ _ ?_
                      clear hK K
                      refine wpAny_ready (rs := [11]) (by kernel_rfl) (by simp) ?_
                      refine AllReady.cons rfl (fun K hK => ?_) ?_
                      · go_simp
                        go_at_call 17
                        refine (r_set rb room pk u xs w.heap.size n x E ys SI.out w6 M6.out.r).mono ?_
                        rintro e w7 ⟨rfl, u7, hr7, ht7⟩
                        have M7 := Lib.hid (M6.out.right hr7 ht7)
                        clear hr7 ht7
                        try go_simp
                        refine hK _ _ ?_
                        clear hK K
                        refine wpAny_take (i := 12) (v := ?_) rfl (by kernel_rfl) (by kernel_rfl) (by kernel_rfl) (fun _ _ _ h => h) (Or.inl ⟨by rfl, ?_⟩) ?_
                        rotate_left
                        · intro w; go_simp; try with_reducible rfl
                        refine wpAny_done (by kernel_rfl) ?_ _
                        simp only [calm]
                        go_wp2_with fail
                        go_meet
                        exact ⟨by simp, v6, u7, M7.out.pair, M7.out.low⟩
                      exact AllReady.nil
                    exact AllReady.nil
                  exact AllReady.nil
                refine AllReady.cons rfl (fun K hK => ?_) ?_
                · go_simp
                  refine hK _ _ ?_
                  clear hK K
                  refine wpAny_ready (rs := [2]) (by kernel_rfl) (by simp) ?_
                  refine AllReady.cons rfl (fun K hK => ?_) ?_
                  · go_simp
                    refine hK _ _ ?_
                    clear hK K
                    refine wpAny_ready (rs := [5]) (by kernel_rfl) (by simp) ?_
                    refine AllReady.cons rfl (fun K hK => ?_) ?_
                    · go_simp
                      go_at_call 16
                      refine SA.out.mono ?_
                      rintro e w6 ⟨rfl, v6, ha6, ht6⟩
                      have M6 := Lib.hid (MD.out.left ha6 ht6)
                      obtain ⟨_, d1, d2, _⟩ := M6.out.q.four
                      clear ha6 ht6
                      try go_simp
                      refine hK _ _ ?_
                      clear hK K
                      refine wpAny_ready (rs := [11]) (by kernel_rfl) (by simp) ?_
                      refine AllReady.cons rfl (fun K hK => ?_) ?_
                      · go_simp
                        go_at_call 17
                        refine (r_set rb room pk u xs w.heap.size n x E ys SI.out w6 M6.out.r).mono ?_
                        rintro e w7 ⟨rfl, u7, hr7, ht7⟩
                        have M7 := Lib.hid (M6.out.right hr7 ht7)
                        clear hr7 ht7
                        try go_simp
                        refine hK _ _ ?_
                        clear hK K
                        refine wpAny_take (i := 12) (v := ?_) rfl (by kernel_rfl) (by kernel_rfl) (by kernel_rfl) (fun _ _ _ h => h) (Or.inl ⟨by rfl, ?_⟩) ?_
                        rotate_left
                        · intro w; go_simp; try with_reducible rfl
                        refine wpAny_done (by kernel_rfl) ?_ _
                        simp only [calm]
                        go_wp2_with fail
                        go_meet
                        exact ⟨by simp, v6, u7, M7.out.pair, M7.out.low⟩
                      exact AllReady.nil
                    exact AllReady.nil
                  exact AllReady.nil
                exact AllReady.nil
              exact AllReady.nil
            refine AllReady.cons rfl (fun K hK => ?_) ?_
            · go_simp
              refine hK _ _ ?_
              clear hK K
              refine wpAny_ready (rs := [2, 4, 8]) (by kernel_rfl) (by simp) ?_
              refine AllReady.cons rfl (fun K hK => ?_) ?_
              · go_simp
                refine hK _ _ ?_
                clear hK K
                refine wpAny_ready (rs := [4, 8]) (by kernel_rfl) (by simp) ?_
                refine AllReady.cons rfl (fun K hK => ?_) ?_
                · go_simp
                  refine hK _ _ ?_
                  clear hK K
                  refine wpAny_ready (rs := [5, 8]) (by kernel_rfl) (by simp) ?_
                  refine AllReady.cons rfl (fun K hK => ?_) ?_
                  · go_simp
                    go_at_call 16
                    refine SA.out.mono ?_
                    rintro e w6 ⟨rfl, v6, ha6, ht6⟩
                    have M6 := Lib.hid (MD.out.left ha6 ht6)
                    obtain ⟨_, d1, d2, _⟩ := M6.out.q.four
                    clear ha6 ht6
                    try go_simp
                    refine hK _ _ ?_
                    clear hK K
                    refine wpAny_ready (rs := [8]) (by kernel_rfl) (by simp) ?_
                    refine AllReady.cons rfl (fun K hK => ?_) ?_
                    · go_simp
                      refine hK _ _ ?_
                      clear hK K
                      refine wpAny_ready (rs := [11]) (by kernel_rfl) (by simp) ?_
                      refine AllReady.cons rfl (fun K hK => ?_) ?_
                      · go_simp
                        go_at_call 17
                        refine (r_set rb room pk u xs w.heap.size n x E ys SI.out w6 M6.out.r).mono ?_
                        rintro e w7 ⟨rfl, u7, hr7, ht7⟩
                        have M7 := Lib.hid (M6.out.right hr7 ht7)
                        clear hr7 ht7
                        try go_simp
                        refine hK _ _ ?_
                        clear hK K
                        refine wpAny_take (i := 12) (v := ?_) rfl (by kernel_rfl) (by kernel_rfl) (by kernel_rfl) (fun _ _ _ h => h) (Or.inl ⟨by rfl, ?_⟩) ?_
                        rotate_left
                        · intro w; go_simp; try with_reducible rfl
                        refine wpAny_done (by kernel_rfl) ?_ _
                        simp only [calm]
                        go_wp2_with fail
                        go_meet
                        exact ⟨by simp, v6, u7, M7.out.pair, M7.out.low⟩
                      exact AllReady.nil
                    exact AllReady.nil
                  refine AllReady.cons rfl (fun K hK => ?_) ?_
                  · go_simp
                    refine hK _ _ ?_
                    clear hK K
                    refine wpAny_ready (rs := [5]) (by kernel_rfl) (by simp) ?_
                    refine AllReady.cons rfl (fun K hK => ?_) ?_
                    · go_simp
                      go_at_call 16
                      refine SA.out.mono ?_
                      rintro e w6 ⟨rfl, v6, ha6, ht6⟩
                      have M6 := Lib.hid (MD.out.left ha6 ht6)
                      obtain ⟨_, d1, d2, _⟩ := M6.out.q.four
                      clear ha6 ht6
                      try go_simp
                      refine hK _ _ ?_
                      clear hK K
                      refine wpAny_ready (rs := [11]) (by kernel_rfl) (by simp) ?_
                      refine AllReady.cons rfl (fun K hK => ?_) ?_
                      · go_simp
                        go_at_call 17
                        refine (r_set rb room pk u xs w.heap.size n x E ys SI.out w6 M6.out.r).mono ?_
                        rintro e w7 ⟨rfl, u7, hr7, ht7⟩
                        have M7 := Lib.hid (M6.out.right hr7 ht7)
                        clear hr7 ht7
                        try go_simp
                        refine hK _ _ ?_
                        clear hK K
                        refine wpAny_take (i := 12) (v := ?_) rfl (by kernel_rfl) (by kernel_rfl) (by kernel_rfl) (fun _ _ _ h => h) (Or.inl ⟨by rfl, ?_⟩) ?_
                        rotate_left
                        · intro w; go_simp; try with_reducible rfl
                        refine wpAny_done (by kernel_rfl) ?_ _
                        simp only [calm]
                        go_wp2_with fail
                        go_meet
                        exact ⟨by simp, v6, u7, M7.out.pair, M7.out.low⟩
                      exact AllReady.nil
                    exact AllReady.nil
                  exact AllReady.nil
                refine AllReady.cons rfl (fun K hK => ?_) ?_
                · go_simp
                  refine hK _ _ ?_
                  clear hK K
                  refine wpAny_ready (rs := [4]) (by kernel_rfl) (by simp) ?_
                  refine AllReady.cons rfl (fun K hK => ?_) ?_
                  · go_simp
                    refine hK _ _ ?_
                    clear hK K
                    refine wpAny_ready (rs := [5]) (by kernel_rfl) (by simp) ?_
                    refine AllReady.cons rfl (fun K hK => ?_) ?_
                    · go_simp
                      go_at_call 16
                      refine SA.out.mono ?_
                      rintro e w6 ⟨rfl, v6, ha6, ht6⟩
                      have M6 := Lib.hid (MD.out.left ha6 ht6)
                      obtain ⟨_, d1, d2, _⟩ := M6.out.q.four
                      clear ha6 ht6
                      try go_simp
                      refine hK _ _ ?_
                      clear hK K
                      refine wpAny_ready (rs := [11]) (by kernel_rfl) (by simp) ?_
                      refine AllReady.cons rfl (fun K hK => ?_) ?_
                      · go_simp
                        go_at_call 17
                        refine (r_set rb room pk u xs w.heap.size n x E ys SI.out w6 M6.out.r).mono ?_
                        rintro e w7 ⟨rfl, u7, hr7, ht7⟩
                        have M7 := Lib.hid (M6.out.right hr7 ht7)
                        clear hr7 ht7
                        try go_simp
                        refine hK _ _ ?_
                        clear hK K
                        refine wpAny_take (i := 12) (v := ?_) rfl (by kernel_rfl) (by kernel_rfl) (by kernel_rfl) (fun _ _ _ h => h) (Or.inl ⟨by rfl, ?_⟩) ?_
                        rotate_left
                        · intro w; go_simp; try with_reducible rfl
                        refine wpAny_done (by kernel_rfl) ?_ _
                        simp only [calm]
                        go_wp2_with fail
                        go_meet
                        exact ⟨by simp, v6, u7, M7.out.pair, M7.out.low⟩
                      exact AllReady.nil
                    exact AllReady.nil
                  exact AllReady.nil
                exact AllReady.nil
              refine AllReady.cons rfl (fun K hK => ?_) ?_
              · go_simp
                refine hK _ _ ?_
                clear hK K
                refine wpAny_ready (rs := [2, 8]) (by kernel_rfl) (by simp) ?_
                refine AllReady.cons rfl (fun K hK => ?_) ?_
                · go_simp
                  refine hK _ _ ?_
                  clear hK K
                  refine wpAny_ready (rs := [5, 8]) (by kernel_rfl) (by simp) ?_
                  refine AllReady.cons rfl (fun K hK => ?_) ?_
                  · go_simp
                    go_at_call 16
                    refine SA.out.mono ?_
                    rintro e w6 ⟨rfl, v6, ha6, ht6⟩
                    have M6 := Lib.hid (MD.out.left ha6 ht6)
                    obtain ⟨_, d1, d2, _⟩ := M6.out.q.four
                    clear ha6 ht6
                    try go_simp
                    refine hK _ _ ?_
                    clear hK K
                    refine wpAny_ready (rs := [8]) (by kernel_rfl) (by simp) ?_
                    refine AllReady.cons rfl (fun K hK => ?_) ?_
                    · go_simp
                      refine hK _ _ ?_
                      clear hK K
                      refine wpAny_ready (rs := [11]) (by kernel_rfl) (by simp) ?_
                      refine AllReady.cons rfl (fun K hK => ?_) ?_
                      · go_simp
                        go_at_call 17
                        refine (r_set rb room pk u xs w.heap.size n x E ys SI.out w6 M6.out.r).mono ?_
                        rintro e w7 ⟨rfl, u7, hr7, ht7⟩
                        have M7 := Lib.hid (M6.out.right hr7 ht7)
                        clear hr7 ht7
                        try go_simp
                        refine hK _ _ ?_
                        clear hK K
                        refine wpAny_take (i := 12) (v := ?_) rfl (by kernel_rfl) (by kernel_rfl) (by kernel_rfl) (fun _ _ _ h => h) (Or.inl ⟨by rfl, ?_⟩) ?_
                        rotate_left
                        · intro w; go_simp; try with_reducible rfl
                        refine wpAny_done (by kernel_rfl) ?_ _
                        simp only [calm]
                        go_wp2_with fail
                        go_meet
                        exact ⟨by simp, v6, u7, M7.out.pair, M7.out.low⟩
                      exact AllReady.nil
                    exact AllReady.nil
                  refine AllReady.cons rfl (fun K hK => ?_) ?_
                  · go_simp
                    refine hK _ _ ?_
                    clear hK K
                    refine wpAny_ready (rs := [5]) (by kernel_rfl) (by simp) ?_
                    refine AllReady.cons rfl (fun K hK => ?_) ?_
                    · go_simp
                      go_at_call 16
                      refine SA.out.mono ?_
                      rintro e w6 ⟨rfl, v6, ha6, ht6⟩
                      have M6 := Lib.hid (MD.out.left ha6 ht6)
                      obtain ⟨_, d1, d2, _⟩ := M6.out.q.four
                      clear ha6 ht6
                      try go_simp
                      refine hK _ _ ?_
                      clear hK K
                      refine wpAny_ready (rs := [11]) (by kernel_rfl) (by simp) ?_
                      refine AllReady.cons rfl (fun K hK => ?_) ?_
                      · go_simp
                        go_at_call 17
                        refine (r_set rb room pk u xs w.heap.size n x E ys SI.out w6 M6.out.r).mono ?_
                        rintro e w7 ⟨rfl, u7, hr7, ht7⟩
                        have M7 := Lib.hid (M6.out.right hr7 ht7)
                        clear hr7 ht7
                        try go_simp
                        refine hK _ _ ?_
                        clear hK K
                        refine wpAny_take (i := 12) (v := ?_) rfl (by kernel_rfl) (by kernel_rfl) (by kernel_rfl) (fun _ _ _ h => h) (Or.inl ⟨by rfl, ?_⟩) ?_
                        rotate_left
                        · intro w; go_simp; try with_reducible rfl
                        refine wpAny_done (by kernel_rfl) ?_ _
                        simp only [calm]
                        go_wp2_with fail
                        go_meet
                        exact ⟨by simp, v6, u7, M7.out.pair, M7.out.low⟩
                      exact AllReady.nil
                    exact AllReady.nil
                  exact AllReady.nil
                refine AllReady.cons rfl (fun K hK => ?_) ?_
                · go_simp
                  refine hK _ _ ?_
                  clear hK K
                  refine wpAny_ready (rs := [2]) (by kernel_rfl) (by simp) ?_
                  refine AllReady.cons rfl (fun K hK => ?_) ?_
                  · go_simp
                    refine hK _ _ ?_
                    clear hK K
                    refine wpAny_ready (rs := [5]) (by kernel_rfl) (by simp) ?_
                    refine AllReady.cons rfl (fun K hK => ?_) ?_
                    · go_simp
                      go_at_call 16
                      refine SA.out.mono ?_
                      rintro e w6 ⟨rfl, v6, ha6, ht6⟩
                      have M6 := Lib.hid (MD.out.left ha6 ht6)
                      obtain ⟨_, d1, d2, _⟩ := M6.out.q.four
                      clear ha6 ht6
                      try go_simp
                      refine hK _ _ ?_
                      clear hK K
                      refine wpAny_ready (rs := [11]) (by kernel_rfl) (by simp) ?_
                      refine AllReady.cons rfl (fun K hK => ?_) ?_
                      · go_simp
                        go_at_call 17
                        refine (r_set rb room pk u xs w.heap.size n x E ys SI.out w6 M6.out.r).mono ?_
                        rintro e w7 ⟨rfl, u7, hr7, ht7⟩
                        have M7 := Lib.hid (M6.out.right hr7 ht7)
                        clear hr7 ht7
                        try go_simp
                        refine hK _ _ ?_
                        clear hK K
                        refine wpAny_take (i := 12) (v := ?_) rfl (by kernel_rfl) (by kernel_rfl) (by kernel_rfl) (fun _ _ _ h => h) (Or.inl ⟨by rfl, ?_⟩) ?_
                        rotate_left
                        · intro w; go_simp; try with_reducible rfl
                        refine wpAny_done (by kernel_rfl) ?_ _
                        simp only [calm]
                        go_wp2_with fail
                        go_meet
                        exact ⟨by simp, v6, u7, M7.out.pair, M7.out.low⟩
                      exact AllReady.nil
                    exact AllReady.nil
                  exact AllReady.nil
                exact AllReady.nil
              refine AllReady.cons rfl (fun K hK => ?_) ?_
              · go_simp
                refine hK _ _ ?_
                clear hK K
                refine wpAny_ready (rs := [2, 4]) (by kernel_rfl) (by simp) ?_
                refine AllReady.cons rfl (fun K hK => ?_) ?_
                · go_simp
                  refine hK _ _ ?_
                  clear hK K
                  refine wpAny_ready (rs := [4]) (by kernel_rfl) (by simp) ?_
                  refine AllReady.cons rfl (fun K hK => ?_) ?_
                  · go_simp
                    refine hK _ _ ?_
                    clear hK K
                    refine wpAny_ready (rs := [5]) (by kernel_rfl) (by simp) ?_
                    refine AllReady.cons rfl (fun K hK => ?_) ?_
                    · go_simp
                      go_at_call 16
                      refine SA.out.mono ?_
                      rintro e w6 ⟨rfl, v6, ha6, ht6⟩
                      have M6 := Lib.hid (MD.out.left ha6 ht6)
                      obtain ⟨_, d1, d2, _⟩ := M6.out.q.four
                      clear ha6 ht6
                      try go_simp
                      refine hK _ _ ?_
                      clear hK K
                      refine wpAny_ready (rs := [11]) (by kernel_rfl) (by simp) ?_
                      refine AllReady.cons rfl (fun K hK => ?_) ?_
                      · go_simp
                        go_at_call 17
                        refine (r_set rb room pk u xs w.heap.size n x E ys SI.out w6 M6.out.r).mono ?_
                        rintro e w7 ⟨rfl, u7, hr7, ht7⟩
                        have M7 := Lib.hid (M6.out.right hr7 ht7)
                        clear hr7 ht7
                        try go_simp
                        refine hK _ _ ?_
                        clear hK K
                        refine wpAny_take (i := 12) (v := ?_) rfl (by kernel_rfl) (by kernel_rfl) (by kernel_rfl) (fun _ _ _ h => h) (Or.inl ⟨by rfl, ?_⟩) ?_
                        rotate_left
                        · intro w; go_simp; try with_reducible rfl
                        refine wpAny_done (by kernel_rfl) ?_ _
                        simp only [calm]
                        go_wp2_with fail
                        go_meet
                        exact ⟨by simp, v6, u7, M7.out.pair, M7.out.low⟩
                      exact AllReady.nil
                    exact AllReady.nil
                  exact AllReady.nil
                refine AllReady.cons rfl (fun K hK => ?_) ?_
                · go_simp
                  refine hK _ _ ?_
                  clear hK K
                  refine wpAny_ready (rs := [2]) (by kernel_rfl) (by simp) ?_
                  refine AllReady.cons rfl (fun K hK => ?_) ?_
                  · go_simp
                    refine hK _ _ ?_
                    clear hK K
                    refine wpAny_ready (rs := [5]) (by kernel_rfl) (by simp) ?_
                    refine AllReady.cons rfl (fun K hK => ?_) ?_
                    · go_simp
                      go_at_call 16
                      refine SA.out.mono ?_
                      rintro e w6 ⟨rfl, v6, ha6, ht6⟩
                      have M6 := Lib.hid (MD.out.left ha6 ht6)
                      obtain ⟨_, d1, d2, _⟩ := M6.out.q.four
                      clear ha6 ht6
                      try go_simp
                      refine hK _ _ ?_
                      clear hK K
                      refine wpAny_ready (rs := [11]) (by kernel_rfl) (by simp) ?_
                      refine AllReady.cons rfl (fun K hK => ?_) ?_
                      · go_simp
                        go_at_call 17
                        refine (r_set rb room pk u xs w.heap.size n x E ys SI.out w6 M6.out.r).mono ?_
                        rintro e w7 ⟨rfl, u7, hr7, ht7⟩
                        have M7 := Lib.hid (M6.out.right hr7 ht7)
                        clear hr7 ht7
                        try go_simp
                        refine hK _ _ ?_
                        clear hK K
                        refine wpAny_take (i := 12) (v := ?_) rfl (by kernel_rfl) (by kernel_rfl) (by kernel_rfl) (fun _ _ _ h => h) (Or.inl ⟨by rfl, ?_⟩) ?_
                        rotate_left
                        · intro w; go_simp; try with_reducible rfl
                        refine wpAny_done (by kernel_rfl) ?_ _
                        simp only [calm]
                        go_wp2_with fail
                        go_meet
                        exact ⟨by simp, v6, u7, M7.out.pair, M7.out.low⟩
                      exact AllReady.nil
                    exact AllReady.nil
                  exact AllReady.nil
                exact AllReady.nil
              exact AllReady.nil
            exact AllReady.nil
          case rest =>
            obtain ⟨rfl, v', u', hp7, hb7⟩ := hcut
            obtain ⟨wf, rfl⟩ : ∃ u, u = wc := ⟨_, rfl⟩
            have P7 := Lib.hid hp7
            have B7 := Lib.hid hb7
            clear hp7 hb7 e0 e1 e2 e3
            go_wp2_with (go_at_call 20; refine (same_any b rb room pk v' u' ys w.heap.size (by have := HX.out; have := TT.out; omega) _ P7.out.a P7.out.r).mono ?_; rintro e w9 ⟨rfl, hb9⟩; have B9 := Lib.hid hb9; clear hb9)
            go_roundw
            case rel => exact ⟨k + 1, v', u', pk, ys, hlt, by go_num, P7.out.below B9.out, by have := HX.out; have := TT.out; omega, bt B7.out B9.out B7.out.size⟩
            case measure => simp [intOf]; omega
        · obtain ⟨E, ys, hbi, hys⟩ := back_is xs n
          have BI := Lib.hid hbi
          clear hbi
          go_wp2_with (go_at_call 10; refine (PK.out _).mono ?_; rintro e w4 ⟨rfl, rfl⟩)
          go_cut [97, 108] from 35 to 112 (fun s97 s108 wx => s108 = .bool false ∧ ∃ v' u', Pair wx w.heap.size b rb room pk v' u' ys ∧ Below w.heap.size w wx)
          case first =>
            refine wp_mono (Q := calm _) ?_ (calm_le _)
            have hm := mixed
            refine wp_region_any hm ?_
            simp only [List.size_toArray, List.length_cons, List.length_nil, Nat.reduceAdd]
            obtain ⟨wd, ed⟩ : ∃ u : World, u = { we with drawn := we.drawn + 1 } := ⟨_, rfl⟩
            rw [← ed]
            have MD : RowKit.Hid (Mid w wd b rb q room pk pk v u xs xs _) := Lib.hid (by rw [ed]; exact ME.out.drew1)
            clear ed e0 e1 e2 e3
            obtain ⟨_, e1, e2, _⟩ := MD.out.q.four
            have SA := Lib.hid (a_back b room pk v xs w.heap.size n E ys BI.out wd MD.out.a)
            refine wpAny_take (i := 0) (v := ?_) rfl (by kernel_rfl) (by kernel_rfl) (by kernel_rfl) (fun _ _ _ h => h) (Or.inl ⟨by rfl, ?_⟩) ?_
            rotate_left
            · intro w; go_simp; try with_reducible rfl
            refine wpAny_take (i := 1) (v := ?_) rfl (by kernel_rfl) (by kernel_rfl) (by kernel_rfl) (fun _ _ _ h => h) (Or.inl ⟨by rfl, ?_⟩) ?_
            rotate_left
            · intro w; go_simp; try with_reducible rfl
            refine wpAny_take (i := 4) (v := ?_) rfl (by kernel_rfl) (by kernel_rfl) (by kernel_rfl) (fun _ _ _ h => h) (Or.inl ⟨by rfl, ?_⟩) ?_
            rotate_left
            · intro w; go_simp; try with_reducible rfl
            refine wpAny_take (i := 5) (v := ?_) rfl (by kernel_rfl) (by kernel_rfl) (by kernel_rfl) (fun _ _ _ h => h) (Or.inl ⟨by rfl, ?_⟩) ?_
            rotate_left
            · intro w; go_simp; try with_reducible rfl
            refine wpAny_ready (rs := [2, 6]) (by kernel_rfl) (by simp) ?_
            refine AllReady.cons rfl (fun K hK => ?_) ?_
            · go_simp
              refine hK _ _ ?_
              clear hK K
              refine wpAny_ready (rs := [3, 6]) (by kernel_rfl) (by simp) ?_
              refine AllReady.cons rfl (fun K hK => ?_) ?_
              · go_simp
                go_at_call 18
                refine SA.out.mono ?_
                rintro e w6 ⟨rfl, v6, ha6, ht6⟩
                have M6 := Lib.hid (MD.out.left ha6 ht6)
                obtain ⟨_, d1, d2, _⟩ := M6.out.q.four
                clear ha6 ht6
                try go_simp
                refine hK _ _ ?_
                clear hK K
                refine wpAny_ready (rs := [6]) (by kernel_rfl) (by simp) ?_
                refine AllReady.cons rfl (fun K hK => ?_) ?_
                · go_simp
                  refine hK _ _ ?_
                  clear hK K
                  refine wpAny_ready (rs := [7]) (by kernel_rfl) (by simp) ?_
                  refine AllReady.cons rfl (fun K hK => ?_) ?_
                  · go_simp
                    go_at_call 19
                    refine (r_back rb room pk u xs w.heap.size n E ys BI.out (by have := HX.out; have := TT.out; omega) w6 M6.out.low.size M6.out.r).mono ?_
                    rintro e w7 ⟨rfl, u7, hr7, ht7⟩
                    have M7 := Lib.hid (M6.out.right hr7 ht7)
                    clear hr7 ht7
                    try go_simp
                    refine hK _ _ ?_
                    clear hK K
                    refine wpAny_take (i := 8) (v := ?_) rfl (by kernel_rfl) (by kernel_rfl) (by kernel_rfl) (fun _ _ _ h => h) (Or.inl ⟨by rfl, ?_⟩) ?_
                    rotate_left
                    · intro w; go_simp; try with_reducible rfl
                    refine wpAny_done (by kernel_rfl) ?_ _
                    simp only [calm]
                    go_wp2_with fail
                    go_meet
                    exact ⟨by simp, v6, u7, M7.out.pair, M7.out.low⟩
                  exact AllReady.nil
                exact AllReady.nil
              refine AllReady.cons rfl (fun K hK => ?_) ?_
              · go_simp
                refine hK _ _ ?_
                clear hK K
                refine wpAny_ready (rs := [3]) (by kernel_rfl) (by simp) ?_
                refine AllReady.cons rfl (fun K hK => ?_) ?_
                · go_simp
                  go_at_call 18
                  refine SA.out.mono ?_
                  rintro e w6 ⟨rfl, v6, ha6, ht6⟩
                  have M6 := Lib.hid (MD.out.left ha6 ht6)
                  obtain ⟨_, d1, d2, _⟩ := M6.out.q.four
                  clear ha6 ht6
                  try go_simp
                  refine hK _ _ ?_
                  clear hK K
                  refine wpAny_ready (rs := [7]) (by kernel_rfl) (by simp) ?_
                  refine AllReady.cons rfl (fun K hK => ?_) ?_
                  · go_simp
                    go_at_call 19
                    refine (r_back rb room pk u xs w.heap.size n E ys BI.out (by have := HX.out; have := TT.out; omega) w6 M6.out.low.size M6.out.r).mono ?_
                    rintro e w7 ⟨rfl, u7, hr7, ht7⟩
                    have M7 := Lib.hid (M6.out.right hr7 ht7)
                    clear hr7 ht7
                    try go_simp
                    refine hK _ _ ?_
                    clear hK K
                    refine wpAny_take (i := 8) (v := ?_) rfl (by kernel_rfl) (by kernel_rfl) (by kernel_rfl) (fun _ _ _ h => h) (Or.inl ⟨by rfl, ?_⟩) ?_
                    rotate_left
                    · intro w; go_simp; try with_reducible rfl
                    refine wpAny_done (by kernel_rfl) ?_ _
                    simp only [calm]
                    go_wp2_with fail
                    go_meet
                    exact ⟨by simp, v6, u7, M7.out.pair, M7.out.low⟩
                  exact AllReady.nil
                exact AllReady.nil
              exact AllReady.nil
            refine AllReady.cons rfl (fun K hK => ?_) ?_
            · go_simp
              refine hK _ _ ?_
              clear hK K
              refine wpAny_ready (rs := [2]) (by kernel_rfl) (by simp) ?_
              refine AllReady.cons rfl (fun K hK => ?_) ?_
              · go_simp
                refine hK _ _ ?_
                clear hK K
                refine wpAny_ready (rs := [3]) (by kernel_rfl) (by simp) ?_
                refine AllReady.cons rfl (fun K hK => ?_) ?_
                · go_simp
                  go_at_call 18
                  refine SA.out.mono ?_
                  rintro e w6 ⟨rfl, v6, ha6, ht6⟩
                  have M6 := Lib.hid (MD.out.left ha6 ht6)
                  obtain ⟨_, d1, d2, _⟩ := M6.out.q.four
                  clear ha6 ht6
                  try go_simp
                  refine hK _ _ ?_
                  clear hK K
                  refine wpAny_ready (rs := [7]) (by kernel_rfl) (by simp) ?_
                  refine AllReady.cons rfl (fun K hK => ?_) ?_
                  · go_simp
                    go_at_call 19
                    refine (r_back rb room pk u xs w.heap.size n E ys BI.out (by have := HX.out; have := TT.out; omega) w6 M6.out.low.size M6.out.r).mono ?_
                    rintro e w7 ⟨rfl, u7, hr7, ht7⟩
                    have M7 := Lib.hid (M6.out.right hr7 ht7)
                    clear hr7 ht7
                    try go_simp
                    refine hK _ _ ?_
                    clear hK K
                    refine wpAny_take (i := 8) (v := ?_) rfl (by kernel_rfl) (by kernel_rfl) (by kernel_rfl) (fun _ _ _ h => h) (Or.inl ⟨by rfl, ?_⟩) ?_
                    rotate_left
                    · intro w; go_simp; try with_reducible rfl
                    refine wpAny_done (by kernel_rfl) ?_ _
                    simp only [calm]
                    go_wp2_with fail
                    go_meet
                    exact ⟨by simp, v6, u7, M7.out.pair, M7.out.low⟩
                  exact AllReady.nil
                exact AllReady.nil
              exact AllReady.nil
            exact AllReady.nil
          case rest =>
            obtain ⟨rfl, v', u', hp7, hb7⟩ := hcut
            obtain ⟨wf, rfl⟩ : ∃ u, u = wc := ⟨_, rfl⟩
            have P7 := Lib.hid hp7
            have B7 := Lib.hid hb7
            clear hp7 hb7 e0 e1 e2 e3
            go_wp2_with (go_at_call 20; refine (same_any b rb room pk v' u' ys w.heap.size (by have := HX.out; have := TT.out; omega) _ P7.out.a P7.out.r).mono ?_; rintro e w9 ⟨rfl, hb9⟩; have B9 := Lib.hid hb9; clear hb9)
            go_roundw
            case rel => exact ⟨k + 1, v', u', pk, ys, hlt, by go_num, P7.out.below B9.out, by have := HX.out; have := TT.out; omega, bt B7.out B9.out B7.out.size⟩
            case measure => simp [intOf]; omega
        · go_wp2_with (first | (go_at_call 10; refine (PK.out _).mono ?_; rintro e w4 ⟨rfl, rfl⟩) | (go_at_call 20; refine (same_any b rb room pk v u xs w.heap.size (by have := HX.out; have := TT.out; omega) _ ME.out.a ME.out.r).mono ?_; rintro e w9 ⟨rfl, hb9⟩; have B9 := Lib.hid hb9; clear hb9))
          go_roundw
          case rel => exact ⟨k + 1, v, u, pk, xs, hlt, by go_num, ME.out.pair.below B9.out, by have := HX.out; have := TT.out; omega, bt ME.out.low B9.out ME.out.low.size⟩
          case measure => simp [intOf]; omega
      · obtain rfl : k = ds.length := by omega
        have hlt2 : ¬ (ds.length : Int) < ds.length := by omega
        have hx9 : xs.length ≤ 60000 := by have h1 := HX.out; have h2 := HT.out; rw [List.take_length] at h1; omega
        go_wp2_with (first | (go_at_call 20; refine (same_any b rb room pk v u xs w.heap.size hx9 _ HP.out.a HP.out.r).mono ?_; rintro e w9 ⟨rfl, hb9⟩; have B9 := Lib.hid (bt HB.out hb9 HB.out.size); clear hb9) | (go_at_call 8; refine (awake_any _).mono ?_; rintro e w10 ⟨rfl, hb10⟩; have B10 := Lib.hid (bt B9.out hb10 B9.out.size); clear hb10))
        go_ret
        exact ⟨rfl, B10.out⟩
end Go.Proofs.Ytfcacgiejoeneaa

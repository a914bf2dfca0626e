/- The law ArenaBack, walked. -/
import Derived.Test.YtfcacgiejoeneaaKb
import Derived.Test.YtfcacgiejoeneaaWp
namespace Go.Proofs.Ytfcacgiejoeneaa
open Go Go.RowKit
set_option maxRecDepth 100000 in
set_option maxHeartbeats 1000000 in
theorem back_long (A B : Option Addr) (n m c d : Nat) (rounds : Int) (hn : n ≤ 140737488351232) (hm : m ≤ 140737488351232) (h : 400 < n + m) (w : World) :
    Calls Try.prog 5 #[.slice A n c, .slice B m d, .int .i64 rounds] w fun e w' => e = .returned (.bool true) ∧ Below w.heap.size w w' := by
  obtain ⟨R, eR⟩ : ∃ R : Int, R = n + m := ⟨_, rfl⟩
  have hw : IntKind.i64.wrap ((n : Int) + m) = R := (IntWalk.i64_in _ (by omega)).trans eR.symm
  have hR : 400 < R := by omega
  clear h hn hm eR
  go_enter Try.func5, Try.ntmps5
  go_wp2_with (go_at_call 8; refine (awake_any _).mono ?_; rintro e w1 ⟨rfl, hb1⟩; have HB1 := Lib.hid hb1; clear hb1)
  go_ret
  exact ⟨rfl, HB1.out⟩
set_option maxRecDepth 100000 in
set_option maxHeartbeats 4000000 in
theorem back_any (A B : Option Addr) (l m : List Int) (c d : Nat) (hnc : A = none → c = 0) (rounds : Int) (hr : -9223372036854775808 ≤ rounds ∧ rounds < 9223372036854775808) (h : l.length + m.length ≤ 400) (w : World) (hA : Lies w A (ints l)) (hB : Lies w B (ints m)) :
    Calls Try.prog 5 #[.slice A l.length c, .slice B m.length d, .int .i64 rounds] w fun e w' => e = .returned (.bool true) ∧ Below w.heap.size w w' := by
  obtain ⟨R, eR⟩ : ∃ R : Int, R = l.length + m.length := ⟨_, rfl⟩
  have hw : IntKind.i64.wrap ((l.length : Int) + m.length) = R := (IntWalk.i64_in _ (by omega)).trans eR.symm
  have hR : R ≤ 400 := by omega
  have HA := Lib.hid hA
  have HBB := Lib.hid hB
  have NC := Lib.hid hnc
  have ER := Lib.hid eR
  have HN := Lib.hid h
  have PK := Lib.hid (fun w => pick_any rounds 3 hr (by decide) w)
  have hp0 := Int.emod_nonneg rounds (show (3 : Int) ≠ 0 by decide)
  have hp1 := Int.emod_lt_of_pos rounds (show (0 : Int) < 3 by decide)
  obtain ⟨p, ep⟩ : ∃ p : Nat, rounds % 3 = p := ⟨(rounds % 3).toNat, by omega⟩
  rw [ep] at PK hp0 hp1
  have hp2 : p ≤ 2 := by omega
  have hll : l.length ≤ 400 := by omega
  have hml : m.length ≤ 400 := by omega
  have hwp : IntKind.i64.wrap (1 + (p : Int)) = 1 + p := IntWalk.i64_in _ (by omega)
  clear hA hB hnc eR hr ep hp0 hp1 h
  go_enter Try.func5, Try.ntmps5
  go_wp2_with (go_at_call 8; refine (awake_any _).mono ?_; rintro e w1 ⟨rfl, hb1⟩; have HB1 := Lib.hid hb1; clear hb1)
  go_wp2_with (go_at_call 9; refine (i_new_any R (by have := ER.out; omega) (by omega) _).mono ?_; rintro e w2 ⟨rfl, hb2, ha2, hz2⟩; have HB2 := Lib.hid hb2; have HA2 := Lib.hid ha2; clear hb2 ha2 hz2)
  obtain ⟨b, eb⟩ : ∃ b, b = w1.heap.size := ⟨_, rfl⟩
  have HB3 : RowKit.Hid (Below w.heap.size w w2) := Lib.hid (bb HB1.out HB2.out)
  have HZ2 : RowKit.Hid (b ≤ w2.heap.size) := Lib.hid (by have := HB2.out.size; omega)
  have BB : RowKit.Hid (w.heap.size ≤ b) := Lib.hid (by have := HB1.out.size; omega)
  rw [← eb] at HA2 ⊢
  clear eb HB1 HB2
  have P1 := Lib.hid (put_first w2 b b R _ A c l.length (ints l) (ints_length l) NC.out (ints_one l) (by have := HN.out; omega) (by have := ER.out; omega) HZ2.out HA2.out (HA.out.below HB3.out))
  go_wp2_with (go_at_call 12; refine P1.out.mono ?_; clear P1; rintro e w3 ⟨rfl, v3, ha3, ht3⟩; have HA3 := Lib.hid ha3; have HB4 := Lib.hid (ht3.below HA2.out HZ2.out); clear ha3 ht3 HA2)
  go_wp2_with (go_at_call 23; refine (mark_is b l.length R l.length v3 (ints l) b (ints_length l) _ HA3.out).mono ?_; rintro e w4 ⟨rfl, rfl⟩)
  go_loopw [12, 13, 14, 15, 16, 17, 18, 19, 20, 21, 22] (fun s _ _ _ _ _ _ _ _ _ _ wr => ∃ r : Nat, r ≤ p + 1 ∧ s = .int .i64 r ∧ (∃ v pk, Ar 61 3 wr b b R pk v (ints l)) ∧ Below b w2 wr) (fun s _ _ _ _ _ _ _ _ _ _ _ => p + 1 - (intOf s).toNat)
  case atStart => exact ⟨0, by omega, rfl, ⟨v3, _, HA3.out⟩, HB4.out⟩
  case round =>
    obtain ⟨r, hrp, rfl, ⟨v4, pk4, ha4⟩, hb4⟩ := hrel
    have HA4 := Lib.hid ha4
    have HB5 := Lib.hid hb4
    clear ha4 hb4 HA3 HB4
    obtain ⟨wa, rfl⟩ : ∃ u, u = wr := ⟨_, rfl⟩
    by_cases hlt : r < p + 1
    · have hlt2 : (r : Int) < 1 + p := by omega
      go_wp2_with (go_at_call 10; refine (PK.out _).mono ?_; rintro e w4 ⟨rfl, rfl⟩)
      go_loopw [13, 14, 15] (fun s _ _ wr => ∃ i : Nat, i ≤ m.length ∧ s = .int .i64 i ∧ (∃ v pk, Ar 61 3 wr b b R pk v (ints (l ++ m.take i))) ∧ Below b w2 wr) (fun s _ _ _ => m.length - (intOf s).toNat)
      case atStart => exact ⟨0, by omega, rfl, ⟨v4, pk4, by simpa using HA4.out⟩, HB5.out⟩
      case round =>
        obtain ⟨i, him, rfl, ⟨v5, pk5, ha5⟩, hb5⟩ := hrel
        have HA5 := Lib.hid ha5
        have HB6 := Lib.hid hb5
        obtain ⟨wb, rfl⟩ : ∃ u, u = wr := ⟨_, rfl⟩
        clear ha5 hb5
        by_cases hit : i < m.length
        · have hit2 : (i : Int) < m.length := by omega
          obtain ⟨bb0, bo, rfl, hbl, c1⟩ := lies_cell HBB.out hit
          have HBW : RowKit.Hid (Below w.heap.size w wb) := Lib.hid (HB3.out.trans (HB6.out.mono BB.out))
          have c2 := (HBW.out.cell (p := ⟨bb0, bo + i, none⟩) hbl).trans c1
          obtain ⟨x, ex⟩ : ∃ x, x = m.getD i 0 := ⟨_, rfl⟩
          rw [← ex] at c2
          have EX := Lib.hid ex
          clear c1 ex hbl
          have hxl := ints_ll l m him
          have P2 := Lib.hid (put_one wb b b (l.length + i) R pk5 v5 (.int .i64 x) _ hxl rfl (by have := HN.out; omega) (by have := ER.out; omega) (by have := HB6.out.size; have := HZ2.out; omega) HA5.out)
          obtain ⟨M, eM⟩ : ∃ M : Int, M = R - (l.length + i + 1 : Nat) := ⟨_, rfl⟩
          have hws : IntKind.i64.wrap ((l.length : Int) + i + 1 + M) = R := (IntWalk.i64_in _ (by have := ER.out; have := HN.out; omega)).trans (by omega)
          have hws2 : IntKind.i64.wrap ((l.length : Int) + i) = (l.length : Int) + i := IntWalk.i64_in _ (by have := HN.out; omega)
          have EM := Lib.hid eM
          clear eM hxl
          go_wp2_with (go_at_call 12; refine P2.out.mono ?_; clear P2; rintro e w6 ⟨rfl, v6, pk6, ha6, ht6⟩; have HB7 := Lib.hid (ht6.below HA5.out (by have := HB6.out.size; have := HZ2.out; omega)); rw [EX.out, ints_snoc l hit] at ha6; have hxl6 : (ints (l ++ m.take (i + 1))).length = l.length + i + 1 := ints_ll l m (show i + 1 ≤ m.length from hit); have HX6 := Lib.hid hxl6; have HA6 := Lib.hid ha6; clear ha6 ht6 hxl6)
          go_wp2_with (first | (go_at_call 24; refine (len_is b (l.length + i + 1) R pk6 v6 _ b HX6.out _ HA6.out).mono ?_; rintro e w7 ⟨rfl, rfl⟩) | (go_at_call 25; refine (left_is b R pk6 M v6 _ b (by rw [HX6.out]; exact EM.out.symm) _ HA6.out).mono ?_; rintro e w7 ⟨rfl, n7, rfl⟩))
          go_roundw
          case rel => exact ⟨i + 1, hit, by go_num, ⟨v6, pk6, HA6.out.drewN⟩, bdrew (HB6.out.trans HB7.out)⟩
          case measure => simp [intOf]; omega
        · obtain rfl : i = m.length := by omega
          have hit2 : ¬ (m.length : Int) < m.length := by omega
          obtain ⟨xs, exs⟩ : ∃ xs, xs = ints (l ++ m.take m.length) := ⟨_, rfl⟩
          rw [← exs] at HA5
          have hxl : (xs.length : Int) = R := by rw [exs, ints_ll l m (Nat.le_refl _)]; have := ER.out; omega
          have hxt : xs.take l.length = ints l := by rw [exs, ← ints_take]; simp
          have hxn : l.length ≤ xs.length := by rw [exs, ints_ll l m (Nat.le_refl _)]; omega
          obtain rfl : pk5 = R := by have h1 := HA5.out.up; have h2 := HA5.out.top; omega
          have HBZ : RowKit.Hid (b ≤ wb.heap.size) := Lib.hid (by have := HB6.out.size; have := HZ2.out; omega)
          have P3 := Lib.hid (put_none wb b b pk5 pk5 v5 (.int .i64 1) xs hxl HA5.out)
          have HXT := Lib.hid hxt
          have HXN := Lib.hid hxn
          clear exs hxl hxt hxn hit him
          go_wp2_with (go_at_call 12; refine P3.out.mono ?_; clear P3; rintro e w6 ⟨rfl, ha6, hb6⟩; have HA6 := Lib.hid ha6; have HB7 := Lib.hid (HB6.out.trans (hb6.mono HBZ.out)); have HZ6 : RowKit.Hid (b ≤ w6.heap.size) := Lib.hid (by have := hb6.size; have := HBZ.out; omega); clear ha6 hb6)
          go_wp2_with (go_at_call 18; refine (i_back_good b pk5 pk5 v5 xs b l.length HXN.out _ HA6.out).mono ?_; rintro e w7 ⟨rfl, v7, ha7, ht7⟩; rw [HXT.out] at ha7; have HA7 := Lib.hid ha7; have HB8 := Lib.hid (HB7.out.trans (ht7.below HA6.out HZ6.out)); clear ha7 ht7)
          go_wp2_with (first | (go_at_call 24; refine (len_is b l.length pk5 pk5 v7 _ b (ints_length l) _ HA7.out).mono ?_; rintro e w8 ⟨rfl, rfl⟩) | (go_at_call 26; refine (i_peak_any b pk5 pk5 v7 _ b _ HA7.out).mono ?_; rintro e w8 ⟨rfl, rfl⟩))
          go_loopw [18, 19, 20] (fun s _ _ wr => ∃ j : Nat, j ≤ l.length ∧ s = .int .i64 j ∧ Ar 61 3 wr b b pk5 pk5 v7 (ints l) ∧ Below b w2 wr) (fun s _ _ _ => l.length - (intOf s).toNat)
          case atStart => exact ⟨0, by omega, rfl, HA7.out, HB8.out⟩
          case round =>
            obtain ⟨j, hjl, rfl, ha8, hb8⟩ := hrel
            have HA8 := Lib.hid ha8
            have HB9 := Lib.hid hb8
            obtain ⟨wc, rfl⟩ : ∃ u, u = wr := ⟨_, rfl⟩
            clear ha8 hb8
            by_cases hjt : j < l.length
            · have hjt2 : (j : Int) < l.length := by omega
              obtain ⟨ab, ao, rfl, hal, c1⟩ := lies_cell HA.out hjt
              have HBW : RowKit.Hid (Below w.heap.size w wc) := Lib.hid (HB3.out.trans (HB9.out.mono BB.out))
              have c2 := (HBW.out.cell (p := ⟨ab, ao + j, none⟩) hal).trans c1
              have hat := Lib.hid (i_at_yes b pk5 pk5 v7 (ints l) b j _ (ints_at hjt) wc HA8.out)
              generalize l.getD j 0 = x at c2 hat
              clear c1 hal
              go_wp2_with (go_at_call 27; refine hat.out.mono ?_; rintro e w9 ⟨rfl, rfl⟩)
              go_roundw
              case rel => exact ⟨j + 1, hjt, by go_num, HA8.out, HB9.out⟩
              case measure => simp [intOf]; omega
            · obtain rfl : j = l.length := by omega
              have hjt2 : ¬ (l.length : Int) < l.length := by omega
              have hat := Lib.hid (i_at_no b pk5 pk5 v7 (ints l) b l.length (.inr (by rw [ints_length]; omega)) wc HA8.out)
              go_wp2_with (go_at_call 27; refine hat.out.mono ?_; rintro e w9 ⟨rfl, rfl⟩)
              go_roundw
              case rel => exact ⟨r + 1, by omega, by go_num, ⟨v7, pk5, HA8.out⟩, HB9.out⟩
              case measure => simp [intOf]; omega
    · obtain rfl : r = p + 1 := by omega
      have hlt2 : ¬ ((p + 1 : Nat) : Int) < 1 + p := by omega
      have hwb : IntKind.i64.wrap ((l.length : Int) + 1) = l.length + 1 := IntWalk.i64_in _ (by have := HN.out; omega)
      have hlm : R - (ints l).length = m.length := by rw [ints_length]; have := ER.out; omega
      have HLM := Lib.hid hlm
      clear hlm
      go_wp2_with (first | (go_at_call 10; refine (PK.out _).mono ?_; rintro e w4 ⟨rfl, rfl⟩) | (go_at_call 18; refine (i_back_bad b R pk4 v4 (ints l) b (l.length + 1) (.inr (by rw [ints_length]; omega)) _ HA4.out).mono ?_; rintro e w5 ⟨rfl, rfl⟩) | (go_at_call 25; refine (left_is b R pk4 m.length v4 _ b HLM.out _ HA4.out).mono ?_; rintro e w7 ⟨rfl, n7, rfl⟩))
      go_ret
      exact ⟨ret_bool (by simp), bdrew (HB3.out.trans (HB5.out.mono BB.out))⟩
end Go.Proofs.Ytfcacgiejoeneaa

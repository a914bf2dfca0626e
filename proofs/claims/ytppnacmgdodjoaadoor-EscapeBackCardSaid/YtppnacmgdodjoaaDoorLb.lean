/- The law EscapeBack, walked. -/
import Derived.Test.YtppnacmgdodjoaaDoorWt
import Derived.Test.YtppnacmgdodjoaaDoorWo
namespace Go.Proofs.YtppnacmgdodjoaaDoor
open Go Go.RowKit Go.Maps
set_option maxHeartbeats 1000000 in
theorem back_long (A : Option Addr) (n c : Nat) (s : ByteArray) (b : Bool) (h : 1000 < n + s.size) (hn : n ≤ 140737488351232) (hs : s.size ≤ 140737488351232) (w : World) :
    Calls Tryd.prog 5 #[.slice A n c, .string s, .bool b] w fun e w' => e = .returned (.bool true) ∧ Below w.heap.size w w' := by
  obtain ⟨Z, eZ⟩ : ∃ Z : Int, Z = (n : Int) + s.size := ⟨_, rfl⟩
  have hw : IntKind.i64.wrap ((n : Int) + s.size) = Z := (IntWalk.i64_in _ (by omega)).trans (by omega)
  have hZ : 1000 < Z := by omega
  clear h hn hs eZ
  go_enter Tryd.func5, Tryd.ntmps5
  go_wp2_with (go_at_call 7; refine (awake_any _).mono ?_; rintro e w1 ⟨rfl, hb1⟩)
  go_ret
  exact ⟨rfl, hb1⟩
set_option maxRecDepth 100000 in
set_option maxHeartbeats 8000000 in
theorem back_false (A : Option Addr) (l : List Nat) (c : Nat) (s : ByteArray) (t : List Nat) (hs : Str s t) (h : l.length + s.size ≤ 1000) (w : World) (hT : Tab w) (hX : Txt w A l) :
    Calls Tryd.prog 5 #[.slice A l.length c, .string s, .bool false] w fun e w' => e = .returned (.bool true) ∧ Below w.heap.size w w' := by
  obtain ⟨Z, eZ⟩ : ∃ Z : Int, Z = (l.length : Int) + s.size := ⟨_, rfl⟩
  have hw : IntKind.i64.wrap ((l.length : Int) + s.size) = Z := (IntWalk.i64_in _ (by omega)).trans (by omega)
  have hZ : ¬ 1000 < Z := by omega
  have hkn : kn 1 = true := rfl
  have hz := hs.size
  have TH := Lib.hid hT
  have XH := Lib.hid hX
  have HL : RowKit.Hid (l.length ≤ 60000) := Lib.hid (by omega)
  have SH := Lib.hid hs
  have ZL : RowKit.Hid (t.length ≤ 1000) := Lib.hid (by omega)
  have ZS := Lib.hid hz
  have a1 := all_len 1 l
  have a2 := ok_at (all 1 l) 0 (ok_all hkn l hX.1 0)
  have a3 := D_all hkn l hX.1
  have a4 := all_lt (p := 1) l hX.1
  have a5 : (bsv (all 1 l)).size = (all 1 l).length := bsv_size _
  have a6 := str_bsv a4
  have AL := Lib.hid (fun w h => all_any 1 A l c HL.out w h)
  have DC := Lib.hid (fun w hT => Decode_any (bsv (all 1 l)) (all 1 l) 1 a6 (by have := a1.1; omega) w hT)
  rw [a3] at DC
  simp only [dE, dK, dB, Int.natCast_zero] at DC
  generalize bsv (all 1 l) = T at a5 a6 AL DC
  generalize all 1 l = u at a1 a2 a3 a4 a5 a6
  have U2 := Lib.hid a2
  have U6 := Lib.hid a6
  have U5 := Lib.hid a5
  have SZL : RowKit.Hid (u.length ≤ 4000) := Lib.hid (by have := a1.1; omega)
  have hle : ¬ (T.size : Int) < l.length := by have := a1.2 hkn; omega
  clear eZ h hs hT hX hz a1 a2 a3 a4 a5 a6 hkn
  go_enter Tryd.func5, Tryd.ntmps5
  go_wp2_with (go_at_call 7; refine (awake_any _).mono ?_; rintro e w1 ⟨rfl, hb1⟩; have B1 := Lib.hid hb1; clear hb1)
  go_wp2_with (go_at_call 9; refine (AL.out _ (XH.out.below B1.out)).mono ?_; rintro e w2 ⟨rfl, hb2⟩; have B2 := Lib.hid (bb B1.out hb2); clear hb2)
  go_wp2_with (go_at_call 15; refine (DC.out _ (TH.out.below B2.out)).mono ?_; rintro e w3 ⟨v3, rfl, ho3, hb3⟩; have B3 := Lib.hid (bb B2.out hb3); obtain ⟨A3, c3, ev3, ht3, _⟩ := txt_of_own ho3 XH.out.1; subst ev3; have HT3 := Lib.hid ht3; clear ho3 hb3 ht3)
  go_wp2_with (go_at_call 16; refine (sameb_any A3 A l l c3 c (by have := HL.out; omega) (by have := HL.out; omega) _ HT3.out (XH.out.below B3.out)).mono ?_; rintro e w4 ⟨rfl, n4, rfl⟩)
  have B4 := Lib.hid (bdrew (n := n4) B3.out)
  have T4 : RowKit.Hid (Tab (w3.drewN n4)) := Lib.hid (TH.out.below B4.out)
  obtain ⟨wq, ewq⟩ : ∃ wq, wq = w3.drewN n4 := ⟨_, rfl⟩
  rw [← ewq] at B4 T4 ⊢
  clear ewq
  go_loopw [13] (fun i wr => ∃ k : Nat, k ≤ T.size ∧ i = .int .i64 k ∧ wr = wq) (fun i _ => T.size - (intOf i).toNat)
  case atStart => exact ⟨0, by omega, rfl, rfl⟩
  case round =>
    obtain ⟨k, hk, rfl, rfl⟩ := hrel
    have hk4 : k ≤ 4000 := by have := U5.out; have := SZL.out; omega
    by_cases hlt : k < T.size
    · obtain ⟨q1, q2, q3⟩ := U2.out k (by have := U5.out; omega)
      have x0 : ∀ h, (T[k]'h).toNat = u.getD k 0 := fun h => U6.out.at_ k h
      generalize hc0 : u.getD k 0 = v at q1 q2 q3 x0
      have hk3 : (k : Int) < T.size := by omega
      have g1 : ¬ (v : Int) < 32 := by omega
      have g2 : ¬ (126 : Int) < v := by omega
      clear hc0
      by_cases hce : v = 34
      · obtain ⟨k0, k1⟩ : 0 < k ∧ u.getD (k - 1) 0 = 92 := by
          rcases q3 (hce.trans rfl) with ⟨_, h⟩ | h
          · omega
          · exact h
        subst hce
        obtain ⟨J, eJ⟩ : ∃ J : Int, J = (k - 1 : Nat) := ⟨_, rfl⟩
        have hj : IntKind.i64.wrap ((k : Int) - 1) = J := (IntWalk.i64_in _ (by have := U5.out; have := SZL.out; omega)).trans (by omega)
        have hk0 : ((k : Int) == 0) = false := by simp; omega
        have j0 : 0 ≤ J := by omega
        have j1 : J < T.size := by omega
        have x1 : ∀ h, (T[J.toNat]'h).toNat = 92 := fun h => (U6.out.atI J (k - 1) eJ h).trans k1
        clear q1 q2 q3 g1 g2 eJ k0 k1
        go_wp2_with fail
        go_roundw
        case rel => exact ⟨k + 1, by omega, by go_num, trivial⟩
        case measure => simp [intOf]; omega
      · have hne : ((v : Int) == 34) = false := by simp; omega
        clear q1 q2 q3 hce
        go_wp2_with fail
        go_roundw
        case rel => exact ⟨k + 1, by omega, by go_num, trivial⟩
        case measure => simp [intOf]; omega
    · have hk3 : ¬ (k : Int) < T.size := by omega
      have DS := Lib.hid (fun w hT => Decode_any s t 1 SH.out (by have := ZL.out; omega) w hT)
      have SP := Lib.hid (D_spec 1 t.length t (Nat.le_refl _) SH.out.lt)
      have DZ := Lib.hid (fun bs k (h : D 1 t = (some bs, k)) => D_zero SH.out.lt h)
      generalize D 1 t = d at DS SP DZ
      clear hlt hk
      rcases d with ⟨_ | bs, j⟩
      · simp only [dE, dK, dB] at DS
        have hj := (SP.out.2 j rfl).1
        have hj3 : (j : Int) < s.size := by have := ZS.out; omega
        clear hj
        go_wp2_with (go_at_call 15; refine (DS.out _ T4.out).mono ?_; rintro e w5 ⟨v5, rfl, ho5, hb5⟩; have B5 := Lib.hid (bb B4.out hb5); obtain ⟨A5, c5, ev5, ht5, _⟩ := txt_of_own (xs := []) ho5 (by simp); subst ev5; clear ho5 hb5 ht5)
        go_ret
        exact ⟨ret_bool (by simp), B5.out⟩
      · obtain ⟨r1, r2, r3, _⟩ := SP.out.1 bs j rfl
        obtain rfl := DZ.out bs j rfl
        have hlen : ((bsv (all 1 bs)).size : Int) ≤ s.size := by have := ZS.out; rw [bsv_size]; omega
        have hkn : kn 1 = true := rfl
        have HB : RowKit.Hid (bs.length ≤ 60000 ∧ ∀ x ∈ bs, x < 256) := Lib.hid ⟨by have := ZL.out; omega, r1⟩
        have AB := Lib.hid (fun A c w h => all_any 1 A bs c HB.out.1 w h)
        have DB := Lib.hid (fun w hT => Decode_any (bsv (all 1 bs)) (all 1 bs) 1 (str_bsv (all_lt bs r1)) (by have := ZL.out; omega) w hT)
        rw [D_all hkn bs r1] at DB
        simp only [dE, dK, dB, Int.natCast_zero] at DB DS
        generalize bsv (all 1 bs) = U at AB DB hlen
        clear r1 r2 r3 hkn
        go_wp2_with (go_at_call 15; refine (DS.out _ T4.out).mono ?_; rintro e w5 ⟨v5, rfl, ho5, hb5⟩; have B5 := Lib.hid (bb B4.out hb5); obtain ⟨A5, c5, ev5, ht5, _⟩ := txt_of_own ho5 HB.out.2; subst ev5; have X5 := Lib.hid ht5; clear ho5 hb5 ht5)
        go_wp2_with (go_at_call 9; refine (AB.out _ _ _ X5.out).mono ?_; rintro e w6 ⟨rfl, hb6⟩; have B6 := Lib.hid (bb B5.out hb6); have X6 := Lib.hid (X5.out.below hb6); clear hb6)
        go_wp2_with (go_at_call 15; refine (DB.out _ (TH.out.below B6.out)).mono ?_; rintro e w7 ⟨v7, rfl, ho7, hb7⟩; have B7 := Lib.hid (bb B6.out hb7); have X7 := Lib.hid (X6.out.below hb7); obtain ⟨A7, c7, ev7, ht7, _⟩ := txt_of_own ho7 HB.out.2; subst ev7; have Y7 := Lib.hid ht7; clear ho7 hb7 ht7)
        go_wp2_with (go_at_call 16; refine (sameb_any A5 A7 bs bs c5 c7 (by have := HB.out.1; omega) (by have := HB.out.1; omega) _ X7.out Y7.out).mono ?_; rintro e w8 ⟨rfl, n8, rfl⟩)
        go_ret
        exact ⟨ret_bool (by simp), bdrew B7.out⟩
set_option maxRecDepth 100000 in
set_option maxHeartbeats 8000000 in
theorem back_true (A : Option Addr) (l : List Nat) (c : Nat) (s : ByteArray) (t : List Nat) (hs : Str s t) (h : l.length + s.size ≤ 1000) (w : World) (hT : Tab w) (hX : Txt w A l) :
    Calls Tryd.prog 5 #[.slice A l.length c, .string s, .bool true] w fun e w' => e = .returned (.bool true) ∧ Below w.heap.size w w' := by
  obtain ⟨Z, eZ⟩ : ∃ Z : Int, Z = (l.length : Int) + s.size := ⟨_, rfl⟩
  have hw : IntKind.i64.wrap ((l.length : Int) + s.size) = Z := (IntWalk.i64_in _ (by omega)).trans (by omega)
  have hZ : ¬ 1000 < Z := by omega
  have hkn : kn 2 = true := rfl
  have hz := hs.size
  have TH := Lib.hid hT
  have XH := Lib.hid hX
  have HL : RowKit.Hid (l.length ≤ 60000) := Lib.hid (by omega)
  have SH := Lib.hid hs
  have ZL : RowKit.Hid (t.length ≤ 1000) := Lib.hid (by omega)
  have ZS := Lib.hid hz
  have a1 := all_len 2 l
  have a2 := ok_at (all 2 l) 0 (ok_all hkn l hX.1 0)
  have a3 := D_all hkn l hX.1
  have a4 := all_lt (p := 2) l hX.1
  have a5 : (bsv (all 2 l)).size = (all 2 l).length := bsv_size _
  have a6 := str_bsv a4
  have AL := Lib.hid (fun w h => all_any 2 A l c HL.out w h)
  have DC := Lib.hid (fun w hT => Decode_any (bsv (all 2 l)) (all 2 l) 2 a6 (by have := a1.1; omega) w hT)
  rw [a3] at DC
  simp only [dE, dK, dB, Int.natCast_zero] at DC
  generalize bsv (all 2 l) = T at a5 a6 AL DC
  generalize all 2 l = u at a1 a2 a3 a4 a5 a6
  have U2 := Lib.hid a2
  have U6 := Lib.hid a6
  have U5 := Lib.hid a5
  have SZL : RowKit.Hid (u.length ≤ 4000) := Lib.hid (by have := a1.1; omega)
  have hle : ¬ (T.size : Int) < l.length := by have := a1.2 hkn; omega
  clear eZ h hs hT hX hz a1 a2 a3 a4 a5 a6 hkn
  go_enter Tryd.func5, Tryd.ntmps5
  go_wp2_with (go_at_call 7; refine (awake_any _).mono ?_; rintro e w1 ⟨rfl, hb1⟩; have B1 := Lib.hid hb1; clear hb1)
  go_wp2_with (go_at_call 9; refine (AL.out _ (XH.out.below B1.out)).mono ?_; rintro e w2 ⟨rfl, hb2⟩; have B2 := Lib.hid (bb B1.out hb2); clear hb2)
  go_wp2_with (go_at_call 15; refine (DC.out _ (TH.out.below B2.out)).mono ?_; rintro e w3 ⟨v3, rfl, ho3, hb3⟩; have B3 := Lib.hid (bb B2.out hb3); obtain ⟨A3, c3, ev3, ht3, _⟩ := txt_of_own ho3 XH.out.1; subst ev3; have HT3 := Lib.hid ht3; clear ho3 hb3 ht3)
  go_wp2_with (go_at_call 16; refine (sameb_any A3 A l l c3 c (by have := HL.out; omega) (by have := HL.out; omega) _ HT3.out (XH.out.below B3.out)).mono ?_; rintro e w4 ⟨rfl, n4, rfl⟩)
  have B4 := Lib.hid (bdrew (n := n4) B3.out)
  have T4 : RowKit.Hid (Tab (w3.drewN n4)) := Lib.hid (TH.out.below B4.out)
  obtain ⟨wq, ewq⟩ : ∃ wq, wq = w3.drewN n4 := ⟨_, rfl⟩
  rw [← ewq] at B4 T4 ⊢
  clear ewq
  go_loopw [13] (fun i wr => ∃ k : Nat, k ≤ T.size ∧ i = .int .i64 k ∧ wr = wq) (fun i _ => T.size - (intOf i).toNat)
  case atStart => exact ⟨0, by omega, rfl, rfl⟩
  case round =>
    obtain ⟨k, hk, rfl, rfl⟩ := hrel
    have hk4 : k ≤ 4000 := by have := U5.out; have := SZL.out; omega
    by_cases hlt : k < T.size
    · obtain ⟨q1, q2, q3⟩ := U2.out k (by have := U5.out; omega)
      have x0 : ∀ h, (T[k]'h).toNat = u.getD k 0 := fun h => U6.out.at_ k h
      generalize hc0 : u.getD k 0 = v at q1 q2 q3 x0
      have hk3 : (k : Int) < T.size := by omega
      have g1 : ¬ (v : Int) < 32 := by omega
      have g2 : ¬ (126 : Int) < v := by omega
      clear hc0
      by_cases hce : v = 93
      · obtain ⟨k0, k1⟩ : 0 < k ∧ u.getD (k - 1) 0 = 92 := by
          rcases q3 (hce.trans rfl) with ⟨_, h⟩ | h
          · omega
          · exact h
        subst hce
        obtain ⟨J, eJ⟩ : ∃ J : Int, J = (k - 1 : Nat) := ⟨_, rfl⟩
        have hj : IntKind.i64.wrap ((k : Int) - 1) = J := (IntWalk.i64_in _ (by have := U5.out; have := SZL.out; omega)).trans (by omega)
        have hk0 : ((k : Int) == 0) = false := by simp; omega
        have j0 : 0 ≤ J := by omega
        have j1 : J < T.size := by omega
        have x1 : ∀ h, (T[J.toNat]'h).toNat = 92 := fun h => (U6.out.atI J (k - 1) eJ h).trans k1
        clear q1 q2 q3 g1 g2 eJ k0 k1
        go_wp2_with fail
        go_roundw
        case rel => exact ⟨k + 1, by omega, by go_num, trivial⟩
        case measure => simp [intOf]; omega
      · have hne : ((v : Int) == 93) = false := by simp; omega
        clear q1 q2 q3 hce
        go_wp2_with fail
        go_roundw
        case rel => exact ⟨k + 1, by omega, by go_num, trivial⟩
        case measure => simp [intOf]; omega
    · have hk3 : ¬ (k : Int) < T.size := by omega
      have DS := Lib.hid (fun w hT => Decode_any s t 2 SH.out (by have := ZL.out; omega) w hT)
      have SP := Lib.hid (D_spec 2 t.length t (Nat.le_refl _) SH.out.lt)
      have DZ := Lib.hid (fun bs k (h : D 2 t = (some bs, k)) => D_zero SH.out.lt h)
      generalize D 2 t = d at DS SP DZ
      clear hlt hk
      rcases d with ⟨_ | bs, j⟩
      · simp only [dE, dK, dB] at DS
        have hj := (SP.out.2 j rfl).1
        have hj3 : (j : Int) < s.size := by have := ZS.out; omega
        clear hj
        go_wp2_with (go_at_call 15; refine (DS.out _ T4.out).mono ?_; rintro e w5 ⟨v5, rfl, ho5, hb5⟩; have B5 := Lib.hid (bb B4.out hb5); obtain ⟨A5, c5, ev5, ht5, _⟩ := txt_of_own (xs := []) ho5 (by simp); subst ev5; clear ho5 hb5 ht5)
        go_ret
        exact ⟨ret_bool (by simp), B5.out⟩
      · obtain ⟨r1, r2, r3, _⟩ := SP.out.1 bs j rfl
        obtain rfl := DZ.out bs j rfl
        have hlen : ((bsv (all 2 bs)).size : Int) ≤ s.size := by have := ZS.out; rw [bsv_size]; omega
        have hkn : kn 2 = true := rfl
        have HB : RowKit.Hid (bs.length ≤ 60000 ∧ ∀ x ∈ bs, x < 256) := Lib.hid ⟨by have := ZL.out; omega, r1⟩
        have AB := Lib.hid (fun A c w h => all_any 2 A bs c HB.out.1 w h)
        have DB := Lib.hid (fun w hT => Decode_any (bsv (all 2 bs)) (all 2 bs) 2 (str_bsv (all_lt bs r1)) (by have := ZL.out; omega) w hT)
        rw [D_all hkn bs r1] at DB
        simp only [dE, dK, dB, Int.natCast_zero] at DB DS
        generalize bsv (all 2 bs) = U at AB DB hlen
        clear r1 r2 r3 hkn
        go_wp2_with (go_at_call 15; refine (DS.out _ T4.out).mono ?_; rintro e w5 ⟨v5, rfl, ho5, hb5⟩; have B5 := Lib.hid (bb B4.out hb5); obtain ⟨A5, c5, ev5, ht5, _⟩ := txt_of_own ho5 HB.out.2; subst ev5; have X5 := Lib.hid ht5; clear ho5 hb5 ht5)
        go_wp2_with (go_at_call 9; refine (AB.out _ _ _ X5.out).mono ?_; rintro e w6 ⟨rfl, hb6⟩; have B6 := Lib.hid (bb B5.out hb6); have X6 := Lib.hid (X5.out.below hb6); clear hb6)
        go_wp2_with (go_at_call 15; refine (DB.out _ (TH.out.below B6.out)).mono ?_; rintro e w7 ⟨v7, rfl, ho7, hb7⟩; have B7 := Lib.hid (bb B6.out hb7); have X7 := Lib.hid (X6.out.below hb7); obtain ⟨A7, c7, ev7, ht7, _⟩ := txt_of_own ho7 HB.out.2; subst ev7; have Y7 := Lib.hid ht7; clear ho7 hb7 ht7)
        go_wp2_with (go_at_call 16; refine (sameb_any A5 A7 bs bs c5 c7 (by have := HB.out.1; omega) (by have := HB.out.1; omega) _ X7.out Y7.out).mono ?_; rintro e w8 ⟨rfl, n8, rfl⟩)
        go_ret
        exact ⟨ret_bool (by simp), bdrew B7.out⟩
end Go.Proofs.YtppnacmgdodjoaaDoor

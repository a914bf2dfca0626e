/- The law EscapeParts, walked. -/
import Derived.Test.YtppnacmgdodjoaaDoorWt
namespace Go.Proofs.YtppnacmgdodjoaaDoor
open Go Go.RowKit Go.Maps
/-- A guarded operation that is wanted goes as one without a guard. -/
theorem wpList_guarded {P : Program} {w : World} {ops : Array Oper} {rest : List Oper} {o : Oper} {a : Act} {Q : Exit → Act → World → Prop}
    (hw : Region.wanted o (yielded ops a.tmps) = true) (h : wpList P ops Q ({ o with guard := none } :: rest) a w) : wpList P ops Q (o :: rest) a w := by
  unfold wpList at h ⊢
  rw [if_pos hw]
  rw [if_pos (by simp [Region.wanted])] at h
  exact h
theorem own_empty5 (w : World) : (w.alloc (.cells #[] 5)).ownsRow w.heap.size 5 1 (.slice (some ⟨w.heap.size, 0, none⟩) 0 0) 0 [] :=
  ⟨rfl, .inr ⟨w.heap.size, 0, #[], rfl, Nat.le_refl _, heap_alloc_new w _, Nat.le_refl _, Nat.zero_le _, rfl, rfl⟩⟩
theorem all_append (p : Int) (a b : List Nat) : all p (a ++ b) = all p a ++ all p b := by simp [all]
set_option maxHeartbeats 1000000 in
theorem parts_long (A B : Option Addr) (n m c d : Nat) (s t : ByteArray) (h : 1000 < n + m + s.size + t.size) (hn : n ≤ 140737488351232) (hm : m ≤ 140737488351232) (hs : s.size ≤ 140737488351232) (ht : t.size ≤ 140737488351232) (w : World) :
    Calls Tryd.prog 6 #[.slice A n c, .slice B m d, .string s, .string t] w fun e w' => e = .returned (.bool true) ∧ Below w.heap.size w w' := by
  obtain ⟨Y, eY⟩ : ∃ Y : Int, Y = (n : Int) + m := ⟨_, rfl⟩
  obtain ⟨X, eX⟩ : ∃ X : Int, X = Y + s.size := ⟨_, rfl⟩
  obtain ⟨Z, eZ⟩ : ∃ Z : Int, Z = X + t.size := ⟨_, rfl⟩
  have hw1 : IntKind.i64.wrap ((n : Int) + m) = Y := (IntWalk.i64_in _ (by omega)).trans (by omega)
  have hw2 : IntKind.i64.wrap (Y + s.size) = X := (IntWalk.i64_in _ (by omega)).trans (by omega)
  have hw3 : IntKind.i64.wrap (X + t.size) = Z := (IntWalk.i64_in _ (by omega)).trans (by omega)
  have hZ : 1000 < Z := by omega
  clear h hn hm hs ht eX eY eZ
  go_enter Tryd.func6, Tryd.ntmps6
  go_wp2_with (go_at_call 7; refine (awake_any _).mono ?_; rintro e w1 ⟨rfl, hb1⟩)
  go_ret
  exact ⟨rfl, hb1⟩
set_option maxRecDepth 100000 in
set_option maxHeartbeats 8000000 in
theorem parts_main (A B : Option Addr) (a b : List Nat) (c d : Nat) (hnA : A = none → c = 0) (hnB : B = none → d = 0) (s t : ByteArray) (sl tl : List Nat) (hs : Str s sl) (ht : Str t tl) (h : a.length + b.length + s.size + t.size ≤ 1000)
    (w : World) (hT : Tab w) (hA : Txt w A a) (hB : Txt w B b) :
    Calls Tryd.prog 6 #[.slice A a.length c, .slice B b.length d, .string s, .string t] w fun e w' => e = .returned (.bool true) ∧ Below w.heap.size w w' := by
  obtain ⟨Y, eY⟩ : ∃ Y : Int, Y = (a.length : Int) + b.length := ⟨_, rfl⟩
  obtain ⟨X, eX⟩ : ∃ X : Int, X = Y + s.size := ⟨_, rfl⟩
  obtain ⟨Z, eZ⟩ : ∃ Z : Int, Z = X + t.size := ⟨_, rfl⟩
  have hw1 : IntKind.i64.wrap ((a.length : Int) + b.length) = Y := (IntWalk.i64_in _ (by omega)).trans (by omega)
  have hw2 : IntKind.i64.wrap (Y + s.size) = X := (IntWalk.i64_in _ (by omega)).trans (by omega)
  have hw3 : IntKind.i64.wrap (X + t.size) = Z := (IntWalk.i64_in _ (by omega)).trans (by omega)
  have hZ : ¬ 1000 < Z := by omega
  have hzs := hs.size
  have hzt := ht.size
  have LN : RowKit.Hid (a.length + b.length + sl.length + tl.length ≤ 1000) := Lib.hid (by omega)
  have SH := Lib.hid hs
  have UH := Lib.hid ht
  have TH := Lib.hid hT
  have HA := Lib.hid hA
  have HB := Lib.hid hB
  have NA := Lib.hid hnA
  have NB := Lib.hid hnB
  have ZS := Lib.hid hzs
  have ZT := Lib.hid hzt
  have l1 := all_len 1 a
  have l2 := all_len 1 b
  have hab : ∀ x ∈ a ++ b, x < 256 := fun x hx => (List.mem_append.1 hx).elim (hA.1 x) (hB.1 x)
  have HAB := Lib.hid hab
  have AX0 := fun A c w h => all_any 1 A (a ++ b) c (by have := LN.out; simp; omega) w h
  rw [List.length_append] at AX0
  have AX := Lib.hid AX0
  clear AX0
  have AS := Lib.hid (fun w h => all_any 1 A a c (by have := LN.out; omega) w h)
  have AT := Lib.hid (fun w h => all_any 1 B b d (by have := LN.out; omega) w h)
  have hadd : bsv (all 1 a) ++ bsv (all 1 b) = bsv (all 1 (a ++ b)) := by rw [bsv_append, all_append]
  have hsz : ¬ 9223372036854775807 < (bsv (all 1 a)).size + (bsv (all 1 b)).size := by rw [bsv_size, bsv_size]; omega
  generalize bsv (all 1 (a ++ b)) = V at AX hadd
  generalize bsv (all 1 a) = S at AS hadd hsz
  generalize bsv (all 1 b) = T at AT hadd hsz
  have hst : ¬ 9223372036854775807 < s.size + t.size := by omega
  have DS := Lib.hid (fun w hT => Decode_any s sl 2 SH.out (by have := LN.out; omega) w hT)
  have DT := Lib.hid (fun w hT => Decode_any t tl 2 UH.out (by have := LN.out; omega) w hT)
  have DU := Lib.hid (fun w hT => Decode_any (s ++ t) (sl ++ tl) 2 (SH.out.append UH.out) (by have := LN.out; simp; omega) w hT)
  have SP := Lib.hid (D_spec 2 sl.length sl (Nat.le_refl _) hs.lt)
  have SQ := Lib.hid (D_spec 2 tl.length tl (Nat.le_refl _) ht.lt)
  have Z1 := Lib.hid (fun bs k (h : D 2 sl = (some bs, k)) => D_zero hs.lt h)
  have Z2 := Lib.hid (fun bs k (h : D 2 tl = (some bs, k)) => D_zero ht.lt h)
  have E1 := Lib.hid (dB_lt (p := 2) hs.lt)
  have E2 := Lib.hid (dB_lt (p := 2) ht.lt)
  have hstl : ∀ x ∈ sl ++ tl, x < 256 := fun x hx => (List.mem_append.1 hx).elim (hs.lt x) (ht.lt x)
  have E3 := Lib.hid (dB_lt (p := 2) hstl)
  have F1 := Lib.hid (dB_len (p := 2) hs.lt)
  have F2 := Lib.hid (dB_len (p := 2) ht.lt)
  have F3 := Lib.hid (dB_len (p := 2) hstl)
  have UL := Lib.hid ht.lt
  obtain ⟨st, est⟩ : ∃ st, st = s ++ t := ⟨_, rfl⟩
  have hst2 : s ++ t = st := est.symm
  rw [← est] at DU
  clear eX eY eZ h hs ht hT hA hB hnA hnB hzs hzt l1 l2 hab est hstl
  go_enter Tryd.func6, Tryd.ntmps6
  go_wp2_with (first
    | (go_at_call 7; refine (awake_any _).mono ?_; rintro e w1 ⟨rfl, hb1⟩; have B1 := Lib.hid hb1; clear hb1)
    | (at_builtin; refine wpList_append_txt _ rfl (.tmp 32) (.tmp 33) rfl w1.heap.size _ [] rfl (own_empty5 w1) A a c rfl ((HA.out.below B1.out).below (RowKit.Below.alloc (Below.refl _ _) (Nat.le_refl _) _)) NA.out (by have := LN.out; simp; omega) (by simp) ?_; intro v1 w2 hown1 hg1; have O1 := Lib.hid hown1; have G1 := Lib.hid hg1; have B2 := Lib.hid ((B1.out.alloc B1.out.size (.cells #[] 5)).grown hg1 (by have := B1.out.size; simp; omega) (fun k hk => Nat.le_trans B1.out.size ((own_empty5 w1).lt k hk).1)); clear hown1 hg1)
    | (at_builtin; refine wpList_append_txt _ rfl (.tmp 34) (.tmp 35) rfl w1.heap.size _ ([] ++ a) rfl O1.out B b d rfl (HB.out.below B2.out) NB.out (by have := LN.out; simp; omega) (by have := G1.out.size; simp at this; omega) ?_; intro v2 w3 hown2 hg2; have B3 := Lib.hid (B2.out.grown hg2 B2.out.size (fun k hk => Nat.le_trans B1.out.size (O1.out.lt k hk).1)); obtain ⟨A2, c2, ev2, ht2, _⟩ := txt_of_own (xs := a ++ b) hown2 HAB.out; subst ev2; have T2 := Lib.hid ht2; clear hown2 hg2 ht2))
  refine (AX.out _ _ _ T2.out).mono ?_
  rintro e w4 ⟨rfl, hb4⟩
  have B4 := Lib.hid (bb B3.out hb4)
  clear hb4
  go_wp2_with fail
  refine (AS.out _ (HA.out.below B4.out)).mono ?_
  rintro e w5 ⟨rfl, hb5⟩
  have B5 := Lib.hid (bb B4.out hb5)
  clear hb5
  go_wp2_with fail
  refine (AT.out _ (HB.out.below B5.out)).mono ?_
  rintro e w6 ⟨rfl, hb6⟩
  have B6 := Lib.hid (bb B5.out hb6)
  clear hb6
  go_wp2_with fail
  refine (DS.out _ (TH.out.below B6.out)).mono ?_
  rintro e w7 ⟨v7, rfl, ho7, hb7⟩
  have B7 := Lib.hid (bb B6.out hb7)
  obtain ⟨A7, c7, ev7, ht7, hn7⟩ := txt_of_own ho7 E1.out
  subst ev7
  have X7 := Lib.hid ht7
  have N7 := Lib.hid hn7
  clear ho7 hb7 ht7 hn7
  go_wp2_with fail
  refine (DT.out _ (TH.out.below B7.out)).mono ?_
  rintro e w8 ⟨v8, rfl, ho8, hb8⟩
  have B8 := Lib.hid (bb B7.out hb8)
  have X8 := Lib.hid (X7.out.below hb8)
  obtain ⟨A8, c8, ev8, ht8, hn8⟩ := txt_of_own ho8 E2.out
  subst ev8
  have Y8 := Lib.hid ht8
  have N8 := Lib.hid hn8
  clear ho8 hb8 ht8 hn8
  go_wp2_with fail
  refine (DU.out _ (TH.out.below B8.out)).mono ?_
  rintro e w9 ⟨v9, rfl, ho9, hb9⟩
  have B9 := Lib.hid (bb B8.out hb9)
  have X9 := Lib.hid (X8.out.below hb9)
  have Y9 := Lib.hid (Y8.out.below hb9)
  obtain ⟨A9, c9, ev9, ht9, hn9⟩ := txt_of_own ho9 E3.out
  subst ev9
  have Z9 := Lib.hid ht9
  clear ho9 hb9 ht9 hn9
  clear hw1 hw2 hw3 hZ hadd hsz hst hst2
  generalize hd1 : D 2 sl = d1 at SP Z1 X9 N7 F1 ⊢
  generalize hd2 : D 2 tl = d2 at SQ Z2 Y9 N8 F2 ⊢
  generalize hd3 : D 2 (sl ++ tl) = d3 at SP Z9 F3 ⊢
  rcases d1 with ⟨_ | xs, j1⟩
  · obtain ⟨k1, k2⟩ := SP.out.2 j1 rfl
    have k3 := k2 tl UL.out
    rw [hd3] at k3
    rcases d3 with ⟨_ | zs, j3⟩
    · have k4 : j1 ≤ j3 := k3 rfl
      clear k1 k2 k3 hd1 hd2 hd3
      generalize dE d2 = x2
      generalize dK d2 = x3
      simp only [dE, dK]
      go_wp2_with fail
      go_ret
      exact ⟨rfl, B9.out⟩
    · clear k1 k2 k3 hd1 hd2 hd3
      generalize dE d2 = x2
      generalize dK d2 = x3
      simp only [dE, dK]
      go_wp2_with fail
      go_ret
      exact ⟨rfl, B9.out⟩
  · obtain ⟨r1, r2, r3, r4⟩ := SP.out.1 xs j1 rfl
    have q1 := r4 tl UL.out
    rw [hd2, hd3] at q1
    obtain rfl := Z1.out xs j1 rfl
    rcases d2 with ⟨_ | ys, j2⟩
    · have q2 : d3 = (none, sl.length + j2) := q1
      subst q2
      obtain ⟨Wh, eW⟩ : ∃ Wh : Int, Wh = (sl.length + j2 : Nat) := ⟨_, rfl⟩
      have hj2 := (SQ.out.2 j2 rfl).1
      have hw : IntKind.i64.wrap ((s.size : Int) + j2) = Wh := (IntWalk.i64_in _ (by have := LN.out; have := ZS.out; omega)).trans (by have := ZS.out; omega)
      clear r1 r2 r3 r4 q1 hd1 hd2 hd3 hj2
      simp only [dE, dK, dB]
      rw [← eW]
      clear eW
      go_wp2_with fail
      go_ret
      exact ⟨rfl, B9.out⟩
    · obtain rfl := Z2.out ys j2 rfl
      have q2 : d3 = (some (xs ++ ys), 0) := q1
      subst q2
      clear r1 r2 r3 r4 q1 hd1 hd2 hd3
      simp only [dE, dK, dB] at X9 Y9 Z9 N7 N8 F1 F2 F3 ⊢
      have SB0 := fun A B c d w hA hB => sameb_any A B (xs ++ ys) (xs ++ ys) c d (by have := LN.out; have := F1.out; have := F2.out; simp; omega) (by have := LN.out; have := F1.out; have := F2.out; simp; omega) w hA hB
      rw [List.length_append] at SB0
      have SB := Lib.hid SB0
      clear SB0
      have LX : RowKit.Hid (xs.length + ys.length ≤ 1000) := Lib.hid (by have := LN.out; have := F1.out; have := F2.out; omega)
      have EE := Lib.hid (fun x (hx : x ∈ xs ++ ys) => (List.mem_append.1 hx).elim (X9.out.1 x) (Y9.out.1 x))
      have X10 : RowKit.Hid (Txt (w9.alloc (.cells #[] 5)) A7 xs) := Lib.hid (X9.out.below (Below.alloc (Below.refl _ _) (Nat.le_refl _) _))
      go_wp2_with (first
        | (at_builtin; refine wpList_guarded rfl ?_; refine wpList_append_txt _ rfl (.tmp 79) (.tmp 80) rfl w9.heap.size _ [] rfl (own_empty5 w9) A7 xs c7 rfl X10.out N7.out (by have := LX.out; simp; omega) (by simp) ?_; intro v10 w10 hown1 hg1; have O10 := Lib.hid hown1; have G10 := Lib.hid hg1; have C10 := Lib.hid ((Below.alloc (Below.refl w9.heap.size w9) (Nat.le_refl _) (.cells #[] 5)).grown hg1 (by simp) (fun k hk => ((own_empty5 w9).lt k hk).1)); clear hown1 hg1)
        | (at_builtin; refine wpList_guarded rfl ?_; refine wpList_append_txt _ rfl (.tmp 81) (.tmp 82) rfl w9.heap.size _ ([] ++ xs) rfl O10.out A8 ys c8 rfl (Y9.out.below C10.out) N8.out (by have := LX.out; simp; omega) C10.out.size ?_; intro v11 w11 hown2 hg2; have C11 := Lib.hid (C10.out.grown hg2 C10.out.size (fun k hk => (O10.out.lt k hk).1)); obtain ⟨A11, c11, ev11, ht11, _⟩ := txt_of_own (xs := xs ++ ys) hown2 EE.out; subst ev11; have T11 := Lib.hid ht11; clear hown2 hg2 ht11)
        | (go_at_call 16; refine (SB.out A9 A11 c9 c11 _ (Z9.out.below C11.out) T11.out).mono ?_; rintro e w12 ⟨rfl, n12, rfl⟩))
      go_ret
      exact ⟨ret_bool (by simp), bdrew (bb B9.out C11.out)⟩
end Go.Proofs.YtppnacmgdodjoaaDoor

/- The law ReadBlanks, walked: both texts are read. -/
import Derived.Test.YtphdplommmkncaaGreatDoorH5
set_option linter.unusedSimpArgs false
set_option linter.unusedVariables false
namespace Go.Proofs.YtphdplommmkncaaGreatDoor
open Go Go.RowKit
theorem roots_lt : ∀ (F : Fr) (n k : Nat), k ∈ roots n F → k < n + F.nodes
  | .nil, _, _, h => by simp [roots] at h
  | .cons x ks r, n, k, h => by
    simp only [roots, List.mem_cons] at h
    simp only [Fr.nodes]
    rcases h with rfl | h
    · omega
    · have := roots_lt r _ _ h; omega
theorem rlsOf_body {us : List Ru} {i : Nat} (hi : i < us.length) : 0 ≤ ((rlsOf us).getD i Rl.zero).body ∧ ((rlsOf us).getD i Rl.zero).body < ((bod us).nodes : Nat) := by
  have h1 : i < (rlsOf us).length := by rw [rlsOf, List.length_map, List.length_zip, roots_len, bod_len, Nat.min_self]; exact hi
  have hm : (rlsOf us).getD i Rl.zero ∈ rlsOf us := getD_mem h1
  obtain ⟨z, hz, e⟩ := List.mem_map.1 hm
  have := roots_lt _ _ _ (List.of_mem_zip hz).2
  rw [← e]
  exact ⟨by show (0 : Int) ≤ (z.2 : Nat); omega, by show ((z.2 : Nat) : Int) < _; omega⟩
theorem set_second {w : World} {b : Nat} {T : TypeId} {a0 a1 : Value} (h : Blk w b #[a0, a1] T) (v : Value) : Blk (w.setCell ⟨b, 1, none⟩ v) b #[a0, v] T ∧ w.grownBy (w.setCell ⟨b, 1, none⟩ v) (some b) :=
  ⟨heap_setCell_same _ b 1 #[a0, a1] T _ h, ⟨rfl, rfl, rfl, by simp, fun k _ hn => heap_setCell_other w ⟨b, 1, none⟩ k v (fun e => hn (by rw [e]))⟩⟩
theorem rlsOf_len (us : List Ru) : (rlsOf us).length = us.length := by rw [rlsOf, List.length_map, List.length_zip, roots_len, bod_len, Nat.min_self]
theorem join_lo {us vs : List Ru} {N i : Nat} (hi : i < us.length) : (rlsOf (us ++ vs.map (Ru.sh N))).getD i Rl.zero = (rlsOf us).getD i Rl.zero := by
  rw [rlsOf_join, List.getD_eq_getElem?_getD, List.getElem?_append_left (by rw [rlsOf_len]; exact hi), List.getD_eq_getElem?_getD]
theorem join_hi {us vs : List Ru} {N i : Nat} (hi : i < vs.length) : (rlsOf (us ++ vs.map (Ru.sh N))).getD (us.length + i) Rl.zero = ⟨((rlsOf vs).getD i Rl.zero).name, ((rlsOf vs).getD i Rl.zero).body + ((bod us).nodes : Nat)⟩ := by
  rw [rlsOf_join, List.getD_eq_getElem?_getD, List.getElem?_append_right (by rw [rlsOf_len]; omega), rlsOf_len, Nat.add_sub_cancel_left, List.getElem?_map, List.getD_eq_getElem?_getD, List.getElem?_eq_getElem (by rw [rlsOf_len]; exact hi)]
  rfl
theorem rule_cells {l : List Nat} {us : List Ru} {t : Tre} {rb ro : Nat} {w : World} (h : t.At w) (s : t.Says l us) (e : t.g.RA = some ⟨rb, ro, none⟩) {i : Nat} (hi : i < us.length) : w.cell? ⟨rb, ro + i * 2, none⟩ = some (.string ((rlsOf us).getD i Rl.zero).name) ∧ w.cell? ⟨rb, ro + i * 2 + 1, none⟩ = some (.int .i64 ((rlsOf us).getD i Rl.zero).body) := by
  obtain ⟨b, o, e2, _, q1, q2⟩ := h.g.rules.two (i := i) (by rw [s.rlen.1]; exact hi)
  rw [e] at e2
  cases e2
  rw [s.rules] at q1 q2
  exact ⟨q1, q2⟩
set_option maxRecDepth 100000 in
set_option maxHeartbeats 16000000 in
/-- Both texts are read. -/
theorem blanks_ok (s t : ByteArray) (a b : List Nat) (hs : Str s a) (ht : Str t b) (h1 : s.size ≤ 1000) (h2 : t.size ≤ 1000) (k : Int) (hk : -9223372036854775808 ≤ k ∧ k < 9223372036854775808) (N : Nat) (hN : stp a N = true) (hNl : N ≤ a.length) (hNb : ∀ j, j < N → stp a j = false) (ho : ow a N ≠ none) {us : List Ru} {jj : Nat} (htr : trd a N = .ok us jj) (M : Nat) (hM : stp b M = true) (hMl : M ≤ b.length) (hMb : ∀ j, j < M → stp b j = false) (hob : ow b M ≠ none) {vs : List Ru} {jv : Nat} (htv : trd b M = .ok vs jv) (w : World) (hT : Tab w) :
    Calls Tryz.prog 6 #[.string s, .string t, .int .i64 k] w fun e w' => e = .returned (.bool true) ∧ Below w.heap.size w w' := by
  have z1 := hs.size
  have z2 := ht.size
  obtain ⟨j, ej, hj⟩ : ∃ j : Nat, k % 4 = j ∧ j < 4 := ⟨(k % 4).toNat, by omega, by omega⟩
  obtain ⟨gs, x, eg, hgs, hx⟩ := gaps4_at j hj
  have z3 := hgs.size
  have z4 := hx.len
  have AL2 : RowKit.Hid (∀ W, Tab W → Calls Tryz.prog 13 #[.string s] W fun e w' => Below W.heap.size W w' ∧ ∃ g c, e = .returned (.tuple #[.slice (some ⟨g, 0, none⟩) (N + 1) c, .int .i64 0, .int .i64 0]) ∧ w'.ownsRow W.heap.size 45 9 (.slice (some ⟨g, 0, none⟩) (N + 1) c) (N + 1) (wrow a (N + 1))) := Lib.hid (fun W hW => (All_any N s a hs (by omega) hN hNl hNb W hW).mono fun e w' h => by
    obtain ⟨hb, ⟨h2, _⟩ | ⟨v, _, h2, h4⟩⟩ := h
    · exact absurd h2 ho
    · have h5 := h4
      rcases h4.2 with ⟨_, h6⟩ | ⟨g, cap, cur, rfl, _⟩
      · omega
      · exact ⟨hb, g, cap, h2, h5⟩)
  obtain ⟨p1, p2, p3, p4⟩ := spread_same hs.lt hx hN hNb ho
  have LS := Lib.hid (fun k (hk : k ≤ N + 1) => spr_size hs.lt (by omega) z4 hN hNl hNb ho hk)
  have PS := Lib.hid (And.intro p1 (And.intro p2 (And.intro p3 p4)))
  have SP := Lib.hid (spr_lt hs.lt hx.lt (N + 1))
  have HERE := Lib.hid (fun k (hk : k ≤ N) => tkn_here hN hNb ho hk)
  have HA := Lib.hid hs
  have HG := Lib.hid hgs
  have HTT := Lib.hid ht
  have NN := Lib.hid (show N ≤ 1000 ∧ s.size ≤ 1000 ∧ gs.size ≤ 5 ∧ t.size ≤ 1000 by omega)
  have TXA := Lib.hid (fun W hW => text_ok N s a hs (by omega) hN hNl hNb ho htr W hW)
  have TXS := Lib.hid (fun (S : ByteArray) (hS : Str S (spr a x (N + 1))) W hW => text_ok N S _ hS (by have := LS.out (N + 1) (Nat.le_refl _); omega) p1 (bound_spr (s := s) hs.lt hx hN hNb ho) p2 p3 (p4.trans htr) W hW)
  obtain ⟨R, eR⟩ : ∃ R, R = us.length := ⟨_, rfl⟩
  obtain ⟨n1, en1⟩ : ∃ n, n = (bod us).nodes := ⟨_, rfl⟩
  have GE := Lib.hid (fun (t u : Tre) (rb ro rb' ro' : Nat) (W : World) h1 h2 s1 s2 e1 e2 => gram_eq (l := a) (l' := spr a x (N + 1)) (us := us) (t := t) (u := u) (rb := rb) (ro := ro) (rb' := rb') (ro' := ro') (w := W) h1 h2 s1 s2 e1 e2)
  have ER := Lib.hid (And.intro eR en1)
  have GOT := Lib.hid (got hs.lt (by omega) hN hNl hNb ho htr)
  rw [← eR, ← en1] at TXA TXS GE
  have TXB := Lib.hid (fun W hW => text_ok M t b ht (by omega) hM hMl hMb hob htv W hW)
  obtain ⟨J1, J2, J3, J4⟩ := join_read hs.lt ht.lt (by omega) (by omega) hN hNl hNb ho hM hMl hMb hob htr htv
  have hc : Str (s ++ ⟨#[10]⟩ ++ t) (a ++ ([10] ++ b)) := by rw [← List.append_assoc]; exact (hs.append (show Str ⟨#[10]⟩ [10] from rfl)).append ht
  have TXJ := Lib.hid (fun W hW => text_ok (N + M) (s ++ ⟨#[10]⟩ ++ t) (a ++ ([10] ++ b)) hc (by simp; omega) J1 (by simp; omega) J2 J3 J4 W hW)
  obtain ⟨R2, eR2⟩ : ∃ R, R = vs.length := ⟨_, rfl⟩
  obtain ⟨n2, en2⟩ : ∃ n, n = (bod vs).nodes := ⟨_, rfl⟩
  have GOTB := Lib.hid (got ht.lt (by omega) hM hMl hMb hob htv)
  rw [← eR2, ← en2] at TXB
  obtain ⟨R4, eR4⟩ : ∃ R4, R4 = (us ++ vs.map (Ru.sh N)).length := ⟨_, rfl⟩
  obtain ⟨n4, en4⟩ : ∃ n4, n4 = (bod (us ++ vs.map (Ru.sh N))).nodes := ⟨_, rfl⟩
  rw [← eR4, ← en4] at TXJ
  have hR4 : R4 = R + R2 := by rw [eR4, List.length_append, List.length_map, eR, eR2]
  have hn4 : n4 = n1 + n2 := by rw [en4, nodes_join, en1, en2]
  have SZ := Lib.hid (show n1 ≤ 2000 ∧ n2 ≤ 2000 ∧ R ≤ n1 ∧ R2 ≤ n2 by
    have h1 := GOT.out.nodes
    have h2 := GOTB.out.nodes
    have h3 := Fr.len_le (bod us)
    have h4 := Fr.len_le (bod vs)
    rw [bod_len] at h3 h4
    omega)
  have y1 : ¬ 9223372036854775807 < s.size + 1 := by omega
  have y2 : ¬ 9223372036854775807 < s.size + 1 + t.size := by omega
  have y3 : ¬ 9223372036854775807 < (s ++ ⟨#[10]⟩).size + t.size := by rw [ByteArray.size_append]; show ¬ 9223372036854775807 < s.size + 1 + t.size; omega
  have y4 : ¬ 9223372036854775807 < s.size + (⟨#[10]⟩ : ByteArray).size := by show ¬ 9223372036854775807 < s.size + 1; omega
  have y5 : IntKind.i64.wrap ((R : Int) + R2) = R4 := (IntWalk.i64_in _ (by have := SZ.out; omega)).trans (by omega)
  have y6 : IntKind.i64.wrap ((n1 : Int) + n2) = n4 := (IntWalk.i64_in _ (by have := SZ.out; omega)).trans (by omega)
  have E4 := Lib.hid (And.intro hR4 (And.intro hn4 (And.intro eR2 en2)))
  have AW := Lib.hid (awake8_any w hT)
  have TT := Lib.hid hT
  have PK := Lib.hid (fun w => pick8 k 4 hk (by decide) w)
  rw [ej] at PK
  have EG := Lib.hid eg
  have i1 : (s.size : Int) ≤ 1000 := by omega
  have i2 : (t.size : Int) ≤ 1000 := by omega
  have j3 : (j : Int) < 4 := by omega
  clear hs ht hN hNb hNl hT hk ej eg z1 z2 z3 z4 hx hgs h1 h2 hj ho p1 p2 p3 p4 htr hM hMl hMb hob htv J1 J2 J3 J4 hc eR en1 eR2 en2 eR4 en4 hR4 hn4
  go_enter Tryz.func6, Tryz.ntmps6
  go_upto_region 6 with (first | (go_at_call 8; (with_reducible refine AW.out.mono ?_); rintro e w1 ⟨rfl, hb⟩; have HB := Lib.hid hb; have T1 := Lib.hid (TT.out.below hb); clear hb) | (go_at_call 13; (with_reducible refine (AL2.out _ T1.out).mono ?_); rintro e w2 ⟨hb, g, c, rfl, ho⟩; have HB2 := Lib.hid (bb HB.out hb); have T2 := Lib.hid (T1.out.below hb); have OW := Lib.hid ho; clear hb ho))
  obtain ⟨w0, ew0⟩ : ∃ u, u = w2.alloc (.cells gaps4 9) := ⟨_, rfl⟩
  have F0 : RowKit.Hid (Blk w0 w2.heap.size gaps4 9) := Lib.hid (by rw [ew0]; exact Blk.new _ _ _)
  have BB0 : RowKit.Hid (Below w2.heap.size w2 w0) := Lib.hid (by rw [ew0]; exact B1 w2 _)
  have B0 : RowKit.Hid (Below w.heap.size w w0) := Lib.hid (by rw [ew0]; exact bb HB2.out (B1 w2 _))
  have T0 : RowKit.Hid (Tab w0) := Lib.hid (by rw [ew0]; exact T2.out.below (B1 w2 _))
  have ew1 := ew0
  simp only [gaps4] at ew1
  go_wp2_with fail
  rw [← ew1]
  clear ew0 ew1
  refine (PK.out _).mono ?_
  rintro e w3 ⟨rfl, rfl⟩
  have c1 : w0.cell? ⟨w2.heap.size, j, none⟩ = some (.string gs) := by rw [F0.out.cell]; exact EG.out
  have OW0 := Lib.hid (own_below OW.out (show Below w2.heap.size w2 w0 from BB0.out))
  go_upto_region 8 with fail
  go_wp2_with fail
  go_loopw [11, 12] (fun v11 v12 wr => ∃ (i n : Nat) (S : ByteArray), i ≤ N + 1 ∧ v12 = .int .i64 i ∧ v11 = .string S ∧ Str S (spr a x i) ∧ wr = w0.drewN n) (fun _ v12 _ => N + 1 - (intOf v12).toNat)
  case atStart => exact ⟨0, 0, ⟨#[]⟩, Nat.zero_le _, rfl, rfl, rfl, rfl⟩
  case round =>
    obtain ⟨i, n, S, hi, rfl, rfl, hS, rfl⟩ := hrel
    have HS := Lib.hid hS
    clear hS
    have hi2 : i ≤ 1001 := by have := NN.out; omega
    by_cases hlt : i < N + 1
    · have hlt2 : (i : Int) < N + 1 := by omega
      have hlt3 : (i : Int) < ((N + 1 : Nat) : Int) := by omega
      have hy := HERE.out i (by omega)
      have RC := cells_at OW0.out hlt hy
      have r1 := RC 1 (by omega)
      have r2 := RC 2 (by omega)
      simp only [wfull, List.getElem?_toArray, List.getElem?_cons_zero, List.getElem?_cons_succ] at r1 r2
      have hl := wt_len HA.out.lt hy
      have hza := HA.out.size
      have hS1 := HS.out.size
      have hS2 := LS.out i (by omega)
      have hNN := NN.out
      obtain ⟨p, ep⟩ : ∃ p, p = beg a i := ⟨_, rfl⟩
      obtain ⟨q, eq⟩ : ∃ q, q = beg a i + (tkn a i).len := ⟨_, rfl⟩
      rw [← ep] at r1
      rw [← eq] at r2
      have HW : RowKit.Hid (Str (s.extract p q) (wt a i)) := Lib.hid (by
        have := HA.out.extract p q
        rw [ep, eq, Nat.add_sub_cancel_left] at this
        rw [ep, eq]
        exact this)
      have g1 : ¬ (q : Int) < p := by omega
      have g2 : ¬ (s.size : Int) < q := by omega
      have g3 : ¬ 9223372036854775807 < S.size + gs.size := by omega
      have g4 : ¬ 9223372036854775807 < (S ++ gs).size + (s.extract p q).size := by rw [ByteArray.size_append, ByteArray.size_extract]; omega
      have g5 : ¬ 9223372036854775807 < S.size + gs.size + (s.extract p q).size := by rw [ByteArray.size_extract]; omega
      have g6 : (0 : Int) ≤ p := by omega
      have g7 : (p : Int) ≤ q := by omega
      have g8 : (q : Int) ≤ s.size := by omega
      have SX : RowKit.Hid (Str (S ++ gs ++ s.extract p q) (spr a x (i + 1))) := Lib.hid (by
        have := (HS.out.append HG.out).append HW.out
        rw [List.append_assoc] at this
        exact this)
      clear RC hy hl hza hS1 hS2 hNN ep eq
      go_wp2_with fail
      go_quiet (fail)
      go_wp2_with fail
      go_roundw
      case rel => exact ⟨i + 1, n + nq, _, by omega, by go_num, rfl, SX.out, by first | rfl | exact World.drewN_drewN _ _ _⟩
      case measure => first | (simp [intOf]; done) | (simp [intOf]; omega)
    · have hlt2 : ¬ (i : Int) < N + 1 := by omega
      have hlt3 : ¬ (i : Int) < ((N + 1 : Nat) : Int) := by omega
      obtain rfl : i = N + 1 := by omega
      have ls : S.size < 16384 := by have := HS.out.size; have := LS.out (N + 1) (Nat.le_refl _); omega
      have ls2 : (S.size : Int) < 16384 := by omega
      obtain ⟨wa, ewa⟩ : ∃ u, u = w0.drewN n := ⟨_, rfl⟩
      have BA : RowKit.Hid (Below w.heap.size w wa) := Lib.hid (by rw [ewa]; exact bdrew B0.out)
      have TA : RowKit.Hid (Tab wa) := Lib.hid (by rw [ewa]; exact T0.out.below (bdrew (Below.refl _ _)))
      rw [← ewa]
      clear ewa hi hlt

      have TXS2 := Lib.hid (TXS.out S HS.out)
      go_upto_region 13 with (first | (go_at_call 11; (with_reducible refine (TXA.out _ TA.out).mono ?_); rintro e wt1 ⟨hb1, tr1, r1b, r1o, rfl, er1, ha1, hs1⟩; have HT1 := Lib.hid hb1; have RA1 := Lib.hid er1; have AT1 := Lib.hid ha1; have SY1 := Lib.hid hs1; clear er1 ha1 hs1; have BT1 := Lib.hid (bb BA.out hb1); have TB1 := Lib.hid (TA.out.below hb1); clear hb1) | (refine wpList_store_whole rfl 31 (.tmp 13) (.tmp 71) rfl wt1.heap.size #[.slice (some ⟨r1b, r1o, none⟩) R tr1.g.rc, .slice tr1.g.NA n1 tr1.g.nc, .slice tr1.PA R tr1.pc, .slice tr1.QA n1 tr1.qc, .slice tr1.MA n1 tr1.mc] rfl rfl 31 _ (two_blks wt1).1 (by kernel_rfl) (by rfl) (by simp [Value.oneCell']) ?_; intro wu1 hk2 hg2; have K2 := Lib.hid hk2; have G2 := Lib.hid hg2; have D2 := Lib.hid ((two_blks wt1).2.grown hg2 (by simp)); clear hk2 hg2) | (refine wpList_store_whole rfl 34 (.tmp 14) (.tmp 72) rfl (wt1.heap.size + 1) #[.int .i64 0, .int .i64 0] rfl rfl 34 _ D2.out (by kernel_rfl) (by rfl) (by simp [Value.oneCell']) ?_; intro wv1 hk3 hg3; have H1 := Lib.hid (pair_set BT1.out BT1.out.size G2.out K2.out hg3 hk3); clear hk3 hg3))
      clear K2 G2 D2
      have TV1 := Lib.hid (TB1.out.below H1.out.2.1)
      have S1 : RowKit.Hid (wt1.heap.size + 1 < wv1.heap.size) := Lib.hid H1.out.2.2.2.lt
      have HV1 := Lib.hid H1.out.1
      go_upto_region 15 with (first | (go_at_call 11; (with_reducible refine (TXS2.out _ TV1.out).mono ?_); rintro e wt2 ⟨hb2, tr2, r2b, r2o, rfl, er2, ha2, hs2⟩; have HT2 := Lib.hid hb2; have RA2 := Lib.hid er2; have AT2 := Lib.hid ha2; have SY2 := Lib.hid hs2; clear er2 ha2 hs2; have BT2 := Lib.hid (bb HV1.out hb2); have TB2 := Lib.hid (TV1.out.below hb2); clear hb2) | (refine wpList_store_whole rfl 31 (.tmp 15) (.tmp 83) rfl wt2.heap.size #[.slice (some ⟨r2b, r2o, none⟩) R tr2.g.rc, .slice tr2.g.NA n1 tr2.g.nc, .slice tr2.PA R tr2.pc, .slice tr2.QA n1 tr2.qc, .slice tr2.MA n1 tr2.mc] rfl rfl 31 _ (two_blks wt2).1 (by kernel_rfl) (by rfl) (by simp [Value.oneCell']) ?_; intro wu2 hk2 hg2; have K2 := Lib.hid hk2; have G2 := Lib.hid hg2; have D2 := Lib.hid ((two_blks wt2).2.grown hg2 (by simp)); clear hk2 hg2) | (refine wpList_store_whole rfl 34 (.tmp 16) (.tmp 84) rfl (wt2.heap.size + 1) #[.int .i64 0, .int .i64 0] rfl rfl 34 _ D2.out (by kernel_rfl) (by rfl) (by simp [Value.oneCell']) ?_; intro wv2 hk3 hg3; have H2 := Lib.hid (pair_set BT2.out BT2.out.size G2.out K2.out hg3 hk3); clear hk3 hg3))
      clear K2 G2 D2
      have TV2 := Lib.hid (TB2.out.below H2.out.2.1)
      have S2 : RowKit.Hid (wt2.heap.size + 1 < wv2.heap.size) := Lib.hid H2.out.2.2.2.lt
      have X12 := Lib.hid (HT2.out.trans (H2.out.2.1.mono HT2.out.size))
      have AV1 := Lib.hid ((AT1.out.below H1.out.2.1).below X12.out)
      have AV2 := Lib.hid (AT2.out.below H2.out.2.1)
      have c0 : wv2.cell? ⟨wt1.heap.size + 1, 0, none⟩ = some (.int .i64 0) := (H1.out.2.2.2.below X12.out (by have := S1.out; omega)).cell 0
      have c1 : wv2.cell? ⟨wt2.heap.size + 1, 0, none⟩ = some (.int .i64 0) := H2.out.2.2.2.cell 0
      have c2 : wv2.cell? ⟨wt1.heap.size, 0, none⟩ = some (.slice (some ⟨r1b, r1o, none⟩) R tr1.g.rc) := (H1.out.2.2.1.below X12.out (by have := S1.out; omega)).cell 0
      have c3 : wv2.cell? ⟨wt1.heap.size, 1, none⟩ = some (.slice tr1.g.NA n1 tr1.g.nc) := (H1.out.2.2.1.below X12.out (by have := S1.out; omega)).cell 1
      have c4 : wv2.cell? ⟨wt2.heap.size, 0, none⟩ = some (.slice (some ⟨r2b, r2o, none⟩) R tr2.g.rc) := H2.out.2.2.1.cell 0
      have c5 : wv2.cell? ⟨wt2.heap.size, 1, none⟩ = some (.slice tr2.g.NA n1 tr2.g.nc) := H2.out.2.2.1.cell 1
      have GE2 := Lib.hid (GE.out tr1 tr2 r1b r1o r2b r2o wv2 AV1.out AV2.out SY1.out SY2.out RA1.out RA2.out)
      go_wp2_with fail
      with_reducible refine GE2.out.mono ?_
      rintro e wg ⟨rfl, hb⟩
      have HV3 := Lib.hid (bb H2.out.1 hb)
      have TV3 := Lib.hid (TV2.out.below hb)
      have X3 := Lib.hid hb
      have X1g := Lib.hid (X12.out.trans (hb.mono X12.out.size))
      clear hb c0 c1 c2 c3 c4 c5 GE2
      go_upto_region 18 with (first | (go_at_call 11; (with_reducible refine (TXB.out _ TV3.out).mono ?_); rintro e wt3 ⟨hb3, tr3, r3b, r3o, rfl, er3, ha3, hs3⟩; have HT3 := Lib.hid hb3; have RA3 := Lib.hid er3; have AT3 := Lib.hid ha3; have SY3 := Lib.hid hs3; clear er3 ha3 hs3; have BT3 := Lib.hid (bb HV3.out hb3); have TB3 := Lib.hid (TV3.out.below hb3); clear hb3) | (refine wpList_store_whole rfl 31 (.tmp 17) (.tmp 101) rfl wt3.heap.size #[.slice (some ⟨r3b, r3o, none⟩) R2 tr3.g.rc, .slice tr3.g.NA n2 tr3.g.nc, .slice tr3.PA R2 tr3.pc, .slice tr3.QA n2 tr3.qc, .slice tr3.MA n2 tr3.mc] rfl rfl 31 _ (two_blks wt3).1 (by kernel_rfl) (by rfl) (by simp [Value.oneCell']) ?_; intro wu3 hk2 hg2; have K2 := Lib.hid hk2; have G2 := Lib.hid hg2; have D2 := Lib.hid ((two_blks wt3).2.grown hg2 (by simp)); clear hk2 hg2) | (refine wpList_store_whole rfl 34 (.tmp 18) (.tmp 102) rfl (wt3.heap.size + 1) #[.int .i64 0, .int .i64 0] rfl rfl 34 _ D2.out (by kernel_rfl) (by rfl) (by simp [Value.oneCell']) ?_; intro wv3 hk3 hg3; have H3 := Lib.hid (pair_set BT3.out BT3.out.size G2.out K2.out hg3 hk3); clear hk3 hg3))
      clear K2 G2 D2
      have TV3 := Lib.hid (TB3.out.below H3.out.2.1)
      have S3 : RowKit.Hid (wt3.heap.size + 1 < wv3.heap.size) := Lib.hid H3.out.2.2.2.lt
      have X13 := Lib.hid (X1g.out.trans ((HT3.out.trans (H3.out.2.1.mono HT3.out.size)).mono X1g.out.size))
      have HV4 := Lib.hid H3.out.1
      have c0 : wv3.cell? ⟨wt1.heap.size + 1, 0, none⟩ = some (.int .i64 0) := (H1.out.2.2.2.below X13.out (by have := S1.out; omega)).cell 0
      have c1 : wv3.cell? ⟨wt3.heap.size + 1, 0, none⟩ = some (.int .i64 0) := H3.out.2.2.2.cell 0
      go_upto_region 21 with (first | (go_at_call 11; (with_reducible refine (TXJ.out _ TV3.out).mono ?_); rintro e wt4 ⟨hb4, tr4, r4b, r4o, rfl, er4, ha4, hs4⟩; have HT4 := Lib.hid hb4; have RA4 := Lib.hid er4; have AT4 := Lib.hid ha4; have SY4 := Lib.hid hs4; clear er4 ha4 hs4; have BT4 := Lib.hid (bb HV4.out hb4); have TB4 := Lib.hid (TV3.out.below hb4); clear hb4) | (refine wpList_store_whole rfl 31 (.tmp 19) (.tmp 117) rfl wt4.heap.size #[.slice (some ⟨r4b, r4o, none⟩) R4 tr4.g.rc, .slice tr4.g.NA n4 tr4.g.nc, .slice tr4.PA R4 tr4.pc, .slice tr4.QA n4 tr4.qc, .slice tr4.MA n4 tr4.mc] rfl rfl 31 _ (two_blks wt4).1 (by kernel_rfl) (by rfl) (by simp [Value.oneCell']) ?_; intro wu4 hk2 hg2; have K2 := Lib.hid hk2; have G2 := Lib.hid hg2; have D2 := Lib.hid ((two_blks wt4).2.grown hg2 (by simp)); clear hk2 hg2) | (refine wpList_store_whole rfl 34 (.tmp 20) (.tmp 118) rfl (wt4.heap.size + 1) #[.int .i64 0, .int .i64 0] rfl rfl 34 _ D2.out (by kernel_rfl) (by rfl) (by simp [Value.oneCell']) ?_; intro wv4 hk3 hg3; have H4 := Lib.hid (pair_set BT4.out BT4.out.size G2.out K2.out hg3 hk3); clear hk3 hg3))
      clear K2 G2 D2 c0 c1
      have TV4 := Lib.hid (TB4.out.below H4.out.2.1)
      have S4 : RowKit.Hid (wt4.heap.size + 1 < wv4.heap.size) := Lib.hid H4.out.2.2.2.lt
      have X34 := Lib.hid (HT4.out.trans (H4.out.2.1.mono HT4.out.size))
      have X14 := Lib.hid (X13.out.trans (X34.out.mono X13.out.size))
      have b1 := Lib.hid (H1.out.2.2.1.below X14.out (by have := S1.out; omega))
      have b3 := Lib.hid (H3.out.2.2.1.below X34.out (by have := S3.out; omega))
      have AV1' := Lib.hid ((AT1.out.below H1.out.2.1).below X14.out)
      have AV3 := Lib.hid ((AT3.out.below H3.out.2.1).below X34.out)
      have AV4 := Lib.hid (AT4.out.below H4.out.2.1)
      have CEL : RowKit.Hid (∀ W, Below wv4.heap.size wv4 W → (W.cell? ⟨wt1.heap.size, 0, none⟩ = some (.slice (some ⟨r1b, r1o, none⟩) R tr1.g.rc) ∧ W.cell? ⟨wt1.heap.size, 1, none⟩ = some (.slice tr1.g.NA n1 tr1.g.nc) ∧ W.cell? ⟨wt3.heap.size, 0, none⟩ = some (.slice (some ⟨r3b, r3o, none⟩) R2 tr3.g.rc) ∧ W.cell? ⟨wt3.heap.size, 1, none⟩ = some (.slice tr3.g.NA n2 tr3.g.nc) ∧ W.cell? ⟨wt4.heap.size, 0, none⟩ = some (.slice (some ⟨r4b, r4o, none⟩) R4 tr4.g.rc) ∧ W.cell? ⟨wt4.heap.size, 1, none⟩ = some (.slice tr4.g.NA n4 tr4.g.nc) ∧ W.cell? ⟨wt4.heap.size + 1, 0, none⟩ = some (.int .i64 0))) := Lib.hid (fun W hW => by
        have a1 := b1.out.below' hW
        have a3 := b3.out.below' hW
        have a4 := H4.out.2.2.1.below' hW
        have a5 := H4.out.2.2.2.below' hW
        exact ⟨a1.cell 0, a1.cell 1, a3.cell 0, a3.cell 1, a4.cell 0, a4.cell 1, a5.cell 0⟩)
      obtain ⟨q1, q2, q3, q4, q5, q6, q7⟩ := CEL.out _ (Below.refl _ _)
      go_quiet (fail)
      clear q1 q2 q3 q4 q5 q6 q7
      obtain ⟨w5, e5⟩ : ∃ u, u = wv4.drewN nq := ⟨_, rfl⟩
      have B5 : RowKit.Hid (Below wv4.heap.size wv4 w5) := Lib.hid (by rw [e5]; exact bdrew (Below.refl _ _))
      simp only [← e5]
      clear e5
      obtain ⟨q1, q2, q3, q4, q5, q6, q7⟩ := CEL.out _ B5.out
      go_wp2_with fail
      clear q1 q2 q3 q4 q5 q6 q7
      go_loopw [23, 24] (fun v23 _ wr => ∃ i : Nat, i ≤ R4 ∧ v23 = .int .i64 i ∧ Below wv4.heap.size wv4 wr) (fun v23 _ _ => R4 - (intOf v23).toNat)
      case atStart => exact ⟨0, Nat.zero_le _, rfl, B5.out⟩
      case round =>
        obtain ⟨i, hi, rfl, hbr⟩ := hrel
        have BR := Lib.hid hbr
        obtain ⟨q1, q2, q3, q4, q5, q6, q7⟩ := CEL.out _ hbr
        clear hbr
        by_cases hlt : i < R4
        · have hlt2 : (i : Int) < R4 := by omega
          have hi4 : i < 4001 := by have := SZ.out; have := E4.out.1; omega
          by_cases hlo : i < R
          · have hlo2 : (i : Int) < R := by omega
            have hlU : i < us.length := by have := ER.out.1; omega
            obtain ⟨z1, z2⟩ := rule_cells (AV1'.out.below BR.out) SY1.out RA1.out hlU
            have JL := Lib.hid (join_lo (us := us) (vs := vs) (N := N) hlU)
            have hl4 : i < (us ++ vs.map (Ru.sh N)).length := by rw [List.length_append]; omega
            obtain ⟨X, eX⟩ : ∃ X, X = ((rlsOf us).getD i Rl.zero).name := ⟨_, rfl⟩
            obtain ⟨Bd, eB⟩ : ∃ Bd, Bd = ((rlsOf us).getD i Rl.zero).body := ⟨_, rfl⟩
            rw [← eX] at z1
            rw [← eB] at z2
            have V4 : RowKit.Hid (∀ W, Below wv4.heap.size wv4 W → W.cell? ⟨r4b, r4o + i * 2, none⟩ = some (.string X) ∧ W.cell? ⟨r4b, r4o + i * 2 + 1, none⟩ = some (.int .i64 Bd)) := Lib.hid (fun W hW => by
              have := rule_cells (AV4.out.below hW) SY4.out RA4.out hl4
              rw [JL.out, ← eX, ← eB] at this
              exact this)
            have EQ : ∀ w', (Op.equalIn 10000 49 (.agg #[.string X, .int .i64 Bd]) (.agg #[.string X, .int .i64 Bd])).run Tryz.prog w' = .ok true w' := fun w' => by rw [eqRule]; simp
            clear eX eB hlU hl4
            go_upto_region 28 with fail
            obtain ⟨w8, e8⟩ : ∃ u, u = wr.alloc (.cells #[.string ⟨#[]⟩, .int .i64 0] 49) := ⟨_, rfl⟩
            have K8 : RowKit.Hid (Blk w8 wr.heap.size #[.string ⟨#[]⟩, .int .i64 0] 49) := Lib.hid (by rw [e8]; exact Blk.new _ _ _)
            have B8 : RowKit.Hid (Below wv4.heap.size wv4 w8) := Lib.hid (by rw [e8]; exact BR.out.alloc BR.out.size _)
            have B88 : RowKit.Hid (Below wr.heap.size wr w8) := Lib.hid (by rw [e8]; exact B1 _ _)
            rw [← e8]
            clear e8 q1 q2 q3 q4 q5 q6 q7
            obtain ⟨q1, q2, q3, q4, q5, q6, q7⟩ := CEL.out _ B8.out
            have z3 := (B88.out.cell (p := ⟨r1b, r1o + i * 2, none⟩) (World.block_lt_of_cell? _ _ z1)).trans z1
            have z4 := (B88.out.cell (p := ⟨r1b, r1o + i * 2 + 1, none⟩) (World.block_lt_of_cell? _ _ z2)).trans z2
            clear z1 z2
            go_upto_region 32 with (refine wpList_store_whole rfl 49 (.tmp 24) (.tmp 173) rfl wr.heap.size #[.string X, .int .i64 Bd] rfl rfl 49 _ K8.out (by kernel_rfl) (by rfl) (by simp [Value.oneCell']) ?_; intro wz hk9 hg9; have K9 := Lib.hid hk9; have B9 := Lib.hid (below_new B8.out B8.out.size hg9 BR.out.size); clear hk9 hg9)
            clear q1 q2 q3 q4 q5 q6 q7 z3 z4
            have KZ := K9
            have BZ := B9
            obtain ⟨q1, q2, q3, q4, q5, q6, q7⟩ := CEL.out _ BZ.out
            obtain ⟨v1, v2⟩ := V4.out _ BZ.out
            have k0 := KZ.out.cell 0
            have k1 := KZ.out.cell 1
            simp only [List.getElem?_toArray, List.getElem?_cons_zero, List.getElem?_cons_succ] at k0 k1
            go_quiet (fail)
            go_wp2_with fail
            go_roundw
            case rel => exact ⟨i + 1, by omega, by go_num, by first | exact BZ.out | exact bdrew BZ.out⟩
            case measure => first | (simp [intOf]; done) | (simp [intOf]; omega)
          · obtain ⟨i2, ei2⟩ : ∃ i2, i = R + i2 := ⟨i - R, by omega⟩
            have hlo2 : ¬ (i : Int) < R := by omega
            have hlV : i2 < vs.length := by have := E4.out; omega
            have hi22 : (i2 : Int) < R2 := by have := E4.out; omega
            obtain ⟨z1, z2⟩ := rule_cells (AV3.out.below BR.out) SY3.out RA3.out hlV
            have JL := Lib.hid (join_hi (us := us) (vs := vs) (N := N) hlV)
            have hl4 : us.length + i2 < (us ++ vs.map (Ru.sh N)).length := by rw [List.length_append, List.length_map]; omega
            have hbd := rlsOf_body hlV
            obtain ⟨X, eX⟩ : ∃ X, X = ((rlsOf vs).getD i2 Rl.zero).name := ⟨_, rfl⟩
            obtain ⟨Bd, eB⟩ : ∃ Bd, Bd = ((rlsOf vs).getD i2 Rl.zero).body := ⟨_, rfl⟩
            rw [← eX] at z1
            rw [← eB] at z2 hbd
            obtain ⟨B4, eB4⟩ : ∃ B4 : Int, B4 = Bd + n1 := ⟨_, rfl⟩
            have wB : IntKind.i64.wrap (Bd + n1) = B4 := (IntWalk.i64_in _ (by have := SZ.out; have := E4.out; omega)).trans eB4.symm
            have V4 : RowKit.Hid (∀ W, Below wv4.heap.size wv4 W → W.cell? ⟨r4b, r4o + i * 2, none⟩ = some (.string X) ∧ W.cell? ⟨r4b, r4o + i * 2 + 1, none⟩ = some (.int .i64 B4)) := Lib.hid (fun W hW => by
              have := rule_cells (AV4.out.below hW) SY4.out RA4.out hl4
              rw [JL.out, ← eX, ← eB, ← ER.out.1, ← ER.out.2, ← ei2, ← eB4] at this
              exact this)
            have wI : IntKind.i64.wrap ((i : Int) - R) = i2 := (IntWalk.i64_in _ (by omega)).trans (by omega)
            have EQ : ∀ w', (Op.equalIn 10000 49 (.agg #[.string X, .int .i64 B4]) (.agg #[.string X, .int .i64 B4])).run Tryz.prog w' = .ok true w' := fun w' => by rw [eqRule]; simp
            clear eX eB eB4 hlV hl4 hbd ei2
            go_upto_region 28 with fail
            obtain ⟨w8, e8⟩ : ∃ u, u = wr.alloc (.cells #[.string ⟨#[]⟩, .int .i64 0] 49) := ⟨_, rfl⟩
            have K8 : RowKit.Hid (Blk w8 wr.heap.size #[.string ⟨#[]⟩, .int .i64 0] 49) := Lib.hid (by rw [e8]; exact Blk.new _ _ _)
            have B8 : RowKit.Hid (Below wv4.heap.size wv4 w8) := Lib.hid (by rw [e8]; exact BR.out.alloc BR.out.size _)
            have B88 : RowKit.Hid (Below wr.heap.size wr w8) := Lib.hid (by rw [e8]; exact B1 _ _)
            rw [← e8]
            clear e8 q1 q2 q3 q4 q5 q6 q7
            obtain ⟨q1, q2, q3, q4, q5, q6, q7⟩ := CEL.out _ B8.out
            have z3 := (B88.out.cell (p := ⟨r3b, r3o + i2 * 2, none⟩) (World.block_lt_of_cell? _ _ z1)).trans z1
            have z4 := (B88.out.cell (p := ⟨r3b, r3o + i2 * 2 + 1, none⟩) (World.block_lt_of_cell? _ _ z2)).trans z2
            clear z1 z2
            go_upto_region 31 with (refine wpList_store_whole rfl 49 (.tmp 24) (.tmp 181) rfl wr.heap.size #[.string X, .int .i64 Bd] rfl rfl 49 _ K8.out (by kernel_rfl) (by rfl) (by simp [Value.oneCell']) ?_; intro wz hk9 hg9; have K9 := Lib.hid hk9; have B9 := Lib.hid (below_new B8.out B8.out.size hg9 BR.out.size); clear hk9 hg9)
            clear q1 q2 q3 q4 q5 q6 q7 z3 z4
            have m0 : wz.cell? ⟨wr.heap.size, 1, none⟩ = some (.int .i64 Bd) := K9.out.cell 1
            have m1 : wz.frozen? ⟨wr.heap.size, 1, none⟩ = false := K9.out.frozen 1
            go_upto_region 32 with fail
            obtain ⟨wy, ey⟩ : ∃ u, u = wz.setCell ⟨wr.heap.size, 1, none⟩ (.int .i64 B4) := ⟨_, rfl⟩
            have ST := Lib.hid (set_second K9.out (.int .i64 B4))
            rw [← ey] at ST ⊢
            have KZ := Lib.hid ST.out.1
            have BZ := Lib.hid (below_new B9.out B9.out.size ST.out.2 BR.out.size)
            clear ey m0 m1
            obtain ⟨q1, q2, q3, q4, q5, q6, q7⟩ := CEL.out _ BZ.out
            obtain ⟨v1, v2⟩ := V4.out _ BZ.out
            have k0 := KZ.out.cell 0
            have k1 := KZ.out.cell 1
            simp only [List.getElem?_toArray, List.getElem?_cons_zero, List.getElem?_cons_succ] at k0 k1
            go_quiet (fail)
            go_wp2_with fail
            go_roundw
            case rel => exact ⟨i + 1, by omega, by go_num, by first | exact BZ.out | exact bdrew BZ.out⟩
            case measure => first | (simp [intOf]; done) | (simp [intOf]; omega)
        · have hlt2 : ¬ (i : Int) < R4 := by omega
          go_wp2_with fail
          go_ret
          exact ⟨rfl, H4.out.1.trans (BR.out.mono H4.out.1.size)⟩
end Go.Proofs.YtphdplommmkncaaGreatDoor

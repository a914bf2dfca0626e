/- The law ReadPreorder, walked: a text that is read. -/
import Derived.Test.YtphdplommmkncaaGreatDoorH2
set_option linter.unusedSimpArgs false
set_option linter.unusedVariables false
namespace Go.Proofs.YtphdplommmkncaaGreatDoor
open Go Go.RowKit
set_option maxRecDepth 100000 in
set_option maxHeartbeats 16000000 in
theorem pre_yes (N : Nat) (s : ByteArray) (l : List Nat) (hs : Str s l) (hz : s.size ≤ 2000) (hN : stp l N = true) (hNl : N ≤ l.length) (hNb : ∀ j, j < N → stp l j = false) (ho : ow l N ≠ none) {us : List Ru} {j : Nat} (ht : trd l N = .ok us j) (w : World) (hT : Tab w) :
    Calls Tryz.prog 5 #[.string s] w fun e w' => e = .returned (.bool true) ∧ Below w.heap.size w w' := by
  have hsz := hs.size
  have AW := Lib.hid (awake8_any w hT)
  have TT := Lib.hid hT
  have TX2 := Lib.hid (fun W hW => text_yes N s l hs (by omega) hN hNl hNb ho ht W hW)
  have GT := Lib.hid (got hs.lt (by omega) hN hNl hNb ho ht)
  have SH := Lib.hid hs
  have NB := Lib.hid hNb
  have HERE := Lib.hid (fun k (hk : k ≤ N) => tkn_here hN hNb ho hk)
  have ZZ := Lib.hid (And.intro hsz (And.intro hz hNl))
  obtain ⟨n, en⟩ : ∃ n, n = (bod us).nodes := ⟨_, rfl⟩
  obtain ⟨R, eR⟩ : ∃ R, R = us.length := ⟨_, rfl⟩
  have EN := Lib.hid en
  have ER := Lib.hid eR
  rw [← en, ← eR] at TX2
  have hn4 : n ≤ 4000 := by have := GT.out.nodes; omega
  have hR1 : 0 < R := by rw [eR]; exact List.length_pos_iff.2 GT.out.ne
  have hRn : R ≤ n := by rw [eR, en, ← bod_len]; exact Fr.len_le _
  have NN := Lib.hid (And.intro hn4 (And.intro hR1 hRn))
  have h3 : ¬ (2000 : Int) < s.size := by omega
  have h4 : ((R : Int) == 0) = false := by simp; omega
  have h5 : ¬ (R : Int) = 0 := by omega
  obtain ⟨z0, ez0⟩ : ∃ z0 : Int, z0 = n - 1 := ⟨_, rfl⟩
  have hz0 : IntKind.i64.wrap ((n : Int) - 1) = z0 := (IntWalk.i64_in _ (by omega)).trans ez0.symm
  have EZ := Lib.hid ez0
  clear hT hs hz hN hNl hNb ho ht hsz en eR hn4 hR1 hRn ez0
  go_enter Tryz.func5, Tryz.ntmps5
  go_upto_region 6 with (first | (go_at_call 8; (with_reducible refine AW.out.mono ?_); rintro e w1 ⟨rfl, hb⟩; have HB := Lib.hid hb; have T1 := Lib.hid (TT.out.below hb); clear hb) | (go_at_call 11; (with_reducible refine (TX2.out _ T1.out).mono ?_); rintro e w2 ⟨hb, rb, ro, rc, nb, nno, nc, pb, po, pc, qb, qo, qc, mb, mo, mc, rfl, hpm⟩; have HB2 := Lib.hid (bb HB.out hb); have T2 := Lib.hid (T1.out.below hb); have PM := Lib.hid hpm; clear hb hpm) | (refine wpList_store_whole rfl 31 (.tmp 3) (.tmp 25) rfl w2.heap.size #[.slice (some ⟨rb, ro, none⟩) R rc, .slice (some ⟨nb, nno, none⟩) n nc, .slice (some ⟨pb, po, none⟩) R pc, .slice (some ⟨qb, qo, none⟩) n qc, .slice (some ⟨mb, mo, none⟩) n mc] rfl rfl 31 _ (two_blks w2).1 (by kernel_rfl) (by rfl) (by simp [Value.oneCell']) ?_; intro w3 hk2 hg2; have K2 := Lib.hid hk2; have G2 := Lib.hid hg2; have D2 := Lib.hid ((two_blks w2).2.grown hg2 (by simp)); clear hk2 hg2) | (refine wpList_store_whole rfl 34 (.tmp 4) (.tmp 26) rfl (w2.heap.size + 1) d2z rfl rfl 34 _ D2.out (by kernel_rfl) (by rfl) (by simp [Value.oneCell']) ?_; intro w4 hk3 hg3; have H4 := Lib.hid (pair_set HB2.out HB2.out.size G2.out K2.out hg3 hk3); clear hk3 hg3))
  clear K2 G2 D2
  have f0 : w4.cell? ⟨w2.heap.size, 0, none⟩ = some (.slice (some ⟨rb, ro, none⟩) R rc) := H4.out.2.2.1.cell 0
  have f1 : w4.cell? ⟨w2.heap.size, 1, none⟩ = some (.slice (some ⟨nb, nno, none⟩) n nc) := H4.out.2.2.1.cell 1
  go_upto_region 7 with fail
  obtain ⟨w5, e5⟩ : ∃ u, u = w4.alloc (.cells #[.slice (some ⟨rb, ro, none⟩) R rc, .slice (some ⟨nb, nno, none⟩) n nc] 28) := ⟨_, rfl⟩
  have E5 : RowKit.Hid (Below w4.heap.size w4 w5 ∧ Blk w5 w4.heap.size #[.slice (some ⟨rb, ro, none⟩) R rc, .slice (some ⟨nb, nno, none⟩) n nc] 28) := Lib.hid (by rw [e5]; exact ⟨B1 _ _, Blk.new _ _ _⟩)
  rw [← e5]
  clear e5 f0 f1
  have H5 := Lib.hid (And.intro (H4.out.2.2.1.below' E5.out.1) (H4.out.2.2.2.below' E5.out.1))
  have HB5 := Lib.hid (bb H4.out.1 (E5.out.1))
  have T5 := Lib.hid ((T2.out.below H4.out.2.1).below E5.out.1)
  have PM5 := Lib.hid ((PM.out.below H4.out.2.1).below E5.out.1)
  have q0 : w5.cell? ⟨w2.heap.size, 0, none⟩ = some (.slice (some ⟨rb, ro, none⟩) R rc) := H5.out.1.cell 0
  have q1 : w5.cell? ⟨w2.heap.size, 1, none⟩ = some (.slice (some ⟨nb, nno, none⟩) n nc) := H5.out.1.cell 1
  have q2 : w5.cell? ⟨w2.heap.size, 2, none⟩ = some (.slice (some ⟨pb, po, none⟩) R pc) := H5.out.1.cell 2
  have q3 : w5.cell? ⟨w2.heap.size, 3, none⟩ = some (.slice (some ⟨qb, qo, none⟩) n qc) := H5.out.1.cell 3
  have q4 : w5.cell? ⟨w2.heap.size, 4, none⟩ = some (.slice (some ⟨mb, mo, none⟩) n mc) := H5.out.1.cell 4
  have q5 : w5.cell? ⟨w2.heap.size + 1, 0, none⟩ = some (.int .i64 0) := H5.out.2.cell 0
  have q6 : w5.cell? ⟨w2.heap.size + 1, 1, none⟩ = some (.int .i64 0) := H5.out.2.cell 1
  have q7 : w5.cell? ⟨w4.heap.size, 0, none⟩ = some (.slice (some ⟨rb, ro, none⟩) R rc) := E5.out.2.cell 0
  have q8 : w5.cell? ⟨w4.heap.size, 1, none⟩ = some (.slice (some ⟨nb, nno, none⟩) n nc) := E5.out.2.cell 1
  clear PM H4 TX2 AW TT HB T1 T2 HB2
  obtain ⟨iI, hiI, eI⟩ := Option.map_eq_some_iff.1 Tryz.infoInt3
  simp only [Prod.mk.injEq] at eI
  obtain ⟨w6, hmk, hown, hgr⟩ := run_make_full (P := Tryz.prog) w5 w5.heap.size 29 3 iI (.int .i64 0) 1 Tryz.underlying29 hiI eI.1 eI.2.1 .i64 .i64 n (by rw [eI.2.2]; have := NN.out; omega) (by have := NN.out; unfold maxLen; omega) (Nat.le_refl _)
  have O6 : RowKit.Hid (w6.ownsRow w5.heap.size 3 1 (.slice (some ⟨w5.heap.size, 0, none⟩) n n) n (ints (List.replicate n 0))) := Lib.hid (by
    have e : (madeCells (Value.int .i64 0).cells (n * 1)).toList = ints (List.replicate n 0) := by
      show (madeCells #[.int .i64 0] (n * 1)).toList = _
      rw [toList_madeCells_one, Nat.mul_one]
      simp [ints]
    rw [e] at hown
    exact hown)
  have B6 : RowKit.Hid (Below w5.heap.size w5 w6) := Lib.hid ((Below.refl _ _).grown hgr (Nat.le_refl _) (fun k hk => by cases hk))
  clear hown hgr eI hiI
  go_upto_region 12 with fail
  clear hmk q0 q1 q2 q3 q4 q5 q6 q7 q8
  have CEL : RowKit.Hid (∀ W, Below w5.heap.size w5 W → (W.cell? ⟨w2.heap.size, 0, none⟩ = some (.slice (some ⟨rb, ro, none⟩) R rc) ∧ W.cell? ⟨w2.heap.size, 1, none⟩ = some (.slice (some ⟨nb, nno, none⟩) n nc) ∧ W.cell? ⟨w2.heap.size, 2, none⟩ = some (.slice (some ⟨pb, po, none⟩) R pc) ∧ W.cell? ⟨w2.heap.size, 3, none⟩ = some (.slice (some ⟨qb, qo, none⟩) n qc) ∧ W.cell? ⟨w2.heap.size, 4, none⟩ = some (.slice (some ⟨mb, mo, none⟩) n mc) ∧ W.cell? ⟨w4.heap.size, 0, none⟩ = some (.slice (some ⟨rb, ro, none⟩) R rc) ∧ W.cell? ⟨w4.heap.size, 1, none⟩ = some (.slice (some ⟨nb, nno, none⟩) n nc))) := Lib.hid (fun W hW => by
    have a := H5.out.1.below' hW
    have b := E5.out.2.below' hW
    exact ⟨a.cell 0, a.cell 1, a.cell 2, a.cell 3, a.cell 4, b.cell 0, b.cell 1⟩)
  obtain ⟨q0, q1, q2, q3, q4, q7, q8⟩ := CEL.out _ B6.out
  go_wp2_with fail
  clear q0 q1 q2 q3 q4 q7 q8 hz0
  go_loopw [7, 8, 9, 10, 11, 12] (fun v7 _ _ _ _ _ wr => ∃ (m : Nat) (z : Int) (es : List Int), m ≤ n ∧ z = (m : Int) - 1 ∧ v7 = .int .i64 z ∧ es.length = n ∧ (∀ j, m ≤ j → j < n → es.getD j 0 = (endAt (bod us) j : Nat)) ∧ wr.ownsRow w5.heap.size 3 1 (.slice (some ⟨w5.heap.size, 0, none⟩) n n) n (ints es) ∧ Below w5.heap.size w5 wr) (fun v7 _ _ _ _ _ _ => (intOf v7 + 1).toNat)
  case atStart => exact ⟨n, z0, _, Nat.le_refl _, EZ.out, rfl, List.length_replicate, fun j h1 h2 => by omega, O6.out, B6.out⟩
  case round =>
    obtain ⟨m, z, es, hm, ez, rfl, hes, hE, hown, hbw⟩ := hrel
    have HE := Lib.hid (And.intro hes hE)
    have OW := Lib.hid hown
    have BW := Lib.hid hbw
    obtain ⟨q0, q1, q2, q3, q4, q7, q8⟩ := CEL.out _ hbw
    clear hes hE hown hbw
    by_cases hm0 : m = 0
    · subst hm0
      obtain rfl : z = -1 := by omega
      clear ez
      as_aux_lemma =>
        obtain ⟨wa, rfl⟩ : ∃ u, u = wr := ⟨_, rfl⟩
        have HE3 := Lib.hid (fun j (hj : j < n) => HE.out.2 j (Nat.zero_le _) hj)
        have BWS := Lib.hid BW.out.size
        go_upto_region 32 with fail
        go_upto_region 33 with fail
        go_wp2_with fail
        clear q0 q1 q2 q3 q4 q7 q8
        go_loopw [13, 14, 15, 16] (fun v13 v14 _ _ wr2 => ∃ (i a : Nat), i ≤ R ∧ v14 = .int .i64 i ∧ v13 = .int .i64 a ∧ chain (endAt (bod us)) a ((roots 0 (bod us)).drop i) n ∧ Below wa.heap.size wa wr2) (fun _ v14 _ _ _ => R - (intOf v14).toNat)
        case atStart => exact ⟨0, 0, Nat.zero_le _, rfl, rfl, by rw [EN.out]; exact all_chain _, Below.refl _ _⟩
        case round =>
          obtain ⟨i, a, hi, rfl, rfl, hch, hb2⟩ := hrel
          have CH := Lib.hid hch
          have BR := Lib.hid hb2
          have B5R : RowKit.Hid (Below w5.heap.size w5 wr) := Lib.hid (BW.out.trans (hb2.mono BW.out.size))
          clear hch hb2
          obtain ⟨q0, q1, q2, q3, q4, q7, q8⟩ := CEL.out _ B5R.out
          have hRL : RowKit.Hid ((roots 0 (bod us)).length = R) := Lib.hid (by rw [roots_len, bod_len]; exact ER.out.symm)
          by_cases hlt : i < R
          · have hlt2 : (i : Int) < R := by omega
            have hi4 : i < 4000 := by have := NN.out; omega
            obtain ⟨e1, e2, e3⟩ := chain_at (endAt_gt _) CH.out (by rw [hRL.out]; exact hlt)
            obtain ⟨u, hu⟩ : ∃ u, us[i]? = some u := ⟨_, List.getElem?_eq_getElem (by rw [← ER.out]; exact hlt)⟩
            obtain ⟨g1, g2⟩ := GT.out.rules u (List.mem_of_getElem? hu)
            have G1 := Lib.hid g1
            have G2 := Lib.hid g2
            have HU := Lib.hid hu
            have NX := Lib.hid (fun W hW => next_at u.at_ (tkn l u.at_) s l SH.out (by have := ZZ.out; omega) (HERE.out u.at_ (by have := G2.out; omega)) W hW)
            obtain ⟨r0, r1, r2⟩ := (PM5.out.below B5R.out).rule i u hu
            rw [e1] at r1
            have han : a < n := e2
            have han' : (a : Int) < n := by omega
            have hane : ¬ (n : Int) ≤ a := by omega
            have T5R := Lib.hid (T5.out.below B5R.out)
            have C3 := Lib.hid e3
            obtain ⟨b, eb⟩ : ∃ b, b = endAt (bod us) a := ⟨_, rfl⟩
            have HB : RowKit.Hid (∀ W, Below wa.heap.size wa W → W.cell? ⟨w5.heap.size, a, none⟩ = some (.int .i64 (b : Nat))) := Lib.hid (fun W hW => by
              rw [(own_below OW.out hW).cellAt a (by omega), ints_at (by rw [HE.out.1]; exact han), HE3.out a han, eb])
            rw [← eb] at C3
            obtain ⟨P, eP⟩ : ∃ P : Int, P = (beg l u.at_ : Nat) := ⟨_, rfl⟩
            obtain ⟨Z, eZ⟩ : ∃ Z : Int, Z = (beg l u.at_ + (tkn l u.at_).len : Nat) := ⟨_, rfl⟩
            have EP := Lib.hid eP
            have NX2 : RowKit.Hid (∀ W, Tab W → Calls Tryz.prog 12 #[.string s, .int .i64 P] W fun e w' => e = .returned (.tuple #[.agg #[.int .i64 (tkn l u.at_).kind, .int .i64 P, .int .i64 Z, .string (bsv u.name), .int .i64 (tkn l u.at_).lev, .int .u64 (cw (tkn l u.at_).cls 0), .int .u64 (cw (tkn l u.at_).cls 1), .int .u64 (cw (tkn l u.at_).cls 2), .int .u64 (cw (tkn l u.at_).cls 3)], .bool true]) ∧ Below W.heap.size W w') := Lib.hid (by rw [eP, eZ, G1.out]; exact NX.out)
            rw [← eP] at r2
            clear e1 e2 e3 g1 g2 hu eP eZ eb
            generalize (tkn l u.at_).kind = kd at NX2
            generalize (tkn l u.at_).lev = V at NX2
            generalize (cw (tkn l u.at_).cls 0 : Int) = C0 at NX2
            generalize (cw (tkn l u.at_).cls 1 : Int) = C1 at NX2
            generalize (cw (tkn l u.at_).cls 2 : Int) = C2 at NX2
            generalize (cw (tkn l u.at_).cls 3 : Int) = C3' at NX2
            obtain ⟨X, eX⟩ : ∃ X, X = bsv u.name := ⟨_, rfl⟩
            have EX := Lib.hid eX
            rw [← eX] at NX2 r0
            clear eX
            go_upto_region 36 with fail
            go_wp2_with fail
            with_reducible refine (NX2.out _ T5R.out).mono ?_
            rintro e w8 ⟨rfl, hb8⟩
            have B8 := Lib.hid (bt B5R.out hb8 B5R.out.size)
            have B78 := Lib.hid (bt BR.out hb8 BR.out.size)
            clear hb8 q0 q1 q2 q3 q4 q7 q8 r0 r1 r2
            go_upto_region 37 with fail
            obtain ⟨w9, e9⟩ : ∃ u, u = w8.alloc (.cells #[.int .i64 kd, .int .i64 P, .int .i64 Z, .string X, .int .i64 V, .int .u64 C0, .int .u64 C1, .int .u64 C2, .int .u64 C3'] 45) := ⟨_, rfl⟩
            have K9 : RowKit.Hid (Blk w9 w8.heap.size #[.int .i64 kd, .int .i64 P, .int .i64 Z, .string X, .int .i64 V, .int .u64 C0, .int .u64 C1, .int .u64 C2, .int .u64 C3'] 45) := Lib.hid (by rw [e9]; exact Blk.new _ _ _)
            have B9 : RowKit.Hid (Below w5.heap.size w5 w9) := Lib.hid (by rw [e9]; exact B8.out.alloc B8.out.size _)
            have B79 : RowKit.Hid (Below wa.heap.size wa w9) := Lib.hid (by rw [e9]; exact B78.out.alloc B78.out.size _)
            rw [← e9]
            clear e9
            obtain ⟨q0, q1, q2, q3, q4, q7, q8⟩ := CEL.out _ B9.out
            obtain ⟨r0, r1, r2⟩ := (PM5.out.below B9.out).rule i u HU.out
            have e1 := (chain_at (endAt_gt _) CH.out (by rw [hRL.out]; exact hlt)).1
            rw [e1] at r1
            rw [← EX.out] at r0
            rw [← EP.out] at r2
            clear e1
            have k3 : w9.cell? ⟨w8.heap.size, 3, none⟩ = some (.string X) := K9.out.cell 3
            have ce := HB.out _ B79.out
            have hd1 : decide (n ≤ a) = false := decide_eq_false (by omega)
            by_cases hi0 : i = 0
            · subst hi0
              simp only [Nat.zero_mul, Nat.add_zero, Nat.zero_add] at r0 r1 r2
              go_quiet (fail)
              go_wp2_with fail
              go_roundw
              case rel => exact ⟨1, b, by omega, by go_num, rfl, C3.out, by first | exact B79.out | exact bdrew B79.out⟩
              case measure => first | (simp [intOf]; done) | (simp [intOf]; omega)
            · obtain ⟨i', rfl⟩ : ∃ i', i = i' + 1 := ⟨i - 1, by omega⟩
              obtain ⟨u2, hu2⟩ : ∃ u2, us[i']? = some u2 := ⟨_, List.getElem?_eq_getElem (by rw [← ER.out]; omega)⟩
              have r3 := ((PM5.out.below B9.out).rule i' u2 hu2).2.2
              have hP2 : ¬ P ≤ (beg l u2.at_ : Nat) := by
                have h1 := List.pairwise_iff_getElem.1 GT.out.up i' (i' + 1) (List.getElem?_eq_some_iff.1 hu2).1 (List.getElem?_eq_some_iff.1 HU.out).1 (by omega)
                rw [(List.getElem?_eq_some_iff.1 hu2).2, (List.getElem?_eq_some_iff.1 HU.out).2] at h1
                have h2 := beg_mono SH.out.lt NB.out h1 (by have := G2.out; omega)
                have h3 := EP.out
                omega
              obtain ⟨P2, eP2⟩ : ∃ P2 : Int, P2 = (beg l u2.at_ : Nat) := ⟨_, rfl⟩
              rw [← eP2] at r3 hP2
              have hw1 : IntKind.i64.wrap (((i' + 1 : Nat) : Int) - 1) = (i' : Int) := (IntWalk.i64_in _ (by omega)).trans (by omega)
              have hw2 : IntKind.i64.wrap ((i' : Int) + 1 - 1) = (i' : Int) := (IntWalk.i64_in _ (by omega)).trans (by omega)
              have hp0 : (0 : Int) < ((i' + 1 : Nat) : Int) := by omega
              have hR2 : (i' : Int) < R := by omega
              clear hu2 eP2 hi0
              have hd2 : decide (P ≤ P2) = false := decide_eq_false hP2
              have hd3 : decide (0 < i' + 1) = true := decide_eq_true (by omega)
              go_quiet (fail)
              go_wp2_with fail
              go_roundw
              case rel => exact ⟨i' + 1 + 1, b, by omega, by go_num, rfl, C3.out, by first | exact B79.out | exact bdrew B79.out⟩
              case measure => first | (simp [intOf]; done) | (simp [intOf]; omega)
          · have hlt2 : ¬ (i : Int) < R := by omega
            obtain rfl : a = n := chain_done CH.out (by rw [hRL.out]; omega)
            go_wp2_with fail
            go_ret
            exact ⟨ret_bool (by simp), bt HB5.out B5R.out HB5.out.size⟩
    · obtain ⟨k, rfl⟩ : ∃ k, m = k + 1 := ⟨m - 1, by omega⟩
      obtain rfl : z = (k : Int) := by omega
      clear ez hm0
      have hk4 : k < n := by omega
      have NNo := NN.out
      obtain ⟨x, K, hx⟩ := node_is GT.out (m := k) (by rw [← EN.out]; exact hk4)
      have NA := Lib.hid hx
      clear hx
      have hk1 : IntKind.i64.wrap ((k : Int) + 1) = ((k + 1 : Nat) : Int) := (IntWalk.i64_in _ (by omega)).trans (by omega)
      obtain ⟨c0, c5, c6, cq, cm, A, kc, c8, hLies⟩ := (PM5.out.below BW.out).node k x _ NA.out.is
      obtain ⟨L, eL⟩ : ∃ L, L = roots (k + 1) K := ⟨_, rfl⟩
      have KC : RowKit.Hid (chain (endAt (bod us)) (k + 1) L (endAt (bod us) k)) := Lib.hid (by rw [eL]; exact NA.out.kids)
      have LL : RowKit.Hid (L.length ≤ 4000) := Lib.hid (by rw [eL, roots_len]; have h1 := NA.out.is; rw [flat_parts] at h1; cases h2 : (bod us).parts[k]? with
        | none => rw [h2] at h1; cases h1
        | some y => rw [h2] at h1; simp only [Option.map_some, Option.some.injEq, Prod.mk.injEq] at h1; have h3 := NA.out.le; unfold endAt at h3; rw [h2] at h3; simp only [Option.map_some, Option.getD_some] at h3; have h4 := Fr.len_le K; have h5 : y.2.len = K.len := by have := congrArg List.length h1.2; rw [roots_len, roots_len] at this; exact this
                    have h6 := Fr.len_le y.2; have := EN.out; omega)
      have LE := Lib.hid eL
      rw [← eL] at c8 hLies
      have LI := Lib.hid hLies
      have hk4' : (k : Int) < n := by omega
      have hk0 : (0 : Int) ≤ k := by omega
      clear eL hLies NNo
      go_wp2_with fail
      go_loopw [8, 9] (fun v8 v9 wr2 => ∃ (i a : Nat), i ≤ L.length ∧ v9 = .int .i64 i ∧ v8 = .int .i64 a ∧ k + 1 ≤ a ∧ chain (endAt (bod us)) a (L.drop i) (endAt (bod us) k) ∧ wr2 = wr) (fun _ v9 _ => L.length - (intOf v9).toNat)
      case atStart => exact ⟨0, k + 1, Nat.zero_le _, rfl, rfl, Nat.le_refl _, KC.out, rfl⟩
      case round =>
        obtain ⟨i, a, hi, rfl, rfl, hka, hch, rfl⟩ := hrel
        have CH := Lib.hid hch
        clear hch
        by_cases hlt : i < L.length
        · have hlt2 : (i : Int) < L.length := by omega
          have hi4 : i < 4000 := by have := LL.out; omega
          obtain ⟨e1, e2, e3⟩ := chain_at (endAt_gt _) CH.out hlt
          obtain ⟨kb, ko, rfl, hkb, hc⟩ := LI.out (by simp [numv]; omega)
          have ck := hc i (by simp [numv]; exact hlt)
          have ev : (numv L)[i]? = some (.int .i64 (a : Int)) := by
            simp only [numv, List.getElem?_map]
            rw [List.getD_eq_getElem?_getD] at e1
            rw [List.getElem?_eq_getElem hlt] at e1 ⊢
            simp only [Option.getD_some] at e1
            rw [e1]; rfl
          rw [ev] at ck
          have han : a < n := by have := NA.out.le; rw [← EN.out] at this; omega
          have hane : ¬ (n : Int) ≤ a := by omega
          have ce : wr.cell? ⟨w5.heap.size, a, none⟩ = some (.int .i64 (endAt (bod us) a : Nat)) := by
            rw [OW.out.cellAt a (by omega), ints_at (by rw [HE.out.1]; exact han), HE.out.2 a hka han]
          have C3 := Lib.hid e3
          have han' : (a : Int) < n := by omega
          have EA := Lib.hid (endAt_gt (bod us) a)
          obtain ⟨b, eb⟩ : ∃ b, b = endAt (bod us) a := ⟨_, rfl⟩
          rw [← eb] at ce C3 EA
          clear e1 e2 e3 hc ev hkb eb
          go_wp2_with fail
          go_roundw
          case rel => exact ⟨i + 1, b, by omega, by go_num, rfl, by have := EA.out; omega, C3.out, by trivial⟩
          case measure => first | (simp [intOf]; done) | (simp [intOf]; omega)
        · have hlt2 : ¬ (i : Int) < L.length := by omega
          have hae := chain_done CH.out (by omega)
          obtain ⟨b, eb⟩ : ∃ b, b = endAt (bod us) k := ⟨_, rfl⟩
          rw [← eb] at hae
          subst hae
          have EB := Lib.hid eb
          have ce : wr.cell? ⟨w5.heap.size, k, none⟩ = some (.int .i64 (es.getD k 0)) := by rw [OW.out.cellAt k (by omega), ints_at (by rw [HE.out.1]; exact hk4)]
          have fz : wr.frozen? ⟨w5.heap.size, k, none⟩ = false := OW.out.frozenAt k
          clear eb hka c0 c5 c6 cq cm
          go_upto_region 22 with fail
          clear c8 q0 q1 q2 q3 q4 q7 q8
          go_upto_region 23 with fail
          obtain ⟨w7, e7⟩ : ∃ u, u = wr.setCell ⟨w5.heap.size, k, none⟩ (.int .i64 (a : Nat)) := ⟨_, rfl⟩
          have ST7 := Lib.hid (OW.out.stored k (.int .i64 (a : Nat)))
          rw [← e7] at ST7 ⊢
          clear e7 ce fz
          have O7 : RowKit.Hid (w7.ownsRow w5.heap.size 3 1 (.slice (some ⟨w5.heap.size, 0, none⟩) n n) n (ints (es.set k (a : Nat)))) := Lib.hid (by have := ST7.out.1; rw [ints_set] at this; exact this)
          have B7 : RowKit.Hid (Below w5.heap.size w5 w7) := Lib.hid (below_new BW.out BW.out.size ST7.out.2 (Nat.le_refl _))
          have HE7 : RowKit.Hid ((es.set k (a : Int)).length = n ∧ ∀ j, k ≤ j → j < n → (es.set k (a : Int)).getD j 0 = (endAt (bod us) j : Nat)) := Lib.hid ⟨by rw [List.length_set]; exact HE.out.1, fun j h1 h2 => by
            rw [getD_set (by rw [HE.out.1]; exact hk4)]
            by_cases e : j = k
            · rw [if_pos e, e, EB.out]
            · rw [if_neg e]; exact HE.out.2 j (by omega) h2⟩
          have T7 := Lib.hid (T5.out.below B7.out)
          obtain ⟨q0, q1, q2, q3, q4, q7, q8⟩ := CEL.out _ B7.out
          have AT := Lib.hid NA.out.ok.2.2.2.2
          have P1 := Lib.hid (beg_lt SH.out.lt NB.out AT.out)
          have PZ := Lib.hid (show (0 : Int) ≤ (beg l x.at_ : Nat) ∧ ¬ (s.size : Int) ≤ (beg l x.at_ : Nat) by have := P1.out; have := ZZ.out.1; omega)
          have NX := Lib.hid (fun W hW => next_at x.at_ (tkn l x.at_) s l SH.out (by have := ZZ.out; omega) (HERE.out x.at_ (by have := AT.out; omega)) W hW)
          have OK := Lib.hid NA.out.ok
          have c0' := Lib.hid (PM5.out.below B7.out)
          clear OW BW HE ST7 KC LI
          by_cases k5 : x.kind = 5
          · skip
            as_aux_lemma =>
              obtain ⟨c0, c5, c6, cq, cm, A2, kc2, c8, _⟩ := c0'.out.node k x _ NA.out.is
              have hX : bsv (tkn l x.at_).text = bsv x.name := by rw [OK.out.2.2.1 k5]
              have hne : x.name ≠ [] := OK.out.2.1.2 k5
              have K5 := Lib.hid k5
              rw [k5] at c0
              clear k5
              obtain ⟨P, eP⟩ : ∃ P : Int, P = (beg l x.at_ : Nat) := ⟨_, rfl⟩
              obtain ⟨Z, eZ⟩ : ∃ Z : Int, Z = (beg l x.at_ + (tkn l x.at_).len : Nat) := ⟨_, rfl⟩
              have EP := Lib.hid eP
              have NX2 : RowKit.Hid (∀ W, Tab W → Calls Tryz.prog 12 #[.string s, .int .i64 P] W fun e w' => e = .returned (.tuple #[.agg #[.int .i64 (tkn l x.at_).kind, .int .i64 P, .int .i64 Z, .string (bsv (tkn l x.at_).text), .int .i64 (tkn l x.at_).lev, .int .u64 (cw (tkn l x.at_).cls 0), .int .u64 (cw (tkn l x.at_).cls 1), .int .u64 (cw (tkn l x.at_).cls 2), .int .u64 (cw (tkn l x.at_).cls 3)], .bool true]) ∧ Below W.heap.size W w') := Lib.hid (by rw [eP, eZ]; exact NX.out)
              rw [← eP] at cq
              have p1 : ¬ P < 0 := by have := PZ.out.1; rw [← eP] at this; omega
              have p2 : ¬ (s.size : Int) ≤ P := by have := PZ.out.2; rw [← eP] at this; exact this
              have p3 : (0 : Int) ≤ P := by omega
              clear eP eZ
              have hkm : k < 4000 := by have := NN.out; omega
              rw [hX] at NX2
              obtain ⟨X, eX⟩ : ∃ X, X = bsv x.name := ⟨_, rfl⟩
              rw [← eX] at NX2 cm
              have t1 : ¬ X.toList = [] := by rw [eX, ByteArray.toList_eq]; intro e; apply hne; have := congrArg List.length e; simp [bsv] at this; exact this
              have t2 : X.toList.isEmpty = false := by rw [Bool.eq_false_iff]; intro e; exact t1 (List.isEmpty_iff.1 e)
              have EX := Lib.hid eX
              clear eX hX hne
              generalize (tkn l x.at_).kind = kd at NX2
              generalize (tkn l x.at_).lev = V at NX2
              generalize (cw (tkn l x.at_).cls 0 : Int) = C0 at NX2
              generalize (cw (tkn l x.at_).cls 1 : Int) = C1 at NX2
              generalize (cw (tkn l x.at_).cls 2 : Int) = C2 at NX2
              generalize (cw (tkn l x.at_).cls 3 : Int) = C3 at NX2
              go_upto_region 29 with fail
              go_wp2_with fail
              with_reducible refine (NX2.out _ T7.out).mono ?_
              rintro e w8 ⟨rfl, hb8⟩
              have B8 := Lib.hid (bt B7.out hb8 B7.out.size)
              have B78 := Lib.hid hb8
              clear hb8 q0 q1 q2 q3 q4 q7 q8 c0 c5 c6 cq cm c8
              go_upto_region 30 with fail
              obtain ⟨w9, e9⟩ : ∃ u, u = w8.alloc (.cells #[.int .i64 kd, .int .i64 P, .int .i64 Z, .string X, .int .i64 V, .int .u64 C0, .int .u64 C1, .int .u64 C2, .int .u64 C3] 45) := ⟨_, rfl⟩
              have K9 : RowKit.Hid (Blk w9 w8.heap.size #[.int .i64 kd, .int .i64 P, .int .i64 Z, .string X, .int .i64 V, .int .u64 C0, .int .u64 C1, .int .u64 C2, .int .u64 C3] 45) := Lib.hid (by rw [e9]; exact Blk.new _ _ _)
              have B9 : RowKit.Hid (Below w5.heap.size w5 w9) := Lib.hid (by rw [e9]; exact B8.out.alloc B8.out.size _)
              have B79 : RowKit.Hid (Below w7.heap.size w7 w9) := Lib.hid (by rw [e9]; exact B78.out.alloc B78.out.size _)
              rw [← e9]
              clear e9
              obtain ⟨q0, q1, q2, q3, q4, q7, q8⟩ := CEL.out _ B9.out
              obtain ⟨c0, c5, c6, cq, cm, A3, kc3, c8, _⟩ := (PM5.out.below B9.out).node k x _ NA.out.is
              rw [← EP.out] at cq
              rw [K5.out] at c0
              rw [← EX.out] at cm
              have k1 : w9.cell? ⟨w8.heap.size, 1, none⟩ = some (.int .i64 P) := K9.out.cell 1
              have k3 : w9.cell? ⟨w8.heap.size, 3, none⟩ = some (.string X) := K9.out.cell 3
              go_quiet (fail)
              go_wp2_with fail
              go_roundw
              case rel => exact ⟨k, (k : Int) - 1, es.set k (a : Int), by omega, rfl, by go_num, HE7.out.1, HE7.out.2, own_below O7.out (by first | exact B79.out | exact bdrew B79.out), by first | exact B9.out | exact bdrew B9.out⟩
              case measure => first | (simp [intOf]; done) | (simp [intOf]; omega)
          · by_cases k4 : x.kind = 4
            · skip
              as_aux_lemma =>
                obtain ⟨c0, c5, c6, cq, cm, A2, kc2, c8, _⟩ := c0'.out.node k x _ NA.out.is
                have hX : bsv (tkn l x.at_).text = bsv x.text := by rw [OK.out.2.2.2.1 k4]
                have hne : x.name = [] := by
                  by_cases h : x.name = []
                  · exact h
                  · exact absurd (OK.out.2.1.1 h) k5
                have K4 := Lib.hid (And.intro k4 hne)
                rw [k4] at c0
                rw [hne] at cm
                have cm' : w7.cell? ⟨mb, mo + k, none⟩ = some (.string ⟨#[]⟩) := cm
                clear k4 k5 cm
                have cm := cm'
                clear cm'
                obtain ⟨P, eP⟩ : ∃ P : Int, P = (beg l x.at_ : Nat) := ⟨_, rfl⟩
                obtain ⟨Z, eZ⟩ : ∃ Z : Int, Z = (beg l x.at_ + (tkn l x.at_).len : Nat) := ⟨_, rfl⟩
                have EP := Lib.hid eP
                have NX2 : RowKit.Hid (∀ W, Tab W → Calls Tryz.prog 12 #[.string s, .int .i64 P] W fun e w' => e = .returned (.tuple #[.agg #[.int .i64 (tkn l x.at_).kind, .int .i64 P, .int .i64 Z, .string (bsv (tkn l x.at_).text), .int .i64 (tkn l x.at_).lev, .int .u64 (cw (tkn l x.at_).cls 0), .int .u64 (cw (tkn l x.at_).cls 1), .int .u64 (cw (tkn l x.at_).cls 2), .int .u64 (cw (tkn l x.at_).cls 3)], .bool true]) ∧ Below W.heap.size W w') := Lib.hid (by rw [eP, eZ]; exact NX.out)
                rw [← eP] at cq
                have p1 : ¬ P < 0 := by have := PZ.out.1; rw [← eP] at this; omega
                have p2 : ¬ (s.size : Int) ≤ P := by have := PZ.out.2; rw [← eP] at this; exact this
                have p3 : (0 : Int) ≤ P := by omega
                clear eP eZ
                have hkm : k < 4000 := by have := NN.out; omega
                rw [hX] at NX2
                obtain ⟨X, eX⟩ : ∃ X, X = bsv x.text := ⟨_, rfl⟩
                rw [← eX] at NX2 c5
                have EX := Lib.hid eX
                clear eX hX hne
                generalize (tkn l x.at_).kind = kd at NX2
                generalize (tkn l x.at_).lev = V at NX2
                generalize (cw (tkn l x.at_).cls 0 : Int) = C0 at NX2
                generalize (cw (tkn l x.at_).cls 1 : Int) = C1 at NX2
                generalize (cw (tkn l x.at_).cls 2 : Int) = C2 at NX2
                generalize (cw (tkn l x.at_).cls 3 : Int) = C3 at NX2
                go_upto_region 29 with fail
                go_wp2_with fail
                with_reducible refine (NX2.out _ T7.out).mono ?_
                rintro e w8 ⟨rfl, hb8⟩
                have B8 := Lib.hid (bt B7.out hb8 B7.out.size)
                have B78 := Lib.hid hb8
                clear hb8 q0 q1 q2 q3 q4 q7 q8 c0 c5 c6 cq cm c8
                go_upto_region 30 with fail
                obtain ⟨w9, e9⟩ : ∃ u, u = w8.alloc (.cells #[.int .i64 kd, .int .i64 P, .int .i64 Z, .string X, .int .i64 V, .int .u64 C0, .int .u64 C1, .int .u64 C2, .int .u64 C3] 45) := ⟨_, rfl⟩
                have K9 : RowKit.Hid (Blk w9 w8.heap.size #[.int .i64 kd, .int .i64 P, .int .i64 Z, .string X, .int .i64 V, .int .u64 C0, .int .u64 C1, .int .u64 C2, .int .u64 C3] 45) := Lib.hid (by rw [e9]; exact Blk.new _ _ _)
                have B9 : RowKit.Hid (Below w5.heap.size w5 w9) := Lib.hid (by rw [e9]; exact B8.out.alloc B8.out.size _)
                have B79 : RowKit.Hid (Below w7.heap.size w7 w9) := Lib.hid (by rw [e9]; exact B78.out.alloc B78.out.size _)
                rw [← e9]
                clear e9
                obtain ⟨q0, q1, q2, q3, q4, q7, q8⟩ := CEL.out _ B9.out
                obtain ⟨c0, c5, c6, cq, cm, A3, kc3, c8, _⟩ := (PM5.out.below B9.out).node k x _ NA.out.is
                rw [← EP.out] at cq
                rw [K4.out.1] at c0
                rw [← EX.out] at c5
                have k1 : w9.cell? ⟨w8.heap.size, 1, none⟩ = some (.int .i64 P) := K9.out.cell 1
                have k3 : w9.cell? ⟨w8.heap.size, 3, none⟩ = some (.string X) := K9.out.cell 3
                go_quiet (fail)
                go_wp2_with fail
                go_roundw
                case rel => exact ⟨k, (k : Int) - 1, es.set k (a : Int), by omega, rfl, by go_num, HE7.out.1, HE7.out.2, own_below O7.out (by first | exact B79.out | exact bdrew B79.out), by first | exact B9.out | exact bdrew B9.out⟩
                case measure => first | (simp [intOf]; done) | (simp [intOf]; omega)
            · by_cases k67 : x.kind = 6 ∨ x.kind = 7
              · skip
                as_aux_lemma =>
                  rcases k67 with k6 | k6
                  · skip
                    obtain ⟨c0, c5, c6, cq, cm, A2, kc2, c8, _⟩ := c0'.out.node k x _ NA.out.is
                    have hL2 : ¬ (L.length : Int) < 2 := by have h1 := (OK.out.1 (by rw [k6]; simp)).1; have h2 := LE.out; rw [h2, roots_len]; omega
                    obtain ⟨hl1, y, Ly, hy, ey⟩ := NA.out.head (by rw [k6]; simp)
                    have cq2 := (c0'.out.node (k + 1) y Ly hy).2.2.2.1
                    rw [ey] at cq2
                    have hl2 : ((k + 1 : Nat) : Int) < n := by have := EN.out; omega
                    have hne : x.name = [] := by
                      by_cases h : x.name = []
                      · exact h
                      · exact absurd (OK.out.2.1.1 h) k5
                    rw [← LE.out] at c8
                    rw [k6] at c0
                    rw [hne] at cm
                    have cm' : w7.cell? ⟨mb, mo + k, none⟩ = some (.string ⟨#[]⟩) := cm
                    clear cm hne k6 k5 k4 hy ey hl1
                    have cm := cm'
                    clear cm'
                    obtain ⟨P, eP⟩ : ∃ P : Int, P = (beg l x.at_ : Nat) := ⟨_, rfl⟩
                    rw [← eP] at cq cq2
                    have p1 : ¬ P < 0 := by have := PZ.out.1; rw [← eP] at this; omega
                    have p2 : ¬ (s.size : Int) ≤ P := by have := PZ.out.2; rw [← eP] at this; exact this
                    have hkm : k < 4000 := by have := NN.out; omega
                    clear eP
                    go_upto_region 27 with fail
                    go_quiet (fail)
                    go_wp2_with fail
                    go_roundw
                    case rel => exact ⟨k, (k : Int) - 1, es.set k (a : Int), by omega, rfl, by go_num, HE7.out.1, HE7.out.2, own_below O7.out (by first | exact Below.refl _ _ | exact bdrew (Below.refl _ _)), by first | exact B7.out | exact bdrew B7.out⟩
                    case measure => first | (simp [intOf]; done) | (simp [intOf]; omega)
                  · skip
                    obtain ⟨c0, c5, c6, cq, cm, A2, kc2, c8, _⟩ := c0'.out.node k x _ NA.out.is
                    have hL2 : ¬ (L.length : Int) < 2 := by have h1 := (OK.out.1 (by rw [k6]; simp)).1; have h2 := LE.out; rw [h2, roots_len]; omega
                    obtain ⟨hl1, y, Ly, hy, ey⟩ := NA.out.head (by rw [k6]; simp)
                    have cq2 := (c0'.out.node (k + 1) y Ly hy).2.2.2.1
                    rw [ey] at cq2
                    have hl2 : ((k + 1 : Nat) : Int) < n := by have := EN.out; omega
                    have hne : x.name = [] := by
                      by_cases h : x.name = []
                      · exact h
                      · exact absurd (OK.out.2.1.1 h) k5
                    rw [← LE.out] at c8
                    rw [k6] at c0
                    rw [hne] at cm
                    have cm' : w7.cell? ⟨mb, mo + k, none⟩ = some (.string ⟨#[]⟩) := cm
                    clear cm hne k6 k5 k4 hy ey hl1
                    have cm := cm'
                    clear cm'
                    obtain ⟨P, eP⟩ : ∃ P : Int, P = (beg l x.at_ : Nat) := ⟨_, rfl⟩
                    rw [← eP] at cq cq2
                    have p1 : ¬ P < 0 := by have := PZ.out.1; rw [← eP] at this; omega
                    have p2 : ¬ (s.size : Int) ≤ P := by have := PZ.out.2; rw [← eP] at this; exact this
                    have hkm : k < 4000 := by have := NN.out; omega
                    clear eP
                    go_upto_region 27 with fail
                    go_quiet (fail)
                    go_wp2_with fail
                    go_roundw
                    case rel => exact ⟨k, (k : Int) - 1, es.set k (a : Int), by omega, rfl, by go_num, HE7.out.1, HE7.out.2, own_below O7.out (by first | exact Below.refl _ _ | exact bdrew (Below.refl _ _)), by first | exact B7.out | exact bdrew B7.out⟩
                    case measure => first | (simp [intOf]; done) | (simp [intOf]; omega)
              · skip
                as_aux_lemma =>
                  obtain ⟨c0, c5, c6, cq, cm, A2, kc2, c8, _⟩ := c0'.out.node k x _ NA.out.is
                  have hne : x.name = [] := by
                    by_cases h : x.name = []
                    · exact h
                    · exact absurd (OK.out.2.1.1 h) k5
                  have K4 := Lib.hid hne
                  rw [hne] at cm
                  have cm' : w7.cell? ⟨mb, mo + k, none⟩ = some (.string ⟨#[]⟩) := cm
                  clear cm hne
                  have cm := cm'
                  clear cm'
                  have k6 : ¬ x.kind = 6 := fun e => k67 (.inl e)
                  have k7 : ¬ x.kind = 7 := fun e => k67 (.inr e)
                  have b5 : (x.kind == 5) = false := by simpa using k5
                  have b4 : (x.kind == 4) = false := by simpa using k4
                  have b6 : (x.kind == 6) = false := by simpa using k6
                  have b7 : (x.kind == 7) = false := by simpa using k7
                  obtain ⟨κ, eκ⟩ : ∃ κ, κ = x.kind := ⟨_, rfl⟩
                  rw [← eκ] at k4 k5 k6 k7 b4 b5 b6 b7 c0
                  have EK := Lib.hid eκ
                  clear eκ k67
                  obtain ⟨P, eP⟩ : ∃ P : Int, P = (beg l x.at_ : Nat) := ⟨_, rfl⟩
                  obtain ⟨Z, eZ⟩ : ∃ Z : Int, Z = (beg l x.at_ + (tkn l x.at_).len : Nat) := ⟨_, rfl⟩
                  have EP := Lib.hid eP
                  have NX2 : RowKit.Hid (∀ W, Tab W → Calls Tryz.prog 12 #[.string s, .int .i64 P] W fun e w' => e = .returned (.tuple #[.agg #[.int .i64 (tkn l x.at_).kind, .int .i64 P, .int .i64 Z, .string (bsv (tkn l x.at_).text), .int .i64 (tkn l x.at_).lev, .int .u64 (cw (tkn l x.at_).cls 0), .int .u64 (cw (tkn l x.at_).cls 1), .int .u64 (cw (tkn l x.at_).cls 2), .int .u64 (cw (tkn l x.at_).cls 3)], .bool true]) ∧ Below W.heap.size W w') := Lib.hid (by rw [eP, eZ]; exact NX.out)
                  rw [← eP] at cq
                  have p1 : ¬ P < 0 := by have := PZ.out.1; rw [← eP] at this; omega
                  have p2 : ¬ (s.size : Int) ≤ P := by have := PZ.out.2; rw [← eP] at this; exact this
                  have p3 : (0 : Int) ≤ P := by omega
                  clear eP eZ
                  have hkm : k < 4000 := by have := NN.out; omega
                  generalize bsv (tkn l x.at_).text = X at NX2
                  generalize (tkn l x.at_).kind = kd at NX2
                  generalize (tkn l x.at_).lev = V at NX2
                  generalize (cw (tkn l x.at_).cls 0 : Int) = C0 at NX2
                  generalize (cw (tkn l x.at_).cls 1 : Int) = C1 at NX2
                  generalize (cw (tkn l x.at_).cls 2 : Int) = C2 at NX2
                  generalize (cw (tkn l x.at_).cls 3 : Int) = C3 at NX2
                  go_upto_region 29 with fail
                  go_wp2_with fail
                  with_reducible refine (NX2.out _ T7.out).mono ?_
                  rintro e w8 ⟨rfl, hb8⟩
                  have B8 := Lib.hid (bt B7.out hb8 B7.out.size)
                  have B78 := Lib.hid hb8
                  clear hb8 q0 q1 q2 q3 q4 q7 q8 c0 c5 c6 cq cm c8
                  go_upto_region 30 with fail
                  obtain ⟨w9, e9⟩ : ∃ u, u = w8.alloc (.cells #[.int .i64 kd, .int .i64 P, .int .i64 Z, .string X, .int .i64 V, .int .u64 C0, .int .u64 C1, .int .u64 C2, .int .u64 C3] 45) := ⟨_, rfl⟩
                  have K9 : RowKit.Hid (Blk w9 w8.heap.size #[.int .i64 kd, .int .i64 P, .int .i64 Z, .string X, .int .i64 V, .int .u64 C0, .int .u64 C1, .int .u64 C2, .int .u64 C3] 45) := Lib.hid (by rw [e9]; exact Blk.new _ _ _)
                  have B9 : RowKit.Hid (Below w5.heap.size w5 w9) := Lib.hid (by rw [e9]; exact B8.out.alloc B8.out.size _)
                  have B79 : RowKit.Hid (Below w7.heap.size w7 w9) := Lib.hid (by rw [e9]; exact B78.out.alloc B78.out.size _)
                  rw [← e9]
                  clear e9
                  obtain ⟨q0, q1, q2, q3, q4, q7, q8⟩ := CEL.out _ B9.out
                  obtain ⟨c0, c5, c6, cq, cm, A3, kc3, c8, _⟩ := (PM5.out.below B9.out).node k x _ NA.out.is
                  rw [← EP.out] at cq
                  rw [← EK.out] at c0
                  have k1 : w9.cell? ⟨w8.heap.size, 1, none⟩ = some (.int .i64 P) := K9.out.cell 1
                  have k3 : w9.cell? ⟨w8.heap.size, 3, none⟩ = some (.string X) := K9.out.cell 3
                  go_quiet (fail)
                  go_wp2_with fail
                  go_roundw
                  case rel => exact ⟨k, (k : Int) - 1, es.set k (a : Int), by omega, rfl, by go_num, HE7.out.1, HE7.out.2, own_below O7.out (by first | exact B79.out | exact bdrew B79.out), by first | exact B9.out | exact bdrew B9.out⟩
                  case measure => first | (simp [intOf]; done) | (simp [intOf]; omega)

end Go.Proofs.YtphdplommmkncaaGreatDoor

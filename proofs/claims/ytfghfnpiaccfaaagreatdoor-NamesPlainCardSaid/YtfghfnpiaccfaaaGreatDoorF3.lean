/- The law of names alone, of a text that can be read. -/
import Derived.Test.YtfghfnpiaccfaaaGreatDoorF2
import Derived.Test.YtfghfnpiaccfaaaGreatDoorU2
set_option linter.unusedSimpArgs false
set_option linter.unusedVariables false
namespace Go.Proofs.YtfghfnpiaccfaaaGreatDoor.J
open Go Go.RowKit
def ResD (t : Tre) (d0 d1 : Int) (w : World) (e : Ending) (w' : World) : Prop :=
  Below w.heap.size w w' ∧ ∃ g : Gr, e = .returned (.tuple #[.agg #[.slice g.RA g.rules.length g.rc, .slice g.NA g.nodes.length g.nc], dgv d0 d1]) ∧ Gr.At w' g ∧
    (why t ≠ none → g = gr0) ∧ (why t = none → GTwin (resG t) g ∧ g.rules.length ≤ g.rc ∧ g.nodes.length ≤ g.nc)
theorem resD_of {t : Tre} {d0 d1 : Int} {w : World} {e : Ending} {w' : World} (h0 : d0 = ((why t).getD (0, 0)).1) (h1 : d1 = ((why t).getD (0, 0)).2) (h : ResB t w e w') : ResD t d0 d1 w e w' := by
  subst h0 h1; exact h
theorem places {l : List Nat} {N : Nat} {us : List Ru} {t : Tre} (h : t.Says l us) (G : Got l N us) : (∀ k, 0 ≤ t.np.getD k 0 ∧ t.np.getD k 0 ≤ l.length) ∧ ∀ k, 0 ≤ t.rp.getD k 0 ∧ t.rp.getD k 0 ≤ l.length := by
  have key : ∀ (L : List Int), (∀ x ∈ L, 0 ≤ x ∧ x ≤ l.length) → ∀ k, 0 ≤ L.getD k 0 ∧ L.getD k 0 ≤ l.length := fun L hL k => by
    by_cases hk : k < L.length
    · have := hL L[k] (List.getElem_mem hk)
      simpa [List.getD, List.getElem?_eq_getElem hk] using this
    · simp [List.getD, List.getElem?_eq_none (by omega : L.length ≤ k)]
  refine ⟨key _ fun x hx => ?_, key _ fun x hx => ?_⟩
  · rw [h.np] at hx
    obtain ⟨p, _, rfl⟩ := List.mem_map.1 hx
    have := beg_le G.lt p.1.at_
    omega
  · rw [h.rp] at hx
    obtain ⟨p, _, rfl⟩ := List.mem_map.1 hx
    have := beg_le G.lt p.at_
    omega
set_option maxRecDepth 100000 in
set_option maxHeartbeats 16000000 in
theorem plain_yes (N : Nat) (s : ByteArray) (l : List Nat) (hs : Str s l) (hz : s.size ≤ 1000) (hN : stp l N = true) (hNl : N ≤ l.length) (hNb : ∀ j, j < N → stp l j = false) (ho : ow l N ≠ none) {us : List Ru} {j : Nat} (ht : trd l N = .ok us j) (wd : ByteArray) (by_ : Int) (hby : -9223372036854775808 ≤ by_ ∧ by_ < 9223372036854775808) (hwd : wd.size ≤ 9223372036854775807) (w : World) (hT : Tab w) :
    Calls Tryz.prog 9 #[.string s, .string wd, .int .i64 by_] w fun e w' => e = .returned (.bool true) ∧ Below w.heap.size w w' := by
  have hsz := hs.size
  have AW := Lib.hid (awake_any w hT)
  have hlt : ¬ (1000 : Int) < s.size := by omega
  have TT := Lib.hid hT
  have XX := Lib.hid (fun W hW => text_sep hs (by omega) hN hNl hNb ho ht W hW)
  have GT := Lib.hid (got hs.lt (by omega) hN hNl hNb ho ht)
  have LZ := Lib.hid (show l.length ≤ 1000 by omega)
  have NL := Lib.hid hNl
  have MR := Lib.hid (more_read hs.lt hN hNb ho ht)
  have HS := Lib.hid hs
  have HW := Lib.hid hwd
  have PK := Lib.hid (fun W => pick_any by_ 1000 hby (by omega) W)
  obtain ⟨m, em⟩ : ∃ m, m = by_ % 1000 := ⟨_, rfl⟩
  have hm : 0 ≤ m ∧ m < 1000 := by omega
  have EM := Lib.hid em
  clear hT hs hz hN hNl hNb ho ht em hsz
  go_enter Tryz.func9, Tryz.ntmps9
  go_upto_region 3 with (go_at_call 20; (with_reducible refine AW.out.mono ?_); rintro e w0 ⟨rfl, hb⟩; have B0 := Lib.hid (show Below w.heap.size w w0 from hb); clear hb)
  have XA := Lib.hid (XX.out w0 (TT.out.below B0.out))
  go_upto_region 5 with fail
  go_upto_region 6 with (first | (go_at_call 15; (with_reducible refine (XA.out).mono ?_); rintro e w1 ⟨hb, tA, tbA, rfl, hat, hsy, _, _⟩; have B1 := Lib.hid (show Below w.heap.size w w1 from B0.out.trans (hb.mono B0.out.size)); have C1 := Lib.hid hb; have AA := Lib.hid hat; have SA := Lib.hid hsy; clear hb hat hsy) | (refine wpList_store_whole rfl 36 (.tmp 7) (.tmp 31) rfl w1.heap.size #[.slice tA.g.RA tA.g.rules.length tA.g.rc, .slice tA.g.NA tA.g.nodes.length tA.g.nc, .slice tA.PA tA.rp.length tA.pc, .slice tA.QA tA.np.length tA.qc, .slice tA.MA tA.nm.length tA.mc] rfl rfl 36 _ (two_blksg w1 #[.slice none 0 0, .slice none 0 0, .slice none 0 0, .slice none 0 0, .slice none 0 0] #[.int .i64 0, .int .i64 0] 36 38).1 (by kernel_rfl) (by rfl) (by simp [Value.oneCell']) ?_; intro x1 hk2 hg2; have K2 := Lib.hid hk2; have G2 := Lib.hid hg2; have D2 := Lib.hid ((two_blksg w1 #[.slice none 0 0, .slice none 0 0, .slice none 0 0, .slice none 0 0, .slice none 0 0] #[.int .i64 0, .int .i64 0] 36 38).2.grown hg2 (by simp)); clear hk2 hg2) | (refine wpList_store_whole rfl 38 (.tmp 8) (.tmp 32) rfl (w1.heap.size + 1) #[.int .i64 0, .int .i64 0] rfl rfl 38 _ D2.out (by kernel_rfl) (by rfl) (by simp [Value.oneCell']) ?_; intro u1 hk3 hg3; have H1 := Lib.hid (pair_setg B1.out B1.out.size G2.out K2.out hg3 hk3); clear hk3 hg3))
  clear K2 G2 D2
  have L1 := Lib.hid H1.out.1
  have N1 := Lib.hid (C1.out.trans (H1.out.2.1.mono C1.out.size))
  have d0 := H1.out.2.2.2.cell 0
  have d1 := H1.out.2.2.2.cell 1
  have q0 := H1.out.2.2.1.cell 0
  have q1 := H1.out.2.2.1.cell 1
  have q2 := H1.out.2.2.1.cell 2
  have q3 := H1.out.2.2.1.cell 3
  have q4 := H1.out.2.2.1.cell 4
  simp only [List.getElem?_toArray, List.getElem?_cons_zero, List.getElem?_cons_succ] at d0 d1 q0 q1 q2 q3 q4
  obtain ⟨a0, ea0⟩ : ∃ q, q = ((why tA).getD (0, 0)).1 := ⟨_, rfl⟩
  obtain ⟨a1, ea1⟩ : ∃ q, q = ((why tA).getD (0, 0)).2 := ⟨_, rfl⟩
  have EA0 := Lib.hid ea0
  have EA1 := Lib.hid ea1
  clear ea0 ea1
  have RA := Lib.hid (show Calls Tryz.prog 25 #[.agg #[.slice tA.g.RA tA.g.rules.length tA.g.rc, .slice tA.g.NA tA.g.nodes.length tA.g.nc, .slice tA.PA tA.rp.length tA.pc, .slice tA.QA tA.np.length tA.qc, .slice tA.MA tA.nm.length tA.mc]] u1 (ResD tA a0 a1 u1) from (resolve_says (AA.out.below H1.out.2.1) SA.out GT.out (by have := LZ.out; omega) NL.out).mono fun e w' h => resD_of EA0.out EA1.out h)
  go_upto_region 8 with fail
  clear d0 d1
  go_upto_region 9 with (first | (go_at_call 25; (with_reducible refine (RA.out).mono ?_); rintro e w2 ⟨hb, gA, rfl, hga, hg1, hg2⟩; have B2 := Lib.hid (show Below w.heap.size w w2 from L1.out.trans (hb.mono L1.out.size)); have C2 := Lib.hid hb; have GA := Lib.hid hga; have GA1 := Lib.hid hg1; have GA2 := Lib.hid hg2; clear hb hga hg1 hg2) | (refine wpList_store_whole rfl 25 (.tmp 9) (.tmp 39) rfl w2.heap.size #[.slice gA.RA gA.rules.length gA.rc, .slice gA.NA gA.nodes.length gA.nc] rfl rfl 25 _ (two_blksg w2 #[.slice none 0 0, .slice none 0 0] #[.int .i64 0, .int .i64 0] 25 38).1 (by kernel_rfl) (by rfl) (by simp [Value.oneCell']) ?_; intro x2 hk2 hg2; have K2 := Lib.hid hk2; have G2 := Lib.hid hg2; have D2 := Lib.hid ((two_blksg w2 #[.slice none 0 0, .slice none 0 0] #[.int .i64 0, .int .i64 0] 25 38).2.grown hg2 (by simp)); clear hk2 hg2) | (refine wpList_store_whole rfl 38 (.tmp 10) (.tmp 40) rfl (w2.heap.size + 1) #[.int .i64 a0, .int .i64 a1] rfl rfl 38 _ D2.out (by kernel_rfl) (by rfl) (by simp [Value.oneCell']) ?_; intro u2 hk3 hg3; have H2 := Lib.hid (pair_setg B2.out B2.out.size G2.out K2.out hg3 hk3); clear hk3 hg3))
  clear K2 G2 D2
  have L2 := Lib.hid H2.out.1
  have N2 := Lib.hid (C2.out.trans (H2.out.2.1.mono C2.out.size))
  clear q0 q1 q2 q3 q4 RA
  have XB := Lib.hid (XX.out u2 (TT.out.below L2.out))
  go_upto_region 10 with (first | (go_at_call 15; (with_reducible refine (XB.out).mono ?_); rintro e w3 ⟨hb, tB, tb, rfl, hat, hsy, hlo, hrw⟩; have B3 := Lib.hid (show Below w.heap.size w w3 from L2.out.trans (hb.mono L2.out.size)); have C3 := Lib.hid hb; have AB := Lib.hid hat; have SB := Lib.hid hsy; have LO := Lib.hid hlo; have RW := Lib.hid hrw; clear hb hat hsy hlo hrw) | (refine wpList_store_whole rfl 36 (.tmp 11) (.tmp 44) rfl w3.heap.size #[.slice tB.g.RA tB.g.rules.length tB.g.rc, .slice tB.g.NA tB.g.nodes.length tB.g.nc, .slice tB.PA tB.rp.length tB.pc, .slice tB.QA tB.np.length tB.qc, .slice tB.MA tB.nm.length tB.mc] rfl rfl 36 _ (two_blksg w3 #[.slice none 0 0, .slice none 0 0, .slice none 0 0, .slice none 0 0, .slice none 0 0] #[.int .i64 0, .int .i64 0] 36 38).1 (by kernel_rfl) (by rfl) (by simp [Value.oneCell']) ?_; intro x3 hk2 hg2; have K2 := Lib.hid hk2; have G2 := Lib.hid hg2; have D2 := Lib.hid ((two_blksg w3 #[.slice none 0 0, .slice none 0 0, .slice none 0 0, .slice none 0 0, .slice none 0 0] #[.int .i64 0, .int .i64 0] 36 38).2.grown hg2 (by simp)); clear hk2 hg2) | (refine wpList_store_whole rfl 38 (.tmp 12) (.tmp 45) rfl (w3.heap.size + 1) #[.int .i64 0, .int .i64 0] rfl rfl 38 _ D2.out (by kernel_rfl) (by rfl) (by simp [Value.oneCell']) ?_; intro u3 hk3 hg3; have H3 := Lib.hid (pair_setg B3.out B3.out.size G2.out K2.out hg3 hk3); clear hk3 hg3))
  clear K2 G2 D2
  have L3 := Lib.hid H3.out.1
  have N3 := Lib.hid (C3.out.trans (H3.out.2.1.mono C3.out.size))
  clear XA XB
  have PM : RowKit.Hid (∀ W, Calls Tryz.prog 24 #[.int .i64 by_, .int .i64 1000] W fun q w' => q = .returned (.int .i64 m) ∧ W = w') := Lib.hid (fun W => by rw [EM.out]; exact PK.out W)
  go_upto_region 11 with (go_at_call 24; (with_reducible refine (PM.out _).mono ?_); rintro e w4 ⟨rfl, rfl⟩)
  have hlen := SB.out.nlen
  have hrl := SB.out.rlen
  have hR0 : 0 < us.length := List.length_pos_iff.2 GT.out.ne
  have hn0 : 0 < (bod us).nodes := by have := Fr.len_le (bod us); rw [bod_len] at this; omega
  have hnd : (bod us).nodes ≤ 2000 := by have := GT.out.nodes; have := NL.out; have := LZ.out; omega
  have PB := Lib.hid (places SB.out GT.out)
  obtain ⟨gN, gP, gQ, gM, hSP, hTS⟩ := ts_start (s := wd) (m := m) (W := u3) (w2 := u2) (RW.out.below H3.out.2.1) N3.out LO.out H3.out.2.2.1 RW.out (Nat.le_refl _) (hrl.2.trans hrl.1.symm) (hlen.2.1.trans hlen.1.symm) (hlen.2.2.trans hlen.1.symm) (by omega) (by omega)
  have SP := Lib.hid hSP
  have T0 := Lib.hid hTS
  have hnl : tB.g.nodes.length ≤ 2000 := by omega
  have hrl2 : tB.g.rules.length ≤ 2000 := by have := Fr.len_le (bod us); rw [bod_len] at this; omega
  clear hSP hTS hlen hrl hR0 hn0 hnd
  go_wp2_with fail
  go_loopw [14] (fun i wr => ∃ k : Nat, k ≤ tB.g.nodes.length ∧ i = .int .i64 k ∧ TS tB wd m u2 w3.heap.size tb gN gP gQ gM k k 0 wr) (fun i _ => tB.g.nodes.length - (intOf i).toNat)
  case atStart => exact ⟨0, by omega, by go_num, T0.out⟩
  case round =>
    obtain ⟨k, hk, rfl, hR⟩ := hrel
    have HR := Lib.hid hR
    have q0 := hR.blk.cell 0; have q1 := hR.blk.cell 1; have q2 := hR.blk.cell 2; have q3 := hR.blk.cell 3; have q4 := hR.blk.cell 4
    simp only [List.getElem?_toArray, List.getElem?_cons_zero, List.getElem?_cons_succ] at q0 q1 q2 q3 q4
    by_cases hlt : k < tB.g.nodes.length
    · have hlt2 : (k : Int) < tB.g.nodes.length := by omega
      have kd := hR.kind SP.out hlt
      obtain ⟨v, ev⟩ : ∃ v, v = tB.np.getD k 0 := ⟨_, rfl⟩
      have hv : 0 ≤ v ∧ v ≤ 1000 := by rw [ev]; have := PB.out.1 k; have := LZ.out; omega
      have hw : IntKind.wrap .i64 (v + m) = v + m := by rw [IntKind.wrap_i64]; omega
      cases hc : isCall (tB.g.nodes.getD k Nd.zero) with
      | true =>
        have hK : (tB.g.nodes.getD k Nd.zero).kind = 5 := by simpa [isCall] using hc
        rw [hK] at kd
        have HS2 := Lib.hid (hR.skip hc)
        obtain ⟨c1, f1, r1⟩ := HS2.out.place SP.out hlt
        rw [← ev] at c1 r1
        have R1 := Lib.hid r1
        clear r1 hR ev hK hc
        go_wp2_with fail
        go_region_with (fail)
        all_goals (
          go_wp2_with fail
          go_roundw
          case rel => exact ⟨k + 1, by omega, by go_num, (by first | exact R1.out | exact R1.out.below (bdrew1 (Below.refl _ _)) | exact R1.out.below (bdrew1 (bdrew1 (Below.refl _ _))) | exact R1.out.below (bdrew1 (bdrew1 (bdrew1 (Below.refl _ _)))) | exact R1.out.below (bdrewN (Below.refl _ _)))⟩
          case measure => simp [intOf]; omega)
      | false =>
        have hK : ((tB.g.nodes.getD k Nd.zero).kind == 5) = false := by simpa [isCall] using hc
        generalize (tB.g.nodes.getD k Nd.zero).kind = kq at kd hK
        obtain ⟨⟨vo, c0⟩, f0, r0⟩ := hR.name SP.out hlt hc
        obtain ⟨c1, f1, r1⟩ := r0.place SP.out hlt
        rw [← ev] at c1 r1
        have R1 := Lib.hid r1
        have R0 := Lib.hid r0
        clear r1 r0 hR ev hc
        go_upto_region 16 with fail
        generalize hW5 : wr.setCell ⟨gM, k, none⟩ (.string wd) = W5 at c1 f1 R1 R0 ⊢
        clear hW5 q0 q1 q2 q3 q4 kd c0 f0
        have q3 := R0.out.blk.cell 3
        have q2 := R0.out.blk.cell 2
        simp only [List.getElem?_toArray, List.getElem?_cons_zero, List.getElem?_cons_succ] at q2 q3
        go_region_with (fail)
        all_goals (
          go_wp2_with fail
          go_roundw
          case rel => exact ⟨k + 1, by omega, by go_num, (by first | exact R1.out | exact R1.out.below (bdrew1 (Below.refl _ _)) | exact R1.out.below (bdrew1 (bdrew1 (Below.refl _ _))) | exact R1.out.below (bdrew1 (bdrew1 (bdrew1 (Below.refl _ _)))) | exact R1.out.below (bdrewN (Below.refl _ _)))⟩
          case measure => simp [intOf]; omega)
    · obtain rfl : k = tB.g.nodes.length := by omega
      have hneg : ¬ (tB.g.nodes.length : Int) < tB.g.nodes.length := by omega
      clear hR
      go_wp2_with fail
      go_loopw [15] (fun i wr2 => ∃ q : Nat, q ≤ tB.g.rules.length ∧ i = .int .i64 q ∧ TS tB wd m u2 w3.heap.size tb gN gP gQ gM tB.g.nodes.length tB.g.nodes.length q wr2) (fun i _ => tB.g.rules.length - (intOf i).toNat)
      case atStart => exact ⟨0, by omega, by go_num, HR.out⟩
      clear HR q0 q1 q2 q3 q4 hneg
      case round =>
        obtain ⟨q, hq, rfl, hR⟩ := hrel
        have HR := Lib.hid hR
        have q0 := hR.blk.cell 0; have q1 := hR.blk.cell 1; have q2 := hR.blk.cell 2; have q3 := hR.blk.cell 3; have q4 := hR.blk.cell 4
        simp only [List.getElem?_toArray, List.getElem?_cons_zero, List.getElem?_cons_succ] at q0 q1 q2 q3 q4
        by_cases hlt : q < tB.g.rules.length
        · have hlt2 : (q : Int) < tB.g.rules.length := by omega
          obtain ⟨v, ev⟩ : ∃ v, v = tB.rp.getD q 0 := ⟨_, rfl⟩
          have hv : 0 ≤ v ∧ v ≤ 1000 := by rw [ev]; have := PB.out.2 q; have := LZ.out; omega
          have hw : IntKind.wrap .i64 (v + m) = v + m := by rw [IntKind.wrap_i64]; omega
          obtain ⟨c1, f1, r1⟩ := hR.rule_ SP.out hlt
          rw [← ev] at c1 r1
          have R1 := Lib.hid r1
          clear r1 hR ev
          go_wp2_with fail
          go_region_with (fail)
          all_goals (
            go_wp2_with fail
            go_roundw
            case rel => exact ⟨q + 1, by omega, by go_num, (by first | exact R1.out | exact R1.out.below (bdrew1 (Below.refl _ _)) | exact R1.out.below (bdrew1 (bdrew1 (Below.refl _ _))) | exact R1.out.below (bdrew1 (bdrew1 (bdrew1 (Below.refl _ _)))) | exact R1.out.below (bdrewN (Below.refl _ _)))⟩
            case measure => simp [intOf]; omega)
        · obtain rfl : q = tB.g.rules.length := by omega
          have hneg : ¬ (tB.g.rules.length : Int) < tB.g.rules.length := by omega
          clear hR
          have TC := Lib.hid (HR.out.done SP.out ⟨_, AB.out.g⟩)
          have LW2 := Lib.hid (L2.out.trans (HR.out.low.mono L2.out.size))
          have TU := Lib.hid (turned_any (t := tA) SB.out SA.out GT.out (by have := LZ.out; omega) NL.out HW.out TC.out)
          have NM := Lib.hid (why_nums (o := why tA) (m := m) (fun p hp => why_kind hp))
          have BD := Lib.hid (why_bound (places SA.out GT.out))
          obtain ⟨c1, ec1⟩ : ∃ q, q = ((why (turned tB wd m tB.np.length tB.rp.length)).getD (0, 0)).2 := ⟨_, rfl⟩
          have EC1 := Lib.hid ec1
          have EC0 := Lib.hid (show a0 = ((why (turned tB wd m tB.np.length tB.rp.length)).getD (0, 0)).1 by rw [TU.out.2.2, NM.out.1, EA0.out])
          have RU := Lib.hid (show Calls Tryz.prog 25 #[.agg #[.slice tB.g.RA tB.g.rules.length tB.g.rc, .slice (some ⟨gN, 0, none⟩) tB.g.nodes.length tB.g.nc, .slice (some ⟨gP, 0, none⟩) tB.g.rules.length tB.pc, .slice (some ⟨gQ, 0, none⟩) tB.g.nodes.length tB.qc, .slice (some ⟨gM, 0, none⟩) tB.g.nodes.length tB.mc]] wr (ResD (turned tB wd m tB.np.length tB.rp.length) a0 c1 wr) from by
            have h := TU.out.1
            have e : (turned tB wd m tB.np.length tB.rp.length).val = .agg #[.slice tB.g.RA tB.g.rules.length tB.g.rc, .slice (some ⟨gN, 0, none⟩) tB.g.nodes.length tB.g.nc, .slice (some ⟨gP, 0, none⟩) tB.g.rules.length tB.pc, .slice (some ⟨gQ, 0, none⟩) tB.g.nodes.length tB.qc, .slice (some ⟨gM, 0, none⟩) tB.g.nodes.length tB.mc] := by
              show Value.agg #[.slice tB.g.RA tB.g.rules.length tB.g.rc, .slice tB.g.NA tB.g.nodes.length tB.g.nc, .slice tB.PA (mvk tB.rp m _).length tB.pc, .slice tB.QA (mvk tB.np m _).length tB.qc, .slice tB.MA (nmk tB wd _).length tB.mc] = _
              rw [mvk_len, mvk_len, nmk_len, SP.out.hN, SP.out.hP, SP.out.hQ, SP.out.hM, SP.out.e1, SP.out.e2, SP.out.e3]
            rw [e] at h
            exact h.mono fun e w' r => resD_of EC0.out EC1.out r)
          clear ec1 hneg
          clear TC
          go_upto_region 21 with fail
          clear T0 RW LO C1 C2 C3 B1 B2 B3
          go_upto_region 22 with (first | (go_at_call 25; (with_reducible refine (RU.out).mono ?_); rintro e w4 ⟨hb, gC, rfl, hga, hg1, hg2⟩; have B4 := Lib.hid (show Below w.heap.size w w4 from LW2.out.trans (hb.mono LW2.out.size)); have C4 := Lib.hid hb; have GC := Lib.hid hga; have GC1 := Lib.hid hg1; have GC2 := Lib.hid hg2; clear hb hga hg1 hg2) | (refine wpList_store_whole rfl 25 (.tmp 16) (.tmp 100) rfl w4.heap.size #[.slice gC.RA gC.rules.length gC.rc, .slice gC.NA gC.nodes.length gC.nc] rfl rfl 25 _ (two_blksg w4 #[.slice none 0 0, .slice none 0 0] #[.int .i64 0, .int .i64 0] 25 38).1 (by kernel_rfl) (by rfl) (by simp [Value.oneCell']) ?_; intro x4 hk2 hg2; have K2 := Lib.hid hk2; have G2 := Lib.hid hg2; have D2 := Lib.hid ((two_blksg w4 #[.slice none 0 0, .slice none 0 0] #[.int .i64 0, .int .i64 0] 25 38).2.grown hg2 (by simp)); clear hk2 hg2) | (refine wpList_store_whole rfl 38 (.tmp 17) (.tmp 101) rfl (w4.heap.size + 1) #[.int .i64 a0, .int .i64 c1] rfl rfl 38 _ D2.out (by kernel_rfl) (by rfl) (by simp [Value.oneCell']) ?_; intro u4 hk3 hg3; have H4 := Lib.hid (pair_setg B4.out B4.out.size G2.out K2.out hg3 hk3); clear hk3 hg3))
          clear K2 G2 D2
          have L4 := Lib.hid H4.out.1
          have N4 := Lib.hid (C4.out.trans (H4.out.2.1.mono C4.out.size))
          have P24 := Lib.hid (HR.out.low.trans (N4.out.mono HR.out.low.size))
          have K10 := Lib.hid (H2.out.2.2.2.below' P24.out)
          have K9 := Lib.hid (H2.out.2.2.1.below' P24.out)
          have K16 := Lib.hid H4.out.2.2.1
          have K17 := Lib.hid H4.out.2.2.2
          have GA4 := Lib.hid ((GA.out.below H2.out.2.1).below P24.out)
          have GC4 := Lib.hid (GC.out.below H4.out.2.1)
          have WN := Lib.hid (show why (turned tB wd m tB.np.length tB.rp.length) = none ↔ why tA = none by rw [TU.out.2.2]; simp)
          have SG := Lib.hid (fun (_ : Unit) => show Calls Tryz.prog 18 #[.agg #[.slice gA.RA gA.rules.length gA.rc, .slice gA.NA gA.nodes.length gA.nc], .agg #[.slice gC.RA gC.rules.length gC.rc, .slice gC.NA gC.nodes.length gC.nc]] u4 (fun e w' => e = .returned (.bool true) ∧ Below u4.heap.size u4 w') from by
            have h := kitGram_any gA gC u4 GA4.out GC4.out
            rw [res_same TU.out.2.1 WN.out GA1.out (fun h => (GA2.out h).1) GC1.out (fun h => (GC2.out h).1)] at h
            exact h)
          have x0 := K10.out.cell 0; have x1 := K10.out.cell 1; have y0 := K17.out.cell 0; have y1 := K17.out.cell 1
          have z0 := K9.out.cell 0; have z1 := K9.out.cell 1; have v0 := K16.out.cell 0; have v1 := K16.out.cell 1
          simp only [List.getElem?_toArray, List.getElem?_cons_zero, List.getElem?_cons_succ] at x0 x1 y0 y1 z0 z1 v0 v1
          have L4' := Lib.hid L4.out
          clear q0 q1 q2 q3 q4 RU N4 L4
          cases hy : why tA with
          | some p =>
            have hne0 : why tA ≠ none := by rw [hy]; intro h; cases h
            have ha0 : a0 ≠ 0 := by rw [EA0.out]; exact (NM.out.2.2 hne0).1
            have hc1 : c1 = a1 + m := by rw [EC1.out, TU.out.2.2, EA1.out]; exact (NM.out.2.2 hne0).2
            have hb1 : 0 ≤ a1 ∧ a1 ≤ 1000 := by have := BD.out; rw [← EA1.out] at this; have := LZ.out; omega
            have hw : IntKind.wrap .i64 (a1 + m) = a1 + m := by rw [IntKind.wrap_i64]; omega
            have hg0 := GA1.out hne0
            have e1 : gA.rules.length = 0 := by rw [hg0]; rfl
            have e2 : gA.nodes.length = 0 := by rw [hg0]; rfl
            have hne : (a0 == 0) = false := by simpa using ha0
            rw [hc1] at y1
            rw [e1, e2] at SG
            rw [e1] at z0
            rw [e2] at z1
            have HZ := Lib.hid (show (wrap64 ((gA.rules.length : Int) + (gA.nodes.length : Int)) == 0) = true by rw [e1, e2]; first | rfl | (simp [wrap64]; done) | (unfold wrap64; simp; done) | (unfold wrap64; omega))
            clear hy hne0 hc1 hg0 e1 e2
            go_wp2_with (go_at_call 18; (with_reducible refine (SG.out ()).mono ?_); rintro e w5 ⟨rfl, hb⟩; have B5 := Lib.hid (L4'.out.trans (hb.mono L4'.out.size)); have K10b := Lib.hid (K10.out.below' hb); have K9b := Lib.hid (K9.out.below' hb); have x0' := K10b.out.cell 0; have z0' := K9b.out.cell 0; have z1' := K9b.out.cell 1; simp only [List.getElem?_toArray, List.getElem?_cons_zero, List.getElem?_cons_succ] at x0' z0' z1'; clear hb)
            go_ret
            exact ⟨by rw [HZ.out]; rfl, B5.out⟩
          | none =>
            have ha0 : a0 = 0 := by rw [EA0.out]; exact (NM.out.2.1 hy).1
            subst ha0
            have HY := Lib.hid hy
            clear hy
            go_upto_region 26 with (go_at_call 18; (with_reducible refine (SG.out ()).mono ?_); rintro e w5 ⟨rfl, hb⟩; have B5 := Lib.hid (L4'.out.trans (hb.mono L4'.out.size)); have C5 := Lib.hid hb; have K10b := Lib.hid (K10.out.below' hb); have K9b := Lib.hid (K9.out.below' hb); have x0' := K10b.out.cell 0; have z0' := K9b.out.cell 0; have z1' := K9b.out.cell 1; simp only [List.getElem?_toArray, List.getElem?_cons_zero, List.getElem?_cons_succ] at x0' z0' z1'; clear hb)
            have RL := Lib.hid (show Calls Tryz.prog 33 #[.agg #[.slice gA.RA gA.rules.length gA.rc, .slice gA.NA gA.nodes.length gA.nc], .string ⟨#[95, 110, 101, 119]⟩] w5 (fun e w' => e = .returned (.int .i64 (ruleAt gA.rules ⟨#[95, 110, 101, 119]⟩)) ∧ Below w5.heap.size w5 w') from rule_any gA ⟨#[95, 110, 101, 119]⟩ w5 (GA4.out.below C5.out))
            obtain ⟨rn, ern⟩ : ∃ q, q = ruleAt gA.rules ⟨#[95, 110, 101, 119]⟩ := ⟨_, rfl⟩
            rw [← ern] at RL
            have ERN := Lib.hid ern
            clear ern
            by_cases hrn : rn < 0
            · go_upto_region 27 with (go_at_call 33; (with_reducible refine RL.out.mono ?_); rintro e w6 ⟨rfl, hb⟩; have B6 := Lib.hid (B5.out.trans (hb.mono B5.out.size)); have C6 := Lib.hid (C5.out.trans (hb.mono C5.out.size)); clear hb)
              have EF := Lib.hid (show ruleAt gA.rules ⟨#[95, 110, 101, 119]⟩ < 0 by rw [← ERN.out]; exact hrn)
              have FR := Lib.hid (show ∀ i, i < tA.g.rules.length → (tA.g.rules.getD i Rl.zero).name ≠ bsv newNm from by
                have h1 : gA.rules = tA.g.rules := (GA2.out HY.out).1.rules
                have h2 := rule_fresh EF.out
                rw [h1] at h2
                rw [bsv_new]
                exact h2)
              have hz5 : (l ++ ([10] ++ newL)).length ≤ 16384 := by have := LZ.out; rw [List.length_append]; simp [newL]; omega
              have hn5 : N + 5 ≤ (l ++ ([10] ++ newL)).length := by have := NL.out; rw [List.length_append]; simp [newL]; omega
              have XV := Lib.hid (text_sep (HS.out.append str_more) hz5 MR.out.2.1 hn5 MR.out.2.2.1 MR.out.2.2.2.1 MR.out.2.2.2.2.1 w6 (TT.out.below B6.out))
              have GVV := Lib.hid (got (MR.out.1) hz5 MR.out.2.1 hn5 MR.out.2.2.1 MR.out.2.2.2.1 MR.out.2.2.2.2.1)
              have ZN := Lib.hid (And.intro hz5 hn5)
              clear hz5 hn5 x0 x1 y0 y1 z0 z1 v0 v1 x0' z0' z1'
              go_upto_region 28 with (first | (go_at_call 15; (with_reducible refine (XV.out).mono ?_); rintro e w7 ⟨hb, tV, tbV, rfl, hat, hsy, _, _⟩; have B7 := Lib.hid (show Below w.heap.size w w7 from B6.out.trans (hb.mono B6.out.size)); have C7 := Lib.hid hb; have AV := Lib.hid hat; have SV := Lib.hid hsy; clear hb hat hsy) | (refine wpList_store_whole rfl 36 (.tmp 18) (.tmp 145) rfl w7.heap.size #[.slice tV.g.RA tV.g.rules.length tV.g.rc, .slice tV.g.NA tV.g.nodes.length tV.g.nc, .slice tV.PA tV.rp.length tV.pc, .slice tV.QA tV.np.length tV.qc, .slice tV.MA tV.nm.length tV.mc] rfl rfl 36 _ (two_blksg w7 #[.slice none 0 0, .slice none 0 0, .slice none 0 0, .slice none 0 0, .slice none 0 0] #[.int .i64 0, .int .i64 0] 36 38).1 (by kernel_rfl) (by rfl) (by simp [Value.oneCell']) ?_; intro x7 hk2 hg2; have K2 := Lib.hid hk2; have G2 := Lib.hid hg2; have D2 := Lib.hid ((two_blksg w7 #[.slice none 0 0, .slice none 0 0, .slice none 0 0, .slice none 0 0, .slice none 0 0] #[.int .i64 0, .int .i64 0] 36 38).2.grown hg2 (by simp)); clear hk2 hg2) | (refine wpList_store_whole rfl 38 (.tmp 19) (.tmp 146) rfl (w7.heap.size + 1) #[.int .i64 0, .int .i64 0] rfl rfl 38 _ D2.out (by kernel_rfl) (by rfl) (by simp [Value.oneCell']) ?_; intro u7 hk3 hg3; have H7 := Lib.hid (pair_setg B7.out B7.out.size G2.out K2.out hg3 hk3); clear hk3 hg3))
              clear K2 G2 D2
              have L7 := Lib.hid H7.out.1
              have N7 := Lib.hid (C7.out.trans (H7.out.2.1.mono C7.out.size))
              have q0 := H7.out.2.2.1.cell 0; have q1 := H7.out.2.2.1.cell 1; have q2 := H7.out.2.2.1.cell 2; have q3 := H7.out.2.2.1.cell 3; have q4 := H7.out.2.2.1.cell 4
              simp only [List.getElem?_toArray, List.getElem?_cons_zero, List.getElem?_cons_succ] at q0 q1 q2 q3 q4
              have MO := Lib.hid (says_more SA.out SV.out FR.out)
              have RV := Lib.hid (show Calls Tryz.prog 25 #[.agg #[.slice tV.g.RA tV.g.rules.length tV.g.rc, .slice tV.g.NA tV.g.nodes.length tV.g.nc, .slice tV.PA tV.rp.length tV.pc, .slice tV.QA tV.np.length tV.qc, .slice tV.MA tV.nm.length tV.mc]] u7 (ResOk tV u7) from (resolve_says (AV.out.below H7.out.2.1) SV.out GVV.out ZN.out.1 ZN.out.2).mono fun e w' h => resOk_of (why_more MO.out HY.out) h)
              go_upto_region 29 with (first | (go_at_call 25; (with_reducible refine (RV.out).mono ?_); rintro e w8 ⟨hb, gV, rfl, hga, hgt, hcr, hcn⟩; have B8 := Lib.hid (show Below w.heap.size w w8 from L7.out.trans (hb.mono L7.out.size)); have C8 := Lib.hid hb; have GVA := Lib.hid hga; have GVT := Lib.hid hgt; have GVC := Lib.hid (And.intro hcr hcn); clear hb hga hgt hcr hcn) | (refine wpList_store_whole rfl 25 (.tmp 20) (.tmp 150) rfl w8.heap.size #[.slice gV.RA gV.rules.length gV.rc, .slice gV.NA gV.nodes.length gV.nc] rfl rfl 25 _ (two_blksg w8 #[.slice none 0 0, .slice none 0 0] #[.int .i64 0, .int .i64 0] 25 38).1 (by kernel_rfl) (by rfl) (by simp [Value.oneCell']) ?_; intro x8 hk2 hg2; have K2 := Lib.hid hk2; have G2 := Lib.hid hg2; have D2 := Lib.hid ((two_blksg w8 #[.slice none 0 0, .slice none 0 0] #[.int .i64 0, .int .i64 0] 25 38).2.grown hg2 (by simp)); clear hk2 hg2) | (refine wpList_store_whole rfl 38 (.tmp 21) (.tmp 151) rfl (w8.heap.size + 1) #[.int .i64 0, .int .i64 0] rfl rfl 38 _ D2.out (by kernel_rfl) (by rfl) (by simp [Value.oneCell']) ?_; intro u8 hk3 hg3; have H8 := Lib.hid (pair_setg B8.out B8.out.size G2.out K2.out hg3 hk3); clear hk3 hg3))
              clear K2 G2 D2
              have L8 := Lib.hid H8.out.1
              have N8 := Lib.hid (C8.out.trans (H8.out.2.1.mono C8.out.size))
              clear q0 q1 q2 q3 q4
              have Q8 := Lib.hid ((C6.out.trans (N7.out.mono C6.out.size)).trans (N8.out.mono (Nat.le_trans C6.out.size N7.out.size)))
              have GV8 := Lib.hid (GVA.out.below H8.out.2.1)
              have MS := Lib.hid (fun (y : Gr) (h1 : y.rules = gV.rules.take gA.rules.length) (h2 : y.nodes = gV.nodes.take gA.nodes.length) => MO.out.same (why_none HY.out).2 (GA2.out HY.out).1 GVT.out h1 h2)
              have hr1 : gV.rules.length = gA.rules.length + 1 := (MS.out ⟨none, 0, _, none, 0, _⟩ rfl rfl).1
              have hn1 : gV.nodes.length = gA.nodes.length + 1 := (MS.out ⟨none, 0, _, none, 0, _⟩ rfl rfl).2.1
              have hc1 : gA.rules.length ≤ gV.rc := by have := GVC.out.1; omega
              have hc2 : gA.nodes.length ≤ gV.nc := by have := GVC.out.2; omega
              obtain ⟨bR, oR, eR, _, _⟩ := GV8.out.rules (by omega)
              obtain ⟨bN, oN, eN, _, _⟩ := GV8.out.nodes (by omega)
              have hgr := (GA4.out.below Q8.out).rl
              have hgn := (GA4.out.below Q8.out).nl
              have y0 := (H7.out.2.2.2.below' N8.out).cell 0
              have x0 := H8.out.2.2.2.cell 0; have x1 := H8.out.2.2.2.cell 1
              have r0 := H8.out.2.2.1.cell 0; have r1 := H8.out.2.2.1.cell 1
              have K9d := Lib.hid (K9.out.below' Q8.out)
              have z0 := K9d.out.cell 0; have z1 := K9d.out.cell 1
              have f0 := H8.out.2.2.1.frozen 0; have f1 := H8.out.2.2.1.frozen 1
              simp only [List.getElem?_toArray, List.getElem?_cons_zero, List.getElem?_cons_succ] at y0 x0 x1 r0 r1 z0 z1
              rw [hr1, eR] at r0
              rw [hn1, eN] at r1
              have HLL := Lib.hid (And.intro hr1 hn1)
              have ERR := Lib.hid (And.intro eR eN)
              clear hr1 hn1 eR eN
              go_upto_region 31 with fail
              go_upto_region 32 with fail
              obtain ⟨W5, eW5⟩ : ∃ W, W = u8.setCell ⟨w8.heap.size, 0, none⟩ (.slice (some ⟨bR, oR, none⟩) gA.rules.length gV.rc) := ⟨_, rfl⟩
              rw [← eW5]
              have hlo : u4.heap.size ≤ w8.heap.size := Nat.le_trans (Nat.le_trans C6.out.size N7.out.size) C8.out.size
              have hlw : w.heap.size ≤ w8.heap.size := Nat.le_trans (Nat.le_trans B6.out.size N7.out.size) C8.out.size
              have KW5 := Lib.hid (show Blk W5 w8.heap.size #[.slice (some ⟨bR, oR, none⟩) gA.rules.length gV.rc, .slice gV.NA gV.nodes.length gV.nc] 25 from by rw [eW5]; exact heap_setCell_same u8 w8.heap.size 0 #[.slice gV.RA gV.rules.length gV.rc, .slice gV.NA gV.nodes.length gV.nc] 25 _ H8.out.2.2.1)
              have QW5 := Lib.hid (show Below u4.heap.size u4 W5 from by rw [eW5]; exact Q8.out.setCell hlo _)
              have LW5 := Lib.hid (show Below w.heap.size w W5 from by rw [eW5]; exact L8.out.setCell hlw _)
              have VW5 := Lib.hid (show Below w8.heap.size w8 W5 from by rw [eW5]; exact H8.out.2.1.setCell (Nat.le_refl _) _)
              have HLO := Lib.hid (And.intro hlo hlw)
              clear eW5 y0 x0 x1 r0 r1 z0 z1 f0 f1 hlo hlw
              have r1 := KW5.out.cell 1
              have f1 := KW5.out.frozen 1
              have z1 := (K9.out.below' QW5.out).cell 1
              simp only [List.getElem?_toArray, List.getElem?_cons_zero, List.getElem?_cons_succ] at r1 z1
              rw [HLL.out.2, ERR.out.2] at r1
              go_upto_region 33 with fail
              obtain ⟨W6, eW6⟩ : ∃ W, W = W5.setCell ⟨w8.heap.size, 1, none⟩ (.slice (some ⟨bN, oN, none⟩) gA.nodes.length gV.nc) := ⟨_, rfl⟩
              rw [← eW6]
              have KW6 := Lib.hid (show Blk W6 w8.heap.size #[.slice (some ⟨bR, oR, none⟩) gA.rules.length gV.rc, .slice (some ⟨bN, oN, none⟩) gA.nodes.length gV.nc] 25 from by rw [eW6]; exact heap_setCell_same W5 w8.heap.size 1 #[.slice (some ⟨bR, oR, none⟩) gA.rules.length gV.rc, .slice gV.NA gV.nodes.length gV.nc] 25 _ KW5.out)
              have QW6 := Lib.hid (show Below u4.heap.size u4 W6 from by rw [eW6]; exact QW5.out.setCell HLO.out.1 _)
              have LW6 := Lib.hid (show Below w.heap.size w W6 from by rw [eW6]; exact LW5.out.setCell HLO.out.2 _)
              have VW6 := Lib.hid (show Below w8.heap.size w8 W6 from by rw [eW6]; exact VW5.out.setCell (Nat.le_refl _) _)
              clear eW6 r1 f1 z1
              have r0 := KW6.out.cell 0
              have r1 := KW6.out.cell 1
              have z0 := (K9.out.below' QW6.out).cell 0
              have z1 := (K9.out.below' QW6.out).cell 1
              simp only [List.getElem?_toArray, List.getElem?_cons_zero, List.getElem?_cons_succ] at r0 r1 z0 z1
              have SGV := Lib.hid (show Calls Tryz.prog 18 #[.agg #[.slice (some ⟨bR, oR, none⟩) gA.rules.length gV.rc, .slice (some ⟨bN, oN, none⟩) gA.nodes.length gV.nc], .agg #[.slice gA.RA gA.rules.length gA.rc, .slice gA.NA gA.nodes.length gA.nc]] W6 (fun e w' => e = .returned (.bool true) ∧ Below W6.heap.size W6 w') from by
                have h := kitGram_any ⟨gV.RA, gV.rc, gV.rules.take gA.rules.length, gV.NA, gV.nc, gV.nodes.take gA.nodes.length⟩ gA W6 (gr_cut (GVA.out.below VW6.out) _ _) (GA4.out.below QW6.out)
                rw [(MS.out ⟨gV.RA, gV.rc, gV.rules.take gA.rules.length, gV.NA, gV.nc, gV.nodes.take gA.nodes.length⟩ rfl rfl).2.2] at h
                have e1 : (gV.rules.take gA.rules.length).length = gA.rules.length := by rw [List.length_take, HLL.out.1]; omega
                have e2 : (gV.nodes.take gA.nodes.length).length = gA.nodes.length := by rw [List.length_take, HLL.out.2]; omega
                have e : (⟨gV.RA, gV.rc, gV.rules.take gA.rules.length, gV.NA, gV.nc, gV.nodes.take gA.nodes.length⟩ : Gr).val = .agg #[.slice (some ⟨bR, oR, none⟩) gA.rules.length gV.rc, .slice (some ⟨bN, oN, none⟩) gA.nodes.length gV.nc] := by
                  show Value.agg #[.slice gV.RA (gV.rules.take gA.rules.length).length gV.rc, .slice gV.NA (gV.nodes.take gA.nodes.length).length gV.nc] = _
                  rw [e1, e2, ERR.out.1, ERR.out.2]
                rw [e] at h
                exact h)
              go_upto_region 35 with (go_at_call 18; (with_reducible refine SGV.out.mono ?_); rintro e w9 ⟨rfl, hb⟩; have B9 := Lib.hid (LW6.out.trans (hb.mono LW6.out.size)); have C9 := Lib.hid (QW6.out.trans (hb.mono QW6.out.size)); clear hb)
              clear r0 r1 z0 z1 hgr hgn hc1 hc2
              have P3 := Lib.hid (N2.out.trans (P24.out.mono N2.out.size))
              have K7 := Lib.hid (H1.out.2.2.1.below' P3.out)
              have AA4 := Lib.hid ((AA.out.below H1.out.2.1).below P3.out)
              have HL := Lib.hid (show tA.nm.length = gA.nodes.length by
                have a := SA.out.nlen; have b := (GA2.out HY.out).1.len; have c : (resG tA).nodes.length = tA.g.nodes.length := part_len _ _ _; omega)
              have CN := Lib.hid (fun n hn hc => calls_named (n := n) (why_none HY.out).2 (GA2.out HY.out).1 hn hc)
              have GA6 := Lib.hid (GA4.out.below C9.out)
              have AA6 := Lib.hid (AA4.out.below C9.out)
              have K9c := Lib.hid (K9.out.below' C9.out)
              have K7c := Lib.hid (K7.out.below' C9.out)
              have hgl := GA6.out.nl
              go_wp2_with fail
              go_loopw [22] (fun i wr3 => ∃ k : Nat, k ≤ gA.nodes.length ∧ i = .int .i64 k ∧ Below w9.heap.size w9 wr3) (fun i _ => gA.nodes.length - (intOf i).toNat)
              case atStart => exact ⟨0, by omega, by go_num, Below.refl _ _⟩
              case round =>
                obtain ⟨k, hk, rfl, hb⟩ := hrel
                have HB := Lib.hid hb
                have z0 := (K9c.out.below' hb).cell 0; have z1 := (K9c.out.below' hb).cell 1; have v4 := (K7c.out.below' hb).cell 4
                simp only [List.getElem?_toArray, List.getElem?_cons_zero, List.getElem?_cons_succ] at z0 z1 v4
                by_cases hlt : k < gA.nodes.length
                · have hlt2 : (k : Int) < gA.nodes.length := by omega
                  obtain ⟨bN, oN, eN, hbN, n0, _, _, _, _, _, n6, _⟩ := (GA6.out.below hb).nodes.nine hlt
                  rw [eN] at z1
                  by_cases h5 : (gA.nodes.getD k Nd.zero).kind = 5
                  · obtain ⟨ri, h6, h7, h8⟩ := CN.out k hlt h5
                    have h7b : (ri : Int) < gA.rules.length := by omega
                    have hgr := GA6.out.rl
                    obtain ⟨bR, oR, eR, hbR, cR⟩ := (GA6.out.below hb).rules (by omega)
                    obtain ⟨bM, oM, eM, hbM, cM⟩ := lies_at (AA6.out.below hb).nm (k := k) (by rw [HL.out]; exact hlt)
                    have c1 := (cR ri h7).1
                    rw [h8] at c1
                    rw [h5] at n0
                    rw [h6] at n6
                    rw [eR] at z0
                    rw [eM, HL.out] at v4
                    generalize tA.nm.getD k ByteArray.empty = nmv at c1 cM
                    clear hb eN eR eM cR h5 h6 h8 h7
                    go_wp2_with fail
                    go_quiet (fail)
                    go_wp2_with fail
                    go_roundw
                    case rel => exact ⟨k + 1, by omega, by go_num, bdrewN HB.out⟩
                    case measure => simp [intOf]; omega
                  · have hk5 : ((gA.nodes.getD k Nd.zero).kind == 5) = false := by simpa using h5
                    generalize (gA.nodes.getD k Nd.zero).kind = kd at n0 hk5
                    clear hb eN h5 n6
                    go_wp2_with fail
                    go_quiet (fail)
                    go_wp2_with fail
                    go_roundw
                    case rel => exact ⟨k + 1, by omega, by go_num, bdrewN HB.out⟩
                    case measure => simp [intOf]; omega
                · obtain rfl : k = gA.nodes.length := by omega
                  have hneg : ¬ (gA.nodes.length : Int) < gA.nodes.length := by omega
                  clear hb
                  go_wp2_with fail
                  go_ret
                  exact ⟨rfl, B9.out.trans (HB.out.mono B9.out.size)⟩
            · have P3 := Lib.hid (N2.out.trans (P24.out.mono N2.out.size))
              have K7 := Lib.hid (H1.out.2.2.1.below' P3.out)
              have AA4 := Lib.hid ((AA.out.below H1.out.2.1).below P3.out)
              have HL := Lib.hid (show tA.nm.length = gA.nodes.length by
                have a := SA.out.nlen; have b := (GA2.out HY.out).1.len; have c : (resG tA).nodes.length = tA.g.nodes.length := part_len _ _ _; omega)
              have CN := Lib.hid (fun n hn hc => calls_named (n := n) (why_none HY.out).2 (GA2.out HY.out).1 hn hc)
              go_upto_region 35 with (go_at_call 33; (with_reducible refine RL.out.mono ?_); rintro e w6 ⟨rfl, hb⟩; have B6 := Lib.hid (B5.out.trans (hb.mono B5.out.size)); have C6 := Lib.hid (C5.out.trans (hb.mono C5.out.size)); clear hb)
              have GA6 := Lib.hid (GA4.out.below C6.out)
              have AA6 := Lib.hid (AA4.out.below C6.out)
              have K9c := Lib.hid (K9.out.below' C6.out)
              have K7c := Lib.hid (K7.out.below' C6.out)
              have hgl := GA6.out.nl
              clear x0 x1 y0 y1 z0 z1 v0 v1 x0' z0' z1'
              go_wp2_with fail
              go_loopw [22] (fun i wr3 => ∃ k : Nat, k ≤ gA.nodes.length ∧ i = .int .i64 k ∧ Below w6.heap.size w6 wr3) (fun i _ => gA.nodes.length - (intOf i).toNat)
              case atStart => exact ⟨0, by omega, by go_num, Below.refl _ _⟩
              case round =>
                obtain ⟨k, hk, rfl, hb⟩ := hrel
                have HB := Lib.hid hb
                have z0 := (K9c.out.below' hb).cell 0; have z1 := (K9c.out.below' hb).cell 1; have v4 := (K7c.out.below' hb).cell 4
                simp only [List.getElem?_toArray, List.getElem?_cons_zero, List.getElem?_cons_succ] at z0 z1 v4
                by_cases hlt : k < gA.nodes.length
                · have hlt2 : (k : Int) < gA.nodes.length := by omega
                  obtain ⟨bN, oN, eN, hbN, n0, _, _, _, _, _, n6, _⟩ := (GA6.out.below hb).nodes.nine hlt
                  rw [eN] at z1
                  by_cases h5 : (gA.nodes.getD k Nd.zero).kind = 5
                  · obtain ⟨ri, h6, h7, h8⟩ := CN.out k hlt h5
                    have h7b : (ri : Int) < gA.rules.length := by omega
                    have hgr := GA6.out.rl
                    obtain ⟨bR, oR, eR, hbR, cR⟩ := (GA6.out.below hb).rules (by omega)
                    obtain ⟨bM, oM, eM, hbM, cM⟩ := lies_at (AA6.out.below hb).nm (k := k) (by rw [HL.out]; exact hlt)
                    have c1 := (cR ri h7).1
                    rw [h8] at c1
                    rw [h5] at n0
                    rw [h6] at n6
                    rw [eR] at z0
                    rw [eM, HL.out] at v4
                    generalize tA.nm.getD k ByteArray.empty = nmv at c1 cM
                    clear hb eN eR eM cR h5 h6 h8 h7
                    go_wp2_with fail
                    go_quiet (fail)
                    go_wp2_with fail
                    go_roundw
                    case rel => exact ⟨k + 1, by omega, by go_num, bdrewN HB.out⟩
                    case measure => simp [intOf]; omega
                  · have hk5 : ((gA.nodes.getD k Nd.zero).kind == 5) = false := by simpa using h5
                    generalize (gA.nodes.getD k Nd.zero).kind = kd at n0 hk5
                    clear hb eN h5 n6
                    go_wp2_with fail
                    go_quiet (fail)
                    go_wp2_with fail
                    go_roundw
                    case rel => exact ⟨k + 1, by omega, by go_num, bdrewN HB.out⟩
                    case measure => simp [intOf]; omega
                · obtain rfl : k = gA.nodes.length := by omega
                  have hneg : ¬ (gA.nodes.length : Int) < gA.nodes.length := by omega
                  clear hb
                  go_wp2_with fail
                  go_ret
                  exact ⟨rfl, B6.out.trans (HB.out.mono B6.out.size)⟩
end Go.Proofs.YtfghfnpiaccfaaaGreatDoor.J

/- The chapter's examples: the law's own walk of them. -/
import Derived.Test.YtfghfnpiaccfaaaGreatDoorD6
set_option linter.unusedSimpArgs false
set_option linter.unusedVariables false
namespace Go.Proofs.YtfghfnpiaccfaaaGreatDoor.J
open Go Go.RowKit
@[go_sem] theorem eqDiag (a b c d : Int) (w : World) : (Op.equalIn 10000 38 (.agg #[.int .i64 a, .int .i64 b]) (.agg #[.int .i64 c, .int .i64 d])).run Tryz.prog w = .ok (a == c && b == d) w := by
  have u3 := Tryz.underlying3
  have a3 := Tryz.isAgg3
  have z3 := Tryz.sizeOf3
  have u9 := Tryz.underlying28
  have a9 := Tryz.isAgg28
  have z9 := Tryz.sizeOf28
  rw [show (10000 : Nat) = 9999 + 1 from rfl, Op.equalIn]
  simp only [Sem.run_bind, run_underlying Tryz.underlying38, Result.andThen_ok]
  go_simp
  by_cases h1 : a = c <;> by_cases h2 : b = d <;> simp [h1, h2]
/-- Two numbers in a row that is told. -/
def Row2 (w : World) (e : Ending) (w' : World) : Prop := (∃ A c, e = .returned (.slice A 2 c) ∧ w'.ownsRow w.heap.size 3 1 (.slice A 2 c) 2 (ints [0, 1])) ∧ Below w.heap.size w w'
theorem row2_of {w : World} {e : Ending} {w' : World} (h : Row w [0, 1] e w') : Row2 w e w' := by
  obtain ⟨⟨v, rfl, ho, _⟩, hb⟩ := h
  obtain ⟨A, c, rfl, _, _⟩ := own_slice ho
  exact ⟨⟨A, c, rfl, ho⟩, hb⟩
theorem row0_of {w : World} {e : Ending} {w' : World} (h : Row w [] e w') : e = .returned (.slice none 0 0) ∧ Below w.heap.size w w' := by
  obtain ⟨⟨v, rfl, _, hn⟩, hb⟩ := h
  exact ⟨by rw [hn.2 rfl], hb⟩
set_option maxRecDepth 100000 in
set_option maxHeartbeats 8000000 in
theorem awake_any (w : World) (hT : Tab w) : Calls Tryz.prog 20 #[] w fun e w' => e = .returned (.bool true) ∧ Below w.heap.size w w' := by
  have HT := Lib.hid hT
  have XA := Lib.hid (textA w hT)
  clear hT
  go_enter Tryz.func20, Tryz.ntmps20
  go_upto_region 2 with (first | (go_at_call 15; (with_reducible refine (XA.out).mono ?_); rintro e w1 ⟨hb, tA, rfl, hat, hsy, hgo⟩; have B1 := Lib.hid (show Below w.heap.size w w1 from hb); have C1 := Lib.hid hb; have AA := Lib.hid hat; have SA := Lib.hid hsy; have GA := Lib.hid hgo; clear hb hat hsy hgo) | (refine wpList_store_whole rfl 36 (.tmp 1) (.tmp 15) rfl w1.heap.size #[.slice tA.g.RA tA.g.rules.length tA.g.rc, .slice tA.g.NA tA.g.nodes.length tA.g.nc, .slice tA.PA tA.rp.length tA.pc, .slice tA.QA tA.np.length tA.qc, .slice tA.MA tA.nm.length tA.mc] rfl rfl 36 _ (two_blksg w1 #[.slice none 0 0, .slice none 0 0, .slice none 0 0, .slice none 0 0, .slice none 0 0] #[.int .i64 0, .int .i64 0] 36 38).1 (by kernel_rfl) (by rfl) (by simp [Value.oneCell']) ?_; intro x1 hk2 hg2; have K2 := Lib.hid hk2; have G2 := Lib.hid hg2; have D2 := Lib.hid ((two_blksg w1 #[.slice none 0 0, .slice none 0 0, .slice none 0 0, .slice none 0 0, .slice none 0 0] #[.int .i64 0, .int .i64 0] 36 38).2.grown hg2 (by simp)); clear hk2 hg2) | (refine wpList_store_whole rfl 38 (.tmp 2) (.tmp 16) rfl (w1.heap.size + 1) #[.int .i64 0, .int .i64 0] rfl rfl 38 _ D2.out (by kernel_rfl) (by rfl) (by simp [Value.oneCell']) ?_; intro u1 hk3 hg3; have H1 := Lib.hid (pair_setg B1.out B1.out.size G2.out K2.out hg3 hk3); clear hk3 hg3))
  clear K2 G2 D2
  have L1 := Lib.hid H1.out.1
  have N1 := Lib.hid (C1.out.trans (H1.out.2.1.mono C1.out.size))
  have q0 := H1.out.2.2.1.cell 0
  have q1 := H1.out.2.2.1.cell 1
  have q2 := H1.out.2.2.1.cell 2
  have q3 := H1.out.2.2.1.cell 3
  have q4 := H1.out.2.2.1.cell 4
  simp only [List.getElem?_toArray, List.getElem?_cons_zero, List.getElem?_cons_succ] at q0 q1 q2 q3 q4
  have RA := Lib.hid (show Calls Tryz.prog 25 #[.agg #[.slice tA.g.RA tA.g.rules.length tA.g.rc, .slice tA.g.NA tA.g.nodes.length tA.g.nc, .slice tA.PA tA.rp.length tA.pc, .slice tA.QA tA.np.length tA.qc, .slice tA.MA tA.nm.length tA.mc]] u1 (fun e w' => (∃ h, e = .returned (.tuple #[.agg #[.slice h.RA h.rules.length h.rc, .slice h.NA h.nodes.length h.nc], dgv 0 0]) ∧ Made w' h ∧ ∃ RA NA A0 A1 A2 A3 rc nc c0 c1 c2 c3, h = exA RA NA A0 A1 A2 A3 rc nc c0 c1 c2 c3) ∧ Below u1.heap.size u1 w') from rsA_any tA u1 SA.out GA.out (AA.out.below H1.out.2.1))
  go_upto_region 3 with (first | (go_at_call 25; (with_reducible refine (RA.out).mono ?_); rintro e w2 ⟨⟨h, rfl, hm, hx⟩, hb⟩; have B2 := Lib.hid (show Below w.heap.size w w2 from L1.out.trans (hb.mono L1.out.size)); have C2 := Lib.hid hb; have M2 := Lib.hid hm; have EX := Lib.hid hx; clear hb hm hx) | (refine wpList_store_whole rfl 25 (.tmp 3) (.tmp 20) rfl w2.heap.size #[.slice h.RA h.rules.length h.rc, .slice h.NA h.nodes.length h.nc] rfl rfl 25 _ (two_blksg w2 #[.slice none 0 0, .slice none 0 0] #[.int .i64 0, .int .i64 0] 25 38).1 (by kernel_rfl) (by rfl) (by simp [Value.oneCell']) ?_; intro x2 hk2 hg2; have K2 := Lib.hid hk2; have G2 := Lib.hid hg2; have D2 := Lib.hid ((two_blksg w2 #[.slice none 0 0, .slice none 0 0] #[.int .i64 0, .int .i64 0] 25 38).2.grown hg2 (by simp)); clear hk2 hg2) | (refine wpList_store_whole rfl 38 (.tmp 4) (.tmp 21) rfl (w2.heap.size + 1) #[.int .i64 0, .int .i64 0] rfl rfl 38 _ D2.out (by kernel_rfl) (by rfl) (by simp [Value.oneCell']) ?_; intro u2 hk3 hg3; have H2 := Lib.hid (pair_setg B2.out B2.out.size G2.out K2.out hg3 hk3); clear hk3 hg3))
  clear K2 G2 D2
  have L2 := Lib.hid H2.out.1
  have N2 := Lib.hid (C2.out.trans (H2.out.2.1.mono C2.out.size))
  clear q0 q1 q2 q3 q4 RA
  have XC := Lib.hid (textC u2 (HT.out.below L2.out))
  go_upto_region 4 with (first | (go_at_call 15; (with_reducible refine (XC.out).mono ?_); rintro e w3 ⟨hb, tC, rfl, hat, hsy, hgo⟩; have B3 := Lib.hid (show Below w.heap.size w w3 from L2.out.trans (hb.mono L2.out.size)); have C3 := Lib.hid hb; have AC := Lib.hid hat; have SC := Lib.hid hsy; have GC := Lib.hid hgo; clear hb hat hsy hgo) | (refine wpList_store_whole rfl 36 (.tmp 5) (.tmp 24) rfl w3.heap.size #[.slice tC.g.RA tC.g.rules.length tC.g.rc, .slice tC.g.NA tC.g.nodes.length tC.g.nc, .slice tC.PA tC.rp.length tC.pc, .slice tC.QA tC.np.length tC.qc, .slice tC.MA tC.nm.length tC.mc] rfl rfl 36 _ (two_blksg w3 #[.slice none 0 0, .slice none 0 0, .slice none 0 0, .slice none 0 0, .slice none 0 0] #[.int .i64 0, .int .i64 0] 36 38).1 (by kernel_rfl) (by rfl) (by simp [Value.oneCell']) ?_; intro x3 hk2 hg2; have K2 := Lib.hid hk2; have G2 := Lib.hid hg2; have D2 := Lib.hid ((two_blksg w3 #[.slice none 0 0, .slice none 0 0, .slice none 0 0, .slice none 0 0, .slice none 0 0] #[.int .i64 0, .int .i64 0] 36 38).2.grown hg2 (by simp)); clear hk2 hg2) | (refine wpList_store_whole rfl 38 (.tmp 6) (.tmp 25) rfl (w3.heap.size + 1) #[.int .i64 0, .int .i64 0] rfl rfl 38 _ D2.out (by kernel_rfl) (by rfl) (by simp [Value.oneCell']) ?_; intro u3 hk3 hg3; have H3 := Lib.hid (pair_setg B3.out B3.out.size G2.out K2.out hg3 hk3); clear hk3 hg3))
  clear K2 G2 D2
  have L3 := Lib.hid H3.out.1
  have N3 := Lib.hid (C3.out.trans (H3.out.2.1.mono C3.out.size))
  have q0 := H3.out.2.2.1.cell 0
  have q1 := H3.out.2.2.1.cell 1
  have q2 := H3.out.2.2.1.cell 2
  have q3 := H3.out.2.2.1.cell 3
  have q4 := H3.out.2.2.1.cell 4
  simp only [List.getElem?_toArray, List.getElem?_cons_zero, List.getElem?_cons_succ] at q0 q1 q2 q3 q4
  have RC := Lib.hid (show Calls Tryz.prog 25 #[.agg #[.slice tC.g.RA tC.g.rules.length tC.g.rc, .slice tC.g.NA tC.g.nodes.length tC.g.nc, .slice tC.PA tC.rp.length tC.pc, .slice tC.QA tC.np.length tC.qc, .slice tC.MA tC.nm.length tC.mc]] u3 (fun e w' => e = .returned (.tuple #[zg, dgv 5 5]) ∧ Below u3.heap.size u3 w') from rsC_any tC u3 SC.out GC.out (AC.out.below H3.out.2.1))
  go_upto_region 5 with (first | (go_at_call 25; (with_reducible refine (RC.out).mono ?_); rintro e w4 ⟨rfl, hb⟩; have B4 := Lib.hid (show Below w.heap.size w w4 from L3.out.trans (hb.mono L3.out.size)); have C4 := Lib.hid hb; skip; clear hb) | (refine wpList_store_whole rfl 25 (.tmp 7) (.tmp 29) rfl w4.heap.size #[.slice none 0 0, .slice none 0 0] rfl rfl 25 _ (two_blksg w4 #[.slice none 0 0, .slice none 0 0] #[.int .i64 0, .int .i64 0] 25 38).1 (by kernel_rfl) (by rfl) (by simp [Value.oneCell']) ?_; intro x4 hk2 hg2; have K2 := Lib.hid hk2; have G2 := Lib.hid hg2; have D2 := Lib.hid ((two_blksg w4 #[.slice none 0 0, .slice none 0 0] #[.int .i64 0, .int .i64 0] 25 38).2.grown hg2 (by simp)); clear hk2 hg2) | (refine wpList_store_whole rfl 38 (.tmp 8) (.tmp 30) rfl (w4.heap.size + 1) #[.int .i64 5, .int .i64 5] rfl rfl 38 _ D2.out (by kernel_rfl) (by rfl) (by simp [Value.oneCell']) ?_; intro u4 hk3 hg3; have H4 := Lib.hid (pair_setg B4.out B4.out.size G2.out K2.out hg3 hk3); clear hk3 hg3))
  clear K2 G2 D2
  have L4 := Lib.hid H4.out.1
  have N4 := Lib.hid (C4.out.trans (H4.out.2.1.mono C4.out.size))
  clear q0 q1 q2 q3 q4 RC
  have XT := Lib.hid (textT u4 (HT.out.below L4.out))
  go_upto_region 6 with (first | (go_at_call 15; (with_reducible refine (XT.out).mono ?_); rintro e w5 ⟨hb, tT, rfl, hat, hsy, hgo⟩; have B5 := Lib.hid (show Below w.heap.size w w5 from L4.out.trans (hb.mono L4.out.size)); have C5 := Lib.hid hb; have AT := Lib.hid hat; have ST := Lib.hid hsy; have GT := Lib.hid hgo; clear hb hat hsy hgo) | (refine wpList_store_whole rfl 36 (.tmp 9) (.tmp 33) rfl w5.heap.size #[.slice tT.g.RA tT.g.rules.length tT.g.rc, .slice tT.g.NA tT.g.nodes.length tT.g.nc, .slice tT.PA tT.rp.length tT.pc, .slice tT.QA tT.np.length tT.qc, .slice tT.MA tT.nm.length tT.mc] rfl rfl 36 _ (two_blksg w5 #[.slice none 0 0, .slice none 0 0, .slice none 0 0, .slice none 0 0, .slice none 0 0] #[.int .i64 0, .int .i64 0] 36 38).1 (by kernel_rfl) (by rfl) (by simp [Value.oneCell']) ?_; intro x5 hk2 hg2; have K2 := Lib.hid hk2; have G2 := Lib.hid hg2; have D2 := Lib.hid ((two_blksg w5 #[.slice none 0 0, .slice none 0 0, .slice none 0 0, .slice none 0 0, .slice none 0 0] #[.int .i64 0, .int .i64 0] 36 38).2.grown hg2 (by simp)); clear hk2 hg2) | (refine wpList_store_whole rfl 38 (.tmp 10) (.tmp 34) rfl (w5.heap.size + 1) #[.int .i64 0, .int .i64 0] rfl rfl 38 _ D2.out (by kernel_rfl) (by rfl) (by simp [Value.oneCell']) ?_; intro u5 hk3 hg3; have H5 := Lib.hid (pair_setg B5.out B5.out.size G2.out K2.out hg3 hk3); clear hk3 hg3))
  clear K2 G2 D2
  have L5 := Lib.hid H5.out.1
  have N5 := Lib.hid (C5.out.trans (H5.out.2.1.mono C5.out.size))
  have q0 := H5.out.2.2.1.cell 0
  have q1 := H5.out.2.2.1.cell 1
  have q2 := H5.out.2.2.1.cell 2
  have q3 := H5.out.2.2.1.cell 3
  have q4 := H5.out.2.2.1.cell 4
  simp only [List.getElem?_toArray, List.getElem?_cons_zero, List.getElem?_cons_succ] at q0 q1 q2 q3 q4
  have RT := Lib.hid (show Calls Tryz.prog 25 #[.agg #[.slice tT.g.RA tT.g.rules.length tT.g.rc, .slice tT.g.NA tT.g.nodes.length tT.g.nc, .slice tT.PA tT.rp.length tT.pc, .slice tT.QA tT.np.length tT.qc, .slice tT.MA tT.nm.length tT.mc]] u5 (fun e w' => e = .returned (.tuple #[zg, dgv 8 8]) ∧ Below u5.heap.size u5 w') from rsT_any tT u5 ST.out GT.out (AT.out.below H5.out.2.1))
  go_upto_region 7 with (first | (go_at_call 25; (with_reducible refine (RT.out).mono ?_); rintro e w6 ⟨rfl, hb⟩; have B6 := Lib.hid (show Below w.heap.size w w6 from L5.out.trans (hb.mono L5.out.size)); have C6 := Lib.hid hb; skip; clear hb) | (refine wpList_store_whole rfl 25 (.tmp 11) (.tmp 38) rfl w6.heap.size #[.slice none 0 0, .slice none 0 0] rfl rfl 25 _ (two_blksg w6 #[.slice none 0 0, .slice none 0 0] #[.int .i64 0, .int .i64 0] 25 38).1 (by kernel_rfl) (by rfl) (by simp [Value.oneCell']) ?_; intro x6 hk2 hg2; have K2 := Lib.hid hk2; have G2 := Lib.hid hg2; have D2 := Lib.hid ((two_blksg w6 #[.slice none 0 0, .slice none 0 0] #[.int .i64 0, .int .i64 0] 25 38).2.grown hg2 (by simp)); clear hk2 hg2) | (refine wpList_store_whole rfl 38 (.tmp 12) (.tmp 39) rfl (w6.heap.size + 1) #[.int .i64 8, .int .i64 8] rfl rfl 38 _ D2.out (by kernel_rfl) (by rfl) (by simp [Value.oneCell']) ?_; intro u6 hk3 hg3; have H6 := Lib.hid (pair_setg B6.out B6.out.size G2.out K2.out hg3 hk3); clear hk3 hg3))
  clear K2 G2 D2
  have L6 := Lib.hid H6.out.1
  have N6 := Lib.hid (C6.out.trans (H6.out.2.1.mono C6.out.size))
  clear q0 q1 q2 q3 q4 RT
  have P3 := Lib.hid (N3.out.trans (N4.out.mono N3.out.size))
  have P5 := Lib.hid (N5.out.trans (N6.out.mono N5.out.size))
  have P := Lib.hid (P3.out.trans (P5.out.mono P3.out.size))
  have PP := Lib.hid (N5.out.trans (N6.out.mono N5.out.size))
  have KG := Lib.hid (H2.out.2.2.1.below' P.out)
  have KD := Lib.hid (H2.out.2.2.2.below' P.out)
  have K8 := Lib.hid (H4.out.2.2.2.below' PP.out)
  have K12 := Lib.hid H6.out.2.2.2
  have M6 := Lib.hid (M2.out.below (H2.out.2.1.trans (P.out.mono H2.out.2.1.size)))
  obtain ⟨bg, ebg⟩ : ∃ b, b = w2.heap.size := ⟨_, rfl⟩
  obtain ⟨b8, eb8⟩ : ∃ b, b = w4.heap.size := ⟨_, rfl⟩
  obtain ⟨b12, eb12⟩ : ∃ b, b = w6.heap.size := ⟨_, rfl⟩
  rw [← ebg] at KG KD ⊢
  rw [← eb8] at K8 ⊢
  rw [← eb12] at K12 ⊢
  have CA0 : RowKit.Hid (∀ W, Below u6.heap.size u6 W → Calls Tryz.prog 30 #[.agg #[.slice h.RA h.rules.length h.rc, .slice h.NA h.nodes.length h.nc], .int .i64 0] W (Row2 W)) := Lib.hid (fun W b => by
    obtain ⟨RA, NA, A0, A1, A2, A3, rc, nc, c0, c1, c2, c3, rfl⟩ := EX.out
    have m := M6.out.below b
    refine (called_any _ 0 (by omega) W m.at_ m.in_ m.cap).mono fun e w' hr => ?_
    rw [(exA_called RA NA A0 A1 A2 A3 rc nc c0 c1 c2 c3).1] at hr
    exact row2_of hr)
  have CA1 : RowKit.Hid (∀ W, Below u6.heap.size u6 W → Calls Tryz.prog 30 #[.agg #[.slice h.RA h.rules.length h.rc, .slice h.NA h.nodes.length h.nc], .int .i64 1] W fun e w' => e = .returned (.slice none 0 0) ∧ Below W.heap.size W w') := Lib.hid (fun W b => by
    obtain ⟨RA, NA, A0, A1, A2, A3, rc, nc, c0, c1, c2, c3, rfl⟩ := EX.out
    have m := M6.out.below b
    refine (called_any _ 1 (by omega) W m.at_ m.in_ m.cap).mono fun e w' hr => ?_
    rw [(exA_called RA NA A0 A1 A2 A3 rc nc c0 c1 c2 c3).2] at hr
    exact row0_of hr)
  have CR0 : RowKit.Hid (∀ W, Below u6.heap.size u6 W → Calls Tryz.prog 31 #[.agg #[.slice h.RA h.rules.length h.rc, .slice h.NA h.nodes.length h.nc], .int .i64 0] W (Row2 W)) := Lib.hid (fun W b => by
    obtain ⟨RA, NA, A0, A1, A2, A3, rc, nc, c0, c1, c2, c3, rfl⟩ := EX.out
    have m := M6.out.below b
    refine (reached_all _ 0 (by omega) W m.at_ m.in_ m.cap).mono fun e w' hr => ?_
    rw [exA_reached RA NA A0 A1 A2 A3 rc nc c0 c1 c2 c3] at hr
    exact row2_of hr)
  have LW := Lib.hid L6.out
  clear H1 H2 H3 H4 H5 H6 L1 L2 L3 L4 L5 L6 N1 N2 N3 N4 N5 N6 P3 P5 P PP C1 C2 C3 C4 C5 C6 B1 B2 B3 B4 B5 B6 XA XC XT M2 M6 EX AA SA GA AC SC GC AT ST GT HT ebg eb8 eb12
  have d0 := KD.out.cell 0; have d1 := KD.out.cell 1; have g0 := KG.out.cell 0; have g1 := KG.out.cell 1
  simp only [List.getElem?_toArray, List.getElem?_cons_zero, List.getElem?_cons_succ] at d0 d1 g0 g1
  go_wp2_with (first
    | (go_at_call 30; (with_reducible refine (CA0.out _ (Below.refl _ _)).mono ?_); rintro e w7 ⟨⟨A7, c7, rfl, ho⟩, hb⟩; have O7 := Lib.hid (own_lies (xs := ints [0, 1]) (by exact ho)); have B7 := Lib.hid hb; clear ho hb)
    | (go_at_call 52; (with_reducible refine (same_two A7 _ c7 _ _ (O7.out.below (B1 _ _)) (lies_pair (Blk.new _ _ _))).mono ?_); rintro e w8 ⟨rfl, hb⟩; have B8 := Lib.hid (B7.out.trans (bb (Below.mono (B1 w7 _) (Nat.le_refl _)) hb |>.mono B7.out.size)); have s0 := (KG.out.below' B8.out).cell 0; have s1 := (KG.out.below' B8.out).cell 1; simp only [List.getElem?_toArray, List.getElem?_cons_zero, List.getElem?_cons_succ] at s0 s1; clear hb d0 d1 g0 g1)
    | (go_at_call 30; (with_reducible refine (CA1.out _ B8.out).mono ?_); rintro e w9 ⟨rfl, hb⟩; have B9 := Lib.hid (B8.out.trans (hb.mono B8.out.size)); have r0 := (KG.out.below' B9.out).cell 0; have r1 := (KG.out.below' B9.out).cell 1; simp only [List.getElem?_toArray, List.getElem?_cons_zero, List.getElem?_cons_succ] at r0 r1; clear hb s0 s1)
    | (go_at_call 31; (with_reducible refine (CR0.out _ B9.out).mono ?_); rintro e w10 ⟨⟨A10, c10, rfl, ho⟩, hb⟩; have O10 := Lib.hid (own_lies (xs := ints [0, 1]) (by exact ho)); have B10 := Lib.hid (B9.out.trans (hb.mono B9.out.size)); clear ho hb r0 r1)
    | (go_at_call 52; (with_reducible refine (same_two A10 _ c10 _ _ (O10.out.below (B1 _ _)) (lies_pair (Blk.new _ _ _))).mono ?_); rintro e w11 ⟨rfl, hb⟩; have B11 := Lib.hid (B10.out.trans (bb (Below.mono (B1 w10 _) (Nat.le_refl _)) hb |>.mono B10.out.size)); have p0 := (K8.out.below' B11.out).cell 0; have p1 := (K8.out.below' B11.out).cell 1; have p2 := (K12.out.below' B11.out).cell 0; have p3 := (K12.out.below' B11.out).cell 1; simp only [List.getElem?_toArray, List.getElem?_cons_zero, List.getElem?_cons_succ] at p0 p1 p2 p3; clear hb))
  go_ret
  exact ⟨rfl, LW.out.trans (B11.out.mono LW.out.size)⟩
end Go.Proofs.YtfghfnpiaccfaaaGreatDoor.J

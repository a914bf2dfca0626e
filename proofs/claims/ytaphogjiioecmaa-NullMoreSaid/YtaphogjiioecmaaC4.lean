/- The law NullMore: true of any grammar and number. -/
import Derived.Test.YtaphogjiioecmaaC3
set_option linter.unusedSimpArgs false
set_option linter.unusedVariables false
namespace Go.Proofs.Ytaphogjiioecmaa
open Go Go.RowKit Go.Maps
set_option maxRecDepth 100000 in
set_option maxHeartbeats 8000000 in
theorem more_law (g : Gr) (n : Int) (hn : -9223372036854775808 ≤ n ∧ n < 9223372036854775808) (w : World) (hg : Gr.At w g) (hin : Gr.In g) : Calls Try.prog 5 #[g.val, .int .i64 n] w fun e w' => e = .returned (.bool true) ∧ Below w.heap.size w w' := by
  have HG := Lib.hid hg
  have HIN := Lib.hid hin
  have HNN := Lib.hid hn
  have SZ := Lib.hid (fun (w' : World) (b : Below w.heap.size w w') => size11_all g w' (hg.below b))
  have RI := Lib.hid (fun (w' : World) (b : Below w.heap.size w w') => right_all g w' (hg.below b) hin)
  clear hg hin hn
  go_enter Try.func5, Try.ntmps5
  go_upto_region 5 with (first | (go_at_call 13; (with_reducible refine (awake_any _).mono ?_); rintro e w1 ⟨rfl, hb⟩; have H1 := Lib.hid (bb (B1 w _) hb); have K1 := Lib.hid ((Blk.new w _ _).below' hb); have a0 := K1.out.cell 0; have a1 := K1.out.cell 1; simp only [List.getElem?_toArray, List.getElem?_cons_zero, List.getElem?_cons_succ] at a0 a1; clear hb) | (go_at_call 14; (with_reducible refine (SZ.out _ H1.out).mono ?_); rintro e w2 ⟨⟨z, rfl, hz⟩, hb⟩; have HZ := Lib.hid hz; have H2 := Lib.hid (bb H1.out hb); have K2 := Lib.hid (K1.out.below' hb); have b0 := K2.out.cell 0; have b1 := K2.out.cell 1; simp only [List.getElem?_toArray, List.getElem?_cons_zero, List.getElem?_cons_succ] at b0 b1; clear hb hz a0 a1) | (go_at_call 15; (with_reducible refine (RI.out _ H2.out).mono ?_); rintro e w3 ⟨rfl, hb⟩; have H3 := Lib.hid (bb H2.out hb); have KB := Lib.hid (K2.out.below' hb); have c0 := KB.out.cell 0; have c1 := KB.out.cell 1; simp only [List.getElem?_toArray, List.getElem?_cons_zero, List.getElem?_cons_succ] at c0 c1; clear hb b0 b1))
  · -- ONE
    go_ret
    exact ⟨rfl, H3.out⟩
  · have hcond : z ≤ 300 ∧ (!rightB g) = false := by assumption
    have hz : z ≤ 300 := hcond.1
    have hr : Right g := rightB_true.1 (by simpa using hcond.2)
    have hnl := hr.nodes
    have hrl := hr.rules.2
    have hr0 := hr.rules.1
    have hkk := (HZ.out hz).2
    have hN0 : 0 < g.nodes.length := by have := hr.body 0 (by omega); omega
    have AT := Lib.hid (HG.out.below H3.out)
    have CG := Lib.hid (fun (w' : World) (b : Below w3.heap.size w3 w') => copyGram2_any g w' (AT.out.below b) (by omega) (by omega) (fun x hx => by have := hkk x hx; omega))
    have PK := Lib.hid (fun (w' : World) => pick_any n g.nodes.length HNN.out (by omega) w')
    have hq1 := Int.emod_nonneg n (show (g.nodes.length : Int) ≠ 0 by omega)
    have hq2 := Int.emod_lt_of_pos n (show (0 : Int) < g.nodes.length by omega)
    obtain ⟨c, hc⟩ : ∃ c : Nat, n % (g.nodes.length : Int) = c := ⟨(n % (g.nodes.length : Int)).toNat, by omega⟩
    rw [hc] at PK hq1 hq2
    have hcl : c < g.nodes.length := by omega
    obtain ⟨b1, o1, eA, hb1, _⟩ := AT.out.rules.two (show 0 < g.rules.length by omega)
    have HR := Lib.hid hr
    have HC := Lib.hid hcl
    have EA := Lib.hid eA
    clear hcond hr hkk hc eA hb1 HZ HG RI SZ
    go_upto_region 7 with (first | (go_at_call 23; (with_reducible refine (PK.out _).mono ?_); rintro e w4 ⟨rfl, rfl⟩) | (go_at_call 24; (with_reducible refine (CG.out _ (Below.refl _ _)).mono ?_); rintro e w4 ⟨⟨h, rfl, hf, ht⟩, hb⟩; have F4 := Lib.hid hf; have T4 := Lib.hid ht; have H4 := Lib.hid hb; clear hf ht hb c0 c1) | (refine wpList_store_whole rfl 38 (.tmp 6) (.tmp 26) rfl w4.heap.size #[.slice h.RA h.rules.length h.rc, .slice h.NA h.nodes.length h.nc] rfl rfl 38 _ (Blk.new _ _ _) (by kernel_rfl) (by rfl) (by simp [Value.oneCell']) ?_; intro w5 hk hgr; have H5 := Lib.hid (show Below w4.heap.size w4 w5 from grown_below (B1 w4 _) (by simp) hgr (fun k e => by cases e; exact Nat.le_refl _)); have KH := Lib.hid hk; have B5 := Lib.hid (bb H4.out H5.out); have d0 := (KB.out.below' B5.out).cell 0; have d1 := (KB.out.below' B5.out).cell 1; simp only [List.getElem?_toArray, List.getElem?_cons_zero, List.getElem?_cons_succ] at d0 d1; clear hk hgr))
    have A5 := Lib.hid (AT.out.below B5.out)
    obtain ⟨b2, o2, eN, _, n1, _, _, _, _, _, n7, _, _⟩ := A5.out.nodes.nine hcl
    rw [eN] at d1
    have EN := Lib.hid eN
    have hok := kinds (HR.out.all c HC.out)
    have HOK := Lib.hid hok
    generalize hkd : (g.nodes.getD c Nd.zero).kind = kd at n1 hok
    have HKD := Lib.hid hkd
    clear hkd eN
    by_cases ha : kd = 2 ∨ kd = 3 ∨ kd = 4
    · -- A LEAF THAT NEVER MAY, MADE AN EMPTY
      have hk2 : (g.nodes.getD c Nd.zero).kind = 2 ∨ (g.nodes.getD c Nd.zero).kind = 3 ∨ (g.nodes.getD c Nd.zero).kind = 4 := by rw [HKD.out]; exact ha
      obtain ⟨m1, m2, m3⟩ := more_empty HR.out T4.out HC.out hk2
      have M1 := Lib.hid m1
      have M2 := Lib.hid m2
      have M3 := Lib.hid m3
      have F5 := Lib.hid (F4.out.below H5.out)
      obtain ⟨gb, eh, hgb, hgb2⟩ := F4.out.shape (by have := HC.out; have := T4.out.len; omega)
      have hch : c < h.nodes.length := by rw [T4.out.len]; exact HC.out
      obtain ⟨t1, t2, t3⟩ := Fresh.turn (y := bare 1) F5.out eh hch rfl rfl rfl
      have GR := Lib.hid t3
      have FX := Lib.hid t1
      have BX := Lib.hid t2
      have TH := Lib.hid (show w5.there gb (c * 9) 9 from by
        have := F5.out.nodes
        rw [eh] at this
        exact own_there this 9 (by omega))
      have hkb := KH.out.cell 1
      simp only [List.getElem?_toArray, List.getElem?_cons_zero, List.getElem?_cons_succ] at hkb
      rw [eh] at hkb
      have HLEN := Lib.hid T4.out.len
      have hcl2 : (c : Int) < h.nodes.length := by omega
      have EH := Lib.hid eh
      clear m1 m2 m3 t1 t2 t3 eh hk2 hok
      have h5 : kd ≠ 5 := by omega
      rcases ha with rfl | rfl | rfl
      all_goals
        go_wp2_with (refine wpList_store_mid2 rfl 30 (.tmp 41) (.tmp 40) rfl gb (c * 9) (Nd.cells { Nd.zero with kind := 1 }).toArray rfl rfl TH.out (by kernel_rfl) (by simp [Nd.cells, Nd.zero, Value.oneCell']) ?_; intro w6 e6; have E6 := Lib.hid (show w6 = w5.setCells gb (c * 9) (bare 1).cells from e6); clear e6)
        have F6 := Lib.hid (show Fresh w6 w3.heap.size (h.turn c (bare 1)) from by rw [E6.out]; exact FX.out)
        have B6 := Lib.hid (show Below w3.heap.size w3 w6 from B5.out.trans (by rw [E6.out]; exact BX.out))
        have KX := Lib.hid (show Blk w6 w4.heap.size #[.slice h.RA h.rules.length h.rc, .slice h.NA h.nodes.length h.nc] 38 from KH.out.grown (by rw [E6.out]; exact GR.out) (by intro e; have := Option.some.inj e; omega))
        have KG := Lib.hid (KB.out.below' B6.out)
        have A6 := Lib.hid (AT.out.below B6.out)
        have X6 := Lib.hid (show Gr.At w6 (h.turn c (bare 1)) from F6.out.at_turn T4.out A6.out rfl (by show (0 : Nat) ≤ _; omega))
        have XIN := Lib.hid (turn_in_ T4.out HIN.out c 1 (by omega))
        have EX := Lib.hid (show (h.turn c (bare 1)).val = .agg #[.slice h.RA h.rules.length h.rc, .slice h.NA h.nodes.length h.nc] from by
          show Value.agg #[.slice h.RA h.rules.length h.rc, .slice h.NA (h.turn c (bare 1)).nodes.length h.nc] = _
          rw [turn_len])
        have EG := Lib.hid (show g.val = .agg #[.slice g.RA g.rules.length g.rc, .slice (some ⟨b2, o2, none⟩) g.nodes.length g.nc] from by
          show Value.agg #[.slice g.RA g.rules.length g.rc, .slice g.NA g.nodes.length g.nc] = _
          rw [EN.out])
        clear d0 d1 n1 n7 hkb
        go_loopw [7, 8, 9] (fun i _ _ wr => ∃ k : Nat, k ≤ g.rules.length ∧ i = .int .i64 k ∧ Below w6.heap.size w6 wr) (fun i _ _ _ => g.rules.length - (intOf i).toNat)
        case atStart => exact ⟨0, by omega, rfl, Below.refl _ _⟩
        case round =>
          obtain ⟨k, hk, rfl, hbl⟩ := hrel
          have BI := Lib.hid hbl
          clear hbl
          have c0 : wr.cell? ⟨w.heap.size, 0, none⟩ = some (.slice g.RA g.rules.length g.rc) := (KG.out.below' BI.out).cell 0
          have c1 : wr.cell? ⟨w.heap.size, 1, none⟩ = some (.slice g.NA g.nodes.length g.nc) := (KG.out.below' BI.out).cell 1
          have x0 : wr.cell? ⟨w4.heap.size, 0, none⟩ = some (.slice h.RA h.rules.length h.rc) := (KX.out.below' BI.out).cell 0
          have x1 : wr.cell? ⟨w4.heap.size, 1, none⟩ = some (.slice h.NA h.nodes.length h.nc) := (KX.out.below' BI.out).cell 1
          by_cases hlt : k < g.rules.length
          · have hlt2 : (k : Int) < g.rules.length := by omega
            have RG := Lib.hid (fun (e : Ext wr) => show Calls Try.prog 18 #[.agg #[.slice g.RA g.rules.length g.rc, .slice g.NA g.nodes.length g.nc], .int .i64 k] e.val fun x w' => x = .returned (.int .i64 ((ranks g).getD k 0)) ∧ Below e.val.heap.size e.val w' from by
              have := rank_any g k (by omega) e.val (A6.out.below (bb BI.out e.grown)) HIN.out
              rw [rank_of HR.out k hlt] at this
              exact this)
            have RX := Lib.hid (fun (e : Ext wr) => show Calls Try.prog 18 #[.agg #[.slice h.RA h.rules.length h.rc, .slice h.NA h.nodes.length h.nc], .int .i64 k] e.val fun x w' => x = .returned (.int .i64 (rankOf (h.turn c (bare 1)) k)) ∧ Below e.val.heap.size e.val w' from by
              have := rank_any (h.turn c (bare 1)) k (by omega) e.val (X6.out.below (bb BI.out e.grown)) XIN.out
              rw [EX.out] at this
              exact this)
            have m3 := M3.out k hlt
            have p1 := ranks_pos g k
            have p2 := rankOf_pos (h.turn c (bare 1)) k
            generalize (ranks g).getD k 0 = a at RG m3 p1
            generalize rankOf (h.turn c (bare 1)) k = b at RX m3 p2
            have c0' := fun e => Ext.cell c0 e
            have c1' := fun e => Ext.cell c1 e
            have x0' := fun e => Ext.cell x0 e
            have x1' := fun e => Ext.cell x1 e
            go_upto_region 15 with fail
            clear c0 c1 x0 x1
            refine wp_region_ext (by kernel_rfl) (by kernel_rfl) ?_
            repeat (first | go_big_quiet_step (first | (go_at_call 18; with_reducible exact Calls.ext_of (RG.out _)) | (go_at_call 18; with_reducible exact Calls.ext_of (RX.out _))) | quiet_step (first | (go_at_call 18; with_reducible exact Calls.ext_of (RG.out _)) | (go_at_call 18; with_reducible exact Calls.ext_of (RX.out _))))
            refine wpQuiet_nil ?_
            intro w9 hw'
            obtain ⟨⟨_, hb9⟩, rfl⟩ := hw'
            have B9 := Lib.hid (bb BI.out hb9)
            clear hb9 c0' c1' x0' x1' RG RX
            by_cases h0 : 0 < a
            · have hb1 : 0 < b := (m3 h0).1
              have hb2 : b ≤ a := (m3 h0).2
              have hb3 : b ≠ 0 := by omega
              clear m3
              go_wp2_with fail
              · exfalso
                have hor : (b == 0) = true ∨ a < b := by assumption
                rcases hor with e | e
                · have := eq_of_beq e; omega
                · omega
              go_roundw
              case rel => exact ⟨k + 1, by omega, by go_num, B9.out⟩
              case measure => simp [intOf]; omega
            · clear m3
              go_wp2_with fail
              go_roundw
              case rel => exact ⟨k + 1, by omega, by go_num, B9.out⟩
              case measure => simp [intOf]; omega
          · obtain rfl : g.rules.length = k := by omega
            have hlt2 : ¬ (g.rules.length : Int) < g.rules.length := by omega
            have NX := Lib.hid (show Calls Try.prog 21 #[.agg #[.slice h.RA h.rules.length h.rc, .slice h.NA h.nodes.length h.nc], .int .i64 c] wr (fun x w' => x = .returned (.bool true) ∧ Below wr.heap.size wr w') from by
              have := node_of (h.turn c (bare 1)) c (by omega) wr (X6.out.below BI.out) XIN.out
              rw [EX.out, M1.out] at this
              exact this)
            have NG := Lib.hid (fun (w' : World) (b : Below wr.heap.size wr w') => show Calls Try.prog 21 #[.agg #[.slice g.RA g.rules.length g.rc, .slice g.NA g.nodes.length g.nc], .int .i64 c] w' (fun x w'' => x = .returned (.bool false) ∧ Below w'.heap.size w' w'') from by
              have := node_of g c (by omega) w' (A6.out.below (bb BI.out b)) HIN.out
              rw [M2.out] at this
              exact this)
            go_wp2_with (first | (go_at_call 21; (with_reducible refine NX.out.mono ?_); rintro e w10 ⟨rfl, hb⟩; have H10 := Lib.hid hb; have q0 := ((KG.out.below' BI.out).below' hb).cell 0; have q1 := ((KG.out.below' BI.out).below' hb).cell 1; simp only [List.getElem?_toArray, List.getElem?_cons_zero, List.getElem?_cons_succ] at q0 q1; clear hb c0 c1 x0 x1) | (go_at_call 21; (with_reducible refine (NG.out _ H10.out).mono ?_); rintro e w11 ⟨rfl, hb⟩; have H11 := Lib.hid (bb H3.out ((B6.out.trans ((bb BI.out (bb H10.out hb)).mono B6.out.size)))); clear hb))
            go_ret
            exact ⟨rfl, H11.out⟩
    · by_cases h5 : kd = 5
      · -- A CALL
        have hk5 : (g.nodes.getD c Nd.zero).kind = 5 := by rw [HKD.out]; exact h5
        subst h5
        have hru := HOK.out.2.2 hk5
        have hnd : nodeB g c = inB (ranks g) (g.nodes.getD c Nd.zero).rule := by
          rw [nodeB_of HR.out c HC.out, mayN_eq HR.out.kidsUp _ (by omega) (by omega), Int.toNat_natCast]
          exact call_step hk5 _ _
        have hru2 : rankOf g (g.nodes.getD c Nd.zero).rule = (ranks g).getD (g.nodes.getD c Nd.zero).rule.toNat 0 := by
          unfold rankOf
          rw [if_pos ⟨rightB_true.2 HR.out, hru.1, hru.2⟩]
        have RU := Lib.hid (fun (e : Ext w5) => show Calls Try.prog 19 #[.agg #[.slice g.RA g.rules.length g.rc, .slice (some ⟨b2, o2, none⟩) g.nodes.length g.nc], .int .i64 (g.nodes.getD c Nd.zero).rule] e.val fun x w' => x = .returned (.bool (inB (ranks g) (g.nodes.getD c Nd.zero).rule)) ∧ Below e.val.heap.size e.val w' from by
          have := rule_of g (g.nodes.getD c Nd.zero).rule (by omega) e.val (A5.out.below e.grown) HIN.out
          rw [hru2] at this
          rw [← EN.out]
          exact this)
        have NG := Lib.hid (fun (w' : World) (b : Below w5.heap.size w5 w') => show Calls Try.prog 21 #[.agg #[.slice g.RA g.rules.length g.rc, .slice g.NA g.nodes.length g.nc], .int .i64 c] w' fun x w'' => x = .returned (.bool (inB (ranks g) (g.nodes.getD c Nd.zero).rule)) ∧ Below w'.heap.size w' w'' from by
          have := node_of g c (by omega) w' (A5.out.below b) HIN.out
          rw [hnd] at this
          exact this)
        have MA := Lib.hid (fun h0 => more_any HR.out T4.out HC.out hk5 h0)
        have IB := Lib.hid (show inB (ranks g) (g.nodes.getD c Nd.zero).rule = decide (0 < (ranks g).getD (g.nodes.getD c Nd.zero).rule.toNat 0) from rfl)
        generalize (g.nodes.getD c Nd.zero).rule = u at n7 RU NG MA IB hru
        have KG5 := Lib.hid (KB.out.below' B5.out)
        cases hi : inB (ranks g) u with
        | true =>
          rw [hi] at RU NG
          have g0 := fun e => Ext.cell d0 e
          have g1 := fun e => Ext.cell d1 e
          have m7 := fun e => Ext.cell n7 e
          clear hi hnd hru2 hru MA IB ha hok
          go_upto_region 20 with fail
          clear d0 d1 n7 n1
          refine wp_region_ext (by kernel_rfl) (by kernel_rfl) ?_
          repeat (first | go_big_quiet_step ((go_at_call 19; exact Calls.ext_of (RU.out _))) | quiet_step ((go_at_call 19; exact Calls.ext_of (RU.out _))))
          refine wpQuiet_nil ?_
          intro w9 hw'
          obtain ⟨⟨_, hb9⟩, rfl⟩ := hw'
          have B9 := Lib.hid hb9
          have q0 := (KG5.out.below' hb9).cell 0
          have q1 := (KG5.out.below' hb9).cell 1
          simp only [List.getElem?_toArray, List.getElem?_cons_zero, List.getElem?_cons_succ] at q0 q1
          clear hb9 g0 g1 m7 RU
          go_wp2_with (go_at_call 21; (with_reducible refine (NG.out _ B9.out).mono ?_); rintro e w10 ⟨rfl, hb⟩; have H10 := Lib.hid (bb H3.out (bb B5.out (bb B9.out hb))); clear hb)
          go_ret
          exact ⟨rfl, H10.out⟩
        | false =>
          rw [hi] at RU IB
          obtain ⟨m1, m2⟩ := MA.out (of_decide_eq_false IB.out.symm)
          have M1 := Lib.hid m1
          have M2 := Lib.hid m2
          have g0 := fun e => Ext.cell d0 e
          have g1 := fun e => Ext.cell d1 e
          have m7 := fun e => Ext.cell n7 e
          have hlen := T4.out.len
          have hch : c < h.nodes.length := by have := HC.out; omega
          have hcl2 : (c : Int) < h.nodes.length := by omega
          obtain ⟨gb, eh, hgb, hgb2⟩ := F4.out.shape (by omega)
          have EH := Lib.hid eh
          have HW5 := Lib.hid H5.out.size
          clear hi hnd hru2 hru MA IB ha hok m1 m2 eh hlen NG
          go_upto_region 20 with fail
          clear d0 d1 n7 n1
          refine wp_region_ext (by kernel_rfl) (by kernel_rfl) ?_
          repeat (first | go_big_quiet_step ((go_at_call 19; exact Calls.ext_of (RU.out _))) | quiet_step ((go_at_call 19; exact Calls.ext_of (RU.out _))))
          refine wpQuiet_nil ?_
          intro w9 hw'
          obtain ⟨⟨_, hb9⟩, rfl⟩ := hw'
          have B9 := Lib.hid (show Below w3.heap.size w3 w9 from bb B5.out hb9)
          have F9 := Lib.hid ((F4.out.below H5.out).below hb9)
          have K9 := Lib.hid (KH.out.below' hb9)
          have hkb := K9.out.cell 1
          simp only [List.getElem?_toArray, List.getElem?_cons_zero, List.getElem?_cons_succ] at hkb
          rw [EH.out] at hkb
          obtain ⟨t1, t2, t3⟩ := Fresh.turn (y := bare 2) F9.out EH.out hch rfl rfl rfl
          have GR := Lib.hid t3
          have FX := Lib.hid t1
          have BX := Lib.hid t2
          have TH := Lib.hid (show w9.there gb (c * 9) 9 from by
            have := F9.out.nodes
            rw [EH.out] at this
            exact own_there this 9 (by omega))
          clear hb9 g0 g1 m7 RU t1 t2 t3
          go_wp2_with (refine wpList_store_mid2 rfl 30 (.tmp 92) (.tmp 91) rfl gb (c * 9) (Nd.cells { Nd.zero with kind := 2 }).toArray rfl rfl TH.out (by kernel_rfl) (by simp [Nd.cells, Nd.zero, Value.oneCell']) ?_; intro w6 e6; have E6 := Lib.hid (show w6 = w9.setCells gb (c * 9) (bare 2).cells from e6); clear e6)
          have B6 := Lib.hid (show Below w3.heap.size w3 w6 from B9.out.trans (by rw [E6.out]; exact BX.out))
          have KX := Lib.hid (show Blk w6 w4.heap.size #[.slice h.RA h.rules.length h.rc, .slice h.NA h.nodes.length h.nc] 38 from K9.out.grown (by rw [E6.out]; exact GR.out) (by intro e; have := Option.some.inj e; omega))
          have KG := Lib.hid (KB.out.below' B6.out)
          have A6 := Lib.hid (AT.out.below B6.out)
          have X6 := Lib.hid (show Gr.At w6 (h.turn c (bare 2)) from (show Fresh w6 w3.heap.size (h.turn c (bare 2)) from by rw [E6.out]; exact FX.out).at_turn T4.out A6.out rfl (by show (0 : Nat) ≤ _; omega))
          have XIN := Lib.hid (turn_in_ T4.out HIN.out c 2 (by omega))
          have EX := Lib.hid (show (h.turn c (bare 2)).val = .agg #[.slice h.RA h.rules.length h.rc, .slice h.NA h.nodes.length h.nc] from by
            show Value.agg #[.slice h.RA h.rules.length h.rc, .slice h.NA (h.turn c (bare 2)).nodes.length h.nc] = _
            rw [turn_len])
          have RG := Lib.hid (fun (w' : World) (b : Below w6.heap.size w6 w') => rules_any g w' (A6.out.below b) HIN.out)
          have NG := Lib.hid (fun (w' : World) (b : Below w6.heap.size w6 w') => nodes_any g w' (A6.out.below b) HIN.out)
          have RX := Lib.hid (fun (w' : World) (b : Below w6.heap.size w6 w') => by have := rules_any (h.turn c (bare 2)) w' (X6.out.below b) XIN.out; rw [EX.out, M1.out] at this; exact this)
          have NX := Lib.hid (fun (w' : World) (b : Below w6.heap.size w6 w') => by have := nodes_any (h.turn c (bare 2)) w' (X6.out.below b) XIN.out; rw [EX.out, M2.out] at this; exact this)
          have CG := Lib.hid (fun (w' : World) (b : Below w6.heap.size w6 w') => show w'.cell? ⟨w.heap.size, 0, none⟩ = some (.slice g.RA g.rules.length g.rc) ∧ w'.cell? ⟨w.heap.size, 1, none⟩ = some (.slice g.NA g.nodes.length g.nc) ∧ w'.cell? ⟨w4.heap.size, 0, none⟩ = some (.slice h.RA h.rules.length h.rc) ∧ w'.cell? ⟨w4.heap.size, 1, none⟩ = some (.slice h.NA h.nodes.length h.nc) from ⟨(KG.out.below' b).cell 0, (KG.out.below' b).cell 1, (KX.out.below' b).cell 0, (KX.out.below' b).cell 1⟩)
          have HL := Lib.hid (rows_le g HR.out)
          have HE := Lib.hid (bb H3.out B6.out)
          obtain ⟨ca0, ca1, ca2, ca3⟩ := CG.out w6 (Below.refl _ _)
          clear hkb F9 K9 GR FX BX TH E6 KX KG A6 X6 XIN EX M1 M2 B9
          generalize rulesOf g = L1 at RG RX HL
          generalize nodesOf g = L2 at NG NX HL
          go_region_with (first | (go_at_call 16; (with_reducible refine (RG.out _ (bdrew1 (Below.refl _ _))).mono ?_); rintro e w11 ⟨⟨v1, rfl, ho1, _⟩, hb1⟩; obtain ⟨A1, c1, rfl, _, _⟩ := own_slice ho1; have LA := Lib.hid (own_lies1 ho1); have P1 := Lib.hid (show Below w6.heap.size w6 w11 from (bdrew1 (Below.refl _ _)).trans hb1); obtain ⟨cb0, cb1, cb2, cb3⟩ := CG.out _ P1.out; clear ho1 hb1) | (go_at_call 16; (with_reducible refine (RX.out _ P1.out).mono ?_); rintro e w12 ⟨⟨v2, rfl, ho2, _⟩, hb2⟩; obtain ⟨A2, c2, rfl, _, _⟩ := own_slice ho2; have LB := Lib.hid (own_lies1 ho2); have LA2 := Lib.hid (LA.out.below hb2); have P2 := Lib.hid (bb P1.out hb2); obtain ⟨cd0, cd1, cd2, cd3⟩ := CG.out _ P2.out; clear ho2 hb2) | (go_at_call 25; (with_reducible refine (same_row _ _ _ _ L1 HL.out.1 _ LA2.out LB.out).mono ?_); rintro e w13 ⟨rfl, hb3⟩; have P3 := Lib.hid (bb P2.out hb3); obtain ⟨ce0, ce1, ce2, ce3⟩ := CG.out _ P3.out; clear hb3) | (go_at_call 17; (with_reducible refine (NG.out _ P3.out).mono ?_); rintro e w14 ⟨⟨v3, rfl, ho3, _⟩, hb4⟩; obtain ⟨A3, c3, rfl, _, _⟩ := own_slice ho3; have LC := Lib.hid (own_lies1 ho3); have P4 := Lib.hid (bb P3.out hb4); obtain ⟨cf0, cf1, cf2, cf3⟩ := CG.out _ P4.out; clear ho3 hb4) | (go_at_call 17; (with_reducible refine (NX.out _ P4.out).mono ?_); rintro e w15 ⟨⟨v4, rfl, ho4, _⟩, hb5⟩; obtain ⟨A4, c4, rfl, _, _⟩ := own_slice ho4; have LD := Lib.hid (own_lies1 ho4); have LC2 := Lib.hid (LC.out.below hb5); have P5 := Lib.hid (bb P4.out hb5); obtain ⟨cg0, cg1, cg2, cg3⟩ := CG.out _ P5.out; clear ho4 hb5) | (go_at_call 25; (with_reducible refine (same_row _ _ _ _ L2 HL.out.2 _ LC2.out LD.out).mono ?_); rintro e w16 ⟨rfl, hb6⟩; have P6 := Lib.hid (bb P5.out hb6); clear hb6))
          all_goals
            go_wp2_with fail
            go_ret
            exact ⟨rfl, bb HE.out P6.out⟩
      · -- ANYTHING ELSE
        have g2 : kd ≠ 2 := fun e => ha (.inl e)
        have g3 : kd ≠ 3 := fun e => ha (.inr (.inl e))
        have g4 : kd ≠ 4 := fun e => ha (.inr (.inr e))
        have BE := Lib.hid (bb H3.out B5.out)
        have hkk : kd = 1 ∨ kd = 6 ∨ kd = 7 ∨ kd = 8 ∨ kd = 9 ∨ kd = 10 ∨ kd = 11 ∨ kd = 12 := by omega
        clear HKD hok g2 g3 g4 ha h5
        rcases hkk with rfl | rfl | rfl | rfl | rfl | rfl | rfl | rfl
        all_goals
          go_wp2_with fail
          go_ret
          exact ⟨rfl, BE.out⟩
  · go_ret
    exact ⟨rfl, H2.out⟩
end Go.Proofs.Ytaphogjiioecmaa

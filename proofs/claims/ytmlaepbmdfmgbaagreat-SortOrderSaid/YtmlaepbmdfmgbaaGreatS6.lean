/- The law SortOrder. -/
import Derived.Test.YtmlaepbmdfmgbaaGreatS4
import Derived.Test.YtmlaepbmdfmgbaaGreatS5
set_option linter.unusedSimpArgs false
set_option linter.unusedVariables false
namespace Go.Proofs.YtmlaepbmdfmgbaaGreat
open Go Go.RowKit Go.Maps
/-- What the law's loops stand on. -/
structure SO (w W : World) (g : Gr) (R : Nat) (OA XA : Option Addr) (xvs : List Value) : Prop where
  ka : Blk W w.heap.size #[.slice g.RA R g.rc, .slice g.NA g.nodes.length g.nc] 31
  gr : Gr.At W g
  x : Gph W XA xvs ((graphOf g).map nums)
  o : Lies W OA (ints (nums (ordOf g)))
  low : Below w.heap.size w W
theorem SO.below {w W W' : World} {g : Gr} {R : Nat} {OA XA : Option Addr} {xvs : List Value} (h : SO w W g R OA XA xvs) (hb : Below W.heap.size W W') : SO w W' g R OA XA xvs :=
  ⟨h.ka.below' hb, h.gr.below hb, h.x.below hb, h.o.below hb, h.low.trans (hb.mono h.low.size)⟩
/-- Places so far: of those that stand ahead of i. -/
structure AtRow (W : World) (tb R i : Nat) (L : List Nat) : Prop where
  out : ∃ l : List Int, l.length = R ∧ Blk W tb (ints l).toArray 3 ∧ ∀ q, q < R → l.getD q 0 = if L.idxOf q < i then ((L.idxOf q : Nat) : Int) + 1 else 0
theorem AtRow.below {W W' : World} {tb R i : Nat} {L : List Nat} (h : AtRow W tb R i L) (hb : Below W.heap.size W W') : AtRow W' tb R i L := by
  obtain ⟨l, h1, h2, h3⟩ := h.out
  exact ⟨l, h1, h2.below' hb, h3⟩
theorem AtRow.cell {W : World} {tb R i q : Nat} {L : List Nat} (h : AtRow W tb R i L) (hq : q < R) : W.cell? ⟨tb, q, none⟩ = some (.int .i64 (if L.idxOf q < i then ((L.idxOf q : Nat) : Int) + 1 else 0)) := by
  obtain ⟨l, h1, h2, h3⟩ := h.out
  rw [h2.cell, List.getElem?_toArray, ints_at (by omega), h3 q hq]
theorem AtRow.frozen {W : World} {tb R i q : Nat} {L : List Nat} (h : AtRow W tb R i L) : W.frozen? ⟨tb, q, none⟩ = false := by
  obtain ⟨l, h1, h2, h3⟩ := h.out
  exact h2.frozen q
theorem AtRow.put {W : World} {tb R i : Nat} {L : List Nat} (h : AtRow W tb R i L) (hn : L.Nodup) (hi : i < L.length) (hq : L.getD i 0 < R) : AtRow (W.setCell ⟨tb, L.getD i 0, none⟩ (.int .i64 ((i : Int) + 1))) tb R (i + 1) L := by
  obtain ⟨l, h1, h2, h3⟩ := h.out
  refine ⟨l.set (L.getD i 0) ((i : Int) + 1), by rw [List.length_set]; exact h1, ?_, fun q hqR => ?_⟩
  · have := h2.put (k := L.getD i 0) (.int .i64 ((i : Int) + 1))
    rw [ints_set] at this
    exact this
  · by_cases e : q = L.getD i 0
    · subst e
      rw [idx_at hn hi, if_pos (by omega)]
      simp only [List.getD] at hq ⊢
      simp [h1, hq]
    · have h4 := h3 q hqR
      have e2 : (l.set (L.getD i 0) ((i : Int) + 1)).getD q 0 = l.getD q 0 := by
        rw [List.getD_eq_getElem?_getD, List.getD_eq_getElem?_getD (l := l), List.getElem?_set_ne (fun h => e h.symm)]
      rw [e2, h4]
      by_cases e3 : L.idxOf q < i
      · rw [if_pos e3, if_pos (by omega)]
      · rw [if_neg e3]
        by_cases e4 : L.idxOf q < i + 1
        · exfalso
          have hlt : L.idxOf q < L.length := by omega
          have h5 : L[L.idxOf q] = q := List.getElem_idxOf hlt
          apply e
          have : L.idxOf q = i := by omega
          simp only [List.getD, List.getElem?_eq_getElem hi, Option.getD_some]
          rw [← h5]
          congr 1
        · rw [if_neg e4]
theorem ordOf_mem {g : Gr} (hR : Right g) {x : Nat} (h : x < g.rules.length) : (ordOf g).idxOf x < g.rules.length := by
  have h2 : x ∈ ordOf g := by rw [ordOf_yes hR]; exact (pG_mem_all (graphOf_RG hR)).2 (by rw [graphOf_len]; exact h)
  rw [← (ordOf_facts hR).1]
  exact List.idxOf_lt_length_of_mem h2
theorem AtRow.all {W : World} {tb R q : Nat} {L : List Nat} (h : AtRow W tb R R L) (hq : q < R) (hi : L.idxOf q < R) : W.cell? ⟨tb, q, none⟩ = some (.int .i64 (((L.idxOf q + 1 : Nat)) : Int)) := by
  rw [h.cell hq, if_pos hi]
  rfl
theorem getD_memN {l : List Nat} {j : Nat} (h : j < l.length) : l.getD j 0 ∈ l := by
  simp only [List.getD, List.getElem?_eq_getElem h, Option.getD_some]
  exact List.getElem_mem h
theorem sOrdR_any (g : Gr) (w : World) (hg : Gr.At w g) (hin : Gr.In g) (hc : Capd g) (hR : Right g) : Calls Tryz.prog 14 #[.agg #[.slice g.RA g.rules.length g.rc, .slice g.NA g.nodes.length g.nc]] w fun e w' => ∃ A c, e = .returned (.slice A g.rules.length c) ∧ Lies w' A (ints (nums (ordOf g))) ∧ Below w.heap.size w w' := by
  refine Calls.mono (sOrder_any g w hg hin hc) fun e w' h => ?_
  have := row_told h rfl
  rw [(ordOf_facts hR).1] at this
  exact this
set_option maxRecDepth 100000 in
set_option maxHeartbeats 16000000 in
theorem order_law (g : Gr) (w : World) (hg : Gr.At w g) (hin : Gr.In g) (hc : Capd g) : Calls Tryz.prog 5 #[g.val] w fun e w' => e = .returned (.bool true) ∧ Below w.heap.size w w' := by
  obtain ⟨i0, hi, hz0, hz1, hz2⟩ := info_parts Tryz.info3
  have HG := Lib.hid hg
  have SZ := Lib.hid (fun (w' : World) (b : Below w.heap.size w w') => size12_all g w' (hg.below b))
  have RI := Lib.hid (fun (w' : World) (b : Below w.heap.size w w') => right_all g w' (hg.below b) hin)
  have HIN := Lib.hid (And.intro hin hc)
  have hnl := hg.nl
  have hrl := hg.rl
  clear hg hin hc
  show Calls Tryz.prog 5 #[.agg #[.slice g.RA g.rules.length g.rc, .slice g.NA g.nodes.length g.nc]] w _
  go_enter Tryz.func5, Tryz.ntmps5
  go_wp2_with fail
  refine (sawake_any _).mono ?_
  rintro e w1 ⟨rfl, hb⟩
  have K1 := Lib.hid ((Blk.new w #[.slice g.RA g.rules.length g.rc, .slice g.NA g.nodes.length g.nc] 31).below' hb)
  have H1 := Lib.hid (bb (B1 w _) hb)
  have a0 := K1.out.cell 0
  have a1 := K1.out.cell 1
  simp only [List.getElem?_toArray, List.getElem?_cons_zero, List.getElem?_cons_succ] at a0 a1
  clear hb
  go_wp2_with fail
  refine (SZ.out _ H1.out).mono ?_
  rintro e w2 ⟨⟨z, rfl, hzz⟩, hb⟩
  have HZ := Lib.hid hzz
  have K2 := Lib.hid (K1.out.below' hb)
  have H2 := Lib.hid (bb H1.out hb)
  clear hb a0 a1 hzz
  by_cases hz : 300 < z
  · go_wp2_with fail
    go_ret
    exact ⟨rfl, H2.out⟩
  · have hz2' : ¬ 300 < z := hz
    have b0 := K2.out.cell 0
    have b1 := K2.out.cell 1
    simp only [List.getElem?_toArray, List.getElem?_cons_zero, List.getElem?_cons_succ] at b0 b1
    go_wp2_with fail
    refine (RI.out _ H2.out).mono ?_
    rintro e w3 ⟨rfl, hb⟩
    have K3 := Lib.hid (K2.out.below' hb)
    have H3 := Lib.hid (bb H2.out hb)
    clear hb b0 b1 K1 K2 H1 H2 SZ RI HZ
    have b0 := K3.out.cell 0
    have b1 := K3.out.cell 1
    simp only [List.getElem?_toArray, List.getElem?_cons_zero, List.getElem?_cons_succ] at b0 b1
    cases hr : rightB g with
    | false =>
      clear hr
      go_wp2_with fail
      go_ret
      exact ⟨rfl, H3.out⟩
    | true =>
      have hR := rightB_true.1 hr
      have HR := Lib.hid hR
      have h32 := hR.rules.2
      have h1r := hR.rules.1
      have GX2 := Lib.hid (fun (W : World) (b : Below w.heap.size w W) => sGraph_any g W (HG.out.below b) HIN.out.1 HIN.out.2 hR)
      have AX2 := Lib.hid (fun (W : World) (b : Below w.heap.size w W) => sOrdR_any g W (HG.out.below b) HIN.out.1 HIN.out.2 hR)
      have WX := Lib.hid (fun (i : Nat) (W : World) (h : Gr.At W g) => sWithR_any g i W h HIN.out.1 HIN.out.2)
      have OF := Lib.hid (ordOf_facts hR)
      have OM := Lib.hid (fun x (h : x < g.rules.length) => ordOf_mem hR h)
      have OA1 := Lib.hid (fun i c (hi : i < g.rules.length) (hc : c ∈ lcal g i) => ord_ahead hR hi hc)
      have OW1 := Lib.hid (fun i k (hi : i < g.rules.length) (hk : k + 1 < (withOf g i).length) => ord_with hR hi hk)
      have WL1 := Lib.hid (fun i x (hi : i < g.rules.length) (hx : x ∈ withOf g i) => with_lt hR hi hx)
      have HL64 := Lib.hid (fun i (hi : i < g.rules.length) => (withOf_len hR hi).2.2.2.2)
      have CG := Lib.hid (fun (W' : World) (b : Below w3.heap.size w3 W') => (⟨(K3.out.below' b).cell 0, (K3.out.below' b).cell 1⟩ : W'.cell? ⟨w.heap.size, 0, none⟩ = some (.slice g.RA g.rules.length g.rc) ∧ W'.cell? ⟨w.heap.size, 1, none⟩ = some (.slice g.NA g.nodes.length g.nc)))
      clear hr hR
      obtain ⟨R, eR⟩ : ∃ R, R = g.rules.length := ⟨_, rfl⟩
      have ER := Lib.hid eR
      rw [← eR] at h32 h1r hrl b0 GX2 AX2 WX CG K3 OF OM OA1 OW1 WL1 HL64
      clear eR
      go_upto_region 5 with fail
      go_cut [3, 4] from 21 to 24 (fun s3 s4 wx => ∃ gb vs A c, s4 = .slice (some ⟨gb, 0, none⟩) R R ∧ s3 = .slice A R c ∧ Gph wx (some ⟨gb, 0, none⟩) vs ((graphOf g).map nums) ∧ Lies wx A (ints (nums (ordOf g))) ∧ Below w3.heap.size w3 wx)
      case first =>
        go_region_with (first | (go_at_call 14; (with_reducible refine (AX2.out _ (bdrew1 H3.out)).mono ?_); rintro e w4 ⟨A, c, rfl, hl, hb1⟩; have X1 := Lib.hid hl; have P1 := Lib.hid (show Below w3.heap.size w3 w4 from (bdrew1 (Below.refl _ _)).trans hb1); obtain ⟨cb0, cb1⟩ := CG.out _ P1.out; clear hl hb1) | (go_at_call 17; (with_reducible refine (GX2.out _ (bb H3.out P1.out)).mono ?_); rintro e w5 ⟨gb, vs, rfl, hg1, hb2⟩; have L2 := Lib.hid (X1.out.below hb2); have X2 := Lib.hid hg1; have P2 := Lib.hid (bb P1.out hb2); clear hg1 hb2))
        all_goals go_simp
        all_goals (first | go_meet | (go_wp2_with fail; go_meet) | skip)
        all_goals exact ⟨_, _, _, _, rfl, rfl, X2.out, L2.out, P2.out⟩
      case rest =>
      obtain ⟨gb, xvs, OA, oc, rfl, rfl, hx, hl, hb⟩ := hcut
      have S0 := Lib.hid (show SO w _ g R OA (some ⟨gb, 0, none⟩) xvs from ⟨K3.out.below' hb, HG.out.below (bb H3.out hb), hx, hl, bb H3.out hb⟩)
      have b0 := S0.out.ka.cell 0
      have b1 := S0.out.ka.cell 1
      simp only [List.getElem?_toArray, List.getElem?_cons_zero, List.getElem?_cons_succ] at b0 b1
      clear hx hl hb CG GX2 AX2 K3 H3
      go_upto_region 8 with fail
      have hmk : ∀ W : World, (Instr.makeSlice 36 (.int .i64 R) (.int .i64 R)).run Tryz.prog W = .ok (.slice (some ⟨W.heap.size, 0, none⟩) R R) (W.alloc (.cells (List.replicate R (Value.int .i64 0)).toArray 3)) := fun W => by
        have hr := run_make (P := Tryz.prog) W 36 3 i0 (.int .i64 0) Tryz.underlying36 hi hz0 .i64 .i64 (R : Nat) (R : Nat) (by omega) (by omega) (by rw [hz2]; omega) (by omega)
        have e : madeCells (Value.int .i64 0).cells (R * 1) = (List.replicate R (Value.int .i64 0)).toArray := by
          apply Array.ext
          · simp [madeCells]
          · intro k h1 h2
            simp [madeCells, Value.cells, Nat.mod_one]
        rw [hz1, Int.toNat_natCast, e] at hr
        exact hr
      obtain ⟨wm, ewm⟩ : ∃ u, u = wc := ⟨_, rfl⟩
      rw [← ewm] at S0 b0 b1 ⊢
      clear ewm
      obtain ⟨tb, etb⟩ : ∃ u, u = wm.heap.size := ⟨_, rfl⟩
      have ETB := Lib.hid etb
      have T0 := Lib.hid (show AtRow (wm.alloc (.cells (Array.replicate R (Value.int .i64 0)) 3)) tb R 0 (ordOf g) from ⟨List.replicate R 0, by simp, by
        rw [etb, show (ints (List.replicate R 0)).toArray = Array.replicate R (Value.int .i64 0) from by simp [ints]]
        exact Blk.new _ _ _, fun q hq => by simp [List.getD, hq]⟩)
      have BN := Lib.hid (B1 wm (.cells (Array.replicate R (Value.int .i64 0)) 3))
      clear etb
      go_wp2_with fail
      rw [← ETB.out]
      clear hmk b0 b1
      generalize wm.alloc (.cells (Array.replicate R (Value.int .i64 0)) 3) = wn at BN T0 ⊢
      have LOW := Lib.hid (show w.heap.size ≤ tb from by rw [ETB.out]; exact S0.out.low.size)
      go_loopw [6] (fun ix wr => ∃ (i : Nat), i ≤ R ∧ ix = .int .i64 i ∧ AtRow wr tb R i (ordOf g) ∧ Below wm.heap.size wm wr) (fun ix _ => R - (intOf ix).toNat)
      case atStart => exact ⟨0, by omega, rfl, T0.out, BN.out⟩
      case round =>
        obtain ⟨i, hi', rfl, hat, hb⟩ := hrel
        have TT := Lib.hid hat
        have BB := Lib.hid hb
        by_cases hlt : i < R
        · have hlt2 : (i : Int) < R := by omega
          have hL : i < (ordOf g).length := by rw [OF.out.1]; exact hlt
          obtain ⟨ob, oo, rfl, hob, co⟩ := lies_cell (S0.out.below hb).o (k := i) (by rw [nums_len]; exact hL)
          rw [nums_at] at co
          have hq : (ordOf g).getD i 0 < R := OF.out.2.2 _ (by simp only [List.getD, List.getElem?_eq_getElem hL, Option.getD_some]; exact List.getElem_mem hL)
          have ca := hat.cell hq
          rw [idx_at OF.out.2.1 hL, if_neg (by omega)] at ca
          have fa := hat.frozen (q := (ordOf g).getD i 0)
          have NX := Lib.hid (hat.put OF.out.2.1 hL hq)
          obtain ⟨q, eq⟩ : ∃ u, u = (ordOf g).getD i 0 := ⟨_, rfl⟩
          rw [← eq] at co hq ca fa NX
          have hq0 : ¬ (q : Int) < 0 := by omega
          have hqR : ¬ (R : Int) ≤ q := by omega
          have hqR2 : (q : Int) < R := by omega
          clear hat hb eq hL
          go_wp2_with fail
          go_roundw
          case rel => exact ⟨i + 1, by omega, by go_num, NX.out, BB.out.setCell (p := ⟨tb, q, none⟩) (by rw [← ETB.out]; exact Nat.le_refl _) _⟩
          case measure => simp [intOf]; omega
        · obtain rfl : R = i := by omega
          have hlt2 : ¬ (R : Int) < R := by omega
          have SS := Lib.hid (S0.out.below hb)
          clear hat hb T0 BN S0 BB
          go_wp2_with fail
          go_loopw [7, 8, 9, 10] (fun ix _ _ _ wr => ∃ (i : Nat), i ≤ R ∧ ix = .int .i64 i ∧ AtRow wr tb R R (ordOf g) ∧ SO w wr g R OA (some ⟨gb, 0, none⟩) xvs) (fun ix _ _ _ _ => R - (intOf ix).toNat)
          case atStart => exact ⟨0, by omega, rfl, TT.out, SS.out⟩
          case round =>
            obtain ⟨i, hi', rfl, hat, hs⟩ := hrel
            have T1 := Lib.hid hat
            have S1 := Lib.hid hs
            have c0 := hs.ka.cell 0
            have c1 := hs.ka.cell 1
            simp only [List.getElem?_toArray, List.getElem?_cons_zero, List.getElem?_cons_succ] at c0 c1
            clear hat hs
            by_cases hli : i < R
            · have hli2 : (i : Int) < R := by omega
              have hig : i < g.rules.length := by rw [← ER.out]; exact hli
              have W1 := Lib.hid (WX.out i _ S1.out.gr)
              obtain ⟨wl, ewl⟩ : ∃ u, u = (withOf g i).length := ⟨_, rfl⟩
              have EWL := Lib.hid ewl
              have hwl64 : wl ≤ 64 := by rw [ewl]; exact HL64.out i hli
              rw [← ewl] at W1
              clear ewl
              go_wp2_with fail
              refine W1.out.mono ?_
              rintro e w5 ⟨WA, wq, rfl, hwl, hb⟩
              have S2 := Lib.hid (S1.out.below hb)
              have T2 := Lib.hid (T1.out.below hb)
              have HW2 := Lib.hid hwl
              clear hwl hb c0 c1 W1 S1 T1
              go_wp2_with fail
              obtain ⟨ll, ell⟩ : ∃ u, u = (lcal g i).length := ⟨_, rfl⟩
              have ELL := Lib.hid ell
              have hll : ll ≤ 32 := by rw [ell]; exact Nat.le_trans (lcal_len g i) HR.out.rules.2
              clear ell
              go_loopw [9] (fun kx wr2 => ∃ (k : Nat), k ≤ ll ∧ kx = .int .i64 k ∧ AtRow wr2 tb R R (ordOf g) ∧ SO w wr2 g R OA (some ⟨gb, 0, none⟩) xvs ∧ Lies wr2 WA (ints (nums (withOf g i)))) (fun kx _ => ll - (intOf kx).toNat)
              case atStart => exact ⟨0, by omega, rfl, T2.out, S2.out, HW2.out⟩
              case round =>
                obtain ⟨k, hk, rfl, hat, hs, hw⟩ := hrel
                have T3 := Lib.hid hat
                have S3 := Lib.hid hs
                have HW3 := Lib.hid hw
                obtain ⟨xb, xo, XB, xc, exb, hxb, cx, hxl⟩ := hs.x.at_ (i := i) (by rw [List.length_map, graphOf_len]; exact hig)
                rw [getD_map_nums, nums_len, graphOf_at hig, ← ELL.out] at cx
                rw [getD_map_nums, graphOf_at hig] at hxl
                cases exb
                simp only [Nat.zero_add] at cx
                by_cases hlk : k < ll
                · have hlk2 : (k : Int) < ll := by omega
                  have hkl : k < (lcal g i).length := by rw [← ELL.out]; exact hlk
                  obtain ⟨lb, lo, rfl, hlb, cl⟩ := lies_cell hxl (k := k) (by rw [nums_len]; exact hkl)
                  rw [nums_at] at cl
                  have hcm : (lcal g i).getD k 0 ∈ lcal g i := by simp only [List.getD, List.getElem?_eq_getElem hkl, Option.getD_some]; exact List.getElem_mem hkl
                  obtain ⟨q, eq⟩ : ∃ u, u = (lcal g i).getD k 0 := ⟨_, rfl⟩
                  rw [← eq] at cl hcm
                  have hqR : q < R := by rw [ER.out]; exact lcal_lt hcm
                  have cq := hat.all hqR (OM.out q hqR)
                  have ci := hat.all hli (OM.out i hli)
                  have AH := OA1.out i q hli hcm
                  have hq1 := OM.out q hqR
                  have hi1 := OM.out i hli
                  obtain ⟨iq, eiq⟩ : ∃ u, u = (ordOf g).idxOf q := ⟨_, rfl⟩
                  obtain ⟨ii, eii⟩ : ∃ u, u = (ordOf g).idxOf i := ⟨_, rfl⟩
                  rw [← eiq] at cq AH hq1
                  rw [← eii] at ci AH hi1
                  have hqi : (q : Int) < R := by omega
                  obtain ⟨n1, en1⟩ : ∃ u, u = iq + 1 := ⟨_, rfl⟩
                  obtain ⟨n2, en2⟩ : ∃ u, u = ii + 1 := ⟨_, rfl⟩
                  rw [← en1] at cq
                  rw [← en2] at ci
                  have dx := fun (e : Ext wr) => Ext.cell cx e
                  have dl := fun (e : Ext wr) => Ext.cell cl e
                  have dq := fun (e : Ext wr) => Ext.cell cq e
                  have di := fun (e : Ext wr) => Ext.cell ci e
                  have HHE := Lib.hid (fun (e : Ext wr) (hm : q ∈ withOf g i) => show Calls Tryz.prog 20 #[.slice WA wl wq, .int .i64 q] e.val (fun x w' => x = .returned (.bool true) ∧ Below e.val.heap.size e.val w') from by
                    have := sHas4_any WA wq (withOf g i) q wl EWL.out (by omega) e.val (hw.below e.grown)
                    rw [decide_eq_true hm] at this
                    exact Calls.mono this fun x w' h => ⟨h.1, by rw [h.2]; exact Below.refl _ _⟩)
                  by_cases hle : n2 ≤ n1
                  · have hm : q ∈ withOf g i := by
                      rcases AH with h | h
                      · omega
                      · exact h
                    have HE := Lib.hid (fun e => HHE.out e hm)
                    have hd : decide (n2 ≤ n1) = true := decide_eq_true hle
                    clear hat hs hw hxl eq eiq eii HHE hm AH hle cl cq ci en1 en2 hq1 hi1
                    go_upto_region 22 with fail
                    clear cx
                    refine wp_region_ext (by kernel_rfl) (by kernel_rfl) ?_
                    repeat (first | go_big_quiet_step (first | (go_at_call 20; exact Calls.ext_of (HE.out _))) | quiet_step (first | (go_at_call 20; exact Calls.ext_of (HE.out _))))
                    refine wpQuiet_nil ?_
                    intro w9 hw'
                    obtain ⟨⟨_, hb9⟩, rfl⟩ := hw'
                    have T9 := Lib.hid (T3.out.below hb9)
                    have S9 := Lib.hid (S3.out.below hb9)
                    have W9 := Lib.hid (HW3.out.below hb9)
                    clear hb9 dx dl dq di HE hd
                    go_wp2_with fail
                    go_roundw
                    case rel => first | exact ⟨k + 1, by omega, by go_num, T9.out, S9.out, W9.out⟩ | ((repeat apply Exists.intro); exact ⟨⟨k + 1, by omega, by go_num, T9.out, S9.out, W9.out⟩, rfl⟩)
                    case measure => simp [intOf]; omega
                  · have hd : decide (n2 ≤ n1) = false := decide_eq_false hle
                    clear hat hs hw hxl eq eiq eii HHE AH hle cl cq ci en1 en2 hq1 hi1
                    go_upto_region 22 with fail
                    clear cx
                    refine wp_region_ext (by kernel_rfl) (by kernel_rfl) ?_
                    repeat (first | go_big_quiet_step (fail) | quiet_step (fail))
                    refine wpQuiet_nil ?_
                    intro w9 hw'
                    obtain ⟨⟨_, hb9⟩, rfl⟩ := hw'
                    have T9 := Lib.hid (T3.out.below hb9)
                    have S9 := Lib.hid (S3.out.below hb9)
                    have W9 := Lib.hid (HW3.out.below hb9)
                    clear hb9 dx dl dq di hd
                    go_wp2_with fail
                    go_roundw
                    case rel => first | exact ⟨k + 1, by omega, by go_num, T9.out, S9.out, W9.out⟩ | ((repeat apply Exists.intro); exact ⟨⟨k + 1, by omega, by go_num, T9.out, S9.out, W9.out⟩, rfl⟩)
                    case measure => simp [intOf]; omega
                · obtain rfl : ll = k := by omega
                  have hlk2 : ¬ (ll : Int) < ll := by omega
                  clear hat hs hw hxl T2 S2 HW2
                  go_wp2_with fail
                  clear cx
                  go_loopw [10] (fun kx wr2 => ∃ (k : Nat), 1 ≤ k ∧ k ≤ wl + 1 ∧ kx = .int .i64 k ∧ AtRow wr2 tb R R (ordOf g) ∧ SO w wr2 g R OA (some ⟨gb, 0, none⟩) xvs ∧ Lies wr2 WA (ints (nums (withOf g i)))) (fun kx _ => wl + 1 - (intOf kx).toNat)
                  case atStart => exact ⟨1, by omega, by omega, rfl, T3.out, S3.out, HW3.out⟩
                  case round =>
                    obtain ⟨k, hk1, hk, rfl, hat, hs, hw⟩ := hrel
                    have T4 := Lib.hid hat
                    have S4 := Lib.hid hs
                    have HW4 := Lib.hid hw
                    by_cases hlk : k < wl
                    · have hlk2 : (k : Int) < wl := by omega
                      have hkl : k < (withOf g i).length := by rw [← EWL.out]; exact hlk
                      obtain ⟨p, ep⟩ : ∃ p, k = p + 1 := ⟨k - 1, by omega⟩
                      obtain ⟨lb, lo, rfl, hlb, cl⟩ := lies_cell hw (k := k) (by rw [nums_len]; exact hkl)
                      obtain ⟨lb', lo', elb, hlb', cl'⟩ := lies_cell hw (k := p) (by rw [nums_len]; omega)
                      cases elb
                      rw [nums_at] at cl cl'
                      have hx : (withOf g i).getD k 0 < R := WL1.out i ((withOf g i).getD k 0) hli (getD_memN hkl)
                      have hy : (withOf g i).getD p 0 < R := WL1.out i ((withOf g i).getD p 0) hli (getD_memN (by omega))
                      have WW := OW1.out i p hli (by omega)
                      rw [← ep] at WW
                      obtain ⟨x, ex⟩ : ∃ u, u = (withOf g i).getD k 0 := ⟨_, rfl⟩
                      obtain ⟨y, ey⟩ : ∃ u, u = (withOf g i).getD p 0 := ⟨_, rfl⟩
                      rw [← ex] at cl hx WW
                      rw [← ey] at cl' hy WW
                      have cx := hat.all hx (OM.out x hx)
                      have cy := hat.all hy (OM.out y hy)
                      have hy1 := OM.out y hy
                      obtain ⟨n1, en1⟩ : ∃ u, u = (ordOf g).idxOf y + 1 := ⟨_, rfl⟩
                      rw [WW.1, ← en1] at cx
                      rw [← en1] at cy
                      have hxR : (x : Int) < R := by omega
                      have hyR : (y : Int) < R := by omega
                      have hpl : (p : Int) < wl := by omega
                      have hsub : IntKind.i64.wrap ((k : Int) - 1) = p := by rw [IntWalk.i64_in _ (by omega)]; omega
                      have hw1 : IntKind.i64.wrap ((n1 : Int) + 1) = ((n1 + 1 : Nat) : Int) := by rw [IntWalk.i64_in _ (by omega)]; omega
                      obtain ⟨n2, en2⟩ : ∃ u, u = n1 + 1 := ⟨_, rfl⟩
                      rw [← en2] at hw1 cx
                      have dl := fun (e : Ext wr) => Ext.cell cl e
                      have dl' := fun (e : Ext wr) => Ext.cell cl' e
                      have dx := fun (e : Ext wr) => Ext.cell cx e
                      have dy := fun (e : Ext wr) => Ext.cell cy e
                      have hd : decide (x ≤ y) = false := decide_eq_false (by omega)
                      clear hat hs hw WW ex ey en1 en2 cl cl' cx cy hy1 hx hy hlb hlb' hkl ep
                      go_upto_region 27 with fail
                      refine wp_region_ext (by kernel_rfl) (by kernel_rfl) ?_
                      repeat (first | go_big_quiet_step (fail) | quiet_step (fail))
                      refine wpQuiet_nil ?_
                      intro w9 hw'
                      obtain ⟨⟨_, hb9⟩, rfl⟩ := hw'
                      have T9 := Lib.hid (T4.out.below hb9)
                      have S9 := Lib.hid (S4.out.below hb9)
                      have W9 := Lib.hid (HW4.out.below hb9)
                      clear hb9 dx dl dl' dy hd hsub hw1
                      go_wp2_with fail
                      go_roundw
                      case rel => first | exact ⟨k + 1, by omega, by omega, by go_num, T9.out, S9.out, W9.out⟩ | ((repeat apply Exists.intro); exact ⟨⟨k + 1, by omega, by omega, by go_num, T9.out, S9.out, W9.out⟩, rfl⟩)
                      case measure => simp [intOf]; omega
                    · have hlk2 : ¬ (k : Int) < wl := by omega
                      clear hat hs hw
                      go_wp2_with fail
                      go_roundw
                      case rel => exact ⟨i + 1, by omega, by go_num, T4.out, S4.out⟩
                      case measure => simp [intOf]; omega
            · obtain rfl : R = i := by omega
              have hli2 : ¬ (R : Int) < R := by omega
              go_wp2_with fail
              go_ret
              exact ⟨rfl, S1.out.low⟩
end Go.Proofs.YtmlaepbmdfmgbaaGreat

/- The next part is put. -/
import Derived.Test.YtefeokfjgmidbaaL5
import Derived.Deep.QuietTactic
import Derived.BigQuiet
import Derived.Below
set_option linter.unusedSimpArgs false
set_option linter.unusedVariables false
namespace Go.Proofs.Ytefeokfjgmidbaa
open Go Go.Proofs Go.Shelf Go.RowKit Go.Lib Go.Maps
theorem wp_region_of_any {P : Program} {ops : Array Oper} {Q : Exit → Act → World → Prop} {id : Nat} {a : Act} {w : World} (hm : P.follows .mixedOrders = true)
    (h : wpAnyIn Fence.wide 0 P .any ops Q ops.size (Array.replicate ops.size false) a { w with drawn := w.drawn + 1 }) : (Code.region id ops true).wp P Q a w := wpIn_wide.1 (wpIn_region_any (n := 0) hm h)
theorem rows_take {radj : Nat → List Nat} {of : Nat → Nat} {P : List Nat} {i : Nat} (h : i < P.length) : rows radj of (P.take (i + 1)) = rows radj of (P.take i) ++ (radj (P.getD i 0)).map of := by
  unfold rows
  rw [take_oneN h, List.flatMap_append, List.map_append]
  simp
theorem decs_one (W : Nat → Int) (L : List Nat) (q : Nat) : decs W (L ++ [q]) = upd (decs W L) q (decs W L q - 1) := by
  funext x
  unfold decs upd
  rw [List.count_append]
  by_cases e : x = q
  · subst e; simp; omega
  · have : List.count x [q] = 0 := List.count_eq_zero.2 (by simpa using e)
    rw [if_neg e, this]
    simp
theorem decs_le (W : Nat → Int) (L : List Nat) (q : Nat) : W q - L.length ≤ decs W L q ∧ decs W L q ≤ W q := by
  unfold decs
  have := List.count_le_length (a := q) (l := L)
  omega
theorem rows_len {radj : Nat → List Nat} {of : Nat → Nat} {P : List Nat} (h : ∀ b, (radj b).length ≤ 64) : (rows radj of P).length ≤ 64 * P.length := by
  unfold rows
  rw [List.length_map, List.length_flatMap]
  induction P with
  | nil => simp
  | cons b P ih =>
    simp only [List.map_cons, List.sum_cons, List.length_cons]
    have := h b
    omega
theorem cell_grown {W W' : World} {lb o : Nat} {v : Value} (h : W.grownBy W' (some lb)) : W.grownBy (W'.setCell ⟨lb, o, none⟩ v) (some lb) :=
  ⟨h.os, h.tape, h.output, by simpa [World.setCell] using h.size, fun j hj hne => (heap_setCell_other W' ⟨lb, o, none⟩ j _ (fun e => hne (by rw [show j = lb from e]))).trans (h.block j hj hne)⟩
theorem drew_grown {W W' : World} {lb : Nat} (h : W.grownBy W' (some lb)) : W.grownBy W'.drew (some lb) := ⟨h.os, h.tape, h.output, h.size, h.block⟩
theorem Ln.gph {w W : World} {lb gb : Nat} {gv pv : Value} {vsT vsP : List Value} {G S : List (List Nat)} {of : Nat → Nat} {Wt : Nat → Int} (hR : RG G) (h : Ln w W lb gv pv gb vsT vsP G S of Wt) : Gph W (some ⟨gb, 0, none⟩) vsT ((trnG G).map nums) :=
  h.trows.gph (fun h0 => ⟨gb, 0, rfl, h.tg.lt, fun i hi => by rw [Nat.zero_add, h.tg.cell, List.getElem?_toArray]⟩) (by rw [trnG_len]; have := hR.most; omega) (fun i hi => Nat.le_trans (hR.turned.len i) (by omega))
set_option maxRecDepth 100000 in
set_option maxHeartbeats 8000000 in
theorem lput_any {G : List (List Nat)} (hR : RG G) {w W : World} {lb gb : Nat} {pv : Value} {vsT vsP : List Value} {of : Nat → Nat} {Wt : Nat → Int} (h : Ln w W lb (.slice (some ⟨gb, 0, none⟩) G.length G.length) pv gb vsT vsP G (sG G) of Wt) (hof : ∀ a, a < G.length → of a = oG G a)
    {nx : Nat} (hnx : nx < (sG G).length) (h0 : Wt nx = 0) (hf : ∀ j, j < nx → Wt j ≠ 0) (hW : ∀ q, q < 64 → -100000000 ≤ Wt q ∧ Wt q ≤ 100000) :
    Calls Try.prog 35 #[.pointer (some ⟨lb, 0, none⟩)] W fun e w' => e = .returned (vsP.getD nx undef) ∧ Ln w w' lb (.slice (some ⟨gb, 0, none⟩) G.length G.length) pv gb vsT vsP G (sG G) of (decs (upd Wt nx (-1)) (rows (adjG (trnG G)) (oG G) ((sG G).getD nx []))) ∧ W.grownBy w' (some lb) := by
  have PS := Lib.hid (part_facts hR (List.Perm.refl (sG G)))
  have hn := hR.most
  obtain ⟨Al, cl, rfl, _, _⟩ := own_slice h.own
  obtain ⟨k, ek⟩ : ∃ k, k = (sG G).length := ⟨_, rfl⟩
  have EK := Lib.hid ek
  have hk64 : k ≤ 64 := by rw [ek]; exact PS.out.1
  have hnk : nx < k := by omega
  rw [← ek] at h ⊢
  have HL := Lib.hid h
  have c1 := h.blk.cell 1
  simp only [List.getElem?_toArray, lineCells, List.getElem?_cons_zero, List.getElem?_cons_succ] at c1
  have fw := h.blk.frozen (66 + nx)
  have cw := h.blk.cell (66 + nx)
  rw [List.getElem?_toArray, lineCells_wait (by omega)] at cw
  have hli : Lies W (some ⟨lb, 66, none⟩) (ints ((List.range k).map Wt)) := fun _ => ⟨lb, 66, rfl, h.blk.lt, fun i hi => by
    rw [ints_length, List.length_map, List.length_range] at hi
    rw [h.blk.cell, List.getElem?_toArray, lineCells_wait (by omega)]
    rw [ints_at (by simpa using hi)]
    simp [List.getD, hi]⟩
  have hix : idxI ((List.range k).map Wt) 0 = nx := idxI_some (by simpa using hnk) (by simp [List.getD, hnk, h0]) (fun j hj => by simp [List.getD, show j < k by omega]; exact hf j hj)
  have IX := Lib.hid (index_any (some ⟨lb, 66, none⟩) 64 k ((List.range k).map Wt) 0 (by simp; omega) W.drew (show Lies W.drew (some ⟨lb, 66, none⟩) (ints ((List.range k).map Wt)) from hli) (by simp))
  rw [hix] at IX
  have HSET := Lib.hid ((h.set (k := nx) (x := -1) (by omega)).below (bdrew1 (Below.refl _ _) : Below (W.setCell ⟨lb, 66 + nx, none⟩ (.int .i64 (-1))).heap.size (W.setCell ⟨lb, 66 + nx, none⟩ (.int .i64 (-1))) (W.setCell ⟨lb, 66 + nx, none⟩ (.int .i64 (-1))).drew))
  have hR2 := Lib.hid hR
  have hk64i : (k : Int) ≤ 64 := by omega
  have hnk64 : (nx : Int) < 64 := by omega
  have hnki : (nx : Int) < k := by omega
  have HOF := Lib.hid hof
  have HW := Lib.hid hW
  clear h hof h0 hf hli hix hR hW ek
  go_enter Try.func35, Try.ntmps35
  go_wp2_with fail
  refine wp_region_of_any (by kernel_rfl) ?_
  refine wpAnyIn_puts (by kernel_rfl) (by kernel_rfl) 0 (fun _ => W.drew) (fun _ => 0) (fun j => match j with | 0 => .pointer (some ⟨lb, 0, none⟩) | 1 => .pointer (some ⟨lb, 0, none⟩) | 2 => .pointer (some ⟨lb, 66, none⟩) | 3 => .pointer (some ⟨lb, 0, none⟩) | 4 => .pointer (some ⟨lb, 0, none⟩) | 5 => .pointer (some ⟨lb, 1, none⟩) | 6 => .slice Al k cl | 7 => .int .i64 k | 8 => .slice (some ⟨lb, 66, none⟩) k 64 | 9 => .int .i64 nx | 10 => .int .i64 nx | _ => undef) rfl (by kernel_rfl) ?hop ?hend
  case hop =>
    intro j o hj p a hp e1 e2 e3 hrest hdep
    have hjl : j < 11 := (List.getElem?_eq_some_iff.1 hj).1
    have q0 : a.tmps[0]?.getD undef = .pointer (some ⟨lb, 0, none⟩) := hrest 0 (by kernel_rfl)
    have H1 := Lib.hid e1
    have H3 := Lib.hid e3
    have HD := Lib.hid hdep
    clear hrest e1 e2 e3 hdep
    rcases (show j = 0 ∨ j = 1 ∨ j = 2 ∨ j = 3 ∨ j = 4 ∨ j = 5 ∨ j = 6 ∨ j = 7 ∨ j = 8 ∨ j = 9 ∨ j = 10 by omega) with rfl | rfl | rfl | rfl | rfl | rfl | rfl | rfl | rfl | rfl | rfl
    all_goals (simp only [List.getElem?_cons_zero, List.getElem?_cons_succ, Option.some.injEq] at hj; subst hj)
    · obtain rfl : p = 0 := by omega
      refine Gives.value (v := .pointer (some ⟨lb, 0, none⟩)) (w := W.drew) ?_ ⟨rfl, rfl⟩
      go_simp
    · have d8 : a.tmps[8]?.getD undef = .pointer (some ⟨lb, 0, none⟩) := HD.out 0 8 rfl (by kernel_rfl)
      obtain rfl : p = 0 := by omega
      refine Gives.value (v := .pointer (some ⟨lb, 0, none⟩)) (w := W.drew) ?_ ⟨rfl, rfl⟩
      go_simp
    · have d9 : a.tmps[9]?.getD undef = .pointer (some ⟨lb, 0, none⟩) := HD.out 1 9 rfl (by kernel_rfl)
      obtain rfl : p = 0 := by omega
      refine Gives.value (v := .pointer (some ⟨lb, 66, none⟩)) (w := W.drew) ?_ ⟨rfl, rfl⟩
      go_simp
    · obtain rfl : p = 0 := by omega
      refine Gives.value (v := .pointer (some ⟨lb, 0, none⟩)) (w := W.drew) ?_ ⟨rfl, rfl⟩
      go_simp
    · have d11 : a.tmps[11]?.getD undef = .pointer (some ⟨lb, 0, none⟩) := HD.out 3 11 rfl (by kernel_rfl)
      obtain rfl : p = 0 := by omega
      refine Gives.value (v := .pointer (some ⟨lb, 0, none⟩)) (w := W.drew) ?_ ⟨rfl, rfl⟩
      go_simp
    · have d12 : a.tmps[12]?.getD undef = .pointer (some ⟨lb, 0, none⟩) := HD.out 4 12 rfl (by kernel_rfl)
      obtain rfl : p = 0 := by omega
      refine Gives.value (v := .pointer (some ⟨lb, 1, none⟩)) (w := W.drew) ?_ ⟨rfl, rfl⟩
      go_simp
    · have d13 : a.tmps[13]?.getD undef = .pointer (some ⟨lb, 1, none⟩) := HD.out 5 13 rfl (by kernel_rfl)
      obtain rfl : p = 0 := by omega
      refine Gives.value (v := .slice Al k cl) (w := W.drew) ?_ ⟨rfl, rfl⟩
      go_simp
    · have d14 : a.tmps[14]?.getD undef = .slice Al k cl := HD.out 6 14 rfl (by kernel_rfl)
      obtain rfl : p = 0 := by omega
      refine Gives.value (v := .int .i64 k) (w := W.drew) ?_ ⟨rfl, rfl⟩
      go_simp
    · have d10 : a.tmps[10]?.getD undef = .pointer (some ⟨lb, 66, none⟩) := HD.out 2 10 rfl (by kernel_rfl)
      have d15 : a.tmps[15]?.getD undef = .int .i64 k := HD.out 7 15 rfl (by kernel_rfl)
      obtain rfl : p = 0 := by omega
      refine Gives.value (v := .slice (some ⟨lb, 66, none⟩) k 64) (w := W.drew) ?_ ⟨rfl, rfl⟩
      go_simp
    · have d16 : a.tmps[16]?.getD undef = .slice (some ⟨lb, 66, none⟩) k 64 := HD.out 8 16 rfl (by kernel_rfl)
      obtain rfl : p = 0 := by omega
      refine Gives.enter (f := 40) (args := #[.slice (some ⟨lb, 66, none⟩) k 64, .int .i64 0]) (w := W.drew) ?_ (IX.out.mono ?_)
      · go_simp
      · rintro e w' ⟨rfl, rfl⟩; exact ⟨_, rfl, rfl, rfl⟩
    · have d17 : a.tmps[17]?.getD undef = .int .i64 nx := HD.out 9 17 rfl (by kernel_rfl)
      obtain rfl : p = 0 := by omega
      refine Gives.value (v := .int .i64 nx) (w := W.drew) ?_ ⟨rfl, rfl⟩
      go_simp
  case hend =>
  simp only [putIdx]
  go_simp
  go_upto_region 3 with fail
  obtain ⟨W1, eW1⟩ : ∃ u, u = (W.setCell ⟨lb, 66 + nx, none⟩ (.int .i64 (-1))).drew := ⟨_, rfl⟩
  have GB1 : RowKit.Hid (W.grownBy W1 (some lb)) := Lib.hid (by rw [eW1]; exact drew_grown (cell_grown (World.grownBy.refl _ _)))
  rw [← eW1] at HSET ⊢
  clear eW1 c1 fw cw IX
  have h1 := HSET.out
  have c1 := h1.blk.cell 1
  simp only [List.getElem?_toArray, lineCells, List.getElem?_cons_zero, List.getElem?_cons_succ] at c1
  have hvl := h1.rows.len
  rw [← EK.out] at hvl
  have hown := h1.own
  rw [← EK.out] at hown
  obtain ⟨bl, ol, rfl, _, hcl⟩ := own_lies1 hown (by omega)
  obtain ⟨B1, d1, eB, _, _⟩ := own_slice (h1.rows.row nx hnx)
  have cR := hcl nx (by omega)
  rw [show vsP[nx]? = some (vsP.getD nx undef) by simp [List.getD, List.getElem?_eq_getElem (show nx < vsP.length by omega)], eB] at cR
  have EB := Lib.hid eB
  obtain ⟨P, eP⟩ : ∃ P, P = (sG G).getD nx [] := ⟨_, rfl⟩
  have EP := Lib.hid eP
  rw [← eP] at cR EB
  obtain ⟨m, em⟩ : ∃ m, m = P.length := ⟨_, rfl⟩
  have EM := Lib.hid em
  have hm64 : m ≤ 64 := by rw [em, eP]; exact PS.out.2.1 nx hnx
  rw [← em] at cR EB
  obtain ⟨n, en⟩ : ∃ n, n = G.length := ⟨_, rfl⟩
  have EN := Lib.hid en
  have PLT := Lib.hid (fun a (ha : a ∈ P) => show a < n from by
    rw [en]
    exact (ofP_at (rG_is G G.length) hnx (by rw [eP] at ha; exact ha)).1)
  have RTK := Lib.hid (fun i (hi : i < m) => rows_take (radj := adjG (trnG G)) (of := oG G) (P := P) (i := i) (by omega))
  have RTA := Lib.hid (show P.take m = P from List.take_of_length_le (by omega))
  have OLT := Lib.hid (fun a (ha : a < n) => show oG G a < 64 from by
    have h1 := ofP_lt (rG_is G G.length) (a := a) (by rw [← en]; exact ha)
    have h2 : oG G a < (sG G).length := h1
    have := PS.out.1; omega)
  have RL := Lib.hid (fun i => rows_len (radj := adjG (trnG G)) (of := oG G) (P := P.take i) (fun b => hR2.out.turned.len b))
  have TL := Lib.hid (fun a x (hx : x ∈ adjG (trnG G) a) => show x < n from by rw [en, ← trnG_len]; exact hR2.out.turned.lt a x hx)
  rw [← en] at HSET HL HOF hn
  clear h1 hvl hown hcl eB eP em en
  go_wp2_with fail
  go_loopw [31, 5, 7, 40, 41, 42] (fun i _ _ _ _ _ wr => ∃ q : Nat, q ≤ m ∧ i = .int .i64 q ∧ Ln w wr lb (.slice (some ⟨gb, 0, none⟩) n n) (.slice (some ⟨bl, ol, none⟩) k cl) gb vsT vsP G (sG G) of (decs (upd Wt nx (-1)) (rows (adjG (trnG G)) (oG G) (P.take q))) ∧ W.grownBy wr (some lb)) (fun i _ _ _ _ _ _ => m - (intOf i).toNat)
  case atStart => exact ⟨0, by omega, rfl, by
    have : decs (upd Wt nx (-1)) (rows (adjG (trnG G)) (oG G) (P.take 0)) = upd Wt nx (-1) := by simp [rows, decs_nil]
    rw [this]; exact HSET.out, GB1.out⟩
  case round =>
    obtain ⟨q, hq, rfl, hln, hgb⟩ := hrel
    have HLN := Lib.hid hln
    have HGB := Lib.hid hgb
    clear hgb
    by_cases hlt : q < m
    · have hlt2 : (q : Int) < m := by omega
      have hrow := hln.rows.row nx hnx
      rw [EB.out, ← EP.out, ← EM.out] at hrow
      obtain ⟨b2, o2, rfl, hb2, c3⟩ := lies_cell (own_lies1 hrow) (k := q) (by rw [nums_len, ← EM.out]; exact hlt)
      rw [nums_at] at c3
      have hbn := PLT.out (P.getD q 0) (by have hq2 : q < P.length := by have := EM.out; omega
                                           simp [List.getD, List.getElem?_eq_getElem hq2])
      have RTQ := Lib.hid (RTK.out q hlt)
      generalize P.getD q 0 = b at c3 hbn RTQ
      have hgr := Ln.gph hR2.out hln
      have cg0 := hln.blk.cell 0
      simp only [List.getElem?_toArray, lineCells, List.getElem?_cons_zero] at cg0
      have hbl : b < (trnG G).length := by rw [trnG_len, ← EN.out]; exact hbn
      have TO := Lib.hid (to_any (some ⟨gb, 0, none⟩) n vsT ((trnG G).map nums) b (by rw [List.length_map]; exact hbl) _ hgr)
      have hbrow := hln.trows.row b hbl
      obtain ⟨B3, d3, eB3, _, _⟩ := own_slice hbrow
      rw [List.length_map, trnG_len, ← EN.out, eB3] at TO
      obtain ⟨l, el⟩ : ∃ l, l = ((trnG G).getD b []).length := ⟨_, rfl⟩
      have EL := Lib.hid (show l = (adjG (trnG G) b).length from el)
      have EB3 := Lib.hid eB3
      rw [← el] at TO
      have hl64 : l ≤ 64 := by rw [el]; exact hR2.out.turned.len b
      have TKB := Lib.hid (fun j (hj : j < l) => take_oneN (a := adjG (trnG G) b) (k := j) (by have := EL.out; omega))
      have TAB := Lib.hid (show (adjG (trnG G) b).take l = adjG (trnG G) b from List.take_of_length_le (by have := EL.out; omega))
      have MB := Lib.hid (fun j (hj : j < l) => TL.out b ((adjG (trnG G) b).getD j 0) (by
        have hj2 : j < (adjG (trnG G) b).length := by have := EL.out; omega
        generalize adjG (trnG G) b = X at hj2
        simp [List.getD, List.getElem?_eq_getElem hj2]))
      clear hln hrow hgr hbrow eB3 el
      go_wp2_with (go_at_call 50; (with_reducible refine TO.out.mono ?_); rintro e w3 ⟨rfl, rfl⟩)
      go_loopw [42, 7] (fun i _ wr => ∃ j : Nat, j ≤ l ∧ i = .int .i64 j ∧ Ln w wr lb (.slice (some ⟨gb, 0, none⟩) n n) (.slice (some ⟨bl, ol, none⟩) k cl) gb vsT vsP G (sG G) of (decs (upd Wt nx (-1)) (rows (adjG (trnG G)) (oG G) (P.take q) ++ ((adjG (trnG G) b).take j).map (oG G))) ∧ W.grownBy wr (some lb)) (fun i _ _ => l - (intOf i).toNat)
      case atStart => exact ⟨0, by omega, rfl, by
        have : rows (adjG (trnG G)) (oG G) (P.take q) ++ ((adjG (trnG G) b).take 0).map (oG G) = rows (adjG (trnG G)) (oG G) (P.take q) := by simp
        rw [this]; exact HLN.out, HGB.out⟩
      case round =>
        obtain ⟨j, hj, rfl, hln, hgb⟩ := hrel
        have HLN2 := Lib.hid hln
        have HGB2 := Lib.hid hgb
        clear hgb
        by_cases hjl : j < l
        · have hjl2 : (j : Int) < l := by omega
          have hbrow := hln.trows.row b hbl
          rw [EB3.out] at hbrow
          obtain ⟨b4, o4, rfl, hb4, c4⟩ := lies_cell (own_lies1 (by
            have e : ((trnG G).getD b []).length = l := EL.out.symm
            rw [e] at hbrow; exact hbrow)) (k := j) (by rw [nums_len]; show j < (adjG (trnG G) b).length; have := EL.out; omega)
          rw [nums_at] at c4
          have hyn := MB.out j hjl
          have TKJ := Lib.hid (TKB.out j hjl)
          change _ = some (Value.int .i64 ((adjG (trnG G) b).getD j 0 : Nat)) at c4
          obtain ⟨y, ey⟩ : ∃ y, y = (adjG (trnG G) b).getD j 0 := ⟨_, rfl⟩
          rw [← ey] at c4 hyn TKJ
          obtain ⟨oy, eoy⟩ : ∃ u, u = oG G y := ⟨_, rfl⟩
          have hoy : oy < 64 := by rw [eoy]; exact OLT.out y hyn
          obtain ⟨Lw, eLw⟩ : ∃ u, u = rows (adjG (trnG G)) (oG G) (P.take q) ++ ((adjG (trnG G) b).take j).map (oG G) := ⟨_, rfl⟩
          rw [← eLw] at hln HLN2
          have hLw : Lw.length ≤ 64 * 64 + 64 := by
            rw [eLw, List.length_append, List.length_map]
            have h1 := RL.out q
            have h2 := List.length_take_le' q P
            have h3 := List.length_take_le' j (adjG (trnG G) b)
            have h4 := EM.out
            have h5 := EL.out
            omega
          have hdl := decs_le (upd Wt nx (-1)) Lw oy
          have hup : -100000000 ≤ upd Wt nx (-1) oy ∧ upd Wt nx (-1) oy ≤ 100000 := by
            unfold upd
            split
            · omega
            · exact HW.out oy hoy
          have NXT := Lib.hid (show decs (upd Wt nx (-1)) (rows (adjG (trnG G)) (oG G) (P.take q) ++ ((adjG (trnG G) b).take (j + 1)).map (oG G)) = upd (decs (upd Wt nx (-1)) Lw) oy (decs (upd Wt nx (-1)) Lw oy - 1) from by
            rw [TKJ.out, List.map_append, ← List.append_assoc, ← eLw, List.map_singleton, ← eoy, decs_one])
          have cy := hln.blk.cell (2 + y)
          have cwy := hln.blk.cell (66 + oy)
          have fwy := hln.blk.frozen (66 + oy)
          rw [List.getElem?_toArray, lineCells_of (by omega), HOF.out y hyn, ← eoy] at cy
          rw [List.getElem?_toArray, lineCells_wait hoy] at cwy
          obtain ⟨wy, ewy⟩ : ∃ u, u = decs (upd Wt nx (-1)) Lw oy := ⟨_, rfl⟩
          rw [← ewy] at cwy hdl NXT
          have hwr : IntKind.i64.wrap (wy - 1) = wy - 1 := by simp [IntKind.wrap, IntKind.bits, IntKind.signed]; omega
          have hy64 : (y : Int) < 64 := by omega
          have hoy64 : (oy : Int) < 64 := by omega
          have SETL := Lib.hid (fun (W' : World) (h : Ln w W' lb (.slice (some ⟨gb, 0, none⟩) n n) (.slice (some ⟨bl, ol, none⟩) k cl) gb vsT vsP G (sG G) of (decs (upd Wt nx (-1)) Lw)) => h.set (k := oy) (x := wy - 1) hoy)
          clear hln hbrow ey eoy eLw ewy hLw hdl hup
          go_wp2_with fail
          refine wp_region_of_any (by kernel_rfl) ?_
          obtain ⟨Ws, w0e, w1e⟩ : ∃ Ws : Nat → World, Ws 0 = wr.drew ∧ Ws 1 = wr.drew.setCell ⟨lb, 66 + oy, none⟩ (.int .i64 (wy - 1)) := ⟨fun p => match p with | 0 => wr.drew | _ => wr.drew.setCell ⟨lb, 66 + oy, none⟩ (.int .i64 (wy - 1)), rfl, rfl⟩
          refine wpAnyIn_puts (by kernel_rfl) (by kernel_rfl) 1 Ws (fun _ => 15) (fun j => match j with | 0 => .pointer (some ⟨lb, 0, none⟩) | 1 => .pointer (some ⟨lb, 0, none⟩) | 2 => .int .i64 y | 3 => .pointer (some ⟨lb, 0, none⟩) | 4 => .pointer (some ⟨lb, 2, none⟩) | 5 => .pointer (some ⟨lb, 2 + y, none⟩) | 6 => .int .i64 oy | 7 => .pointer (some ⟨lb, 0, none⟩) | 8 => .pointer (some ⟨lb, 66, none⟩) | 9 => .pointer (some ⟨lb, 66 + oy, none⟩) | 10 => .int .i64 wy | 11 => .int .i64 (wy - 1) | 12 => .pointer (some ⟨lb, 0, none⟩) | 13 => .pointer (some ⟨lb, 66, none⟩) | 14 => .pointer (some ⟨lb, 66 + oy, none⟩) | 15 => undef | _ => undef) w0e (by kernel_rfl) ?hop ?hend
          case hop =>
            intro j o hj p a hp e1 e2 e3 hrest hdep
            have hjl : j < 16 := (List.getElem?_eq_some_iff.1 hj).1
            have q0 : a.tmps[0]?.getD undef = .pointer (some ⟨lb, 0, none⟩) := hrest 0 (by kernel_rfl)
            have q7 : a.tmps[7]?.getD undef = .int .i64 y := hrest 7 (by kernel_rfl)
            have H1 := Lib.hid e1
            have H3 := Lib.hid e3
            have HD := Lib.hid hdep
            clear hrest e1 e2 e3 hdep
            rcases (show j = 0 ∨ j = 1 ∨ j = 2 ∨ j = 3 ∨ j = 4 ∨ j = 5 ∨ j = 6 ∨ j = 7 ∨ j = 8 ∨ j = 9 ∨ j = 10 ∨ j = 11 ∨ j = 12 ∨ j = 13 ∨ j = 14 ∨ j = 15 by omega) with rfl | rfl | rfl | rfl | rfl | rfl | rfl | rfl | rfl | rfl | rfl | rfl | rfl | rfl | rfl | rfl
            all_goals (simp only [List.getElem?_cons_zero, List.getElem?_cons_succ, Option.some.injEq] at hj; subst hj)
            · obtain rfl : p = 0 := by have := H3.out 0 (by omega) (by kernel_rfl); omega
              refine Gives.value (v := .pointer (some ⟨lb, 0, none⟩)) (w := Ws 0) ?_ ⟨rfl, rfl⟩
              rw [w0e]
              go_simp
            · obtain rfl : p = 0 := by have := H3.out 0 (by omega) (by kernel_rfl); omega
              refine Gives.value (v := .pointer (some ⟨lb, 0, none⟩)) (w := Ws 0) ?_ ⟨rfl, rfl⟩
              rw [w0e]
              go_simp
            · obtain rfl : p = 0 := by have := H3.out 0 (by omega) (by kernel_rfl); omega
              refine Gives.value (v := .int .i64 y) (w := Ws 0) ?_ ⟨rfl, rfl⟩
              rw [w0e]
              go_simp
            · have d47 : a.tmps[47]?.getD undef = .pointer (some ⟨lb, 0, none⟩) := HD.out 1 47 rfl (by kernel_rfl)
              obtain rfl : p = 0 := by have := H3.out 0 (by omega) (by kernel_rfl); omega
              refine Gives.value (v := .pointer (some ⟨lb, 0, none⟩)) (w := Ws 0) ?_ ⟨rfl, rfl⟩
              rw [w0e]
              go_simp
            · have d49 : a.tmps[49]?.getD undef = .pointer (some ⟨lb, 0, none⟩) := HD.out 3 49 rfl (by kernel_rfl)
              obtain rfl : p = 0 := by have := H3.out 0 (by omega) (by kernel_rfl); omega
              refine Gives.value (v := .pointer (some ⟨lb, 2, none⟩)) (w := Ws 0) ?_ ⟨rfl, rfl⟩
              rw [w0e]
              go_simp
            · have d50 : a.tmps[50]?.getD undef = .pointer (some ⟨lb, 2, none⟩) := HD.out 4 50 rfl (by kernel_rfl)
              have d48 : a.tmps[48]?.getD undef = .int .i64 y := HD.out 2 48 rfl (by kernel_rfl)
              obtain rfl : p = 0 := by have := H3.out 0 (by omega) (by kernel_rfl); omega
              refine Gives.value (v := .pointer (some ⟨lb, 2 + y, none⟩)) (w := Ws 0) ?_ ⟨rfl, rfl⟩
              rw [w0e]
              go_simp
            · have d51 : a.tmps[51]?.getD undef = .pointer (some ⟨lb, 2 + y, none⟩) := HD.out 5 51 rfl (by kernel_rfl)
              obtain rfl : p = 0 := by have := H3.out 0 (by omega) (by kernel_rfl); omega
              refine Gives.value (v := .int .i64 oy) (w := Ws 0) ?_ ⟨rfl, rfl⟩
              rw [w0e]
              go_simp
            · have d46 : a.tmps[46]?.getD undef = .pointer (some ⟨lb, 0, none⟩) := HD.out 0 46 rfl (by kernel_rfl)
              obtain rfl : p = 0 := by have := H3.out 0 (by omega) (by kernel_rfl); omega
              refine Gives.value (v := .pointer (some ⟨lb, 0, none⟩)) (w := Ws 0) ?_ ⟨rfl, rfl⟩
              rw [w0e]
              go_simp
            · have d53 : a.tmps[53]?.getD undef = .pointer (some ⟨lb, 0, none⟩) := HD.out 7 53 rfl (by kernel_rfl)
              obtain rfl : p = 0 := by have := H3.out 0 (by omega) (by kernel_rfl); omega
              refine Gives.value (v := .pointer (some ⟨lb, 66, none⟩)) (w := Ws 0) ?_ ⟨rfl, rfl⟩
              rw [w0e]
              go_simp
            · have d54 : a.tmps[54]?.getD undef = .pointer (some ⟨lb, 66, none⟩) := HD.out 8 54 rfl (by kernel_rfl)
              have d52 : a.tmps[52]?.getD undef = .int .i64 oy := HD.out 6 52 rfl (by kernel_rfl)
              obtain rfl : p = 0 := by have := H3.out 0 (by omega) (by kernel_rfl); omega
              refine Gives.value (v := .pointer (some ⟨lb, 66 + oy, none⟩)) (w := Ws 0) ?_ ⟨rfl, rfl⟩
              rw [w0e]
              go_simp
            · have d55 : a.tmps[55]?.getD undef = .pointer (some ⟨lb, 66 + oy, none⟩) := HD.out 9 55 rfl (by kernel_rfl)
              obtain rfl : p = 0 := by have := H3.out 0 (by omega) (by kernel_rfl); omega
              refine Gives.value (v := .int .i64 wy) (w := Ws 0) ?_ ⟨rfl, rfl⟩
              rw [w0e]
              go_simp
            · have d56 : a.tmps[56]?.getD undef = .int .i64 wy := HD.out 10 56 rfl (by kernel_rfl)
              obtain rfl : p = 0 := by have := H3.out 0 (by omega) (by kernel_rfl); omega
              refine Gives.value (v := .int .i64 (wy - 1)) (w := Ws 0) ?_ ⟨rfl, rfl⟩
              rw [w0e]
              go_simp
            · have d46 : a.tmps[46]?.getD undef = .pointer (some ⟨lb, 0, none⟩) := HD.out 0 46 rfl (by kernel_rfl)
              obtain rfl : p = 0 := by have := H3.out 0 (by omega) (by kernel_rfl); omega
              refine Gives.value (v := .pointer (some ⟨lb, 0, none⟩)) (w := Ws 0) ?_ ⟨rfl, rfl⟩
              rw [w0e]
              go_simp
            · have d58 : a.tmps[58]?.getD undef = .pointer (some ⟨lb, 0, none⟩) := HD.out 12 58 rfl (by kernel_rfl)
              obtain rfl : p = 0 := by have := H3.out 0 (by omega) (by kernel_rfl); omega
              refine Gives.value (v := .pointer (some ⟨lb, 66, none⟩)) (w := Ws 0) ?_ ⟨rfl, rfl⟩
              rw [w0e]
              go_simp
            · have d59 : a.tmps[59]?.getD undef = .pointer (some ⟨lb, 66, none⟩) := HD.out 13 59 rfl (by kernel_rfl)
              have d52 : a.tmps[52]?.getD undef = .int .i64 oy := HD.out 6 52 rfl (by kernel_rfl)
              obtain rfl : p = 0 := by have := H3.out 0 (by omega) (by kernel_rfl); omega
              refine Gives.value (v := .pointer (some ⟨lb, 66 + oy, none⟩)) (w := Ws 0) ?_ ⟨rfl, rfl⟩
              rw [w0e]
              go_simp
            · have d60 : a.tmps[60]?.getD undef = .pointer (some ⟨lb, 66 + oy, none⟩) := HD.out 14 60 rfl (by kernel_rfl)
              have d57 : a.tmps[57]?.getD undef = .int .i64 (wy - 1) := HD.out 11 57 rfl (by kernel_rfl)
              obtain rfl : p = 0 := H1.out 0 (by omega) rfl
              refine Gives.skip (w := Ws 1) ?_ ⟨rfl, rfl⟩
              rw [w0e, w1e]
              go_simp
          case hend =>
          rw [w1e]
          simp only [putIdx]
          go_simp
          go_wp2_with fail
          go_roundw
          case rel =>
            refine ⟨j + 1, by omega, by go_num, ?_, cell_grown (drew_grown HGB2.out)⟩
            rw [NXT.out]
            exact SETL.out _ (HLN2.out.below (bdrew1 (Below.refl _ _)))
          case measure => simp [intOf]; omega
        · obtain rfl : j = l := by omega
          have hjl2 : ¬ (j : Int) < j := by omega
          clear hln
          go_wp2_with fail
          go_roundw
          case rel =>
            refine ⟨q + 1, by omega, by go_num, ?_, HGB2.out⟩
            have := HLN2.out
            rw [TAB.out] at this
            rw [RTQ.out]; exact this
          case measure => simp [intOf]; omega
    · obtain rfl : q = m := by omega
      have hlt2 : ¬ (q : Int) < q := by omega
      have c1 := hln.blk.cell 1
      simp only [List.getElem?_toArray, lineCells, List.getElem?_cons_zero, List.getElem?_cons_succ] at c1
      have hown := hln.own
      rw [← EK.out] at hown
      have hvl := hln.rows.len
      rw [← EK.out] at hvl
      obtain ⟨bl', ol', e', _, hcl⟩ := own_lies1 hown (by omega)
      cases e'
      have cR := hcl nx (by omega)
      rw [show vsP[nx]? = some (vsP.getD nx undef) by simp [List.getD, List.getElem?_eq_getElem (show nx < vsP.length by omega)], EB.out] at cR
      clear hln hown hvl hcl
      go_wp2_with fail
      go_ret
      refine ⟨congrArg Ending.returned EB.out.symm, ?_, HGB.out⟩
      have := HLN.out
      rw [RTA.out, EP.out, EN.out] at this
      simp only [List.getD, List.getElem?_eq_getElem hnx, Option.getD_some] at this ⊢
      exact this
end Go.Proofs.Ytefeokfjgmidbaa
namespace Go.Proofs.Ytefeokfjgmidbaa
open Go Go.Proofs Go.Shelf Go.RowKit Go.Lib Go.Maps
theorem ordL_next_eq (rd : (Nat → Bool) → Nat → Bool) (k t : Nat) : ordL rd k (t + 1) = ordL rd k t ++ [nxt rd k (ptO rd k t)] := rfl
set_option maxRecDepth 100000 in
set_option maxHeartbeats 4000000 in
theorem order_any {G : List (List Nat)} (hR : RG G) {w W : World} {lb gb : Nat} {pv : Value} {vsT vsP : List Value} {of : Nat → Nat} (h : Ln w W lb (.slice (some ⟨gb, 0, none⟩) G.length G.length) pv gb vsT vsP G (sG G) of (wk (oG G) (lnkG G) (lnkG G).length)) (hof : ∀ a, a < G.length → of a = oG G a) :
    Calls Try.prog 23 #[.pointer (some ⟨lb, 0, none⟩)] W fun e w' => ∃ v vs', e = .returned v ∧ w'.ownsRow w.heap.size 26 1 v (pG G).length vs' ∧ RowsO w.heap.size w' vs' (pG G) ∧ Below w.heap.size w w' := by
  obtain ⟨i0, hi, hz0, hz1, hz2⟩ := info_parts Try.info_s
  have PS := Lib.hid (part_facts hR (List.Perm.refl (sG G)))
  obtain ⟨Al, cl, rfl, _, _⟩ := own_slice h.own
  obtain ⟨k, ek⟩ : ∃ k, k = (sG G).length := ⟨_, rfl⟩
  have EK := Lib.hid ek
  have hk64 : k ≤ 64 := by rw [ek]; exact PS.out.1
  have HP := Lib.hid (fun W' Wt nx (h : Ln w W' lb (.slice (some ⟨gb, 0, none⟩) G.length G.length) (.slice Al k cl) gb vsT vsP G (sG G) of Wt) hnx h0 hf hW => lput_any hR h hof (nx := nx) hnx h0 hf hW)
  have CS := Lib.hid (cnt_start (G := G))
  have CN := Lib.hid (fun t (ht : t < k) W h => cnt_next hR (t := t) (W := W) (by rw [← ek]; exact ht) h)
  have CP := Lib.hid (fun t (ht : t < k) W h => cnt_put hR (t := t) (W := W) (by rw [← ek]; exact ht) h)
  have WB := Lib.hid (fun q => wk_le (oG G) (lnkG G) (lnkG G).length q (lnkG_len hR))
  have RL := Lib.hid (fun i => rows_len (radj := adjG (trnG G)) (of := oG G) (P := (sG G).getD i []) (fun b => hR.turned.len b))
  have OF := Lib.hid (ordL_facts hR.goes)
  rw [← ek] at h OF
  have HL := Lib.hid h
  have c1 := h.blk.cell 1
  simp only [List.getElem?_toArray, lineCells, List.getElem?_cons_zero, List.getElem?_cons_succ] at c1
  clear h hof hR ek
  go_enter Try.func23, Try.ntmps23
  go_wp2_with fail
  go_loopw [9, 3] (fun i rx wr => ∃ (j : Nat) (v : Value) (Wt : Nat → Int), j ≤ k ∧ i = .int .i64 j ∧ rx = v ∧ Ln w wr lb (.slice (some ⟨gb, 0, none⟩) G.length G.length) (.slice Al k cl) gb vsT vsP G (sG G) of Wt ∧ Cnt (oG G) (lnkG G) (sG G).length (ptO (rdG G) (sG G).length j) Wt ∧ (∀ q, q < 64 → -(5000 * (j : Int)) ≤ Wt q ∧ Wt q ≤ 4096) ∧ wr.ownsRow W.heap.size 26 1 v j ((ordL (rdG G) (sG G).length j).map fun p => vsP.getD p undef) ∧ (∀ q, q < W.heap.size → q ≠ lb → wr.heap[q]? = W.heap[q]?) ∧ W.heap.size ≤ wr.heap.size) (fun i _ _ => k - (intOf i).toNat)
  case atStart => exact ⟨0, _, _, by omega, rfl, rfl, HL.out, CS.out, fun q _ => by have := WB.out q; omega, World.ownsRow_nil _ _ _ _, fun _ _ _ => rfl, Nat.le_refl _⟩
  case round =>
    obtain ⟨j, v, Wt, hj, rfl, rfl, hln, hcn, hbd, hown, hkeep, hsz⟩ := hrel
    have HLN := Lib.hid hln
    have HCN := Lib.hid hcn
    have HBD := Lib.hid hbd
    have HOW := Lib.hid hown
    have HKP := Lib.hid hkeep
    by_cases hlt : j < k
    · have hlt2 : (j : Int) < k := by omega
      have CNJ := Lib.hid (CN.out j hlt Wt hcn)
      have CPJ := Lib.hid (CP.out j hlt Wt hcn)
      have ONX := Lib.hid (ordL_next_eq (rdG G) (sG G).length j)
      obtain ⟨nx, enx⟩ : ∃ nx, nx = nxt (rdG G) (sG G).length (ptO (rdG G) (sG G).length j) := ⟨_, rfl⟩
      rw [← enx] at CNJ CPJ ONX
      have P0 := Lib.hid (HP.out _ Wt nx hln CNJ.out.1 CNJ.out.2.1 CNJ.out.2.2 (fun q hq => by have := hbd q hq; omega))
      obtain ⟨Av, cv, rfl, _, _⟩ := own_slice hown
      obtain ⟨Bx, dx, eB, _, _⟩ := own_slice (hln.rows.row nx CNJ.out.1)
      have EB := Lib.hid eB
      rw [eB] at P0
      obtain ⟨m, em⟩ : ∃ m, m = ((sG G).getD nx []).length := ⟨_, rfl⟩
      have EM := Lib.hid em
      rw [← em] at P0 EB
      clear hln hcn hbd hown hkeep enx eB em
      go_wp2_with (first | (go_at_call 35; (with_reducible refine P0.out.mono ?_); rintro e w3 ⟨rfl, hl3, hg3⟩; have L3 := Lib.hid hl3; have G3 := Lib.hid hg3; have O3 := Lib.hid (show w3.ownsRow W.heap.size 26 1 (.slice Av j cv) j ((ordL (rdG G) (sG G).length j).map fun p => vsP.getD p undef) from own_kept HOW.out (fun q hq => hg3.block q (HOW.out.lt q hq).2 (fun e => own_ne HOW.out HLN.out.blk (by decide) (by rw [hq]; exact e)))); clear hl3 hg3) | (at_builtin; refine wpList_append_onto _ rfl _ _ 22 rfl W.heap.size 26 i0 (.slice none 0 0) 1 24 Try.underlying22 hi hz0 hz1 hz2 rfl (by decide) _ _ _ rfl (own_below O3.out (B1 w3 _)) (some ⟨w3.heap.size, 0, none⟩) 1 1 [.slice Bx m dx] rfl rfl (fun ad had => by cases had; exact cell_one_new _ _ _) (fun h => by cases h) (by simp [Value.oneCell']) (by unfold maxLen; omega) (by omega) (by have h1 := G3.out.size; simp; omega) ?_; intro v9 w9 hown9 hgrow9 hfr9; have O9 := Lib.hid hown9; have G9 := Lib.hid (show World.grownBy _ w9 (Value.slice Av j cv).ownBlock from hgrow9); clear hown9 hgrow9 hfr9))
      go_roundw
      case rel =>
        have hs39 : w3.heap.size ≤ w9.heap.size := by have := G9.out.size; simp at this; omega
        have hold : ∀ q, q < W.heap.size → w9.heap[q]? = w3.heap[q]? := fun q hq => (G9.out.block q (by simp; have := G3.out.size; omega) (fun e => by have := (HOW.out.lt q e.symm).1; omega)).trans (Below.heap_alloc w3 _ q (by have := G3.out.size; omega))
        have hlbW : lb < W.heap.size := HL.out.blk.lt
        have L9 : Ln w w9 lb (.slice (some ⟨gb, 0, none⟩) G.length G.length) (.slice Al k cl) gb vsT vsP G (sG G) of (decs (upd Wt nx (-1)) (rows (adjG (trnG G)) (oG G) ((sG G).getD nx []))) := by
          refine HL.out.turn ((hold lb hlbW).trans L3.out.blk) ?_
          have l3 := L3.out.low
          have l0 := HL.out.low
          refine ⟨?_, ?_, ?_, by have := G3.out.size; omega, fun q hq hne => ?_⟩
          · exact G9.out.os.trans (l3.os.trans l0.os.symm)
          · exact G9.out.tape.trans (l3.tape.trans l0.tape.symm)
          · exact G9.out.output.trans (l3.output.trans l0.output.symm)
          · exact (hold q hq).trans ((G3.out.block q (by have := G3.out.size; omega) hne).trans (HKP.out q hq (fun e => hne (by rw [e]))))
        refine ⟨j + 1, v9, _, by omega, by go_num, rfl, L9, CPJ.out, fun q hq => ?_, ?_, fun q hq hne => ?_, by have := G3.out.size; omega⟩
        · have h1 := decs_le (upd Wt nx (-1)) (rows (adjG (trnG G)) (oG G) ((sG G).getD nx [])) q
          have h2 := RL.out nx
          have h3 := PS.out.2.1 nx CNJ.out.1
          have h4 : -(5000 * (j : Int)) - 1 ≤ upd Wt nx (-1) q ∧ upd Wt nx (-1) q ≤ 4096 := by
            unfold upd
            split
            · omega
            · have := HBD.out q hq; omega
          omega
        · rw [ONX.out, List.map_append, List.map_singleton, EB.out]
          exact O9.out
        · exact (hold q hq).trans ((G3.out.block q (by have := G3.out.size; omega) (fun e => hne (Option.some.inj e))).trans (HKP.out q hq hne))
      case measure => simp [intOf]; omega
    · obtain rfl : j = k := by omega
      have hlt2 : ¬ (j : Int) < j := by omega
      clear hln hcn hbd hown hkeep
      go_wp2_with fail
      go_ret
      have hpl : (pG G).length = j := by rw [pG_len, ← EK.out]
      refine ⟨_, rfl, _, by rw [hpl]; exact own_lower HOW.out HL.out.low.size, ?_, HLN.out.low⟩
      rw [pG_eq]
      have ho := OF.out j (Nat.le_refl _)
      have hr := HLN.out.rows.order (s := ordL (rdG G) (sG G).length j) (by rw [← EK.out]; exact ho.1) (fun i hi => by rw [← EK.out] at hi ⊢; exact ho.2 i hi)
      have e : ordL (rdG G) (sG G).length (sG G).length = ordL (rdG G) (sG G).length j := by rw [EK.out]
      rw [e]
      exact hr
set_option maxHeartbeats 1000000 in
theorem Parts_any (A : Option Addr) (c : Nat) (vs : List Value) (G : List (List Nat)) (hR : RG G) (w : World) (hG : Gph w A vs (G.map nums)) :
    Calls Try.prog 9 #[.slice A G.length c] w fun e w' => ∃ v vs', e = .returned v ∧ w'.ownsRow w.heap.size 26 1 v (pG G).length vs' ∧ RowsO w.heap.size w' vs' (pG G) ∧ Below w.heap.size w w' := by
  have GO := Lib.hid (graphOf_any A c vs (G.map nums) w hG)
  have hm : (G.map nums).length = G.length := List.length_map _
  rw [hm, hR.right] at GO
  simp only [if_true] at GO
  have LO := Lib.hid (lineOf_any A c vs G hR w hG)
  have OR := Lib.hid (fun W lb gb pv vsT vsP of h hof => order_any hR (w := w) (W := W) (lb := lb) (gb := gb) (pv := pv) (vsT := vsT) (vsP := vsP) (of := of) h hof)
  clear hG hR hm
  go_enter Try.func9, Try.ntmps9
  go_wp2_with (first | (go_at_call 21; (with_reducible refine GO.out.mono ?_); rintro e w1 ⟨rfl, rfl⟩) | (go_at_call 22; (with_reducible refine LO.out.mono ?_); rintro e w2 ⟨lb, gb, pv, vsT, vsP, of, rfl, hl, hof⟩; have C2 := Lib.hid (OR.out w2 lb gb pv vsT vsP of hl hof); clear hl hof) | (go_at_call 23; (with_reducible refine C2.out.mono ?_); rintro e w3 ⟨v3, vs3, rfl, h3⟩; have H3 := Lib.hid h3; clear h3))
  go_ret
  exact ⟨v3, vs3, rfl, H3.out⟩
theorem Parts_no (A : Option Addr) (c : Nat) (vs : List Value) (L : List (List Int)) (hL : rightL L = false) (w : World) (hG : Gph w A vs L) :
    Calls Try.prog 9 #[.slice A L.length c] w fun e w' => e = .returned (.slice none 0 0) ∧ w' = w := by
  have GO := Lib.hid (graphOf_any A c vs L w hG)
  rw [hL] at GO
  simp only [Bool.false_eq_true, if_false] at GO
  generalize L.length = n at *
  clear hG hL
  go_enter Try.func9, Try.ntmps9
  go_wp2_with (go_at_call 21; (with_reducible refine GO.out.mono ?_); rintro e w1 ⟨rfl, rfl⟩)
  go_ret
  exact ⟨rfl, rfl⟩
end Go.Proofs.Ytefeokfjgmidbaa
namespace Go.Proofs.Ytefeokfjgmidbaa
open Go Go.Proofs Go.Shelf Go.RowKit Go.Lib Go.Maps
def idxP (L : List (List Int)) (a : Int) : Int := match L.findIdx? fun p => decide (a ∈ p) with | some i => i | none => -1
theorem idxP_some {L : List (List Int)} {a : Int} {k : Nat} (h : k < L.length) (he : a ∈ L.getD k []) (hn : ∀ j, j < k → a ∉ L.getD j []) : idxP L a = k := by
  have : (L.findIdx? fun p => decide (a ∈ p)) = some k := by
    rw [List.findIdx?_eq_some_iff_getElem]
    refine ⟨h, ?_, fun j hj => ?_⟩
    · have : L[k] = L.getD k [] := by simp [List.getD, List.getElem?_eq_getElem h]
      rw [this]; simpa using he
    · have h2 := hn j hj
      have : L[j]'(by omega) = L.getD j [] := by simp [List.getD, List.getElem?_eq_getElem (show j < L.length by omega)]
      rw [this]; simpa using h2
  unfold idxP
  rw [this]
theorem idxP_none {L : List (List Int)} {a : Int} (hn : ∀ j, j < L.length → a ∉ L.getD j []) : idxP L a = -1 := by
  have : (L.findIdx? fun p => decide (a ∈ p)) = none := by
    rw [List.findIdx?_eq_none_iff]
    intro y hy
    obtain ⟨j, hj, rfl⟩ := List.getElem_of_mem hy
    have h2 := hn j hj
    have : L[j] = L.getD j [] := by simp [List.getD, List.getElem?_eq_getElem hj]
    rw [this]; simpa using h2
  unfold idxP
  rw [this]
theorem hasPart_any (B : Option Addr) (d cb n : Nat) (l : List Int) (a : Int) (hl : l.length ≤ 140737488351232) (w : World) (hB : Lies w B (ints l)) (hc : w.cell? ⟨cb, 0, none⟩ = some (.int .i64 a)) (en : n = l.length) :
    Calls Try.prog 39 #[.slice B n d, .pointer (some ⟨cb, 0, none⟩)] w fun e w' => e = .returned (.bool (decide (a ∈ l))) ∧ w' = w := by
  have C := Lib.hid (contains_any B d n l a hl w hB en)
  generalize decide (a ∈ l) = q at C ⊢
  clear hB en hl
  go_enter Try.func39, Try.ntmps39
  go_wp2_with (go_at_call 27; (with_reducible refine C.out.mono ?_); rintro e w1 ⟨rfl, rfl⟩)
  go_ret
  exact ⟨rfl, rfl⟩
set_option maxRecDepth 100000 in
set_option maxHeartbeats 1000000 in
theorem indexPart_any (A : Option Addr) (c n cb : Nat) (vs : List Value) (L : List (List Int)) (a : Int) (w : World) (hG : Gph w A vs L) (en : n = L.length) (hc : w.cell? ⟨cb, 0, none⟩ = some (.int .i64 a)) :
    Calls Try.prog 38 #[.slice A n c, .func (.func 39) #[] #[.pointer (some ⟨cb, 0, none⟩)]] w fun e w' => e = .returned (.int .i64 (idxP L a)) ∧ w' = w := by
  have AT := Lib.hid (fun i (hi : i < n) => hG.at_ (i := i) (by rw [← en]; exact hi))
  have hn : n ≤ 140737488351232 := by rw [en]; exact hG.most
  have MO := Lib.hid (fun i (hi : i < n) => hG.mosts i (by rw [← en]; exact hi))
  have HP := Lib.hid (fun (B : Option Addr) d l (hl : l.length ≤ 140737488351232) (hB : Lies w B (ints l)) => hasPart_any B d cb l.length l a hl w hB hc rfl)
  have IS := Lib.hid (fun k (hk : k < n) => idxP_some (L := L) (a := a) (k := k) (by rw [← en]; exact hk))
  have IN := Lib.hid (show (∀ j, j < n → a ∉ L.getD j []) → idxP L a = -1 from fun h => idxP_none (fun j hj => h j (by omega)))
  generalize idxP L a = R at IS IN ⊢
  clear hG en hc
  go_enter Try.func38, Try.ntmps38
  go_wp2_with fail
  go_loopw [8, 5] (fun i _ wr => ∃ (k : Nat), k ≤ n ∧ i = .int .i64 k ∧ (∀ j, j < k → a ∉ L.getD j []) ∧ wr = w) (fun i _ _ => n - (intOf i).toNat)
  case atStart => exact ⟨0, by omega, rfl, fun j h => by omega, rfl⟩
  case round =>
    obtain ⟨k, hk, rfl, hr, rfl⟩ := hrel
    have HR := Lib.hid hr
    clear hr
    by_cases hlt : k < n
    · have hlt2 : (k : Int) < n := by omega
      obtain ⟨b1, o1, B1, d1, rfl, hb1, c1, hl1⟩ := AT.out k hlt
      have W1 := Lib.hid (HP.out B1 d1 _ (MO.out k hlt) hl1)
      obtain ⟨q, eq⟩ : ∃ q, q = decide (a ∈ L.getD k []) := ⟨_, rfl⟩
      have EQ := Lib.hid eq
      rw [← eq] at W1
      generalize (L.getD k []).length = ll at c1 W1
      clear hl1 eq
      cases q with
      | true =>
        go_wp2_with (go_at_call 39; (with_reducible refine W1.out.mono ?_); rintro e w1 ⟨rfl, rfl⟩)
        go_ret
        refine ⟨?_, rfl⟩
        rw [IS.out k hlt (of_decide_eq_true EQ.out.symm) HR.out]; rfl
      | false =>
        go_wp2_with (go_at_call 39; (with_reducible refine W1.out.mono ?_); rintro e w1 ⟨rfl, rfl⟩)
        go_roundw
        case rel =>
          refine ⟨k + 1, by omega, by go_num, fun j hj => ?_, by first | rfl | trivial⟩
          by_cases e : j = k
          · subst e; exact of_decide_eq_false EQ.out.symm
          · exact HR.out j (by omega)
        case measure => simp [intOf]; omega
    · obtain rfl : k = n := by omega
      have hlt2 : ¬ (k : Int) < k := by omega
      go_wp2_with fail
      go_ret
      exact ⟨by rw [IN.out HR.out]; rfl, rfl⟩
theorem partWith_any (A : Option Addr) (c n : Nat) (vs : List Value) (L : List (List Int)) (a : Int) (w : World) (hG : Gph w A vs L) (en : n = L.length) :
    Calls Try.prog 25 #[.slice A n c, .int .i64 a] w fun e w' => e = .returned (.int .i64 (idxP L a)) ∧ Below w.heap.size w w' := by
  have C := Lib.hid (indexPart_any A c n w.heap.size vs L a (w.alloc (.cells #[.int .i64 a] 3)) (hG.below (B1 _ _)) en ((Blk.new w _ _).cell 0))
  have HB := Lib.hid (B1 w (.cells #[.int .i64 a] 3))
  generalize idxP L a = R at C ⊢
  clear hG en
  go_enter Try.func25, Try.ntmps25
  go_wp2_with (go_at_call 38; (with_reducible refine C.out.mono ?_); rintro e w1 ⟨rfl, rfl⟩)
  go_ret
  exact ⟨rfl, HB.out⟩
theorem gph_parts {B : Nat} {W : World} {v : Value} {vs : List Value} {P : List (List Nat)} (ho : W.ownsRow B 26 1 v P.length vs) (hr : RowsO B W vs P) (hl : P.length ≤ 64) (hls : ∀ i, i < P.length → (P.getD i []).length ≤ 64) : ∃ A c, v = .slice A P.length c ∧ Gph W A vs (P.map nums) := by
  obtain ⟨A, c, rfl, _, _⟩ := own_slice ho
  exact ⟨A, c, rfl, hr.gph (own_lies1 ho) (by omega) (fun i hi => Nat.le_trans (hls i hi) (by omega))⟩
theorem pG_mem {G : List (List Nat)} (hR : RG G) {i : Nat} (hi : i < (pG G).length) : ∃ p, p < (sG G).length ∧ (pG G).getD i [] = (sG G).getD p [] := by
  rw [pG_len] at hi
  have hf := (ordL_facts hR.goes _ (Nat.le_refl (sG G).length)).2
  have hl := ordL_length (rdG G) (sG G).length (sG G).length
  have hi2 : i < (ordL (rdG G) (sG G).length (sG G).length).length := by omega
  refine ⟨(ordL (rdG G) (sG G).length (sG G).length)[i], hf _ (List.getElem_mem hi2), ?_⟩
  rw [pG_eq]
  simp only [List.getD, List.getElem?_map, List.getElem?_eq_getElem hi2, Option.map_some, Option.getD_some]
theorem pG_small {G : List (List Nat)} (hR : RG G) : (pG G).length ≤ 64 ∧ ∀ i, i < (pG G).length → (pG G).getD i [] ≠ [] ∧ ((pG G).getD i []).length ≤ 64 := by
  obtain ⟨h1, h2, h3, _⟩ := part_facts hR (List.Perm.refl (sG G))
  refine ⟨by rw [pG_len]; exact h1, fun i hi => ?_⟩
  obtain ⟨p, hp, e⟩ := pG_mem hR hi
  rw [e]
  exact ⟨h3 p hp, h2 p hp⟩
set_option maxHeartbeats 1000000 in
theorem Part_any (A : Option Addr) (c : Nat) (vs : List Value) (G : List (List Nat)) (hR : RG G) (a : Int) (w : World) (hG : Gph w A vs (G.map nums)) :
    Calls Try.prog 12 #[.slice A G.length c, .int .i64 a] w fun e w' => e = .returned (.int .i64 (idxP ((pG G).map nums) a)) ∧ Below w.heap.size w w' := by
  have PA := Lib.hid (Parts_any A c vs G hR w hG)
  have PS := Lib.hid (pG_small hR)
  clear hG hR
  go_enter Try.func12, Try.ntmps12
  go_wp2_with (first | (go_at_call 9; (with_reducible refine PA.out.mono ?_); rintro e w2 ⟨v, vs', rfl, ho, hr, hb⟩; obtain ⟨A2, c2, rfl, hg⟩ := gph_parts ho hr PS.out.1 (fun i hi => (PS.out.2 i hi).2); have HB := Lib.hid hb; have C2 := Lib.hid (partWith_any A2 c2 (pG G).length vs' ((pG G).map nums) a w2 hg (by rw [List.length_map])); clear ho hr hb hg) | (go_at_call 25; (with_reducible refine C2.out.mono ?_); rintro e w3 ⟨rfl, hb3⟩; have HB3 := Lib.hid (HB.out.trans (hb3.mono HB.out.size)); clear hb3))
  go_ret
  exact ⟨rfl, HB3.out⟩
theorem idxP_nil (a : Int) : idxP [] a = -1 := rfl
theorem Part_no (A : Option Addr) (c : Nat) (vs : List Value) (L : List (List Int)) (hL : rightL L = false) (a : Int) (w : World) (hG : Gph w A vs L) :
    Calls Try.prog 12 #[.slice A L.length c, .int .i64 a] w fun e w' => e = .returned (.int .i64 (-1)) ∧ Below w.heap.size w w' := by
  have PA := Lib.hid (Parts_no A c vs L hL w hG)
  have C2 := Lib.hid (partWith_any none 0 0 [] [] a w ⟨rfl, fun h => by simp at h, fun i h => by simp at h, by simp, fun i h => by simp at h⟩ rfl)
  rw [idxP_nil] at C2
  clear hG hL
  generalize L.length = n at *
  go_enter Try.func12, Try.ntmps12
  go_wp2_with (first | (go_at_call 9; (with_reducible refine PA.out.mono ?_); rintro e w2 ⟨rfl, rfl⟩) | (go_at_call 25; (with_reducible refine C2.out.mono ?_); rintro e w3 ⟨rfl, hb3⟩; have HB3 := Lib.hid hb3; clear hb3))
  go_ret
  exact ⟨rfl, HB3.out⟩
/-- Is a number's part a ring? -/
noncomputable def ringB (G : List (List Nat)) (a : Int) : Bool := decide (0 ≤ idxP ((pG G).map nums) a) && (decide (1 < ((pG G).getD (idxP ((pG G).map nums) a).toNat []).length) || decide (a ∈ nums (adjG G a.toNat)))
theorem idxP_lt (L : List (List Int)) (a : Int) : idxP L a = -1 ∨ ∃ k : Nat, k < L.length ∧ idxP L a = k ∧ a ∈ L.getD k [] := by
  unfold idxP
  cases h : L.findIdx? fun p => decide (a ∈ p) with
  | none => exact .inl rfl
  | some i =>
    rw [List.findIdx?_eq_some_iff_getElem] at h
    obtain ⟨hi, h1, _⟩ := h
    exact .inr ⟨i, hi, rfl, by simp only [List.getD, List.getElem?_eq_getElem hi, Option.getD_some]; simpa using h1⟩
theorem sG_lt {G : List (List Nat)} {p x : Nat} (hp : p < (sG G).length) (hx : x ∈ (sG G).getD p []) : x < G.length := (ofP_at (rG_is G G.length) hp hx).1
set_option maxHeartbeats 2000000 in
theorem Ring_any (A : Option Addr) (c : Nat) (vs : List Value) (G : List (List Nat)) (hR : RG G) (a : Int) (w : World) (hG : Gph w A vs (G.map nums)) :
    Calls Try.prog 15 #[.slice A G.length c, .int .i64 a] w fun e w' => e = .returned (.bool (ringB G a)) ∧ Below w.heap.size w w' := by
  have PA := Lib.hid (Parts_any A c vs G hR w hG)
  have PS := Lib.hid (pG_small hR)
  have HG := Lib.hid hG
  have RB := Lib.hid (show ringB G a = (decide (0 ≤ idxP ((pG G).map nums) a) && (decide (1 < ((pG G).getD (idxP ((pG G).map nums) a).toNat []).length) || decide (a ∈ nums (adjG G a.toNat)))) from rfl)
  have IL := Lib.hid (idxP_lt ((pG G).map nums) a)
  have PM := Lib.hid (fun i (hi : i < (pG G).length) => pG_mem hR hi)
  have hn := hR.most
  have RLN := Lib.hid (fun i => hR.len i)
  generalize ringB G a = R at RB ⊢
  clear hG hR
  go_enter Try.func15, Try.ntmps15
  go_wp2_with fail
  refine PA.out.mono ?_
  rintro e w2 ⟨v, vs', rfl, ho, hr, hb⟩
  obtain ⟨A2, c2, rfl, hg⟩ := gph_parts ho hr PS.out.1 (fun i hi => (PS.out.2 i hi).2)
  have C2 := Lib.hid (partWith_any A2 c2 (pG G).length vs' ((pG G).map nums) a w2 hg (by rw [List.length_map]))
  have HB := Lib.hid hb
  have G2 := Lib.hid hg
  clear ho hr hb hg PA
  obtain ⟨r, er⟩ : ∃ r, r = idxP ((pG G).map nums) a := ⟨_, rfl⟩
  rw [← er] at C2 RB IL
  clear er
  go_wp2_with fail
  refine C2.out.mono ?_
  rintro e w3 ⟨rfl, hb3⟩
  have H3 := Lib.hid (HB.out.trans (hb3.mono HB.out.size))
  have G3 := Lib.hid (G2.out.below hb3)
  clear hb3 C2
  rcases IL.out with rfl | ⟨k, hk, rfl, hak⟩
  · have h0 : ¬ (0 : Int) ≤ -1 := by omega
    go_wp2_with fail
    go_ret
    exact ⟨ret_bool (by rw [RB.out]; rfl), H3.out⟩
  · rw [List.length_map] at hk
    have h0 : (0 : Int) ≤ k := by omega
    have hkl : (k : Int) < (pG G).length := by omega
    obtain ⟨b1, o1, B1, d1, rfl, hb1, c1, hl1⟩ := G3.out.at_ (i := k) (by rw [List.length_map]; exact hk)
    rw [getD_map_nums, nums_len] at c1
    rw [getD_map_nums] at hak
    have ha0 : 0 ≤ a ∧ a < G.length := by
      obtain ⟨p, hp, e⟩ := PM.out k hk
      rw [e] at hak
      obtain ⟨h1, h2⟩ := mem_nums.1 hak
      have := sG_lt hp h2
      omega
    obtain ⟨x, rfl⟩ : ∃ x : Nat, a = x := ⟨a.toNat, by omega⟩
    have hkt : (k : Int).toNat = k := by omega
    have hxt : (x : Int).toNat = x := by omega
    rw [hkt, hxt] at RB
    have GW := HG.out.below H3.out
    obtain ⟨b2, o2, B2, d2, eA, hb2, c4, hl2⟩ := GW.at_ (i := x) (by rw [List.length_map]; omega)
    rw [getD_map_nums, nums_len] at c4
    rw [getD_map_nums] at hl2
    have CT := Lib.hid (contains_any B2 d2 (G.getD x []).length (nums (G.getD x [])) x (by rw [nums_len]; have := RLN.out x; unfold adjG at this; omega) w3 hl2 (by rw [nums_len]))
    have hd1 : decide ((x : Int) ∈ nums (G.getD x [])) = decide ((x : Int) ∈ nums (adjG G x)) := rfl
    rw [hd1] at CT
    generalize decide ((x : Int) ∈ nums (adjG G x)) = q at CT RB
    have hxl : (x : Int) < G.length := by omega
    have hll := RLN.out x
    unfold adjG at hll
    generalize (G.getD x []).length = gl at c4 CT hll
    have hpl := (PS.out.2 k hk).2
    generalize ((pG G).getD k []).length = pl at c1 RB hpl
    have hd0 : decide ((0 : Int) ≤ k) = true := decide_eq_true h0
    rw [hd0] at RB
    rw [eA]
    clear hl1 hl2 hak GW eA hd1 hkt hxt
    by_cases h1 : 1 < pl
    · have h2 : (1 : Int) < pl := by omega
      go_wp2_with (go_at_call 27; (with_reducible refine CT.out.mono ?_); rintro e w4 ⟨rfl, rfl⟩)
      go_ret
      exact ⟨ret_bool (by rw [RB.out]; simp [h1]), H3.out⟩
    · have h2 : ¬ (1 : Int) < pl := by omega
      go_wp2_with (go_at_call 27; (with_reducible refine CT.out.mono ?_); rintro e w4 ⟨rfl, rfl⟩)
      go_ret
      exact ⟨ret_bool (by rw [RB.out]; simp [h1]; intro h; omega), H3.out⟩
theorem Ring_no (A : Option Addr) (c : Nat) (vs : List Value) (L : List (List Int)) (hL : rightL L = false) (a : Int) (w : World) (hG : Gph w A vs L) :
    Calls Try.prog 15 #[.slice A L.length c, .int .i64 a] w fun e w' => e = .returned (.bool false) ∧ Below w.heap.size w w' := by
  have PA := Lib.hid (Parts_no A c vs L hL w hG)
  have C2 := Lib.hid (partWith_any none 0 0 [] [] a w ⟨rfl, fun h => by simp at h, fun i h => by simp at h, by simp, fun i h => by simp at h⟩ rfl)
  rw [idxP_nil] at C2
  clear hG hL
  generalize L.length = n at *
  go_enter Try.func15, Try.ntmps15
  go_wp2_with (first | (go_at_call 9; (with_reducible refine PA.out.mono ?_); rintro e w2 ⟨rfl, rfl⟩) | (go_at_call 25; (with_reducible refine C2.out.mono ?_); rintro e w3 ⟨rfl, hb3⟩; have HB3 := Lib.hid hb3; clear hb3))
  go_ret
  exact ⟨rfl, HB3.out⟩
end Go.Proofs.Ytefeokfjgmidbaa
namespace Go.Proofs.Ytefeokfjgmidbaa
open Go Go.RowKit
/-- A world that has grown out of w. -/
structure Ext (w : World) where
  val : World
  grown : Below w.heap.size w val
instance (w : World) : Nonempty (Ext w) := ⟨⟨w, Below.refl _ _⟩⟩
theorem Ext.cell {w : World} {b o : Nat} {v : Value} (h : w.cell? ⟨b, o, none⟩ = some v) (e : Ext w) : e.val.cell? ⟨b, o, none⟩ = some v :=
  (e.grown.cell (p := ⟨b, o, none⟩) (World.block_lt_of_cell? _ _ h)).trans h
theorem wp_region_ext {P : Program} {id : Nat} {Q : Exit → Act → World → Prop} {a : Act} {w : World} {l : List Oper} (hm : P.follows .mixedOrders = true) (hB : Region.lexB .any l.toArray = true)
    (h : wpQuiet P l.toArray (fun w' => ∃ e : Ext w, w' = e.val) (fun a' => ∀ w', (∃ e : Ext w, w' = e.val) → Q .normal a' w') l a) : (Code.region id l.toArray true).wp P Q a w :=
  wp_region_quiet (C := fun w' => ∃ e : Ext w, w' = e.val) hm hB ⟨⟨{ w with drawn := w.drawn + 1 }, ⟨rfl, rfl, rfl, Nat.le_refl _, fun _ _ => rfl⟩⟩, rfl⟩ (by simpa using h)
theorem Calls.ext_of {P : Program} {f : FuncId} {args : Array Value} {w : World} {e : Ext w} {v : Value}
    (h : Calls P f args e.val fun x w' => x = .returned v ∧ Below e.val.heap.size e.val w') : Calls P f args e.val fun x w'' => x = .returned v ∧ ∃ e2 : Ext w, w'' = e2.1 :=
  h.mono fun _ w' ⟨he, hb⟩ => ⟨he, ⟨w', e.grown.trans (hb.mono e.grown.size)⟩, rfl⟩
end Go.Proofs.Ytefeokfjgmidbaa

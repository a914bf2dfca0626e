/- The next part is put. -/
import Derived.Test.YtmlaepbmdfmgbaaGreatK5
import Derived.Test.YtmlaepbmdfmgbaaGreatA1
set_option linter.unusedSimpArgs false
set_option linter.unusedVariables false
namespace Go.Proofs.YtmlaepbmdfmgbaaGreat
open Go Go.Proofs Go.Shelf Go.RowKit Go.Lib Go.Maps
theorem wp_region_of_any {P : Program} {ops : Array Oper} {Q : Exit → Act → World → Prop} {id : Nat} {a : Act} {w : World} (hm : P.follows .mixedOrders = true)
    (h : wpAnyIn Fence.wide 0 P .any ops Q ops.size (Array.replicate ops.size false) a { w with drawn := w.drawn + 1 }) : (Code.region id ops true).wp P Q a w := wpIn_wide.1 (wpIn_region_any (n := 0) hm h)
theorem rows_take {radj : Nat → List Nat} {of : Nat → Nat} {P : List Nat} {i : Nat} (h : i < P.length) : rows radj of (P.take (i + 1)) = rows radj of (P.take i) ++ (radj (P.getD i 0)).map of := by
  unfold rows
  rw [take_oneN h, List.flatMap_append, List.map_append]
  simp
theorem decs_one (W : Nat → Int) (L : List Nat) (q : Nat) : decs W (L ++ [q]) = upd (decs W L) q (decs W L q - 1) := by
  funext x
  unfold decs upd
  rw [List.count_append]
  by_cases e : x = q
  · subst e; simp; omega
  · have : List.count x [q] = 0 := List.count_eq_zero.2 (by simpa using e)
    rw [if_neg e, this]
    simp
theorem decs_le (W : Nat → Int) (L : List Nat) (q : Nat) : W q - L.length ≤ decs W L q ∧ decs W L q ≤ W q := by
  unfold decs
  have := List.count_le_length (a := q) (l := L)
  omega
theorem rows_len {radj : Nat → List Nat} {of : Nat → Nat} {P : List Nat} (h : ∀ b, (radj b).length ≤ 64) : (rows radj of P).length ≤ 64 * P.length := by
  unfold rows
  rw [List.length_map, List.length_flatMap]
  induction P with
  | nil => simp
  | cons b P ih =>
    simp only [List.map_cons, List.sum_cons, List.length_cons]
    have := h b
    omega
theorem cell_grown {W W' : World} {lb o : Nat} {v : Value} (h : W.grownBy W' (some lb)) : W.grownBy (W'.setCell ⟨lb, o, none⟩ v) (some lb) :=
  ⟨h.os, h.tape, h.output, by simpa [World.setCell] using h.size, fun j hj hne => (heap_setCell_other W' ⟨lb, o, none⟩ j _ (fun e => hne (by rw [show j = lb from e]))).trans (h.block j hj hne)⟩
theorem drew_grown {W W' : World} {lb : Nat} (h : W.grownBy W' (some lb)) : W.grownBy W'.drew (some lb) := ⟨h.os, h.tape, h.output, h.size, h.block⟩
theorem Ln.gph {w W : World} {lb gb : Nat} {gv pv : Value} {vsT vsP : List Value} {G S : List (List Nat)} {of : Nat → Nat} {Wt : Nat → Int} (hR : RG G) (h : Ln w W lb gv pv gb vsT vsP G S of Wt) : Gph W (some ⟨gb, 0, none⟩) vsT ((trnG G).map nums) :=
  h.trows.gph (fun h0 => ⟨gb, 0, rfl, h.tg.lt, fun i hi => by rw [Nat.zero_add, h.tg.cell, List.getElem?_toArray]⟩) (by rw [trnG_len]; have := hR.most; omega) (fun i hi => Nat.le_trans (hR.turned.len i) (by omega))
set_option maxRecDepth 100000 in
set_option maxHeartbeats 8000000 in
theorem lput_any {G : List (List Nat)} (hR : RG G) {w W : World} {lb gb : Nat} {pv : Value} {vsT vsP : List Value} {of : Nat → Nat} {Wt : Nat → Int} (h : Ln w W lb (.slice (some ⟨gb, 0, none⟩) G.length G.length) pv gb vsT vsP G (sG G) of Wt) (hof : ∀ a, a < G.length → of a = oG G a)
    {nx : Nat} (hnx : nx < (sG G).length) (h0 : Wt nx = 0) (hf : ∀ j, j < nx → Wt j ≠ 0) (hW : ∀ q, q < 64 → -100000000 ≤ Wt q ∧ Wt q ≤ 100000) :
    Calls Tryz.prog 107 #[.pointer (some ⟨lb, 0, none⟩)] W fun e w' => e = .returned (vsP.getD nx undef) ∧ Ln w w' lb (.slice (some ⟨gb, 0, none⟩) G.length G.length) pv gb vsT vsP G (sG G) of (decs (upd Wt nx (-1)) (rows (adjG (trnG G)) (oG G) ((sG G).getD nx []))) ∧ W.grownBy w' (some lb) := by
  have PS := Lib.hid (part_facts hR (List.Perm.refl (sG G)))
  have hn := hR.most
  obtain ⟨Al, cl, rfl, _, _⟩ := own_slice h.own
  obtain ⟨k, ek⟩ : ∃ k, k = (sG G).length := ⟨_, rfl⟩
  have EK := Lib.hid ek
  have hk64 : k ≤ 64 := by rw [ek]; exact PS.out.1
  have hnk : nx < k := by omega
  rw [← ek] at h ⊢
  have HL := Lib.hid h
  have c1 := h.blk.cell 1
  simp only [List.getElem?_toArray, lineCells, List.getElem?_cons_zero, List.getElem?_cons_succ] at c1
  have fw := h.blk.frozen (66 + nx)
  have cw := h.blk.cell (66 + nx)
  rw [List.getElem?_toArray, lineCells_wait (by omega)] at cw
  have hli : Lies W (some ⟨lb, 66, none⟩) (ints ((List.range k).map Wt)) := fun _ => ⟨lb, 66, rfl, h.blk.lt, fun i hi => by
    rw [ints_length, List.length_map, List.length_range] at hi
    rw [h.blk.cell, List.getElem?_toArray, lineCells_wait (by omega)]
    rw [ints_at (by simpa using hi)]
    simp [List.getD, hi]⟩
  have hix : idxI ((List.range k).map Wt) 0 = nx := idxI_some (by simpa using hnk) (by simp [List.getD, hnk, h0]) (fun j hj => by simp [List.getD, show j < k by omega]; exact hf j hj)
  have IX := Lib.hid (c_index_any (some ⟨lb, 66, none⟩) 64 k ((List.range k).map Wt) 0 (by simp; omega) W.drew (show Lies W.drew (some ⟨lb, 66, none⟩) (ints ((List.range k).map Wt)) from hli) (by simp))
  rw [hix] at IX
  have HSET := Lib.hid ((h.set (k := nx) (x := -1) (by omega)).below (bdrew1 (Below.refl _ _) : Below (W.setCell ⟨lb, 66 + nx, none⟩ (.int .i64 (-1))).heap.size (W.setCell ⟨lb, 66 + nx, none⟩ (.int .i64 (-1))) (W.setCell ⟨lb, 66 + nx, none⟩ (.int .i64 (-1))).drew))
  have hR2 := Lib.hid hR
  have hk64i : (k : Int) ≤ 64 := by omega
  have hnk64 : (nx : Int) < 64 := by omega
  have hnki : (nx : Int) < k := by omega
  have HOF := Lib.hid hof
  have HW := Lib.hid hW
  clear h hof h0 hf hli hix hR hW ek
  go_enter Tryz.func107, Tryz.ntmps107
  go_wp2_with fail
  refine wp_region_of_any (by kernel_rfl) ?_
  refine wpAnyIn_puts (by kernel_rfl) (by kernel_rfl) 0 (fun _ => W.drew) (fun _ => 0) (fun j => match j with | 0 => .pointer (some ⟨lb, 0, none⟩) | 1 => .pointer (some ⟨lb, 0, none⟩) | 2 => .pointer (some ⟨lb, 66, none⟩) | 3 => .pointer (some ⟨lb, 0, none⟩) | 4 => .pointer (some ⟨lb, 0, none⟩) | 5 => .pointer (some ⟨lb, 1, none⟩) | 6 => .slice Al k cl | 7 => .int .i64 k | 8 => .slice (some ⟨lb, 66, none⟩) k 64 | 9 => .int .i64 nx | 10 => .int .i64 nx | _ => undef) rfl (by kernel_rfl) ?hop ?hend
  case hop =>
    intro j o hj p a hp e1 e2 e3 hrest hdep
    have hjl : j < 11 := (List.getElem?_eq_some_iff.1 hj).1
    have q0 : a.tmps[0]?.getD undef = .pointer (some ⟨lb, 0, none⟩) := hrest 0 (by kernel_rfl)
    have H1 := Lib.hid e1
    have H3 := Lib.hid e3
    have HD := Lib.hid hdep
    clear hrest e1 e2 e3 hdep
    rcases (show j = 0 ∨ j = 1 ∨ j = 2 ∨ j = 3 ∨ j = 4 ∨ j = 5 ∨ j = 6 ∨ j = 7 ∨ j = 8 ∨ j = 9 ∨ j = 10 by omega) with rfl | rfl | rfl | rfl | rfl | rfl | rfl | rfl | rfl | rfl | rfl
    all_goals (simp only [List.getElem?_cons_zero, List.getElem?_cons_succ, Option.some.injEq] at hj; subst hj)
    · obtain rfl : p = 0 := by omega
      refine Gives.value (v := .pointer (some ⟨lb, 0, none⟩)) (w := W.drew) ?_ ⟨rfl, rfl⟩
      go_simp
    · have d8 : a.tmps[8]?.getD undef = .pointer (some ⟨lb, 0, none⟩) := HD.out 0 8 rfl (by kernel_rfl)
      obtain rfl : p = 0 := by omega
      refine Gives.value (v := .pointer (some ⟨lb, 0, none⟩)) (w := W.drew) ?_ ⟨rfl, rfl⟩
      go_simp
    · have d9 : a.tmps[9]?.getD undef = .pointer (some ⟨lb, 0, none⟩) := HD.out 1 9 rfl (by kernel_rfl)
      obtain rfl : p = 0 := by omega
      refine Gives.value (v := .pointer (some ⟨lb, 66, none⟩)) (w := W.drew) ?_ ⟨rfl, rfl⟩
      go_simp
    · obtain rfl : p = 0 := by omega
      refine Gives.value (v := .pointer (some ⟨lb, 0, none⟩)) (w := W.drew) ?_ ⟨rfl, rfl⟩
      go_simp
    · have d11 : a.tmps[11]?.getD undef = .pointer (some ⟨lb, 0, none⟩) := HD.out 3 11 rfl (by kernel_rfl)
      obtain rfl : p = 0 := by omega
      refine Gives.value (v := .pointer (some ⟨lb, 0, none⟩)) (w := W.drew) ?_ ⟨rfl, rfl⟩
      go_simp
    · have d12 : a.tmps[12]?.getD undef = .pointer (some ⟨lb, 0, none⟩) := HD.out 4 12 rfl (by kernel_rfl)
      obtain rfl : p = 0 := by omega
      refine Gives.value (v := .pointer (some ⟨lb, 1, none⟩)) (w := W.drew) ?_ ⟨rfl, rfl⟩
      go_simp
    · have d13 : a.tmps[13]?.getD undef = .pointer (some ⟨lb, 1, none⟩) := HD.out 5 13 rfl (by kernel_rfl)
      obtain rfl : p = 0 := by omega
      refine Gives.value (v := .slice Al k cl) (w := W.drew) ?_ ⟨rfl, rfl⟩
      go_simp
    · have d14 : a.tmps[14]?.getD undef = .slice Al k cl := HD.out 6 14 rfl (by kernel_rfl)
      obtain rfl : p = 0 := by omega
      refine Gives.value (v := .int .i64 k) (w := W.drew) ?_ ⟨rfl, rfl⟩
      go_simp
    · have d10 : a.tmps[10]?.getD undef = .pointer (some ⟨lb, 66, none⟩) := HD.out 2 10 rfl (by kernel_rfl)
      have d15 : a.tmps[15]?.getD undef = .int .i64 k := HD.out 7 15 rfl (by kernel_rfl)
      obtain rfl : p = 0 := by omega
      refine Gives.value (v := .slice (some ⟨lb, 66, none⟩) k 64) (w := W.drew) ?_ ⟨rfl, rfl⟩
      go_simp
    · have d16 : a.tmps[16]?.getD undef = .slice (some ⟨lb, 66, none⟩) k 64 := HD.out 8 16 rfl (by kernel_rfl)
      obtain rfl : p = 0 := by omega
      refine Gives.enter (f := 86) (args := #[.slice (some ⟨lb, 66, none⟩) k 64, .int .i64 0]) (w := W.drew) ?_ (IX.out.mono ?_)
      · go_simp
      · rintro e w' ⟨rfl, rfl⟩; exact ⟨_, rfl, rfl, rfl⟩
    · have d17 : a.tmps[17]?.getD undef = .int .i64 nx := HD.out 9 17 rfl (by kernel_rfl)
      obtain rfl : p = 0 := by omega
      refine Gives.value (v := .int .i64 nx) (w := W.drew) ?_ ⟨rfl, rfl⟩
      go_simp
  case hend =>
  simp only [putIdx]
  go_simp
  go_upto_region 3 with fail
  obtain ⟨W1, eW1⟩ : ∃ u, u = (W.setCell ⟨lb, 66 + nx, none⟩ (.int .i64 (-1))).drew := ⟨_, rfl⟩
  have GB1 : RowKit.Hid (W.grownBy W1 (some lb)) := Lib.hid (by rw [eW1]; exact drew_grown (cell_grown (World.grownBy.refl _ _)))
  rw [← eW1] at HSET ⊢
  clear eW1 c1 fw cw IX
  have h1 := HSET.out
  have c1 := h1.blk.cell 1
  simp only [List.getElem?_toArray, lineCells, List.getElem?_cons_zero, List.getElem?_cons_succ] at c1
  have hvl := h1.rows.len
  rw [← EK.out] at hvl
  have hown := h1.own
  rw [← EK.out] at hown
  obtain ⟨bl, ol, rfl, _, hcl⟩ := own_lies1 hown (by omega)
  obtain ⟨B1, d1, eB, _, _⟩ := own_slice (h1.rows.row nx hnx)
  have cR := hcl nx (by omega)
  rw [show vsP[nx]? = some (vsP.getD nx undef) by simp [List.getD, List.getElem?_eq_getElem (show nx < vsP.length by omega)], eB] at cR
  have EB := Lib.hid eB
  obtain ⟨P, eP⟩ : ∃ P, P = (sG G).getD nx [] := ⟨_, rfl⟩
  have EP := Lib.hid eP
  rw [← eP] at cR EB
  obtain ⟨m, em⟩ : ∃ m, m = P.length := ⟨_, rfl⟩
  have EM := Lib.hid em
  have hm64 : m ≤ 64 := by rw [em, eP]; exact PS.out.2.1 nx hnx
  rw [← em] at cR EB
  obtain ⟨n, en⟩ : ∃ n, n = G.length := ⟨_, rfl⟩
  have EN := Lib.hid en
  have PLT := Lib.hid (fun a (ha : a ∈ P) => show a < n from by
    rw [en]
    exact (ofP_at (rG_is G G.length) hnx (by rw [eP] at ha; exact ha)).1)
  have RTK := Lib.hid (fun i (hi : i < m) => rows_take (radj := adjG (trnG G)) (of := oG G) (P := P) (i := i) (by omega))
  have RTA := Lib.hid (show P.take m = P from List.take_of_length_le (by omega))
  have OLT := Lib.hid (fun a (ha : a < n) => show oG G a < 64 from by
    have h1 := ofP_lt (rG_is G G.length) (a := a) (by rw [← en]; exact ha)
    have h2 : oG G a < (sG G).length := h1
    have := PS.out.1; omega)
  have RL := Lib.hid (fun i => rows_len (radj := adjG (trnG G)) (of := oG G) (P := P.take i) (fun b => hR2.out.turned.len b))
  have TL := Lib.hid (fun a x (hx : x ∈ adjG (trnG G) a) => show x < n from by rw [en, ← trnG_len]; exact hR2.out.turned.lt a x hx)
  rw [← en] at HSET HL HOF hn
  clear h1 hvl hown hcl eB eP em en
  go_wp2_with fail
  go_loopw [31, 5, 7, 40, 41, 42] (fun i _ _ _ _ _ wr => ∃ q : Nat, q ≤ m ∧ i = .int .i64 q ∧ Ln w wr lb (.slice (some ⟨gb, 0, none⟩) n n) (.slice (some ⟨bl, ol, none⟩) k cl) gb vsT vsP G (sG G) of (decs (upd Wt nx (-1)) (rows (adjG (trnG G)) (oG G) (P.take q))) ∧ W.grownBy wr (some lb)) (fun i _ _ _ _ _ _ => m - (intOf i).toNat)
  case atStart => exact ⟨0, by omega, rfl, by
    have : decs (upd Wt nx (-1)) (rows (adjG (trnG G)) (oG G) (P.take 0)) = upd Wt nx (-1) := by simp [rows, decs_nil]
    rw [this]; exact HSET.out, GB1.out⟩
  case round =>
    obtain ⟨q, hq, rfl, hln, hgb⟩ := hrel
    have HLN := Lib.hid hln
    have HGB := Lib.hid hgb
    clear hgb
    by_cases hlt : q < m
    · have hlt2 : (q : Int) < m := by omega
      have hrow := hln.rows.row nx hnx
      rw [EB.out, ← EP.out, ← EM.out] at hrow
      obtain ⟨b2, o2, rfl, hb2, c3⟩ := lies_cell (own_lies1 hrow) (k := q) (by rw [nums_len, ← EM.out]; exact hlt)
      rw [nums_at] at c3
      have hbn := PLT.out (P.getD q 0) (by have hq2 : q < P.length := by have := EM.out; omega
                                           simp [List.getD, List.getElem?_eq_getElem hq2])
      have RTQ := Lib.hid (RTK.out q hlt)
      generalize P.getD q 0 = b at c3 hbn RTQ
      have hgr := Ln.gph hR2.out hln
      have cg0 := hln.blk.cell 0
      simp only [List.getElem?_toArray, lineCells, List.getElem?_cons_zero] at cg0
      have hbl : b < (trnG G).length := by rw [trnG_len, ← EN.out]; exact hbn
      have TO := Lib.hid (c_to_any (some ⟨gb, 0, none⟩) n vsT ((trnG G).map nums) b (by rw [List.length_map]; exact hbl) _ hgr)
      have hbrow := hln.trows.row b hbl
      obtain ⟨B3, d3, eB3, _, _⟩ := own_slice hbrow
      rw [List.length_map, trnG_len, ← EN.out, eB3] at TO
      obtain ⟨l, el⟩ : ∃ l, l = ((trnG G).getD b []).length := ⟨_, rfl⟩
      have EL := Lib.hid (show l = (adjG (trnG G) b).length from el)
      have EB3 := Lib.hid eB3
      rw [← el] at TO
      have hl64 : l ≤ 64 := by rw [el]; exact hR2.out.turned.len b
      have TKB := Lib.hid (fun j (hj : j < l) => take_oneN (a := adjG (trnG G) b) (k := j) (by have := EL.out; omega))
      have TAB := Lib.hid (show (adjG (trnG G) b).take l = adjG (trnG G) b from List.take_of_length_le (by have := EL.out; omega))
      have MB := Lib.hid (fun j (hj : j < l) => TL.out b ((adjG (trnG G) b).getD j 0) (by
        have hj2 : j < (adjG (trnG G) b).length := by have := EL.out; omega
        generalize adjG (trnG G) b = X at hj2
        simp [List.getD, List.getElem?_eq_getElem hj2]))
      clear hln hrow hgr hbrow eB3 el
      go_wp2_with (go_at_call 126; (with_reducible refine TO.out.mono ?_); rintro e w3 ⟨rfl, rfl⟩)
      go_loopw [42, 7] (fun i _ wr => ∃ j : Nat, j ≤ l ∧ i = .int .i64 j ∧ Ln w wr lb (.slice (some ⟨gb, 0, none⟩) n n) (.slice (some ⟨bl, ol, none⟩) k cl) gb vsT vsP G (sG G) of (decs (upd Wt nx (-1)) (rows (adjG (trnG G)) (oG G) (P.take q) ++ ((adjG (trnG G) b).take j).map (oG G))) ∧ W.grownBy wr (some lb)) (fun i _ _ => l - (intOf i).toNat)
      case atStart => exact ⟨0, by omega, rfl, by
        have : rows (adjG (trnG G)) (oG G) (P.take q) ++ ((adjG (trnG G) b).take 0).map (oG G) = rows (adjG (trnG G)) (oG G) (P.take q) := by simp
        rw [this]; exact HLN.out, HGB.out⟩
      case round =>
        obtain ⟨j, hj, rfl, hln, hgb⟩ := hrel
        have HLN2 := Lib.hid hln
        have HGB2 := Lib.hid hgb
        clear hgb
        by_cases hjl : j < l
        · have hjl2 : (j : Int) < l := by omega
          have hbrow := hln.trows.row b hbl
          rw [EB3.out] at hbrow
          obtain ⟨b4, o4, rfl, hb4, c4⟩ := lies_cell (own_lies1 (by
            have e : ((trnG G).getD b []).length = l := EL.out.symm
            rw [e] at hbrow; exact hbrow)) (k := j) (by rw [nums_len]; show j < (adjG (trnG G) b).length; have := EL.out; omega)
          rw [nums_at] at c4
          have hyn := MB.out j hjl
          have TKJ := Lib.hid (TKB.out j hjl)
          change _ = some (Value.int .i64 ((adjG (trnG G) b).getD j 0 : Nat)) at c4
          obtain ⟨y, ey⟩ : ∃ y, y = (adjG (trnG G) b).getD j 0 := ⟨_, rfl⟩
          rw [← ey] at c4 hyn TKJ
          obtain ⟨oy, eoy⟩ : ∃ u, u = oG G y := ⟨_, rfl⟩
          have hoy : oy < 64 := by rw [eoy]; exact OLT.out y hyn
          obtain ⟨Lw, eLw⟩ : ∃ u, u = rows (adjG (trnG G)) (oG G) (P.take q) ++ ((adjG (trnG G) b).take j).map (oG G) := ⟨_, rfl⟩
          rw [← eLw] at hln HLN2
          have hLw : Lw.length ≤ 64 * 64 + 64 := by
            rw [eLw, List.length_append, List.length_map]
            have h1 := RL.out q
            have h2 := List.length_take_le' q P
            have h3 := List.length_take_le' j (adjG (trnG G) b)
            have h4 := EM.out
            have h5 := EL.out
            omega
          have hdl := decs_le (upd Wt nx (-1)) Lw oy
          have hup : -100000000 ≤ upd Wt nx (-1) oy ∧ upd Wt nx (-1) oy ≤ 100000 := by
            unfold upd
            split
            · omega
            · exact HW.out oy hoy
          have NXT := Lib.hid (show decs (upd Wt nx (-1)) (rows (adjG (trnG G)) (oG G) (P.take q) ++ ((adjG (trnG G) b).take (j + 1)).map (oG G)) = upd (decs (upd Wt nx (-1)) Lw) oy (decs (upd Wt nx (-1)) Lw oy - 1) from by
            rw [TKJ.out, List.map_append, ← List.append_assoc, ← eLw, List.map_singleton, ← eoy, decs_one])
          have cy := hln.blk.cell (2 + y)
          have cwy := hln.blk.cell (66 + oy)
          have fwy := hln.blk.frozen (66 + oy)
          rw [List.getElem?_toArray, lineCells_of (by omega), HOF.out y hyn, ← eoy] at cy
          rw [List.getElem?_toArray, lineCells_wait hoy] at cwy
          obtain ⟨wy, ewy⟩ : ∃ u, u = decs (upd Wt nx (-1)) Lw oy := ⟨_, rfl⟩
          rw [← ewy] at cwy hdl NXT
          have hwr : IntKind.i64.wrap (wy - 1) = wy - 1 := by simp [IntKind.wrap, IntKind.bits, IntKind.signed]; omega
          have hy64 : (y : Int) < 64 := by omega
          have hoy64 : (oy : Int) < 64 := by omega
          have SETL := Lib.hid (fun (W' : World) (h : Ln w W' lb (.slice (some ⟨gb, 0, none⟩) n n) (.slice (some ⟨bl, ol, none⟩) k cl) gb vsT vsP G (sG G) of (decs (upd Wt nx (-1)) Lw)) => h.set (k := oy) (x := wy - 1) hoy)
          clear hln hbrow ey eoy eLw ewy hLw hdl hup
          go_wp2_with fail
          refine wp_region_of_any (by kernel_rfl) ?_
          obtain ⟨Ws, w0e, w1e⟩ : ∃ Ws : Nat → World, Ws 0 = wr.drew ∧ Ws 1 = wr.drew.setCell ⟨lb, 66 + oy, none⟩ (.int .i64 (wy - 1)) := ⟨fun p => match p with | 0 => wr.drew | _ => wr.drew.setCell ⟨lb, 66 + oy, none⟩ (.int .i64 (wy - 1)), rfl, rfl⟩
          refine wpAnyIn_puts (by kernel_rfl) (by kernel_rfl) 1 Ws (fun _ => 15) (fun j => match j with | 0 => .pointer (some ⟨lb, 0, none⟩) | 1 => .pointer (some ⟨lb, 0, none⟩) | 2 => .int .i64 y | 3 => .pointer (some ⟨lb, 0, none⟩) | 4 => .pointer (some ⟨lb, 2, none⟩) | 5 => .pointer (some ⟨lb, 2 + y, none⟩) | 6 => .int .i64 oy | 7 => .pointer (some ⟨lb, 0, none⟩) | 8 => .pointer (some ⟨lb, 66, none⟩) | 9 => .pointer (some ⟨lb, 66 + oy, none⟩) | 10 => .int .i64 wy | 11 => .int .i64 (wy - 1) | 12 => .pointer (some ⟨lb, 0, none⟩) | 13 => .pointer (some ⟨lb, 66, none⟩) | 14 => .pointer (some ⟨lb, 66 + oy, none⟩) | 15 => undef | _ => undef) w0e (by kernel_rfl) ?hop ?hend
          case hop =>
            intro j o hj p a hp e1 e2 e3 hrest hdep
            have hjl : j < 16 := (List.getElem?_eq_some_iff.1 hj).1
            have q0 : a.tmps[0]?.getD undef = .pointer (some ⟨lb, 0, none⟩) := hrest 0 (by kernel_rfl)
            have q7 : a.tmps[7]?.getD undef = .int .i64 y := hrest 7 (by kernel_rfl)
            have H1 := Lib.hid e1
            have H3 := Lib.hid e3
            have HD := Lib.hid hdep
            clear hrest e1 e2 e3 hdep
            rcases (show j = 0 ∨ j = 1 ∨ j = 2 ∨ j = 3 ∨ j = 4 ∨ j = 5 ∨ j = 6 ∨ j = 7 ∨ j = 8 ∨ j = 9 ∨ j = 10 ∨ j = 11 ∨ j = 12 ∨ j = 13 ∨ j = 14 ∨ j = 15 by omega) with rfl | rfl | rfl | rfl | rfl | rfl | rfl | rfl | rfl | rfl | rfl | rfl | rfl | rfl | rfl | rfl
            all_goals (simp only [List.getElem?_cons_zero, List.getElem?_cons_succ, Option.some.injEq] at hj; subst hj)
            · obtain rfl : p = 0 := by have := H3.out 0 (by omega) (by kernel_rfl); omega
              refine Gives.value (v := .pointer (some ⟨lb, 0, none⟩)) (w := Ws 0) ?_ ⟨rfl, rfl⟩
              rw [w0e]
              go_simp
            · obtain rfl : p = 0 := by have := H3.out 0 (by omega) (by kernel_rfl); omega
              refine Gives.value (v := .pointer (some ⟨lb, 0, none⟩)) (w := Ws 0) ?_ ⟨rfl, rfl⟩
              rw [w0e]
              go_simp
            · obtain rfl : p = 0 := by have := H3.out 0 (by omega) (by kernel_rfl); omega
              refine Gives.value (v := .int .i64 y) (w := Ws 0) ?_ ⟨rfl, rfl⟩
              rw [w0e]
              go_simp
            · have d47 : a.tmps[47]?.getD undef = .pointer (some ⟨lb, 0, none⟩) := HD.out 1 47 rfl (by kernel_rfl)
              obtain rfl : p = 0 := by have := H3.out 0 (by omega) (by kernel_rfl); omega
              refine Gives.value (v := .pointer (some ⟨lb, 0, none⟩)) (w := Ws 0) ?_ ⟨rfl, rfl⟩
              rw [w0e]
              go_simp
            · have d49 : a.tmps[49]?.getD undef = .pointer (some ⟨lb, 0, none⟩) := HD.out 3 49 rfl (by kernel_rfl)
              obtain rfl : p = 0 := by have := H3.out 0 (by omega) (by kernel_rfl); omega
              refine Gives.value (v := .pointer (some ⟨lb, 2, none⟩)) (w := Ws 0) ?_ ⟨rfl, rfl⟩
              rw [w0e]
              go_simp
            · have d50 : a.tmps[50]?.getD undef = .pointer (some ⟨lb, 2, none⟩) := HD.out 4 50 rfl (by kernel_rfl)
              have d48 : a.tmps[48]?.getD undef = .int .i64 y := HD.out 2 48 rfl (by kernel_rfl)
              obtain rfl : p = 0 := by have := H3.out 0 (by omega) (by kernel_rfl); omega
              refine Gives.value (v := .pointer (some ⟨lb, 2 + y, none⟩)) (w := Ws 0) ?_ ⟨rfl, rfl⟩
              rw [w0e]
              go_simp
            · have d51 : a.tmps[51]?.getD undef = .pointer (some ⟨lb, 2 + y, none⟩) := HD.out 5 51 rfl (by kernel_rfl)
              obtain rfl : p = 0 := by have := H3.out 0 (by omega) (by kernel_rfl); omega
              refine Gives.value (v := .int .i64 oy) (w := Ws 0) ?_ ⟨rfl, rfl⟩
              rw [w0e]
              go_simp
            · have d46 : a.tmps[46]?.getD undef = .pointer (some ⟨lb, 0, none⟩) := HD.out 0 46 rfl (by kernel_rfl)
              obtain rfl : p = 0 := by have := H3.out 0 (by omega) (by kernel_rfl); omega
              refine Gives.value (v := .pointer (some ⟨lb, 0, none⟩)) (w := Ws 0) ?_ ⟨rfl, rfl⟩
              rw [w0e]
              go_simp
            · have d53 : a.tmps[53]?.getD undef = .pointer (some ⟨lb, 0, none⟩) := HD.out 7 53 rfl (by kernel_rfl)
              obtain rfl : p = 0 := by have := H3.out 0 (by omega) (by kernel_rfl); omega
              refine Gives.value (v := .pointer (some ⟨lb, 66, none⟩)) (w := Ws 0) ?_ ⟨rfl, rfl⟩
              rw [w0e]
              go_simp
            · have d54 : a.tmps[54]?.getD undef = .pointer (some ⟨lb, 66, none⟩) := HD.out 8 54 rfl (by kernel_rfl)
              have d52 : a.tmps[52]?.getD undef = .int .i64 oy := HD.out 6 52 rfl (by kernel_rfl)
              obtain rfl : p = 0 := by have := H3.out 0 (by omega) (by kernel_rfl); omega
              refine Gives.value (v := .pointer (some ⟨lb, 66 + oy, none⟩)) (w := Ws 0) ?_ ⟨rfl, rfl⟩
              rw [w0e]
              go_simp
            · have d55 : a.tmps[55]?.getD undef = .pointer (some ⟨lb, 66 + oy, none⟩) := HD.out 9 55 rfl (by kernel_rfl)
              obtain rfl : p = 0 := by have := H3.out 0 (by omega) (by kernel_rfl); omega
              refine Gives.value (v := .int .i64 wy) (w := Ws 0) ?_ ⟨rfl, rfl⟩
              rw [w0e]
              go_simp
            · have d56 : a.tmps[56]?.getD undef = .int .i64 wy := HD.out 10 56 rfl (by kernel_rfl)
              obtain rfl : p = 0 := by have := H3.out 0 (by omega) (by kernel_rfl); omega
              refine Gives.value (v := .int .i64 (wy - 1)) (w := Ws 0) ?_ ⟨rfl, rfl⟩
              rw [w0e]
              go_simp
            · have d46 : a.tmps[46]?.getD undef = .pointer (some ⟨lb, 0, none⟩) := HD.out 0 46 rfl (by kernel_rfl)
              obtain rfl : p = 0 := by have := H3.out 0 (by omega) (by kernel_rfl); omega
              refine Gives.value (v := .pointer (some ⟨lb, 0, none⟩)) (w := Ws 0) ?_ ⟨rfl, rfl⟩
              rw [w0e]
              go_simp
            · have d58 : a.tmps[58]?.getD undef = .pointer (some ⟨lb, 0, none⟩) := HD.out 12 58 rfl (by kernel_rfl)
              obtain rfl : p = 0 := by have := H3.out 0 (by omega) (by kernel_rfl); omega
              refine Gives.value (v := .pointer (some ⟨lb, 66, none⟩)) (w := Ws 0) ?_ ⟨rfl, rfl⟩
              rw [w0e]
              go_simp
            · have d59 : a.tmps[59]?.getD undef = .pointer (some ⟨lb, 66, none⟩) := HD.out 13 59 rfl (by kernel_rfl)
              have d52 : a.tmps[52]?.getD undef = .int .i64 oy := HD.out 6 52 rfl (by kernel_rfl)
              obtain rfl : p = 0 := by have := H3.out 0 (by omega) (by kernel_rfl); omega
              refine Gives.value (v := .pointer (some ⟨lb, 66 + oy, none⟩)) (w := Ws 0) ?_ ⟨rfl, rfl⟩
              rw [w0e]
              go_simp
            · have d60 : a.tmps[60]?.getD undef = .pointer (some ⟨lb, 66 + oy, none⟩) := HD.out 14 60 rfl (by kernel_rfl)
              have d57 : a.tmps[57]?.getD undef = .int .i64 (wy - 1) := HD.out 11 57 rfl (by kernel_rfl)
              obtain rfl : p = 0 := H1.out 0 (by omega) rfl
              refine Gives.skip (w := Ws 1) ?_ ⟨rfl, rfl⟩
              rw [w0e, w1e]
              go_simp
          case hend =>
          rw [w1e]
          simp only [putIdx]
          go_simp
          go_wp2_with fail
          go_roundw
          case rel =>
            refine ⟨j + 1, by omega, by go_num, ?_, cell_grown (drew_grown HGB2.out)⟩
            rw [NXT.out]
            exact SETL.out _ (HLN2.out.below (bdrew1 (Below.refl _ _)))
          case measure => simp [intOf]; omega
        · obtain rfl : j = l := by omega
          have hjl2 : ¬ (j : Int) < j := by omega
          clear hln
          go_wp2_with fail
          go_roundw
          case rel =>
            refine ⟨q + 1, by omega, by go_num, ?_, HGB2.out⟩
            have := HLN2.out
            rw [TAB.out] at this
            rw [RTQ.out]; exact this
          case measure => simp [intOf]; omega
    · obtain rfl : q = m := by omega
      have hlt2 : ¬ (q : Int) < q := by omega
      have c1 := hln.blk.cell 1
      simp only [List.getElem?_toArray, lineCells, List.getElem?_cons_zero, List.getElem?_cons_succ] at c1
      have hown := hln.own
      rw [← EK.out] at hown
      have hvl := hln.rows.len
      rw [← EK.out] at hvl
      obtain ⟨bl', ol', e', _, hcl⟩ := own_lies1 hown (by omega)
      cases e'
      have cR := hcl nx (by omega)
      rw [show vsP[nx]? = some (vsP.getD nx undef) by simp [List.getD, List.getElem?_eq_getElem (show nx < vsP.length by omega)], EB.out] at cR
      clear hln hown hvl hcl
      go_wp2_with fail
      go_ret
      refine ⟨congrArg Ending.returned EB.out.symm, ?_, HGB.out⟩
      have := HLN.out
      rw [RTA.out, EP.out, EN.out] at this
      simp only [List.getD, List.getElem?_eq_getElem hnx, Option.getD_some] at this ⊢
      exact this
end Go.Proofs.YtmlaepbmdfmgbaaGreat
namespace Go.Proofs.YtmlaepbmdfmgbaaGreat
open Go Go.Proofs Go.Shelf Go.RowKit Go.Lib Go.Maps
theorem ordL_next_eq (rd : (Nat → Bool) → Nat → Bool) (k t : Nat) : ordL rd k (t + 1) = ordL rd k t ++ [nxt rd k (ptO rd k t)] := rfl
set_option maxRecDepth 100000 in
set_option maxHeartbeats 4000000 in
theorem order_any {G : List (List Nat)} (hR : RG G) {w W : World} {lb gb : Nat} {pv : Value} {vsT vsP : List Value} {of : Nat → Nat} (h : Ln w W lb (.slice (some ⟨gb, 0, none⟩) G.length G.length) pv gb vsT vsP G (sG G) of (wk (oG G) (lnkG G) (lnkG G).length)) (hof : ∀ a, a < G.length → of a = oG G a) :
    Calls Tryz.prog 78 #[.pointer (some ⟨lb, 0, none⟩)] W fun e w' => ∃ v vs', e = .returned v ∧ w'.ownsRow w.heap.size 36 1 v (pG G).length vs' ∧ RowsO w.heap.size w' vs' (pG G) ∧ Below w.heap.size w w' := by
  obtain ⟨i0, hi, hz0, hz1, hz2⟩ := info_parts Tryz.info_s
  have PS := Lib.hid (part_facts hR (List.Perm.refl (sG G)))
  obtain ⟨Al, cl, rfl, _, _⟩ := own_slice h.own
  obtain ⟨k, ek⟩ : ∃ k, k = (sG G).length := ⟨_, rfl⟩
  have EK := Lib.hid ek
  have hk64 : k ≤ 64 := by rw [ek]; exact PS.out.1
  have HP := Lib.hid (fun W' Wt nx (h : Ln w W' lb (.slice (some ⟨gb, 0, none⟩) G.length G.length) (.slice Al k cl) gb vsT vsP G (sG G) of Wt) hnx h0 hf hW => lput_any hR h hof (nx := nx) hnx h0 hf hW)
  have CS := Lib.hid (cnt_start (G := G))
  have CN := Lib.hid (fun t (ht : t < k) W h => cnt_next hR (t := t) (W := W) (by rw [← ek]; exact ht) h)
  have CP := Lib.hid (fun t (ht : t < k) W h => cnt_put hR (t := t) (W := W) (by rw [← ek]; exact ht) h)
  have WB := Lib.hid (fun q => wk_le (oG G) (lnkG G) (lnkG G).length q (lnkG_len hR))
  have RL := Lib.hid (fun i => rows_len (radj := adjG (trnG G)) (of := oG G) (P := (sG G).getD i []) (fun b => hR.turned.len b))
  have OF := Lib.hid (ordL_facts hR.goes)
  rw [← ek] at h OF
  have HL := Lib.hid h
  have c1 := h.blk.cell 1
  simp only [List.getElem?_toArray, lineCells, List.getElem?_cons_zero, List.getElem?_cons_succ] at c1
  clear h hof hR ek
  go_enter Tryz.func78, Tryz.ntmps78
  go_wp2_with fail
  go_loopw [9, 3] (fun i rx wr => ∃ (j : Nat) (v : Value) (Wt : Nat → Int), j ≤ k ∧ i = .int .i64 j ∧ rx = v ∧ Ln w wr lb (.slice (some ⟨gb, 0, none⟩) G.length G.length) (.slice Al k cl) gb vsT vsP G (sG G) of Wt ∧ Cnt (oG G) (lnkG G) (sG G).length (ptO (rdG G) (sG G).length j) Wt ∧ (∀ q, q < 64 → -(5000 * (j : Int)) ≤ Wt q ∧ Wt q ≤ 4096) ∧ wr.ownsRow W.heap.size 36 1 v j ((ordL (rdG G) (sG G).length j).map fun p => vsP.getD p undef) ∧ (∀ q, q < W.heap.size → q ≠ lb → wr.heap[q]? = W.heap[q]?) ∧ W.heap.size ≤ wr.heap.size) (fun i _ _ => k - (intOf i).toNat)
  case atStart => exact ⟨0, _, _, by omega, rfl, rfl, HL.out, CS.out, fun q _ => by have := WB.out q; omega, World.ownsRow_nil _ _ _ _, fun _ _ _ => rfl, Nat.le_refl _⟩
  case round =>
    obtain ⟨j, v, Wt, hj, rfl, rfl, hln, hcn, hbd, hown, hkeep, hsz⟩ := hrel
    have HLN := Lib.hid hln
    have HCN := Lib.hid hcn
    have HBD := Lib.hid hbd
    have HOW := Lib.hid hown
    have HKP := Lib.hid hkeep
    by_cases hlt : j < k
    · have hlt2 : (j : Int) < k := by omega
      have CNJ := Lib.hid (CN.out j hlt Wt hcn)
      have CPJ := Lib.hid (CP.out j hlt Wt hcn)
      have ONX := Lib.hid (ordL_next_eq (rdG G) (sG G).length j)
      obtain ⟨nx, enx⟩ : ∃ nx, nx = nxt (rdG G) (sG G).length (ptO (rdG G) (sG G).length j) := ⟨_, rfl⟩
      rw [← enx] at CNJ CPJ ONX
      have P0 := Lib.hid (HP.out _ Wt nx hln CNJ.out.1 CNJ.out.2.1 CNJ.out.2.2 (fun q hq => by have := hbd q hq; omega))
      obtain ⟨Av, cv, rfl, _, _⟩ := own_slice hown
      obtain ⟨Bx, dx, eB, _, _⟩ := own_slice (hln.rows.row nx CNJ.out.1)
      have EB := Lib.hid eB
      rw [eB] at P0
      obtain ⟨m, em⟩ : ∃ m, m = ((sG G).getD nx []).length := ⟨_, rfl⟩
      have EM := Lib.hid em
      rw [← em] at P0 EB
      clear hln hcn hbd hown hkeep enx eB em
      go_wp2_with (first | (go_at_call 107; (with_reducible refine P0.out.mono ?_); rintro e w3 ⟨rfl, hl3, hg3⟩; have L3 := Lib.hid hl3; have G3 := Lib.hid hg3; have O3 := Lib.hid (show w3.ownsRow W.heap.size 36 1 (.slice Av j cv) j ((ordL (rdG G) (sG G).length j).map fun p => vsP.getD p undef) from own_kept HOW.out (fun q hq => hg3.block q (HOW.out.lt q hq).2 (fun e => own_ne HOW.out HLN.out.blk (by decide) (by rw [hq]; exact e)))); clear hl3 hg3) | (at_builtin; refine wpList_append_onto _ rfl _ _ 39 rfl W.heap.size 36 i0 (.slice none 0 0) 1 24 Tryz.underlying39 hi hz0 hz1 hz2 rfl (by decide) _ _ _ rfl (own_below O3.out (B1 w3 _)) (some ⟨w3.heap.size, 0, none⟩) 1 1 [.slice Bx m dx] rfl rfl (fun ad had => by cases had; exact cell_one_new _ _ _) (fun h => by cases h) (by simp [Value.oneCell']) (by unfold maxLen; omega) (by omega) (by have h1 := G3.out.size; simp; omega) ?_; intro v9 w9 hown9 hgrow9 hfr9; have O9 := Lib.hid hown9; have G9 := Lib.hid (show World.grownBy _ w9 (Value.slice Av j cv).ownBlock from hgrow9); clear hown9 hgrow9 hfr9))
      go_roundw
      case rel =>
        have hs39 : w3.heap.size ≤ w9.heap.size := by have := G9.out.size; simp at this; omega
        have hold : ∀ q, q < W.heap.size → w9.heap[q]? = w3.heap[q]? := fun q hq => (G9.out.block q (by simp; have := G3.out.size; omega) (fun e => by have := (HOW.out.lt q e.symm).1; omega)).trans (Below.heap_alloc w3 _ q (by have := G3.out.size; omega))
        have hlbW : lb < W.heap.size := HL.out.blk.lt
        have L9 : Ln w w9 lb (.slice (some ⟨gb, 0, none⟩) G.length G.length) (.slice Al k cl) gb vsT vsP G (sG G) of (decs (upd Wt nx (-1)) (rows (adjG (trnG G)) (oG G) ((sG G).getD nx []))) := by
          refine HL.out.turn ((hold lb hlbW).trans L3.out.blk) ?_
          have l3 := L3.out.low
          have l0 := HL.out.low
          refine ⟨?_, ?_, ?_, by have := G3.out.size; omega, fun q hq hne => ?_⟩
          · exact G9.out.os.trans (l3.os.trans l0.os.symm)
          · exact G9.out.tape.trans (l3.tape.trans l0.tape.symm)
          · exact G9.out.output.trans (l3.output.trans l0.output.symm)
          · exact (hold q hq).trans ((G3.out.block q (by have := G3.out.size; omega) hne).trans (HKP.out q hq (fun e => hne (by rw [e]))))
        refine ⟨j + 1, v9, _, by omega, by go_num, rfl, L9, CPJ.out, fun q hq => ?_, ?_, fun q hq hne => ?_, by have := G3.out.size; omega⟩
        · have h1 := decs_le (upd Wt nx (-1)) (rows (adjG (trnG G)) (oG G) ((sG G).getD nx [])) q
          have h2 := RL.out nx
          have h3 := PS.out.2.1 nx CNJ.out.1
          have h4 : -(5000 * (j : Int)) - 1 ≤ upd Wt nx (-1) q ∧ upd Wt nx (-1) q ≤ 4096 := by
            unfold upd
            split
            · omega
            · have := HBD.out q hq; omega
          omega
        · rw [ONX.out, List.map_append, List.map_singleton, EB.out]
          exact O9.out
        · exact (hold q hq).trans ((G3.out.block q (by have := G3.out.size; omega) (fun e => hne (Option.some.inj e))).trans (HKP.out q hq hne))
      case measure => simp [intOf]; omega
    · obtain rfl : j = k := by omega
      have hlt2 : ¬ (j : Int) < j := by omega
      clear hln hcn hbd hown hkeep
      go_wp2_with fail
      go_ret
      have hpl : (pG G).length = j := by rw [pG_len, ← EK.out]
      refine ⟨_, rfl, _, by rw [hpl]; exact own_lower HOW.out HL.out.low.size, ?_, HLN.out.low⟩
      rw [pG_eq]
      have ho := OF.out j (Nat.le_refl _)
      have hr := HLN.out.rows.order (s := ordL (rdG G) (sG G).length j) (by rw [← EK.out]; exact ho.1) (fun i hi => by rw [← EK.out] at hi ⊢; exact ho.2 i hi)
      have e : ordL (rdG G) (sG G).length (sG G).length = ordL (rdG G) (sG G).length j := by rw [EK.out]
      rw [e]
      exact hr
set_option maxHeartbeats 1000000 in
theorem Parts_any (A : Option Addr) (c : Nat) (vs : List Value) (G : List (List Nat)) (hR : RG G) (w : World) (hG : Gph w A vs (G.map nums)) :
    Calls Tryz.prog 55 #[.slice A G.length c] w fun e w' => ∃ v vs', e = .returned v ∧ w'.ownsRow w.heap.size 36 1 v (pG G).length vs' ∧ RowsO w.heap.size w' vs' (pG G) ∧ Below w.heap.size w w' := by
  have GO := Lib.hid (graphOf_any A c vs (G.map nums) w hG)
  have hm : (G.map nums).length = G.length := List.length_map _
  rw [hm, hR.right] at GO
  simp only [if_true] at GO
  have LO := Lib.hid (lineOf_any A c vs G hR w hG)
  have OR := Lib.hid (fun W lb gb pv vsT vsP of h hof => order_any hR (w := w) (W := W) (lb := lb) (gb := gb) (pv := pv) (vsT := vsT) (vsP := vsP) (of := of) h hof)
  clear hG hR hm
  go_enter Tryz.func55, Tryz.ntmps55
  go_wp2_with (first | (go_at_call 76; (with_reducible refine GO.out.mono ?_); rintro e w1 ⟨rfl, rfl⟩) | (go_at_call 77; (with_reducible refine LO.out.mono ?_); rintro e w2 ⟨lb, gb, pv, vsT, vsP, of, rfl, hl, hof⟩; have C2 := Lib.hid (OR.out w2 lb gb pv vsT vsP of hl hof); clear hl hof) | (go_at_call 78; (with_reducible refine C2.out.mono ?_); rintro e w3 ⟨v3, vs3, rfl, h3⟩; have H3 := Lib.hid h3; clear h3))
  go_ret
  exact ⟨v3, vs3, rfl, H3.out⟩
theorem Parts_no (A : Option Addr) (c : Nat) (vs : List Value) (L : List (List Int)) (hL : rightL L = false) (w : World) (hG : Gph w A vs L) :
    Calls Tryz.prog 55 #[.slice A L.length c] w fun e w' => e = .returned (.slice none 0 0) ∧ w' = w := by
  have GO := Lib.hid (graphOf_any A c vs L w hG)
  rw [hL] at GO
  simp only [Bool.false_eq_true, if_false] at GO
  generalize L.length = n at *
  clear hG hL
  go_enter Tryz.func55, Tryz.ntmps55
  go_wp2_with (go_at_call 76; (with_reducible refine GO.out.mono ?_); rintro e w1 ⟨rfl, rfl⟩)
  go_ret
  exact ⟨rfl, rfl⟩
end Go.Proofs.YtmlaepbmdfmgbaaGreat
namespace Go.Proofs.YtmlaepbmdfmgbaaGreat
open Go Go.Proofs Go.Shelf Go.RowKit Go.Lib Go.Maps
def idxP (L : List (List Int)) (a : Int) : Int := match L.findIdx? fun p => decide (a ∈ p) with | some i => i | none => -1
theorem idxP_some {L : List (List Int)} {a : Int} {k : Nat} (h : k < L.length) (he : a ∈ L.getD k []) (hn : ∀ j, j < k → a ∉ L.getD j []) : idxP L a = k := by
  have : (L.findIdx? fun p => decide (a ∈ p)) = some k := by
    rw [List.findIdx?_eq_some_iff_getElem]
    refine ⟨h, ?_, fun j hj => ?_⟩
    · have : L[k] = L.getD k [] := by simp [List.getD, List.getElem?_eq_getElem h]
      rw [this]; simpa using he
    · have h2 := hn j hj
      have : L[j]'(by omega) = L.getD j [] := by simp [List.getD, List.getElem?_eq_getElem (show j < L.length by omega)]
      rw [this]; simpa using h2
  unfold idxP
  rw [this]
theorem idxP_none {L : List (List Int)} {a : Int} (hn : ∀ j, j < L.length → a ∉ L.getD j []) : idxP L a = -1 := by
  have : (L.findIdx? fun p => decide (a ∈ p)) = none := by
    rw [List.findIdx?_eq_none_iff]
    intro y hy
    obtain ⟨j, hj, rfl⟩ := List.getElem_of_mem hy
    have h2 := hn j hj
    have : L[j] = L.getD j [] := by simp [List.getD, List.getElem?_eq_getElem hj]
    rw [this]; simpa using h2
  unfold idxP
  rw [this]
theorem gph_parts {B : Nat} {W : World} {v : Value} {vs : List Value} {P : List (List Nat)} (ho : W.ownsRow B 36 1 v P.length vs) (hr : RowsO B W vs P) (hl : P.length ≤ 64) (hls : ∀ i, i < P.length → (P.getD i []).length ≤ 64) : ∃ A c, v = .slice A P.length c ∧ Gph W A vs (P.map nums) := by
  obtain ⟨A, c, rfl, _, _⟩ := own_slice ho
  exact ⟨A, c, rfl, hr.gph (own_lies1 ho) (by omega) (fun i hi => Nat.le_trans (hls i hi) (by omega))⟩
theorem pG_mem {G : List (List Nat)} (hR : RG G) {i : Nat} (hi : i < (pG G).length) : ∃ p, p < (sG G).length ∧ (pG G).getD i [] = (sG G).getD p [] := by
  rw [pG_len] at hi
  have hf := (ordL_facts hR.goes _ (Nat.le_refl (sG G).length)).2
  have hl := ordL_length (rdG G) (sG G).length (sG G).length
  have hi2 : i < (ordL (rdG G) (sG G).length (sG G).length).length := by omega
  refine ⟨(ordL (rdG G) (sG G).length (sG G).length)[i], hf _ (List.getElem_mem hi2), ?_⟩
  rw [pG_eq]
  simp only [List.getD, List.getElem?_map, List.getElem?_eq_getElem hi2, Option.map_some, Option.getD_some]
theorem pG_small {G : List (List Nat)} (hR : RG G) : (pG G).length ≤ 64 ∧ ∀ i, i < (pG G).length → (pG G).getD i [] ≠ [] ∧ ((pG G).getD i []).length ≤ 64 := by
  obtain ⟨h1, h2, h3, _⟩ := part_facts hR (List.Perm.refl (sG G))
  refine ⟨by rw [pG_len]; exact h1, fun i hi => ?_⟩
  obtain ⟨p, hp, e⟩ := pG_mem hR hi
  rw [e]
  exact ⟨h3 p hp, h2 p hp⟩
theorem idxP_nil (a : Int) : idxP [] a = -1 := rfl
/-- Is a number's part a ring? -/
noncomputable def ringB (G : List (List Nat)) (a : Int) : Bool := decide (0 ≤ idxP ((pG G).map nums) a) && (decide (1 < ((pG G).getD (idxP ((pG G).map nums) a).toNat []).length) || decide (a ∈ nums (adjG G a.toNat)))
theorem idxP_lt (L : List (List Int)) (a : Int) : idxP L a = -1 ∨ ∃ k : Nat, k < L.length ∧ idxP L a = k ∧ a ∈ L.getD k [] := by
  unfold idxP
  cases h : L.findIdx? fun p => decide (a ∈ p) with
  | none => exact .inl rfl
  | some i =>
    rw [List.findIdx?_eq_some_iff_getElem] at h
    obtain ⟨hi, h1, _⟩ := h
    exact .inr ⟨i, hi, rfl, by simp only [List.getD, List.getElem?_eq_getElem hi, Option.getD_some]; simpa using h1⟩
theorem sG_lt {G : List (List Nat)} {p x : Nat} (hp : p < (sG G).length) (hx : x ∈ (sG G).getD p []) : x < G.length := (ofP_at (rG_is G G.length) hp hx).1
end Go.Proofs.YtmlaepbmdfmgbaaGreat
namespace Go.Proofs.YtmlaepbmdfmgbaaGreat
open Go Go.Proofs Go.Shelf Go.RowKit Go.Lib Go.Maps
end Go.Proofs.YtmlaepbmdfmgbaaGreat
namespace Go.Proofs.YtmlaepbmdfmgbaaGreat
open Go Go.RowKit
/-- The search, as a function with fuel. -/
def dfs (adj : Nat → List Nat) : Nat → List Nat → List Nat → Option (List Nat × List Nat)
  | 0, _, _ => none
  | _ + 1, met, [] => some ([], met)
  | f + 1, met, a :: l => if met.contains a then dfs adj f met l else
    match dfs adj f (a :: met) (adj a) with
    | none => none
    | some r => match dfs adj f r.2 l with
      | none => none
      | some s => some (r.1 ++ a :: s.1, s.2)
theorem dfs_thr (adj : Nat → List Nat) : ∀ (f : Nat) (met l N met' : List Nat), dfs adj f met l = some (N, met') → Thr adj (fun x => met.contains x) l N (fun x => met'.contains x)
  | 0, _, _, _, _, h => by simp [dfs] at h
  | f + 1, met, [], N, met', h => by
    simp only [dfs, Option.some.injEq, Prod.mk.injEq] at h
    obtain ⟨rfl, rfl⟩ := h
    exact .nil _
  | f + 1, met, a :: l, N, met', h => by
    unfold dfs at h
    split at h
    · rename_i hm
      exact .met hm (dfs_thr adj f met l N met' h)
    · rename_i hm
      have hm' : met.contains a = false := by simpa using hm
      split at h
      · cases h
      · rename_i r hr
        split at h
        · cases h
        · rename_i s hs
          simp only [Option.some.injEq, Prod.mk.injEq] at h
          obtain ⟨rfl, rfl⟩ := h
          have h1 := dfs_thr adj f (a :: met) (adj a) r.1 r.2 hr
          have e : (fun x => (a :: met).contains x) = mset (fun x => met.contains x) a := by
            funext x
            simp only [mset, List.contains_cons]
          rw [e] at h1
          exact .new hm' h1 (dfs_thr adj f r.2 l s.1 s.2 hs)
theorem dfs_reach {adj : Nat → List Nat} {f a : Nat} {N m : List Nat} (h : dfs adj f [] [a] = some (N, m)) (b : Nat) : Reach adj a b ↔ b ∈ N := by
  have h1 := (dfs_thr adj f [] [a] N m h).iff b
  rw [h1]
  simp
def reB (adj : Nat → List Nat) (a b : Nat) : Bool := match dfs adj 60 [] [a] with | some r => r.1.contains b | none => false
theorem reB_is {adj : Nat → List Nat} {n : Nat} (h : ∀ a, a < n → (dfs adj 60 [] [a]).isSome = true) : IsR adj n (reB adj) := fun a b ha _ => by
  obtain ⟨r, hr⟩ := Option.isSome_iff_exists.1 (h a ha)
  unfold reB
  rw [hr, dfs_reach (N := r.1) (m := r.2) hr b]
  simp
theorem sccs_congr {adj : Nat → List Nat} {n : Nat} {r r' : Nat → Nat → Bool} (h : IsR adj n r) (h' : IsR adj n r') : sccs r n = sccs r' n := by
  have e : ∀ a b, a < n → b < n → r a b = r' a b := fun a b ha hb => by rw [Bool.eq_iff_iff, h a b ha hb, h' a b ha hb]
  unfold sccs
  have e1 : (List.range n).filter (c_least r) = (List.range n).filter (c_least r') := List.filter_congr fun a ha => by
    have ha := List.mem_range.1 ha
    unfold c_least
    rw [Bool.eq_iff_iff, List.all_eq_true, List.all_eq_true]
    refine forall_congr' fun b => forall_congr' fun hb => ?_
    have hb := List.mem_range.1 hb
    rw [e a b ha (by omega), e b a (by omega) ha]
  rw [e1]
  refine List.map_congr_left fun a ha => ?_
  have ha := List.mem_range.1 (List.mem_filter.1 ha).1
  unfold scc
  exact List.filter_congr fun b hb => by
    have hb := List.mem_range.1 hb
    rw [e a b ha hb, e b a hb ha]
def c_exG : List (List Nat) := [[1, 3], [2], [1], [3], [0]]
theorem exG_right : RG c_exG := by
  refine ⟨by decide, fun i => ?_, fun i b hb => ?_⟩
  · match i with
    | 0 | 1 | 2 | 3 | 4 => simp [c_exG, List.getD]
    | i + 5 => simp [c_exG, List.getD]
  · match i with
    | 0 | 1 | 2 | 3 | 4 => simp [c_exG, List.getD] at hb ⊢; omega
    | i + 5 => simp [c_exG, List.getD] at hb
theorem exG_is : IsR (adjG c_exG) 5 (reB (adjG c_exG)) := reB_is fun a ha => by
  match a, ha with
  | 0, _ => decide
  | 1, _ => decide
  | 2, _ => decide
  | 3, _ => decide
  | 4, _ => decide
theorem exG_parts : pG c_exG = [[1, 2], [3], [0], [4]] := by
  have e : sccs (rG c_exG) c_exG.length = sccs (reB (adjG c_exG)) 5 := sccs_congr (rG_is c_exG 5) exG_is
  have e2 : sccs (reB (adjG c_exG)) 5 = [[0], [1, 2], [3], [4]] := by decide
  unfold pG partsOf
  rw [e, e2]
  decide
theorem exG_leads (a b : Nat) (ha : a < 5) (hb : b < 5) : ldB c_exG a b = reB (adjG c_exG) a b := by
  rw [Bool.eq_iff_iff, ldB_iff, exG_is a b ha hb]
  have : c_exG.length = 5 := rfl
  constructor
  · rintro ⟨_, _, _, h⟩; simpa using h
  · intro h; exact ⟨by omega, by omega, by omega, by simpa using h⟩
end Go.Proofs.YtmlaepbmdfmgbaaGreat
namespace Go.Proofs.YtmlaepbmdfmgbaaGreat
open Go Go.RowKit
theorem reach_step {adj : Nat → List Nat} {a b : Nat} : Reach adj a b ↔ a = b ∨ ∃ c, c ∈ adj a ∧ Reach adj c b := by
  constructor
  · intro h
    unfold Reach at h
    cases h with
    | one _ => exact .inl rfl
    | step _ h1 h2 => exact .inr ⟨_, h1, h2⟩
  · rintro (rfl | ⟨c, h1, h2⟩)
    · exact .refl _ _
    · exact .step rfl h1 h2
theorem ldB_self {G : List (List Nat)} {i : Nat} (hi : i < G.length) : ldB G i i = true := (ldB_iff _ _ _).2 ⟨by omega, by omega, by omega, .refl _ _⟩
theorem ldB_step {G : List (List Nat)} (hR : RG G) {i k : Nat} (hi : i < G.length) : ldB G i k = (decide (i = k) || (adjG G i).any fun c => ldB G c k) := by
  rw [Bool.eq_iff_iff, ldB_iff, Bool.or_eq_true, List.any_eq_true, decide_eq_true_eq]
  have e : ((i : Int).toNat) = i := by omega
  have e2 : ((k : Int).toNat) = k := by omega
  rw [e, e2, reach_step]
  constructor
  · rintro ⟨_, _, _, rfl | ⟨c, h1, h2⟩⟩
    · exact .inl rfl
    · exact .inr ⟨c, h1, (ldB_iff _ _ _).2 ⟨by omega, by have := (hR.inR i c h1).2; omega, by omega, by simpa using h2⟩⟩
  · rintro (rfl | ⟨c, h1, h2⟩)
    · exact ⟨by omega, by omega, by omega, .inl rfl⟩
    · have h3 := ((ldB_iff _ _ _).1 h2).2.2.2
      exact ⟨by omega, by omega, by omega, .inr ⟨c, h1, by simpa using h3⟩⟩
theorem ldB_zero {G : List (List Nat)} (h : G.length = 0) (a b : Int) : ldB G a b = false := by
  rw [Bool.eq_false_iff]
  intro h2
  have := (ldB_iff _ _ _).1 h2
  omega
theorem pG_zero {G : List (List Nat)} (h : G.length = 0) : pG G = [] := by
  have : (pG G).length = 0 := by rw [pG_len]; unfold sG sccs; rw [h]; rfl
  exact List.length_eq_zero_iff.1 this
theorem idxP_zero {G : List (List Nat)} (h : G.length = 0) (a : Int) : idxP ((pG G).map nums) a = -1 := by rw [pG_zero h]; rfl
theorem ringB_zero {G : List (List Nat)} (h : G.length = 0) (a : Int) : ringB G a = false := by
  unfold ringB; rw [idxP_zero h]; rfl
/-- The parts' places among the parts by their c_least numbers. -/
noncomputable def plG (G : List (List Nat)) : List Nat := ordL (rdG G) (sG G).length (sG G).length
theorem plG_len (G : List (List Nat)) : (plG G).length = (pG G).length := by rw [pG_len]; exact ordL_length _ _ _
theorem plG_nodup {G : List (List Nat)} (hR : RG G) : (plG G).Nodup := (ordL_facts hR.goes _ (Nat.le_refl _)).1
theorem nodup_at {l : List Nat} (hn : l.Nodup) {i j : Nat} (hi : i < l.length) (hj : j < l.length) (h : l.getD i 0 = l.getD j 0) : i = j := by
  simp only [List.getD, List.getElem?_eq_getElem hi, List.getElem?_eq_getElem hj, Option.getD_some] at h
  exact (List.getElem_inj hn).1 h
theorem plG_lt {G : List (List Nat)} (hR : RG G) {j : Nat} (hj : j < (pG G).length) : (plG G).getD j 0 < (sG G).length := by
  have hl := plG_len G
  have : (plG G).getD j 0 = (plG G)[j]'(by omega) := by simp [List.getD, List.getElem?_eq_getElem (show j < (plG G).length by omega)]
  rw [this]
  exact (ordL_facts hR.goes _ (Nat.le_refl _)).2 _ (List.getElem_mem _)
theorem pG_at {G : List (List Nat)} {j : Nat} (hj : j < (pG G).length) : (pG G).getD j [] = (sG G).getD ((plG G).getD j 0) [] := by
  have hl := plG_len G
  have hi2 : j < (plG G).length := by omega
  show ((plG G).map fun p => (sG G).getD p []).getD j [] = _
  simp only [List.getD, List.getElem?_map, List.getElem?_eq_getElem hi2, Option.map_some, Option.getD_some]
/-- A number's part. -/
noncomputable def ptG (G : List (List Nat)) (i : Nat) : List Nat := scc (rG G) G.length i
theorem mem_ptG {G : List (List Nat)} {i x : Nat} (hi : i < G.length) : x ∈ ptG G i ↔ x < G.length ∧ Tog (adjG G) i x := mem_scc (rG_is G _) hi
theorem pG_has {G : List (List Nat)} (hR : RG G) {i j : Nat} (hj : j < (pG G).length) (h : i ∈ (pG G).getD j []) : i < G.length ∧ oG G i = (plG G).getD j 0 := by
  rw [pG_at hj] at h
  exact ofP_at (rG_is G _) (plG_lt hR hj) h
theorem place_of {G : List (List Nat)} (hR : RG G) {i : Nat} (hi : i < G.length) :
    ∃ j, j < (pG G).length ∧ (plG G).getD j 0 = oG G i ∧ (pG G).getD j [] = ptG G i ∧ i ∈ (pG G).getD j [] ∧ idxP ((pG G).map nums) i = j := by
  have h1 : oG G i < (sG G).length := ofP_lt (rG_is G _) hi
  have h2 : oG G i ∈ plG G := ordL_all hR.goes h1
  obtain ⟨j, hj, e⟩ := List.getElem_of_mem h2
  have hj2 : j < (pG G).length := by rw [← plG_len]; exact hj
  have e1 : (plG G).getD j 0 = oG G i := by simp [List.getD, List.getElem?_eq_getElem hj, e]
  have e2 : (pG G).getD j [] = ptG G i := by rw [pG_at hj2, e1]; exact ofP_mem (rG_is G _) hi
  have e3 : i ∈ (pG G).getD j [] := by rw [e2]; exact scc_self (rG_is G _) hi
  refine ⟨j, hj2, e1, e2, e3, idxP_some (by simpa using hj2) ?_ ?_⟩
  · rw [getD_map_nums]; exact c_mem_nums.2 ⟨by omega, by simpa using e3⟩
  · intro k hk h
    rw [getD_map_nums] at h
    have h := (c_mem_nums.1 h).2
    rw [show ((i : Int).toNat) = i by omega] at h
    have := (pG_has hR (j := k) (by omega) h).2
    have hl := plG_len G
    have := nodup_at (plG_nodup hR) (i := j) (j := k) (by omega) (by omega) (by rw [e1, this])
    omega
theorem idxP_none' {G : List (List Nat)} (hR : RG G) {a : Int} (h : ¬ (0 ≤ a ∧ a < G.length)) : idxP ((pG G).map nums) a = -1 := by
  refine idxP_none fun j hj hm => ?_
  rw [List.length_map] at hj
  rw [getD_map_nums] at hm
  obtain ⟨h1, h2⟩ := c_mem_nums.1 hm
  have := (pG_has hR hj h2).1
  omega
/-- In a ring: not alone, or it leads to itself. -/
theorem ringB_eq {G : List (List Nat)} (hR : RG G) {i : Nat} (hi : i < G.length) : ringB G i = (decide (1 < (ptG G i).length) || decide (i ∈ adjG G i)) := by
  obtain ⟨j, h1, h2, h3, h4, h5⟩ := place_of hR hi
  unfold ringB
  rw [h5]
  have e : ((j : Int).toNat) = j := by omega
  have e2 : ((i : Int).toNat) = i := by omega
  rw [e, e2, h3, Bool.eq_iff_iff]
  have : (i : Int) ∈ nums (adjG G i) ↔ i ∈ adjG G i := by rw [c_mem_nums]; simp
  simp [this]
theorem one_more {l : List Nat} {i : Nat} (hn : l.Nodup) (hi : i ∈ l) : 1 < l.length ↔ ∃ x, x ∈ l ∧ x ≠ i := by
  match l with
  | [] => cases hi
  | [a] =>
    have : i = a := by simpa using hi
    simp [this]
  | a :: b :: l =>
    refine ⟨fun _ => ?_, fun _ => by simp⟩
    by_cases h : a = i
    · subst h
      exact ⟨b, by simp, fun e => by subst e; simp at hn⟩
    · exact ⟨a, by simp, h⟩
theorem ptG_nodup (G : List (List Nat)) (i : Nat) : (ptG G i).Nodup := (scc_rises _ _ _).imp fun h => Nat.ne_of_lt h
theorem ringB_step {G : List (List Nat)} (hR : RG G) {i : Nat} (hi : i < G.length) : ringB G i = (adjG G i).any fun c => ldB G c i := by
  rw [ringB_eq hR hi, Bool.eq_iff_iff, Bool.or_eq_true, List.any_eq_true, decide_eq_true_eq, decide_eq_true_eq, one_more (ptG_nodup G i) ((mem_ptG hi).2 ⟨hi, .refl _ _⟩)]
  have hl : ∀ c, c ∈ adjG G i → (ldB G c i = true ↔ Reach (adjG G) c i) := fun c hc => by
    rw [ldB_iff]
    have := (hR.inR i c hc).2
    simp
    omega
  constructor
  · rintro (⟨x, hx, hn⟩ | h)
    · obtain ⟨h1, h2⟩ := (mem_ptG hi).1 hx
      rcases reach_step.1 h2.1 with e | ⟨c, hc, hc2⟩
      · exact absurd e.symm hn
      · exact ⟨c, hc, (hl c hc).2 (hc2.trans h2.2)⟩
    · exact ⟨i, h, (hl i h).2 (.refl _ _)⟩
  · rintro ⟨c, hc, h⟩
    have h := (hl c hc).1 h
    by_cases e : c = i
    · subst e; exact .inr hc
    · exact .inl ⟨c, (mem_ptG hi).2 ⟨(hR.inR i c hc).2, reach_step.2 (.inr ⟨c, hc, .refl _ _⟩), h⟩, e⟩
/-- Turned round. -/
theorem trn_len (G : List (List Nat)) : (trnG G).length = G.length := trnTo_len _ _ _
theorem reach_turn {G : List (List Nat)} (hR : RG G) (a b : Nat) : Reach (adjG (trnG G)) b a ↔ Reach (adjG G) a b := WP.turn_iff hR.trn
theorem ldB_turn {G : List (List Nat)} (hR : RG G) (a b : Int) : ldB (trnG G) b a = ldB G a b := by
  rw [Bool.eq_iff_iff, ldB_iff, ldB_iff, reach_turn hR, trn_len]
  constructor
  · rintro ⟨h1, h2, h3, h4⟩
    exact ⟨h3, by have := h4.lt' hR.inR (show b.toNat < G.length by omega); omega, h1, h4⟩
  · rintro ⟨h1, h2, h3, h4⟩
    exact ⟨h3, by have := h4.lt hR.inR (show a.toNat < G.length by omega); omega, h1, h4⟩
theorem ptG_turn {G : List (List Nat)} (hR : RG G) {i : Nat} (hi : i < G.length) : ptG (trnG G) i = ptG G i := by
  refine rises_eq (scc_rises _ _ _) (scc_rises _ _ _) fun x => ?_
  have h1 := mem_ptG (G := trnG G) (i := i) (x := x) (by rw [trn_len]; exact hi)
  have h2 := mem_ptG (G := G) (i := i) (x := x) hi
  exact h1.trans (by rw [h2, trn_len, Tog.turn hR.trn])
theorem self_turn {G : List (List Nat)} (hR : RG G) (i : Nat) : i ∈ adjG (trnG G) i ↔ i ∈ adjG G i := (hR.trn i i).symm
theorem ringB_turn {G : List (List Nat)} (hR : RG G) {i : Nat} (hi : i < G.length) : ringB (trnG G) i = ringB G i := by
  rw [ringB_eq hR hi, ringB_eq hR.turned (by rw [trn_len]; exact hi), ptG_turn hR hi]
  simp only [self_turn hR]
theorem sG_turn {G : List (List Nat)} (hR : RG G) : sG (trnG G) = sG G := by
  have e : ∀ a b, rG (trnG G) a b = rG G b a := fun a b => by
    have h1 : ∀ (H : List (List Nat)) a b, rG H a b = true ↔ Reach (adjG H) a b := fun H a b => by unfold rG; simp
    rw [Bool.eq_iff_iff, h1, h1]
    exact reach_turn hR b a
  unfold sG sccs
  rw [trn_len]
  have e1 : c_least (rG (trnG G)) = c_least (rG G) := by
    funext a
    unfold c_least
    simp only [e]
    congr 1
    funext b
    rw [Bool.and_comm]
  have e2 : scc (rG (trnG G)) G.length = scc (rG G) G.length := by
    funext v
    unfold scc
    congr 1
    funext x
    rw [e, e, Bool.and_comm]
  rw [e1, e2]
theorem pG_turn_len {G : List (List Nat)} (hR : RG G) : (pG (trnG G)).length = (pG G).length := by rw [pG_len, pG_len, sG_turn hR]
/-- The part that stands here stands there too. -/
theorem part_turn {G : List (List Nat)} (hR : RG G) {j : Nat} (hj : j < (pG G).length) :
    ((pG G).getD j []).getD 0 0 < G.length ∧ ∃ k, k < (pG (trnG G)).length ∧ idxP ((pG (trnG G)).map nums) (((pG G).getD j []).getD 0 0 : Nat) = k ∧ (pG (trnG G)).getD k [] = (pG G).getD j [] := by
  have hne := ((pG_small hR).2 j hj).1
  have hm : ((pG G).getD j []).getD 0 0 ∈ (pG G).getD j [] := by
    match h : (pG G).getD j [], hne with
    | a :: l, _ => simp
  obtain ⟨h1, h2⟩ := pG_has hR hj hm
  refine ⟨h1, ?_⟩
  generalize ((pG G).getD j []).getD 0 0 = a at *
  obtain ⟨k, k1, k2, k3, k4, k5⟩ := place_of hR.turned (i := a) (by rw [trn_len]; exact h1)
  obtain ⟨j', j1, j2, j3, j4, j5⟩ := place_of hR h1
  refine ⟨k, k1, k5, ?_⟩
  have hl := plG_len G
  obtain rfl := nodup_at (plG_nodup hR) (i := j) (j := j') (by omega) (by omega) (by rw [j2, h2])
  rw [k3, j3, ptG_turn hR h1]
end Go.Proofs.YtmlaepbmdfmgbaaGreat
namespace Go.Proofs.YtmlaepbmdfmgbaaGreat
open Go Go.RowKit
/-- The place of a number's part. -/
noncomputable def posG (G : List (List Nat)) (i : Nat) : Nat := (idxP ((pG G).map nums) i).toNat
theorem pos_of {G : List (List Nat)} (hR : RG G) {i : Nat} (hi : i < G.length) :
    posG G i < (pG G).length ∧ (plG G).getD (posG G i) 0 = oG G i ∧ (pG G).getD (posG G i) [] = ptG G i ∧ i ∈ (pG G).getD (posG G i) [] ∧ idxP ((pG G).map nums) i = posG G i := by
  obtain ⟨j, h1, h2, h3, h4, h5⟩ := place_of hR hi
  have e : posG G i = j := by unfold posG; rw [h5]; omega
  rw [e]
  exact ⟨h1, h2, h3, h4, h5⟩
theorem pos_eq {G : List (List Nat)} (hR : RG G) {i j : Nat} (hj : j < (pG G).length) (h : i ∈ (pG G).getD j []) : i < G.length ∧ posG G i = j := by
  obtain ⟨h1, h2⟩ := pG_has hR hj h
  obtain ⟨p1, p2, _⟩ := pos_of hR h1
  have hl := plG_len G
  exact ⟨h1, nodup_at (plG_nodup hR) (by omega) (by omega) (by rw [p2, h2])⟩
theorem pos_same {G : List (List Nat)} (hR : RG G) {i k : Nat} (hi : i < G.length) (hk : k < G.length) : posG G i = posG G k ↔ oG G i = oG G k := by
  obtain ⟨p1, p2, _⟩ := pos_of hR hi
  obtain ⟨q1, q2, _⟩ := pos_of hR hk
  have hl := plG_len G
  constructor
  · intro h; rw [← p2, ← q2, h]
  · intro h; exact nodup_at (plG_nodup hR) (by omega) (by omega) (by rw [p2, q2, h])
theorem pos_tog {G : List (List Nat)} (hR : RG G) {i k : Nat} (hi : i < G.length) (hk : k < G.length) : posG G i = posG G k ↔ (ldB G i k = true ∧ ldB G k i = true) := by
  rw [pos_same hR hi hk, ldB_iff, ldB_iff]
  have := ofP_eq (rG_is G G.length) hi hk
  refine this.trans ?_
  unfold Tog
  constructor
  · rintro ⟨h1, h2⟩
    exact ⟨⟨by omega, by omega, by omega, by simpa using h1⟩, ⟨by omega, by omega, by omega, by simpa using h2⟩⟩
  · rintro ⟨⟨_, _, _, h1⟩, ⟨_, _, _, h2⟩⟩
    exact ⟨by simpa using h1, by simpa using h2⟩
theorem plG_nxt {G : List (List Nat)} {t : Nat} (ht : t < (pG G).length) : (plG G).getD t 0 = nxt (rdG G) (sG G).length (ptO (rdG G) (sG G).length t) := by
  rw [pG_len] at ht
  exact ordL_at ht
theorem pt_pos {G : List (List Nat)} (hR : RG G) {c t : Nat} (hc : c < G.length) (ht : t ≤ (pG G).length) : ptO (rdG G) (sG G).length t (oG G c) = true ↔ posG G c < t := by
  obtain ⟨p1, p2, _⟩ := pos_of hR hc
  have hl := plG_len G
  have e : ordL (rdG G) (sG G).length t = (plG G).take t := by
    rw [pG_len] at ht
    exact (ordL_take ht).symm
  unfold ptO
  rw [e, List.contains_iff_mem]
  constructor
  · intro h
    obtain ⟨s, hs, e2⟩ := List.getElem_of_mem h
    rw [List.length_take] at hs
    rw [List.getElem_take] at e2
    have e3 : (plG G).getD s 0 = oG G c := by simp [List.getD, List.getElem?_eq_getElem (show s < (plG G).length by omega), e2]
    have := nodup_at (plG_nodup hR) (i := s) (j := posG G c) (by omega) (by omega) (by rw [e3, p2])
    omega
  · intro h
    have e3 : (plG G)[posG G c]'(by omega) = oG G c := by
      rw [← p2]; simp [List.getD, List.getElem?_eq_getElem (show posG G c < (plG G).length by omega)]
    rw [← e3, List.mem_take_iff_getElem]
    exact ⟨posG G c, by omega, rfl⟩
theorem rdG_iff {G : List (List Nat)} (hR : RG G) {pt : Nat → Bool} {q : Nat} : rdG G pt q = true ↔ ∀ a b, b ∈ adjG G a → oG G a = q → oG G b ≠ q → pt (oG G b) = true := by
  unfold rdG rdy
  rw [List.all_eq_true]
  constructor
  · intro h a b hb ha hn
    have := h (a, b) ((mem_lnk hR.inR).2 hb)
    simp [ha, hn] at this
    exact this
  · rintro h ⟨a, b⟩ he
    have hb := (mem_lnk hR.inR).1 he
    by_cases h1 : oG G a = q
    · by_cases h2 : oG G b = q
      · simp [h2]
      · simp [h a b hb h1 h2]
    · simp [h1]
/-- Who leads to a number stands behind it, or with it. -/
theorem pos_ahead {G : List (List Nat)} (hR : RG G) {i c : Nat} (h : c ∈ adjG G i) : posG G c ≤ posG G i := by
  obtain ⟨hi, hc⟩ := hR.inR i c h
  obtain ⟨p1, p2, _⟩ := pos_of hR hi
  have h1 := ordL_next hR.goes (t := posG G i) (by rw [← pG_len]; exact p1)
  rw [← plG_nxt p1, p2] at h1
  have h2 := (rdG_iff hR).1 h1.2.2.1 i c h rfl
  by_cases e : oG G c = oG G i
  · rw [(pos_same hR hc hi).2 e]; exact Nat.le_refl _
  · have := (pt_pos hR hc (by omega)).1 (h2 e)
    omega
/-- A part that could have stood sooner has a greater c_least number. -/
theorem part_sooner {G : List (List Nat)} (hR : RG G) {p q : Nat} (hp : p < (pG G).length) (hq : q < p) (h : ∀ i c, c ∈ adjG G i → posG G i = p → posG G c ≠ p → posG G c < q) :
    ((pG G).getD q []).getD 0 0 < ((pG G).getD p []).getD 0 0 := by
  have hl := plG_len G
  have h1 := ordL_next hR.goes (t := q) (by rw [← pG_len]; omega)
  rw [← plG_nxt (by omega)] at h1
  have hrd : rdG G (ptO (rdG G) (sG G).length q) ((plG G).getD p 0) = true := by
    refine (rdG_iff hR).2 fun a b hb ha hn => ?_
    obtain ⟨ha2, hb2⟩ := hR.inR a b hb
    obtain ⟨a1, a2, _⟩ := pos_of hR ha2
    obtain ⟨b1, b2, _⟩ := pos_of hR hb2
    have ea : posG G a = p := nodup_at (plG_nodup hR) (by omega) (by omega) (by rw [a2, ha])
    have eb : posG G b ≠ p := fun e => hn (by rw [← b2, e])
    exact (pt_pos hR hb2 (by omega)).2 (h a b hb ea eb)
  have hpt : ptO (rdG G) (sG G).length q ((plG G).getD p 0) = false := by
    cases e : ptO (rdG G) (sG G).length q ((plG G).getD p 0) with
    | false => rfl
    | true =>
      exfalso
      have e2 : ordL (rdG G) (sG G).length q = (plG G).take q := by
        rw [pG_len] at hp
        exact (ordL_take (by omega)).symm
      unfold ptO at e
      rw [e2, List.contains_iff_mem] at e
      obtain ⟨s, hs, e3⟩ := List.getElem_of_mem e
      rw [List.length_take] at hs
      rw [List.getElem_take] at e3
      have e4 : (plG G).getD s 0 = (plG G).getD p 0 := by rw [← e3]; simp [List.getD, List.getElem?_eq_getElem (show s < (plG G).length by omega)]
      have := nodup_at (plG_nodup hR) (i := s) (j := p) (by omega) (by omega) e4
      omega
  have hlt : (plG G).getD q 0 < (plG G).getD p 0 := by
    rcases Nat.lt_trichotomy ((plG G).getD q 0) ((plG G).getD p 0) with h2 | h2 | h2
    · exact h2
    · have := nodup_at (plG_nodup hR) (i := q) (j := p) (by omega) (by omega) h2
      omega
    · rcases h1.2.2.2 _ h2 with h3 | h3
      · rw [hpt] at h3; cases h3
      · rw [hrd] at h3; cases h3
  have hr := sccs_rise (rG_is G G.length)
  have hp2 := plG_lt hR hp
  have hq2 := plG_lt hR (show q < (pG G).length by omega)
  rw [pG_at hp, pG_at (show q < (pG G).length by omega)]
  have e1 : ∀ k (h : k < (sG G).length), (sG G).getD k [] = (sG G)[k] := fun k h => by simp [List.getD, List.getElem?_eq_getElem h]
  rw [e1 _ hq2, e1 _ hp2]
  exact List.pairwise_iff_getElem.1 hr _ _ hq2 hp2 hlt
end Go.Proofs.YtmlaepbmdfmgbaaGreat
namespace Go.Proofs.YtmlaepbmdfmgbaaGreat
open Go Go.RowKit
def more (G : List (List Nat)) (i : Nat) : List (List Nat) := G ++ [[i]]
theorem more_len (G : List (List Nat)) (i : Nat) : (more G i).length = G.length + 1 := by simp [more]
theorem more_adj {G : List (List Nat)} {i a : Nat} (ha : a < G.length) : adjG (more G i) a = adjG G a := by
  unfold adjG more; simp only [List.getD]; rw [List.getElem?_append_left ha]
theorem more_new (G : List (List Nat)) (i : Nat) : adjG (more G i) G.length = [i] := by
  unfold adjG more; simp [List.getD]
theorem more_out {G : List (List Nat)} {i a : Nat} (ha : G.length < a) : adjG (more G i) a = [] := by
  unfold adjG more; simp only [List.getD]; rw [List.getElem?_eq_none (by simp; omega)]; rfl
theorem RG.more {G : List (List Nat)} (hR : RG G) {i : Nat} (hi : i < G.length) (h : G.length < 64) : RG (more G i) := by
  refine ⟨by rw [more_len]; omega, fun a => ?_, fun a b hb => ?_⟩
  · show (adjG (YtmlaepbmdfmgbaaGreat.more G i) a).Pairwise (· < ·)
    rcases Nat.lt_trichotomy a G.length with h1 | h1 | h1
    · rw [more_adj h1]; exact hR.rise a
    · rw [h1, more_new]; simp
    · rw [more_out h1]; simp
  · rw [more_len]
    have hb : b ∈ adjG (YtmlaepbmdfmgbaaGreat.more G i) a := hb
    rcases Nat.lt_trichotomy a G.length with h1 | h1 | h1
    · rw [more_adj h1] at hb; have := hR.lt a b hb; omega
    · rw [h1, more_new] at hb; simp at hb; omega
    · rw [more_out h1] at hb; cases hb
theorem more_reach {G : List (List Nat)} (hR : RG G) {i a b : Nat} (ha : a < G.length) : Reach (adjG (more G i)) a b ↔ Reach (adjG G) a b := by
  have go1 : ∀ a b, WP (adjG (more G i)) (fun _ => false) a b → a < G.length → WP (adjG G) (fun _ => false) a b := fun a b h => by
    induction h with
    | one h => exact fun _ => .one rfl
    | step _ h1 _ ih =>
      intro ha
      rw [more_adj ha] at h1
      exact .step rfl h1 (ih (hR.inR _ _ h1).2)
  have go2 : ∀ a b, WP (adjG G) (fun _ => false) a b → WP (adjG (more G i)) (fun _ => false) a b := fun a b h => by
    induction h with
    | one h => exact .one rfl
    | step _ h1 _ ih =>
      refine .step rfl ?_ ih
      rw [more_adj (hR.inR _ _ h1).1]
      exact h1
  exact ⟨fun h => go1 a b h ha, fun h => go2 a b h⟩
theorem rG_iff (H : List (List Nat)) (a b : Nat) : rG H a b = true ↔ Reach (adjG H) a b := by unfold rG; simp
theorem more_rG {G : List (List Nat)} (hR : RG G) {i a b : Nat} (ha : a < G.length) : rG (more G i) a b = rG G a b := by
  rw [Bool.eq_iff_iff, rG_iff, rG_iff, more_reach hR ha]
theorem more_none {G : List (List Nat)} (hR : RG G) {i a : Nat} (ha : a < G.length) : rG (more G i) a G.length = false := by
  rw [more_rG hR ha, Bool.eq_false_iff]
  intro h
  have := ((rG_iff _ _ _).1 h).lt hR.inR ha
  omega
theorem more_sG {G : List (List Nat)} (hR : RG G) (i : Nat) : sG (more G i) = sG G ++ [[G.length]] := by
  unfold sG sccs
  rw [more_len, List.range_succ, List.filter_append, List.map_append]
  have e1 : (List.range G.length).filter (c_least (rG (more G i))) = (List.range G.length).filter (c_least (rG G)) := List.filter_congr fun a ha => by
    have ha := List.mem_range.1 ha
    unfold c_least
    rw [Bool.eq_iff_iff, List.all_eq_true, List.all_eq_true]
    refine forall_congr' fun b => forall_congr' fun hb => ?_
    have hb := List.mem_range.1 hb
    rw [more_rG hR ha, more_rG hR (show b < G.length by omega)]
  have e2 : [G.length].filter (c_least (rG (more G i))) = [G.length] := by
    have : c_least (rG (more G i)) G.length = true := by
      unfold c_least
      rw [List.all_eq_true]
      intro b hb
      have hb := List.mem_range.1 hb
      rw [more_none hR hb]
      simp
    simp [this]
  rw [e1, e2]
  congr 1
  · refine List.map_congr_left fun v hv => ?_
    have hv := List.mem_range.1 (List.mem_filter.1 hv).1
    unfold scc
    rw [List.range_succ, List.filter_append]
    have e3 : [G.length].filter (fun x => rG (more G i) v x && rG (more G i) x v) = [] := by
      simp [more_none hR hv]
    rw [e3, List.append_nil]
    exact List.filter_congr fun x hx => by
      have hx := List.mem_range.1 hx
      rw [more_rG hR hv, more_rG hR hx]
  · have e4 : scc (rG (more G i)) (G.length + 1) G.length = [G.length] := by
      unfold scc
      rw [List.range_succ, List.filter_append]
      have e5 : (List.range G.length).filter (fun x => rG (more G i) G.length x && rG (more G i) x G.length) = [] := by
        rw [List.filter_eq_nil_iff]
        intro x hx
        have hx := List.mem_range.1 hx
        rw [more_none hR hx]
        simp
      have e6 : rG (more G i) G.length G.length = true := (rG_iff _ _ _).2 (.refl _ _)
      rw [e5]
      simp [e6]
    simp [e4]
theorem more_oG {G : List (List Nat)} (hR : RG G) {i a : Nat} (ha : a < G.length) : oG (more G i) a = oG G a := by
  have h1 : oG G a < (sG G).length := ofP_lt (rG_is G _) ha
  unfold oG ofP at h1 ⊢
  rw [more_sG hR, List.findIdx_append, if_pos h1]
theorem more_oN {G : List (List Nat)} (hR : RG G) (i : Nat) : oG (more G i) G.length = (sG G).length := by
  have h1 : (sG G).findIdx (fun p => p.contains G.length) = (sG G).length := by
    rw [List.findIdx_eq_length]
    intro p hp
    obtain ⟨k, hk, e⟩ := List.getElem_of_mem hp
    rw [Bool.eq_false_iff]
    intro hc
    have hm : G.length ∈ (sG G).getD k [] := by
      simp only [List.getD, List.getElem?_eq_getElem hk, Option.getD_some, e]
      exact List.contains_iff_mem.1 hc
    have := sG_lt hk hm
    omega
  unfold oG ofP
  rw [more_sG hR, List.findIdx_append, h1]
  simp
theorem more_rdG {G : List (List Nat)} (hR : RG G) {i : Nat} (hi : i < G.length) (h : G.length < 64) {pt : Nat → Bool} {q : Nat} (hq : q < (sG G).length) : rdG (more G i) pt q = rdG G pt q := by
  rw [Bool.eq_iff_iff, rdG_iff (hR.more hi h), rdG_iff hR]
  constructor
  · intro h1 a b hb ha hn
    obtain ⟨ha2, hb2⟩ := hR.inR a b hb
    have := h1 a b (by rw [more_adj ha2]; exact hb) (by rw [more_oG hR ha2]; exact ha) (by rw [more_oG hR hb2]; exact hn)
    rwa [more_oG hR hb2] at this
  · intro h1 a b hb ha hn
    rcases Nat.lt_trichotomy a G.length with h2 | h2 | h2
    · rw [more_adj h2] at hb
      obtain ⟨ha2, hb2⟩ := hR.inR a b hb
      rw [more_oG hR h2] at ha
      rw [more_oG hR hb2] at hn ⊢
      exact h1 a b hb ha hn
    · rw [h2, more_oN hR] at ha; omega
    · rw [more_out h2] at hb; cases hb
theorem more_ord {G : List (List Nat)} (hR : RG G) {i : Nat} (hi : i < G.length) (h : G.length < 64) : ∀ t, t ≤ (sG G).length → ordL (rdG (more G i)) ((sG G).length + 1) t = ordL (rdG G) (sG G).length t
  | 0, _ => rfl
  | t + 1, ht => by
    have ih := more_ord hR hi h t (by omega)
    have h1 := ordL_next hR.goes (t := t) (by omega)
    show ordL (rdG (more G i)) ((sG G).length + 1) t ++ [nxt _ _ (ptO _ _ t)] = ordL (rdG G) (sG G).length t ++ [nxt _ _ (ptO _ _ t)]
    have ep : ptO (rdG (more G i)) ((sG G).length + 1) t = ptO (rdG G) (sG G).length t := by unfold ptO; rw [ih]
    rw [ih, ep]
    congr 2
    refine nxt_eq (by omega) h1.2.1 ?_ ?_
    · rw [more_rdG hR hi h h1.1]; exact h1.2.2.1
    · intro j hj
      rw [more_rdG hR hi h (by omega)]
      exact h1.2.2.2 j hj
theorem more_pG {G : List (List Nat)} (hR : RG G) {i : Nat} (hi : i < G.length) (h : G.length < 64) : pG (more G i) = pG G ++ [[G.length]] := by
  have hM := hR.more hi h
  have es := more_sG hR i
  have el : (sG (more G i)).length = (sG G).length + 1 := by rw [es]; simp
  have h1 := ordL_next hM.goes (t := (sG G).length) (by omega)
  have e1 : ordL (rdG (more G i)) (sG (more G i)).length (sG G).length = ordL (rdG G) (sG G).length (sG G).length := by rw [el]; exact more_ord hR hi h _ (Nat.le_refl _)
  have e2 : nxt (rdG (more G i)) (sG (more G i)).length (ptO (rdG (more G i)) (sG (more G i)).length (sG G).length) = (sG G).length := by
    obtain ⟨a1, a2, _⟩ := h1
    generalize nxt (rdG (more G i)) (sG (more G i)).length (ptO (rdG (more G i)) (sG (more G i)).length (sG G).length) = q at *
    rcases Nat.lt_or_ge q (sG G).length with h3 | h3
    · have := ordL_all hR.goes h3
      unfold ptO at a2
      rw [e1] at a2
      have := List.contains_iff_mem.2 this
      rw [a2] at this; cases this
    · omega
  rw [pG_eq, pG_eq]
  have e3 : ordL (rdG (more G i)) (sG (more G i)).length (sG (more G i)).length = ordL (rdG G) (sG G).length (sG G).length ++ [(sG G).length] := by
    rw [show ordL (rdG (more G i)) (sG (more G i)).length (sG (more G i)).length = ordL (rdG (more G i)) (sG (more G i)).length ((sG G).length + 1) from by rw [el]]
    show ordL (rdG (more G i)) (sG (more G i)).length (sG G).length ++ [nxt _ _ (ptO _ _ (sG G).length)] = _
    rw [e2, e1]
  rw [e3, List.map_append, es]
  congr 1
  · refine List.map_congr_left fun p hp => ?_
    have := (ordL_facts hR.goes _ (Nat.le_refl (sG G).length)).2 p hp
    simp only [List.getD]
    rw [List.getElem?_append_left this]
  · simp [List.getD]
theorem more_ld {G : List (List Nat)} (hR : RG G) {i a b : Nat} (ha : a < G.length) : ldB (more G i) a b = ldB G a b := by
  rw [Bool.eq_iff_iff, ldB_iff, ldB_iff, more_len]
  have h1 := more_reach hR (i := i) (b := b) ha
  simp only [Int.toNat_natCast, h1]
  constructor
  · rintro ⟨h2, _, h3, h4⟩; exact ⟨h2, by omega, h3, h4⟩
  · rintro ⟨h2, _, h3, h4⟩; exact ⟨h2, by omega, h3, h4⟩
theorem more_ring {G : List (List Nat)} (hR : RG G) {i k : Nat} (hi : i < G.length) (h : G.length < 64) (hk : k < G.length) : ringB (more G i) k = ringB G k := by
  rw [ringB_step (hR.more hi h) (by rw [more_len]; omega), ringB_step hR hk, more_adj hk, Bool.eq_iff_iff, List.any_eq_true, List.any_eq_true]
  refine exists_congr fun c => and_congr_right fun hc => ?_
  rw [more_ld hR (hR.inR k c hc).2]
theorem more_end {G : List (List Nat)} (hR : RG G) {i : Nat} (hi : i < G.length) (h : G.length < 64) :
    ringB (more G i) G.length = false ∧ ldB (more G i) G.length i = true ∧ ldB (more G i) i G.length = false := by
  have h3 : ldB (more G i) i G.length = false := by
    rw [more_ld hR hi, Bool.eq_false_iff]
    intro hl
    have h1 := ((ldB_iff _ _ _).1 hl).2.2.2
    have := h1.lt hR.inR (by simpa using hi)
    simp at this
  refine ⟨?_, ?_, h3⟩
  · rw [ringB_step (hR.more hi h) (by rw [more_len]; omega), more_new]
    simp [h3]
  · rw [ldB_step (hR.more hi h) (by rw [more_len]; omega), more_new]
    have := ldB_self (G := more G i) (i := i) (by rw [more_len]; omega)
    simp [this]
theorem more_at {G : List (List Nat)} (hR : RG G) {i : Nat} (hi : i < G.length) (h : G.length < 64) :
    idxP ((pG (more G i)).map nums) (G.length : Nat) = (pG G).length ∧ ∃ j, j < (pG G).length ∧ idxP ((pG (more G i)).map nums) i = j := by
  have hM := hR.more hi h
  have ep := more_pG hR hi h
  have hl : (pG (more G i)).length = (pG G).length + 1 := by rw [ep]; simp
  have el : (pG (more G i)).getD (pG G).length [] = [G.length] := by rw [ep]; simp [List.getD]
  have e1 := pos_eq hM (i := G.length) (j := (pG G).length) (by omega) (by rw [el]; simp)
  have p1 := pos_of hM (i := G.length) (by rw [more_len]; omega)
  have p2 := pos_of hM (i := i) (by rw [more_len]; omega)
  refine ⟨by rw [p1.2.2.2.2, e1.2], posG (more G i) i, ?_, p2.2.2.2.2⟩
  rcases Nat.lt_or_ge (posG (more G i) i) (pG G).length with h5 | h5
  · exact h5
  · have : posG (more G i) i = (pG G).length := by have := p2.1; omega
    have h6 := p2.2.2.2.1
    rw [this, el] at h6
    simp at h6
    omega
end Go.Proofs.YtmlaepbmdfmgbaaGreat

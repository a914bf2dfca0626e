/- The next part is put. -/
import Derived.Test.YtlbjmkljmhfjdaaGreatD5
import Derived.Test.YtlbjmkljmhfjdaaGreatA3
set_option linter.unusedSimpArgs false
set_option linter.unusedVariables false
namespace Go.Proofs.YtlbjmkljmhfjdaaGreat
open Go Go.Proofs Go.Shelf Go.RowKit Go.Lib Go.Maps
theorem wp_region_of_any {P : Program} {ops : Array Oper} {Q : Exit → Act → World → Prop} {id : Nat} {a : Act} {w : World} (hm : P.follows .mixedOrders = true)
    (h : wpAnyIn Fence.wide 0 P .any ops Q ops.size (Array.replicate ops.size false) a { w with drawn := w.drawn + 1 }) : (Code.region id ops true).wp P Q a w := wpIn_wide.1 (wpIn_region_any (n := 0) hm h)
theorem rows_take {radj : Nat → List Nat} {of : Nat → Nat} {P : List Nat} {i : Nat} (h : i < P.length) : rows radj of (P.take (i + 1)) = rows radj of (P.take i) ++ (radj (P.getD i 0)).map of := by
  unfold rows
  rw [take_oneN h, List.flatMap_append, List.map_append]
  simp
theorem decs_one (W : Nat → Int) (L : List Nat) (q : Nat) : decs W (L ++ [q]) = upd (decs W L) q (decs W L q - 1) := by
  funext x
  unfold decs upd
  rw [List.count_append]
  by_cases e : x = q
  · subst e; simp; omega
  · have : List.count x [q] = 0 := List.count_eq_zero.2 (by simpa using e)
    rw [if_neg e, this]
    simp
theorem decs_le (W : Nat → Int) (L : List Nat) (q : Nat) : W q - L.length ≤ decs W L q ∧ decs W L q ≤ W q := by
  unfold decs
  have := List.count_le_length (a := q) (l := L)
  omega
theorem rows_len {radj : Nat → List Nat} {of : Nat → Nat} {P : List Nat} (h : ∀ b, (radj b).length ≤ 64) : (rows radj of P).length ≤ 64 * P.length := by
  unfold rows
  rw [List.length_map, List.length_flatMap]
  induction P with
  | nil => simp
  | cons b P ih =>
    simp only [List.map_cons, List.sum_cons, List.length_cons]
    have := h b
    omega
theorem cell_grown {W W' : World} {lb o : Nat} {v : Value} (h : W.grownBy W' (some lb)) : W.grownBy (W'.setCell ⟨lb, o, none⟩ v) (some lb) :=
  ⟨h.os, h.tape, h.output, by simpa [World.setCell] using h.size, fun j hj hne => (heap_setCell_other W' ⟨lb, o, none⟩ j _ (fun e => hne (by rw [show j = lb from e]))).trans (h.block j hj hne)⟩
theorem drew_grown {W W' : World} {lb : Nat} (h : W.grownBy W' (some lb)) : W.grownBy W'.drew (some lb) := ⟨h.os, h.tape, h.output, h.size, h.block⟩
theorem Ln.gph {w W : World} {lb gb : Nat} {gv pv : Value} {vsT vsP : List Value} {G S : List (List Nat)} {of : Nat → Nat} {Wt : Nat → Int} (hR : RG G) (h : Ln w W lb gv pv gb vsT vsP G S of Wt) : Gph W (some ⟨gb, 0, none⟩) vsT ((trnG G).map nums) :=
  h.trows.gph (fun h0 => ⟨gb, 0, rfl, h.tg.lt, fun i hi => by rw [Nat.zero_add, h.tg.cell, List.getElem?_toArray]⟩) (by rw [trnG_len]; have := hR.most; omega) (fun i hi => Nat.le_trans (hR.turned.len i) (by omega))
set_option maxRecDepth 100000 in
set_option maxHeartbeats 8000000 in
theorem lput_any {G : List (List Nat)} (hR : RG G) {w W : World} {lb gb : Nat} {pv : Value} {vsT vsP : List Value} {of : Nat → Nat} {Wt : Nat → Int} (h : Ln w W lb (.slice (some ⟨gb, 0, none⟩) G.length G.length) pv gb vsT vsP G (sG G) of Wt) (hof : ∀ a, a < G.length → of a = oG G a)
    {nx : Nat} (hnx : nx < (sG G).length) (h0 : Wt nx = 0) (hf : ∀ j, j < nx → Wt j ≠ 0) (hW : ∀ q, q < 64 → -100000000 ≤ Wt q ∧ Wt q ≤ 100000) :
    Calls Tryz.prog 178 #[.pointer (some ⟨lb, 0, none⟩)] W fun e w' => e = .returned (vsP.getD nx undef) ∧ Ln w w' lb (.slice (some ⟨gb, 0, none⟩) G.length G.length) pv gb vsT vsP G (sG G) of (decs (upd Wt nx (-1)) (rows (adjG (trnG G)) (oG G) ((sG G).getD nx []))) ∧ W.grownBy w' (some lb) := by
  have PS := Lib.hid (part_facts hR (List.Perm.refl (sG G)))
  have hn := hR.most
  obtain ⟨Al, cl, rfl, _, _⟩ := own_slice h.own
  obtain ⟨k, ek⟩ : ∃ k, k = (sG G).length := ⟨_, rfl⟩
  have EK := Lib.hid ek
  have hk64 : k ≤ 64 := by rw [ek]; exact PS.out.1
  have hnk : nx < k := by omega
  rw [← ek] at h ⊢
  have HL := Lib.hid h
  have c1 := h.blk.cell 1
  simp only [List.getElem?_toArray, lineCells, List.getElem?_cons_zero, List.getElem?_cons_succ] at c1
  have fw := h.blk.frozen (66 + nx)
  have cw := h.blk.cell (66 + nx)
  rw [List.getElem?_toArray, lineCells_wait (by omega)] at cw
  have hli : Lies W (some ⟨lb, 66, none⟩) (ints ((List.range k).map Wt)) := fun _ => ⟨lb, 66, rfl, h.blk.lt, fun i hi => by
    rw [ints_length, List.length_map, List.length_range] at hi
    rw [h.blk.cell, List.getElem?_toArray, lineCells_wait (by omega)]
    rw [ints_at (by simpa using hi)]
    simp [List.getD, hi]⟩
  have hix : idxI ((List.range k).map Wt) 0 = nx := idxI_some (by simpa using hnk) (by simp [List.getD, hnk, h0]) (fun j hj => by simp [List.getD, show j < k by omega]; exact hf j hj)
  have IX := Lib.hid (c_index_any (some ⟨lb, 66, none⟩) 64 k ((List.range k).map Wt) 0 (by simp; omega) W.drew (show Lies W.drew (some ⟨lb, 66, none⟩) (ints ((List.range k).map Wt)) from hli) (by simp))
  rw [hix] at IX
  have HSET := Lib.hid ((h.set (k := nx) (x := -1) (by omega)).below (bdrew1 (Below.refl _ _) : Below (W.setCell ⟨lb, 66 + nx, none⟩ (.int .i64 (-1))).heap.size (W.setCell ⟨lb, 66 + nx, none⟩ (.int .i64 (-1))) (W.setCell ⟨lb, 66 + nx, none⟩ (.int .i64 (-1))).drew))
  have hR2 := Lib.hid hR
  have hk64i : (k : Int) ≤ 64 := by omega
  have hnk64 : (nx : Int) < 64 := by omega
  have hnki : (nx : Int) < k := by omega
  have HOF := Lib.hid hof
  have HW := Lib.hid hW
  clear h hof h0 hf hli hix hR hW ek
  go_enter Tryz.func178, Tryz.ntmps178
  go_wp2_with fail
  refine wp_region_of_any (by kernel_rfl) ?_
  refine wpAnyIn_puts (by kernel_rfl) (by kernel_rfl) 0 (fun _ => W.drew) (fun _ => 0) (fun j => match j with | 0 => .pointer (some ⟨lb, 0, none⟩) | 1 => .pointer (some ⟨lb, 0, none⟩) | 2 => .pointer (some ⟨lb, 66, none⟩) | 3 => .pointer (some ⟨lb, 0, none⟩) | 4 => .pointer (some ⟨lb, 0, none⟩) | 5 => .pointer (some ⟨lb, 1, none⟩) | 6 => .slice Al k cl | 7 => .int .i64 k | 8 => .slice (some ⟨lb, 66, none⟩) k 64 | 9 => .int .i64 nx | 10 => .int .i64 nx | _ => undef) rfl (by kernel_rfl) ?hop ?hend
  case hop =>
    intro j o hj p a hp e1 e2 e3 hrest hdep
    have hjl : j < 11 := (List.getElem?_eq_some_iff.1 hj).1
    have q0 : a.tmps[0]?.getD undef = .pointer (some ⟨lb, 0, none⟩) := hrest 0 (by kernel_rfl)
    have H1 := Lib.hid e1
    have H3 := Lib.hid e3
    have HD := Lib.hid hdep
    clear hrest e1 e2 e3 hdep
    rcases (show j = 0 ∨ j = 1 ∨ j = 2 ∨ j = 3 ∨ j = 4 ∨ j = 5 ∨ j = 6 ∨ j = 7 ∨ j = 8 ∨ j = 9 ∨ j = 10 by omega) with rfl | rfl | rfl | rfl | rfl | rfl | rfl | rfl | rfl | rfl | rfl
    all_goals (simp only [List.getElem?_cons_zero, List.getElem?_cons_succ, Option.some.injEq] at hj; subst hj)
    · obtain rfl : p = 0 := by omega
      refine Gives.value (v := .pointer (some ⟨lb, 0, none⟩)) (w := W.drew) ?_ ⟨rfl, rfl⟩
      go_simp
    · have d8 : a.tmps[8]?.getD undef = .pointer (some ⟨lb, 0, none⟩) := HD.out 0 8 rfl (by kernel_rfl)
      obtain rfl : p = 0 := by omega
      refine Gives.value (v := .pointer (some ⟨lb, 0, none⟩)) (w := W.drew) ?_ ⟨rfl, rfl⟩
      go_simp
    · have d9 : a.tmps[9]?.getD undef = .pointer (some ⟨lb, 0, none⟩) := HD.out 1 9 rfl (by kernel_rfl)
      obtain rfl : p = 0 := by omega
      refine Gives.value (v := .pointer (some ⟨lb, 66, none⟩)) (w := W.drew) ?_ ⟨rfl, rfl⟩
      go_simp
    · obtain rfl : p = 0 := by omega
      refine Gives.value (v := .pointer (some ⟨lb, 0, none⟩)) (w := W.drew) ?_ ⟨rfl, rfl⟩
      go_simp
    · have d11 : a.tmps[11]?.getD undef = .pointer (some ⟨lb, 0, none⟩) := HD.out 3 11 rfl (by kernel_rfl)
      obtain rfl : p = 0 := by omega
      refine Gives.value (v := .pointer (some ⟨lb, 0, none⟩)) (w := W.drew) ?_ ⟨rfl, rfl⟩
      go_simp
    · have d12 : a.tmps[12]?.getD undef = .pointer (some ⟨lb, 0, none⟩) := HD.out 4 12 rfl (by kernel_rfl)
      obtain rfl : p = 0 := by omega
      refine Gives.value (v := .pointer (some ⟨lb, 1, none⟩)) (w := W.drew) ?_ ⟨rfl, rfl⟩
      go_simp
    · have d13 : a.tmps[13]?.getD undef = .pointer (some ⟨lb, 1, none⟩) := HD.out 5 13 rfl (by kernel_rfl)
      obtain rfl : p = 0 := by omega
      refine Gives.value (v := .slice Al k cl) (w := W.drew) ?_ ⟨rfl, rfl⟩
      go_simp
    · have d14 : a.tmps[14]?.getD undef = .slice Al k cl := HD.out 6 14 rfl (by kernel_rfl)
      obtain rfl : p = 0 := by omega
      refine Gives.value (v := .int .i64 k) (w := W.drew) ?_ ⟨rfl, rfl⟩
      go_simp
    · have d10 : a.tmps[10]?.getD undef = .pointer (some ⟨lb, 66, none⟩) := HD.out 2 10 rfl (by kernel_rfl)
      have d15 : a.tmps[15]?.getD undef = .int .i64 k := HD.out 7 15 rfl (by kernel_rfl)
      obtain rfl : p = 0 := by omega
      refine Gives.value (v := .slice (some ⟨lb, 66, none⟩) k 64) (w := W.drew) ?_ ⟨rfl, rfl⟩
      go_simp
    · have d16 : a.tmps[16]?.getD undef = .slice (some ⟨lb, 66, none⟩) k 64 := HD.out 8 16 rfl (by kernel_rfl)
      obtain rfl : p = 0 := by omega
      refine Gives.enter (f := 181) (args := #[.slice (some ⟨lb, 66, none⟩) k 64, .int .i64 0]) (w := W.drew) ?_ (IX.out.mono ?_)
      · go_simp
      · rintro e w' ⟨rfl, rfl⟩; exact ⟨_, rfl, rfl, rfl⟩
    · have d17 : a.tmps[17]?.getD undef = .int .i64 nx := HD.out 9 17 rfl (by kernel_rfl)
      obtain rfl : p = 0 := by omega
      refine Gives.value (v := .int .i64 nx) (w := W.drew) ?_ ⟨rfl, rfl⟩
      go_simp
  case hend =>
  simp only [putIdx]
  go_simp
  go_upto_region 3 with fail
  obtain ⟨W1, eW1⟩ : ∃ u, u = (W.setCell ⟨lb, 66 + nx, none⟩ (.int .i64 (-1))).drew := ⟨_, rfl⟩
  have GB1 : RowKit.Hid (W.grownBy W1 (some lb)) := Lib.hid (by rw [eW1]; exact drew_grown (cell_grown (World.grownBy.refl _ _)))
  rw [← eW1] at HSET ⊢
  clear eW1 c1 fw cw IX
  have h1 := HSET.out
  have c1 := h1.blk.cell 1
  simp only [List.getElem?_toArray, lineCells, List.getElem?_cons_zero, List.getElem?_cons_succ] at c1
  have hvl := h1.rows.len
  rw [← EK.out] at hvl
  have hown := h1.own
  rw [← EK.out] at hown
  obtain ⟨bl, ol, rfl, _, hcl⟩ := own_lies1 hown (by omega)
  obtain ⟨B1, d1, eB, _, _⟩ := own_slice (h1.rows.row nx hnx)
  have cR := hcl nx (by omega)
  rw [show vsP[nx]? = some (vsP.getD nx undef) by simp [List.getD, List.getElem?_eq_getElem (show nx < vsP.length by omega)], eB] at cR
  have EB := Lib.hid eB
  obtain ⟨P, eP⟩ : ∃ P, P = (sG G).getD nx [] := ⟨_, rfl⟩
  have EP := Lib.hid eP
  rw [← eP] at cR EB
  obtain ⟨m, em⟩ : ∃ m, m = P.length := ⟨_, rfl⟩
  have EM := Lib.hid em
  have hm64 : m ≤ 64 := by rw [em, eP]; exact PS.out.2.1 nx hnx
  rw [← em] at cR EB
  obtain ⟨n, en⟩ : ∃ n, n = G.length := ⟨_, rfl⟩
  have EN := Lib.hid en
  have PLT := Lib.hid (fun a (ha : a ∈ P) => show a < n from by
    rw [en]
    exact (ofP_at (rG_is G G.length) hnx (by rw [eP] at ha; exact ha)).1)
  have RTK := Lib.hid (fun i (hi : i < m) => rows_take (radj := adjG (trnG G)) (of := oG G) (P := P) (i := i) (by omega))
  have RTA := Lib.hid (show P.take m = P from List.take_of_length_le (by omega))
  have OLT := Lib.hid (fun a (ha : a < n) => show oG G a < 64 from by
    have h1 := ofP_lt (rG_is G G.length) (a := a) (by rw [← en]; exact ha)
    have h2 : oG G a < (sG G).length := h1
    have := PS.out.1; omega)
  have RL := Lib.hid (fun i => rows_len (radj := adjG (trnG G)) (of := oG G) (P := P.take i) (fun b => hR2.out.turned.len b))
  have TL := Lib.hid (fun a x (hx : x ∈ adjG (trnG G) a) => show x < n from by rw [en, ← trnG_len]; exact hR2.out.turned.lt a x hx)
  rw [← en] at HSET HL HOF hn
  clear h1 hvl hown hcl eB eP em en
  go_wp2_with fail
  go_loopw [31, 5, 7, 40, 41, 42] (fun i _ _ _ _ _ wr => ∃ q : Nat, q ≤ m ∧ i = .int .i64 q ∧ Ln w wr lb (.slice (some ⟨gb, 0, none⟩) n n) (.slice (some ⟨bl, ol, none⟩) k cl) gb vsT vsP G (sG G) of (decs (upd Wt nx (-1)) (rows (adjG (trnG G)) (oG G) (P.take q))) ∧ W.grownBy wr (some lb)) (fun i _ _ _ _ _ _ => m - (RowKit.intOf i).toNat)
  case atStart => exact ⟨0, by omega, rfl, by
    have : decs (upd Wt nx (-1)) (rows (adjG (trnG G)) (oG G) (P.take 0)) = upd Wt nx (-1) := by simp [rows, decs_nil]
    rw [this]; exact HSET.out, GB1.out⟩
  case round =>
    obtain ⟨q, hq, rfl, hln, hgb⟩ := hrel
    have HLN := Lib.hid hln
    have HGB := Lib.hid hgb
    clear hgb
    by_cases hlt : q < m
    · have hlt2 : (q : Int) < m := by omega
      have hrow := hln.rows.row nx hnx
      rw [EB.out, ← EP.out, ← EM.out] at hrow
      obtain ⟨b2, o2, rfl, hb2, c3⟩ := lies_cell (own_lies1 hrow) (k := q) (by rw [nums_len, ← EM.out]; exact hlt)
      rw [nums_at] at c3
      have hbn := PLT.out (P.getD q 0) (by have hq2 : q < P.length := by have := EM.out; omega
                                           simp [List.getD, List.getElem?_eq_getElem hq2])
      have RTQ := Lib.hid (RTK.out q hlt)
      generalize P.getD q 0 = b at c3 hbn RTQ
      have hgr := Ln.gph hR2.out hln
      have cg0 := hln.blk.cell 0
      simp only [List.getElem?_toArray, lineCells, List.getElem?_cons_zero] at cg0
      have hbl : b < (trnG G).length := by rw [trnG_len, ← EN.out]; exact hbn
      have TO := Lib.hid (c_to_any (some ⟨gb, 0, none⟩) n vsT ((trnG G).map nums) b (by rw [List.length_map]; exact hbl) _ hgr)
      have hbrow := hln.trows.row b hbl
      obtain ⟨B3, d3, eB3, _, _⟩ := own_slice hbrow
      rw [List.length_map, trnG_len, ← EN.out, eB3] at TO
      obtain ⟨l, el⟩ : ∃ l, l = ((trnG G).getD b []).length := ⟨_, rfl⟩
      have EL := Lib.hid (show l = (adjG (trnG G) b).length from el)
      have EB3 := Lib.hid eB3
      rw [← el] at TO
      have hl64 : l ≤ 64 := by rw [el]; exact hR2.out.turned.len b
      have TKB := Lib.hid (fun j (hj : j < l) => take_oneN (a := adjG (trnG G) b) (k := j) (by have := EL.out; omega))
      have TAB := Lib.hid (show (adjG (trnG G) b).take l = adjG (trnG G) b from List.take_of_length_le (by have := EL.out; omega))
      have MB := Lib.hid (fun j (hj : j < l) => TL.out b ((adjG (trnG G) b).getD j 0) (by
        have hj2 : j < (adjG (trnG G) b).length := by have := EL.out; omega
        generalize adjG (trnG G) b = X at hj2
        simp [List.getD, List.getElem?_eq_getElem hj2]))
      clear hln hrow hgr hbrow eB3 el
      go_wp2_with (go_at_call 223; (with_reducible refine TO.out.mono ?_); rintro e w3 ⟨rfl, rfl⟩)
      go_loopw [42, 7] (fun i _ wr => ∃ j : Nat, j ≤ l ∧ i = .int .i64 j ∧ Ln w wr lb (.slice (some ⟨gb, 0, none⟩) n n) (.slice (some ⟨bl, ol, none⟩) k cl) gb vsT vsP G (sG G) of (decs (upd Wt nx (-1)) (rows (adjG (trnG G)) (oG G) (P.take q) ++ ((adjG (trnG G) b).take j).map (oG G))) ∧ W.grownBy wr (some lb)) (fun i _ _ => l - (RowKit.intOf i).toNat)
      case atStart => exact ⟨0, by omega, rfl, by
        have : rows (adjG (trnG G)) (oG G) (P.take q) ++ ((adjG (trnG G) b).take 0).map (oG G) = rows (adjG (trnG G)) (oG G) (P.take q) := by simp
        rw [this]; exact HLN.out, HGB.out⟩
      case round =>
        obtain ⟨j, hj, rfl, hln, hgb⟩ := hrel
        have HLN2 := Lib.hid hln
        have HGB2 := Lib.hid hgb
        clear hgb
        by_cases hjl : j < l
        · have hjl2 : (j : Int) < l := by omega
          have hbrow := hln.trows.row b hbl
          rw [EB3.out] at hbrow
          obtain ⟨b4, o4, rfl, hb4, c4⟩ := lies_cell (own_lies1 (by
            have e : ((trnG G).getD b []).length = l := EL.out.symm
            rw [e] at hbrow; exact hbrow)) (k := j) (by rw [nums_len]; show j < (adjG (trnG G) b).length; have := EL.out; omega)
          rw [nums_at] at c4
          have hyn := MB.out j hjl
          have TKJ := Lib.hid (TKB.out j hjl)
          change _ = some (Value.int .i64 ((adjG (trnG G) b).getD j 0 : Nat)) at c4
          obtain ⟨y, ey⟩ : ∃ y, y = (adjG (trnG G) b).getD j 0 := ⟨_, rfl⟩
          rw [← ey] at c4 hyn TKJ
          obtain ⟨oy, eoy⟩ : ∃ u, u = oG G y := ⟨_, rfl⟩
          have hoy : oy < 64 := by rw [eoy]; exact OLT.out y hyn
          obtain ⟨Lw, eLw⟩ : ∃ u, u = rows (adjG (trnG G)) (oG G) (P.take q) ++ ((adjG (trnG G) b).take j).map (oG G) := ⟨_, rfl⟩
          rw [← eLw] at hln HLN2
          have hLw : Lw.length ≤ 64 * 64 + 64 := by
            rw [eLw, List.length_append, List.length_map]
            have h1 := RL.out q
            have h2 := List.length_take_le' q P
            have h3 := List.length_take_le' j (adjG (trnG G) b)
            have h4 := EM.out
            have h5 := EL.out
            omega
          have hdl := decs_le (upd Wt nx (-1)) Lw oy
          have hup : -100000000 ≤ upd Wt nx (-1) oy ∧ upd Wt nx (-1) oy ≤ 100000 := by
            unfold upd
            split
            · omega
            · exact HW.out oy hoy
          have NXT := Lib.hid (show decs (upd Wt nx (-1)) (rows (adjG (trnG G)) (oG G) (P.take q) ++ ((adjG (trnG G) b).take (j + 1)).map (oG G)) = upd (decs (upd Wt nx (-1)) Lw) oy (decs (upd Wt nx (-1)) Lw oy - 1) from by
            rw [TKJ.out, List.map_append, ← List.append_assoc, ← eLw, List.map_singleton, ← eoy, decs_one])
          have cy := hln.blk.cell (2 + y)
          have cwy := hln.blk.cell (66 + oy)
          have fwy := hln.blk.frozen (66 + oy)
          rw [List.getElem?_toArray, lineCells_of (by omega), HOF.out y hyn, ← eoy] at cy
          rw [List.getElem?_toArray, lineCells_wait hoy] at cwy
          obtain ⟨wy, ewy⟩ : ∃ u, u = decs (upd Wt nx (-1)) Lw oy := ⟨_, rfl⟩
          rw [← ewy] at cwy hdl NXT
          have hwr : IntKind.i64.wrap (wy - 1) = wy - 1 := by simp [IntKind.wrap, IntKind.bits, IntKind.signed]; omega
          have hy64 : (y : Int) < 64 := by omega
          have hoy64 : (oy : Int) < 64 := by omega
          have SETL := Lib.hid (fun (W' : World) (h : Ln w W' lb (.slice (some ⟨gb, 0, none⟩) n n) (.slice (some ⟨bl, ol, none⟩) k cl) gb vsT vsP G (sG G) of (decs (upd Wt nx (-1)) Lw)) => h.set (k := oy) (x := wy - 1) hoy)
          clear hln hbrow ey eoy eLw ewy hLw hdl hup
          go_wp2_with fail
          refine wp_region_of_any (by kernel_rfl) ?_
          obtain ⟨Ws, w0e, w1e⟩ : ∃ Ws : Nat → World, Ws 0 = wr.drew ∧ Ws 1 = wr.drew.setCell ⟨lb, 66 + oy, none⟩ (.int .i64 (wy - 1)) := ⟨fun p => match p with | 0 => wr.drew | _ => wr.drew.setCell ⟨lb, 66 + oy, none⟩ (.int .i64 (wy - 1)), rfl, rfl⟩
          refine wpAnyIn_puts (by kernel_rfl) (by kernel_rfl) 1 Ws (fun _ => 15) (fun j => match j with | 0 => .pointer (some ⟨lb, 0, none⟩) | 1 => .pointer (some ⟨lb, 0, none⟩) | 2 => .int .i64 y | 3 => .pointer (some ⟨lb, 0, none⟩) | 4 => .pointer (some ⟨lb, 2, none⟩) | 5 => .pointer (some ⟨lb, 2 + y, none⟩) | 6 => .int .i64 oy | 7 => .pointer (some ⟨lb, 0, none⟩) | 8 => .pointer (some ⟨lb, 66, none⟩) | 9 => .pointer (some ⟨lb, 66 + oy, none⟩) | 10 => .int .i64 wy | 11 => .int .i64 (wy - 1) | 12 => .pointer (some ⟨lb, 0, none⟩) | 13 => .pointer (some ⟨lb, 66, none⟩) | 14 => .pointer (some ⟨lb, 66 + oy, none⟩) | 15 => undef | _ => undef) w0e (by kernel_rfl) ?hop ?hend
          case hop =>
            intro j o hj p a hp e1 e2 e3 hrest hdep
            have hjl : j < 16 := (List.getElem?_eq_some_iff.1 hj).1
            have q0 : a.tmps[0]?.getD undef = .pointer (some ⟨lb, 0, none⟩) := hrest 0 (by kernel_rfl)
            have q7 : a.tmps[7]?.getD undef = .int .i64 y := hrest 7 (by kernel_rfl)
            have H1 := Lib.hid e1
            have H3 := Lib.hid e3
            have HD := Lib.hid hdep
            clear hrest e1 e2 e3 hdep
            rcases (show j = 0 ∨ j = 1 ∨ j = 2 ∨ j = 3 ∨ j = 4 ∨ j = 5 ∨ j = 6 ∨ j = 7 ∨ j = 8 ∨ j = 9 ∨ j = 10 ∨ j = 11 ∨ j = 12 ∨ j = 13 ∨ j = 14 ∨ j = 15 by omega) with rfl | rfl | rfl | rfl | rfl | rfl | rfl | rfl | rfl | rfl | rfl | rfl | rfl | rfl | rfl | rfl
            all_goals (simp only [List.getElem?_cons_zero, List.getElem?_cons_succ, Option.some.injEq] at hj; subst hj)
            · obtain rfl : p = 0 := by have := H3.out 0 (by omega) (by kernel_rfl); omega
              refine Gives.value (v := .pointer (some ⟨lb, 0, none⟩)) (w := Ws 0) ?_ ⟨rfl, rfl⟩
              rw [w0e]
              go_simp
            · obtain rfl : p = 0 := by have := H3.out 0 (by omega) (by kernel_rfl); omega
              refine Gives.value (v := .pointer (some ⟨lb, 0, none⟩)) (w := Ws 0) ?_ ⟨rfl, rfl⟩
              rw [w0e]
              go_simp
            · obtain rfl : p = 0 := by have := H3.out 0 (by omega) (by kernel_rfl); omega
              refine Gives.value (v := .int .i64 y) (w := Ws 0) ?_ ⟨rfl, rfl⟩
              rw [w0e]
              go_simp
            · have d47 : a.tmps[47]?.getD undef = .pointer (some ⟨lb, 0, none⟩) := HD.out 1 47 rfl (by kernel_rfl)
              obtain rfl : p = 0 := by have := H3.out 0 (by omega) (by kernel_rfl); omega
              refine Gives.value (v := .pointer (some ⟨lb, 0, none⟩)) (w := Ws 0) ?_ ⟨rfl, rfl⟩
              rw [w0e]
              go_simp
            · have d49 : a.tmps[49]?.getD undef = .pointer (some ⟨lb, 0, none⟩) := HD.out 3 49 rfl (by kernel_rfl)
              obtain rfl : p = 0 := by have := H3.out 0 (by omega) (by kernel_rfl); omega
              refine Gives.value (v := .pointer (some ⟨lb, 2, none⟩)) (w := Ws 0) ?_ ⟨rfl, rfl⟩
              rw [w0e]
              go_simp
            · have d50 : a.tmps[50]?.getD undef = .pointer (some ⟨lb, 2, none⟩) := HD.out 4 50 rfl (by kernel_rfl)
              have d48 : a.tmps[48]?.getD undef = .int .i64 y := HD.out 2 48 rfl (by kernel_rfl)
              obtain rfl : p = 0 := by have := H3.out 0 (by omega) (by kernel_rfl); omega
              refine Gives.value (v := .pointer (some ⟨lb, 2 + y, none⟩)) (w := Ws 0) ?_ ⟨rfl, rfl⟩
              rw [w0e]
              go_simp
            · have d51 : a.tmps[51]?.getD undef = .pointer (some ⟨lb, 2 + y, none⟩) := HD.out 5 51 rfl (by kernel_rfl)
              obtain rfl : p = 0 := by have := H3.out 0 (by omega) (by kernel_rfl); omega
              refine Gives.value (v := .int .i64 oy) (w := Ws 0) ?_ ⟨rfl, rfl⟩
              rw [w0e]
              go_simp
            · have d46 : a.tmps[46]?.getD undef = .pointer (some ⟨lb, 0, none⟩) := HD.out 0 46 rfl (by kernel_rfl)
              obtain rfl : p = 0 := by have := H3.out 0 (by omega) (by kernel_rfl); omega
              refine Gives.value (v := .pointer (some ⟨lb, 0, none⟩)) (w := Ws 0) ?_ ⟨rfl, rfl⟩
              rw [w0e]
              go_simp
            · have d53 : a.tmps[53]?.getD undef = .pointer (some ⟨lb, 0, none⟩) := HD.out 7 53 rfl (by kernel_rfl)
              obtain rfl : p = 0 := by have := H3.out 0 (by omega) (by kernel_rfl); omega
              refine Gives.value (v := .pointer (some ⟨lb, 66, none⟩)) (w := Ws 0) ?_ ⟨rfl, rfl⟩
              rw [w0e]
              go_simp
            · have d54 : a.tmps[54]?.getD undef = .pointer (some ⟨lb, 66, none⟩) := HD.out 8 54 rfl (by kernel_rfl)
              have d52 : a.tmps[52]?.getD undef = .int .i64 oy := HD.out 6 52 rfl (by kernel_rfl)
              obtain rfl : p = 0 := by have := H3.out 0 (by omega) (by kernel_rfl); omega
              refine Gives.value (v := .pointer (some ⟨lb, 66 + oy, none⟩)) (w := Ws 0) ?_ ⟨rfl, rfl⟩
              rw [w0e]
              go_simp
            · have d55 : a.tmps[55]?.getD undef = .pointer (some ⟨lb, 66 + oy, none⟩) := HD.out 9 55 rfl (by kernel_rfl)
              obtain rfl : p = 0 := by have := H3.out 0 (by omega) (by kernel_rfl); omega
              refine Gives.value (v := .int .i64 wy) (w := Ws 0) ?_ ⟨rfl, rfl⟩
              rw [w0e]
              go_simp
            · have d56 : a.tmps[56]?.getD undef = .int .i64 wy := HD.out 10 56 rfl (by kernel_rfl)
              obtain rfl : p = 0 := by have := H3.out 0 (by omega) (by kernel_rfl); omega
              refine Gives.value (v := .int .i64 (wy - 1)) (w := Ws 0) ?_ ⟨rfl, rfl⟩
              rw [w0e]
              go_simp
            · have d46 : a.tmps[46]?.getD undef = .pointer (some ⟨lb, 0, none⟩) := HD.out 0 46 rfl (by kernel_rfl)
              obtain rfl : p = 0 := by have := H3.out 0 (by omega) (by kernel_rfl); omega
              refine Gives.value (v := .pointer (some ⟨lb, 0, none⟩)) (w := Ws 0) ?_ ⟨rfl, rfl⟩
              rw [w0e]
              go_simp
            · have d58 : a.tmps[58]?.getD undef = .pointer (some ⟨lb, 0, none⟩) := HD.out 12 58 rfl (by kernel_rfl)
              obtain rfl : p = 0 := by have := H3.out 0 (by omega) (by kernel_rfl); omega
              refine Gives.value (v := .pointer (some ⟨lb, 66, none⟩)) (w := Ws 0) ?_ ⟨rfl, rfl⟩
              rw [w0e]
              go_simp
            · have d59 : a.tmps[59]?.getD undef = .pointer (some ⟨lb, 66, none⟩) := HD.out 13 59 rfl (by kernel_rfl)
              have d52 : a.tmps[52]?.getD undef = .int .i64 oy := HD.out 6 52 rfl (by kernel_rfl)
              obtain rfl : p = 0 := by have := H3.out 0 (by omega) (by kernel_rfl); omega
              refine Gives.value (v := .pointer (some ⟨lb, 66 + oy, none⟩)) (w := Ws 0) ?_ ⟨rfl, rfl⟩
              rw [w0e]
              go_simp
            · have d60 : a.tmps[60]?.getD undef = .pointer (some ⟨lb, 66 + oy, none⟩) := HD.out 14 60 rfl (by kernel_rfl)
              have d57 : a.tmps[57]?.getD undef = .int .i64 (wy - 1) := HD.out 11 57 rfl (by kernel_rfl)
              obtain rfl : p = 0 := H1.out 0 (by omega) rfl
              refine Gives.skip (w := Ws 1) ?_ ⟨rfl, rfl⟩
              rw [w0e, w1e]
              go_simp
          case hend =>
          rw [w1e]
          simp only [putIdx]
          go_simp
          go_wp2_with fail
          go_roundw
          case rel =>
            refine ⟨j + 1, by omega, by go_num, ?_, cell_grown (drew_grown HGB2.out)⟩
            rw [NXT.out]
            exact SETL.out _ (HLN2.out.below (bdrew1 (Below.refl _ _)))
          case measure => simp [RowKit.intOf]; omega
        · obtain rfl : j = l := by omega
          have hjl2 : ¬ (j : Int) < j := by omega
          clear hln
          go_wp2_with fail
          go_roundw
          case rel =>
            refine ⟨q + 1, by omega, by go_num, ?_, HGB2.out⟩
            have := HLN2.out
            rw [TAB.out] at this
            rw [RTQ.out]; exact this
          case measure => simp [RowKit.intOf]; omega
    · obtain rfl : q = m := by omega
      have hlt2 : ¬ (q : Int) < q := by omega
      have c1 := hln.blk.cell 1
      simp only [List.getElem?_toArray, lineCells, List.getElem?_cons_zero, List.getElem?_cons_succ] at c1
      have hown := hln.own
      rw [← EK.out] at hown
      have hvl := hln.rows.len
      rw [← EK.out] at hvl
      obtain ⟨bl', ol', e', _, hcl⟩ := own_lies1 hown (by omega)
      cases e'
      have cR := hcl nx (by omega)
      rw [show vsP[nx]? = some (vsP.getD nx undef) by simp [List.getD, List.getElem?_eq_getElem (show nx < vsP.length by omega)], EB.out] at cR
      clear hln hown hvl hcl
      go_wp2_with fail
      go_ret
      refine ⟨congrArg Ending.returned EB.out.symm, ?_, HGB.out⟩
      have := HLN.out
      rw [RTA.out, EP.out, EN.out] at this
      simp only [List.getD, List.getElem?_eq_getElem hnx, Option.getD_some] at this ⊢
      exact this
end Go.Proofs.YtlbjmkljmhfjdaaGreat
namespace Go.Proofs.YtlbjmkljmhfjdaaGreat
open Go Go.RowKit
noncomputable def rdG (G : List (List Nat)) : (Nat → Bool) → Nat → Bool := rdy (oG G) (lnkG G)
/-- The parts in their order. -/
noncomputable def pG (G : List (List Nat)) : List (List Nat) := partsOf (adjG G) (rG G) G.length
theorem pG_eq (G : List (List Nat)) : pG G = (ordL (rdG G) (sG G).length (sG G).length).map fun p => (sG G).getD p [] := rfl
theorem RG.goes {G : List (List Nat)} (h : RG G) : Goes (rdG G) (sG G).length := goes_of h.inR (rG_is G _)
theorem pG_len (G : List (List Nat)) : (pG G).length = (sG G).length := by rw [pG_eq, List.length_map, ordL_length]
theorem cnt_start {G : List (List Nat)} : Cnt (oG G) (lnkG G) (sG G).length (ptO (rdG G) (sG G).length 0) (wk (oG G) (lnkG G) (lnkG G).length) := fun q hq => by
  refine ⟨fun _ => ?_, fun h => ?_⟩
  · rw [wk_all]
    rfl
  · simp [ptO, ordL] at h
/-- The next one is the first without any that it waits for. -/
theorem cnt_next {G : List (List Nat)} (hR : RG G) {t : Nat} (ht : t < (sG G).length) {W : Nat → Int} (h : Cnt (oG G) (lnkG G) (sG G).length (ptO (rdG G) (sG G).length t) W) :
    nxt (rdG G) (sG G).length (ptO (rdG G) (sG G).length t) < (sG G).length ∧ W (nxt (rdG G) (sG G).length (ptO (rdG G) (sG G).length t)) = 0 ∧ ∀ j, j < nxt (rdG G) (sG G).length (ptO (rdG G) (sG G).length t) → W j ≠ 0 := by
  obtain ⟨a1, a2, a3, a4⟩ := ordL_next hR.goes ht
  refine ⟨a1, ?_, fun j hj h0 => ?_⟩
  · rw [(h _ a1).1 a2, wt_rdy.2 a3]; rfl
  · obtain ⟨b1, b2⟩ := h j (by omega)
    rcases a4 j hj with h1 | h1
    · have := b2 h1; omega
    · cases e : ptO (rdG G) (sG G).length t j with
      | true => have := b2 e; omega
      | false =>
        have h2 := b1 e
        rw [h0] at h2
        have h3 : wt (oG G) (lnkG G) (ptO (rdG G) (sG G).length t) j = 0 := by omega
        have h4 : rdG G (ptO (rdG G) (sG G).length t) j = true := wt_rdy.1 h3
        rw [h4] at h1; cases h1
theorem cnt_put {G : List (List Nat)} (hR : RG G) {t : Nat} (ht : t < (sG G).length) {W : Nat → Int} (h : Cnt (oG G) (lnkG G) (sG G).length (ptO (rdG G) (sG G).length t) W) :
    Cnt (oG G) (lnkG G) (sG G).length (ptO (rdG G) (sG G).length (t + 1)) (decs (upd W (nxt (rdG G) (sG G).length (ptO (rdG G) (sG G).length t)) (-1)) (rows (adjG (trnG G)) (oG G) ((sG G).getD (nxt (rdG G) (sG G).length (ptO (rdG G) (sG G).length t)) []))) := by
  obtain ⟨a1, a2, _⟩ := cnt_next hR ht h
  rw [ptO_next]
  exact Cnt.step hR.inR (rG_is G _) hR.trn hR.nodup hR.turned.nodup a1 h a2
end Go.Proofs.YtlbjmkljmhfjdaaGreat
namespace Go.Proofs.YtlbjmkljmhfjdaaGreat
open Go Go.Proofs Go.Shelf Go.RowKit Go.Lib Go.Maps
theorem ordL_next_eq (rd : (Nat → Bool) → Nat → Bool) (k t : Nat) : ordL rd k (t + 1) = ordL rd k t ++ [nxt rd k (ptO rd k t)] := rfl
set_option maxRecDepth 100000 in
set_option maxHeartbeats 4000000 in
theorem order_any {G : List (List Nat)} (hR : RG G) {w W : World} {lb gb : Nat} {pv : Value} {vsT vsP : List Value} {of : Nat → Nat} (h : Ln w W lb (.slice (some ⟨gb, 0, none⟩) G.length G.length) pv gb vsT vsP G (sG G) of (wk (oG G) (lnkG G) (lnkG G).length)) (hof : ∀ a, a < G.length → of a = oG G a) :
    Calls Tryz.prog 116 #[.pointer (some ⟨lb, 0, none⟩)] W fun e w' => ∃ v vs', e = .returned v ∧ w'.ownsRow w.heap.size 38 1 v (pG G).length vs' ∧ RowsO w.heap.size w' vs' (pG G) ∧ Below w.heap.size w w' := by
  obtain ⟨i0, hi, hz0, hz1, hz2⟩ := info_parts Tryz.info_sH
  have PS := Lib.hid (part_facts hR (List.Perm.refl (sG G)))
  obtain ⟨Al, cl, rfl, _, _⟩ := own_slice h.own
  obtain ⟨k, ek⟩ : ∃ k, k = (sG G).length := ⟨_, rfl⟩
  have EK := Lib.hid ek
  have hk64 : k ≤ 64 := by rw [ek]; exact PS.out.1
  have HP := Lib.hid (fun W' Wt nx (h : Ln w W' lb (.slice (some ⟨gb, 0, none⟩) G.length G.length) (.slice Al k cl) gb vsT vsP G (sG G) of Wt) hnx h0 hf hW => lput_any hR h hof (nx := nx) hnx h0 hf hW)
  have CS := Lib.hid (cnt_start (G := G))
  have CN := Lib.hid (fun t (ht : t < k) W h => cnt_next hR (t := t) (W := W) (by rw [← ek]; exact ht) h)
  have CP := Lib.hid (fun t (ht : t < k) W h => cnt_put hR (t := t) (W := W) (by rw [← ek]; exact ht) h)
  have WB := Lib.hid (fun q => wk_le (oG G) (lnkG G) (lnkG G).length q (lnkG_len hR))
  have RL := Lib.hid (fun i => rows_len (radj := adjG (trnG G)) (of := oG G) (P := (sG G).getD i []) (fun b => hR.turned.len b))
  have OF := Lib.hid (ordL_facts hR.goes)
  rw [← ek] at h OF
  have HL := Lib.hid h
  have c1 := h.blk.cell 1
  simp only [List.getElem?_toArray, lineCells, List.getElem?_cons_zero, List.getElem?_cons_succ] at c1
  clear h hof hR ek
  go_enter Tryz.func116, Tryz.ntmps116
  go_wp2_with fail
  go_loopw [9, 3] (fun i rx wr => ∃ (j : Nat) (v : Value) (Wt : Nat → Int), j ≤ k ∧ i = .int .i64 j ∧ rx = v ∧ Ln w wr lb (.slice (some ⟨gb, 0, none⟩) G.length G.length) (.slice Al k cl) gb vsT vsP G (sG G) of Wt ∧ Cnt (oG G) (lnkG G) (sG G).length (ptO (rdG G) (sG G).length j) Wt ∧ (∀ q, q < 64 → -(5000 * (j : Int)) ≤ Wt q ∧ Wt q ≤ 4096) ∧ wr.ownsRow W.heap.size 38 1 v j ((ordL (rdG G) (sG G).length j).map fun p => vsP.getD p undef) ∧ (∀ q, q < W.heap.size → q ≠ lb → wr.heap[q]? = W.heap[q]?) ∧ W.heap.size ≤ wr.heap.size) (fun i _ _ => k - (RowKit.intOf i).toNat)
  case atStart => exact ⟨0, _, _, by omega, rfl, rfl, HL.out, CS.out, fun q _ => by have := WB.out q; omega, World.ownsRow_nil _ _ _ _, fun _ _ _ => rfl, Nat.le_refl _⟩
  case round =>
    obtain ⟨j, v, Wt, hj, rfl, rfl, hln, hcn, hbd, hown, hkeep, hsz⟩ := hrel
    have HLN := Lib.hid hln
    have HCN := Lib.hid hcn
    have HBD := Lib.hid hbd
    have HOW := Lib.hid hown
    have HKP := Lib.hid hkeep
    by_cases hlt : j < k
    · have hlt2 : (j : Int) < k := by omega
      have CNJ := Lib.hid (CN.out j hlt Wt hcn)
      have CPJ := Lib.hid (CP.out j hlt Wt hcn)
      have ONX := Lib.hid (ordL_next_eq (rdG G) (sG G).length j)
      obtain ⟨nx, enx⟩ : ∃ nx, nx = nxt (rdG G) (sG G).length (ptO (rdG G) (sG G).length j) := ⟨_, rfl⟩
      rw [← enx] at CNJ CPJ ONX
      have P0 := Lib.hid (HP.out _ Wt nx hln CNJ.out.1 CNJ.out.2.1 CNJ.out.2.2 (fun q hq => by have := hbd q hq; omega))
      obtain ⟨Av, cv, rfl, _, _⟩ := own_slice hown
      obtain ⟨Bx, dx, eB, _, _⟩ := own_slice (hln.rows.row nx CNJ.out.1)
      have EB := Lib.hid eB
      rw [eB] at P0
      obtain ⟨m, em⟩ : ∃ m, m = ((sG G).getD nx []).length := ⟨_, rfl⟩
      have EM := Lib.hid em
      rw [← em] at P0 EB
      clear hln hcn hbd hown hkeep enx eB em
      go_wp2_with (first | (go_at_call 178; (with_reducible refine P0.out.mono ?_); rintro e w3 ⟨rfl, hl3, hg3⟩; have L3 := Lib.hid hl3; have G3 := Lib.hid hg3; have O3 := Lib.hid (show w3.ownsRow W.heap.size 38 1 (.slice Av j cv) j ((ordL (rdG G) (sG G).length j).map fun p => vsP.getD p undef) from own_kept HOW.out (fun q hq => hg3.block q (HOW.out.lt q hq).2 (fun e => own_ne HOW.out HLN.out.blk (by decide) (by rw [hq]; exact e)))); clear hl3 hg3) | (at_builtin; refine wpList_append_onto _ rfl _ _ 31 rfl W.heap.size 38 i0 (.slice none 0 0) 1 24 Tryz.underlying31 hi hz0 hz1 hz2 rfl (by decide) _ _ _ rfl (own_below O3.out (B1 w3 _)) (some ⟨w3.heap.size, 0, none⟩) 1 1 [.slice Bx m dx] rfl rfl (fun ad had => by cases had; exact cell_one_new _ _ _) (fun h => by cases h) (by simp [Value.oneCell']) (by unfold maxLen; omega) (by omega) (by have h1 := G3.out.size; simp; omega) ?_; intro v9 w9 hown9 hgrow9 hfr9; have O9 := Lib.hid hown9; have G9 := Lib.hid (show World.grownBy _ w9 (Value.slice Av j cv).ownBlock from hgrow9); clear hown9 hgrow9 hfr9))
      go_roundw
      case rel =>
        have hs39 : w3.heap.size ≤ w9.heap.size := by have := G9.out.size; simp at this; omega
        have hold : ∀ q, q < W.heap.size → w9.heap[q]? = w3.heap[q]? := fun q hq => (G9.out.block q (by simp; have := G3.out.size; omega) (fun e => by have := (HOW.out.lt q e.symm).1; omega)).trans (Below.heap_alloc w3 _ q (by have := G3.out.size; omega))
        have hlbW : lb < W.heap.size := HL.out.blk.lt
        have L9 : Ln w w9 lb (.slice (some ⟨gb, 0, none⟩) G.length G.length) (.slice Al k cl) gb vsT vsP G (sG G) of (decs (upd Wt nx (-1)) (rows (adjG (trnG G)) (oG G) ((sG G).getD nx []))) := by
          refine HL.out.turn ((hold lb hlbW).trans L3.out.blk) ?_
          have l3 := L3.out.low
          have l0 := HL.out.low
          refine ⟨?_, ?_, ?_, by have := G3.out.size; omega, fun q hq hne => ?_⟩
          · exact G9.out.os.trans (l3.os.trans l0.os.symm)
          · exact G9.out.tape.trans (l3.tape.trans l0.tape.symm)
          · exact G9.out.output.trans (l3.output.trans l0.output.symm)
          · exact (hold q hq).trans ((G3.out.block q (by have := G3.out.size; omega) hne).trans (HKP.out q hq (fun e => hne (by rw [e]))))
        refine ⟨j + 1, v9, _, by omega, by go_num, rfl, L9, CPJ.out, fun q hq => ?_, ?_, fun q hq hne => ?_, by have := G3.out.size; omega⟩
        · have h1 := decs_le (upd Wt nx (-1)) (rows (adjG (trnG G)) (oG G) ((sG G).getD nx [])) q
          have h2 := RL.out nx
          have h3 := PS.out.2.1 nx CNJ.out.1
          have h4 : -(5000 * (j : Int)) - 1 ≤ upd Wt nx (-1) q ∧ upd Wt nx (-1) q ≤ 4096 := by
            unfold upd
            split
            · omega
            · have := HBD.out q hq; omega
          omega
        · rw [ONX.out, List.map_append, List.map_singleton, EB.out]
          exact O9.out
        · exact (hold q hq).trans ((G3.out.block q (by have := G3.out.size; omega) (fun e => hne (Option.some.inj e))).trans (HKP.out q hq hne))
      case measure => simp [RowKit.intOf]; omega
    · obtain rfl : j = k := by omega
      have hlt2 : ¬ (j : Int) < j := by omega
      clear hln hcn hbd hown hkeep
      go_wp2_with fail
      go_ret
      have hpl : (pG G).length = j := by rw [pG_len, ← EK.out]
      refine ⟨_, rfl, _, by rw [hpl]; exact own_lower HOW.out HL.out.low.size, ?_, HLN.out.low⟩
      rw [pG_eq]
      have ho := OF.out j (Nat.le_refl _)
      have hr := HLN.out.rows.order (s := ordL (rdG G) (sG G).length j) (by rw [← EK.out]; exact ho.1) (fun i hi => by rw [← EK.out] at hi ⊢; exact ho.2 i hi)
      have e : ordL (rdG G) (sG G).length (sG G).length = ordL (rdG G) (sG G).length j := by rw [EK.out]
      rw [e]
      exact hr
set_option maxHeartbeats 1000000 in
theorem Parts_any (A : Option Addr) (c : Nat) (vs : List Value) (G : List (List Nat)) (hR : RG G) (w : World) (hG : Gph w A vs (G.map nums)) :
    Calls Tryz.prog 42 #[.slice A G.length c] w fun e w' => ∃ v vs', e = .returned v ∧ w'.ownsRow w.heap.size 38 1 v (pG G).length vs' ∧ RowsO w.heap.size w' vs' (pG G) ∧ Below w.heap.size w w' := by
  have GO := Lib.hid (graphOf_any A c vs (G.map nums) w hG)
  have hm : (G.map nums).length = G.length := List.length_map _
  rw [hm, hR.right] at GO
  simp only [if_true] at GO
  have LO := Lib.hid (lineOf_any A c vs G hR w hG)
  have OR := Lib.hid (fun W lb gb pv vsT vsP of h hof => order_any hR (w := w) (W := W) (lb := lb) (gb := gb) (pv := pv) (vsT := vsT) (vsP := vsP) (of := of) h hof)
  clear hG hR hm
  go_enter Tryz.func42, Tryz.ntmps42
  go_wp2_with (first | (go_at_call 114; (with_reducible refine GO.out.mono ?_); rintro e w1 ⟨rfl, rfl⟩) | (go_at_call 115; (with_reducible refine LO.out.mono ?_); rintro e w2 ⟨lb, gb, pv, vsT, vsP, of, rfl, hl, hof⟩; have C2 := Lib.hid (OR.out w2 lb gb pv vsT vsP of hl hof); clear hl hof) | (go_at_call 116; (with_reducible refine C2.out.mono ?_); rintro e w3 ⟨v3, vs3, rfl, h3⟩; have H3 := Lib.hid h3; clear h3))
  go_ret
  exact ⟨v3, vs3, rfl, H3.out⟩
end Go.Proofs.YtlbjmkljmhfjdaaGreat
namespace Go.Proofs.YtlbjmkljmhfjdaaGreat
open Go Go.Proofs Go.Shelf Go.RowKit Go.Lib Go.Maps
def idxP (L : List (List Int)) (a : Int) : Int := match L.findIdx? fun p => decide (a ∈ p) with | some i => i | none => -1
theorem idxP_some {L : List (List Int)} {a : Int} {k : Nat} (h : k < L.length) (he : a ∈ L.getD k []) (hn : ∀ j, j < k → a ∉ L.getD j []) : idxP L a = k := by
  have : (L.findIdx? fun p => decide (a ∈ p)) = some k := by
    rw [List.findIdx?_eq_some_iff_getElem]
    refine ⟨h, ?_, fun j hj => ?_⟩
    · have : L[k] = L.getD k [] := by simp [List.getD, List.getElem?_eq_getElem h]
      rw [this]; simpa using he
    · have h2 := hn j hj
      have : L[j]'(by omega) = L.getD j [] := by simp [List.getD, List.getElem?_eq_getElem (show j < L.length by omega)]
      rw [this]; simpa using h2
  unfold idxP
  rw [this]
theorem idxP_none {L : List (List Int)} {a : Int} (hn : ∀ j, j < L.length → a ∉ L.getD j []) : idxP L a = -1 := by
  have : (L.findIdx? fun p => decide (a ∈ p)) = none := by
    rw [List.findIdx?_eq_none_iff]
    intro y hy
    obtain ⟨j, hj, rfl⟩ := List.getElem_of_mem hy
    have h2 := hn j hj
    have : L[j] = L.getD j [] := by simp [List.getD, List.getElem?_eq_getElem hj]
    rw [this]; simpa using h2
  unfold idxP
  rw [this]
theorem gph_parts {B : Nat} {W : World} {v : Value} {vs : List Value} {P : List (List Nat)} (ho : W.ownsRow B 38 1 v P.length vs) (hr : RowsO B W vs P) (hl : P.length ≤ 64) (hls : ∀ i, i < P.length → (P.getD i []).length ≤ 64) : ∃ A c, v = .slice A P.length c ∧ Gph W A vs (P.map nums) := by
  obtain ⟨A, c, rfl, _, _⟩ := own_slice ho
  exact ⟨A, c, rfl, hr.gph (own_lies1 ho) (by omega) (fun i hi => Nat.le_trans (hls i hi) (by omega))⟩
theorem pG_mem {G : List (List Nat)} (hR : RG G) {i : Nat} (hi : i < (pG G).length) : ∃ p, p < (sG G).length ∧ (pG G).getD i [] = (sG G).getD p [] := by
  rw [pG_len] at hi
  have hf := (ordL_facts hR.goes _ (Nat.le_refl (sG G).length)).2
  have hl := ordL_length (rdG G) (sG G).length (sG G).length
  have hi2 : i < (ordL (rdG G) (sG G).length (sG G).length).length := by omega
  refine ⟨(ordL (rdG G) (sG G).length (sG G).length)[i], hf _ (List.getElem_mem hi2), ?_⟩
  rw [pG_eq]
  simp only [List.getD, List.getElem?_map, List.getElem?_eq_getElem hi2, Option.map_some, Option.getD_some]
theorem pG_small {G : List (List Nat)} (hR : RG G) : (pG G).length ≤ 64 ∧ ∀ i, i < (pG G).length → (pG G).getD i [] ≠ [] ∧ ((pG G).getD i []).length ≤ 64 := by
  obtain ⟨h1, h2, h3, _⟩ := part_facts hR (List.Perm.refl (sG G))
  refine ⟨by rw [pG_len]; exact h1, fun i hi => ?_⟩
  obtain ⟨p, hp, e⟩ := pG_mem hR hi
  rw [e]
  exact ⟨h3 p hp, h2 p hp⟩
end Go.Proofs.YtlbjmkljmhfjdaaGreat
namespace Go.Proofs.YtlbjmkljmhfjdaaGreat
open Go Go.Proofs Go.Shelf Go.RowKit Go.Lib Go.Maps
end Go.Proofs.YtlbjmkljmhfjdaaGreat
namespace Go.Proofs.YtlbjmkljmhfjdaaGreat
open Go Go.RowKit
/-- The search, as a function with fuel. -/
def dfs (adj : Nat → List Nat) : Nat → List Nat → List Nat → Option (List Nat × List Nat)
  | 0, _, _ => none
  | _ + 1, met, [] => some ([], met)
  | f + 1, met, a :: l => if met.contains a then dfs adj f met l else
    match dfs adj f (a :: met) (adj a) with
    | none => none
    | some r => match dfs adj f r.2 l with
      | none => none
      | some s => some (r.1 ++ a :: s.1, s.2)
theorem dfs_thr (adj : Nat → List Nat) : ∀ (f : Nat) (met l N met' : List Nat), dfs adj f met l = some (N, met') → Thr adj (fun x => met.contains x) l N (fun x => met'.contains x)
  | 0, _, _, _, _, h => by simp [dfs] at h
  | f + 1, met, [], N, met', h => by
    simp only [dfs, Option.some.injEq, Prod.mk.injEq] at h
    obtain ⟨rfl, rfl⟩ := h
    exact .nil _
  | f + 1, met, a :: l, N, met', h => by
    unfold dfs at h
    split at h
    · rename_i hm
      exact .met hm (dfs_thr adj f met l N met' h)
    · rename_i hm
      have hm' : met.contains a = false := by simpa using hm
      split at h
      · cases h
      · rename_i r hr
        split at h
        · cases h
        · rename_i s hs
          simp only [Option.some.injEq, Prod.mk.injEq] at h
          obtain ⟨rfl, rfl⟩ := h
          have h1 := dfs_thr adj f (a :: met) (adj a) r.1 r.2 hr
          have e : (fun x => (a :: met).contains x) = mset (fun x => met.contains x) a := by
            funext x
            simp only [mset, List.contains_cons]
          rw [e] at h1
          exact .new hm' h1 (dfs_thr adj f r.2 l s.1 s.2 hs)
theorem dfs_reach {adj : Nat → List Nat} {f a : Nat} {N m : List Nat} (h : dfs adj f [] [a] = some (N, m)) (b : Nat) : Reach adj a b ↔ b ∈ N := by
  have h1 := (dfs_thr adj f [] [a] N m h).iff b
  rw [h1]
  simp
def reB (adj : Nat → List Nat) (a b : Nat) : Bool := match dfs adj 60 [] [a] with | some r => r.1.contains b | none => false
theorem reB_is {adj : Nat → List Nat} {n : Nat} (h : ∀ a, a < n → (dfs adj 60 [] [a]).isSome = true) : IsR adj n (reB adj) := fun a b ha _ => by
  obtain ⟨r, hr⟩ := Option.isSome_iff_exists.1 (h a ha)
  unfold reB
  rw [hr, dfs_reach (N := r.1) (m := r.2) hr b]
  simp
theorem sccs_congr {adj : Nat → List Nat} {n : Nat} {r r' : Nat → Nat → Bool} (h : IsR adj n r) (h' : IsR adj n r') : sccs r n = sccs r' n := by
  have e : ∀ a b, a < n → b < n → r a b = r' a b := fun a b ha hb => by rw [Bool.eq_iff_iff, h a b ha hb, h' a b ha hb]
  unfold sccs
  have e1 : (List.range n).filter (c_least r) = (List.range n).filter (c_least r') := List.filter_congr fun a ha => by
    have ha := List.mem_range.1 ha
    unfold c_least
    rw [Bool.eq_iff_iff, List.all_eq_true, List.all_eq_true]
    refine forall_congr' fun b => forall_congr' fun hb => ?_
    have hb := List.mem_range.1 hb
    rw [e a b ha (by omega), e b a (by omega) ha]
  rw [e1]
  refine List.map_congr_left fun a ha => ?_
  have ha := List.mem_range.1 (List.mem_filter.1 ha).1
  unfold scc
  exact List.filter_congr fun b hb => by
    have hb := List.mem_range.1 hb
    rw [e a b ha hb, e b a hb ha]
end Go.Proofs.YtlbjmkljmhfjdaaGreat
namespace Go.Proofs.YtlbjmkljmhfjdaaGreat
open Go Go.RowKit
theorem reach_step {adj : Nat → List Nat} {a b : Nat} : Reach adj a b ↔ a = b ∨ ∃ c, c ∈ adj a ∧ Reach adj c b := by
  constructor
  · intro h
    unfold Reach at h
    cases h with
    | one _ => exact .inl rfl
    | step _ h1 h2 => exact .inr ⟨_, h1, h2⟩
  · rintro (rfl | ⟨c, h1, h2⟩)
    · exact .refl _ _
    · exact .step rfl h1 h2
theorem pG_zero {G : List (List Nat)} (h : G.length = 0) : pG G = [] := by
  have : (pG G).length = 0 := by rw [pG_len]; unfold sG sccs; rw [h]; rfl
  exact List.length_eq_zero_iff.1 this
/-- The parts' places among the parts by their c_least numbers. -/
noncomputable def plG (G : List (List Nat)) : List Nat := ordL (rdG G) (sG G).length (sG G).length
theorem plG_len (G : List (List Nat)) : (plG G).length = (pG G).length := by rw [pG_len]; exact ordL_length _ _ _
theorem plG_nodup {G : List (List Nat)} (hR : RG G) : (plG G).Nodup := (ordL_facts hR.goes _ (Nat.le_refl _)).1
theorem nodup_at {l : List Nat} (hn : l.Nodup) {i j : Nat} (hi : i < l.length) (hj : j < l.length) (h : l.getD i 0 = l.getD j 0) : i = j := by
  simp only [List.getD, List.getElem?_eq_getElem hi, List.getElem?_eq_getElem hj, Option.getD_some] at h
  exact (List.getElem_inj hn).1 h
theorem plG_lt {G : List (List Nat)} (hR : RG G) {j : Nat} (hj : j < (pG G).length) : (plG G).getD j 0 < (sG G).length := by
  have hl := plG_len G
  have : (plG G).getD j 0 = (plG G)[j]'(by omega) := by simp [List.getD, List.getElem?_eq_getElem (show j < (plG G).length by omega)]
  rw [this]
  exact (ordL_facts hR.goes _ (Nat.le_refl _)).2 _ (List.getElem_mem _)
theorem pG_at {G : List (List Nat)} {j : Nat} (hj : j < (pG G).length) : (pG G).getD j [] = (sG G).getD ((plG G).getD j 0) [] := by
  have hl := plG_len G
  have hi2 : j < (plG G).length := by omega
  show ((plG G).map fun p => (sG G).getD p []).getD j [] = _
  simp only [List.getD, List.getElem?_map, List.getElem?_eq_getElem hi2, Option.map_some, Option.getD_some]
/-- A number's part. -/
noncomputable def ptG (G : List (List Nat)) (i : Nat) : List Nat := scc (rG G) G.length i
theorem pG_has {G : List (List Nat)} (hR : RG G) {i j : Nat} (hj : j < (pG G).length) (h : i ∈ (pG G).getD j []) : i < G.length ∧ oG G i = (plG G).getD j 0 := by
  rw [pG_at hj] at h
  exact ofP_at (rG_is G _) (plG_lt hR hj) h
theorem place_of {G : List (List Nat)} (hR : RG G) {i : Nat} (hi : i < G.length) :
    ∃ j, j < (pG G).length ∧ (plG G).getD j 0 = oG G i ∧ (pG G).getD j [] = ptG G i ∧ i ∈ (pG G).getD j [] ∧ idxP ((pG G).map nums) i = j := by
  have h1 : oG G i < (sG G).length := ofP_lt (rG_is G _) hi
  have h2 : oG G i ∈ plG G := ordL_all hR.goes h1
  obtain ⟨j, hj, e⟩ := List.getElem_of_mem h2
  have hj2 : j < (pG G).length := by rw [← plG_len]; exact hj
  have e1 : (plG G).getD j 0 = oG G i := by simp [List.getD, List.getElem?_eq_getElem hj, e]
  have e2 : (pG G).getD j [] = ptG G i := by rw [pG_at hj2, e1]; exact ofP_mem (rG_is G _) hi
  have e3 : i ∈ (pG G).getD j [] := by rw [e2]; exact scc_self (rG_is G _) hi
  refine ⟨j, hj2, e1, e2, e3, idxP_some (by simpa using hj2) ?_ ?_⟩
  · rw [getD_map_nums]; exact c_mem_nums.2 ⟨by omega, by simpa using e3⟩
  · intro k hk h
    rw [getD_map_nums] at h
    have h := (c_mem_nums.1 h).2
    rw [show ((i : Int).toNat) = i by omega] at h
    have := (pG_has hR (j := k) (by omega) h).2
    have hl := plG_len G
    have := nodup_at (plG_nodup hR) (i := j) (j := k) (by omega) (by omega) (by rw [e1, this])
    omega
end Go.Proofs.YtlbjmkljmhfjdaaGreat
namespace Go.Proofs.YtlbjmkljmhfjdaaGreat
open Go Go.RowKit
/-- The place of a number's part. -/
noncomputable def posG (G : List (List Nat)) (i : Nat) : Nat := (idxP ((pG G).map nums) i).toNat
theorem pos_of {G : List (List Nat)} (hR : RG G) {i : Nat} (hi : i < G.length) :
    posG G i < (pG G).length ∧ (plG G).getD (posG G i) 0 = oG G i ∧ (pG G).getD (posG G i) [] = ptG G i ∧ i ∈ (pG G).getD (posG G i) [] ∧ idxP ((pG G).map nums) i = posG G i := by
  obtain ⟨j, h1, h2, h3, h4, h5⟩ := place_of hR hi
  have e : posG G i = j := by unfold posG; rw [h5]; omega
  rw [e]
  exact ⟨h1, h2, h3, h4, h5⟩
theorem pos_eq {G : List (List Nat)} (hR : RG G) {i j : Nat} (hj : j < (pG G).length) (h : i ∈ (pG G).getD j []) : i < G.length ∧ posG G i = j := by
  obtain ⟨h1, h2⟩ := pG_has hR hj h
  obtain ⟨p1, p2, _⟩ := pos_of hR h1
  have hl := plG_len G
  exact ⟨h1, nodup_at (plG_nodup hR) (by omega) (by omega) (by rw [p2, h2])⟩
theorem pos_same {G : List (List Nat)} (hR : RG G) {i k : Nat} (hi : i < G.length) (hk : k < G.length) : posG G i = posG G k ↔ oG G i = oG G k := by
  obtain ⟨p1, p2, _⟩ := pos_of hR hi
  obtain ⟨q1, q2, _⟩ := pos_of hR hk
  have hl := plG_len G
  constructor
  · intro h; rw [← p2, ← q2, h]
  · intro h; exact nodup_at (plG_nodup hR) (by omega) (by omega) (by rw [p2, q2, h])
theorem plG_nxt {G : List (List Nat)} {t : Nat} (ht : t < (pG G).length) : (plG G).getD t 0 = nxt (rdG G) (sG G).length (ptO (rdG G) (sG G).length t) := by
  rw [pG_len] at ht
  exact ordL_at ht
theorem pt_pos {G : List (List Nat)} (hR : RG G) {c t : Nat} (hc : c < G.length) (ht : t ≤ (pG G).length) : ptO (rdG G) (sG G).length t (oG G c) = true ↔ posG G c < t := by
  obtain ⟨p1, p2, _⟩ := pos_of hR hc
  have hl := plG_len G
  have e : ordL (rdG G) (sG G).length t = (plG G).take t := by
    rw [pG_len] at ht
    exact (ordL_take ht).symm
  unfold ptO
  rw [e, List.contains_iff_mem]
  constructor
  · intro h
    obtain ⟨s, hs, e2⟩ := List.getElem_of_mem h
    rw [List.length_take] at hs
    rw [List.getElem_take] at e2
    have e3 : (plG G).getD s 0 = oG G c := by simp [List.getD, List.getElem?_eq_getElem (show s < (plG G).length by omega), e2]
    have := nodup_at (plG_nodup hR) (i := s) (j := posG G c) (by omega) (by omega) (by rw [e3, p2])
    omega
  · intro h
    have e3 : (plG G)[posG G c]'(by omega) = oG G c := by
      rw [← p2]; simp [List.getD, List.getElem?_eq_getElem (show posG G c < (plG G).length by omega)]
    rw [← e3, List.mem_take_iff_getElem]
    exact ⟨posG G c, by omega, rfl⟩
theorem rdG_iff {G : List (List Nat)} (hR : RG G) {pt : Nat → Bool} {q : Nat} : rdG G pt q = true ↔ ∀ a b, b ∈ adjG G a → oG G a = q → oG G b ≠ q → pt (oG G b) = true := by
  unfold rdG rdy
  rw [List.all_eq_true]
  constructor
  · intro h a b hb ha hn
    have := h (a, b) ((mem_lnk hR.inR).2 hb)
    simp [ha, hn] at this
    exact this
  · rintro h ⟨a, b⟩ he
    have hb := (mem_lnk hR.inR).1 he
    by_cases h1 : oG G a = q
    · by_cases h2 : oG G b = q
      · simp [h2]
      · simp [h a b hb h1 h2]
    · simp [h1]
/-- Who leads to a number stands behind it, or with it. -/
theorem pos_ahead {G : List (List Nat)} (hR : RG G) {i c : Nat} (h : c ∈ adjG G i) : posG G c ≤ posG G i := by
  obtain ⟨hi, hc⟩ := hR.inR i c h
  obtain ⟨p1, p2, _⟩ := pos_of hR hi
  have h1 := ordL_next hR.goes (t := posG G i) (by rw [← pG_len]; exact p1)
  rw [← plG_nxt p1, p2] at h1
  have h2 := (rdG_iff hR).1 h1.2.2.1 i c h rfl
  by_cases e : oG G c = oG G i
  · rw [(pos_same hR hc hi).2 e]; exact Nat.le_refl _
  · have := (pt_pos hR hc (by omega)).1 (h2 e)
    omega
end Go.Proofs.YtlbjmkljmhfjdaaGreat
namespace Go.Proofs.YtlbjmkljmhfjdaaGreat
open Go Go.RowKit
/-- A way by numbers below m. -/
def fw (adj : Nat → List Nat) : Nat → Nat → Nat → Bool
  | 0, i, k => decide (i = k) || (adj i).contains k
  | m + 1, i, k => fw adj m i k || (fw adj m i m && fw adj m m k)
theorem fw_mono {adj : Nat → List Nat} {i k : Nat} : ∀ {m n : Nat}, m ≤ n → fw adj m i k = true → fw adj n i k = true
  | m, 0, h, hf => by obtain rfl : m = 0 := by omega
                      exact hf
  | m, n + 1, h, hf => by
    by_cases e : m = n + 1
    · subst e; exact hf
    · unfold fw
      rw [fw_mono (show m ≤ n by omega) hf, Bool.true_or]
theorem fw_through {adj : Nat → List Nat} : ∀ (m : Nat) {i j k : Nat}, j < m → fw adj m i j = true → fw adj m j k = true → fw adj m i k = true
  | 0, _, _, _, h, _, _ => by omega
  | m + 1, i, j, k, hj, h1, h2 => by
    simp only [fw, Bool.or_eq_true, Bool.and_eq_true] at h1 h2 ⊢
    by_cases e : j = m
    · subst e
      have h3 : fw adj j i j = true := h1.elim id And.left
      have h4 : fw adj j j k = true := h2.elim id And.right
      exact .inr ⟨h3, h4⟩
    · have hj : j < m := by omega
      rcases h1 with h1 | ⟨h1, h1'⟩
      · rcases h2 with h2 | ⟨h2, h2'⟩
        · exact .inl (fw_through m hj h1 h2)
        · exact .inr ⟨fw_through m hj h1 h2, h2'⟩
      · rcases h2 with h2 | ⟨h2, h2'⟩
        · exact .inr ⟨h1, fw_through m hj h1' h2⟩
        · exact .inr ⟨h1, h2'⟩
theorem fw_reach {adj : Nat → List Nat} : ∀ (m : Nat) {i k : Nat}, fw adj m i k = true → Reach adj i k
  | 0, i, k, h => by
    simp only [fw, Bool.or_eq_true, decide_eq_true_eq, List.contains_iff_mem] at h
    rcases h with rfl | h
    · exact .refl _ _
    · exact reach_step.2 (.inr ⟨k, h, .refl _ _⟩)
  | m + 1, i, k, h => by
    simp only [fw, Bool.or_eq_true, Bool.and_eq_true] at h
    rcases h with h | ⟨h1, h2⟩
    · exact fw_reach m h
    · exact (fw_reach m h1).trans (fw_reach m h2)
theorem reach_fw {adj : Nat → List Nat} {n : Nat} (hi : InR adj n) {i k : Nat} (h : Reach adj i k) (hin : i < n) : fw adj n i k = true := by
  have go : ∀ i k, WP adj (fun _ => false) i k → i < n → fw adj n i k = true := fun i k h => by
    induction h with
    | one _ => exact fun _ => fw_mono (Nat.zero_le n) (by simp [fw])
    | step _ h1 _ ih =>
      intro ha
      have hb := (hi _ _ h1).2
      exact fw_through n hb (fw_mono (Nat.zero_le n) (by simp [fw, h1])) (ih hb)
  exact go i k h hin
theorem fw_is {adj : Nat → List Nat} {n : Nat} (hi : InR adj n) : IsR adj n (fw adj n) := fun a b ha _ => ⟨fun h => fw_reach n h, fun h => reach_fw hi h ha⟩
/-- May the part of a number be put next: by ways, not by single links. -/
def openB (r : Nat → Nat → Bool) (put : Nat → Bool) (n a : Nat) : Bool := !put a && (List.range n).all fun k => !(r a k && !put k && !r k a)
/-- Which numbers' parts are put. -/
noncomputable def putG (G : List (List Nat)) (t : Nat) : Nat → Bool := fun a => ptO (rdG G) (sG G).length t (oG G a)
theorem put_iff {G : List (List Nat)} (hR : RG G) {t a : Nat} (ha : a < G.length) (ht : t ≤ (pG G).length) : putG G t a = true ↔ posG G a < t := pt_pos hR ha ht
/-- Who is led to from what is put is put. -/
theorem put_closed {G : List (List Nat)} (hR : RG G) {t a b : Nat} (ha : a < G.length) (ht : t ≤ (pG G).length) (h : putG G t a = true) (hr : Reach (adjG G) a b) : putG G t b = true := by
  have go : ∀ a b, WP (adjG G) (fun _ => false) a b → a < G.length → putG G t a = true → putG G t b = true := fun a b h => by
    induction h with
    | one _ => exact fun _ h => h
    | step _ h1 _ ih =>
      intro ha h
      have hb := (hR.inR _ _ h1).2
      refine ih hb ((put_iff hR hb ht).2 ?_)
      have h2 := (put_iff hR ha ht).1 h
      have h3 := pos_ahead hR h1
      omega
  exact go a b hr ha h
theorem open_iff {G : List (List Nat)} (hR : RG G) {r : Nat → Nat → Bool} (hr : IsR (adjG G) G.length r) {t a : Nat} (ha : a < G.length) (ht : t ≤ (pG G).length) :
    openB r (putG G t) G.length a = true ↔ ptO (rdG G) (sG G).length t (oG G a) = false ∧ rdG G (ptO (rdG G) (sG G).length t) (oG G a) = true := by
  have tog : ∀ b, b < G.length → (oG G a = oG G b ↔ Tog (adjG G) a b) := fun b hb => ofP_eq (rG_is G G.length) ha hb
  unfold openB
  rw [Bool.and_eq_true, List.all_eq_true, Bool.not_eq_true']
  refine and_congr_right fun hp => ?_
  rw [rdG_iff hR]
  constructor
  · intro h x b hb hx hn
    obtain ⟨hx2, hb2⟩ := hR.inR x b hb
    have hax := (tog x hx2).1 hx.symm
    have hab : Reach (adjG G) a b := hax.1.trans (reach_step.2 (.inr ⟨b, hb, .refl _ _⟩))
    have h1 := h b (List.mem_range.2 hb2)
    rw [(hr a b ha hb2).2 hab] at h1
    cases e : putG G t b with
    | true => exact e
    | false =>
      rw [e] at h1
      have h2 : r b a = true := by simpa using h1
      exact absurd ((tog b hb2).2 ⟨hab, (hr b a hb2 ha).1 h2⟩).symm hn
  · intro h k hk
    have hk := List.mem_range.1 hk
    cases e1 : r a k with
    | false => rfl
    | true =>
      have hak := (hr a k ha hk).1 e1
      cases e2 : putG G t k with
      | true => rfl
      | false =>
        have key : ∀ x k, WP (adjG G) (fun _ => false) x k → x < G.length → oG G x = oG G a → putG G t k = false → oG G k = oG G a := fun x k hw => by
          induction hw with
          | one _ => exact fun _ h _ => h
          | @step x y z _ h1 h2 ih =>
            intro hx hxa hz
            have hy := (hR.inR _ _ h1).2
            by_cases e : oG G y = oG G a
            · exact ih hy e hz
            · have h3 : putG G t y = true := h x y h1 hxa e
              have := put_closed hR hy ht h3 h2
              rw [this] at hz; cases hz
        have h5 := key a k hak ha rfl e2
        have h6 := ((tog k hk).1 h5.symm).2
        simp [(hr k a hk ha).2 h6]
theorem mem_sG {G : List (List Nat)} {a : Nat} (ha : a < G.length) : a ∈ (sG G).getD (oG G a) [] := by
  have : (sG G).getD (oG G a) [] = scc (rG G) G.length a := ofP_mem (rG_is G _) ha
  rw [this]
  exact scc_self (rG_is G _) ha
theorem rises_head {l : List Nat} (h : l.Pairwise (· < ·)) {a : Nat} (ha : a ∈ l) : l.getD 0 0 ≤ a := by
  match l, ha with
  | b :: l, ha =>
    rcases List.mem_cons.1 ha with rfl | h2
    · simp
    · have := (List.pairwise_cons.1 h).1 a h2
      simp
      omega
/-- The least number whose part may be put is the least number of the next part. -/
theorem open_least {G : List (List Nat)} (hR : RG G) {r : Nat → Nat → Bool} (hr : IsR (adjG G) G.length r) {t : Nat} (ht : t < (pG G).length) :
    ((pG G).getD t []).getD 0 0 < G.length ∧ openB r (putG G t) G.length (((pG G).getD t []).getD 0 0) = true ∧ (∀ a, a < ((pG G).getD t []).getD 0 0 → openB r (putG G t) G.length a = false) ∧ ptG G (((pG G).getD t []).getD 0 0) = (pG G).getD t [] := by
  have hne := ((pG_small hR).2 t ht).1
  have hm : ((pG G).getD t []).getD 0 0 ∈ (pG G).getD t [] := by
    match h : (pG G).getD t [], hne with
    | a :: l, _ => simp
  obtain ⟨h1, h2⟩ := pG_has hR ht hm
  have hpos := (pos_eq hR ht hm).2
  have hnx := ordL_next hR.goes (t := t) (by rw [← pG_len]; exact ht)
  rw [← plG_nxt ht, ← h2] at hnx
  have hpart := (pos_of hR h1).2.2.1
  rw [hpos] at hpart
  refine ⟨h1, (open_iff hR hr h1 (by omega)).2 ⟨hnx.2.1, hnx.2.2.1⟩, fun a ha => ?_, hpart.symm⟩
  rw [Bool.eq_false_iff]
  intro ho
  have hal : a < G.length := by omega
  obtain ⟨o1, o2⟩ := (open_iff hR hr hal (by omega)).1 ho
  have hp1 : oG G a < (sG G).length := ofP_lt (rG_is G _) hal
  have hp2 : oG G (((pG G).getD t []).getD 0 0) < (sG G).length := hnx.1
  have rise : ∀ p, p < (sG G).length → ((sG G).getD p []).Pairwise (· < ·) := fun p hp => by
    have : (sG G).getD p [] ∈ sccs (rG G) G.length := by simp only [sG, List.getD] at hp ⊢; rw [List.getElem?_eq_getElem hp]; exact List.getElem_mem hp
    obtain ⟨x, _, e⟩ := (mem_sccs (rG_is G _) _).1 this
    rw [e]
    exact scc_rises _ _ _
  have hq : (pG G).getD t [] = (sG G).getD (oG G (((pG G).getD t []).getD 0 0)) [] := by rw [h2]; exact pG_at ht
  have hha := rises_head (rise _ hp1) (mem_sG hal)
  rcases Nat.lt_trichotomy (oG G a) (oG G (((pG G).getD t []).getD 0 0)) with h | h | h
  · rcases hnx.2.2.2 _ h with h3 | h3
    · rw [o1] at h3; cases h3
    · rw [o2] at h3; cases h3
  · rw [h, ← hq] at hha; omega
  · have hs := sccs_rise (rG_is G G.length)
    have e1 : ∀ k (h : k < (sG G).length), (sG G).getD k [] = (sG G)[k] := fun k h => by simp [List.getD, List.getElem?_eq_getElem h]
    have := List.pairwise_iff_getElem.1 hs _ _ hp2 hp1 h
    have h5 : ((sG G).getD (oG G (((pG G).getD t []).getD 0 0)) []).getD 0 0 < ((sG G).getD (oG G a) []).getD 0 0 := by rw [e1 _ hp2, e1 _ hp1]; exact this
    rw [← hq] at h5
    omega
end Go.Proofs.YtlbjmkljmhfjdaaGreat

/- sort: All; slices.Grow laid off the shelf; Concat, Order. -/
import Derived.Test.YtmlaepbmdfmgbaaGreatS1
import Derived.Shelf.Spec.SlicesGrow
set_option linter.unusedSimpArgs false
set_option linter.unusedVariables false
namespace Go.Proofs.YtmlaepbmdfmgbaaGreat
open Go Go.RowKit Go.Maps Go.Shelf
noncomputable def allOf (g : Gr) : List Nat := if rightB g then (List.range g.rules.length).map (sortN (graphOf g)) else []
/-- A row of numbers, as a block. -/
theorem own_of_blk {W : World} {B b e : Nat} {l : List Int} (h : Blk W b (ints l).toArray e) (hB : B ≤ b) (hm : l.length ≤ maxLen) : W.ownsRow B e 1 (.slice (some ⟨b, 0, none⟩) l.length l.length) l.length (ints l) :=
  ⟨by rw [ints_length]; omega, .inr ⟨b, l.length, (ints l).toArray, rfl, hB, h, Nat.le_refl _, hm, by rw [List.size_toArray, ints_length]; omega, by rw [List.toList_toArray, List.take_of_length_le (by rw [ints_length]; omega)]⟩⟩
set_option maxRecDepth 100000 in
set_option maxHeartbeats 2000000 in
theorem sAll_any (g : Gr) (w : World) (hg : Gr.At w g) (hin : Gr.In g) (hc : Capd g) : Calls Tryz.prog 13 #[g.val] w fun e w' => (∃ v, e = .returned v ∧ w'.ownsRow w.heap.size 22 1 v (allOf g).length (ints (nums (allOf g)))) ∧ Below w.heap.size w w' := by
  have HB1 := Lib.hid (B1 w (.cells #[.slice g.RA g.rules.length g.rc, .slice g.NA g.nodes.length g.nc] 31))
  obtain ⟨i0, hi, hz0, hz1, hz2⟩ := info_parts (show (Tryz.prog.info? 22).map (fun i => (i.zero, i.size, i.bytes)) = some (some (.int .i64 0), 1, 8) by kernel_rfl)
  cases hr : rightB g with
  | false =>
    have C1 := Lib.hid (sWork_no g _ (hg.below HB1.out) hin hr)
    have E := Lib.hid (show allOf g = [] by unfold allOf; rw [hr]; rfl)
    rw [E.out]
    clear hg hin hc hr
    show Calls Tryz.prog 13 #[.agg #[.slice g.RA g.rules.length g.rc, .slice g.NA g.nodes.length g.nc]] w _
    go_enter Tryz.func13, Tryz.ntmps13
    go_wp2_with (go_at_call 30; (refine C1.out.mono ?_); rintro e w1 ⟨rfl, hb⟩; have H1 := Lib.hid (bb HB1.out hb); clear hb)
    go_ret
    exact ⟨⟨_, rfl, World.ownsRow_nil _ _ _ _⟩, H1.out⟩
  | true =>
    have hR := rightB_true.1 hr
    have C1 := Lib.hid (sWork_yes g _ (hg.below HB1.out) hin hc hR)
    have RG1 := Lib.hid (graphOf_RG hR)
    have GL := Lib.hid (graphOf_len g)
    have E := Lib.hid (show allOf g = (List.range g.rules.length).map (sortN (graphOf g)) by unfold allOf; rw [hr]; rfl)
    have h32 := hR.rules.2
    rw [← GL.out] at h32 E
    rw [E.out]
    generalize graphOf g = G at *
    obtain ⟨LL, eLL⟩ : ∃ LL, LL = (List.range G.length).map (sortN G) := ⟨_, rfl⟩
    have ELL := Lib.hid eLL
    rw [← eLL]
    clear hg hin hc hr hR GL E eLL
    show Calls Tryz.prog 13 #[.agg #[.slice g.RA g.rules.length g.rc, .slice g.NA g.nodes.length g.nc]] w _
    go_enter Tryz.func13, Tryz.ntmps13
    go_upto_region 4 with (go_at_call 30; (refine C1.out.mono ?_); rintro e w1 ⟨p, rfl, hs, hb⟩; have HS := Lib.hid hs; have H1 := Lib.hid (bb HB1.out hb); clear hb hs)
    obtain ⟨A, c, vs, GA, gc, gvs, hS⟩ := HS.out.out
    have c1 := hS.box.cell 1
    simp only [List.getElem?_toArray, List.getElem?_cons_zero, List.getElem?_cons_succ] at c1
    have CN := Lib.hid (fun (W : World) (b : Below w1.heap.size w1 W) (i : Nat) (hi : i < G.length) => sSort_any (HS.out.below b) RG1.out i hi)
    obtain ⟨m, em⟩ : ∃ m, m = G.length := ⟨_, rfl⟩
    have EM := Lib.hid em
    rw [← em] at c1 h32
    have CN2 : RowKit.Hid (∀ (W : World), Below w1.heap.size w1 W → ∀ (i : Nat), i < m → Calls Tryz.prog 31 #[.pointer (some ⟨p, 0, none⟩), .int .i64 i] W fun e w' => e = .returned (.int .i64 (sortN G i)) ∧ Below W.heap.size W w') := Lib.hid (by rw [em]; exact CN.out)
    have hmk : (Instr.makeSlice 34 (.int .i64 m) (.int .i64 m)).run Tryz.prog w1 = .ok (.slice (some ⟨w1.heap.size, 0, none⟩) m m) (w1.alloc (.cells (List.replicate m (Value.int .i64 0)).toArray 22)) := by
      have hr := run_make (P := Tryz.prog) w1 34 22 i0 (.int .i64 0) Tryz.underlying34 hi hz0 .i64 .i64 (m : Nat) (m : Nat) (by omega) (by omega) (by rw [hz2]; omega) (by omega)
      have e : madeCells (Value.int .i64 0).cells (m * 1) = (List.replicate m (Value.int .i64 0)).toArray := by
        apply Array.ext
        · simp [madeCells]
        · intro k h1 h2
          simp [madeCells, Value.cells, Nat.mod_one]
      rw [hz1, Int.toNat_natCast, e] at hr
      exact hr
    clear hS em CN
    go_wp2_with fail
    obtain ⟨sb, esb⟩ : ∃ u, u = w1.heap.size := ⟨_, rfl⟩
    have K0 : RowKit.Hid (Blk (w1.alloc (.cells (Array.replicate m (Value.int .i64 0)) 22)) sb (ints (List.replicate m 0)).toArray 22) := Lib.hid (by
      rw [esb, show (ints (List.replicate m 0)).toArray = Array.replicate m (Value.int .i64 0) from by simp [ints]]
      exact Blk.new _ _ _)
    have ESB := Lib.hid (show w1.heap.size ≤ sb by omega)
    have hb12 := B1 w1 (.cells (Array.replicate m (Value.int .i64 0)) 22)
    first | rw [← esb] | skip
    generalize w1.alloc (.cells (Array.replicate m (Value.int .i64 0)) 22) = w2 at K0 hb12 ⊢
    have HB12 := Lib.hid hb12
    clear hb12 hmk esb c1
    go_loopw [22, 6] (fun i _ wr => ∃ (k : Nat) (l : List Int), k ≤ m ∧ i = .int .i64 k ∧ l.length = m ∧ (∀ j, j < k → l.getD j 0 = sortN G j) ∧ Blk wr sb (ints l).toArray 22 ∧ Below w1.heap.size w1 wr) (fun i _ _ => m - (intOf i).toNat)
    case atStart => exact ⟨0, _, by omega, rfl, List.length_replicate .., fun j h => by omega, K0.out, HB12.out⟩
    case round =>
      obtain ⟨k, l, hk, rfl, hl, hz, hkb, hb⟩ := hrel
      have HZ := Lib.hid hz
      have HL := Lib.hid hl
      have KB := Lib.hid hkb
      have BL := Lib.hid hb
      clear hz hb hkb hl
      by_cases hlt : k < m
      · have hlt2 : (k : Int) < m := by omega
        have CC := Lib.hid (CN2.out wr BL.out k hlt)
        generalize hq : sortN G k = q at CC
        have HQ := Lib.hid hq
        clear hq
        go_wp2_with fail
        refine CC.out.mono ?_
        rintro e w3 ⟨rfl, hb⟩
        have K3 := Lib.hid (KB.out.below' hb)
        have B3 := Lib.hid (BL.out.trans (hb.mono BL.out.size))
        have c5 := K3.out.cell k
        have f5 := K3.out.frozen k
        rw [List.getElem?_toArray, ints_at (by rw [HL.out]; exact hlt)] at c5
        clear hb
        go_wp2_with fail
        go_roundw
        case rel =>
          refine ⟨k + 1, l.set k q, by omega, by go_num, by rw [List.length_set]; exact HL.out, fun j hj => ?_, ?_, B3.out.setCell (p := ⟨sb, k, none⟩) ESB.out _⟩
          · by_cases e : j = k
            · rw [e, HQ.out]; simp [List.getD, HL.out, hlt]
            · have := HZ.out j (by omega)
              simp only [List.getD] at this ⊢
              rw [List.getElem?_set_ne (fun h => e h.symm)]
              exact this
          · have := K3.out.put (k := k) (.int .i64 q)
            rw [ints_set] at this
            exact this
        case measure => simp [intOf]; omega
      · obtain rfl : k = m := by omega
        have hlt2 : ¬ (k : Int) < k := by omega
        go_wp2_with fail
        go_ret
        have e : l = nums LL := by
          rw [ELL.out]
          apply List.ext_getElem
          · rw [nums_len, List.length_map, List.length_range, HL.out, EM.out]
          · intro j h1 h2
            have := HZ.out j (by rw [← HL.out]; exact h1)
            simp only [List.getD, List.getElem?_eq_getElem h1, Option.getD_some] at this
            rw [this]
            simp [nums]
        have hln : LL.length = k := by rw [ELL.out, List.length_map, List.length_range, EM.out]
        refine ⟨⟨_, rfl, ?_⟩, H1.out.trans (BL.out.mono H1.out.size)⟩
        rw [hln, ← e]
        have := own_of_blk (B := w.heap.size) KB.out (by have := H1.out.size; have := ESB.out; omega) (by rw [HL.out]; unfold maxLen; omega)
        rw [HL.out] at this
        exact this
end Go.Proofs.YtmlaepbmdfmgbaaGreat
namespace Go.Proofs.YtmlaepbmdfmgbaaGreat
open Go Go.RowKit Go.Maps Go.Shelf
def Tryz.growI_ren : Go.Shelf.Ren := ⟨fun | 4 => 59 | n => n, fun | 0 => 0 | 3 => 3 | 4 => 4 | 9 => 9 | 20 => 20 | 22 => 36 | 25 => 3 | n => n, fun | n => n⟩
theorem Tryz.growI : Go.Proofs.Lays8.n4 Tryz.prog Tryz.growI_ren := {
  mixed := by kernel_rfl
  f4 := ⟨ "slices.Grow[[]int,int]", by decide, Tryz.func59.trans (congrArg some (by kernel_rfl))⟩
  t0 := Tryz.underlying0
  a0 := Tryz.isAgg0
  z0 := Tryz.sizeOf0
  v0 := Tryz.zeroValue0
  t3 := Tryz.underlying3
  a3 := Tryz.isAgg3
  z3 := Tryz.sizeOf3
  v3 := Tryz.zeroValue3
  t4 := Tryz.underlying4
  a4 := Tryz.isAgg4
  z4 := Tryz.sizeOf4
  v4 := Tryz.zeroValue4
  t9 := Tryz.underlying9
  a9 := Tryz.isAgg9
  z9 := Tryz.sizeOf9
  v9 := Tryz.zeroValue9
  t20 := Tryz.underlying20
  a20 := Tryz.isAgg20
  z20 := Tryz.sizeOf20
  v20 := Tryz.zeroValue20
  t22 := Tryz.underlying36
  a22 := Tryz.isAgg36
  z22 := Tryz.sizeOf36
  v22 := Tryz.zeroValue36 }
/-- Grow of nothing: room of its own. -/
theorem grow_any (n : Nat) (w : World) (h0 : 0 < n) (hn : n ≤ 100000) : Calls Tryz.prog 59 #[.slice none 0 0, .int .i64 n] w fun e w' => ∃ v, e = .returned v ∧ w'.ownsRow w.heap.size 3 1 v 0 [] ∧ Below w.heap.size w w' := by
  obtain ⟨i0, hi, hz0, hz1, hz2⟩ := info_parts Tryz.info3
  refine (Any8.slices_Grow_grow Tryz.growI i0 (.int .i64 0) hi hz0 (by rw [hz1]; decide) none 0 0 n [] w (Nat.le_refl _) (by omega) (by rw [hz2]; omega) (by omega) (by simp) (fun _ => rfl) (fun a h => by cases h)).mono ?_
  rintro e w' ⟨rfl, rfl⟩
  have hge := grownCap_ge w (0 + n) 0 (Tryz.growI_ren.t 25)
  have hle := grownCap_le_maxLen w (0 + n) 0 (Tryz.growI_ren.t 25) (by unfold maxLen; omega)
  obtain ⟨cap, ec⟩ : ∃ c, c = grownCap w (0 + n) 0 (Tryz.growI_ren.t 25) := ⟨_, rfl⟩
  rw [← ec] at hge hle ⊢
  refine ⟨_, rfl, ⟨rfl, .inr ⟨w.heap.size, cap, _, rfl, Nat.le_refl _, Blk.new w.drew _ _, Nat.zero_le _, hle, ?_, by simp⟩⟩, ((Below.refl w.heap.size w.drew).alloc (Nat.le_refl _) _ : Below w.heap.size w.drew _).os, rfl, rfl, by simp, fun k hk => Below.heap_alloc w.drew _ k hk⟩
  simp [Builtin.zeroCells, Value.cells]
  omega
/-- What is laid out of a row of rows. -/
theorem flat_take {P : List (List Nat)} {k : Nat} (h : k < P.length) : (P.take (k + 1)).flatten = (P.take k).flatten ++ P.getD k [] := by
  rw [List.take_add_one, List.flatten_append]
  congr 1
  simp [List.getD, List.getElem?_eq_getElem h]
theorem flat_ints (a b : List Nat) : ints (nums (a ++ b)) = ints (nums a) ++ ints (nums b) := by simp [ints, nums]
theorem own_nil {W : World} {B : Nat} {v : Value} {L : List Nat} (ho : W.ownsRow B 3 1 v L.length (ints (nums L))) (e : v = .slice none 0 0) : L = [] := by
  rw [e] at ho
  rcases ho.2 with ⟨_, hn⟩ | ⟨g, cap, cur, hv, _⟩
  · exact List.length_eq_zero_iff.1 hn
  · cases hv
theorem flat_len_le {P : List (List Nat)} (k : Nat) : (P.take k).flatten.length ≤ P.flatten.length := by
  have e : P.flatten = (P.take k).flatten ++ (P.drop k).flatten := by rw [← List.flatten_append, List.take_append_drop]
  rw [e, List.length_append]; omega
set_option maxRecDepth 100000 in
set_option maxHeartbeats 2000000 in
theorem concat_any (A : Option Addr) (c : Nat) (vs : List Value) (P : List (List Nat)) (B : Nat) (w : World) (hA : Lies w A vs) (hr : RowsO B w vs P) (hP : P.length ≤ 1000) (hF : P.flatten.length ≤ 100000) (h0 : 0 < P.flatten.length) :
    Calls Tryz.prog 32 #[.slice A P.length c] w (Row w P.flatten) := by
  obtain ⟨i0, hi, hz0, hz1, hz2⟩ := info_parts Tryz.info3
  have FT := Lib.hid (fun k (h : k < P.length) => flat_take h)
  have FLE := Lib.hid (fun k => flat_len_le (P := P) k)
  have FA := Lib.hid (show (P.take P.length).flatten = P.flatten by rw [List.take_length])
  have AT := Lib.hid (fun (k : Nat) (hk : k < P.length) (W : World) (b : Below w.heap.size w W) => show ∃ b1 o1 B1 d1, A = some ⟨b1, o1, none⟩ ∧ W.cell? ⟨b1, o1 + k, none⟩ = some (.slice B1 (P.getD k []).length d1) ∧ W.ownsRow B 3 1 (.slice B1 (P.getD k []).length d1) (P.getD k []).length (ints (nums (P.getD k []))) by
    have ho := own_below (hr.row k hk) b
    have hl := hr.len
    obtain ⟨b1, o1, e1, hb1, hc1⟩ := hA.below b (by omega)
    have hc := hc1 k (by omega)
    have ev : vs[k]? = some (vs.getD k undef) := by simp [List.getD, List.getElem?_eq_getElem (show k < vs.length by omega)]
    rw [ev] at hc
    obtain ⟨B1, d1, e2, _, _⟩ := own_slice ho
    rw [e2] at hc ho
    exact ⟨b1, o1, B1, d1, e1, hc, ho⟩)
  have GW := Lib.hid (fun (n : Nat) (W : World) (h0 : 0 < n) (hn : n ≤ 100000) => grow_any n W h0 hn)
  obtain ⟨m, em⟩ : ∃ m, m = P.length := ⟨_, rfl⟩
  have EM := Lib.hid em
  rw [← em] at hP FA FT ⊢
  have AT2 : RowKit.Hid (∀ (k : Nat) (hk : k < m) (W : World) (b : Below w.heap.size w W), ∃ b1 o1 B1 d1, A = some ⟨b1, o1, none⟩ ∧ W.cell? ⟨b1, o1 + k, none⟩ = some (.slice B1 (P.getD k []).length d1) ∧ W.ownsRow B 3 1 (.slice B1 (P.getD k []).length d1) (P.getD k []).length (ints (nums (P.getD k [])))) := Lib.hid (by rw [em]; exact AT.out)
  have HF := Lib.hid hF
  have H0 := Lib.hid h0
  clear hA hr em AT hF h0
  go_enter Tryz.func32, Tryz.ntmps32
  go_wp2_with fail
  go_loopw [11, 3, 5] (fun i sz _ wr => ∃ (k : Nat), k ≤ m ∧ i = .int .i64 k ∧ sz = .int .i64 (P.take k).flatten.length ∧ wr = w) (fun i _ _ _ => m - (intOf i).toNat)
  case atStart => exact ⟨0, by omega, rfl, rfl, rfl⟩
  case round =>
    obtain ⟨k, hk, rfl, rfl, ewr⟩ := hrel
    have EW := Lib.hid ewr
    by_cases hlt : k < m
    · have hlt2 : (k : Int) < m := by omega
      obtain ⟨b1, o1, B1, d1, rfl, c1, _⟩ := AT2.out k hlt wr (by rw [ewr]; exact Below.refl _ _)
      have hf1 := congrArg List.length (FT.out k hlt)
      rw [List.length_append] at hf1
      have hle := FLE.out (k + 1)
      have hmax := HF.out
      obtain ⟨x, ex⟩ : ∃ x, x = (P.getD k []).length := ⟨_, rfl⟩
      obtain ⟨y, ey⟩ : ∃ y, y = (P.take k).flatten.length := ⟨_, rfl⟩
      obtain ⟨z, ez⟩ : ∃ z, z = (P.take (k + 1)).flatten.length := ⟨_, rfl⟩
      rw [← ex] at c1 hf1
      rw [← ey] at hf1 ⊢
      rw [← ez] at hf1 hle
      have EZ := Lib.hid ez
      have hw : IntKind.i64.wrap ((y : Int) + (x : Int)) = ((z : Nat) : Int) := by rw [IntWalk.i64_in _ (by omega)]; omega
      have hneg : ¬ ((z : Nat) : Int) < 0 := by omega
      clear ewr ex ey ez
      go_wp2_with fail
      go_roundw
      case rel => exact ⟨k + 1, by omega, by go_num, by rw [← EZ.out]; exact congrArg (Value.int .i64) (by omega), EW.out⟩
      case measure => simp [intOf]; omega
    · obtain rfl : k = m := by omega
      have hlt2 : ¬ (k : Int) < k := by omega
      rw [FA.out]
      obtain ⟨n, en⟩ : ∃ n, n = P.flatten.length := ⟨_, rfl⟩
      have EN := Lib.hid en
      have GN := Lib.hid (GW.out n wr (by rw [en]; exact H0.out) (by rw [en]; exact HF.out))
      rw [← en]
      clear en ewr GW
      go_wp2_with fail
      refine GN.out.mono ?_
      rintro e w2 ⟨v2, rfl, ho, hb⟩
      have OV := Lib.hid (show w2.ownsRow w.heap.size 3 1 v2 0 [] by have := own_lower ho (Nat.le_of_eq (by rw [EW.out])); exact this)
      have BV := Lib.hid (show Below w.heap.size w w2 by have := hb; rw [EW.out] at this; exact this)
      clear ho hb GN
      go_wp2_with fail
      go_loopw [27, 6, 8] (fun i v _ wr => ∃ (q : Nat), q ≤ k ∧ i = .int .i64 q ∧ wr.ownsRow w.heap.size 3 1 v (P.take q).flatten.length (ints (nums (P.take q).flatten)) ∧ Below w.heap.size w wr) (fun i _ _ _ => k - (intOf i).toNat)
      case atStart => exact ⟨0, by omega, rfl, OV.out, BV.out⟩
      case round =>
        obtain ⟨q, hq, rfl, ho, hb⟩ := hrel
        have OQ := Lib.hid ho
        have BQ := Lib.hid hb
        clear ho
        by_cases hlq : q < k
        · have hlq2 : (q : Int) < k := by omega
          obtain ⟨b1, o1, B1, d1, rfl, c1, o3⟩ := AT2.out q hlq _ hb
          have O3 := Lib.hid o3
          have FQ := Lib.hid (FT.out q hlq)
          have hle := FLE.out (q + 1)
          have hmax := HF.out
          rw [FQ.out, List.length_append] at hle
          have NW := Lib.hid (fun a (e : B1 = some a) j u hj => (own_news o3).1 a e j u hj)
          have NN := Lib.hid (own_news o3).2
          obtain ⟨x, ex⟩ : ∃ x, x = (P.getD q []).length := ⟨_, rfl⟩
          have EX := Lib.hid ex
          rw [← ex] at c1 hle NN
          clear hb o3 ex
          go_wp2_with (at_builtin; refine wpList_append_onto _ rfl _ _ 36 rfl w.heap.size 3 i0 (.int .i64 0) 1 8 Tryz.underlying36 hi hz0 hz1 hz2 rfl (by decide) _ _ _ rfl OQ.out B1 _ _ (ints (nums (P.getD q []))) rfl (by rw [ints_length, nums_len, EX.out]; omega) NW.out NN.out (ints_one _) (by unfold maxLen; omega) (by omega) BQ.out.size ?_; intro v9 w9 hown9 hgrow9 hfr9; have O9 := Lib.hid hown9; have G9 := Lib.hid hgrow9; clear hown9 hgrow9 hfr9)
          go_roundw
          case rel =>
            refine ⟨q + 1, by omega, by go_num, ?_, ?_⟩
            · rw [FQ.out, List.length_append, flat_ints, ← EX.out]
              exact O9.out
            · exact grown_below BQ.out BQ.out.size G9.out (fun k e => (OQ.out.lt k e).1)
          case measure => simp [intOf]; omega
        · obtain rfl : q = k := by omega
          have hlq2 : ¬ (q : Int) < q := by omega
          rw [FA.out] at OQ
          clear hb
          go_wp2_with fail
          go_ret
          refine ⟨⟨_, rfl, OQ.out, fun e => own_nil OQ.out e, fun e => ?_⟩, BQ.out⟩
          have := H0.out
          rw [e] at this
          simp at this
noncomputable def ordOf (g : Gr) : List Nat := if rightB g then (pG (graphOf g)).flatten else []
theorem pG_flat_len {G : List (List Nat)} (hR : RG G) (h0 : 0 < G.length) : 0 < (pG G).flatten.length ∧ (pG G).flatten.length ≤ 100000 := by
  obtain ⟨h1, h2⟩ := pG_small hR
  obtain ⟨j, hj, _, _, hm, _⟩ := place_of hR h0
  refine ⟨?_, ?_⟩
  · refine List.length_pos_of_mem (a := 0) (List.mem_flatten.2 ⟨_, ?_, hm⟩)
    simp only [List.getD, List.getElem?_eq_getElem hj, Option.getD_some]
    exact List.getElem_mem hj
  · have hb : ∀ (P : List (List Nat)), (∀ l ∈ P, l.length ≤ 64) → P.flatten.length ≤ 64 * P.length := by
      intro P
      induction P with
      | nil => intro _; simp
      | cons a P ih =>
        intro h
        have h3 := h a (List.mem_cons_self ..)
        have h4 := ih fun l hl => h l (List.mem_cons_of_mem _ hl)
        simp only [List.flatten_cons, List.length_append, List.length_cons]
        omega
    have := hb (pG G) (fun l hl => by
      obtain ⟨i, hi, rfl⟩ := List.getElem_of_mem hl
      have := (h2 i hi).2
      simpa [List.getD, List.getElem?_eq_getElem hi] using this)
    omega
set_option maxRecDepth 100000 in
set_option maxHeartbeats 1000000 in
theorem sOrder_any (g : Gr) (w : World) (hg : Gr.At w g) (hin : Gr.In g) (hc : Capd g) : Calls Tryz.prog 14 #[g.val] w (Row w (ordOf g)) := by
  have HB1 := Lib.hid (B1 w (.cells #[.slice g.RA g.rules.length g.rc, .slice g.NA g.nodes.length g.nc] 31))
  cases hr : rightB g with
  | false =>
    have C1 := Lib.hid (sWork_no g _ (hg.below HB1.out) hin hr)
    have E := Lib.hid (show ordOf g = [] by unfold ordOf; rw [hr]; rfl)
    rw [E.out]
    clear hg hin hc hr
    show Calls Tryz.prog 14 #[.agg #[.slice g.RA g.rules.length g.rc, .slice g.NA g.nodes.length g.nc]] w _
    go_enter Tryz.func14, Tryz.ntmps14
    go_wp2_with (go_at_call 30; (refine C1.out.mono ?_); rintro e w1 ⟨rfl, hb⟩; have H1 := Lib.hid (bb HB1.out hb); clear hb)
    go_ret
    exact row_nil _ _ H1.out
  | true =>
    have hR := rightB_true.1 hr
    have C1 := Lib.hid (sWork_yes g _ (hg.below HB1.out) hin hc hR)
    have RG1 := Lib.hid (graphOf_RG hR)
    have E := Lib.hid (show ordOf g = (pG (graphOf g)).flatten by unfold ordOf; rw [hr]; rfl)
    have FL := Lib.hid (pG_flat_len RG1.out (by rw [graphOf_len]; exact hR.rules.1))
    have SM := Lib.hid (pG_small RG1.out)
    rw [E.out]
    generalize graphOf g = G at *
    clear hg hin hc hr hR E
    show Calls Tryz.prog 14 #[.agg #[.slice g.RA g.rules.length g.rc, .slice g.NA g.nodes.length g.nc]] w _
    go_enter Tryz.func14, Tryz.ntmps14
    go_upto_region 4 with (go_at_call 30; (refine C1.out.mono ?_); rintro e w1 ⟨p, rfl, hs, hb⟩; have HS := Lib.hid hs; have H1 := Lib.hid (bb HB1.out hb); clear hb hs)
    obtain ⟨A, c, vs, GA, gc, gvs, hS⟩ := HS.out.out
    have c0 := hS.box.cell 0
    simp only [List.getElem?_toArray, List.getElem?_cons_zero] at c0
    have CC := Lib.hid (concat_any A c vs (pG G) (w.alloc (.cells #[.slice g.RA g.rules.length g.rc, .slice g.NA g.nodes.length g.nc] 31)).heap.size w1 (own_lies1 hS.own) hS.rows (by have := SM.out.1; omega) FL.out.2 FL.out.1)
    obtain ⟨L, eL⟩ : ∃ L, L = (pG G).flatten := ⟨_, rfl⟩
    obtain ⟨m, em⟩ : ∃ m, m = (pG G).length := ⟨_, rfl⟩
    rw [← em] at c0
    rw [← eL, ← em] at CC
    have EL := Lib.hid eL
    clear hS eL em
    go_wp2_with (go_at_call 32; (with_reducible refine CC.out.mono ?_); rintro e w2 ⟨⟨v, rfl, ho, hn⟩, hb⟩; have HO := Lib.hid (And.intro ho hn); have H2 := Lib.hid (H1.out.trans (hb.mono H1.out.size)); clear hb ho hn)
    go_ret
    obtain rfl := EL.out
    exact ⟨⟨v, rfl, own_lower HO.out.1 H1.out.size, HO.out.2⟩, H2.out⟩
end Go.Proofs.YtmlaepbmdfmgbaaGreat

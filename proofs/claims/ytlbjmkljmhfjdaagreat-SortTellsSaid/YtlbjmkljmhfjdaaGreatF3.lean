/- sort: All; slices.Grow laid off the shelf; Concat, Order. -/
import Derived.Test.YtlbjmkljmhfjdaaGreatF2
import Derived.Shelf.Spec.SlicesGrow
import Derived.Test.YtlbjmkljmhfjdaaGreatE7
import Derived.Deep.RegionHeld3
import Derived.Test.YtlbjmkljmhfjdaaGreatE5
set_option linter.unusedSimpArgs false
set_option linter.unusedVariables false
namespace Go.Proofs.YtlbjmkljmhfjdaaGreat
open Go Go.RowKit Go.Maps Go.Shelf
noncomputable def allOf (g : Gr) : List Nat := if rightB g then (List.range g.rules.length).map (sortN (graphOf g)) else []
/-- A row of numbers, as a block. -/
theorem own_of_blk {W : World} {B b e : Nat} {l : List Int} (h : Blk W b (ints l).toArray e) (hB : B ≤ b) (hm : l.length ≤ maxLen) : W.ownsRow B e 1 (.slice (some ⟨b, 0, none⟩) l.length l.length) l.length (ints l) :=
  ⟨by rw [ints_length]; omega, .inr ⟨b, l.length, (ints l).toArray, rfl, hB, h, Nat.le_refl _, hm, by rw [List.size_toArray, ints_length]; omega, by rw [List.toList_toArray, List.take_of_length_le (by rw [ints_length]; omega)]⟩⟩
set_option maxRecDepth 100000 in
set_option maxHeartbeats 2000000 in
theorem sAll_any (g : Gr) (w : World) (hg : Gr.At w g) (hin : Gr.In g) (hc : Capd g) : Calls Tryz.prog 57 #[g.val] w fun e w' => (∃ v, e = .returned v ∧ w'.ownsRow w.heap.size 57 1 v (allOf g).length (ints (nums (allOf g)))) ∧ Below w.heap.size w w' := by
  have HB1 := Lib.hid (B1 w (.cells #[.slice g.RA g.rules.length g.rc, .slice g.NA g.nodes.length g.nc] 25))
  obtain ⟨i0, hi, hz0, hz1, hz2⟩ := info_parts (show (Tryz.prog.info? 57).map (fun i => (i.zero, i.size, i.bytes)) = some (some (.int .i64 0), 1, 8) by kernel_rfl)
  cases hr : rightB g with
  | false =>
    have C1 := Lib.hid (sWork_no g _ (hg.below HB1.out) hin hr)
    have E := Lib.hid (show allOf g = [] by unfold allOf; rw [hr]; rfl)
    rw [E.out]
    clear hg hin hc hr
    show Calls Tryz.prog 57 #[.agg #[.slice g.RA g.rules.length g.rc, .slice g.NA g.nodes.length g.nc]] w _
    go_enter Tryz.func57, Tryz.ntmps57
    go_wp2_with (go_at_call 127; (refine C1.out.mono ?_); rintro e w1 ⟨rfl, hb⟩; have H1 := Lib.hid (bb HB1.out hb); clear hb)
    go_ret
    exact ⟨⟨_, rfl, World.ownsRow_nil _ _ _ _⟩, H1.out⟩
  | true =>
    have hR := rightB_true.1 hr
    have C1 := Lib.hid (sWork_yes g _ (hg.below HB1.out) hin hc hR)
    have RG1 := Lib.hid (graphOf_RG hR)
    have GL := Lib.hid (graphOf_len g)
    have E := Lib.hid (show allOf g = (List.range g.rules.length).map (sortN (graphOf g)) by unfold allOf; rw [hr]; rfl)
    have h32 := hR.rules.2
    rw [← GL.out] at h32 E
    rw [E.out]
    generalize graphOf g = G at *
    obtain ⟨LL, eLL⟩ : ∃ LL, LL = (List.range G.length).map (sortN G) := ⟨_, rfl⟩
    have ELL := Lib.hid eLL
    rw [← eLL]
    clear hg hin hc hr hR GL E eLL
    show Calls Tryz.prog 57 #[.agg #[.slice g.RA g.rules.length g.rc, .slice g.NA g.nodes.length g.nc]] w _
    go_enter Tryz.func57, Tryz.ntmps57
    go_upto_region 4 with (go_at_call 127; (refine C1.out.mono ?_); rintro e w1 ⟨p, rfl, hs, hb⟩; have HS := Lib.hid hs; have H1 := Lib.hid (bb HB1.out hb); clear hb hs)
    obtain ⟨A, c, vs, GA, gc, gvs, hS⟩ := HS.out.out
    have c1 := hS.box.cell 1
    simp only [List.getElem?_toArray, List.getElem?_cons_zero, List.getElem?_cons_succ] at c1
    have CN := Lib.hid (fun (W : World) (b : Below w1.heap.size w1 W) (i : Nat) (hi : i < G.length) => sSort_any (HS.out.below b) RG1.out i hi)
    obtain ⟨m, em⟩ : ∃ m, m = G.length := ⟨_, rfl⟩
    have EM := Lib.hid em
    rw [← em] at c1 h32
    have CN2 : RowKit.Hid (∀ (W : World), Below w1.heap.size w1 W → ∀ (i : Nat), i < m → Calls Tryz.prog 128 #[.pointer (some ⟨p, 0, none⟩), .int .i64 i] W fun e w' => e = .returned (.int .i64 (sortN G i)) ∧ Below W.heap.size W w') := Lib.hid (by rw [em]; exact CN.out)
    have hmk : (Instr.makeSlice 55 (.int .i64 m) (.int .i64 m)).run Tryz.prog w1 = .ok (.slice (some ⟨w1.heap.size, 0, none⟩) m m) (w1.alloc (.cells (List.replicate m (Value.int .i64 0)).toArray 57)) := by
      have hr := run_make (P := Tryz.prog) w1 55 57 i0 (.int .i64 0) Tryz.underlying55 hi hz0 .i64 .i64 (m : Nat) (m : Nat) (by omega) (by omega) (by rw [hz2]; omega) (by omega)
      have e : madeCells (Value.int .i64 0).cells (m * 1) = (List.replicate m (Value.int .i64 0)).toArray := by
        apply Array.ext
        · simp [madeCells]
        · intro k h1 h2
          simp [madeCells, Value.cells, Nat.mod_one]
      rw [hz1, Int.toNat_natCast, e] at hr
      exact hr
    clear hS em CN
    go_wp2_with fail
    obtain ⟨sb, esb⟩ : ∃ u, u = w1.heap.size := ⟨_, rfl⟩
    have K0 : RowKit.Hid (Blk (w1.alloc (.cells (Array.replicate m (Value.int .i64 0)) 57)) sb (ints (List.replicate m 0)).toArray 57) := Lib.hid (by
      rw [esb, show (ints (List.replicate m 0)).toArray = Array.replicate m (Value.int .i64 0) from by simp [ints]]
      exact Blk.new _ _ _)
    have ESB := Lib.hid (show w1.heap.size ≤ sb by omega)
    have hb12 := B1 w1 (.cells (Array.replicate m (Value.int .i64 0)) 57)
    first | rw [← esb] | skip
    generalize w1.alloc (.cells (Array.replicate m (Value.int .i64 0)) 57) = w2 at K0 hb12 ⊢
    have HB12 := Lib.hid hb12
    clear hb12 hmk esb c1
    go_loopw [22, 6] (fun i _ wr => ∃ (k : Nat) (l : List Int), k ≤ m ∧ i = .int .i64 k ∧ l.length = m ∧ (∀ j, j < k → l.getD j 0 = sortN G j) ∧ Blk wr sb (ints l).toArray 57 ∧ Below w1.heap.size w1 wr) (fun i _ _ => m - (RowKit.intOf i).toNat)
    case atStart => exact ⟨0, _, by omega, rfl, List.length_replicate .., fun j h => by omega, K0.out, HB12.out⟩
    case round =>
      obtain ⟨k, l, hk, rfl, hl, hz, hkb, hb⟩ := hrel
      have HZ := Lib.hid hz
      have HL := Lib.hid hl
      have KB := Lib.hid hkb
      have BL := Lib.hid hb
      clear hz hb hkb hl
      by_cases hlt : k < m
      · have hlt2 : (k : Int) < m := by omega
        have CC := Lib.hid (CN2.out wr BL.out k hlt)
        generalize hq : sortN G k = q at CC
        have HQ := Lib.hid hq
        clear hq
        go_wp2_with fail
        refine CC.out.mono ?_
        rintro e w3 ⟨rfl, hb⟩
        have K3 := Lib.hid (KB.out.below' hb)
        have B3 := Lib.hid (BL.out.trans (hb.mono BL.out.size))
        have c5 := K3.out.cell k
        have f5 := K3.out.frozen k
        rw [List.getElem?_toArray, ints_at (by rw [HL.out]; exact hlt)] at c5
        clear hb
        go_wp2_with fail
        go_roundw
        case rel =>
          refine ⟨k + 1, l.set k q, by omega, by go_num, by rw [List.length_set]; exact HL.out, fun j hj => ?_, ?_, B3.out.setCell (p := ⟨sb, k, none⟩) ESB.out _⟩
          · by_cases e : j = k
            · rw [e, HQ.out]; simp [List.getD, HL.out, hlt]
            · have := HZ.out j (by omega)
              simp only [List.getD] at this ⊢
              rw [List.getElem?_set_ne (fun h => e h.symm)]
              exact this
          · have := K3.out.put (k := k) (.int .i64 q)
            rw [ints_set] at this
            exact this
        case measure => simp [RowKit.intOf]; omega
      · obtain rfl : k = m := by omega
        have hlt2 : ¬ (k : Int) < k := by omega
        go_wp2_with fail
        go_ret
        have e : l = nums LL := by
          rw [ELL.out]
          apply List.ext_getElem
          · rw [nums_len, List.length_map, List.length_range, HL.out, EM.out]
          · intro j h1 h2
            have := HZ.out j (by rw [← HL.out]; exact h1)
            simp only [List.getD, List.getElem?_eq_getElem h1, Option.getD_some] at this
            rw [this]
            simp [nums]
        have hln : LL.length = k := by rw [ELL.out, List.length_map, List.length_range, EM.out]
        refine ⟨⟨_, rfl, ?_⟩, H1.out.trans (BL.out.mono H1.out.size)⟩
        rw [hln, ← e]
        have := own_of_blk (B := w.heap.size) KB.out (by have := H1.out.size; have := ESB.out; omega) (by rw [HL.out]; unfold maxLen; omega)
        rw [HL.out] at this
        exact this
end Go.Proofs.YtlbjmkljmhfjdaaGreat
namespace Go.Proofs.YtlbjmkljmhfjdaaGreat
open Go Go.RowKit Go.Maps Go.Shelf
def Tryz.growI_ren : Go.Shelf.Ren := ⟨fun | 4 => 194 | n => n, fun | 0 => 0 | 3 => 3 | 4 => 4 | 9 => 9 | 20 => 20 | 22 => 38 | 25 => 3 | n => n, fun | n => n⟩
theorem Tryz.growI : Go.Proofs.Lays8.n4 Tryz.prog Tryz.growI_ren := {
  mixed := by kernel_rfl
  f4 := ⟨ "slices.Grow[[]int,int]", by decide, Tryz.func194.trans (congrArg some (by kernel_rfl))⟩
  t0 := Tryz.underlying0
  a0 := Tryz.isAgg0
  z0 := Tryz.sizeOf0
  v0 := Tryz.zeroValue0
  t3 := Tryz.underlying3
  a3 := Tryz.isAgg3
  z3 := Tryz.sizeOf3
  v3 := Tryz.zeroValue3
  t4 := Tryz.underlying4
  a4 := Tryz.isAgg4
  z4 := Tryz.sizeOf4
  v4 := Tryz.zeroValue4
  t9 := Tryz.underlying9
  a9 := Tryz.isAgg9
  z9 := Tryz.sizeOf9
  v9 := Tryz.zeroValue9
  t20 := Tryz.underlying20
  a20 := Tryz.isAgg20
  z20 := Tryz.sizeOf20
  v20 := Tryz.zeroValue20
  t22 := Tryz.underlying38
  a22 := Tryz.isAgg38
  z22 := Tryz.sizeOf38
  v22 := Tryz.zeroValue38 }
/-- Grow of nothing: room of its own. -/
theorem grow_any (n : Nat) (w : World) (h0 : 0 < n) (hn : n ≤ 100000) : Calls Tryz.prog 194 #[.slice none 0 0, .int .i64 n] w fun e w' => ∃ v, e = .returned v ∧ w'.ownsRow w.heap.size 3 1 v 0 [] ∧ Below w.heap.size w w' := by
  obtain ⟨i0, hi, hz0, hz1, hz2⟩ := info_parts Tryz.info3
  refine (Any8.slices_Grow_grow Tryz.growI i0 (.int .i64 0) hi hz0 (by rw [hz1]; decide) none 0 0 n [] w (Nat.le_refl _) (by omega) (by rw [hz2]; omega) (by omega) (by simp) (fun _ => rfl) (fun a h => by cases h)).mono ?_
  rintro e w' ⟨rfl, rfl⟩
  have hge := grownCap_ge w (0 + n) 0 (Tryz.growI_ren.t 25)
  have hle := grownCap_le_maxLen w (0 + n) 0 (Tryz.growI_ren.t 25) (by unfold maxLen; omega)
  obtain ⟨cap, ec⟩ : ∃ c, c = grownCap w (0 + n) 0 (Tryz.growI_ren.t 25) := ⟨_, rfl⟩
  rw [← ec] at hge hle ⊢
  refine ⟨_, rfl, ⟨rfl, .inr ⟨w.heap.size, cap, _, rfl, Nat.le_refl _, Blk.new w.drew _ _, Nat.zero_le _, hle, ?_, by simp⟩⟩, ((Below.refl w.heap.size w.drew).alloc (Nat.le_refl _) _ : Below w.heap.size w.drew _).os, rfl, rfl, by simp, fun k hk => Below.heap_alloc w.drew _ k hk⟩
  simp [Builtin.zeroCells, Value.cells]
  omega
/-- What is laid out of a row of rows. -/
theorem flat_take {P : List (List Nat)} {k : Nat} (h : k < P.length) : (P.take (k + 1)).flatten = (P.take k).flatten ++ P.getD k [] := by
  rw [List.take_add_one, List.flatten_append]
  congr 1
  simp [List.getD, List.getElem?_eq_getElem h]
theorem flat_ints (a b : List Nat) : ints (nums (a ++ b)) = ints (nums a) ++ ints (nums b) := by simp [ints, nums]
theorem own_nil {W : World} {B : Nat} {v : Value} {L : List Nat} (ho : W.ownsRow B 3 1 v L.length (ints (nums L))) (e : v = .slice none 0 0) : L = [] := by
  rw [e] at ho
  rcases ho.2 with ⟨_, hn⟩ | ⟨g, cap, cur, hv, _⟩
  · exact List.length_eq_zero_iff.1 hn
  · cases hv
theorem flat_len_le {P : List (List Nat)} (k : Nat) : (P.take k).flatten.length ≤ P.flatten.length := by
  have e : P.flatten = (P.take k).flatten ++ (P.drop k).flatten := by rw [← List.flatten_append, List.take_append_drop]
  rw [e, List.length_append]; omega
set_option maxRecDepth 100000 in
set_option maxHeartbeats 2000000 in
theorem concat_any (A : Option Addr) (c : Nat) (vs : List Value) (P : List (List Nat)) (B : Nat) (w : World) (hA : Lies w A vs) (hr : RowsO B w vs P) (hP : P.length ≤ 1000) (hF : P.flatten.length ≤ 100000) (h0 : 0 < P.flatten.length) :
    Calls Tryz.prog 132 #[.slice A P.length c] w (Row w P.flatten) := by
  obtain ⟨i0, hi, hz0, hz1, hz2⟩ := info_parts Tryz.info3
  have FT := Lib.hid (fun k (h : k < P.length) => flat_take h)
  have FLE := Lib.hid (fun k => flat_len_le (P := P) k)
  have FA := Lib.hid (show (P.take P.length).flatten = P.flatten by rw [List.take_length])
  have AT := Lib.hid (fun (k : Nat) (hk : k < P.length) (W : World) (b : Below w.heap.size w W) => show ∃ b1 o1 B1 d1, A = some ⟨b1, o1, none⟩ ∧ W.cell? ⟨b1, o1 + k, none⟩ = some (.slice B1 (P.getD k []).length d1) ∧ W.ownsRow B 3 1 (.slice B1 (P.getD k []).length d1) (P.getD k []).length (ints (nums (P.getD k []))) by
    have ho := own_below (hr.row k hk) b
    have hl := hr.len
    obtain ⟨b1, o1, e1, hb1, hc1⟩ := hA.below b (by omega)
    have hc := hc1 k (by omega)
    have ev : vs[k]? = some (vs.getD k undef) := by simp [List.getD, List.getElem?_eq_getElem (show k < vs.length by omega)]
    rw [ev] at hc
    obtain ⟨B1, d1, e2, _, _⟩ := own_slice ho
    rw [e2] at hc ho
    exact ⟨b1, o1, B1, d1, e1, hc, ho⟩)
  have GW := Lib.hid (fun (n : Nat) (W : World) (h0 : 0 < n) (hn : n ≤ 100000) => grow_any n W h0 hn)
  obtain ⟨m, em⟩ : ∃ m, m = P.length := ⟨_, rfl⟩
  have EM := Lib.hid em
  rw [← em] at hP FA FT ⊢
  have AT2 : RowKit.Hid (∀ (k : Nat) (hk : k < m) (W : World) (b : Below w.heap.size w W), ∃ b1 o1 B1 d1, A = some ⟨b1, o1, none⟩ ∧ W.cell? ⟨b1, o1 + k, none⟩ = some (.slice B1 (P.getD k []).length d1) ∧ W.ownsRow B 3 1 (.slice B1 (P.getD k []).length d1) (P.getD k []).length (ints (nums (P.getD k [])))) := Lib.hid (by rw [em]; exact AT.out)
  have HF := Lib.hid hF
  have H0 := Lib.hid h0
  clear hA hr em AT hF h0
  go_enter Tryz.func132, Tryz.ntmps132
  go_wp2_with fail
  go_loopw [11, 3, 5] (fun i sz _ wr => ∃ (k : Nat), k ≤ m ∧ i = .int .i64 k ∧ sz = .int .i64 (P.take k).flatten.length ∧ wr = w) (fun i _ _ _ => m - (RowKit.intOf i).toNat)
  case atStart => exact ⟨0, by omega, rfl, rfl, rfl⟩
  case round =>
    obtain ⟨k, hk, rfl, rfl, ewr⟩ := hrel
    have EW := Lib.hid ewr
    by_cases hlt : k < m
    · have hlt2 : (k : Int) < m := by omega
      obtain ⟨b1, o1, B1, d1, rfl, c1, _⟩ := AT2.out k hlt wr (by rw [ewr]; exact Below.refl _ _)
      have hf1 := congrArg List.length (FT.out k hlt)
      rw [List.length_append] at hf1
      have hle := FLE.out (k + 1)
      have hmax := HF.out
      obtain ⟨x, ex⟩ : ∃ x, x = (P.getD k []).length := ⟨_, rfl⟩
      obtain ⟨y, ey⟩ : ∃ y, y = (P.take k).flatten.length := ⟨_, rfl⟩
      obtain ⟨z, ez⟩ : ∃ z, z = (P.take (k + 1)).flatten.length := ⟨_, rfl⟩
      rw [← ex] at c1 hf1
      rw [← ey] at hf1 ⊢
      rw [← ez] at hf1 hle
      have EZ := Lib.hid ez
      have hw : IntKind.i64.wrap ((y : Int) + (x : Int)) = ((z : Nat) : Int) := by rw [IntWalk.i64_in _ (by omega)]; omega
      have hneg : ¬ ((z : Nat) : Int) < 0 := by omega
      clear ewr ex ey ez
      go_wp2_with fail
      go_roundw
      case rel => exact ⟨k + 1, by omega, by go_num, by rw [← EZ.out]; exact congrArg (Value.int .i64) (by omega), EW.out⟩
      case measure => simp [RowKit.intOf]; omega
    · obtain rfl : k = m := by omega
      have hlt2 : ¬ (k : Int) < k := by omega
      rw [FA.out]
      obtain ⟨n, en⟩ : ∃ n, n = P.flatten.length := ⟨_, rfl⟩
      have EN := Lib.hid en
      have GN := Lib.hid (GW.out n wr (by rw [en]; exact H0.out) (by rw [en]; exact HF.out))
      rw [← en]
      clear en ewr GW
      go_wp2_with fail
      refine GN.out.mono ?_
      rintro e w2 ⟨v2, rfl, ho, hb⟩
      have OV := Lib.hid (show w2.ownsRow w.heap.size 3 1 v2 0 [] by have := own_lower ho (Nat.le_of_eq (by rw [EW.out])); exact this)
      have BV := Lib.hid (show Below w.heap.size w w2 by have := hb; rw [EW.out] at this; exact this)
      clear ho hb GN
      go_wp2_with fail
      go_loopw [27, 6, 8] (fun i v _ wr => ∃ (q : Nat), q ≤ k ∧ i = .int .i64 q ∧ wr.ownsRow w.heap.size 3 1 v (P.take q).flatten.length (ints (nums (P.take q).flatten)) ∧ Below w.heap.size w wr) (fun i _ _ _ => k - (RowKit.intOf i).toNat)
      case atStart => exact ⟨0, by omega, rfl, OV.out, BV.out⟩
      case round =>
        obtain ⟨q, hq, rfl, ho, hb⟩ := hrel
        have OQ := Lib.hid ho
        have BQ := Lib.hid hb
        clear ho
        by_cases hlq : q < k
        · have hlq2 : (q : Int) < k := by omega
          obtain ⟨b1, o1, B1, d1, rfl, c1, o3⟩ := AT2.out q hlq _ hb
          have O3 := Lib.hid o3
          have FQ := Lib.hid (FT.out q hlq)
          have hle := FLE.out (q + 1)
          have hmax := HF.out
          rw [FQ.out, List.length_append] at hle
          have NW := Lib.hid (fun a (e : B1 = some a) j u hj => (own_news o3).1 a e j u hj)
          have NN := Lib.hid (own_news o3).2
          obtain ⟨x, ex⟩ : ∃ x, x = (P.getD q []).length := ⟨_, rfl⟩
          have EX := Lib.hid ex
          rw [← ex] at c1 hle NN
          clear hb o3 ex
          go_wp2_with (at_builtin; refine wpList_append_onto _ rfl _ _ 38 rfl w.heap.size 3 i0 (.int .i64 0) 1 8 Tryz.underlying38 hi hz0 hz1 hz2 rfl (by decide) _ _ _ rfl OQ.out B1 _ _ (ints (nums (P.getD q []))) rfl (by rw [ints_length, nums_len, EX.out]; omega) NW.out NN.out (ints_one _) (by unfold maxLen; omega) (by omega) BQ.out.size ?_; intro v9 w9 hown9 hgrow9 hfr9; have O9 := Lib.hid hown9; have G9 := Lib.hid hgrow9; clear hown9 hgrow9 hfr9)
          go_roundw
          case rel =>
            refine ⟨q + 1, by omega, by go_num, ?_, ?_⟩
            · rw [FQ.out, List.length_append, flat_ints, ← EX.out]
              exact O9.out
            · exact grown_below BQ.out BQ.out.size G9.out (fun k e => (OQ.out.lt k e).1)
          case measure => simp [RowKit.intOf]; omega
        · obtain rfl : q = k := by omega
          have hlq2 : ¬ (q : Int) < q := by omega
          rw [FA.out] at OQ
          clear hb
          go_wp2_with fail
          go_ret
          refine ⟨⟨_, rfl, OQ.out, fun e => own_nil OQ.out e, fun e => ?_⟩, BQ.out⟩
          have := H0.out
          rw [e] at this
          simp at this
noncomputable def ordOf (g : Gr) : List Nat := if rightB g then (pG (graphOf g)).flatten else []
theorem pG_flat_len {G : List (List Nat)} (hR : RG G) (h0 : 0 < G.length) : 0 < (pG G).flatten.length ∧ (pG G).flatten.length ≤ 100000 := by
  obtain ⟨h1, h2⟩ := pG_small hR
  obtain ⟨j, hj, _, _, hm, _⟩ := place_of hR h0
  refine ⟨?_, ?_⟩
  · refine List.length_pos_of_mem (a := 0) (List.mem_flatten.2 ⟨_, ?_, hm⟩)
    simp only [List.getD, List.getElem?_eq_getElem hj, Option.getD_some]
    exact List.getElem_mem hj
  · have hb : ∀ (P : List (List Nat)), (∀ l ∈ P, l.length ≤ 64) → P.flatten.length ≤ 64 * P.length := by
      intro P
      induction P with
      | nil => intro _; simp
      | cons a P ih =>
        intro h
        have h3 := h a (List.mem_cons_self ..)
        have h4 := ih fun l hl => h l (List.mem_cons_of_mem _ hl)
        simp only [List.flatten_cons, List.length_append, List.length_cons]
        omega
    have := hb (pG G) (fun l hl => by
      obtain ⟨i, hi, rfl⟩ := List.getElem_of_mem hl
      have := (h2 i hi).2
      simpa [List.getD, List.getElem?_eq_getElem hi] using this)
    omega
set_option maxRecDepth 100000 in
set_option maxHeartbeats 1000000 in
theorem sOrder_any (g : Gr) (w : World) (hg : Gr.At w g) (hin : Gr.In g) (hc : Capd g) : Calls Tryz.prog 60 #[g.val] w (Row w (ordOf g)) := by
  have HB1 := Lib.hid (B1 w (.cells #[.slice g.RA g.rules.length g.rc, .slice g.NA g.nodes.length g.nc] 25))
  cases hr : rightB g with
  | false =>
    have C1 := Lib.hid (sWork_no g _ (hg.below HB1.out) hin hr)
    have E := Lib.hid (show ordOf g = [] by unfold ordOf; rw [hr]; rfl)
    rw [E.out]
    clear hg hin hc hr
    show Calls Tryz.prog 60 #[.agg #[.slice g.RA g.rules.length g.rc, .slice g.NA g.nodes.length g.nc]] w _
    go_enter Tryz.func60, Tryz.ntmps60
    go_wp2_with (go_at_call 127; (refine C1.out.mono ?_); rintro e w1 ⟨rfl, hb⟩; have H1 := Lib.hid (bb HB1.out hb); clear hb)
    go_ret
    exact row_nil _ _ H1.out
  | true =>
    have hR := rightB_true.1 hr
    have C1 := Lib.hid (sWork_yes g _ (hg.below HB1.out) hin hc hR)
    have RG1 := Lib.hid (graphOf_RG hR)
    have E := Lib.hid (show ordOf g = (pG (graphOf g)).flatten by unfold ordOf; rw [hr]; rfl)
    have FL := Lib.hid (pG_flat_len RG1.out (by rw [graphOf_len]; exact hR.rules.1))
    have SM := Lib.hid (pG_small RG1.out)
    rw [E.out]
    generalize graphOf g = G at *
    clear hg hin hc hr hR E
    show Calls Tryz.prog 60 #[.agg #[.slice g.RA g.rules.length g.rc, .slice g.NA g.nodes.length g.nc]] w _
    go_enter Tryz.func60, Tryz.ntmps60
    go_upto_region 4 with (go_at_call 127; (refine C1.out.mono ?_); rintro e w1 ⟨p, rfl, hs, hb⟩; have HS := Lib.hid hs; have H1 := Lib.hid (bb HB1.out hb); clear hb hs)
    obtain ⟨A, c, vs, GA, gc, gvs, hS⟩ := HS.out.out
    have c0 := hS.box.cell 0
    simp only [List.getElem?_toArray, List.getElem?_cons_zero] at c0
    have CC := Lib.hid (concat_any A c vs (pG G) (w.alloc (.cells #[.slice g.RA g.rules.length g.rc, .slice g.NA g.nodes.length g.nc] 25)).heap.size w1 (own_lies1 hS.own) hS.rows (by have := SM.out.1; omega) FL.out.2 FL.out.1)
    obtain ⟨L, eL⟩ : ∃ L, L = (pG G).flatten := ⟨_, rfl⟩
    obtain ⟨m, em⟩ : ∃ m, m = (pG G).length := ⟨_, rfl⟩
    rw [← em] at c0
    rw [← eL, ← em] at CC
    have EL := Lib.hid eL
    clear hS eL em
    go_wp2_with (go_at_call 132; (with_reducible refine CC.out.mono ?_); rintro e w2 ⟨⟨v, rfl, ho, hn⟩, hb⟩; have HO := Lib.hid (And.intro ho hn); have H2 := Lib.hid (H1.out.trans (hb.mono H1.out.size)); clear hb ho hn)
    go_ret
    obtain rfl := EL.out
    exact ⟨⟨v, rfl, own_lower HO.out.1 H1.out.size, HO.out.2⟩, H2.out⟩
end Go.Proofs.YtlbjmkljmhfjdaaGreat
namespace Go.Proofs.YtlbjmkljmhfjdaaGreat
open Go Go.Proofs Go.RowKit Go.Lib Go.Maps
set_option maxRecDepth 100000 in
set_option maxHeartbeats 16000000 in
theorem r14sort_any (G : List (List Nat)) (hR : RG G) (a : Nat) (ha : a < G.length) (A : Option Addr) (c : Nat) (w : World) (hx : RR w A G) :
    Calls Tryz.prog 133 #[.slice A G.length c, .int .i64 a] w fun e w' => e = .returned (.int .i64 (sortN G a)) ∧ Below w.heap.size w w' := by
  have RN := Lib.hid (r13Ring_any G hR a ha A c w hx)
  have PT := Lib.hid (fun W (b : Below w.heap.size w W) => r13Part_any G hR a ha A c W (hx.below b))
  have PA := Lib.hid (fun W (b : Below w.heap.size w W) => r13Parts_any G hR A c W (hx.below b))
  have HX := Lib.hid (fun (W : World) (b : Below w.heap.size w W) => (hx.below b).row ha)
  have hpos := (pos_of hR ha).1
  have EPT := Lib.hid (show (pG G).getD (posG G a) [] = ptG G a from (pos_of hR ha).2.2.1)
  have EO : othB G a = decide (1 < (ptG G a).length) := rfl
  have ES := Lib.hid (selfK_all G a)
  have hself : 1 ≤ (ptG G a).length := by
    have := (pos_of hR ha).2.2.2.1
    rw [(pos_of hR ha).2.2.1] at this
    exact List.length_pos_of_mem this
  have EN : sortN G a = (if selfB G a then (if othB G a then 3 else 1) else (if othB G a then 2 else 0)) := by
    unfold sortN
    cases selfB G a <;> cases othB G a <;> rfl
  have hln : (adjG G a).length ≤ 64 := by
    have h1 := hR.rise a
    have h2 := hR.lt a
    have h3 : (adjG G a).length ≤ G.length := nodup_le0 G.length (adjG G a) (h1.imp (fun h e => by omega)) (fun y hy => h2 y hy)
    have := hR.most
    omega
  have hpl := (part_le hR 0).2
  have hptl := ptG_le hR a
  have ha2 : (a : Int) < G.length := by omega
  clear hx hR
  generalize sortN G a = z0 at EN ⊢
  generalize posG G a = z at PT hpos EPT
  generalize adjG G a = cs at HX ES hln
  obtain ⟨pl, epl⟩ : ∃ pl, pl = (ptG G a).length := ⟨_, rfl⟩
  rw [← epl] at EO hself hptl
  have EPL := Lib.hid (show ((pG G).getD z []).length = pl from by rw [EPT.out, epl])
  clear EPT epl
  generalize othB G a = ob at RN EN EO
  generalize selfB G a = sb at RN ES EN
  generalize pG G = P at PA hpos hpl EPL
  generalize G.length = n at RN PT PA ha ha2 ⊢
  have hpos2 : (z : Int) < P.length := by omega
  have hz0 : (0 : Int) ≤ (z : Int) := by omega
  have FINI := Lib.hid (show (sb || ob) = true → (if pl = 1 then (1 : Int) else if sb then 3 else 2) = z0 from fun h => by
    rw [EN, EO] at *
    cases sb
    · have h1 : 1 < pl := by simpa using h
      rw [if_neg (by omega), decide_eq_true h1]; rfl
    · by_cases e : pl = 1
      · rw [if_pos e, decide_eq_false (by omega)]; rfl
      · rw [if_neg e, decide_eq_true (by omega)]; rfl)
  have ZERO := Lib.hid (show (sb || ob) = false → z0 = 0 from fun h => by
    rw [EN]
    cases sb <;> cases ob <;> simp_all)
  clear EN
  cases hring : (sb || ob) with
  | false =>
    rw [hring] at RN
    have Z := Lib.hid (ZERO.out hring)
    clear EO hring FINI ZERO
    go_enter Tryz.func133, Tryz.ntmps133
    go_wp2_with (go_at_call 52; (with_reducible refine RN.out.mono ?_); rintro e w1 ⟨rfl, hb⟩; have H1 := Lib.hid hb; clear hb)
    go_ret
    rw [Z.out]
    exact ⟨rfl, H1.out⟩
  | true =>
    rw [hring] at RN
    have Z := Lib.hid (FINI.out hring)
    clear EO hring FINI ZERO
    go_enter Tryz.func133, Tryz.ntmps133
    go_wp2_with (go_at_call 52; (with_reducible refine RN.out.mono ?_); rintro e w1 ⟨rfl, hb⟩; have H1 := Lib.hid hb; clear hb)
    go_loopw [5, 6] (fun bv iv wr => ∃ p : Nat, p ≤ cs.length ∧ iv = .int .i64 p ∧ bv = .bool (selfK cs a p) ∧ wr = w1) (fun _ iv _ => cs.length - (RowKit.intOf iv).toNat)
    case atStart => exact ⟨0, by omega, by go_num, by rw [selfK_zero], rfl⟩
    case round =>
      obtain ⟨p, hp, rfl, rfl, ew⟩ := hrel
      subst ew
      obtain ⟨xb, xo, Ai, ci, eA, _, cx, lx⟩ := HX.out wr H1.out
      have LX := Lib.hid lx
      subst eA
      clear lx
      by_cases hpl2 : p < cs.length
      · have hpl3 : (p : Int) < cs.length := by omega
        obtain ⟨yb, yo, eY, _, cy⟩ := lies_cell (l := nums cs) LX.out (k := p) (by rw [nums_len]; exact hpl2)
        rw [nums_at2 _ p hpl2] at cy
        subst eY
        have SN := Lib.hid (selfK_next (cs := cs) (i := a) hpl2)
        generalize cs.getD p 0 = y at cy SN
        cases hk : selfK cs a p with
        | true =>
          have NX := Lib.hid (show selfK cs a (p + 1) = true from by rw [SN.out, hk]; rfl)
          clear SN
          go_wp2_with fail
          go_roundw
          case rel =>
            have fin : ∃ p' : Nat, p' ≤ cs.length ∧ Value.int .i64 ((p : Int) + 1) = .int .i64 p' ∧ Value.bool true = .bool (selfK cs a p') ∧ wr = wr := ⟨p + 1, by omega, by go_num, by rw [NX.out], rfl⟩
            first | exact fin | exact ⟨p + 1, by omega, by go_num, by rw [NX.out], trivial⟩ | exact ⟨p + 1, by omega, by go_num, by rw [NX.out]⟩ | ((repeat apply Exists.intro); exact ⟨fin, rfl⟩)
          case measure => simp [RowKit.intOf]; omega
        | false =>
          by_cases e : y = a
          · have e2 : (y : Int) = a := by omega
            have NX := Lib.hid (show selfK cs a (p + 1) = true from by rw [SN.out, decide_eq_true e, Bool.or_true])
            clear SN
            subst e
            go_wp2_with fail
            go_roundw
            case rel =>
              first | exact ⟨p + 1, by omega, by go_num, by rw [NX.out], trivial⟩ | exact ⟨p + 1, by omega, by go_num, by rw [NX.out], rfl⟩ | exact ⟨p + 1, by omega, by go_num, by rw [NX.out]⟩ | ((repeat apply Exists.intro); exact ⟨⟨p + 1, by omega, by go_num, by rw [NX.out], rfl⟩, rfl⟩)
            case measure => simp [RowKit.intOf]; omega
          · have e2 : ¬ (y : Int) = a := by omega
            have hbe : ((y : Int) == (a : Int)) = false := by rw [beq_eq_false_iff_ne]; exact e2
            have NX := Lib.hid (show selfK cs a (p + 1) = false from by rw [SN.out, hk, decide_eq_false e]; rfl)
            clear SN
            go_wp2_with fail
            go_roundw
            case rel =>
              first | exact ⟨p + 1, by omega, by go_num, by rw [NX.out], trivial⟩ | exact ⟨p + 1, by omega, by go_num, by rw [NX.out], rfl⟩ | exact ⟨p + 1, by omega, by go_num, by rw [NX.out]⟩ | ((repeat apply Exists.intro); exact ⟨⟨p + 1, by omega, by go_num, by rw [NX.out], rfl⟩, rfl⟩)
            case measure => simp [RowKit.intOf]; omega
      · obtain rfl : p = cs.length := by omega
        have hpl3 : ¬ (cs.length : Int) < cs.length := by omega
        have esb := ES.out
        generalize selfK cs a cs.length = sk at esb ⊢
        subst esb
        go_upto_region 9 with (go_at_call 53; (with_reducible refine (PA.out _ H1.out).mono ?_); rintro e w2 ⟨⟨LA, lc, rfl, hr⟩, hb⟩; have HR := Lib.hid hr; have H2 := Lib.hid (bb H1.out hb); clear hb hr)
        have HZ := Lib.hid (HR.out z hpos)
        have EPZ := EPL.out
        generalize P.getD z [] = pz at EPZ HZ
        obtain ⟨zb, zo, Zi, zc, eLA, hzb, hcz, _⟩ := HZ.out
        rw [EPZ] at hcz
        have HCZ := Lib.hid (fun (W : World) (b : Below w2.heap.size w2 W) => (b.cell (p := ⟨zb, zo + z, none⟩) hzb).trans hcz)
        subst eLA
        clear HZ EPZ hzb hcz HR EPL PA HX
        have PT2 := Lib.hid (PT.out _ H2.out)
        clear PT
        by_cases e1 : pl = 1
        · subst e1
          have Z2 := Lib.hid (show (1 : Int) = z0 from by rw [← Z.out]; rfl)
          clear Z
          go_wp2_with (go_at_call 51; (with_reducible refine PT2.out.mono ?_); rintro e w3 ⟨rfl, hb⟩; have hcz := HCZ.out _ hb; have H3 := Lib.hid (bb H2.out hb); clear hb)
          go_ret
          rw [← Z2.out]
          exact ⟨rfl, H3.out⟩
        · have hbe : ((pl : Int) == 1) = false := by rw [beq_eq_false_iff_ne]; omega
          have e2 : ¬ (pl : Int) = 1 := by omega
          have Z2 := Lib.hid (show (if sk then (3 : Int) else 2) = z0 from by rw [← Z.out, if_neg e1])
          clear Z
          cases sk
          · go_wp2_with (go_at_call 51; (with_reducible refine PT2.out.mono ?_); rintro e w3 ⟨rfl, hb⟩; have hcz := HCZ.out _ hb; have H3 := Lib.hid (bb H2.out hb); clear hb)
            go_ret
            rw [← Z2.out]
            exact ⟨rfl, H3.out⟩
          · go_wp2_with (go_at_call 51; (with_reducible refine PT2.out.mono ?_); rintro e w3 ⟨rfl, hb⟩; have hcz := HCZ.out _ hb; have H3 := Lib.hid (bb H2.out hb); clear hb)
            go_ret
            rw [← Z2.out]
            exact ⟨rfl, H3.out⟩
end Go.Proofs.YtlbjmkljmhfjdaaGreat
namespace Go.Proofs.YtlbjmkljmhfjdaaGreat
open Go Go.Proofs Go.RowKit Go.Lib Go.Maps
theorem graphZ_in (g : Gr) (i : Int) : okI g i ↔ 0 ≤ i ∧ i < (graphZ g).length := by
  unfold okI
  by_cases h : rightB g = true
  · rw [graphZ_yes h, graphOf_len]
    exact ⟨fun h2 => h2.2, fun h2 => ⟨h, h2⟩⟩
  · rw [graphZ_no h]
    exact ⟨fun h2 => absurd h2.1 h, fun h2 => by simp at h2; omega⟩
theorem sofN_Z (g : Gr) (a : Nat) (h : a < (graphZ g).length) : sofN g a = sortN (graphZ g) a := by
  have hk := (graphZ_in g a).2 ⟨by omega, by omega⟩
  rw [sofN_yes hk, graphZ_yes hk.1, Int.toNat_natCast]
theorem withOf_Z (g : Gr) (a : Nat) (h : a < (graphZ g).length) : withOf g a = if sortN (graphZ g) a = 0 then [] else (pG (graphZ g)).getD (posG (graphZ g) a) [] := by
  have hk := (graphZ_in g a).2 ⟨by omega, by omega⟩
  rw [(pos_of (RG_Z g) h).2.2.1]
  rw [graphZ_yes hk.1]
  by_cases e : sortN (graphOf g) a = 0
  · rw [if_pos e, withOf_no (by rw [Int.toNat_natCast]; exact fun h => h.2 e)]
  · rw [if_neg e, withOf_yes hk (by rw [Int.toNat_natCast]; exact e), Int.toNat_natCast]
set_option maxRecDepth 100000 in
set_option maxHeartbeats 4000000 in
theorem r14Of_any (g : Gr) (i : Int) (w : World) (hg : Gr.At w g) (hin : Gr.In g) : Calls Tryz.prog 64 #[g.val, .int .i64 i] w fun e w' => e = .returned (.int .i64 (sofN g i)) ∧ Below w.heap.size w w' := by
  have GR := Lib.hid (fun (W : World) (b : Below w.heap.size w W) => r12Graph_any g W (hg.below b) hin)
  have NO := Lib.hid (fun (h : ¬ (0 ≤ i ∧ i < (graphZ g).length)) => sofN_no (fun h2 => h ((graphZ_in g i).1 h2)))
  have YES := Lib.hid (fun a h => sofN_Z g a h)
  have SO := Lib.hid (fun a ha A c W hx => r14sort_any (graphZ g) (RG_Z g) a ha A c W hx)
  clear hg hin
  generalize graphZ g = G at *
  show Calls Tryz.prog 64 #[.agg #[.slice g.RA g.rules.length g.rc, .slice g.NA g.nodes.length g.nc], .int .i64 i] w _
  by_cases h0 : i < 0
  · rw [NO.out (by omega)]
    clear NO YES SO
    go_enter Tryz.func64, Tryz.ntmps64
    go_wp2_with (go_at_call 36; (with_reducible refine (GR.out _ (B1 _ _)).mono ?_); rintro e w1 ⟨⟨A, c, rfl, hr⟩, hb⟩; have H1 := Lib.hid (bb (B1 w _) hb); clear hb hr)
    go_ret
    exact ⟨rfl, H1.out⟩
  · by_cases h1 : i < G.length
    · obtain ⟨a, rfl⟩ : ∃ a : Nat, i = a := ⟨i.toNat, by omega⟩
      have ha : a < G.length := by omega
      have S1 := Lib.hid (fun A c W hx => SO.out a ha A c W hx)
      rw [YES.out a ha]
      generalize sortN G a = z at S1 ⊢
      clear NO YES SO ha
      go_enter Tryz.func64, Tryz.ntmps64
      go_wp2_with (first | (go_at_call 36; (with_reducible refine (GR.out _ (B1 _ _)).mono ?_); rintro e w1 ⟨⟨A, c, rfl, hr⟩, hb⟩; have H1 := Lib.hid (bb (B1 w _) hb); have HR := Lib.hid hr; clear hb hr) | (go_at_call 133; (with_reducible refine (S1.out _ _ _ HR.out).mono ?_); rintro e w2 ⟨rfl, hb⟩; have H2 := Lib.hid (bb H1.out hb); clear hb))
      go_ret
      exact ⟨rfl, H2.out⟩
    · rw [NO.out (by omega)]
      clear NO YES SO
      go_enter Tryz.func64, Tryz.ntmps64
      go_wp2_with (go_at_call 36; (with_reducible refine (GR.out _ (B1 _ _)).mono ?_); rintro e w1 ⟨⟨A, c, rfl, hr⟩, hb⟩; have H1 := Lib.hid (bb (B1 w _) hb); clear hb hr)
      go_ret
      exact ⟨rfl, H1.out⟩
/-- A row of numbers that lies. -/
def RowL (w : World) (L : List Nat) (e : Ending) : Prop := ∃ A c, e = .returned (.slice A L.length c) ∧ Lies w A (ints (nums L))
theorem RowL.nil (w : World) (c : Nat) : RowL w [] (.returned (.slice none 0 c)) := ⟨none, c, rfl, fun h => by simp [ints, nums] at h⟩
set_option maxRecDepth 100000 in
set_option maxHeartbeats 4000000 in
theorem r14With_any (g : Gr) (i : Int) (w : World) (hg : Gr.At w g) (hin : Gr.In g) : Calls Tryz.prog 68 #[g.val, .int .i64 i] w fun e w' => RowL w' (withOf g i) e ∧ Below w.heap.size w w' := by
  have GR := Lib.hid (fun (W : World) (b : Below w.heap.size w W) => r12Graph_any g W (hg.below b) hin)
  have NO := Lib.hid (fun (h : ¬ (0 ≤ i ∧ i < (graphZ g).length)) => withOf_no (g := g) (i := i) (fun h2 => h ((graphZ_in g i).1 h2.1)))
  have YES := Lib.hid (fun a h => withOf_Z g a h)
  have SO := Lib.hid (fun a ha A c W hx => r14sort_any (graphZ g) (RG_Z g) a ha A c W hx)
  have PT := Lib.hid (fun a ha A c W hx => r13Part_any (graphZ g) (RG_Z g) a ha A c W hx)
  have PA := Lib.hid (fun A c W hx => r13Parts_any (graphZ g) (RG_Z g) A c W hx)
  have POS := Lib.hid (fun a ha => (pos_of (RG_Z g) (i := a) ha).1)
  clear hg hin
  generalize graphZ g = G at *
  show Calls Tryz.prog 68 #[.agg #[.slice g.RA g.rules.length g.rc, .slice g.NA g.nodes.length g.nc], .int .i64 i] w _
  by_cases h0 : i < 0
  · rw [NO.out (by omega)]
    clear NO YES SO PT PA POS
    go_enter Tryz.func68, Tryz.ntmps68
    go_wp2_with (go_at_call 36; (with_reducible refine (GR.out _ (B1 _ _)).mono ?_); rintro e w1 ⟨⟨A, c, rfl, hr⟩, hb⟩; have H1 := Lib.hid (bb (B1 w _) hb); clear hb hr)
    go_ret
    exact ⟨RowL.nil _ _, H1.out⟩
  · by_cases h1 : i < G.length
    · obtain ⟨a, rfl⟩ : ∃ a : Nat, i = a := ⟨i.toNat, by omega⟩
      have ha : a < G.length := by omega
      have S1 := Lib.hid (fun A c W hx => SO.out a ha A c W hx)
      have P1 := Lib.hid (fun A c W hx => PT.out a ha A c W hx)
      have hpos := POS.out a ha
      rw [YES.out a ha]
      generalize sortN G a = z at S1 ⊢
      generalize posG G a = q at P1 hpos ⊢
      generalize pG G = P at PA hpos ⊢
      have hq2 : (q : Int) < P.length := by omega
      have hq0 : (0 : Int) ≤ (q : Int) := by omega
      clear NO YES SO PT POS ha
      by_cases ez : z = 0
      · subst ez
        rw [if_pos rfl]
        clear PA hpos hq2 P1
        go_enter Tryz.func68, Tryz.ntmps68
        go_wp2_with (first | (go_at_call 36; (with_reducible refine (GR.out _ (B1 _ _)).mono ?_); rintro e w1 ⟨⟨A, c, rfl, hr⟩, hb⟩; have H1 := Lib.hid (bb (B1 w _) hb); have HR := Lib.hid hr; clear hb hr) | (go_at_call 133; (with_reducible refine (S1.out _ _ _ HR.out).mono ?_); rintro e w2 ⟨rfl, hb⟩; have H2 := Lib.hid (bb H1.out hb); clear hb))
        go_ret
        exact ⟨RowL.nil _ _, H2.out⟩
      · have hz2 : ¬ (z : Int) = 0 := by omega
        have hz3 : ((z : Int) == 0) = false := by rw [beq_eq_false_iff_ne]; exact hz2
        rw [if_neg ez]
        obtain ⟨L, eL⟩ : ∃ L, L = P.getD q [] := ⟨_, rfl⟩
        rw [← eL]
        have EL := Lib.hid eL
        clear eL
        go_enter Tryz.func68, Tryz.ntmps68
        go_upto_region 5 with (first | (go_at_call 36; (with_reducible refine (GR.out _ (B1 _ _)).mono ?_); rintro e w1 ⟨⟨A, c, rfl, hr⟩, hb⟩; have H1 := Lib.hid (bb (B1 w _) hb); have HR := Lib.hid hr; clear hb hr) | (go_at_call 133; (with_reducible refine (S1.out _ _ _ HR.out).mono ?_); rintro e w2 ⟨rfl, hb⟩; have H2 := Lib.hid (bb H1.out hb); have HR2 := Lib.hid (HR.out.below hb); clear hb) | (go_at_call 53; (with_reducible refine (PA.out _ _ _ HR2.out).mono ?_); rintro e w3 ⟨⟨LA, lc, rfl, hr⟩, hb⟩; have H3 := Lib.hid (bb H2.out hb); have HP := Lib.hid hr; have HR3 := Lib.hid (HR2.out.below hb); clear hb hr))
        obtain ⟨zb, zo, Zi, zc, eLA, hzb, hcz, hlz⟩ := HP.out q hpos
        have HCZ := Lib.hid (fun (W : World) (b : Below w3.heap.size w3 W) => (b.cell (p := ⟨zb, zo + q, none⟩) hzb).trans hcz)
        have LZ := Lib.hid hlz
        subst eLA
        clear HP hcz hlz hzb
        rw [← EL.out] at HCZ LZ
        go_wp2_with (go_at_call 51; (with_reducible refine (P1.out _ _ _ HR3.out).mono ?_); rintro e w4 ⟨rfl, hb⟩; have hcz := HCZ.out _ hb; have HB4 := Lib.hid hb; have H4 := Lib.hid (bb H3.out hb); clear hb)
        go_ret
        exact ⟨⟨_, _, rfl, LZ.out.below HB4.out⟩, H4.out⟩
    · rw [NO.out (by omega)]
      clear NO YES SO PT PA POS
      go_enter Tryz.func68, Tryz.ntmps68
      go_wp2_with (go_at_call 36; (with_reducible refine (GR.out _ (B1 _ _)).mono ?_); rintro e w1 ⟨⟨A, c, rfl, hr⟩, hb⟩; have H1 := Lib.hid (bb (B1 w _) hb); clear hb hr)
      go_ret
      exact ⟨RowL.nil _ _, H1.out⟩
end Go.Proofs.YtlbjmkljmhfjdaaGreat
namespace Go.Proofs.YtlbjmkljmhfjdaaGreat
open Go Go.Proofs Go.RowKit Go.Lib Go.Maps
theorem allOf_Z (g : Gr) : allOf g = (List.range (graphZ g).length).map (sortN (graphZ g)) := by
  unfold allOf
  by_cases h : rightB g = true
  · rw [if_pos h, graphZ_yes h, graphOf_len]
  · rw [if_neg h, graphZ_no h]; rfl
theorem all_step (n : Nat) (f : Nat → Nat) : (List.range (n + 1)).map f = (List.range n).map f ++ [f n] := by rw [List.range_succ, List.map_append]; rfl
theorem freeB_all (g : Gr) : freeB g = (decide (0 < (allOf g).length) && (allOf g).all (· == 0)) := by
  by_cases h : rightB g = true
  · have hR := rightB_true.1 h
    have h1 := hR.rules.1
    have e : allOf g = (List.range g.rules.length).map (sortN (graphOf g)) := by unfold allOf; rw [if_pos h]
    unfold freeB
    rw [h, e, Bool.true_and, List.length_map, List.length_range, decide_eq_true (show 0 < g.rules.length from h1), Bool.true_and]
    rw [Bool.eq_iff_iff]
    simp [List.all_eq_true]
  · have e : allOf g = [] := by unfold allOf; rw [if_neg h]
    unfold freeB
    rw [e, Bool.eq_false_iff.2 h]
    rfl
theorem ordOf_Z (g : Gr) : ordOf g = (pG (graphZ g)).flatten := by
  unfold ordOf
  by_cases h : rightB g = true
  · rw [if_pos h, graphZ_yes h]
  · rw [if_neg h, graphZ_no h, pG_zero rfl]; rfl
set_option maxRecDepth 100000 in
set_option maxHeartbeats 4000000 in
theorem r14All_any (g : Gr) (w : World) (hg : Gr.At w g) (hin : Gr.In g) : Calls Tryz.prog 66 #[g.val] w fun e w' => RowE w' w.heap.size (allOf g) e ∧ Below w.heap.size w w' := by
  obtain ⟨i0, hi, hz0, hz1, hz2⟩ := info_parts Tryz.info3
  have GR := Lib.hid (fun (W : World) (b : Below w.heap.size w W) => r12Graph_any g W (hg.below b) hin)
  have SO := Lib.hid (fun a ha A c W hx => r14sort_any (graphZ g) (RG_Z g) a ha A c W hx)
  rw [allOf_Z g]
  have hlen := (RG_Z g).most
  clear hg hin
  generalize graphZ g = G at *
  obtain ⟨f, ef⟩ : ∃ f, f = sortN G := ⟨_, rfl⟩
  rw [← ef]
  have SO2 : RowKit.Hid (∀ a, a < G.length → ∀ A c W, RR W A G → Calls Tryz.prog 133 #[.slice A G.length c, .int .i64 a] W fun e w' => e = .returned (.int .i64 (f a)) ∧ Below W.heap.size W w') := Lib.hid (fun a ha A c W hx => by rw [ef]; exact SO.out a ha A c W hx)
  clear SO ef
  obtain ⟨LL, eLL⟩ : ∃ LL, LL = (List.range G.length).map f := ⟨_, rfl⟩
  rw [← eLL] at ⊢
  have FIN : RowKit.Hid (∀ (v : Value) (W : World), W.ownsRow w.heap.size 3 1 v G.length (ints (nums ((List.range G.length).map f))) → RowE W w.heap.size LL (.returned v)) := Lib.hid (fun v W ho => by rw [eLL]; exact ⟨v, rfl, by rw [List.length_map, List.length_range]; exact ho⟩)
  clear eLL
  have STEP := Lib.hid (fun n => show ints (nums ((List.range (n + 1)).map f)) = ints (nums ((List.range n).map f)) ++ [.int .i64 (f n)] from by rw [all_step]; simp [ints, nums])
  show Calls Tryz.prog 66 #[.agg #[.slice g.RA g.rules.length g.rc, .slice g.NA g.nodes.length g.nc]] w _
  go_enter Tryz.func66, Tryz.ntmps66
  go_wp2_with (go_at_call 36; (with_reducible refine (GR.out _ (B1 _ _)).mono ?_); rintro e w1 ⟨⟨A, c, rfl, hr⟩, hb⟩; have H1 := Lib.hid (bb (B1 w _) hb); have HR := Lib.hid hr; clear hb hr)
  go_loopw [4, 5] (fun l i wr => ∃ k : Nat, k ≤ G.length ∧ i = .int .i64 k ∧ wr.ownsRow w1.heap.size 3 1 l k (ints (nums ((List.range k).map f))) ∧ Below w1.heap.size w1 wr) (fun _ i _ => G.length - (RowKit.intOf i).toNat)
  case atStart => exact ⟨0, by omega, by go_num, World.ownsRow_nil _ _ _ _, Below.refl _ _⟩
  case round =>
    obtain ⟨k, hk, rfl, hown, hb⟩ := hrel
    obtain ⟨LA, lc, rfl, _, _⟩ := own_slice hown
    have HO := Lib.hid hown
    have HB := Lib.hid hb
    have HW := Lib.hid (HR.out.below hb)
    clear hown hb
    by_cases hlt : k < G.length
    · have hlt2 : (k : Int) < G.length := by omega
      have S1 := Lib.hid (SO2.out k hlt A c wr HW.out)
      have ST := Lib.hid (STEP.out k)
      generalize f k = z at S1 ST
      go_upto_region 6 with fail
      go_wp2_with (first | (go_at_call 133; (with_reducible refine S1.out.mono ?_); rintro e w2 ⟨rfl, hb⟩; have H2 := Lib.hid hb; have O2 := Lib.hid (own_below HO.out hb); have B2 := Lib.hid (HB.out.trans (hb.mono HB.out.size)); clear hb) | (at_builtin; refine wpList_append_own _ rfl _ _ 38 rfl w1.heap.size 3 i0 (.int .i64 0) 1 8 Tryz.underlying38 hi hz0 hz1 hz2 rfl (by decide) _ _ _ rfl (O2.out.alloc _) ⟨w2.heap.size, 0, none⟩ 1 1 [.int .i64 z] rfl rfl (cell_one_new _ _ _) (by simp [Value.oneCell']) (by unfold maxLen; omega) (by omega) (by have := B2.out.size; simp; omega) ?_; intro v' w9 hown' hgrow hnil'; have O9 := Lib.hid hown'; have G9 := Lib.hid hgrow; clear hown' hgrow hnil'))
      go_roundw
      case rel =>
        refine ⟨k + 1, by omega, by go_num, by rw [ST.out]; exact O9.out, grown_below (w := w2.alloc _) (B2.out.trans ((B1 w2 _).mono B2.out.size)) (by have := B2.out.size; simp; omega) G9.out (fun j e => (O2.out.lt j e).1)⟩
      case measure => simp [RowKit.intOf]; omega
    · obtain rfl : k = G.length := by omega
      have hlt2 : ¬ (G.length : Int) < G.length := by omega
      go_wp2_with fail
      go_ret
      exact ⟨FIN.out _ _ (own_lower HO.out H1.out.size), H1.out.trans (HB.out.mono H1.out.size)⟩
set_option maxRecDepth 100000 in
set_option maxHeartbeats 4000000 in
theorem r14Free_any (g : Gr) (w : World) (hg : Gr.At w g) (hin : Gr.In g) : Calls Tryz.prog 67 #[g.val] w fun e w' => e = .returned (.bool (freeB g)) ∧ Below w.heap.size w w' := by
  have AL := Lib.hid (fun (W : World) (b : Below w.heap.size w W) => r14All_any g W (hg.below b) hin)
  have EF := Lib.hid (freeB_all g)
  have hll : (allOf g).length ≤ 64 := by rw [allOf_Z, List.length_map, List.length_range]; exact (RG_Z g).most
  clear hg hin
  generalize freeB g = z at EF ⊢
  generalize allOf g = L at AL EF hll
  show Calls Tryz.prog 67 #[.agg #[.slice g.RA g.rules.length g.rc, .slice g.NA g.nodes.length g.nc]] w _
  go_enter Tryz.func67, Tryz.ntmps67
  go_wp2_with (go_at_call 66; (with_reducible refine (AL.out _ (B1 _ _)).mono ?_); rintro e w1 ⟨⟨v, rfl, ho⟩, hb⟩; obtain ⟨A, c, rfl, _, _⟩ := own_slice ho; have H1 := Lib.hid (bb (B1 w _) hb); have LA := Lib.hid (own_lies1 ho); clear hb ho)
  go_loopw [4] (fun i wr => ∃ k : Nat, k ≤ L.length ∧ i = .int .i64 k ∧ (∀ j, j < k → L.getD j 0 = 0) ∧ wr = w1) (fun i _ => L.length - (RowKit.intOf i).toNat)
  case atStart => exact ⟨0, by omega, by go_num, fun j hj => by omega, rfl⟩
  case round =>
    obtain ⟨k, hk, rfl, hz, ew⟩ := hrel
    have HZ := Lib.hid hz
    subst ew
    clear hz
    by_cases hlt : k < L.length
    · have hlt2 : (k : Int) < L.length := by omega
      obtain ⟨yb, yo, eY, _, cy⟩ := lies_cell (l := nums L) LA.out (k := k) (by rw [nums_len]; exact hlt)
      rw [nums_at2 _ k hlt] at cy
      subst eY
      by_cases e : L.getD k 0 = 0
      · rw [e] at cy
        have NX := Lib.hid (show ∀ j, j < k + 1 → L.getD j 0 = 0 from fun j hj => by
          by_cases ej : j = k
          · rw [ej]; exact e
          · exact HZ.out j (by omega))
        clear e
        go_wp2_with fail
        go_roundw
        case rel =>
          first | exact ⟨k + 1, by omega, by go_num, NX.out, trivial⟩ | exact ⟨k + 1, by omega, by go_num, NX.out, rfl⟩ | exact ⟨k + 1, by omega, by go_num, NX.out⟩ | ((repeat apply Exists.intro); exact ⟨⟨k + 1, by omega, by go_num, NX.out, rfl⟩, rfl⟩)
        case measure => simp [RowKit.intOf]; omega
      · have F := Lib.hid (show z = false from by
          rw [EF.out, Bool.and_eq_false_iff]
          refine .inr ?_
          rw [Bool.eq_false_iff]
          intro h
          rw [List.all_eq_true] at h
          have := h (L.getD k 0) (by simp [List.getD, List.getElem?_eq_getElem hlt])
          exact e (by simpa using this))
        generalize L.getD k 0 = y at cy e
        have hy : ¬ (y : Int) = 0 := by omega
        have hyb : ((y : Int) == 0) = false := by rw [beq_eq_false_iff_ne]; exact hy
        go_wp2_with fail
        go_ret
        rw [F.out]
        exact ⟨rfl, H1.out⟩
    · obtain rfl : k = L.length := by omega
      have hlt2 : ¬ (L.length : Int) < L.length := by omega
      have F := Lib.hid (show z = decide (0 < L.length) from by
        rw [EF.out]
        have : L.all (· == 0) = true := by
          rw [List.all_eq_true]
          intro x hx
          obtain ⟨j, hj, rfl⟩ := List.mem_iff_getElem.1 hx
          have := HZ.out j hj
          rw [List.getD_eq_getElem?_getD, List.getElem?_eq_getElem hj] at this
          simpa using this
        rw [this, Bool.and_true])
      go_wp2_with fail
      go_ret
      rw [F.out]
      refine ⟨?_, H1.out⟩
      first | rfl | (congr 2; first | rfl | simp | (apply decide_eq_decide.2; omega))
set_option maxRecDepth 100000 in
set_option maxHeartbeats 4000000 in
theorem r14Order_any (g : Gr) (w : World) (hg : Gr.At w g) (hin : Gr.In g) : Calls Tryz.prog 69 #[g.val] w fun e w' => RowE w' w.heap.size (ordOf g) e ∧ Below w.heap.size w w' := by
  obtain ⟨i0, hi, hz0, hz1, hz2⟩ := info_parts Tryz.info3
  have GR := Lib.hid (fun (W : World) (b : Below w.heap.size w W) => r12Graph_any g W (hg.below b) hin)
  have PA := Lib.hid (fun A c W hx => r13Parts_any (graphZ g) (RG_Z g) A c W hx)
  have SM := Lib.hid (pG_small (RG_Z g))
  have EO := Lib.hid (ordOf_Z g)
  clear hg hin
  generalize graphZ g = G at *
  generalize pG G = P at *
  generalize ordOf g = LL at EO ⊢
  have hm := SM.out.1
  have FT := Lib.hid (fun k (h : k < P.length) => flat_take h)
  have FA := Lib.hid (show (P.take P.length).flatten = P.flatten by rw [List.take_length])
  have FL := Lib.hid (fun k (hk : k ≤ P.length) => show (P.take k).flatten.length ≤ 64 * k from by
    induction k with
    | zero => simp
    | succ k ih =>
      rw [flat_take (by omega), List.length_append]
      have := ih (by omega)
      have := (SM.out.2 k (by omega)).2
      omega)
  show Calls Tryz.prog 69 #[.agg #[.slice g.RA g.rules.length g.rc, .slice g.NA g.nodes.length g.nc]] w _
  go_enter Tryz.func69, Tryz.ntmps69
  go_wp2_with (first | (go_at_call 36; (with_reducible refine (GR.out _ (B1 _ _)).mono ?_); rintro e w1 ⟨⟨A, c, rfl, hr⟩, hb⟩; have H1 := Lib.hid (bb (B1 w _) hb); have HR := Lib.hid hr; clear hb hr) | (go_at_call 53; (with_reducible refine (PA.out _ _ _ HR.out).mono ?_); rintro e w2 ⟨⟨LA, lc, rfl, hr⟩, hb⟩; have H2 := Lib.hid (bb H1.out hb); have HP := Lib.hid hr; clear hb hr))
  go_loopw [4, 5] (fun l i wr => ∃ k : Nat, k ≤ P.length ∧ i = .int .i64 k ∧ wr.ownsRow w2.heap.size 3 1 l (P.take k).flatten.length (ints (nums (P.take k).flatten)) ∧ Below w2.heap.size w2 wr) (fun _ i _ => P.length - (RowKit.intOf i).toNat)
  case atStart => exact ⟨0, by omega, by go_num, World.ownsRow_nil _ _ _ _, Below.refl _ _⟩
  case round =>
    obtain ⟨k, hk, rfl, hown, hb⟩ := hrel
    have HO := Lib.hid hown
    have HB := Lib.hid hb
    clear hown hb
    by_cases hlt : k < P.length
    · have hlt2 : (k : Int) < P.length := by omega
      obtain ⟨zb, zo, Zi, zc, eLA, hzb, hcz, hlz⟩ := HP.out k hlt
      have cz := (HB.out.cell (p := ⟨zb, zo + k, none⟩) hzb).trans hcz
      have FQ := Lib.hid (FT.out k hlt)
      have hle := FL.out (k + 1) (by omega)
      obtain ⟨hne, _⟩ := SM.out.2 k hlt
      obtain ⟨pz, epz⟩ : ∃ pz, pz = P.getD k [] := ⟨_, rfl⟩
      rw [← epz] at hlz cz hne FQ
      have h0 : 0 < pz.length := List.length_pos_iff.2 hne
      obtain ⟨yb, yo, eZ, hyb, hyc⟩ := hlz (by rw [ints_length, nums_len]; exact h0)
      have NW := Lib.hid (show ∀ a, Zi = some a → ∀ j u, (ints (nums pz))[j]? = some u → wr.cell? (a.add j) = some u from fun a ea j u hu => by
        rw [eZ] at ea
        cases ea
        have hj : j < (ints (nums pz)).length := by
          rcases Nat.lt_or_ge j (ints (nums pz)).length with h | h
          · exact h
          · rw [List.getElem?_eq_none h] at hu; cases hu
        have := (HB.out.cell (p := ⟨yb, yo + j, none⟩) hyb).trans (hyc j hj)
        rw [hu] at this
        have e5 : (⟨yb, yo, none⟩ : Addr).add j = ⟨yb, yo + j, none⟩ := by
          unfold Addr.add
          by_cases ej : j = 0 <;> simp [ej]
        rw [e5]
        exact this)
      have NN := Lib.hid (show Zi = none → pz.length = 0 ∧ zc = 0 from fun e => by rw [eZ] at e; cases e)
      subst eLA
      rw [FQ.out, List.length_append] at hle
      obtain ⟨x, ex⟩ : ∃ x, x = pz.length := ⟨_, rfl⟩
      have EX := Lib.hid ex
      rw [← ex] at cz hle NN
      clear hyc hlz hcz eZ hne h0 epz ex
      go_wp2_with (at_builtin; refine wpList_append_onto _ rfl _ _ 38 rfl w2.heap.size 3 i0 (.int .i64 0) 1 8 Tryz.underlying38 hi hz0 hz1 hz2 rfl (by decide) _ _ _ rfl HO.out Zi _ _ (ints (nums pz)) rfl (by rw [ints_length, nums_len, EX.out]; omega) NW.out NN.out (ints_one _) (by unfold maxLen; omega) (by omega) HB.out.size ?_; intro v9 w9 hown9 hgrow9 hfr9; have O9 := Lib.hid hown9; have G9 := Lib.hid hgrow9; clear hown9 hgrow9 hfr9)
      go_roundw
      case rel =>
        refine ⟨k + 1, by omega, by go_num, ?_, ?_⟩
        · rw [FQ.out, List.length_append, flat_ints, ← EX.out]
          exact O9.out
        · exact grown_below HB.out HB.out.size G9.out (fun k e => (HO.out.lt k e).1)
      case measure => simp [RowKit.intOf]; omega
    · obtain rfl : k = P.length := by omega
      have hlt2 : ¬ (P.length : Int) < P.length := by omega
      rw [FA.out] at HO
      rw [← EO.out] at HO
      go_wp2_with fail
      go_ret
      exact ⟨⟨_, rfl, own_lower HO.out H2.out.size⟩, H2.out.trans (HB.out.mono H2.out.size)⟩
end Go.Proofs.YtlbjmkljmhfjdaaGreat
namespace Go.Proofs.YtlbjmkljmhfjdaaGreat
open Go Go.Proofs Go.RowKit Go.Lib Go.Maps
set_option maxRecDepth 100000 in
set_option maxHeartbeats 4000000 in
theorem numbers_any (A : Option Addr) (c : Nat) (L : List Nat) (hl : L.length ≤ 64) (w : World) (hA : Lies w A (ints (nums L))) : Calls Tryz.prog 65 #[.slice A L.length c] w fun e w' => RowE w' w.heap.size L e ∧ Below w.heap.size w w' := by
  obtain ⟨i0, hi, hz0, hz1, hz2⟩ := info_parts Tryz.info3
  have LA := Lib.hid hA
  have STEP := Lib.hid (fun k (h : k < L.length) => show ints (nums (L.take (k + 1))) = ints (nums (L.take k)) ++ [.int .i64 (L.getD k 0)] from by
    have e : L.take (k + 1) = L.take k ++ [L.getD k 0] := by
      rw [List.take_add_one, List.getElem?_eq_getElem h]
      simp [List.getD, h]
    rw [e]
    simp only [ints, nums, List.map_append, List.map_cons, List.map_nil])
  have FA := Lib.hid (show L.take L.length = L from List.take_length)
  clear hA
  go_enter Tryz.func65, Tryz.ntmps65
  go_wp2_with fail
  go_loopw [3, 4] (fun l i wr => ∃ k : Nat, k ≤ L.length ∧ i = .int .i64 k ∧ wr.ownsRow w.heap.size 3 1 l k (ints (nums (L.take k))) ∧ Below w.heap.size w wr) (fun _ i _ => L.length - (RowKit.intOf i).toNat)
  case atStart => exact ⟨0, by omega, by go_num, World.ownsRow_nil _ _ _ _, Below.refl _ _⟩
  case round =>
    obtain ⟨k, hk, rfl, hown, hb⟩ := hrel
    obtain ⟨RA, rc, rfl, _, _⟩ := own_slice hown
    have HO := Lib.hid hown
    have HB := Lib.hid hb
    clear hown hb
    by_cases hlt : k < L.length
    · have hlt2 : (k : Int) < L.length := by omega
      obtain ⟨yb, yo, eY, hyb, cy0⟩ := lies_cell (l := nums L) LA.out (k := k) (by rw [nums_len]; exact hlt)
      rw [nums_at2 _ k hlt] at cy0
      have cy := (HB.out.cell (p := ⟨yb, _, none⟩) (by exact hyb)).trans cy0
      have ST := Lib.hid (STEP.out k hlt)
      subst eY
      generalize L.getD k 0 = z at cy ST
      clear cy0
      go_wp2_with (at_builtin; refine wpList_append_own _ rfl _ _ 38 rfl w.heap.size 3 i0 (.int .i64 0) 1 8 Tryz.underlying38 hi hz0 hz1 hz2 rfl (by decide) _ _ _ rfl (HO.out.alloc _) ⟨wr.heap.size, 0, none⟩ 1 1 [.int .i64 z] rfl rfl (cell_one_new _ _ _) (by simp [Value.oneCell']) (by unfold maxLen; omega) (by omega) (by have := HB.out.size; simp; omega) ?_; intro v' w9 hown' hgrow hnil'; have O9 := Lib.hid hown'; have G9 := Lib.hid hgrow; clear hown' hgrow hnil')
      go_roundw
      case rel =>
        refine ⟨k + 1, by omega, by go_num, by rw [ST.out]; exact O9.out, grown_below (w := wr.alloc _) (HB.out.trans ((B1 wr _).mono HB.out.size)) (by have := HB.out.size; simp; omega) G9.out (fun j e => (HO.out.lt j e).1)⟩
      case measure => simp [RowKit.intOf]; omega
    · obtain rfl : k = L.length := by omega
      have hlt2 : ¬ (L.length : Int) < L.length := by omega
      rw [FA.out] at HO
      go_wp2_with fail
      go_ret
      exact ⟨⟨_, rfl, HO.out⟩, HB.out⟩
end Go.Proofs.YtlbjmkljmhfjdaaGreat
namespace Go.Proofs.YtlbjmkljmhfjdaaGreat
open Go Go.Proofs Go.RowKit Go.Lib Go.Maps
end Go.Proofs.YtlbjmkljmhfjdaaGreat
namespace Go.Proofs.YtlbjmkljmhfjdaaGreat
open Go Go.RowKit Go.Maps
set_option maxRecDepth 100000 in
set_option maxHeartbeats 4000000 in
theorem put_ints (B bb : Nat) (c0 c1 lv : Value) (cs : List Value) (vs : List Value) (A : Option Addr) (n c : Nat) (w : World) (hB : B ≤ w.heap.size) (hb : Blk w bb (c0 :: c1 :: lv :: cs).toArray 121) (ho : w.ownsRow B 38 1 lv vs.length vs) (hn : vs.length ≤ 100000) :
    Calls Tryz.prog 110 #[.pointer (some ⟨bb, 0, none⟩), .slice A n c] w fun e w' => e = .returned (.tuple #[]) ∧ ∃ lv' w1, w1.ownsRow B 38 1 lv' (vs.length + 1) (vs ++ [.slice A n c]) ∧ (w.alloc (.cells #[.slice A n c] 38)).grownBy w1 lv.ownBlock ∧ Blk w1 bb (c0 :: c1 :: lv :: cs).toArray 121 ∧ w' = w1.setCell ⟨bb, 2, none⟩ lv' := by
  obtain ⟨i1, ji, jz0, jz1, jz2⟩ := info_parts Tryz.info_s
  obtain ⟨A0, d0, e0, _, _⟩ := own_slice ho
  subst e0
  have HBB := Lib.hid hb
  have k2 := hb.cell 2
  simp only [List.getElem?_toArray, List.getElem?_cons_zero, List.getElem?_cons_succ] at k2
  have B1' := Lib.hid (B1 w (.cells #[.slice A n c] 38))
  have O1 := Lib.hid (own_below ho B1'.out)
  have hHB := hB
  have HO := Lib.hid ho
  clear hb ho
  go_enter Tryz.func110, Tryz.ntmps110
  go_wp2_with (at_builtin; refine wpList_append_view rfl _ _ 31 rfl B 38 i1 (.slice none 0 0) 1 24 Tryz.underlying31 ji jz0 jz1 jz2 rfl (by decide) _ _ _ rfl O1.out ⟨w.heap.size, 0, none⟩ 1 1 [.slice A n c] rfl rfl (cell_one_new _ _ _) (by simp [Value.oneCell']) (by unfold maxLen; omega) (by omega) (by simp; omega) ?_; intro lv' w1 hown hview hgrow hcase; obtain ⟨Ag, cg, eg, _, _⟩ := own_slice hown; subst eg; have OW := Lib.hid hown; have GW := Lib.hid hgrow; have KB := Lib.hid ((HBB.out.below' B1'.out).grown hgrow (fun e => own_ne O1.out (HBB.out.below' B1'.out) (by decide) e.symm)); have ck := KB.out.cell 2; have fk := KB.out.frozen 2; simp only [List.getElem?_toArray, List.getElem?_cons_zero, List.getElem?_cons_succ] at ck; clear hown hview hgrow hcase)
  refine bodyPost_end (results_none rfl _ _ _) rfl ?_
  exact ⟨rfl, _, _, OW.out, GW.out, KB.out, rfl⟩
end Go.Proofs.YtlbjmkljmhfjdaaGreat

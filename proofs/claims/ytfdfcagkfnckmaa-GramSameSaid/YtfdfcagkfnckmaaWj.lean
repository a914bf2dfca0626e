/- The document's comparing of grammars. -/
import Derived.Test.YtfdfcagkfnckmaaWg
import Derived.Test.YtfdfcagkfnckmaaWi
namespace Go.Proofs.Ytfdfcagkfnckmaa
open Go Go.RowKit
theorem sameGr_len {g h : Gr} (e : ¬ (g.rules.length = h.rules.length ∧ g.nodes.length = h.nodes.length)) : sameGr g h = false := by
  unfold sameGr rowSame
  by_cases h1 : g.rules.length = h.rules.length
  · have h2 : ¬ g.nodes.length = h.nodes.length := fun x => e ⟨h1, x⟩
    simp [h2]
  · simp [h1]
set_option maxRecDepth 100000 in
set_option maxHeartbeats 2000000 in
theorem refSame_len (g h : Gr) (w : World) (hg : Gr.At w g) (hh : Gr.At w h) (e : ¬ (g.rules.length = h.rules.length ∧ g.nodes.length = h.nodes.length)) : Calls Try.prog 21 #[g.val, h.val] w fun e w' => e = .returned (.bool false) ∧ Below w.heap.size w w' := by
  have l1 := hg.rl
  have l2 := hg.nl
  have l3 := hh.rl
  have l4 := hh.nl
  clear hg hh
  by_cases h1 : g.rules.length = h.rules.length
  · have h2 : ¬ (g.nodes.length : Int) = h.nodes.length := fun x => e ⟨h1, by omega⟩
    show Calls Try.prog 21 #[.agg #[.slice g.RA g.rules.length g.rc, .slice g.NA g.nodes.length g.nc], .agg #[.slice h.RA h.rules.length h.rc, .slice h.NA h.nodes.length h.nc]] w _
    rw [h1]
    rw [h1] at l1
    clear e h1
    go_enter Try.func21, Try.ntmps21
    go_wp2_with fail
    go_ret
    exact ⟨rfl, B2 _ _ _⟩
  · have h2 : ¬ (g.rules.length : Int) = h.rules.length := by omega
    clear e h1
    go_enter Try.func21, Try.ntmps21
    go_wp2_with fail
    go_ret
    exact ⟨rfl, B2 _ _ _⟩
theorem drewB {w : World} {n : Nat} : Below w.heap.size w (w.drewN n) := bdrew (Below.refl _ _)
set_option maxRecDepth 100000 in
set_option maxHeartbeats 4000000 in
theorem refSame_eq (g h : Gr) (w : World) (hg : Gr.At w g) (hh : Gr.At w h) (m p : Nat) (e1 : g.rules.length = m) (e2 : h.rules.length = m) (e3 : g.nodes.length = p) (e4 : h.nodes.length = p) : Calls Try.prog 21 #[.agg #[.slice g.RA m g.rc, .slice g.NA p g.nc], .agg #[.slice h.RA m h.rc, .slice h.NA p h.nc]] w fun e w' => e = .returned (.bool (sameGr g h)) ∧ Below w.heap.size w w' := by
  have l1 : m ≤ 140737488351232 := by have := hg.rl; omega
  have l2 : p ≤ 140737488351232 := by have := hg.nl; omega
  have HV := Lib.hid (show sameGr g h = (rowSame Rl.zero sameRl g.rules h.rules && rowSame Nd.zero sameNd g.nodes h.nodes) from rfl)
  have RT := Lib.hid (rowSame_true (z := Rl.zero) (f := sameRl) (a := g.rules) (b := h.rules))
  have RF := Lib.hid (rowSame_false (z := Rl.zero) (f := sameRl) (a := g.rules) (b := h.rules))
  have NT := Lib.hid (rowSame_true (z := Nd.zero) (f := sameNd) (a := g.nodes) (b := h.nodes))
  have NF := Lib.hid (rowSame_false (z := Nd.zero) (f := sameNd) (a := g.nodes) (b := h.nodes))
  obtain ⟨x, ex⟩ : ∃ x, x = rowSame Rl.zero sameRl g.rules h.rules := ⟨_, rfl⟩
  obtain ⟨y, ey⟩ : ∃ y, y = rowSame Nd.zero sameNd g.nodes h.nodes := ⟨_, rfl⟩
  rw [← ex] at RT RF HV
  rw [← ey] at NT NF HV
  clear ex ey
  have HG := Lib.hid hg
  have HH := Lib.hid hh
  have E1 := Lib.hid e1
  have E2 := Lib.hid e2
  have E3 := Lib.hid e3
  have E4 := Lib.hid e4
  clear hg hh e1 e2 e3 e4
  go_enter Try.func21, Try.ntmps21
  go_wp2_with fail
  obtain ⟨wb, ewb⟩ : ∃ u, u = (w.alloc (.cells #[.slice g.RA m g.rc, .slice g.NA p g.nc] 25)).alloc (.cells #[.slice h.RA m h.rc, .slice h.NA p h.nc] 25) := ⟨_, rfl⟩
  have hb2 : Below w.heap.size w wb := by rw [ewb]; exact B2 _ _ _
  have K1 : RowKit.Hid (Blk wb w.heap.size #[.slice g.RA m g.rc, .slice g.NA p g.nc] 25) := Lib.hid (by rw [ewb]; exact (Blk.new w _ _).alloc _)
  have K2 : RowKit.Hid (Blk wb (w.heap.size + 1) #[.slice h.RA m h.rc, .slice h.NA p h.nc] 25) := Lib.hid (by
    rw [ewb]
    have := Blk.new (w.alloc (.cells #[.slice g.RA m g.rc, .slice g.NA p g.nc] 25)) #[.slice h.RA m h.rc, .slice h.NA p h.nc] 25
    rw [World.size_alloc] at this
    exact this)
  rw [← ewb]
  have GB := Lib.hid (HG.out.below hb2)
  have HB := Lib.hid (HH.out.below hb2)
  have BB := Lib.hid hb2
  clear ewb HG HH hb2
  go_loopw [5] (fun i wr => ∃ (k : Nat), k ≤ m ∧ i = .int .i64 k ∧ (∀ j, j < k → sameRl (g.rules.getD j Rl.zero) (h.rules.getD j Rl.zero) = true) ∧ Below wb.heap.size wb wr) (fun i _ => m - (intOf i).toNat)
  case atStart => exact ⟨0, by omega, rfl, fun j hj => by omega, Below.refl _ _⟩
  case round =>
    obtain ⟨k, hk, rfl, ht, hbl⟩ := hrel
    obtain ⟨wo, rfl⟩ : ∃ u, u = wr := ⟨_, rfl⟩
    have HT := Lib.hid ht
    have BL := Lib.hid hbl
    have q1 := (K1.out.below' hbl).cell 0
    have q2 := (K2.out.below' hbl).cell 0
    have q3 := (K1.out.below' hbl).cell 1
    have q4 := (K2.out.below' hbl).cell 1
    simp only [List.getElem?_toArray, List.getElem?_cons_zero, List.getElem?_cons_succ] at q1 q2 q3 q4
    clear ht hbl
    by_cases hlt : k < m
    · have hlt2 : (k : Int) < m := by omega
      obtain ⟨b1, o1, ea, _, c1, c2⟩ := (GB.out.below BL.out).rules.two (show k < g.rules.length by have := E1.out; omega)
      obtain ⟨b2, o2, eb, _, c3, c4⟩ := (HB.out.below BL.out).rules.two (show k < h.rules.length by have := E2.out; omega)
      rw [ea] at q1
      rw [eb] at q2
      generalize hx : g.rules.getD k Rl.zero = x' at c1 c2
      generalize hy : h.rules.getD k Rl.zero = y' at c3 c4
      have HX := Lib.hid hx
      have HY := Lib.hid hy
      clear hx hy ea eb
      by_cases e5 : x'.name.toList = y'.name.toList ∧ x'.body = y'.body
      · have ES : RowKit.Hid (sameRl x' y' = true) := Lib.hid (by unfold sameRl; simpa [tl_inj] using e5)
        obtain ⟨z1, e7⟩ := e5
        have z2 : (x'.body == y'.body) = true := by simpa using e7
        clear e7
        go_wp2_with fail
        go_quiet (fail)
        go_wp2_with fail
        go_roundw
        case rel => exact ⟨k + 1, by omega, by go_num, fun j hj => by
            by_cases e : j = k
            · subst e; rw [HX.out, HY.out]; exact ES.out
            · exact HT.out j (by omega), by first | exact bdrew BL.out | exact bdrew (bdrew BL.out)⟩
        case measure => simp [intOf]; omega
      · have ES : RowKit.Hid (sameRl x' y' = false) := Lib.hid (by unfold sameRl; simpa [tl_inj] using e5)
        by_cases z1 : x'.name.toList = y'.name.toList
        · have z2 : (x'.body == y'.body) = false := by simpa using fun h => e5 ⟨z1, h⟩
          clear e5
          go_wp2_with fail
          go_quiet (fail)
          go_wp2_with fail
          go_ret
          exact ⟨ret_bool (by rw [HV.out, RF.out k (by have := E1.out; omega) (by rw [HX.out, HY.out]; exact ES.out)]; rfl), by first | exact bdrew (bb BB.out BL.out) | exact bdrew (bdrew (bb BB.out BL.out))⟩
        · clear e5
          go_wp2_with fail
          go_quiet (fail)
          go_wp2_with fail
          go_ret
          exact ⟨ret_bool (by rw [HV.out, RF.out k (by have := E1.out; omega) (by rw [HX.out, HY.out]; exact ES.out)]; rfl), by first | exact bdrew (bb BB.out BL.out) | exact bdrew (bdrew (bb BB.out BL.out))⟩
    · obtain rfl : k = m := by omega
      have hlt2 : ¬ (k : Int) < k := by omega
      have XT := Lib.hid (RT.out (by have := E1.out; have := E2.out; omega) (fun i hi => HT.out i (by have := E1.out; omega)))
      clear HT RT RF
      have GO := Lib.hid (GB.out.below BL.out)
      have HO := Lib.hid (HB.out.below BL.out)
      have KO1 := Lib.hid (K1.out.below' BL.out)
      have KO2 := Lib.hid (K2.out.below' BL.out)
      have BO := Lib.hid (bb BB.out BL.out)
      clear GB HB K1 K2 BB BL
      go_wp2_with fail
      go_loopw [6] (fun i wr => ∃ (j : Nat), j ≤ p ∧ i = .int .i64 j ∧ (∀ q, q < j → sameNd (g.nodes.getD q Nd.zero) (h.nodes.getD q Nd.zero) = true) ∧ Below wo.heap.size wo wr) (fun i _ => p - (intOf i).toNat)
      case atStart => exact ⟨0, by omega, rfl, fun j hj => by omega, Below.refl _ _⟩
      case round =>
        obtain ⟨j, hj, rfl, ht, hbl⟩ := hrel
        obtain ⟨wi, rfl⟩ : ∃ u, u = wr := ⟨_, rfl⟩
        have HT := Lib.hid ht
        have BL := Lib.hid hbl
        have q1 := (KO1.out.below' hbl).cell 0
        have q2 := (KO2.out.below' hbl).cell 0
        have q3 := (KO1.out.below' hbl).cell 1
        have q4 := (KO2.out.below' hbl).cell 1
        simp only [List.getElem?_toArray, List.getElem?_cons_zero, List.getElem?_cons_succ] at q1 q2 q3 q4
        clear ht hbl
        by_cases hlt : j < p
        · have hlt3 : (j : Int) < p := by omega
          obtain ⟨b1, o1, ea, _, C1⟩ := (GO.out.below BL.out).nodes.nine (show j < g.nodes.length by have := E3.out; omega)
          obtain ⟨b2, o2, eb, _, C2⟩ := (HO.out.below BL.out).nodes.nine (show j < h.nodes.length by have := E4.out; omega)
          have T := Lib.hid (fun (w' : World) (b : Below wi.heap.size wi w') => refNode_any (g.nodes.getD j Nd.zero) (h.nodes.getD j Nd.zero) w' (((GO.out.below BL.out).node (show j < g.nodes.length by have := E3.out; omega)).below b) (((HO.out.below BL.out).node (show j < h.nodes.length by have := E4.out; omega)).below b))
          rw [ea] at q3
          rw [eb] at q4
          generalize hx : g.nodes.getD j Nd.zero = x' at C1 T
          generalize hy : h.nodes.getD j Nd.zero = y' at C2 T
          have HX := Lib.hid hx
          have HY := Lib.hid hy
          clear hx hy ea eb
          obtain ⟨c1, c2, c3, c4, c5, c6, c7, c8, c9⟩ := C1
          obtain ⟨d1, d2, d3, d4, d5, d6, d7, d8, d9⟩ := C2
          have q3' := fun e => Ext.cell q3 e
          have q4' := fun e => Ext.cell q4 e
          have c1' := fun e => Ext.cell c1 e
          have c2' := fun e => Ext.cell c2 e
          have c3' := fun e => Ext.cell c3 e
          have c4' := fun e => Ext.cell c4 e
          have c5' := fun e => Ext.cell c5 e
          have c6' := fun e => Ext.cell c6 e
          have c7' := fun e => Ext.cell c7 e
          have c8' := fun e => Ext.cell c8 e
          have c9' := fun e => Ext.cell c9 e
          have d1' := fun e => Ext.cell d1 e
          have d2' := fun e => Ext.cell d2 e
          have d3' := fun e => Ext.cell d3 e
          have d4' := fun e => Ext.cell d4 e
          have d5' := fun e => Ext.cell d5 e
          have d6' := fun e => Ext.cell d6 e
          have d7' := fun e => Ext.cell d7 e
          have d8' := fun e => Ext.cell d8 e
          have d9' := fun e => Ext.cell d9 e
          obtain ⟨sv, es⟩ : ∃ sv, sv = sameNd x' y' := ⟨_, rfl⟩
          rw [← es] at T
          have ES := Lib.hid es
          clear es c1 c2 c3 c4 c5 c6 c7 c8 c9 d1 d2 d3 d4 d5 d6 d7 d8 d9
          cases sv with
          | true =>
            go_wp2_with fail
            clear q1 q2 q3 q4
            refine wp_region_ext (by kernel_rfl) (by kernel_rfl) ?_
            repeat (first | go_big_quiet_step ((go_at_call 45; exact Calls.ext_of (T.out _ (Ext.grown _)))) | quiet_step ((go_at_call 45; exact Calls.ext_of (T.out _ (Ext.grown _)))))
            refine wpQuiet_nil ?_
            intro _ hw'
            obtain ⟨⟨w1, hb1⟩, rfl⟩ := hw'
            have B1' := Lib.hid (bb BL.out hb1)
            clear hb1 T q3' q4' c1' c2' c3' c4' c5' c6' c7' c8' c9' d1' d2' d3' d4' d5' d6' d7' d8' d9'
            go_wp2_with fail
            go_roundw
            case rel => exact ⟨j + 1, by omega, by go_num, fun q hq => by
                by_cases e : q = j
                · subst e; rw [HX.out, HY.out]; exact ES.out.symm
                · exact HT.out q (by omega), B1'.out⟩
            case measure => simp [intOf]; omega
          | false =>
            go_wp2_with fail
            clear q1 q2 q3 q4
            refine wp_region_ext (by kernel_rfl) (by kernel_rfl) ?_
            repeat (first | go_big_quiet_step ((go_at_call 45; exact Calls.ext_of (T.out _ (Ext.grown _)))) | quiet_step ((go_at_call 45; exact Calls.ext_of (T.out _ (Ext.grown _)))))
            refine wpQuiet_nil ?_
            intro _ hw'
            obtain ⟨⟨w1, hb1⟩, rfl⟩ := hw'
            have B1' := Lib.hid (bb BO.out (bb BL.out hb1))
            clear hb1 T q3' q4' c1' c2' c3' c4' c5' c6' c7' c8' c9' d1' d2' d3' d4' d5' d6' d7' d8' d9'
            go_wp2_with fail
            go_ret
            exact ⟨ret_bool (by rw [HV.out, NF.out j (by have := E3.out; omega) (by rw [HX.out, HY.out]; exact ES.out.symm)]; simp), B1'.out⟩
        · obtain rfl : j = p := by omega
          have hlt3 : ¬ (j : Int) < j := by omega
          go_wp2_with fail
          go_ret
          exact ⟨ret_bool (by rw [HV.out, XT.out, NT.out (by have := E3.out; have := E4.out; omega) (fun i hi => HT.out i (by have := E3.out; omega))]; rfl), bb BO.out BL.out⟩
theorem refSame_any (g h : Gr) (w : World) (hg : Gr.At w g) (hh : Gr.At w h) : Calls Try.prog 21 #[g.val, h.val] w fun e w' => e = .returned (.bool (sameGr g h)) ∧ Below w.heap.size w w' := by
  by_cases e : g.rules.length = h.rules.length ∧ g.nodes.length = h.nodes.length
  · have := refSame_eq g h w hg hh g.rules.length g.nodes.length rfl e.1.symm rfl e.2.symm
    show Calls Try.prog 21 #[.agg #[.slice g.RA g.rules.length g.rc, .slice g.NA g.nodes.length g.nc], .agg #[.slice h.RA h.rules.length h.rc, .slice h.NA h.nodes.length h.nc]] w _
    rw [← e.1, ← e.2]
    exact this
  · rw [sameGr_len e]
    exact refSame_len g h w hg hh e
end Go.Proofs.Ytfdfcagkfnckmaa

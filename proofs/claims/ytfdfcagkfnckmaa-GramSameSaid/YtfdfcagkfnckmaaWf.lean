/- Rows of nodes compared. -/
import Derived.Test.YtfdfcagkfnckmaaWe
namespace Go.Proofs.Ytfdfcagkfnckmaa
open Go Go.RowKit
set_option maxRecDepth 100000 in
set_option maxHeartbeats 2000000 in
theorem row_node (A B : Option Addr) (c d : Nat) (a b : List Nd) (ha : a.length ≤ 140737488351232) (hb : b.length ≤ 140737488351232) (w : World) (hA : Nodes w A a) (hB : Nodes w B b) (hxa : ∀ x ∈ a, Nd.At w x) (hxb : ∀ x ∈ b, Nd.At w x) :
    Calls Try.prog 50 #[.slice A a.length c, .slice B b.length d, .func (.func 51) #[] #[]] w fun e w' => e = .returned (.bool (rowSame Nd.zero sameNd a b)) ∧ Below w.heap.size w w' := by
  have HA := Lib.hid hA
  have HB := Lib.hid hB
  have XA := Lib.hid hxa
  have XB := Lib.hid hxb
  clear hxa hxb
  clear hA hB
  by_cases hl : a.length = b.length
  · have HL := Lib.hid hl
    have RT := Lib.hid (rowSame_true (z := Nd.zero) (f := sameNd) (a := a) (b := b))
    have RF := Lib.hid (rowSame_false (z := Nd.zero) (f := sameNd) (a := a) (b := b))
    obtain ⟨v, ev⟩ : ∃ v, v = rowSame Nd.zero sameNd a b := ⟨_, rfl⟩
    rw [← ev] at RT RF ⊢
    clear ev
    obtain ⟨m, em⟩ : ∃ m, m = b.length := ⟨_, rfl⟩
    rw [← em] at hl hb ⊢
    rw [hl] at ha ⊢
    have EM := Lib.hid em
    clear em hl
    go_enter Try.func50, Try.ntmps50
    go_wp2_with fail
    go_loopw [15, 7] (fun i _ wr => ∃ (k : Nat), k ≤ m ∧ i = .int .i64 k ∧ (∀ j, j < k → sameNd (a.getD j Nd.zero) (b.getD j Nd.zero) = true) ∧ Below w.heap.size w wr) (fun i _ _ => m - (intOf i).toNat)
    case atStart => exact ⟨0, by omega, rfl, fun j h => by omega, Below.refl _ _⟩
    case round =>
      obtain ⟨k, hk, rfl, ht, hbl⟩ := hrel
      have HT := Lib.hid ht
      have BL := Lib.hid hbl
      clear ht hbl
      by_cases hlt : k < m
      · have hlt2 : (k : Int) < m := by omega
        obtain ⟨b1, o1, rfl, _, c1, c2, c3, c4, c5, c6, c7, c8, c9⟩ := (HA.out.below BL.out).nine (show k < a.length by have := HL.out; have := EM.out; omega)
        obtain ⟨b2, o2, rfl, _, c10, c11, c12, c13, c14, c15, c16, c17, c18⟩ := (HB.out.below BL.out).nine (show k < b.length by have := EM.out; omega)
        have T := Lib.hid (fun (w' : World) (h : Below wr.heap.size wr w') => sameNode_any (a.getD k Nd.zero) (b.getD k Nd.zero) w' (((XA.out _ (by exact getD_mem (by have := HL.out; have := EM.out; omega))).below BL.out).below h) (((XB.out _ (by exact getD_mem (by have := EM.out; omega))).below BL.out).below h))
        have SV := Lib.hid (show sameNd (a.getD k Nd.zero) (b.getD k Nd.zero) = sameNd (a.getD k Nd.zero) (b.getD k Nd.zero) from rfl)
        generalize hx : a.getD k Nd.zero = x at *
        generalize hy : b.getD k Nd.zero = y at *
        have HX := Lib.hid hx
        have HY := Lib.hid hy
        clear hx hy
        have d1 := fun e => Ext.cell c1 e
        have d2 := fun e => Ext.cell c2 e
        have d3 := fun e => Ext.cell c3 e
        have d4 := fun e => Ext.cell c4 e
        have d5 := fun e => Ext.cell c5 e
        have d6 := fun e => Ext.cell c6 e
        have d7 := fun e => Ext.cell c7 e
        have d8 := fun e => Ext.cell c8 e
        have d9 := fun e => Ext.cell c9 e
        have d10 := fun e => Ext.cell c10 e
        have d11 := fun e => Ext.cell c11 e
        have d12 := fun e => Ext.cell c12 e
        have d13 := fun e => Ext.cell c13 e
        have d14 := fun e => Ext.cell c14 e
        have d15 := fun e => Ext.cell c15 e
        have d16 := fun e => Ext.cell c16 e
        have d17 := fun e => Ext.cell c17 e
        have d18 := fun e => Ext.cell c18 e
        clear c1 c2 c3 c4 c5 c6 c7 c8 c9 c10 c11 c12 c13 c14 c15 c16 c17 c18
        obtain ⟨sv, es⟩ : ∃ sv, sv = sameNd x y := ⟨_, rfl⟩
        rw [← es] at T
        have ES := Lib.hid es
        clear es SV
        cases sv with
        | true =>
          go_wp2_with fail
          refine wp_region_ext (by kernel_rfl) (by kernel_rfl) ?_
          repeat (first | go_big_quiet_step ((go_at_call 51; exact Calls.ext_of (T.out _ (Ext.grown _)))) | quiet_step ((go_at_call 51; exact Calls.ext_of (T.out _ (Ext.grown _)))))
          refine wpQuiet_nil ?_
          intro _ hw'
          obtain ⟨⟨w1, hb1⟩, rfl⟩ := hw'
          have B1' := Lib.hid (bb BL.out hb1)
          clear hb1 d1 d2 d3 d4 d5 d6 d7 d8 d9 d10 d11 d12 d13 d14 d15 d16 d17 d18 T
          go_wp2_with fail
          go_roundw
          case rel => exact ⟨k + 1, by omega, by go_num, fun j hj => by
              by_cases e : j = k
              · subst e; rw [HX.out, HY.out]; exact ES.out.symm
              · exact HT.out j (by omega), B1'.out⟩
          case measure => simp [intOf]; omega
        | false =>
          go_wp2_with fail
          refine wp_region_ext (by kernel_rfl) (by kernel_rfl) ?_
          repeat (first | go_big_quiet_step ((go_at_call 51; exact Calls.ext_of (T.out _ (Ext.grown _)))) | quiet_step ((go_at_call 51; exact Calls.ext_of (T.out _ (Ext.grown _)))))
          refine wpQuiet_nil ?_
          intro _ hw'
          obtain ⟨⟨w1, hb1⟩, rfl⟩ := hw'
          have B1' := Lib.hid (bb BL.out hb1)
          clear hb1 d1 d2 d3 d4 d5 d6 d7 d8 d9 d10 d11 d12 d13 d14 d15 d16 d17 d18 T
          go_wp2_with fail
          go_ret
          exact ⟨ret_bool (RF.out k (by have := HL.out; have := EM.out; omega) (by rw [HX.out, HY.out]; exact ES.out.symm)).symm, B1'.out⟩
      · obtain rfl : k = m := by omega
        have hlt2 : ¬ (k : Int) < k := by omega
        go_wp2_with fail
        go_ret
        exact ⟨ret_bool (RT.out HL.out (fun i hi => HT.out i (by have := HL.out; have := EM.out; omega))).symm, BL.out⟩
  · have hne : ¬ (a.length : Int) = b.length := by omega
    rw [rowSame_len hl]
    clear hl
    go_enter Try.func50, Try.ntmps50
    go_wp2_with fail
    go_ret
    exact ⟨rfl, Below.refl _ _⟩
end Go.Proofs.Ytfdfcagkfnckmaa

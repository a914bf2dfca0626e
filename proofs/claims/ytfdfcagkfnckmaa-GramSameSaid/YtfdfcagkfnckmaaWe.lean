/- Rows of rules, of nodes compared; two grammars compared: the program's answer. -/
import Derived.Test.YtfdfcagkfnckmaaWd
namespace Go.Proofs.Ytfdfcagkfnckmaa
open Go Go.RowKit
/-- Two rows are as long, and the same place by place. -/
def rowSame {α : Type} (z : α) (f : α → α → Bool) (a b : List α) : Bool := decide (a.length = b.length ∧ ∀ i, i < a.length → f (a.getD i z) (b.getD i z) = true)
theorem rowSame_true {α : Type} {z : α} {f : α → α → Bool} {a b : List α} (h : a.length = b.length) (h2 : ∀ i, i < a.length → f (a.getD i z) (b.getD i z) = true) : rowSame z f a b = true := by simp [rowSame, h]; intro i hi; simpa using h2 i (by omega)
theorem rowSame_false {α : Type} {z : α} {f : α → α → Bool} {a b : List α} (i : Nat) (hi : i < a.length) (h2 : f (a.getD i z) (b.getD i z) = false) : rowSame z f a b = false := by
  simp only [rowSame, decide_eq_false_iff_not]
  intro h
  rw [h.2 i hi] at h2
  cases h2
theorem rowSame_len {α : Type} {z : α} {f : α → α → Bool} {a b : List α} (h : a.length ≠ b.length) : rowSame z f a b = false := by simp [rowSame, h]
theorem getD_mem {α : Type} {l : List α} {k : Nat} {z : α} (h : k < l.length) : l.getD k z ∈ l := by rw [List.getD_eq_getElem?_getD, List.getElem?_eq_getElem h]; exact List.getElem_mem h
def sameRl (a b : Rl) : Bool := decide (a.name = b.name ∧ a.body = b.body)
theorem Rules.two {w : World} {A : Option Addr} {l : List Rl} (h : Rules w A l) {i : Nat} (hi : i < l.length) : ∃ b o, A = some ⟨b, o, none⟩ ∧ b < w.heap.size ∧ w.cell? ⟨b, o + i * 2, none⟩ = some (.string (l.getD i Rl.zero).name) ∧ w.cell? ⟨b, o + i * 2 + 1, none⟩ = some (.int .i64 (l.getD i Rl.zero).body) := by
  obtain ⟨b, o, e, hl, hc⟩ := h (by omega)
  exact ⟨b, o, e, hl, hc i hi⟩
theorem sameNode_any (x y : Nd) (w : World) (hx : Nd.At w x) (hy : Nd.At w y) : Calls Try.prog 51 #[x.val, y.val] w fun e w' => e = .returned (.bool (sameNd x y)) ∧ Below w.heap.size w w' := by
  have R := Lib.hid (fun (w' : World) (h : Below w.heap.size w w') => same_any x y w' (hx.below h) (hy.below h))
  clear hx hy
  go_enter Try.func51, Try.ntmps51
  go_wp2_with (go_at_call 57; refine (R.out _ (B2 _ _ _)).mono ?_; rintro e w1 ⟨rfl, hb⟩)
  go_ret
  exact ⟨rfl, bb (B2 _ _ _) hb⟩
set_option maxRecDepth 100000 in
set_option maxHeartbeats 2000000 in
theorem row_rule (A B : Option Addr) (c d : Nat) (a b : List Rl) (ha : a.length ≤ 140737488351232) (hb : b.length ≤ 140737488351232) (w : World) (hA : Rules w A a) (hB : Rules w B b) :
    Calls Try.prog 48 #[.slice A a.length c, .slice B b.length d, .func (.func 49) #[] #[]] w fun e w' => e = .returned (.bool (rowSame Rl.zero sameRl a b)) ∧ Below w.heap.size w w' := by
  have HA := Lib.hid hA
  have HB := Lib.hid hB
  skip
  clear hA hB
  by_cases hl : a.length = b.length
  · have HL := Lib.hid hl
    have RT := Lib.hid (rowSame_true (z := Rl.zero) (f := sameRl) (a := a) (b := b))
    have RF := Lib.hid (rowSame_false (z := Rl.zero) (f := sameRl) (a := a) (b := b))
    obtain ⟨v, ev⟩ : ∃ v, v = rowSame Rl.zero sameRl a b := ⟨_, rfl⟩
    rw [← ev] at RT RF ⊢
    clear ev
    obtain ⟨m, em⟩ : ∃ m, m = b.length := ⟨_, rfl⟩
    rw [← em] at hl hb ⊢
    rw [hl] at ha ⊢
    have EM := Lib.hid em
    clear em hl
    go_enter Try.func48, Try.ntmps48
    go_wp2_with fail
    go_loopw [15, 7] (fun i _ wr => ∃ (k : Nat), k ≤ m ∧ i = .int .i64 k ∧ (∀ j, j < k → sameRl (a.getD j Rl.zero) (b.getD j Rl.zero) = true) ∧ Below w.heap.size w wr) (fun i _ _ => m - (intOf i).toNat)
    case atStart => exact ⟨0, by omega, rfl, fun j h => by omega, Below.refl _ _⟩
    case round =>
      obtain ⟨k, hk, rfl, ht, hbl⟩ := hrel
      have HT := Lib.hid ht
      have BL := Lib.hid hbl
      clear ht hbl
      by_cases hlt : k < m
      · have hlt2 : (k : Int) < m := by omega
        obtain ⟨b1, o1, rfl, _, c1, c2⟩ := (HA.out.below BL.out).two (show k < a.length by have := HL.out; have := EM.out; omega)
        obtain ⟨b2, o2, rfl, _, c3, c4⟩ := (HB.out.below BL.out).two (show k < b.length by have := EM.out; omega)
        have SV := Lib.hid (show sameRl (a.getD k Rl.zero) (b.getD k Rl.zero) = sameRl (a.getD k Rl.zero) (b.getD k Rl.zero) from rfl)
        generalize hx : a.getD k Rl.zero = x at *
        generalize hy : b.getD k Rl.zero = y at *
        have HX := Lib.hid hx
        have HY := Lib.hid hy
        clear hx hy
        have d1 := fun e => Ext.cell c1 e
        have d2 := fun e => Ext.cell c2 e
        have d3 := fun e => Ext.cell c3 e
        have d4 := fun e => Ext.cell c4 e
        clear c1 c2 c3 c4
        obtain ⟨sv, es⟩ : ∃ sv, sv = sameRl x y := ⟨_, rfl⟩
        have T := Lib.hid (fun (w' : World) (_ : Below wr.heap.size wr w') => equal_rule x.name y.name x.body y.body w')
        unfold sameRl at es
        rw [← es] at T
        have ES := Lib.hid es
        clear es SV
        cases sv with
        | true =>
          go_wp2_with fail
          refine wp_region_ext (by kernel_rfl) (by kernel_rfl) ?_
          repeat (first | go_big_quiet_step ((go_at_call 49; exact Calls.ext_of (T.out _ (Ext.grown _)))) | quiet_step ((go_at_call 49; exact Calls.ext_of (T.out _ (Ext.grown _)))))
          refine wpQuiet_nil ?_
          intro _ hw'
          obtain ⟨⟨w1, hb1⟩, rfl⟩ := hw'
          have B1' := Lib.hid (bb BL.out hb1)
          clear hb1 d1 d2 d3 d4 T
          go_wp2_with fail
          go_roundw
          case rel => exact ⟨k + 1, by omega, by go_num, fun j hj => by
              by_cases e : j = k
              · subst e; rw [HX.out, HY.out]; exact ES.out.symm
              · exact HT.out j (by omega), B1'.out⟩
          case measure => simp [intOf]; omega
        | false =>
          go_wp2_with fail
          refine wp_region_ext (by kernel_rfl) (by kernel_rfl) ?_
          repeat (first | go_big_quiet_step ((go_at_call 49; exact Calls.ext_of (T.out _ (Ext.grown _)))) | quiet_step ((go_at_call 49; exact Calls.ext_of (T.out _ (Ext.grown _)))))
          refine wpQuiet_nil ?_
          intro _ hw'
          obtain ⟨⟨w1, hb1⟩, rfl⟩ := hw'
          have B1' := Lib.hid (bb BL.out hb1)
          clear hb1 d1 d2 d3 d4 T
          go_wp2_with fail
          go_ret
          exact ⟨ret_bool (RF.out k (by have := HL.out; have := EM.out; omega) (by rw [HX.out, HY.out]; exact ES.out.symm)).symm, B1'.out⟩
      · obtain rfl : k = m := by omega
        have hlt2 : ¬ (k : Int) < k := by omega
        go_wp2_with fail
        go_ret
        exact ⟨ret_bool (RT.out HL.out (fun i hi => HT.out i (by have := HL.out; have := EM.out; omega))).symm, BL.out⟩
  · have hne : ¬ (a.length : Int) = b.length := by omega
    rw [rowSame_len hl]
    clear hl
    go_enter Try.func48, Try.ntmps48
    go_wp2_with fail
    go_ret
    exact ⟨rfl, Below.refl _ _⟩
end Go.Proofs.Ytfdfcagkfnckmaa

/- Rows of numbers compared; nodes compared. -/
import Derived.Test.YtlbjmkljmhfjdaaGreatA2
import Derived.Test.YtlbjmkljmhfjdaaGreatA3
set_option linter.unusedSimpArgs false
set_option linter.unusedVariables false
namespace Go.Proofs.YtlbjmkljmhfjdaaGreat
open Go Go.RowKit
theorem take_same {a b : List Int} {k : Nat} (hk : k < a.length) (hl : a.length = b.length) (h : a.take k = b.take k) : a.take (k + 1) = b.take (k + 1) ↔ a.getD k 0 = b.getD k 0 := by
  have e1 : a.take (k + 1) = a.take k ++ [a.getD k 0] := by rw [List.take_succ_eq_append_getElem hk]; simp [List.getD, List.getElem?_eq_getElem hk]
  have e2 : b.take (k + 1) = b.take k ++ [b.getD k 0] := by rw [List.take_succ_eq_append_getElem (by omega)]; simp [List.getD, List.getElem?_eq_getElem (show k < b.length by omega)]
  rw [e1, e2, h]
  simp
theorem getD_ne {a b : List Int} {k : Nat} (h : a.getD k 0 ≠ b.getD k 0) : a ≠ b := fun e => h (by rw [e])
set_option maxHeartbeats 1000000 in
theorem row_int (A B : Option Addr) (c d : Nat) (a b : List Int) (ha : a.length ≤ 140737488351232) (hb : b.length ≤ 140737488351232) (w : World) (hA : Lies w A (ints a)) (hB : Lies w B (ints b)) :
    Calls Tryz.prog 306 #[.slice A a.length c, .slice B b.length d, .func (.func 307) #[] #[]] w fun e w' => e = .returned (.bool (decide (a = b))) ∧ ∃ n, w' = w.drewN n := by
  have HA := Lib.hid hA
  have HB := Lib.hid hB
  clear hA hB
  by_cases hl : a.length = b.length
  · have HL := Lib.hid hl
    obtain ⟨m, em⟩ : ∃ m, m = b.length := ⟨_, rfl⟩
    rw [← em] at hl hb ⊢
    rw [hl] at ha ⊢
    have EM := Lib.hid em
    clear em hl
    go_enter Tryz.func306, Tryz.ntmps306
    go_wp2_with fail
    go_loopw [15, 7] (fun i _ wr => ∃ (k n : Nat), k ≤ m ∧ i = .int .i64 k ∧ a.take k = b.take k ∧ wr = w.drewN n) (fun i _ _ => m - (RowKit.intOf i).toNat)
    case atStart => exact ⟨0, 0, by omega, rfl, by simp, rfl⟩
    case round =>
      obtain ⟨k, n, hk, rfl, ht, rfl⟩ := hrel
      have HT := Lib.hid ht
      clear ht
      by_cases hlt : k < m
      · have hlt2 : (k : Int) < m := by omega
        obtain ⟨b1, o1, rfl, _, c1⟩ := lies_cell HA.out (show k < a.length by have := HL.out; have := EM.out; omega)
        obtain ⟨b2, o2, rfl, _, c2⟩ := lies_cell HB.out (show k < b.length by have := EM.out; omega)
        have HS := Lib.hid (take_same (a := a) (b := b) (k := k) (by have := HL.out; have := EM.out; omega) HL.out HT.out)
        have HN := Lib.hid (@getD_ne a b k)
        generalize a.getD k 0 = x at c1 HS HN
        generalize b.getD k 0 = y at c2 HS HN
        by_cases hxy : x = y
        · have HK := Lib.hid (HS.out.2 hxy)
          have hb : (x == y) = true := by simpa using hxy
          clear HS HN hxy
          go_wp2_with fail
          go_quiet ((go_at_call 307; exact (equal_int _ _ _).mono fun _ _ h => ⟨h.1, _, h.2.symm⟩))
          go_wp2_with fail
          go_roundw
          case rel => exact ⟨k + 1, n + nq, by omega, by go_num, HK.out, by first | rfl | exact World.drewN_drewN _ _ _⟩
          case measure => simp [RowKit.intOf]; omega
        · have HK := Lib.hid (HN.out hxy)
          have hb : (x == y) = false := by simpa using hxy
          clear HS HN hxy
          go_wp2_with fail
          go_quiet ((go_at_call 307; exact (equal_int _ _ _).mono fun _ _ h => ⟨h.1, _, h.2.symm⟩))
          go_wp2_with fail
          go_ret
          exact ⟨ret_bool (by simpa using HK.out), n + nq, by first | rfl | exact World.drewN_drewN _ _ _⟩
      · obtain rfl : k = m := by omega
        have hlt2 : ¬ (k : Int) < k := by omega
        go_wp2_with fail
        go_ret
        exact ⟨ret_bool (by have := HT.out; rw [List.take_of_length_le (by have := HL.out; have := EM.out; omega), List.take_of_length_le (by have := EM.out; omega)] at this; simp [this]), n, rfl⟩
  · have hne : ¬ (a.length : Int) = b.length := by omega
    have hv : decide (a = b) = false := by simp; intro e; rw [e] at hl; exact hl rfl
    rw [hv]
    clear hv hl
    go_enter Tryz.func306, Tryz.ntmps306
    go_wp2_with fail
    go_ret
    exact ⟨rfl, 0, rfl⟩
/-- Two nodes are the same, part by part. -/
def sameNd (x y : Nd) : Bool := decide (x.kind = y.kind ∧ (x.c0 = y.c0 ∧ x.c1 = y.c1 ∧ x.c2 = y.c2 ∧ x.c3 = y.c3) ∧ x.text = y.text ∧ x.rule = y.rule ∧ x.level = y.level ∧ x.kids = y.kids)
set_option maxHeartbeats 1000000 in
theorem same_any (x y : Nd) (w : World) (hx : Nd.At w x) (hy : Nd.At w y) : Calls Tryz.prog 296 #[x.val, y.val] w fun e w' => e = .returned (.bool (sameNd x y)) ∧ Below w.heap.size w w' := by
  have R := Lib.hid (fun (w' : World) (h : Below w.heap.size w w') => row_int x.A y.A x.cap y.cap x.kids y.kids hx.2.2 hy.2.2 w' (hx.below h).1 (hy.below h).1)
  clear hx hy
  go_enter Tryz.func296, Tryz.ntmps296
  go_wp2_with (go_at_call 306; refine (R.out _ (B2 _ _ _)).mono ?_; rintro e w1 ⟨rfl, n, rfl⟩)
  all_goals go_ret
  all_goals refine ⟨ret_bool ?_, by first | exact B2 _ _ _ | exact bdrew (B2 _ _ _)⟩
  all_goals (unfold sameNd; rw [Bool.eq_iff_iff]; simp only [tl_inj, beq_iff_eq, Bool.and_eq_true, decide_eq_true_eq, Bool.false_eq_true] at *; simp_all)
end Go.Proofs.YtlbjmkljmhfjdaaGreat

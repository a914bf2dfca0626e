/- The document's comparing of nodes. -/
import Derived.Test.YtfdfcagkfnckmaaWd
namespace Go.Proofs.Ytfdfcagkfnckmaa
open Go Go.RowKit
/-- The parts of two nodes but for their kids. -/
def headNd (x y : Nd) : Bool := decide (x.kind = y.kind ∧ (x.c0 = y.c0 ∧ x.c1 = y.c1 ∧ x.c2 = y.c2 ∧ x.c3 = y.c3) ∧ x.text = y.text ∧ x.rule = y.rule ∧ x.level = y.level ∧ x.kids.length = y.kids.length)
theorem same_head {x y : Nd} (h : headNd x y = false) : sameNd x y = false := by
  unfold headNd at h
  unfold sameNd
  simp only [decide_eq_false_iff_not] at h ⊢
  exact fun ⟨a, b, c, d, e, f⟩ => h ⟨a, b, c, d, e, by rw [f]⟩
theorem same_kids {x y : Nd} (h : headNd x y = true) : sameNd x y = decide (x.kids = y.kids) := by
  unfold headNd at h
  unfold sameNd
  simp only [decide_eq_true_eq] at h
  obtain ⟨a, b, c, d, e, f⟩ := h
  simp [a, b, c, d, e]
set_option maxRecDepth 100000 in
set_option maxHeartbeats 2000000 in
theorem refNode_no (x y : Nd) (w : World) (hx : x.kids.length ≤ 140737488351232) (hy : y.kids.length ≤ 140737488351232) (h : headNd x y = false) : Calls Try.prog 45 #[x.val, y.val] w fun e w' => e = .returned (.bool false) ∧ Below w.heap.size w w' := by
  unfold headNd at h
  simp only [decide_eq_false_iff_not] at h
  have H := Lib.hid h
  clear h
  go_enter Try.func45, Try.ntmps45
  go_wp2_with fail
  all_goals first
    | (go_ret; exact ⟨rfl, B2 _ _ _⟩)
    | (exfalso; have h := H.out; simp only [tl_inj, bne_iff_ne, ne_eq, Decidable.not_not, Bool.not_eq_true, Bool.and_eq_true, beq_iff_eq, decide_eq_true_eq, Bool.not_eq_false'] at *; exact h ⟨‹_›, by simp_all, ‹_›, ‹_›, ‹_›, by have := ‹(_ != _) = false›; simp at this; omega⟩)
set_option maxRecDepth 100000 in
set_option maxHeartbeats 4000000 in
theorem refNode_yes (x y : Nd) (w : World) (hx : Nd.At w x) (hy : Nd.At w y) (h : headNd x y = true) : Calls Try.prog 45 #[x.val, y.val] w fun e w' => e = .returned (.bool (decide (x.kids = y.kids))) ∧ Below w.heap.size w w' := by
  obtain ⟨k, c0, c1, c2, c3, t, r, l, A, c, a⟩ := x
  obtain ⟨k', c0', c1', c2', c3', t', r', l', B, d, b⟩ := y
  unfold headNd at h
  simp only [decide_eq_true_eq] at h
  obtain ⟨rfl, ⟨rfl, rfl, rfl, rfl⟩, rfl, rfl, rfl, hl⟩ := h
  have hA : Lies w A (ints a) := hx.1
  have hB : Lies w B (ints b) := hy.1
  have ha : a.length ≤ 140737488351232 := hx.2.2
  show Calls Try.prog 45 #[.agg #[.int .i64 k, .int .u64 c0, .int .u64 c1, .int .u64 c2, .int .u64 c3, .string t, .int .i64 r, .int .i64 l, .slice A a.length c], .agg #[.int .i64 k, .int .u64 c0, .int .u64 c1, .int .u64 c2, .int .u64 c3, .string t, .int .i64 r, .int .i64 l, .slice B b.length d]] w fun e w' => e = .returned (.bool (decide (a = b))) ∧ Below w.heap.size w w'
  clear hx hy
  have HA := Lib.hid hA
  have HB := Lib.hid hB
  clear hA hB
  have HL := Lib.hid hl
  obtain ⟨m, em⟩ : ∃ m, m = b.length := ⟨_, rfl⟩
  rw [← em] at hl ⊢
  rw [hl] at ha ⊢
  have EM := Lib.hid em
  clear em hl
  go_enter Try.func45, Try.ntmps45
  go_wp2_with fail
  obtain ⟨wb, ewb⟩ : ∃ u, u = (w.alloc (.cells #[.int .i64 k, .int .u64 c0, .int .u64 c1, .int .u64 c2, .int .u64 c3, .string t, .int .i64 r, .int .i64 l, .slice A m c] 32)).alloc (.cells #[.int .i64 k, .int .u64 c0, .int .u64 c1, .int .u64 c2, .int .u64 c3, .string t, .int .i64 r, .int .i64 l, .slice B m d] 32) := ⟨_, rfl⟩
  have hb2 : Below w.heap.size w wb := by rw [ewb]; exact B2 _ _ _
  have k1 : wb.cell? ⟨w.heap.size, 8, none⟩ = some (.slice A m c) := by rw [ewb]; exact ((Blk.new w _ _).alloc _).cell 8
  have k2 : wb.cell? ⟨w.heap.size + 1, 8, none⟩ = some (.slice B m d) := by
    rw [ewb]
    have := (Blk.new (w.alloc (.cells #[.int .i64 k, .int .u64 c0, .int .u64 c1, .int .u64 c2, .int .u64 c3, .string t, .int .i64 r, .int .i64 l, .slice A m c] 32)) #[.int .i64 k, .int .u64 c0, .int .u64 c1, .int .u64 c2, .int .u64 c3, .string t, .int .i64 r, .int .i64 l, .slice B m d] 32).cell 8
    rw [World.size_alloc] at this
    exact this
  rw [← ewb]
  have HA2 := Lib.hid (HA.out.below hb2)
  have HB2 := Lib.hid (HB.out.below hb2)
  have BB := Lib.hid hb2
  clear ewb HA HB hb2
  go_loopw [5] (fun i wr => ∃ (k n : Nat), k ≤ m ∧ i = .int .i64 k ∧ a.take k = b.take k ∧ wr = wb.drewN n) (fun i _ => m - (intOf i).toNat)
  case atStart => exact ⟨0, 0, by omega, rfl, by simp, rfl⟩
  case round =>
    obtain ⟨k, n, hk, rfl, ht, rfl⟩ := hrel
    have HT := Lib.hid ht
    clear ht
    by_cases hlt : k < m
    · have hlt2 : (k : Int) < m := by omega
      obtain ⟨b1, o1, rfl, _, c1⟩ := lies_cell HA2.out (show k < a.length by have := HL.out; have := EM.out; omega)
      obtain ⟨b2, o2, rfl, _, c2⟩ := lies_cell HB2.out (show k < b.length by have := EM.out; omega)
      have HS := Lib.hid (take_same (a := a) (b := b) (k := k) (by have := HL.out; have := EM.out; omega) HL.out HT.out)
      have HN := Lib.hid (@getD_ne a b k)
      generalize a.getD k 0 = x at c1 HS HN
      generalize b.getD k 0 = y at c2 HS HN
      by_cases hxy : x = y
      · have HK := Lib.hid (HS.out.2 hxy)
        have hb : (x == y) = true := by simpa using hxy
        have hb2 : (x != y) = false := by simpa using hxy
        clear HS HN hxy
        go_wp2_with fail
        go_quiet (fail)
        go_wp2_with fail
        go_roundw
        case rel => exact ⟨k + 1, n + nq, by omega, by go_num, HK.out, by first | rfl | exact World.drewN_drewN _ _ _⟩
        case measure => simp [intOf]; omega
      · have HK := Lib.hid (HN.out hxy)
        have hb : (x == y) = false := by simpa using hxy
        have hb2 : (x != y) = true := by simpa using hxy
        clear HS HN hxy
        go_wp2_with fail
        go_quiet (fail)
        go_wp2_with fail
        go_ret
        exact ⟨ret_bool (by simpa using HK.out), bdrew (bdrew BB.out)⟩
    · obtain rfl : k = m := by omega
      have hlt2 : ¬ (k : Int) < k := by omega
      go_wp2_with fail
      go_ret
      exact ⟨ret_bool (by have := HT.out; rw [List.take_of_length_le (by have := HL.out; have := EM.out; omega), List.take_of_length_le (by have := EM.out; omega)] at this; simp [this]), bdrew BB.out⟩
theorem refNode_any (x y : Nd) (w : World) (hx : Nd.At w x) (hy : Nd.At w y) : Calls Try.prog 45 #[x.val, y.val] w fun e w' => e = .returned (.bool (sameNd x y)) ∧ Below w.heap.size w w' := by
  cases h : headNd x y with
  | false => rw [same_head h]; exact refNode_no x y w hx.2.2 hy.2.2 h
  | true => rw [same_kids h]; exact refNode_yes x y w hx hy h
end Go.Proofs.Ytfdfcagkfnckmaa

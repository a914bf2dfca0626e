/- Contracts of layer 2: At, Place, Line of an index. -/
import Derived.Test.YtmllhjgejlbjhaaWf
namespace Go.Proofs.Ytmllhjgejlbjhaa
open Go.RowKit

set_option maxHeartbeats 1000000 in
theorem at_no (x : Nat) (bs : List Nat) (L : Nat) (hb0 : Lns bs L) (hL : L < 1152921504606846976) (p : Int) (hp : p < 0 ∨ (L : Int) < p) (w : World) (hx : Idx w x bs L) :
    Calls Try.prog 13 #[.pointer (some ⟨x, 0, none⟩), .int .i64 p] w fun e w' => e = .returned (.tuple #[.int .i64 0, .int .i64 0, .bool false]) ∧ Below w.heap.size w w' := by
  obtain ⟨g, c, h1, h2⟩ := hx
  have hsh := hb0.short
  have T : ∀ w' : World, Below w.heap.size w w' → Calls Try.prog 24 #[.int .i64 p, .func (.func 25) #[.agg #[.slice (some ⟨g, 0, none⟩) bs.length c, .int .i64 (L + 1 : Nat)]] #[], .func (.func 26) #[.agg #[.slice (some ⟨g, 0, none⟩) bs.length c, .int .i64 (L + 1 : Nat)]] #[]] w' fun e w'' => e = .returned (.tuple #[.int .i64 0, .int .i64 0, .bool false]) ∧ Below w'.heap.size w' w'' :=
    fun w' hb => tell_no 25 26 p _ w' (.inl rfl) (hasPlace_no _ _ _ _ _ (by omega) (by omega) _)
  clear hp
  have c0 := h1.cell 0
  have c1 := h1.cell 1
  simp at c0 c1
  have T := Lib.hid T
  clear h1 h2 hb0
  go_enter Try.func13, Try.ntmps13
  go_wp2_with (go_at_call 23; refine (known_some _ _).mono ?_; rintro e w' ⟨rfl, rfl⟩)
  have d0 := fun e => Ext.cell c0 e
  have d1 := fun e => Ext.cell c1 e
  refine wp_region_ext (by kernel_rfl) (by kernel_rfl) ?_
  repeat (first | go_big_quiet_step ((go_at_call 24; exact Calls.ext_of (T.out _ (Ext.grown _)))) | quiet_step ((go_at_call 24; exact Calls.ext_of (T.out _ (Ext.grown _)))))
  refine wpQuiet_nil ?_
  intro _ hw'
  obtain ⟨⟨w1, hb1⟩, rfl⟩ := hw'
  go_wp2
  go_ret3
  exact ⟨rfl, hb1⟩

set_option maxHeartbeats 1000000 in
theorem line_yes (x : Nat) (bs : List Nat) (L : Nat) (hb0 : Lns bs L) (hL : L < 1152921504606846976) (q : Nat) (hq1 : 1 ≤ q) (hq2 : q ≤ bs.length) (w : World) (hx : Idx w x bs L) :
    Calls Try.prog 15 #[.pointer (some ⟨x, 0, none⟩), .int .i64 q] w fun e w' => e = .returned (.tuple #[.int .i64 (bs.getD (q - 1) 0 : Nat), .int .i64 (min (beh bs L q) L : Nat), .bool true]) ∧ Below w.heap.size w w' := by
  obtain ⟨g, c, h1, h2⟩ := hx
  have hsh := hb0.short
  have hbe := (beh_gt hb0 hq1 hq2).2
  have T : ∀ w' : World, Below w.heap.size w w' → Calls Try.prog 24 #[.int .i64 q, .func (.func 27) #[.agg #[.slice (some ⟨g, 0, none⟩) bs.length c, .int .i64 (L + 1 : Nat)]] #[], .func (.func 29) #[.agg #[.slice (some ⟨g, 0, none⟩) bs.length c, .int .i64 (L + 1 : Nat)]] #[]] w' fun e w'' => e = .returned (.tuple #[.int .i64 (bs.getD (q - 1) 0 : Nat), .int .i64 (min (beh bs L q) L : Nat), .bool true]) ∧ Below w'.heap.size w' w'' :=
    fun w' hb => tell_yes 27 29 q _ _ _ w' (.inr (.inr ⟨rfl, rfl⟩)) (hasLine_yes _ _ _ _ _ (by omega) hq1 hq2 _) fun w2 hb2 => bytes_any g c bs L q (by omega) (by omega) hq1 hq2 hbe w2 (h2.below' (hb.trans (hb2.mono hb.size)))
  generalize bs.getD (q - 1) 0 = v at T ⊢
  generalize min (beh bs L q) L = b at T ⊢
  have c0 := h1.cell 0
  have c1 := h1.cell 1
  simp at c0 c1
  have T := Lib.hid T
  clear h1 h2 hb0
  go_enter Try.func15, Try.ntmps15
  go_wp2_with (go_at_call 23; refine (known_some _ _).mono ?_; rintro e w' ⟨rfl, rfl⟩)
  have d0 := fun e => Ext.cell c0 e
  have d1 := fun e => Ext.cell c1 e
  refine wp_region_ext (by kernel_rfl) (by kernel_rfl) ?_
  repeat (first | go_big_quiet_step ((go_at_call 24; exact Calls.ext_of (T.out _ (Ext.grown _)))) | quiet_step ((go_at_call 24; exact Calls.ext_of (T.out _ (Ext.grown _)))))
  refine wpQuiet_nil ?_
  intro _ hw'
  obtain ⟨⟨w1, hb1⟩, rfl⟩ := hw'
  go_wp2
  go_ret3
  exact ⟨rfl, hb1⟩

set_option maxHeartbeats 1000000 in
theorem line_no (x : Nat) (bs : List Nat) (L : Nat) (hb0 : Lns bs L) (hL : L < 1152921504606846976) (q : Int) (hq : q < 1 ∨ (bs.length : Int) < q) (w : World) (hx : Idx w x bs L) :
    Calls Try.prog 15 #[.pointer (some ⟨x, 0, none⟩), .int .i64 q] w fun e w' => e = .returned (.tuple #[.int .i64 0, .int .i64 0, .bool false]) ∧ Below w.heap.size w w' := by
  obtain ⟨g, c, h1, h2⟩ := hx
  have hsh := hb0.short
  have T : ∀ w' : World, Below w.heap.size w w' → Calls Try.prog 24 #[.int .i64 q, .func (.func 27) #[.agg #[.slice (some ⟨g, 0, none⟩) bs.length c, .int .i64 (L + 1 : Nat)]] #[], .func (.func 29) #[.agg #[.slice (some ⟨g, 0, none⟩) bs.length c, .int .i64 (L + 1 : Nat)]] #[]] w' fun e w'' => e = .returned (.tuple #[.int .i64 0, .int .i64 0, .bool false]) ∧ Below w'.heap.size w' w'' :=
    fun w' hb => tell_no 27 29 q _ w' (.inr rfl) (hasLine_no _ _ _ _ _ (by omega) hq _)
  clear hq
  have c0 := h1.cell 0
  have c1 := h1.cell 1
  simp at c0 c1
  have T := Lib.hid T
  clear h1 h2 hb0
  go_enter Try.func15, Try.ntmps15
  go_wp2_with (go_at_call 23; refine (known_some _ _).mono ?_; rintro e w' ⟨rfl, rfl⟩)
  have d0 := fun e => Ext.cell c0 e
  have d1 := fun e => Ext.cell c1 e
  refine wp_region_ext (by kernel_rfl) (by kernel_rfl) ?_
  repeat (first | go_big_quiet_step ((go_at_call 24; exact Calls.ext_of (T.out _ (Ext.grown _)))) | quiet_step ((go_at_call 24; exact Calls.ext_of (T.out _ (Ext.grown _)))))
  refine wpQuiet_nil ?_
  intro _ hw'
  obtain ⟨⟨w1, hb1⟩, rfl⟩ := hw'
  go_wp2
  go_ret3
  exact ⟨rfl, hb1⟩

set_option maxHeartbeats 1000000 in
theorem place_yes (x : Nat) (bs : List Nat) (L : Nat) (hb0 : Lns bs L) (hL : L < 1152921504606846976) (q col : Nat) (hq1 : 1 ≤ q) (hq2 : q ≤ bs.length) (hc1 : 1 ≤ col) (hcol : col + bs.getD (q - 1) 0 ≤ beh bs L q) (w : World) (hx : Idx w x bs L) :
    Calls Try.prog 14 #[.pointer (some ⟨x, 0, none⟩), .int .i64 q, .int .i64 col] w fun e w' => e = .returned (.tuple #[.int .i64 (bs.getD (q - 1) 0 + col - 1 : Nat), .bool true]) ∧ Below w.heap.size w w' := by
  obtain ⟨g, c, h1, h2⟩ := hx
  have hsh := hb0.short
  obtain ⟨hv, hbe⟩ := beh_gt hb0 hq1 hq2
  have T : ∀ w' : World, Below w.heap.size w w' → Calls Try.prog 24 #[.int .i64 q, .func (.func 27) #[.agg #[.slice (some ⟨g, 0, none⟩) bs.length c, .int .i64 (L + 1 : Nat)]] #[], .func (.func 28) #[.agg #[.slice (some ⟨g, 0, none⟩) bs.length c, .int .i64 (L + 1 : Nat)]] #[]] w' fun e w'' => e = .returned (.tuple #[.int .i64 (bs.getD (q - 1) 0 : Nat), .int .i64 (beh bs L q : Nat), .bool true]) ∧ Below w'.heap.size w' w'' :=
    fun w' hb => tell_yes 27 28 q _ _ _ w' (.inr (.inl ⟨rfl, rfl⟩)) (hasLine_yes _ _ _ _ _ (by omega) hq1 hq2 _) fun w2 hb2 => own_any g c bs L q (by omega) (by omega) hq1 hq2 w2 (h2.below' (hb.trans (hb2.mono hb.size)))
  obtain ⟨v, ev⟩ : ∃ v, v = bs.getD (q - 1) 0 := ⟨_, rfl⟩
  obtain ⟨b, eb⟩ : ∃ b, b = beh bs L q := ⟨_, rfl⟩
  rw [← ev] at hv T hcol
  rw [← eb] at hv hbe T hcol
  rw [← ev]
  clear ev eb
  have c0 := h1.cell 0
  have c1 := h1.cell 1
  simp at c0 c1
  have T := Lib.hid T
  clear h1 h2 hb0
  go_enter Try.func14, Try.ntmps14
  go_wp2_with (go_at_call 23; refine (known_some _ _).mono ?_; rintro e w' ⟨rfl, rfl⟩)
  have d0 := fun e => Ext.cell c0 e
  have d1 := fun e => Ext.cell c1 e
  refine wp_region_ext (by kernel_rfl) (by kernel_rfl) ?_
  repeat (first | go_big_quiet_step ((go_at_call 24; exact Calls.ext_of (T.out _ (Ext.grown _)))) | quiet_step ((go_at_call 24; exact Calls.ext_of (T.out _ (Ext.grown _)))))
  refine wpQuiet_nil ?_
  intro _ hw'
  obtain ⟨⟨w1, hb1⟩, rfl⟩ := hw'
  go_wp2
  go_ret2
  exact ⟨ret_ib (by omega), hb1⟩

set_option maxHeartbeats 1000000 in
theorem place_noline (x : Nat) (bs : List Nat) (L : Nat) (hb0 : Lns bs L) (hL : L < 1152921504606846976) (q col : Int) (hq : q < 1 ∨ (bs.length : Int) < q) (w : World) (hx : Idx w x bs L) :
    Calls Try.prog 14 #[.pointer (some ⟨x, 0, none⟩), .int .i64 q, .int .i64 col] w fun e w' => e = .returned (.tuple #[.int .i64 0, .bool false]) ∧ Below w.heap.size w w' := by
  obtain ⟨g, c, h1, h2⟩ := hx
  have hsh := hb0.short
  have T : ∀ w' : World, Below w.heap.size w w' → Calls Try.prog 24 #[.int .i64 q, .func (.func 27) #[.agg #[.slice (some ⟨g, 0, none⟩) bs.length c, .int .i64 (L + 1 : Nat)]] #[], .func (.func 28) #[.agg #[.slice (some ⟨g, 0, none⟩) bs.length c, .int .i64 (L + 1 : Nat)]] #[]] w' fun e w'' => e = .returned (.tuple #[.int .i64 0, .int .i64 0, .bool false]) ∧ Below w'.heap.size w' w'' :=
    fun w' hb => tell_no 27 28 q _ w' (.inr rfl) (hasLine_no _ _ _ _ _ (by omega) hq _)
  clear hq
  have c0 := h1.cell 0
  have c1 := h1.cell 1
  simp at c0 c1
  have T := Lib.hid T
  clear h1 h2 hb0
  go_enter Try.func14, Try.ntmps14
  go_wp2_with (go_at_call 23; refine (known_some _ _).mono ?_; rintro e w' ⟨rfl, rfl⟩)
  have d0 := fun e => Ext.cell c0 e
  have d1 := fun e => Ext.cell c1 e
  refine wp_region_ext (by kernel_rfl) (by kernel_rfl) ?_
  repeat (first | go_big_quiet_step ((go_at_call 24; exact Calls.ext_of (T.out _ (Ext.grown _)))) | quiet_step ((go_at_call 24; exact Calls.ext_of (T.out _ (Ext.grown _)))))
  refine wpQuiet_nil ?_
  intro _ hw'
  obtain ⟨⟨w1, hb1⟩, rfl⟩ := hw'
  go_wp2
  go_ret2
  exact ⟨rfl, hb1⟩

set_option maxHeartbeats 1000000 in
theorem place_nocol (x : Nat) (bs : List Nat) (L : Nat) (hb0 : Lns bs L) (hL : L < 1152921504606846976) (q : Nat) (col : Int) (hq1 : 1 ≤ q) (hq2 : q ≤ bs.length) (hcol : col < 1 ∨ (beh bs L q : Int) < col + (bs.getD (q - 1) 0 : Nat)) (w : World) (hx : Idx w x bs L) :
    Calls Try.prog 14 #[.pointer (some ⟨x, 0, none⟩), .int .i64 q, .int .i64 col] w fun e w' => e = .returned (.tuple #[.int .i64 0, .bool false]) ∧ Below w.heap.size w w' := by
  obtain ⟨g, c, h1, h2⟩ := hx
  have hsh := hb0.short
  obtain ⟨hv, hbe⟩ := beh_gt hb0 hq1 hq2
  have T : ∀ w' : World, Below w.heap.size w w' → Calls Try.prog 24 #[.int .i64 q, .func (.func 27) #[.agg #[.slice (some ⟨g, 0, none⟩) bs.length c, .int .i64 (L + 1 : Nat)]] #[], .func (.func 28) #[.agg #[.slice (some ⟨g, 0, none⟩) bs.length c, .int .i64 (L + 1 : Nat)]] #[]] w' fun e w'' => e = .returned (.tuple #[.int .i64 (bs.getD (q - 1) 0 : Nat), .int .i64 (beh bs L q : Nat), .bool true]) ∧ Below w'.heap.size w' w'' :=
    fun w' hb => tell_yes 27 28 q _ _ _ w' (.inr (.inl ⟨rfl, rfl⟩)) (hasLine_yes _ _ _ _ _ (by omega) hq1 hq2 _) fun w2 hb2 => own_any g c bs L q (by omega) (by omega) hq1 hq2 w2 (h2.below' (hb.trans (hb2.mono hb.size)))
  obtain ⟨v, ev⟩ : ∃ v, v = bs.getD (q - 1) 0 := ⟨_, rfl⟩
  obtain ⟨b, eb⟩ : ∃ b, b = beh bs L q := ⟨_, rfl⟩
  rw [← ev] at hv T hcol
  rw [← eb] at hv hbe T hcol
  clear ev eb
  by_cases hz : col < 1
  · have hd : decide (col < 1) = true := by simpa using hz
    clear hcol
    have c0 := h1.cell 0
    have c1 := h1.cell 1
    simp at c0 c1
    have T := Lib.hid T
    clear h1 h2 hb0
    go_enter Try.func14, Try.ntmps14
    go_wp2_with (go_at_call 23; refine (known_some _ _).mono ?_; rintro e w' ⟨rfl, rfl⟩)
    have d0 := fun e => Ext.cell c0 e
    have d1 := fun e => Ext.cell c1 e
    refine wp_region_ext (by kernel_rfl) (by kernel_rfl) ?_
    repeat (first | go_big_quiet_step ((go_at_call 24; exact Calls.ext_of (T.out _ (Ext.grown _)))) | quiet_step ((go_at_call 24; exact Calls.ext_of (T.out _ (Ext.grown _)))))
    refine wpQuiet_nil ?_
    intro _ hw'
    obtain ⟨⟨w1, hb1⟩, rfl⟩ := hw'
    go_wp2
    go_ret2
    exact ⟨rfl, hb1⟩
  · have hd : decide (col < 1) = false := by simpa using hz
    have hcol : (b : Int) - v < col := by omega
    have c0 := h1.cell 0
    have c1 := h1.cell 1
    simp at c0 c1
    have T := Lib.hid T
    clear h1 h2 hb0
    go_enter Try.func14, Try.ntmps14
    go_wp2_with (go_at_call 23; refine (known_some _ _).mono ?_; rintro e w' ⟨rfl, rfl⟩)
    have d0 := fun e => Ext.cell c0 e
    have d1 := fun e => Ext.cell c1 e
    refine wp_region_ext (by kernel_rfl) (by kernel_rfl) ?_
    repeat (first | go_big_quiet_step ((go_at_call 24; exact Calls.ext_of (T.out _ (Ext.grown _)))) | quiet_step ((go_at_call 24; exact Calls.ext_of (T.out _ (Ext.grown _)))))
    refine wpQuiet_nil ?_
    intro _ hw'
    obtain ⟨⟨w1, hb1⟩, rfl⟩ := hw'
    go_wp2
    go_ret2
    exact ⟨rfl, hb1⟩
end Go.Proofs.Ytmllhjgejlbjhaa

/- Layer 2: no index; an index that New did not answer. -/
import Derived.Test.YtmllhjgejlbjhaaRc
namespace Go.Proofs.Ytmllhjgejlbjhaa
open Go.RowKit
/-- An index without lines. -/
def Emp (w : World) (v : Value) : Prop := Calls Try.prog 23 #[v] w fun e w' => ∃ g, e = .returned (.pointer (some ⟨g, 0, none⟩)) ∧ Below w.heap.size w w' ∧ Blk w' g #[.slice none 0 0, .int .i64 0] 36
theorem emp_nil (w : World) : Emp w (.pointer none) := (known_none w).mono fun _ _ ⟨h1, h2, h3⟩ => ⟨_, h1, h2, h3⟩
theorem emp_ptr (w : World) (g : Nat) (h : Blk w g #[.slice none 0 0, .int .i64 0] 36) : Emp w (.pointer (some ⟨g, 0, none⟩)) :=
  (known_some g w).mono fun _ _ ⟨h1, h2⟩ => ⟨g, h1, by subst h2; exact Below.refl _ _, by subst h2; exact h⟩

set_option maxHeartbeats 1000000 in
theorem at_emp (v : Value) (w : World) (hE : Emp w v) :
    Calls Try.prog 13 #[v, .int .i64 0] w fun e w' => e = .returned (.tuple #[.int .i64 0, .int .i64 0, .bool false]) ∧ Below w.heap.size w w' := by
  have T0 : ∀ w' : World, Calls Try.prog 24 #[.int .i64 0, .func (.func 25) #[.agg #[.slice none 0 0, .int .i64 (0 : Nat)]] #[], .func (.func 26) #[.agg #[.slice none 0 0, .int .i64 (0 : Nat)]] #[]] w' fun e w'' => e = .returned (.tuple #[.int .i64 0, .int .i64 0, .bool false]) ∧ Below w'.heap.size w' w'' :=
    fun w' => tell_no 25 26 0 _ w' (.inl rfl) (hasPlace_no none 0 0 0 0 (by omega) (by omega) w')
  have T1 : ∀ (w1 w' : World), Below w1.heap.size w1 w' → Calls Try.prog 24 #[.int .i64 0, .func (.func 25) #[.agg #[.slice none 0 0, .int .i64 0]] #[], .func (.func 26) #[.agg #[.slice none 0 0, .int .i64 0]] #[]] w' fun e w'' => e = .returned (.tuple #[.int .i64 0, .int .i64 0, .bool false]) ∧ Below w'.heap.size w' w'' := fun _ w' _ => T0 w'
  have HE := Lib.hid hE
  have TH := Lib.hid T1
  clear hE T0 T1
  go_enter Try.func13, Try.ntmps13
  go_wp2_with fail
  refine HE.out.mono ?_
  rintro e w1 ⟨g, rfl, hb1, hB⟩
  have c0 := hB.cell 0
  have c1 := hB.cell 1
  simp at c0 c1
  have B1 := Lib.hid hb1
  have T := Lib.hid (TH.out w1)
  clear hB hb1
  go_wp2_with fail
  have d0 := fun e => Ext.cell c0 e
  have d1 := fun e => Ext.cell c1 e
  refine wp_region_ext (by kernel_rfl) (by kernel_rfl) ?_
  repeat (first | go_big_quiet_step ((go_at_call 24; exact Calls.ext_of (T.out _ (Ext.grown _)))) | quiet_step ((go_at_call 24; exact Calls.ext_of (T.out _ (Ext.grown _)))))
  refine wpQuiet_nil ?_
  intro _ hw'
  obtain ⟨⟨w2, hb2⟩, rfl⟩ := hw'
  go_wp2_with fail
  go_ret3
  exact ⟨rfl, bt B1.out hb2⟩

set_option maxHeartbeats 1000000 in
theorem line_emp (v : Value) (w : World) (hE : Emp w v) :
    Calls Try.prog 15 #[v, .int .i64 1] w fun e w' => e = .returned (.tuple #[.int .i64 0, .int .i64 0, .bool false]) ∧ Below w.heap.size w w' := by
  have T0 : ∀ w' : World, Calls Try.prog 24 #[.int .i64 1, .func (.func 27) #[.agg #[.slice none 0 0, .int .i64 (0 : Nat)]] #[], .func (.func 29) #[.agg #[.slice none 0 0, .int .i64 (0 : Nat)]] #[]] w' fun e w'' => e = .returned (.tuple #[.int .i64 0, .int .i64 0, .bool false]) ∧ Below w'.heap.size w' w'' :=
    fun w' => tell_no 27 29 1 _ w' (.inr rfl) (hasLine_no none 0 0 _ 1 (by omega) (by omega) w')
  have T1 : ∀ (w1 w' : World), Below w1.heap.size w1 w' → Calls Try.prog 24 #[.int .i64 1, .func (.func 27) #[.agg #[.slice none 0 0, .int .i64 0]] #[], .func (.func 29) #[.agg #[.slice none 0 0, .int .i64 0]] #[]] w' fun e w'' => e = .returned (.tuple #[.int .i64 0, .int .i64 0, .bool false]) ∧ Below w'.heap.size w' w'' := fun _ w' _ => T0 w'
  have HE := Lib.hid hE
  have TH := Lib.hid T1
  clear hE T0 T1
  go_enter Try.func15, Try.ntmps15
  go_wp2_with fail
  refine HE.out.mono ?_
  rintro e w1 ⟨g, rfl, hb1, hB⟩
  have c0 := hB.cell 0
  have c1 := hB.cell 1
  simp at c0 c1
  have B1 := Lib.hid hb1
  have T := Lib.hid (TH.out w1)
  clear hB hb1
  go_wp2_with fail
  have d0 := fun e => Ext.cell c0 e
  have d1 := fun e => Ext.cell c1 e
  refine wp_region_ext (by kernel_rfl) (by kernel_rfl) ?_
  repeat (first | go_big_quiet_step ((go_at_call 24; exact Calls.ext_of (T.out _ (Ext.grown _)))) | quiet_step ((go_at_call 24; exact Calls.ext_of (T.out _ (Ext.grown _)))))
  refine wpQuiet_nil ?_
  intro _ hw'
  obtain ⟨⟨w2, hb2⟩, rfl⟩ := hw'
  go_wp2_with fail
  go_ret3
  exact ⟨rfl, bt B1.out hb2⟩

set_option maxHeartbeats 1000000 in
theorem place_emp (v : Value) (w : World) (hE : Emp w v) :
    Calls Try.prog 14 #[v, .int .i64 1, .int .i64 1] w fun e w' => e = .returned (.tuple #[.int .i64 0, .bool false]) ∧ Below w.heap.size w w' := by
  have T0 : ∀ w' : World, Calls Try.prog 24 #[.int .i64 1, .func (.func 27) #[.agg #[.slice none 0 0, .int .i64 (0 : Nat)]] #[], .func (.func 28) #[.agg #[.slice none 0 0, .int .i64 (0 : Nat)]] #[]] w' fun e w'' => e = .returned (.tuple #[.int .i64 0, .int .i64 0, .bool false]) ∧ Below w'.heap.size w' w'' :=
    fun w' => tell_no 27 28 1 _ w' (.inr rfl) (hasLine_no none 0 0 _ 1 (by omega) (by omega) w')
  have T1 : ∀ (w1 w' : World), Below w1.heap.size w1 w' → Calls Try.prog 24 #[.int .i64 1, .func (.func 27) #[.agg #[.slice none 0 0, .int .i64 0]] #[], .func (.func 28) #[.agg #[.slice none 0 0, .int .i64 0]] #[]] w' fun e w'' => e = .returned (.tuple #[.int .i64 0, .int .i64 0, .bool false]) ∧ Below w'.heap.size w' w'' := fun _ w' _ => T0 w'
  have HE := Lib.hid hE
  have TH := Lib.hid T1
  clear hE T0 T1
  go_enter Try.func14, Try.ntmps14
  go_wp2_with fail
  refine HE.out.mono ?_
  rintro e w1 ⟨g, rfl, hb1, hB⟩
  have c0 := hB.cell 0
  have c1 := hB.cell 1
  simp at c0 c1
  have B1 := Lib.hid hb1
  have T := Lib.hid (TH.out w1)
  clear hB hb1
  go_wp2_with fail
  have d0 := fun e => Ext.cell c0 e
  have d1 := fun e => Ext.cell c1 e
  refine wp_region_ext (by kernel_rfl) (by kernel_rfl) ?_
  repeat (first | go_big_quiet_step ((go_at_call 24; exact Calls.ext_of (T.out _ (Ext.grown _)))) | quiet_step ((go_at_call 24; exact Calls.ext_of (T.out _ (Ext.grown _)))))
  refine wpQuiet_nil ?_
  intro _ hw'
  obtain ⟨⟨w2, hb2⟩, rfl⟩ := hw'
  go_wp2_with fail
  go_ret2
  exact ⟨rfl, bt B1.out hb2⟩

set_option maxHeartbeats 1000000 in
theorem lines_emp (v : Value) (w : World) (hE : Emp w v) :
    Calls Try.prog 16 #[v] w fun e w' => e = .returned (.int .i64 0) ∧ Below w.heap.size w w' := by
  have HE := Lib.hid hE
  clear hE
  go_enter Try.func16, Try.ntmps16
  go_wp2_with fail
  refine HE.out.mono ?_
  rintro e w1 ⟨g, rfl, hb1, hB⟩
  have c0 := hB.cell 0
  have c1 := hB.cell 1
  simp at c0 c1
  have B1 := Lib.hid hb1
  clear hB hb1
  go_wp2_with fail
  refine (count_any none 0 0 0 w1).mono ?_
  rintro e w2 ⟨rfl, hb2⟩
  go_wp2_with fail
  go_ret
  exact ⟨rfl, bt B1.out hb2⟩

set_option maxHeartbeats 1000000 in
theorem len_emp (v : Value) (w : World) (hE : Emp w v) :
    Calls Try.prog 17 #[v] w fun e w' => e = .returned (.int .i64 0) ∧ Below w.heap.size w w' := by
  have HE := Lib.hid hE
  clear hE
  go_enter Try.func17, Try.ntmps17
  go_wp2_with fail
  refine HE.out.mono ?_
  rintro e w1 ⟨g, rfl, hb1, hB⟩
  have c0 := hB.cell 0
  have c1 := hB.cell 1
  simp at c0 c1
  have B1 := Lib.hid hb1
  clear hB hb1
  go_wp2_with fail
  refine (size_any none 0 0 0 (by omega) w1).mono ?_
  rintro e w2 ⟨rfl, hb2⟩
  go_wp2_with fail
  go_ret
  exact ⟨rfl, bt B1.out hb2⟩
end Go.Proofs.Ytmllhjgejlbjhaa

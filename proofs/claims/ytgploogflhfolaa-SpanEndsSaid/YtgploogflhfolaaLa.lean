/- Layer 3: the law SpanTells, walked. -/
import Derived.Test.YtgploogflhfolaaWe
import Derived.Test.YtgploogflhfolaaRq
namespace Go.Proofs.Ytgploogflhfolaa
open Go.RowKit
/-- What awake says. -/
def Awake : Prop := ∀ w : World, Calls Try.prog 20 #[] w fun e w' => e = .returned (.bool true) ∧ Below w.heap.size w w'

set_option maxRecDepth 100000 in
set_option maxHeartbeats 2000000 in
theorem tells_raw (hA : Awake) (a1 a2 b1 b2 p : Int) (ha : a2 < 9223372036854775808) (w : World) :
    Calls Try.prog 3 #[.agg #[.int .i64 a1, .int .i64 a2], .agg #[.int .i64 b1, .int .i64 b2], .int .i64 p] w fun e w' => e = .returned (.bool true) ∧ Below w.heap.size w w' := by
  have M := fun w => meet_raw a1 a2 b1 b2 w
  have N := fun w => rmeet_raw a1 a2 b1 b2 w
  generalize (mee (a1, a2) (b1, b2)).1 = m1 at M N
  generalize (mee (a1, a2) (b1, b2)).2 = m2 at M N
  generalize ism (a1, a2) (b1, b2) = im at M N
  have R := fun w => right_any a1 a2 w
  have R' := fun w => rright_any a1 a2 w
  generalize rt a1 a2 = r at R R'
  have L := fun w => len_any a1 a2 ha w
  have L' := fun w => rlen_any a1 a2 ha w
  generalize ln a1 a2 = l at L L'
  have H := fun w => has_any a1 a2 p w
  have H' := fun w => rhas_any a1 a2 p w
  generalize hs a1 a2 p = h at H H'
  have I := fun w => in_raw a1 a2 b1 b2 w
  have I' := fun w => rin_raw a1 a2 b1 b2 w
  generalize (rt a1 a2 && rt b1 b2 && decide (b1 ≤ a1) && decide (a2 ≤ b2)) = i at I I'
  have S := fun w => less_raw a1 a2 b1 b2 w
  have S' := fun w => rless_raw a1 a2 b1 b2 w
  generalize (rt a1 a2 && rt b1 b2 && (decide (a1 < b1) || decide (a1 = b1) && decide (b2 < a2))) = s at S S'
  have M := Lib.hid M
  have N := Lib.hid N
  have R := Lib.hid R
  have R' := Lib.hid R'
  have L := Lib.hid L
  have L' := Lib.hid L'
  have H := Lib.hid H
  have H' := Lib.hid H'
  have I := Lib.hid I
  have I' := Lib.hid I'
  have S := Lib.hid S
  have S' := Lib.hid S'
  have A := Lib.hid hA
  clear hA ha
  go_enter Try.func3, Try.ntmps3
  go_wp2_with fail
  refine (M.out _).mono ?_
  rintro e w1 ⟨rfl, hb⟩
  have BA := ((Blk.new w #[.int .i64 a1, .int .i64 a2] 23).alloc (.cells #[.int .i64 b1, .int .i64 b2] 23)).below hb (by simp; omega)
  have BB := (Blk.new2 w (.cells #[.int .i64 a1, .int .i64 a2] 23) #[.int .i64 b1, .int .i64 b2] 23).below hb (by simp)
  have hb1 := bt (B2 _ _ _) hb (by simp; omega)
  obtain ⟨a0, a1'⟩ := BA.two
  obtain ⟨b0, b1'⟩ := BB.two
  have hz1 := BA.lt
  have hz2 := BB.lt
  have BA := Lib.hid BA
  have BB := Lib.hid BB
  clear hb
  go_wp2_with fail
  refine (N.out _).mono ?_
  rintro e w2 ⟨rfl, hb⟩
  have BA2 := (BA.out.alloc (.cells #[.int .i64 m1, .int .i64 m2] 23)).below hb (by have := BA.out.lt; simp; omega)
  have BB2 := (BB.out.alloc (.cells #[.int .i64 m1, .int .i64 m2] 23)).below hb (by have := BB.out.lt; simp; omega)
  have BM2 := (Blk.new w1 #[.int .i64 m1, .int .i64 m2] 23).below hb (by simp)
  have hb2 := bt (hb1.alloc hb1.size (.cells #[.int .i64 m1, .int .i64 m2] 23)) hb (by have := hb1.size; simp; omega)
  obtain ⟨W, eW⟩ : ∃ W, W = w2.alloc (.cells #[.int .i64 m1, .int .i64 m2] 23) := ⟨_, rfl⟩
  have hb3 := hb2.alloc hb2.size (.cells #[.int .i64 m1, .int .i64 m2] 23)
  have BA3 := BA2.alloc (.cells #[.int .i64 m1, .int .i64 m2] 23)
  have BB3 := BB2.alloc (.cells #[.int .i64 m1, .int .i64 m2] 23)
  have BM3 := BM2.alloc (.cells #[.int .i64 m1, .int .i64 m2] 23)
  have BN3 := Blk.new w2 #[.int .i64 m1, .int .i64 m2] 23
  rw [← eW] at hb3 BA3 BB3 BM3 BN3
  obtain ⟨a0, a1'⟩ := BA3.two
  obtain ⟨b0, b1'⟩ := BB3.two
  obtain ⟨m0, m1'⟩ := BM3.two
  obtain ⟨n0, n1'⟩ := BN3.two
  have BA := Lib.hid BA3
  have BB := Lib.hid BB3
  have HB := Lib.hid hb3
  clear hb hb1 hb2 hb3 BA2 BB2 BM2 BA3 BB3 BM3 BN3
  go_wp2_with fail
  rw [← eW]
  clear eW
  have d0 := fun e => Ext.cell a0 e
  have d1 := fun e => Ext.cell a1' e
  have d2 := fun e => Ext.cell m0 e
  have d3 := fun e => Ext.cell m1' e
  have d4 := fun e => Ext.cell n0 e
  have d5 := fun e => Ext.cell n1' e
  refine wp_region_ext (by kernel_rfl) (by kernel_rfl) ?_
  repeat (first | go_big_quiet_step (first | (go_at_call 10; exact Calls.ext_of (R.out _)) | (go_at_call 11; exact Calls.ext_of (R'.out _)) | (go_at_call 12; exact Calls.ext_of (L.out _)) | (go_at_call 13; exact Calls.ext_of (L'.out _)) | (go_at_call 14; exact Calls.ext_of (H.out _)) | (go_at_call 15; exact Calls.ext_of (H'.out _))) | quiet_step (first | (go_at_call 10; exact Calls.ext_of (R.out _)) | (go_at_call 11; exact Calls.ext_of (R'.out _)) | (go_at_call 12; exact Calls.ext_of (L.out _)) | (go_at_call 13; exact Calls.ext_of (L'.out _)) | (go_at_call 14; exact Calls.ext_of (H.out _)) | (go_at_call 15; exact Calls.ext_of (H'.out _))))
  refine wpQuiet_nil ?_
  intro W4 hw'
  obtain ⟨⟨_, hb4⟩, rfl⟩ := hw'
  obtain ⟨a0, a1'⟩ := (BA.out.below hb4 BA.out.lt).two
  obtain ⟨b0, b1'⟩ := (BB.out.below hb4 BB.out.lt).two
  have HB4 := Lib.hid (bt HB.out hb4 HB.out.size)
  clear d0 d1 d2 d3 d4 d5 m0 m1' n0 n1' hb4
  go_wp2_with fail
  have d0 := fun e => Ext.cell a0 e
  have d1 := fun e => Ext.cell a1' e
  have d2 := fun e => Ext.cell b0 e
  have d3 := fun e => Ext.cell b1' e
  refine wp_region_ext (by kernel_rfl) (by kernel_rfl) ?_
  repeat (first | go_big_quiet_step (first | (go_at_call 16; exact Calls.ext_of (I.out _)) | (go_at_call 17; exact Calls.ext_of (I'.out _)) | (go_at_call 18; exact Calls.ext_of (S.out _)) | (go_at_call 19; exact Calls.ext_of (S'.out _)) | (go_at_call 20; exact Calls.ext_of (A.out _))) | quiet_step (first | (go_at_call 16; exact Calls.ext_of (I.out _)) | (go_at_call 17; exact Calls.ext_of (I'.out _)) | (go_at_call 18; exact Calls.ext_of (S.out _)) | (go_at_call 19; exact Calls.ext_of (S'.out _)) | (go_at_call 20; exact Calls.ext_of (A.out _))))
  refine wpQuiet_nil ?_
  intro W5 hw'
  obtain ⟨⟨_, hb5⟩, rfl⟩ := hw'
  go_wp2_with fail
  go_ret
  exact ⟨rfl, bt HB4.out hb5 HB4.out.size⟩
end Go.Proofs.Ytgploogflhfolaa

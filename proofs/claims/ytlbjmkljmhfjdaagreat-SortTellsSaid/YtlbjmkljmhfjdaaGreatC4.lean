/- Whether a node is right: the document's answer, walked Kind by Kind. -/
import Derived.Test.YtlbjmkljmhfjdaaGreatA7
set_option linter.unusedSimpArgs false
set_option linter.unusedVariables false
namespace Go.Proofs.YtlbjmkljmhfjdaaGreat
open Go Go.RowKit
theorem ok_iff {b : Bool} {x : Nd} {r : Int} (h : b = true ↔ NodeIs x r) : b = nodeOk x r := by rw [Bool.eq_iff_iff, h, nodeOk_iff]
set_option maxRecDepth 100000 in
set_option maxHeartbeats 4000000 in
theorem refNode_1 (c0 c1 c2 c3 : Int) (t : ByteArray) (ru le : Int) (A : Option Addr) (cap : Nat) (ks : List Int) (r : Int) (w : World) (hkl : ks.length ≤ 140737488351232) (hts : t.size ≤ 9223372036854775807) :
    Calls Tryz.prog 154 #[.agg #[.int .i64 1, .int .u64 c0, .int .u64 c1, .int .u64 c2, .int .u64 c3, .string t, .int .i64 ru, .int .i64 le, .slice A ks.length cap], .int .i64 r] w fun e w' => e = .returned (.bool (nodeOk ⟨1, c0, c1, c2, c3, t, ru, le, A, cap, ks⟩ r)) ∧ Below w.heap.size w w' := by
  obtain ⟨v, ev⟩ : ∃ v, v = nodeOk ⟨1, c0, c1, c2, c3, t, ru, le, A, cap, ks⟩ r := ⟨_, rfl⟩
  rw [← ev]
  have EV := Lib.hid ev
  clear ev
  go_enter Tryz.func154, Tryz.ntmps154
  go_wp2_with fail
  by_cases hr : ru = 0
  · have hb : (ru == 0) = true := by simpa using hr
    have hb2 : (ru != 0) = false := by simpa using hr
    have HR := Lib.hid hr
    clear hr
    go_quiet (fail)
    go_wp2_with fail
    all_goals
      go_ret
      refine ⟨ret_bool ?_, bdrew (B2 _ _ _)⟩
      rw [EV.out]
      refine ok_iff ?_
      have hr := HR.out
      unfold NodeIs
      simp at *
      grind
  · have hb : (ru == 0) = false := by simpa using hr
    have hb2 : (ru != 0) = true := by simpa using hr
    have HR := Lib.hid hr
    clear hr
    go_quiet (fail)
    go_wp2_with fail
    all_goals
      go_ret
      refine ⟨ret_bool ?_, bdrew (B2 _ _ _)⟩
      rw [EV.out]
      refine ok_iff ?_
      have hr := HR.out
      unfold NodeIs
      simp at *
      grind
set_option maxRecDepth 100000 in
set_option maxHeartbeats 4000000 in
theorem refNode_2 (c0 c1 c2 c3 : Int) (t : ByteArray) (ru le : Int) (A : Option Addr) (cap : Nat) (ks : List Int) (r : Int) (w : World) (hkl : ks.length ≤ 140737488351232) (hts : t.size ≤ 9223372036854775807) :
    Calls Tryz.prog 154 #[.agg #[.int .i64 2, .int .u64 c0, .int .u64 c1, .int .u64 c2, .int .u64 c3, .string t, .int .i64 ru, .int .i64 le, .slice A ks.length cap], .int .i64 r] w fun e w' => e = .returned (.bool (nodeOk ⟨2, c0, c1, c2, c3, t, ru, le, A, cap, ks⟩ r)) ∧ Below w.heap.size w w' := by
  obtain ⟨v, ev⟩ : ∃ v, v = nodeOk ⟨2, c0, c1, c2, c3, t, ru, le, A, cap, ks⟩ r := ⟨_, rfl⟩
  rw [← ev]
  have EV := Lib.hid ev
  clear ev
  go_enter Tryz.func154, Tryz.ntmps154
  go_wp2_with fail
  by_cases hr : ru = 0
  · have hb : (ru == 0) = true := by simpa using hr
    have hb2 : (ru != 0) = false := by simpa using hr
    have HR := Lib.hid hr
    clear hr
    go_quiet (fail)
    go_wp2_with fail
    all_goals
      go_ret
      refine ⟨ret_bool ?_, bdrew (B2 _ _ _)⟩
      rw [EV.out]
      refine ok_iff ?_
      have hr := HR.out
      unfold NodeIs
      simp at *
      grind
  · have hb : (ru == 0) = false := by simpa using hr
    have hb2 : (ru != 0) = true := by simpa using hr
    have HR := Lib.hid hr
    clear hr
    go_quiet (fail)
    go_wp2_with fail
    all_goals
      go_ret
      refine ⟨ret_bool ?_, bdrew (B2 _ _ _)⟩
      rw [EV.out]
      refine ok_iff ?_
      have hr := HR.out
      unfold NodeIs
      simp at *
      grind
set_option maxRecDepth 100000 in
set_option maxHeartbeats 4000000 in
theorem refNode_3 (c0 c1 c2 c3 : Int) (t : ByteArray) (ru le : Int) (A : Option Addr) (cap : Nat) (ks : List Int) (r : Int) (w : World) (hkl : ks.length ≤ 140737488351232) (hts : t.size ≤ 9223372036854775807) :
    Calls Tryz.prog 154 #[.agg #[.int .i64 3, .int .u64 c0, .int .u64 c1, .int .u64 c2, .int .u64 c3, .string t, .int .i64 ru, .int .i64 le, .slice A ks.length cap], .int .i64 r] w fun e w' => e = .returned (.bool (nodeOk ⟨3, c0, c1, c2, c3, t, ru, le, A, cap, ks⟩ r)) ∧ Below w.heap.size w w' := by
  obtain ⟨v, ev⟩ : ∃ v, v = nodeOk ⟨3, c0, c1, c2, c3, t, ru, le, A, cap, ks⟩ r := ⟨_, rfl⟩
  rw [← ev]
  have EV := Lib.hid ev
  clear ev
  go_enter Tryz.func154, Tryz.ntmps154
  go_wp2_with fail
  by_cases hr : ru = 0
  · have hb : (ru == 0) = true := by simpa using hr
    have hb2 : (ru != 0) = false := by simpa using hr
    have HR := Lib.hid hr
    clear hr
    go_quiet (fail)
    go_wp2_with fail
    all_goals
      go_ret
      refine ⟨ret_bool ?_, bdrew (B2 _ _ _)⟩
      rw [EV.out]
      refine ok_iff ?_
      have hr := HR.out
      unfold NodeIs
      simp at *
      grind
  · have hb : (ru == 0) = false := by simpa using hr
    have hb2 : (ru != 0) = true := by simpa using hr
    have HR := Lib.hid hr
    clear hr
    go_quiet (fail)
    go_wp2_with fail
    all_goals
      go_ret
      refine ⟨ret_bool ?_, bdrew (B2 _ _ _)⟩
      rw [EV.out]
      refine ok_iff ?_
      have hr := HR.out
      unfold NodeIs
      simp at *
      grind
set_option maxRecDepth 100000 in
set_option maxHeartbeats 4000000 in
theorem refNode_4 (c0 c1 c2 c3 : Int) (t : ByteArray) (ru le : Int) (A : Option Addr) (cap : Nat) (ks : List Int) (r : Int) (w : World) (hkl : ks.length ≤ 140737488351232) (hts : t.size ≤ 9223372036854775807) :
    Calls Tryz.prog 154 #[.agg #[.int .i64 4, .int .u64 c0, .int .u64 c1, .int .u64 c2, .int .u64 c3, .string t, .int .i64 ru, .int .i64 le, .slice A ks.length cap], .int .i64 r] w fun e w' => e = .returned (.bool (nodeOk ⟨4, c0, c1, c2, c3, t, ru, le, A, cap, ks⟩ r)) ∧ Below w.heap.size w w' := by
  obtain ⟨v, ev⟩ : ∃ v, v = nodeOk ⟨4, c0, c1, c2, c3, t, ru, le, A, cap, ks⟩ r := ⟨_, rfl⟩
  rw [← ev]
  have EV := Lib.hid ev
  clear ev
  go_enter Tryz.func154, Tryz.ntmps154
  go_wp2_with fail
  by_cases hr : ru = 0
  · have hb : (ru == 0) = true := by simpa using hr
    have hb2 : (ru != 0) = false := by simpa using hr
    have HR := Lib.hid hr
    clear hr
    go_quiet (fail)
    go_wp2_with fail
    all_goals
      go_ret
      refine ⟨ret_bool ?_, bdrew (B2 _ _ _)⟩
      rw [EV.out]
      refine ok_iff ?_
      have hr := HR.out
      unfold NodeIs
      simp at *
      grind
  · have hb : (ru == 0) = false := by simpa using hr
    have hb2 : (ru != 0) = true := by simpa using hr
    have HR := Lib.hid hr
    clear hr
    go_quiet (fail)
    go_wp2_with fail
    all_goals
      go_ret
      refine ⟨ret_bool ?_, bdrew (B2 _ _ _)⟩
      rw [EV.out]
      refine ok_iff ?_
      have hr := HR.out
      unfold NodeIs
      simp at *
      grind
set_option maxRecDepth 100000 in
set_option maxHeartbeats 4000000 in
theorem refNode_5 (c0 c1 c2 c3 : Int) (t : ByteArray) (ru le : Int) (A : Option Addr) (cap : Nat) (ks : List Int) (r : Int) (w : World) (hkl : ks.length ≤ 140737488351232) (hts : t.size ≤ 9223372036854775807) :
    Calls Tryz.prog 154 #[.agg #[.int .i64 5, .int .u64 c0, .int .u64 c1, .int .u64 c2, .int .u64 c3, .string t, .int .i64 ru, .int .i64 le, .slice A ks.length cap], .int .i64 r] w fun e w' => e = .returned (.bool (nodeOk ⟨5, c0, c1, c2, c3, t, ru, le, A, cap, ks⟩ r)) ∧ Below w.heap.size w w' := by
  obtain ⟨v, ev⟩ : ∃ v, v = nodeOk ⟨5, c0, c1, c2, c3, t, ru, le, A, cap, ks⟩ r := ⟨_, rfl⟩
  rw [← ev]
  have EV := Lib.hid ev
  clear ev
  go_enter Tryz.func154, Tryz.ntmps154
  go_wp2_with fail
  by_cases hr : ru = 0
  · have hb : (ru == 0) = true := by simpa using hr
    have hb2 : (ru != 0) = false := by simpa using hr
    have HR := Lib.hid hr
    clear hr
    go_quiet (fail)
    go_wp2_with fail
    all_goals
      go_ret
      refine ⟨ret_bool ?_, bdrew (B2 _ _ _)⟩
      rw [EV.out]
      refine ok_iff ?_
      have hr := HR.out
      unfold NodeIs
      simp at *
      grind
  · have hb : (ru == 0) = false := by simpa using hr
    have hb2 : (ru != 0) = true := by simpa using hr
    have HR := Lib.hid hr
    clear hr
    go_quiet (fail)
    go_wp2_with fail
    all_goals
      go_ret
      refine ⟨ret_bool ?_, bdrew (B2 _ _ _)⟩
      rw [EV.out]
      refine ok_iff ?_
      have hr := HR.out
      unfold NodeIs
      simp at *
      grind
set_option maxRecDepth 100000 in
set_option maxHeartbeats 4000000 in
theorem refNode_6 (c0 c1 c2 c3 : Int) (t : ByteArray) (ru le : Int) (A : Option Addr) (cap : Nat) (ks : List Int) (r : Int) (w : World) (hkl : ks.length ≤ 140737488351232) (hts : t.size ≤ 9223372036854775807) :
    Calls Tryz.prog 154 #[.agg #[.int .i64 6, .int .u64 c0, .int .u64 c1, .int .u64 c2, .int .u64 c3, .string t, .int .i64 ru, .int .i64 le, .slice A ks.length cap], .int .i64 r] w fun e w' => e = .returned (.bool (nodeOk ⟨6, c0, c1, c2, c3, t, ru, le, A, cap, ks⟩ r)) ∧ Below w.heap.size w w' := by
  obtain ⟨v, ev⟩ : ∃ v, v = nodeOk ⟨6, c0, c1, c2, c3, t, ru, le, A, cap, ks⟩ r := ⟨_, rfl⟩
  rw [← ev]
  have EV := Lib.hid ev
  clear ev
  go_enter Tryz.func154, Tryz.ntmps154
  go_wp2_with fail
  by_cases hr : ru = 0
  · have hb : (ru == 0) = true := by simpa using hr
    have hb2 : (ru != 0) = false := by simpa using hr
    have HR := Lib.hid hr
    clear hr
    go_quiet (fail)
    go_wp2_with fail
    all_goals
      go_ret
      refine ⟨ret_bool ?_, bdrew (B2 _ _ _)⟩
      rw [EV.out]
      refine ok_iff ?_
      have hr := HR.out
      unfold NodeIs
      simp at *
      grind
  · have hb : (ru == 0) = false := by simpa using hr
    have hb2 : (ru != 0) = true := by simpa using hr
    have HR := Lib.hid hr
    clear hr
    go_quiet (fail)
    go_wp2_with fail
    all_goals
      go_ret
      refine ⟨ret_bool ?_, bdrew (B2 _ _ _)⟩
      rw [EV.out]
      refine ok_iff ?_
      have hr := HR.out
      unfold NodeIs
      simp at *
      grind
set_option maxRecDepth 100000 in
set_option maxHeartbeats 4000000 in
theorem refNode_7 (c0 c1 c2 c3 : Int) (t : ByteArray) (ru le : Int) (A : Option Addr) (cap : Nat) (ks : List Int) (r : Int) (w : World) (hkl : ks.length ≤ 140737488351232) (hts : t.size ≤ 9223372036854775807) :
    Calls Tryz.prog 154 #[.agg #[.int .i64 7, .int .u64 c0, .int .u64 c1, .int .u64 c2, .int .u64 c3, .string t, .int .i64 ru, .int .i64 le, .slice A ks.length cap], .int .i64 r] w fun e w' => e = .returned (.bool (nodeOk ⟨7, c0, c1, c2, c3, t, ru, le, A, cap, ks⟩ r)) ∧ Below w.heap.size w w' := by
  obtain ⟨v, ev⟩ : ∃ v, v = nodeOk ⟨7, c0, c1, c2, c3, t, ru, le, A, cap, ks⟩ r := ⟨_, rfl⟩
  rw [← ev]
  have EV := Lib.hid ev
  clear ev
  go_enter Tryz.func154, Tryz.ntmps154
  go_wp2_with fail
  by_cases hr : ru = 0
  · have hb : (ru == 0) = true := by simpa using hr
    have hb2 : (ru != 0) = false := by simpa using hr
    have HR := Lib.hid hr
    clear hr
    go_quiet (fail)
    go_wp2_with fail
    all_goals
      go_ret
      refine ⟨ret_bool ?_, bdrew (B2 _ _ _)⟩
      rw [EV.out]
      refine ok_iff ?_
      have hr := HR.out
      unfold NodeIs
      simp at *
      grind
  · have hb : (ru == 0) = false := by simpa using hr
    have hb2 : (ru != 0) = true := by simpa using hr
    have HR := Lib.hid hr
    clear hr
    go_quiet (fail)
    go_wp2_with fail
    all_goals
      go_ret
      refine ⟨ret_bool ?_, bdrew (B2 _ _ _)⟩
      rw [EV.out]
      refine ok_iff ?_
      have hr := HR.out
      unfold NodeIs
      simp at *
      grind
set_option maxRecDepth 100000 in
set_option maxHeartbeats 4000000 in
theorem refNode_8 (c0 c1 c2 c3 : Int) (t : ByteArray) (ru le : Int) (A : Option Addr) (cap : Nat) (ks : List Int) (r : Int) (w : World) (hkl : ks.length ≤ 140737488351232) (hts : t.size ≤ 9223372036854775807) :
    Calls Tryz.prog 154 #[.agg #[.int .i64 8, .int .u64 c0, .int .u64 c1, .int .u64 c2, .int .u64 c3, .string t, .int .i64 ru, .int .i64 le, .slice A ks.length cap], .int .i64 r] w fun e w' => e = .returned (.bool (nodeOk ⟨8, c0, c1, c2, c3, t, ru, le, A, cap, ks⟩ r)) ∧ Below w.heap.size w w' := by
  obtain ⟨v, ev⟩ : ∃ v, v = nodeOk ⟨8, c0, c1, c2, c3, t, ru, le, A, cap, ks⟩ r := ⟨_, rfl⟩
  rw [← ev]
  have EV := Lib.hid ev
  clear ev
  go_enter Tryz.func154, Tryz.ntmps154
  go_wp2_with fail
  by_cases hr : ru = 0
  · have hb : (ru == 0) = true := by simpa using hr
    have hb2 : (ru != 0) = false := by simpa using hr
    have HR := Lib.hid hr
    clear hr
    go_quiet (fail)
    go_wp2_with fail
    all_goals
      go_ret
      refine ⟨ret_bool ?_, bdrew (B2 _ _ _)⟩
      rw [EV.out]
      refine ok_iff ?_
      have hr := HR.out
      unfold NodeIs
      simp at *
      grind
  · have hb : (ru == 0) = false := by simpa using hr
    have hb2 : (ru != 0) = true := by simpa using hr
    have HR := Lib.hid hr
    clear hr
    go_quiet (fail)
    go_wp2_with fail
    all_goals
      go_ret
      refine ⟨ret_bool ?_, bdrew (B2 _ _ _)⟩
      rw [EV.out]
      refine ok_iff ?_
      have hr := HR.out
      unfold NodeIs
      simp at *
      grind
set_option maxRecDepth 100000 in
set_option maxHeartbeats 4000000 in
theorem refNode_9 (c0 c1 c2 c3 : Int) (t : ByteArray) (ru le : Int) (A : Option Addr) (cap : Nat) (ks : List Int) (r : Int) (w : World) (hkl : ks.length ≤ 140737488351232) (hts : t.size ≤ 9223372036854775807) :
    Calls Tryz.prog 154 #[.agg #[.int .i64 9, .int .u64 c0, .int .u64 c1, .int .u64 c2, .int .u64 c3, .string t, .int .i64 ru, .int .i64 le, .slice A ks.length cap], .int .i64 r] w fun e w' => e = .returned (.bool (nodeOk ⟨9, c0, c1, c2, c3, t, ru, le, A, cap, ks⟩ r)) ∧ Below w.heap.size w w' := by
  obtain ⟨v, ev⟩ : ∃ v, v = nodeOk ⟨9, c0, c1, c2, c3, t, ru, le, A, cap, ks⟩ r := ⟨_, rfl⟩
  rw [← ev]
  have EV := Lib.hid ev
  clear ev
  go_enter Tryz.func154, Tryz.ntmps154
  go_wp2_with fail
  by_cases hr : ru = 0
  · have hb : (ru == 0) = true := by simpa using hr
    have hb2 : (ru != 0) = false := by simpa using hr
    have HR := Lib.hid hr
    clear hr
    go_quiet (fail)
    go_wp2_with fail
    all_goals
      go_ret
      refine ⟨ret_bool ?_, bdrew (B2 _ _ _)⟩
      rw [EV.out]
      refine ok_iff ?_
      have hr := HR.out
      unfold NodeIs
      simp at *
      grind
  · have hb : (ru == 0) = false := by simpa using hr
    have hb2 : (ru != 0) = true := by simpa using hr
    have HR := Lib.hid hr
    clear hr
    go_quiet (fail)
    go_wp2_with fail
    all_goals
      go_ret
      refine ⟨ret_bool ?_, bdrew (B2 _ _ _)⟩
      rw [EV.out]
      refine ok_iff ?_
      have hr := HR.out
      unfold NodeIs
      simp at *
      grind
set_option maxRecDepth 100000 in
set_option maxHeartbeats 4000000 in
theorem refNode_10 (c0 c1 c2 c3 : Int) (t : ByteArray) (ru le : Int) (A : Option Addr) (cap : Nat) (ks : List Int) (r : Int) (w : World) (hkl : ks.length ≤ 140737488351232) (hts : t.size ≤ 9223372036854775807) :
    Calls Tryz.prog 154 #[.agg #[.int .i64 10, .int .u64 c0, .int .u64 c1, .int .u64 c2, .int .u64 c3, .string t, .int .i64 ru, .int .i64 le, .slice A ks.length cap], .int .i64 r] w fun e w' => e = .returned (.bool (nodeOk ⟨10, c0, c1, c2, c3, t, ru, le, A, cap, ks⟩ r)) ∧ Below w.heap.size w w' := by
  obtain ⟨v, ev⟩ : ∃ v, v = nodeOk ⟨10, c0, c1, c2, c3, t, ru, le, A, cap, ks⟩ r := ⟨_, rfl⟩
  rw [← ev]
  have EV := Lib.hid ev
  clear ev
  go_enter Tryz.func154, Tryz.ntmps154
  go_wp2_with fail
  by_cases hr : ru = 0
  · have hb : (ru == 0) = true := by simpa using hr
    have hb2 : (ru != 0) = false := by simpa using hr
    have HR := Lib.hid hr
    clear hr
    go_quiet (fail)
    go_wp2_with fail
    all_goals
      go_ret
      refine ⟨ret_bool ?_, bdrew (B2 _ _ _)⟩
      rw [EV.out]
      refine ok_iff ?_
      have hr := HR.out
      unfold NodeIs
      simp at *
      grind
  · have hb : (ru == 0) = false := by simpa using hr
    have hb2 : (ru != 0) = true := by simpa using hr
    have HR := Lib.hid hr
    clear hr
    go_quiet (fail)
    go_wp2_with fail
    all_goals
      go_ret
      refine ⟨ret_bool ?_, bdrew (B2 _ _ _)⟩
      rw [EV.out]
      refine ok_iff ?_
      have hr := HR.out
      unfold NodeIs
      simp at *
      grind
set_option maxRecDepth 100000 in
set_option maxHeartbeats 4000000 in
theorem refNode_11 (c0 c1 c2 c3 : Int) (t : ByteArray) (ru le : Int) (A : Option Addr) (cap : Nat) (ks : List Int) (r : Int) (w : World) (hkl : ks.length ≤ 140737488351232) (hts : t.size ≤ 9223372036854775807) :
    Calls Tryz.prog 154 #[.agg #[.int .i64 11, .int .u64 c0, .int .u64 c1, .int .u64 c2, .int .u64 c3, .string t, .int .i64 ru, .int .i64 le, .slice A ks.length cap], .int .i64 r] w fun e w' => e = .returned (.bool (nodeOk ⟨11, c0, c1, c2, c3, t, ru, le, A, cap, ks⟩ r)) ∧ Below w.heap.size w w' := by
  obtain ⟨v, ev⟩ : ∃ v, v = nodeOk ⟨11, c0, c1, c2, c3, t, ru, le, A, cap, ks⟩ r := ⟨_, rfl⟩
  rw [← ev]
  have EV := Lib.hid ev
  clear ev
  go_enter Tryz.func154, Tryz.ntmps154
  go_wp2_with fail
  by_cases hr : ru = 0
  · have hb : (ru == 0) = true := by simpa using hr
    have hb2 : (ru != 0) = false := by simpa using hr
    have HR := Lib.hid hr
    clear hr
    go_quiet (fail)
    go_wp2_with fail
    all_goals
      go_ret
      refine ⟨ret_bool ?_, bdrew (B2 _ _ _)⟩
      rw [EV.out]
      refine ok_iff ?_
      have hr := HR.out
      unfold NodeIs
      simp at *
      grind
  · have hb : (ru == 0) = false := by simpa using hr
    have hb2 : (ru != 0) = true := by simpa using hr
    have HR := Lib.hid hr
    clear hr
    go_quiet (fail)
    go_wp2_with fail
    all_goals
      go_ret
      refine ⟨ret_bool ?_, bdrew (B2 _ _ _)⟩
      rw [EV.out]
      refine ok_iff ?_
      have hr := HR.out
      unfold NodeIs
      simp at *
      grind
set_option maxRecDepth 100000 in
set_option maxHeartbeats 4000000 in
theorem refNode_12 (c0 c1 c2 c3 : Int) (t : ByteArray) (ru le : Int) (A : Option Addr) (cap : Nat) (ks : List Int) (r : Int) (w : World) (hkl : ks.length ≤ 140737488351232) (hts : t.size ≤ 9223372036854775807) :
    Calls Tryz.prog 154 #[.agg #[.int .i64 12, .int .u64 c0, .int .u64 c1, .int .u64 c2, .int .u64 c3, .string t, .int .i64 ru, .int .i64 le, .slice A ks.length cap], .int .i64 r] w fun e w' => e = .returned (.bool (nodeOk ⟨12, c0, c1, c2, c3, t, ru, le, A, cap, ks⟩ r)) ∧ Below w.heap.size w w' := by
  obtain ⟨v, ev⟩ : ∃ v, v = nodeOk ⟨12, c0, c1, c2, c3, t, ru, le, A, cap, ks⟩ r := ⟨_, rfl⟩
  rw [← ev]
  have EV := Lib.hid ev
  clear ev
  go_enter Tryz.func154, Tryz.ntmps154
  go_wp2_with fail
  by_cases hr : ru = 0
  · have hb : (ru == 0) = true := by simpa using hr
    have hb2 : (ru != 0) = false := by simpa using hr
    have HR := Lib.hid hr
    clear hr
    go_quiet (fail)
    go_wp2_with fail
    all_goals
      go_ret
      refine ⟨ret_bool ?_, bdrew (B2 _ _ _)⟩
      rw [EV.out]
      refine ok_iff ?_
      have hr := HR.out
      unfold NodeIs
      simp at *
      grind
  · have hb : (ru == 0) = false := by simpa using hr
    have hb2 : (ru != 0) = true := by simpa using hr
    have HR := Lib.hid hr
    clear hr
    go_quiet (fail)
    go_wp2_with fail
    all_goals
      go_ret
      refine ⟨ret_bool ?_, bdrew (B2 _ _ _)⟩
      rw [EV.out]
      refine ok_iff ?_
      have hr := HR.out
      unfold NodeIs
      simp at *
      grind
set_option maxRecDepth 100000 in
set_option maxHeartbeats 4000000 in
theorem refNode_n (c0 c1 c2 c3 : Int) (t : ByteArray) (ru le : Int) (A : Option Addr) (cap : Nat) (ks : List Int) (k r : Int) (hk : ¬ (1 ≤ k ∧ k ≤ 12)) (w : World) (hkl : ks.length ≤ 140737488351232) (hts : t.size ≤ 9223372036854775807) :
    Calls Tryz.prog 154 #[.agg #[.int .i64 k, .int .u64 c0, .int .u64 c1, .int .u64 c2, .int .u64 c3, .string t, .int .i64 ru, .int .i64 le, .slice A ks.length cap], .int .i64 r] w fun e w' => e = .returned (.bool (nodeOk ⟨k, c0, c1, c2, c3, t, ru, le, A, cap, ks⟩ r)) ∧ Below w.heap.size w w' := by
  obtain ⟨v, ev⟩ : ∃ v, v = nodeOk ⟨k, c0, c1, c2, c3, t, ru, le, A, cap, ks⟩ r := ⟨_, rfl⟩
  rw [← ev]
  have EV := Lib.hid ev
  clear ev
  have HK := Lib.hid hk
  have k1 : (k == 1) = false := by simp; omega
  have k2 : (k == 2) = false := by simp; omega
  have k3 : (k == 3) = false := by simp; omega
  have k4 : (k == 4) = false := by simp; omega
  have k5 : (k == 5) = false := by simp; omega
  have k6 : (k == 6) = false := by simp; omega
  have k7 : (k == 7) = false := by simp; omega
  have k8 : (k == 8) = false := by simp; omega
  have k9 : (k == 9) = false := by simp; omega
  have k10 : (k == 10) = false := by simp; omega
  have k11 : (k == 11) = false := by simp; omega
  have k12 : (k == 12) = false := by simp; omega
  clear hk
  go_enter Tryz.func154, Tryz.ntmps154
  go_wp2_with fail
  by_cases hr : ru = 0
  · have hb : (ru == 0) = true := by simpa using hr
    have hb2 : (ru != 0) = false := by simpa using hr
    have HR := Lib.hid hr
    clear hr
    go_quiet (fail)
    go_wp2_with fail
    all_goals
      go_ret
      refine ⟨ret_bool ?_, bdrew (B2 _ _ _)⟩
      rw [EV.out]
      refine ok_iff ?_
      have hr := HR.out
      unfold NodeIs
      have hk := HK.out
      simp at *
      omega
  · have hb : (ru == 0) = false := by simpa using hr
    have hb2 : (ru != 0) = true := by simpa using hr
    have HR := Lib.hid hr
    clear hr
    go_quiet (fail)
    go_wp2_with fail
    all_goals
      go_ret
      refine ⟨ret_bool ?_, bdrew (B2 _ _ _)⟩
      rw [EV.out]
      refine ok_iff ?_
      have hr := HR.out
      unfold NodeIs
      have hk := HK.out
      simp at *
      omega
theorem refNodeIs_any (x : Nd) (r : Int) (w : World) (hx : Nd.At w x) (hi : Nd.In x) : Calls Tryz.prog 154 #[x.val, .int .i64 r] w fun e w' => e = .returned (.bool (nodeOk x r)) ∧ Below w.heap.size w w' := by
  obtain ⟨k, c0, c1, c2, c3, t, ru, le, A, cap, ks⟩ := x
  have hkl : ks.length ≤ 140737488351232 := hx.2.2
  have hts : t.size ≤ 9223372036854775807 := hi.text
  by_cases hk : 1 ≤ k ∧ k ≤ 12
  · have e1 : k = 1 ∨ k = 2 ∨ k = 3 ∨ k = 4 ∨ k = 5 ∨ k = 6 ∨ k = 7 ∨ k = 8 ∨ k = 9 ∨ k = 10 ∨ k = 11 ∨ k = 12 := by omega
    rcases e1 with rfl | rfl | rfl | rfl | rfl | rfl | rfl | rfl | rfl | rfl | rfl | rfl
    · exact refNode_1 c0 c1 c2 c3 t ru le A cap ks r w hkl hts
    · exact refNode_2 c0 c1 c2 c3 t ru le A cap ks r w hkl hts
    · exact refNode_3 c0 c1 c2 c3 t ru le A cap ks r w hkl hts
    · exact refNode_4 c0 c1 c2 c3 t ru le A cap ks r w hkl hts
    · exact refNode_5 c0 c1 c2 c3 t ru le A cap ks r w hkl hts
    · exact refNode_6 c0 c1 c2 c3 t ru le A cap ks r w hkl hts
    · exact refNode_7 c0 c1 c2 c3 t ru le A cap ks r w hkl hts
    · exact refNode_8 c0 c1 c2 c3 t ru le A cap ks r w hkl hts
    · exact refNode_9 c0 c1 c2 c3 t ru le A cap ks r w hkl hts
    · exact refNode_10 c0 c1 c2 c3 t ru le A cap ks r w hkl hts
    · exact refNode_11 c0 c1 c2 c3 t ru le A cap ks r w hkl hts
    · exact refNode_12 c0 c1 c2 c3 t ru le A cap ks r w hkl hts
  · exact refNode_n c0 c1 c2 c3 t ru le A cap ks k r hk w hkl hts
end Go.Proofs.YtlbjmkljmhfjdaaGreat

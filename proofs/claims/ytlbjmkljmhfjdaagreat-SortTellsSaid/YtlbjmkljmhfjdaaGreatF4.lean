/- Rows of nothing look at themselves: the other kinds. -/
import Derived.Test.YtlbjmkljmhfjdaaGreatC3
import Derived.Deep.CutRange
set_option linter.unusedSimpArgs false
set_option linter.unusedVariables false
namespace Go.Proofs.YtlbjmkljmhfjdaaGreat
open Go Go.RowKit Go.Maps
theorem info_Limbs : (Tryz.prog.info? 226).map (fun i => (i.zero, i.size, i.bytes)) = some (some (.slice none 0 0), 1, 24) := by kernel_rfl
set_option maxRecDepth 100000 in
set_option maxHeartbeats 4000000 in
theorem flatLimbs_nil (w : World) : Calls Tryz.prog 160 #[.slice none 0 0] w fun e w' => e = .returned (.bool true) ∧ Below w.heap.size w w' := by
  obtain ⟨i1, ji, jz0, jz1, jz2⟩ := info_parts info_Limbs
  have hmk : ∀ W : World, (Instr.makeSlice 109 (.int .i64 0) (.int .i64 0)).run Tryz.prog W = .ok (.slice (some ⟨W.heap.size, 0, none⟩) 0 0) (W.alloc (.cells #[] 226)) := fun W => by
    have hr := run_make (P := Tryz.prog) W 109 226 i1 (.slice none 0 0) Tryz.underlying109 ji jz0 .i64 .i64 ((0 : Nat) : Int) ((0 : Nat) : Int) (by omega) (by omega) (by rw [jz2]; omega) (by omega)
    have e : madeCells (Value.slice none 0 0).cells (0 * 1) = #[] := by
      apply Array.ext
      · simp [madeCells]
      · intro k h1 h2
        simp at h2
    rw [jz1, Int.toNat_natCast, e] at hr
    exact hr
  go_enter Tryz.func160, Tryz.ntmps160
  go_wp2_with fail
  go_loopw [3] (fun ix wr => ix = .int .i64 0 ∧ wr = w) (fun _ _ => 0)
  case atStart => exact ⟨rfl, rfl⟩
  case round =>
  obtain ⟨rfl, rfl⟩ := hrel
  go_wp2_with fail
  obtain ⟨w2, ew2⟩ : ∃ u, u = wr.alloc (.cells #[] 226) := ⟨_, rfl⟩
  have BB := Lib.hid (show Below wr.heap.size wr w2 from by rw [ew2]; exact B1 _ _)
  rw [← ew2]
  clear ew2
  go_loopw [6] (fun ix wr => ix = .int .i64 0 ∧ wr = w2) (fun _ _ => 0)
  case atStart => exact ⟨rfl, rfl⟩
  case round =>
  obtain ⟨rfl, rfl⟩ := hrel
  go_wp2_with fail
  obtain ⟨wr9, rfl⟩ : ∃ u, u = wr := ⟨_, rfl⟩
  go_loopw [9] (fun ix wr => ix = .int .i64 0 ∧ wr = wr9) (fun _ _ => 0)
  case atStart => exact ⟨rfl, rfl⟩
  case round =>
  obtain ⟨rfl, rfl⟩ := hrel
  go_wp2_with fail
  obtain ⟨wr11, rfl⟩ : ∃ u, u = wr := ⟨_, rfl⟩
  go_loopw [11] (fun ix wr => ix = .int .i64 0 ∧ wr = wr11) (fun _ _ => 0)
  case atStart => exact ⟨rfl, rfl⟩
  case round =>
  obtain ⟨rfl, rfl⟩ := hrel
  go_wp2_with fail
  obtain ⟨wr14, rfl⟩ : ∃ u, u = wr := ⟨_, rfl⟩
  go_loopw [14] (fun ix wr => ix = .int .i64 0 ∧ wr = wr14) (fun _ _ => 0)
  case atStart => exact ⟨rfl, rfl⟩
  case round =>
  obtain ⟨rfl, rfl⟩ := hrel
  go_wp2_with fail
  go_ret
  exact ⟨rfl, BB.out⟩
theorem info_Words : (Tryz.prog.info? 228).map (fun i => (i.zero, i.size, i.bytes)) = some (some (.slice none 0 0), 1, 24) := by kernel_rfl
set_option maxRecDepth 100000 in
set_option maxHeartbeats 4000000 in
theorem flatWords_nil (w : World) : Calls Tryz.prog 161 #[.slice none 0 0] w fun e w' => e = .returned (.bool true) ∧ Below w.heap.size w w' := by
  obtain ⟨i1, ji, jz0, jz1, jz2⟩ := info_parts info_Words
  have hmk : ∀ W : World, (Instr.makeSlice 110 (.int .i64 0) (.int .i64 0)).run Tryz.prog W = .ok (.slice (some ⟨W.heap.size, 0, none⟩) 0 0) (W.alloc (.cells #[] 228)) := fun W => by
    have hr := run_make (P := Tryz.prog) W 110 228 i1 (.slice none 0 0) Tryz.underlying110 ji jz0 .i64 .i64 ((0 : Nat) : Int) ((0 : Nat) : Int) (by omega) (by omega) (by rw [jz2]; omega) (by omega)
    have e : madeCells (Value.slice none 0 0).cells (0 * 1) = #[] := by
      apply Array.ext
      · simp [madeCells]
      · intro k h1 h2
        simp at h2
    rw [jz1, Int.toNat_natCast, e] at hr
    exact hr
  go_enter Tryz.func161, Tryz.ntmps161
  go_wp2_with fail
  go_loopw [3] (fun ix wr => ix = .int .i64 0 ∧ wr = w) (fun _ _ => 0)
  case atStart => exact ⟨rfl, rfl⟩
  case round =>
  obtain ⟨rfl, rfl⟩ := hrel
  go_wp2_with fail
  obtain ⟨w2, ew2⟩ : ∃ u, u = wr.alloc (.cells #[] 228) := ⟨_, rfl⟩
  have BB := Lib.hid (show Below wr.heap.size wr w2 from by rw [ew2]; exact B1 _ _)
  rw [← ew2]
  clear ew2
  go_loopw [6] (fun ix wr => ix = .int .i64 0 ∧ wr = w2) (fun _ _ => 0)
  case atStart => exact ⟨rfl, rfl⟩
  case round =>
  obtain ⟨rfl, rfl⟩ := hrel
  go_wp2_with fail
  obtain ⟨wr9, rfl⟩ : ∃ u, u = wr := ⟨_, rfl⟩
  go_loopw [9] (fun ix wr => ix = .int .i64 0 ∧ wr = wr9) (fun _ _ => 0)
  case atStart => exact ⟨rfl, rfl⟩
  case round =>
  obtain ⟨rfl, rfl⟩ := hrel
  go_wp2_with fail
  obtain ⟨wr11, rfl⟩ : ∃ u, u = wr := ⟨_, rfl⟩
  go_loopw [11] (fun ix wr => ix = .int .i64 0 ∧ wr = wr11) (fun _ _ => 0)
  case atStart => exact ⟨rfl, rfl⟩
  case round =>
  obtain ⟨rfl, rfl⟩ := hrel
  go_wp2_with fail
  obtain ⟨wr14, rfl⟩ : ∃ u, u = wr := ⟨_, rfl⟩
  go_loopw [14] (fun ix wr => ix = .int .i64 0 ∧ wr = wr14) (fun _ _ => 0)
  case atStart => exact ⟨rfl, rfl⟩
  case round =>
  obtain ⟨rfl, rfl⟩ := hrel
  go_wp2_with fail
  go_ret
  exact ⟨rfl, BB.out⟩
theorem info_Longs : (Tryz.prog.info? 229).map (fun i => (i.zero, i.size, i.bytes)) = some (some (.slice none 0 0), 1, 24) := by kernel_rfl
set_option maxRecDepth 100000 in
set_option maxHeartbeats 4000000 in
theorem flatLongs_nil (w : World) : Calls Tryz.prog 163 #[.slice none 0 0] w fun e w' => e = .returned (.bool true) ∧ Below w.heap.size w w' := by
  obtain ⟨i1, ji, jz0, jz1, jz2⟩ := info_parts info_Longs
  have hmk : ∀ W : World, (Instr.makeSlice 111 (.int .i64 0) (.int .i64 0)).run Tryz.prog W = .ok (.slice (some ⟨W.heap.size, 0, none⟩) 0 0) (W.alloc (.cells #[] 229)) := fun W => by
    have hr := run_make (P := Tryz.prog) W 111 229 i1 (.slice none 0 0) Tryz.underlying111 ji jz0 .i64 .i64 ((0 : Nat) : Int) ((0 : Nat) : Int) (by omega) (by omega) (by rw [jz2]; omega) (by omega)
    have e : madeCells (Value.slice none 0 0).cells (0 * 1) = #[] := by
      apply Array.ext
      · simp [madeCells]
      · intro k h1 h2
        simp at h2
    rw [jz1, Int.toNat_natCast, e] at hr
    exact hr
  go_enter Tryz.func163, Tryz.ntmps163
  go_wp2_with fail
  go_loopw [3] (fun ix wr => ix = .int .i64 0 ∧ wr = w) (fun _ _ => 0)
  case atStart => exact ⟨rfl, rfl⟩
  case round =>
  obtain ⟨rfl, rfl⟩ := hrel
  go_wp2_with fail
  obtain ⟨w2, ew2⟩ : ∃ u, u = wr.alloc (.cells #[] 229) := ⟨_, rfl⟩
  have BB := Lib.hid (show Below wr.heap.size wr w2 from by rw [ew2]; exact B1 _ _)
  rw [← ew2]
  clear ew2
  go_loopw [6] (fun ix wr => ix = .int .i64 0 ∧ wr = w2) (fun _ _ => 0)
  case atStart => exact ⟨rfl, rfl⟩
  case round =>
  obtain ⟨rfl, rfl⟩ := hrel
  go_wp2_with fail
  obtain ⟨wr9, rfl⟩ : ∃ u, u = wr := ⟨_, rfl⟩
  go_loopw [9] (fun ix wr => ix = .int .i64 0 ∧ wr = wr9) (fun _ _ => 0)
  case atStart => exact ⟨rfl, rfl⟩
  case round =>
  obtain ⟨rfl, rfl⟩ := hrel
  go_wp2_with fail
  obtain ⟨wr11, rfl⟩ : ∃ u, u = wr := ⟨_, rfl⟩
  go_loopw [11] (fun ix wr => ix = .int .i64 0 ∧ wr = wr11) (fun _ _ => 0)
  case atStart => exact ⟨rfl, rfl⟩
  case round =>
  obtain ⟨rfl, rfl⟩ := hrel
  go_wp2_with fail
  obtain ⟨wr14, rfl⟩ : ∃ u, u = wr := ⟨_, rfl⟩
  go_loopw [14] (fun ix wr => ix = .int .i64 0 ∧ wr = wr14) (fun _ _ => 0)
  case atStart => exact ⟨rfl, rfl⟩
  case round =>
  obtain ⟨rfl, rfl⟩ := hrel
  go_wp2_with fail
  go_ret
  exact ⟨rfl, BB.out⟩
theorem info_Texts : (Tryz.prog.info? 230).map (fun i => (i.zero, i.size, i.bytes)) = some (some (.slice none 0 0), 1, 24) := by kernel_rfl
set_option maxRecDepth 100000 in
set_option maxHeartbeats 4000000 in
theorem flatTexts_nil (w : World) : Calls Tryz.prog 164 #[.slice none 0 0] w fun e w' => e = .returned (.bool true) ∧ Below w.heap.size w w' := by
  obtain ⟨i1, ji, jz0, jz1, jz2⟩ := info_parts info_Texts
  have hmk : ∀ W : World, (Instr.makeSlice 112 (.int .i64 0) (.int .i64 0)).run Tryz.prog W = .ok (.slice (some ⟨W.heap.size, 0, none⟩) 0 0) (W.alloc (.cells #[] 230)) := fun W => by
    have hr := run_make (P := Tryz.prog) W 112 230 i1 (.slice none 0 0) Tryz.underlying112 ji jz0 .i64 .i64 ((0 : Nat) : Int) ((0 : Nat) : Int) (by omega) (by omega) (by rw [jz2]; omega) (by omega)
    have e : madeCells (Value.slice none 0 0).cells (0 * 1) = #[] := by
      apply Array.ext
      · simp [madeCells]
      · intro k h1 h2
        simp at h2
    rw [jz1, Int.toNat_natCast, e] at hr
    exact hr
  go_enter Tryz.func164, Tryz.ntmps164
  go_wp2_with fail
  go_loopw [3] (fun ix wr => ix = .int .i64 0 ∧ wr = w) (fun _ _ => 0)
  case atStart => exact ⟨rfl, rfl⟩
  case round =>
  obtain ⟨rfl, rfl⟩ := hrel
  go_wp2_with fail
  obtain ⟨w2, ew2⟩ : ∃ u, u = wr.alloc (.cells #[] 230) := ⟨_, rfl⟩
  have BB := Lib.hid (show Below wr.heap.size wr w2 from by rw [ew2]; exact B1 _ _)
  rw [← ew2]
  clear ew2
  go_loopw [6] (fun ix wr => ix = .int .i64 0 ∧ wr = w2) (fun _ _ => 0)
  case atStart => exact ⟨rfl, rfl⟩
  case round =>
  obtain ⟨rfl, rfl⟩ := hrel
  go_wp2_with fail
  obtain ⟨wr9, rfl⟩ : ∃ u, u = wr := ⟨_, rfl⟩
  go_loopw [9] (fun ix wr => ix = .int .i64 0 ∧ wr = wr9) (fun _ _ => 0)
  case atStart => exact ⟨rfl, rfl⟩
  case round =>
  obtain ⟨rfl, rfl⟩ := hrel
  go_wp2_with fail
  obtain ⟨wr11, rfl⟩ : ∃ u, u = wr := ⟨_, rfl⟩
  go_loopw [11] (fun ix wr => ix = .int .i64 0 ∧ wr = wr11) (fun _ _ => 0)
  case atStart => exact ⟨rfl, rfl⟩
  case round =>
  obtain ⟨rfl, rfl⟩ := hrel
  go_wp2_with fail
  obtain ⟨wr14, rfl⟩ : ∃ u, u = wr := ⟨_, rfl⟩
  go_loopw [14] (fun ix wr => ix = .int .i64 0 ∧ wr = wr14) (fun _ _ => 0)
  case atStart => exact ⟨rfl, rfl⟩
  case round =>
  obtain ⟨rfl, rfl⟩ := hrel
  go_wp2_with fail
  go_ret
  exact ⟨rfl, BB.out⟩
theorem info_Bytes : (Tryz.prog.info? 151).map (fun i => (i.zero, i.size, i.bytes)) = some (some (.slice none 0 0), 1, 24) := by kernel_rfl
set_option maxRecDepth 100000 in
set_option maxHeartbeats 4000000 in
theorem flatBytes_nil (w : World) : Calls Tryz.prog 165 #[.slice none 0 0] w fun e w' => e = .returned (.bool true) ∧ Below w.heap.size w w' := by
  obtain ⟨i1, ji, jz0, jz1, jz2⟩ := info_parts info_Bytes
  have hmk : ∀ W : World, (Instr.makeSlice 113 (.int .i64 0) (.int .i64 0)).run Tryz.prog W = .ok (.slice (some ⟨W.heap.size, 0, none⟩) 0 0) (W.alloc (.cells #[] 151)) := fun W => by
    have hr := run_make (P := Tryz.prog) W 113 151 i1 (.slice none 0 0) Tryz.underlying113 ji jz0 .i64 .i64 ((0 : Nat) : Int) ((0 : Nat) : Int) (by omega) (by omega) (by rw [jz2]; omega) (by omega)
    have e : madeCells (Value.slice none 0 0).cells (0 * 1) = #[] := by
      apply Array.ext
      · simp [madeCells]
      · intro k h1 h2
        simp at h2
    rw [jz1, Int.toNat_natCast, e] at hr
    exact hr
  go_enter Tryz.func165, Tryz.ntmps165
  go_wp2_with fail
  go_loopw [3] (fun ix wr => ix = .int .i64 0 ∧ wr = w) (fun _ _ => 0)
  case atStart => exact ⟨rfl, rfl⟩
  case round =>
  obtain ⟨rfl, rfl⟩ := hrel
  go_wp2_with fail
  obtain ⟨w2, ew2⟩ : ∃ u, u = wr.alloc (.cells #[] 151) := ⟨_, rfl⟩
  have BB := Lib.hid (show Below wr.heap.size wr w2 from by rw [ew2]; exact B1 _ _)
  rw [← ew2]
  clear ew2
  go_loopw [6] (fun ix wr => ix = .int .i64 0 ∧ wr = w2) (fun _ _ => 0)
  case atStart => exact ⟨rfl, rfl⟩
  case round =>
  obtain ⟨rfl, rfl⟩ := hrel
  go_wp2_with fail
  obtain ⟨wr9, rfl⟩ : ∃ u, u = wr := ⟨_, rfl⟩
  go_loopw [9] (fun ix wr => ix = .int .i64 0 ∧ wr = wr9) (fun _ _ => 0)
  case atStart => exact ⟨rfl, rfl⟩
  case round =>
  obtain ⟨rfl, rfl⟩ := hrel
  go_wp2_with fail
  obtain ⟨wr11, rfl⟩ : ∃ u, u = wr := ⟨_, rfl⟩
  go_loopw [11] (fun ix wr => ix = .int .i64 0 ∧ wr = wr11) (fun _ _ => 0)
  case atStart => exact ⟨rfl, rfl⟩
  case round =>
  obtain ⟨rfl, rfl⟩ := hrel
  go_wp2_with fail
  obtain ⟨wr14, rfl⟩ : ∃ u, u = wr := ⟨_, rfl⟩
  go_loopw [14] (fun ix wr => ix = .int .i64 0 ∧ wr = wr14) (fun _ _ => 0)
  case atStart => exact ⟨rfl, rfl⟩
  case round =>
  obtain ⟨rfl, rfl⟩ := hrel
  go_wp2_with fail
  go_ret
  exact ⟨rfl, BB.out⟩
theorem info_Truths : (Tryz.prog.info? 82).map (fun i => (i.zero, i.size, i.bytes)) = some (some (.slice none 0 0), 1, 24) := by kernel_rfl
set_option maxRecDepth 100000 in
set_option maxHeartbeats 4000000 in
theorem flatTruths_nil (w : World) : Calls Tryz.prog 166 #[.slice none 0 0] w fun e w' => e = .returned (.bool true) ∧ Below w.heap.size w w' := by
  obtain ⟨i1, ji, jz0, jz1, jz2⟩ := info_parts info_Truths
  have hmk : ∀ W : World, (Instr.makeSlice 114 (.int .i64 0) (.int .i64 0)).run Tryz.prog W = .ok (.slice (some ⟨W.heap.size, 0, none⟩) 0 0) (W.alloc (.cells #[] 82)) := fun W => by
    have hr := run_make (P := Tryz.prog) W 114 82 i1 (.slice none 0 0) Tryz.underlying114 ji jz0 .i64 .i64 ((0 : Nat) : Int) ((0 : Nat) : Int) (by omega) (by omega) (by rw [jz2]; omega) (by omega)
    have e : madeCells (Value.slice none 0 0).cells (0 * 1) = #[] := by
      apply Array.ext
      · simp [madeCells]
      · intro k h1 h2
        simp at h2
    rw [jz1, Int.toNat_natCast, e] at hr
    exact hr
  go_enter Tryz.func166, Tryz.ntmps166
  go_wp2_with fail
  go_loopw [3] (fun ix wr => ix = .int .i64 0 ∧ wr = w) (fun _ _ => 0)
  case atStart => exact ⟨rfl, rfl⟩
  case round =>
  obtain ⟨rfl, rfl⟩ := hrel
  go_wp2_with fail
  obtain ⟨w2, ew2⟩ : ∃ u, u = wr.alloc (.cells #[] 82) := ⟨_, rfl⟩
  have BB := Lib.hid (show Below wr.heap.size wr w2 from by rw [ew2]; exact B1 _ _)
  rw [← ew2]
  clear ew2
  go_loopw [6] (fun ix wr => ix = .int .i64 0 ∧ wr = w2) (fun _ _ => 0)
  case atStart => exact ⟨rfl, rfl⟩
  case round =>
  obtain ⟨rfl, rfl⟩ := hrel
  go_wp2_with fail
  obtain ⟨wr9, rfl⟩ : ∃ u, u = wr := ⟨_, rfl⟩
  go_loopw [9] (fun ix wr => ix = .int .i64 0 ∧ wr = wr9) (fun _ _ => 0)
  case atStart => exact ⟨rfl, rfl⟩
  case round =>
  obtain ⟨rfl, rfl⟩ := hrel
  go_wp2_with fail
  obtain ⟨wr11, rfl⟩ : ∃ u, u = wr := ⟨_, rfl⟩
  go_loopw [11] (fun ix wr => ix = .int .i64 0 ∧ wr = wr11) (fun _ _ => 0)
  case atStart => exact ⟨rfl, rfl⟩
  case round =>
  obtain ⟨rfl, rfl⟩ := hrel
  go_wp2_with fail
  obtain ⟨wr14, rfl⟩ : ∃ u, u = wr := ⟨_, rfl⟩
  go_loopw [14] (fun ix wr => ix = .int .i64 0 ∧ wr = wr14) (fun _ _ => 0)
  case atStart => exact ⟨rfl, rfl⟩
  case round =>
  obtain ⟨rfl, rfl⟩ := hrel
  go_wp2_with fail
  go_ret
  exact ⟨rfl, BB.out⟩
theorem info_Twigs : (Tryz.prog.info? 233).map (fun i => (i.zero, i.size, i.bytes)) = some (some (.slice none 0 0), 1, 24) := by kernel_rfl
set_option maxRecDepth 100000 in
set_option maxHeartbeats 4000000 in
theorem flatTwigs_nil (w : World) : Calls Tryz.prog 167 #[.slice none 0 0] w fun e w' => e = .returned (.bool true) ∧ Below w.heap.size w w' := by
  obtain ⟨i1, ji, jz0, jz1, jz2⟩ := info_parts info_Twigs
  have hmk : ∀ W : World, (Instr.makeSlice 115 (.int .i64 0) (.int .i64 0)).run Tryz.prog W = .ok (.slice (some ⟨W.heap.size, 0, none⟩) 0 0) (W.alloc (.cells #[] 233)) := fun W => by
    have hr := run_make (P := Tryz.prog) W 115 233 i1 (.slice none 0 0) Tryz.underlying115 ji jz0 .i64 .i64 ((0 : Nat) : Int) ((0 : Nat) : Int) (by omega) (by omega) (by rw [jz2]; omega) (by omega)
    have e : madeCells (Value.slice none 0 0).cells (0 * 1) = #[] := by
      apply Array.ext
      · simp [madeCells]
      · intro k h1 h2
        simp at h2
    rw [jz1, Int.toNat_natCast, e] at hr
    exact hr
  go_enter Tryz.func167, Tryz.ntmps167
  go_wp2_with fail
  go_loopw [3] (fun ix wr => ix = .int .i64 0 ∧ wr = w) (fun _ _ => 0)
  case atStart => exact ⟨rfl, rfl⟩
  case round =>
  obtain ⟨rfl, rfl⟩ := hrel
  go_wp2_with fail
  obtain ⟨w2, ew2⟩ : ∃ u, u = wr.alloc (.cells #[] 233) := ⟨_, rfl⟩
  have BB := Lib.hid (show Below wr.heap.size wr w2 from by rw [ew2]; exact B1 _ _)
  rw [← ew2]
  clear ew2
  go_loopw [6] (fun ix wr => ix = .int .i64 0 ∧ wr = w2) (fun _ _ => 0)
  case atStart => exact ⟨rfl, rfl⟩
  case round =>
  obtain ⟨rfl, rfl⟩ := hrel
  go_wp2_with fail
  obtain ⟨wr9, rfl⟩ : ∃ u, u = wr := ⟨_, rfl⟩
  go_loopw [9] (fun ix wr => ix = .int .i64 0 ∧ wr = wr9) (fun _ _ => 0)
  case atStart => exact ⟨rfl, rfl⟩
  case round =>
  obtain ⟨rfl, rfl⟩ := hrel
  go_wp2_with fail
  obtain ⟨wr11, rfl⟩ : ∃ u, u = wr := ⟨_, rfl⟩
  go_loopw [11] (fun ix wr => ix = .int .i64 0 ∧ wr = wr11) (fun _ _ => 0)
  case atStart => exact ⟨rfl, rfl⟩
  case round =>
  obtain ⟨rfl, rfl⟩ := hrel
  go_wp2_with fail
  obtain ⟨wr14, rfl⟩ : ∃ u, u = wr := ⟨_, rfl⟩
  go_loopw [14] (fun ix wr => ix = .int .i64 0 ∧ wr = wr14) (fun _ _ => 0)
  case atStart => exact ⟨rfl, rfl⟩
  case round =>
  obtain ⟨rfl, rfl⟩ := hrel
  go_wp2_with fail
  go_ret
  exact ⟨rfl, BB.out⟩
theorem info_Nodes : (Tryz.prog.info? 23).map (fun i => (i.zero, i.size, i.bytes)) = some (some (.slice none 0 0), 1, 24) := by kernel_rfl
set_option maxRecDepth 100000 in
set_option maxHeartbeats 4000000 in
theorem flatNodes_nil (w : World) : Calls Tryz.prog 168 #[.slice none 0 0] w fun e w' => e = .returned (.bool true) ∧ Below w.heap.size w w' := by
  obtain ⟨i1, ji, jz0, jz1, jz2⟩ := info_parts info_Nodes
  have hmk : ∀ W : World, (Instr.makeSlice 71 (.int .i64 0) (.int .i64 0)).run Tryz.prog W = .ok (.slice (some ⟨W.heap.size, 0, none⟩) 0 0) (W.alloc (.cells #[] 23)) := fun W => by
    have hr := run_make (P := Tryz.prog) W 71 23 i1 (.slice none 0 0) Tryz.underlying71 ji jz0 .i64 .i64 ((0 : Nat) : Int) ((0 : Nat) : Int) (by omega) (by omega) (by rw [jz2]; omega) (by omega)
    have e : madeCells (Value.slice none 0 0).cells (0 * 1) = #[] := by
      apply Array.ext
      · simp [madeCells]
      · intro k h1 h2
        simp at h2
    rw [jz1, Int.toNat_natCast, e] at hr
    exact hr
  go_enter Tryz.func168, Tryz.ntmps168
  go_wp2_with fail
  go_loopw [3] (fun ix wr => ix = .int .i64 0 ∧ wr = w) (fun _ _ => 0)
  case atStart => exact ⟨rfl, rfl⟩
  case round =>
  obtain ⟨rfl, rfl⟩ := hrel
  go_wp2_with fail
  obtain ⟨w2, ew2⟩ : ∃ u, u = wr.alloc (.cells #[] 23) := ⟨_, rfl⟩
  have BB := Lib.hid (show Below wr.heap.size wr w2 from by rw [ew2]; exact B1 _ _)
  rw [← ew2]
  clear ew2
  go_loopw [6] (fun ix wr => ix = .int .i64 0 ∧ wr = w2) (fun _ _ => 0)
  case atStart => exact ⟨rfl, rfl⟩
  case round =>
  obtain ⟨rfl, rfl⟩ := hrel
  go_wp2_with fail
  obtain ⟨wr9, rfl⟩ : ∃ u, u = wr := ⟨_, rfl⟩
  go_loopw [9] (fun ix wr => ix = .int .i64 0 ∧ wr = wr9) (fun _ _ => 0)
  case atStart => exact ⟨rfl, rfl⟩
  case round =>
  obtain ⟨rfl, rfl⟩ := hrel
  go_wp2_with fail
  obtain ⟨wr11, rfl⟩ : ∃ u, u = wr := ⟨_, rfl⟩
  go_loopw [11] (fun ix wr => ix = .int .i64 0 ∧ wr = wr11) (fun _ _ => 0)
  case atStart => exact ⟨rfl, rfl⟩
  case round =>
  obtain ⟨rfl, rfl⟩ := hrel
  go_wp2_with fail
  obtain ⟨wr14, rfl⟩ : ∃ u, u = wr := ⟨_, rfl⟩
  go_loopw [14] (fun ix wr => ix = .int .i64 0 ∧ wr = wr14) (fun _ _ => 0)
  case atStart => exact ⟨rfl, rfl⟩
  case round =>
  obtain ⟨rfl, rfl⟩ := hrel
  go_wp2_with fail
  go_ret
  exact ⟨rfl, BB.out⟩
theorem info_Rules : (Tryz.prog.info? 22).map (fun i => (i.zero, i.size, i.bytes)) = some (some (.slice none 0 0), 1, 24) := by kernel_rfl
set_option maxRecDepth 100000 in
set_option maxHeartbeats 4000000 in
theorem flatRules_nil (w : World) : Calls Tryz.prog 169 #[.slice none 0 0] w fun e w' => e = .returned (.bool true) ∧ Below w.heap.size w w' := by
  obtain ⟨i1, ji, jz0, jz1, jz2⟩ := info_parts info_Rules
  have hmk : ∀ W : World, (Instr.makeSlice 116 (.int .i64 0) (.int .i64 0)).run Tryz.prog W = .ok (.slice (some ⟨W.heap.size, 0, none⟩) 0 0) (W.alloc (.cells #[] 22)) := fun W => by
    have hr := run_make (P := Tryz.prog) W 116 22 i1 (.slice none 0 0) Tryz.underlying116 ji jz0 .i64 .i64 ((0 : Nat) : Int) ((0 : Nat) : Int) (by omega) (by omega) (by rw [jz2]; omega) (by omega)
    have e : madeCells (Value.slice none 0 0).cells (0 * 1) = #[] := by
      apply Array.ext
      · simp [madeCells]
      · intro k h1 h2
        simp at h2
    rw [jz1, Int.toNat_natCast, e] at hr
    exact hr
  go_enter Tryz.func169, Tryz.ntmps169
  go_wp2_with fail
  go_loopw [3] (fun ix wr => ix = .int .i64 0 ∧ wr = w) (fun _ _ => 0)
  case atStart => exact ⟨rfl, rfl⟩
  case round =>
  obtain ⟨rfl, rfl⟩ := hrel
  go_wp2_with fail
  obtain ⟨w2, ew2⟩ : ∃ u, u = wr.alloc (.cells #[] 22) := ⟨_, rfl⟩
  have BB := Lib.hid (show Below wr.heap.size wr w2 from by rw [ew2]; exact B1 _ _)
  rw [← ew2]
  clear ew2
  go_loopw [6] (fun ix wr => ix = .int .i64 0 ∧ wr = w2) (fun _ _ => 0)
  case atStart => exact ⟨rfl, rfl⟩
  case round =>
  obtain ⟨rfl, rfl⟩ := hrel
  go_wp2_with fail
  obtain ⟨wr9, rfl⟩ : ∃ u, u = wr := ⟨_, rfl⟩
  go_loopw [9] (fun ix wr => ix = .int .i64 0 ∧ wr = wr9) (fun _ _ => 0)
  case atStart => exact ⟨rfl, rfl⟩
  case round =>
  obtain ⟨rfl, rfl⟩ := hrel
  go_wp2_with fail
  obtain ⟨wr11, rfl⟩ : ∃ u, u = wr := ⟨_, rfl⟩
  go_loopw [11] (fun ix wr => ix = .int .i64 0 ∧ wr = wr11) (fun _ _ => 0)
  case atStart => exact ⟨rfl, rfl⟩
  case round =>
  obtain ⟨rfl, rfl⟩ := hrel
  go_wp2_with fail
  obtain ⟨wr14, rfl⟩ : ∃ u, u = wr := ⟨_, rfl⟩
  go_loopw [14] (fun ix wr => ix = .int .i64 0 ∧ wr = wr14) (fun _ _ => 0)
  case atStart => exact ⟨rfl, rfl⟩
  case round =>
  obtain ⟨rfl, rfl⟩ := hrel
  go_wp2_with fail
  go_ret
  exact ⟨rfl, BB.out⟩
theorem info_Spans : (Tryz.prog.info? 239).map (fun i => (i.zero, i.size, i.bytes)) = some (some (.slice none 0 0), 1, 24) := by kernel_rfl
set_option maxRecDepth 100000 in
set_option maxHeartbeats 4000000 in
theorem flatSpans_nil (w : World) : Calls Tryz.prog 170 #[.slice none 0 0] w fun e w' => e = .returned (.bool true) ∧ Below w.heap.size w w' := by
  obtain ⟨i1, ji, jz0, jz1, jz2⟩ := info_parts info_Spans
  have hmk : ∀ W : World, (Instr.makeSlice 117 (.int .i64 0) (.int .i64 0)).run Tryz.prog W = .ok (.slice (some ⟨W.heap.size, 0, none⟩) 0 0) (W.alloc (.cells #[] 239)) := fun W => by
    have hr := run_make (P := Tryz.prog) W 117 239 i1 (.slice none 0 0) Tryz.underlying117 ji jz0 .i64 .i64 ((0 : Nat) : Int) ((0 : Nat) : Int) (by omega) (by omega) (by rw [jz2]; omega) (by omega)
    have e : madeCells (Value.slice none 0 0).cells (0 * 1) = #[] := by
      apply Array.ext
      · simp [madeCells]
      · intro k h1 h2
        simp at h2
    rw [jz1, Int.toNat_natCast, e] at hr
    exact hr
  go_enter Tryz.func170, Tryz.ntmps170
  go_wp2_with fail
  go_loopw [3] (fun ix wr => ix = .int .i64 0 ∧ wr = w) (fun _ _ => 0)
  case atStart => exact ⟨rfl, rfl⟩
  case round =>
  obtain ⟨rfl, rfl⟩ := hrel
  go_wp2_with fail
  obtain ⟨w2, ew2⟩ : ∃ u, u = wr.alloc (.cells #[] 239) := ⟨_, rfl⟩
  have BB := Lib.hid (show Below wr.heap.size wr w2 from by rw [ew2]; exact B1 _ _)
  rw [← ew2]
  clear ew2
  go_loopw [6] (fun ix wr => ix = .int .i64 0 ∧ wr = w2) (fun _ _ => 0)
  case atStart => exact ⟨rfl, rfl⟩
  case round =>
  obtain ⟨rfl, rfl⟩ := hrel
  go_wp2_with fail
  obtain ⟨wr9, rfl⟩ : ∃ u, u = wr := ⟨_, rfl⟩
  go_loopw [9] (fun ix wr => ix = .int .i64 0 ∧ wr = wr9) (fun _ _ => 0)
  case atStart => exact ⟨rfl, rfl⟩
  case round =>
  obtain ⟨rfl, rfl⟩ := hrel
  go_wp2_with fail
  obtain ⟨wr11, rfl⟩ : ∃ u, u = wr := ⟨_, rfl⟩
  go_loopw [11] (fun ix wr => ix = .int .i64 0 ∧ wr = wr11) (fun _ _ => 0)
  case atStart => exact ⟨rfl, rfl⟩
  case round =>
  obtain ⟨rfl, rfl⟩ := hrel
  go_wp2_with fail
  obtain ⟨wr14, rfl⟩ : ∃ u, u = wr := ⟨_, rfl⟩
  go_loopw [14] (fun ix wr => ix = .int .i64 0 ∧ wr = wr14) (fun _ _ => 0)
  case atStart => exact ⟨rfl, rfl⟩
  case round =>
  obtain ⟨rfl, rfl⟩ := hrel
  go_wp2_with fail
  go_ret
  exact ⟨rfl, BB.out⟩
theorem info_Grammars : (Tryz.prog.info? 73).map (fun i => (i.zero, i.size, i.bytes)) = some (some (.slice none 0 0), 1, 24) := by kernel_rfl
set_option maxRecDepth 100000 in
set_option maxHeartbeats 4000000 in
theorem flatGrammars_nil (w : World) : Calls Tryz.prog 171 #[.slice none 0 0] w fun e w' => e = .returned (.bool true) ∧ Below w.heap.size w w' := by
  obtain ⟨i1, ji, jz0, jz1, jz2⟩ := info_parts info_Grammars
  have hmk : ∀ W : World, (Instr.makeSlice 74 (.int .i64 0) (.int .i64 0)).run Tryz.prog W = .ok (.slice (some ⟨W.heap.size, 0, none⟩) 0 0) (W.alloc (.cells #[] 73)) := fun W => by
    have hr := run_make (P := Tryz.prog) W 74 73 i1 (.slice none 0 0) Tryz.underlying74 ji jz0 .i64 .i64 ((0 : Nat) : Int) ((0 : Nat) : Int) (by omega) (by omega) (by rw [jz2]; omega) (by omega)
    have e : madeCells (Value.slice none 0 0).cells (0 * 1) = #[] := by
      apply Array.ext
      · simp [madeCells]
      · intro k h1 h2
        simp at h2
    rw [jz1, Int.toNat_natCast, e] at hr
    exact hr
  go_enter Tryz.func171, Tryz.ntmps171
  go_wp2_with fail
  go_loopw [3] (fun ix wr => ix = .int .i64 0 ∧ wr = w) (fun _ _ => 0)
  case atStart => exact ⟨rfl, rfl⟩
  case round =>
  obtain ⟨rfl, rfl⟩ := hrel
  go_wp2_with fail
  obtain ⟨w2, ew2⟩ : ∃ u, u = wr.alloc (.cells #[] 73) := ⟨_, rfl⟩
  have BB := Lib.hid (show Below wr.heap.size wr w2 from by rw [ew2]; exact B1 _ _)
  rw [← ew2]
  clear ew2
  go_loopw [6] (fun ix wr => ix = .int .i64 0 ∧ wr = w2) (fun _ _ => 0)
  case atStart => exact ⟨rfl, rfl⟩
  case round =>
  obtain ⟨rfl, rfl⟩ := hrel
  go_wp2_with fail
  obtain ⟨wr9, rfl⟩ : ∃ u, u = wr := ⟨_, rfl⟩
  go_loopw [9] (fun ix wr => ix = .int .i64 0 ∧ wr = wr9) (fun _ _ => 0)
  case atStart => exact ⟨rfl, rfl⟩
  case round =>
  obtain ⟨rfl, rfl⟩ := hrel
  go_wp2_with fail
  obtain ⟨wr11, rfl⟩ : ∃ u, u = wr := ⟨_, rfl⟩
  go_loopw [11] (fun ix wr => ix = .int .i64 0 ∧ wr = wr11) (fun _ _ => 0)
  case atStart => exact ⟨rfl, rfl⟩
  case round =>
  obtain ⟨rfl, rfl⟩ := hrel
  go_wp2_with fail
  obtain ⟨wr14, rfl⟩ : ∃ u, u = wr := ⟨_, rfl⟩
  go_loopw [14] (fun ix wr => ix = .int .i64 0 ∧ wr = wr14) (fun _ _ => 0)
  case atStart => exact ⟨rfl, rfl⟩
  case round =>
  obtain ⟨rfl, rfl⟩ := hrel
  go_wp2_with fail
  go_ret
  exact ⟨rfl, BB.out⟩
theorem info_Founds : (Tryz.prog.info? 242).map (fun i => (i.zero, i.size, i.bytes)) = some (some (.slice none 0 0), 1, 24) := by kernel_rfl
set_option maxRecDepth 100000 in
set_option maxHeartbeats 4000000 in
theorem flatFounds_nil (w : World) : Calls Tryz.prog 172 #[.slice none 0 0] w fun e w' => e = .returned (.bool true) ∧ Below w.heap.size w w' := by
  obtain ⟨i1, ji, jz0, jz1, jz2⟩ := info_parts info_Founds
  have hmk : ∀ W : World, (Instr.makeSlice 118 (.int .i64 0) (.int .i64 0)).run Tryz.prog W = .ok (.slice (some ⟨W.heap.size, 0, none⟩) 0 0) (W.alloc (.cells #[] 242)) := fun W => by
    have hr := run_make (P := Tryz.prog) W 118 242 i1 (.slice none 0 0) Tryz.underlying118 ji jz0 .i64 .i64 ((0 : Nat) : Int) ((0 : Nat) : Int) (by omega) (by omega) (by rw [jz2]; omega) (by omega)
    have e : madeCells (Value.slice none 0 0).cells (0 * 1) = #[] := by
      apply Array.ext
      · simp [madeCells]
      · intro k h1 h2
        simp at h2
    rw [jz1, Int.toNat_natCast, e] at hr
    exact hr
  go_enter Tryz.func172, Tryz.ntmps172
  go_wp2_with fail
  go_loopw [3] (fun ix wr => ix = .int .i64 0 ∧ wr = w) (fun _ _ => 0)
  case atStart => exact ⟨rfl, rfl⟩
  case round =>
  obtain ⟨rfl, rfl⟩ := hrel
  go_wp2_with fail
  obtain ⟨w2, ew2⟩ : ∃ u, u = wr.alloc (.cells #[] 242) := ⟨_, rfl⟩
  have BB := Lib.hid (show Below wr.heap.size wr w2 from by rw [ew2]; exact B1 _ _)
  rw [← ew2]
  clear ew2
  go_loopw [6] (fun ix wr => ix = .int .i64 0 ∧ wr = w2) (fun _ _ => 0)
  case atStart => exact ⟨rfl, rfl⟩
  case round =>
  obtain ⟨rfl, rfl⟩ := hrel
  go_wp2_with fail
  obtain ⟨wr9, rfl⟩ : ∃ u, u = wr := ⟨_, rfl⟩
  go_loopw [9] (fun ix wr => ix = .int .i64 0 ∧ wr = wr9) (fun _ _ => 0)
  case atStart => exact ⟨rfl, rfl⟩
  case round =>
  obtain ⟨rfl, rfl⟩ := hrel
  go_wp2_with fail
  obtain ⟨wr11, rfl⟩ : ∃ u, u = wr := ⟨_, rfl⟩
  go_loopw [11] (fun ix wr => ix = .int .i64 0 ∧ wr = wr11) (fun _ _ => 0)
  case atStart => exact ⟨rfl, rfl⟩
  case round =>
  obtain ⟨rfl, rfl⟩ := hrel
  go_wp2_with fail
  obtain ⟨wr14, rfl⟩ : ∃ u, u = wr := ⟨_, rfl⟩
  go_loopw [14] (fun ix wr => ix = .int .i64 0 ∧ wr = wr14) (fun _ _ => 0)
  case atStart => exact ⟨rfl, rfl⟩
  case round =>
  obtain ⟨rfl, rfl⟩ := hrel
  go_wp2_with fail
  go_ret
  exact ⟨rfl, BB.out⟩
theorem info_Events : (Tryz.prog.info? 247).map (fun i => (i.zero, i.size, i.bytes)) = some (some (.slice none 0 0), 1, 24) := by kernel_rfl
set_option maxRecDepth 100000 in
set_option maxHeartbeats 4000000 in
theorem flatEvents_nil (w : World) : Calls Tryz.prog 173 #[.slice none 0 0] w fun e w' => e = .returned (.bool true) ∧ Below w.heap.size w w' := by
  obtain ⟨i1, ji, jz0, jz1, jz2⟩ := info_parts info_Events
  have hmk : ∀ W : World, (Instr.makeSlice 119 (.int .i64 0) (.int .i64 0)).run Tryz.prog W = .ok (.slice (some ⟨W.heap.size, 0, none⟩) 0 0) (W.alloc (.cells #[] 247)) := fun W => by
    have hr := run_make (P := Tryz.prog) W 119 247 i1 (.slice none 0 0) Tryz.underlying119 ji jz0 .i64 .i64 ((0 : Nat) : Int) ((0 : Nat) : Int) (by omega) (by omega) (by rw [jz2]; omega) (by omega)
    have e : madeCells (Value.slice none 0 0).cells (0 * 1) = #[] := by
      apply Array.ext
      · simp [madeCells]
      · intro k h1 h2
        simp at h2
    rw [jz1, Int.toNat_natCast, e] at hr
    exact hr
  go_enter Tryz.func173, Tryz.ntmps173
  go_wp2_with fail
  go_loopw [3] (fun ix wr => ix = .int .i64 0 ∧ wr = w) (fun _ _ => 0)
  case atStart => exact ⟨rfl, rfl⟩
  case round =>
  obtain ⟨rfl, rfl⟩ := hrel
  go_wp2_with fail
  obtain ⟨w2, ew2⟩ : ∃ u, u = wr.alloc (.cells #[] 247) := ⟨_, rfl⟩
  have BB := Lib.hid (show Below wr.heap.size wr w2 from by rw [ew2]; exact B1 _ _)
  rw [← ew2]
  clear ew2
  go_loopw [6] (fun ix wr => ix = .int .i64 0 ∧ wr = w2) (fun _ _ => 0)
  case atStart => exact ⟨rfl, rfl⟩
  case round =>
  obtain ⟨rfl, rfl⟩ := hrel
  go_wp2_with fail
  obtain ⟨wr9, rfl⟩ : ∃ u, u = wr := ⟨_, rfl⟩
  go_loopw [9] (fun ix wr => ix = .int .i64 0 ∧ wr = wr9) (fun _ _ => 0)
  case atStart => exact ⟨rfl, rfl⟩
  case round =>
  obtain ⟨rfl, rfl⟩ := hrel
  go_wp2_with fail
  obtain ⟨wr11, rfl⟩ : ∃ u, u = wr := ⟨_, rfl⟩
  go_loopw [11] (fun ix wr => ix = .int .i64 0 ∧ wr = wr11) (fun _ _ => 0)
  case atStart => exact ⟨rfl, rfl⟩
  case round =>
  obtain ⟨rfl, rfl⟩ := hrel
  go_wp2_with fail
  obtain ⟨wr14, rfl⟩ : ∃ u, u = wr := ⟨_, rfl⟩
  go_loopw [14] (fun ix wr => ix = .int .i64 0 ∧ wr = wr14) (fun _ _ => 0)
  case atStart => exact ⟨rfl, rfl⟩
  case round =>
  obtain ⟨rfl, rfl⟩ := hrel
  go_wp2_with fail
  go_ret
  exact ⟨rfl, BB.out⟩
end Go.Proofs.YtlbjmkljmhfjdaaGreat

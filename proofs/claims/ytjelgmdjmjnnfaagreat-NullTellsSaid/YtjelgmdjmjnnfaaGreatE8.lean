/- Rows of nothing look at themselves: the other kinds. -/
import Derived.Test.YtjelgmdjmjnnfaaGreatE2
import Derived.Deep.CutRange
set_option linter.unusedSimpArgs false
set_option linter.unusedVariables false
namespace Go.Proofs.YtjelgmdjmjnnfaaGreat
open Go Go.RowKit Go.Maps
theorem info_Limbs : (Tryz.prog.info? 178).map (fun i => (i.zero, i.size, i.bytes)) = some (some (.slice none 0 0), 1, 24) := by kernel_rfl
set_option maxRecDepth 100000 in
set_option maxHeartbeats 4000000 in
theorem flatLimbs_nil (w : World) : Calls Tryz.prog 124 #[.slice none 0 0] w fun e w' => e = .returned (.bool true) ∧ Below w.heap.size w w' := by
  obtain ⟨i1, ji, jz0, jz1, jz2⟩ := info_parts info_Limbs
  have hmk : ∀ W : World, (Instr.makeSlice 89 (.int .i64 0) (.int .i64 0)).run Tryz.prog W = .ok (.slice (some ⟨W.heap.size, 0, none⟩) 0 0) (W.alloc (.cells #[] 178)) := fun W => by
    have hr := run_make (P := Tryz.prog) W 89 178 i1 (.slice none 0 0) Tryz.underlying89 ji jz0 .i64 .i64 ((0 : Nat) : Int) ((0 : Nat) : Int) (by omega) (by omega) (by rw [jz2]; omega) (by omega)
    have e : madeCells (Value.slice none 0 0).cells (0 * 1) = #[] := by
      apply Array.ext
      · simp [madeCells]
      · intro k h1 h2
        simp at h2
    rw [jz1, Int.toNat_natCast, e] at hr
    exact hr
  go_enter Tryz.func124, Tryz.ntmps124
  go_wp2_with fail
  go_loopw [3] (fun ix wr => ix = .int .i64 0 ∧ wr = w) (fun _ _ => 0)
  case atStart => exact ⟨rfl, rfl⟩
  case round =>
  obtain ⟨rfl, rfl⟩ := hrel
  go_wp2_with fail
  obtain ⟨w2, ew2⟩ : ∃ u, u = wr.alloc (.cells #[] 178) := ⟨_, rfl⟩
  have BB := Lib.hid (show Below wr.heap.size wr w2 from by rw [ew2]; exact B1 _ _)
  rw [← ew2]
  clear ew2
  go_loopw [6] (fun ix wr => ix = .int .i64 0 ∧ wr = w2) (fun _ _ => 0)
  case atStart => exact ⟨rfl, rfl⟩
  case round =>
  obtain ⟨rfl, rfl⟩ := hrel
  go_wp2_with fail
  obtain ⟨wr9, rfl⟩ : ∃ u, u = wr := ⟨_, rfl⟩
  go_loopw [9] (fun ix wr => ix = .int .i64 0 ∧ wr = wr9) (fun _ _ => 0)
  case atStart => exact ⟨rfl, rfl⟩
  case round =>
  obtain ⟨rfl, rfl⟩ := hrel
  go_wp2_with fail
  obtain ⟨wr11, rfl⟩ : ∃ u, u = wr := ⟨_, rfl⟩
  go_loopw [11] (fun ix wr => ix = .int .i64 0 ∧ wr = wr11) (fun _ _ => 0)
  case atStart => exact ⟨rfl, rfl⟩
  case round =>
  obtain ⟨rfl, rfl⟩ := hrel
  go_wp2_with fail
  obtain ⟨wr14, rfl⟩ : ∃ u, u = wr := ⟨_, rfl⟩
  go_loopw [14] (fun ix wr => ix = .int .i64 0 ∧ wr = wr14) (fun _ _ => 0)
  case atStart => exact ⟨rfl, rfl⟩
  case round =>
  obtain ⟨rfl, rfl⟩ := hrel
  go_wp2_with fail
  go_ret
  exact ⟨rfl, BB.out⟩
theorem info_Words : (Tryz.prog.info? 180).map (fun i => (i.zero, i.size, i.bytes)) = some (some (.slice none 0 0), 1, 24) := by kernel_rfl
set_option maxRecDepth 100000 in
set_option maxHeartbeats 4000000 in
theorem flatWords_nil (w : World) : Calls Tryz.prog 125 #[.slice none 0 0] w fun e w' => e = .returned (.bool true) ∧ Below w.heap.size w w' := by
  obtain ⟨i1, ji, jz0, jz1, jz2⟩ := info_parts info_Words
  have hmk : ∀ W : World, (Instr.makeSlice 90 (.int .i64 0) (.int .i64 0)).run Tryz.prog W = .ok (.slice (some ⟨W.heap.size, 0, none⟩) 0 0) (W.alloc (.cells #[] 180)) := fun W => by
    have hr := run_make (P := Tryz.prog) W 90 180 i1 (.slice none 0 0) Tryz.underlying90 ji jz0 .i64 .i64 ((0 : Nat) : Int) ((0 : Nat) : Int) (by omega) (by omega) (by rw [jz2]; omega) (by omega)
    have e : madeCells (Value.slice none 0 0).cells (0 * 1) = #[] := by
      apply Array.ext
      · simp [madeCells]
      · intro k h1 h2
        simp at h2
    rw [jz1, Int.toNat_natCast, e] at hr
    exact hr
  go_enter Tryz.func125, Tryz.ntmps125
  go_wp2_with fail
  go_loopw [3] (fun ix wr => ix = .int .i64 0 ∧ wr = w) (fun _ _ => 0)
  case atStart => exact ⟨rfl, rfl⟩
  case round =>
  obtain ⟨rfl, rfl⟩ := hrel
  go_wp2_with fail
  obtain ⟨w2, ew2⟩ : ∃ u, u = wr.alloc (.cells #[] 180) := ⟨_, rfl⟩
  have BB := Lib.hid (show Below wr.heap.size wr w2 from by rw [ew2]; exact B1 _ _)
  rw [← ew2]
  clear ew2
  go_loopw [6] (fun ix wr => ix = .int .i64 0 ∧ wr = w2) (fun _ _ => 0)
  case atStart => exact ⟨rfl, rfl⟩
  case round =>
  obtain ⟨rfl, rfl⟩ := hrel
  go_wp2_with fail
  obtain ⟨wr9, rfl⟩ : ∃ u, u = wr := ⟨_, rfl⟩
  go_loopw [9] (fun ix wr => ix = .int .i64 0 ∧ wr = wr9) (fun _ _ => 0)
  case atStart => exact ⟨rfl, rfl⟩
  case round =>
  obtain ⟨rfl, rfl⟩ := hrel
  go_wp2_with fail
  obtain ⟨wr11, rfl⟩ : ∃ u, u = wr := ⟨_, rfl⟩
  go_loopw [11] (fun ix wr => ix = .int .i64 0 ∧ wr = wr11) (fun _ _ => 0)
  case atStart => exact ⟨rfl, rfl⟩
  case round =>
  obtain ⟨rfl, rfl⟩ := hrel
  go_wp2_with fail
  obtain ⟨wr14, rfl⟩ : ∃ u, u = wr := ⟨_, rfl⟩
  go_loopw [14] (fun ix wr => ix = .int .i64 0 ∧ wr = wr14) (fun _ _ => 0)
  case atStart => exact ⟨rfl, rfl⟩
  case round =>
  obtain ⟨rfl, rfl⟩ := hrel
  go_wp2_with fail
  go_ret
  exact ⟨rfl, BB.out⟩
theorem info_Longs : (Tryz.prog.info? 181).map (fun i => (i.zero, i.size, i.bytes)) = some (some (.slice none 0 0), 1, 24) := by kernel_rfl
set_option maxRecDepth 100000 in
set_option maxHeartbeats 4000000 in
theorem flatLongs_nil (w : World) : Calls Tryz.prog 127 #[.slice none 0 0] w fun e w' => e = .returned (.bool true) ∧ Below w.heap.size w w' := by
  obtain ⟨i1, ji, jz0, jz1, jz2⟩ := info_parts info_Longs
  have hmk : ∀ W : World, (Instr.makeSlice 91 (.int .i64 0) (.int .i64 0)).run Tryz.prog W = .ok (.slice (some ⟨W.heap.size, 0, none⟩) 0 0) (W.alloc (.cells #[] 181)) := fun W => by
    have hr := run_make (P := Tryz.prog) W 91 181 i1 (.slice none 0 0) Tryz.underlying91 ji jz0 .i64 .i64 ((0 : Nat) : Int) ((0 : Nat) : Int) (by omega) (by omega) (by rw [jz2]; omega) (by omega)
    have e : madeCells (Value.slice none 0 0).cells (0 * 1) = #[] := by
      apply Array.ext
      · simp [madeCells]
      · intro k h1 h2
        simp at h2
    rw [jz1, Int.toNat_natCast, e] at hr
    exact hr
  go_enter Tryz.func127, Tryz.ntmps127
  go_wp2_with fail
  go_loopw [3] (fun ix wr => ix = .int .i64 0 ∧ wr = w) (fun _ _ => 0)
  case atStart => exact ⟨rfl, rfl⟩
  case round =>
  obtain ⟨rfl, rfl⟩ := hrel
  go_wp2_with fail
  obtain ⟨w2, ew2⟩ : ∃ u, u = wr.alloc (.cells #[] 181) := ⟨_, rfl⟩
  have BB := Lib.hid (show Below wr.heap.size wr w2 from by rw [ew2]; exact B1 _ _)
  rw [← ew2]
  clear ew2
  go_loopw [6] (fun ix wr => ix = .int .i64 0 ∧ wr = w2) (fun _ _ => 0)
  case atStart => exact ⟨rfl, rfl⟩
  case round =>
  obtain ⟨rfl, rfl⟩ := hrel
  go_wp2_with fail
  obtain ⟨wr9, rfl⟩ : ∃ u, u = wr := ⟨_, rfl⟩
  go_loopw [9] (fun ix wr => ix = .int .i64 0 ∧ wr = wr9) (fun _ _ => 0)
  case atStart => exact ⟨rfl, rfl⟩
  case round =>
  obtain ⟨rfl, rfl⟩ := hrel
  go_wp2_with fail
  obtain ⟨wr11, rfl⟩ : ∃ u, u = wr := ⟨_, rfl⟩
  go_loopw [11] (fun ix wr => ix = .int .i64 0 ∧ wr = wr11) (fun _ _ => 0)
  case atStart => exact ⟨rfl, rfl⟩
  case round =>
  obtain ⟨rfl, rfl⟩ := hrel
  go_wp2_with fail
  obtain ⟨wr14, rfl⟩ : ∃ u, u = wr := ⟨_, rfl⟩
  go_loopw [14] (fun ix wr => ix = .int .i64 0 ∧ wr = wr14) (fun _ _ => 0)
  case atStart => exact ⟨rfl, rfl⟩
  case round =>
  obtain ⟨rfl, rfl⟩ := hrel
  go_wp2_with fail
  go_ret
  exact ⟨rfl, BB.out⟩
theorem info_Texts : (Tryz.prog.info? 182).map (fun i => (i.zero, i.size, i.bytes)) = some (some (.slice none 0 0), 1, 24) := by kernel_rfl
set_option maxRecDepth 100000 in
set_option maxHeartbeats 4000000 in
theorem flatTexts_nil (w : World) : Calls Tryz.prog 128 #[.slice none 0 0] w fun e w' => e = .returned (.bool true) ∧ Below w.heap.size w w' := by
  obtain ⟨i1, ji, jz0, jz1, jz2⟩ := info_parts info_Texts
  have hmk : ∀ W : World, (Instr.makeSlice 92 (.int .i64 0) (.int .i64 0)).run Tryz.prog W = .ok (.slice (some ⟨W.heap.size, 0, none⟩) 0 0) (W.alloc (.cells #[] 182)) := fun W => by
    have hr := run_make (P := Tryz.prog) W 92 182 i1 (.slice none 0 0) Tryz.underlying92 ji jz0 .i64 .i64 ((0 : Nat) : Int) ((0 : Nat) : Int) (by omega) (by omega) (by rw [jz2]; omega) (by omega)
    have e : madeCells (Value.slice none 0 0).cells (0 * 1) = #[] := by
      apply Array.ext
      · simp [madeCells]
      · intro k h1 h2
        simp at h2
    rw [jz1, Int.toNat_natCast, e] at hr
    exact hr
  go_enter Tryz.func128, Tryz.ntmps128
  go_wp2_with fail
  go_loopw [3] (fun ix wr => ix = .int .i64 0 ∧ wr = w) (fun _ _ => 0)
  case atStart => exact ⟨rfl, rfl⟩
  case round =>
  obtain ⟨rfl, rfl⟩ := hrel
  go_wp2_with fail
  obtain ⟨w2, ew2⟩ : ∃ u, u = wr.alloc (.cells #[] 182) := ⟨_, rfl⟩
  have BB := Lib.hid (show Below wr.heap.size wr w2 from by rw [ew2]; exact B1 _ _)
  rw [← ew2]
  clear ew2
  go_loopw [6] (fun ix wr => ix = .int .i64 0 ∧ wr = w2) (fun _ _ => 0)
  case atStart => exact ⟨rfl, rfl⟩
  case round =>
  obtain ⟨rfl, rfl⟩ := hrel
  go_wp2_with fail
  obtain ⟨wr9, rfl⟩ : ∃ u, u = wr := ⟨_, rfl⟩
  go_loopw [9] (fun ix wr => ix = .int .i64 0 ∧ wr = wr9) (fun _ _ => 0)
  case atStart => exact ⟨rfl, rfl⟩
  case round =>
  obtain ⟨rfl, rfl⟩ := hrel
  go_wp2_with fail
  obtain ⟨wr11, rfl⟩ : ∃ u, u = wr := ⟨_, rfl⟩
  go_loopw [11] (fun ix wr => ix = .int .i64 0 ∧ wr = wr11) (fun _ _ => 0)
  case atStart => exact ⟨rfl, rfl⟩
  case round =>
  obtain ⟨rfl, rfl⟩ := hrel
  go_wp2_with fail
  obtain ⟨wr14, rfl⟩ : ∃ u, u = wr := ⟨_, rfl⟩
  go_loopw [14] (fun ix wr => ix = .int .i64 0 ∧ wr = wr14) (fun _ _ => 0)
  case atStart => exact ⟨rfl, rfl⟩
  case round =>
  obtain ⟨rfl, rfl⟩ := hrel
  go_wp2_with fail
  go_ret
  exact ⟨rfl, BB.out⟩
theorem info_Bytes : (Tryz.prog.info? 70).map (fun i => (i.zero, i.size, i.bytes)) = some (some (.slice none 0 0), 1, 24) := by kernel_rfl
set_option maxRecDepth 100000 in
set_option maxHeartbeats 4000000 in
theorem flatBytes_nil (w : World) : Calls Tryz.prog 129 #[.slice none 0 0] w fun e w' => e = .returned (.bool true) ∧ Below w.heap.size w w' := by
  obtain ⟨i1, ji, jz0, jz1, jz2⟩ := info_parts info_Bytes
  have hmk : ∀ W : World, (Instr.makeSlice 93 (.int .i64 0) (.int .i64 0)).run Tryz.prog W = .ok (.slice (some ⟨W.heap.size, 0, none⟩) 0 0) (W.alloc (.cells #[] 70)) := fun W => by
    have hr := run_make (P := Tryz.prog) W 93 70 i1 (.slice none 0 0) Tryz.underlying93 ji jz0 .i64 .i64 ((0 : Nat) : Int) ((0 : Nat) : Int) (by omega) (by omega) (by rw [jz2]; omega) (by omega)
    have e : madeCells (Value.slice none 0 0).cells (0 * 1) = #[] := by
      apply Array.ext
      · simp [madeCells]
      · intro k h1 h2
        simp at h2
    rw [jz1, Int.toNat_natCast, e] at hr
    exact hr
  go_enter Tryz.func129, Tryz.ntmps129
  go_wp2_with fail
  go_loopw [3] (fun ix wr => ix = .int .i64 0 ∧ wr = w) (fun _ _ => 0)
  case atStart => exact ⟨rfl, rfl⟩
  case round =>
  obtain ⟨rfl, rfl⟩ := hrel
  go_wp2_with fail
  obtain ⟨w2, ew2⟩ : ∃ u, u = wr.alloc (.cells #[] 70) := ⟨_, rfl⟩
  have BB := Lib.hid (show Below wr.heap.size wr w2 from by rw [ew2]; exact B1 _ _)
  rw [← ew2]
  clear ew2
  go_loopw [6] (fun ix wr => ix = .int .i64 0 ∧ wr = w2) (fun _ _ => 0)
  case atStart => exact ⟨rfl, rfl⟩
  case round =>
  obtain ⟨rfl, rfl⟩ := hrel
  go_wp2_with fail
  obtain ⟨wr9, rfl⟩ : ∃ u, u = wr := ⟨_, rfl⟩
  go_loopw [9] (fun ix wr => ix = .int .i64 0 ∧ wr = wr9) (fun _ _ => 0)
  case atStart => exact ⟨rfl, rfl⟩
  case round =>
  obtain ⟨rfl, rfl⟩ := hrel
  go_wp2_with fail
  obtain ⟨wr11, rfl⟩ : ∃ u, u = wr := ⟨_, rfl⟩
  go_loopw [11] (fun ix wr => ix = .int .i64 0 ∧ wr = wr11) (fun _ _ => 0)
  case atStart => exact ⟨rfl, rfl⟩
  case round =>
  obtain ⟨rfl, rfl⟩ := hrel
  go_wp2_with fail
  obtain ⟨wr14, rfl⟩ : ∃ u, u = wr := ⟨_, rfl⟩
  go_loopw [14] (fun ix wr => ix = .int .i64 0 ∧ wr = wr14) (fun _ _ => 0)
  case atStart => exact ⟨rfl, rfl⟩
  case round =>
  obtain ⟨rfl, rfl⟩ := hrel
  go_wp2_with fail
  go_ret
  exact ⟨rfl, BB.out⟩
theorem info_Truths : (Tryz.prog.info? 106).map (fun i => (i.zero, i.size, i.bytes)) = some (some (.slice none 0 0), 1, 24) := by kernel_rfl
set_option maxRecDepth 100000 in
set_option maxHeartbeats 4000000 in
theorem flatTruths_nil (w : World) : Calls Tryz.prog 130 #[.slice none 0 0] w fun e w' => e = .returned (.bool true) ∧ Below w.heap.size w w' := by
  obtain ⟨i1, ji, jz0, jz1, jz2⟩ := info_parts info_Truths
  have hmk : ∀ W : World, (Instr.makeSlice 94 (.int .i64 0) (.int .i64 0)).run Tryz.prog W = .ok (.slice (some ⟨W.heap.size, 0, none⟩) 0 0) (W.alloc (.cells #[] 106)) := fun W => by
    have hr := run_make (P := Tryz.prog) W 94 106 i1 (.slice none 0 0) Tryz.underlying94 ji jz0 .i64 .i64 ((0 : Nat) : Int) ((0 : Nat) : Int) (by omega) (by omega) (by rw [jz2]; omega) (by omega)
    have e : madeCells (Value.slice none 0 0).cells (0 * 1) = #[] := by
      apply Array.ext
      · simp [madeCells]
      · intro k h1 h2
        simp at h2
    rw [jz1, Int.toNat_natCast, e] at hr
    exact hr
  go_enter Tryz.func130, Tryz.ntmps130
  go_wp2_with fail
  go_loopw [3] (fun ix wr => ix = .int .i64 0 ∧ wr = w) (fun _ _ => 0)
  case atStart => exact ⟨rfl, rfl⟩
  case round =>
  obtain ⟨rfl, rfl⟩ := hrel
  go_wp2_with fail
  obtain ⟨w2, ew2⟩ : ∃ u, u = wr.alloc (.cells #[] 106) := ⟨_, rfl⟩
  have BB := Lib.hid (show Below wr.heap.size wr w2 from by rw [ew2]; exact B1 _ _)
  rw [← ew2]
  clear ew2
  go_loopw [6] (fun ix wr => ix = .int .i64 0 ∧ wr = w2) (fun _ _ => 0)
  case atStart => exact ⟨rfl, rfl⟩
  case round =>
  obtain ⟨rfl, rfl⟩ := hrel
  go_wp2_with fail
  obtain ⟨wr9, rfl⟩ : ∃ u, u = wr := ⟨_, rfl⟩
  go_loopw [9] (fun ix wr => ix = .int .i64 0 ∧ wr = wr9) (fun _ _ => 0)
  case atStart => exact ⟨rfl, rfl⟩
  case round =>
  obtain ⟨rfl, rfl⟩ := hrel
  go_wp2_with fail
  obtain ⟨wr11, rfl⟩ : ∃ u, u = wr := ⟨_, rfl⟩
  go_loopw [11] (fun ix wr => ix = .int .i64 0 ∧ wr = wr11) (fun _ _ => 0)
  case atStart => exact ⟨rfl, rfl⟩
  case round =>
  obtain ⟨rfl, rfl⟩ := hrel
  go_wp2_with fail
  obtain ⟨wr14, rfl⟩ : ∃ u, u = wr := ⟨_, rfl⟩
  go_loopw [14] (fun ix wr => ix = .int .i64 0 ∧ wr = wr14) (fun _ _ => 0)
  case atStart => exact ⟨rfl, rfl⟩
  case round =>
  obtain ⟨rfl, rfl⟩ := hrel
  go_wp2_with fail
  go_ret
  exact ⟨rfl, BB.out⟩
theorem info_Twigs : (Tryz.prog.info? 185).map (fun i => (i.zero, i.size, i.bytes)) = some (some (.slice none 0 0), 1, 24) := by kernel_rfl
set_option maxRecDepth 100000 in
set_option maxHeartbeats 4000000 in
theorem flatTwigs_nil (w : World) : Calls Tryz.prog 131 #[.slice none 0 0] w fun e w' => e = .returned (.bool true) ∧ Below w.heap.size w w' := by
  obtain ⟨i1, ji, jz0, jz1, jz2⟩ := info_parts info_Twigs
  have hmk : ∀ W : World, (Instr.makeSlice 95 (.int .i64 0) (.int .i64 0)).run Tryz.prog W = .ok (.slice (some ⟨W.heap.size, 0, none⟩) 0 0) (W.alloc (.cells #[] 185)) := fun W => by
    have hr := run_make (P := Tryz.prog) W 95 185 i1 (.slice none 0 0) Tryz.underlying95 ji jz0 .i64 .i64 ((0 : Nat) : Int) ((0 : Nat) : Int) (by omega) (by omega) (by rw [jz2]; omega) (by omega)
    have e : madeCells (Value.slice none 0 0).cells (0 * 1) = #[] := by
      apply Array.ext
      · simp [madeCells]
      · intro k h1 h2
        simp at h2
    rw [jz1, Int.toNat_natCast, e] at hr
    exact hr
  go_enter Tryz.func131, Tryz.ntmps131
  go_wp2_with fail
  go_loopw [3] (fun ix wr => ix = .int .i64 0 ∧ wr = w) (fun _ _ => 0)
  case atStart => exact ⟨rfl, rfl⟩
  case round =>
  obtain ⟨rfl, rfl⟩ := hrel
  go_wp2_with fail
  obtain ⟨w2, ew2⟩ : ∃ u, u = wr.alloc (.cells #[] 185) := ⟨_, rfl⟩
  have BB := Lib.hid (show Below wr.heap.size wr w2 from by rw [ew2]; exact B1 _ _)
  rw [← ew2]
  clear ew2
  go_loopw [6] (fun ix wr => ix = .int .i64 0 ∧ wr = w2) (fun _ _ => 0)
  case atStart => exact ⟨rfl, rfl⟩
  case round =>
  obtain ⟨rfl, rfl⟩ := hrel
  go_wp2_with fail
  obtain ⟨wr9, rfl⟩ : ∃ u, u = wr := ⟨_, rfl⟩
  go_loopw [9] (fun ix wr => ix = .int .i64 0 ∧ wr = wr9) (fun _ _ => 0)
  case atStart => exact ⟨rfl, rfl⟩
  case round =>
  obtain ⟨rfl, rfl⟩ := hrel
  go_wp2_with fail
  obtain ⟨wr11, rfl⟩ : ∃ u, u = wr := ⟨_, rfl⟩
  go_loopw [11] (fun ix wr => ix = .int .i64 0 ∧ wr = wr11) (fun _ _ => 0)
  case atStart => exact ⟨rfl, rfl⟩
  case round =>
  obtain ⟨rfl, rfl⟩ := hrel
  go_wp2_with fail
  obtain ⟨wr14, rfl⟩ : ∃ u, u = wr := ⟨_, rfl⟩
  go_loopw [14] (fun ix wr => ix = .int .i64 0 ∧ wr = wr14) (fun _ _ => 0)
  case atStart => exact ⟨rfl, rfl⟩
  case round =>
  obtain ⟨rfl, rfl⟩ := hrel
  go_wp2_with fail
  go_ret
  exact ⟨rfl, BB.out⟩
theorem info_Nodes : (Tryz.prog.info? 23).map (fun i => (i.zero, i.size, i.bytes)) = some (some (.slice none 0 0), 1, 24) := by kernel_rfl
set_option maxRecDepth 100000 in
set_option maxHeartbeats 4000000 in
theorem flatNodes_nil (w : World) : Calls Tryz.prog 132 #[.slice none 0 0] w fun e w' => e = .returned (.bool true) ∧ Below w.heap.size w w' := by
  obtain ⟨i1, ji, jz0, jz1, jz2⟩ := info_parts info_Nodes
  have hmk : ∀ W : World, (Instr.makeSlice 36 (.int .i64 0) (.int .i64 0)).run Tryz.prog W = .ok (.slice (some ⟨W.heap.size, 0, none⟩) 0 0) (W.alloc (.cells #[] 23)) := fun W => by
    have hr := run_make (P := Tryz.prog) W 36 23 i1 (.slice none 0 0) Tryz.underlying36 ji jz0 .i64 .i64 ((0 : Nat) : Int) ((0 : Nat) : Int) (by omega) (by omega) (by rw [jz2]; omega) (by omega)
    have e : madeCells (Value.slice none 0 0).cells (0 * 1) = #[] := by
      apply Array.ext
      · simp [madeCells]
      · intro k h1 h2
        simp at h2
    rw [jz1, Int.toNat_natCast, e] at hr
    exact hr
  go_enter Tryz.func132, Tryz.ntmps132
  go_wp2_with fail
  go_loopw [3] (fun ix wr => ix = .int .i64 0 ∧ wr = w) (fun _ _ => 0)
  case atStart => exact ⟨rfl, rfl⟩
  case round =>
  obtain ⟨rfl, rfl⟩ := hrel
  go_wp2_with fail
  obtain ⟨w2, ew2⟩ : ∃ u, u = wr.alloc (.cells #[] 23) := ⟨_, rfl⟩
  have BB := Lib.hid (show Below wr.heap.size wr w2 from by rw [ew2]; exact B1 _ _)
  rw [← ew2]
  clear ew2
  go_loopw [6] (fun ix wr => ix = .int .i64 0 ∧ wr = w2) (fun _ _ => 0)
  case atStart => exact ⟨rfl, rfl⟩
  case round =>
  obtain ⟨rfl, rfl⟩ := hrel
  go_wp2_with fail
  obtain ⟨wr9, rfl⟩ : ∃ u, u = wr := ⟨_, rfl⟩
  go_loopw [9] (fun ix wr => ix = .int .i64 0 ∧ wr = wr9) (fun _ _ => 0)
  case atStart => exact ⟨rfl, rfl⟩
  case round =>
  obtain ⟨rfl, rfl⟩ := hrel
  go_wp2_with fail
  obtain ⟨wr11, rfl⟩ : ∃ u, u = wr := ⟨_, rfl⟩
  go_loopw [11] (fun ix wr => ix = .int .i64 0 ∧ wr = wr11) (fun _ _ => 0)
  case atStart => exact ⟨rfl, rfl⟩
  case round =>
  obtain ⟨rfl, rfl⟩ := hrel
  go_wp2_with fail
  obtain ⟨wr14, rfl⟩ : ∃ u, u = wr := ⟨_, rfl⟩
  go_loopw [14] (fun ix wr => ix = .int .i64 0 ∧ wr = wr14) (fun _ _ => 0)
  case atStart => exact ⟨rfl, rfl⟩
  case round =>
  obtain ⟨rfl, rfl⟩ := hrel
  go_wp2_with fail
  go_ret
  exact ⟨rfl, BB.out⟩
theorem info_Rules : (Tryz.prog.info? 22).map (fun i => (i.zero, i.size, i.bytes)) = some (some (.slice none 0 0), 1, 24) := by kernel_rfl
set_option maxRecDepth 100000 in
set_option maxHeartbeats 4000000 in
theorem flatRules_nil (w : World) : Calls Tryz.prog 133 #[.slice none 0 0] w fun e w' => e = .returned (.bool true) ∧ Below w.heap.size w w' := by
  obtain ⟨i1, ji, jz0, jz1, jz2⟩ := info_parts info_Rules
  have hmk : ∀ W : World, (Instr.makeSlice 96 (.int .i64 0) (.int .i64 0)).run Tryz.prog W = .ok (.slice (some ⟨W.heap.size, 0, none⟩) 0 0) (W.alloc (.cells #[] 22)) := fun W => by
    have hr := run_make (P := Tryz.prog) W 96 22 i1 (.slice none 0 0) Tryz.underlying96 ji jz0 .i64 .i64 ((0 : Nat) : Int) ((0 : Nat) : Int) (by omega) (by omega) (by rw [jz2]; omega) (by omega)
    have e : madeCells (Value.slice none 0 0).cells (0 * 1) = #[] := by
      apply Array.ext
      · simp [madeCells]
      · intro k h1 h2
        simp at h2
    rw [jz1, Int.toNat_natCast, e] at hr
    exact hr
  go_enter Tryz.func133, Tryz.ntmps133
  go_wp2_with fail
  go_loopw [3] (fun ix wr => ix = .int .i64 0 ∧ wr = w) (fun _ _ => 0)
  case atStart => exact ⟨rfl, rfl⟩
  case round =>
  obtain ⟨rfl, rfl⟩ := hrel
  go_wp2_with fail
  obtain ⟨w2, ew2⟩ : ∃ u, u = wr.alloc (.cells #[] 22) := ⟨_, rfl⟩
  have BB := Lib.hid (show Below wr.heap.size wr w2 from by rw [ew2]; exact B1 _ _)
  rw [← ew2]
  clear ew2
  go_loopw [6] (fun ix wr => ix = .int .i64 0 ∧ wr = w2) (fun _ _ => 0)
  case atStart => exact ⟨rfl, rfl⟩
  case round =>
  obtain ⟨rfl, rfl⟩ := hrel
  go_wp2_with fail
  obtain ⟨wr9, rfl⟩ : ∃ u, u = wr := ⟨_, rfl⟩
  go_loopw [9] (fun ix wr => ix = .int .i64 0 ∧ wr = wr9) (fun _ _ => 0)
  case atStart => exact ⟨rfl, rfl⟩
  case round =>
  obtain ⟨rfl, rfl⟩ := hrel
  go_wp2_with fail
  obtain ⟨wr11, rfl⟩ : ∃ u, u = wr := ⟨_, rfl⟩
  go_loopw [11] (fun ix wr => ix = .int .i64 0 ∧ wr = wr11) (fun _ _ => 0)
  case atStart => exact ⟨rfl, rfl⟩
  case round =>
  obtain ⟨rfl, rfl⟩ := hrel
  go_wp2_with fail
  obtain ⟨wr14, rfl⟩ : ∃ u, u = wr := ⟨_, rfl⟩
  go_loopw [14] (fun ix wr => ix = .int .i64 0 ∧ wr = wr14) (fun _ _ => 0)
  case atStart => exact ⟨rfl, rfl⟩
  case round =>
  obtain ⟨rfl, rfl⟩ := hrel
  go_wp2_with fail
  go_ret
  exact ⟨rfl, BB.out⟩
theorem info_Spans : (Tryz.prog.info? 191).map (fun i => (i.zero, i.size, i.bytes)) = some (some (.slice none 0 0), 1, 24) := by kernel_rfl
set_option maxRecDepth 100000 in
set_option maxHeartbeats 4000000 in
theorem flatSpans_nil (w : World) : Calls Tryz.prog 134 #[.slice none 0 0] w fun e w' => e = .returned (.bool true) ∧ Below w.heap.size w w' := by
  obtain ⟨i1, ji, jz0, jz1, jz2⟩ := info_parts info_Spans
  have hmk : ∀ W : World, (Instr.makeSlice 97 (.int .i64 0) (.int .i64 0)).run Tryz.prog W = .ok (.slice (some ⟨W.heap.size, 0, none⟩) 0 0) (W.alloc (.cells #[] 191)) := fun W => by
    have hr := run_make (P := Tryz.prog) W 97 191 i1 (.slice none 0 0) Tryz.underlying97 ji jz0 .i64 .i64 ((0 : Nat) : Int) ((0 : Nat) : Int) (by omega) (by omega) (by rw [jz2]; omega) (by omega)
    have e : madeCells (Value.slice none 0 0).cells (0 * 1) = #[] := by
      apply Array.ext
      · simp [madeCells]
      · intro k h1 h2
        simp at h2
    rw [jz1, Int.toNat_natCast, e] at hr
    exact hr
  go_enter Tryz.func134, Tryz.ntmps134
  go_wp2_with fail
  go_loopw [3] (fun ix wr => ix = .int .i64 0 ∧ wr = w) (fun _ _ => 0)
  case atStart => exact ⟨rfl, rfl⟩
  case round =>
  obtain ⟨rfl, rfl⟩ := hrel
  go_wp2_with fail
  obtain ⟨w2, ew2⟩ : ∃ u, u = wr.alloc (.cells #[] 191) := ⟨_, rfl⟩
  have BB := Lib.hid (show Below wr.heap.size wr w2 from by rw [ew2]; exact B1 _ _)
  rw [← ew2]
  clear ew2
  go_loopw [6] (fun ix wr => ix = .int .i64 0 ∧ wr = w2) (fun _ _ => 0)
  case atStart => exact ⟨rfl, rfl⟩
  case round =>
  obtain ⟨rfl, rfl⟩ := hrel
  go_wp2_with fail
  obtain ⟨wr9, rfl⟩ : ∃ u, u = wr := ⟨_, rfl⟩
  go_loopw [9] (fun ix wr => ix = .int .i64 0 ∧ wr = wr9) (fun _ _ => 0)
  case atStart => exact ⟨rfl, rfl⟩
  case round =>
  obtain ⟨rfl, rfl⟩ := hrel
  go_wp2_with fail
  obtain ⟨wr11, rfl⟩ : ∃ u, u = wr := ⟨_, rfl⟩
  go_loopw [11] (fun ix wr => ix = .int .i64 0 ∧ wr = wr11) (fun _ _ => 0)
  case atStart => exact ⟨rfl, rfl⟩
  case round =>
  obtain ⟨rfl, rfl⟩ := hrel
  go_wp2_with fail
  obtain ⟨wr14, rfl⟩ : ∃ u, u = wr := ⟨_, rfl⟩
  go_loopw [14] (fun ix wr => ix = .int .i64 0 ∧ wr = wr14) (fun _ _ => 0)
  case atStart => exact ⟨rfl, rfl⟩
  case round =>
  obtain ⟨rfl, rfl⟩ := hrel
  go_wp2_with fail
  go_ret
  exact ⟨rfl, BB.out⟩
theorem info_Grammars : (Tryz.prog.info? 67).map (fun i => (i.zero, i.size, i.bytes)) = some (some (.slice none 0 0), 1, 24) := by kernel_rfl
set_option maxRecDepth 100000 in
set_option maxHeartbeats 4000000 in
theorem flatGrammars_nil (w : World) : Calls Tryz.prog 135 #[.slice none 0 0] w fun e w' => e = .returned (.bool true) ∧ Below w.heap.size w w' := by
  obtain ⟨i1, ji, jz0, jz1, jz2⟩ := info_parts info_Grammars
  have hmk : ∀ W : World, (Instr.makeSlice 68 (.int .i64 0) (.int .i64 0)).run Tryz.prog W = .ok (.slice (some ⟨W.heap.size, 0, none⟩) 0 0) (W.alloc (.cells #[] 67)) := fun W => by
    have hr := run_make (P := Tryz.prog) W 68 67 i1 (.slice none 0 0) Tryz.underlying68 ji jz0 .i64 .i64 ((0 : Nat) : Int) ((0 : Nat) : Int) (by omega) (by omega) (by rw [jz2]; omega) (by omega)
    have e : madeCells (Value.slice none 0 0).cells (0 * 1) = #[] := by
      apply Array.ext
      · simp [madeCells]
      · intro k h1 h2
        simp at h2
    rw [jz1, Int.toNat_natCast, e] at hr
    exact hr
  go_enter Tryz.func135, Tryz.ntmps135
  go_wp2_with fail
  go_loopw [3] (fun ix wr => ix = .int .i64 0 ∧ wr = w) (fun _ _ => 0)
  case atStart => exact ⟨rfl, rfl⟩
  case round =>
  obtain ⟨rfl, rfl⟩ := hrel
  go_wp2_with fail
  obtain ⟨w2, ew2⟩ : ∃ u, u = wr.alloc (.cells #[] 67) := ⟨_, rfl⟩
  have BB := Lib.hid (show Below wr.heap.size wr w2 from by rw [ew2]; exact B1 _ _)
  rw [← ew2]
  clear ew2
  go_loopw [6] (fun ix wr => ix = .int .i64 0 ∧ wr = w2) (fun _ _ => 0)
  case atStart => exact ⟨rfl, rfl⟩
  case round =>
  obtain ⟨rfl, rfl⟩ := hrel
  go_wp2_with fail
  obtain ⟨wr9, rfl⟩ : ∃ u, u = wr := ⟨_, rfl⟩
  go_loopw [9] (fun ix wr => ix = .int .i64 0 ∧ wr = wr9) (fun _ _ => 0)
  case atStart => exact ⟨rfl, rfl⟩
  case round =>
  obtain ⟨rfl, rfl⟩ := hrel
  go_wp2_with fail
  obtain ⟨wr11, rfl⟩ : ∃ u, u = wr := ⟨_, rfl⟩
  go_loopw [11] (fun ix wr => ix = .int .i64 0 ∧ wr = wr11) (fun _ _ => 0)
  case atStart => exact ⟨rfl, rfl⟩
  case round =>
  obtain ⟨rfl, rfl⟩ := hrel
  go_wp2_with fail
  obtain ⟨wr14, rfl⟩ : ∃ u, u = wr := ⟨_, rfl⟩
  go_loopw [14] (fun ix wr => ix = .int .i64 0 ∧ wr = wr14) (fun _ _ => 0)
  case atStart => exact ⟨rfl, rfl⟩
  case round =>
  obtain ⟨rfl, rfl⟩ := hrel
  go_wp2_with fail
  go_ret
  exact ⟨rfl, BB.out⟩
theorem info_Founds : (Tryz.prog.info? 194).map (fun i => (i.zero, i.size, i.bytes)) = some (some (.slice none 0 0), 1, 24) := by kernel_rfl
set_option maxRecDepth 100000 in
set_option maxHeartbeats 4000000 in
theorem flatFounds_nil (w : World) : Calls Tryz.prog 136 #[.slice none 0 0] w fun e w' => e = .returned (.bool true) ∧ Below w.heap.size w w' := by
  obtain ⟨i1, ji, jz0, jz1, jz2⟩ := info_parts info_Founds
  have hmk : ∀ W : World, (Instr.makeSlice 98 (.int .i64 0) (.int .i64 0)).run Tryz.prog W = .ok (.slice (some ⟨W.heap.size, 0, none⟩) 0 0) (W.alloc (.cells #[] 194)) := fun W => by
    have hr := run_make (P := Tryz.prog) W 98 194 i1 (.slice none 0 0) Tryz.underlying98 ji jz0 .i64 .i64 ((0 : Nat) : Int) ((0 : Nat) : Int) (by omega) (by omega) (by rw [jz2]; omega) (by omega)
    have e : madeCells (Value.slice none 0 0).cells (0 * 1) = #[] := by
      apply Array.ext
      · simp [madeCells]
      · intro k h1 h2
        simp at h2
    rw [jz1, Int.toNat_natCast, e] at hr
    exact hr
  go_enter Tryz.func136, Tryz.ntmps136
  go_wp2_with fail
  go_loopw [3] (fun ix wr => ix = .int .i64 0 ∧ wr = w) (fun _ _ => 0)
  case atStart => exact ⟨rfl, rfl⟩
  case round =>
  obtain ⟨rfl, rfl⟩ := hrel
  go_wp2_with fail
  obtain ⟨w2, ew2⟩ : ∃ u, u = wr.alloc (.cells #[] 194) := ⟨_, rfl⟩
  have BB := Lib.hid (show Below wr.heap.size wr w2 from by rw [ew2]; exact B1 _ _)
  rw [← ew2]
  clear ew2
  go_loopw [6] (fun ix wr => ix = .int .i64 0 ∧ wr = w2) (fun _ _ => 0)
  case atStart => exact ⟨rfl, rfl⟩
  case round =>
  obtain ⟨rfl, rfl⟩ := hrel
  go_wp2_with fail
  obtain ⟨wr9, rfl⟩ : ∃ u, u = wr := ⟨_, rfl⟩
  go_loopw [9] (fun ix wr => ix = .int .i64 0 ∧ wr = wr9) (fun _ _ => 0)
  case atStart => exact ⟨rfl, rfl⟩
  case round =>
  obtain ⟨rfl, rfl⟩ := hrel
  go_wp2_with fail
  obtain ⟨wr11, rfl⟩ : ∃ u, u = wr := ⟨_, rfl⟩
  go_loopw [11] (fun ix wr => ix = .int .i64 0 ∧ wr = wr11) (fun _ _ => 0)
  case atStart => exact ⟨rfl, rfl⟩
  case round =>
  obtain ⟨rfl, rfl⟩ := hrel
  go_wp2_with fail
  obtain ⟨wr14, rfl⟩ : ∃ u, u = wr := ⟨_, rfl⟩
  go_loopw [14] (fun ix wr => ix = .int .i64 0 ∧ wr = wr14) (fun _ _ => 0)
  case atStart => exact ⟨rfl, rfl⟩
  case round =>
  obtain ⟨rfl, rfl⟩ := hrel
  go_wp2_with fail
  go_ret
  exact ⟨rfl, BB.out⟩
theorem info_Events : (Tryz.prog.info? 199).map (fun i => (i.zero, i.size, i.bytes)) = some (some (.slice none 0 0), 1, 24) := by kernel_rfl
set_option maxRecDepth 100000 in
set_option maxHeartbeats 4000000 in
theorem flatEvents_nil (w : World) : Calls Tryz.prog 137 #[.slice none 0 0] w fun e w' => e = .returned (.bool true) ∧ Below w.heap.size w w' := by
  obtain ⟨i1, ji, jz0, jz1, jz2⟩ := info_parts info_Events
  have hmk : ∀ W : World, (Instr.makeSlice 99 (.int .i64 0) (.int .i64 0)).run Tryz.prog W = .ok (.slice (some ⟨W.heap.size, 0, none⟩) 0 0) (W.alloc (.cells #[] 199)) := fun W => by
    have hr := run_make (P := Tryz.prog) W 99 199 i1 (.slice none 0 0) Tryz.underlying99 ji jz0 .i64 .i64 ((0 : Nat) : Int) ((0 : Nat) : Int) (by omega) (by omega) (by rw [jz2]; omega) (by omega)
    have e : madeCells (Value.slice none 0 0).cells (0 * 1) = #[] := by
      apply Array.ext
      · simp [madeCells]
      · intro k h1 h2
        simp at h2
    rw [jz1, Int.toNat_natCast, e] at hr
    exact hr
  go_enter Tryz.func137, Tryz.ntmps137
  go_wp2_with fail
  go_loopw [3] (fun ix wr => ix = .int .i64 0 ∧ wr = w) (fun _ _ => 0)
  case atStart => exact ⟨rfl, rfl⟩
  case round =>
  obtain ⟨rfl, rfl⟩ := hrel
  go_wp2_with fail
  obtain ⟨w2, ew2⟩ : ∃ u, u = wr.alloc (.cells #[] 199) := ⟨_, rfl⟩
  have BB := Lib.hid (show Below wr.heap.size wr w2 from by rw [ew2]; exact B1 _ _)
  rw [← ew2]
  clear ew2
  go_loopw [6] (fun ix wr => ix = .int .i64 0 ∧ wr = w2) (fun _ _ => 0)
  case atStart => exact ⟨rfl, rfl⟩
  case round =>
  obtain ⟨rfl, rfl⟩ := hrel
  go_wp2_with fail
  obtain ⟨wr9, rfl⟩ : ∃ u, u = wr := ⟨_, rfl⟩
  go_loopw [9] (fun ix wr => ix = .int .i64 0 ∧ wr = wr9) (fun _ _ => 0)
  case atStart => exact ⟨rfl, rfl⟩
  case round =>
  obtain ⟨rfl, rfl⟩ := hrel
  go_wp2_with fail
  obtain ⟨wr11, rfl⟩ : ∃ u, u = wr := ⟨_, rfl⟩
  go_loopw [11] (fun ix wr => ix = .int .i64 0 ∧ wr = wr11) (fun _ _ => 0)
  case atStart => exact ⟨rfl, rfl⟩
  case round =>
  obtain ⟨rfl, rfl⟩ := hrel
  go_wp2_with fail
  obtain ⟨wr14, rfl⟩ : ∃ u, u = wr := ⟨_, rfl⟩
  go_loopw [14] (fun ix wr => ix = .int .i64 0 ∧ wr = wr14) (fun _ _ => 0)
  case atStart => exact ⟨rfl, rfl⟩
  case round =>
  obtain ⟨rfl, rfl⟩ := hrel
  go_wp2_with fail
  go_ret
  exact ⟨rfl, BB.out⟩
end Go.Proofs.YtjelgmdjmjnnfaaGreat

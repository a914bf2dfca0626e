/- A row is put into the bag. -/
import Derived.Test.YtlbjmkljmhfjdaaGreatE4
import Derived.Test.YtlbjmkljmhfjdaaGreatC4
import Derived.Deep.CutRange
set_option linter.unusedSimpArgs false
set_option linter.unusedVariables false
namespace Go.Proofs.YtlbjmkljmhfjdaaGreat
open Go Go.RowKit Go.Maps
set_option maxRecDepth 100000 in
set_option maxHeartbeats 4000000 in
theorem put_ints (B bb : Nat) (c0 c1 lv : Value) (cs : List Value) (vs : List Value) (A : Option Addr) (n c : Nat) (w : World) (hB : B ≤ w.heap.size) (hb : Blk w bb (c0 :: c1 :: lv :: cs).toArray 121) (ho : w.ownsRow B 38 1 lv vs.length vs) (hn : vs.length ≤ 100000) :
    Calls Tryz.prog 110 #[.pointer (some ⟨bb, 0, none⟩), .slice A n c] w fun e w' => e = .returned (.tuple #[]) ∧ ∃ lv' w1, w1.ownsRow B 38 1 lv' (vs.length + 1) (vs ++ [.slice A n c]) ∧ (w.alloc (.cells #[.slice A n c] 38)).grownBy w1 lv.ownBlock ∧ Blk w1 bb (c0 :: c1 :: lv :: cs).toArray 121 ∧ w' = w1.setCell ⟨bb, 2, none⟩ lv' := by
  obtain ⟨i1, ji, jz0, jz1, jz2⟩ := info_parts Tryz.info_s
  obtain ⟨A0, d0, e0, _, _⟩ := own_slice ho
  subst e0
  have HBB := Lib.hid hb
  have k2 := hb.cell 2
  simp only [List.getElem?_toArray, List.getElem?_cons_zero, List.getElem?_cons_succ] at k2
  have B1' := Lib.hid (B1 w (.cells #[.slice A n c] 38))
  have O1 := Lib.hid (own_below ho B1'.out)
  have hHB := hB
  have HO := Lib.hid ho
  clear hb ho
  go_enter Tryz.func110, Tryz.ntmps110
  go_wp2_with (at_builtin; refine wpList_append_view rfl _ _ 31 rfl B 38 i1 (.slice none 0 0) 1 24 Tryz.underlying31 ji jz0 jz1 jz2 rfl (by decide) _ _ _ rfl O1.out ⟨w.heap.size, 0, none⟩ 1 1 [.slice A n c] rfl rfl (cell_one_new _ _ _) (by simp [Value.oneCell']) (by unfold maxLen; omega) (by omega) (by simp; omega) ?_; intro lv' w1 hown hview hgrow hcase; obtain ⟨Ag, cg, eg, _, _⟩ := own_slice hown; subst eg; have OW := Lib.hid hown; have GW := Lib.hid hgrow; have KB := Lib.hid ((HBB.out.below' B1'.out).grown hgrow (fun e => own_ne O1.out (HBB.out.below' B1'.out) (by decide) e.symm)); have ck := KB.out.cell 2; have fk := KB.out.frozen 2; simp only [List.getElem?_toArray, List.getElem?_cons_zero, List.getElem?_cons_succ] at ck; clear hown hview hgrow hcase)
  refine bodyPost_end (results_none rfl _ _ _) rfl ?_
  exact ⟨rfl, _, _, OW.out, GW.out, KB.out, rfl⟩
end Go.Proofs.YtlbjmkljmhfjdaaGreat
namespace Go.Proofs.YtlbjmkljmhfjdaaGreat
open Go Go.RowKit Go.Maps
theorem info_Limbs : (Tryz.prog.info? 226).map (fun i => (i.zero, i.size, i.bytes)) = some (some (.slice none 0 0), 1, 24) := by kernel_rfl
set_option maxRecDepth 100000 in
set_option maxHeartbeats 4000000 in
theorem flatLimbs_nil (w : World) : Calls Tryz.prog 160 #[.slice none 0 0] w fun e w' => e = .returned (.bool true) ∧ Below w.heap.size w w' := by
  obtain ⟨i1, ji, jz0, jz1, jz2⟩ := info_parts info_Limbs
  have hmk : ∀ W : World, (Instr.makeSlice 109 (.int .i64 0) (.int .i64 0)).run Tryz.prog W = .ok (.slice (some ⟨W.heap.size, 0, none⟩) 0 0) (W.alloc (.cells #[] 226)) := fun W => by
    have hr := run_make (P := Tryz.prog) W 109 226 i1 (.slice none 0 0) Tryz.underlying109 ji jz0 .i64 .i64 ((0 : Nat) : Int) ((0 : Nat) : Int) (by omega) (by omega) (by rw [jz2]; omega) (by omega)
    have e : madeCells (Value.slice none 0 0).cells (0 * 1) = #[] := by
      apply Array.ext
      · simp [madeCells]
      · intro k h1 h2
        simp at h2
    rw [jz1, Int.toNat_natCast, e] at hr
    exact hr
  go_enter Tryz.func160, Tryz.ntmps160
  go_wp2_with fail
  go_loopw [3] (fun ix wr => ix = .int .i64 0 ∧ wr = w) (fun _ _ => 0)
  case atStart => exact ⟨rfl, rfl⟩
  case round =>
  obtain ⟨rfl, rfl⟩ := hrel
  go_wp2_with fail
  obtain ⟨w2, ew2⟩ : ∃ u, u = wr.alloc (.cells #[] 226) := ⟨_, rfl⟩
  have BB := Lib.hid (show Below wr.heap.size wr w2 from by rw [ew2]; exact B1 _ _)
  rw [← ew2]
  clear ew2
  go_loopw [6] (fun ix wr => ix = .int .i64 0 ∧ wr = w2) (fun _ _ => 0)
  case atStart => exact ⟨rfl, rfl⟩
  case round =>
  obtain ⟨rfl, rfl⟩ := hrel
  go_wp2_with fail
  obtain ⟨wr9, rfl⟩ : ∃ u, u = wr := ⟨_, rfl⟩
  go_loopw [9] (fun ix wr => ix = .int .i64 0 ∧ wr = wr9) (fun _ _ => 0)
  case atStart => exact ⟨rfl, rfl⟩
  case round =>
  obtain ⟨rfl, rfl⟩ := hrel
  go_wp2_with fail
  obtain ⟨wr11, rfl⟩ : ∃ u, u = wr := ⟨_, rfl⟩
  go_loopw [11] (fun ix wr => ix = .int .i64 0 ∧ wr = wr11) (fun _ _ => 0)
  case atStart => exact ⟨rfl, rfl⟩
  case round =>
  obtain ⟨rfl, rfl⟩ := hrel
  go_wp2_with fail
  obtain ⟨wr14, rfl⟩ : ∃ u, u = wr := ⟨_, rfl⟩
  go_loopw [14] (fun ix wr => ix = .int .i64 0 ∧ wr = wr14) (fun _ _ => 0)
  case atStart => exact ⟨rfl, rfl⟩
  case round =>
  obtain ⟨rfl, rfl⟩ := hrel
  go_wp2_with fail
  go_ret
  exact ⟨rfl, BB.out⟩
theorem info_Words : (Tryz.prog.info? 228).map (fun i => (i.zero, i.size, i.bytes)) = some (some (.slice none 0 0), 1, 24) := by kernel_rfl
set_option maxRecDepth 100000 in
set_option maxHeartbeats 4000000 in
theorem flatWords_nil (w : World) : Calls Tryz.prog 161 #[.slice none 0 0] w fun e w' => e = .returned (.bool true) ∧ Below w.heap.size w w' := by
  obtain ⟨i1, ji, jz0, jz1, jz2⟩ := info_parts info_Words
  have hmk : ∀ W : World, (Instr.makeSlice 110 (.int .i64 0) (.int .i64 0)).run Tryz.prog W = .ok (.slice (some ⟨W.heap.size, 0, none⟩) 0 0) (W.alloc (.cells #[] 228)) := fun W => by
    have hr := run_make (P := Tryz.prog) W 110 228 i1 (.slice none 0 0) Tryz.underlying110 ji jz0 .i64 .i64 ((0 : Nat) : Int) ((0 : Nat) : Int) (by omega) (by omega) (by rw [jz2]; omega) (by omega)
    have e : madeCells (Value.slice none 0 0).cells (0 * 1) = #[] := by
      apply Array.ext
      · simp [madeCells]
      · intro k h1 h2
        simp at h2
    rw [jz1, Int.toNat_natCast, e] at hr
    exact hr
  go_enter Tryz.func161, Tryz.ntmps161
  go_wp2_with fail
  go_loopw [3] (fun ix wr => ix = .int .i64 0 ∧ wr = w) (fun _ _ => 0)
  case atStart => exact ⟨rfl, rfl⟩
  case round =>
  obtain ⟨rfl, rfl⟩ := hrel
  go_wp2_with fail
  obtain ⟨w2, ew2⟩ : ∃ u, u = wr.alloc (.cells #[] 228) := ⟨_, rfl⟩
  have BB := Lib.hid (show Below wr.heap.size wr w2 from by rw [ew2]; exact B1 _ _)
  rw [← ew2]
  clear ew2
  go_loopw [6] (fun ix wr => ix = .int .i64 0 ∧ wr = w2) (fun _ _ => 0)
  case atStart => exact ⟨rfl, rfl⟩
  case round =>
  obtain ⟨rfl, rfl⟩ := hrel
  go_wp2_with fail
  obtain ⟨wr9, rfl⟩ : ∃ u, u = wr := ⟨_, rfl⟩
  go_loopw [9] (fun ix wr => ix = .int .i64 0 ∧ wr = wr9) (fun _ _ => 0)
  case atStart => exact ⟨rfl, rfl⟩
  case round =>
  obtain ⟨rfl, rfl⟩ := hrel
  go_wp2_with fail
  obtain ⟨wr11, rfl⟩ : ∃ u, u = wr := ⟨_, rfl⟩
  go_loopw [11] (fun ix wr => ix = .int .i64 0 ∧ wr = wr11) (fun _ _ => 0)
  case atStart => exact ⟨rfl, rfl⟩
  case round =>
  obtain ⟨rfl, rfl⟩ := hrel
  go_wp2_with fail
  obtain ⟨wr14, rfl⟩ : ∃ u, u = wr := ⟨_, rfl⟩
  go_loopw [14] (fun ix wr => ix = .int .i64 0 ∧ wr = wr14) (fun _ _ => 0)
  case atStart => exact ⟨rfl, rfl⟩
  case round =>
  obtain ⟨rfl, rfl⟩ := hrel
  go_wp2_with fail
  go_ret
  exact ⟨rfl, BB.out⟩
theorem info_Longs : (Tryz.prog.info? 229).map (fun i => (i.zero, i.size, i.bytes)) = some (some (.slice none 0 0), 1, 24) := by kernel_rfl
set_option maxRecDepth 100000 in
set_option maxHeartbeats 4000000 in
theorem flatLongs_nil (w : World) : Calls Tryz.prog 163 #[.slice none 0 0] w fun e w' => e = .returned (.bool true) ∧ Below w.heap.size w w' := by
  obtain ⟨i1, ji, jz0, jz1, jz2⟩ := info_parts info_Longs
  have hmk : ∀ W : World, (Instr.makeSlice 111 (.int .i64 0) (.int .i64 0)).run Tryz.prog W = .ok (.slice (some ⟨W.heap.size, 0, none⟩) 0 0) (W.alloc (.cells #[] 229)) := fun W => by
    have hr := run_make (P := Tryz.prog) W 111 229 i1 (.slice none 0 0) Tryz.underlying111 ji jz0 .i64 .i64 ((0 : Nat) : Int) ((0 : Nat) : Int) (by omega) (by omega) (by rw [jz2]; omega) (by omega)
    have e : madeCells (Value.slice none 0 0).cells (0 * 1) = #[] := by
      apply Array.ext
      · simp [madeCells]
      · intro k h1 h2
        simp at h2
    rw [jz1, Int.toNat_natCast, e] at hr
    exact hr
  go_enter Tryz.func163, Tryz.ntmps163
  go_wp2_with fail
  go_loopw [3] (fun ix wr => ix = .int .i64 0 ∧ wr = w) (fun _ _ => 0)
  case atStart => exact ⟨rfl, rfl⟩
  case round =>
  obtain ⟨rfl, rfl⟩ := hrel
  go_wp2_with fail
  obtain ⟨w2, ew2⟩ : ∃ u, u = wr.alloc (.cells #[] 229) := ⟨_, rfl⟩
  have BB := Lib.hid (show Below wr.heap.size wr w2 from by rw [ew2]; exact B1 _ _)
  rw [← ew2]
  clear ew2
  go_loopw [6] (fun ix wr => ix = .int .i64 0 ∧ wr = w2) (fun _ _ => 0)
  case atStart => exact ⟨rfl, rfl⟩
  case round =>
  obtain ⟨rfl, rfl⟩ := hrel
  go_wp2_with fail
  obtain ⟨wr9, rfl⟩ : ∃ u, u = wr := ⟨_, rfl⟩
  go_loopw [9] (fun ix wr => ix = .int .i64 0 ∧ wr = wr9) (fun _ _ => 0)
  case atStart => exact ⟨rfl, rfl⟩
  case round =>
  obtain ⟨rfl, rfl⟩ := hrel
  go_wp2_with fail
  obtain ⟨wr11, rfl⟩ : ∃ u, u = wr := ⟨_, rfl⟩
  go_loopw [11] (fun ix wr => ix = .int .i64 0 ∧ wr = wr11) (fun _ _ => 0)
  case atStart => exact ⟨rfl, rfl⟩
  case round =>
  obtain ⟨rfl, rfl⟩ := hrel
  go_wp2_with fail
  obtain ⟨wr14, rfl⟩ : ∃ u, u = wr := ⟨_, rfl⟩
  go_loopw [14] (fun ix wr => ix = .int .i64 0 ∧ wr = wr14) (fun _ _ => 0)
  case atStart => exact ⟨rfl, rfl⟩
  case round =>
  obtain ⟨rfl, rfl⟩ := hrel
  go_wp2_with fail
  go_ret
  exact ⟨rfl, BB.out⟩
theorem info_Texts : (Tryz.prog.info? 230).map (fun i => (i.zero, i.size, i.bytes)) = some (some (.slice none 0 0), 1, 24) := by kernel_rfl
set_option maxRecDepth 100000 in
set_option maxHeartbeats 4000000 in
theorem flatTexts_nil (w : World) : Calls Tryz.prog 164 #[.slice none 0 0] w fun e w' => e = .returned (.bool true) ∧ Below w.heap.size w w' := by
  obtain ⟨i1, ji, jz0, jz1, jz2⟩ := info_parts info_Texts
  have hmk : ∀ W : World, (Instr.makeSlice 112 (.int .i64 0) (.int .i64 0)).run Tryz.prog W = .ok (.slice (some ⟨W.heap.size, 0, none⟩) 0 0) (W.alloc (.cells #[] 230)) := fun W => by
    have hr := run_make (P := Tryz.prog) W 112 230 i1 (.slice none 0 0) Tryz.underlying112 ji jz0 .i64 .i64 ((0 : Nat) : Int) ((0 : Nat) : Int) (by omega) (by omega) (by rw [jz2]; omega) (by omega)
    have e : madeCells (Value.slice none 0 0).cells (0 * 1) = #[] := by
      apply Array.ext
      · simp [madeCells]
      · intro k h1 h2
        simp at h2
    rw [jz1, Int.toNat_natCast, e] at hr
    exact hr
  go_enter Tryz.func164, Tryz.ntmps164
  go_wp2_with fail
  go_loopw [3] (fun ix wr => ix = .int .i64 0 ∧ wr = w) (fun _ _ => 0)
  case atStart => exact ⟨rfl, rfl⟩
  case round =>
  obtain ⟨rfl, rfl⟩ := hrel
  go_wp2_with fail
  obtain ⟨w2, ew2⟩ : ∃ u, u = wr.alloc (.cells #[] 230) := ⟨_, rfl⟩
  have BB := Lib.hid (show Below wr.heap.size wr w2 from by rw [ew2]; exact B1 _ _)
  rw [← ew2]
  clear ew2
  go_loopw [6] (fun ix wr => ix = .int .i64 0 ∧ wr = w2) (fun _ _ => 0)
  case atStart => exact ⟨rfl, rfl⟩
  case round =>
  obtain ⟨rfl, rfl⟩ := hrel
  go_wp2_with fail
  obtain ⟨wr9, rfl⟩ : ∃ u, u = wr := ⟨_, rfl⟩
  go_loopw [9] (fun ix wr => ix = .int .i64 0 ∧ wr = wr9) (fun _ _ => 0)
  case atStart => exact ⟨rfl, rfl⟩
  case round =>
  obtain ⟨rfl, rfl⟩ := hrel
  go_wp2_with fail
  obtain ⟨wr11, rfl⟩ : ∃ u, u = wr := ⟨_, rfl⟩
  go_loopw [11] (fun ix wr => ix = .int .i64 0 ∧ wr = wr11) (fun _ _ => 0)
  case atStart => exact ⟨rfl, rfl⟩
  case round =>
  obtain ⟨rfl, rfl⟩ := hrel
  go_wp2_with fail
  obtain ⟨wr14, rfl⟩ : ∃ u, u = wr := ⟨_, rfl⟩
  go_loopw [14] (fun ix wr => ix = .int .i64 0 ∧ wr = wr14) (fun _ _ => 0)
  case atStart => exact ⟨rfl, rfl⟩
  case round =>
  obtain ⟨rfl, rfl⟩ := hrel
  go_wp2_with fail
  go_ret
  exact ⟨rfl, BB.out⟩
theorem info_Bytes : (Tryz.prog.info? 151).map (fun i => (i.zero, i.size, i.bytes)) = some (some (.slice none 0 0), 1, 24) := by kernel_rfl
set_option maxRecDepth 100000 in
set_option maxHeartbeats 4000000 in
theorem flatBytes_nil (w : World) : Calls Tryz.prog 165 #[.slice none 0 0] w fun e w' => e = .returned (.bool true) ∧ Below w.heap.size w w' := by
  obtain ⟨i1, ji, jz0, jz1, jz2⟩ := info_parts info_Bytes
  have hmk : ∀ W : World, (Instr.makeSlice 113 (.int .i64 0) (.int .i64 0)).run Tryz.prog W = .ok (.slice (some ⟨W.heap.size, 0, none⟩) 0 0) (W.alloc (.cells #[] 151)) := fun W => by
    have hr := run_make (P := Tryz.prog) W 113 151 i1 (.slice none 0 0) Tryz.underlying113 ji jz0 .i64 .i64 ((0 : Nat) : Int) ((0 : Nat) : Int) (by omega) (by omega) (by rw [jz2]; omega) (by omega)
    have e : madeCells (Value.slice none 0 0).cells (0 * 1) = #[] := by
      apply Array.ext
      · simp [madeCells]
      · intro k h1 h2
        simp at h2
    rw [jz1, Int.toNat_natCast, e] at hr
    exact hr
  go_enter Tryz.func165, Tryz.ntmps165
  go_wp2_with fail
  go_loopw [3] (fun ix wr => ix = .int .i64 0 ∧ wr = w) (fun _ _ => 0)
  case atStart => exact ⟨rfl, rfl⟩
  case round =>
  obtain ⟨rfl, rfl⟩ := hrel
  go_wp2_with fail
  obtain ⟨w2, ew2⟩ : ∃ u, u = wr.alloc (.cells #[] 151) := ⟨_, rfl⟩
  have BB := Lib.hid (show Below wr.heap.size wr w2 from by rw [ew2]; exact B1 _ _)
  rw [← ew2]
  clear ew2
  go_loopw [6] (fun ix wr => ix = .int .i64 0 ∧ wr = w2) (fun _ _ => 0)
  case atStart => exact ⟨rfl, rfl⟩
  case round =>
  obtain ⟨rfl, rfl⟩ := hrel
  go_wp2_with fail
  obtain ⟨wr9, rfl⟩ : ∃ u, u = wr := ⟨_, rfl⟩
  go_loopw [9] (fun ix wr => ix = .int .i64 0 ∧ wr = wr9) (fun _ _ => 0)
  case atStart => exact ⟨rfl, rfl⟩
  case round =>
  obtain ⟨rfl, rfl⟩ := hrel
  go_wp2_with fail
  obtain ⟨wr11, rfl⟩ : ∃ u, u = wr := ⟨_, rfl⟩
  go_loopw [11] (fun ix wr => ix = .int .i64 0 ∧ wr = wr11) (fun _ _ => 0)
  case atStart => exact ⟨rfl, rfl⟩
  case round =>
  obtain ⟨rfl, rfl⟩ := hrel
  go_wp2_with fail
  obtain ⟨wr14, rfl⟩ : ∃ u, u = wr := ⟨_, rfl⟩
  go_loopw [14] (fun ix wr => ix = .int .i64 0 ∧ wr = wr14) (fun _ _ => 0)
  case atStart => exact ⟨rfl, rfl⟩
  case round =>
  obtain ⟨rfl, rfl⟩ := hrel
  go_wp2_with fail
  go_ret
  exact ⟨rfl, BB.out⟩
theorem info_Truths : (Tryz.prog.info? 82).map (fun i => (i.zero, i.size, i.bytes)) = some (some (.slice none 0 0), 1, 24) := by kernel_rfl
set_option maxRecDepth 100000 in
set_option maxHeartbeats 4000000 in
theorem flatTruths_nil (w : World) : Calls Tryz.prog 166 #[.slice none 0 0] w fun e w' => e = .returned (.bool true) ∧ Below w.heap.size w w' := by
  obtain ⟨i1, ji, jz0, jz1, jz2⟩ := info_parts info_Truths
  have hmk : ∀ W : World, (Instr.makeSlice 114 (.int .i64 0) (.int .i64 0)).run Tryz.prog W = .ok (.slice (some ⟨W.heap.size, 0, none⟩) 0 0) (W.alloc (.cells #[] 82)) := fun W => by
    have hr := run_make (P := Tryz.prog) W 114 82 i1 (.slice none 0 0) Tryz.underlying114 ji jz0 .i64 .i64 ((0 : Nat) : Int) ((0 : Nat) : Int) (by omega) (by omega) (by rw [jz2]; omega) (by omega)
    have e : madeCells (Value.slice none 0 0).cells (0 * 1) = #[] := by
      apply Array.ext
      · simp [madeCells]
      · intro k h1 h2
        simp at h2
    rw [jz1, Int.toNat_natCast, e] at hr
    exact hr
  go_enter Tryz.func166, Tryz.ntmps166
  go_wp2_with fail
  go_loopw [3] (fun ix wr => ix = .int .i64 0 ∧ wr = w) (fun _ _ => 0)
  case atStart => exact ⟨rfl, rfl⟩
  case round =>
  obtain ⟨rfl, rfl⟩ := hrel
  go_wp2_with fail
  obtain ⟨w2, ew2⟩ : ∃ u, u = wr.alloc (.cells #[] 82) := ⟨_, rfl⟩
  have BB := Lib.hid (show Below wr.heap.size wr w2 from by rw [ew2]; exact B1 _ _)
  rw [← ew2]
  clear ew2
  go_loopw [6] (fun ix wr => ix = .int .i64 0 ∧ wr = w2) (fun _ _ => 0)
  case atStart => exact ⟨rfl, rfl⟩
  case round =>
  obtain ⟨rfl, rfl⟩ := hrel
  go_wp2_with fail
  obtain ⟨wr9, rfl⟩ : ∃ u, u = wr := ⟨_, rfl⟩
  go_loopw [9] (fun ix wr => ix = .int .i64 0 ∧ wr = wr9) (fun _ _ => 0)
  case atStart => exact ⟨rfl, rfl⟩
  case round =>
  obtain ⟨rfl, rfl⟩ := hrel
  go_wp2_with fail
  obtain ⟨wr11, rfl⟩ : ∃ u, u = wr := ⟨_, rfl⟩
  go_loopw [11] (fun ix wr => ix = .int .i64 0 ∧ wr = wr11) (fun _ _ => 0)
  case atStart => exact ⟨rfl, rfl⟩
  case round =>
  obtain ⟨rfl, rfl⟩ := hrel
  go_wp2_with fail
  obtain ⟨wr14, rfl⟩ : ∃ u, u = wr := ⟨_, rfl⟩
  go_loopw [14] (fun ix wr => ix = .int .i64 0 ∧ wr = wr14) (fun _ _ => 0)
  case atStart => exact ⟨rfl, rfl⟩
  case round =>
  obtain ⟨rfl, rfl⟩ := hrel
  go_wp2_with fail
  go_ret
  exact ⟨rfl, BB.out⟩
theorem info_Twigs : (Tryz.prog.info? 233).map (fun i => (i.zero, i.size, i.bytes)) = some (some (.slice none 0 0), 1, 24) := by kernel_rfl
set_option maxRecDepth 100000 in
set_option maxHeartbeats 4000000 in
theorem flatTwigs_nil (w : World) : Calls Tryz.prog 167 #[.slice none 0 0] w fun e w' => e = .returned (.bool true) ∧ Below w.heap.size w w' := by
  obtain ⟨i1, ji, jz0, jz1, jz2⟩ := info_parts info_Twigs
  have hmk : ∀ W : World, (Instr.makeSlice 115 (.int .i64 0) (.int .i64 0)).run Tryz.prog W = .ok (.slice (some ⟨W.heap.size, 0, none⟩) 0 0) (W.alloc (.cells #[] 233)) := fun W => by
    have hr := run_make (P := Tryz.prog) W 115 233 i1 (.slice none 0 0) Tryz.underlying115 ji jz0 .i64 .i64 ((0 : Nat) : Int) ((0 : Nat) : Int) (by omega) (by omega) (by rw [jz2]; omega) (by omega)
    have e : madeCells (Value.slice none 0 0).cells (0 * 1) = #[] := by
      apply Array.ext
      · simp [madeCells]
      · intro k h1 h2
        simp at h2
    rw [jz1, Int.toNat_natCast, e] at hr
    exact hr
  go_enter Tryz.func167, Tryz.ntmps167
  go_wp2_with fail
  go_loopw [3] (fun ix wr => ix = .int .i64 0 ∧ wr = w) (fun _ _ => 0)
  case atStart => exact ⟨rfl, rfl⟩
  case round =>
  obtain ⟨rfl, rfl⟩ := hrel
  go_wp2_with fail
  obtain ⟨w2, ew2⟩ : ∃ u, u = wr.alloc (.cells #[] 233) := ⟨_, rfl⟩
  have BB := Lib.hid (show Below wr.heap.size wr w2 from by rw [ew2]; exact B1 _ _)
  rw [← ew2]
  clear ew2
  go_loopw [6] (fun ix wr => ix = .int .i64 0 ∧ wr = w2) (fun _ _ => 0)
  case atStart => exact ⟨rfl, rfl⟩
  case round =>
  obtain ⟨rfl, rfl⟩ := hrel
  go_wp2_with fail
  obtain ⟨wr9, rfl⟩ : ∃ u, u = wr := ⟨_, rfl⟩
  go_loopw [9] (fun ix wr => ix = .int .i64 0 ∧ wr = wr9) (fun _ _ => 0)
  case atStart => exact ⟨rfl, rfl⟩
  case round =>
  obtain ⟨rfl, rfl⟩ := hrel
  go_wp2_with fail
  obtain ⟨wr11, rfl⟩ : ∃ u, u = wr := ⟨_, rfl⟩
  go_loopw [11] (fun ix wr => ix = .int .i64 0 ∧ wr = wr11) (fun _ _ => 0)
  case atStart => exact ⟨rfl, rfl⟩
  case round =>
  obtain ⟨rfl, rfl⟩ := hrel
  go_wp2_with fail
  obtain ⟨wr14, rfl⟩ : ∃ u, u = wr := ⟨_, rfl⟩
  go_loopw [14] (fun ix wr => ix = .int .i64 0 ∧ wr = wr14) (fun _ _ => 0)
  case atStart => exact ⟨rfl, rfl⟩
  case round =>
  obtain ⟨rfl, rfl⟩ := hrel
  go_wp2_with fail
  go_ret
  exact ⟨rfl, BB.out⟩
theorem info_Nodes : (Tryz.prog.info? 23).map (fun i => (i.zero, i.size, i.bytes)) = some (some (.slice none 0 0), 1, 24) := by kernel_rfl
set_option maxRecDepth 100000 in
set_option maxHeartbeats 4000000 in
theorem flatNodes_nil (w : World) : Calls Tryz.prog 168 #[.slice none 0 0] w fun e w' => e = .returned (.bool true) ∧ Below w.heap.size w w' := by
  obtain ⟨i1, ji, jz0, jz1, jz2⟩ := info_parts info_Nodes
  have hmk : ∀ W : World, (Instr.makeSlice 71 (.int .i64 0) (.int .i64 0)).run Tryz.prog W = .ok (.slice (some ⟨W.heap.size, 0, none⟩) 0 0) (W.alloc (.cells #[] 23)) := fun W => by
    have hr := run_make (P := Tryz.prog) W 71 23 i1 (.slice none 0 0) Tryz.underlying71 ji jz0 .i64 .i64 ((0 : Nat) : Int) ((0 : Nat) : Int) (by omega) (by omega) (by rw [jz2]; omega) (by omega)
    have e : madeCells (Value.slice none 0 0).cells (0 * 1) = #[] := by
      apply Array.ext
      · simp [madeCells]
      · intro k h1 h2
        simp at h2
    rw [jz1, Int.toNat_natCast, e] at hr
    exact hr
  go_enter Tryz.func168, Tryz.ntmps168
  go_wp2_with fail
  go_loopw [3] (fun ix wr => ix = .int .i64 0 ∧ wr = w) (fun _ _ => 0)
  case atStart => exact ⟨rfl, rfl⟩
  case round =>
  obtain ⟨rfl, rfl⟩ := hrel
  go_wp2_with fail
  obtain ⟨w2, ew2⟩ : ∃ u, u = wr.alloc (.cells #[] 23) := ⟨_, rfl⟩
  have BB := Lib.hid (show Below wr.heap.size wr w2 from by rw [ew2]; exact B1 _ _)
  rw [← ew2]
  clear ew2
  go_loopw [6] (fun ix wr => ix = .int .i64 0 ∧ wr = w2) (fun _ _ => 0)
  case atStart => exact ⟨rfl, rfl⟩
  case round =>
  obtain ⟨rfl, rfl⟩ := hrel
  go_wp2_with fail
  obtain ⟨wr9, rfl⟩ : ∃ u, u = wr := ⟨_, rfl⟩
  go_loopw [9] (fun ix wr => ix = .int .i64 0 ∧ wr = wr9) (fun _ _ => 0)
  case atStart => exact ⟨rfl, rfl⟩
  case round =>
  obtain ⟨rfl, rfl⟩ := hrel
  go_wp2_with fail
  obtain ⟨wr11, rfl⟩ : ∃ u, u = wr := ⟨_, rfl⟩
  go_loopw [11] (fun ix wr => ix = .int .i64 0 ∧ wr = wr11) (fun _ _ => 0)
  case atStart => exact ⟨rfl, rfl⟩
  case round =>
  obtain ⟨rfl, rfl⟩ := hrel
  go_wp2_with fail
  obtain ⟨wr14, rfl⟩ : ∃ u, u = wr := ⟨_, rfl⟩
  go_loopw [14] (fun ix wr => ix = .int .i64 0 ∧ wr = wr14) (fun _ _ => 0)
  case atStart => exact ⟨rfl, rfl⟩
  case round =>
  obtain ⟨rfl, rfl⟩ := hrel
  go_wp2_with fail
  go_ret
  exact ⟨rfl, BB.out⟩
theorem info_Rules : (Tryz.prog.info? 22).map (fun i => (i.zero, i.size, i.bytes)) = some (some (.slice none 0 0), 1, 24) := by kernel_rfl
set_option maxRecDepth 100000 in
set_option maxHeartbeats 4000000 in
theorem flatRules_nil (w : World) : Calls Tryz.prog 169 #[.slice none 0 0] w fun e w' => e = .returned (.bool true) ∧ Below w.heap.size w w' := by
  obtain ⟨i1, ji, jz0, jz1, jz2⟩ := info_parts info_Rules
  have hmk : ∀ W : World, (Instr.makeSlice 116 (.int .i64 0) (.int .i64 0)).run Tryz.prog W = .ok (.slice (some ⟨W.heap.size, 0, none⟩) 0 0) (W.alloc (.cells #[] 22)) := fun W => by
    have hr := run_make (P := Tryz.prog) W 116 22 i1 (.slice none 0 0) Tryz.underlying116 ji jz0 .i64 .i64 ((0 : Nat) : Int) ((0 : Nat) : Int) (by omega) (by omega) (by rw [jz2]; omega) (by omega)
    have e : madeCells (Value.slice none 0 0).cells (0 * 1) = #[] := by
      apply Array.ext
      · simp [madeCells]
      · intro k h1 h2
        simp at h2
    rw [jz1, Int.toNat_natCast, e] at hr
    exact hr
  go_enter Tryz.func169, Tryz.ntmps169
  go_wp2_with fail
  go_loopw [3] (fun ix wr => ix = .int .i64 0 ∧ wr = w) (fun _ _ => 0)
  case atStart => exact ⟨rfl, rfl⟩
  case round =>
  obtain ⟨rfl, rfl⟩ := hrel
  go_wp2_with fail
  obtain ⟨w2, ew2⟩ : ∃ u, u = wr.alloc (.cells #[] 22) := ⟨_, rfl⟩
  have BB := Lib.hid (show Below wr.heap.size wr w2 from by rw [ew2]; exact B1 _ _)
  rw [← ew2]
  clear ew2
  go_loopw [6] (fun ix wr => ix = .int .i64 0 ∧ wr = w2) (fun _ _ => 0)
  case atStart => exact ⟨rfl, rfl⟩
  case round =>
  obtain ⟨rfl, rfl⟩ := hrel
  go_wp2_with fail
  obtain ⟨wr9, rfl⟩ : ∃ u, u = wr := ⟨_, rfl⟩
  go_loopw [9] (fun ix wr => ix = .int .i64 0 ∧ wr = wr9) (fun _ _ => 0)
  case atStart => exact ⟨rfl, rfl⟩
  case round =>
  obtain ⟨rfl, rfl⟩ := hrel
  go_wp2_with fail
  obtain ⟨wr11, rfl⟩ : ∃ u, u = wr := ⟨_, rfl⟩
  go_loopw [11] (fun ix wr => ix = .int .i64 0 ∧ wr = wr11) (fun _ _ => 0)
  case atStart => exact ⟨rfl, rfl⟩
  case round =>
  obtain ⟨rfl, rfl⟩ := hrel
  go_wp2_with fail
  obtain ⟨wr14, rfl⟩ : ∃ u, u = wr := ⟨_, rfl⟩
  go_loopw [14] (fun ix wr => ix = .int .i64 0 ∧ wr = wr14) (fun _ _ => 0)
  case atStart => exact ⟨rfl, rfl⟩
  case round =>
  obtain ⟨rfl, rfl⟩ := hrel
  go_wp2_with fail
  go_ret
  exact ⟨rfl, BB.out⟩
theorem info_Spans : (Tryz.prog.info? 239).map (fun i => (i.zero, i.size, i.bytes)) = some (some (.slice none 0 0), 1, 24) := by kernel_rfl
set_option maxRecDepth 100000 in
set_option maxHeartbeats 4000000 in
theorem flatSpans_nil (w : World) : Calls Tryz.prog 170 #[.slice none 0 0] w fun e w' => e = .returned (.bool true) ∧ Below w.heap.size w w' := by
  obtain ⟨i1, ji, jz0, jz1, jz2⟩ := info_parts info_Spans
  have hmk : ∀ W : World, (Instr.makeSlice 117 (.int .i64 0) (.int .i64 0)).run Tryz.prog W = .ok (.slice (some ⟨W.heap.size, 0, none⟩) 0 0) (W.alloc (.cells #[] 239)) := fun W => by
    have hr := run_make (P := Tryz.prog) W 117 239 i1 (.slice none 0 0) Tryz.underlying117 ji jz0 .i64 .i64 ((0 : Nat) : Int) ((0 : Nat) : Int) (by omega) (by omega) (by rw [jz2]; omega) (by omega)
    have e : madeCells (Value.slice none 0 0).cells (0 * 1) = #[] := by
      apply Array.ext
      · simp [madeCells]
      · intro k h1 h2
        simp at h2
    rw [jz1, Int.toNat_natCast, e] at hr
    exact hr
  go_enter Tryz.func170, Tryz.ntmps170
  go_wp2_with fail
  go_loopw [3] (fun ix wr => ix = .int .i64 0 ∧ wr = w) (fun _ _ => 0)
  case atStart => exact ⟨rfl, rfl⟩
  case round =>
  obtain ⟨rfl, rfl⟩ := hrel
  go_wp2_with fail
  obtain ⟨w2, ew2⟩ : ∃ u, u = wr.alloc (.cells #[] 239) := ⟨_, rfl⟩
  have BB := Lib.hid (show Below wr.heap.size wr w2 from by rw [ew2]; exact B1 _ _)
  rw [← ew2]
  clear ew2
  go_loopw [6] (fun ix wr => ix = .int .i64 0 ∧ wr = w2) (fun _ _ => 0)
  case atStart => exact ⟨rfl, rfl⟩
  case round =>
  obtain ⟨rfl, rfl⟩ := hrel
  go_wp2_with fail
  obtain ⟨wr9, rfl⟩ : ∃ u, u = wr := ⟨_, rfl⟩
  go_loopw [9] (fun ix wr => ix = .int .i64 0 ∧ wr = wr9) (fun _ _ => 0)
  case atStart => exact ⟨rfl, rfl⟩
  case round =>
  obtain ⟨rfl, rfl⟩ := hrel
  go_wp2_with fail
  obtain ⟨wr11, rfl⟩ : ∃ u, u = wr := ⟨_, rfl⟩
  go_loopw [11] (fun ix wr => ix = .int .i64 0 ∧ wr = wr11) (fun _ _ => 0)
  case atStart => exact ⟨rfl, rfl⟩
  case round =>
  obtain ⟨rfl, rfl⟩ := hrel
  go_wp2_with fail
  obtain ⟨wr14, rfl⟩ : ∃ u, u = wr := ⟨_, rfl⟩
  go_loopw [14] (fun ix wr => ix = .int .i64 0 ∧ wr = wr14) (fun _ _ => 0)
  case atStart => exact ⟨rfl, rfl⟩
  case round =>
  obtain ⟨rfl, rfl⟩ := hrel
  go_wp2_with fail
  go_ret
  exact ⟨rfl, BB.out⟩
theorem info_Grammars : (Tryz.prog.info? 73).map (fun i => (i.zero, i.size, i.bytes)) = some (some (.slice none 0 0), 1, 24) := by kernel_rfl
set_option maxRecDepth 100000 in
set_option maxHeartbeats 4000000 in
theorem flatGrammars_nil (w : World) : Calls Tryz.prog 171 #[.slice none 0 0] w fun e w' => e = .returned (.bool true) ∧ Below w.heap.size w w' := by
  obtain ⟨i1, ji, jz0, jz1, jz2⟩ := info_parts info_Grammars
  have hmk : ∀ W : World, (Instr.makeSlice 74 (.int .i64 0) (.int .i64 0)).run Tryz.prog W = .ok (.slice (some ⟨W.heap.size, 0, none⟩) 0 0) (W.alloc (.cells #[] 73)) := fun W => by
    have hr := run_make (P := Tryz.prog) W 74 73 i1 (.slice none 0 0) Tryz.underlying74 ji jz0 .i64 .i64 ((0 : Nat) : Int) ((0 : Nat) : Int) (by omega) (by omega) (by rw [jz2]; omega) (by omega)
    have e : madeCells (Value.slice none 0 0).cells (0 * 1) = #[] := by
      apply Array.ext
      · simp [madeCells]
      · intro k h1 h2
        simp at h2
    rw [jz1, Int.toNat_natCast, e] at hr
    exact hr
  go_enter Tryz.func171, Tryz.ntmps171
  go_wp2_with fail
  go_loopw [3] (fun ix wr => ix = .int .i64 0 ∧ wr = w) (fun _ _ => 0)
  case atStart => exact ⟨rfl, rfl⟩
  case round =>
  obtain ⟨rfl, rfl⟩ := hrel
  go_wp2_with fail
  obtain ⟨w2, ew2⟩ : ∃ u, u = wr.alloc (.cells #[] 73) := ⟨_, rfl⟩
  have BB := Lib.hid (show Below wr.heap.size wr w2 from by rw [ew2]; exact B1 _ _)
  rw [← ew2]
  clear ew2
  go_loopw [6] (fun ix wr => ix = .int .i64 0 ∧ wr = w2) (fun _ _ => 0)
  case atStart => exact ⟨rfl, rfl⟩
  case round =>
  obtain ⟨rfl, rfl⟩ := hrel
  go_wp2_with fail
  obtain ⟨wr9, rfl⟩ : ∃ u, u = wr := ⟨_, rfl⟩
  go_loopw [9] (fun ix wr => ix = .int .i64 0 ∧ wr = wr9) (fun _ _ => 0)
  case atStart => exact ⟨rfl, rfl⟩
  case round =>
  obtain ⟨rfl, rfl⟩ := hrel
  go_wp2_with fail
  obtain ⟨wr11, rfl⟩ : ∃ u, u = wr := ⟨_, rfl⟩
  go_loopw [11] (fun ix wr => ix = .int .i64 0 ∧ wr = wr11) (fun _ _ => 0)
  case atStart => exact ⟨rfl, rfl⟩
  case round =>
  obtain ⟨rfl, rfl⟩ := hrel
  go_wp2_with fail
  obtain ⟨wr14, rfl⟩ : ∃ u, u = wr := ⟨_, rfl⟩
  go_loopw [14] (fun ix wr => ix = .int .i64 0 ∧ wr = wr14) (fun _ _ => 0)
  case atStart => exact ⟨rfl, rfl⟩
  case round =>
  obtain ⟨rfl, rfl⟩ := hrel
  go_wp2_with fail
  go_ret
  exact ⟨rfl, BB.out⟩
theorem info_Founds : (Tryz.prog.info? 242).map (fun i => (i.zero, i.size, i.bytes)) = some (some (.slice none 0 0), 1, 24) := by kernel_rfl
set_option maxRecDepth 100000 in
set_option maxHeartbeats 4000000 in
theorem flatFounds_nil (w : World) : Calls Tryz.prog 172 #[.slice none 0 0] w fun e w' => e = .returned (.bool true) ∧ Below w.heap.size w w' := by
  obtain ⟨i1, ji, jz0, jz1, jz2⟩ := info_parts info_Founds
  have hmk : ∀ W : World, (Instr.makeSlice 118 (.int .i64 0) (.int .i64 0)).run Tryz.prog W = .ok (.slice (some ⟨W.heap.size, 0, none⟩) 0 0) (W.alloc (.cells #[] 242)) := fun W => by
    have hr := run_make (P := Tryz.prog) W 118 242 i1 (.slice none 0 0) Tryz.underlying118 ji jz0 .i64 .i64 ((0 : Nat) : Int) ((0 : Nat) : Int) (by omega) (by omega) (by rw [jz2]; omega) (by omega)
    have e : madeCells (Value.slice none 0 0).cells (0 * 1) = #[] := by
      apply Array.ext
      · simp [madeCells]
      · intro k h1 h2
        simp at h2
    rw [jz1, Int.toNat_natCast, e] at hr
    exact hr
  go_enter Tryz.func172, Tryz.ntmps172
  go_wp2_with fail
  go_loopw [3] (fun ix wr => ix = .int .i64 0 ∧ wr = w) (fun _ _ => 0)
  case atStart => exact ⟨rfl, rfl⟩
  case round =>
  obtain ⟨rfl, rfl⟩ := hrel
  go_wp2_with fail
  obtain ⟨w2, ew2⟩ : ∃ u, u = wr.alloc (.cells #[] 242) := ⟨_, rfl⟩
  have BB := Lib.hid (show Below wr.heap.size wr w2 from by rw [ew2]; exact B1 _ _)
  rw [← ew2]
  clear ew2
  go_loopw [6] (fun ix wr => ix = .int .i64 0 ∧ wr = w2) (fun _ _ => 0)
  case atStart => exact ⟨rfl, rfl⟩
  case round =>
  obtain ⟨rfl, rfl⟩ := hrel
  go_wp2_with fail
  obtain ⟨wr9, rfl⟩ : ∃ u, u = wr := ⟨_, rfl⟩
  go_loopw [9] (fun ix wr => ix = .int .i64 0 ∧ wr = wr9) (fun _ _ => 0)
  case atStart => exact ⟨rfl, rfl⟩
  case round =>
  obtain ⟨rfl, rfl⟩ := hrel
  go_wp2_with fail
  obtain ⟨wr11, rfl⟩ : ∃ u, u = wr := ⟨_, rfl⟩
  go_loopw [11] (fun ix wr => ix = .int .i64 0 ∧ wr = wr11) (fun _ _ => 0)
  case atStart => exact ⟨rfl, rfl⟩
  case round =>
  obtain ⟨rfl, rfl⟩ := hrel
  go_wp2_with fail
  obtain ⟨wr14, rfl⟩ : ∃ u, u = wr := ⟨_, rfl⟩
  go_loopw [14] (fun ix wr => ix = .int .i64 0 ∧ wr = wr14) (fun _ _ => 0)
  case atStart => exact ⟨rfl, rfl⟩
  case round =>
  obtain ⟨rfl, rfl⟩ := hrel
  go_wp2_with fail
  go_ret
  exact ⟨rfl, BB.out⟩
theorem info_Events : (Tryz.prog.info? 247).map (fun i => (i.zero, i.size, i.bytes)) = some (some (.slice none 0 0), 1, 24) := by kernel_rfl
set_option maxRecDepth 100000 in
set_option maxHeartbeats 4000000 in
theorem flatEvents_nil (w : World) : Calls Tryz.prog 173 #[.slice none 0 0] w fun e w' => e = .returned (.bool true) ∧ Below w.heap.size w w' := by
  obtain ⟨i1, ji, jz0, jz1, jz2⟩ := info_parts info_Events
  have hmk : ∀ W : World, (Instr.makeSlice 119 (.int .i64 0) (.int .i64 0)).run Tryz.prog W = .ok (.slice (some ⟨W.heap.size, 0, none⟩) 0 0) (W.alloc (.cells #[] 247)) := fun W => by
    have hr := run_make (P := Tryz.prog) W 119 247 i1 (.slice none 0 0) Tryz.underlying119 ji jz0 .i64 .i64 ((0 : Nat) : Int) ((0 : Nat) : Int) (by omega) (by omega) (by rw [jz2]; omega) (by omega)
    have e : madeCells (Value.slice none 0 0).cells (0 * 1) = #[] := by
      apply Array.ext
      · simp [madeCells]
      · intro k h1 h2
        simp at h2
    rw [jz1, Int.toNat_natCast, e] at hr
    exact hr
  go_enter Tryz.func173, Tryz.ntmps173
  go_wp2_with fail
  go_loopw [3] (fun ix wr => ix = .int .i64 0 ∧ wr = w) (fun _ _ => 0)
  case atStart => exact ⟨rfl, rfl⟩
  case round =>
  obtain ⟨rfl, rfl⟩ := hrel
  go_wp2_with fail
  obtain ⟨w2, ew2⟩ : ∃ u, u = wr.alloc (.cells #[] 247) := ⟨_, rfl⟩
  have BB := Lib.hid (show Below wr.heap.size wr w2 from by rw [ew2]; exact B1 _ _)
  rw [← ew2]
  clear ew2
  go_loopw [6] (fun ix wr => ix = .int .i64 0 ∧ wr = w2) (fun _ _ => 0)
  case atStart => exact ⟨rfl, rfl⟩
  case round =>
  obtain ⟨rfl, rfl⟩ := hrel
  go_wp2_with fail
  obtain ⟨wr9, rfl⟩ : ∃ u, u = wr := ⟨_, rfl⟩
  go_loopw [9] (fun ix wr => ix = .int .i64 0 ∧ wr = wr9) (fun _ _ => 0)
  case atStart => exact ⟨rfl, rfl⟩
  case round =>
  obtain ⟨rfl, rfl⟩ := hrel
  go_wp2_with fail
  obtain ⟨wr11, rfl⟩ : ∃ u, u = wr := ⟨_, rfl⟩
  go_loopw [11] (fun ix wr => ix = .int .i64 0 ∧ wr = wr11) (fun _ _ => 0)
  case atStart => exact ⟨rfl, rfl⟩
  case round =>
  obtain ⟨rfl, rfl⟩ := hrel
  go_wp2_with fail
  obtain ⟨wr14, rfl⟩ : ∃ u, u = wr := ⟨_, rfl⟩
  go_loopw [14] (fun ix wr => ix = .int .i64 0 ∧ wr = wr14) (fun _ _ => 0)
  case atStart => exact ⟨rfl, rfl⟩
  case round =>
  obtain ⟨rfl, rfl⟩ := hrel
  go_wp2_with fail
  go_ret
  exact ⟨rfl, BB.out⟩
end Go.Proofs.YtlbjmkljmhfjdaaGreat

/- What is lent: a copy with marks behind. (Great seat.) -/
import Derived.Test.YtlbjmkljmhfjdaaGreatC9
import Derived.Test.YtlbjmkljmhfjdaaGreatA3
import Derived.Test.YtlbjmkljmhfjdaaGreatC7
import Derived.Test.YtlbjmkljmhfjdaaGreatB6
import Derived.Test.YtlbjmkljmhfjdaaGreatC2
set_option linter.unusedSimpArgs false
set_option linter.unusedVariables false
namespace Go.Proofs.YtlbjmkljmhfjdaaGreat
open Go Go.Proofs Go.RowKit Go.Lib Go.Maps
/-- A mark. -/
def mrk (k i : Nat) : Int := 1000003 * ((k : Int) + 7) + i
def marks (j : Nat) : List Value := (List.range j).map fun i => .int .i64 (mrk 1 i)
theorem marks_next (j : Nat) : marks (j + 1) = marks j ++ [.int .i64 (mrk 1 j)] := by simp [marks, List.range_succ]
theorem marks_len (j : Nat) : (marks j).length = j := by simp [marks]
theorem xmark_any (k i : Nat) (hk : k ≤ 100000) (hi : i ≤ 100000) (w : World) : Calls Tryz.prog 184 #[.int .i64 k, .int .i64 i] w fun e w' => e = .returned (.int .i64 (mrk k i)) ∧ w' = w := by
  have h1 : IntKind.i64.wrap ((k : Int) + 7) = (k : Int) + 7 := IntWalk.i64_in _ (by omega)
  have h2 : IntKind.i64.wrap (1000003 * ((k : Int) + 7)) = 1000003 * ((k : Int) + 7) := IntWalk.i64_in _ (by omega)
  have h3 : IntKind.i64.wrap (1000003 * ((k : Int) + 7) + i) = mrk k i := by rw [IntWalk.i64_in _ (by omega)]; rfl
  go_enter Tryz.func184, Tryz.ntmps184
  go_wp2_with fail
  go_ret
  exact ⟨rfl, rfl⟩
theorem own_room (w : World) (cap : Nat) (cs : Array Value) (hc : cs.size = cap) (hn : cap ≤ maxLen) : (w.alloc (.cells cs 3)).ownsRow w.heap.size 3 1 (.slice (some ⟨w.heap.size, 0, none⟩) 0 cap) 0 [] :=
  ⟨rfl, .inr ⟨w.heap.size, cap, cs, rfl, Nat.le_refl _, Blk.new _ _ _, by omega, hn, by omega, by simp⟩⟩
set_option maxRecDepth 100000 in
set_option maxHeartbeats 2000000 in
theorem lentints_any (A : Option Addr) (c m : Nat) (l : List Int) (em : m = l.length) (hl : m ≤ 100000) (hc : A = none → m = 0 ∧ c = 0) (w : World) (hA : Lies w A (ints l)) :
    Calls Tryz.prog 121 #[.slice A m c] w fun e w' => ∃ A' c', e = .returned (.slice A' m c') ∧ w'.ownsRow w.heap.size 3 1 (.slice A' (m + 12) c') (m + 12) (ints l ++ marks 12) ∧ Below w.heap.size w w' := by
  obtain ⟨i0, hi, hz0, hz1, hz2⟩ := info_parts Tryz.info3
  have NW := Lib.hid (show ∀ w', Below w.heap.size w w' → ∀ a, A = some a → ∀ j u, (ints l)[j]? = some u → w'.cell? (a.add j) = some u from fun w' hb a ea j u hu => by
    have hj : j < (ints l).length := (List.getElem?_eq_some_iff.1 hu).1
    obtain ⟨b, o, e, _, hcell⟩ := (hA.below hb) (by omega)
    rw [e] at ea; cases ea
    rw [Addr.add_lit, hcell j hj]
    exact hu)
  have HC := Lib.hid hc
  have HL := Lib.hid (show (ints l).length = m * 1 by rw [ints_length]; omega)
  have H1 := Lib.hid (show ∀ u ∈ ints l, u.oneCell' = true from fun u hu => by
    unfold ints at hu
    obtain ⟨x, _, rfl⟩ := List.mem_map.1 hu
    rfl)
  have MK := Lib.hid (fun i (hi : i < 12) w' => show Calls Tryz.prog 184 #[.int .i64 1, .int .i64 (i : Nat)] w' fun e w'' => e = .returned (.int .i64 (mrk 1 i)) ∧ w'' = w' from xmark_any 1 i (by omega) (by omega) w')
  have hw12 : IntKind.i64.wrap ((m : Int) + 12) = (m : Int) + 12 := IntWalk.i64_in _ (by omega)
  have hmk : ∀ W : World, (Instr.makeSlice 38 (.int .i64 0) (.int .i64 ((m : Int) + 12))).run Tryz.prog W = .ok (.slice (some ⟨W.heap.size, 0, none⟩) 0 (m + 12)) (W.alloc (.cells (madeCells (Value.int .i64 0).cells ((m + 12) * 1)) 3)) := fun W => by
    have hr := run_make (P := Tryz.prog) W 38 3 i0 (.int .i64 0) Tryz.underlying38 hi hz0 .i64 .i64 ((0 : Nat) : Int) ((m + 12 : Nat) : Int) (by omega) (by omega) (by rw [hz2]; omega) (by omega)
    rw [hz1, Int.toNat_natCast, Int.toNat_natCast, Int.natCast_add] at hr
    exact hr
  clear hA hc em
  go_enter Tryz.func121, Tryz.ntmps121
  obtain ⟨ca, eca⟩ : ∃ ca, ca = madeCells (Value.int .i64 0).cells ((m + 12) * 1) := ⟨_, rfl⟩
  have hcs : ca.size = m + 12 := by rw [eca]; simp [madeCells]
  rw [← eca] at hmk
  have OR := Lib.hid (own_room w (m + 12) ca hcs (by unfold maxLen; omega))
  clear eca hcs
  go_wp2_with (at_builtin; refine wpList_append_onto _ rfl _ _ 38 rfl w.heap.size 3 i0 (.int .i64 0) 1 8 Tryz.underlying38 hi hz0 hz1 hz2 rfl (by decide) _ _ _ rfl OR.out A m c (ints l) rfl HL.out (NW.out _ (B1 w _)) HC.out H1.out (by unfold maxLen; omega) (by omega) (by simp) ?_; intro v9 w9 hown9 hgrow9 hfr9; have O9 := Lib.hid hown9; have G9 := Lib.hid hgrow9; clear hown9 hgrow9 hfr9)
  have HB9 := Lib.hid (grown_below (B1 w (.cells ca 3)) (by simp) G9.out (fun q hq => (OR.out.lt q hq).1))
  have O9' := O9.out
  rw [Nat.zero_add, List.nil_append] at O9'
  have O0 := Lib.hid O9'
  clear O9' hmk O9 G9 OR
  go_loopw [3, 4] (fun ov iv wr => ∃ (k : Nat) (v : Value), k ≤ 12 ∧ iv = .int .i64 k ∧ ov = v ∧ wr.ownsRow w.heap.size 3 1 v (m + k) (ints l ++ marks k) ∧ Below w.heap.size w wr) (fun _ iv _ => 12 - (RowKit.intOf iv).toNat)
  case atStart => exact ⟨0, _, by omega, rfl, rfl, by simpa [marks] using O0.out, HB9.out⟩
  case round =>
    clear O0 HB9
    obtain ⟨k, v, hk, rfl, rfl, ho, hb⟩ := hrel
    have OW := Lib.hid ho
    have HB := Lib.hid hb
    obtain ⟨Av, cv, rfl, _, _⟩ := own_slice ho
    by_cases hlt : k < 12
    · have hlt2 : (k : Int) < 12 := by omega
      have M1 := Lib.hid (MK.out k hlt wr)
      clear ho hb
      go_wp2_with (first | (go_at_call 184; (with_reducible refine M1.out.mono ?_); rintro e w3 ⟨rfl, rfl⟩) | (at_builtin; refine wpList_append_onto _ rfl _ _ 38 rfl w.heap.size 3 i0 (.int .i64 0) 1 8 Tryz.underlying38 hi hz0 hz1 hz2 rfl (by decide) _ _ _ rfl (own_below OW.out (B1 _ _)) (some ⟨w3.heap.size, 0, none⟩) 1 1 [.int .i64 (mrk 1 k)] rfl rfl (fun ad had => by cases had; exact cell_one_new _ _ _) (fun h => by cases h) (by simp [Value.oneCell']) (by unfold maxLen; omega) (by omega) (by have h1 := HB.out.size; simp; omega) ?_; intro v9 w9 hown9 hgrow9 hfr9; have O9 := Lib.hid hown9; have G9 := Lib.hid hgrow9; clear hown9 hgrow9 hfr9))
      go_roundw
      case rel => exact ⟨k + 1, v9, by omega, by go_num, rfl, by rw [marks_next, ← List.append_assoc]; exact O9.out, grown_below (HB.out.trans ((B1 _ _).mono HB.out.size)) (by have := HB.out.size; simp; omega) G9.out (fun q hq => (OW.out.lt q hq).1)⟩
      case measure => simp [RowKit.intOf]; omega
    · obtain rfl : k = 12 := by omega
      have hlt2 : ¬ ((12 : Nat) : Int) < 12 := by omega
      have hcv : m ≤ cv := by
        obtain ⟨A', c', e', _, h'⟩ := own_slice ho
        cases e'; omega
      have hcv2 : (m : Int) ≤ cv := by omega
      clear ho hb
      go_wp2_with fail
      go_ret
      exact ⟨_, _, rfl, OW.out, HB.out⟩
end Go.Proofs.YtlbjmkljmhfjdaaGreat
namespace Go.Proofs.YtlbjmkljmhfjdaaGreat
open Go Go.Proofs Go.RowKit Go.Lib Go.Maps
theorem marks_at {i : Nat} (h : i < 12) : (marks 12)[i]? = some (.int .i64 (mrk 1 i)) := by simp [marks, h]
set_option maxRecDepth 100000 in
set_option maxHeartbeats 4000000 in
theorem keptints_any (A' A : Option Addr) (c' c m : Nat) (l : List Int) (em : m = l.length) (hl : m ≤ 100000) (hc : m + 12 ≤ c') (w : World) (hA' : Lies w A' (ints l ++ marks 12)) (hA : Lies w A (ints l)) :
    Calls Tryz.prog 126 #[.slice A' m c', .slice A m c] w fun e w' => e = .returned (.bool true) ∧ Below w.heap.size w w' := by
  obtain ⟨b, o, rfl, hb, hcell⟩ := hA' (by rw [List.length_append, marks_len]; omega)
  have C1 := Lib.hid (fun W (eg : Below w.heap.size w W) k (hk : k < m) => show W.cell? ⟨b, o + k, none⟩ = some (.int .i64 (l.getD k 0)) ∧ ∃ b2 o2, A = some ⟨b2, o2, none⟩ ∧ W.cell? ⟨b2, o2 + k, none⟩ = some (.int .i64 (l.getD k 0)) from by
    have h1 := hcell k (by rw [List.length_append, ints_length]; omega)
    rw [List.getElem?_append_left (by rw [ints_length]; omega), ints_at (by omega)] at h1
    obtain ⟨b2, o2, e, _, h2⟩ := lies_cell (hA.below eg) (k := k) (by omega)
    exact ⟨(eg.cell (p := ⟨b, o + k, none⟩) (World.block_lt_of_cell? _ _ h1)).trans h1, b2, o2, e, h2⟩)
  have C2 := Lib.hid (fun W (eg : Below w.heap.size w W) k (hk : m ≤ k) (hk2 : k < m + 12) => show W.cell? ⟨b, o + k, none⟩ = some (.int .i64 (mrk 1 (k - m))) from by
    have h1 := hcell k (by rw [List.length_append, ints_length, marks_len]; omega)
    rw [List.getElem?_append_right (by rw [ints_length]; omega), ints_length, ← em, marks_at (by omega)] at h1
    exact (eg.cell (p := ⟨b, o + k, none⟩) (World.block_lt_of_cell? _ _ h1)).trans h1)
  have MK := Lib.hid (fun i (hi : i < 12) w' => show Calls Tryz.prog 184 #[.int .i64 1, .int .i64 (i : Nat)] w' fun e w'' => e = .returned (.int .i64 (mrk 1 i)) ∧ Below w'.heap.size w' w'' from (xmark_any 1 i (by omega) (by omega) w').mono fun _ _ ⟨h1, h2⟩ => ⟨h1, h2 ▸ Below.refl _ _⟩)
  have hw12 : IntKind.i64.wrap ((m : Int) + 12) = (m : Int) + 12 := IntWalk.i64_in _ (by omega)
  have hci : (m : Int) + 12 ≤ c' := by omega
  have h012 : (0 : Int) ≤ (m : Int) + 12 := by omega
  have htn : ((m : Int) + 12).toNat = m + 12 := by omega
  clear hcell hA em
  go_enter Tryz.func126, Tryz.ntmps126
  go_wp2_with fail
  go_loopw [6] (fun iv wr => ∃ k : Nat, k ≤ m + 12 ∧ iv = .int .i64 k ∧ Below w.heap.size w wr) (fun iv _ => m + 12 - (RowKit.intOf iv).toNat)
  case atStart => exact ⟨0, by omega, rfl, Below.refl _ _⟩
  case round =>
    obtain ⟨k, hk, rfl, hb⟩ := hrel
    have HB := Lib.hid hb
    by_cases hlt : k < m + 12
    · have hlt2 : (k : Int) < (m : Int) + 12 := by omega
      have hlt3 : (k : Int) < ((m + 12 : Nat) : Int) := by omega
      by_cases hkm : k < m
      · have hkm2 : (k : Int) < m := by omega
        have hkm3 : (m ≤ k) = False := by simp; omega
        obtain ⟨h1, b2, o2, rfl, h2⟩ := C1.out wr hb k hkm
        generalize l.getD k 0 = x at *
        have hxx : (x == x) = true := by simp
        have f1 := fun (e : Ext wr) => Ext.cell h1 e
        have f2 := fun (e : Ext wr) => Ext.cell h2 e
        clear hb h1 h2
        go_wp2_with fail
        refine wp_region_ext (by kernel_rfl) (by kernel_rfl) ?_
        repeat (first | go_big_quiet_step (fail) | quiet_step (fail))
        refine wpQuiet_nil ?_
        intro w13 hw'
        obtain ⟨⟨_, hb13⟩, rfl⟩ := hw'
        have HB1 := Lib.hid (HB.out.trans (hb13.mono HB.out.size))
        clear hb13 f1 f2
        go_wp2_with fail
        go_roundw
        case rel => exact ⟨k + 1, by omega, by go_num, HB1.out⟩
        case measure => simp [RowKit.intOf]; omega
      · have hkm2 : ¬ (k : Int) < m := by omega
        have hkm3 : (m ≤ k) = True := by simp; omega
        have hkm4 : (k < m) = False := by simp; omega
        obtain ⟨i, ei⟩ : ∃ i, i = k - m := ⟨_, rfl⟩
        have h1 := C2.out wr hb k (by omega) hlt
        rw [← ei] at h1
        have hsub : IntKind.i64.wrap ((k : Int) - m) = (i : Int) := by rw [IntWalk.i64_in _ (by omega)]; omega
        have M1 := Lib.hid (fun W => MK.out i (by omega) W)
        generalize mrk 1 i = x at *
        have hxx : (x == x) = true := by simp
        have f1 := fun (e : Ext wr) => Ext.cell h1 e
        clear hb h1 ei
        go_wp2_with fail
        refine wp_region_ext (by kernel_rfl) (by kernel_rfl) ?_
        repeat (first | go_big_quiet_step (first | (go_at_call 184; with_reducible exact Calls.ext_of (M1.out _))) | quiet_step (first | (go_at_call 184; with_reducible exact Calls.ext_of (M1.out _))))
        refine wpQuiet_nil ?_
        intro w13 hw'
        obtain ⟨⟨_, hb13⟩, rfl⟩ := hw'
        have HB1 := Lib.hid (HB.out.trans (hb13.mono HB.out.size))
        clear hb13 f1
        go_wp2_with fail
        go_roundw
        case rel => exact ⟨k + 1, by omega, by go_num, HB1.out⟩
        case measure => simp [RowKit.intOf]; omega
    · obtain rfl : k = m + 12 := by omega
      have hlt2 : ¬ ((m + 12 : Nat) : Int) < (m : Int) + 12 := by omega
      clear hb
      go_wp2_with fail
      go_ret
      exact ⟨rfl, HB.out⟩
end Go.Proofs.YtlbjmkljmhfjdaaGreat
namespace Go.Proofs.YtlbjmkljmhfjdaaGreat
open Go Go.RowKit
end Go.Proofs.YtlbjmkljmhfjdaaGreat
namespace Go.Proofs.YtlbjmkljmhfjdaaGreat
open Go Go.RowKit
end Go.Proofs.YtlbjmkljmhfjdaaGreat

/- The rules of which something holds, rising: the program's answers. -/
import Derived.Test.YtfghfnpiaccfaaaGreatDoorD1
import Derived.Test.YtfghfnpiaccfaaaGreatDoorU1
set_option linter.unusedSimpArgs false
set_option linter.unusedVariables false
namespace Go.Proofs.YtfghfnpiaccfaaaGreatDoor.J
open Go Go.RowKit Go.Shelf
attribute [local go_sem] Oper.semAt_some
theorem one_caller (g : Gr) (x r : Nat) (w : World) (hg : Gr.At w g) (hl : Lain g) (hcap : g.nodes.length ≤ g.nc) (hr : r < g.rules.length) :
    Calls Tryz.prog 77 #[askV g x, .int .i64 r] w fun e w' => e = .returned (.bool (doesB g r x)) ∧ Below w.heap.size w w' := by
  have D := Lib.hid (fun W (b : Below w.heap.size w W) => does_any g x r x W (hg.below b) hl hcap hr)
  clear hg hl hcap hr
  show Calls Tryz.prog 77 #[.agg #[.slice g.RA g.rules.length g.rc, .slice g.NA g.nodes.length g.nc, .int .i64 x], .int .i64 r] w _
  go_enter Tryz.func77, Tryz.ntmps77
  go_wp2_with (go_at_call 126; (with_reducible refine (D.out _ (B1 _ _)).mono ?_); rintro e w1 ⟨rfl, hb⟩; have HB := Lib.hid (bb (B1 w _) hb); clear hb)
  go_ret
  exact ⟨rfl, HB.out⟩
theorem one_called (g : Gr) (x r : Nat) (w : World) (hg : Gr.At w g) (hl : Lain g) (hcap : g.nodes.length ≤ g.nc) (hx : x < g.rules.length) :
    Calls Tryz.prog 78 #[askV g x, .int .i64 r] w fun e w' => e = .returned (.bool (doesB g x r)) ∧ Below w.heap.size w w' := by
  have D := Lib.hid (fun W (b : Below w.heap.size w W) => does_any g x x r W (hg.below b) hl hcap hx)
  clear hg hl hcap hx
  show Calls Tryz.prog 78 #[.agg #[.slice g.RA g.rules.length g.rc, .slice g.NA g.nodes.length g.nc, .int .i64 x], .int .i64 r] w _
  go_enter Tryz.func78, Tryz.ntmps78
  go_wp2_with (go_at_call 126; (with_reducible refine (D.out _ (B1 _ _)).mono ?_); rintro e w1 ⟨rfl, hb⟩; have HB := Lib.hid (bb (B1 w _) hb); clear hb)
  go_ret
  exact ⟨rfl, HB.out⟩
/-- Marks in memory. -/
def MetAt (w : World) (b : Nat) (m : List Bool) : Prop := Blk w b (m.map Value.bool).toArray 4
theorem MetAt.cell {w : World} {b : Nat} {m : List Bool} (h : MetAt w b m) {i : Nat} (hi : i < m.length) : w.cell? ⟨b, i, none⟩ = some (.bool (m.getD i false)) := by
  have := Blk.cell h i
  rw [this]
  simp [List.getD, hi]
theorem MetAt.below {w w' : World} {b : Nat} {m : List Bool} (h : MetAt w b m) (hb : Below w.heap.size w w') : MetAt w' b m := Blk.below' h hb
theorem one_has (b : Nat) (m : List Bool) (n c r : Nat) (hn : n = m.length) (hm : n ≤ 32) (w : World) (h : MetAt w b m) (hr : r < n) :
    Calls Tryz.prog 80 #[.slice (some ⟨b, 0, none⟩) n c, .int .i64 r] w fun e w' => e = .returned (.bool (m.getD r false)) ∧ Below w.heap.size w w' := by
  have c0 := h.cell (show r < m.length by omega)
  have hr2 : (r : Int) < n := by omega
  generalize m.getD r false = z at c0 ⊢
  clear h hn
  go_enter Tryz.func80, Tryz.ntmps80
  go_wp2_with fail
  go_ret
  exact ⟨rfl, Below.refl _ _⟩
set_option maxRecDepth 100000 in
set_option maxHeartbeats 2000000 in
theorem all_caller (g : Gr) (x : Nat) (rv : Value) (p : Nat → Bool) (w : World) (h32 : g.rules.length ≤ 32)
    (hP : ∀ W, Below w.heap.size w W → ∀ r, r < g.rules.length → Calls Tryz.prog 77 #[rv, .int .i64 r] W fun e w' => e = .returned (.bool (p r)) ∧ Below W.heap.size W w') :
    Calls Tryz.prog 76 #[askV g x, .func (.func 77) #[rv] #[]] w fun e w' => (∃ v, e = .returned v ∧ w'.ownsRow w.heap.size 3 1 v (rowOf g.rules.length p).length (ints (nums (rowOf g.rules.length p))) ∧ (v = .slice none 0 0 ↔ rowOf g.rules.length p = [])) ∧ Below w.heap.size w w' := by
  obtain ⟨i0, hi, hz0, hz1, hz2⟩ := info_parts Tryz.info3
  have HP := Lib.hid hP
  clear hP
  show Calls Tryz.prog 76 #[.agg #[.slice g.RA g.rules.length g.rc, .slice g.NA g.nodes.length g.nc, .int .i64 x], .func (.func 77) #[rv] #[]] w _
  obtain ⟨m, em⟩ : ∃ m, m = g.rules.length := ⟨_, rfl⟩
  rw [← em] at h32 HP ⊢
  clear em
  go_enter Tryz.func76, Tryz.ntmps76
  go_wp2_with fail
  go_loopw [5, 11] (fun l i wr => ∃ k : Nat, k ≤ m ∧ i = .int .i64 k ∧ wr.ownsRow w.heap.size 3 1 l (rowOf k p).length (ints (nums (rowOf k p))) ∧ (l = .slice none 0 0 ↔ rowOf k p = []) ∧ Below w.heap.size w wr) (fun _ i _ => m - (intOf i).toNat)
  case atStart => exact ⟨0, by omega, by go_num, World.ownsRow_nil _ _ _ _, by simp [rowOf], B1 _ _⟩
  case round =>
    obtain ⟨k, hk, rfl, hown, hnil, hb⟩ := hrel
    by_cases hlt : k < m
    · have hlt2 : (k : Int) < m := by omega
      have C := Lib.hid (HP.out wr hb k hlt)
      have RS := Lib.hid (rowOf_succ k p)
      have RL := Lib.hid (rowOf_len p k)
      have HO := Lib.hid hown
      have HN := Lib.hid hnil
      have HB := Lib.hid hb
      clear hown hnil hb
      cases hp : p k with
      | false =>
        rw [hp] at C RS
        clear hp
        go_wp2_with (go_at_call 77; (with_reducible refine C.out.mono ?_); rintro e w1 ⟨rfl, hb1⟩; have B1' := Lib.hid hb1; clear hb1)
        go_roundw
        case rel => exact ⟨k + 1, by omega, by go_num, by rw [RS.out]; exact own_below HO.out B1'.out, by rw [RS.out]; exact HN.out, HB.out.trans (B1'.out.mono HB.out.size)⟩
        case measure => simp [intOf]; omega
      | true =>
        rw [hp] at C RS
        clear hp
        go_wp2_with (first | (go_at_call 77; (with_reducible refine C.out.mono ?_); rintro e w1 ⟨rfl, hb1⟩; have B1' := Lib.hid hb1; have O1 := Lib.hid (own_below HO.out hb1); clear hb1) | (at_builtin; refine wpList_append_own _ rfl _ _ 33 rfl w.heap.size 3 i0 (.int .i64 0) 1 8 Tryz.underlying33 hi hz0 hz1 hz2 rfl (by decide) _ _ _ rfl (O1.out.alloc _) ⟨w1.heap.size, 0, none⟩ 1 1 [.int .i64 k] rfl rfl (cell_one_new _ _ _) (by simp [Value.oneCell']) (by unfold maxLen; have := RL.out; omega) (by have := RL.out; omega) (by have := HB.out.size; have := B1'.out.size; simp; omega) ?_; intro v' w2 hown' hgrow hnil'; have O2 := Lib.hid hown'; have G2 := Lib.hid hgrow; have N2 := Lib.hid hnil'; clear hown' hgrow hnil'))
        go_roundw
        case rel =>
          refine ⟨k + 1, by omega, by go_num, ?_, ?_, ?_⟩
          · rw [RS.out, if_pos trivial, List.length_append, nums_app]
            have := O2.out
            simpa [ints] using this
          · rw [RS.out, if_pos trivial, N2.out]
            simp
          · refine grown_below (w := w1.alloc _) ((HB.out.trans (B1'.out.mono HB.out.size)).trans ((B1 w1 _).mono (Nat.le_trans HB.out.size B1'.out.size))) (by have := HB.out.size; have := B1'.out.size; simp; omega) G2.out (fun j e => (O1.out.lt j e).1)
        case measure => simp [intOf]; omega
    · obtain rfl : k = m := by omega
      have HO := Lib.hid hown
      have HN := Lib.hid hnil
      have HB := Lib.hid hb
      have hneg : ¬ (k : Int) < k := by omega
      clear hown hnil hb
      go_wp2_with fail
      go_ret
      exact ⟨⟨_, rfl, HO.out, HN.out⟩, HB.out⟩
set_option maxRecDepth 100000 in
set_option maxHeartbeats 2000000 in
theorem all_called (g : Gr) (x : Nat) (rv : Value) (p : Nat → Bool) (w : World) (h32 : g.rules.length ≤ 32)
    (hP : ∀ W, Below w.heap.size w W → ∀ r, r < g.rules.length → Calls Tryz.prog 78 #[rv, .int .i64 r] W fun e w' => e = .returned (.bool (p r)) ∧ Below W.heap.size W w') :
    Calls Tryz.prog 76 #[askV g x, .func (.func 78) #[rv] #[]] w fun e w' => (∃ v, e = .returned v ∧ w'.ownsRow w.heap.size 3 1 v (rowOf g.rules.length p).length (ints (nums (rowOf g.rules.length p))) ∧ (v = .slice none 0 0 ↔ rowOf g.rules.length p = [])) ∧ Below w.heap.size w w' := by
  obtain ⟨i0, hi, hz0, hz1, hz2⟩ := info_parts Tryz.info3
  have HP := Lib.hid hP
  clear hP
  show Calls Tryz.prog 76 #[.agg #[.slice g.RA g.rules.length g.rc, .slice g.NA g.nodes.length g.nc, .int .i64 x], .func (.func 78) #[rv] #[]] w _
  obtain ⟨m, em⟩ : ∃ m, m = g.rules.length := ⟨_, rfl⟩
  rw [← em] at h32 HP ⊢
  clear em
  go_enter Tryz.func76, Tryz.ntmps76
  go_wp2_with fail
  go_loopw [5, 11] (fun l i wr => ∃ k : Nat, k ≤ m ∧ i = .int .i64 k ∧ wr.ownsRow w.heap.size 3 1 l (rowOf k p).length (ints (nums (rowOf k p))) ∧ (l = .slice none 0 0 ↔ rowOf k p = []) ∧ Below w.heap.size w wr) (fun _ i _ => m - (intOf i).toNat)
  case atStart => exact ⟨0, by omega, by go_num, World.ownsRow_nil _ _ _ _, by simp [rowOf], B1 _ _⟩
  case round =>
    obtain ⟨k, hk, rfl, hown, hnil, hb⟩ := hrel
    by_cases hlt : k < m
    · have hlt2 : (k : Int) < m := by omega
      have C := Lib.hid (HP.out wr hb k hlt)
      have RS := Lib.hid (rowOf_succ k p)
      have RL := Lib.hid (rowOf_len p k)
      have HO := Lib.hid hown
      have HN := Lib.hid hnil
      have HB := Lib.hid hb
      clear hown hnil hb
      cases hp : p k with
      | false =>
        rw [hp] at C RS
        clear hp
        go_wp2_with (go_at_call 78; (with_reducible refine C.out.mono ?_); rintro e w1 ⟨rfl, hb1⟩; have B1' := Lib.hid hb1; clear hb1)
        go_roundw
        case rel => exact ⟨k + 1, by omega, by go_num, by rw [RS.out]; exact own_below HO.out B1'.out, by rw [RS.out]; exact HN.out, HB.out.trans (B1'.out.mono HB.out.size)⟩
        case measure => simp [intOf]; omega
      | true =>
        rw [hp] at C RS
        clear hp
        go_wp2_with (first | (go_at_call 78; (with_reducible refine C.out.mono ?_); rintro e w1 ⟨rfl, hb1⟩; have B1' := Lib.hid hb1; have O1 := Lib.hid (own_below HO.out hb1); clear hb1) | (at_builtin; refine wpList_append_own _ rfl _ _ 33 rfl w.heap.size 3 i0 (.int .i64 0) 1 8 Tryz.underlying33 hi hz0 hz1 hz2 rfl (by decide) _ _ _ rfl (O1.out.alloc _) ⟨w1.heap.size, 0, none⟩ 1 1 [.int .i64 k] rfl rfl (cell_one_new _ _ _) (by simp [Value.oneCell']) (by unfold maxLen; have := RL.out; omega) (by have := RL.out; omega) (by have := HB.out.size; have := B1'.out.size; simp; omega) ?_; intro v' w2 hown' hgrow hnil'; have O2 := Lib.hid hown'; have G2 := Lib.hid hgrow; have N2 := Lib.hid hnil'; clear hown' hgrow hnil'))
        go_roundw
        case rel =>
          refine ⟨k + 1, by omega, by go_num, ?_, ?_, ?_⟩
          · rw [RS.out, if_pos trivial, List.length_append, nums_app]
            have := O2.out
            simpa [ints] using this
          · rw [RS.out, if_pos trivial, N2.out]
            simp
          · refine grown_below (w := w1.alloc _) ((HB.out.trans (B1'.out.mono HB.out.size)).trans ((B1 w1 _).mono (Nat.le_trans HB.out.size B1'.out.size))) (by have := HB.out.size; have := B1'.out.size; simp; omega) G2.out (fun j e => (O1.out.lt j e).1)
        case measure => simp [intOf]; omega
    · obtain rfl : k = m := by omega
      have HO := Lib.hid hown
      have HN := Lib.hid hnil
      have HB := Lib.hid hb
      have hneg : ¬ (k : Int) < k := by omega
      clear hown hnil hb
      go_wp2_with fail
      go_ret
      exact ⟨⟨_, rfl, HO.out, HN.out⟩, HB.out⟩
set_option maxRecDepth 100000 in
set_option maxHeartbeats 2000000 in
theorem all_has (g : Gr) (x : Nat) (rv : Value) (p : Nat → Bool) (w : World) (h32 : g.rules.length ≤ 32)
    (hP : ∀ W, Below w.heap.size w W → ∀ r, r < g.rules.length → Calls Tryz.prog 80 #[rv, .int .i64 r] W fun e w' => e = .returned (.bool (p r)) ∧ Below W.heap.size W w') :
    Calls Tryz.prog 76 #[askV g x, .func (.func 80) #[rv] #[]] w fun e w' => (∃ v, e = .returned v ∧ w'.ownsRow w.heap.size 3 1 v (rowOf g.rules.length p).length (ints (nums (rowOf g.rules.length p))) ∧ (v = .slice none 0 0 ↔ rowOf g.rules.length p = [])) ∧ Below w.heap.size w w' := by
  obtain ⟨i0, hi, hz0, hz1, hz2⟩ := info_parts Tryz.info3
  have HP := Lib.hid hP
  clear hP
  show Calls Tryz.prog 76 #[.agg #[.slice g.RA g.rules.length g.rc, .slice g.NA g.nodes.length g.nc, .int .i64 x], .func (.func 80) #[rv] #[]] w _
  obtain ⟨m, em⟩ : ∃ m, m = g.rules.length := ⟨_, rfl⟩
  rw [← em] at h32 HP ⊢
  clear em
  go_enter Tryz.func76, Tryz.ntmps76
  go_wp2_with fail
  go_loopw [5, 11] (fun l i wr => ∃ k : Nat, k ≤ m ∧ i = .int .i64 k ∧ wr.ownsRow w.heap.size 3 1 l (rowOf k p).length (ints (nums (rowOf k p))) ∧ (l = .slice none 0 0 ↔ rowOf k p = []) ∧ Below w.heap.size w wr) (fun _ i _ => m - (intOf i).toNat)
  case atStart => exact ⟨0, by omega, by go_num, World.ownsRow_nil _ _ _ _, by simp [rowOf], B1 _ _⟩
  case round =>
    obtain ⟨k, hk, rfl, hown, hnil, hb⟩ := hrel
    by_cases hlt : k < m
    · have hlt2 : (k : Int) < m := by omega
      have C := Lib.hid (HP.out wr hb k hlt)
      have RS := Lib.hid (rowOf_succ k p)
      have RL := Lib.hid (rowOf_len p k)
      have HO := Lib.hid hown
      have HN := Lib.hid hnil
      have HB := Lib.hid hb
      clear hown hnil hb
      cases hp : p k with
      | false =>
        rw [hp] at C RS
        clear hp
        go_wp2_with (go_at_call 80; (with_reducible refine C.out.mono ?_); rintro e w1 ⟨rfl, hb1⟩; have B1' := Lib.hid hb1; clear hb1)
        go_roundw
        case rel => exact ⟨k + 1, by omega, by go_num, by rw [RS.out]; exact own_below HO.out B1'.out, by rw [RS.out]; exact HN.out, HB.out.trans (B1'.out.mono HB.out.size)⟩
        case measure => simp [intOf]; omega
      | true =>
        rw [hp] at C RS
        clear hp
        go_wp2_with (first | (go_at_call 80; (with_reducible refine C.out.mono ?_); rintro e w1 ⟨rfl, hb1⟩; have B1' := Lib.hid hb1; have O1 := Lib.hid (own_below HO.out hb1); clear hb1) | (at_builtin; refine wpList_append_own _ rfl _ _ 33 rfl w.heap.size 3 i0 (.int .i64 0) 1 8 Tryz.underlying33 hi hz0 hz1 hz2 rfl (by decide) _ _ _ rfl (O1.out.alloc _) ⟨w1.heap.size, 0, none⟩ 1 1 [.int .i64 k] rfl rfl (cell_one_new _ _ _) (by simp [Value.oneCell']) (by unfold maxLen; have := RL.out; omega) (by have := RL.out; omega) (by have := HB.out.size; have := B1'.out.size; simp; omega) ?_; intro v' w2 hown' hgrow hnil'; have O2 := Lib.hid hown'; have G2 := Lib.hid hgrow; have N2 := Lib.hid hnil'; clear hown' hgrow hnil'))
        go_roundw
        case rel =>
          refine ⟨k + 1, by omega, by go_num, ?_, ?_, ?_⟩
          · rw [RS.out, if_pos trivial, List.length_append, nums_app]
            have := O2.out
            simpa [ints] using this
          · rw [RS.out, if_pos trivial, N2.out]
            simp
          · refine grown_below (w := w1.alloc _) ((HB.out.trans (B1'.out.mono HB.out.size)).trans ((B1 w1 _).mono (Nat.le_trans HB.out.size B1'.out.size))) (by have := HB.out.size; have := B1'.out.size; simp; omega) G2.out (fun j e => (O1.out.lt j e).1)
        case measure => simp [intOf]; omega
    · obtain rfl : k = m := by omega
      have HO := Lib.hid hown
      have HN := Lib.hid hnil
      have HB := Lib.hid hb
      have hneg : ¬ (k : Int) < k := by omega
      clear hown hnil hb
      go_wp2_with fail
      go_ret
      exact ⟨⟨_, rfl, HO.out, HN.out⟩, HB.out⟩
end Go.Proofs.YtfghfnpiaccfaaaGreatDoor.J

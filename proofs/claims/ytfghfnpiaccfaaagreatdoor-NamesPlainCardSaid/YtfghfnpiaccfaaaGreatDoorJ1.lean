/- The letters, digits; within. -/
import Derived.Test.YtfghfnpiaccfaaaGreatDoorH0
import Derived.Maps.OwnSet
set_option linter.unusedSimpArgs false
set_option linter.unusedVariables false
namespace Go.Proofs.YtfghfnpiaccfaaaGreatDoor.J
open Go Go.RowKit
def letter (b : Int) : Bool := decide ((97 ≤ b ∧ b ≤ 122) ∨ (65 ≤ b ∧ b ≤ 90) ∨ b = 95)
def digit (b : Int) : Bool := decide (48 ≤ b ∧ b ≤ 57)
theorem letter_any (b : Int) (w : World) : Calls Tryz.prog 152 #[.int .u8 b] w fun e w' => e = .returned (.bool (letter b)) ∧ w = w' := by
  go_enter Tryz.func152, Tryz.ntmps152
  go_wp2_with fail
  all_goals go_ret
  all_goals exact ⟨ret_bool (by unfold letter; rw [Bool.eq_iff_iff]; simp; omega), rfl⟩
theorem digit_any (b : Int) (w : World) : Calls Tryz.prog 153 #[.int .u8 b] w fun e w' => e = .returned (.bool (digit b)) ∧ w = w' := by
  go_enter Tryz.func153, Tryz.ntmps153
  go_wp2_with fail
  all_goals go_ret
  all_goals exact ⟨ret_bool (by unfold digit; rw [Bool.eq_iff_iff]; simp; omega), rfl⟩
theorem within_any (a n b : Int) (w : World) : Calls Tryz.prog 86 #[.int .i64 a, .int .i64 n, .int .i64 b] w fun e w' => e = .returned (.bool (decide (a ≤ n ∧ n ≤ b))) ∧ w = w' := by
  go_enter Tryz.func86, Tryz.ntmps86
  go_wp2_with fail
  all_goals go_ret
  all_goals exact ⟨ret_bool (by rw [Bool.eq_iff_iff]; simp; omega), rfl⟩
end Go.Proofs.YtfghfnpiaccfaaaGreatDoor.J
namespace Go.Proofs.YtfghfnpiaccfaaaGreatDoor.J
open Go Go.RowKit
def _root_.Go.Proofs.YtfghfnpiaccfaaaGreatDoor.Rl.val (r : Rl) : Value := .agg #[.string r.name, .int .i64 r.body]
theorem equal_int (a b : Int) (w : World) : Calls Tryz.prog 230 #[.int .i64 a, .int .i64 b] w fun e w' => e = .returned (.bool (a == b)) ∧ w = w' := by
  go_enter Tryz.func230, Tryz.ntmps230
  go_wp2_with fail
  all_goals go_ret
  all_goals exact ⟨rfl, rfl⟩
def Rl.val (r : Rl) : Value := .agg #[.string r.name, .int .i64 r.body]
/-- A node less what its Kind names. -/
theorem nothing_any (x : Nd) (r : Int) (w : World) : Calls Tryz.prog 190 #[x.val, .int .i64 r] w fun e w' => e = .returned (.tuple #[x.val, .bool true]) ∧ Below w.heap.size w w' := by
  go_enter Tryz.func190, Tryz.ntmps190
  go_wp2_with fail
  exact bodyPost_ret (v := .tuple #[x.val, .bool true]) (by simp [results, Tryz.results190, go_sem]) rfl ⟨rfl, B2 _ _ _⟩
def noCls (x : Nd) : Bool := x.c0 == 0 && x.c1 == 0 && x.c2 == 0 && x.c3 == 0
theorem set_any (x : Nd) (r : Int) (w : World) : Calls Tryz.prog 191 #[x.val, .int .i64 r] w fun e w' => e = .returned (.tuple #[{ x with c0 := 0, c1 := 0, c2 := 0, c3 := 0 : Nd }.val, .bool (!noCls x)]) ∧ Below w.heap.size w w' := by
  go_enter Tryz.func191, Tryz.ntmps191
  go_wp2_with fail
  exact bodyPost_ret (v := .tuple #[{ x with c0 := 0, c1 := 0, c2 := 0, c3 := 0 : Nd }.val, .bool (!noCls x)]) (by simp [results, Tryz.results191, go_sem, noCls]) rfl ⟨rfl, B2 _ _ _⟩
theorem text_any (x : Nd) (r : Int) (hs : x.text.size ≤ 9223372036854775807) (w : World) : Calls Tryz.prog 192 #[x.val, .int .i64 r] w fun e w' => e = .returned (.tuple #[{ x with text := { data := #[] } : Nd }.val, .bool (decide (1 ≤ (x.text.size : Int) ∧ (x.text.size : Int) ≤ 64))]) ∧ Below w.heap.size w w' := by
  go_enter Tryz.func192, Tryz.ntmps192
  go_wp2_with (go_at_call 86; refine (within_any _ _ _ _).mono ?_; rintro e w1 ⟨rfl, rfl⟩)
  exact bodyPost_ret (v := .tuple #[{ x with text := { data := #[] } : Nd }.val, .bool (decide (1 ≤ (x.text.size : Int) ∧ (x.text.size : Int) ≤ 64))]) (by simp [results, Tryz.results192, go_sem]) rfl ⟨rfl, B2 _ _ _⟩
def callOk (x : Nd) (r : Int) : Bool := decide (0 ≤ x.rule ∧ x.rule < r ∧ 0 ≤ x.level ∧ x.level ≤ 99)
theorem call_any (x : Nd) (r : Int) (w : World) : Calls Tryz.prog 193 #[x.val, .int .i64 r] w fun e w' => e = .returned (.tuple #[{ x with rule := 0, level := 0 : Nd }.val, .bool (callOk x r)]) ∧ Below w.heap.size w w' := by
  go_enter Tryz.func193, Tryz.ntmps193
  go_wp2_with (go_at_call 86; refine (within_any _ _ _ _).mono ?_; rintro e w1 ⟨rfl, rfl⟩)
  all_goals exact bodyPost_ret (v := .tuple #[{ x with rule := 0, level := 0 : Nd }.val, .bool (callOk x r)]) (by simp [results, Tryz.results193, go_sem]; unfold callOk; rw [Bool.eq_iff_iff]; simp; omega) rfl ⟨rfl, B2 _ _ _⟩
theorem kids_any (x : Nd) (a b : Int) (hk : x.kids.length ≤ 140737488351232) (w : World) : Calls Tryz.prog 228 #[x.val, .int .i64 a, .int .i64 b] w fun e w' => e = .returned (.tuple #[{ x with A := none, cap := 0, kids := [] : Nd }.val, .bool (decide (a ≤ (x.kids.length : Int) ∧ (x.kids.length : Int) ≤ b))]) ∧ Below w.heap.size w w' := by
  go_enter Tryz.func228, Tryz.ntmps228
  go_wp2_with (go_at_call 86; refine (within_any _ _ _ _).mono ?_; rintro e w1 ⟨rfl, rfl⟩)
  exact bodyPost_ret (v := .tuple #[{ x with A := none, cap := 0, kids := [] : Nd }.val, .bool (decide (a ≤ (x.kids.length : Int) ∧ (x.kids.length : Int) ≤ b))]) (by simp [results, Tryz.results228, go_sem]) rfl ⟨rfl, B2 _ _ _⟩
abbrev _root_.Go.Proofs.YtfghfnpiaccfaaaGreatDoor.Nd.less (x : Nd) : Nd := { x with A := none, cap := 0, kids := [] }
abbrev kidsOk (x : Nd) (a b : Int) : Bool := decide (a ≤ (x.kids.length : Int) ∧ (x.kids.length : Int) ≤ b)
theorem several_any (x : Nd) (r : Int) (hk : x.kids.length ≤ 140737488351232) (w : World) : Calls Tryz.prog 194 #[x.val, .int .i64 r] w fun e w' => e = .returned (.tuple #[x.less.val, .bool (kidsOk x 2 64)]) ∧ Below w.heap.size w w' := by
  have K := Lib.hid (fun w => kids_any x 2 64 hk w)
  clear hk
  obtain ⟨bo, ebo⟩ : ∃ bo, bo = decide (2 ≤ (x.kids.length : Int) ∧ (x.kids.length : Int) ≤ 64) := ⟨_, rfl⟩
  rw [← ebo] at K
  unfold kidsOk
  rw [← ebo]
  clear ebo
  go_enter Tryz.func194, Tryz.ntmps194
  go_wp2_with (first | (go_at_call 228; refine (K.out _).mono ?_; rintro e w1 ⟨rfl, hb⟩; have HB := Lib.hid ((B2 w _ _).trans (hb.mono (by simp; omega))); have HK := Lib.hid (by have := (Blk.new (w.alloc _) _ _).below' hb; rw [World.size_alloc] at this; exact this); clear hb) | (refine wpList_store_row rfl 207 (.tmp 4) (.tmp 8) rfl (w.heap.size + 1) _ rfl rfl 207 _ HK.out (by kernel_rfl) (by rfl) (by simp [Value.oneCell']) ?_))
  exact bodyPost_ret (results_cell_tmp rfl _ _ (w.heap.size + 1) 207 _ _ _ rfl rfl HK.out.setRow Tryz.underlying207 rfl (by kernel_rfl)) rfl ⟨rfl, bset HB.out (by omega)⟩
theorem single_any (x : Nd) (r : Int) (hk : x.kids.length ≤ 140737488351232) (w : World) : Calls Tryz.prog 195 #[x.val, .int .i64 r] w fun e w' => e = .returned (.tuple #[x.less.val, .bool (kidsOk x 1 1)]) ∧ Below w.heap.size w w' := by
  have K := Lib.hid (fun w => kids_any x 1 1 hk w)
  clear hk
  obtain ⟨bo, ebo⟩ : ∃ bo, bo = decide (1 ≤ (x.kids.length : Int) ∧ (x.kids.length : Int) ≤ 1) := ⟨_, rfl⟩
  rw [← ebo] at K
  unfold kidsOk
  rw [← ebo]
  clear ebo
  go_enter Tryz.func195, Tryz.ntmps195
  go_wp2_with (first | (go_at_call 228; refine (K.out _).mono ?_; rintro e w1 ⟨rfl, hb⟩; have HB := Lib.hid ((B2 w _ _).trans (hb.mono (by simp; omega))); have HK := Lib.hid (by have := (Blk.new (w.alloc _) _ _).below' hb; rw [World.size_alloc] at this; exact this); clear hb) | (refine wpList_store_row rfl 207 (.tmp 4) (.tmp 8) rfl (w.heap.size + 1) _ rfl rfl 207 _ HK.out (by kernel_rfl) (by rfl) (by simp [Value.oneCell']) ?_))
  exact bodyPost_ret (results_cell_tmp rfl _ _ (w.heap.size + 1) 207 _ _ _ rfl rfl HK.out.setRow Tryz.underlying207 rfl (by kernel_rfl)) rfl ⟨rfl, bset HB.out (by omega)⟩
end Go.Proofs.YtfghfnpiaccfaaaGreatDoor.J
namespace Go.Proofs.YtfghfnpiaccfaaaGreatDoor.J
open Go Go.RowKit
theorem mixed : Tryz.prog.follows .mixedOrders = true := by kernel_rfl
set_option maxHeartbeats 1000000 in
theorem row_int (A B : Option Addr) (c d : Nat) (a b : List Int) (ha : a.length ≤ 140737488351232) (hb : b.length ≤ 140737488351232) (w : World) (hA : Lies w A (ints a)) (hB : Lies w B (ints b)) :
    Calls Tryz.prog 229 #[.slice A a.length c, .slice B b.length d, .func (.func 230) #[] #[]] w fun e w' => e = .returned (.bool (decide (a = b))) ∧ ∃ n, w' = w.drewN n := by
  have HA := Lib.hid hA
  have HB := Lib.hid hB
  clear hA hB
  by_cases hl : a.length = b.length
  · have HL := Lib.hid hl
    obtain ⟨m, em⟩ : ∃ m, m = b.length := ⟨_, rfl⟩
    rw [← em] at hl hb ⊢
    rw [hl] at ha ⊢
    have EM := Lib.hid em
    clear em hl
    go_enter Tryz.func229, Tryz.ntmps229
    go_wp2_with fail
    go_loopw [15, 7] (fun i _ wr => ∃ (k n : Nat), k ≤ m ∧ i = .int .i64 k ∧ a.take k = b.take k ∧ wr = w.drewN n) (fun i _ _ => m - (intOf i).toNat)
    case atStart => exact ⟨0, 0, by omega, rfl, by simp, rfl⟩
    case round =>
      obtain ⟨k, n, hk, rfl, ht, rfl⟩ := hrel
      have HT := Lib.hid ht
      clear ht
      by_cases hlt : k < m
      · have hlt2 : (k : Int) < m := by omega
        obtain ⟨b1, o1, rfl, _, c1⟩ := lies_cell HA.out (show k < a.length by have := HL.out; have := EM.out; omega)
        obtain ⟨b2, o2, rfl, _, c2⟩ := lies_cell HB.out (show k < b.length by have := EM.out; omega)
        have HS := Lib.hid (take_same (a := a) (b := b) (k := k) (by have := HL.out; have := EM.out; omega) HL.out HT.out)
        have HN := Lib.hid (@getD_ne a b k)
        generalize a.getD k 0 = x at c1 HS HN
        generalize b.getD k 0 = y at c2 HS HN
        by_cases hxy : x = y
        · have HK := Lib.hid (HS.out.2 hxy)
          have hb : (x == y) = true := by simpa using hxy
          clear HS HN hxy
          go_wp2_with fail
          go_quiet ((go_at_call 230; exact (equal_int _ _ _).mono fun _ _ h => ⟨h.1, _, h.2.symm⟩))
          go_wp2_with fail
          go_roundw
          case rel => exact ⟨k + 1, n + nq, by omega, by go_num, HK.out, by first | rfl | exact World.drewN_drewN _ _ _⟩
          case measure => simp [intOf]; omega
        · have HK := Lib.hid (HN.out hxy)
          have hb : (x == y) = false := by simpa using hxy
          clear HS HN hxy
          go_wp2_with fail
          go_quiet ((go_at_call 230; exact (equal_int _ _ _).mono fun _ _ h => ⟨h.1, _, h.2.symm⟩))
          go_wp2_with fail
          go_ret
          exact ⟨ret_bool (by simpa using HK.out), n + nq, by first | rfl | exact World.drewN_drewN _ _ _⟩
      · obtain rfl : k = m := by omega
        have hlt2 : ¬ (k : Int) < k := by omega
        go_wp2_with fail
        go_ret
        exact ⟨ret_bool (by have := HT.out; rw [List.take_of_length_le (by have := HL.out; have := EM.out; omega), List.take_of_length_le (by have := EM.out; omega)] at this; simp [this]), n, rfl⟩
  · have hne : ¬ (a.length : Int) = b.length := by omega
    have hv : decide (a = b) = false := by simp; intro e; rw [e] at hl; exact hl rfl
    rw [hv]
    clear hv hl
    go_enter Tryz.func229, Tryz.ntmps229
    go_wp2_with fail
    go_ret
    exact ⟨rfl, 0, rfl⟩
set_option maxHeartbeats 1000000 in
theorem same_any (x y : Nd) (w : World) (hx : Nd.At w x) (hy : Nd.At w y) : Calls Tryz.prog 196 #[x.val, y.val] w fun e w' => e = .returned (.bool (sameNd x y)) ∧ Below w.heap.size w w' := by
  have R := Lib.hid (fun (w' : World) (h : Below w.heap.size w w') => row_int x.A y.A x.cap y.cap x.kids y.kids hx.2.2 hy.2.2 w' (hx.below h).1 (hy.below h).1)
  clear hx hy
  go_enter Tryz.func196, Tryz.ntmps196
  go_wp2_with (go_at_call 229; refine (R.out _ (B2 _ _ _)).mono ?_; rintro e w1 ⟨rfl, n, rfl⟩)
  all_goals go_ret
  all_goals refine ⟨ret_bool ?_, by first | exact B2 _ _ _ | exact bdrew (B2 _ _ _)⟩
  all_goals (unfold sameNd; rw [Bool.eq_iff_iff]; simp only [tl_inj, beq_iff_eq, Bool.and_eq_true, decide_eq_true_eq, Bool.false_eq_true] at *; simp_all)
end Go.Proofs.YtfghfnpiaccfaaaGreatDoor.J
namespace Go.Proofs.YtfghfnpiaccfaaaGreatDoor.J
open Go Go.RowKit

end Go.Proofs.YtfghfnpiaccfaaaGreatDoor.J
namespace Go.Proofs.YtfghfnpiaccfaaaGreatDoor.J
open Go Go.RowKit Go.Maps
abbrev lk (c : Int) : Lit := .int .i64 c
abbrev ld (c : Int) : DataW Unit := .lit (.int .i64 c)
theorem lk_wf {c : Int} (h : -9223372036854775808 ≤ c ∧ c < 9223372036854775808) : (lk c).wf = true := WalkArith.wf_i64 (by omega)
/-- How a function's name reads. -/
def fnElem : Value → Option (DataW Unit × List MemPlace)
  | .func (.func n) a b => if a.size = 0 ∧ b.size = 0 then some (ld n, []) else none
  | .nilFunc => some (ld 0, [])
  | _ => none
theorem Tryz.law26 : Keyed Tryz.prog 43 := int_keyed Tryz.underlying43
theorem has_put (D : DataW Unit) (hD : IsMap D) (k c d : Int) : Maps.has (D.put (lk k) (ld d)) (lk c) = if c = k then true else Maps.has D (lk c) := by
  by_cases h : c = k
  · subst h
    rw [if_pos rfl]
    exact has_put_same hD (k := lk c) trivial _
  · rw [if_neg h]
    exact has_put_other (fun e => h (by cases e; rfl)) _
theorem at_put (D : DataW Unit) (hD : IsMap D) (k c d : Int) (z : DataW Unit) : (D.put (lk k) (ld d)).atKey (lk c) z = if c = k then ld d else D.atKey (lk c) z := by
  by_cases h : c = k
  · subst h
    rw [if_pos rfl]
    exact atKey_put_same hD (k := lk c) trivial _ _
  · rw [if_neg h]
    exact atKey_put_other (fun e => h (by cases e; rfl)) _ _
/-- A map that is filled, the last entry first. -/
def Dr : List (Int × Int) → DataW Unit
  | [] => .map []
  | p :: l => (Dr l).put (lk p.1) (ld p.2)
theorem Dr_map : ∀ l, IsMap (Dr l)
  | [] => ⟨[], rfl⟩
  | _ :: l => (Dr_map l).put _ _
theorem Dr_has (c : Int) : ∀ l, Maps.has (Dr l) (lk c) = l.any (fun p => decide (c = p.1))
  | [] => rfl
  | p :: l => by
    rw [Dr, has_put _ (Dr_map l), Dr_has c l, List.any_cons]
    by_cases h : c = p.1 <;> simp [h]
def find (c : Int) : List (Int × Int) → Option Int
  | [] => none
  | p :: l => if c = p.1 then some p.2 else find c l
theorem Dr_at (c : Int) (z : DataW Unit) : ∀ l, (Dr l).atKey (lk c) z = match find c l with | some d => ld d | none => z
  | [] => by simp [Dr, find, DataW.atKey]
  | p :: l => by
    rw [Dr, at_put _ (Dr_map l), Dr_at c z l, find]
    by_cases h : c = p.1 <;> simp [h]
def tks : List (Int × Int) := [(12, 195), (11, 195), (10, 195), (9, 195), (8, 195), (7, 194), (6, 194), (5, 193), (4, 192), (3, 191), (2, 190), (1, 190)]
theorem ins {w : World} {b n : Nat} {D : DataW Unit} (hown : w.ownsMap Tryz.prog 43 fnElem b n D) (x : Int) (f : Nat) (hx : 0 ≤ x ∧ x < 256) (hn : n < 100) :
    ∃ w', (Instr.mapUpdate 205 (.map (some b)) (.int .i64 x) (.func (.func f) #[] #[])).run Tryz.prog w = .ok () w' ∧ w'.ownsMap Tryz.prog 43 fnElem b (n + 1) (D.put (lk x) (ld f)) ∧ w.grownBy w' (some b) :=
  hown.update Tryz.law26 Tryz.underlying205 (by unfold maxLen; omega) (keyOf_int_mk Tryz.underlying43 (lk_wf (by omega))) rfl
theorem below_map {a w w' : World} {b : Nat} (h : Below a.heap.size a w) (hg : w.grownBy w' (some b)) (hb : a.heap.size ≤ b) : Below a.heap.size a w' := h.grown hg h.size (fun j hj => by cases hj; exact hb)
/-- The map of the takers. -/
def Takers (w : World) (b : Nat) : Prop := w.ownsMap Tryz.prog 43 fnElem b 12 (Dr tks)
theorem Takers.below {w w' : World} {b : Nat} (h : Takers w b) (hb : Below w.heap.size w w') : Takers w' b := by
  obtain ⟨es, clock, h1, F, h2, h3⟩ := h
  exact ⟨es, clock, (hb.block b (Array.getElem?_eq_some_iff.1 h1).1).trans h1, F, h2, h3⟩
set_option maxRecDepth 100000 in
set_option maxHeartbeats 1000000 in
theorem takers_any (w : World) : Calls Tryz.prog 142 #[] w fun e w' => e = .returned (.map (some w.heap.size)) ∧ Takers w' w.heap.size ∧ Below w.heap.size w w' := by
  have hmm := @run_makeMap Tryz.prog
  have m0 : (w.alloc (.map #[] 0)).ownsMap Tryz.prog 43 fnElem w.heap.size 0 (.map []) := World.ownsMap_made w Tryz.prog 43 _
  have b0 : Below w.heap.size w (w.alloc (.map #[] 0)) := B1 _ _
  obtain ⟨w1, r1, m1, g1⟩ := ins m0 1 190 (by omega) (by omega)
  have b1 := below_map b0 g1 (Nat.le_refl _)
  obtain ⟨w2, r2, m2, g2⟩ := ins m1 2 190 (by omega) (by omega)
  have b2 := below_map b1 g2 (Nat.le_refl _)
  obtain ⟨w3, r3, m3, g3⟩ := ins m2 3 191 (by omega) (by omega)
  have b3 := below_map b2 g3 (Nat.le_refl _)
  obtain ⟨w4, r4, m4, g4⟩ := ins m3 4 192 (by omega) (by omega)
  have b4 := below_map b3 g4 (Nat.le_refl _)
  obtain ⟨w5, r5, m5, g5⟩ := ins m4 5 193 (by omega) (by omega)
  have b5 := below_map b4 g5 (Nat.le_refl _)
  obtain ⟨w6, r6, m6, g6⟩ := ins m5 6 194 (by omega) (by omega)
  have b6 := below_map b5 g6 (Nat.le_refl _)
  obtain ⟨w7, r7, m7, g7⟩ := ins m6 7 194 (by omega) (by omega)
  have b7 := below_map b6 g7 (Nat.le_refl _)
  obtain ⟨w8, r8, m8, g8⟩ := ins m7 8 195 (by omega) (by omega)
  have b8 := below_map b7 g8 (Nat.le_refl _)
  obtain ⟨w9, r9, m9, g9⟩ := ins m8 9 195 (by omega) (by omega)
  have b9 := below_map b8 g9 (Nat.le_refl _)
  obtain ⟨w10, r10, m10, g10⟩ := ins m9 10 195 (by omega) (by omega)
  have b10 := below_map b9 g10 (Nat.le_refl _)
  obtain ⟨w11, r11, m11, g11⟩ := ins m10 11 195 (by omega) (by omega)
  have b11 := below_map b10 g11 (Nat.le_refl _)
  obtain ⟨w12, r12, m12, g12⟩ := ins m11 12 195 (by omega) (by omega)
  have b12 := below_map b11 g12 (Nat.le_refl _)
  have M : RowKit.Hid (Takers w12 w.heap.size) := Lib.hid m12
  have B := Lib.hid b12
  clear m0 m1 m2 m3 m4 m5 m6 m7 m8 m9 m10 m11 m12 g1 g2 g3 g4 g5 g6 g7 g8 g9 g10 g11 g12 b0 b1 b2 b3 b4 b5 b6 b7 b8 b9 b10 b11 b12
  go_enter Tryz.func142, Tryz.ntmps142
  go_wp2_with fail
  go_ret
  exact ⟨rfl, M.out, B.out⟩
theorem any_find (c : Int) : ∀ l, l.any (fun p : Int × Int => decide (c = p.1)) = (find c l).isSome
  | [] => rfl
  | p :: l => by
    rw [List.any_cons, any_find c l, find]
    by_cases h : c = p.1 <;> simp [h]
theorem find_ge (c f : Int) : ∀ l : List (Int × Int), (∀ p ∈ l, 190 ≤ p.2) → find c l = some f → 190 ≤ f
  | [], _, h => by cases h
  | p :: l, hl, h => by
    rw [find] at h
    split at h
    · cases h; exact hl p (by simp)
    · exact find_ge c f l (fun q hq => hl q (by simp [hq])) h
theorem fnElem_inv {v : Value} {f : Int} {ps : List MemPlace} (h : fnElem v = some (ld f, ps)) : (∃ n : Nat, v = .func (.func n) #[] #[] ∧ f = n) ∨ f = 0 := by
  unfold fnElem at h
  split at h
  · rename_i n a b
    split at h
    · rename_i hs
      obtain ⟨h1, h2⟩ := hs
      obtain rfl := Array.eq_empty_of_size_eq_zero h1
      obtain rfl := Array.eq_empty_of_size_eq_zero h2
      simp at h
      exact .inl ⟨n, rfl, h.1.symm⟩
    · cases h
  · simp at h
    exact .inr h.1.symm
  · cases h
/-- What is looked up. -/
theorem look {w : World} {b : Nat} (h : Takers w b) (c : Int) (hc : -9223372036854775808 ≤ c ∧ c < 9223372036854775808) :
    (∀ n : Nat, find c tks = some (n : Int) → (Instr.lookup 205 (.map (some b)) (.int .i64 c) true).run Tryz.prog w = .ok (.tuple #[.func (.func n) #[] #[], .bool true]) w) ∧
    (find c tks = none → ∃ v : Value, (Instr.lookup 205 (.map (some b)) (.int .i64 c) true).run Tryz.prog w = .ok (.tuple #[v, .bool false]) w) := by
  obtain ⟨v, ps, hrun, hv⟩ := World.ownsMap.look_ok h Tryz.law26 Tryz.underlying205 (z := .nilFunc) (by kernel_rfl) (zd := ld 0) (zp := []) rfl (keyOf_int_mk Tryz.underlying43 (lk_wf (c := c) hc))
  rw [Dr_at] at hv
  rw [Dr_has, any_find] at hrun
  refine ⟨fun n hf => ?_, fun hf => ⟨v, ?_⟩⟩
  · rw [hf] at hv hrun
    have hge := find_ge c n tks (by decide) hf
    rcases fnElem_inv hv with ⟨n', rfl, e⟩ | e
    · obtain rfl : n = n' := by omega
      exact hrun
    · omega
  · rw [hf] at hrun
    exact hrun
end Go.Proofs.YtfghfnpiaccfaaaGreatDoor.J

/- The map of what each Kind's law is. -/
import Derived.Test.YtjelgmdjmjnnfaaA2
import Derived.Test.YtjelgmdjmjnnfaaA5
import Derived.Test.YtjelgmdjmjnnfaaA6
import Derived.Test.YtjelgmdjmjnnfaaA3
import Derived.Test.YtjelgmdjmjnnfaaA7
import Derived.Maps.AppendAt
set_option linter.unusedSimpArgs false
set_option linter.unusedVariables false
namespace Go.Proofs.Ytjelgmdjmjnnfaa
open Go Go.RowKit Go.Maps
def lws : List (Int × Int) := [(12, 73), (11, 73), (10, 73), (9, 76), (8, 73), (7, 77), (6, 76), (5, 75), (4, 74), (3, 74), (2, 74), (1, 73)]
theorem insL {w : World} {b n : Nat} {D : DataW Unit} (hown : w.ownsMap Try.prog 36 fnElem b n D) (x : Int) (f : Nat) (hx : 0 ≤ x ∧ x < 256) (hn : n < 100) :
    ∃ w', (Instr.mapUpdate 70 (.map (some b)) (.int .i64 x) (.func (.func f) #[] #[])).run Try.prog w = .ok () w' ∧ w'.ownsMap Try.prog 36 fnElem b (n + 1) (D.put (lk x) (ld f)) ∧ w.grownBy w' (some b) :=
  hown.update Try.law26 Try.underlying70 (by unfold maxLen; omega) (keyOf_int_mk Try.underlying36 (lk_wf (by omega))) rfl
/-- The map of the laws. -/
def Laws (w : World) (b : Nat) : Prop := w.ownsMap Try.prog 36 fnElem b 12 (Dr lws)
theorem Laws.below {w w' : World} {b : Nat} (h : Laws w b) (hb : Below w.heap.size w w') : Laws w' b := by
  obtain ⟨es, clock, h1, F, h2, h3⟩ := h
  exact ⟨es, clock, (hb.block b (Array.getElem?_eq_some_iff.1 h1).1).trans h1, F, h2, h3⟩
theorem Laws.lt {w : World} {b : Nat} (h : Laws w b) : b < w.heap.size := World.ownsMap.lt h
theorem Laws.kept {w w' : World} {b : Nat} (h : Laws w b) (hb : w'.heap[b]? = w.heap[b]?) : Laws w' b := by
  obtain ⟨es, clock, h1, F, h2, h3⟩ := h
  exact ⟨es, clock, hb.trans h1, F, h2, h3⟩
set_option maxRecDepth 100000 in
set_option maxHeartbeats 1000000 in
theorem laws_any (w : World) : Calls Try.prog 59 #[] w fun e w' => e = .returned (.map (some w.heap.size)) ∧ Laws w' w.heap.size ∧ Below w.heap.size w w' := by
  have hmm := @run_makeMap Try.prog
  have m0 : (w.alloc (.map #[] 0)).ownsMap Try.prog 36 fnElem w.heap.size 0 (.map []) := World.ownsMap_made w Try.prog 36 _
  have b0 : Below w.heap.size w (w.alloc (.map #[] 0)) := B1 _ _
  obtain ⟨w1, r1, m1, g1⟩ := insL m0 1 73 (by omega) (by omega)
  have b1 := below_map b0 g1 (Nat.le_refl _)
  obtain ⟨w2, r2, m2, g2⟩ := insL m1 2 74 (by omega) (by omega)
  have b2 := below_map b1 g2 (Nat.le_refl _)
  obtain ⟨w3, r3, m3, g3⟩ := insL m2 3 74 (by omega) (by omega)
  have b3 := below_map b2 g3 (Nat.le_refl _)
  obtain ⟨w4, r4, m4, g4⟩ := insL m3 4 74 (by omega) (by omega)
  have b4 := below_map b3 g4 (Nat.le_refl _)
  obtain ⟨w5, r5, m5, g5⟩ := insL m4 5 75 (by omega) (by omega)
  have b5 := below_map b4 g5 (Nat.le_refl _)
  obtain ⟨w6, r6, m6, g6⟩ := insL m5 6 76 (by omega) (by omega)
  have b6 := below_map b5 g6 (Nat.le_refl _)
  obtain ⟨w7, r7, m7, g7⟩ := insL m6 7 77 (by omega) (by omega)
  have b7 := below_map b6 g7 (Nat.le_refl _)
  obtain ⟨w8, r8, m8, g8⟩ := insL m7 8 73 (by omega) (by omega)
  have b8 := below_map b7 g8 (Nat.le_refl _)
  obtain ⟨w9, r9, m9, g9⟩ := insL m8 9 76 (by omega) (by omega)
  have b9 := below_map b8 g9 (Nat.le_refl _)
  obtain ⟨w10, r10, m10, g10⟩ := insL m9 10 73 (by omega) (by omega)
  have b10 := below_map b9 g10 (Nat.le_refl _)
  obtain ⟨w11, r11, m11, g11⟩ := insL m10 11 73 (by omega) (by omega)
  have b11 := below_map b10 g11 (Nat.le_refl _)
  obtain ⟨w12, r12, m12, g12⟩ := insL m11 12 73 (by omega) (by omega)
  have b12 := below_map b11 g12 (Nat.le_refl _)
  have M : RowKit.Hid (Laws w12 w.heap.size) := Lib.hid m12
  have B := Lib.hid b12
  clear m0 m1 m2 m3 m4 m5 m6 m7 m8 m9 m10 m11 m12 g1 g2 g3 g4 g5 g6 g7 g8 g9 g10 g11 g12 b0 b1 b2 b3 b4 b5 b6 b7 b8 b9 b10 b11 b12
  go_enter Try.func59, Try.ntmps59
  go_wp2_with fail
  go_ret
  exact ⟨rfl, M.out, B.out⟩
/-- What is looked up. -/
theorem lookL {w : World} {b : Nat} (h : Laws w b) (c : Int) (hc : -9223372036854775808 ≤ c ∧ c < 9223372036854775808) (n : Nat) (hf : find c lws = some (n : Int)) :
    (Instr.lookup 70 (.map (some b)) (.int .i64 c) false).run Try.prog w = .ok (.func (.func n) #[] #[]) w := by
  obtain ⟨v, ps, hrun, hv⟩ := World.ownsMap.lookup h Try.law26 Try.underlying70 (z := .nilFunc) (by kernel_rfl) (zd := ld 0) (zp := []) rfl (keyOf_int_mk Try.underlying36 (lk_wf (c := c) hc))
  rw [Dr_at] at hv
  rw [hf] at hv
  have hge : 57 ≤ (n : Int) := by
    have := find_mem c n lws hf
    simp [lws] at this
    omega
  rcases fnElem_inv hv with ⟨n', rfl, e⟩ | e
  · obtain rfl : n = n' := by omega
    exact hrun
  · omega
end Go.Proofs.Ytjelgmdjmjnnfaa
namespace Go.Proofs.Ytjelgmdjmjnnfaa
open Go Go.RowKit Go.Maps
/-- A grammar at work: the grammar, the laws, the ranks. -/
structure Wrk (w : World) (p : Nat) (g : Gr) (mb rb : Nat) (r : List Int) : Prop where
  box : Blk w p #[.slice g.RA g.rules.length g.rc, .slice g.NA g.nodes.length g.nc, .map (some mb), .slice (some ⟨rb, 0, none⟩) g.rules.length g.rules.length] 72
  gr : Gr.At w g
  laws : Laws w mb
  row : Blk w rb (ints r).toArray 3
  len : r.length = g.rules.length
theorem Wrk.below {w w' : World} {p mb rb : Nat} {g : Gr} {r : List Int} (h : Wrk w p g mb rb r) (hb : Below w.heap.size w w') : Wrk w' p g mb rb r :=
  ⟨h.box.below' hb, h.gr.below hb, h.laws.below hb, h.row.below' hb, h.len⟩
theorem in_any {w : World} {p mb rb : Nat} {g : Gr} {r : List Int} (h : Wrk w p g mb rb r) (i : Nat) (hi : i < g.rules.length) :
    Calls Try.prog 94 #[.pointer (some ⟨p, 0, none⟩), .int .i64 i] w fun e w' => e = .returned (.bool (inB r i)) ∧ w' = w := by
  have c3 := h.box.cell 3
  simp only [List.getElem?_toArray, List.getElem?_cons_zero, List.getElem?_cons_succ] at c3
  have cr : w.cell? ⟨rb, i, none⟩ = some (.int .i64 (r.getD i 0)) := (h.row.cell i).trans (by rw [List.getElem?_toArray]; exact ints_at (by rw [h.len]; exact hi))
  have hI := Lib.hid (show inB r i = decide (0 < r.getD i 0) from rfl)
  obtain ⟨v, ev⟩ : ∃ v, v = r.getD i 0 := ⟨_, rfl⟩
  rw [← ev] at cr hI
  obtain ⟨m, em⟩ : ∃ m, m = g.rules.length := ⟨_, rfl⟩
  rw [← em] at c3 hi
  have hi2 : (i : Int) < m := by omega
  clear h ev em
  go_enter Try.func94, Try.ntmps94
  go_wp2_with fail
  go_ret
  exact ⟨ret_bool (by rw [hI.out]), rfl⟩
set_option maxRecDepth 100000 in
set_option maxHeartbeats 2000000 in
theorem idx_may (A : Option Addr) (c : Nat) (a : List Int) (p : Nat) (q : Int → Bool) (ha : a.length ≤ 140737488351232) (w : World) (hA : Lies w A (ints a))
    (hq : ∀ k ∈ a, ∀ w', Below w.heap.size w w' → Calls Try.prog 34 #[.pointer (some ⟨p, 0, none⟩), .int .i64 k] w' fun e w'' => e = .returned (.bool (q k)) ∧ Below w'.heap.size w' w'') :
    Calls Try.prog 100 #[.slice A a.length c, .func (.func 34) #[.pointer (some ⟨p, 0, none⟩)] #[]] w fun e w' => ∃ j : Int, e = .returned (.int .i64 j) ∧ decide (0 ≤ j) = a.any q ∧ Below w.heap.size w w' := by
  have HA := Lib.hid hA
  have HQ := Lib.hid hq
  obtain ⟨m, em⟩ : ∃ m, m = a.length := ⟨_, rfl⟩
  rw [← em] at ha ⊢
  have EM := Lib.hid em
  clear hA hq em
  go_enter Try.func100, Try.ntmps100
  go_wp2_with fail
  go_loopw [8, 5] (fun i _ wr => ∃ k : Nat, k ≤ m ∧ i = .int .i64 k ∧ (∀ j, j < k → q (a.getD j 0) = false) ∧ Below w.heap.size w wr) (fun i _ _ => m - (intOf i).toNat)
  case atStart => exact ⟨0, by omega, rfl, fun j h => by omega, Below.refl _ _⟩
  case round =>
    obtain ⟨k, hk, rfl, ht, hbl⟩ := hrel
    have HT := Lib.hid ht
    have BL := Lib.hid hbl
    clear ht hbl
    by_cases hlt : k < m
    · have hlt2 : (k : Int) < m := by omega
      obtain ⟨b1, o1, rfl, _, c1⟩ := lies_cell (HA.out.below BL.out) (show k < a.length by have := EM.out; omega)
      have hmem : a.getD k 0 ∈ a := by have := EM.out; simp [List.getD, List.getElem?_eq_getElem (show k < a.length by omega)]
      have A1 := Lib.hid (HQ.out _ hmem)
      have KT : RowKit.Hid (q (a.getD k 0) = true → a.any q = true) := Lib.hid (fun h => List.any_eq_true.2 ⟨_, hmem, h⟩)
      clear hmem
      generalize hx : a.getD k 0 = x at c1 A1 KT
      have HX := Lib.hid hx
      clear hx
      obtain ⟨bo, ebo⟩ : ∃ bo, bo = q x := ⟨_, rfl⟩
      rw [← ebo] at A1 KT
      have EBO := Lib.hid ebo
      clear ebo
      cases bo with
      | true =>
        go_wp2_with (go_at_call 34; with_reducible refine (A1.out _ BL.out).mono ?_; rintro e w1 ⟨rfl, hb⟩; have H1 := Lib.hid (bb BL.out hb); clear hb)
        go_ret
        exact ⟨_, rfl, by rw [KT.out (by first | trivial | rfl)]; simp, H1.out⟩
      | false =>
        go_wp2_with (go_at_call 34; with_reducible refine (A1.out _ BL.out).mono ?_; rintro e w1 ⟨rfl, hb⟩; have H1 := Lib.hid (bb BL.out hb); clear hb)
        go_roundw
        case rel => exact ⟨k + 1, by omega, by go_num, fun j hj => by
            by_cases e : j = k
            · subst e; rw [HX.out]; exact EBO.out.symm
            · exact HT.out j (by omega), H1.out⟩
        case measure => simp [intOf]; omega
    · obtain rfl : k = m := by omega
      have hlt2 : ¬ (k : Int) < k := by omega
      go_wp2_with fail
      go_ret
      refine ⟨_, rfl, ?_, BL.out⟩
      have : a.any q = false := List.any_eq_false.2 fun x hx => by
        obtain ⟨j, hj, rfl⟩ := List.getElem_of_mem hx
        have := HT.out j (by have := EM.out; omega)
        simp only [List.getD, List.getElem?_eq_getElem hj, Option.getD_some] at this
        simp [this]
      rw [this]
      decide
theorem contains_may (A : Option Addr) (c : Nat) (a : List Int) (p : Nat) (q : Int → Bool) (ha : a.length ≤ 140737488351232) (w : World) (hA : Lies w A (ints a))
    (hq : ∀ k ∈ a, ∀ w', Below w.heap.size w w' → Calls Try.prog 34 #[.pointer (some ⟨p, 0, none⟩), .int .i64 k] w' fun e w'' => e = .returned (.bool (q k)) ∧ Below w'.heap.size w' w'') :
    Calls Try.prog 95 #[.slice A a.length c, .func (.func 34) #[.pointer (some ⟨p, 0, none⟩)] #[]] w fun e w' => e = .returned (.bool (a.any q)) ∧ Below w.heap.size w w' := by
  have I := Lib.hid (idx_may A c a p q ha w hA hq)
  obtain ⟨m, em⟩ : ∃ m, m = a.length := ⟨_, rfl⟩
  rw [← em] at I ⊢
  clear hA hq em
  go_enter Try.func95, Try.ntmps95
  go_wp2_with (go_at_call 100; with_reducible refine I.out.mono ?_; rintro e w1 ⟨j, rfl, hj, hb⟩; have H1 := Lib.hid hb; have HJ := Lib.hid hj; clear hb hj)
  go_ret
  exact ⟨ret_bool HJ.out, H1.out⟩
set_option maxRecDepth 100000 in
set_option maxHeartbeats 2000000 in
theorem idx_not (A : Option Addr) (c : Nat) (a : List Int) (p : Nat) (q : Int → Bool) (ha : a.length ≤ 140737488351232) (w : World) (hA : Lies w A (ints a))
    (hq : ∀ k ∈ a, ∀ w', Below w.heap.size w w' → Calls Try.prog 96 #[.pointer (some ⟨p, 0, none⟩), .int .i64 k] w' fun e w'' => e = .returned (.bool (q k)) ∧ Below w'.heap.size w' w'') :
    Calls Try.prog 100 #[.slice A a.length c, .func (.func 96) #[.pointer (some ⟨p, 0, none⟩)] #[]] w fun e w' => ∃ j : Int, e = .returned (.int .i64 j) ∧ decide (0 ≤ j) = a.any q ∧ Below w.heap.size w w' := by
  have HA := Lib.hid hA
  have HQ := Lib.hid hq
  obtain ⟨m, em⟩ : ∃ m, m = a.length := ⟨_, rfl⟩
  rw [← em] at ha ⊢
  have EM := Lib.hid em
  clear hA hq em
  go_enter Try.func100, Try.ntmps100
  go_wp2_with fail
  go_loopw [8, 5] (fun i _ wr => ∃ k : Nat, k ≤ m ∧ i = .int .i64 k ∧ (∀ j, j < k → q (a.getD j 0) = false) ∧ Below w.heap.size w wr) (fun i _ _ => m - (intOf i).toNat)
  case atStart => exact ⟨0, by omega, rfl, fun j h => by omega, Below.refl _ _⟩
  case round =>
    obtain ⟨k, hk, rfl, ht, hbl⟩ := hrel
    have HT := Lib.hid ht
    have BL := Lib.hid hbl
    clear ht hbl
    by_cases hlt : k < m
    · have hlt2 : (k : Int) < m := by omega
      obtain ⟨b1, o1, rfl, _, c1⟩ := lies_cell (HA.out.below BL.out) (show k < a.length by have := EM.out; omega)
      have hmem : a.getD k 0 ∈ a := by have := EM.out; simp [List.getD, List.getElem?_eq_getElem (show k < a.length by omega)]
      have A1 := Lib.hid (HQ.out _ hmem)
      have KT : RowKit.Hid (q (a.getD k 0) = true → a.any q = true) := Lib.hid (fun h => List.any_eq_true.2 ⟨_, hmem, h⟩)
      clear hmem
      generalize hx : a.getD k 0 = x at c1 A1 KT
      have HX := Lib.hid hx
      clear hx
      obtain ⟨bo, ebo⟩ : ∃ bo, bo = q x := ⟨_, rfl⟩
      rw [← ebo] at A1 KT
      have EBO := Lib.hid ebo
      clear ebo
      cases bo with
      | true =>
        go_wp2_with (go_at_call 96; with_reducible refine (A1.out _ BL.out).mono ?_; rintro e w1 ⟨rfl, hb⟩; have H1 := Lib.hid (bb BL.out hb); clear hb)
        go_ret
        exact ⟨_, rfl, by rw [KT.out (by first | trivial | rfl)]; simp, H1.out⟩
      | false =>
        go_wp2_with (go_at_call 96; with_reducible refine (A1.out _ BL.out).mono ?_; rintro e w1 ⟨rfl, hb⟩; have H1 := Lib.hid (bb BL.out hb); clear hb)
        go_roundw
        case rel => exact ⟨k + 1, by omega, by go_num, fun j hj => by
            by_cases e : j = k
            · subst e; rw [HX.out]; exact EBO.out.symm
            · exact HT.out j (by omega), H1.out⟩
        case measure => simp [intOf]; omega
    · obtain rfl : k = m := by omega
      have hlt2 : ¬ (k : Int) < k := by omega
      go_wp2_with fail
      go_ret
      refine ⟨_, rfl, ?_, BL.out⟩
      have : a.any q = false := List.any_eq_false.2 fun x hx => by
        obtain ⟨j, hj, rfl⟩ := List.getElem_of_mem hx
        have := HT.out j (by have := EM.out; omega)
        simp only [List.getD, List.getElem?_eq_getElem hj, Option.getD_some] at this
        simp [this]
      rw [this]
      decide
theorem contains_not (A : Option Addr) (c : Nat) (a : List Int) (p : Nat) (q : Int → Bool) (ha : a.length ≤ 140737488351232) (w : World) (hA : Lies w A (ints a))
    (hq : ∀ k ∈ a, ∀ w', Below w.heap.size w w' → Calls Try.prog 96 #[.pointer (some ⟨p, 0, none⟩), .int .i64 k] w' fun e w'' => e = .returned (.bool (q k)) ∧ Below w'.heap.size w' w'') :
    Calls Try.prog 95 #[.slice A a.length c, .func (.func 96) #[.pointer (some ⟨p, 0, none⟩)] #[]] w fun e w' => e = .returned (.bool (a.any q)) ∧ Below w.heap.size w w' := by
  have I := Lib.hid (idx_not A c a p q ha w hA hq)
  obtain ⟨m, em⟩ : ∃ m, m = a.length := ⟨_, rfl⟩
  rw [← em] at I ⊢
  clear hA hq em
  go_enter Try.func95, Try.ntmps95
  go_wp2_with (go_at_call 100; with_reducible refine I.out.mono ?_; rintro e w1 ⟨j, rfl, hj, hb⟩; have H1 := Lib.hid hb; have HJ := Lib.hid hj; clear hb hj)
  go_ret
  exact ⟨ret_bool HJ.out, H1.out⟩
theorem not_of (p : Nat) (k : Int) (b : Bool) (w : World) (h : Calls Try.prog 34 #[.pointer (some ⟨p, 0, none⟩), .int .i64 k] w fun e w'' => e = .returned (.bool b) ∧ Below w.heap.size w w'') :
    Calls Try.prog 96 #[.pointer (some ⟨p, 0, none⟩), .int .i64 k] w fun e w'' => e = .returned (.bool (!b)) ∧ Below w.heap.size w w'' := by
  have H := Lib.hid h
  clear h
  go_enter Try.func96, Try.ntmps96
  go_wp2_with (go_at_call 34; with_reducible refine H.out.mono ?_; rintro e w1 ⟨rfl, hb⟩; have H1 := Lib.hid hb; clear hb)
  go_ret
  exact ⟨rfl, H1.out⟩
theorem always_any (v : Value) (x : Nd) (w : World) : Calls Try.prog 73 #[v, x.val] w fun e w' => e = .returned (.bool true) ∧ Below w.heap.size w w' := by
  go_enter Try.func73, Try.ntmps73
  go_wp2_with fail
  go_ret
  exact ⟨rfl, B1 _ _⟩
theorem never_any (v : Value) (x : Nd) (w : World) : Calls Try.prog 74 #[v, x.val] w fun e w' => e = .returned (.bool false) ∧ Below w.heap.size w w' := by
  go_enter Try.func74, Try.ntmps74
  go_wp2_with fail
  go_ret
  exact ⟨rfl, B1 _ _⟩
theorem called_any {w : World} {p mb rb : Nat} {g : Gr} {r : List Int} (h : Wrk w p g mb rb r) (x : Nd) (h0 : 0 ≤ x.rule) (h1 : x.rule < g.rules.length) :
    Calls Try.prog 75 #[.pointer (some ⟨p, 0, none⟩), x.val] w fun e w' => e = .returned (.bool (inB r x.rule)) ∧ Below w.heap.size w w' := by
  obtain ⟨i, hi⟩ : ∃ i : Nat, (i : Int) = x.rule := ⟨x.rule.toNat, by omega⟩
  have I := Lib.hid (fun (w' : World) (hb : Below w.heap.size w w') => in_any (h.below hb) i (by omega))
  obtain ⟨kd, c0, c1, c2, c3, t, ru, lv, A, cap, ks⟩ := x
  dsimp only at hi
  subst hi
  clear h h0 h1
  go_enter Try.func75, Try.ntmps75
  go_wp2_with (go_at_call 94; with_reducible refine (I.out _ (B1 _ _)).mono ?_; rintro e w1 ⟨rfl, rfl⟩)
  go_ret
  exact ⟨rfl, B1 _ _⟩
theorem each_any (p : Nat) (x : Nd) (q : Int → Bool) (w : World) (hx : Nd.At w x)
    (hq : ∀ k ∈ x.kids, ∀ w', Below w.heap.size w w' → Calls Try.prog 34 #[.pointer (some ⟨p, 0, none⟩), .int .i64 k] w' fun e w'' => e = .returned (.bool (q k)) ∧ Below w'.heap.size w' w'') :
    Calls Try.prog 76 #[.pointer (some ⟨p, 0, none⟩), x.val] w fun e w' => e = .returned (.bool (x.kids.all q)) ∧ Below w.heap.size w w' := by
  have C := Lib.hid (fun (w' : World) (hb : Below w.heap.size w w') => contains_not x.A x.cap x.kids p (fun k => !q k) hx.2.2 w' (hx.below hb).1 (fun k hk w'' hb2 => not_of p k (q k) w'' (hq k hk w'' (hb.trans (hb2.mono hb.size)))))
  have E : (x.kids.any fun k => !q k) = !(x.kids.all q) := by
    rw [List.all_eq_not_any_not]
    simp
  rw [E] at C
  obtain ⟨b, eb⟩ : ∃ b, b = x.kids.all q := ⟨_, rfl⟩
  rw [← eb] at C ⊢
  clear E eb
  obtain ⟨kd, c0, c1, c2, c3, t, ru, lv, A, cap, ks⟩ := x
  dsimp only at C
  clear hx hq
  have C2 := Lib.hid C.out
  clear C
  go_enter Try.func76, Try.ntmps76
  go_wp2_with (go_at_call 95; with_reducible refine (C2.out _ (B1 _ _)).mono ?_; rintro e w1 ⟨rfl, hb⟩; have H1 := Lib.hid (bb (B1 w _) hb); clear hb)
  go_ret
  exact ⟨by simp, H1.out⟩
theorem some_any (p : Nat) (x : Nd) (q : Int → Bool) (w : World) (hx : Nd.At w x)
    (hq : ∀ k ∈ x.kids, ∀ w', Below w.heap.size w w' → Calls Try.prog 34 #[.pointer (some ⟨p, 0, none⟩), .int .i64 k] w' fun e w'' => e = .returned (.bool (q k)) ∧ Below w'.heap.size w' w'') :
    Calls Try.prog 77 #[.pointer (some ⟨p, 0, none⟩), x.val] w fun e w' => e = .returned (.bool (x.kids.any q)) ∧ Below w.heap.size w w' := by
  have C := Lib.hid (fun (w' : World) (hb : Below w.heap.size w w') => contains_may x.A x.cap x.kids p q hx.2.2 w' (hx.below hb).1 (fun k hk w'' hb2 => hq k hk w'' (hb.trans (hb2.mono hb.size))))
  obtain ⟨b, eb⟩ : ∃ b, b = x.kids.any q := ⟨_, rfl⟩
  rw [← eb] at C ⊢
  clear eb
  obtain ⟨kd, c0, c1, c2, c3, t, ru, lv, A, cap, ks⟩ := x
  dsimp only at C
  clear hx hq
  have C2 := Lib.hid C.out
  clear C
  go_enter Try.func77, Try.ntmps77
  go_wp2_with (go_at_call 95; with_reducible refine (C2.out _ (B1 _ _)).mono ?_; rintro e w1 ⟨rfl, hb⟩; have H1 := Lib.hid (bb (B1 w _) hb); clear hb)
  go_ret
  exact ⟨by simp, H1.out⟩
theorem kinds {x : Nd} {r : Int} (h : nodeOk x r = true) : 1 ≤ x.kind ∧ x.kind ≤ 12 ∧ (x.kind = 5 → 0 ≤ x.rule ∧ x.rule < r) := by
  have := (nodeOk_iff x r).1 h
  unfold NodeIs at this
  omega
set_option maxRecDepth 100000 in
set_option maxHeartbeats 2000000 in
theorem may_always {w : World} {p mb rb : Nat} {g : Gr} {r : List Int} (h : Wrk w p g mb rb r) (hin : Gr.In g) (n : Nat) (hn : n < g.nodes.length) (b : Bool) (hf : find (g.nodes.getD n Nd.zero).kind lws = some ((73 : Nat) : Int))
    (hL : ∀ w', Below w.heap.size w w' → Calls Try.prog 73 #[.pointer (some ⟨p, 0, none⟩), (g.nodes.getD n Nd.zero).val] w' fun e w'' => e = .returned (.bool b) ∧ Below w'.heap.size w' w'') :
    Calls Try.prog 34 #[.pointer (some ⟨p, 0, none⟩), .int .i64 n] w fun e w' => e = .returned (.bool b) ∧ Below w.heap.size w w' := by
  have c1 := h.box.cell 1
  have c2 := fun (e : Ext w) => (h.box.below' e.grown).cell 2
  simp only [List.getElem?_toArray, List.getElem?_cons_zero, List.getElem?_cons_succ] at c1 c2
  have hki := (hin _ (show g.nodes.getD n Nd.zero ∈ g.nodes by simp [List.getD, List.getElem?_eq_getElem hn])).kind
  have lo := fun (e : Ext w) => lookL (h.laws.below e.grown) _ hki _ hf
  obtain ⟨b1, o1, eA, hb1, d0, d1, d2, d3, d4, d5, d6, d7, d8⟩ := h.gr.nodes.nine hn
  rw [eA] at c1
  obtain ⟨m, em⟩ : ∃ m, m = g.nodes.length := ⟨_, rfl⟩
  rw [← em] at c1 hn
  have HL := Lib.hid hL
  have hn2 : (n : Int) < m := by omega
  generalize g.nodes.getD n Nd.zero = x at lo d0 d1 d2 d3 d4 d5 d6 d7 d8 HL
  obtain ⟨kd, q0, q1, q2, q3, t, ru, lv, A, cap, ks⟩ := x
  dsimp only at lo d0 d1 d2 d3 d4 d5 d6 d7 d8
  clear h hin hf hki hL eA em hb1
  go_enter Try.func34, Try.ntmps34
  go_wp2_with fail
  obtain ⟨wb, ewb⟩ : ∃ u, u = w.alloc (.cells #[.int .i64 kd, .int .u64 q0, .int .u64 q1, .int .u64 q2, .int .u64 q3, .string t, .int .i64 ru, .int .i64 lv, .slice A ks.length cap] 41) := ⟨_, rfl⟩
  have KB : Blk wb w.heap.size #[.int .i64 kd, .int .u64 q0, .int .u64 q1, .int .u64 q2, .int .u64 q3, .string t, .int .i64 ru, .int .i64 lv, .slice A ks.length cap] 41 := by rw [ewb]; exact Blk.new _ _ _
  have BB : Below w.heap.size w wb := by rw [ewb]; exact B1 _ _
  rw [← ewb]
  clear ewb
  have up := fun (e : Ext wb) => bb BB e.grown
  have e2 : ∀ e : Ext wb, e.val.cell? ⟨p, 2, none⟩ = some (.map (some mb)) := fun e => c2 ⟨e.val, up e⟩
  have lo2 := fun (e : Ext wb) => lo ⟨e.val, up e⟩
  dsimp only at lo2
  have k0 : ∀ e : Ext wb, e.val.cell? ⟨w.heap.size, 0, none⟩ = some (.int .i64 kd) := fun e => Ext.cell (w := wb) (KB.cell 0) e
  have k1 : ∀ e : Ext wb, e.val.cell? ⟨w.heap.size, 1, none⟩ = some (.int .u64 q0) := fun e => Ext.cell (w := wb) (KB.cell 1) e
  have k2 : ∀ e : Ext wb, e.val.cell? ⟨w.heap.size, 2, none⟩ = some (.int .u64 q1) := fun e => Ext.cell (w := wb) (KB.cell 2) e
  have k3 : ∀ e : Ext wb, e.val.cell? ⟨w.heap.size, 3, none⟩ = some (.int .u64 q2) := fun e => Ext.cell (w := wb) (KB.cell 3) e
  have k4 : ∀ e : Ext wb, e.val.cell? ⟨w.heap.size, 4, none⟩ = some (.int .u64 q3) := fun e => Ext.cell (w := wb) (KB.cell 4) e
  have k5 : ∀ e : Ext wb, e.val.cell? ⟨w.heap.size, 5, none⟩ = some (.string t) := fun e => Ext.cell (w := wb) (KB.cell 5) e
  have k6 : ∀ e : Ext wb, e.val.cell? ⟨w.heap.size, 6, none⟩ = some (.int .i64 ru) := fun e => Ext.cell (w := wb) (KB.cell 6) e
  have k7 : ∀ e : Ext wb, e.val.cell? ⟨w.heap.size, 7, none⟩ = some (.int .i64 lv) := fun e => Ext.cell (w := wb) (KB.cell 7) e
  have k8 : ∀ e : Ext wb, e.val.cell? ⟨w.heap.size, 8, none⟩ = some (.slice A ks.length cap) := fun e => Ext.cell (w := wb) (KB.cell 8) e
  have L2 := Lib.hid (fun (e : Ext wb) => HL.out e.val (up e))
  have HB := Lib.hid BB
  clear up BB KB c2 lo HL c1 d0 d1 d2 d3 d4 d5 d6 d7 d8 hn hn2
  refine wp_region_ext (by kernel_rfl) (by kernel_rfl) ?_
  repeat (first | go_big_quiet_step (first | (go_at_call 73; with_reducible exact Calls.ext_of (L2.out _))) | quiet_step (first | (go_at_call 73; with_reducible exact Calls.ext_of (L2.out _))))
  refine wpQuiet_nil ?_
  intro wd hw'
  obtain ⟨⟨wd', hb9⟩, e9⟩ := hw'
  obtain rfl : wd = wd' := e9
  have B9 := Lib.hid (bb HB.out hb9)
  clear hb9 k0 k1 k2 k3 k4 k5 k6 k7 k8 e2 lo2
  go_wp2_with fail
  go_ret
  exact ⟨rfl, B9.out⟩
set_option maxRecDepth 100000 in
set_option maxHeartbeats 2000000 in
theorem may_never {w : World} {p mb rb : Nat} {g : Gr} {r : List Int} (h : Wrk w p g mb rb r) (hin : Gr.In g) (n : Nat) (hn : n < g.nodes.length) (b : Bool) (hf : find (g.nodes.getD n Nd.zero).kind lws = some ((74 : Nat) : Int))
    (hL : ∀ w', Below w.heap.size w w' → Calls Try.prog 74 #[.pointer (some ⟨p, 0, none⟩), (g.nodes.getD n Nd.zero).val] w' fun e w'' => e = .returned (.bool b) ∧ Below w'.heap.size w' w'') :
    Calls Try.prog 34 #[.pointer (some ⟨p, 0, none⟩), .int .i64 n] w fun e w' => e = .returned (.bool b) ∧ Below w.heap.size w w' := by
  have c1 := h.box.cell 1
  have c2 := fun (e : Ext w) => (h.box.below' e.grown).cell 2
  simp only [List.getElem?_toArray, List.getElem?_cons_zero, List.getElem?_cons_succ] at c1 c2
  have hki := (hin _ (show g.nodes.getD n Nd.zero ∈ g.nodes by simp [List.getD, List.getElem?_eq_getElem hn])).kind
  have lo := fun (e : Ext w) => lookL (h.laws.below e.grown) _ hki _ hf
  obtain ⟨b1, o1, eA, hb1, d0, d1, d2, d3, d4, d5, d6, d7, d8⟩ := h.gr.nodes.nine hn
  rw [eA] at c1
  obtain ⟨m, em⟩ : ∃ m, m = g.nodes.length := ⟨_, rfl⟩
  rw [← em] at c1 hn
  have HL := Lib.hid hL
  have hn2 : (n : Int) < m := by omega
  generalize g.nodes.getD n Nd.zero = x at lo d0 d1 d2 d3 d4 d5 d6 d7 d8 HL
  obtain ⟨kd, q0, q1, q2, q3, t, ru, lv, A, cap, ks⟩ := x
  dsimp only at lo d0 d1 d2 d3 d4 d5 d6 d7 d8
  clear h hin hf hki hL eA em hb1
  go_enter Try.func34, Try.ntmps34
  go_wp2_with fail
  obtain ⟨wb, ewb⟩ : ∃ u, u = w.alloc (.cells #[.int .i64 kd, .int .u64 q0, .int .u64 q1, .int .u64 q2, .int .u64 q3, .string t, .int .i64 ru, .int .i64 lv, .slice A ks.length cap] 41) := ⟨_, rfl⟩
  have KB : Blk wb w.heap.size #[.int .i64 kd, .int .u64 q0, .int .u64 q1, .int .u64 q2, .int .u64 q3, .string t, .int .i64 ru, .int .i64 lv, .slice A ks.length cap] 41 := by rw [ewb]; exact Blk.new _ _ _
  have BB : Below w.heap.size w wb := by rw [ewb]; exact B1 _ _
  rw [← ewb]
  clear ewb
  have up := fun (e : Ext wb) => bb BB e.grown
  have e2 : ∀ e : Ext wb, e.val.cell? ⟨p, 2, none⟩ = some (.map (some mb)) := fun e => c2 ⟨e.val, up e⟩
  have lo2 := fun (e : Ext wb) => lo ⟨e.val, up e⟩
  dsimp only at lo2
  have k0 : ∀ e : Ext wb, e.val.cell? ⟨w.heap.size, 0, none⟩ = some (.int .i64 kd) := fun e => Ext.cell (w := wb) (KB.cell 0) e
  have k1 : ∀ e : Ext wb, e.val.cell? ⟨w.heap.size, 1, none⟩ = some (.int .u64 q0) := fun e => Ext.cell (w := wb) (KB.cell 1) e
  have k2 : ∀ e : Ext wb, e.val.cell? ⟨w.heap.size, 2, none⟩ = some (.int .u64 q1) := fun e => Ext.cell (w := wb) (KB.cell 2) e
  have k3 : ∀ e : Ext wb, e.val.cell? ⟨w.heap.size, 3, none⟩ = some (.int .u64 q2) := fun e => Ext.cell (w := wb) (KB.cell 3) e
  have k4 : ∀ e : Ext wb, e.val.cell? ⟨w.heap.size, 4, none⟩ = some (.int .u64 q3) := fun e => Ext.cell (w := wb) (KB.cell 4) e
  have k5 : ∀ e : Ext wb, e.val.cell? ⟨w.heap.size, 5, none⟩ = some (.string t) := fun e => Ext.cell (w := wb) (KB.cell 5) e
  have k6 : ∀ e : Ext wb, e.val.cell? ⟨w.heap.size, 6, none⟩ = some (.int .i64 ru) := fun e => Ext.cell (w := wb) (KB.cell 6) e
  have k7 : ∀ e : Ext wb, e.val.cell? ⟨w.heap.size, 7, none⟩ = some (.int .i64 lv) := fun e => Ext.cell (w := wb) (KB.cell 7) e
  have k8 : ∀ e : Ext wb, e.val.cell? ⟨w.heap.size, 8, none⟩ = some (.slice A ks.length cap) := fun e => Ext.cell (w := wb) (KB.cell 8) e
  have L2 := Lib.hid (fun (e : Ext wb) => HL.out e.val (up e))
  have HB := Lib.hid BB
  clear up BB KB c2 lo HL c1 d0 d1 d2 d3 d4 d5 d6 d7 d8 hn hn2
  refine wp_region_ext (by kernel_rfl) (by kernel_rfl) ?_
  repeat (first | go_big_quiet_step (first | (go_at_call 74; with_reducible exact Calls.ext_of (L2.out _))) | quiet_step (first | (go_at_call 74; with_reducible exact Calls.ext_of (L2.out _))))
  refine wpQuiet_nil ?_
  intro wd hw'
  obtain ⟨⟨wd', hb9⟩, e9⟩ := hw'
  obtain rfl : wd = wd' := e9
  have B9 := Lib.hid (bb HB.out hb9)
  clear hb9 k0 k1 k2 k3 k4 k5 k6 k7 k8 e2 lo2
  go_wp2_with fail
  go_ret
  exact ⟨rfl, B9.out⟩
set_option maxRecDepth 100000 in
set_option maxHeartbeats 2000000 in
theorem may_called {w : World} {p mb rb : Nat} {g : Gr} {r : List Int} (h : Wrk w p g mb rb r) (hin : Gr.In g) (n : Nat) (hn : n < g.nodes.length) (b : Bool) (hf : find (g.nodes.getD n Nd.zero).kind lws = some ((75 : Nat) : Int))
    (hL : ∀ w', Below w.heap.size w w' → Calls Try.prog 75 #[.pointer (some ⟨p, 0, none⟩), (g.nodes.getD n Nd.zero).val] w' fun e w'' => e = .returned (.bool b) ∧ Below w'.heap.size w' w'') :
    Calls Try.prog 34 #[.pointer (some ⟨p, 0, none⟩), .int .i64 n] w fun e w' => e = .returned (.bool b) ∧ Below w.heap.size w w' := by
  have c1 := h.box.cell 1
  have c2 := fun (e : Ext w) => (h.box.below' e.grown).cell 2
  simp only [List.getElem?_toArray, List.getElem?_cons_zero, List.getElem?_cons_succ] at c1 c2
  have hki := (hin _ (show g.nodes.getD n Nd.zero ∈ g.nodes by simp [List.getD, List.getElem?_eq_getElem hn])).kind
  have lo := fun (e : Ext w) => lookL (h.laws.below e.grown) _ hki _ hf
  obtain ⟨b1, o1, eA, hb1, d0, d1, d2, d3, d4, d5, d6, d7, d8⟩ := h.gr.nodes.nine hn
  rw [eA] at c1
  obtain ⟨m, em⟩ : ∃ m, m = g.nodes.length := ⟨_, rfl⟩
  rw [← em] at c1 hn
  have HL := Lib.hid hL
  have hn2 : (n : Int) < m := by omega
  generalize g.nodes.getD n Nd.zero = x at lo d0 d1 d2 d3 d4 d5 d6 d7 d8 HL
  obtain ⟨kd, q0, q1, q2, q3, t, ru, lv, A, cap, ks⟩ := x
  dsimp only at lo d0 d1 d2 d3 d4 d5 d6 d7 d8
  clear h hin hf hki hL eA em hb1
  go_enter Try.func34, Try.ntmps34
  go_wp2_with fail
  obtain ⟨wb, ewb⟩ : ∃ u, u = w.alloc (.cells #[.int .i64 kd, .int .u64 q0, .int .u64 q1, .int .u64 q2, .int .u64 q3, .string t, .int .i64 ru, .int .i64 lv, .slice A ks.length cap] 41) := ⟨_, rfl⟩
  have KB : Blk wb w.heap.size #[.int .i64 kd, .int .u64 q0, .int .u64 q1, .int .u64 q2, .int .u64 q3, .string t, .int .i64 ru, .int .i64 lv, .slice A ks.length cap] 41 := by rw [ewb]; exact Blk.new _ _ _
  have BB : Below w.heap.size w wb := by rw [ewb]; exact B1 _ _
  rw [← ewb]
  clear ewb
  have up := fun (e : Ext wb) => bb BB e.grown
  have e2 : ∀ e : Ext wb, e.val.cell? ⟨p, 2, none⟩ = some (.map (some mb)) := fun e => c2 ⟨e.val, up e⟩
  have lo2 := fun (e : Ext wb) => lo ⟨e.val, up e⟩
  dsimp only at lo2
  have k0 : ∀ e : Ext wb, e.val.cell? ⟨w.heap.size, 0, none⟩ = some (.int .i64 kd) := fun e => Ext.cell (w := wb) (KB.cell 0) e
  have k1 : ∀ e : Ext wb, e.val.cell? ⟨w.heap.size, 1, none⟩ = some (.int .u64 q0) := fun e => Ext.cell (w := wb) (KB.cell 1) e
  have k2 : ∀ e : Ext wb, e.val.cell? ⟨w.heap.size, 2, none⟩ = some (.int .u64 q1) := fun e => Ext.cell (w := wb) (KB.cell 2) e
  have k3 : ∀ e : Ext wb, e.val.cell? ⟨w.heap.size, 3, none⟩ = some (.int .u64 q2) := fun e => Ext.cell (w := wb) (KB.cell 3) e
  have k4 : ∀ e : Ext wb, e.val.cell? ⟨w.heap.size, 4, none⟩ = some (.int .u64 q3) := fun e => Ext.cell (w := wb) (KB.cell 4) e
  have k5 : ∀ e : Ext wb, e.val.cell? ⟨w.heap.size, 5, none⟩ = some (.string t) := fun e => Ext.cell (w := wb) (KB.cell 5) e
  have k6 : ∀ e : Ext wb, e.val.cell? ⟨w.heap.size, 6, none⟩ = some (.int .i64 ru) := fun e => Ext.cell (w := wb) (KB.cell 6) e
  have k7 : ∀ e : Ext wb, e.val.cell? ⟨w.heap.size, 7, none⟩ = some (.int .i64 lv) := fun e => Ext.cell (w := wb) (KB.cell 7) e
  have k8 : ∀ e : Ext wb, e.val.cell? ⟨w.heap.size, 8, none⟩ = some (.slice A ks.length cap) := fun e => Ext.cell (w := wb) (KB.cell 8) e
  have L2 := Lib.hid (fun (e : Ext wb) => HL.out e.val (up e))
  have HB := Lib.hid BB
  clear up BB KB c2 lo HL c1 d0 d1 d2 d3 d4 d5 d6 d7 d8 hn hn2
  refine wp_region_ext (by kernel_rfl) (by kernel_rfl) ?_
  repeat (first | go_big_quiet_step (first | (go_at_call 75; with_reducible exact Calls.ext_of (L2.out _))) | quiet_step (first | (go_at_call 75; with_reducible exact Calls.ext_of (L2.out _))))
  refine wpQuiet_nil ?_
  intro wd hw'
  obtain ⟨⟨wd', hb9⟩, e9⟩ := hw'
  obtain rfl : wd = wd' := e9
  have B9 := Lib.hid (bb HB.out hb9)
  clear hb9 k0 k1 k2 k3 k4 k5 k6 k7 k8 e2 lo2
  go_wp2_with fail
  go_ret
  exact ⟨rfl, B9.out⟩
set_option maxRecDepth 100000 in
set_option maxHeartbeats 2000000 in
theorem may_each {w : World} {p mb rb : Nat} {g : Gr} {r : List Int} (h : Wrk w p g mb rb r) (hin : Gr.In g) (n : Nat) (hn : n < g.nodes.length) (b : Bool) (hf : find (g.nodes.getD n Nd.zero).kind lws = some ((76 : Nat) : Int))
    (hL : ∀ w', Below w.heap.size w w' → Calls Try.prog 76 #[.pointer (some ⟨p, 0, none⟩), (g.nodes.getD n Nd.zero).val] w' fun e w'' => e = .returned (.bool b) ∧ Below w'.heap.size w' w'') :
    Calls Try.prog 34 #[.pointer (some ⟨p, 0, none⟩), .int .i64 n] w fun e w' => e = .returned (.bool b) ∧ Below w.heap.size w w' := by
  have c1 := h.box.cell 1
  have c2 := fun (e : Ext w) => (h.box.below' e.grown).cell 2
  simp only [List.getElem?_toArray, List.getElem?_cons_zero, List.getElem?_cons_succ] at c1 c2
  have hki := (hin _ (show g.nodes.getD n Nd.zero ∈ g.nodes by simp [List.getD, List.getElem?_eq_getElem hn])).kind
  have lo := fun (e : Ext w) => lookL (h.laws.below e.grown) _ hki _ hf
  obtain ⟨b1, o1, eA, hb1, d0, d1, d2, d3, d4, d5, d6, d7, d8⟩ := h.gr.nodes.nine hn
  rw [eA] at c1
  obtain ⟨m, em⟩ : ∃ m, m = g.nodes.length := ⟨_, rfl⟩
  rw [← em] at c1 hn
  have HL := Lib.hid hL
  have hn2 : (n : Int) < m := by omega
  generalize g.nodes.getD n Nd.zero = x at lo d0 d1 d2 d3 d4 d5 d6 d7 d8 HL
  obtain ⟨kd, q0, q1, q2, q3, t, ru, lv, A, cap, ks⟩ := x
  dsimp only at lo d0 d1 d2 d3 d4 d5 d6 d7 d8
  clear h hin hf hki hL eA em hb1
  go_enter Try.func34, Try.ntmps34
  go_wp2_with fail
  obtain ⟨wb, ewb⟩ : ∃ u, u = w.alloc (.cells #[.int .i64 kd, .int .u64 q0, .int .u64 q1, .int .u64 q2, .int .u64 q3, .string t, .int .i64 ru, .int .i64 lv, .slice A ks.length cap] 41) := ⟨_, rfl⟩
  have KB : Blk wb w.heap.size #[.int .i64 kd, .int .u64 q0, .int .u64 q1, .int .u64 q2, .int .u64 q3, .string t, .int .i64 ru, .int .i64 lv, .slice A ks.length cap] 41 := by rw [ewb]; exact Blk.new _ _ _
  have BB : Below w.heap.size w wb := by rw [ewb]; exact B1 _ _
  rw [← ewb]
  clear ewb
  have up := fun (e : Ext wb) => bb BB e.grown
  have e2 : ∀ e : Ext wb, e.val.cell? ⟨p, 2, none⟩ = some (.map (some mb)) := fun e => c2 ⟨e.val, up e⟩
  have lo2 := fun (e : Ext wb) => lo ⟨e.val, up e⟩
  dsimp only at lo2
  have k0 : ∀ e : Ext wb, e.val.cell? ⟨w.heap.size, 0, none⟩ = some (.int .i64 kd) := fun e => Ext.cell (w := wb) (KB.cell 0) e
  have k1 : ∀ e : Ext wb, e.val.cell? ⟨w.heap.size, 1, none⟩ = some (.int .u64 q0) := fun e => Ext.cell (w := wb) (KB.cell 1) e
  have k2 : ∀ e : Ext wb, e.val.cell? ⟨w.heap.size, 2, none⟩ = some (.int .u64 q1) := fun e => Ext.cell (w := wb) (KB.cell 2) e
  have k3 : ∀ e : Ext wb, e.val.cell? ⟨w.heap.size, 3, none⟩ = some (.int .u64 q2) := fun e => Ext.cell (w := wb) (KB.cell 3) e
  have k4 : ∀ e : Ext wb, e.val.cell? ⟨w.heap.size, 4, none⟩ = some (.int .u64 q3) := fun e => Ext.cell (w := wb) (KB.cell 4) e
  have k5 : ∀ e : Ext wb, e.val.cell? ⟨w.heap.size, 5, none⟩ = some (.string t) := fun e => Ext.cell (w := wb) (KB.cell 5) e
  have k6 : ∀ e : Ext wb, e.val.cell? ⟨w.heap.size, 6, none⟩ = some (.int .i64 ru) := fun e => Ext.cell (w := wb) (KB.cell 6) e
  have k7 : ∀ e : Ext wb, e.val.cell? ⟨w.heap.size, 7, none⟩ = some (.int .i64 lv) := fun e => Ext.cell (w := wb) (KB.cell 7) e
  have k8 : ∀ e : Ext wb, e.val.cell? ⟨w.heap.size, 8, none⟩ = some (.slice A ks.length cap) := fun e => Ext.cell (w := wb) (KB.cell 8) e
  have L2 := Lib.hid (fun (e : Ext wb) => HL.out e.val (up e))
  have HB := Lib.hid BB
  clear up BB KB c2 lo HL c1 d0 d1 d2 d3 d4 d5 d6 d7 d8 hn hn2
  refine wp_region_ext (by kernel_rfl) (by kernel_rfl) ?_
  repeat (first | go_big_quiet_step (first | (go_at_call 76; with_reducible exact Calls.ext_of (L2.out _))) | quiet_step (first | (go_at_call 76; with_reducible exact Calls.ext_of (L2.out _))))
  refine wpQuiet_nil ?_
  intro wd hw'
  obtain ⟨⟨wd', hb9⟩, e9⟩ := hw'
  obtain rfl : wd = wd' := e9
  have B9 := Lib.hid (bb HB.out hb9)
  clear hb9 k0 k1 k2 k3 k4 k5 k6 k7 k8 e2 lo2
  go_wp2_with fail
  go_ret
  exact ⟨rfl, B9.out⟩
set_option maxRecDepth 100000 in
set_option maxHeartbeats 2000000 in
theorem may_some {w : World} {p mb rb : Nat} {g : Gr} {r : List Int} (h : Wrk w p g mb rb r) (hin : Gr.In g) (n : Nat) (hn : n < g.nodes.length) (b : Bool) (hf : find (g.nodes.getD n Nd.zero).kind lws = some ((77 : Nat) : Int))
    (hL : ∀ w', Below w.heap.size w w' → Calls Try.prog 77 #[.pointer (some ⟨p, 0, none⟩), (g.nodes.getD n Nd.zero).val] w' fun e w'' => e = .returned (.bool b) ∧ Below w'.heap.size w' w'') :
    Calls Try.prog 34 #[.pointer (some ⟨p, 0, none⟩), .int .i64 n] w fun e w' => e = .returned (.bool b) ∧ Below w.heap.size w w' := by
  have c1 := h.box.cell 1
  have c2 := fun (e : Ext w) => (h.box.below' e.grown).cell 2
  simp only [List.getElem?_toArray, List.getElem?_cons_zero, List.getElem?_cons_succ] at c1 c2
  have hki := (hin _ (show g.nodes.getD n Nd.zero ∈ g.nodes by simp [List.getD, List.getElem?_eq_getElem hn])).kind
  have lo := fun (e : Ext w) => lookL (h.laws.below e.grown) _ hki _ hf
  obtain ⟨b1, o1, eA, hb1, d0, d1, d2, d3, d4, d5, d6, d7, d8⟩ := h.gr.nodes.nine hn
  rw [eA] at c1
  obtain ⟨m, em⟩ : ∃ m, m = g.nodes.length := ⟨_, rfl⟩
  rw [← em] at c1 hn
  have HL := Lib.hid hL
  have hn2 : (n : Int) < m := by omega
  generalize g.nodes.getD n Nd.zero = x at lo d0 d1 d2 d3 d4 d5 d6 d7 d8 HL
  obtain ⟨kd, q0, q1, q2, q3, t, ru, lv, A, cap, ks⟩ := x
  dsimp only at lo d0 d1 d2 d3 d4 d5 d6 d7 d8
  clear h hin hf hki hL eA em hb1
  go_enter Try.func34, Try.ntmps34
  go_wp2_with fail
  obtain ⟨wb, ewb⟩ : ∃ u, u = w.alloc (.cells #[.int .i64 kd, .int .u64 q0, .int .u64 q1, .int .u64 q2, .int .u64 q3, .string t, .int .i64 ru, .int .i64 lv, .slice A ks.length cap] 41) := ⟨_, rfl⟩
  have KB : Blk wb w.heap.size #[.int .i64 kd, .int .u64 q0, .int .u64 q1, .int .u64 q2, .int .u64 q3, .string t, .int .i64 ru, .int .i64 lv, .slice A ks.length cap] 41 := by rw [ewb]; exact Blk.new _ _ _
  have BB : Below w.heap.size w wb := by rw [ewb]; exact B1 _ _
  rw [← ewb]
  clear ewb
  have up := fun (e : Ext wb) => bb BB e.grown
  have e2 : ∀ e : Ext wb, e.val.cell? ⟨p, 2, none⟩ = some (.map (some mb)) := fun e => c2 ⟨e.val, up e⟩
  have lo2 := fun (e : Ext wb) => lo ⟨e.val, up e⟩
  dsimp only at lo2
  have k0 : ∀ e : Ext wb, e.val.cell? ⟨w.heap.size, 0, none⟩ = some (.int .i64 kd) := fun e => Ext.cell (w := wb) (KB.cell 0) e
  have k1 : ∀ e : Ext wb, e.val.cell? ⟨w.heap.size, 1, none⟩ = some (.int .u64 q0) := fun e => Ext.cell (w := wb) (KB.cell 1) e
  have k2 : ∀ e : Ext wb, e.val.cell? ⟨w.heap.size, 2, none⟩ = some (.int .u64 q1) := fun e => Ext.cell (w := wb) (KB.cell 2) e
  have k3 : ∀ e : Ext wb, e.val.cell? ⟨w.heap.size, 3, none⟩ = some (.int .u64 q2) := fun e => Ext.cell (w := wb) (KB.cell 3) e
  have k4 : ∀ e : Ext wb, e.val.cell? ⟨w.heap.size, 4, none⟩ = some (.int .u64 q3) := fun e => Ext.cell (w := wb) (KB.cell 4) e
  have k5 : ∀ e : Ext wb, e.val.cell? ⟨w.heap.size, 5, none⟩ = some (.string t) := fun e => Ext.cell (w := wb) (KB.cell 5) e
  have k6 : ∀ e : Ext wb, e.val.cell? ⟨w.heap.size, 6, none⟩ = some (.int .i64 ru) := fun e => Ext.cell (w := wb) (KB.cell 6) e
  have k7 : ∀ e : Ext wb, e.val.cell? ⟨w.heap.size, 7, none⟩ = some (.int .i64 lv) := fun e => Ext.cell (w := wb) (KB.cell 7) e
  have k8 : ∀ e : Ext wb, e.val.cell? ⟨w.heap.size, 8, none⟩ = some (.slice A ks.length cap) := fun e => Ext.cell (w := wb) (KB.cell 8) e
  have L2 := Lib.hid (fun (e : Ext wb) => HL.out e.val (up e))
  have HB := Lib.hid BB
  clear up BB KB c2 lo HL c1 d0 d1 d2 d3 d4 d5 d6 d7 d8 hn hn2
  refine wp_region_ext (by kernel_rfl) (by kernel_rfl) ?_
  repeat (first | go_big_quiet_step (first | (go_at_call 77; with_reducible exact Calls.ext_of (L2.out _))) | quiet_step (first | (go_at_call 77; with_reducible exact Calls.ext_of (L2.out _))))
  refine wpQuiet_nil ?_
  intro wd hw'
  obtain ⟨⟨wd', hb9⟩, e9⟩ := hw'
  obtain rfl : wd = wd' := e9
  have B9 := Lib.hid (bb HB.out hb9)
  clear hb9 k0 k1 k2 k3 k4 k5 k6 k7 k8 e2 lo2
  go_wp2_with fail
  go_ret
  exact ⟨rfl, B9.out⟩
theorem find_lws {c : Int} (h : 1 ≤ c ∧ c ≤ 12) : find c lws = some (((if c = 1 ∨ c = 8 ∨ c = 10 ∨ c = 11 ∨ c = 12 then 73 else if c = 6 ∨ c = 9 then 76 else if c = 7 then 77 else if c = 5 then 75 else 74 : Nat) : Nat) : Int) := by
  obtain rfl | rfl | rfl | rfl | rfl | rfl | rfl | rfl | rfl | rfl | rfl | rfl : c = 1 ∨ c = 2 ∨ c = 3 ∨ c = 4 ∨ c = 5 ∨ c = 6 ∨ c = 7 ∨ c = 8 ∨ c = 9 ∨ c = 10 ∨ c = 11 ∨ c = 12 := by omega
  all_goals simp [find, lws]
theorem may_any {p mb rb : Nat} {g : Gr} {r : List Int} (hin : Gr.In g) (hR : Right g) : ∀ (d n : Nat), n < g.nodes.length → g.nodes.length - n ≤ d → ∀ w, Wrk w p g mb rb r →
    Calls Try.prog 34 #[.pointer (some ⟨p, 0, none⟩), .int .i64 n] w fun e w' => e = .returned (.bool (mayN g.nodes (inB r) n)) ∧ Below w.heap.size w w'
  | 0, n, hn, hd, w, h => by omega
  | d + 1, n, hn, hd, w, h => by
    have hk := kinds (hR.all n hn)
    have hf := find_lws ⟨hk.1, hk.2.1⟩
    have hup := hR.kidsUp n hn
    have hE := mayN_eq hR.kidsUp (inB r) (n := (n : Int)) (by omega) (by omega)
    rw [Int.toNat_natCast] at hE
    have hq : ∀ k ∈ (g.nodes.getD n Nd.zero).kids, ∀ w', Below w.heap.size w w' → Calls Try.prog 34 #[.pointer (some ⟨p, 0, none⟩), .int .i64 k] w' fun e w'' => e = .returned (.bool (mayN g.nodes (inB r) k)) ∧ Below w'.heap.size w' w'' := by
      intro k hk' w' hb
      have := hup k hk'
      have := may_any hin hR d k.toNat (by omega) (by omega) w' (h.below hb)
      rw [show ((k.toNat : Nat) : Int) = k by omega] at this
      exact this
    have hx := h.gr.node hn
    rw [hE]
    unfold stepMay
    by_cases a1 : (g.nodes.getD n Nd.zero).kind = 1 ∨ (g.nodes.getD n Nd.zero).kind = 8 ∨ (g.nodes.getD n Nd.zero).kind = 10 ∨ (g.nodes.getD n Nd.zero).kind = 11 ∨ (g.nodes.getD n Nd.zero).kind = 12
    · rw [if_pos a1] at hf ⊢
      exact may_always h hin n hn _ hf fun w' hb => always_any _ _ w'
    · rw [if_neg a1] at hf ⊢
      by_cases a2 : (g.nodes.getD n Nd.zero).kind = 6 ∨ (g.nodes.getD n Nd.zero).kind = 9
      · rw [if_pos a2] at hf ⊢
        exact may_each h hin n hn _ hf fun w' hb => each_any p _ _ w' (hx.below hb) fun k hk w'' hb2 => hq k hk w'' (hb.trans (hb2.mono hb.size))
      · rw [if_neg a2] at hf ⊢
        by_cases a3 : (g.nodes.getD n Nd.zero).kind = 7
        · rw [if_pos a3] at hf ⊢
          exact may_some h hin n hn _ hf fun w' hb => some_any p _ _ w' (hx.below hb) fun k hk w'' hb2 => hq k hk w'' (hb.trans (hb2.mono hb.size))
        · rw [if_neg a3] at hf ⊢
          by_cases a4 : (g.nodes.getD n Nd.zero).kind = 5
          · rw [if_pos a4] at hf ⊢
            exact may_called h hin n hn _ hf fun w' hb => called_any (h.below hb) _ (hk.2.2 a4).1 (hk.2.2 a4).2
          · rw [if_neg a4] at hf ⊢
            exact may_never h hin n hn _ hf fun w' hb => never_any _ _ w'
end Go.Proofs.Ytjelgmdjmjnnfaa
namespace Go.Proofs.Ytjelgmdjmjnnfaa
open Go Go.RowKit Go.Maps
def rowOf' (n : Nat) (p : Nat → Bool) : List Nat := (List.range n).filter p
theorem rowOf_succ (n : Nat) (p : Nat → Bool) : rowOf' (n + 1) p = if p n then rowOf' n p ++ [n] else rowOf' n p := by
  unfold rowOf'
  rw [List.range_succ, List.filter_append]
  cases h : p n <;> simp [h]
theorem rowOf_mem {n : Nat} {p : Nat → Bool} {i : Nat} : i ∈ rowOf' n p ↔ i < n ∧ p i = true := by simp [rowOf']
theorem rowOf_len (p : Nat → Bool) : ∀ n : Nat, (rowOf' n p).length ≤ n
  | 0 => by simp [rowOf']
  | n + 1 => by rw [rowOf_succ]; have := rowOf_len p n; split <;> simp <;> omega
theorem rowOf_congr {n : Nat} {p q : Nat → Bool} (h : ∀ i, i < n → p i = q i) : rowOf' n p = rowOf' n q := by
  unfold rowOf'
  exact List.filter_congr fun i hi => h i (by simpa using hi)
def nums (l : List Nat) : List Int := l.map fun (k : Nat) => (k : Int)
theorem nums_len (l : List Nat) : (nums l).length = l.length := by simp [nums]
theorem nums_app (l : List Nat) (k : Nat) : nums (l ++ [k]) = nums l ++ [(k : Int)] := by simp [nums]
theorem nums_at {l : List Nat} {i : Nat} : (nums l).getD i 0 = (l.getD i 0 : Nat) := by
  simp only [nums, List.getD, List.getElem?_map]
  cases l[i]? <;> simp
theorem bodies_in {len : Nat} {ms : Nat → Meas} (h1 : ∀ m, m < len → 1 ≤ (ms m).1) : ∀ (l : List Rl) (next to : Int), 0 ≤ next → bodies len ms l next = some to → ∀ i, i < l.length → 0 ≤ (l.getD i Rl.zero).body ∧ (l.getD i Rl.zero).body < len
  | [], _, _, _, _, i, hi => by simp at hi
  | r :: l, next, to, hn, h, i, hi => by
    unfold bodies at h
    split at h
    · rename_i hc
      obtain ⟨a, b, _⟩ := hc
      have hm := h1 next.toNat (by omega)
      cases i with
      | zero => show 0 ≤ r.body ∧ r.body < len; omega
      | succ i =>
        have := bodies_in h1 l _ to (by omega) h i (by simpa using hi)
        simpa using this
    · cases h
theorem Right.body {g : Gr} (h : Right g) (i : Nat) (hi : i < g.rules.length) : 0 ≤ (g.rules.getD i Rl.zero).body ∧ (g.rules.getD i Rl.zero).body < g.nodes.length := by
  obtain ⟨ms, hm, hb⟩ := h.pre
  exact bodies_in (fun m hl => (hm m (by omega) hl).1) g.rules 0 _ (by omega) hb i hi
/-- A rising row that is told. -/
def Row (w : World) (L : List Nat) (e : Ending) (w' : World) : Prop := (∃ v, e = .returned v ∧ w'.ownsRow w.heap.size 3 1 v L.length (ints (nums L)) ∧ (v = .slice none 0 0 ↔ L = [])) ∧ Below w.heap.size w w'
theorem row_nil (w w' : World) (hb : Below w.heap.size w w') : Row w [] (.returned (.slice none 0 0)) w' := ⟨⟨_, rfl, World.ownsRow_nil _ _ _ _, by simp⟩, hb⟩
set_option maxRecDepth 100000 in
set_option maxHeartbeats 2000000 in
theorem all_in (m p : Nat) (q : Nat → Bool) (hm : m ≤ 100000) (w : World)
    (hP : ∀ W, Below w.heap.size w W → ∀ r, r < m → Calls Try.prog 94 #[.pointer (some ⟨p, 0, none⟩), .int .i64 r] W fun e w' => e = .returned (.bool (q r)) ∧ Below W.heap.size W w') :
    Calls Try.prog 33 #[.int .i64 m, .func (.func 94) #[.pointer (some ⟨p, 0, none⟩)] #[]] w (Row w (rowOf' m q)) := by
  obtain ⟨i0, hi, hz0, hz1, hz2⟩ := info_parts Try.info3
  have HP := Lib.hid hP
  clear hP
  go_enter Try.func33, Try.ntmps33
  go_wp2_with fail
  go_loopw [5, 8] (fun l i wr => ∃ k : Nat, k ≤ m ∧ i = .int .i64 k ∧ wr.ownsRow w.heap.size 3 1 l (rowOf' k q).length (ints (nums (rowOf' k q))) ∧ (l = .slice none 0 0 ↔ rowOf' k q = []) ∧ Below w.heap.size w wr) (fun _ i _ => m - (intOf i).toNat)
  case atStart => exact ⟨0, by omega, by go_num, World.ownsRow_nil _ _ _ _, by simp [rowOf'], Below.refl _ _⟩
  case round =>
    obtain ⟨k, hk, rfl, hown, hnil, hb⟩ := hrel
    by_cases hlt : k < m
    · have hlt2 : (k : Int) < m := by omega
      have C := Lib.hid (HP.out wr hb k hlt)
      have RS := Lib.hid (rowOf_succ k q)
      have RL := Lib.hid (rowOf_len q k)
      have HO := Lib.hid hown
      have HN := Lib.hid hnil
      have HB := Lib.hid hb
      clear hown hnil hb
      cases hp : q k with
      | false =>
        rw [hp] at C RS
        clear hp
        go_wp2_with (go_at_call 94; (with_reducible refine C.out.mono ?_); rintro e w1 ⟨rfl, hb1⟩; have B1' := Lib.hid hb1; clear hb1)
        go_roundw
        case rel => exact ⟨k + 1, by omega, by go_num, by rw [RS.out]; exact own_below HO.out B1'.out, by rw [RS.out]; exact HN.out, HB.out.trans (B1'.out.mono HB.out.size)⟩
        case measure => simp [intOf]; omega
      | true =>
        rw [hp] at C RS
        clear hp
        go_wp2_with (first | (go_at_call 94; (with_reducible refine C.out.mono ?_); rintro e w1 ⟨rfl, hb1⟩; have B1' := Lib.hid hb1; have O1 := Lib.hid (own_below HO.out hb1); have BW := Lib.hid (HB.out.trans (hb1.mono HB.out.size)); clear hb1) | (at_builtin; refine wpList_append_own _ rfl _ _ 31 rfl w.heap.size 3 i0 (.int .i64 0) 1 8 Try.underlying31 hi hz0 hz1 hz2 rfl (by decide) _ _ _ rfl (O1.out.alloc _) ⟨w1.heap.size, 0, none⟩ 1 1 [.int .i64 k] rfl rfl (cell_one_new _ _ _) (by simp [Value.oneCell']) (by unfold maxLen; have := RL.out; omega) (by have := RL.out; omega) (by have := BW.out.size; simp; omega) ?_; intro v' w9 hown' hgrow hnil'; have O9 := Lib.hid hown'; have G9 := Lib.hid hgrow; have N9 := Lib.hid hnil'; clear hown' hgrow hnil'))
        go_roundw
        case rel =>
          refine ⟨k + 1, by omega, by go_num, ?_, ?_, ?_⟩
          · rw [RS.out, if_pos trivial, List.length_append, nums_app]
            have := O9.out
            simpa [ints] using this
          · rw [RS.out, if_pos trivial, N9.out]
            simp
          · refine grown_below (w := w1.alloc _) (BW.out.trans ((B1 w1 _).mono BW.out.size)) (by have := BW.out.size; simp; omega) G9.out (fun j e => (O1.out.lt j e).1)
        case measure => simp [intOf]; omega
    · obtain rfl : k = m := by omega
      have hlt2 : ¬ (k : Int) < k := by omega
      have HO := Lib.hid hown
      have HN := Lib.hid hnil
      have HB := Lib.hid hb
      clear hown hnil hb
      go_wp2_with fail
      go_ret
      exact ⟨⟨_, rfl, HO.out, HN.out⟩, HB.out⟩
set_option maxRecDepth 100000 in
set_option maxHeartbeats 2000000 in
theorem all_may (m p : Nat) (q : Nat → Bool) (hm : m ≤ 100000) (w : World)
    (hP : ∀ W, Below w.heap.size w W → ∀ r, r < m → Calls Try.prog 34 #[.pointer (some ⟨p, 0, none⟩), .int .i64 r] W fun e w' => e = .returned (.bool (q r)) ∧ Below W.heap.size W w') :
    Calls Try.prog 33 #[.int .i64 m, .func (.func 34) #[.pointer (some ⟨p, 0, none⟩)] #[]] w (Row w (rowOf' m q)) := by
  obtain ⟨i0, hi, hz0, hz1, hz2⟩ := info_parts Try.info3
  have HP := Lib.hid hP
  clear hP
  go_enter Try.func33, Try.ntmps33
  go_wp2_with fail
  go_loopw [5, 8] (fun l i wr => ∃ k : Nat, k ≤ m ∧ i = .int .i64 k ∧ wr.ownsRow w.heap.size 3 1 l (rowOf' k q).length (ints (nums (rowOf' k q))) ∧ (l = .slice none 0 0 ↔ rowOf' k q = []) ∧ Below w.heap.size w wr) (fun _ i _ => m - (intOf i).toNat)
  case atStart => exact ⟨0, by omega, by go_num, World.ownsRow_nil _ _ _ _, by simp [rowOf'], Below.refl _ _⟩
  case round =>
    obtain ⟨k, hk, rfl, hown, hnil, hb⟩ := hrel
    by_cases hlt : k < m
    · have hlt2 : (k : Int) < m := by omega
      have C := Lib.hid (HP.out wr hb k hlt)
      have RS := Lib.hid (rowOf_succ k q)
      have RL := Lib.hid (rowOf_len q k)
      have HO := Lib.hid hown
      have HN := Lib.hid hnil
      have HB := Lib.hid hb
      clear hown hnil hb
      cases hp : q k with
      | false =>
        rw [hp] at C RS
        clear hp
        go_wp2_with (go_at_call 34; (with_reducible refine C.out.mono ?_); rintro e w1 ⟨rfl, hb1⟩; have B1' := Lib.hid hb1; clear hb1)
        go_roundw
        case rel => exact ⟨k + 1, by omega, by go_num, by rw [RS.out]; exact own_below HO.out B1'.out, by rw [RS.out]; exact HN.out, HB.out.trans (B1'.out.mono HB.out.size)⟩
        case measure => simp [intOf]; omega
      | true =>
        rw [hp] at C RS
        clear hp
        go_wp2_with (first | (go_at_call 34; (with_reducible refine C.out.mono ?_); rintro e w1 ⟨rfl, hb1⟩; have B1' := Lib.hid hb1; have O1 := Lib.hid (own_below HO.out hb1); have BW := Lib.hid (HB.out.trans (hb1.mono HB.out.size)); clear hb1) | (at_builtin; refine wpList_append_own _ rfl _ _ 31 rfl w.heap.size 3 i0 (.int .i64 0) 1 8 Try.underlying31 hi hz0 hz1 hz2 rfl (by decide) _ _ _ rfl (O1.out.alloc _) ⟨w1.heap.size, 0, none⟩ 1 1 [.int .i64 k] rfl rfl (cell_one_new _ _ _) (by simp [Value.oneCell']) (by unfold maxLen; have := RL.out; omega) (by have := RL.out; omega) (by have := BW.out.size; simp; omega) ?_; intro v' w9 hown' hgrow hnil'; have O9 := Lib.hid hown'; have G9 := Lib.hid hgrow; have N9 := Lib.hid hnil'; clear hown' hgrow hnil'))
        go_roundw
        case rel =>
          refine ⟨k + 1, by omega, by go_num, ?_, ?_, ?_⟩
          · rw [RS.out, if_pos trivial, List.length_append, nums_app]
            have := O9.out
            simpa [ints] using this
          · rw [RS.out, if_pos trivial, N9.out]
            simp
          · refine grown_below (w := w1.alloc _) (BW.out.trans ((B1 w1 _).mono BW.out.size)) (by have := BW.out.size; simp; omega) G9.out (fun j e => (O1.out.lt j e).1)
        case measure => simp [intOf]; omega
    · obtain rfl : k = m := by omega
      have hlt2 : ¬ (k : Int) < k := by omega
      have HO := Lib.hid hown
      have HN := Lib.hid hnil
      have HB := Lib.hid hb
      clear hown hnil hb
      go_wp2_with fail
      go_ret
      exact ⟨⟨_, rfl, HO.out, HN.out⟩, HB.out⟩
set_option maxRecDepth 100000 in
set_option maxHeartbeats 2000000 in
theorem coming_any {p mb rb : Nat} {g : Gr} {r : List Int} (hin : Gr.In g) (hR : Right g) (w : World) (h : Wrk w p g mb rb r) :
    Calls Try.prog 79 #[.pointer (some ⟨p, 0, none⟩)] w (Row w (rowOf' g.rules.length (comB g r))) := by
  obtain ⟨i0, hi, hz0, hz1, hz2⟩ := info_parts Try.info3
  have IN := Lib.hid (fun (W : World) (b : Below w.heap.size w W) (i : Nat) (hi : i < g.rules.length) => in_any (h.below b) i hi)
  have MY := Lib.hid (fun (W : World) (b : Below w.heap.size w W) (i : Nat) (hi : i < g.rules.length) => by
    have hb := hR.body i hi
    have := may_any hin hR g.nodes.length (g.rules.getD i Rl.zero).body.toNat (by omega) (by omega) W (h.below b)
    rw [show (((g.rules.getD i Rl.zero).body.toNat : Nat) : Int) = (g.rules.getD i Rl.zero).body by omega] at this
    exact this)
  have c0 := h.box.cell 0
  simp only [List.getElem?_toArray, List.getElem?_cons_zero, List.getElem?_cons_succ] at c0
  have HA := Lib.hid h.gr.rules
  have h32 := hR.rules.2
  have CB := Lib.hid (fun i : Nat => show comB g r i = (!inB r i && mayN g.nodes (inB r) (g.rules.getD i Rl.zero).body) from rfl)
  generalize comB g r = q at CB ⊢
  obtain ⟨m, em⟩ : ∃ m, m = g.rules.length := ⟨_, rfl⟩
  rw [← em] at c0 h32 IN MY ⊢
  have EM := Lib.hid em
  clear h hin hR em
  go_enter Try.func79, Try.ntmps79
  go_wp2_with fail
  clear c0
  go_loopw [3, 12] (fun l i wr => ∃ k : Nat, k ≤ m ∧ i = .int .i64 k ∧ wr.ownsRow w.heap.size 3 1 l (rowOf' k q).length (ints (nums (rowOf' k q))) ∧ (l = .slice none 0 0 ↔ rowOf' k q = []) ∧ Below w.heap.size w wr) (fun _ i _ => m - (intOf i).toNat)
  case atStart => exact ⟨0, by omega, by go_num, World.ownsRow_nil _ _ _ _, by simp [rowOf'], Below.refl _ _⟩
  case round =>
    obtain ⟨k, hk, rfl, hown, hnil, hb⟩ := hrel
    by_cases hlt : k < m
    · have hlt2 : (k : Int) < m := by omega
      obtain ⟨b1, o1, eA, _, c1, c2⟩ := (HA.out.below hb).two (show k < g.rules.length by have := EM.out; omega)
      have EA := Lib.hid eA
      have I1 := Lib.hid (fun W (b : Below w.heap.size w W) => IN.out W b k hlt)
      have M1 := Lib.hid (fun W (b : Below w.heap.size w W) => MY.out W b k hlt)
      have RS := Lib.hid (rowOf_succ k q)
      have RL := Lib.hid (rowOf_len q k)
      have CK := CB.out k
      generalize g.rules.getD k Rl.zero = x at c1 c2 M1 CK
      obtain ⟨nm, bd⟩ := x
      dsimp only at c1 c2 M1 CK
      have HO := Lib.hid hown
      have HN := Lib.hid hnil
      have HB := Lib.hid hb
      clear hown hnil hb
      rw [eA]
      clear eA
      have up := Lib.hid (fun (o : Obj) => HB.out.alloc HB.out.size o)
      have ko := Lib.hid (fun (o : Obj) => own_below HO.out (B1 wr o))
      cases h1 : inB r k with
      | true =>
        have hp : q k = false := by rw [CK, h1]; rfl
        rw [h1] at I1
        rw [hp] at RS
        clear CK h1 hp
        go_wp2_with (go_at_call 94; with_reducible refine (I1.out _ (up.out _)).mono ?_; rintro e w1 ⟨rfl, rfl⟩)
        go_roundw
        case rel => exact ⟨k + 1, by omega, by go_num, by rw [RS.out]; exact ko.out _, by rw [RS.out]; exact HN.out, up.out _⟩
        case measure => simp [intOf]; omega
      | false =>
        cases h2 : mayN g.nodes (inB r) bd with
        | false =>
          have hp : q k = false := by rw [CK, h1, h2]; rfl
          rw [h1] at I1
          rw [h2] at M1
          rw [hp] at RS
          clear CK h1 h2 hp
          go_wp2_with (first | (go_at_call 94; with_reducible refine (I1.out _ (up.out _)).mono ?_; rintro e w1 ⟨rfl, rfl⟩) | (go_at_call 34; with_reducible refine (M1.out _ (up.out _)).mono ?_; rintro e w1 ⟨rfl, hb1⟩; have BW := Lib.hid ((up.out _).trans (hb1.mono (up.out _).size)); have O1 := Lib.hid (own_below (ko.out _) hb1); clear hb1))
          go_roundw
          case rel => exact ⟨k + 1, by omega, by go_num, by rw [RS.out]; exact O1.out, by rw [RS.out]; exact HN.out, BW.out⟩
          case measure => simp [intOf]; omega
        | true =>
          have hp : q k = true := by rw [CK, h1, h2]; rfl
          rw [h1] at I1
          rw [h2] at M1
          rw [hp] at RS
          clear CK h1 h2 hp
          go_wp2_with (first | (go_at_call 94; with_reducible refine (I1.out _ (up.out _)).mono ?_; rintro e w1 ⟨rfl, rfl⟩) | (go_at_call 34; with_reducible refine (M1.out _ (up.out _)).mono ?_; rintro e w1 ⟨rfl, hb1⟩; have BW := Lib.hid ((up.out _).trans (hb1.mono (up.out _).size)); have O1 := Lib.hid (own_below (ko.out _) hb1); clear hb1) | (at_builtin; refine wpList_append_own _ rfl _ _ 31 rfl w.heap.size 3 i0 (.int .i64 0) 1 8 Try.underlying31 hi hz0 hz1 hz2 rfl (by decide) _ _ _ rfl (O1.out.alloc _) ⟨w1.heap.size, 0, none⟩ 1 1 [.int .i64 k] rfl rfl (cell_one_new _ _ _) (by simp [Value.oneCell']) (by unfold maxLen; have := RL.out; omega) (by have := RL.out; omega) (by have := BW.out.size; simp; omega) ?_; intro v' w9 hown' hgrow hnil'; have O9 := Lib.hid hown'; have G9 := Lib.hid hgrow; have N9 := Lib.hid hnil'; clear hown' hgrow hnil'))
          go_roundw
          case rel =>
            refine ⟨k + 1, by omega, by go_num, ?_, ?_, ?_⟩
            · rw [RS.out, if_pos trivial, List.length_append, nums_app]
              have := O9.out
              simpa [ints] using this
            · rw [RS.out, if_pos trivial, N9.out]
              simp
            · refine grown_below (w := w1.alloc _) (BW.out.trans ((B1 w1 _).mono BW.out.size)) (by have := BW.out.size; simp; omega) G9.out (fun j e => (O1.out.lt j e).1)
          case measure => simp [intOf]; omega
    · obtain rfl : k = m := by omega
      have hlt2 : ¬ (k : Int) < k := by omega
      have HO := Lib.hid hown
      have HN := Lib.hid hnil
      have HB := Lib.hid hb
      clear hown hnil hb
      go_wp2_with fail
      go_ret
      exact ⟨⟨_, rfl, HO.out, HN.out⟩, HB.out⟩
end Go.Proofs.Ytjelgmdjmjnnfaa

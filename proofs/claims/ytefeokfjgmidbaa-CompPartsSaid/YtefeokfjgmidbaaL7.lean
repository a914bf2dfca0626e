/- What the laws lean on: rows compared, copied; numbers picked; the example. -/
import Derived.Test.YtefeokfjgmidbaaL6
set_option linter.unusedSimpArgs false
set_option linter.unusedVariables false
namespace Go.Proofs.Ytefeokfjgmidbaa
open Go Go.Proofs Go.Shelf Go.RowKit Go.Lib Go.Maps
theorem take_same {a b : List Int} {k : Nat} (hk : k < a.length) (hl : a.length = b.length) (h : a.take k = b.take k) : a.take (k + 1) = b.take (k + 1) ↔ a.getD k 0 = b.getD k 0 := by
  have e1 : a.take (k + 1) = a.take k ++ [a.getD k 0] := by rw [List.take_succ_eq_append_getElem hk]; simp [List.getD, List.getElem?_eq_getElem hk]
  have e2 : b.take (k + 1) = b.take k ++ [b.getD k 0] := by rw [List.take_succ_eq_append_getElem (by omega)]; simp [List.getD, List.getElem?_eq_getElem (show k < b.length by omega)]
  rw [e1, e2, h]
  simp
theorem getD_ne {a b : List Int} {k : Nat} (h : a.getD k 0 ≠ b.getD k 0) : a ≠ b := fun e => h (by rw [e])
set_option maxHeartbeats 1000000 in
theorem ints_same (A B : Option Addr) (c d : Nat) (a b : List Int) (ha : a.length ≤ 140737488351232) (hb : b.length ≤ 140737488351232) (w : World) (hA : Lies w A (ints a)) (hB : Lies w B (ints b)) :
    Calls Try.prog 18 #[.slice A a.length c, .slice B b.length d] w fun e w' => e = .returned (.bool (decide (a = b))) ∧ ∃ n, w' = w.drewN n := by
  have HA := Lib.hid hA
  have HB := Lib.hid hB
  clear hA hB
  by_cases hl : a.length = b.length
  · have HL := Lib.hid hl
    obtain ⟨m, em⟩ : ∃ m, m = b.length := ⟨_, rfl⟩
    rw [← em] at hl hb ⊢
    rw [hl] at ha ⊢
    have EM := Lib.hid em
    clear em hl
    go_enter Try.func18, Try.ntmps18
    go_wp2_with fail
    go_loopw [5] (fun i wr => ∃ (k n : Nat), k ≤ m ∧ i = .int .i64 k ∧ a.take k = b.take k ∧ wr = w.drewN n) (fun i _ => m - (intOf i).toNat)
    case atStart => exact ⟨0, 0, by omega, rfl, by simp, rfl⟩
    case round =>
      obtain ⟨k, n, hk, rfl, ht, rfl⟩ := hrel
      have HT := Lib.hid ht
      clear ht
      by_cases hlt : k < m
      · have hlt2 : (k : Int) < m := by omega
        obtain ⟨b1, o1, rfl, _, c1⟩ := lies_cell HA.out (show k < a.length by have := HL.out; have := EM.out; omega)
        obtain ⟨b2, o2, rfl, _, c2⟩ := lies_cell HB.out (show k < b.length by have := EM.out; omega)
        have HS := Lib.hid (take_same (a := a) (b := b) (k := k) (by have := HL.out; have := EM.out; omega) HL.out HT.out)
        have HN := Lib.hid (@getD_ne a b k)
        generalize a.getD k 0 = x at c1 HS HN
        generalize b.getD k 0 = y at c2 HS HN
        by_cases hxy : x = y
        · have HK := Lib.hid (HS.out.2 hxy)
          have hb : (x == y) = true := by simpa using hxy
          have hb2 : (x != y) = false := by simpa using hxy
          clear HS HN hxy
          go_wp2_with fail
          go_quiet (fail)
          go_wp2_with fail
          go_roundw
          case rel => exact ⟨k + 1, n + nq, by omega, by go_num, HK.out, by first | rfl | exact World.drewN_drewN _ _ _⟩
          case measure => simp [intOf]; omega
        · have HK := Lib.hid (HN.out hxy)
          have hb : (x == y) = false := by simpa using hxy
          have hb2 : (x != y) = true := by simpa using hxy
          clear HS HN hxy
          go_wp2_with fail
          go_quiet (fail)
          go_wp2_with fail
          go_ret
          exact ⟨ret_bool (by simpa using HK.out), n + nq, by first | rfl | exact World.drewN_drewN _ _ _⟩
      · obtain rfl : k = m := by omega
        have hlt2 : ¬ (k : Int) < k := by omega
        go_wp2_with fail
        go_ret
        exact ⟨ret_bool (by have := HT.out; rw [List.take_of_length_le (by have := HL.out; have := EM.out; omega), List.take_of_length_le (by have := EM.out; omega)] at this; simp [this]), n, rfl⟩
  · have hne : ¬ (a.length : Int) = b.length := by omega
    have hv : decide (a = b) = false := by simp; intro e; rw [e] at hl; exact hl rfl
    rw [hv]
    clear hv hl
    go_enter Try.func18, Try.ntmps18
    go_wp2_with fail
    go_ret
    exact ⟨rfl, 0, rfl⟩
theorem pick_any (x n : Int) (hx : -9223372036854775808 ≤ x ∧ x < 9223372036854775808) (hn : 1 ≤ n ∧ n < 9223372036854775808) (w : World) :
    Calls Try.prog 13 #[.int .i64 x, .int .i64 n] w fun e w' => e = .returned (.int .i64 (x % n)) ∧ w = w' := by
  have h1 := Int.emod_nonneg x (show n ≠ 0 by omega)
  have h2 := Int.emod_lt_of_pos x (show 0 < n by omega)
  have ht := Int.tmod_eq_emod (a := x) (b := n)
  have hd0 : n ≠ 0 := by omega
  have hd1 : (n == 0) = false := by simpa using hd0
  obtain ⟨y, ey⟩ : ∃ y, y = x.tmod n := ⟨_, rfl⟩
  rw [← ey] at ht
  obtain ⟨z, ez⟩ : ∃ z, z = x % n := ⟨_, rfl⟩
  rw [← ez] at ht h1 h2 ⊢
  have hcase : (0 ≤ y ∧ y = z) ∨ (y < 0 ∧ y + n = z) := by
    split at ht
    · left; omega
    · right; omega
  have hy : x.tmod n = y := ey.symm
  have hn1 : ¬ n < 1 := by omega
  have hwy : IntKind.i64.wrap y = y := IntWalk.i64_in _ (by omega)
  clear ht ez ey hx
  rcases hcase with ⟨h3, rfl⟩ | ⟨h3, h4⟩
  · go_enter Try.func13, Try.ntmps13
    go_wp2_with fail
    go_ret
    exact ⟨rfl, rfl⟩
  · have hwz : IntKind.i64.wrap (y + n) = z := (IntWalk.i64_in _ (by omega)).trans h4
    clear h4
    go_enter Try.func13, Try.ntmps13
    go_wp2_with fail
    go_ret
    exact ⟨rfl, rfl⟩
set_option maxRecDepth 100000 in
set_option maxHeartbeats 2000000 in
theorem rows_same (A B : Option Addr) (c d : Nat) (vs us : List Value) (L K : List (List Int)) (w : World) (hA : Gph w A vs L) (hB : Gph w B us K) :
    Calls Try.prog 17 #[.slice A L.length c, .slice B K.length d] w fun e w' => e = .returned (.bool (decide (L = K))) ∧ Below w.heap.size w w' := by
  by_cases hl : L.length = K.length
  · have HA := Lib.hid hA
    have HB := Lib.hid hB
    obtain ⟨m, em⟩ : ∃ m, m = K.length := ⟨_, rfl⟩
    have EM := Lib.hid em
    have EL := Lib.hid (show m = L.length from by omega)
    have hm : m ≤ 140737488351232 := by rw [em]; exact hB.most
    rw [← em] at hl ⊢
    rw [hl]
    have TS := Lib.hid (fun k (hk : k < m) (h : L.take k = K.take k) => show L.take (k + 1) = K.take (k + 1) ↔ L.getD k [] = K.getD k [] from by
      have h1 : k < L.length := by omega
      have h2 : k < K.length := by omega
      have e1 : L.take (k + 1) = L.take k ++ [L.getD k []] := by rw [List.take_add_one]; simp [List.getD, List.getElem?_eq_getElem h1]
      have e2 : K.take (k + 1) = K.take k ++ [K.getD k []] := by rw [List.take_add_one]; simp [List.getD, List.getElem?_eq_getElem h2]
      rw [e1, e2, h]
      simp)
    have TE := Lib.hid (show L.take m = K.take m → L = K from fun h => by rw [List.take_of_length_le (by omega), List.take_of_length_le (by omega)] at h; exact h)
    have SI := Lib.hid (fun (P Q : Option Addr) e f a b ha hb w' hP hQ => ints_same P Q e f a b ha hb w' hP hQ)
    clear hA hB em hl
    go_enter Try.func17, Try.ntmps17
    go_wp2_with fail
    go_loopw [5] (fun i wr => ∃ k : Nat, k ≤ m ∧ i = .int .i64 k ∧ L.take k = K.take k ∧ Below w.heap.size w wr) (fun i _ => m - (intOf i).toNat)
    case atStart => exact ⟨0, by omega, rfl, by simp, Below.refl _ _⟩
    case round =>
      obtain ⟨k, hk, rfl, ht, hb⟩ := hrel
      have HT := Lib.hid ht
      have HBL := Lib.hid hb
      by_cases hlt : k < m
      · have hlt2 : (k : Int) < m := by omega
        have gA := HA.out.below hb
        have gB := HB.out.below hb
        obtain ⟨b1, o1, B1, d1, rfl, hb1, c1, hl1⟩ := gA.at_ (i := k) (by have := EL.out; omega)
        obtain ⟨b2, o2, B2, d2, rfl, hb2, c2, hl2⟩ := gB.at_ (i := k) (by have := EM.out; omega)
        have S1 := Lib.hid (fun (e : Ext wr) => SI.out B1 B2 d1 d2 _ _ (gA.mosts k (by have := EL.out; omega)) (gB.mosts k (by have := EM.out; omega)) e.val (hl1.below e.grown) (hl2.below e.grown))
        have TSK := Lib.hid (TS.out k hlt HT.out)
        have NEQ := Lib.hid (show L.getD k [] ≠ K.getD k [] → L ≠ K from fun h e => h (by rw [e]))
        obtain ⟨q, eq⟩ : ∃ q, q = decide (L.getD k [] = K.getD k []) := ⟨_, rfl⟩
        have EQ := Lib.hid eq
        rw [← eq] at S1
        have S2 := Lib.hid (fun (e : Ext wr) => show Calls Try.prog 18 #[.slice B1 (L.getD k []).length d1, .slice B2 (K.getD k []).length d2] e.val fun x w' => x = .returned (.bool q) ∧ Below e.val.heap.size e.val w' from (S1.out e).mono fun _ _ ⟨h1, n, h2⟩ => ⟨h1, by rw [h2]; exact bdrew (Below.refl _ _)⟩)
        have e1 := fun (e : Ext wr) => Ext.cell c1 e
        have e2 := fun (e : Ext wr) => Ext.cell c2 e
        generalize (L.getD k []).length = x1 at e1 S2
        generalize (K.getD k []).length = x2 at e2 S2
        clear ht hb gA gB c1 c2 hl1 hl2 eq S1
        go_wp2_with fail
        refine wp_region_ext (by kernel_rfl) (by kernel_rfl) ?_
        repeat (first | go_big_quiet_step (first | (go_at_call 18; exact Calls.ext_of (S2.out _))) | quiet_step (first | (go_at_call 18; exact Calls.ext_of (S2.out _))))
        refine wpQuiet_nil ?_
        intro w9 hw'
        obtain ⟨⟨_, hb9⟩, rfl⟩ := hw'
        have H9 := Lib.hid (HBL.out.trans (hb9.mono HBL.out.size))
        clear hb9 e1 e2
        cases q with
        | true =>
          go_wp2_with fail
          go_roundw
          case rel => exact ⟨k + 1, by omega, by go_num, TSK.out.2 (of_decide_eq_true EQ.out.symm), H9.out⟩
          case measure => simp [intOf]; omega
        | false =>
          go_wp2_with fail
          go_ret
          exact ⟨ret_bool (decide_eq_false (NEQ.out (of_decide_eq_false EQ.out.symm))).symm, H9.out⟩
      · obtain rfl : k = m := by omega
        have hlt2 : ¬ (k : Int) < k := by omega
        clear ht hb
        go_wp2_with fail
        go_ret
        exact ⟨ret_bool (decide_eq_true (TE.out HT.out)).symm, HBL.out⟩
  · have hne : ¬ (L.length : Int) = K.length := by omega
    have hv : decide (L = K) = false := by simp; intro e; rw [e] at hl; exact hl rfl
    rw [hv]
    have h1 := hA.most
    have h2 := hB.most
    clear hv hl hA hB
    generalize L.length = x1 at *
    generalize K.length = x2 at *
    go_enter Try.func17, Try.ntmps17
    go_wp2_with fail
    go_ret
    exact ⟨rfl, Below.refl _ _⟩
end Go.Proofs.Ytefeokfjgmidbaa
namespace Go.Proofs.Ytefeokfjgmidbaa
open Go Go.RowKit
/-- The search, as a function with fuel. -/
def dfs (adj : Nat → List Nat) : Nat → List Nat → List Nat → Option (List Nat × List Nat)
  | 0, _, _ => none
  | _ + 1, met, [] => some ([], met)
  | f + 1, met, a :: l => if met.contains a then dfs adj f met l else
    match dfs adj f (a :: met) (adj a) with
    | none => none
    | some r => match dfs adj f r.2 l with
      | none => none
      | some s => some (r.1 ++ a :: s.1, s.2)
theorem dfs_thr (adj : Nat → List Nat) : ∀ (f : Nat) (met l N met' : List Nat), dfs adj f met l = some (N, met') → Thr adj (fun x => met.contains x) l N (fun x => met'.contains x)
  | 0, _, _, _, _, h => by simp [dfs] at h
  | f + 1, met, [], N, met', h => by
    simp only [dfs, Option.some.injEq, Prod.mk.injEq] at h
    obtain ⟨rfl, rfl⟩ := h
    exact .nil _
  | f + 1, met, a :: l, N, met', h => by
    unfold dfs at h
    split at h
    · rename_i hm
      exact .met hm (dfs_thr adj f met l N met' h)
    · rename_i hm
      have hm' : met.contains a = false := by simpa using hm
      split at h
      · cases h
      · rename_i r hr
        split at h
        · cases h
        · rename_i s hs
          simp only [Option.some.injEq, Prod.mk.injEq] at h
          obtain ⟨rfl, rfl⟩ := h
          have h1 := dfs_thr adj f (a :: met) (adj a) r.1 r.2 hr
          have e : (fun x => (a :: met).contains x) = mset (fun x => met.contains x) a := by
            funext x
            simp only [mset, List.contains_cons]
          rw [e] at h1
          exact .new hm' h1 (dfs_thr adj f r.2 l s.1 s.2 hs)
theorem dfs_reach {adj : Nat → List Nat} {f a : Nat} {N m : List Nat} (h : dfs adj f [] [a] = some (N, m)) (b : Nat) : Reach adj a b ↔ b ∈ N := by
  have h1 := (dfs_thr adj f [] [a] N m h).iff b
  rw [h1]
  simp
def reB (adj : Nat → List Nat) (a b : Nat) : Bool := match dfs adj 60 [] [a] with | some r => r.1.contains b | none => false
theorem reB_is {adj : Nat → List Nat} {n : Nat} (h : ∀ a, a < n → (dfs adj 60 [] [a]).isSome = true) : IsR adj n (reB adj) := fun a b ha _ => by
  obtain ⟨r, hr⟩ := Option.isSome_iff_exists.1 (h a ha)
  unfold reB
  rw [hr, dfs_reach (N := r.1) (m := r.2) hr b]
  simp
theorem sccs_congr {adj : Nat → List Nat} {n : Nat} {r r' : Nat → Nat → Bool} (h : IsR adj n r) (h' : IsR adj n r') : sccs r n = sccs r' n := by
  have e : ∀ a b, a < n → b < n → r a b = r' a b := fun a b ha hb => by rw [Bool.eq_iff_iff, h a b ha hb, h' a b ha hb]
  unfold sccs
  have e1 : (List.range n).filter (least r) = (List.range n).filter (least r') := List.filter_congr fun a ha => by
    have ha := List.mem_range.1 ha
    unfold least
    rw [Bool.eq_iff_iff, List.all_eq_true, List.all_eq_true]
    refine forall_congr' fun b => forall_congr' fun hb => ?_
    have hb := List.mem_range.1 hb
    rw [e a b ha (by omega), e b a (by omega) ha]
  rw [e1]
  refine List.map_congr_left fun a ha => ?_
  have ha := List.mem_range.1 (List.mem_filter.1 ha).1
  unfold scc
  exact List.filter_congr fun b hb => by
    have hb := List.mem_range.1 hb
    rw [e a b ha hb, e b a hb ha]
def exG : List (List Nat) := [[1, 3], [2], [1], [3], [0]]
theorem exG_right : RG exG := by
  refine ⟨by decide, fun i => ?_, fun i b hb => ?_⟩
  · match i with
    | 0 | 1 | 2 | 3 | 4 => simp [exG, List.getD]
    | i + 5 => simp [exG, List.getD]
  · match i with
    | 0 | 1 | 2 | 3 | 4 => simp [exG, List.getD] at hb ⊢; omega
    | i + 5 => simp [exG, List.getD] at hb
theorem exG_is : IsR (adjG exG) 5 (reB (adjG exG)) := reB_is fun a ha => by
  match a, ha with
  | 0, _ => decide
  | 1, _ => decide
  | 2, _ => decide
  | 3, _ => decide
  | 4, _ => decide
theorem exG_parts : pG exG = [[1, 2], [3], [0], [4]] := by
  have e : sccs (rG exG) exG.length = sccs (reB (adjG exG)) 5 := sccs_congr (rG_is exG 5) exG_is
  have e2 : sccs (reB (adjG exG)) 5 = [[0], [1, 2], [3], [4]] := by decide
  unfold pG partsOf
  rw [e, e2]
  decide
theorem exG_leads (a b : Nat) (ha : a < 5) (hb : b < 5) : ldB exG a b = reB (adjG exG) a b := by
  rw [Bool.eq_iff_iff, ldB_iff, exG_is a b ha hb]
  have : exG.length = 5 := rfl
  constructor
  · rintro ⟨_, _, _, h⟩; simpa using h
  · intro h; exact ⟨by omega, by omega, by omega, by simpa using h⟩
end Go.Proofs.Ytefeokfjgmidbaa
namespace Go.Proofs.Ytefeokfjgmidbaa
open Go Go.Proofs Go.Shelf Go.RowKit Go.Lib Go.Maps
theorem lies_new (w : World) (l : List Value) (T : TypeId) : Lies (w.alloc (.cells l.toArray T)) (some ⟨w.heap.size, 0, none⟩) l := fun _ => ⟨w.heap.size, 0, rfl, by simp, fun i _ => by rw [Nat.zero_add, (Blk.new w _ _).cell, List.getElem?_toArray]⟩
/-- Rows that are laid one behind the other. -/
structure Lr (w W : World) (vs : List Value) (L : List (List Nat)) : Prop where
  rows : RowsO w.heap.size W vs L
  low : Below w.heap.size w W
theorem Lr.start (w : World) : Lr w w [] [] := ⟨RowsO.nil _ _, Below.refl _ _⟩
theorem Lr.step {w W : World} {vs : List Value} {L : List (List Nat)} (h : Lr w W vs L) (l : List Nat) (hl : l.length ≤ 1000) : Lr w (W.alloc (.cells (ints (nums l)).toArray 3)) (vs ++ [.slice (some ⟨W.heap.size, 0, none⟩) l.length l.length]) (L ++ [l]) := by
  have hb := B1 W (.cells (ints (nums l)).toArray 3)
  refine ⟨h.rows.push (own_lower (own_built W 3 l.length 1 (ints (nums l)) (by rw [ints_length, nums_len]; omega) (by unfold maxLen; omega)) h.low.size) (fun i k hi e => hb.block k ((h.rows.row i hi).lt k e).2) (fun k hk i hi e => ?_), h.low.trans (hb.mono h.low.size)⟩
  have := ((h.rows.row i hi).lt k e).2
  simp only [Value.ownBlock, Option.some.injEq] at hk
  omega
theorem Lr.gph {w W : World} {vs : List Value} {L : List (List Nat)} (h : Lr w W vs L) (hl : L.length ≤ 1000) (hls : ∀ i, i < L.length → (L.getD i []).length ≤ 1000) :
    Gph (W.alloc (.cells vs.toArray 26)) (some ⟨W.heap.size, 0, none⟩) vs (L.map nums) ∧ Below w.heap.size w (W.alloc (.cells vs.toArray 26)) := by
  have hb := B1 W (.cells vs.toArray 26)
  exact ⟨(h.rows.below hb).gph (lies_new W vs _) (by omega) (fun i hi => by have := hls i hi; omega), h.low.trans (hb.mono h.low.size)⟩
set_option maxRecDepth 100000 in
theorem example_any (w : World) : Calls Try.prog 20 #[] w fun e w' => ∃ A c vs, e = .returned (.slice A 5 c) ∧ Gph w' A vs (exG.map nums) ∧ Below w.heap.size w w' := by
  have s5 := Lib.hid ((((((Lr.start w).step [1, 3] (by simp)).step [2] (by simp)).step [1] (by simp)).step [3] (by simp)).step [0] (by simp))
  have g5 := Lib.hid (s5.out.gph (by simp) (fun i hi => by
    match i, hi with
    | 0, _ | 1, _ | 2, _ | 3, _ | 4, _ => simp [List.getD]))
  clear s5
  go_enter Try.func20, Try.ntmps20
  go_wp2_with fail
  go_ret
  have g := g5.out
  simp only [nums, ints, List.map_cons, List.map_nil, List.nil_append, List.cons_append, List.length_cons, List.length_nil, Nat.zero_add, Nat.reduceAdd, World.size_alloc] at g
  exact ⟨_, _, _, rfl, g⟩
set_option maxRecDepth 100000 in
set_option maxHeartbeats 4000000 in
theorem awake_any (w : World) : Calls Try.prog 7 #[] w fun e w' => e = .returned (.bool true) ∧ Below w.heap.size w w' := by
  have EX := Lib.hid (example_any w)
  have P5 := Lib.hid (fun A c vs w' (h : Gph w' A vs (exG.map nums)) => Parts_any A c vs exG exG_right w' h)
  have RI := Lib.hid (fun A c vs a w' (h : Gph w' A vs (exG.map nums)) => Ring_any A c vs exG exG_right a w' h)
  have PT := Lib.hid (fun A c vs a w' (h : Gph w' A vs (exG.map nums)) => Part_any A c vs exG exG_right a w' h)
  have LD := Lib.hid (fun A c vs a b w' (h : Gph w' A vs (exG.map nums)) => Leads_any A c vs exG exG_right a b w' h)
  have r1 : ringB exG 1 = true := by unfold ringB; rw [exG_parts]; decide
  have r3 : ringB exG 3 = true := by unfold ringB; rw [exG_parts]; decide
  have r0 : ringB exG 0 = false := by unfold ringB; rw [exG_parts]; decide
  have p4 : idxP ((pG exG).map nums) 4 = 3 := by rw [exG_parts]; decide
  have l42 : ldB exG 4 2 = true := by have := exG_leads 4 2 (by decide) (by decide); exact this.trans (by decide)
  have l24 : ldB exG 2 4 = false := by have := exG_leads 2 4 (by decide) (by decide); exact this.trans (by decide)
  have FS := Lib.hid (And.intro r1 (And.intro r3 (And.intro r0 (And.intro p4 (And.intro l42 l24)))))
  clear r1 r3 r0 p4 l42 l24
  go_enter Try.func7, Try.ntmps7
  go_wp2_with fail
  refine EX.out.mono ?_
  rintro e w1 ⟨A, c, vs, rfl, hg, hb⟩
  have G1 := Lib.hid hg
  have H1 := Lib.hid hb
  have C1 := Lib.hid (P5.out A c vs w1 hg)
  clear hg hb EX
  go_wp2_with fail
  refine C1.out.mono ?_
  rintro e w3 ⟨v3, vs3, rfl, ho3, hr3, hb3⟩
  rw [exG_parts] at ho3 hr3
  obtain ⟨A3, c3, rfl, hg3⟩ := gph_parts ho3 hr3 (by decide) (fun i hi => by
    match i, hi with
    | 0, _ | 1, _ | 2, _ | 3, _ => simp [List.getD])
  have G3 := Lib.hid hg3
  have H3 := Lib.hid (H1.out.trans (hb3.mono H1.out.size))
  have GE := Lib.hid (G1.out.below hb3)
  have s4 := Lib.hid (((((Lr.start w3).step [1, 2] (by simp)).step [3] (by simp)).step [0] (by simp)).step [4] (by simp))
  have g4 := Lib.hid (s4.out.gph (by simp) (fun i hi => by
    match i, hi with
    | 0, _ | 1, _ | 2, _ | 3, _ => simp [List.getD]))
  clear s4 ho3 hr3 hb3 hg3 C1
  have hL3 : [[1, 2], [3], [0], [4]].length = 4 := rfl
  simp only [List.length_cons, List.length_nil, Nat.zero_add, Nat.reduceAdd]
  go_wp2_with fail
  have g := g4.out
  simp only [nums, ints, List.map_cons, List.map_nil, List.nil_append, List.cons_append, List.length_cons, List.length_nil, Nat.zero_add, Nat.reduceAdd, World.size_alloc] at g
  refine (rows_same _ _ _ _ _ _ _ _ _ (G3.out.below g.2) g.1).mono ?_
  rintro e w4 ⟨rfl, hb4⟩
  have H4 := Lib.hid ((H3.out.trans (g.2.mono H3.out.size)).trans (hb4.mono (H3.out.trans (g.2.mono H3.out.size)).size))
  have GE4 := Lib.hid ((GE.out.below g.2).below hb4)
  clear g hb4 g4 G3 GE H3
  simp only [List.map_cons, List.map_nil, nums, decide_true]
  go_wp2_with fail
  refine (RI.out _ _ _ 1 w4 GE4.out).mono ?_
  rintro e w5 ⟨rfl, hb5⟩
  have H5 := Lib.hid (H4.out.trans (hb5.mono H4.out.size))
  have GE5 := Lib.hid (GE4.out.below hb5)
  have f5 := FS.out.1
  rw [f5]
  clear f5 hb5 H4 GE4
  go_wp2_with fail
  refine (RI.out _ _ _ 3 w5 GE5.out).mono ?_
  rintro e w6 ⟨rfl, hb6⟩
  have H6 := Lib.hid (H5.out.trans (hb6.mono H5.out.size))
  have GE6 := Lib.hid (GE5.out.below hb6)
  have f6 := FS.out.2.1
  rw [f6]
  clear f6 hb6 H5 GE5
  go_wp2_with fail
  refine (RI.out _ _ _ 0 w6 GE6.out).mono ?_
  rintro e w7 ⟨rfl, hb7⟩
  have H7 := Lib.hid (H6.out.trans (hb7.mono H6.out.size))
  have GE7 := Lib.hid (GE6.out.below hb7)
  have f7 := FS.out.2.2.1
  rw [f7]
  clear f7 hb7 H6 GE6
  go_wp2_with fail
  refine (PT.out _ _ _ 4 w7 GE7.out).mono ?_
  rintro e w8 ⟨rfl, hb8⟩
  have H8 := Lib.hid (H7.out.trans (hb8.mono H7.out.size))
  have GE8 := Lib.hid (GE7.out.below hb8)
  have f8 := FS.out.2.2.2.1
  rw [f8]
  clear f8 hb8 H7 GE7
  go_wp2_with fail
  refine (LD.out _ _ _ 4 2 w8 GE8.out).mono ?_
  rintro e w9 ⟨rfl, hb9⟩
  have H9 := Lib.hid (H8.out.trans (hb9.mono H8.out.size))
  have GE9 := Lib.hid (GE8.out.below hb9)
  have f9 := FS.out.2.2.2.2.1
  rw [f9]
  clear f9 hb9 H8 GE8
  go_wp2_with fail
  refine (LD.out _ _ _ 2 4 w9 GE9.out).mono ?_
  rintro e w10 ⟨rfl, hb10⟩
  have H10 := Lib.hid (H9.out.trans (hb10.mono H9.out.size))
  have GE10 := Lib.hid (GE9.out.below hb10)
  have f10 := FS.out.2.2.2.2.2
  rw [f10]
  clear f10 hb10 H9 GE9
  go_wp2_with fail
  go_ret
  exact ⟨rfl, H10.out⟩
end Go.Proofs.Ytefeokfjgmidbaa
namespace Go.Proofs.Ytefeokfjgmidbaa
open Go Go.Proofs Go.Shelf Go.RowKit Go.Lib Go.Maps
/-- The graph lies as it lay, and nothing else is changed. -/
structure GB (w w' : World) (A : Option Addr) (vs : List Value) (L : List (List Int)) : Prop where
  g : Gph w' A vs L
  b : Below w.heap.size w w'
theorem GB.start {w : World} {A : Option Addr} {vs : List Value} {L : List (List Int)} (h : Gph w A vs L) : GB w w A vs L := ⟨h, Below.refl _ _⟩
theorem GB.below {w w' w'' : World} {A : Option Addr} {vs : List Value} {L : List (List Int)} (h : GB w w' A vs L) (hb : Below w'.heap.size w' w'') : GB w w'' A vs L := ⟨h.g.below hb, h.b.trans (hb.mono h.b.size)⟩
/-- It gives a yes or a no. -/
def IsB (e : Ending) : Prop := ∃ b, e = .returned (.bool b)
set_option maxRecDepth 100000 in
set_option maxHeartbeats 2000000 in
theorem great_any (A : Option Addr) (c : Nat) (vs : List Value) (L : List (List Int)) (w : World) (hA : Gph w A vs L) :
    Calls Try.prog 8 #[.slice A L.length c] w fun e w' => IsB e ∧ Below w.heap.size w w' := by
  have HA := Lib.hid hA
  obtain ⟨m, em⟩ : ∃ m, m = L.length := ⟨_, rfl⟩
  have EM := Lib.hid em
  have hm : m ≤ 140737488351232 := by rw [em]; exact hA.most
  rw [← em]
  clear hA em
  go_enter Try.func8, Try.ntmps8
  go_wp2_with fail
  go_loopw [3, 4] (fun s i wr => ∃ (k t : Nat), k ≤ m ∧ i = .int .i64 k ∧ s = .int .i64 t ∧ t ≤ 281474976710656 ∧ Below w.heap.size w wr) (fun _ i _ => m - (intOf i).toNat)
  case atStart => exact ⟨0, m, by omega, rfl, rfl, by omega, Below.refl _ _⟩
  case round =>
    obtain ⟨k, t, hk, rfl, rfl, ht, hb⟩ := hrel
    have HBL := Lib.hid hb
    by_cases hlt : k < m
    · have hlt2 : (k : Int) < m := by omega
      by_cases ht6 : t ≤ 600
      · have ht7 : (t : Int) ≤ 600 := by omega
        have gA := HA.out.below hb
        obtain ⟨b1, o1, B1, d1, rfl, hb1, c1, hl1⟩ := gA.at_ (i := k) (by have := EM.out; omega)
        have hx := gA.mosts k (by have := EM.out; omega)
        generalize (L.getD k []).length = x1 at *
        clear hb gA hl1
        have hw : IntKind.i64.wrap ((t : Int) + (x1 : Int)) = ((t + x1 : Nat) : Int) := by rw [IntWalk.i64_in _ (by omega)]; omega
        go_wp2_with fail
        go_roundw
        case rel => exact ⟨k + 1, t + x1, by omega, by go_num, by first | rfl | simp, by omega, HBL.out⟩
        case measure => simp [intOf]; omega
      · have ht7 : ¬ (t : Int) ≤ 600 := by omega
        clear hb
        go_wp2_with fail
        go_ret
        exact ⟨⟨_, rfl⟩, HBL.out⟩
    · obtain rfl : k = m := by omega
      have hlt2 : ¬ (k : Int) < k := by omega
      clear hb
      go_wp2_with fail
      go_ret
      exact ⟨⟨_, rfl⟩, HBL.out⟩
end Go.Proofs.Ytefeokfjgmidbaa
namespace Go.Proofs.Ytefeokfjgmidbaa
open Go Go.RowKit
theorem reach_step {adj : Nat → List Nat} {a b : Nat} : Reach adj a b ↔ a = b ∨ ∃ c, c ∈ adj a ∧ Reach adj c b := by
  constructor
  · intro h
    unfold Reach at h
    cases h with
    | one _ => exact .inl rfl
    | step _ h1 h2 => exact .inr ⟨_, h1, h2⟩
  · rintro (rfl | ⟨c, h1, h2⟩)
    · exact .refl _ _
    · exact .step rfl h1 h2
theorem ldB_self {G : List (List Nat)} {i : Nat} (hi : i < G.length) : ldB G i i = true := (ldB_iff _ _ _).2 ⟨by omega, by omega, by omega, .refl _ _⟩
theorem ldB_step {G : List (List Nat)} (hR : RG G) {i k : Nat} (hi : i < G.length) : ldB G i k = (decide (i = k) || (adjG G i).any fun c => ldB G c k) := by
  rw [Bool.eq_iff_iff, ldB_iff, Bool.or_eq_true, List.any_eq_true, decide_eq_true_eq]
  have e : ((i : Int).toNat) = i := by omega
  have e2 : ((k : Int).toNat) = k := by omega
  rw [e, e2, reach_step]
  constructor
  · rintro ⟨_, _, _, rfl | ⟨c, h1, h2⟩⟩
    · exact .inl rfl
    · exact .inr ⟨c, h1, (ldB_iff _ _ _).2 ⟨by omega, by have := (hR.inR i c h1).2; omega, by omega, by simpa using h2⟩⟩
  · rintro (rfl | ⟨c, h1, h2⟩)
    · exact ⟨by omega, by omega, by omega, .inl rfl⟩
    · have h3 := ((ldB_iff _ _ _).1 h2).2.2.2
      exact ⟨by omega, by omega, by omega, .inr ⟨c, h1, by simpa using h3⟩⟩
theorem ldB_zero {G : List (List Nat)} (h : G.length = 0) (a b : Int) : ldB G a b = false := by
  rw [Bool.eq_false_iff]
  intro h2
  have := (ldB_iff _ _ _).1 h2
  omega
theorem pG_zero {G : List (List Nat)} (h : G.length = 0) : pG G = [] := by
  have : (pG G).length = 0 := by rw [pG_len]; unfold sG sccs; rw [h]; rfl
  exact List.length_eq_zero_iff.1 this
theorem idxP_zero {G : List (List Nat)} (h : G.length = 0) (a : Int) : idxP ((pG G).map nums) a = -1 := by rw [pG_zero h]; rfl
theorem ringB_zero {G : List (List Nat)} (h : G.length = 0) (a : Int) : ringB G a = false := by
  unfold ringB; rw [idxP_zero h]; rfl
/-- The parts' places among the parts by their least numbers. -/
noncomputable def plG (G : List (List Nat)) : List Nat := ordL (rdG G) (sG G).length (sG G).length
theorem plG_len (G : List (List Nat)) : (plG G).length = (pG G).length := by rw [pG_len]; exact ordL_length _ _ _
theorem plG_nodup {G : List (List Nat)} (hR : RG G) : (plG G).Nodup := (ordL_facts hR.goes _ (Nat.le_refl _)).1
theorem nodup_at {l : List Nat} (hn : l.Nodup) {i j : Nat} (hi : i < l.length) (hj : j < l.length) (h : l.getD i 0 = l.getD j 0) : i = j := by
  simp only [List.getD, List.getElem?_eq_getElem hi, List.getElem?_eq_getElem hj, Option.getD_some] at h
  exact (List.getElem_inj hn).1 h
theorem plG_lt {G : List (List Nat)} (hR : RG G) {j : Nat} (hj : j < (pG G).length) : (plG G).getD j 0 < (sG G).length := by
  have hl := plG_len G
  have : (plG G).getD j 0 = (plG G)[j]'(by omega) := by simp [List.getD, List.getElem?_eq_getElem (show j < (plG G).length by omega)]
  rw [this]
  exact (ordL_facts hR.goes _ (Nat.le_refl _)).2 _ (List.getElem_mem _)
theorem pG_at {G : List (List Nat)} {j : Nat} (hj : j < (pG G).length) : (pG G).getD j [] = (sG G).getD ((plG G).getD j 0) [] := by
  have hl := plG_len G
  have hi2 : j < (plG G).length := by omega
  show ((plG G).map fun p => (sG G).getD p []).getD j [] = _
  simp only [List.getD, List.getElem?_map, List.getElem?_eq_getElem hi2, Option.map_some, Option.getD_some]
/-- A number's part. -/
noncomputable def ptG (G : List (List Nat)) (i : Nat) : List Nat := scc (rG G) G.length i
theorem mem_ptG {G : List (List Nat)} {i x : Nat} (hi : i < G.length) : x ∈ ptG G i ↔ x < G.length ∧ Tog (adjG G) i x := mem_scc (rG_is G _) hi
theorem pG_has {G : List (List Nat)} (hR : RG G) {i j : Nat} (hj : j < (pG G).length) (h : i ∈ (pG G).getD j []) : i < G.length ∧ oG G i = (plG G).getD j 0 := by
  rw [pG_at hj] at h
  exact ofP_at (rG_is G _) (plG_lt hR hj) h
theorem place_of {G : List (List Nat)} (hR : RG G) {i : Nat} (hi : i < G.length) :
    ∃ j, j < (pG G).length ∧ (plG G).getD j 0 = oG G i ∧ (pG G).getD j [] = ptG G i ∧ i ∈ (pG G).getD j [] ∧ idxP ((pG G).map nums) i = j := by
  have h1 : oG G i < (sG G).length := ofP_lt (rG_is G _) hi
  have h2 : oG G i ∈ plG G := ordL_all hR.goes h1
  obtain ⟨j, hj, e⟩ := List.getElem_of_mem h2
  have hj2 : j < (pG G).length := by rw [← plG_len]; exact hj
  have e1 : (plG G).getD j 0 = oG G i := by simp [List.getD, List.getElem?_eq_getElem hj, e]
  have e2 : (pG G).getD j [] = ptG G i := by rw [pG_at hj2, e1]; exact ofP_mem (rG_is G _) hi
  have e3 : i ∈ (pG G).getD j [] := by rw [e2]; exact scc_self (rG_is G _) hi
  refine ⟨j, hj2, e1, e2, e3, idxP_some (by simpa using hj2) ?_ ?_⟩
  · rw [getD_map_nums]; exact mem_nums.2 ⟨by omega, by simpa using e3⟩
  · intro k hk h
    rw [getD_map_nums] at h
    have h := (mem_nums.1 h).2
    rw [show ((i : Int).toNat) = i by omega] at h
    have := (pG_has hR (j := k) (by omega) h).2
    have hl := plG_len G
    have := nodup_at (plG_nodup hR) (i := j) (j := k) (by omega) (by omega) (by rw [e1, this])
    omega
theorem idxP_none' {G : List (List Nat)} (hR : RG G) {a : Int} (h : ¬ (0 ≤ a ∧ a < G.length)) : idxP ((pG G).map nums) a = -1 := by
  refine idxP_none fun j hj hm => ?_
  rw [List.length_map] at hj
  rw [getD_map_nums] at hm
  obtain ⟨h1, h2⟩ := mem_nums.1 hm
  have := (pG_has hR hj h2).1
  omega
/-- In a ring: not alone, or it leads to itself. -/
theorem ringB_eq {G : List (List Nat)} (hR : RG G) {i : Nat} (hi : i < G.length) : ringB G i = (decide (1 < (ptG G i).length) || decide (i ∈ adjG G i)) := by
  obtain ⟨j, h1, h2, h3, h4, h5⟩ := place_of hR hi
  unfold ringB
  rw [h5]
  have e : ((j : Int).toNat) = j := by omega
  have e2 : ((i : Int).toNat) = i := by omega
  rw [e, e2, h3, Bool.eq_iff_iff]
  have : (i : Int) ∈ nums (adjG G i) ↔ i ∈ adjG G i := by rw [mem_nums]; simp
  simp [this]
theorem one_more {l : List Nat} {i : Nat} (hn : l.Nodup) (hi : i ∈ l) : 1 < l.length ↔ ∃ x, x ∈ l ∧ x ≠ i := by
  match l with
  | [] => cases hi
  | [a] =>
    have : i = a := by simpa using hi
    simp [this]
  | a :: b :: l =>
    refine ⟨fun _ => ?_, fun _ => by simp⟩
    by_cases h : a = i
    · subst h
      exact ⟨b, by simp, fun e => by subst e; simp at hn⟩
    · exact ⟨a, by simp, h⟩
theorem ptG_nodup (G : List (List Nat)) (i : Nat) : (ptG G i).Nodup := (scc_rises _ _ _).imp fun h => Nat.ne_of_lt h
theorem ringB_step {G : List (List Nat)} (hR : RG G) {i : Nat} (hi : i < G.length) : ringB G i = (adjG G i).any fun c => ldB G c i := by
  rw [ringB_eq hR hi, Bool.eq_iff_iff, Bool.or_eq_true, List.any_eq_true, decide_eq_true_eq, decide_eq_true_eq, one_more (ptG_nodup G i) ((mem_ptG hi).2 ⟨hi, .refl _ _⟩)]
  have hl : ∀ c, c ∈ adjG G i → (ldB G c i = true ↔ Reach (adjG G) c i) := fun c hc => by
    rw [ldB_iff]
    have := (hR.inR i c hc).2
    simp
    omega
  constructor
  · rintro (⟨x, hx, hn⟩ | h)
    · obtain ⟨h1, h2⟩ := (mem_ptG hi).1 hx
      rcases reach_step.1 h2.1 with e | ⟨c, hc, hc2⟩
      · exact absurd e.symm hn
      · exact ⟨c, hc, (hl c hc).2 (hc2.trans h2.2)⟩
    · exact ⟨i, h, (hl i h).2 (.refl _ _)⟩
  · rintro ⟨c, hc, h⟩
    have h := (hl c hc).1 h
    by_cases e : c = i
    · subst e; exact .inr hc
    · exact .inl ⟨c, (mem_ptG hi).2 ⟨(hR.inR i c hc).2, reach_step.2 (.inr ⟨c, hc, .refl _ _⟩), h⟩, e⟩
/-- Turned round. -/
theorem trn_len (G : List (List Nat)) : (trnG G).length = G.length := trnTo_len _ _ _
theorem reach_turn {G : List (List Nat)} (hR : RG G) (a b : Nat) : Reach (adjG (trnG G)) b a ↔ Reach (adjG G) a b := WP.turn_iff hR.trn
theorem ldB_turn {G : List (List Nat)} (hR : RG G) (a b : Int) : ldB (trnG G) b a = ldB G a b := by
  rw [Bool.eq_iff_iff, ldB_iff, ldB_iff, reach_turn hR, trn_len]
  constructor
  · rintro ⟨h1, h2, h3, h4⟩
    exact ⟨h3, by have := h4.lt' hR.inR (show b.toNat < G.length by omega); omega, h1, h4⟩
  · rintro ⟨h1, h2, h3, h4⟩
    exact ⟨h3, by have := h4.lt hR.inR (show a.toNat < G.length by omega); omega, h1, h4⟩
theorem ptG_turn {G : List (List Nat)} (hR : RG G) {i : Nat} (hi : i < G.length) : ptG (trnG G) i = ptG G i := by
  refine rises_eq (scc_rises _ _ _) (scc_rises _ _ _) fun x => ?_
  have h1 := mem_ptG (G := trnG G) (i := i) (x := x) (by rw [trn_len]; exact hi)
  have h2 := mem_ptG (G := G) (i := i) (x := x) hi
  exact h1.trans (by rw [h2, trn_len, Tog.turn hR.trn])
theorem self_turn {G : List (List Nat)} (hR : RG G) (i : Nat) : i ∈ adjG (trnG G) i ↔ i ∈ adjG G i := (hR.trn i i).symm
theorem ringB_turn {G : List (List Nat)} (hR : RG G) {i : Nat} (hi : i < G.length) : ringB (trnG G) i = ringB G i := by
  rw [ringB_eq hR hi, ringB_eq hR.turned (by rw [trn_len]; exact hi), ptG_turn hR hi]
  simp only [self_turn hR]
theorem sG_turn {G : List (List Nat)} (hR : RG G) : sG (trnG G) = sG G := by
  have e : ∀ a b, rG (trnG G) a b = rG G b a := fun a b => by
    have h1 : ∀ (H : List (List Nat)) a b, rG H a b = true ↔ Reach (adjG H) a b := fun H a b => by unfold rG; simp
    rw [Bool.eq_iff_iff, h1, h1]
    exact reach_turn hR b a
  unfold sG sccs
  rw [trn_len]
  have e1 : least (rG (trnG G)) = least (rG G) := by
    funext a
    unfold least
    simp only [e]
    congr 1
    funext b
    rw [Bool.and_comm]
  have e2 : scc (rG (trnG G)) G.length = scc (rG G) G.length := by
    funext v
    unfold scc
    congr 1
    funext x
    rw [e, e, Bool.and_comm]
  rw [e1, e2]
theorem pG_turn_len {G : List (List Nat)} (hR : RG G) : (pG (trnG G)).length = (pG G).length := by rw [pG_len, pG_len, sG_turn hR]
/-- The part that stands here stands there too. -/
theorem part_turn {G : List (List Nat)} (hR : RG G) {j : Nat} (hj : j < (pG G).length) :
    ((pG G).getD j []).getD 0 0 < G.length ∧ ∃ k, k < (pG (trnG G)).length ∧ idxP ((pG (trnG G)).map nums) (((pG G).getD j []).getD 0 0 : Nat) = k ∧ (pG (trnG G)).getD k [] = (pG G).getD j [] := by
  have hne := ((pG_small hR).2 j hj).1
  have hm : ((pG G).getD j []).getD 0 0 ∈ (pG G).getD j [] := by
    match h : (pG G).getD j [], hne with
    | a :: l, _ => simp
  obtain ⟨h1, h2⟩ := pG_has hR hj hm
  refine ⟨h1, ?_⟩
  generalize ((pG G).getD j []).getD 0 0 = a at *
  obtain ⟨k, k1, k2, k3, k4, k5⟩ := place_of hR.turned (i := a) (by rw [trn_len]; exact h1)
  obtain ⟨j', j1, j2, j3, j4, j5⟩ := place_of hR h1
  refine ⟨k, k1, k5, ?_⟩
  have hl := plG_len G
  obtain rfl := nodup_at (plG_nodup hR) (i := j) (j := j') (by omega) (by omega) (by rw [j2, h2])
  rw [k3, j3, ptG_turn hR h1]
end Go.Proofs.Ytefeokfjgmidbaa

/- A grammar at work, in memory: what a node may, by the rules that are in. -/
import Derived.Test.YtlbjmkljmhfjdaaGreatB2
set_option linter.unusedSimpArgs false
set_option linter.unusedVariables false
namespace Go.Proofs.YtlbjmkljmhfjdaaGreat
open Go Go.RowKit Go.Maps
/-- A grammar at work: the grammar, the laws, the ranks. -/
structure Wrk (w : World) (p : Nat) (g : Gr) (mb rb : Nat) (r : List Int) : Prop where
  box : Blk w p #[.slice g.RA g.rules.length g.rc, .slice g.NA g.nodes.length g.nc, .map (some mb), .slice (some ⟨rb, 0, none⟩) g.rules.length g.rules.length] 224
  gr : Gr.At w g
  laws : Laws w mb
  row : Blk w rb (ints r).toArray 3
  len : r.length = g.rules.length
theorem Wrk.below {w w' : World} {p mb rb : Nat} {g : Gr} {r : List Int} (h : Wrk w p g mb rb r) (hb : Below w.heap.size w w') : Wrk w' p g mb rb r :=
  ⟨h.box.below' hb, h.gr.below hb, h.laws.below hb, h.row.below' hb, h.len⟩
theorem in_any {w : World} {p mb rb : Nat} {g : Gr} {r : List Int} (h : Wrk w p g mb rb r) (i : Nat) (hi : i < g.rules.length) :
    Calls Tryz.prog 298 #[.pointer (some ⟨p, 0, none⟩), .int .i64 i] w fun e w' => e = .returned (.bool (inB r i)) ∧ w' = w := by
  have c3 := h.box.cell 3
  simp only [List.getElem?_toArray, List.getElem?_cons_zero, List.getElem?_cons_succ] at c3
  have cr : w.cell? ⟨rb, i, none⟩ = some (.int .i64 (r.getD i 0)) := (h.row.cell i).trans (by rw [List.getElem?_toArray]; exact ints_at (by rw [h.len]; exact hi))
  have hI := Lib.hid (show inB r i = decide (0 < r.getD i 0) from rfl)
  obtain ⟨v, ev⟩ : ∃ v, v = r.getD i 0 := ⟨_, rfl⟩
  rw [← ev] at cr hI
  obtain ⟨m, em⟩ : ∃ m, m = g.rules.length := ⟨_, rfl⟩
  rw [← em] at c3 hi
  have hi2 : (i : Int) < m := by omega
  clear h ev em
  go_enter Tryz.func298, Tryz.ntmps298
  go_wp2_with fail
  go_ret
  exact ⟨ret_bool (by rw [hI.out]), rfl⟩
set_option maxRecDepth 100000 in
set_option maxHeartbeats 2000000 in
theorem idx_may (A : Option Addr) (c : Nat) (a : List Int) (p : Nat) (q : Int → Bool) (ha : a.length ≤ 140737488351232) (w : World) (hA : Lies w A (ints a))
    (hq : ∀ k ∈ a, ∀ w', Below w.heap.size w w' → Calls Tryz.prog 205 #[.pointer (some ⟨p, 0, none⟩), .int .i64 k] w' fun e w'' => e = .returned (.bool (q k)) ∧ Below w'.heap.size w' w'') :
    Calls Tryz.prog 206 #[.slice A a.length c, .func (.func 205) #[.pointer (some ⟨p, 0, none⟩)] #[]] w fun e w' => ∃ j : Int, e = .returned (.int .i64 j) ∧ decide (0 ≤ j) = a.any q ∧ Below w.heap.size w w' := by
  have HA := Lib.hid hA
  have HQ := Lib.hid hq
  obtain ⟨m, em⟩ : ∃ m, m = a.length := ⟨_, rfl⟩
  rw [← em] at ha ⊢
  have EM := Lib.hid em
  clear hA hq em
  go_enter Tryz.func206, Tryz.ntmps206
  go_wp2_with fail
  go_loopw [8, 5] (fun i _ wr => ∃ k : Nat, k ≤ m ∧ i = .int .i64 k ∧ (∀ j, j < k → q (a.getD j 0) = false) ∧ Below w.heap.size w wr) (fun i _ _ => m - (RowKit.intOf i).toNat)
  case atStart => exact ⟨0, by omega, rfl, fun j h => by omega, Below.refl _ _⟩
  case round =>
    obtain ⟨k, hk, rfl, ht, hbl⟩ := hrel
    have HT := Lib.hid ht
    have BL := Lib.hid hbl
    clear ht hbl
    by_cases hlt : k < m
    · have hlt2 : (k : Int) < m := by omega
      obtain ⟨b1, o1, rfl, _, c1⟩ := lies_cell (HA.out.below BL.out) (show k < a.length by have := EM.out; omega)
      have hmem : a.getD k 0 ∈ a := by have := EM.out; simp [List.getD, List.getElem?_eq_getElem (show k < a.length by omega)]
      have A1 := Lib.hid (HQ.out _ hmem)
      have KT : RowKit.Hid (q (a.getD k 0) = true → a.any q = true) := Lib.hid (fun h => List.any_eq_true.2 ⟨_, hmem, h⟩)
      clear hmem
      generalize hx : a.getD k 0 = x at c1 A1 KT
      have HX := Lib.hid hx
      clear hx
      obtain ⟨bo, ebo⟩ : ∃ bo, bo = q x := ⟨_, rfl⟩
      rw [← ebo] at A1 KT
      have EBO := Lib.hid ebo
      clear ebo
      cases bo with
      | true =>
        go_wp2_with (go_at_call 205; with_reducible refine (A1.out _ BL.out).mono ?_; rintro e w1 ⟨rfl, hb⟩; have H1 := Lib.hid (bb BL.out hb); clear hb)
        go_ret
        exact ⟨_, rfl, by rw [KT.out (by first | trivial | rfl)]; simp, H1.out⟩
      | false =>
        go_wp2_with (go_at_call 205; with_reducible refine (A1.out _ BL.out).mono ?_; rintro e w1 ⟨rfl, hb⟩; have H1 := Lib.hid (bb BL.out hb); clear hb)
        go_roundw
        case rel => exact ⟨k + 1, by omega, by go_num, fun j hj => by
            by_cases e : j = k
            · subst e; rw [HX.out]; exact EBO.out.symm
            · exact HT.out j (by omega), H1.out⟩
        case measure => simp [RowKit.intOf]; omega
    · obtain rfl : k = m := by omega
      have hlt2 : ¬ (k : Int) < k := by omega
      go_wp2_with fail
      go_ret
      refine ⟨_, rfl, ?_, BL.out⟩
      have : a.any q = false := List.any_eq_false.2 fun x hx => by
        obtain ⟨j, hj, rfl⟩ := List.getElem_of_mem hx
        have := HT.out j (by have := EM.out; omega)
        simp only [List.getD, List.getElem?_eq_getElem hj, Option.getD_some] at this
        simp [this]
      rw [this]
      decide
theorem contains_may (A : Option Addr) (c : Nat) (a : List Int) (p : Nat) (q : Int → Bool) (ha : a.length ≤ 140737488351232) (w : World) (hA : Lies w A (ints a))
    (hq : ∀ k ∈ a, ∀ w', Below w.heap.size w w' → Calls Tryz.prog 205 #[.pointer (some ⟨p, 0, none⟩), .int .i64 k] w' fun e w'' => e = .returned (.bool (q k)) ∧ Below w'.heap.size w' w'') :
    Calls Tryz.prog 299 #[.slice A a.length c, .func (.func 205) #[.pointer (some ⟨p, 0, none⟩)] #[]] w fun e w' => e = .returned (.bool (a.any q)) ∧ Below w.heap.size w w' := by
  have I := Lib.hid (idx_may A c a p q ha w hA hq)
  obtain ⟨m, em⟩ : ∃ m, m = a.length := ⟨_, rfl⟩
  rw [← em] at I ⊢
  clear hA hq em
  go_enter Tryz.func299, Tryz.ntmps299
  go_wp2_with (go_at_call 206; with_reducible refine I.out.mono ?_; rintro e w1 ⟨j, rfl, hj, hb⟩; have H1 := Lib.hid hb; have HJ := Lib.hid hj; clear hb hj)
  go_ret
  exact ⟨ret_bool HJ.out, H1.out⟩
set_option maxRecDepth 100000 in
set_option maxHeartbeats 2000000 in
theorem idx_not (A : Option Addr) (c : Nat) (a : List Int) (p : Nat) (q : Int → Bool) (ha : a.length ≤ 140737488351232) (w : World) (hA : Lies w A (ints a))
    (hq : ∀ k ∈ a, ∀ w', Below w.heap.size w w' → Calls Tryz.prog 300 #[.pointer (some ⟨p, 0, none⟩), .int .i64 k] w' fun e w'' => e = .returned (.bool (q k)) ∧ Below w'.heap.size w' w'') :
    Calls Tryz.prog 206 #[.slice A a.length c, .func (.func 300) #[.pointer (some ⟨p, 0, none⟩)] #[]] w fun e w' => ∃ j : Int, e = .returned (.int .i64 j) ∧ decide (0 ≤ j) = a.any q ∧ Below w.heap.size w w' := by
  have HA := Lib.hid hA
  have HQ := Lib.hid hq
  obtain ⟨m, em⟩ : ∃ m, m = a.length := ⟨_, rfl⟩
  rw [← em] at ha ⊢
  have EM := Lib.hid em
  clear hA hq em
  go_enter Tryz.func206, Tryz.ntmps206
  go_wp2_with fail
  go_loopw [8, 5] (fun i _ wr => ∃ k : Nat, k ≤ m ∧ i = .int .i64 k ∧ (∀ j, j < k → q (a.getD j 0) = false) ∧ Below w.heap.size w wr) (fun i _ _ => m - (RowKit.intOf i).toNat)
  case atStart => exact ⟨0, by omega, rfl, fun j h => by omega, Below.refl _ _⟩
  case round =>
    obtain ⟨k, hk, rfl, ht, hbl⟩ := hrel
    have HT := Lib.hid ht
    have BL := Lib.hid hbl
    clear ht hbl
    by_cases hlt : k < m
    · have hlt2 : (k : Int) < m := by omega
      obtain ⟨b1, o1, rfl, _, c1⟩ := lies_cell (HA.out.below BL.out) (show k < a.length by have := EM.out; omega)
      have hmem : a.getD k 0 ∈ a := by have := EM.out; simp [List.getD, List.getElem?_eq_getElem (show k < a.length by omega)]
      have A1 := Lib.hid (HQ.out _ hmem)
      have KT : RowKit.Hid (q (a.getD k 0) = true → a.any q = true) := Lib.hid (fun h => List.any_eq_true.2 ⟨_, hmem, h⟩)
      clear hmem
      generalize hx : a.getD k 0 = x at c1 A1 KT
      have HX := Lib.hid hx
      clear hx
      obtain ⟨bo, ebo⟩ : ∃ bo, bo = q x := ⟨_, rfl⟩
      rw [← ebo] at A1 KT
      have EBO := Lib.hid ebo
      clear ebo
      cases bo with
      | true =>
        go_wp2_with (go_at_call 300; with_reducible refine (A1.out _ BL.out).mono ?_; rintro e w1 ⟨rfl, hb⟩; have H1 := Lib.hid (bb BL.out hb); clear hb)
        go_ret
        exact ⟨_, rfl, by rw [KT.out (by first | trivial | rfl)]; simp, H1.out⟩
      | false =>
        go_wp2_with (go_at_call 300; with_reducible refine (A1.out _ BL.out).mono ?_; rintro e w1 ⟨rfl, hb⟩; have H1 := Lib.hid (bb BL.out hb); clear hb)
        go_roundw
        case rel => exact ⟨k + 1, by omega, by go_num, fun j hj => by
            by_cases e : j = k
            · subst e; rw [HX.out]; exact EBO.out.symm
            · exact HT.out j (by omega), H1.out⟩
        case measure => simp [RowKit.intOf]; omega
    · obtain rfl : k = m := by omega
      have hlt2 : ¬ (k : Int) < k := by omega
      go_wp2_with fail
      go_ret
      refine ⟨_, rfl, ?_, BL.out⟩
      have : a.any q = false := List.any_eq_false.2 fun x hx => by
        obtain ⟨j, hj, rfl⟩ := List.getElem_of_mem hx
        have := HT.out j (by have := EM.out; omega)
        simp only [List.getD, List.getElem?_eq_getElem hj, Option.getD_some] at this
        simp [this]
      rw [this]
      decide
theorem contains_not (A : Option Addr) (c : Nat) (a : List Int) (p : Nat) (q : Int → Bool) (ha : a.length ≤ 140737488351232) (w : World) (hA : Lies w A (ints a))
    (hq : ∀ k ∈ a, ∀ w', Below w.heap.size w w' → Calls Tryz.prog 300 #[.pointer (some ⟨p, 0, none⟩), .int .i64 k] w' fun e w'' => e = .returned (.bool (q k)) ∧ Below w'.heap.size w' w'') :
    Calls Tryz.prog 299 #[.slice A a.length c, .func (.func 300) #[.pointer (some ⟨p, 0, none⟩)] #[]] w fun e w' => e = .returned (.bool (a.any q)) ∧ Below w.heap.size w w' := by
  have I := Lib.hid (idx_not A c a p q ha w hA hq)
  obtain ⟨m, em⟩ : ∃ m, m = a.length := ⟨_, rfl⟩
  rw [← em] at I ⊢
  clear hA hq em
  go_enter Tryz.func299, Tryz.ntmps299
  go_wp2_with (go_at_call 206; with_reducible refine I.out.mono ?_; rintro e w1 ⟨j, rfl, hj, hb⟩; have H1 := Lib.hid hb; have HJ := Lib.hid hj; clear hb hj)
  go_ret
  exact ⟨ret_bool HJ.out, H1.out⟩
theorem not_of (p : Nat) (k : Int) (b : Bool) (w : World) (h : Calls Tryz.prog 205 #[.pointer (some ⟨p, 0, none⟩), .int .i64 k] w fun e w'' => e = .returned (.bool b) ∧ Below w.heap.size w w'') :
    Calls Tryz.prog 300 #[.pointer (some ⟨p, 0, none⟩), .int .i64 k] w fun e w'' => e = .returned (.bool (!b)) ∧ Below w.heap.size w w'' := by
  have H := Lib.hid h
  clear h
  go_enter Tryz.func300, Tryz.ntmps300
  go_wp2_with (go_at_call 205; with_reducible refine H.out.mono ?_; rintro e w1 ⟨rfl, hb⟩; have H1 := Lib.hid hb; clear hb)
  go_ret
  exact ⟨rfl, H1.out⟩
theorem always_any (v : Value) (x : Nd) (w : World) : Calls Tryz.prog 265 #[v, x.val] w fun e w' => e = .returned (.bool true) ∧ Below w.heap.size w w' := by
  go_enter Tryz.func265, Tryz.ntmps265
  go_wp2_with fail
  go_ret
  exact ⟨rfl, B1 _ _⟩
theorem never_any (v : Value) (x : Nd) (w : World) : Calls Tryz.prog 266 #[v, x.val] w fun e w' => e = .returned (.bool false) ∧ Below w.heap.size w w' := by
  go_enter Tryz.func266, Tryz.ntmps266
  go_wp2_with fail
  go_ret
  exact ⟨rfl, B1 _ _⟩
theorem called_any {w : World} {p mb rb : Nat} {g : Gr} {r : List Int} (h : Wrk w p g mb rb r) (x : Nd) (h0 : 0 ≤ x.rule) (h1 : x.rule < g.rules.length) :
    Calls Tryz.prog 267 #[.pointer (some ⟨p, 0, none⟩), x.val] w fun e w' => e = .returned (.bool (inB r x.rule)) ∧ Below w.heap.size w w' := by
  obtain ⟨i, hi⟩ : ∃ i : Nat, (i : Int) = x.rule := ⟨x.rule.toNat, by omega⟩
  have I := Lib.hid (fun (w' : World) (hb : Below w.heap.size w w') => in_any (h.below hb) i (by omega))
  obtain ⟨kd, c0, c1, c2, c3, t, ru, lv, A, cap, ks⟩ := x
  dsimp only at hi
  subst hi
  clear h h0 h1
  go_enter Tryz.func267, Tryz.ntmps267
  go_wp2_with (go_at_call 298; with_reducible refine (I.out _ (B1 _ _)).mono ?_; rintro e w1 ⟨rfl, rfl⟩)
  go_ret
  exact ⟨rfl, B1 _ _⟩
theorem each_any (p : Nat) (x : Nd) (q : Int → Bool) (w : World) (hx : Nd.At w x)
    (hq : ∀ k ∈ x.kids, ∀ w', Below w.heap.size w w' → Calls Tryz.prog 205 #[.pointer (some ⟨p, 0, none⟩), .int .i64 k] w' fun e w'' => e = .returned (.bool (q k)) ∧ Below w'.heap.size w' w'') :
    Calls Tryz.prog 268 #[.pointer (some ⟨p, 0, none⟩), x.val] w fun e w' => e = .returned (.bool (x.kids.all q)) ∧ Below w.heap.size w w' := by
  have C := Lib.hid (fun (w' : World) (hb : Below w.heap.size w w') => contains_not x.A x.cap x.kids p (fun k => !q k) hx.2.2 w' (hx.below hb).1 (fun k hk w'' hb2 => not_of p k (q k) w'' (hq k hk w'' (hb.trans (hb2.mono hb.size)))))
  have E : (x.kids.any fun k => !q k) = !(x.kids.all q) := by
    rw [List.all_eq_not_any_not]
    simp
  rw [E] at C
  obtain ⟨b, eb⟩ : ∃ b, b = x.kids.all q := ⟨_, rfl⟩
  rw [← eb] at C ⊢
  clear E eb
  obtain ⟨kd, c0, c1, c2, c3, t, ru, lv, A, cap, ks⟩ := x
  dsimp only at C
  clear hx hq
  have C2 := Lib.hid C.out
  clear C
  go_enter Tryz.func268, Tryz.ntmps268
  go_wp2_with (go_at_call 299; with_reducible refine (C2.out _ (B1 _ _)).mono ?_; rintro e w1 ⟨rfl, hb⟩; have H1 := Lib.hid (bb (B1 w _) hb); clear hb)
  go_ret
  exact ⟨by simp, H1.out⟩
theorem some_any (p : Nat) (x : Nd) (q : Int → Bool) (w : World) (hx : Nd.At w x)
    (hq : ∀ k ∈ x.kids, ∀ w', Below w.heap.size w w' → Calls Tryz.prog 205 #[.pointer (some ⟨p, 0, none⟩), .int .i64 k] w' fun e w'' => e = .returned (.bool (q k)) ∧ Below w'.heap.size w' w'') :
    Calls Tryz.prog 269 #[.pointer (some ⟨p, 0, none⟩), x.val] w fun e w' => e = .returned (.bool (x.kids.any q)) ∧ Below w.heap.size w w' := by
  have C := Lib.hid (fun (w' : World) (hb : Below w.heap.size w w') => contains_may x.A x.cap x.kids p q hx.2.2 w' (hx.below hb).1 (fun k hk w'' hb2 => hq k hk w'' (hb.trans (hb2.mono hb.size))))
  obtain ⟨b, eb⟩ : ∃ b, b = x.kids.any q := ⟨_, rfl⟩
  rw [← eb] at C ⊢
  clear eb
  obtain ⟨kd, c0, c1, c2, c3, t, ru, lv, A, cap, ks⟩ := x
  dsimp only at C
  clear hx hq
  have C2 := Lib.hid C.out
  clear C
  go_enter Tryz.func269, Tryz.ntmps269
  go_wp2_with (go_at_call 299; with_reducible refine (C2.out _ (B1 _ _)).mono ?_; rintro e w1 ⟨rfl, hb⟩; have H1 := Lib.hid (bb (B1 w _) hb); clear hb)
  go_ret
  exact ⟨by simp, H1.out⟩
theorem kinds {x : Nd} {r : Int} (h : nodeOk x r = true) : 1 ≤ x.kind ∧ x.kind ≤ 12 ∧ (x.kind = 5 → 0 ≤ x.rule ∧ x.rule < r) := by
  have := (nodeOk_iff x r).1 h
  unfold NodeIs at this
  omega
set_option maxRecDepth 100000 in
set_option maxHeartbeats 2000000 in
theorem may_always {w : World} {p mb rb : Nat} {g : Gr} {r : List Int} (h : Wrk w p g mb rb r) (hin : Gr.In g) (n : Nat) (hn : n < g.nodes.length) (b : Bool) (hf : find (g.nodes.getD n Nd.zero).kind lws = some ((265 : Nat) : Int))
    (hL : ∀ w', Below w.heap.size w w' → Calls Tryz.prog 265 #[.pointer (some ⟨p, 0, none⟩), (g.nodes.getD n Nd.zero).val] w' fun e w'' => e = .returned (.bool b) ∧ Below w'.heap.size w' w'') :
    Calls Tryz.prog 205 #[.pointer (some ⟨p, 0, none⟩), .int .i64 n] w fun e w' => e = .returned (.bool b) ∧ Below w.heap.size w w' := by
  have c1 := h.box.cell 1
  have c2 := fun (e : Ext w) => (h.box.below' e.grown).cell 2
  simp only [List.getElem?_toArray, List.getElem?_cons_zero, List.getElem?_cons_succ] at c1 c2
  have hki := (hin _ (show g.nodes.getD n Nd.zero ∈ g.nodes by simp [List.getD, List.getElem?_eq_getElem hn])).kind
  have lo := fun (e : Ext w) => lookL (h.laws.below e.grown) _ hki _ hf
  obtain ⟨b1, o1, eA, hb1, d0, d1, d2, d3, d4, d5, d6, d7, d8⟩ := h.gr.nodes.nine hn
  rw [eA] at c1
  obtain ⟨m, em⟩ : ∃ m, m = g.nodes.length := ⟨_, rfl⟩
  rw [← em] at c1 hn
  have HL := Lib.hid hL
  have hn2 : (n : Int) < m := by omega
  generalize g.nodes.getD n Nd.zero = x at lo d0 d1 d2 d3 d4 d5 d6 d7 d8 HL
  obtain ⟨kd, q0, q1, q2, q3, t, ru, lv, A, cap, ks⟩ := x
  dsimp only at lo d0 d1 d2 d3 d4 d5 d6 d7 d8
  clear h hin hf hki hL eA em hb1
  go_enter Tryz.func205, Tryz.ntmps205
  go_wp2_with fail
  obtain ⟨wb, ewb⟩ : ∃ u, u = w.alloc (.cells #[.int .i64 kd, .int .u64 q0, .int .u64 q1, .int .u64 q2, .int .u64 q3, .string t, .int .i64 ru, .int .i64 lv, .slice A ks.length cap] 40) := ⟨_, rfl⟩
  have KB : Blk wb w.heap.size #[.int .i64 kd, .int .u64 q0, .int .u64 q1, .int .u64 q2, .int .u64 q3, .string t, .int .i64 ru, .int .i64 lv, .slice A ks.length cap] 40 := by rw [ewb]; exact Blk.new _ _ _
  have BB : Below w.heap.size w wb := by rw [ewb]; exact B1 _ _
  rw [← ewb]
  clear ewb
  have up := fun (e : Ext wb) => bb BB e.grown
  have e2 : ∀ e : Ext wb, e.val.cell? ⟨p, 2, none⟩ = some (.map (some mb)) := fun e => c2 ⟨e.val, up e⟩
  have lo2 := fun (e : Ext wb) => lo ⟨e.val, up e⟩
  dsimp only at lo2
  have k0 : ∀ e : Ext wb, e.val.cell? ⟨w.heap.size, 0, none⟩ = some (.int .i64 kd) := fun e => Ext.cell (w := wb) (KB.cell 0) e
  have k1 : ∀ e : Ext wb, e.val.cell? ⟨w.heap.size, 1, none⟩ = some (.int .u64 q0) := fun e => Ext.cell (w := wb) (KB.cell 1) e
  have k2 : ∀ e : Ext wb, e.val.cell? ⟨w.heap.size, 2, none⟩ = some (.int .u64 q1) := fun e => Ext.cell (w := wb) (KB.cell 2) e
  have k3 : ∀ e : Ext wb, e.val.cell? ⟨w.heap.size, 3, none⟩ = some (.int .u64 q2) := fun e => Ext.cell (w := wb) (KB.cell 3) e
  have k4 : ∀ e : Ext wb, e.val.cell? ⟨w.heap.size, 4, none⟩ = some (.int .u64 q3) := fun e => Ext.cell (w := wb) (KB.cell 4) e
  have k5 : ∀ e : Ext wb, e.val.cell? ⟨w.heap.size, 5, none⟩ = some (.string t) := fun e => Ext.cell (w := wb) (KB.cell 5) e
  have k6 : ∀ e : Ext wb, e.val.cell? ⟨w.heap.size, 6, none⟩ = some (.int .i64 ru) := fun e => Ext.cell (w := wb) (KB.cell 6) e
  have k7 : ∀ e : Ext wb, e.val.cell? ⟨w.heap.size, 7, none⟩ = some (.int .i64 lv) := fun e => Ext.cell (w := wb) (KB.cell 7) e
  have k8 : ∀ e : Ext wb, e.val.cell? ⟨w.heap.size, 8, none⟩ = some (.slice A ks.length cap) := fun e => Ext.cell (w := wb) (KB.cell 8) e
  have L2 := Lib.hid (fun (e : Ext wb) => HL.out e.val (up e))
  have HB := Lib.hid BB
  clear up BB KB c2 lo HL c1 d0 d1 d2 d3 d4 d5 d6 d7 d8 hn hn2
  refine wp_region_ext (by kernel_rfl) (by kernel_rfl) ?_
  repeat (first | go_big_quiet_step (first | (go_at_call 265; with_reducible exact Calls.ext_of (L2.out _))) | quiet_step (first | (go_at_call 265; with_reducible exact Calls.ext_of (L2.out _))))
  refine wpQuiet_nil ?_
  intro wd hw'
  obtain ⟨⟨wd', hb9⟩, e9⟩ := hw'
  obtain rfl : wd = wd' := e9
  have B9 := Lib.hid (bb HB.out hb9)
  clear hb9 k0 k1 k2 k3 k4 k5 k6 k7 k8 e2 lo2
  go_wp2_with fail
  go_ret
  exact ⟨rfl, B9.out⟩
set_option maxRecDepth 100000 in
set_option maxHeartbeats 2000000 in
theorem may_never {w : World} {p mb rb : Nat} {g : Gr} {r : List Int} (h : Wrk w p g mb rb r) (hin : Gr.In g) (n : Nat) (hn : n < g.nodes.length) (b : Bool) (hf : find (g.nodes.getD n Nd.zero).kind lws = some ((266 : Nat) : Int))
    (hL : ∀ w', Below w.heap.size w w' → Calls Tryz.prog 266 #[.pointer (some ⟨p, 0, none⟩), (g.nodes.getD n Nd.zero).val] w' fun e w'' => e = .returned (.bool b) ∧ Below w'.heap.size w' w'') :
    Calls Tryz.prog 205 #[.pointer (some ⟨p, 0, none⟩), .int .i64 n] w fun e w' => e = .returned (.bool b) ∧ Below w.heap.size w w' := by
  have c1 := h.box.cell 1
  have c2 := fun (e : Ext w) => (h.box.below' e.grown).cell 2
  simp only [List.getElem?_toArray, List.getElem?_cons_zero, List.getElem?_cons_succ] at c1 c2
  have hki := (hin _ (show g.nodes.getD n Nd.zero ∈ g.nodes by simp [List.getD, List.getElem?_eq_getElem hn])).kind
  have lo := fun (e : Ext w) => lookL (h.laws.below e.grown) _ hki _ hf
  obtain ⟨b1, o1, eA, hb1, d0, d1, d2, d3, d4, d5, d6, d7, d8⟩ := h.gr.nodes.nine hn
  rw [eA] at c1
  obtain ⟨m, em⟩ : ∃ m, m = g.nodes.length := ⟨_, rfl⟩
  rw [← em] at c1 hn
  have HL := Lib.hid hL
  have hn2 : (n : Int) < m := by omega
  generalize g.nodes.getD n Nd.zero = x at lo d0 d1 d2 d3 d4 d5 d6 d7 d8 HL
  obtain ⟨kd, q0, q1, q2, q3, t, ru, lv, A, cap, ks⟩ := x
  dsimp only at lo d0 d1 d2 d3 d4 d5 d6 d7 d8
  clear h hin hf hki hL eA em hb1
  go_enter Tryz.func205, Tryz.ntmps205
  go_wp2_with fail
  obtain ⟨wb, ewb⟩ : ∃ u, u = w.alloc (.cells #[.int .i64 kd, .int .u64 q0, .int .u64 q1, .int .u64 q2, .int .u64 q3, .string t, .int .i64 ru, .int .i64 lv, .slice A ks.length cap] 40) := ⟨_, rfl⟩
  have KB : Blk wb w.heap.size #[.int .i64 kd, .int .u64 q0, .int .u64 q1, .int .u64 q2, .int .u64 q3, .string t, .int .i64 ru, .int .i64 lv, .slice A ks.length cap] 40 := by rw [ewb]; exact Blk.new _ _ _
  have BB : Below w.heap.size w wb := by rw [ewb]; exact B1 _ _
  rw [← ewb]
  clear ewb
  have up := fun (e : Ext wb) => bb BB e.grown
  have e2 : ∀ e : Ext wb, e.val.cell? ⟨p, 2, none⟩ = some (.map (some mb)) := fun e => c2 ⟨e.val, up e⟩
  have lo2 := fun (e : Ext wb) => lo ⟨e.val, up e⟩
  dsimp only at lo2
  have k0 : ∀ e : Ext wb, e.val.cell? ⟨w.heap.size, 0, none⟩ = some (.int .i64 kd) := fun e => Ext.cell (w := wb) (KB.cell 0) e
  have k1 : ∀ e : Ext wb, e.val.cell? ⟨w.heap.size, 1, none⟩ = some (.int .u64 q0) := fun e => Ext.cell (w := wb) (KB.cell 1) e
  have k2 : ∀ e : Ext wb, e.val.cell? ⟨w.heap.size, 2, none⟩ = some (.int .u64 q1) := fun e => Ext.cell (w := wb) (KB.cell 2) e
  have k3 : ∀ e : Ext wb, e.val.cell? ⟨w.heap.size, 3, none⟩ = some (.int .u64 q2) := fun e => Ext.cell (w := wb) (KB.cell 3) e
  have k4 : ∀ e : Ext wb, e.val.cell? ⟨w.heap.size, 4, none⟩ = some (.int .u64 q3) := fun e => Ext.cell (w := wb) (KB.cell 4) e
  have k5 : ∀ e : Ext wb, e.val.cell? ⟨w.heap.size, 5, none⟩ = some (.string t) := fun e => Ext.cell (w := wb) (KB.cell 5) e
  have k6 : ∀ e : Ext wb, e.val.cell? ⟨w.heap.size, 6, none⟩ = some (.int .i64 ru) := fun e => Ext.cell (w := wb) (KB.cell 6) e
  have k7 : ∀ e : Ext wb, e.val.cell? ⟨w.heap.size, 7, none⟩ = some (.int .i64 lv) := fun e => Ext.cell (w := wb) (KB.cell 7) e
  have k8 : ∀ e : Ext wb, e.val.cell? ⟨w.heap.size, 8, none⟩ = some (.slice A ks.length cap) := fun e => Ext.cell (w := wb) (KB.cell 8) e
  have L2 := Lib.hid (fun (e : Ext wb) => HL.out e.val (up e))
  have HB := Lib.hid BB
  clear up BB KB c2 lo HL c1 d0 d1 d2 d3 d4 d5 d6 d7 d8 hn hn2
  refine wp_region_ext (by kernel_rfl) (by kernel_rfl) ?_
  repeat (first | go_big_quiet_step (first | (go_at_call 266; with_reducible exact Calls.ext_of (L2.out _))) | quiet_step (first | (go_at_call 266; with_reducible exact Calls.ext_of (L2.out _))))
  refine wpQuiet_nil ?_
  intro wd hw'
  obtain ⟨⟨wd', hb9⟩, e9⟩ := hw'
  obtain rfl : wd = wd' := e9
  have B9 := Lib.hid (bb HB.out hb9)
  clear hb9 k0 k1 k2 k3 k4 k5 k6 k7 k8 e2 lo2
  go_wp2_with fail
  go_ret
  exact ⟨rfl, B9.out⟩
set_option maxRecDepth 100000 in
set_option maxHeartbeats 2000000 in
theorem may_called {w : World} {p mb rb : Nat} {g : Gr} {r : List Int} (h : Wrk w p g mb rb r) (hin : Gr.In g) (n : Nat) (hn : n < g.nodes.length) (b : Bool) (hf : find (g.nodes.getD n Nd.zero).kind lws = some ((267 : Nat) : Int))
    (hL : ∀ w', Below w.heap.size w w' → Calls Tryz.prog 267 #[.pointer (some ⟨p, 0, none⟩), (g.nodes.getD n Nd.zero).val] w' fun e w'' => e = .returned (.bool b) ∧ Below w'.heap.size w' w'') :
    Calls Tryz.prog 205 #[.pointer (some ⟨p, 0, none⟩), .int .i64 n] w fun e w' => e = .returned (.bool b) ∧ Below w.heap.size w w' := by
  have c1 := h.box.cell 1
  have c2 := fun (e : Ext w) => (h.box.below' e.grown).cell 2
  simp only [List.getElem?_toArray, List.getElem?_cons_zero, List.getElem?_cons_succ] at c1 c2
  have hki := (hin _ (show g.nodes.getD n Nd.zero ∈ g.nodes by simp [List.getD, List.getElem?_eq_getElem hn])).kind
  have lo := fun (e : Ext w) => lookL (h.laws.below e.grown) _ hki _ hf
  obtain ⟨b1, o1, eA, hb1, d0, d1, d2, d3, d4, d5, d6, d7, d8⟩ := h.gr.nodes.nine hn
  rw [eA] at c1
  obtain ⟨m, em⟩ : ∃ m, m = g.nodes.length := ⟨_, rfl⟩
  rw [← em] at c1 hn
  have HL := Lib.hid hL
  have hn2 : (n : Int) < m := by omega
  generalize g.nodes.getD n Nd.zero = x at lo d0 d1 d2 d3 d4 d5 d6 d7 d8 HL
  obtain ⟨kd, q0, q1, q2, q3, t, ru, lv, A, cap, ks⟩ := x
  dsimp only at lo d0 d1 d2 d3 d4 d5 d6 d7 d8
  clear h hin hf hki hL eA em hb1
  go_enter Tryz.func205, Tryz.ntmps205
  go_wp2_with fail
  obtain ⟨wb, ewb⟩ : ∃ u, u = w.alloc (.cells #[.int .i64 kd, .int .u64 q0, .int .u64 q1, .int .u64 q2, .int .u64 q3, .string t, .int .i64 ru, .int .i64 lv, .slice A ks.length cap] 40) := ⟨_, rfl⟩
  have KB : Blk wb w.heap.size #[.int .i64 kd, .int .u64 q0, .int .u64 q1, .int .u64 q2, .int .u64 q3, .string t, .int .i64 ru, .int .i64 lv, .slice A ks.length cap] 40 := by rw [ewb]; exact Blk.new _ _ _
  have BB : Below w.heap.size w wb := by rw [ewb]; exact B1 _ _
  rw [← ewb]
  clear ewb
  have up := fun (e : Ext wb) => bb BB e.grown
  have e2 : ∀ e : Ext wb, e.val.cell? ⟨p, 2, none⟩ = some (.map (some mb)) := fun e => c2 ⟨e.val, up e⟩
  have lo2 := fun (e : Ext wb) => lo ⟨e.val, up e⟩
  dsimp only at lo2
  have k0 : ∀ e : Ext wb, e.val.cell? ⟨w.heap.size, 0, none⟩ = some (.int .i64 kd) := fun e => Ext.cell (w := wb) (KB.cell 0) e
  have k1 : ∀ e : Ext wb, e.val.cell? ⟨w.heap.size, 1, none⟩ = some (.int .u64 q0) := fun e => Ext.cell (w := wb) (KB.cell 1) e
  have k2 : ∀ e : Ext wb, e.val.cell? ⟨w.heap.size, 2, none⟩ = some (.int .u64 q1) := fun e => Ext.cell (w := wb) (KB.cell 2) e
  have k3 : ∀ e : Ext wb, e.val.cell? ⟨w.heap.size, 3, none⟩ = some (.int .u64 q2) := fun e => Ext.cell (w := wb) (KB.cell 3) e
  have k4 : ∀ e : Ext wb, e.val.cell? ⟨w.heap.size, 4, none⟩ = some (.int .u64 q3) := fun e => Ext.cell (w := wb) (KB.cell 4) e
  have k5 : ∀ e : Ext wb, e.val.cell? ⟨w.heap.size, 5, none⟩ = some (.string t) := fun e => Ext.cell (w := wb) (KB.cell 5) e
  have k6 : ∀ e : Ext wb, e.val.cell? ⟨w.heap.size, 6, none⟩ = some (.int .i64 ru) := fun e => Ext.cell (w := wb) (KB.cell 6) e
  have k7 : ∀ e : Ext wb, e.val.cell? ⟨w.heap.size, 7, none⟩ = some (.int .i64 lv) := fun e => Ext.cell (w := wb) (KB.cell 7) e
  have k8 : ∀ e : Ext wb, e.val.cell? ⟨w.heap.size, 8, none⟩ = some (.slice A ks.length cap) := fun e => Ext.cell (w := wb) (KB.cell 8) e
  have L2 := Lib.hid (fun (e : Ext wb) => HL.out e.val (up e))
  have HB := Lib.hid BB
  clear up BB KB c2 lo HL c1 d0 d1 d2 d3 d4 d5 d6 d7 d8 hn hn2
  refine wp_region_ext (by kernel_rfl) (by kernel_rfl) ?_
  repeat (first | go_big_quiet_step (first | (go_at_call 267; with_reducible exact Calls.ext_of (L2.out _))) | quiet_step (first | (go_at_call 267; with_reducible exact Calls.ext_of (L2.out _))))
  refine wpQuiet_nil ?_
  intro wd hw'
  obtain ⟨⟨wd', hb9⟩, e9⟩ := hw'
  obtain rfl : wd = wd' := e9
  have B9 := Lib.hid (bb HB.out hb9)
  clear hb9 k0 k1 k2 k3 k4 k5 k6 k7 k8 e2 lo2
  go_wp2_with fail
  go_ret
  exact ⟨rfl, B9.out⟩
set_option maxRecDepth 100000 in
set_option maxHeartbeats 2000000 in
theorem may_each {w : World} {p mb rb : Nat} {g : Gr} {r : List Int} (h : Wrk w p g mb rb r) (hin : Gr.In g) (n : Nat) (hn : n < g.nodes.length) (b : Bool) (hf : find (g.nodes.getD n Nd.zero).kind lws = some ((268 : Nat) : Int))
    (hL : ∀ w', Below w.heap.size w w' → Calls Tryz.prog 268 #[.pointer (some ⟨p, 0, none⟩), (g.nodes.getD n Nd.zero).val] w' fun e w'' => e = .returned (.bool b) ∧ Below w'.heap.size w' w'') :
    Calls Tryz.prog 205 #[.pointer (some ⟨p, 0, none⟩), .int .i64 n] w fun e w' => e = .returned (.bool b) ∧ Below w.heap.size w w' := by
  have c1 := h.box.cell 1
  have c2 := fun (e : Ext w) => (h.box.below' e.grown).cell 2
  simp only [List.getElem?_toArray, List.getElem?_cons_zero, List.getElem?_cons_succ] at c1 c2
  have hki := (hin _ (show g.nodes.getD n Nd.zero ∈ g.nodes by simp [List.getD, List.getElem?_eq_getElem hn])).kind
  have lo := fun (e : Ext w) => lookL (h.laws.below e.grown) _ hki _ hf
  obtain ⟨b1, o1, eA, hb1, d0, d1, d2, d3, d4, d5, d6, d7, d8⟩ := h.gr.nodes.nine hn
  rw [eA] at c1
  obtain ⟨m, em⟩ : ∃ m, m = g.nodes.length := ⟨_, rfl⟩
  rw [← em] at c1 hn
  have HL := Lib.hid hL
  have hn2 : (n : Int) < m := by omega
  generalize g.nodes.getD n Nd.zero = x at lo d0 d1 d2 d3 d4 d5 d6 d7 d8 HL
  obtain ⟨kd, q0, q1, q2, q3, t, ru, lv, A, cap, ks⟩ := x
  dsimp only at lo d0 d1 d2 d3 d4 d5 d6 d7 d8
  clear h hin hf hki hL eA em hb1
  go_enter Tryz.func205, Tryz.ntmps205
  go_wp2_with fail
  obtain ⟨wb, ewb⟩ : ∃ u, u = w.alloc (.cells #[.int .i64 kd, .int .u64 q0, .int .u64 q1, .int .u64 q2, .int .u64 q3, .string t, .int .i64 ru, .int .i64 lv, .slice A ks.length cap] 40) := ⟨_, rfl⟩
  have KB : Blk wb w.heap.size #[.int .i64 kd, .int .u64 q0, .int .u64 q1, .int .u64 q2, .int .u64 q3, .string t, .int .i64 ru, .int .i64 lv, .slice A ks.length cap] 40 := by rw [ewb]; exact Blk.new _ _ _
  have BB : Below w.heap.size w wb := by rw [ewb]; exact B1 _ _
  rw [← ewb]
  clear ewb
  have up := fun (e : Ext wb) => bb BB e.grown
  have e2 : ∀ e : Ext wb, e.val.cell? ⟨p, 2, none⟩ = some (.map (some mb)) := fun e => c2 ⟨e.val, up e⟩
  have lo2 := fun (e : Ext wb) => lo ⟨e.val, up e⟩
  dsimp only at lo2
  have k0 : ∀ e : Ext wb, e.val.cell? ⟨w.heap.size, 0, none⟩ = some (.int .i64 kd) := fun e => Ext.cell (w := wb) (KB.cell 0) e
  have k1 : ∀ e : Ext wb, e.val.cell? ⟨w.heap.size, 1, none⟩ = some (.int .u64 q0) := fun e => Ext.cell (w := wb) (KB.cell 1) e
  have k2 : ∀ e : Ext wb, e.val.cell? ⟨w.heap.size, 2, none⟩ = some (.int .u64 q1) := fun e => Ext.cell (w := wb) (KB.cell 2) e
  have k3 : ∀ e : Ext wb, e.val.cell? ⟨w.heap.size, 3, none⟩ = some (.int .u64 q2) := fun e => Ext.cell (w := wb) (KB.cell 3) e
  have k4 : ∀ e : Ext wb, e.val.cell? ⟨w.heap.size, 4, none⟩ = some (.int .u64 q3) := fun e => Ext.cell (w := wb) (KB.cell 4) e
  have k5 : ∀ e : Ext wb, e.val.cell? ⟨w.heap.size, 5, none⟩ = some (.string t) := fun e => Ext.cell (w := wb) (KB.cell 5) e
  have k6 : ∀ e : Ext wb, e.val.cell? ⟨w.heap.size, 6, none⟩ = some (.int .i64 ru) := fun e => Ext.cell (w := wb) (KB.cell 6) e
  have k7 : ∀ e : Ext wb, e.val.cell? ⟨w.heap.size, 7, none⟩ = some (.int .i64 lv) := fun e => Ext.cell (w := wb) (KB.cell 7) e
  have k8 : ∀ e : Ext wb, e.val.cell? ⟨w.heap.size, 8, none⟩ = some (.slice A ks.length cap) := fun e => Ext.cell (w := wb) (KB.cell 8) e
  have L2 := Lib.hid (fun (e : Ext wb) => HL.out e.val (up e))
  have HB := Lib.hid BB
  clear up BB KB c2 lo HL c1 d0 d1 d2 d3 d4 d5 d6 d7 d8 hn hn2
  refine wp_region_ext (by kernel_rfl) (by kernel_rfl) ?_
  repeat (first | go_big_quiet_step (first | (go_at_call 268; with_reducible exact Calls.ext_of (L2.out _))) | quiet_step (first | (go_at_call 268; with_reducible exact Calls.ext_of (L2.out _))))
  refine wpQuiet_nil ?_
  intro wd hw'
  obtain ⟨⟨wd', hb9⟩, e9⟩ := hw'
  obtain rfl : wd = wd' := e9
  have B9 := Lib.hid (bb HB.out hb9)
  clear hb9 k0 k1 k2 k3 k4 k5 k6 k7 k8 e2 lo2
  go_wp2_with fail
  go_ret
  exact ⟨rfl, B9.out⟩
set_option maxRecDepth 100000 in
set_option maxHeartbeats 2000000 in
theorem may_some {w : World} {p mb rb : Nat} {g : Gr} {r : List Int} (h : Wrk w p g mb rb r) (hin : Gr.In g) (n : Nat) (hn : n < g.nodes.length) (b : Bool) (hf : find (g.nodes.getD n Nd.zero).kind lws = some ((269 : Nat) : Int))
    (hL : ∀ w', Below w.heap.size w w' → Calls Tryz.prog 269 #[.pointer (some ⟨p, 0, none⟩), (g.nodes.getD n Nd.zero).val] w' fun e w'' => e = .returned (.bool b) ∧ Below w'.heap.size w' w'') :
    Calls Tryz.prog 205 #[.pointer (some ⟨p, 0, none⟩), .int .i64 n] w fun e w' => e = .returned (.bool b) ∧ Below w.heap.size w w' := by
  have c1 := h.box.cell 1
  have c2 := fun (e : Ext w) => (h.box.below' e.grown).cell 2
  simp only [List.getElem?_toArray, List.getElem?_cons_zero, List.getElem?_cons_succ] at c1 c2
  have hki := (hin _ (show g.nodes.getD n Nd.zero ∈ g.nodes by simp [List.getD, List.getElem?_eq_getElem hn])).kind
  have lo := fun (e : Ext w) => lookL (h.laws.below e.grown) _ hki _ hf
  obtain ⟨b1, o1, eA, hb1, d0, d1, d2, d3, d4, d5, d6, d7, d8⟩ := h.gr.nodes.nine hn
  rw [eA] at c1
  obtain ⟨m, em⟩ : ∃ m, m = g.nodes.length := ⟨_, rfl⟩
  rw [← em] at c1 hn
  have HL := Lib.hid hL
  have hn2 : (n : Int) < m := by omega
  generalize g.nodes.getD n Nd.zero = x at lo d0 d1 d2 d3 d4 d5 d6 d7 d8 HL
  obtain ⟨kd, q0, q1, q2, q3, t, ru, lv, A, cap, ks⟩ := x
  dsimp only at lo d0 d1 d2 d3 d4 d5 d6 d7 d8
  clear h hin hf hki hL eA em hb1
  go_enter Tryz.func205, Tryz.ntmps205
  go_wp2_with fail
  obtain ⟨wb, ewb⟩ : ∃ u, u = w.alloc (.cells #[.int .i64 kd, .int .u64 q0, .int .u64 q1, .int .u64 q2, .int .u64 q3, .string t, .int .i64 ru, .int .i64 lv, .slice A ks.length cap] 40) := ⟨_, rfl⟩
  have KB : Blk wb w.heap.size #[.int .i64 kd, .int .u64 q0, .int .u64 q1, .int .u64 q2, .int .u64 q3, .string t, .int .i64 ru, .int .i64 lv, .slice A ks.length cap] 40 := by rw [ewb]; exact Blk.new _ _ _
  have BB : Below w.heap.size w wb := by rw [ewb]; exact B1 _ _
  rw [← ewb]
  clear ewb
  have up := fun (e : Ext wb) => bb BB e.grown
  have e2 : ∀ e : Ext wb, e.val.cell? ⟨p, 2, none⟩ = some (.map (some mb)) := fun e => c2 ⟨e.val, up e⟩
  have lo2 := fun (e : Ext wb) => lo ⟨e.val, up e⟩
  dsimp only at lo2
  have k0 : ∀ e : Ext wb, e.val.cell? ⟨w.heap.size, 0, none⟩ = some (.int .i64 kd) := fun e => Ext.cell (w := wb) (KB.cell 0) e
  have k1 : ∀ e : Ext wb, e.val.cell? ⟨w.heap.size, 1, none⟩ = some (.int .u64 q0) := fun e => Ext.cell (w := wb) (KB.cell 1) e
  have k2 : ∀ e : Ext wb, e.val.cell? ⟨w.heap.size, 2, none⟩ = some (.int .u64 q1) := fun e => Ext.cell (w := wb) (KB.cell 2) e
  have k3 : ∀ e : Ext wb, e.val.cell? ⟨w.heap.size, 3, none⟩ = some (.int .u64 q2) := fun e => Ext.cell (w := wb) (KB.cell 3) e
  have k4 : ∀ e : Ext wb, e.val.cell? ⟨w.heap.size, 4, none⟩ = some (.int .u64 q3) := fun e => Ext.cell (w := wb) (KB.cell 4) e
  have k5 : ∀ e : Ext wb, e.val.cell? ⟨w.heap.size, 5, none⟩ = some (.string t) := fun e => Ext.cell (w := wb) (KB.cell 5) e
  have k6 : ∀ e : Ext wb, e.val.cell? ⟨w.heap.size, 6, none⟩ = some (.int .i64 ru) := fun e => Ext.cell (w := wb) (KB.cell 6) e
  have k7 : ∀ e : Ext wb, e.val.cell? ⟨w.heap.size, 7, none⟩ = some (.int .i64 lv) := fun e => Ext.cell (w := wb) (KB.cell 7) e
  have k8 : ∀ e : Ext wb, e.val.cell? ⟨w.heap.size, 8, none⟩ = some (.slice A ks.length cap) := fun e => Ext.cell (w := wb) (KB.cell 8) e
  have L2 := Lib.hid (fun (e : Ext wb) => HL.out e.val (up e))
  have HB := Lib.hid BB
  clear up BB KB c2 lo HL c1 d0 d1 d2 d3 d4 d5 d6 d7 d8 hn hn2
  refine wp_region_ext (by kernel_rfl) (by kernel_rfl) ?_
  repeat (first | go_big_quiet_step (first | (go_at_call 269; with_reducible exact Calls.ext_of (L2.out _))) | quiet_step (first | (go_at_call 269; with_reducible exact Calls.ext_of (L2.out _))))
  refine wpQuiet_nil ?_
  intro wd hw'
  obtain ⟨⟨wd', hb9⟩, e9⟩ := hw'
  obtain rfl : wd = wd' := e9
  have B9 := Lib.hid (bb HB.out hb9)
  clear hb9 k0 k1 k2 k3 k4 k5 k6 k7 k8 e2 lo2
  go_wp2_with fail
  go_ret
  exact ⟨rfl, B9.out⟩
theorem find_lws {c : Int} (h : 1 ≤ c ∧ c ≤ 12) : find c lws = some (((if c = 1 ∨ c = 8 ∨ c = 10 ∨ c = 11 ∨ c = 12 then 265 else if c = 6 ∨ c = 9 then 268 else if c = 7 then 269 else if c = 5 then 267 else 266 : Nat) : Nat) : Int) := by
  obtain rfl | rfl | rfl | rfl | rfl | rfl | rfl | rfl | rfl | rfl | rfl | rfl : c = 1 ∨ c = 2 ∨ c = 3 ∨ c = 4 ∨ c = 5 ∨ c = 6 ∨ c = 7 ∨ c = 8 ∨ c = 9 ∨ c = 10 ∨ c = 11 ∨ c = 12 := by omega
  all_goals simp [find, lws]
theorem may_any {p mb rb : Nat} {g : Gr} {r : List Int} (hin : Gr.In g) (hR : Right g) : ∀ (d n : Nat), n < g.nodes.length → g.nodes.length - n ≤ d → ∀ w, Wrk w p g mb rb r →
    Calls Tryz.prog 205 #[.pointer (some ⟨p, 0, none⟩), .int .i64 n] w fun e w' => e = .returned (.bool (mayN g.nodes (inB r) n)) ∧ Below w.heap.size w w'
  | 0, n, hn, hd, w, h => by omega
  | d + 1, n, hn, hd, w, h => by
    have hk := kinds (hR.all n hn)
    have hf := find_lws ⟨hk.1, hk.2.1⟩
    have hup := hR.kidsUp n hn
    have hE := mayN_eq hR.kidsUp (inB r) (n := (n : Int)) (by omega) (by omega)
    rw [Int.toNat_natCast] at hE
    have hq : ∀ k ∈ (g.nodes.getD n Nd.zero).kids, ∀ w', Below w.heap.size w w' → Calls Tryz.prog 205 #[.pointer (some ⟨p, 0, none⟩), .int .i64 k] w' fun e w'' => e = .returned (.bool (mayN g.nodes (inB r) k)) ∧ Below w'.heap.size w' w'' := by
      intro k hk' w' hb
      have := hup k hk'
      have := may_any hin hR d k.toNat (by omega) (by omega) w' (h.below hb)
      rw [show ((k.toNat : Nat) : Int) = k by omega] at this
      exact this
    have hx := h.gr.node hn
    rw [hE]
    unfold stepMay
    by_cases a1 : (g.nodes.getD n Nd.zero).kind = 1 ∨ (g.nodes.getD n Nd.zero).kind = 8 ∨ (g.nodes.getD n Nd.zero).kind = 10 ∨ (g.nodes.getD n Nd.zero).kind = 11 ∨ (g.nodes.getD n Nd.zero).kind = 12
    · rw [if_pos a1] at hf ⊢
      exact may_always h hin n hn _ hf fun w' hb => always_any _ _ w'
    · rw [if_neg a1] at hf ⊢
      by_cases a2 : (g.nodes.getD n Nd.zero).kind = 6 ∨ (g.nodes.getD n Nd.zero).kind = 9
      · rw [if_pos a2] at hf ⊢
        exact may_each h hin n hn _ hf fun w' hb => each_any p _ _ w' (hx.below hb) fun k hk w'' hb2 => hq k hk w'' (hb.trans (hb2.mono hb.size))
      · rw [if_neg a2] at hf ⊢
        by_cases a3 : (g.nodes.getD n Nd.zero).kind = 7
        · rw [if_pos a3] at hf ⊢
          exact may_some h hin n hn _ hf fun w' hb => some_any p _ _ w' (hx.below hb) fun k hk w'' hb2 => hq k hk w'' (hb.trans (hb2.mono hb.size))
        · rw [if_neg a3] at hf ⊢
          by_cases a4 : (g.nodes.getD n Nd.zero).kind = 5
          · rw [if_pos a4] at hf ⊢
            exact may_called h hin n hn _ hf fun w' hb => called_any (h.below hb) _ (hk.2.2 a4).1 (hk.2.2 a4).2
          · rw [if_neg a4] at hf ⊢
            exact may_never h hin n hn _ hf fun w' hb => never_any _ _ w'
end Go.Proofs.YtlbjmkljmhfjdaaGreat

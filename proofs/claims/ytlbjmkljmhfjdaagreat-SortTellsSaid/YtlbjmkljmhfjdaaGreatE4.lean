/- The reference's nullable: a node. (Great seat.) -/
import Derived.Test.YtlbjmkljmhfjdaaGreatE3
import Derived.Test.YtlbjmkljmhfjdaaGreatC9
set_option linter.unusedSimpArgs false
set_option linter.unusedVariables false
namespace Go.Proofs.YtlbjmkljmhfjdaaGreat
open Go Go.Proofs Go.RowKit Go.Lib Go.Maps
def lowB (r : List Int) (b : Int) (i : Int) : Bool := inB r i && decide (r.getD i.toNat 0 < b)
theorem Blk.new2 (w : World) (o : Obj) (vs : Array Value) (T : TypeId) : Blk ((w.alloc o).alloc (.cells vs T)) (w.heap.size + 1) vs T := by
  have := Blk.new (w.alloc o) vs T
  rw [World.size_alloc] at this
  exact this
theorem kinds9 {x : Nd} {r : Int} (h : nodeOk x r = true) : x.kind = 9 → x.kids.length = 1 := by
  have := (nodeOk_iff x r).1 h
  unfold NodeIs at this
  omega
set_option maxRecDepth 100000 in
set_option maxHeartbeats 8000000 in
theorem refMay_always (RA : Option Addr) (lr rc : Nat) (NA : Option Addr) (nc m : Nat) (nodes : List Nd) (em : m = nodes.length) (A : Option Addr) (rn ra : Nat) (r : List Int) (hr : rn = r.length) (b : Int) (n : Nat) (hn : n < m) (w : World) (hN : Nodes w NA nodes) (hx : Nd.At w (nodes.getD n Nd.zero)) (hA : Lies w A (ints r)) (M : Int → Bool)
    (hq : ∀ k ∈ (nodes.getD n Nd.zero).kids, ∀ w', Below w.heap.size w w' → Calls Tryz.prog 141 #[.agg #[.slice RA lr rc, .slice NA m nc], .int .i64 k, .slice A rn ra, .int .i64 b] w' fun e w'' => e = .returned (.bool (M k)) ∧ Below w'.heap.size w' w'')
    (hkd : (nodes.getD n Nd.zero).kind = 1 ∨ (nodes.getD n Nd.zero).kind = 8 ∨ (nodes.getD n Nd.zero).kind = 10 ∨ (nodes.getD n Nd.zero).kind = 11 ∨ (nodes.getD n Nd.zero).kind = 12) :
    Calls Tryz.prog 141 #[.agg #[.slice RA lr rc, .slice NA m nc], .int .i64 n, .slice A rn ra, .int .i64 b] w fun e w' => e = .returned (.bool (true)) ∧ Below w.heap.size w w' := by
  obtain ⟨b1, o1, eA, _, n1, n2, n3, n4, n5, n6, n7, n8, n9⟩ := hN.nine (show n < nodes.length by omega)
  obtain ⟨x, ex⟩ : ∃ x, x = nodes.getD n Nd.zero := ⟨_, rfl⟩
  rw [← ex] at hx hkd hq n1 n2 n3 n4 n5 n6 n7 n8 n9
  try rw [← ex]
  have hn2 : (n : Int) < m := by omega
  subst eA
  obtain ⟨kd, q0, q1, q2, q3, t, ru, lv, KA, cap, ks⟩ := x
  dsimp only at hkd hq n1 n2 n3 n4 n5 n6 n7 n8 n9
  have hkl := hx.2.2
  dsimp only at hkl
  have HX := Lib.hid hx
  have HQ := Lib.hid hq
  have HA := Lib.hid hA
  have HR := Lib.hid hr
  clear ex hx hq hA hN em hr
  rcases hkd with rfl | rfl | rfl | rfl | rfl
  · go_enter Tryz.func141, Tryz.ntmps141
    go_wp2_with (refine wpList_store_whole rfl 40 (.tmp 9) (.tmp 16) rfl (w.heap.size + 1) #[.int .i64 1, .int .u64 q0, .int .u64 q1, .int .u64 q2, .int .u64 q3, .string t, .int .i64 ru, .int .i64 lv, .slice KA ks.length cap] rfl rfl 40 _ (Blk.new2 _ _ _ _) (by kernel_rfl) (by rfl) (by simp [Value.oneCell']) ?_; intro w2 hk2 hg; have KX := Lib.hid hk2; have KG := Lib.hid (((Blk.new w #[.slice RA lr rc, .slice (some ⟨b1, o1, none⟩) m nc] 25).alloc _).grown hg (by intro e; have := Option.some.inj e; omega)); have H2 := Lib.hid (grown_below (B2 w (.cells #[.slice RA lr rc, .slice (some ⟨b1, o1, none⟩) m nc] 25) _) (by simp; omega) hg (fun k e => by cases e; omega)); have d0 := hk2.cell 0; have d1 := hk2.cell 1; have d2 := hk2.cell 2; have d3 := hk2.cell 3; have d4 := hk2.cell 4; have d5 := hk2.cell 5; have d6 := hk2.cell 6; have d7 := hk2.cell 7; have d8 := hk2.cell 8; have g0 := KG.out.cell 0; have g1 := KG.out.cell 1; simp only [List.getElem?_toArray, List.getElem?_cons_zero, List.getElem?_cons_succ] at d0 d1 d2 d3 d4 d5 d6 d7 d8 g0 g1; clear hk2 hg n1 n2 n3 n4 n5 n6 n7 n8 n9)
    go_ret
    exact ⟨rfl, H2.out⟩
  · go_enter Tryz.func141, Tryz.ntmps141
    go_wp2_with (refine wpList_store_whole rfl 40 (.tmp 9) (.tmp 16) rfl (w.heap.size + 1) #[.int .i64 8, .int .u64 q0, .int .u64 q1, .int .u64 q2, .int .u64 q3, .string t, .int .i64 ru, .int .i64 lv, .slice KA ks.length cap] rfl rfl 40 _ (Blk.new2 _ _ _ _) (by kernel_rfl) (by rfl) (by simp [Value.oneCell']) ?_; intro w2 hk2 hg; have KX := Lib.hid hk2; have KG := Lib.hid (((Blk.new w #[.slice RA lr rc, .slice (some ⟨b1, o1, none⟩) m nc] 25).alloc _).grown hg (by intro e; have := Option.some.inj e; omega)); have H2 := Lib.hid (grown_below (B2 w (.cells #[.slice RA lr rc, .slice (some ⟨b1, o1, none⟩) m nc] 25) _) (by simp; omega) hg (fun k e => by cases e; omega)); have d0 := hk2.cell 0; have d1 := hk2.cell 1; have d2 := hk2.cell 2; have d3 := hk2.cell 3; have d4 := hk2.cell 4; have d5 := hk2.cell 5; have d6 := hk2.cell 6; have d7 := hk2.cell 7; have d8 := hk2.cell 8; have g0 := KG.out.cell 0; have g1 := KG.out.cell 1; simp only [List.getElem?_toArray, List.getElem?_cons_zero, List.getElem?_cons_succ] at d0 d1 d2 d3 d4 d5 d6 d7 d8 g0 g1; clear hk2 hg n1 n2 n3 n4 n5 n6 n7 n8 n9)
    go_ret
    exact ⟨rfl, H2.out⟩
  · go_enter Tryz.func141, Tryz.ntmps141
    go_wp2_with (refine wpList_store_whole rfl 40 (.tmp 9) (.tmp 16) rfl (w.heap.size + 1) #[.int .i64 10, .int .u64 q0, .int .u64 q1, .int .u64 q2, .int .u64 q3, .string t, .int .i64 ru, .int .i64 lv, .slice KA ks.length cap] rfl rfl 40 _ (Blk.new2 _ _ _ _) (by kernel_rfl) (by rfl) (by simp [Value.oneCell']) ?_; intro w2 hk2 hg; have KX := Lib.hid hk2; have KG := Lib.hid (((Blk.new w #[.slice RA lr rc, .slice (some ⟨b1, o1, none⟩) m nc] 25).alloc _).grown hg (by intro e; have := Option.some.inj e; omega)); have H2 := Lib.hid (grown_below (B2 w (.cells #[.slice RA lr rc, .slice (some ⟨b1, o1, none⟩) m nc] 25) _) (by simp; omega) hg (fun k e => by cases e; omega)); have d0 := hk2.cell 0; have d1 := hk2.cell 1; have d2 := hk2.cell 2; have d3 := hk2.cell 3; have d4 := hk2.cell 4; have d5 := hk2.cell 5; have d6 := hk2.cell 6; have d7 := hk2.cell 7; have d8 := hk2.cell 8; have g0 := KG.out.cell 0; have g1 := KG.out.cell 1; simp only [List.getElem?_toArray, List.getElem?_cons_zero, List.getElem?_cons_succ] at d0 d1 d2 d3 d4 d5 d6 d7 d8 g0 g1; clear hk2 hg n1 n2 n3 n4 n5 n6 n7 n8 n9)
    go_ret
    exact ⟨rfl, H2.out⟩
  · go_enter Tryz.func141, Tryz.ntmps141
    go_wp2_with (refine wpList_store_whole rfl 40 (.tmp 9) (.tmp 16) rfl (w.heap.size + 1) #[.int .i64 11, .int .u64 q0, .int .u64 q1, .int .u64 q2, .int .u64 q3, .string t, .int .i64 ru, .int .i64 lv, .slice KA ks.length cap] rfl rfl 40 _ (Blk.new2 _ _ _ _) (by kernel_rfl) (by rfl) (by simp [Value.oneCell']) ?_; intro w2 hk2 hg; have KX := Lib.hid hk2; have KG := Lib.hid (((Blk.new w #[.slice RA lr rc, .slice (some ⟨b1, o1, none⟩) m nc] 25).alloc _).grown hg (by intro e; have := Option.some.inj e; omega)); have H2 := Lib.hid (grown_below (B2 w (.cells #[.slice RA lr rc, .slice (some ⟨b1, o1, none⟩) m nc] 25) _) (by simp; omega) hg (fun k e => by cases e; omega)); have d0 := hk2.cell 0; have d1 := hk2.cell 1; have d2 := hk2.cell 2; have d3 := hk2.cell 3; have d4 := hk2.cell 4; have d5 := hk2.cell 5; have d6 := hk2.cell 6; have d7 := hk2.cell 7; have d8 := hk2.cell 8; have g0 := KG.out.cell 0; have g1 := KG.out.cell 1; simp only [List.getElem?_toArray, List.getElem?_cons_zero, List.getElem?_cons_succ] at d0 d1 d2 d3 d4 d5 d6 d7 d8 g0 g1; clear hk2 hg n1 n2 n3 n4 n5 n6 n7 n8 n9)
    go_ret
    exact ⟨rfl, H2.out⟩
  · go_enter Tryz.func141, Tryz.ntmps141
    go_wp2_with (refine wpList_store_whole rfl 40 (.tmp 9) (.tmp 16) rfl (w.heap.size + 1) #[.int .i64 12, .int .u64 q0, .int .u64 q1, .int .u64 q2, .int .u64 q3, .string t, .int .i64 ru, .int .i64 lv, .slice KA ks.length cap] rfl rfl 40 _ (Blk.new2 _ _ _ _) (by kernel_rfl) (by rfl) (by simp [Value.oneCell']) ?_; intro w2 hk2 hg; have KX := Lib.hid hk2; have KG := Lib.hid (((Blk.new w #[.slice RA lr rc, .slice (some ⟨b1, o1, none⟩) m nc] 25).alloc _).grown hg (by intro e; have := Option.some.inj e; omega)); have H2 := Lib.hid (grown_below (B2 w (.cells #[.slice RA lr rc, .slice (some ⟨b1, o1, none⟩) m nc] 25) _) (by simp; omega) hg (fun k e => by cases e; omega)); have d0 := hk2.cell 0; have d1 := hk2.cell 1; have d2 := hk2.cell 2; have d3 := hk2.cell 3; have d4 := hk2.cell 4; have d5 := hk2.cell 5; have d6 := hk2.cell 6; have d7 := hk2.cell 7; have d8 := hk2.cell 8; have g0 := KG.out.cell 0; have g1 := KG.out.cell 1; simp only [List.getElem?_toArray, List.getElem?_cons_zero, List.getElem?_cons_succ] at d0 d1 d2 d3 d4 d5 d6 d7 d8 g0 g1; clear hk2 hg n1 n2 n3 n4 n5 n6 n7 n8 n9)
    go_ret
    exact ⟨rfl, H2.out⟩
set_option maxRecDepth 100000 in
set_option maxHeartbeats 8000000 in
theorem refMay_never (RA : Option Addr) (lr rc : Nat) (NA : Option Addr) (nc m : Nat) (nodes : List Nd) (em : m = nodes.length) (A : Option Addr) (rn ra : Nat) (r : List Int) (hr : rn = r.length) (b : Int) (n : Nat) (hn : n < m) (w : World) (hN : Nodes w NA nodes) (hx : Nd.At w (nodes.getD n Nd.zero)) (hA : Lies w A (ints r)) (M : Int → Bool)
    (hq : ∀ k ∈ (nodes.getD n Nd.zero).kids, ∀ w', Below w.heap.size w w' → Calls Tryz.prog 141 #[.agg #[.slice RA lr rc, .slice NA m nc], .int .i64 k, .slice A rn ra, .int .i64 b] w' fun e w'' => e = .returned (.bool (M k)) ∧ Below w'.heap.size w' w'')
    (hkd : (nodes.getD n Nd.zero).kind = 2 ∨ (nodes.getD n Nd.zero).kind = 3 ∨ (nodes.getD n Nd.zero).kind = 4) :
    Calls Tryz.prog 141 #[.agg #[.slice RA lr rc, .slice NA m nc], .int .i64 n, .slice A rn ra, .int .i64 b] w fun e w' => e = .returned (.bool (false)) ∧ Below w.heap.size w w' := by
  obtain ⟨b1, o1, eA, _, n1, n2, n3, n4, n5, n6, n7, n8, n9⟩ := hN.nine (show n < nodes.length by omega)
  obtain ⟨x, ex⟩ : ∃ x, x = nodes.getD n Nd.zero := ⟨_, rfl⟩
  rw [← ex] at hx hkd hq n1 n2 n3 n4 n5 n6 n7 n8 n9
  try rw [← ex]
  have hn2 : (n : Int) < m := by omega
  subst eA
  obtain ⟨kd, q0, q1, q2, q3, t, ru, lv, KA, cap, ks⟩ := x
  dsimp only at hkd hq n1 n2 n3 n4 n5 n6 n7 n8 n9
  have hkl := hx.2.2
  dsimp only at hkl
  have HX := Lib.hid hx
  have HQ := Lib.hid hq
  have HA := Lib.hid hA
  have HR := Lib.hid hr
  clear ex hx hq hA hN em hr
  rcases hkd with rfl | rfl | rfl
  · go_enter Tryz.func141, Tryz.ntmps141
    go_wp2_with (refine wpList_store_whole rfl 40 (.tmp 9) (.tmp 16) rfl (w.heap.size + 1) #[.int .i64 2, .int .u64 q0, .int .u64 q1, .int .u64 q2, .int .u64 q3, .string t, .int .i64 ru, .int .i64 lv, .slice KA ks.length cap] rfl rfl 40 _ (Blk.new2 _ _ _ _) (by kernel_rfl) (by rfl) (by simp [Value.oneCell']) ?_; intro w2 hk2 hg; have KX := Lib.hid hk2; have KG := Lib.hid (((Blk.new w #[.slice RA lr rc, .slice (some ⟨b1, o1, none⟩) m nc] 25).alloc _).grown hg (by intro e; have := Option.some.inj e; omega)); have H2 := Lib.hid (grown_below (B2 w (.cells #[.slice RA lr rc, .slice (some ⟨b1, o1, none⟩) m nc] 25) _) (by simp; omega) hg (fun k e => by cases e; omega)); have d0 := hk2.cell 0; have d1 := hk2.cell 1; have d2 := hk2.cell 2; have d3 := hk2.cell 3; have d4 := hk2.cell 4; have d5 := hk2.cell 5; have d6 := hk2.cell 6; have d7 := hk2.cell 7; have d8 := hk2.cell 8; have g0 := KG.out.cell 0; have g1 := KG.out.cell 1; simp only [List.getElem?_toArray, List.getElem?_cons_zero, List.getElem?_cons_succ] at d0 d1 d2 d3 d4 d5 d6 d7 d8 g0 g1; clear hk2 hg n1 n2 n3 n4 n5 n6 n7 n8 n9)
    go_ret
    exact ⟨rfl, H2.out⟩
  · go_enter Tryz.func141, Tryz.ntmps141
    go_wp2_with (refine wpList_store_whole rfl 40 (.tmp 9) (.tmp 16) rfl (w.heap.size + 1) #[.int .i64 3, .int .u64 q0, .int .u64 q1, .int .u64 q2, .int .u64 q3, .string t, .int .i64 ru, .int .i64 lv, .slice KA ks.length cap] rfl rfl 40 _ (Blk.new2 _ _ _ _) (by kernel_rfl) (by rfl) (by simp [Value.oneCell']) ?_; intro w2 hk2 hg; have KX := Lib.hid hk2; have KG := Lib.hid (((Blk.new w #[.slice RA lr rc, .slice (some ⟨b1, o1, none⟩) m nc] 25).alloc _).grown hg (by intro e; have := Option.some.inj e; omega)); have H2 := Lib.hid (grown_below (B2 w (.cells #[.slice RA lr rc, .slice (some ⟨b1, o1, none⟩) m nc] 25) _) (by simp; omega) hg (fun k e => by cases e; omega)); have d0 := hk2.cell 0; have d1 := hk2.cell 1; have d2 := hk2.cell 2; have d3 := hk2.cell 3; have d4 := hk2.cell 4; have d5 := hk2.cell 5; have d6 := hk2.cell 6; have d7 := hk2.cell 7; have d8 := hk2.cell 8; have g0 := KG.out.cell 0; have g1 := KG.out.cell 1; simp only [List.getElem?_toArray, List.getElem?_cons_zero, List.getElem?_cons_succ] at d0 d1 d2 d3 d4 d5 d6 d7 d8 g0 g1; clear hk2 hg n1 n2 n3 n4 n5 n6 n7 n8 n9)
    go_ret
    exact ⟨rfl, H2.out⟩
  · go_enter Tryz.func141, Tryz.ntmps141
    go_wp2_with (refine wpList_store_whole rfl 40 (.tmp 9) (.tmp 16) rfl (w.heap.size + 1) #[.int .i64 4, .int .u64 q0, .int .u64 q1, .int .u64 q2, .int .u64 q3, .string t, .int .i64 ru, .int .i64 lv, .slice KA ks.length cap] rfl rfl 40 _ (Blk.new2 _ _ _ _) (by kernel_rfl) (by rfl) (by simp [Value.oneCell']) ?_; intro w2 hk2 hg; have KX := Lib.hid hk2; have KG := Lib.hid (((Blk.new w #[.slice RA lr rc, .slice (some ⟨b1, o1, none⟩) m nc] 25).alloc _).grown hg (by intro e; have := Option.some.inj e; omega)); have H2 := Lib.hid (grown_below (B2 w (.cells #[.slice RA lr rc, .slice (some ⟨b1, o1, none⟩) m nc] 25) _) (by simp; omega) hg (fun k e => by cases e; omega)); have d0 := hk2.cell 0; have d1 := hk2.cell 1; have d2 := hk2.cell 2; have d3 := hk2.cell 3; have d4 := hk2.cell 4; have d5 := hk2.cell 5; have d6 := hk2.cell 6; have d7 := hk2.cell 7; have d8 := hk2.cell 8; have g0 := KG.out.cell 0; have g1 := KG.out.cell 1; simp only [List.getElem?_toArray, List.getElem?_cons_zero, List.getElem?_cons_succ] at d0 d1 d2 d3 d4 d5 d6 d7 d8 g0 g1; clear hk2 hg n1 n2 n3 n4 n5 n6 n7 n8 n9)
    go_ret
    exact ⟨rfl, H2.out⟩
set_option maxRecDepth 100000 in
set_option maxHeartbeats 8000000 in
theorem refMay_called (RA : Option Addr) (lr rc : Nat) (NA : Option Addr) (nc m : Nat) (nodes : List Nd) (em : m = nodes.length) (A : Option Addr) (rn ra : Nat) (r : List Int) (hr : rn = r.length) (b : Int) (n : Nat) (hn : n < m) (w : World) (hN : Nodes w NA nodes) (hx : Nd.At w (nodes.getD n Nd.zero)) (hA : Lies w A (ints r)) (M : Int → Bool)
    (hq : ∀ k ∈ (nodes.getD n Nd.zero).kids, ∀ w', Below w.heap.size w w' → Calls Tryz.prog 141 #[.agg #[.slice RA lr rc, .slice NA m nc], .int .i64 k, .slice A rn ra, .int .i64 b] w' fun e w'' => e = .returned (.bool (M k)) ∧ Below w'.heap.size w' w'')
    (hkd : (nodes.getD n Nd.zero).kind = 5 ∧ 0 ≤ (nodes.getD n Nd.zero).rule ∧ (nodes.getD n Nd.zero).rule < rn) :
    Calls Tryz.prog 141 #[.agg #[.slice RA lr rc, .slice NA m nc], .int .i64 n, .slice A rn ra, .int .i64 b] w fun e w' => e = .returned (.bool (lowB r b (nodes.getD n Nd.zero).rule)) ∧ Below w.heap.size w w' := by
  obtain ⟨b1, o1, eA, _, n1, n2, n3, n4, n5, n6, n7, n8, n9⟩ := hN.nine (show n < nodes.length by omega)
  obtain ⟨x, ex⟩ : ∃ x, x = nodes.getD n Nd.zero := ⟨_, rfl⟩
  rw [← ex] at hx hkd hq n1 n2 n3 n4 n5 n6 n7 n8 n9
  try rw [← ex]
  have hn2 : (n : Int) < m := by omega
  subst eA
  obtain ⟨kd, q0, q1, q2, q3, t, ru, lv, KA, cap, ks⟩ := x
  dsimp only at hkd hq n1 n2 n3 n4 n5 n6 n7 n8 n9
  have hkl := hx.2.2
  dsimp only at hkl
  have HX := Lib.hid hx
  have HQ := Lib.hid hq
  have HA := Lib.hid hA
  have HR := Lib.hid hr
  clear ex hx hq hA hN em hr
  obtain ⟨rfl, hr0, hr1⟩ := hkd
  obtain ⟨i, rfl⟩ : ∃ i : Nat, ru = i := ⟨ru.toNat, by omega⟩
  obtain ⟨b3, o3, rfl, _, h3⟩ := lies_cell HA.out (k := i) (by have := HR.out; omega)
  have hv : lowB r b (i : Int) = (decide (0 < r.getD i 0) && decide (r.getD i 0 < b)) := by unfold lowB inB; rw [Int.toNat_natCast]
  rw [hv]
  generalize r.getD i 0 = v at *
  by_cases v1 : 0 < v
  · have F3 := Lib.hid h3
    clear h3 hv HQ
    go_enter Tryz.func141, Tryz.ntmps141
    go_wp2_with (refine wpList_store_whole rfl 40 (.tmp 9) (.tmp 16) rfl (w.heap.size + 1) #[.int .i64 5, .int .u64 q0, .int .u64 q1, .int .u64 q2, .int .u64 q3, .string t, .int .i64 (i : Int), .int .i64 lv, .slice KA ks.length cap] rfl rfl 40 _ (Blk.new2 _ _ _ _) (by kernel_rfl) (by rfl) (by simp [Value.oneCell']) ?_; intro w2 hk2 hg; have KX := Lib.hid hk2; have KG := Lib.hid (((Blk.new w #[.slice RA lr rc, .slice (some ⟨b1, o1, none⟩) m nc] 25).alloc _).grown hg (by intro e; have := Option.some.inj e; omega)); have H2 := Lib.hid (grown_below (B2 w (.cells #[.slice RA lr rc, .slice (some ⟨b1, o1, none⟩) m nc] 25) _) (by simp; omega) hg (fun k e => by cases e; omega)); have d0 := hk2.cell 0; have d1 := hk2.cell 1; have d2 := hk2.cell 2; have d3 := hk2.cell 3; have d4 := hk2.cell 4; have d5 := hk2.cell 5; have d6 := hk2.cell 6; have d7 := hk2.cell 7; have d8 := hk2.cell 8; have g0 := KG.out.cell 0; have g1 := KG.out.cell 1; simp only [List.getElem?_toArray, List.getElem?_cons_zero, List.getElem?_cons_succ] at d0 d1 d2 d3 d4 d5 d6 d7 d8 g0 g1; have h3 := (H2.out.cell (p := ⟨b3, o3 + i, none⟩) (World.block_lt_of_cell? _ _ F3.out)).trans F3.out; clear hk2 hg n1 n2 n3 n4 n5 n6 n7 n8 n9)
    go_ret
    exact ⟨ret_bool (by simp [v1]), H2.out⟩
  · have F3 := Lib.hid h3
    clear h3 hv HQ
    go_enter Tryz.func141, Tryz.ntmps141
    go_wp2_with (refine wpList_store_whole rfl 40 (.tmp 9) (.tmp 16) rfl (w.heap.size + 1) #[.int .i64 5, .int .u64 q0, .int .u64 q1, .int .u64 q2, .int .u64 q3, .string t, .int .i64 (i : Int), .int .i64 lv, .slice KA ks.length cap] rfl rfl 40 _ (Blk.new2 _ _ _ _) (by kernel_rfl) (by rfl) (by simp [Value.oneCell']) ?_; intro w2 hk2 hg; have KX := Lib.hid hk2; have KG := Lib.hid (((Blk.new w #[.slice RA lr rc, .slice (some ⟨b1, o1, none⟩) m nc] 25).alloc _).grown hg (by intro e; have := Option.some.inj e; omega)); have H2 := Lib.hid (grown_below (B2 w (.cells #[.slice RA lr rc, .slice (some ⟨b1, o1, none⟩) m nc] 25) _) (by simp; omega) hg (fun k e => by cases e; omega)); have d0 := hk2.cell 0; have d1 := hk2.cell 1; have d2 := hk2.cell 2; have d3 := hk2.cell 3; have d4 := hk2.cell 4; have d5 := hk2.cell 5; have d6 := hk2.cell 6; have d7 := hk2.cell 7; have d8 := hk2.cell 8; have g0 := KG.out.cell 0; have g1 := KG.out.cell 1; simp only [List.getElem?_toArray, List.getElem?_cons_zero, List.getElem?_cons_succ] at d0 d1 d2 d3 d4 d5 d6 d7 d8 g0 g1; have h3 := (H2.out.cell (p := ⟨b3, o3 + i, none⟩) (World.block_lt_of_cell? _ _ F3.out)).trans F3.out; clear hk2 hg n1 n2 n3 n4 n5 n6 n7 n8 n9)
    go_ret
    exact ⟨ret_bool (by rw [decide_eq_false (Int.not_lt.2 v1)]; rfl), H2.out⟩
set_option maxRecDepth 100000 in
set_option maxHeartbeats 8000000 in
theorem refMay_plus (k0 : Int) (RA : Option Addr) (lr rc : Nat) (NA : Option Addr) (nc m : Nat) (nodes : List Nd) (em : m = nodes.length) (A : Option Addr) (rn ra : Nat) (r : List Int) (hr : rn = r.length) (b : Int) (n : Nat) (hn : n < m) (w : World) (hN : Nodes w NA nodes) (hx : Nd.At w (nodes.getD n Nd.zero)) (hA : Lies w A (ints r)) (M : Int → Bool)
    (hq : ∀ k ∈ (nodes.getD n Nd.zero).kids, ∀ w', Below w.heap.size w w' → Calls Tryz.prog 141 #[.agg #[.slice RA lr rc, .slice NA m nc], .int .i64 k, .slice A rn ra, .int .i64 b] w' fun e w'' => e = .returned (.bool (M k)) ∧ Below w'.heap.size w' w'')
    (hkd : (nodes.getD n Nd.zero).kind = 9 ∧ (nodes.getD n Nd.zero).kids = [k0]) :
    Calls Tryz.prog 141 #[.agg #[.slice RA lr rc, .slice NA m nc], .int .i64 n, .slice A rn ra, .int .i64 b] w fun e w' => e = .returned (.bool (M k0)) ∧ Below w.heap.size w w' := by
  obtain ⟨b1, o1, eA, _, n1, n2, n3, n4, n5, n6, n7, n8, n9⟩ := hN.nine (show n < nodes.length by omega)
  obtain ⟨x, ex⟩ : ∃ x, x = nodes.getD n Nd.zero := ⟨_, rfl⟩
  rw [← ex] at hx hkd hq n1 n2 n3 n4 n5 n6 n7 n8 n9
  try rw [← ex]
  have hn2 : (n : Int) < m := by omega
  subst eA
  obtain ⟨kd, q0, q1, q2, q3, t, ru, lv, KA, cap, ks⟩ := x
  dsimp only at hkd hq n1 n2 n3 n4 n5 n6 n7 n8 n9
  have hkl := hx.2.2
  dsimp only at hkl
  have HX := Lib.hid hx
  have HQ := Lib.hid hq
  have HA := Lib.hid hA
  have HR := Lib.hid hr
  clear ex hx hq hA hN em hr
  obtain ⟨rfl, rfl⟩ := hkd
  go_enter Tryz.func141, Tryz.ntmps141
  go_wp2_with (refine wpList_store_whole rfl 40 (.tmp 9) (.tmp 16) rfl (w.heap.size + 1) #[.int .i64 9, .int .u64 q0, .int .u64 q1, .int .u64 q2, .int .u64 q3, .string t, .int .i64 ru, .int .i64 lv, .slice KA 1 cap] rfl rfl 40 _ (Blk.new2 _ _ _ _) (by kernel_rfl) (by rfl) (by simp [Value.oneCell']) ?_; intro w2 hk2 hg; have KX := Lib.hid hk2; have KG := Lib.hid (((Blk.new w #[.slice RA lr rc, .slice (some ⟨b1, o1, none⟩) m nc] 25).alloc _).grown hg (by intro e; have := Option.some.inj e; omega)); have H2 := Lib.hid (grown_below (B2 w (.cells #[.slice RA lr rc, .slice (some ⟨b1, o1, none⟩) m nc] 25) _) (by simp; omega) hg (fun k e => by cases e; omega)); have d0 := hk2.cell 0; have d1 := hk2.cell 1; have d2 := hk2.cell 2; have d3 := hk2.cell 3; have d4 := hk2.cell 4; have d5 := hk2.cell 5; have d6 := hk2.cell 6; have d7 := hk2.cell 7; have d8 := hk2.cell 8; have g0 := KG.out.cell 0; have g1 := KG.out.cell 1; simp only [List.getElem?_toArray, List.getElem?_cons_zero, List.getElem?_cons_succ] at d0 d1 d2 d3 d4 d5 d6 d7 d8 g0 g1; clear hk2 hg n1 n2 n3 n4 n5 n6 n7 n8 n9)
  obtain ⟨bk, ok, ek, _, ck⟩ := lies_cell (l := [k0]) (HX.out.below H2.out).1 (k := 0) (by simp)
  cases ek
  simp only [Nat.add_zero, List.getD_cons_zero] at ck
  have BW := Lib.hid H2.out
  have BL := Lib.hid (Below.refl w2.heap.size w2)
  have T := Lib.hid (fun W (eg : Below w2.heap.size w2 W) => HQ.out k0 (by simp) W (bb BW.out eg))
  obtain ⟨mv, em⟩ : ∃ mv, mv = M k0 := ⟨_, rfl⟩
  rw [← em] at T
  have EM := Lib.hid em
  clear em
  obtain ⟨wr, ewr⟩ : ∃ wr, wr = w2 := ⟨_, rfl⟩
  subst ewr
  have f0 := fun (e : Ext wr) => Ext.cell g0 e
  have f1 := fun (e : Ext wr) => Ext.cell g1 e
  have f2 := fun (e : Ext wr) => Ext.cell d8 e
  have f3 := fun (e : Ext wr) => Ext.cell ck e
  clear ck
  clear HQ HX HA
  cases mv with
  | true =>
    refine wp_region_ext (by kernel_rfl) (by kernel_rfl) ?_
    repeat (first | go_big_quiet_step ((go_at_call 141; exact Calls.ext_of (T.out _ (Ext.grown _)))) | quiet_step ((go_at_call 141; exact Calls.ext_of (T.out _ (Ext.grown _)))))
    refine wpQuiet_nil ?_
    intro w13 hw'
    obtain ⟨⟨_, hb13⟩, rfl⟩ := hw'
    have HB1 := Lib.hid (Below.trans BL.out (hb13.mono BL.out.size))
    have HB2 := Lib.hid (bb BW.out hb13)
    clear hb13 f0 f1 f2 f3
    go_wp2_with fail
    go_ret
    exact ⟨ret_bool EM.out, HB2.out⟩
  | false =>
    refine wp_region_ext (by kernel_rfl) (by kernel_rfl) ?_
    repeat (first | go_big_quiet_step ((go_at_call 141; exact Calls.ext_of (T.out _ (Ext.grown _)))) | quiet_step ((go_at_call 141; exact Calls.ext_of (T.out _ (Ext.grown _)))))
    refine wpQuiet_nil ?_
    intro w13 hw'
    obtain ⟨⟨_, hb13⟩, rfl⟩ := hw'
    have HB1 := Lib.hid (Below.trans BL.out (hb13.mono BL.out.size))
    have HB2 := Lib.hid (bb BW.out hb13)
    clear hb13 f0 f1 f2 f3
    go_wp2_with fail
    go_ret
    exact ⟨ret_bool EM.out, HB2.out⟩
set_option maxRecDepth 100000 in
set_option maxHeartbeats 8000000 in
theorem refMay_each (RA : Option Addr) (lr rc : Nat) (NA : Option Addr) (nc m : Nat) (nodes : List Nd) (em : m = nodes.length) (A : Option Addr) (rn ra : Nat) (r : List Int) (hr : rn = r.length) (b : Int) (n : Nat) (hn : n < m) (w : World) (hN : Nodes w NA nodes) (hx : Nd.At w (nodes.getD n Nd.zero)) (hA : Lies w A (ints r)) (M : Int → Bool)
    (hq : ∀ k ∈ (nodes.getD n Nd.zero).kids, ∀ w', Below w.heap.size w w' → Calls Tryz.prog 141 #[.agg #[.slice RA lr rc, .slice NA m nc], .int .i64 k, .slice A rn ra, .int .i64 b] w' fun e w'' => e = .returned (.bool (M k)) ∧ Below w'.heap.size w' w'')
    (hkd : (nodes.getD n Nd.zero).kind = 6) :
    Calls Tryz.prog 141 #[.agg #[.slice RA lr rc, .slice NA m nc], .int .i64 n, .slice A rn ra, .int .i64 b] w fun e w' => e = .returned (.bool ((nodes.getD n Nd.zero).kids.all M)) ∧ Below w.heap.size w w' := by
  obtain ⟨b1, o1, eA, _, n1, n2, n3, n4, n5, n6, n7, n8, n9⟩ := hN.nine (show n < nodes.length by omega)
  obtain ⟨x, ex⟩ : ∃ x, x = nodes.getD n Nd.zero := ⟨_, rfl⟩
  rw [← ex] at hx hkd hq n1 n2 n3 n4 n5 n6 n7 n8 n9
  try rw [← ex]
  have hn2 : (n : Int) < m := by omega
  subst eA
  obtain ⟨kd, q0, q1, q2, q3, t, ru, lv, KA, cap, ks⟩ := x
  dsimp only at hkd hq n1 n2 n3 n4 n5 n6 n7 n8 n9
  have hkl := hx.2.2
  dsimp only at hkl
  have HX := Lib.hid hx
  have HQ := Lib.hid hq
  have HA := Lib.hid hA
  have HR := Lib.hid hr
  clear ex hx hq hA hN em hr
  subst hkd
  dsimp only
  go_enter Tryz.func141, Tryz.ntmps141
  go_wp2_with (refine wpList_store_whole rfl 40 (.tmp 9) (.tmp 16) rfl (w.heap.size + 1) #[.int .i64 6, .int .u64 q0, .int .u64 q1, .int .u64 q2, .int .u64 q3, .string t, .int .i64 ru, .int .i64 lv, .slice KA ks.length cap] rfl rfl 40 _ (Blk.new2 _ _ _ _) (by kernel_rfl) (by rfl) (by simp [Value.oneCell']) ?_; intro w2 hk2 hg; have KX := Lib.hid hk2; have KG := Lib.hid (((Blk.new w #[.slice RA lr rc, .slice (some ⟨b1, o1, none⟩) m nc] 25).alloc _).grown hg (by intro e; have := Option.some.inj e; omega)); have H2 := Lib.hid (grown_below (B2 w (.cells #[.slice RA lr rc, .slice (some ⟨b1, o1, none⟩) m nc] 25) _) (by simp; omega) hg (fun k e => by cases e; omega)); have d0 := hk2.cell 0; have d1 := hk2.cell 1; have d2 := hk2.cell 2; have d3 := hk2.cell 3; have d4 := hk2.cell 4; have d5 := hk2.cell 5; have d6 := hk2.cell 6; have d7 := hk2.cell 7; have d8 := hk2.cell 8; have g0 := KG.out.cell 0; have g1 := KG.out.cell 1; simp only [List.getElem?_toArray, List.getElem?_cons_zero, List.getElem?_cons_succ] at d0 d1 d2 d3 d4 d5 d6 d7 d8 g0 g1; clear hk2 hg n1 n2 n3 n4 n5 n6 n7 n8 n9)
  clear d0 d1 d2 d3 d4 d5 d6 d7 d8 g0 g1
  go_loopw [10] (fun iv wr => ∃ k : Nat, k ≤ ks.length ∧ iv = .int .i64 k ∧ (∀ j, j < k → M (ks.getD j 0) = true) ∧ Below w2.heap.size w2 wr) (fun iv _ => ks.length - (RowKit.intOf iv).toNat)
  case atStart => exact ⟨0, by omega, rfl, fun j hj => by omega, Below.refl _ _⟩
  case round =>
    obtain ⟨k, hk, rfl, ht, hbl⟩ := hrel
    have HT := Lib.hid ht
    have BL := Lib.hid hbl
    have BW := Lib.hid (bb H2.out hbl)
    have d8 := (KX.out.below' hbl).cell 8
    have g0 := (KG.out.below' hbl).cell 0
    have g1 := (KG.out.below' hbl).cell 1
    simp only [List.getElem?_toArray, List.getElem?_cons_zero, List.getElem?_cons_succ] at d8 g0 g1
    clear ht hbl
    by_cases hlt : k < ks.length
    · have hlt2 : (k : Int) < ks.length := by omega
      obtain ⟨bk, ok, ek, _, ck⟩ := lies_cell (l := ks) (HX.out.below BW.out).1 hlt
      cases ek
      have T := Lib.hid (fun W (eg : Below wr.heap.size wr W) => HQ.out (ks.getD k 0) (by simp [List.getD, List.getElem?_eq_getElem hlt]) W (bb BW.out eg))
      generalize ex : ks.getD k 0 = y at *
      have HY := Lib.hid ex
      obtain ⟨mv, em⟩ : ∃ mv, mv = M y := ⟨_, rfl⟩
      rw [← em] at T
      have EM := Lib.hid em
      clear ex em
      have f0 := fun (e : Ext wr) => Ext.cell g0 e
      have f1 := fun (e : Ext wr) => Ext.cell g1 e
      have f2 := fun (e : Ext wr) => Ext.cell d8 e
      have f3 := fun (e : Ext wr) => Ext.cell ck e
      clear ck
      cases mv with
      | true =>
        go_wp2_with fail
        refine wp_region_ext (by kernel_rfl) (by kernel_rfl) ?_
        repeat (first | go_big_quiet_step ((go_at_call 141; exact Calls.ext_of (T.out _ (Ext.grown _)))) | quiet_step ((go_at_call 141; exact Calls.ext_of (T.out _ (Ext.grown _)))))
        refine wpQuiet_nil ?_
        intro w13 hw'
        obtain ⟨⟨_, hb13⟩, rfl⟩ := hw'
        have HB1 := Lib.hid (Below.trans BL.out (hb13.mono BL.out.size))
        have HB2 := Lib.hid (bb BW.out hb13)
        clear hb13 f0 f1 f2 f3
        go_wp2_with fail
        go_roundw
        case rel => exact ⟨k + 1, by omega, by go_num, fun j hj => by
            by_cases e : j = k
            · subst e; rw [HY.out]; exact EM.out.symm
            · exact HT.out j (by omega), HB1.out⟩
        case measure => simp [RowKit.intOf]; omega
      | false =>
        go_wp2_with fail
        refine wp_region_ext (by kernel_rfl) (by kernel_rfl) ?_
        repeat (first | go_big_quiet_step ((go_at_call 141; exact Calls.ext_of (T.out _ (Ext.grown _)))) | quiet_step ((go_at_call 141; exact Calls.ext_of (T.out _ (Ext.grown _)))))
        refine wpQuiet_nil ?_
        intro w13 hw'
        obtain ⟨⟨_, hb13⟩, rfl⟩ := hw'
        have HB1 := Lib.hid (Below.trans BL.out (hb13.mono BL.out.size))
        have HB2 := Lib.hid (bb BW.out hb13)
        clear hb13 f0 f1 f2 f3
        go_wp2_with fail
        go_ret
        exact ⟨ret_bool (Eq.symm (by
          have hm : y ∈ ks := by rw [← HY.out]; simp [List.getD, List.getElem?_eq_getElem hlt]
          have := EM.out
          rw [List.all_eq_false]; exact ⟨y, hm, by simp [← this]⟩)), HB2.out⟩
    · obtain rfl : k = ks.length := by omega
      have hlt2 : ¬ (ks.length : Int) < ks.length := by omega
      go_wp2_with fail
      go_ret
      exact ⟨ret_bool (Eq.symm (by
        have hall : ∀ y ∈ ks, M y = true := fun y hy => by
          obtain ⟨j, hj, rfl⟩ := List.getElem_of_mem hy
          have := HT.out j hj
          simpa [List.getD, List.getElem?_eq_getElem hj] using this
        rw [List.all_eq_true]; exact hall)), BW.out⟩
set_option maxRecDepth 100000 in
set_option maxHeartbeats 8000000 in
theorem refMay_some (RA : Option Addr) (lr rc : Nat) (NA : Option Addr) (nc m : Nat) (nodes : List Nd) (em : m = nodes.length) (A : Option Addr) (rn ra : Nat) (r : List Int) (hr : rn = r.length) (b : Int) (n : Nat) (hn : n < m) (w : World) (hN : Nodes w NA nodes) (hx : Nd.At w (nodes.getD n Nd.zero)) (hA : Lies w A (ints r)) (M : Int → Bool)
    (hq : ∀ k ∈ (nodes.getD n Nd.zero).kids, ∀ w', Below w.heap.size w w' → Calls Tryz.prog 141 #[.agg #[.slice RA lr rc, .slice NA m nc], .int .i64 k, .slice A rn ra, .int .i64 b] w' fun e w'' => e = .returned (.bool (M k)) ∧ Below w'.heap.size w' w'')
    (hkd : (nodes.getD n Nd.zero).kind = 7) :
    Calls Tryz.prog 141 #[.agg #[.slice RA lr rc, .slice NA m nc], .int .i64 n, .slice A rn ra, .int .i64 b] w fun e w' => e = .returned (.bool ((nodes.getD n Nd.zero).kids.any M)) ∧ Below w.heap.size w w' := by
  obtain ⟨b1, o1, eA, _, n1, n2, n3, n4, n5, n6, n7, n8, n9⟩ := hN.nine (show n < nodes.length by omega)
  obtain ⟨x, ex⟩ : ∃ x, x = nodes.getD n Nd.zero := ⟨_, rfl⟩
  rw [← ex] at hx hkd hq n1 n2 n3 n4 n5 n6 n7 n8 n9
  try rw [← ex]
  have hn2 : (n : Int) < m := by omega
  subst eA
  obtain ⟨kd, q0, q1, q2, q3, t, ru, lv, KA, cap, ks⟩ := x
  dsimp only at hkd hq n1 n2 n3 n4 n5 n6 n7 n8 n9
  have hkl := hx.2.2
  dsimp only at hkl
  have HX := Lib.hid hx
  have HQ := Lib.hid hq
  have HA := Lib.hid hA
  have HR := Lib.hid hr
  clear ex hx hq hA hN em hr
  subst hkd
  dsimp only
  go_enter Tryz.func141, Tryz.ntmps141
  go_wp2_with (refine wpList_store_whole rfl 40 (.tmp 9) (.tmp 16) rfl (w.heap.size + 1) #[.int .i64 7, .int .u64 q0, .int .u64 q1, .int .u64 q2, .int .u64 q3, .string t, .int .i64 ru, .int .i64 lv, .slice KA ks.length cap] rfl rfl 40 _ (Blk.new2 _ _ _ _) (by kernel_rfl) (by rfl) (by simp [Value.oneCell']) ?_; intro w2 hk2 hg; have KX := Lib.hid hk2; have KG := Lib.hid (((Blk.new w #[.slice RA lr rc, .slice (some ⟨b1, o1, none⟩) m nc] 25).alloc _).grown hg (by intro e; have := Option.some.inj e; omega)); have H2 := Lib.hid (grown_below (B2 w (.cells #[.slice RA lr rc, .slice (some ⟨b1, o1, none⟩) m nc] 25) _) (by simp; omega) hg (fun k e => by cases e; omega)); have d0 := hk2.cell 0; have d1 := hk2.cell 1; have d2 := hk2.cell 2; have d3 := hk2.cell 3; have d4 := hk2.cell 4; have d5 := hk2.cell 5; have d6 := hk2.cell 6; have d7 := hk2.cell 7; have d8 := hk2.cell 8; have g0 := KG.out.cell 0; have g1 := KG.out.cell 1; simp only [List.getElem?_toArray, List.getElem?_cons_zero, List.getElem?_cons_succ] at d0 d1 d2 d3 d4 d5 d6 d7 d8 g0 g1; clear hk2 hg n1 n2 n3 n4 n5 n6 n7 n8 n9)
  clear d0 d1 d2 d3 d4 d5 d6 d7 d8 g0 g1
  go_loopw [11] (fun iv wr => ∃ k : Nat, k ≤ ks.length ∧ iv = .int .i64 k ∧ (∀ j, j < k → M (ks.getD j 0) = false) ∧ Below w2.heap.size w2 wr) (fun iv _ => ks.length - (RowKit.intOf iv).toNat)
  case atStart => exact ⟨0, by omega, rfl, fun j hj => by omega, Below.refl _ _⟩
  case round =>
    obtain ⟨k, hk, rfl, ht, hbl⟩ := hrel
    have HT := Lib.hid ht
    have BL := Lib.hid hbl
    have BW := Lib.hid (bb H2.out hbl)
    have d8 := (KX.out.below' hbl).cell 8
    have g0 := (KG.out.below' hbl).cell 0
    have g1 := (KG.out.below' hbl).cell 1
    simp only [List.getElem?_toArray, List.getElem?_cons_zero, List.getElem?_cons_succ] at d8 g0 g1
    clear ht hbl
    by_cases hlt : k < ks.length
    · have hlt2 : (k : Int) < ks.length := by omega
      obtain ⟨bk, ok, ek, _, ck⟩ := lies_cell (l := ks) (HX.out.below BW.out).1 hlt
      cases ek
      have T := Lib.hid (fun W (eg : Below wr.heap.size wr W) => HQ.out (ks.getD k 0) (by simp [List.getD, List.getElem?_eq_getElem hlt]) W (bb BW.out eg))
      generalize ex : ks.getD k 0 = y at *
      have HY := Lib.hid ex
      obtain ⟨mv, em⟩ : ∃ mv, mv = M y := ⟨_, rfl⟩
      rw [← em] at T
      have EM := Lib.hid em
      clear ex em
      have f0 := fun (e : Ext wr) => Ext.cell g0 e
      have f1 := fun (e : Ext wr) => Ext.cell g1 e
      have f2 := fun (e : Ext wr) => Ext.cell d8 e
      have f3 := fun (e : Ext wr) => Ext.cell ck e
      clear ck
      cases mv with
      | false =>
        go_wp2_with fail
        refine wp_region_ext (by kernel_rfl) (by kernel_rfl) ?_
        repeat (first | go_big_quiet_step ((go_at_call 141; exact Calls.ext_of (T.out _ (Ext.grown _)))) | quiet_step ((go_at_call 141; exact Calls.ext_of (T.out _ (Ext.grown _)))))
        refine wpQuiet_nil ?_
        intro w13 hw'
        obtain ⟨⟨_, hb13⟩, rfl⟩ := hw'
        have HB1 := Lib.hid (Below.trans BL.out (hb13.mono BL.out.size))
        have HB2 := Lib.hid (bb BW.out hb13)
        clear hb13 f0 f1 f2 f3
        go_wp2_with fail
        go_roundw
        case rel => exact ⟨k + 1, by omega, by go_num, fun j hj => by
            by_cases e : j = k
            · subst e; rw [HY.out]; exact EM.out.symm
            · exact HT.out j (by omega), HB1.out⟩
        case measure => simp [RowKit.intOf]; omega
      | true =>
        go_wp2_with fail
        refine wp_region_ext (by kernel_rfl) (by kernel_rfl) ?_
        repeat (first | go_big_quiet_step ((go_at_call 141; exact Calls.ext_of (T.out _ (Ext.grown _)))) | quiet_step ((go_at_call 141; exact Calls.ext_of (T.out _ (Ext.grown _)))))
        refine wpQuiet_nil ?_
        intro w13 hw'
        obtain ⟨⟨_, hb13⟩, rfl⟩ := hw'
        have HB1 := Lib.hid (Below.trans BL.out (hb13.mono BL.out.size))
        have HB2 := Lib.hid (bb BW.out hb13)
        clear hb13 f0 f1 f2 f3
        go_wp2_with fail
        go_ret
        exact ⟨ret_bool (Eq.symm (by
          have hm : y ∈ ks := by rw [← HY.out]; simp [List.getD, List.getElem?_eq_getElem hlt]
          have := EM.out
          rw [List.any_eq_true]; exact ⟨y, hm, this.symm⟩)), HB2.out⟩
    · obtain rfl : k = ks.length := by omega
      have hlt2 : ¬ (ks.length : Int) < ks.length := by omega
      go_wp2_with fail
      go_ret
      exact ⟨ret_bool (Eq.symm (by
        have hall : ∀ y ∈ ks, M y = false := fun y hy => by
          obtain ⟨j, hj, rfl⟩ := List.getElem_of_mem hy
          have := HT.out j hj
          simpa [List.getD, List.getElem?_eq_getElem hj] using this
        rw [List.any_eq_false]; exact fun y hy => by simp [hall y hy])), BW.out⟩
theorem refMay_any (g : Gr) (hR : Right g) (A : Option Addr) (ra : Nat) (r : List Int) (hr : g.rules.length = r.length) (b : Int) : ∀ (d n : Nat), n < g.nodes.length → g.nodes.length - n ≤ d → ∀ w, Gr.At w g → Lies w A (ints r) →
    Calls Tryz.prog 141 #[g.val, .int .i64 n, .slice A g.rules.length ra, .int .i64 b] w fun e w' => e = .returned (.bool (mayN g.nodes (lowB r b) n)) ∧ Below w.heap.size w w'
  | 0, n, hn, hd, w, h, hA => by omega
  | d + 1, n, hn, hd, w, h, hA => by
    have hk := kinds (hR.all n hn)
    have hk9 := kinds9 (hR.all n hn)
    have hup := hR.kidsUp n hn
    have hE := mayN_eq hR.kidsUp (lowB r b) (n := (n : Int)) (by omega) (by omega)
    rw [Int.toNat_natCast] at hE
    have hq : ∀ k ∈ (g.nodes.getD n Nd.zero).kids, ∀ w', Below w.heap.size w w' → Calls Tryz.prog 141 #[.agg #[.slice g.RA g.rules.length g.rc, .slice g.NA g.nodes.length g.nc], .int .i64 k, .slice A g.rules.length ra, .int .i64 b] w' fun e w'' => e = .returned (.bool (mayN g.nodes (lowB r b) k)) ∧ Below w'.heap.size w' w'' := by
      intro k hk' w' hb
      have := hup k hk'
      have := refMay_any g hR A ra r hr b d k.toNat (by omega) (by omega) w' (h.below hb) (hA.below hb)
      rw [show ((k.toNat : Nat) : Int) = k by omega] at this
      exact this
    have hx := h.node hn
    rw [hE]
    unfold stepMay
    by_cases a1 : (g.nodes.getD n Nd.zero).kind = 1 ∨ (g.nodes.getD n Nd.zero).kind = 8 ∨ (g.nodes.getD n Nd.zero).kind = 10 ∨ (g.nodes.getD n Nd.zero).kind = 11 ∨ (g.nodes.getD n Nd.zero).kind = 12
    · rw [if_pos a1]
      exact refMay_always g.RA g.rules.length g.rc g.NA g.nc g.nodes.length g.nodes rfl A g.rules.length ra r hr b n hn w h.nodes hx hA _ hq a1
    · rw [if_neg a1]
      by_cases a2 : (g.nodes.getD n Nd.zero).kind = 6 ∨ (g.nodes.getD n Nd.zero).kind = 9
      · rw [if_pos a2]
        rcases a2 with a2 | a2
        · exact refMay_each g.RA g.rules.length g.rc g.NA g.nc g.nodes.length g.nodes rfl A g.rules.length ra r hr b n hn w h.nodes hx hA _ hq a2
        · obtain ⟨k0, e1⟩ : ∃ k0, (g.nodes.getD n Nd.zero).kids = [k0] := by
            have e1 := hk9 a2
            generalize (g.nodes.getD n Nd.zero).kids = ks at e1 ⊢
            match ks, e1 with
            | [k0], _ => exact ⟨k0, rfl⟩
          have := refMay_plus k0 g.RA g.rules.length g.rc g.NA g.nc g.nodes.length g.nodes rfl A g.rules.length ra r hr b n hn w h.nodes hx hA _ hq ⟨a2, e1⟩
          rw [e1]
          simpa using this
      · rw [if_neg a2]
        by_cases a3 : (g.nodes.getD n Nd.zero).kind = 7
        · rw [if_pos a3]
          exact refMay_some g.RA g.rules.length g.rc g.NA g.nc g.nodes.length g.nodes rfl A g.rules.length ra r hr b n hn w h.nodes hx hA _ hq a3
        · rw [if_neg a3]
          by_cases a4 : (g.nodes.getD n Nd.zero).kind = 5
          · rw [if_pos a4]
            exact refMay_called g.RA g.rules.length g.rc g.NA g.nc g.nodes.length g.nodes rfl A g.rules.length ra r hr b n hn w h.nodes hx hA _ hq ⟨a4, hk.2.2 a4⟩
          · rw [if_neg a4]
            exact refMay_never g.RA g.rules.length g.rc g.NA g.nc g.nodes.length g.nodes rfl A g.rules.length ra r hr b n hn w h.nodes hx hA _ hq (by omega)
end Go.Proofs.YtlbjmkljmhfjdaaGreat

/- Backward over a row of nodes, of rules, as a range-function: the contract. -/
import Derived.Test.YtfdfcagkfnckmaaWe
import Derived.Test.YtfdfcagkfnckmaaRw
import Derived.Shelf.Abstract
import Derived.Shelf.RegionOpen
import Derived.LoopNIn
import Derived.LoopIn
namespace Go.Proofs.Ytfdfcagkfnckmaa
open Go Go.RowKit Go.Shelf
attribute [local go_sem] Oper.semAt_some
theorem row_left {w w' : World} {G : Nat → Prop} {B b o : Nat} {v : Value} (h : w.cell? ⟨b, o, none⟩ = some v) (hl : Left G B w w') (hg : G b) : w'.cell? ⟨b, o, none⟩ = some v :=
  (World.cell?_of_block (a := ⟨b, o, none⟩) (hl.block b (World.block_lt_of_cell? _ _ h) (.inl hg))).trans h
theorem Nodes.left {w w' : World} {G : Nat → Prop} {B : Nat} {A : Option Addr} {l : List Nd} (h : Nodes w A l) (hl : Left G B w w') (hg : ∀ b o, A = some ⟨b, o, none⟩ → 0 < l.length → G b) : Nodes w' A l := by
  intro h0
  obtain ⟨b, o, e, hb, hc⟩ := h h0
  exact ⟨b, o, e, Nat.lt_of_lt_of_le hb hl.size, fun i hi j hj => (World.cell?_of_block (a := ⟨b, o + i * 9 + j, none⟩) (hl.block b hb (.inl (hg b o e h0)))).trans (hc i hi j hj)⟩
theorem Rules.left {w w' : World} {G : Nat → Prop} {B : Nat} {A : Option Addr} {l : List Rl} (h : Rules w A l) (hl : Left G B w w') (hg : ∀ b o, A = some ⟨b, o, none⟩ → 0 < l.length → G b) : Rules w' A l := by
  intro h0
  obtain ⟨b, o, e, hb, hc⟩ := h h0
  exact ⟨b, o, e, Nat.lt_of_lt_of_le hb hl.size, fun i hi => ⟨(World.cell?_of_block (a := ⟨b, o + i * 2, none⟩) (hl.block b hb (.inl (hg b o e h0)))).trans (hc i hi).1, (World.cell?_of_block (a := ⟨b, o + i * 2 + 1, none⟩) (hl.block b hb (.inl (hg b o e h0)))).trans (hc i hi).2⟩⟩
set_option maxRecDepth 100000 in
set_option maxHeartbeats 2000000 in
theorem back_node_in (n : Nat) (hn : 1 ≤ n) (l p : Nat) (A : Option Addr) (c : Nat) (a : List Nd) (ha : a.length ≤ 140737488351232) (G : Nat → Prop) (hp : G p) (hG : ∀ b o, A = some ⟨b, o, none⟩ → 0 < a.length → G b) (J Jx : Nat → World → Prop)
    (B : Nat) (hY : ∀ k W1, J k W1 → B ≤ W1.heap.size → k < a.length → YieldAt Fence.wide (n - 1) Try.prog l #[.int .i64 (a.length - 1 - k : Nat), Nd.val (a.getD (a.length - 1 - k) Nd.zero)] W1 fun e W' =>
      (e = .returned (.bool true) ∧ J (k + 1) W' ∧ Left G B W1 W') ∨ (e = .returned (.bool false) ∧ Jx (k + 1) W' ∧ Left (fun _ => False) B W1 W'))
    (W : World) (hB : B ≤ W.heap.size) (hbox : Blk W p #[.slice A a.length c] 23) (hx : Nodes W A a) (h0 : J 0 W) :
    CallsIn Fence.wide n Try.prog 80 #[.func (.yield l) #[] #[], .pointer (some ⟨p, 0, none⟩)] W fun e W' => (∃ v, e = .returned v) ∧ (J a.length W' ∨ ∃ k, k ≤ a.length ∧ Jx k W') := by
  have HX := Lib.hid hx
  have HY := Lib.hid hY
  have H0 := Lib.hid h0
  have HGG := Lib.hid hG
  have HB := Lib.hid hbox
  have HSZ := Lib.hid hB
  have c0 := hbox.cell 0
  have HP := Lib.hid hp
  simp only [List.getElem?_toArray, List.getElem?_cons_zero] at c0
  obtain ⟨m, em⟩ : ∃ m, m = a.length := ⟨_, rfl⟩
  rw [← em] at HY HB c0 ha ⊢
  have EM := Lib.hid em
  clear hx hY h0 hG hbox hp hB em
  refine callsIn_of_wp Try.func80 rfl trivial ?_ rfl
  simp only [Try.ntmps80, List.size_toArray, List.length_cons, List.length_nil, Nat.reduceAdd, Nat.reduceSub, Array.replicate_succ, Array.replicate_zero, List.push_toArray, List.append_toArray, List.nil_append, List.cons_append]
  gi_wp2_with (fail)
  clear c0
  gi_loopw [3] (fun i wr => ∃ k : Nat, k ≤ m ∧ i = .int .i64 ((m : Int) - 1 - k) ∧ J k wr ∧ Blk wr p #[.slice A m c] 23 ∧ Nodes wr A a ∧ B ≤ wr.heap.size)
    (fun i _ => (intOf i + 1).toNat)
  case atStart => exact ⟨0, by omega, by go_num, H0.out, HB.out, HX.out, HSZ.out⟩
  case round =>
    obtain ⟨k, hk, rfl, hJ, hbx, hx, hz⟩ := hrel
    by_cases hlt : k < m
    · have c0 := hbx.cell 0
      simp only [List.getElem?_toArray, List.getElem?_cons_zero] at c0
      obtain ⟨i, hi⟩ : ∃ i : Nat, (i : Int) = (m : Int) - 1 - k := ⟨m - 1 - k, by omega⟩
      have hik : m - 1 - k = i := by omega
      rw [← hi]
      have h5 := HY.out k wr hJ hz hlt
      rw [hik] at h5
      have hil : i < m := by omega
      have hil2 : (i : Int) < m := by omega
      have hi0 : (0 : Int) ≤ i := by omega
      obtain ⟨b1, o1, ea, _, c1, c2, c3, c4, c5, c6, c7, c8, c9⟩ := hx.nine (show i < a.length by have := EM.out; omega)
      have HA := Lib.hid ea
      rw [ea] at c0
      generalize a.getD i Nd.zero = x at h5 c1 c2 c3 c4 c5 c6 c7 c8 c9
      obtain ⟨fn, tmps, assign, body, hy, hR⟩ := h5
      have HR := Lib.hid hR
      have HBX := Lib.hid hbx
      have HXX := Lib.hid hx
      have HZ := Lib.hid hz
      have HI := Lib.hid hi
      clear hR hbx hx hJ hz ea hik hi
      gi_wp2_with fail
      refine HR.out.mono ?_
      rintro e W3 (⟨rfl, hJ3, hl3⟩ | ⟨rfl, hJx3, hz3⟩)
      · have hb3 : Blk W3 p #[.slice A m c] 23 := (hl3.block p HBX.out.lt (.inl HP.out)).trans HBX.out
        have hx3 := HXX.out.left hl3 HGG.out
        have HB3 := Lib.hid hb3
        have HX3 := Lib.hid hx3
        have HJ3 := Lib.hid hJ3
        have HZ3 : RowKit.Hid (B ≤ W3.heap.size) := Lib.hid (Nat.le_trans HZ.out hl3.size)
        clear hb3 hx3 hJ3 hl3 hy c0 c1 c2 c3 c4 c5 c6 c7 c8 c9
        gi_wp2_with fail
        go_roundw
        case rel => exact ⟨k + 1, by omega, by have := HI.out; simp only [Value.int.injEq, true_and]; omega, HJ3.out, HB3.out, HX3.out, HZ3.out⟩
        case measure => simp [intOf]; try omega
      · have HJ3 := Lib.hid hJx3
        clear hJx3 hy c0 c1 c2 c3 c4 c5 c6 c7 c8 c9
        gi_wp2_with fail
        refine bodyPost_ret (results_none rfl _ _ _) rfl ?_
        exact ⟨⟨_, rfl⟩, .inr ⟨k + 1, by omega, HJ3.out⟩⟩
    · obtain rfl : k = m := by omega
      have HJ3 := Lib.hid hJ
      have hneg : ¬ (0 : Int) ≤ (k : Int) - 1 - k := by omega
      have hneg2 : (k : Int) - 1 - k < 0 := by omega
      clear hJ hbx hx
      gi_wp2_with fail
      go_end0
      exact ⟨⟨_, rfl⟩, .inl HJ3.out⟩
theorem back_node_seq (n : Nat) (hn : 1 ≤ n) (p : Nat) (A : Option Addr) (c : Nat) (a : List Nd) (ha : a.length ≤ 140737488351232) (G : Nat → Prop) (hp : G p) (hG : ∀ b o, A = some ⟨b, o, none⟩ → 0 < a.length → G b) (w : World)
    (hbox : Blk w p #[.slice A a.length c] 23) (hx : Nodes w A a) : SeqN n Try.prog 80 #[.pointer (some ⟨p, 0, none⟩)] (fun k => #[.int .i64 (a.length - 1 - k : Nat), Nd.val (a.getD (a.length - 1 - k) Nd.zero)]) a.length G w :=
  fun l J Jx W hW hJ hJx hY h0 => back_node_in n hn l p A c a ha G hp hG J Jx W.heap.size hY W (Nat.le_refl _) (hbox.below' hW) (hx.below hW) h0
theorem back_node_any (A : Option Addr) (n c : Nat) (w : World) : Calls Try.prog 78 #[.slice A n c] w fun e w' => e = .returned (.func (.func 80) #[] #[.pointer (some ⟨w.heap.size, 0, none⟩)]) ∧ w' = w.alloc (.cells #[.slice A n c] 23) := by
  go_enter Try.func78, Try.ntmps78
  go_wp2_with fail
  go_ret
  exact ⟨rfl, rfl⟩
set_option maxRecDepth 100000 in
set_option maxHeartbeats 2000000 in
theorem back_rule_in (n : Nat) (hn : 1 ≤ n) (l p : Nat) (A : Option Addr) (c : Nat) (a : List Rl) (ha : a.length ≤ 140737488351232) (G : Nat → Prop) (hp : G p) (hG : ∀ b o, A = some ⟨b, o, none⟩ → 0 < a.length → G b) (J Jx : Nat → World → Prop)
    (B : Nat) (hY : ∀ k W1, J k W1 → B ≤ W1.heap.size → k < a.length → YieldAt Fence.wide (n - 1) Try.prog l #[.int .i64 (a.length - 1 - k : Nat), Rl.val (a.getD (a.length - 1 - k) Rl.zero)] W1 fun e W' =>
      (e = .returned (.bool true) ∧ J (k + 1) W' ∧ Left G B W1 W') ∨ (e = .returned (.bool false) ∧ Jx (k + 1) W' ∧ Left (fun _ => False) B W1 W'))
    (W : World) (hB : B ≤ W.heap.size) (hbox : Blk W p #[.slice A a.length c] 22) (hx : Rules W A a) (h0 : J 0 W) :
    CallsIn Fence.wide n Try.prog 71 #[.func (.yield l) #[] #[], .pointer (some ⟨p, 0, none⟩)] W fun e W' => (∃ v, e = .returned v) ∧ (J a.length W' ∨ ∃ k, k ≤ a.length ∧ Jx k W') := by
  have HX := Lib.hid hx
  have HY := Lib.hid hY
  have H0 := Lib.hid h0
  have HGG := Lib.hid hG
  have HB := Lib.hid hbox
  have HSZ := Lib.hid hB
  have c0 := hbox.cell 0
  have HP := Lib.hid hp
  simp only [List.getElem?_toArray, List.getElem?_cons_zero] at c0
  obtain ⟨m, em⟩ : ∃ m, m = a.length := ⟨_, rfl⟩
  rw [← em] at HY HB c0 ha ⊢
  have EM := Lib.hid em
  clear hx hY h0 hG hbox hp hB em
  refine callsIn_of_wp Try.func71 rfl trivial ?_ rfl
  simp only [Try.ntmps71, List.size_toArray, List.length_cons, List.length_nil, Nat.reduceAdd, Nat.reduceSub, Array.replicate_succ, Array.replicate_zero, List.push_toArray, List.append_toArray, List.nil_append, List.cons_append]
  gi_wp2_with (fail)
  clear c0
  gi_loopw [3] (fun i wr => ∃ k : Nat, k ≤ m ∧ i = .int .i64 ((m : Int) - 1 - k) ∧ J k wr ∧ Blk wr p #[.slice A m c] 22 ∧ Rules wr A a ∧ B ≤ wr.heap.size)
    (fun i _ => (intOf i + 1).toNat)
  case atStart => exact ⟨0, by omega, by go_num, H0.out, HB.out, HX.out, HSZ.out⟩
  case round =>
    obtain ⟨k, hk, rfl, hJ, hbx, hx, hz⟩ := hrel
    by_cases hlt : k < m
    · have c0 := hbx.cell 0
      simp only [List.getElem?_toArray, List.getElem?_cons_zero] at c0
      obtain ⟨i, hi⟩ : ∃ i : Nat, (i : Int) = (m : Int) - 1 - k := ⟨m - 1 - k, by omega⟩
      have hik : m - 1 - k = i := by omega
      rw [← hi]
      have h5 := HY.out k wr hJ hz hlt
      rw [hik] at h5
      have hil : i < m := by omega
      have hil2 : (i : Int) < m := by omega
      have hi0 : (0 : Int) ≤ i := by omega
      obtain ⟨b1, o1, ea, _, c1, c2⟩ := hx.two (show i < a.length by have := EM.out; omega)
      have HA := Lib.hid ea
      rw [ea] at c0
      generalize a.getD i Rl.zero = x at h5 c1 c2
      unfold Rl.val at h5
      obtain ⟨fn, tmps, assign, body, hy, hR⟩ := h5
      have HR := Lib.hid hR
      have HBX := Lib.hid hbx
      have HXX := Lib.hid hx
      have HZ := Lib.hid hz
      have HI := Lib.hid hi
      clear hR hbx hx hJ hz ea hik hi
      gi_wp2_with fail
      refine HR.out.mono ?_
      rintro e W3 (⟨rfl, hJ3, hl3⟩ | ⟨rfl, hJx3, hz3⟩)
      · have hb3 : Blk W3 p #[.slice A m c] 22 := (hl3.block p HBX.out.lt (.inl HP.out)).trans HBX.out
        have hx3 := HXX.out.left hl3 HGG.out
        have HB3 := Lib.hid hb3
        have HX3 := Lib.hid hx3
        have HJ3 := Lib.hid hJ3
        have HZ3 : RowKit.Hid (B ≤ W3.heap.size) := Lib.hid (Nat.le_trans HZ.out hl3.size)
        clear hb3 hx3 hJ3 hl3 hy c0 c1 c2
        gi_wp2_with fail
        go_roundw
        case rel => exact ⟨k + 1, by omega, by have := HI.out; simp only [Value.int.injEq, true_and]; omega, HJ3.out, HB3.out, HX3.out, HZ3.out⟩
        case measure => simp [intOf]; try omega
      · have HJ3 := Lib.hid hJx3
        clear hJx3 hy c0 c1 c2
        gi_wp2_with fail
        refine bodyPost_ret (results_none rfl _ _ _) rfl ?_
        exact ⟨⟨_, rfl⟩, .inr ⟨k + 1, by omega, HJ3.out⟩⟩
    · obtain rfl : k = m := by omega
      have HJ3 := Lib.hid hJ
      have hneg : ¬ (0 : Int) ≤ (k : Int) - 1 - k := by omega
      have hneg2 : (k : Int) - 1 - k < 0 := by omega
      clear hJ hbx hx
      gi_wp2_with fail
      go_end0
      exact ⟨⟨_, rfl⟩, .inl HJ3.out⟩
theorem back_rule_seq (n : Nat) (hn : 1 ≤ n) (p : Nat) (A : Option Addr) (c : Nat) (a : List Rl) (ha : a.length ≤ 140737488351232) (G : Nat → Prop) (hp : G p) (hG : ∀ b o, A = some ⟨b, o, none⟩ → 0 < a.length → G b) (w : World)
    (hbox : Blk w p #[.slice A a.length c] 22) (hx : Rules w A a) : SeqN n Try.prog 71 #[.pointer (some ⟨p, 0, none⟩)] (fun k => #[.int .i64 (a.length - 1 - k : Nat), Rl.val (a.getD (a.length - 1 - k) Rl.zero)]) a.length G w :=
  fun l J Jx W hW hJ hJx hY h0 => back_rule_in n hn l p A c a ha G hp hG J Jx W.heap.size hY W (Nat.le_refl _) (hbox.below' hW) (hx.below hW) h0
theorem back_rule_any (A : Option Addr) (n c : Nat) (w : World) : Calls Try.prog 53 #[.slice A n c] w fun e w' => e = .returned (.func (.func 71) #[] #[.pointer (some ⟨w.heap.size, 0, none⟩)]) ∧ w' = w.alloc (.cells #[.slice A n c] 22) := by
  go_enter Try.func53, Try.ntmps53
  go_wp2_with fail
  go_ret
  exact ⟨rfl, rfl⟩
end Go.Proofs.Ytfdfcagkfnckmaa

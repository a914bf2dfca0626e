/- gram's copies of nodes, one after the other, as a range-function. -/
import Derived.Test.YtfghfnpiaccfaaaGreatDoorU1
import Derived.Test.YtfghfnpiaccfaaaGreatDoorU0
import Derived.Test.YtfghfnpiaccfaaaGreatDoorJ4
import Derived.Deep.CutRange
import Derived.Deep.MidRow
import Derived.Test.YtfghfnpiaccfaaaGreatDoorJ1
set_option linter.unusedSimpArgs false
set_option linter.unusedVariables false
namespace Go.Proofs.YtfghfnpiaccfaaaGreatDoor.J
open Go Go.RowKit Go.Shelf
set_option maxRecDepth 100000
attribute [local go_sem] Oper.semAt_some
/-- What is known of the k-th copy. -/
def CopyIs (B : Nat) (l : List Nd) (k : Nat) (x : Option Addr × Nat) (W : World) : Prop :=
  W.ownsRow B 3 1 (.slice x.1 (l.getD k Nd.zero).kids.length x.2) (l.getD k Nd.zero).kids.length (ints (l.getD k Nd.zero).kids) ∧ (x.1 = none → x.2 = 0)
theorem copy_done {wr w4 : World} {b5 D c1 : Nat} {x : Nd} {A1 : Option Addr} (h : Blk w4 b5 x.cells.toArray 48) (ho : w4.ownsRow D 3 1 (.slice A1 x.kids.length c1) x.kids.length (ints x.kids)) (hD : b5 < D) (h4 : Below wr.heap.size wr w4) (e : b5 = wr.heap.size) (W5 : World)
    (eW : W5 = (w4.setCell ⟨b5, 5, none⟩ (.string x.text)).setCell ⟨b5, 8, none⟩ (.slice A1 x.kids.length c1)) :
    Blk W5 b5 (x.at_ A1 c1).cells.toArray 48 ∧ W5.ownsRow wr.heap.size 3 1 (.slice A1 x.kids.length c1) x.kids.length (ints x.kids) ∧ Below wr.heap.size wr W5 := by
  have k1 : Blk (w4.setCell ⟨b5, 5, none⟩ (.string x.text)) b5 x.cells.toArray 48 := heap_setCell_same w4 b5 5 x.cells.toArray 48 (.string x.text) h
  have k2 : Blk W5 b5 (x.at_ A1 c1).cells.toArray 48 := by rw [eW]; exact heap_setCell_same _ b5 8 x.cells.toArray 48 (.slice A1 x.kids.length c1) k1
  have g : w4.grownBy W5 (some b5) := by
    rw [eW]
    exact ⟨rfl, rfl, rfl, by simp, fun k hk hne => (heap_setCell_other _ ⟨b5, 8, none⟩ k _ (fun e => hne (by rw [e]))).trans (heap_setCell_other w4 ⟨b5, 5, none⟩ k _ (fun e => hne (by rw [e])))⟩
  exact ⟨k2, own_lower (own_blk ho hD g) (by omega), grown_below h4 h4.size g (fun k e' => by cases e'; omega)⟩
theorem _root_.Go.Proofs.YtfghfnpiaccfaaaGreatDoor.Nd.At.left {w w' : World} {G : Nat → Prop} {B : Nat} {x : Nd} (h : Nd.At w x) (hl : Left G B w w') (hg : ∀ b o, x.A = some ⟨b, o, none⟩ → 0 < x.kids.length → G b) : Nd.At w' x := by
  refine ⟨fun h0 => ?_, h.2⟩
  obtain ⟨b, o, e, hb, hc⟩ := h.1 h0
  exact ⟨b, o, e, Nat.lt_of_lt_of_le hb hl.size, fun i hi => (World.cell?_of_block (a := ⟨b, o + i, none⟩) (hl.block b hb (.inl (hg b o e (by rwa [ints_length] at h0))))).trans (hc i hi)⟩
set_option maxRecDepth 100000 in
set_option maxHeartbeats 8000000 in
theorem copies_in (n : Nat) (hn : 6 ≤ n) (l p q : Nat) (A : Option Addr) (c : Nat) (first : Nat) (a : List Nd) (ha : a.length ≤ 1000000) (hf : first ≤ 1000000) (hks : ∀ x ∈ a, x.kids.length ≤ 1000000 ∧ x.text.size ≤ 281474976710656) (G : Nat → Prop) (hp : G p) (hq : G q) (hG : ∀ b o, A = some ⟨b, o, none⟩ → 0 < a.length → G b) (hGk : ∀ x ∈ a, ∀ b o, x.A = some ⟨b, o, none⟩ → 0 < x.kids.length → G b) (J Jx : Nat → World → Prop) (hJ : Grw J) (hJx : Grw Jx)
    (B : Nat) (hY : ∀ k x W1, J k W1 → CopyIs B a k x W1 → B ≤ W1.heap.size → k < a.length → YieldAt Fence.wide (n - 1) Tryz.prog l #[.int .i64 ((first + k : Nat) : Int), ((a.getD k Nd.zero).at_ x.1 x.2).val] W1 fun e W' =>
      (e = .returned (.bool true) ∧ J (k + 1) W' ∧ Left G B W1 W') ∨ (e = .returned (.bool false) ∧ Jx (k + 1) W' ∧ Left (fun _ => False) B W1 W'))
    (W : World) (hB : B ≤ W.heap.size) (hbox : Blk W p #[.slice A a.length c] 23) (hbox2 : Blk W q #[.int .i64 (first : Int)] 3) (hx : Nodes W A a) (hk : ∀ x ∈ a, Nd.At W x) (h0 : J 0 W) :
    CallsIn Fence.wide n Tryz.prog 250 #[.func (.yield l) #[] #[], .pointer (some ⟨p, 0, none⟩), .pointer (some ⟨q, 0, none⟩)] W fun e W' => (∃ v, e = .returned v) ∧ (J a.length W' ∨ ∃ k, k ≤ a.length ∧ Jx k W') := by
  have HX := Lib.hid hx
  have HK := Lib.hid hk
  have HY := Lib.hid hY
  have H0 := Lib.hid h0
  have HGG := Lib.hid hG
  have HGK := Lib.hid hGk
  have HB := Lib.hid hbox
  have HB2 := Lib.hid hbox2
  have HSZ := Lib.hid hB
  have HKS := Lib.hid hks
  have HJ := Lib.hid hJ
  have HJX := Lib.hid hJx
  have c0 := hbox.cell 0
  have HP := Lib.hid hp
  have HQ := Lib.hid hq
  simp only [List.getElem?_toArray, List.getElem?_cons_zero] at c0
  obtain ⟨m, em⟩ : ∃ m, m = a.length := ⟨_, rfl⟩
  rw [← em] at HY HB c0 ha ⊢
  have EM := Lib.hid em
  clear hx hk hY h0 hG hGk hbox hbox2 hp hq hB em hks hJ hJx
  refine callsIn_of_wp Tryz.func250 rfl trivial ?_ rfl
  simp only [Tryz.ntmps250, List.size_toArray, List.length_cons, List.length_nil, Nat.reduceAdd, Nat.reduceSub, Array.replicate_succ, Array.replicate_zero, List.push_toArray, List.append_toArray, List.nil_append, List.cons_append]
  gi_wp2_with (fail)
  clear c0
  gi_loopw [8] (fun i wr => ∃ k : Nat, k ≤ m ∧ i = .int .i64 k ∧ J k wr ∧ Blk wr p #[.slice A m c] 23 ∧ Blk wr q #[.int .i64 (first : Int)] 3 ∧ Nodes wr A a ∧ (∀ x ∈ a, Nd.At wr x) ∧ B ≤ wr.heap.size)
    (fun i _ => m - (intOf i).toNat)
  case atStart => exact ⟨0, by omega, by go_num, H0.out, HB.out, HB2.out, HX.out, HK.out, HSZ.out⟩
  case round =>
    obtain ⟨k, hk, rfl, hJ, hbx, hbx2, hx, hka, hz⟩ := hrel
    by_cases hlt : k < m
    · have hlt2 : (k : Int) < m := by omega
      have hkl : k < a.length := by have := EM.out; omega
      have HYK := Lib.hid (fun x W1 h1 h2 h3 => HY.out k x W1 h1 h2 h3 hlt)
      obtain ⟨b1, o1, eA, _, n1, n2, n3, n4, n5, n6, n7, n8, n9⟩ := hx.nine hkl
      obtain ⟨s1, s2⟩ := HKS.out (a.getD k Nd.zero) (getD_mem hkl)
      have hat := hka (a.getD k Nd.zero) (getD_mem hkl)
      have HHJ := Lib.hid hJ
      have BX := Lib.hid hbx
      have BX2 := Lib.hid hbx2
      have HXX := Lib.hid hx
      have HKA := Lib.hid hka
      have HZ := Lib.hid hz
      unfold CopyIs at HYK
      generalize hxx : a.getD k Nd.zero = x at HYK n1 n2 n3 n4 n5 n6 n7 n8 n9 s1 s2 hat
      have HXE := Lib.hid hxx
      have EA := Lib.hid eA
      rw [eA]
      clear hJ hbx hbx2 hx hka hz hxx eA
      gi_wp2_with fail
      obtain ⟨w2, ew2⟩ : ∃ u, u = wr.alloc (.cells #[.int .i64 x.kind, .int .u64 x.c0, .int .u64 x.c1, .int .u64 x.c2, .int .u64 x.c3, .string x.text, .int .i64 x.rule, .int .i64 x.level, .slice x.A x.kids.length x.cap] 48) := ⟨_, rfl⟩
      obtain ⟨b5, eb5⟩ : ∃ u, u = wr.heap.size := ⟨_, rfl⟩
      rw [← ew2, ← eb5]
      have hk2 : Blk w2 b5 x.cells.toArray 48 := by rw [ew2, eb5]; exact Blk.new _ _ _
      have K2 := Lib.hid hk2
      have c5 := hk2.cell 5
      have f5 := hk2.frozen 5
      have c8 := hk2.cell 8
      have f8 := hk2.frozen 8
      simp only [Nd.cells, List.getElem?_toArray, List.getElem?_cons_zero, List.getElem?_cons_succ] at c5 c8
      have CS := Lib.hid (fun w => clone_any x.text s2 w)
      have CK := Lib.hid (fun (W' : World) (b : Below wr.heap.size wr W') => cloneInts_any x.A x.kids x.cap s1 hat.2.1 W' (hat.below b).1)
      clear n1 n2 n3 n4 n5 n6 n7 n8 n9 hk2 s1 s2 hat
      have EB := Lib.hid eb5
      have HW2 : RowKit.Hid (Below wr.heap.size wr w2) := Lib.hid (by rw [ew2]; exact B1 _ _)
      clear ew2 eb5
      refine wpIn_wide.2 ?_
      go_region_with (first | (go_at_call 221; refine (CS.out _).mono ?_; rintro e w3 ⟨rfl, hb⟩; have K3 := Lib.hid (Blk.below' (b := b5) (vs := x.cells.toArray) (T := 48) (h := by exact K2.out) hb); have d5 := K3.out.cell 5; have g5 := K3.out.frozen 5; have d8 := K3.out.cell 8; have g8 := K3.out.frozen 8; simp only [Nd.cells, List.getElem?_toArray, List.getElem?_cons_zero, List.getElem?_cons_succ] at d5 d8; have H3 := Lib.hid (show Below wr.heap.size wr w3 from by first | exact bb HW2.out hb | exact bb (bdrew1 HW2.out) hb | exact bb (bdrew1 (bdrew1 HW2.out)) hb | exact bb (bdrew1 (bdrew1 (bdrew1 HW2.out))) hb); clear hb) | (go_at_call 251; first | (refine (CK.out _ (by first | exact H3.out | exact bdrew1 H3.out | exact bdrew1 (bdrew1 H3.out))).mono ?_; rintro e w4 ⟨A1, c1, rfl, ho, hnn, hb⟩; have K4 := Lib.hid (Blk.below' (b := b5) (vs := x.cells.toArray) (T := 48) (h := by exact K3.out) hb); have H4 := Lib.hid (show Below wr.heap.size wr w4 from by first | exact bb H3.out hb | exact bb (bdrew1 H3.out) hb | exact bb (bdrew1 (bdrew1 H3.out)) hb); have HO := Lib.hid ho; have HNN := Lib.hid hnn; have k5 := K4.out.cell 5; have m5 := K4.out.frozen 5; have k8 := K4.out.cell 8; have m8 := K4.out.frozen 8; simp only [Nd.cells, List.getElem?_toArray, List.getElem?_cons_zero, List.getElem?_cons_succ] at k5 k8; clear ho hnn hb d5 g5 d8 g8) | (refine (CK.out _ (by first | exact (H3.out.setCell (p := ⟨b5, 5, none⟩) (by rw [EB.out]; exact Nat.le_refl _) _) | exact bdrew1 (H3.out.setCell (p := ⟨b5, 5, none⟩) (by rw [EB.out]; exact Nat.le_refl _) _))).mono ?_; rintro e w4 ⟨A1, c1, rfl, ho, hnn, hb⟩; fail)))
      all_goals (
        have HOB := Lib.hid (own_lower (base' := b5 + 1) HO.out (by have := K3.out.lt; first | exact this | (simp; omega)))
        generalize hW5 : (World.setCell _ _ _ : World) = W5
        obtain ⟨q1, q2, q3⟩ := copy_done K4.out HOB.out (by omega) H4.out EB.out W5 hW5.symm
        have K5 := Lib.hid q1
        have Q2 := Lib.hid q2
        have H5 := Lib.hid q3
        have e0 := q1.cell 0; have e1 := q1.cell 1; have e2 := q1.cell 2; have e3 := q1.cell 3; have e4 := q1.cell 4; have e5 := q1.cell 5; have e6 := q1.cell 6; have e7 := q1.cell 7; have e8 := q1.cell 8
        simp only [Nd.cells, List.getElem?_toArray, List.getElem?_cons_zero, List.getElem?_cons_succ] at e0 e1 e2 e3 e4 e5 e6 e7 e8
        have cq := (BX2.out.below' q3).cell 0
        simp only [List.getElem?_toArray, List.getElem?_cons_zero] at cq
        have h5 := HYK.out (A1, c1) W5 (HJ.out k _ _ HHJ.out q3) ⟨own_lower q2 HZ.out, HNN.out⟩ (Nat.le_trans HZ.out q3.size)
        have hwf : IntKind.i64.wrap ((first : Int) + k) = ((first + k : Nat) : Int) := (IntWalk.i64_in _ (by omega)).trans (by omega)
        obtain ⟨fk, efk⟩ : ∃ fk : Nat, fk = first + k := ⟨_, rfl⟩
        rw [← efk] at h5 hwf
        obtain ⟨fn, tmps, assign, body, hy, hR⟩ := h5
        have HR := Lib.hid hR
        clear hW5 q1 q2 q3 hR k5 m5 k8 m8 c5 f5 c8 f8
        clear efk
        dsimp only [Nd.at_, Nd.val] at hy
        gi_wp2_with fail
        refine ⟨fun _ => by omega, HR.out.mono ?_⟩
        clear hy e0 e1 e2 e3 e4 e5 e6 e7 e8 cq hwf
        rintro e W3 (⟨rfl, hJ3, hl3⟩ | ⟨rfl, hJx3, hz3⟩)
        · have B3 := Lib.hid ((hl3.block p (BX.out.below' H5.out).lt (.inl HP.out)).trans (BX.out.below' H5.out))
          have B4 := Lib.hid ((hl3.block q (BX2.out.below' H5.out).lt (.inl HQ.out)).trans (BX2.out.below' H5.out))
          have HX3 := Lib.hid ((HXX.out.below H5.out).left hl3 HGG.out)
          have HK3 := Lib.hid (fun y (hy : y ∈ a) => ((HKA.out y hy).below H5.out).left hl3 (HGK.out y hy))
          have HJ3 := Lib.hid hJ3
          have HZ3 : RowKit.Hid (B ≤ W3.heap.size) := Lib.hid (Nat.le_trans (Nat.le_trans HZ.out H5.out.size) hl3.size)
          clear hJ3 hl3
          gi_wp2_with fail
          go_roundw
          case rel => exact ⟨k + 1, by omega, by go_num, HJ3.out, by rw [← EA.out]; exact B3.out, B4.out, by rw [← EA.out]; exact HX3.out, HK3.out, HZ3.out⟩
          case measure => simp [intOf]; omega
        · have HJ3 := Lib.hid hJx3
          clear hJx3 hz3
          gi_wp2_with fail
          refine bodyPost_ret (results_none rfl _ _ _) rfl ?_
          exact ⟨⟨_, rfl⟩, .inr ⟨k + 1, by omega, HJ3.out⟩⟩)
    · obtain rfl : k = m := by omega
      have HJ3 := Lib.hid hJ
      have hneg : ¬ (k : Int) < k := by omega
      clear hJ hbx hx hka hbx2 hz
      gi_wp2_with fail
      go_end0
      exact ⟨⟨_, rfl⟩, .inl HJ3.out⟩
theorem copies_seq (n : Nat) (hn : 6 ≤ n) (p q : Nat) (A : Option Addr) (c first : Nat) (a : List Nd) (ha : a.length ≤ 1000000) (hf : first ≤ 1000000) (hks : ∀ x ∈ a, x.kids.length ≤ 1000000 ∧ x.text.size ≤ 281474976710656) (G : Nat → Prop) (hp : G p) (hq : G q) (hG : ∀ b o, A = some ⟨b, o, none⟩ → 0 < a.length → G b) (hGk : ∀ x ∈ a, ∀ b o, x.A = some ⟨b, o, none⟩ → 0 < x.kids.length → G b)
    (w : World) (hbox : Blk w p #[.slice A a.length c] 23) (hbox2 : Blk w q #[.int .i64 (first : Int)] 3) (hx : Nodes w A a) (hk : ∀ x ∈ a, Nd.At w x) :
    SeqE n Tryz.prog 250 #[.pointer (some ⟨p, 0, none⟩), .pointer (some ⟨q, 0, none⟩)] (fun k x => #[.int .i64 ((first + k : Nat) : Int), ((a.getD k Nd.zero).at_ x.1 x.2).val]) (CopyIs w.heap.size a) a.length G w :=
  fun l J Jx W hW hJ hJx hY h0 => copies_in n hn l p q A c first a ha hf hks G hp hq hG hGk J Jx hJ hJx W.heap.size (fun k x W1 h1 h2 h3 h4 => hY k x W1 h1 ⟨own_lower h2.1 hW.size, h2.2⟩ h3 h4) W (Nat.le_refl _) (hbox.below' hW) (hbox2.below' hW) (hx.below hW) (fun x hx => (hk x hx).below hW) h0
theorem copies_any (A : Option Addr) (m c : Nat) (first : Int) (w : World) : Calls Tryz.prog 223 #[.slice A m c, .int .i64 first] w fun e w' => e = .returned (.func (.func 250) #[] #[.pointer (some ⟨w.heap.size, 0, none⟩), .pointer (some ⟨w.heap.size + 1, 0, none⟩)]) ∧ w' = (w.alloc (.cells #[.slice A m c] 23)).alloc (.cells #[.int .i64 first] 3) := by
  go_enter Tryz.func223, Tryz.ntmps223
  go_wp2_with fail
  go_ret
  exact ⟨rfl, rfl⟩
end Go.Proofs.YtfghfnpiaccfaaaGreatDoor.J
namespace Go.Proofs.YtfghfnpiaccfaaaGreatDoor.J
open Go Go.RowKit
set_option maxRecDepth 100000
theorem wpListIn_store_mid {F : Fence} {k : Nat} {P : Program} {w : World} {ops : Array Oper} {rest : List Oper} {o : Oper} {ac : Act} {Q : Exit → Act → World → Prop}
    (hgd : o.guard = none) (ty : TypeId) (x y : Operand) (hop : o.op = .store ty x y) (b off : Nat) (cells : Array Value) (hx : ac.eval x = .pointer (some ⟨b, off, none⟩)) (hy : ac.eval y = .agg cells)
    (ht : w.there b off cells.size) (hi : (P.info? ty).map (·.size) = some cells.size) (h1 : cells.all (·.oneCell') = true)
    (hK : wpListIn F k P ops Q rest (ac.put o.dst undef) (w.setCells b off cells.toList)) : wpListIn F k P ops Q (o :: rest) ac w := by
  refine wpListIn_plain hgd fun K hK' => ?_
  unfold Oper.wpIn
  constructor
  · simp [Oper.about, hop, Sem.run_pure]
  · rw [Oper.semAt_plain F _ _ (by rw [hop]; intro c hc'; cases hc')]
    simp only [execOp, hop, hx, hy, Instr.storeAt, Instr.sureAddr, Sem.run_bind, Sem.run_pure, Result.andThen_ok, run_storeVar_mid w b off ty cells ht hi h1]
    exact hK' _ _ hK
theorem own_set {w : World} {base e size n g cap : Nat} : ∀ (vs : List Value) (o : Nat) (w : World) (xs : List Value), w.ownsRow base e size (.slice (some ⟨g, 0, none⟩) n cap) n xs → o + vs.length ≤ xs.length →
    (w.setCells g o vs).ownsRow base e size (.slice (some ⟨g, 0, none⟩) n cap) n (xs.take o ++ vs ++ xs.drop (o + vs.length)) ∧ w.grownBy (w.setCells g o vs) (some g)
  | [], o, w, xs, h, _ => by
    simp only [World.setCells, List.append_nil, List.length_nil, Nat.add_zero, List.take_append_drop]
    exact ⟨h, World.grownBy.refl _ _⟩
  | v :: vs, o, w, xs, h, hl => by
    simp only [List.length_cons] at hl
    obtain ⟨h1, h2⟩ := h.stored o v
    obtain ⟨h3, h4⟩ := own_set (w := w) vs (o + 1) _ _ h1 (by rw [List.length_set]; omega)
    have e : (xs.set o v).take (o + 1) ++ vs ++ (xs.set o v).drop (o + 1 + vs.length) = xs.take o ++ (v :: vs) ++ xs.drop (o + (vs.length + 1)) := by
      rw [List.set_eq_take_append_cons_drop, if_pos (by omega)]
      rw [show xs.take o ++ v :: xs.drop (o + 1) = (xs.take o ++ [v]) ++ xs.drop (o + 1) by simp]
      rw [List.take_append_of_le_length (by simp; omega), List.drop_append]
      have l1 : (xs.take o ++ [v]).length = o + 1 := by simp; omega
      rw [List.take_of_length_le (by rw [l1]; omega), l1, List.drop_of_length_le (by rw [l1]; omega), List.drop_drop]
      simp only [List.nil_append, List.append_assoc, List.cons_append]
      congr 4
      omega
    refine ⟨by simp only [World.setCells, List.length_cons]; rw [← e]; exact h3, ?_⟩
    simp only [World.setCells]
    exact ⟨h4.os.trans h2.os, h4.tape.trans h2.tape, h4.output.trans h2.output, Nat.le_trans h2.size h4.size, fun k hk hne => (h4.block k (Nat.lt_of_lt_of_le hk h2.size) hne).trans (h2.block k hk hne)⟩
theorem own_there {w : World} {base e size n g cap o : Nat} {xs : List Value} (h : w.ownsRow base e size (.slice (some ⟨g, 0, none⟩) n cap) n xs) (m : Nat) (hm : o + m ≤ n * size) : w.there g o m := by
  intro j hj
  refine ⟨?_, h.frozenAt (o + j)⟩
  rw [h.cellAt (o + j) (by omega), List.getElem?_eq_getElem (by rw [h.1]; omega)]
  rfl
end Go.Proofs.YtfghfnpiaccfaaaGreatDoor.J
namespace Go.Proofs.YtfghfnpiaccfaaaGreatDoor.J
open Go Go.RowKit Go.Shelf
set_option maxRecDepth 100000
attribute [local go_sem] Oper.semAt_some
theorem own_put {w : World} {base e size n b : Nat} {v : Value} {xs : List Value} {lp : Loop} (h : w.ownsRow base e size v n xs) (hl : w.heap[b]? = some (.loop lp)) (o : Obj) : (w.putObj b o).ownsRow base e size v n xs := by
  refine ⟨h.1, ?_⟩
  rcases h.2 with hn | ⟨g, cap, cur, rfl, hbg, hgg, rest⟩
  · exact .inl hn
  · exact .inr ⟨g, cap, cur, rfl, hbg, (World.putObj_heap_other (by intro e; subst e; rw [hl] at hgg; cases hgg)).trans hgg, rest⟩
theorem own_putD {w : World} {base e size n b : Nat} {v : Value} {xs : List Value} {d : Option (List Deferred)} (h : w.ownsRow base e size v n xs) (hl : w.heap[b]? = some (.deferred d)) (o : Obj) : (w.putObj b o).ownsRow base e size v n xs := by
  refine ⟨h.1, ?_⟩
  rcases h.2 with hn | ⟨g, cap, cur, rfl, hbg, hgg, rest⟩
  · exact .inl hn
  · exact .inr ⟨g, cap, cur, rfl, hbg, (World.putObj_heap_other (by intro e; subst e; rw [hl] at hgg; cases hgg)).trans hgg, rest⟩
theorem _root_.Go.Proofs.YtfghfnpiaccfaaaGreatDoor.Blk.put {w : World} {b d : Nat} {vs : Array Value} {T : TypeId} {lp : Loop} (h : Blk w d vs T) (hl : w.heap[b]? = some (.loop lp)) (o : Obj) : Blk (w.putObj b o) d vs T :=
  (World.putObj_heap_other (by intro e; subst e; have h' : w.heap[d]? = some (.cells vs T (0, 0)) := h; rw [hl] at h'; cases h')).trans h
theorem below_put {B b : Nat} {w0 w : World} (h : Below B w0 w) (hb : B ≤ b) (o : Obj) : Below B w0 (w.putObj b o) := h.trans (below_putObj w b B o hb)
/-- What lies as copies are laid into a row. -/
structure CN (w : World) (l : List Nd) (t3 : Nat) (v : Value) (m k : Nat) (W : World) : Prop where
  row : ∃ cl : List Nd, cl.length = k ∧ (∀ j, j < k → Twin (l.getD j Nd.zero) (cl.getD j Nd.zero)) ∧ W.ownsRow w.heap.size 48 9 v m (ncells (cl ++ l.drop k)) ∧ (∀ x ∈ cl, Kid W w.heap.size v x)
  box : Blk W t3 #[v] 23
  low : Below w.heap.size w W
theorem CN.grow {w W W' : World} {l : List Nd} {t3 m k : Nat} {v : Value} (h : CN w l t3 v m k W) (hb : Below W.heap.size W W') : CN w l t3 v m k W' := by
  obtain ⟨⟨cl, h1, h2, h3, h4⟩, h5, h6⟩ := h
  exact ⟨⟨cl, h1, h2, own_below h3 hb, fun x hx => (h4 x hx).below hb⟩, h5.below' hb, bb h6 hb⟩
theorem CN.put {w W : World} {l : List Nd} {t3 m k b : Nat} {v : Value} {lp : Loop} (h : CN w l t3 v m k W) (hl : W.heap[b]? = some (.loop lp)) (hb : w.heap.size ≤ b) (o : Obj) : CN w l t3 v m k (W.putObj b o) := by
  obtain ⟨⟨cl, h1, h2, h3, h4⟩, h5, h6⟩ := h
  exact ⟨⟨cl, h1, h2, own_put h3 hl o, fun x hx => ⟨own_put (h4 x hx).1 hl o, (h4 x hx).2⟩⟩, h5.put hl o, below_put h6 hb o⟩
theorem ncells_more : ∀ (a b : List Nd), ncells (a ++ b) = ncells a ++ ncells b
  | [], b => rfl
  | x :: a, b => by simp [ncells, ncells_more a b]
/-- One copy more. -/
theorem CN.next {w W : World} {l : List Nd} {t3 g rc m k : Nat} {A1 : Option Addr} {c1 B : Nat} (h : CN w l t3 (.slice (some ⟨g, 0, none⟩) m rc) m k W) (hk : k < l.length) (hm : m = l.length) (hB : g < B) (ht : t3 < B ∧ t3 ≠ g) (hg : w.heap.size ≤ g)
    (hc : CopyIs B l k (A1, c1) W) (hwB : w.heap.size ≤ B) : CN w l t3 (.slice (some ⟨g, 0, none⟩) m rc) m (k + 1) (W.setCells g (k * 9) ((l.getD k Nd.zero).at_ A1 c1).cells) := by
  obtain ⟨⟨cl, h1, h2, h3, h4⟩, h5, h6⟩ := h
  obtain ⟨c2, c3⟩ := hc
  have hlen : (ncells (cl ++ l.drop k)).length = l.length * 9 := by rw [ncells_length]; simp; omega
  obtain ⟨o1, o2⟩ := own_set (w := W) ((l.getD k Nd.zero).at_ A1 c1).cells (k * 9) W _ h3 (by rw [hlen]; simp [Nd.cells]; omega)
  have hcat : (ncells (cl ++ l.drop k)).take (k * 9) ++ ((l.getD k Nd.zero).at_ A1 c1).cells ++ (ncells (cl ++ l.drop k)).drop (k * 9 + ((l.getD k Nd.zero).at_ A1 c1).cells.length) = ncells ((cl ++ [(l.getD k Nd.zero).at_ A1 c1]) ++ l.drop (k + 1)) := by
    have hl9 : (ncells cl).length = k * 9 := by rw [ncells_length, h1]
    have hx9 : ∀ x : Nd, x.cells.length = 9 := fun x => rfl
    rw [List.drop_eq_getElem_cons hk, ncells_more, ncells, List.take_append_of_le_length (by omega), List.take_of_length_le (by omega), hx9, List.drop_append, List.drop_of_length_le (by omega), hl9, List.nil_append, show k * 9 + 9 - k * 9 = 9 by omega, List.drop_append_of_le_length (by rw [hx9]; omega), List.drop_of_length_le (by rw [hx9]; omega), List.nil_append, ncells_more, ncells_app]
  rw [hcat] at o1
  have hgk : ∀ x : Nd, Kid W w.heap.size (.slice (some ⟨g, 0, none⟩) m rc) x → Kid (W.setCells g (k * 9) ((l.getD k Nd.zero).at_ A1 c1).cells) w.heap.size (.slice (some ⟨g, 0, none⟩) m rc) x := fun x hx => hx.grown (by simpa [Value.ownBlock] using o2) (fun k e => .inl e)
  refine ⟨⟨cl ++ [(l.getD k Nd.zero).at_ A1 c1], by simp [h1], fun j hj => ?_, o1, fun x hx => ?_⟩, h5.grown o2 (fun e => ht.2 (by simpa using e)), grown_below h6 h6.size o2 (fun q e => by cases e; exact hg)⟩
  · by_cases ej : j = k
    · have e : (cl ++ [(l.getD k Nd.zero).at_ A1 c1]).getD k Nd.zero = (l.getD k Nd.zero).at_ A1 c1 := by
        rw [List.getD_eq_getElem?_getD, List.getElem?_append_right (by omega), h1]
        simp
      rw [ej, e]
      exact ⟨A1, c1, rfl⟩
    · have e : (cl ++ [(l.getD k Nd.zero).at_ A1 c1]).getD j Nd.zero = cl.getD j Nd.zero := by
        rw [List.getD_eq_getElem?_getD, List.getElem?_append_left (by omega), List.getD_eq_getElem?_getD]
      rw [e]
      exact h2 j (by omega)
  · rcases List.mem_append.1 hx with hx | hx
    · exact hgk x (h4 x hx)
    · simp at hx
      subst hx
      refine hgk _ ⟨own_lower c2 hwB, c3, fun a ha e => ?_⟩
      have q2 := (c2.lt a.block (by dsimp only [Nd.at_] at ha; dsimp only; rw [ha]; rfl)).1
      simp only [Value.ownBlock, Option.some.injEq] at e
      omega
set_option maxRecDepth 100000 in
set_option maxHeartbeats 8000000 in
theorem gcopyNodes_any (A : Option Addr) (l : List Nd) (c : Nat) (hl : l.length ≤ 1000000) (hnc : A = none → c = 0) (w : World) (h : Nodes w A l) (hx : ∀ x ∈ l, Nd.At w x) (hks : ∀ x ∈ l, x.kids.length ≤ 1000000 ∧ x.text.size ≤ 281474976710656) :
    Calls Tryz.prog 179 #[.slice A l.length c] w fun e w' => ∃ A' c', e = .returned (.slice A' l.length c') ∧ ∃ cl : List Nd, cl.length = l.length ∧ (∀ j, j < l.length → Twin (l.getD j Nd.zero) (cl.getD j Nd.zero)) ∧ w'.ownsRow w.heap.size 48 9 (.slice A' l.length c') l.length (ncells cl) ∧ (∀ x ∈ cl, Kid w' w.heap.size (.slice A' l.length c') x) ∧ (A' = none → c' = 0) ∧ Below w.heap.size w w' := by
  have CL := Lib.hid (cloneNodes_any A l c hl hnc w h)
  have HN := Lib.hid h
  have HX := Lib.hid hx
  have HKS := Lib.hid hks
  obtain ⟨m, em⟩ : ∃ m, m = l.length := ⟨_, rfl⟩
  have EM := Lib.hid em
  rw [← em] at hl CL ⊢
  clear h hx hks em hnc
  refine (callsIn_wide (n := 12)).1 ?_
  refine callsIn_of_wp_marks Tryz.func179 rfl trivial ?_ rfl
  simp only [Tryz.ntmps179, List.size_toArray, List.length_cons, List.length_nil, Nat.reduceAdd, Nat.reduceSub, Array.replicate_succ, Array.replicate_zero, List.push_toArray, List.append_toArray, List.nil_append, List.cons_append]
  refine wpIn_wide.2 ?_
  go_wp2_with (first | (go_at_call 222; refine CL.out.mono ?_; rintro e w1 ⟨RA, rc, rfl, ho, hnn, hb⟩; have HO := Lib.hid ho; have HNN := Lib.hid hnn; have H1 := Lib.hid hb; clear ho hnn hb) | (go_at_call 223; refine (copies_any _ _ _ _ _).mono ?_; rintro e w8 ⟨rfl, rfl⟩))
  obtain ⟨wl, ewl⟩ : ∃ u, u = ((w1.alloc (.cells #[.slice RA m rc] 23)).alloc (.cells #[.slice A m c] 23)).alloc (.cells #[.int .i64 0] 3) := ⟨_, rfl⟩
  obtain ⟨t3, et3⟩ : ∃ g, g = w1.heap.size := ⟨_, rfl⟩
  obtain ⟨p, ep⟩ : ∃ g, g = w1.heap.size + 1 := ⟨_, rfl⟩
  obtain ⟨q, eq⟩ : ∃ g, g = w1.heap.size + 1 + 1 := ⟨_, rfl⟩
  have hbl : Below w1.heap.size w1 wl := by rw [ewl]; exact (B2 _ _ _).alloc (by simp; omega) _
  have k3 : Blk wl t3 #[.slice RA m rc] 23 := by rw [ewl, et3]; exact ((Blk.new _ _ _).alloc _).alloc _
  have kp : Blk wl p #[.slice A m c] 23 := by
    rw [ewl, ep]; have := (Blk.new (w1.alloc (.cells #[.slice RA m rc] 23)) #[.slice A m c] 23).alloc (.cells #[.int .i64 0] 3); rw [World.size_alloc] at this; exact this
  have kq : Blk wl q #[.int .i64 ((0 : Nat) : Int)] 3 := by
    rw [ewl, eq]; have := Blk.new ((w1.alloc (.cells #[.slice RA m rc] 23)).alloc (.cells #[.slice A m c] 23)) #[.int .i64 0] 3; rw [World.size_alloc, World.size_alloc] at this; exact this
  have hz : wl.heap.size = w1.heap.size + 3 := by rw [ewl]; simp
  have F0 : RowKit.Hid (CN w l t3 (.slice RA m rc) m 0 wl) := Lib.hid ⟨⟨[], rfl, fun j hj => by omega, by simpa using own_below HO.out hbl, by simp⟩, k3, bb H1.out hbl⟩
  have BP := Lib.hid kp
  have BQ := Lib.hid kq
  have NE : RowKit.Hid (t3 = w1.heap.size ∧ p = w1.heap.size + 1 ∧ q = w1.heap.size + 2 ∧ wl.heap.size = w1.heap.size + 3 ∧ w.heap.size ≤ w1.heap.size) := Lib.hid ⟨et3, ep, by omega, hz, H1.out.size⟩
  have RG : RowKit.Hid (∀ g, RA = some ⟨g, 0, none⟩ → w.heap.size ≤ g ∧ g < w1.heap.size) := Lib.hid (fun g e => HO.out.lt g (by rw [e]; rfl))
  have NL := Lib.hid (HN.out.below (bb H1.out hbl))
  have XL := Lib.hid (fun x hx => (HX.out x hx).below (bb H1.out hbl))
  rw [← ewl, ← eq, ← ep, ← et3]
  clear ewl et3 ep eq hbl k3 kp kq hz
  have GN : RowKit.Hid (∀ b o, A = some ⟨b, o, none⟩ → 0 < l.length → b < w.heap.size) := Lib.hid (fun b o e h0 => by
    obtain ⟨b', o', e', hb', _⟩ := HN.out h0
    rw [e] at e'
    cases e'
    exact hb')
  have GK : RowKit.Hid (∀ x ∈ l, ∀ b o, x.A = some ⟨b, o, none⟩ → 0 < x.kids.length → b < w.heap.size) := Lib.hid (fun x hx b o e h0 => by
    obtain ⟨b', o', e', hb', _⟩ := (HX.out x hx).1 (by rwa [ints_length])
    rw [e] at e'
    cases e'
    exact hb')
  refine (wpIn_wide (n := 12)).1 ?_
  refine wpIn_rangeFunc_e (ε := Option Addr × Nat) (encs := fun k x => #[.int .i64 ((0 + k : Nat) : Int), ((l.getD k Nd.zero).at_ x.1 x.2).val]) (R := CopyIs wl.heap.size l) (n := 12) (by omega) (gf := 250) (lb := #[.pointer (some ⟨p, 0, none⟩), .pointer (some ⟨q, 0, none⟩)]) rfl (enters_of Tryz.func250 (by kernel_rfl) rfl)
    (G := fun k => k < wl.heap.size ∧ RA ≠ some ⟨k, 0, none⟩)
    (by
      have hne : ∀ b, (b < w.heap.size ∨ w1.heap.size ≤ b) → b < wl.heap.size → (b < wl.heap.size ∧ RA ≠ some ⟨b, 0, none⟩) := fun b h1 h2 => ⟨h2, fun e => by have := RG.out b e; omega⟩
      have := copies_seq 11 (by omega) p q A c 0 l (by have := EM.out; omega) (by omega) HKS.out (fun k => k < wl.heap.size ∧ RA ≠ some ⟨k, 0, none⟩) (hne p (by have := NE.out; omega) (by have := NE.out; omega)) (hne q (by have := NE.out; omega) (by have := NE.out; omega))
        (fun b o e h0 => hne b (.inl (GN.out b o e h0)) (by have := GN.out b o e h0; have := NE.out; omega)) (fun x hx b o e h0 => hne b (.inl (GK.out x hx b o e h0)) (by have := GK.out x hx b o e h0; have := NE.out; omega)) wl (by rw [← EM.out]; exact BP.out) BQ.out NL.out XL.out
      rw [← EM.out] at this
      exact this)
    (Below.refl _ _) (fun _ _ => rfl) (fun k h => h.1)
    (fun k W => CN w l t3 (.slice RA m rc) m k W) (fun _ _ _ => False)
    (fun k W W' h hb => h.grow hb) (fun _ _ _ _ h _ => h) (fun k b W lp o hb h hl => h.put hl (by have := NE.out; omega) o) (fun _ _ _ _ _ _ _ h _ => h)
    (fun x k W W' h hb => ⟨own_below h.1 hb, h.2⟩) (fun x k b W lp o hb h hl => ⟨own_put h.1 hl o, h.2⟩) F0.out
    (fun k x b => { tmps := #[.slice A m c, undef, .slice none 0 0, .pointer (some ⟨t3, 0, none⟩), .int .i64 (k : Int), .pointer (some ⟨b, 0, none⟩), .slice A m c, .slice RA m rc, .slice A m c, .func (.func 250) #[] #[.pointer (some ⟨p, 0, none⟩), .pointer (some ⟨q, 0, none⟩)], .int .i64 (k : Int), ((l.getD k Nd.zero).at_ x.1 x.2).val, undef, undef, undef, undef, undef], defers := [] })
    (fun k x => .cells ((l.getD k Nd.zero).at_ x.1 x.2).cells.toArray 48) ?assign ?body ?done ?stop
  case assign =>
    intro l2 k x W K hK
    unfold Nd.val
    gi_wp2
    exact hK
  case stop =>
    rintro D cd k W hD hk h hK
    exact h.elim
  case done =>
    rintro D W hD hF hK
    have c3 := hF.box.cell 0
    simp only [List.getElem?_toArray, List.getElem?_cons_zero] at c3
    have HF := Lib.hid hF
    have HC := Lib.hid (And.intro hK hD)
    clear hF hK hD
    go_wp2_with fail
    obtain ⟨hK, hD⟩ := HC.out
    obtain ⟨cl, q1, q2, q3, q4⟩ := HF.out.row
    rw [List.drop_of_length_le (by have := EM.out; omega), List.append_nil] at q3
    refine ⟨by simp, .inl ⟨_, _, rfl, run_takeDeferred hK, ?_⟩⟩
    exact ⟨_, results_tmp rfl _ _ _, RA, rc, rfl, cl, q1, q2, own_putD q3 hK _, fun x hx => ⟨own_putD (q4 x hx).1 hK _, (q4 x hx).2⟩, HNN.out, below_put HF.out.low (by have := NE.out; omega) _⟩
  case body =>
    rintro l2 k b ⟨A1, c1⟩ W hF hR hz hob hkm
    have hk2 : k < m := hkm
    obtain ⟨g, eg⟩ : ∃ g, RA = some ⟨g, 0, none⟩ := by
      rcases HO.out.2 with ⟨_, h2⟩ | ⟨g, cap, cur, h1, _⟩
      · omega
      · simp only [Value.slice.injEq] at h1
        exact ⟨g, h1.1⟩
    have hgb := RG.out g eg
    have hob' : Blk W b ((l.getD k Nd.zero).at_ A1 c1).cells.toArray 48 := hob
    rw [eg] at hF
    have FIN := Lib.hid (CN.next hF (by have := EM.out; omega) EM.out (B := wl.heap.size) (by have := NE.out; omega) ⟨by have := NE.out; omega, by have := NE.out; omega⟩ hgb.1 hR (by have := NE.out; omega))
    obtain ⟨cl, q1, q2, q3, q4⟩ := hF.row
    have TH := Lib.hid (own_there q3 (o := k * 9) 9 (by omega))
    have GB := Lib.hid (own_set (w := W) ((l.getD k Nd.zero).at_ A1 c1).cells (k * 9) W _ q3 (by rw [q3.1]; simp [Nd.cells]; omega)).2
    have c3 := hF.box.cell 0
    simp only [List.getElem?_toArray, List.getElem?_cons_zero] at c3
    generalize l.getD k Nd.zero = x at hob' FIN GB ⊢
    have e0 := hob'.cell 0; have e1 := hob'.cell 1; have e2 := hob'.cell 2; have e3 := hob'.cell 3; have e4 := hob'.cell 4; have e5 := hob'.cell 5; have e6 := hob'.cell 6; have e7 := hob'.cell 7; have e8 := hob'.cell 8
    simp only [Nd.cells, List.getElem?_toArray, List.getElem?_cons_zero, List.getElem?_cons_succ] at e0 e1 e2 e3 e4 e5 e6 e7 e8
    rw [eg]
    simp only [Nat.zero_add]
    have hkm3 : (k : Int) < m := by omega
    have EGG := Lib.hid eg
    have HGB := Lib.hid hgb
    clear hF hR hz hob hob' q1 q2 q3 q4 eg hgb hkm
    gi_wp2_with (refine wpListIn_store_mid rfl 48 (.tmp 15) (.tmp 14) rfl g (k * 9) (x.at_ A1 c1).cells.toArray rfl rfl TH.out (by kernel_rfl) (by simp [Nd.cells, Value.oneCell']) ?_)
    exact ⟨⟨GB.out.size, fun j hj hgj => GB.out.block j hj (fun e => by
      have e' := Option.some.inj e
      subst e'
      rcases hgj with h | h
      · exact h.2 rfl
      · have := HGB.out; have := NE.out; omega)⟩, FIN.out⟩
end Go.Proofs.YtfghfnpiaccfaaaGreatDoor.J
namespace Go.Proofs.YtfghfnpiaccfaaaGreatDoor.J
open Go Go.RowKit
set_option maxRecDepth 100000
/-- A grammar that lies in rows of the call's own. -/
structure Fresh (w : World) (B : Nat) (h : Gr) : Prop where
  rules : w.ownsRow B 50 2 (.slice h.RA h.rules.length h.rc) h.rules.length (rcells h.rules)
  nodes : w.ownsRow B 48 9 (.slice h.NA h.nodes.length h.nc) h.nodes.length (ncells h.nodes)
  kids : ∀ x ∈ h.nodes, w.ownsRow B 3 1 (.slice x.A x.kids.length x.cap) x.kids.length (ints x.kids) ∧ (x.A = none → x.cap = 0)
  rn : h.RA = none → h.rc = 0
  nn : h.NA = none → h.nc = 0
theorem Fresh.below {w w' : World} {B : Nat} {h : Gr} (f : Fresh w B h) (hb : Below w.heap.size w w') : Fresh w' B h :=
  ⟨own_below f.rules hb, own_below f.nodes hb, fun x hx => ⟨own_below (f.kids x hx).1 hb, (f.kids x hx).2⟩, f.rn, f.nn⟩
theorem Fresh.lies {w w' : World} {B : Nat} {g h : Gr} (f : Fresh w' B h) (t : GTwin g h) (hg : Gr.At w g) : Gr.At w' h :=
  t.lies hg (own_rules f.rules) (own_nodes f.nodes) (fun x hx => ⟨own_lies1 (f.kids x hx).1, (f.kids x hx).2⟩) f.rn f.nn
/-- What is wanted of a grammar that is to be copied. -/
structure Small (g : Gr) : Prop where
  rules : g.rules.length ≤ 1000000
  nodes : g.nodes.length ≤ 1000000
  kids : ∀ x ∈ g.nodes, x.kids.length ≤ 1000000 ∧ x.text.size ≤ 281474976710656
  names : ∀ r ∈ g.rules, r.name.size ≤ 281474976710656
theorem gcopy_done {w w4 : World} {B b : Nat} {RA NA : Option Addr} {rc nc m n : Nat} {xs : List Value} {cl : List Nd} (h1 : w4.ownsRow B 50 2 (.slice RA m rc) m xs) (h2 : w4.ownsRow B 48 9 (.slice NA n nc) n (ncells cl)) (h3 : ∀ x ∈ cl, Kid w4 B (.slice NA n nc) x)
    (hb : b < B) (kr : Blk w4 b #[.slice none 0 0, .slice none 0 0] 25) (hw : w.heap.size ≤ b) (h4 : Below w.heap.size w w4) (W5 : World) (eW : W5 = (w4.setCell ⟨b, 0, none⟩ (.slice RA m rc)).setCell ⟨b, 1, none⟩ (.slice NA n nc)) :
    Blk W5 b #[.slice RA m rc, .slice NA n nc] 25 ∧ W5.ownsRow B 50 2 (.slice RA m rc) m xs ∧ W5.ownsRow B 48 9 (.slice NA n nc) n (ncells cl) ∧ (∀ x ∈ cl, Kid W5 B (.slice NA n nc) x) ∧ Below w.heap.size w W5 := by
  have k1 : Blk (w4.setCell ⟨b, 0, none⟩ (.slice RA m rc)) b #[.slice RA m rc, .slice none 0 0] 25 := heap_setCell_same w4 b 0 #[.slice none 0 0, .slice none 0 0] 25 _ kr
  have k2 : Blk W5 b #[.slice RA m rc, .slice NA n nc] 25 := by rw [eW]; exact heap_setCell_same _ b 1 #[.slice RA m rc, .slice none 0 0] 25 _ k1
  have g : w4.grownBy W5 (some b) := by
    rw [eW]
    exact ⟨rfl, rfl, rfl, by simp, fun k hk hne => (heap_setCell_other _ ⟨b, 1, none⟩ k _ (fun e => hne (by rw [e]))).trans (heap_setCell_other w4 ⟨b, 0, none⟩ k _ (fun e => hne (by rw [e])))⟩
  exact ⟨k2, own_blk h1 hb g, own_blk h2 hb g, fun x hx => (h3 x hx).blk hb g, grown_below h4 h4.size g (fun k e => by cases e; exact hw)⟩
set_option maxRecDepth 100000 in
set_option maxHeartbeats 8000000 in
theorem gcopy_any (g : Gr) (w : World) (hg : Gr.At w g) (hs : Small g) :
    Calls Tryz.prog 122 #[g.val] w fun e w' => (∃ h : Gr, e = .returned h.val ∧ GTwin g h ∧ Fresh w' w.heap.size h) ∧ Below w.heap.size w w' := by
  have CR := Lib.hid (fun (w' : World) (b : Below w.heap.size w w') => gcopyRules_any g.RA g.rules g.rc hs.rules hg.rn hs.names w' (hg.below b).rules)
  have CNN := Lib.hid (fun (w' : World) (b : Below w.heap.size w w') => gcopyNodes_any g.NA g.nodes g.nc hs.nodes hg.nn w' (hg.below b).nodes (hg.below b).kids hs.kids)
  clear hg hs
  show Calls Tryz.prog 122 #[.agg #[.slice g.RA g.rules.length g.rc, .slice g.NA g.nodes.length g.nc]] w _
  go_enter Tryz.func122, Tryz.ntmps122
  go_upto_region 1 with fail
  obtain ⟨w2, ew2⟩ : ∃ u, u = (w.alloc (.cells #[.slice g.RA g.rules.length g.rc, .slice g.NA g.nodes.length g.nc] 25)).alloc (.cells #[.slice none 0 0, .slice none 0 0] 25) := ⟨_, rfl⟩
  obtain ⟨r, er⟩ : ∃ r, r = w.heap.size + 1 := ⟨_, rfl⟩
  obtain ⟨b, eb⟩ : ∃ r, r = w.heap.size := ⟨_, rfl⟩
  have hb2 : Below w.heap.size w w2 := by rw [ew2]; exact B2 _ _ _
  have hkb : Blk w2 b #[.slice g.RA g.rules.length g.rc, .slice g.NA g.nodes.length g.nc] 25 := by rw [ew2, eb]; exact (Blk.new _ _ _).alloc _
  have hkr : Blk w2 r #[.slice none 0 0, .slice none 0 0] 25 := by
    rw [ew2, er]; have := Blk.new (w.alloc (.cells #[.slice g.RA g.rules.length g.rc, .slice g.NA g.nodes.length g.nc] 25)) #[.slice none 0 0, .slice none 0 0] 25; rw [World.size_alloc] at this; exact this
  have hz : w2.heap.size = w.heap.size + 2 := by rw [ew2]; simp
  rw [← ew2, ← er, ← eb]
  have KB := Lib.hid hkb
  have KR := Lib.hid hkr
  have HB2 := Lib.hid hb2
  have NE := Lib.hid (And.intro er (And.intro eb hz))
  have a0 := hkb.cell 0
  have a1 := hkb.cell 1
  simp only [List.getElem?_toArray, List.getElem?_cons_zero, List.getElem?_cons_succ] at a0 a1
  clear ew2 er eb hb2 hkb hkr hz
  go_region_with (first | (go_at_call 178; refine (CR.out _ (by first | exact HB2.out | exact bdrew1 HB2.out | exact bdrew1 (bdrew1 HB2.out))).mono ?_; rintro e w3 ⟨A1, c1, rfl, ho, hnn, hb⟩; have KB3 := Lib.hid (Blk.below' (b := b) (vs := #[.slice g.RA g.rules.length g.rc, .slice g.NA g.nodes.length g.nc]) (T := 25) (h := by exact KB.out) hb); have KR3 := Lib.hid (Blk.below' (b := r) (vs := #[.slice none 0 0, .slice none 0 0]) (T := 25) (h := by exact KR.out) hb); have H3 := Lib.hid (show Below w.heap.size w w3 from by first | exact bb HB2.out hb | exact bb (bdrew1 HB2.out) hb | exact bb (bdrew1 (bdrew1 HB2.out)) hb); have HO := Lib.hid (own_lower (base' := r + 1) ho (by have := NE.out; first | (show r + 1 ≤ w2.heap.size; omega) | (simp; omega))); have HNN := Lib.hid hnn; have d0 := KB3.out.cell 0; have d1 := KB3.out.cell 1; simp only [List.getElem?_toArray, List.getElem?_cons_zero, List.getElem?_cons_succ] at d0 d1; clear ho hnn hb) | (go_at_call 179; refine (CNN.out _ (by first | exact H3.out | exact bdrew1 H3.out | exact bdrew1 (bdrew1 H3.out))).mono ?_; rintro e w4 ⟨A2, c2, rfl, cl, hcl, htw, hno, hki, hnn2, hb⟩; have HO4 := Lib.hid (show w4.ownsRow (r + 1) 50 2 _ _ _ from own_below (by exact HO.out) hb); have KR4 := Lib.hid (Blk.below' (b := r) (vs := #[.slice none 0 0, .slice none 0 0]) (T := 25) (h := by exact KR3.out) hb); have H4 := Lib.hid (show Below w.heap.size w w4 from by first | exact bb H3.out hb | exact bb (bdrew1 H3.out) hb | exact bb (bdrew1 (bdrew1 H3.out)) hb); have HCL := Lib.hid hcl; have HTW := Lib.hid htw; have R3 : r + 1 ≤ w3.heap.size := (by have := KR3.out.lt; omega); have HNO := Lib.hid (own_lower (base' := r + 1) hno R3); have HKI := Lib.hid (fun x hx => (show Kid w4 (r + 1) _ x from ⟨own_lower (hki x hx).1 R3, (hki x hx).2⟩)); have HNN2 := Lib.hid hnn2; have k0 := KR4.out.cell 0; have k1 := KR4.out.cell 1; have m0 := KR4.out.frozen 0; have m1 := KR4.out.frozen 1; simp only [List.getElem?_toArray, List.getElem?_cons_zero, List.getElem?_cons_succ] at k0 k1; clear hcl htw hno hki hnn2 hb d0 d1 R3))
  all_goals (
    generalize hW5 : (World.setCell _ _ _ : World) = W5
    have hr : w.heap.size ≤ r := by have := NE.out; omega
    obtain ⟨q1, q2, q3, q4, q5⟩ := gcopy_done HO4.out HNO.out HKI.out (Nat.lt_succ_self r) KR4.out hr H4.out W5 hW5.symm
    have hr2 : w.heap.size ≤ r + 1 := by omega
    have K5 := Lib.hid q1
    have T : RowKit.Hid (GTwin g ⟨A1, c1, g.rules, A2, c2, cl⟩) := Lib.hid ⟨rfl, HCL.out, HTW.out⟩
    have F : RowKit.Hid (Fresh W5 w.heap.size ⟨A1, c1, g.rules, A2, c2, cl⟩) := Lib.hid ⟨own_lower q2 hr2, by show W5.ownsRow w.heap.size 48 9 (.slice A2 cl.length c2) cl.length (ncells cl); rw [HCL.out]; exact own_lower q3 hr2, fun x hx => ⟨own_lower (q4 x hx).1 hr2, (q4 x hx).2.1⟩, HNN.out, HNN2.out⟩
    have H5 := Lib.hid q5
    clear hW5 q1 q2 q3 q4 q5 hr hr2 m0 m1 k0 k1 a0 a1
    go_wp2_with fail
    refine bodyPost_ret (results_cell_row rfl _ _ r 25 _ (0, 0) _ rfl K5.out Tryz.underlying25 rfl (by kernel_rfl)) rfl ⟨⟨⟨A1, c1, g.rules, A2, c2, cl⟩, ?_, T.out, F.out⟩, H5.out⟩
    show Ending.returned (.agg #[.slice A1 g.rules.length c1, .slice A2 g.nodes.length c2]) = .returned (.agg #[.slice A1 g.rules.length c1, .slice A2 cl.length c2])
    rw [HCL.out])
end Go.Proofs.YtfghfnpiaccfaaaGreatDoor.J
namespace Go.Proofs.YtfghfnpiaccfaaaGreatDoor.J
open Go Go.RowKit
set_option maxRecDepth 100000
set_option maxHeartbeats 400000 in
theorem pick_any (x n : Int) (hx : -9223372036854775808 ≤ x ∧ x < 9223372036854775808) (hn : 1 ≤ n ∧ n < 9223372036854775808) (w : World) :
    Calls Tryz.prog 24 #[.int .i64 x, .int .i64 n] w fun e w' => e = .returned (.int .i64 (x % n)) ∧ w = w' := by
  have h1 := Int.emod_nonneg x (show n ≠ 0 by omega)
  have h2 := Int.emod_lt_of_pos x (show 0 < n by omega)
  have ht := Int.tmod_eq_emod (a := x) (b := n)
  have hd0 : n ≠ 0 := by omega
  have hd1 : (n == 0) = false := by simpa using hd0
  obtain ⟨y, ey⟩ : ∃ y, y = x.tmod n := ⟨_, rfl⟩
  rw [← ey] at ht
  obtain ⟨z, ez⟩ : ∃ z, z = x % n := ⟨_, rfl⟩
  rw [← ez] at ht h1 h2 ⊢
  have hcase : (0 ≤ y ∧ y = z) ∨ (y < 0 ∧ y + n = z) := by
    split at ht
    · left; omega
    · right; omega
  have hy : x.tmod n = y := ey.symm
  have hn1 : ¬ n < 1 := by omega
  have hwy : IntKind.i64.wrap y = y := IntWalk.i64_in _ (by omega)
  clear ht ez ey hx
  rcases hcase with ⟨h3, rfl⟩ | ⟨h3, h4⟩
  · go_enter Tryz.func24, Tryz.ntmps24
    go_wp2_with fail
    go_ret
    exact ⟨rfl, rfl⟩
  · have hwz : IntKind.i64.wrap (y + n) = z := (IntWalk.i64_in _ (by omega)).trans h4
    clear h4
    go_enter Tryz.func24, Tryz.ntmps24
    go_wp2_with fail
    go_ret
    exact ⟨rfl, rfl⟩
end Go.Proofs.YtfghfnpiaccfaaaGreatDoor.J

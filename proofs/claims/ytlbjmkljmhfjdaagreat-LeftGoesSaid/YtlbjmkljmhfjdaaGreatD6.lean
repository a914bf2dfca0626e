/- gram's copies of nodes, one after the other, as a range-function. -/
import Derived.Test.YtlbjmkljmhfjdaaGreatD5
import Derived.Test.YtlbjmkljmhfjdaaGreatC2
import Derived.Test.YtlbjmkljmhfjdaaGreatA7
import Derived.Deep.CutRange
set_option linter.unusedSimpArgs false
set_option linter.unusedVariables false
namespace Go.Proofs.YtlbjmkljmhfjdaaGreat
open Go Go.RowKit Go.Shelf
attribute [local go_sem] Oper.semAt_some
/-- What is known of the k-th copy. -/
def CopyIs (B : Nat) (l : List Nd) (k : Nat) (x : Option Addr × Nat) (W : World) : Prop :=
  W.ownsRow B 3 1 (.slice x.1 (l.getD k Nd.zero).kids.length x.2) (l.getD k Nd.zero).kids.length (ints (l.getD k Nd.zero).kids) ∧ (x.1 = none → x.2 = 0)
theorem copy_done {wr w4 : World} {b5 D c1 : Nat} {x : Nd} {A1 : Option Addr} (h : Blk w4 b5 x.cells.toArray 40) (ho : w4.ownsRow D 3 1 (.slice A1 x.kids.length c1) x.kids.length (ints x.kids)) (hD : b5 < D) (h4 : Below wr.heap.size wr w4) (e : b5 = wr.heap.size) (W5 : World)
    (eW : W5 = (w4.setCell ⟨b5, 5, none⟩ (.string x.text)).setCell ⟨b5, 8, none⟩ (.slice A1 x.kids.length c1)) :
    Blk W5 b5 (x.at_ A1 c1).cells.toArray 40 ∧ W5.ownsRow wr.heap.size 3 1 (.slice A1 x.kids.length c1) x.kids.length (ints x.kids) ∧ Below wr.heap.size wr W5 := by
  have k1 : Blk (w4.setCell ⟨b5, 5, none⟩ (.string x.text)) b5 x.cells.toArray 40 := heap_setCell_same w4 b5 5 x.cells.toArray 40 (.string x.text) h
  have k2 : Blk W5 b5 (x.at_ A1 c1).cells.toArray 40 := by rw [eW]; exact heap_setCell_same _ b5 8 x.cells.toArray 40 (.slice A1 x.kids.length c1) k1
  have g : w4.grownBy W5 (some b5) := by
    rw [eW]
    exact ⟨rfl, rfl, rfl, by simp, fun k hk hne => (heap_setCell_other _ ⟨b5, 8, none⟩ k _ (fun e => hne (by rw [e]))).trans (heap_setCell_other w4 ⟨b5, 5, none⟩ k _ (fun e => hne (by rw [e])))⟩
  exact ⟨k2, own_lower (own_blk ho hD g) (by omega), grown_below h4 h4.size g (fun k e' => by cases e'; omega)⟩
theorem Nd.At.left {w w' : World} {G : Nat → Prop} {B : Nat} {x : Nd} (h : Nd.At w x) (hl : Left G B w w') (hg : ∀ b o, x.A = some ⟨b, o, none⟩ → 0 < x.kids.length → G b) : Nd.At w' x := by
  refine ⟨fun h0 => ?_, h.2⟩
  obtain ⟨b, o, e, hb, hc⟩ := h.1 h0
  exact ⟨b, o, e, Nat.lt_of_lt_of_le hb hl.size, fun i hi => (World.cell?_of_block (a := ⟨b, o + i, none⟩) (hl.block b hb (.inl (hg b o e (by rwa [ints_length] at h0))))).trans (hc i hi)⟩
set_option maxRecDepth 100000 in
set_option maxHeartbeats 8000000 in
theorem copies_in (n : Nat) (hn : 6 ≤ n) (l p q : Nat) (A : Option Addr) (c : Nat) (first : Nat) (a : List Nd) (ha : a.length ≤ 1000000) (hf : first ≤ 1000000) (hks : ∀ x ∈ a, x.kids.length ≤ 1000000 ∧ x.text.size ≤ 281474976710656) (G : Nat → Prop) (hp : G p) (hq : G q) (hG : ∀ b o, A = some ⟨b, o, none⟩ → 0 < a.length → G b) (hGk : ∀ x ∈ a, ∀ b o, x.A = some ⟨b, o, none⟩ → 0 < x.kids.length → G b) (J Jx : Nat → World → Prop) (hJ : Grw J) (hJx : Grw Jx)
    (B : Nat) (hY : ∀ k x W1, J k W1 → CopyIs B a k x W1 → B ≤ W1.heap.size → k < a.length → YieldAt Fence.wide (n - 1) Tryz.prog l #[.int .i64 ((first + k : Nat) : Int), ((a.getD k Nd.zero).at_ x.1 x.2).val] W1 fun e W' =>
      (e = .returned (.bool true) ∧ J (k + 1) W' ∧ Left G B W1 W') ∨ (e = .returned (.bool false) ∧ Jx (k + 1) W' ∧ Left (fun _ => False) B W1 W'))
    (W : World) (hB : B ≤ W.heap.size) (hbox : Blk W p #[.slice A a.length c] 23) (hbox2 : Blk W q #[.int .i64 (first : Int)] 3) (hx : Nodes W A a) (hk : ∀ x ∈ a, Nd.At W x) (h0 : J 0 W) :
    CallsIn Fence.wide n Tryz.prog 256 #[.func (.yield l) #[] #[], .pointer (some ⟨p, 0, none⟩), .pointer (some ⟨q, 0, none⟩)] W fun e W' => (∃ v, e = .returned v) ∧ (J a.length W' ∨ ∃ k, k ≤ a.length ∧ Jx k W') := by
  have HX := Lib.hid hx
  have HK := Lib.hid hk
  have HY := Lib.hid hY
  have H0 := Lib.hid h0
  have HGG := Lib.hid hG
  have HGK := Lib.hid hGk
  have HB := Lib.hid hbox
  have HB2 := Lib.hid hbox2
  have HSZ := Lib.hid hB
  have HKS := Lib.hid hks
  have HJ := Lib.hid hJ
  have HJX := Lib.hid hJx
  have c0 := hbox.cell 0
  have HP := Lib.hid hp
  have HQ := Lib.hid hq
  simp only [List.getElem?_toArray, List.getElem?_cons_zero] at c0
  obtain ⟨m, em⟩ : ∃ m, m = a.length := ⟨_, rfl⟩
  rw [← em] at HY HB c0 ha ⊢
  have EM := Lib.hid em
  clear hx hk hY h0 hG hGk hbox hbox2 hp hq hB em hks hJ hJx
  refine callsIn_of_wp Tryz.func256 rfl trivial ?_ rfl
  simp only [Tryz.ntmps256, List.size_toArray, List.length_cons, List.length_nil, Nat.reduceAdd, Nat.reduceSub, Array.replicate_succ, Array.replicate_zero, List.push_toArray, List.append_toArray, List.nil_append, List.cons_append]
  gi_wp2_with (fail)
  clear c0
  gi_loopw [8] (fun i wr => ∃ k : Nat, k ≤ m ∧ i = .int .i64 k ∧ J k wr ∧ Blk wr p #[.slice A m c] 23 ∧ Blk wr q #[.int .i64 (first : Int)] 3 ∧ Nodes wr A a ∧ (∀ x ∈ a, Nd.At wr x) ∧ B ≤ wr.heap.size)
    (fun i _ => m - (intOf i).toNat)
  case atStart => exact ⟨0, by omega, by go_num, H0.out, HB.out, HB2.out, HX.out, HK.out, HSZ.out⟩
  case round =>
    obtain ⟨k, hk, rfl, hJ, hbx, hbx2, hx, hka, hz⟩ := hrel
    by_cases hlt : k < m
    · have hlt2 : (k : Int) < m := by omega
      have hkl : k < a.length := by have := EM.out; omega
      have HYK := Lib.hid (fun x W1 h1 h2 h3 => HY.out k x W1 h1 h2 h3 hlt)
      obtain ⟨b1, o1, eA, _, n1, n2, n3, n4, n5, n6, n7, n8, n9⟩ := hx.nine hkl
      obtain ⟨s1, s2⟩ := HKS.out (a.getD k Nd.zero) (getD_mem hkl)
      have hat := hka (a.getD k Nd.zero) (getD_mem hkl)
      have HHJ := Lib.hid hJ
      have BX := Lib.hid hbx
      have BX2 := Lib.hid hbx2
      have HXX := Lib.hid hx
      have HKA := Lib.hid hka
      have HZ := Lib.hid hz
      unfold CopyIs at HYK
      generalize hxx : a.getD k Nd.zero = x at HYK n1 n2 n3 n4 n5 n6 n7 n8 n9 s1 s2 hat
      have HXE := Lib.hid hxx
      have EA := Lib.hid eA
      rw [eA]
      clear hJ hbx hbx2 hx hka hz hxx eA
      gi_wp2_with fail
      obtain ⟨w2, ew2⟩ : ∃ u, u = wr.alloc (.cells #[.int .i64 x.kind, .int .u64 x.c0, .int .u64 x.c1, .int .u64 x.c2, .int .u64 x.c3, .string x.text, .int .i64 x.rule, .int .i64 x.level, .slice x.A x.kids.length x.cap] 40) := ⟨_, rfl⟩
      obtain ⟨b5, eb5⟩ : ∃ u, u = wr.heap.size := ⟨_, rfl⟩
      rw [← ew2, ← eb5]
      have hk2 : Blk w2 b5 x.cells.toArray 40 := by rw [ew2, eb5]; exact Blk.new _ _ _
      have K2 := Lib.hid hk2
      have c5 := hk2.cell 5
      have f5 := hk2.frozen 5
      have c8 := hk2.cell 8
      have f8 := hk2.frozen 8
      simp only [Nd.cells, List.getElem?_toArray, List.getElem?_cons_zero, List.getElem?_cons_succ] at c5 c8
      have CS := Lib.hid (fun w => cloneStr_any x.text s2 w)
      have CK := Lib.hid (fun (W' : World) (b : Below wr.heap.size wr W') => cloneInts_any x.A x.kids x.cap s1 hat.2.1 W' (hat.below b).1)
      clear n1 n2 n3 n4 n5 n6 n7 n8 n9 hk2 s1 s2 hat
      have EB := Lib.hid eb5
      have HW2 : RowKit.Hid (Below wr.heap.size wr w2) := Lib.hid (by rw [ew2]; exact B1 _ _)
      clear ew2 eb5
      refine wpIn_wide.2 ?_
      go_region_with (first | (go_at_call 229; refine (CS.out _).mono ?_; rintro e w3 ⟨rfl, hb⟩; have K3 := Lib.hid (Blk.below' (b := b5) (vs := x.cells.toArray) (T := 40) (h := by exact K2.out) hb); have d5 := K3.out.cell 5; have g5 := K3.out.frozen 5; have d8 := K3.out.cell 8; have g8 := K3.out.frozen 8; simp only [Nd.cells, List.getElem?_toArray, List.getElem?_cons_zero, List.getElem?_cons_succ] at d5 d8; have H3 := Lib.hid (show Below wr.heap.size wr w3 from by first | exact bb HW2.out hb | exact bb (bdrew1 HW2.out) hb | exact bb (bdrew1 (bdrew1 HW2.out)) hb | exact bb (bdrew1 (bdrew1 (bdrew1 HW2.out))) hb); clear hb) | (go_at_call 257; first | (refine (CK.out _ (by first | exact H3.out | exact bdrew1 H3.out | exact bdrew1 (bdrew1 H3.out))).mono ?_; rintro e w4 ⟨A1, c1, rfl, ho, hnn, hb⟩; have K4 := Lib.hid (Blk.below' (b := b5) (vs := x.cells.toArray) (T := 40) (h := by exact K3.out) hb); have H4 := Lib.hid (show Below wr.heap.size wr w4 from by first | exact bb H3.out hb | exact bb (bdrew1 H3.out) hb | exact bb (bdrew1 (bdrew1 H3.out)) hb); have HO := Lib.hid ho; have HNN := Lib.hid hnn; have k5 := K4.out.cell 5; have m5 := K4.out.frozen 5; have k8 := K4.out.cell 8; have m8 := K4.out.frozen 8; simp only [Nd.cells, List.getElem?_toArray, List.getElem?_cons_zero, List.getElem?_cons_succ] at k5 k8; clear ho hnn hb d5 g5 d8 g8) | (refine (CK.out _ (by first | exact (H3.out.setCell (p := ⟨b5, 5, none⟩) (by rw [EB.out]; exact Nat.le_refl _) _) | exact bdrew1 (H3.out.setCell (p := ⟨b5, 5, none⟩) (by rw [EB.out]; exact Nat.le_refl _) _))).mono ?_; rintro e w4 ⟨A1, c1, rfl, ho, hnn, hb⟩; fail)))
      all_goals (
        have HOB := Lib.hid (own_lower (base' := b5 + 1) HO.out (by have := K3.out.lt; first | exact this | (simp; omega)))
        generalize hW5 : (World.setCell _ _ _ : World) = W5
        obtain ⟨q1, q2, q3⟩ := copy_done K4.out HOB.out (by omega) H4.out EB.out W5 hW5.symm
        have K5 := Lib.hid q1
        have Q2 := Lib.hid q2
        have H5 := Lib.hid q3
        have e0 := q1.cell 0; have e1 := q1.cell 1; have e2 := q1.cell 2; have e3 := q1.cell 3; have e4 := q1.cell 4; have e5 := q1.cell 5; have e6 := q1.cell 6; have e7 := q1.cell 7; have e8 := q1.cell 8
        simp only [Nd.cells, List.getElem?_toArray, List.getElem?_cons_zero, List.getElem?_cons_succ] at e0 e1 e2 e3 e4 e5 e6 e7 e8
        have cq := (BX2.out.below' q3).cell 0
        simp only [List.getElem?_toArray, List.getElem?_cons_zero] at cq
        have h5 := HYK.out (A1, c1) W5 (HJ.out k _ _ HHJ.out q3) ⟨own_lower q2 HZ.out, HNN.out⟩ (Nat.le_trans HZ.out q3.size)
        have hwf : IntKind.i64.wrap ((first : Int) + k) = ((first + k : Nat) : Int) := (IntWalk.i64_in _ (by omega)).trans (by omega)
        obtain ⟨fk, efk⟩ : ∃ fk : Nat, fk = first + k := ⟨_, rfl⟩
        rw [← efk] at h5 hwf
        obtain ⟨fn, tmps, assign, body, hy, hR⟩ := h5
        have HR := Lib.hid hR
        clear hW5 q1 q2 q3 hR k5 m5 k8 m8 c5 f5 c8 f8
        clear efk
        dsimp only [Nd.at_, Nd.val] at hy
        gi_wp2_with fail
        refine ⟨fun _ => by omega, HR.out.mono ?_⟩
        clear hy e0 e1 e2 e3 e4 e5 e6 e7 e8 cq hwf
        rintro e W3 (⟨rfl, hJ3, hl3⟩ | ⟨rfl, hJx3, hz3⟩)
        · have B3 := Lib.hid ((hl3.block p (BX.out.below' H5.out).lt (.inl HP.out)).trans (BX.out.below' H5.out))
          have B4 := Lib.hid ((hl3.block q (BX2.out.below' H5.out).lt (.inl HQ.out)).trans (BX2.out.below' H5.out))
          have HX3 := Lib.hid ((HXX.out.below H5.out).left hl3 HGG.out)
          have HK3 := Lib.hid (fun y (hy : y ∈ a) => ((HKA.out y hy).below H5.out).left hl3 (HGK.out y hy))
          have HJ3 := Lib.hid hJ3
          have HZ3 : RowKit.Hid (B ≤ W3.heap.size) := Lib.hid (Nat.le_trans (Nat.le_trans HZ.out H5.out.size) hl3.size)
          clear hJ3 hl3
          gi_wp2_with fail
          go_roundw
          case rel => exact ⟨k + 1, by omega, by go_num, HJ3.out, by rw [← EA.out]; exact B3.out, B4.out, by rw [← EA.out]; exact HX3.out, HK3.out, HZ3.out⟩
          case measure => simp [intOf]; omega
        · have HJ3 := Lib.hid hJx3
          clear hJx3 hz3
          gi_wp2_with fail
          refine bodyPost_ret (results_none rfl _ _ _) rfl ?_
          exact ⟨⟨_, rfl⟩, .inr ⟨k + 1, by omega, HJ3.out⟩⟩)
    · obtain rfl : k = m := by omega
      have HJ3 := Lib.hid hJ
      have hneg : ¬ (k : Int) < k := by omega
      clear hJ hbx hx hka hbx2 hz
      gi_wp2_with fail
      go_end0
      exact ⟨⟨_, rfl⟩, .inl HJ3.out⟩
theorem copies_seq (n : Nat) (hn : 6 ≤ n) (p q : Nat) (A : Option Addr) (c first : Nat) (a : List Nd) (ha : a.length ≤ 1000000) (hf : first ≤ 1000000) (hks : ∀ x ∈ a, x.kids.length ≤ 1000000 ∧ x.text.size ≤ 281474976710656) (G : Nat → Prop) (hp : G p) (hq : G q) (hG : ∀ b o, A = some ⟨b, o, none⟩ → 0 < a.length → G b) (hGk : ∀ x ∈ a, ∀ b o, x.A = some ⟨b, o, none⟩ → 0 < x.kids.length → G b)
    (w : World) (hbox : Blk w p #[.slice A a.length c] 23) (hbox2 : Blk w q #[.int .i64 (first : Int)] 3) (hx : Nodes w A a) (hk : ∀ x ∈ a, Nd.At w x) :
    SeqE n Tryz.prog 256 #[.pointer (some ⟨p, 0, none⟩), .pointer (some ⟨q, 0, none⟩)] (fun k x => #[.int .i64 ((first + k : Nat) : Int), ((a.getD k Nd.zero).at_ x.1 x.2).val]) (CopyIs w.heap.size a) a.length G w :=
  fun l J Jx W hW hJ hJx hY h0 => copies_in n hn l p q A c first a ha hf hks G hp hq hG hGk J Jx hJ hJx W.heap.size (fun k x W1 h1 h2 h3 h4 => hY k x W1 h1 ⟨own_lower h2.1 hW.size, h2.2⟩ h3 h4) W (Nat.le_refl _) (hbox.below' hW) (hbox2.below' hW) (hx.below hW) (fun x hx => (hk x hx).below hW) h0
theorem copies_any (A : Option Addr) (m c : Nat) (first : Int) (w : World) : Calls Tryz.prog 231 #[.slice A m c, .int .i64 first] w fun e w' => e = .returned (.func (.func 256) #[] #[.pointer (some ⟨w.heap.size, 0, none⟩), .pointer (some ⟨w.heap.size + 1, 0, none⟩)]) ∧ w' = (w.alloc (.cells #[.slice A m c] 23)).alloc (.cells #[.int .i64 first] 3) := by
  go_enter Tryz.func231, Tryz.ntmps231
  go_wp2_with fail
  go_ret
  exact ⟨rfl, rfl⟩
end Go.Proofs.YtlbjmkljmhfjdaaGreat

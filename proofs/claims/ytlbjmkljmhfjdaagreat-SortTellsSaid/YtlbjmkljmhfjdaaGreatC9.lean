/- The rounds, as a range-function. -/
import Derived.Test.YtlbjmkljmhfjdaaGreatC7
import Derived.LoopNIn
import Derived.LoopIn
import Derived.Shelf.Abstract
import Derived.Shelf.RegionOpen
import Derived.Deep.CutRange
import Derived.Test.YtlbjmkljmhfjdaaGreatC8
import Derived.KernelRfl
import Derived.Test.YtlbjmkljmhfjdaaGreatB6
set_option linter.unusedSimpArgs false
set_option linter.unusedVariables false
namespace Go.Proofs.YtlbjmkljmhfjdaaGreat
open Go Go.RowKit Go.Maps Go.Shelf
attribute [local go_sem] Oper.semAt_some
/-- What is known of a round's rules, as they are handed out: they lie apart from the ranks. -/
def RndR (g : Gr) (rb : Nat) (k : Nat) (x : Option Addr × Nat) (W : World) : Prop := Lies W x.1 (ints (nums (com g k))) ∧ ∀ b o, x.1 = some ⟨b, o, none⟩ → b ≠ rb
/-- What the rounds stand on. -/
def RndS (g : Gr) (bx p mb rb : Nat) (k : Nat) (W : World) : Prop := Blk W bx #[.pointer (some ⟨p, 0, none⟩)] 219 ∧ Wrk W p g mb rb (rk g k)
def RndE (g : Gr) (k : Nat) (x : Option Addr × Nat) : Array Value := #[.int .i64 ((k : Int) + 1), .slice x.1 (com g k).length x.2]
theorem com_row (g : Gr) (k : Nat) : rowOf' g.rules.length (comB g (rk g k)) = com g k := rfl
theorem row_lies {w w' : World} {L : List Nat} {e : Ending} (h : Row w L e w') : ∃ A c, e = .returned (.slice A L.length c) ∧ Lies w' A (ints (nums L)) ∧ (∀ b o, A = some ⟨b, o, none⟩ → w.heap.size ≤ b) ∧ Below w.heap.size w w' := by
  obtain ⟨⟨v, rfl, ho, hn⟩, hb⟩ := h
  obtain ⟨A, c, rfl, _, _⟩ := own_slice ho
  refine ⟨A, c, rfl, ?_, ?_, hb⟩
  · have e : L.length = (ints (nums L)).length := by rw [ints_length, nums_len]
    rw [e] at ho
    exact own_lies ho
  · intro b o e
    rcases ho.2 with ⟨h, _⟩ | ⟨g, cap, cur, h, hbg, _⟩
    · simp only [Value.slice.injEq] at h; rw [h.1] at e; cases e
    · simp only [Value.slice.injEq] at h; rw [h.1] at e; cases e; exact hbg
set_option maxRecDepth 100000 in
set_option maxHeartbeats 4000000 in
theorem rounds_in (n : Nat) (hn : 1 ≤ n) (l bx p mb rb : Nat) (g : Gr) (hin : Gr.In g) (hR : Right g) (N : Nat) (hN : com g N = []) (hNk : ∀ k, k < N → com g k ≠ []) (hNl : N ≤ 32) (J : Nat → World → Prop) (B : Nat)
    (hlo : rb < B) (hJ : ∀ (s : Nat) (A A' : World), J s A → Below B A A' → J s A') (hS : ∀ k W1, J k W1 → RndS g bx p mb rb k W1)
    (hY : ∀ k x W1, J k W1 → RndR g rb k x W1 → B ≤ W1.heap.size → k < N → YieldAt Fence.wide (n - 1) Tryz.prog l (RndE g k x) W1 fun e W' =>
      e = .returned (.bool true) ∧ J (k + 1) W' ∧ Left (fun _ => False) B W1 W')
    (W : World) (hB : B ≤ W.heap.size) (h0 : J 0 W) :
    CallsIn Fence.wide n Tryz.prog 270 #[.func (.yield l) #[] #[], .pointer (some ⟨bx, 0, none⟩)] W fun e W' => (∃ v, e = .returned v) ∧ J N W' := by
  have HY := Lib.hid hY
  have H0 := Lib.hid h0
  have HS := Lib.hid hS
  have HJ := Lib.hid hJ
  have HSZ := Lib.hid hB
  have HC := Lib.hid (fun k W1 (h : J k W1) => (hS k W1 h).1)
  have CM := Lib.hid (fun k W1 (h : J k W1) => com_row g k ▸ coming_any hin hR W1 (hS k W1 h).2)
  have HN := Lib.hid hN
  have HNk := Lib.hid hNk
  have HRB := Lib.hid hlo
  have c32 := Lib.hid (fun k => show (com g k).length ≤ 32 from Nat.le_trans (rowOf_len _ _) hR.rules.2)
  clear hY h0 hS hB hJ hN hNk hin hR hlo
  refine callsIn_of_wp Tryz.func270 rfl trivial ?_ rfl
  simp only [Tryz.ntmps270, List.size_toArray, List.length_cons, List.length_nil, Nat.reduceAdd, Nat.reduceSub, Array.replicate_succ, Array.replicate_zero, List.push_toArray, List.append_toArray, List.nil_append, List.cons_append]
  gi_wp2_with (fail)
  gi_loopw [3] (fun i wr => ∃ k : Nat, k ≤ N ∧ i = .int .i64 ((k : Int) + 1) ∧ J k wr ∧ B ≤ wr.heap.size)
    (fun i _ => N + 1 - (RowKit.intOf i).toNat)
  case atStart => exact ⟨0, by omega, by go_num, H0.out, HSZ.out⟩
  case round =>
    obtain ⟨k, hk, rfl, hJ, hz⟩ := hrel
    have c0 := (HC.out k wr hJ).cell 0
    simp only [List.getElem?_toArray, List.getElem?_cons_zero] at c0
    have C := Lib.hid (CM.out k wr hJ)
    have HJW := Lib.hid hJ
    have HZ := Lib.hid hz
    have L32 := c32.out k
    by_cases hlt : k < N
    · have hne := HNk.out k hlt
      have HYK := Lib.hid (fun x W1 h1 h2 h3 => HY.out k x W1 h1 h2 h3 hlt)
      unfold RndE at HYK
      unfold RndR at HYK
      generalize com g k = L at C L32 hne HYK
      obtain ⟨m, em⟩ : ∃ m, m = L.length := ⟨_, rfl⟩
      rw [← em] at L32
      have hm : 0 < m := by have := List.length_pos_iff.2 hne; omega
      have hm0 : ¬ m = 0 := by omega
      have hm1 : ¬ (m : Int) = 0 := by omega
      have hb0 : ((m : Int) == 0) = false := by simpa using hm1
      have EM := Lib.hid em
      clear hJ hz hne em
      have C2 : RowKit.Hid (Calls Tryz.prog 271 #[.pointer (some ⟨p, 0, none⟩)] wr fun e w1 => ∃ A c, e = .returned (.slice A m c) ∧ Below wr.heap.size wr w1 ∧ YieldAt Fence.wide (n - 1) Tryz.prog l #[.int .i64 ((k : Int) + 1), .slice A m c] w1 fun e W' => e = .returned (.bool true) ∧ J (k + 1) W' ∧ Left (fun _ => False) B w1 W') := Lib.hid (C.out.mono fun e w1 h => by
        obtain ⟨A, c, e1, h1, h2, h3⟩ := row_lies h
        have hrb : rb < wr.heap.size := Nat.lt_of_lt_of_le HRB.out HZ.out
        have := HYK.out (A, c) w1 (HJ.out _ _ _ HJW.out (h3.mono HZ.out)) ⟨h1, fun b o e hb => by have := h2 b o e; omega⟩ (Nat.le_trans HZ.out h3.size)
        rw [← EM.out] at e1 this
        exact ⟨A, c, e1, h3, this⟩)
      clear C HYK
      gi_wp2_with fail
      refine ⟨trivial, ?_⟩
      gi_at_call 271
      with_reducible refine CallsIn.mono (callsIn_wide.2 C2.out) ?_
      rintro e w1 ⟨A1, c1, rfl, hb, hy0⟩
      have HB1 := Lib.hid hb
      obtain ⟨fn, tmps, assign, body, hy, hR⟩ := hy0
      have HR := Lib.hid hR
      clear hb hR
      gi_wp2_with fail
      refine HR.out.mono ?_
      rintro e W3 ⟨rfl, hJ3, hl3⟩
      have HJ3 := Lib.hid hJ3
      have HZ3 : RowKit.Hid (B ≤ W3.heap.size) := Lib.hid (Nat.le_trans (Nat.le_trans HZ.out HB1.out.size) hl3.size)
      clear hJ3 hl3 hy
      gi_wp2_with fail
      go_roundw
      case rel => exact ⟨k + 1, by omega, by go_num, HJ3.out, HZ3.out⟩
      case measure => simp [RowKit.intOf]; try omega
    · obtain rfl : k = N := by omega
      have C2 : RowKit.Hid (Calls Tryz.prog 271 #[.pointer (some ⟨p, 0, none⟩)] wr fun e w1 => e = .returned (.slice none 0 0) ∧ Below wr.heap.size wr w1) := Lib.hid (C.out.mono fun e w1 h => by
        obtain ⟨⟨v, e1, _, hn⟩, hb⟩ := h
        exact ⟨by rw [e1, hn.2 HN.out], hb⟩)
      clear hJ hz C
      gi_wp2_with fail
      refine ⟨trivial, ?_⟩
      gi_at_call 271
      with_reducible refine CallsIn.mono (callsIn_wide.2 C2.out) ?_
      rintro e w1 ⟨rfl, hb⟩
      have HB1 := Lib.hid hb
      clear hb
      gi_wp2_with fail
      refine ⟨(fun f h => nomatch h), ?_⟩
      gi_wp2_with fail
      refine bodyPost_ret (results_none rfl _ _ _) rfl ?_
      exact ⟨⟨_, rfl⟩, HJ.out _ _ _ HJW.out (HB1.out.mono HZ.out)⟩
theorem rounds_seq (n : Nat) (hn : 1 ≤ n) (bx p mb rb : Nat) (g : Gr) (hin : Gr.In g) (hR : Right g) (N : Nat) (hN : com g N = []) (hNk : ∀ k, k < N → com g k ≠ []) (hNl : N ≤ 32) (w : World) (hlo : rb < w.heap.size) :
    SeqW n Tryz.prog 270 #[.pointer (some ⟨bx, 0, none⟩)] (RndE g) (RndR g rb) (RndS g bx p mb rb) N w :=
  fun l J W hW hJ hS hY h0 => rounds_in n hn l bx p mb rb g hin hR N hN hNk hNl J W.heap.size (Nat.lt_of_lt_of_le hlo hW.size) (fun s A A' h hb => hJ s A A' h hb) hS hY W (Nat.le_refl _) h0
theorem rounds_any (p : Nat) (w : World) : Calls Tryz.prog 241 #[.pointer (some ⟨p, 0, none⟩)] w fun e w' => e = .returned (.func (.func 270) #[] #[.pointer (some ⟨w.heap.size, 0, none⟩)]) ∧ w' = w.alloc (.cells #[.pointer (some ⟨p, 0, none⟩)] 219) := by
  go_enter Tryz.func241, Tryz.ntmps241
  go_wp2_with fail
  go_ret
  exact ⟨rfl, rfl⟩
end Go.Proofs.YtlbjmkljmhfjdaaGreat
namespace Go.Proofs.YtlbjmkljmhfjdaaGreat
open Go Go.RowKit Go.Maps Go.Shelf
attribute [local go_sem] Oper.semAt_some
theorem AtWork.keep {w A A' : World} {g : Gr} {q p mb rb B : Nat} {r : List Int} (hg : Gr.At w g) (h : AtWork w A g q p mb rb r) (hb : Below B A A') (hq : q < B) (hp : p < B) (hm : mb < B) (hr : rb < B) (hB : w.heap.size ≤ B) : AtWork w A' g q p mb rb r := by
  have hl : Below w.heap.size w A' := h.below.trans (hb.mono hB)
  exact ⟨h.box.below hb hq, ⟨h.wrk.box.below hb hp, hg.below hl, h.wrk.laws.kept (hb.block mb hm), h.wrk.row.below hb hr, h.wrk.len⟩, hl, h.new⟩
/-- The ranks while a round's rules are given theirs: so many have it. -/
structure MidR (w W wr : World) (g : Gr) (rb k j : Nat) (rj : List Int) : Prop where
  row : Blk wr rb (ints rj).toArray 3
  len : rj.length = g.rules.length
  val : ∀ i, rj.getD i 0 = if i ∈ (com g k).take j then (k : Int) + 1 else (rk g k).getD i 0
  size : wr.heap.size = W.heap.size
  other : ∀ b, b ≠ rb → wr.heap[b]? = W.heap[b]?
  below : Below w.heap.size w wr
theorem MidR.start {w W : World} {g : Gr} {q p mb rb k : Nat} (h : AtWork w W g q p mb rb (rk g k)) : MidR w W W g rb k 0 (rk g k) :=
  ⟨h.wrk.row, h.wrk.len, fun i => by simp, rfl, fun _ _ => rfl, h.below⟩
theorem MidR.step {w W wr : World} {g : Gr} {rb k j : Nat} {rj : List Int} (h : MidR w W wr g rb k j rj) (hj : j < (com g k).length) (hrb : w.heap.size ≤ rb) :
    MidR w W (wr.setCell ⟨rb, (com g k).getD j 0, none⟩ (.int .i64 ((k : Int) + 1))) g rb k (j + 1) (rj.set ((com g k).getD j 0) ((k : Int) + 1)) := by
  have hm : (com g k).getD j 0 ∈ com g k := by simp [List.getD, List.getElem?_eq_getElem hj]
  have he : (com g k).getD j 0 < g.rules.length := (rowOf_mem.1 hm).1
  refine ⟨?_, by rw [List.length_set]; exact h.len, fun i => ?_, by rw [← h.size]; simp [World.setCell], fun b hb => (Below.heap_setCell _ _ _ b hb).trans (h.other b hb), h.below.setCell hrb _⟩
  · have := heap_setCell_same wr rb ((com g k).getD j 0) (ints rj).toArray 3 (.int .i64 ((k : Int) + 1)) h.row
    have e : (ints (rj.set ((com g k).getD j 0) ((k : Int) + 1))).toArray = (ints rj).toArray.setIfInBounds ((com g k).getD j 0) (.int .i64 ((k : Int) + 1)) := by
      simp [ints, List.map_set]
    unfold Blk
    rw [e]
    exact this
  · have ht : (com g k).take (j + 1) = (com g k).take j ++ [(com g k).getD j 0] := by
      rw [List.take_add_one]
      simp [List.getD, List.getElem?_eq_getElem hj]
    rw [ht]
    generalize (com g k).getD j 0 = e0 at he ⊢
    by_cases e : i = e0
    · subst e
      rw [if_pos (by simp)]
      simp only [List.getD] at he ⊢
      rw [List.getElem?_set]
      rw [h.len]
      simp [he]
    · have : (rj.set e0 ((k : Int) + 1)).getD i 0 = rj.getD i 0 := by
        simp only [List.getD]
        rw [List.getElem?_set_ne (fun h => e h.symm)]
      rw [this, h.val i]
      simp [e]
theorem MidR.done {w W wr : World} {g : Gr} {q p mb rb k : Nat} {rj : List Int} (hg : Gr.At w g) (h : MidR w W wr g rb k (com g k).length rj) (ha : AtWork w W g q p mb rb (rk g k)) : AtWork w wr g q p mb rb (rk g (k + 1)) := by
  have e : rj = rk g (k + 1) := by
    apply List.ext_getElem?
    intro i
    by_cases hi : i < g.rules.length
    · have h1 := h.val i
      rw [List.take_length] at h1
      have h2 := rk_next g k i hi
      have hmem : i ∈ com g k ↔ comB g (rk g k) i = true := by
        have := rowOf_mem (n := g.rules.length) (p := comB g (rk g k)) (i := i)
        exact this.trans ⟨fun h => h.2, fun h => ⟨hi, h⟩⟩
      have : rj.getD i 0 = (rk g (k + 1)).getD i 0 := by
        rw [h1, h2]
        by_cases hc : comB g (rk g k) i = true
        · rw [if_pos (hmem.2 hc), if_pos hc]
        · rw [if_neg (fun h => hc (hmem.1 h)), if_neg hc]
      rw [List.getElem?_eq_getElem (by rw [h.len]; exact hi), List.getElem?_eq_getElem (by rw [rk_length]; exact hi)]
      simp only [List.getD, List.getElem?_eq_getElem (show i < rj.length by rw [h.len]; exact hi), List.getElem?_eq_getElem (show i < (rk g (k + 1)).length by rw [rk_length]; exact hi), Option.getD_some] at this
      rw [this]
    · rw [List.getElem?_eq_none (by rw [h.len]; omega), List.getElem?_eq_none (by rw [rk_length]; omega)]
  have hne : ∀ {b : Nat} {vs : Array Value} {T : TypeId}, Blk W b vs T → T ≠ 3 → b ≠ rb := fun hb hT e => by
    subst e
    have := hb.symm.trans ha.wrk.row
    simp only [Option.some.injEq, Obj.cells.injEq] at this
    exact hT this.2.1
  have hml : mb ≠ rb := fun e => by
    obtain ⟨es, clock, h1, _⟩ := ha.wrk.laws
    rw [e] at h1
    have := h1.symm.trans ha.wrk.row
    cases this
  exact ⟨(h.other q (hne ha.box (by decide))).trans ha.box, ⟨(h.other p (hne ha.wrk.box (by decide))).trans ha.wrk.box, hg.below h.below, ha.wrk.laws.kept (h.other mb hml), by rw [← e]; exact h.row, rk_length g (k + 1)⟩, h.below, ha.new⟩
theorem atWork_of {w w1 wx : World} {g : Gr} {v : Value} (hg : Gr.At w g) (h1 : Below w.heap.size w w1) (h2 : Below w1.heap.size w1 wx) (h : wkT w1.heap.size g v wx) : ∃ q p mb rb, v = .pointer (some ⟨q, 0, none⟩) ∧ AtWork w wx g q p mb rb (rk g 0) := by
  obtain ⟨q, p, mb, rb, e, ⟨a1, a2⟩, ⟨b1, b2⟩, ⟨c1, c2⟩, d1, d2⟩ := h
  have := h1.size
  exact ⟨q, p, mb, rb, e, a2, ⟨b2, hg.below (h1.trans (h2.mono h1.size)), c2, d2, rk_length g 0⟩, h1.trans (h2.mono h1.size), by omega, by omega, by omega, by omega⟩
set_option maxRecDepth 100000 in
set_option maxHeartbeats 4000000 in
theorem workOf_any (g : Gr) (w : World) (hg : Gr.At w g) (hin : Gr.In g) (hR : Right g) : Calls Tryz.prog 203 #[g.val] w fun e w' => ∃ p mb rb, e = .returned (.tuple #[.pointer (some ⟨p, 0, none⟩), .bool true]) ∧ Wrk w' p g mb rb (ranks g) ∧ Below w.heap.size w w' := by
  obtain ⟨i0, hi, hz0, hz1, hz2⟩ := info_parts Tryz.info3
  have RA := Lib.hid (fun (w' : World) (b : Below w.heap.size w w') => by have := right_all g w' (hg.below b) hin; rw [rightB_true.2 hR] at this; exact this)
  have HG := Lib.hid hg
  have HR := Lib.hid hR
  have HIN := Lib.hid hin
  have h32 := hR.rules.2
  obtain ⟨m, em⟩ : ∃ m, m = g.rules.length := ⟨_, rfl⟩
  have EM := Lib.hid em
  rw [← em] at h32
  have RA2 : RowKit.Hid (∀ (w' : World), Below w.heap.size w w' → Calls Tryz.prog 138 #[.agg #[.slice g.RA m g.rc, .slice g.NA g.nodes.length g.nc]] w' fun e w'' => e = .returned (.bool true) ∧ Below w'.heap.size w' w'') := Lib.hid (by rw [em]; exact RA.out)
  show Calls Tryz.prog 203 #[.agg #[.slice g.RA g.rules.length g.rc, .slice g.NA g.nodes.length g.nc]] w _
  rw [← em]
  clear hg hR hin RA em
  refine (callsIn_wide (n := 12)).1 ?_
  refine callsIn_of_wp_marks Tryz.func203 rfl trivial ?_ rfl
  simp only [Tryz.ntmps203, List.size_toArray, List.length_cons, List.length_nil, Nat.reduceAdd, Nat.reduceSub, Array.replicate_succ, Array.replicate_zero, List.push_toArray, List.append_toArray, List.nil_append, List.cons_append]
  refine wpIn_wide.2 ?_
  go_upto_region 3 with (go_at_call 138; with_reducible refine (RA2.out _ (B1 _ _)).mono ?_; rintro e w1 ⟨rfl, hb⟩; have KB := Lib.hid ((Blk.new w #[.slice g.RA m g.rc, .slice g.NA g.nodes.length g.nc] 25).below' hb); have H1 := Lib.hid (bb (B1 w _) hb); clear hb)
  have k0 := KB.out.cell 0
  have k1 := KB.out.cell 1
  simp only [List.getElem?_toArray, List.getElem?_cons_zero, List.getElem?_cons_succ] at k0 k1
  go_cut [4] from 9 to 38 (fun s4 wx => ∃ q p mb rb, s4 = .pointer (some ⟨q, 0, none⟩) ∧ AtWork w wx g q p mb rb (rk g 0))
  case first =>
    have EM2 := EM.out
    have RK := Lib.hid (rk0_ints g)
    have enL : ∀ args w, (callFunc 240 args).run Tryz.prog w = .ok (.enter 240 args) w := fun _ _ => by kernel_rfl
    refine wp_region_store_puts (by kernel_rfl) (wkF w1.heap.size g w.heap.size) w1.heap.size Trn 9 8 4 (wkT w1.heap.size g) (by kernel_rfl) (by kernel_rfl) (by kernel_rfl) (by decide) (by kernel_rfl) (by kernel_rfl) (wkF_mono _ _ _) (fun _ _ => Trn.below) (wkT_mono _ _) (fun _ _ => trivial) rfl ⟨?g0, ?g1, ?g2, ?g3, ?g4, ?g5, ?g6, ?g7, ?g8, ?g9, trivial⟩ ?hst ?hend
    case g0 =>
      intro _ a W hS hun hd
      have h1 : a.eval (.tmp 1) = .pointer (some ⟨w.heap.size, 0, none⟩) := hun 1 (by kernel_rfl)
      exact f_load2 rfl h1 ((hS.cell (p := ⟨_, _, none⟩) (World.block_lt_of_cell? _ _ k0)).trans k0) ((hS.cell (p := ⟨_, _, none⟩) (World.block_lt_of_cell? _ _ k1)).trans k1) (by show _ = _; rw [EM2])
    case g1 =>
      intro _ a W hS hun hd
      exact f_call rfl enL ((laws_any W).mono fun e w' ⟨h1, h2, h3⟩ => ⟨_, h1, h3, _, rfl, hS.size, h2⟩)
    case g2 =>
      intro _ a W hS hun hd
      exact f_field rfl (hun 1 (by kernel_rfl)) rfl
    case g3 =>
      intro _ a W hS hun hd
      have h1 : a.eval (.tmp 14) = .pointer (some ⟨w.heap.size, 0, none⟩) := hd ⟨2, .data⟩ (by simp) rfl _ 14 rfl rfl
      exact f_load1 rfl h1 ((hS.cell (p := ⟨_, _, none⟩) (World.block_lt_of_cell? _ _ k0)).trans k0) (by show _ = _; rw [EM2])
    case g4 =>
      intro _ a W hS hun hd
      have h1 : a.eval (.tmp 15) = .slice g.RA g.rules.length g.rc := hd ⟨3, .data⟩ (by simp) rfl _ 15 rfl rfl
      exact f_len rfl h1 rfl
    case g5 =>
      intro _ a W hS hun hd
      have h1 : a.eval (.tmp 16) = .int .i64 (g.rules.length : Nat) := hd ⟨4, .data⟩ (by simp) rfl _ 16 rfl rfl
      exact f_make rfl h1 (by omega) ⟨_, rfl, hS.size, by rw [RK.out]; exact Blk.new _ _ _⟩
    case g6 =>
      intro _ a W hS hun hd
      have h1 : a.eval (.tmp 12) = g.val := hd ⟨0, .data⟩ (by simp) rfl _ 12 rfl rfl
      obtain ⟨mb, h2, h3⟩ : ∃ b, a.eval (.tmp 13) = .map (some b) ∧ w1.heap.size ≤ b ∧ Laws W b := hd ⟨1, .data⟩ (by simp) rfl _ 13 rfl rfl
      obtain ⟨rb, h4, h5⟩ : ∃ b, a.eval (.tmp 17) = .slice (some ⟨b, 0, none⟩) g.rules.length g.rules.length ∧ w1.heap.size ≤ b ∧ Blk W b (ints (rk g 0)).toArray 3 := hd ⟨5, .data⟩ (by simp) rfl _ 17 rfl rfl
      exact f_build rfl h1 h2 h4 ⟨mb, rb, rfl, h3, h5⟩
    case g7 =>
      intro _ a W hS hun hd
      obtain ⟨mb, rb, h1, ⟨h2, h3⟩, h4, h5⟩ : wkF w1.heap.size g w.heap.size 6 (a.eval (.tmp 18)) W := hd ⟨6, .data⟩ (by simp) rfl _ 18 rfl rfl
      exact f_box rfl h1 ⟨_, mb, rb, rfl, ⟨hS.size, Blk.new _ _ _⟩, ⟨h2, h3.below (B1 _ _)⟩, h4, h5.alloc _⟩
    case g8 =>
      intro _ a W hS hun hd
      exact f_alloc rfl ⟨_, rfl, hS.size, _, Blk.new _ _ _⟩
    case g9 =>
      intro h
      exact (h rfl).elim
    case hst =>
      intro o ho a W hS hun hd
      obtain rfl := Option.some.inj ho
      obtain ⟨q, h1, h2, v0, h3⟩ : wkF w1.heap.size g w.heap.size 8 (a.eval (.tmp 4)) W := hd ⟨8, .data⟩ (by simp) rfl _ 4 rfl rfl
      obtain ⟨p, mb, rb, h4, ⟨h5, h6⟩, ⟨h7, h8⟩, h9, h10⟩ : wkF w1.heap.size g w.heap.size 7 (a.eval (.tmp 19)) W := hd ⟨7, .data⟩ (by simp) rfl _ 19 rfl rfl
      have T : Trn W (W.setCell ⟨q, 0, none⟩ (.pointer (some ⟨p, 0, none⟩))) := by
        have hk := heap_setCell_same W q 0 #[v0] 219 (.pointer (some ⟨p, 0, none⟩)) h3
        refine ⟨by simp [World.setCell], fun j hj hn => Below.heap_setCell _ _ _ j (fun e => hn (by rw [show j = q from e]; exact ⟨v0, h3⟩)), fun j hj => ?_⟩
        by_cases e : j = q
        · subst e; exact ⟨_, hk⟩
        · obtain ⟨v, hv⟩ := hj
          exact ⟨v, (Below.heap_setCell _ _ _ j (fun e' => e e')).trans hv⟩
      have hk : Blk (W.setCell ⟨q, 0, none⟩ (.pointer (some ⟨p, 0, none⟩))) q #[.pointer (some ⟨p, 0, none⟩)] 219 := heap_setCell_same W q 0 #[v0] 219 (.pointer (some ⟨p, 0, none⟩)) h3
      refine f_store rfl h1 h4 h3 ⟨?_, T, q, p, mb, rb, h1, ⟨h2, ?_⟩, ⟨h5, T.blk h6 (by decide)⟩, ⟨h7, T.laws h8⟩, h9, T.blk h10 (by decide)⟩
      · exact ⟨hS.os, hS.tape, hS.output, Nat.le_trans hS.size T.size, fun j hj => (Below.heap_setCell _ _ _ j (fun e => by have : j = q := e; omega)).trans (hS.block j hj)⟩
      · exact hk
    case hend =>
      intro f W hS hT
      clear EM2
      simp only [putOps]
      go_simp
      obtain ⟨q, p, mb, rb, e, hA⟩ := atWork_of HG.out H1.out hS hT
      go_wp2_with fail
      go_meet
      exact ⟨q, p, mb, rb, e, hA⟩
  case rest =>
  obtain ⟨q, p, mb, rb, rfl, hA⟩ := hcut
  have c0 := hA.box.cell 0
  simp only [List.getElem?_toArray, List.getElem?_cons_zero] at c0
  have HA := Lib.hid hA
  clear hA k0 k1
  go_wp2_with (go_at_call 241; with_reducible refine (rounds_any _ _).mono ?_; rintro e w2 ⟨rfl, rfl⟩)
  obtain ⟨N, hN1, hN2, hN3⟩ := rounds_end g
  have RF := Lib.hid (ranks_fix g hN1 hN2)
  have hlt := HA.out
  obtain ⟨wl, ewl⟩ : ∃ u, u = wc.alloc (.cells #[.pointer (some ⟨p, 0, none⟩)] 219) := ⟨_, rfl⟩
  obtain ⟨bx, ebx⟩ : ∃ u, u = wc.heap.size := ⟨_, rfl⟩
  have hbl : Below wc.heap.size wc wl := by rw [ewl]; exact B1 _ _
  have hwl : wl.heap.size = bx + 1 := by rw [ewl, ebx]; simp
  have NB : RowKit.Hid (q < wl.heap.size ∧ p < wl.heap.size ∧ mb < wl.heap.size ∧ rb < wl.heap.size ∧ w.heap.size ≤ wl.heap.size ∧ bx < wl.heap.size ∧ q ≠ bx ∧ p ≠ bx ∧ rb ≠ bx ∧ w.heap.size ≤ rb) := Lib.hid (by
    have a1 := hlt.box.lt
    have a2 := hlt.wrk.box.lt
    have a3 := hlt.wrk.laws.lt
    have a4 := hlt.wrk.row.lt
    have a5 := hlt.below.size
    have a6 := hlt.new
    omega)
  have KX : RowKit.Hid (Blk wl bx #[.pointer (some ⟨p, 0, none⟩)] 219) := Lib.hid (by rw [ewl, ebx]; exact Blk.new _ _ _)
  have A0 : RowKit.Hid (AtWork w wl g q p mb rb (rk g 0)) := Lib.hid (hlt.keep HG.out hbl hlt.box.lt hlt.wrk.box.lt hlt.wrk.laws.lt hlt.wrk.row.lt hlt.below.size)
  rw [← ebx]
  rw [← ewl]
  clear ewl ebx hbl hwl hlt c0
  have HN := Lib.hid (And.intro hN1 hN2)
  have HN3 := Lib.hid hN3
  clear hN1 hN2 hN3 HA
  refine (wpIn_wide (n := 12)).1 ?_
  refine wpIn_rangeFunc_w (n := 12) (by omega) (gf := 270) (lb := #[.pointer (some ⟨bx, 0, none⟩)]) rfl (enters_of Tryz.func270 (by kernel_rfl) rfl)
    (rounds_seq 11 (by omega) bx p mb rb g HIN.out HR.out N HN.out.2 HN3.out (by have := HN.out.1; have := EM.out; omega) wl NB.out.2.2.2.1)
    (Below.refl _ _) (fun _ _ => rfl)
    (fun k W => AtWork w W g q p mb rb (rk g k) ∧ Blk W bx #[.pointer (some ⟨p, 0, none⟩)] 219)
    ?low ?stand ?aside ⟨A0.out, KX.out⟩
    (fun k x => { tmps := #[.agg #[.slice g.RA m g.rc, .slice g.NA g.nodes.length g.nc], .pointer (some ⟨w.heap.size, 0, none⟩), .pointer none, .bool false, .pointer (some ⟨q, 0, none⟩), .int .i64 ((k : Int) + 1), .slice x.1 (com g k).length x.2, undef, undef, u9, u10, u11, u12, u13, u14, u15, u16, u17, u18, u19, .pointer (some ⟨p, 0, none⟩), .func (.func 270) #[] #[.pointer (some ⟨bx, 0, none⟩)], .int .i64 ((k : Int) + 1), .slice x.1 (com g k).length x.2, u24, u25, u26, u27, u28, u29, u30, u31, u32, u33, u34, u35, u36, u37, u38], defers := [] })
    ?assign ?body ?done
  case low =>
    rintro s X X' ⟨h1, h2⟩ hb
    have := NB.out
    exact ⟨h1.keep HG.out hb this.1 this.2.1 this.2.2.1 this.2.2.2.1 this.2.2.2.2.1, h2.below hb this.2.2.2.2.2.1⟩
  case stand =>
    rintro k W ⟨h1, h2⟩
    exact ⟨h2, h1.wrk⟩
  case aside =>
    rintro k x W b o hb ⟨h1, h2⟩ ⟨lp, hlp⟩
    refine ⟨fun h0 => ?_, h2⟩
    obtain ⟨b', o', e, hb', hc⟩ := h1 h0
    have hne : b' ≠ b := fun e' => by
      have := hc 0 h0
      rw [e'] at this
      simp [World.cell?, hlp, List.getElem?_eq_getElem h0] at this
    refine ⟨b', o', e, by simpa using hb', fun i hi => ?_⟩
    rw [← hc i hi]
    simp only [World.cell?, World.putObj_heap_other hne]
  case assign =>
    intro l2 k x W K hK
    simp only [RndE, List.zip_toArray, List.zip_cons_cons, List.zip_nil_right, List.foldl_toArray, List.foldl_cons, List.foldl_nil]
    gi_wp2
    exact hK
  case body =>
    rintro l2 k ⟨A, c⟩ W ⟨hA, hX⟩ ⟨hL, hLn⟩ hz hkN
    dsimp only at hL hLn ⊢
    have M0 := Lib.hid (MidR.start hA)
    have HA := Lib.hid hA
    have HX := Lib.hid hX
    have HL := Lib.hid hL
    have HLN := Lib.hid hLn
    have NE : RowKit.Hid (q ≠ rb ∧ p ≠ rb ∧ bx ≠ rb) := Lib.hid (by
      have hne : ∀ {b : Nat} {vs : Array Value} {T : TypeId}, Blk W b vs T → T ≠ 3 → b ≠ rb := fun hb hT e => by
        subst e
        have := hb.symm.trans hA.wrk.row
        simp only [Option.some.injEq, Obj.cells.injEq] at this
        exact hT this.2.1
      exact ⟨hne hA.box (by decide), hne hA.wrk.box (by decide), hne hX (by decide)⟩)
    have hcl : ∀ j, j < (com g k).length → (com g k).getD j 0 < m := fun j hj => by
      have hm : (com g k).getD j 0 ∈ com g k := by simp [List.getD, List.getElem?_eq_getElem hj]
      have := (rowOf_mem.1 hm).1
      have := EM.out
      omega
    have HCL := Lib.hid hcl
    have l32 : (com g k).length ≤ 32 := Nat.le_trans (rowOf_len _ _) (by have := EM.out; omega)
    obtain ⟨len, elen⟩ : ∃ len, len = (com g k).length := ⟨_, rfl⟩
    rw [← elen] at l32
    have ELEN := Lib.hid elen
    rw [← elen]
    clear hA hX hL hLn hcl elen hz
    gi_wp2_with fail
    gi_loopw [26, 8] (fun i _ wr => ∃ (j : Nat) (rj : List Int), j ≤ len ∧ i = .int .i64 j ∧ MidR w W wr g rb k j rj) (fun i _ _ => len - (RowKit.intOf i).toNat)
    case atStart => exact ⟨0, rk g k, by omega, rfl, M0.out⟩
    case round =>
      obtain ⟨j, rj, hj, rfl, hM⟩ := hrel
      have HM := Lib.hid hM
      by_cases hlt : j < len
      · have hlt2 : (j : Int) < len := by omega
        have hjl : j < (com g k).length := by have := ELEN.out; omega
        obtain ⟨b1, o1, eA, hb1, c1⟩ := lies_cell HL.out (k := j) (by rw [nums_len]; exact hjl)
        have hne1 := HLN.out b1 o1 eA
        have c1' : wr.cell? ⟨b1, o1 + j, none⟩ = some (.int .i64 ((com g k).getD j 0 : Nat)) := by
          rw [← nums_at, ← c1]
          simp only [World.cell?, hM.other b1 hne1]
        have he := HCL.out j hjl
        have cq : wr.cell? ⟨q, 0, none⟩ = some (.pointer (some ⟨p, 0, none⟩)) := Blk.cell ((hM.other q NE.out.1).trans HA.out.box) 0
        have c3 : wr.cell? ⟨p, 3, none⟩ = some (.slice (some ⟨rb, 0, none⟩) m m) := by
          have := Blk.cell ((hM.other p NE.out.2.1).trans HA.out.wrk.box) 3
          rw [EM.out]
          exact this
        have cr : wr.cell? ⟨rb, (com g k).getD j 0, none⟩ = some (.int .i64 (rj.getD ((com g k).getD j 0) 0)) := (hM.row.cell _).trans (by rw [List.getElem?_toArray]; exact ints_at (by rw [hM.len, ← EM.out]; exact he))
        have fr := hM.row.frozen ((com g k).getD j 0)
        have ST := Lib.hid (hM.step hjl NB.out.2.2.2.2.2.2.2.2.2)
        rw [eA]
        clear hM c1 hb1 hne1
        generalize (com g k).getD j 0 = e0 at c1' he cr fr ST
        generalize rj.getD e0 0 = v0 at cr
        have he2 : (e0 : Int) < m := by omega
        gi_wp2_with fail
        go_roundw
        case rel => exact ⟨j + 1, _, by omega, by go_num, ST.out⟩
        case measure => simp [RowKit.intOf]; omega
      · obtain rfl : j = len := by omega
        have hlt2 : ¬ (j : Int) < j := by omega
        clear hM
        gi_wp2_with fail
        have hM := HM.out
        rw [ELEN.out] at hM
        have hn := NE.out
        exact ⟨⟨by rw [hM.size]; omega, fun b hb h => by rcases h with h | h; exact h.elim; exact hM.other b (by have := NB.out; omega)⟩, hM.done HG.out HA.out, (hM.other bx hn.2.2).trans HX.out⟩
  case done =>
    rintro D W hD ⟨hA, hX⟩ hK
    have c4 := hA.box.cell 0
    simp only [List.getElem?_toArray, List.getElem?_cons_zero] at c4
    have HA := Lib.hid hA
    have HD := Lib.hid hK
    have ND : RowKit.Hid (w.heap.size ≤ D ∧ q ≠ D ∧ p ≠ D ∧ mb ≠ D ∧ rb ≠ D) := Lib.hid (by have := NB.out; omega)
    clear hA hX hK
    go_wp2_with fail
    refine ⟨by simp, .inl ⟨_, _, rfl, run_takeDeferred HD.out, ?_⟩⟩
    have keep : ∀ k, k ≠ D → (W.putObj D (.deferred none)).heap[k]? = W.heap[k]? := fun k hk => World.putObj_heap_other hk
    have hA := HA.out
    have hn := ND.out
    have hl : Below w.heap.size w (W.putObj D (.deferred none)) := hA.below.trans (below_putObj W D _ _ hn.1)
    refine ⟨.tuple #[.pointer (some ⟨p, 0, none⟩), .bool true], by simp [results, Tryz.f203, go_sem], p, mb, rb, rfl, ⟨(keep p hn.2.2.1).trans hA.wrk.box, HG.out.below hl, hA.wrk.laws.kept (keep mb hn.2.2.2.1), ?_, rk_length g _⟩, hl⟩
    rw [RF.out]
    exact (keep rb hn.2.2.2.2).trans hA.wrk.row
end Go.Proofs.YtlbjmkljmhfjdaaGreat
namespace Go.Proofs.YtlbjmkljmhfjdaaGreat
open Go Go.RowKit Go.Maps
noncomputable def nodesOf (g : Gr) : List Nat := if rightB g then rowOf' g.nodes.length (fun n => mayN g.nodes (inB (ranks g)) n) else []
set_option maxRecDepth 100000 in
theorem workOf_no (g : Gr) (w : World) (hg : Gr.At w g) (hin : Gr.In g) (hR : rightB g = false) : Calls Tryz.prog 203 #[g.val] w fun e w' => e = .returned (.tuple #[.pointer none, .bool false]) ∧ Below w.heap.size w w' := by
  have RA := Lib.hid (fun (w' : World) (b : Below w.heap.size w w') => by have := right_all g w' (hg.below b) hin; rw [hR] at this; exact this)
  clear hg hin hR
  show Calls Tryz.prog 203 #[.agg #[.slice g.RA g.rules.length g.rc, .slice g.NA g.nodes.length g.nc]] w _
  refine (callsIn_wide (n := 12)).1 ?_
  refine callsIn_of_wp_marks Tryz.func203 rfl trivial ?_ rfl
  simp only [Tryz.ntmps203, List.size_toArray, List.length_cons, List.length_nil, Nat.reduceAdd, Nat.reduceSub, Array.replicate_succ, Array.replicate_zero, List.push_toArray, List.append_toArray, List.nil_append, List.cons_append]
  refine wpIn_wide.2 ?_
  go_wp2_with (go_at_call 138; with_reducible refine (RA.out _ (B1 _ _)).mono ?_; rintro e w1 ⟨rfl, hb⟩; have H1 := Lib.hid (bb (B1 w _) hb); clear hb)
  exact ⟨.tuple #[.pointer none, .bool false], by simp [results, Tryz.f203, go_sem], rfl, H1.out⟩
set_option maxRecDepth 100000 in
set_option maxHeartbeats 2000000 in
theorem nodes_any (g : Gr) (w : World) (hg : Gr.At w g) (hin : Gr.In g) : Calls Tryz.prog 145 #[g.val] w (Row w (nodesOf g)) := by
  have WY := Lib.hid (fun (hR : Right g) (w' : World) (b : Below w.heap.size w w') => workOf_any g w' (hg.below b) hin hR)
  have WN := Lib.hid (fun (hR : rightB g = false) (w' : World) (b : Below w.heap.size w w') => workOf_no g w' (hg.below b) hin hR)
  have HIN := Lib.hid hin
  have EV := Lib.hid (show nodesOf g = if rightB g then rowOf' g.nodes.length (fun n => mayN g.nodes (inB (ranks g)) n) else [] from rfl)
  generalize nodesOf g = L at EV ⊢
  clear hg hin
  show Calls Tryz.prog 145 #[.agg #[.slice g.RA g.rules.length g.rc, .slice g.NA g.nodes.length g.nc]] w _
  cases hr : rightB g with
  | false =>
    have hv : L = [] := by rw [EV.out, hr]; rfl
    have HV := Lib.hid hv
    have WN2 := Lib.hid (WN.out hr)
    clear hv EV WY WN hr
    go_enter Tryz.func145, Tryz.ntmps145
    go_wp2_with (go_at_call 203; with_reducible refine (WN2.out _ (B1 _ _)).mono ?_; rintro e w1 ⟨rfl, hb⟩; have H1 := Lib.hid (bb (B1 w _) hb); clear hb)
    go_ret
    rw [HV.out]
    exact row_nil _ _ H1.out
  | true =>
    have hr0 := hr
    have hv : L = rowOf' g.nodes.length (fun n => mayN g.nodes (inB (ranks g)) n) := by rw [EV.out, hr]; rfl
    have WY2 := Lib.hid (WY.out (rightB_true.1 hr))
    have RG := Lib.hid (show ∀ (w1 : World) (p mb rb : Nat), Wrk w1 p g mb rb (ranks g) → w1.cell? ⟨p, 1, none⟩ = some (.slice g.NA g.nodes.length g.nc) from fun w1 p mb rb h => h.box.cell 1)
    have AL := Lib.hid (fun (w1 : World) (p mb rb : Nat) (HW : Wrk w1 p g mb rb (ranks g)) => all_may g.nodes.length p (fun n => mayN g.nodes (inB (ranks g)) n) (by have := (rightB_true.1 hr0).nodes; omega) w1 (fun W b r hr => (may_any HIN.out (rightB_true.1 hr0) g.nodes.length r hr (by omega) W (HW.below b))))
    rw [← hv] at AL
    clear hv EV WY WN hr hr0
    go_enter Tryz.func145, Tryz.ntmps145
    go_wp2_with (first | (go_at_call 203; with_reducible refine (WY2.out _ (B1 _ _)).mono ?_; rintro e w1 ⟨p, mb, rb, rfl, hW, hb⟩; have H1 := Lib.hid (bb (B1 w _) hb); have HW := Lib.hid hW; have c3 := RG.out w1 p mb rb hW; clear hb hW))
    with_reducible refine (AL.out _ _ _ _ HW.out).mono ?_
    rintro e w2 ⟨⟨v, rfl, ho, hn⟩, hb⟩
    have O2 := Lib.hid (own_lower ho H1.out.size)
    have N2 := Lib.hid hn
    have H2 := Lib.hid (H1.out.trans (hb.mono H1.out.size))
    clear hb ho hn
    go_wp2_with fail
    go_ret
    exact ⟨⟨_, rfl, O2.out, N2.out⟩, H2.out⟩
end Go.Proofs.YtlbjmkljmhfjdaaGreat
namespace Go.Proofs.YtlbjmkljmhfjdaaGreat
open Go Go.RowKit
def Gr.kz (g : Gr) : Gr := ⟨none, 0, g.rules, none, 0, g.nodes.map Nd.kz⟩
theorem kz_getD (l : List Nd) (n : Nat) : (l.map Nd.kz).getD n Nd.zero = (l.getD n Nd.zero).kz := by
  simp only [List.getD, List.getElem?_map]
  cases l[n]? <;> rfl
theorem mayF_kz (l : List Nd) (inn : Int → Bool) : ∀ (f : Nat) (n : Int), mayF (l.map Nd.kz) inn f n = mayF l inn f n
  | 0, _ => rfl
  | f + 1, n => by
    unfold mayF
    rw [kz_getD, show mayF (l.map Nd.kz) inn f = mayF l inn f from funext (mayF_kz l inn f)]
    rfl
theorem mayN_kz (l : List Nd) (inn : Int → Bool) (n : Int) : mayN (l.map Nd.kz) inn n = mayN l inn n := by
  unfold mayN
  rw [List.length_map, mayF_kz]
theorem rk_kz (g : Gr) : ∀ k, rk g.kz k = rk g k
  | 0 => rfl
  | k + 1 => by
    unfold rk
    rw [rk_kz g k]
    have e : comB g.kz (rk g k) = comB g (rk g k) := by
      funext i
      unfold comB
      show (!inB (rk g k) i && mayN (g.nodes.map Nd.kz) (inB (rk g k)) _) = _
      rw [mayN_kz]
      rfl
    rw [e]
    rfl
theorem ranks_kz (g : Gr) : ranks g.kz = ranks g := rk_kz g _
theorem climb_kz (l : List Nd) (n : Nat) : kidsOf (l.map Nd.kz) n = kidsOf l n := by
  unfold kidsOf
  rw [kz_getD]
  rfl
theorem right_kz (g : Gr) : Right g.kz ↔ Right g := by
  have hl : g.kz.nodes.length = g.nodes.length := List.length_map _
  have hA : AllRight g.kz.nodes g.kz.rules.length ↔ AllRight g.nodes g.rules.length := by
    unfold AllRight
    rw [hl]
    refine forall_congr' fun i => ?_
    refine imp_congr_right fun hi => ?_
    show nodeOk ((g.nodes.map Nd.kz).getD i Nd.zero) g.rules.length = true ↔ _
    rw [kz_getD, nodeOk_iff, nodeOk_iff]
    exact Iff.rfl
  have hM : ∀ ms, Measured g.kz.nodes ms 0 ↔ Measured g.nodes ms 0 := fun ms => by
    unfold Measured
    rw [hl]
    refine forall_congr' fun m => ?_
    show (_ → _ → _ ∧ _ ∧ _ ∧ climb _ ms (kidsOf (g.nodes.map Nd.kz) m) _ _ = _) ↔ _
    rw [climb_kz]
  constructor
  · intro h
    exact ⟨h.rules, by rw [← hl]; exact h.nodes, h.named, hA.1 h.all, by
      obtain ⟨ms, a, b⟩ := h.pre
      exact ⟨ms, (hM ms).1 a, by rw [hl] at b; exact b⟩⟩
  · intro h
    exact ⟨h.rules, by rw [hl]; exact h.nodes, h.named, hA.2 h.all, by
      obtain ⟨ms, a, b⟩ := h.pre
      exact ⟨ms, (hM ms).2 a, by rw [hl]; exact b⟩⟩
theorem rightB_kz (g : Gr) : rightB g.kz = rightB g := by
  rw [Bool.eq_iff_iff, rightB_true, rightB_true, right_kz]
/-- By its rules and its nodes, wherever they lie. -/
theorem kz_of {g : Gr} {R : List Rl} {N : List Nd} (h : (g.rules, g.nodes.map Nd.kz) = (R, N)) : g.kz = ⟨none, 0, R, none, 0, N⟩ := by
  simp only [Prod.mk.injEq] at h
  unfold Gr.kz
  rw [h.1, h.2]
end Go.Proofs.YtlbjmkljmhfjdaaGreat
namespace Go.Proofs.YtlbjmkljmhfjdaaGreat
open Go Go.RowKit
theorem lies_four {w : World} {b : Nat} {x y z u : Value} {T : TypeId} (h : Blk w b #[x, y, z, u] T) : Lies w (some ⟨b, 0, none⟩) [x, y, z, u] := fun _ => ⟨b, 0, rfl, h.lt, fun i hi => by
  have : i = 0 ∨ i = 1 ∨ i = 2 ∨ i = 3 := by simp at hi; omega
  rcases this with rfl | rfl | rfl | rfl <;> (rw [Nat.zero_add, h.cell]; rfl)⟩
/-- What comes in, of a grammar by hand. -/
theorem in_of {g g0 : Gr} (h : g.kz = g0) (h0 : Gr.In g0) : Gr.In g := by
  intro x hx
  have hm : x.kz ∈ g0.nodes := by rw [← h]; exact List.mem_map_of_mem hx
  have := h0 _ hm
  exact ⟨this.kind, this.text⟩
end Go.Proofs.YtlbjmkljmhfjdaaGreat
namespace Go.Proofs.YtlbjmkljmhfjdaaGreat
open Go Go.RowKit Go.Maps
def bls (l : List Bool) : List Value := l.map Value.bool
theorem bls_at {l : List Bool} {k : Nat} (h : k < l.length) : (bls l)[k]? = some (.bool (l.getD k false)) := by
  simp [bls, List.getD, List.getElem?_eq_getElem h]
theorem bls_set (l : List Bool) (k : Nat) (b : Bool) : (bls l).set k (.bool b) = bls (l.set k b) := by simp [bls, List.map_set]
theorem ints_set (l : List Int) (k : Nat) (b : Int) : (ints l).set k (.int .i64 b) = ints (l.set k b) := by simp [ints, List.map_set]
theorem Blk.put {w : World} {b k : Nat} {l : List Value} {T : TypeId} (h : Blk w b l.toArray T) (v : Value) : Blk (w.setCell ⟨b, k, none⟩ v) b (l.set k v).toArray T := by
  have := heap_setCell_same w b k l.toArray T v h
  unfold Blk
  rw [this]
  simp
end Go.Proofs.YtlbjmkljmhfjdaaGreat
namespace Go.Proofs.YtlbjmkljmhfjdaaGreat
open Go Go.RowKit Go.Maps
noncomputable def mayL (g : Gr) : List Bool := (List.range g.nodes.length).map fun n : Nat => mayG g n
theorem mayL_len (g : Gr) : (mayL g).length = g.nodes.length := by simp [mayL]
theorem mayL_at {g : Gr} {n : Nat} (h : n < g.nodes.length) : (mayL g).getD n false = mayG g n := by simp [mayL, List.getD, h]
/-- A grammar at work: it, which of its nodes may match nothing. -/
structure Wk (w : World) (p : Nat) (g : Gr) (nb : Nat) : Prop where
  box : Blk w p #[.slice g.RA g.rules.length g.rc, .slice g.NA g.nodes.length g.nc, .slice (some ⟨nb, 0, none⟩) g.nodes.length g.nodes.length] 84
  gr : Gr.At w g
  row : Blk w nb (bls (mayL g)).toArray 4
theorem Wk.below {w w' : World} {p nb : Nat} {g : Gr} (h : Wk w p g nb) (hb : Below w.heap.size w w') : Wk w' p g nb :=
  ⟨h.box.below' hb, h.gr.below hb, h.row.below' hb⟩
theorem Gr.At.heap {w w' : World} {g : Gr} (h : Gr.At w g) (hs : w.heap.size ≤ w'.heap.size) (hb : ∀ k, k < w.heap.size → w'.heap[k]? = w.heap[k]?) : Gr.At w' g := by
  have := h.below (w' := { w with heap := w'.heap }) ⟨rfl, rfl, rfl, hs, hb⟩
  exact ⟨this.rules, this.nodes, this.kids, this.rl, this.nl, this.rn, this.nn, this.texts, this.names⟩
theorem Wk.heap {w w' : World} {p nb : Nat} {g : Gr} (h : Wk w p g nb) (hs : w.heap.size ≤ w'.heap.size) (hb : ∀ k, k < w.heap.size → w'.heap[k]? = w.heap[k]?) : Wk w' p g nb :=
  ⟨(hb p h.box.lt).trans h.box, h.gr.heap hs hb, (hb nb h.row.lt).trans h.row⟩
theorem takes_any {w : World} {p nb : Nat} {g : Gr} (h : Wk w p g nb) (n : Nat) (hn : n < g.nodes.length) :
    Calls Tryz.prog 207 #[.pointer (some ⟨p, 0, none⟩), .int .i64 n] w fun e w' => e = .returned (.bool (!mayG g n)) ∧ w' = w := by
  have c1 := h.box.cell 2
  simp only [List.getElem?_toArray, List.getElem?_cons_zero, List.getElem?_cons_succ] at c1
  have cr : w.cell? ⟨nb, n, none⟩ = some (.bool (mayG g n)) := (h.row.cell n).trans (by rw [List.getElem?_toArray, bls_at (by rw [mayL_len]; exact hn), mayL_at hn])
  generalize mayG g n = b at cr ⊢
  obtain ⟨m, em⟩ : ∃ m, m = g.nodes.length := ⟨_, rfl⟩
  rw [← em] at c1 hn
  have hn2 : (n : Int) < m := by omega
  clear h em
  go_enter Tryz.func207, Tryz.ntmps207
  go_wp2_with fail
  go_ret
  exact ⟨rfl, rfl⟩
set_option maxRecDepth 100000 in
set_option maxHeartbeats 2000000 in
theorem idx_takes (A : Option Addr) (c : Nat) (a : List Int) (p : Nat) (q : Int → Bool) (ha : a.length ≤ 140737488351232) (w : World) (hA : Lies w A (ints a))
    (hq : ∀ k ∈ a, ∀ w', Below w.heap.size w w' → Calls Tryz.prog 207 #[.pointer (some ⟨p, 0, none⟩), .int .i64 k] w' fun e w'' => e = .returned (.bool (q k)) ∧ Below w'.heap.size w' w'') :
    Calls Tryz.prog 206 #[.slice A a.length c, .func (.func 207) #[.pointer (some ⟨p, 0, none⟩)] #[]] w fun e w' => (∃ j : Int, e = .returned (.int .i64 j) ∧ ((j = -1 ∧ ∀ k ∈ a, q k = false) ∨ (∃ i : Nat, j = i ∧ i < a.length ∧ (∀ s, s < i → q (a.getD s 0) = false) ∧ q (a.getD i 0) = true))) ∧ Below w.heap.size w w' := by
  have HA := Lib.hid hA
  have HQ := Lib.hid hq
  obtain ⟨m, em⟩ : ∃ m, m = a.length := ⟨_, rfl⟩
  rw [← em] at ha ⊢
  have EM := Lib.hid em
  clear hA hq em
  go_enter Tryz.func206, Tryz.ntmps206
  go_wp2_with fail
  go_loopw [8, 5] (fun i _ wr => ∃ k : Nat, k ≤ m ∧ i = .int .i64 k ∧ (∀ j, j < k → q (a.getD j 0) = false) ∧ Below w.heap.size w wr) (fun i _ _ => m - (RowKit.intOf i).toNat)
  case atStart => exact ⟨0, by omega, rfl, fun j h => by omega, Below.refl _ _⟩
  case round =>
    obtain ⟨k, hk, rfl, ht, hbl⟩ := hrel
    have HT := Lib.hid ht
    have BL := Lib.hid hbl
    clear ht hbl
    by_cases hlt : k < m
    · have hlt2 : (k : Int) < m := by omega
      obtain ⟨b1, o1, rfl, _, c1⟩ := lies_cell (HA.out.below BL.out) (show k < a.length by have := EM.out; omega)
      have hmem : a.getD k 0 ∈ a := by have := EM.out; simp [List.getD, List.getElem?_eq_getElem (show k < a.length by omega)]
      have A1 := Lib.hid (HQ.out _ hmem)
      clear hmem
      generalize hx : a.getD k 0 = x at c1 A1
      have HX := Lib.hid hx
      clear hx
      obtain ⟨bo, ebo⟩ : ∃ bo, bo = q x := ⟨_, rfl⟩
      rw [← ebo] at A1
      have EBO := Lib.hid ebo
      clear ebo
      cases bo with
      | true =>
        go_wp2_with (go_at_call 207; with_reducible refine (A1.out _ BL.out).mono ?_; rintro e w1 ⟨rfl, hb⟩; have H1 := Lib.hid (bb BL.out hb); clear hb)
        go_ret
        exact ⟨⟨_, rfl, .inr ⟨k, rfl, by have := EM.out; omega, HT.out, by rw [HX.out]; exact EBO.out.symm⟩⟩, H1.out⟩
      | false =>
        go_wp2_with (go_at_call 207; with_reducible refine (A1.out _ BL.out).mono ?_; rintro e w1 ⟨rfl, hb⟩; have H1 := Lib.hid (bb BL.out hb); clear hb)
        go_roundw
        case rel => exact ⟨k + 1, by omega, by go_num, fun j hj => by
            by_cases e : j = k
            · subst e; rw [HX.out]; exact EBO.out.symm
            · exact HT.out j (by omega), H1.out⟩
        case measure => simp [RowKit.intOf]; omega
    · obtain rfl : k = m := by omega
      have hlt2 : ¬ (k : Int) < k := by omega
      go_wp2_with fail
      go_ret
      refine ⟨⟨_, rfl, .inl ⟨rfl, fun x hx => ?_⟩⟩, BL.out⟩
      obtain ⟨j, hj, rfl⟩ := List.getElem_of_mem hx
      have := HT.out j (by have := EM.out; omega)
      simp only [List.getD, List.getElem?_eq_getElem hj, Option.getD_some] at this
      exact this
theorem upTo_idx {may : Int → Bool} {a : List Int} {j : Int} (h : (j = -1 ∧ ∀ k ∈ a, (!may k) = false) ∨ (∃ i : Nat, j = i ∧ i < a.length ∧ (∀ s, s < i → (!may (a.getD s 0)) = false) ∧ (!may (a.getD i 0)) = true)) :
    (j = -1 ∧ upTo may a = a) ∨ (∃ i : Nat, j = i ∧ i < a.length ∧ upTo may a = a.take (i + 1)) := by
  rcases h with ⟨rfl, h⟩ | ⟨i, rfl, h1, h2, h3⟩
  · exact .inl ⟨rfl, upTo_all fun k hk => by simpa using h k hk⟩
  · exact .inr ⟨i, rfl, h1, upTo_at a i h1 (fun s hs => by simpa using h2 s hs) (by simpa using h3)⟩

set_option maxRecDepth 100000 in
set_option maxHeartbeats 2000000 in
theorem lfirst_any {w : World} {p nb : Nat} {g : Gr} (h : Wk w p g nb) (hR : Right g) (hc : Capd g) (n : Nat) (hn : n < g.nodes.length) :
    Calls Tryz.prog 153 #[.pointer (some ⟨p, 0, none⟩), .int .i64 n] w fun e w' => (∃ c : Nat, e = .returned (.slice (g.nodes.getD n Nd.zero).A (fsts (g.nodes.getD n Nd.zero) (mayG g)).length c)) ∧ Below w.heap.size w w' := by
  have hx := h.gr.node hn
  have hup := hR.kidsUp n hn
  have hcap := hc.kids (g.nodes.getD n Nd.zero) (by simp [List.getD, List.getElem?_eq_getElem hn])
  have TK := Lib.hid (fun k (hk : k ∈ (g.nodes.getD n Nd.zero).kids) (w' : World) (hb : Below w.heap.size w w') => by
    have h1 := hup k hk
    have := takes_any (h.below hb) k.toNat (by omega)
    rw [show ((k.toNat : Nat) : Int) = k by omega] at this
    exact this.mono (R' := fun e w'' => e = .returned (.bool (!mayG g k)) ∧ Below w'.heap.size w' w'') (fun e w'' ⟨h1, h2⟩ => ⟨h1, by rw [h2]; exact Below.refl _ _⟩))
  have IX := Lib.hid (fun (w' : World) (hb : Below w.heap.size w w') => idx_takes (g.nodes.getD n Nd.zero).A (g.nodes.getD n Nd.zero).cap (g.nodes.getD n Nd.zero).kids p (fun k => !mayG g k) hx.2.2 w' (hx.below hb).1 (fun k hk w'' hb2 => TK.out k hk w'' (hb.trans (hb2.mono hb.size))))
  obtain ⟨b1, o1, eA, hlt, d0, d1, d2, d3, d4, d5, d6, d7, d8⟩ := h.gr.nodes.nine hn
  have c1 := h.box.cell 1
  simp only [List.getElem?_toArray, List.getElem?_cons_zero, List.getElem?_cons_succ] at c1
  rw [eA] at c1
  have UI := Lib.hid (fun j => upTo_idx (may := mayG g) (a := (g.nodes.getD n Nd.zero).kids) (j := j))
  have FS := Lib.hid (show fsts (g.nodes.getD n Nd.zero) (mayG g) = if (g.nodes.getD n Nd.zero).kind = 6 then upTo (mayG g) (g.nodes.getD n Nd.zero).kids else (g.nodes.getD n Nd.zero).kids from rfl)
  have hz := hx.2.1
  have hx3 := hx.2.2
  generalize fsts (g.nodes.getD n Nd.zero) (mayG g) = F at FS ⊢
  generalize g.nodes.getD n Nd.zero = x at d0 d1 d2 d3 d4 d5 d6 d7 d8 IX UI FS hcap hz hx3 ⊢
  obtain ⟨kd, q0, q1, q2, q3, t, ru, lv, A, cap, ks⟩ := x
  dsimp only at d0 d1 d2 d3 d4 d5 d6 d7 d8 IX UI FS hcap hz hx3 ⊢
  obtain ⟨m, em⟩ : ∃ m, m = g.nodes.length := ⟨_, rfl⟩
  rw [← em] at c1 hn
  have hn2 : (n : Int) < m := by omega
  obtain ⟨r, er⟩ : ∃ r, r = ks.length := ⟨_, rfl⟩
  have ER := Lib.hid er
  rw [← er] at d8 hcap hx3
  have IX2 : RowKit.Hid (∀ (w' : World), Below w.heap.size w w' → Calls Tryz.prog 206 #[.slice A r cap, .func (.func 207) #[.pointer (some ⟨p, 0, none⟩)] #[]] w' fun e w'' => (∃ j : Int, e = .returned (.int .i64 j) ∧ ((j = -1 ∧ upTo (mayG g) ks = ks) ∨ (∃ i : Nat, j = i ∧ i < r ∧ upTo (mayG g) ks = ks.take (i + 1)))) ∧ Below w'.heap.size w' w'') := Lib.hid (by
    rw [er]
    exact fun w' hb => (IX.out w' hb).mono fun e w'' ⟨⟨j, h1, h2⟩, h3⟩ => ⟨⟨j, h1, UI.out j h2⟩, h3⟩)
  clear IX TK hup h em er hx hc hR UI
  go_enter Tryz.func153, Tryz.ntmps153
  by_cases hk : kd = 6
  · rw [if_pos hk] at FS
    subst hk
    go_wp2_with fail
    refine (IX2.out _ (B1 _ _)).mono ?_
    rintro e w1 ⟨⟨j, rfl, hj⟩, hb⟩
    have KB := (Blk.new w #[Value.int IntKind.i64 6, Value.int IntKind.u64 q0, Value.int IntKind.u64 q1, Value.int IntKind.u64 q2, Value.int IntKind.u64 q3, Value.string t, Value.int IntKind.i64 ru, Value.int IntKind.i64 lv, Value.slice A r cap] 40).below' hb
    have k8 : w1.cell? ⟨w.heap.size, 8, none⟩ = some (.slice A r cap) := KB.cell 8
    have H1 := Lib.hid (bb (B1 w _) hb)
    clear hb KB IX2 d0 d1 d2 d3 d4 d5 d6 d7 d8 c1
    rcases hj with ⟨rfl, hU⟩ | ⟨i, rfl, hi, hU⟩
    · have HU := Lib.hid hU
      clear hU
      go_wp2_with fail
      go_ret
      exact ⟨⟨cap, by rw [FS.out, HU.out, ← ER.out]; rfl⟩, H1.out⟩
    · have hi2 : ¬ (i : Int) < 0 := by omega
      have HU := Lib.hid hU
      have hic : i + 1 ≤ cap := by omega
      have hib : i < 140737488351232 := by omega
      have EF : F.length = i + 1 := by rw [FS.out, HU.out, List.length_take, ← ER.out]; omega
      have HEF := Lib.hid EF
      clear hU EF
      cases A with
      | none => have := hz rfl; omega
      | some a =>
        obtain ⟨ab, ao, asub⟩ := a
        go_wp2_with fail
        go_ret
        exact ⟨⟨cap, by rw [HEF.out]; rfl⟩, H1.out⟩
  · rw [if_neg hk] at FS
    go_wp2_with fail
    go_ret
    exact ⟨⟨cap, by rw [FS.out, ← ER.out]; rfl⟩, B1 _ _⟩
end Go.Proofs.YtlbjmkljmhfjdaaGreat

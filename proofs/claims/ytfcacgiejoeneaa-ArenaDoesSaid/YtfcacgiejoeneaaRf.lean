/- Contracts of the document's arena: Put with room, Back to a mark. -/
import Derived.Test.YtfcacgiejoeneaaRe
namespace Go.Proofs.Ytfcacgiejoeneaa
open Go Go.RowKit
theorem lies_take {w : World} {A : Option Addr} {xs : List Value} (h : Lies w A xs) (m : Nat) : Lies w A (xs.take m) := by
  intro h0
  rw [List.length_take] at h0
  obtain ⟨b, o, e, hb, hc⟩ := h (by omega)
  refine ⟨b, o, e, hb, fun i hi => ?_⟩
  rw [List.length_take] at hi
  rw [hc i (by omega), List.getElem?_take, if_pos (by omega)]
theorem own_empty (w : World) (base : Nat) (hB : base ≤ w.heap.size) : (w.alloc (.cells #[] 3)).ownsRow base 3 1 (.slice (some ⟨w.heap.size, 0, none⟩) 0 0) ([] : List Value).length [] :=
  World.ownsRow_lit w #[] 0 hB (Nat.zero_le _) rfl
/-- The document's row is written anew. -/
theorem rturn_store {w w1 : World} {base b : Nat} {most peak : Int} {v v1 : Value} {xs : List Value} (ha : Rf w base b most peak v xs) {ys : List Value}
    (ho : w1.ownsRow base 3 1 v1 ys.length ys) (hb : Below w.heap.size w w1) (hf : ∀ k, v1.ownBlock = some k → w.heap.size ≤ k) :
    Rf (w1.setCell ⟨b, 2, none⟩ v1) base b most peak v1 ys ∧ Turn w (w1.setCell ⟨b, 2, none⟩ v1) b v v1 := by
  have hB : Blk w1 b #[.int .i64 most, .int .i64 peak, v] 30 := ha.blk.below' hb
  have hv1 := own_ne ho hB (by decide)
  refine ⟨⟨ha.lo, heap_setCell_same w1 b 2 _ 30 _ hB, own_kept ho (fun k e => heap_setCell_other _ _ _ _ (fun h => hv1 (by rw [e, show k = b from h])))⟩, ⟨hb.os, hb.tape, hb.output, by simpa [World.setCell] using hb.size, fun k hk h1 _ => ?_, fun k e => .inr (hf k e)⟩⟩
  rw [heap_setCell_other _ _ _ _ (show k ≠ b from h1)]
  exact hb.block k hk
theorem own_lit_ne {w : World} {v1 : Value} (hf : ∀ k, v1.ownBlock = some k → (Value.slice (some ⟨w.heap.size, 0, none⟩) 0 0).ownBlock = some k ∨ (w.alloc (.cells #[] 3)).heap.size ≤ k) : ∀ k, v1.ownBlock = some k → w.heap.size ≤ k := by
  intro k e
  rcases hf k e with h | h
  · simp [Value.ownBlock] at h; omega
  · simp at h; omega
theorem below_lit {w w1 : World} (hg : (w.alloc (.cells #[] 3)).grownBy w1 (Value.slice (some ⟨w.heap.size, 0, none⟩) 0 0).ownBlock) : Below w.heap.size w w1 :=
  (B1 w (.cells #[] 3)).grown hg (by simp) (fun k e => by simp [Value.ownBlock] at e; omega)
theorem rpeak {w wr : World} {base b : Nat} {most peak : Int} {v v2 : Value} {ys : List Value} (h : Rf wr base b most peak v2 ys) (ht : Turn w wr b v v2) (k : Nat) (p : Int) :
    Rf ((wr.drewN k).setCell ⟨b, 1, none⟩ (.int .i64 p)) base b most p v2 ys ∧ Turn w ((wr.drewN k).setCell ⟨b, 1, none⟩ (.int .i64 p)) b v v2 := by
  have hv := own_ne h.own h.blk (by decide)
  have hB : Blk (wr.drewN k) b #[.int .i64 most, .int .i64 peak, v2] 30 := h.blk
  refine ⟨⟨h.lo, heap_setCell_same (wr.drewN k) b 1 _ 30 _ hB, own_kept h.own (fun j e => heap_setCell_other (wr.drewN k) ⟨b, 1, none⟩ j _ (fun q => hv (by rw [e, show j = b from q])))⟩, ⟨ht.os, ht.tape, ht.output, by simpa [World.setCell] using ht.size, fun j hj h1 h2 => ?_, ht.fresh⟩⟩
  exact (heap_setCell_other (wr.drewN k) ⟨b, 1, none⟩ j _ (show j ≠ b from h1)).trans (ht.block j hj h1 h2)
set_option maxHeartbeats 1000000 in
theorem rback_good (b : Nat) (most peak : Int) (v : Value) (xs : List Value) (base m : Nat) (hm : m ≤ xs.length) (hx : xs.length ≤ 60000) (h1 : ∀ u ∈ xs, u.oneCell' = true) (w : World) (hbase : base ≤ w.heap.size) (h : Rf w base b most peak v xs) :
    Calls Try.prog 19 #[.pointer (some ⟨b, 0, none⟩), .int .i64 m] w fun e w' => e = .returned (.int .i64 0) ∧ ∃ v', Rf w' base b most peak v' (xs.take m) ∧ Turn w w' b v v' := by
  obtain ⟨i0, hi, hz0, hz1, hz2⟩ := info_parts Try.info3
  obtain ⟨c0, c1, c2⟩ := rf_cells h
  have H := Lib.hid h
  have f2 := (h.blk.alloc (.cells #[] 3)).frozen 2
  have c3 : (w.alloc (.cells #[] 3)).cell? ⟨b, 2, none⟩ = some v := by rw [(h.blk.alloc _).cell]; rfl
  obtain ⟨A, cap, rfl, hnil, hcap⟩ := own_slice h.own
  have HL := Lib.hid (lies_take (own_lies h.own) m)
  have H1 : RowKit.Hid (∀ u ∈ xs.take m, u.oneCell' = true) := Lib.hid (fun u hu => h1 u (List.mem_of_mem_take hu))
  have hml : (xs.take m).length = m := by simp; omega
  have HM := Lib.hid hml
  have hm2 : (m : Int) ≤ xs.length := by omega
  have hmc : m ≤ cap := by omega
  have hm6 : m ≤ 60000 := by omega
  have OE := Lib.hid (own_empty w base hbase)
  have HB := Lib.hid hbase
  clear h h1 hml
  cases A with
  | none =>
    obtain ⟨hx0, rfl⟩ := hnil rfl
    obtain rfl : m = 0 := by omega
    rw [hx0] at c2 c3 H
    have hz : (xs.length : Int) = 0 := by omega
    clear hnil
    go_enter Try.func19, Try.ntmps19
    go_wp2_with (at_builtin; refine wpList_append_turn _ rfl (.tmp 17) (.tmp 23) 28 rfl base 3 i0 (.int .i64 0) 8 Try.underlying28 hi hz0 hz1 hz2 rfl _ [] rfl OE.out none 0 [] rfl (fun h => by simp at h) (fun _ => rfl) (by simp) (by unfold maxLen; simp) (by simp) (by have := HB.out; simp; omega) ?_; intro v1 w1 ho hg hf; obtain ⟨A1, c1', rfl, _, _⟩ := own_slice ho; have HO := Lib.hid ho; have HG := Lib.hid (below_lit hg); have HF := Lib.hid (own_lit_ne hf); have d2 := (Blk.below' H.out.blk HG.out).cell 2; have g2 := (Blk.below' H.out.blk HG.out).frozen 2; clear ho hg hf)
    go_ret
    rw [List.take_zero, hx0]
    exact ⟨rfl, _, rturn_store (ys := []) H.out HO.out HG.out HF.out⟩
  | some a =>
    obtain ⟨g, rfl⟩ : ∃ g, a = ⟨g, 0, none⟩ := by
      rcases H.out.own.2 with ⟨h, _⟩ | ⟨g, cap', cur, h, _⟩
      · cases h
      · simp only [Value.slice.injEq, Option.some.injEq] at h
        exact ⟨g, h.1⟩
    clear hnil
    go_enter Try.func19, Try.ntmps19
    go_wp2_with (at_builtin; refine wpList_append_turn _ rfl (.tmp 17) (.tmp 23) 28 rfl base 3 i0 (.int .i64 0) 8 Try.underlying28 hi hz0 hz1 hz2 rfl _ [] rfl OE.out (some ⟨g, 0, none⟩) cap (xs.take m) (by rw [HM.out]; rfl) (HL.out.below (B1 _ _)) (fun h => by cases h) H1.out (by unfold maxLen; rw [HM.out]; simp; omega) (by rw [HM.out]; simp; omega) (by have := HB.out; simp; omega) ?_; intro v1 w1 ho hg hf; rw [List.nil_append] at ho; obtain ⟨A1, c1', rfl, _, _⟩ := own_slice ho; have HO := Lib.hid ho; have HG := Lib.hid (below_lit hg); have HF := Lib.hid (own_lit_ne hf); have d2 := (Blk.below' H.out.blk HG.out).cell 2; have g2 := (Blk.below' H.out.blk HG.out).frozen 2; clear ho hg hf)
    go_ret
    have t := rturn_store (ys := xs.take m) H.out HO.out HG.out HF.out
    rw [HM.out] at t
    exact ⟨rfl, _, t⟩
set_option maxHeartbeats 2000000 in
theorem rput_room (b : Nat) (most peak : Int) (v : Value) (xs : List Value) (base : Nat) (A : Option Addr) (c n : Nat) (l : List Value) (hln : l.length = n) (hnc : A = none → c = 0) (h1 : ∀ u ∈ xs, u.oneCell' = true) (h2 : ∀ u ∈ l, u.oneCell' = true) (hx : xs.length + n ≤ 60000) (hf : (xs.length : Int) + n ≤ most) (w : World) (hbase : base ≤ w.heap.size) (h : Rf w base b most peak v xs) (hl : Lies w A l) :
    Calls Try.prog 13 #[.pointer (some ⟨b, 0, none⟩), .slice A n c] w fun e w' => e = .returned (.tuple #[.int .i64 xs.length, .int .i64 0]) ∧ ∃ v', Rf w' base b most (max peak ((xs.length : Int) + n)) v' (xs ++ l) ∧ Turn w w' b v v' := by
  obtain ⟨i0, hi, hz0, hz1, hz2⟩ := info_parts Try.info3
  obtain ⟨c0, c1, c2⟩ := rf_cells h
  have H := Lib.hid h
  have c3 : (w.drewN 1).cell? ⟨b, 2, none⟩ = some v := c2
  obtain ⟨A0, cap, rfl, hnil, hcap⟩ := own_slice h.own
  have HL := Lib.hid (own_lies h.own)
  have HA := Lib.hid hl
  have H1 := Lib.hid h1
  have H2 := Lib.hid h2
  have HN := Lib.hid hln
  have NC := Lib.hid hnc
  have N0 : RowKit.Hid (A0 = none → cap = 0) := Lib.hid (fun e => (hnil e).2)
  have OE := Lib.hid (own_empty w base hbase)
  have HB := Lib.hid hbase
  obtain ⟨Z, eZ⟩ : ∃ Z : Int, Z = (xs.length : Int) + n := ⟨_, rfl⟩
  have hw : IntKind.i64.wrap ((xs.length : Int) + n) = Z := (IntWalk.i64_in _ (by omega)).trans (by omega)
  have hZ : ¬ most < Z := by omega
  have EZ := Lib.hid eZ
  clear h h1 h2 hln hnc hnil hl hf eZ
  go_enter Try.func13, Try.ntmps13
  go_wp2_with fail
  go_quiet (fail)
  obtain ⟨wq, ewq⟩ : ∃ u : World, u = w.drewN nq := ⟨_, rfl⟩
  have HQ : RowKit.Hid (Rf wq base b most peak (.slice A0 xs.length cap) xs) := Lib.hid (by rw [ewq]; exact H.out.kept rfl (fun _ _ => rfl))
  have EQ : RowKit.Hid (wq = w.drewN nq) := Lib.hid ewq
  have OE := Lib.hid (own_empty wq base (by rw [ewq]; exact HB.out))
  have c4 : (wq.alloc (.cells #[] 3)).cell? ⟨b, 2, none⟩ = some (.slice A0 xs.length cap) := by rw [(HQ.out.blk.alloc _).cell]; rfl
  have c5 : wq.cell? ⟨b, 2, none⟩ = some (.slice A0 xs.length cap) := (rf_cells HQ.out).2.2
  rw [← ewq]
  clear ewq c0 c1 c2 c3
  have HA2 : RowKit.Hid (Lies wq A l) := Lib.hid (by rw [EQ.out]; exact HA.out)
  have HBQ : RowKit.Hid (base ≤ wq.heap.size) := Lib.hid (by rw [EQ.out]; exact HB.out)
  go_wp2_with (first | (at_builtin; refine wpList_append_turn _ rfl (.tmp 26) (.tmp 30) 28 rfl base 3 i0 (.int .i64 0) 8 Try.underlying28 hi hz0 hz1 hz2 rfl _ [] rfl OE.out A0 cap xs rfl ((own_lies HQ.out.own).below (B1 _ _)) N0.out H1.out (by unfold maxLen; simp; omega) (by simp; omega) (by have := HBQ.out; simp; omega) ?_; intro v1 w1 ho hg hf; rw [List.nil_append] at ho; have HO := Lib.hid ho; have HG := Lib.hid (below_lit hg); have HF := Lib.hid (own_lit_ne hf); clear ho hg hf) | (at_builtin; refine wpList_append_turn _ rfl (.tmp 31) (.tmp 32) 28 rfl base 3 i0 (.int .i64 0) 8 Try.underlying28 hi hz0 hz1 hz2 rfl _ xs rfl HO.out A c l (by rw [HN.out]; rfl) (HA2.out.below HG.out) NC.out H2.out (by unfold maxLen; rw [HN.out]; omega) (by rw [HN.out]; omega) (by have := HG.out.size; have := HBQ.out; omega) ?_; intro v2 w2 ho hg hf; obtain ⟨A2, c2', rfl, _, _⟩ := own_slice ho; have hG2 := HG.out.grown hg HG.out.size (fun k e => HF.out k e); have hF2 : ∀ k, (Value.slice A2 (xs ++ l).length c2').ownBlock = some k → wq.heap.size ≤ k := (fun k e => (hf k e).elim (fun h => HF.out k h) (fun h => Nat.le_trans HG.out.size h)); have hst := rturn_store HQ.out ho hG2 hF2; have HST := Lib.hid hst; have g2 := (Blk.below' HQ.out.blk hG2).frozen 2; have g3 := (Blk.below' HQ.out.blk hG2).cell 2; clear ho hg hf hG2 hF2 hst))
  rw [← List.length_append]
  obtain ⟨wr, ewr⟩ : ∃ u, u = w2.setCell ⟨b, 2, none⟩ (.slice A2 (xs ++ l).length c2') := ⟨_, rfl⟩
  rw [← ewr]
  have HR : RowKit.Hid (Rf wr base b most peak (.slice A2 (xs ++ l).length c2') (xs ++ l) ∧ Turn wq wr b (.slice A0 xs.length cap) (.slice A2 (xs ++ l).length c2')) := Lib.hid (by rw [ewr]; exact HST.out)
  have hln : (xs ++ l).length = xs.length + n := by rw [List.length_append, HN.out]
  have c6 : wr.cell? ⟨b, 1, none⟩ = some (.int .i64 peak) := (rf_cells HR.out.1).2.1
  have c7 : wr.cell? ⟨b, 2, none⟩ = some (.slice A2 (xs.length + n) c2') := by rw [← hln]; exact (rf_cells HR.out.1).2.2
  have f6 := HR.out.1.blk.frozen 1
  have FIN : RowKit.Hid (∀ p : Int, p = max peak ((xs.length : Int) + n) → Rf ((wr.drewN 1).setCell ⟨b, 1, none⟩ (.int .i64 p)) base b most (max peak ((xs.length : Int) + n)) (.slice A2 (xs ++ l).length c2') (xs ++ l) ∧ Turn w ((wr.drewN 1).setCell ⟨b, 1, none⟩ (.int .i64 p)) b (.slice A0 xs.length cap) (.slice A2 (xs ++ l).length c2')) :=
    Lib.hid (fun p hp => by subst hp; exact rpeak HR.out.1 (by have := HR.out.2; rw [EQ.out] at this; exact this.ofDrew) 1 _)
  clear ewr HST c4 c5 g2 g3 hln
  go_region
  all_goals go_wp2_with fail
  all_goals
    go_ret2
    refine ⟨rfl, _, FIN.out _ ?_⟩
    omega
end Go.Proofs.Ytfcacgiejoeneaa

/- Contracts of the document's arena: Put, Set, Back. -/
import Derived.Test.YtfcacgiejoeneaaA1
set_option linter.unusedSimpArgs false
set_option linter.unusedVariables false
namespace Go.Proofs.Ytfcacgiejoeneaa
open Go Go.RowKit
/-- The document's arena in memory. -/
structure Rf (w : World) (base b : Nat) (most peak : Int) (v : Value) (xs : List Value) : Prop where
  lo : base ≤ b
  blk : Blk w b #[.int .i64 most, .int .i64 peak, v] 30
  own : w.ownsRow base 3 1 v xs.length xs
theorem rf_cells {w : World} {base b : Nat} {most peak : Int} {v : Value} {xs : List Value} (h : Rf w base b most peak v xs) :
    w.cell? ⟨b, 0, none⟩ = some (.int .i64 most) ∧ w.cell? ⟨b, 1, none⟩ = some (.int .i64 peak) ∧ w.cell? ⟨b, 2, none⟩ = some v :=
  ⟨by rw [h.blk.cell]; rfl, by rw [h.blk.cell]; rfl, by rw [h.blk.cell]; rfl⟩
theorem Rf.kept {w w' : World} {base b : Nat} {most peak : Int} {v : Value} {xs : List Value} (h : Rf w base b most peak v xs) (h1 : w'.heap[b]? = w.heap[b]?) (h2 : ∀ k, v.ownBlock = some k → w'.heap[k]? = w.heap[k]?) : Rf w' base b most peak v xs :=
  ⟨h.lo, h1.trans h.blk, own_kept h.own h2⟩
theorem Rf.below {w w' : World} {base b : Nat} {most peak : Int} {v : Value} {xs : List Value} (h : Rf w base b most peak v xs) (hb : Below w.heap.size w w') : Rf w' base b most peak v xs :=
  h.kept (hb.block b h.blk.lt) (fun k e => hb.block k (h.own.lt k e).2)
theorem Rf.other {w w' : World} {base b c : Nat} {most peak : Int} {v u u' : Value} {xs : List Value} (h : Rf w base b most peak v xs) (ht : Turn w w' c u u') (hbc : b ≠ c) (hu : u.ownBlock ≠ some b) (hvc : v.ownBlock ≠ some c) (hvu : ∀ k, v.ownBlock = some k → u.ownBlock ≠ some k) : Rf w' base b most peak v xs :=
  h.kept (ht.block b h.blk.lt hbc hu) (fun k e => ht.block k (h.own.lt k e).2 (fun h => hvc (by rw [e, h])) (hvu k e))
theorem Rf.turned {w w' : World} {base b : Nat} {most peak : Int} {v v' : Value} {xs : List Value} (h : Rf w base b most peak v xs) (ht : Turn w w' b v v') (hB : base ≤ w.heap.size) : Below base w w' :=
  ⟨ht.os, ht.tape, ht.output, ht.size, fun k hk => ht.block k (by omega) (by have := h.lo; omega) (fun e => by have := (h.own.lt k e).1; omega)⟩
set_option maxHeartbeats 1000000 in
theorem rput_full (b n c : Nat) (most peak : Int) (v : Value) (xs : List Value) (base : Nat) (A : Option Addr) (hf : most < xs.length + n) (hn : xs.length + n ≤ 60000) (w : World) (h : Rf w base b most peak v xs) :
    Calls Try.prog 13 #[.pointer (some ⟨b, 0, none⟩), .slice A n c] w fun e w' => e = .returned (.tuple #[.int .i64 0, .int .i64 12]) ∧ ∃ n, w' = w.drewN n := by
  obtain ⟨c0, c1, c2⟩ := rf_cells h
  obtain ⟨A0, cap, rfl, _, _⟩ := own_slice h.own
  obtain ⟨Z, eZ⟩ : ∃ Z : Int, Z = (xs.length : Int) + n := ⟨_, rfl⟩
  have hw : IntKind.i64.wrap ((xs.length : Int) + n) = Z := (IntWalk.i64_in _ (by omega)).trans (by omega)
  have hZ : most < Z := by omega
  clear h hf hn eZ
  go_enter Try.func13, Try.ntmps13
  go_wp2_with fail
  go_quiet (fail)
  go_wp2_with fail
  go_ret2
  exact ⟨rfl, _, rfl⟩
set_option maxHeartbeats 1000000 in
theorem rset_no (b : Nat) (most peak : Int) (v : Value) (xs : List Value) (base : Nat) (k x : Int) (hk : k < 0 ∨ (xs.length : Int) ≤ k) (w : World) (h : Rf w base b most peak v xs) :
    Calls Try.prog 17 #[.pointer (some ⟨b, 0, none⟩), .int .i64 k, .int .i64 x] w fun e w' => e = .returned (.int .i64 6) ∧ w = w' := by
  obtain ⟨c0, c1, c2⟩ := rf_cells h
  obtain ⟨A0, cap, rfl, _, _⟩ := own_slice h.own
  clear h
  by_cases h0 : k < 0
  · clear hk
    go_enter Try.func17, Try.ntmps17
    go_wp2_with fail
    go_ret
    exact ⟨rfl, rfl⟩
  · have h1 : 0 ≤ k := by omega
    have h2 : (xs.length : Int) ≤ k := by omega
    clear hk h0
    go_enter Try.func17, Try.ntmps17
    go_wp2_with fail
    go_ret
    exact ⟨rfl, rfl⟩
set_option maxHeartbeats 1000000 in
theorem rset_yes (b : Nat) (most peak : Int) (v : Value) (xs : List Value) (base k : Nat) (x : Int) (hk : k < xs.length) (w : World) (h : Rf w base b most peak v xs) :
    Calls Try.prog 17 #[.pointer (some ⟨b, 0, none⟩), .int .i64 k, .int .i64 x] w fun e w' => e = .returned (.int .i64 0) ∧ Rf w' base b most peak v (xs.set k (.int .i64 x)) ∧ Turn w w' b v v := by
  obtain ⟨c0, c1, c2⟩ := rf_cells h
  have H := Lib.hid h
  have hvb := own_ne h.own h.blk (by decide)
  obtain ⟨g, cap, rfl, _, _⟩ := own_shape h.own (by omega)
  have c4 := h.own.cellAt k (by omega)
  rw [List.getElem?_eq_getElem hk] at c4
  have f4 := h.own.frozenAt k
  have hlt2 : (k : Int) < xs.length := by omega
  have HO := Lib.hid (h.own.stored k (.int .i64 x))
  have hgb : b ≠ g := fun e => hvb (by rw [e]; rfl)
  clear h hvb
  go_enter Try.func17, Try.ntmps17
  go_wp2_with fail
  go_ret
  exact ⟨rfl, ⟨H.out.lo, (heap_setCell_other _ _ _ _ hgb).trans H.out.blk, by rw [List.length_set]; exact HO.out.1⟩, ⟨rfl, rfl, rfl, by simp [World.setCell], fun j hj h1 h2 => heap_setCell_other _ _ _ _ (fun e => h2 (by rw [e]; rfl)), fun k h => .inl h⟩⟩
set_option maxHeartbeats 1000000 in
theorem rback_bad (b : Nat) (most peak : Int) (v : Value) (xs : List Value) (base : Nat) (k : Int) (hk : k < 0 ∨ (xs.length : Int) < k) (w : World) (h : Rf w base b most peak v xs) :
    Calls Try.prog 19 #[.pointer (some ⟨b, 0, none⟩), .int .i64 k] w fun e w' => e = .returned (.int .i64 6) ∧ w = w' := by
  obtain ⟨c0, c1, c2⟩ := rf_cells h
  obtain ⟨A0, cap, rfl, _, _⟩ := own_slice h.own
  clear h
  by_cases h0 : k < 0
  · clear hk
    go_enter Try.func19, Try.ntmps19
    go_wp2_with fail
    go_ret
    exact ⟨rfl, rfl⟩
  · have h1 : 0 ≤ k := by omega
    have h2 : (xs.length : Int) < k := by omega
    clear hk h0
    go_enter Try.func19, Try.ntmps19
    go_wp2_with fail
    go_ret
    exact ⟨rfl, rfl⟩
end Go.Proofs.Ytfcacgiejoeneaa
namespace Go.Proofs.Ytfcacgiejoeneaa
open Go Go.RowKit
theorem lies_take {w : World} {A : Option Addr} {xs : List Value} (h : Lies w A xs) (m : Nat) : Lies w A (xs.take m) := by
  intro h0
  rw [List.length_take] at h0
  obtain ⟨b, o, e, hb, hc⟩ := h (by omega)
  refine ⟨b, o, e, hb, fun i hi => ?_⟩
  rw [List.length_take] at hi
  rw [hc i (by omega), List.getElem?_take, if_pos (by omega)]
theorem own_empty (w : World) (base : Nat) (hB : base ≤ w.heap.size) : (w.alloc (.cells #[] 3)).ownsRow base 3 1 (.slice (some ⟨w.heap.size, 0, none⟩) 0 0) ([] : List Value).length [] :=
  World.ownsRow_lit w #[] 0 hB (Nat.zero_le _) rfl
/-- The document's row is written anew. -/
theorem rturn_store {w w1 : World} {base b : Nat} {most peak : Int} {v v1 : Value} {xs : List Value} (ha : Rf w base b most peak v xs) {ys : List Value}
    (ho : w1.ownsRow base 3 1 v1 ys.length ys) (hb : Below w.heap.size w w1) (hf : ∀ k, v1.ownBlock = some k → w.heap.size ≤ k) :
    Rf (w1.setCell ⟨b, 2, none⟩ v1) base b most peak v1 ys ∧ Turn w (w1.setCell ⟨b, 2, none⟩ v1) b v v1 := by
  have hB : Blk w1 b #[.int .i64 most, .int .i64 peak, v] 30 := ha.blk.below' hb
  have hv1 := own_ne ho hB (by decide)
  refine ⟨⟨ha.lo, heap_setCell_same w1 b 2 _ 30 _ hB, own_kept ho (fun k e => heap_setCell_other _ _ _ _ (fun h => hv1 (by rw [e, show k = b from h])))⟩, ⟨hb.os, hb.tape, hb.output, by simpa [World.setCell] using hb.size, fun k hk h1 _ => ?_, fun k e => .inr (hf k e)⟩⟩
  rw [heap_setCell_other _ _ _ _ (show k ≠ b from h1)]
  exact hb.block k hk
theorem own_lit_ne {w : World} {v1 : Value} (hf : ∀ k, v1.ownBlock = some k → (Value.slice (some ⟨w.heap.size, 0, none⟩) 0 0).ownBlock = some k ∨ (w.alloc (.cells #[] 3)).heap.size ≤ k) : ∀ k, v1.ownBlock = some k → w.heap.size ≤ k := by
  intro k e
  rcases hf k e with h | h
  · simp [Value.ownBlock] at h; omega
  · simp at h; omega
theorem below_lit {w w1 : World} (hg : (w.alloc (.cells #[] 3)).grownBy w1 (Value.slice (some ⟨w.heap.size, 0, none⟩) 0 0).ownBlock) : Below w.heap.size w w1 :=
  (B1 w (.cells #[] 3)).grown hg (by simp) (fun k e => by simp [Value.ownBlock] at e; omega)
theorem rpeak {w wr : World} {base b : Nat} {most peak : Int} {v v2 : Value} {ys : List Value} (h : Rf wr base b most peak v2 ys) (ht : Turn w wr b v v2) (k : Nat) (p : Int) :
    Rf ((wr.drewN k).setCell ⟨b, 1, none⟩ (.int .i64 p)) base b most p v2 ys ∧ Turn w ((wr.drewN k).setCell ⟨b, 1, none⟩ (.int .i64 p)) b v v2 := by
  have hv := own_ne h.own h.blk (by decide)
  have hB : Blk (wr.drewN k) b #[.int .i64 most, .int .i64 peak, v2] 30 := h.blk
  refine ⟨⟨h.lo, heap_setCell_same (wr.drewN k) b 1 _ 30 _ hB, own_kept h.own (fun j e => heap_setCell_other (wr.drewN k) ⟨b, 1, none⟩ j _ (fun q => hv (by rw [e, show j = b from q])))⟩, ⟨ht.os, ht.tape, ht.output, by simpa [World.setCell] using ht.size, fun j hj h1 h2 => ?_, ht.fresh⟩⟩
  exact (heap_setCell_other (wr.drewN k) ⟨b, 1, none⟩ j _ (show j ≠ b from h1)).trans (ht.block j hj h1 h2)
set_option maxHeartbeats 1000000 in
theorem rback_good (b : Nat) (most peak : Int) (v : Value) (xs : List Value) (base m : Nat) (hm : m ≤ xs.length) (hx : xs.length ≤ 60000) (h1 : ∀ u ∈ xs, u.oneCell' = true) (w : World) (hbase : base ≤ w.heap.size) (h : Rf w base b most peak v xs) :
    Calls Try.prog 19 #[.pointer (some ⟨b, 0, none⟩), .int .i64 m] w fun e w' => e = .returned (.int .i64 0) ∧ ∃ v', Rf w' base b most peak v' (xs.take m) ∧ Turn w w' b v v' := by
  obtain ⟨i0, hi, hz0, hz1, hz2⟩ := info_parts Try.info3
  obtain ⟨c0, c1, c2⟩ := rf_cells h
  have H := Lib.hid h
  have f2 := (h.blk.alloc (.cells #[] 3)).frozen 2
  have c3 : (w.alloc (.cells #[] 3)).cell? ⟨b, 2, none⟩ = some v := by rw [(h.blk.alloc _).cell]; rfl
  obtain ⟨A, cap, rfl, hnil, hcap⟩ := own_slice h.own
  have HL := Lib.hid (lies_take (own_lies h.own) m)
  have H1 : RowKit.Hid (∀ u ∈ xs.take m, u.oneCell' = true) := Lib.hid (fun u hu => h1 u (List.mem_of_mem_take hu))
  have hml : (xs.take m).length = m := by simp; omega
  have HM := Lib.hid hml
  have hm2 : (m : Int) ≤ xs.length := by omega
  have hmc : m ≤ cap := by omega
  have hm6 : m ≤ 60000 := by omega
  have OE := Lib.hid (own_empty w base hbase)
  have HB := Lib.hid hbase
  clear h h1 hml
  cases A with
  | none =>
    obtain ⟨hx0, rfl⟩ := hnil rfl
    obtain rfl : m = 0 := by omega
    rw [hx0] at c2 c3 H
    have hz : (xs.length : Int) = 0 := by omega
    clear hnil
    go_enter Try.func19, Try.ntmps19
    go_wp2_with (at_builtin; refine wpList_append_turn _ rfl (.tmp 17) (.tmp 23) 28 rfl base 3 i0 (.int .i64 0) 8 Try.underlying28 hi hz0 hz1 hz2 rfl _ [] rfl OE.out none 0 [] rfl (fun h => by simp at h) (fun _ => rfl) (by simp) (by unfold maxLen; simp) (by simp) (by have := HB.out; simp; omega) ?_; intro v1 w1 ho hg hf; obtain ⟨A1, c1', rfl, _, _⟩ := own_slice ho; have HO := Lib.hid ho; have HG := Lib.hid (below_lit hg); have HF := Lib.hid (own_lit_ne hf); have d2 := (Blk.below' H.out.blk HG.out).cell 2; have g2 := (Blk.below' H.out.blk HG.out).frozen 2; clear ho hg hf)
    go_ret
    rw [List.take_zero, hx0]
    exact ⟨rfl, _, rturn_store (ys := []) H.out HO.out HG.out HF.out⟩
  | some a =>
    obtain ⟨g, rfl⟩ : ∃ g, a = ⟨g, 0, none⟩ := by
      rcases H.out.own.2 with ⟨h, _⟩ | ⟨g, cap', cur, h, _⟩
      · cases h
      · simp only [Value.slice.injEq, Option.some.injEq] at h
        exact ⟨g, h.1⟩
    clear hnil
    go_enter Try.func19, Try.ntmps19
    go_wp2_with (at_builtin; refine wpList_append_turn _ rfl (.tmp 17) (.tmp 23) 28 rfl base 3 i0 (.int .i64 0) 8 Try.underlying28 hi hz0 hz1 hz2 rfl _ [] rfl OE.out (some ⟨g, 0, none⟩) cap (xs.take m) (by rw [HM.out]; rfl) (HL.out.below (B1 _ _)) (fun h => by cases h) H1.out (by unfold maxLen; rw [HM.out]; simp; omega) (by rw [HM.out]; simp; omega) (by have := HB.out; simp; omega) ?_; intro v1 w1 ho hg hf; rw [List.nil_append] at ho; obtain ⟨A1, c1', rfl, _, _⟩ := own_slice ho; have HO := Lib.hid ho; have HG := Lib.hid (below_lit hg); have HF := Lib.hid (own_lit_ne hf); have d2 := (Blk.below' H.out.blk HG.out).cell 2; have g2 := (Blk.below' H.out.blk HG.out).frozen 2; clear ho hg hf)
    go_ret
    have t := rturn_store (ys := xs.take m) H.out HO.out HG.out HF.out
    rw [HM.out] at t
    exact ⟨rfl, _, t⟩
set_option maxHeartbeats 2000000 in
theorem rput_room (b : Nat) (most peak : Int) (v : Value) (xs : List Value) (base : Nat) (A : Option Addr) (c n : Nat) (l : List Value) (hln : l.length = n) (hnc : A = none → c = 0) (h1 : ∀ u ∈ xs, u.oneCell' = true) (h2 : ∀ u ∈ l, u.oneCell' = true) (hx : xs.length + n ≤ 60000) (hf : (xs.length : Int) + n ≤ most) (w : World) (hbase : base ≤ w.heap.size) (h : Rf w base b most peak v xs) (hl : Lies w A l) :
    Calls Try.prog 13 #[.pointer (some ⟨b, 0, none⟩), .slice A n c] w fun e w' => e = .returned (.tuple #[.int .i64 xs.length, .int .i64 0]) ∧ ∃ v', Rf w' base b most (max peak ((xs.length : Int) + n)) v' (xs ++ l) ∧ Turn w w' b v v' := by
  obtain ⟨i0, hi, hz0, hz1, hz2⟩ := info_parts Try.info3
  obtain ⟨c0, c1, c2⟩ := rf_cells h
  have H := Lib.hid h
  have c3 : (w.drewN 1).cell? ⟨b, 2, none⟩ = some v := c2
  obtain ⟨A0, cap, rfl, hnil, hcap⟩ := own_slice h.own
  have HL := Lib.hid (own_lies h.own)
  have HA := Lib.hid hl
  have H1 := Lib.hid h1
  have H2 := Lib.hid h2
  have HN := Lib.hid hln
  have NC := Lib.hid hnc
  have N0 : RowKit.Hid (A0 = none → cap = 0) := Lib.hid (fun e => (hnil e).2)
  have OE := Lib.hid (own_empty w base hbase)
  have HB := Lib.hid hbase
  obtain ⟨Z, eZ⟩ : ∃ Z : Int, Z = (xs.length : Int) + n := ⟨_, rfl⟩
  have hw : IntKind.i64.wrap ((xs.length : Int) + n) = Z := (IntWalk.i64_in _ (by omega)).trans (by omega)
  have hZ : ¬ most < Z := by omega
  have EZ := Lib.hid eZ
  clear h h1 h2 hln hnc hnil hl hf eZ
  go_enter Try.func13, Try.ntmps13
  go_wp2_with fail
  go_quiet (fail)
  obtain ⟨wq, ewq⟩ : ∃ u : World, u = w.drewN nq := ⟨_, rfl⟩
  have HQ : RowKit.Hid (Rf wq base b most peak (.slice A0 xs.length cap) xs) := Lib.hid (by rw [ewq]; exact H.out.kept rfl (fun _ _ => rfl))
  have EQ : RowKit.Hid (wq = w.drewN nq) := Lib.hid ewq
  have OE := Lib.hid (own_empty wq base (by rw [ewq]; exact HB.out))
  have c4 : (wq.alloc (.cells #[] 3)).cell? ⟨b, 2, none⟩ = some (.slice A0 xs.length cap) := by rw [(HQ.out.blk.alloc _).cell]; rfl
  have c5 : wq.cell? ⟨b, 2, none⟩ = some (.slice A0 xs.length cap) := (rf_cells HQ.out).2.2
  rw [← ewq]
  clear ewq c0 c1 c2 c3
  have HA2 : RowKit.Hid (Lies wq A l) := Lib.hid (by rw [EQ.out]; exact HA.out)
  have HBQ : RowKit.Hid (base ≤ wq.heap.size) := Lib.hid (by rw [EQ.out]; exact HB.out)
  go_wp2_with (first | (at_builtin; refine wpList_append_turn _ rfl (.tmp 26) (.tmp 30) 28 rfl base 3 i0 (.int .i64 0) 8 Try.underlying28 hi hz0 hz1 hz2 rfl _ [] rfl OE.out A0 cap xs rfl ((own_lies HQ.out.own).below (B1 _ _)) N0.out H1.out (by unfold maxLen; simp; omega) (by simp; omega) (by have := HBQ.out; simp; omega) ?_; intro v1 w1 ho hg hf; rw [List.nil_append] at ho; have HO := Lib.hid ho; have HG := Lib.hid (below_lit hg); have HF := Lib.hid (own_lit_ne hf); clear ho hg hf) | (at_builtin; refine wpList_append_turn _ rfl (.tmp 31) (.tmp 32) 28 rfl base 3 i0 (.int .i64 0) 8 Try.underlying28 hi hz0 hz1 hz2 rfl _ xs rfl HO.out A c l (by rw [HN.out]; rfl) (HA2.out.below HG.out) NC.out H2.out (by unfold maxLen; rw [HN.out]; omega) (by rw [HN.out]; omega) (by have := HG.out.size; have := HBQ.out; omega) ?_; intro v2 w2 ho hg hf; obtain ⟨A2, c2', rfl, _, _⟩ := own_slice ho; have hG2 := HG.out.grown hg HG.out.size (fun k e => HF.out k e); have hF2 : ∀ k, (Value.slice A2 (xs ++ l).length c2').ownBlock = some k → wq.heap.size ≤ k := (fun k e => (hf k e).elim (fun h => HF.out k h) (fun h => Nat.le_trans HG.out.size h)); have hst := rturn_store HQ.out ho hG2 hF2; have HST := Lib.hid hst; have g2 := (Blk.below' HQ.out.blk hG2).frozen 2; have g3 := (Blk.below' HQ.out.blk hG2).cell 2; clear ho hg hf hG2 hF2 hst))
  rw [← List.length_append]
  obtain ⟨wr, ewr⟩ : ∃ u, u = w2.setCell ⟨b, 2, none⟩ (.slice A2 (xs ++ l).length c2') := ⟨_, rfl⟩
  rw [← ewr]
  have HR : RowKit.Hid (Rf wr base b most peak (.slice A2 (xs ++ l).length c2') (xs ++ l) ∧ Turn wq wr b (.slice A0 xs.length cap) (.slice A2 (xs ++ l).length c2')) := Lib.hid (by rw [ewr]; exact HST.out)
  have hln : (xs ++ l).length = xs.length + n := by rw [List.length_append, HN.out]
  have c6 : wr.cell? ⟨b, 1, none⟩ = some (.int .i64 peak) := (rf_cells HR.out.1).2.1
  have c7 : wr.cell? ⟨b, 2, none⟩ = some (.slice A2 (xs.length + n) c2') := by rw [← hln]; exact (rf_cells HR.out.1).2.2
  have f6 := HR.out.1.blk.frozen 1
  have FIN : RowKit.Hid (∀ p : Int, p = max peak ((xs.length : Int) + n) → Rf ((wr.drewN 1).setCell ⟨b, 1, none⟩ (.int .i64 p)) base b most (max peak ((xs.length : Int) + n)) (.slice A2 (xs ++ l).length c2') (xs ++ l) ∧ Turn w ((wr.drewN 1).setCell ⟨b, 1, none⟩ (.int .i64 p)) b (.slice A0 xs.length cap) (.slice A2 (xs ++ l).length c2')) :=
    Lib.hid (fun p hp => by subst hp; exact rpeak HR.out.1 (by have := HR.out.2; rw [EQ.out] at this; exact this.ofDrew) 1 _)
  clear ewr HST c4 c5 g2 g3 hln
  go_region
  all_goals go_wp2_with fail
  all_goals
    go_ret2
    refine ⟨rfl, _, FIN.out _ ?_⟩
    omega
end Go.Proofs.Ytfcacgiejoeneaa
namespace Go.Proofs.Ytfcacgiejoeneaa
open Go Go.RowKit
def mkn (i : Nat) : Int := ((1000003 * (1 + 7) + i : Nat) : Int)
def marks (n : Nat) : List Int := (List.range n).map mkn
theorem marks_length (n : Nat) : (marks n).length = n := by simp [marks]
theorem marks_succ (n : Nat) : marks (n + 1) = marks n ++ [mkn n] := by simp [marks, List.range_succ]
set_option maxRecDepth 100000 in
set_option maxHeartbeats 2000000 in
theorem lent_any (A : Option Addr) (l : List Int) (c : Nat) (hl : l.length ≤ 60000) (hnc : A = none → c = 0) (w : World) (h : Lies w A (ints l)) :
    Calls Try.prog 11 #[.slice A l.length c] w fun e w' => (∃ g cap, e = .returned (.slice (some ⟨g, 0, none⟩) l.length cap) ∧ w.heap.size ≤ g ∧ w'.ownsRow w.heap.size 3 1 (.slice (some ⟨g, 0, none⟩) (ints (l ++ marks 12)).length cap) (ints (l ++ marks 12)).length (ints (l ++ marks 12))) ∧ Below w.heap.size w w' := by
  obtain ⟨i0, hi, hz0, hz1, hz2⟩ := info_parts Try.info3
  have HT := Lib.hid h
  have HN := Lib.hid hnc
  have hil := ints_length l
  have HIL := Lib.hid hil
  clear h hnc hil
  go_enter Try.func11, Try.ntmps11
  go_wp2_with (first | (at_make; refine wpList_make_own _ rfl _ _ 28 rfl w.heap.size 3 i0 (.int .i64 0) 1 Try.underlying28 hi hz0 hz1 .i64 .i64 _ (l.length + 12) rfl rfl (by omega) (by rw [hz2]; omega) (by unfold maxLen; omega) (Nat.le_refl _) ?_; intro w0 hown0 hgrow0; have H0 := Lib.hid ((Below.refl w.heap.size w).grown hgrow0 (Nat.le_refl _) (fun k hk => by cases hk)); have O0 := Lib.hid hown0; clear hgrow0 hown0) | (at_builtin; refine wpList_append_turn _ rfl (.tmp 9) (.tmp 10) 28 rfl w.heap.size 3 i0 (.int .i64 0) 8 Try.underlying28 hi hz0 hz1 hz2 rfl _ [] rfl O0.out A c (ints l) (by rw [HIL.out]; rfl) (HT.out.below H0.out) HN.out (ints_one l) (by unfold maxLen; rw [HIL.out]; simp; omega) (by rw [HIL.out]; simp; omega) H0.out.size ?_; intro v1 w1 hown1 hg1 _; have H1 := Lib.hid (H0.out.grown hg1 H0.out.size (fun k hk => (O0.out.lt k hk).1)); rw [List.nil_append] at hown1; have O1 := Lib.hid hown1; clear hg1 hown1))
  go_loopw [3, 4] (fun v i wr => ∃ k : Nat, k ≤ 12 ∧ i = .int .i64 k ∧ wr.ownsRow w.heap.size 3 1 v (ints (l ++ marks k)).length (ints (l ++ marks k)) ∧ Below w.heap.size w wr) (fun _ i _ => 12 - (intOf i).toNat)
  case atStart => exact ⟨0, by omega, rfl, by simpa [marks] using O1.out, H1.out⟩
  case round =>
    clear O1 H1
    obtain ⟨k, hk, rfl, hown, hb⟩ := hrel
    have HO := Lib.hid hown
    have HB := Lib.hid hb
    have hz := hb.size
    clear hown hb
    by_cases hlt : k < 12
    · have M := Lib.hid (fun W => mark_any 1 k (by omega) (by omega) W)
      have hkl : (ints (l ++ marks k)).length = l.length + k := by rw [ints_length, List.length_append, marks_length]
      have HKL := Lib.hid hkl
      clear hkl
      go_wp2_with (first | (go_at_call 35; refine (M.out _).mono ?_; rintro e w2 ⟨rfl, rfl⟩) | (at_builtin; refine wpList_append_turn _ rfl (.tmp 16) (.tmp 19) 28 rfl w.heap.size 3 i0 (.int .i64 0) 8 Try.underlying28 hi hz0 hz1 hz2 rfl _ (ints (l ++ marks k)) rfl (HO.out.alloc _) (some ⟨wr.heap.size, 0, none⟩) 1 [.int .i64 (mkn k)] rfl (lies_one _ _ _) (fun h => by cases h) (by simp [Value.oneCell']) (by unfold maxLen; rw [HKL.out]; simp; omega) (by rw [HKL.out]; simp; omega) (by simp; omega) ?_; intro v' w3 hown' hgrow _; have O3 := Lib.hid hown'; have G3 := Lib.hid hgrow; clear hown' hgrow))
      go_roundw
      case rel => exact ⟨k + 1, by omega, by go_num, by have := O3.out; rw [marks_succ, ← List.append_assoc, ints_app (l ++ marks k)]; exact this, (HB.out.alloc HB.out.size _).grown G3.out (by have := HB.out.size; simp; omega) (fun g hg => (HO.out.lt g hg).1)⟩
      case measure => simp [intOf]; omega
    · obtain rfl : k = 12 := by omega
      have hn : (ints (l ++ marks 12)).length = l.length + 12 := by rw [ints_length, List.length_append, marks_length]
      obtain ⟨g, cap, rfl, hg1, hg2, hg3, _⟩ := own_shape HO.out (by rw [hn]; omega)
      unfold maxLen at hg3
      have hq1 : l.length ≤ cap := by omega
      clear hn
      go_wp2_with fail
      go_ret
      exact ⟨⟨g, cap, rfl, hg1, HO.out⟩, HB.out⟩
/-- Lent: numbers, their marks behind them. -/
def Lent (w : World) (g : Nat) (l : List Int) : Prop := g < w.heap.size ∧ ∀ i, i < l.length + 12 → w.cell? ⟨g, i, none⟩ = some (.int .i64 ((l ++ marks 12).getD i 0))
theorem Lent.of_own {w : World} {base g cap : Nat} {l : List Int} (h : w.ownsRow base 3 1 (.slice (some ⟨g, 0, none⟩) (ints (l ++ marks 12)).length cap) (ints (l ++ marks 12)).length (ints (l ++ marks 12))) : Lent w g l ∧ l.length + 12 ≤ cap ∧ cap ≤ maxLen := by
  have hn : (ints (l ++ marks 12)).length = l.length + 12 := by rw [ints_length, List.length_append, marks_length]
  obtain ⟨g', cap', e, _, h1, h2, h3⟩ := own_shape h (by omega)
  cases e
  refine ⟨⟨h3, fun i hi => ?_⟩, by omega, h2⟩
  rw [h.cellAt i (by omega), ints_at (by rw [List.length_append, marks_length]; omega)]
theorem lent_text {l : List Int} {i : Nat} (h : i < l.length) : (l ++ marks 12).getD i 0 = l.getD i 0 := by
  rw [List.getD_eq_getElem?_getD, List.getD_eq_getElem?_getD, List.getElem?_append_left h]
theorem lent_mark {l : List Int} {i : Nat} (h : l.length ≤ i) (h2 : i < l.length + 12) : (l ++ marks 12).getD i 0 = mkn (i - l.length) := by
  rw [List.getD_eq_getElem?_getD, List.getElem?_append_right h, marks, List.getElem?_map, List.getElem?_range (by omega), Option.map_some, Option.getD_some]
end Go.Proofs.Ytfcacgiejoeneaa
namespace Go.Proofs.Ytfcacgiejoeneaa
open Go Go.RowKit
set_option maxRecDepth 100000 in
set_option maxHeartbeats 2000000 in
theorem kept_any (A : Option Addr) (l : List Int) (c g cap : Nat) (hl : l.length ≤ 60000) (hc : l.length + 12 ≤ cap) (hm : cap ≤ 9223372036854775807) (w : World) (h : Lies w A (ints l)) (hg : Lent w g l) :
    Calls Try.prog 14 #[.slice (some ⟨g, 0, none⟩) l.length cap, .slice A l.length c] w fun e w' => e = .returned (.bool true) ∧ ∃ n, w' = w.drewN n := by
  have HT := Lib.hid h
  have HG := Lib.hid hg
  clear h hg
  go_enter Try.func14, Try.ntmps14
  go_wp2_with fail
  go_loopw [6] (fun i wr => ∃ k : Nat, k ≤ l.length + 12 ∧ i = .int .i64 k ∧ ∃ n, wr = w.drewN n) (fun i _ => l.length + 12 - (intOf i).toNat)
  case atStart => exact ⟨0, by omega, rfl, 0, rfl⟩
  case round =>
    obtain ⟨k, hk, rfl, hq⟩ := hrel
    have HC0 : ∀ b o, wr.cell? ⟨b, o, none⟩ = w.cell? ⟨b, o, none⟩ := by obtain ⟨n, rfl⟩ := hq; exact fun _ _ => rfl
    have HC := Lib.hid HC0
    have HQ := Lib.hid hq
    clear hq HC0
    by_cases hlt : k < l.length
    · have c10 := HG.out.2 k (by omega)
      rw [lent_text hlt] at c10
      obtain ⟨tb, to, rfl, _, c20⟩ := lies_cell HT.out hlt
      have c1 := (HC.out _ _).trans c10
      have c2 := (HC.out _ _).trans c20
      clear c10 c20
      generalize l.getD k 0 = v at c1 c2
      have hi1 : (k : Int) < l.length := by omega
      have hi2 : (k : Int) < (l.length : Int) + 12 := by omega
      have hd : decide ((k : Int) < l.length) = true := by simpa using hlt
      have hd2 : decide (k < l.length) = true := by simpa using hlt
      have hd3 : decide ((l.length : Int) ≤ k) = false := by simp; omega
      have hd4 : decide (l.length ≤ k) = false := by simp; omega
      go_wp2_with fail
      go_quiet (fail)
      go_wp2_with fail
      go_roundw
      case rel => exact ⟨k + 1, by omega, by go_num, by obtain ⟨n, rfl⟩ := HQ.out; exact ⟨_, World.drewN_drewN _ _ _⟩⟩
      case measure => simp [intOf]; omega
    · by_cases hle : k < l.length + 12
      · have c10 := HG.out.2 k hle
        rw [lent_mark (by omega) hle] at c10
        have c1 := (HC.out _ _).trans c10
        clear c10
        have M0 : ∀ W : World, Calls Try.prog 35 #[.int .i64 1, .int .i64 (k - l.length : Nat)] W fun e w' => e = .returned (.int .i64 (mkn (k - l.length))) ∧ W = w' := fun W => mark_any 1 (k - l.length) (by omega) (by omega) W
        generalize mkn (k - l.length) = v at c1 M0
        have M := Lib.hid M0
        clear M0
        have hi2 : (k : Int) < (l.length : Int) + 12 := by omega
        have hw : IntKind.i64.wrap ((k : Int) - l.length) = ((k - l.length : Nat) : Int) := (IntWalk.i64_in _ (by omega)).trans (by omega)
        have hd : decide ((k : Int) < l.length) = false := by simp; omega
        have hd2 : decide (k < l.length) = false := by simp; omega
        have hd3 : decide ((l.length : Int) ≤ k) = true := by simp; omega
        have hd4 : decide (l.length ≤ k) = true := by simp; omega
        go_wp2_with fail
        go_quiet ((go_at_call 35; exact q_left (M.out _)))
        go_wp2_with fail
        go_roundw
        case rel => exact ⟨k + 1, by omega, by go_num, by obtain ⟨n, rfl⟩ := HQ.out; exact ⟨_, World.drewN_drewN _ _ _⟩⟩
        case measure => simp [intOf]; omega
      · have hi2 : (l.length : Int) + 12 ≤ k := by omega
        go_wp2_with fail
        go_ret
        exact ⟨rfl, HQ.out⟩
theorem own_wide {w : World} {base g cap n : Nat} {xs : List Value} (h : w.ownsRow base 3 1 (.slice (some ⟨g, 0, none⟩) n cap) n xs) (k : Nat) (hk : k ≤ cap) : ∃ ys, w.ownsRow base 3 1 (.slice (some ⟨g, 0, none⟩) k cap) k ys := by
  rcases h.2 with ⟨e, _⟩ | ⟨g', cap', cur, e, hb, hh, h1, h2, h3, h4⟩
  · cases e
  · simp only [Value.slice.injEq, Option.some.injEq, Addr.mk.injEq] at e
    obtain ⟨⟨rfl, _⟩, _, rfl⟩ := e
    exact ⟨cur.toList.take (k * 1), by simp; omega, .inr ⟨g, cap, cur, rfl, hb, hh, hk, h2, h3, rfl⟩⟩
set_option maxRecDepth 100000 in
set_option maxHeartbeats 2000000 in
theorem over_any (base g cap n m : Nat) (xs : List Value) (hn : m ≤ 60000) (w : World) (h : w.ownsRow base 3 1 (.slice (some ⟨g, 0, none⟩) n cap) n xs) (hmn : m + 12 ≤ cap) (hcm : cap ≤ 9223372036854775807) :
    Calls Try.prog 15 #[.slice (some ⟨g, 0, none⟩) m cap] w fun e w' => e = .returned (.tuple #[]) ∧ w.grownBy w' (some g) := by
  obtain ⟨ys0, hown0⟩ := own_wide h (m + 12) hmn
  have HO := Lib.hid hown0
  have hmi : min (cap : Int) ((m : Int) + 12) = ((m + 12 : Nat) : Int) := by omega
  have hmi2 : (min (cap : Int) ((m : Int) + 12)).toNat = m + 12 := by omega
  have hmcI : ((m + 12 : Nat) : Int) ≤ (cap : Int) := by omega
  obtain ⟨q, eq⟩ : ∃ q, q = m + 12 := ⟨_, rfl⟩
  rw [← eq] at hmi hmi2 hmcI HO hmn
  have hq6 : q ≤ 60012 := by omega
  have hq3 : ((m : Int) + 12).toNat = q := by omega
  rcases Nat.lt_or_ge q cap with hA | hA
  · have hB : (m : Int) + 12 < (cap : Int) := by omega
    clear h hown0 eq hmi hmi2
    go_enter Try.func15, Try.ntmps15
    go_wp2_with fail
    go_loopw [3] (fun i wr => ∃ k : Nat, k ≤ q ∧ i = .int .i64 k ∧ w.grownBy wr (some g) ∧ ∃ ys, wr.ownsRow base 3 1 (.slice (some ⟨g, 0, none⟩) q cap) q ys) (fun i _ => q - (intOf i).toNat)
    case atStart => exact ⟨0, by omega, rfl, World.grownBy.refl _ _, _, HO.out⟩
    case round =>
      obtain ⟨k, hk, rfl, hgr, ys, hown⟩ := hrel
      by_cases hlt : k < q
      · have M := Lib.hid (fun W => mark_any 2 k (by omega) (by omega) W)
        obtain ⟨u, c1⟩ : ∃ u, wr.cell? ⟨g, k, none⟩ = some u := by
          have hlen := hown.1
          have c1 := hown.cellAt k (by omega)
          rw [List.getElem?_eq_getElem (show k < ys.length by omega)] at c1
          exact ⟨_, c1⟩
        have f1 := hown.frozenAt k
        have HW := Lib.hid hown
        have HR := Lib.hid hgr
        clear hown hgr
        have hi2 : (k : Int) < (q : Int) := by omega
        go_wp2_with (go_at_call 35; refine (M.out _).mono ?_; rintro e w2 ⟨rfl, rfl⟩)
        go_roundw
        case rel => exact ⟨k + 1, by omega, by go_num, by
          obtain ⟨q1, q2⟩ := HW.out.stored k _
          exact ⟨⟨q2.os.trans HR.out.os, q2.tape.trans HR.out.tape, q2.output.trans HR.out.output, Nat.le_trans HR.out.size q2.size, fun i hi hne => (q2.block i (Nat.lt_of_lt_of_le hi HR.out.size) hne).trans (HR.out.block i hi hne)⟩, _, q1⟩⟩
        case measure => simp [intOf]; omega
      · have hi2 : (q : Int) ≤ k := by omega
        have HR := Lib.hid hgr
        clear hgr hown
        go_wp2_with fail
        go_end0
        exact ⟨rfl, HR.out⟩
  · obtain rfl : cap = q := by omega
    have hB : (cap : Int) ≤ (m : Int) + 12 := by omega
    clear h hown0 eq hmi hmi2 hq3
    go_enter Try.func15, Try.ntmps15
    go_wp2_with fail
    go_loopw [3] (fun i wr => ∃ k : Nat, k ≤ cap ∧ i = .int .i64 k ∧ w.grownBy wr (some g) ∧ ∃ ys, wr.ownsRow base 3 1 (.slice (some ⟨g, 0, none⟩) cap cap) cap ys) (fun i _ => cap - (intOf i).toNat)
    case atStart => exact ⟨0, by omega, rfl, World.grownBy.refl _ _, _, HO.out⟩
    case round =>
      obtain ⟨k, hk, rfl, hgr, ys, hown⟩ := hrel
      by_cases hlt : k < cap
      · have M := Lib.hid (fun W => mark_any 2 k (by omega) (by omega) W)
        obtain ⟨u, c1⟩ : ∃ u, wr.cell? ⟨g, k, none⟩ = some u := by
          have hlen := hown.1
          have c1 := hown.cellAt k (by omega)
          rw [List.getElem?_eq_getElem (show k < ys.length by omega)] at c1
          exact ⟨_, c1⟩
        have f1 := hown.frozenAt k
        have HW := Lib.hid hown
        have HR := Lib.hid hgr
        clear hown hgr
        have hi2 : (k : Int) < (cap : Int) := by omega
        go_wp2_with (go_at_call 35; refine (M.out _).mono ?_; rintro e w2 ⟨rfl, rfl⟩)
        go_roundw
        case rel => exact ⟨k + 1, by omega, by go_num, by
          obtain ⟨q1, q2⟩ := HW.out.stored k _
          exact ⟨⟨q2.os.trans HR.out.os, q2.tape.trans HR.out.tape, q2.output.trans HR.out.output, Nat.le_trans HR.out.size q2.size, fun i hi hne => (q2.block i (Nat.lt_of_lt_of_le hi HR.out.size) hne).trans (HR.out.block i hi hne)⟩, _, q1⟩⟩
        case measure => simp [intOf]; omega
      · have hi2 : (cap : Int) ≤ k := by omega
        have HR := Lib.hid hgr
        clear hgr hown
        go_wp2_with fail
        go_end0
        exact ⟨rfl, HR.out⟩
end Go.Proofs.Ytfcacgiejoeneaa
namespace Go.Proofs.Ytfcacgiejoeneaa
open Go Go.RowKit
/-- A deed: what it is, three numbers of it, where its things lie, its things. -/
structure Deed where
  what : Int
  n : Int
  x : Int
  A : Option Addr
  c : Nat
  l : List Int
def Deed.zero : Deed := ⟨0, 0, 0, none, 0, []⟩
/-- Deeds in memory. -/
def Deeds (w : World) (A : Option Addr) (ds : List Deed) : Prop :=
  0 < ds.length → ∃ b o, A = some ⟨b, o, none⟩ ∧ b < w.heap.size ∧ ∀ i, i < ds.length → w.cell? ⟨b, o + i * 4, none⟩ = some (.int .i64 (ds.getD i Deed.zero).what) ∧ w.cell? ⟨b, o + i * 4 + 1, none⟩ = some (.int .i64 (ds.getD i Deed.zero).n) ∧
    w.cell? ⟨b, o + i * 4 + 2, none⟩ = some (.int .i64 (ds.getD i Deed.zero).x) ∧ w.cell? ⟨b, o + i * 4 + 3, none⟩ = some (.slice (ds.getD i Deed.zero).A (ds.getD i Deed.zero).l.length (ds.getD i Deed.zero).c)
theorem Deeds.below {w w' : World} {A : Option Addr} {ds : List Deed} (h : Deeds w A ds) (hb : Below w.heap.size w w') : Deeds w' A ds := by
  intro h0
  obtain ⟨b, o, e, hl, hc⟩ := h h0
  have k : ∀ j, w'.cell? ⟨b, j, none⟩ = w.cell? ⟨b, j, none⟩ := fun j => hb.cell (p := ⟨b, j, none⟩) hl
  exact ⟨b, o, e, Nat.lt_of_lt_of_le hl hb.size, fun i hi => by rw [k, k, k, k]; exact hc i hi⟩
/-- How many things the deeds have. -/
def things (ds : List Deed) : Nat := (ds.map fun d => d.l.length).sum
theorem things_take {ds : List Deed} {i : Nat} (h : i < ds.length) : things (ds.take (i + 1)) = things (ds.take i) + (ds.getD i Deed.zero).l.length := by
  unfold things
  rw [List.take_succ_eq_append_getElem h, List.map_append, List.sum_append]
  simp [List.getD, List.getElem?_eq_getElem h]
theorem things_le (ds : List Deed) (k : Nat) : things (ds.take k) ≤ things ds := by
  have : things ds = things (ds.take k) + things (ds.drop k) := by
    unfold things
    rw [← List.sum_append, ← List.map_append, List.take_append_drop]
  omega
set_option maxHeartbeats 1000000 in
theorem size_both (A : Option Addr) (ds : List Deed) (c : Nat) (hd : ds.length ≤ 140737488351232) (hl : ∀ d ∈ ds, d.l.length ≤ 140737488351232) (w : World) (h : Deeds w A ds) :
    Calls Try.prog 7 #[.slice A ds.length c] w fun e w' => (∃ z : Int, e = .returned (.int .i64 z) ∧ (z ≤ 400 → (ds.length + things ds : Nat) ≤ 400) ∧ ((ds.length + things ds : Nat) ≤ 400 → z ≤ 400)) ∧ w = w' := by
  have H := Lib.hid h
  have HL := Lib.hid hl
  clear h hl
  go_enter Try.func7, Try.ntmps7
  go_wp2_with fail
  go_loopw [3, 4] (fun s i wr => ∃ (k : Nat) (n : Int), k ≤ ds.length ∧ s = .int .i64 n ∧ i = .int .i64 k ∧ n = (ds.length + things (ds.take k) : Nat) ∧ n ≤ 281474976711064 ∧ 0 ≤ n ∧ wr = w) (fun _ i _ => ds.length - (intOf i).toNat)
  case atStart => exact ⟨0, ds.length, by omega, rfl, rfl, by simp [things], by omega, by omega, rfl⟩
  case round =>
    obtain ⟨k, n, hk, rfl, rfl, hn, hn2, hn0, rfl⟩ := hrel
    have HN := Lib.hid hn
    clear hn
    by_cases hlt : k < ds.length
    · have hlt2 : (k : Int) < ds.length := by omega
      by_cases hle : n ≤ 400
      · obtain ⟨b, o, rfl, _, hc⟩ := H.out (by omega)
        obtain ⟨_, _, _, c3⟩ := hc k hlt
        have hx := HL.out (ds.getD k Deed.zero) (by simp [List.getD, List.getElem?_eq_getElem hlt])
        have ht := things_take hlt
        generalize ds.getD k Deed.zero = d at c3 hx ht
        have HT := Lib.hid ht
        obtain ⟨m, em⟩ : ∃ m, m = d.l.length := ⟨_, rfl⟩
        rw [← em] at c3 hx
        have EM := Lib.hid em
        clear hc ht em
        go_wp2_with fail
        go_roundw
        case rel => exact ⟨k + 1, n + m, hlt, by go_num, by go_num, by have h1 := HN.out; have h2 := HT.out; have h3 := EM.out; omega, by omega, by omega, by first | trivial | rfl⟩
        case measure => simp [intOf]; omega
      · have hle2 : 400 < n := by omega
        clear hle
        go_wp2_with fail
        go_ret
        exact ⟨⟨n, rfl, fun h => by omega, fun h => by have h1 := HN.out; have h2 := things_le ds k; omega⟩, by first | trivial | rfl⟩
    · obtain rfl : k = ds.length := by omega
      have hlt2 : ¬ (ds.length : Int) < ds.length := by omega
      go_wp2_with fail
      go_ret
      exact ⟨⟨n, rfl, fun h => by have h1 := HN.out; rw [List.take_length] at h1; omega, fun h => by have h1 := HN.out; rw [List.take_length] at h1; omega⟩, by first | trivial | rfl⟩
theorem size_any (A : Option Addr) (ds : List Deed) (c : Nat) (hd : ds.length ≤ 140737488351232) (hl : ∀ d ∈ ds, d.l.length ≤ 140737488351232) (w : World) (h : Deeds w A ds) :
    Calls Try.prog 7 #[.slice A ds.length c] w fun e w' => (∃ z : Int, e = .returned (.int .i64 z) ∧ (z ≤ 400 → (ds.length + things ds : Nat) ≤ 400)) ∧ w = w' :=
  (size_both A ds c hd hl w h).mono fun _ _ ⟨⟨z, h1, h2, _⟩, h3⟩ => ⟨⟨z, h1, h2⟩, h3⟩
theorem size_yes (A : Option Addr) (ds : List Deed) (c : Nat) (hd : ds.length ≤ 140737488351232) (hl : ∀ d ∈ ds, d.l.length ≤ 140737488351232) (ht : ds.length + things ds ≤ 400) (w : World) (h : Deeds w A ds) :
    Calls Try.prog 7 #[.slice A ds.length c] w fun e w' => (∃ z : Int, e = .returned (.int .i64 z) ∧ z ≤ 400) ∧ w = w' :=
  (size_both A ds c hd hl w h).mono fun _ _ ⟨⟨z, h1, _, h2⟩, h3⟩ => ⟨⟨z, h1, h2 ht⟩, h3⟩
end Go.Proofs.Ytfcacgiejoeneaa

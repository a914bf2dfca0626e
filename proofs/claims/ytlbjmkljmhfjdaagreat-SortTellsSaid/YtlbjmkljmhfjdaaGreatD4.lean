/- The parts, not in their order yet. -/
import Derived.Test.YtlbjmkljmhfjdaaGreatD3
set_option linter.unusedSimpArgs false
set_option linter.unusedVariables false
namespace Go.Proofs.YtlbjmkljmhfjdaaGreat
open Go Go.Proofs Go.Shelf Go.RowKit Go.Lib Go.Maps
noncomputable def rG (G : List (List Nat)) : Nat → Nat → Bool := fun a b => by classical exact decide (Reach (adjG G) a b)
theorem rG_is (G : List (List Nat)) (n : Nat) : IsR (adjG G) n (rG G) := fun a b _ _ => by unfold rG; simp
def srtN (l : List Nat) : List Nat := l.mergeSort fun x y => decide (x ≤ y)
theorem srtN_nums (l : List Nat) : srt (nums l) = nums (srtN l) := by
  unfold srt srtN nums
  rw [List.map_mergeSort (s := fun x y : Int => decide (x ≤ y))]
  intro a _ b _
  simp
theorem srtN_perm (l : List Nat) : (srtN l).Perm l := List.mergeSort_perm _ _
theorem srtN_rises (l : List Nat) : (srtN l).Pairwise (· ≤ ·) := by
  have := List.pairwise_mergeSort (le := fun x y : Nat => decide (x ≤ y)) (fun a b c h1 h2 => by simp at *; omega) (fun a b => by simp; omega) l
  exact this.imp fun h => by simpa using h
/-- What the loop back stands on: the stack, the search back, the parts so far. -/
structure LS (B : Nat) (w3 W : World) (sb b : Nat) (gv va lv : Value) (Q : List Nat) (M : Nat → Bool) (vsP : List Value) (P : List (List Nat)) : Prop where
  size : w3.heap.size ≤ W.heap.size
  keep : ∀ j, j < w3.heap.size → j ≠ sb → j ≠ b → W.heap[j]? = w3.heap[j]?
  stk : Stk B W sb va Q
  old : ∀ k, va.ownBlock = some k → k < w3.heap.size
  blk : Blk W b (searchCells gv M).toArray 200
  lrow : W.ownsRow w3.heap.size 38 1 lv P.length vsP
  rows : RowsO w3.heap.size W vsP P
  sl : sb < w3.heap.size
  bl : b < w3.heap.size
def lenAt (sb : Nat) (W : World) : Nat := match W.cell? ⟨sb, 0, none⟩ with | some (.slice _ n _) => n | _ => 0
theorem LS.len {B : Nat} {w3 W : World} {sb b : Nat} {gv va lv : Value} {Q : List Nat} {M : Nat → Bool} {vsP : List Value} {P : List (List Nat)} (h : LS B w3 W sb b gv va lv Q M vsP P) : lenAt sb W = Q.length := by
  obtain ⟨A, c, rfl, _, _⟩ := own_slice h.stk.own
  unfold lenAt
  rw [h.stk.box.cell 0]
  rfl
/-- All but what is new and the search is kept. -/
theorem LS.later {B : Nat} {w3 W W' : World} {sb b : Nat} {gv va lv : Value} {Q : List Nat} {M M' : Nat → Bool} {vsP : List Value} {P : List (List Nat)} (h : LS B w3 W sb b gv va lv Q M vsP P) (hs : W.heap.size ≤ W'.heap.size) (hk : ∀ j, j < W.heap.size → j ≠ b → W'.heap[j]? = W.heap[j]?)
    (hb : Blk W' b (searchCells gv M').toArray 200) : LS B w3 W' sb b gv va lv Q M' vsP P := by
  have hlt : ∀ j, j < w3.heap.size → j < W.heap.size := fun j hj => Nat.lt_of_lt_of_le hj h.size
  have hsb : sb ≠ b := fun e => by
    subst e
    have := h.blk.symm.trans h.stk.box
    simp at this
  exact ⟨Nat.le_trans h.size hs, fun j hj h1 h2 => (hk j (hlt j hj) h2).trans (h.keep j hj h1 h2), ⟨(hk sb (hlt sb h.sl) hsb).trans h.stk.box, own_kept h.stk.own (fun k e => hk k (h.stk.own.lt k e).2 (fun e2 => own_ne h.stk.own h.blk (by decide) (by rw [e, e2])))⟩, h.old, hb,
    own_kept h.lrow (fun k e => hk k (h.lrow.lt k e).2 (fun e2 => own_ne h.lrow h.blk (by decide) (by rw [e, e2]))), h.rows.kept (fun i k hi e => hk k ((h.rows.row i hi).lt k e).2 (fun e2 => own_ne (h.rows.row i hi) h.blk (by decide) (by rw [e, e2]))), h.sl, h.bl⟩
theorem LS.later8 {B : Nat} {w3 W W' : World} {sb b s8 : Nat} {gv va lv : Value} {Q : List Nat} {M M' : Nat → Bool} {vsP : List Value} {P : List (List Nat)} (h : LS B w3 W sb b gv va lv Q M vsP P) {cs : Array Value} (h8 : Blk W s8 cs 197) (h38 : w3.heap.size ≤ s8)
    (hs : W.heap.size ≤ W'.heap.size) (hk : ∀ j, j < W.heap.size → j ≠ b → j ≠ s8 → W'.heap[j]? = W.heap[j]?)
    (hb : Blk W' b (searchCells gv M').toArray 200) : LS B w3 W' sb b gv va lv Q M' vsP P := by
  have hlt : ∀ j, j < w3.heap.size → j < W.heap.size := fun j hj => Nat.lt_of_lt_of_le hj h.size
  have hsb : sb ≠ b := fun e => by
    subst e
    have := h.blk.symm.trans h.stk.box
    simp at this
  have old : ∀ j, j < w3.heap.size → j ≠ s8 := fun j hj e => by omega
  exact ⟨Nat.le_trans h.size hs, fun j hj h1 h2 => (hk j (hlt j hj) h2 (old j hj)).trans (h.keep j hj h1 h2), ⟨(hk sb (hlt sb h.sl) hsb (old sb h.sl)).trans h.stk.box, own_kept h.stk.own (fun k e => hk k (h.stk.own.lt k e).2 (fun e2 => own_ne h.stk.own h.blk (by decide) (by rw [e, e2])) (old k (h.old k e)))⟩, h.old, hb,
    own_kept h.lrow (fun k e => hk k (h.lrow.lt k e).2 (fun e2 => own_ne h.lrow h.blk (by decide) (by rw [e, e2])) (fun e2 => own_ne h.lrow h8 (by decide) (by rw [e, e2]))), h.rows.kept (fun i k hi e => hk k ((h.rows.row i hi).lt k e).2 (fun e2 => own_ne (h.rows.row i hi) h.blk (by decide) (by rw [e, e2])) (fun e2 => own_ne (h.rows.row i hi) h8 (by decide) (by rw [e, e2]))), h.sl, h.bl⟩
theorem LS.taken {B : Nat} {w3 W W' : World} {sb b : Nat} {gv va va' lv : Value} {Q Q' : List Nat} {M : Nat → Bool} {vsP : List Value} {P : List (List Nat)} (h : LS B w3 W sb b gv va lv Q M vsP P) (hs : Stk B W' sb va' Q') (ho : OffS sb sb va W W') (hw : ∀ k, k < W.heap.size → k ≠ sb → W'.heap[k]? = W.heap[k]?) (he : va'.ownBlock = va.ownBlock) : LS B w3 W' sb b gv va' lv Q' M vsP P := by
  have hlt : ∀ j, j < w3.heap.size → j < W.heap.size := fun j hj => Nat.lt_of_lt_of_le hj h.size
  have hsb : b ≠ sb := fun e => by
    subst e
    have := h.blk.symm.trans h.stk.box
    simp at this
  exact ⟨Nat.le_trans h.size ho.size, fun j hj h1 h2 => (hw j (hlt j hj) h1).trans (h.keep j hj h1 h2), hs, fun k e => h.old k (by rw [← he]; exact e), (hw b (hlt b h.bl) hsb).trans h.blk,
    own_kept h.lrow (fun k e => hw k (h.lrow.lt k e).2 (fun e2 => own_ne h.lrow h.stk.box (by decide) (by rw [e, e2]))), h.rows.kept (fun i k hi e => hw k ((h.rows.row i hi).lt k e).2 (fun e2 => own_ne (h.rows.row i hi) h.stk.box (by decide) (by rw [e, e2]))), h.sl, h.bl⟩
/-- One part more. -/
theorem LS.push {B : Nat} {w3 W W' : World} {sb b : Nat} {gv va lv lv' pv : Value} {Q : List Nat} {M : Nat → Bool} {vsP : List Value} {P : List (List Nat)} {S : List Nat} (h : LS B w3 W sb b gv va lv Q M vsP P) (hp : W.ownsRow w3.heap.size 3 1 pv S.length (ints (nums S))) (hpn : ∀ k, pv.ownBlock = some k → ∀ i, i < P.length → (vsP.getD i undef).ownBlock ≠ some k)
    (ho : W'.ownsRow w3.heap.size 38 1 lv' (P.length + 1) (vsP ++ [pv])) (hg : W.grownBy W' lv.ownBlock) : LS B w3 W' sb b gv va lv' Q M (vsP ++ [pv]) (P ++ [S]) := by
  have hlt : ∀ j, j < w3.heap.size → j < W.heap.size := fun j hj => Nat.lt_of_lt_of_le hj h.size
  have old : ∀ j, j < w3.heap.size → lv.ownBlock ≠ some j := fun j hj e => by have := (h.lrow.lt j e).1; omega
  have kept : ∀ j, j < w3.heap.size → W'.heap[j]? = W.heap[j]? := fun j hj => hg.block j (hlt j hj) (fun e => old j hj e.symm)
  have r3 : ∀ {n : Nat} {v : Value} {xs : List Value}, W.ownsRow w3.heap.size 3 1 v n xs → ∀ k, v.ownBlock = some k → W'.heap[k]? = W.heap[k]? := fun {n v xs} hr k hk => hg.block k (hr.lt k hk).2 (fun e => by
    rcases h.lrow.2 with ⟨e1, _⟩ | ⟨g, cap, cur, e1, _, hgb, _⟩
    · rw [e1] at e; simp [Value.ownBlock] at e
    · rw [e1] at e
      simp only [Value.ownBlock, Option.some.injEq] at e
      subst e
      exact own_ne hr (b := k) (vs := cur) (T := 38) hgb (by decide) hk)
  refine ⟨Nat.le_trans h.size hg.size, fun j hj h1 h2 => (kept j hj).trans (h.keep j hj h1 h2), ⟨(kept sb h.sl).trans h.stk.box, own_kept h.stk.own (fun k e => kept k (h.old k e))⟩, h.old, (kept b h.bl).trans h.blk, by rw [List.length_append]; exact ho, ?_, h.sl, h.bl⟩
  exact h.rows.push (own_kept hp (r3 hp)) (fun i k hi e => r3 (h.rows.row i hi) k e) hpn
end Go.Proofs.YtlbjmkljmhfjdaaGreat
namespace Go.Proofs.YtlbjmkljmhfjdaaGreat
open Go Go.Proofs Go.Shelf Go.RowKit Go.Lib Go.Maps
set_option maxRecDepth 100000 in
set_option maxHeartbeats 8000000 in
theorem loose_any (A : Option Addr) (c : Nat) (vs : List Value) (G : List (List Nat)) (hR : RG G) (w : World) (hG : Gph w A vs (G.map nums)) :
    Calls Tryz.prog 174 #[.slice A G.length c] w fun e w' => ∃ lv vsP P, e = .returned lv ∧ P.Perm (sccs (rG G) G.length) ∧ w'.ownsRow w.heap.size 38 1 lv P.length vsP ∧ RowsO w.heap.size w' vsP P ∧ Below w.heap.size w w' := by
  obtain ⟨sb, esb⟩ : ∃ u, u = w.heap.size := ⟨_, rfl⟩
  have hn := hR.most
  have TH := Lib.hid (fun w1 v1 m O a ha (hd : O.length + c_unmet m ≤ 1000) (h : Sch (fun j => j < w.heap.size) w (w.heap.size + 1) w.heap.size (.slice A G.length c) w.heap.size w1 v1 m O) =>
    through_any hR (GT.of_gph hG) (w.heap.size + 1) w.heap.size w.heap.size 64 w1 v1 m O a ha (Nat.le_trans List.countP_le_length (by simp)) hd h)
  have HG := Lib.hid hG
  have HR := Lib.hid hR
  have TU := Lib.hid (fun w' (b : Below w.heap.size w w') => turned_any A c vs G hR w' (hG.below b))
  have UN := Lib.hid (fun l N m' (hl : ∀ a ∈ l, a < G.length) (h : Thr (adjG G) (fun _ => false) l N m') => Thr.unmet hR.inR hR.most h hl)
  obtain ⟨n, en⟩ : ∃ n, n = G.length := ⟨_, rfl⟩
  have EN := Lib.hid en
  rw [← en] at TH TU UN hn ⊢
  clear hR hG en
  go_enter Tryz.func174, Tryz.ntmps174
  go_upto_region 4 with (refine wpList_store_whole rfl 200 (.tmp 4) (.tmp 10) rfl (w.heap.size + 1) (searchCells (.slice A n c) fun _ => false).toArray rfl (congrArg Value.agg (Tryz.made_search (.slice A n c))) 200 Tryz.zeroCells200 (by have := Blk.new (w.alloc (.cells #[.slice none 0 0] 197)) Tryz.zeroCells200 200; rw [World.size_alloc] at this; exact this) (by kernel_rfl) (by kernel_rfl) (Tryz.ones_search _) ?_; intro w1 kb hg1)
  have hb1 : Below w.heap.size w w1 := grown_below (B2 w _ _) (by simp; omega) hg1 (fun k e => by cases e; omega)
  have ks : Blk w1 w.heap.size #[.slice none 0 0] 197 := ((Blk.new w _ _).alloc _).grown hg1 (fun e => by have := Option.some.inj e; omega)
  have S0 : RowKit.Hid (Sch (fun j => j < w.heap.size) w (w.heap.size + 1) w.heap.size (.slice A n c) w.heap.size w1 (.slice none 0 0) (fun _ => false) []) := Lib.hid ⟨kb, ⟨ks, World.ownsRow_nil _ _ _ _⟩, hb1.size, fun j hj => hb1.block j hj, by omega, by omega, fun j _ => by simp [Value.ownBlock], hb1.size, fun j h => h⟩
  have HB1 := Lib.hid hb1
  have ESB := Lib.hid esb
  have RT := Lib.hid (fun k (hk : k < n) => show List.range (k + 1) = List.range k ++ [k] from List.range_succ)
  clear hb1 ks kb hg1 esb
  go_loopw [13, 5] (fun i _ wr => ∃ (k : Nat) (v : Value) (N : List Nat) (m : Nat → Bool), k ≤ n ∧ i = .int .i64 k ∧ Thr (adjG G) (fun _ => false) (List.range k) N m ∧ Sch (fun j => j < w.heap.size) w (w.heap.size + 1) w.heap.size (.slice A n c) w.heap.size wr v m N ∧ Below w.heap.size w wr) (fun i _ _ => n - (RowKit.intOf i).toNat)
  case atStart => exact ⟨0, _, [], _, by omega, rfl, .nil _, S0.out, HB1.out⟩
  case round =>
    obtain ⟨k, v, N, m, hk, rfl, hth, hsc, hbl⟩ := hrel
    have HTH := Lib.hid hth
    have HSC := Lib.hid hsc
    have HBL := Lib.hid hbl
    have hun := UN.out _ N m (fun x hx => by have := List.mem_range.1 hx; have := EN.out; omega) hth
    rw [unmet_none] at hun
    by_cases hlt : k < n
    · have hlt2 : (k : Int) < n := by omega
      have HC := Lib.hid (TH.out wr v m N k hlt (by omega) hsc)
      have RTK := Lib.hid (RT.out k hlt)
      clear hth hsc hbl hun
      go_wp2_with fail
      refine HC.out.mono ?_
      rintro e w4 ⟨v4, N4, m4, ⟨u4, rfl⟩, ht4, hs4, ho4, hf4⟩
      have H4 := Lib.hid (And.intro ht4 (And.intro hs4 (And.intro ho4 hf4)))
      clear ht4 hs4 ho4 hf4 HC
      go_wp2_with fail
      go_roundw
      case rel =>
        obtain ⟨ht4, hs4, ho4, hf4⟩ := H4.out
        exact ⟨k + 1, v4, N ++ N4, m4, by omega, by go_num, by rw [RTK.out]; exact HTH.out.app ht4, hs4, ho4.below HBL.out (by omega) (Nat.le_refl _) (fun q hq => (HSC.out.stk.own.lt q hq).1) HBL.out.size⟩
      case measure => simp [RowKit.intOf]; omega
    · obtain rfl : k = n := by omega
      have hlt2 : ¬ (k : Int) < k := by omega
      have T0 := Lib.hid (TU.out wr hbl)
      clear hth hsc hbl
      go_upto_region 9 with (first | (go_at_call 122; (with_reducible refine T0.out.mono ?_); rintro e w2 ⟨gb, vs', rfl, kgb, hrows, hgb, hb2⟩; have HR2 := Lib.hid hrows; have KGB := Lib.hid kgb; have HGB := Lib.hid hgb; have HB2 := Lib.hid hb2; clear hrows kgb hgb hb2) | (refine wpList_store_whole rfl 200 (.tmp 6) (.tmp 22) rfl w2.heap.size (searchCells (.slice (some ⟨gb, 0, none⟩) k k) fun _ => false).toArray rfl (congrArg Value.agg (Tryz.made_search (.slice (some ⟨gb, 0, none⟩) k k))) 200 Tryz.zeroCells200 (Blk.new _ _ _) (by kernel_rfl) (by kernel_rfl) (Tryz.ones_search _) ?_; intro w3 kb3 hg3))
      obtain ⟨b1, eb1⟩ : ∃ u, u = w2.heap.size := ⟨_, rfl⟩
      have WB1 : w.heap.size ≤ b1 := by rw [eb1]; exact (HBL.out.trans (HB2.out.mono HBL.out.size)).size
      have hb1l : b1 < w3.heap.size := by rw [eb1]; exact kb3.lt
      have hb3 : Below w2.heap.size w2 w3 := grown_below (B1 w2 _) (by simp) hg3 (fun q e => by cases e; exact Nat.le_refl _)
      have hwr2 : Below w.heap.size w w2 := HBL.out.trans (HB2.out.mono HBL.out.size)
      have hwr3 : Below w.heap.size w w3 := hwr2.trans (hb3.mono hwr2.size)
      have hlt2' : ∀ q, q < w2.heap.size → q < w3.heap.size := fun q hq => Nat.lt_of_lt_of_le hq hb3.size
      have hs2 := (HSC.out.stk.own.lt)
      have SL0 : RowKit.Hid (LS w.heap.size w3 w3 sb b1 (.slice (some ⟨gb, 0, none⟩) k k) v (.slice none 0 0) N (fun _ => false) [] []) := Lib.hid
        ⟨Nat.le_refl _, fun _ _ _ _ => rfl, ⟨by rw [ESB.out]; exact (HSC.out.stk.box.below' HB2.out).below' hb3, own_below (own_below HSC.out.stk.own HB2.out) hb3⟩, fun q hq => hlt2' q (Nat.lt_of_lt_of_le (HSC.out.stk.own.lt q hq).2 HB2.out.size), by rw [eb1]; exact kb3, World.ownsRow_nil _ _ _ _, RowsO.nil _ _, by rw [ESB.out]; exact hlt2' _ (Nat.lt_of_lt_of_le HSC.out.stk.box.lt HB2.out.size), hb1l⟩
      have KOS0 := Lib.hid (Kos.start (adjG G) G.length (rG G) N)
      have GT0 : RowKit.Hid (GT w3 (fun j => j = gb ∨ ∃ i, i < k ∧ (vs'.getD i undef).ownBlock = some j) (some ⟨gb, 0, none⟩) k vs' (trnG G)) := Lib.hid ⟨fun W' hs hk => by
        have r3 := HR2.out.below hb3
        have kg3 := KGB.out.below' hb3
        have kg : Blk W' gb vs'.toArray 38 := (hk gb (.inl rfl)).trans kg3
        have rr : RowsO wr.heap.size W' vs' (trnG G) := r3.kept fun i q hi hq => hk q (.inr ⟨i, by rw [trnG_len, ← EN.out] at hi; exact hi, hq⟩)
        have hl := HR2.out.len
        refine rr.gph (fun h0 => ⟨gb, 0, rfl, kg.lt, fun i hi => by rw [Nat.zero_add, kg.cell, List.getElem?_toArray]⟩) (by rw [trnG_len]; have := EN.out; omega) (fun i hi => ?_)
        have := HR.out.turned.len i
        exact Nat.le_trans this (by omega), fun j hj => by
        rcases hj with rfl | ⟨i, hi, hq⟩
        · exact hlt2' _ KGB.out.lt
        · exact hlt2' _ ((HR2.out.row i (by rw [trnG_len, ← EN.out]; exact hi)).lt j hq).2⟩
      have TNE : RowKit.Hid (∀ j, (j = gb ∨ ∃ i, i < k ∧ (vs'.getD i undef).ownBlock = some j) → j ≠ sb ∧ j ≠ b1 ∧ j < w3.heap.size) := Lib.hid fun j hj => by
        have hlt := GT0.out.lt j hj
        have hsb : sb < wr.heap.size := by rw [ESB.out]; exact HSC.out.stk.box.lt
        rcases hj with rfl | ⟨i, hi, hq⟩
        · have h1 := HGB.out
          have h2 := KGB.out.lt
          exact ⟨by omega, by omega, hlt⟩
        · have h1 := (HR2.out.row i (by rw [trnG_len, ← EN.out]; exact hi)).lt j hq
          exact ⟨by omega, by omega, hlt⟩
      have HW3 := Lib.hid hwr3
      have THB := Lib.hid (fun sb8 w' v' m' O a (ha : a < k) (hd : O.length + c_unmet m' ≤ 1000) (h : Sch (fun j => j = gb ∨ ∃ i, i < k ∧ (vs'.getD i undef).ownBlock = some j) w3 b1 sb8 (.slice (some ⟨gb, 0, none⟩) k k) w3.heap.size w' v' m' O) => (show Calls Tryz.prog 182 #[.pointer (some ⟨b1, 0, none⟩), .int .i64 a, .func (.func 183) #[.pointer (some ⟨sb8, 0, none⟩)] #[]] w' fun e w'' =>
          ∃ v'' N' m'', (∃ u, e = .returned u) ∧ Thr (adjG (trnG G)) m' [a] N' m'' ∧ Sch (fun j => j = gb ∨ ∃ i, i < k ∧ (vs'.getD i undef).ownBlock = some j) w3 b1 sb8 (.slice (some ⟨gb, 0, none⟩) k k) w3.heap.size w'' v'' m'' (O ++ N') ∧ OffS b1 sb8 v' w' w'' ∧ c_Fresh w' v' v'' from by
        have e : (trnG G).length = k := by rw [trnG_len, ← EN.out]
        have h1 := through_any HR.out.turned GT0.out b1 sb8 w3.heap.size 64 w' v' m' O a (by rw [e]; exact ha) (Nat.le_trans List.countP_le_length (by simp)) hd
        rw [e] at h1
        exact h1 h))
      have KST := Lib.hid (fun kk M M' P N' (h : Kos (adjG G) G.length (rG G) N (kk + 1) M P) hk hT => Kos.step (radj := adjG (trnG G)) (mf := m) (N := N') (M' := M') HR.out.inR (rG_is G _) HR.out.trn (by rw [← EN.out]; exact HTH.out) h hk hT)
      have KEN := Lib.hid (fun M P (h : Kos (adjG G) G.length (rG G) N 0 M P) => h.perm (mf := m) (rG_is G _) (by rw [← EN.out]; exact HTH.out))
      have UNB := Lib.hid (fun M' a N' m'' (ha : a < k) (h : Thr (adjG (trnG G)) M' [a] N' m'') => Thr.unmet HR.out.turned.inR (by rw [trnG_len]; have := EN.out; omega) h (by rw [trnG_len, ← EN.out]; simpa using ha))
      have NLT := Lib.hid (fun q (hq : q < N.length) => show N.getD q 0 < k from by
        have hm : N.getD q 0 ∈ N := by simp [List.getD, List.getElem?_eq_getElem hq]
        obtain ⟨x, hx, hp⟩ := (HTH.out.iff _).1 hm
        rw [EN.out]
        exact hp.reach.lt HR.out.inR (by rw [← EN.out]; exact List.mem_range.1 hx))
      have TKN := Lib.hid (fun q (hq : q < N.length) => take_oneN (a := N) (k := q) hq)
      have hN64 : N.length ≤ 64 := by omega
      obtain ⟨i0, hi, hz0, hz1, hz2⟩ := info_parts Tryz.info_sH
      have EB1 := Lib.hid eb1
      have ESB2 := Lib.hid (show w.heap.size = sb from ESB.out.symm)
      rw [← eb1, ESB2.out]
      clear hb1l hb3 hwr2 hwr3 hlt2' hs2 kb3 hg3 eb1 hun
      go_wp2_with fail
      go_loopw [7, 8] (fun lx _ wr' => ∃ (va lv : Value) (kk : Nat) (M : Nat → Bool) (vsP : List Value) (P : List (List Nat)), lx = lv ∧ kk ≤ N.length ∧ LS w.heap.size w3 wr' sb b1 (.slice (some ⟨gb, 0, none⟩) k k) va lv (N.take kk) M vsP P ∧ Kos (adjG G) G.length (rG G) N kk M P ∧ P.length + kk ≤ N.length ∧ Below w.heap.size w wr') (fun _ _ wr' => lenAt sb wr')
      case atStart => exact ⟨v, .slice none 0 0, N.length, _, [], [], rfl, Nat.le_refl _, by rw [List.take_length]; exact SL0.out, KOS0.out, by simp, HW3.out⟩
      case round =>
        obtain ⟨va, lv, kk, M, vsP, P, rfl, hkk, hls, hko, hpl, hbl⟩ := hrel
        have HLS := Lib.hid hls
        have HKO := Lib.hid hko
        have HBL2 := Lib.hid hbl
        have C1 := Lib.hid (c_some_any w.heap.size sb va (N.take kk) _ hls.stk (by rw [List.length_take]; omega))
        rw [List.length_take, Nat.min_eq_left hkk] at C1
        have MU := Lib.hid (show lenAt sb _ = kk from by rw [hls.len, List.length_take, Nat.min_eq_left hkk])
        clear hls hko hbl
        cases kk with
        | zero =>
          go_wp2_with fail
          refine C1.out.mono ?_
          rintro e w4 ⟨rfl, rfl⟩
          go_wp2_with fail
          go_ret
          refine ⟨_, vsP, P, rfl, ?_, own_lower HLS.out.lrow HW3.out.size, HLS.out.rows.lower HW3.out.size, HBL2.out⟩
          rw [EN.out]
          exact KEN.out M P HKO.out
        | succ kk =>
          go_wp2_with fail
          refine C1.out.mono ?_
          rintro e w4 ⟨rfl, rfl⟩
          go_upto_region 12 with fail
          obtain ⟨s8, es8⟩ : ∃ u, u = w4.heap.size := ⟨_, rfl⟩
          obtain ⟨wa, ewa⟩ : ∃ u, u = w4.alloc (.cells #[.slice none 0 0] 197) := ⟨_, rfl⟩
          have hba : Below w4.heap.size w4 wa := by rw [ewa]; exact B1 _ _
          have k8 : Blk wa s8 #[.slice none 0 0] 197 := by rw [ewa, es8]; exact Blk.new _ _ _
          have LSA := Lib.hid (HLS.out.later hba.size (fun j hj _ => hba.block j hj) (HLS.out.blk.below' hba))
          have HBA := Lib.hid (HBL2.out.trans (hba.mono HBL2.out.size))
          have K8 := Lib.hid k8
          have hs38 : w3.heap.size ≤ s8 := by rw [es8]; exact HLS.out.size
          obtain ⟨x, ex⟩ : ∃ x, x = N.getD kk 0 := ⟨_, rfl⟩
          have EX := Lib.hid ex
          have hxk : x < k := by rw [ex]; exact NLT.out kk (by omega)
          have CT := Lib.hid (take_any w.heap.size sb sb va (N.take kk) x wa (by have := LSA.out.stk; rw [TKN.out kk (by omega)] at this; rw [ex]; exact this) (by rw [List.length_take]; omega))
          rw [← es8, ← ewa]
          have h8w : s8 < wa.heap.size := k8.lt
          clear ewa hba k8 ex es8
          go_wp2_with fail
          refine CT.out.mono ?_
          rintro e w5 ⟨va', rfl, hs5, ho5, hw5, he5⟩
          have L5 := Lib.hid (LSA.out.taken hs5 ⟨ho5.os, ho5.tape, ho5.output, ho5.size, fun j hj h1 h2 h3 => ho5.block j hj h1 h2 h3⟩ (fun j _ h => hw5 j h) he5)
          have hsb8 : s8 ≠ sb := by have := L5.out.sl; omega
          have K85 := Lib.hid (show Blk w5 s8 #[.slice none 0 0] 197 from (hw5 s8 hsb8).trans K8.out)
          have HB5 := Lib.hid (ho5.below HBA.out (by rw [← ESB2.out]; exact Nat.le_refl _) (by rw [← ESB2.out]; exact Nat.le_refl _) (fun q hq => (LSA.out.stk.own.lt q hq).1) HBA.out.size)
          have SC := Lib.hid (THB.out s8 w5 (.slice none 0 0) M [] x hxk (by have h64 : c_unmet M ≤ 64 := (Nat.le_trans List.countP_le_length (by simp)); simp only [List.length_nil]; omega)
            ⟨L5.out.blk, ⟨K85.out, World.ownsRow_nil _ _ _ _⟩, L5.out.size, fun j hj => by obtain ⟨h1, h2, h3⟩ := TNE.out j hj; exact L5.out.keep j h3 h1 h2, fun h => (TNE.out b1 h).2.1 rfl, fun h => (by have h9 := (TNE.out s8 h).2.2; omega), fun j _ => by simp [Value.ownBlock], L5.out.size, fun j hj => (TNE.out j hj).2.2⟩)
          clear CT hs5 ho5 hw5 he5
          go_wp2_with fail
          refine SC.out.mono ?_
          rintro e w6 ⟨v6, N6, M6, ⟨u6, rfl⟩, ht6, hs6, ho6, hf6⟩
          rw [List.nil_append] at hs6
          have h58 : s8 < w5.heap.size := K85.out.lt
          have L6 := Lib.hid (L5.out.later8 (M' := M6) K85.out hs38 ho6.size (fun j hj hb h8 => ho6.block j hj hb h8 (by simp [Value.ownBlock])) hs6.blk)
          have HT6 := Lib.hid ht6
          have KP56 := Lib.hid (And.intro ho6.size (fun j (hj : j < w5.heap.size) (hb : j ≠ b1) (h8 : j ≠ s8) => ho6.block j hj hb h8 (by simp [Value.ownBlock])))
          have HS6 := Lib.hid hs6
          have HF6 := Lib.hid (fun q (hq : v6.ownBlock = some q) => show w5.heap.size ≤ q from by
            rcases hf6 q hq with h | h
            · simp [Value.ownBlock] at h
            · exact h)
          have HB6 := Lib.hid (ho6.below HB5.out WB1 (Nat.le_trans HW3.out.size hs38) (fun q h => by simp [Value.ownBlock] at h) HB5.out.size)
          have hun6 := UNB.out M x N6 M6 hxk ht6
          have h64 : c_unmet M ≤ 64 := (Nat.le_trans List.countP_le_length (by simp))
          have C6 := Lib.hid (c_some_any w3.heap.size s8 v6 N6 w6 hs6.stk (by omega))
          have hN6 : N6.length ≤ 64 := by omega
          have KS := Lib.hid (KST.out kk M M6 P N6 HKO.out (by omega) (by rw [← EX.out]; exact ht6))
          obtain ⟨A6, c6, rfl, _, _⟩ := own_slice hs6.stk.own
          have c8 := hs6.stk.box.cell 0
          simp only [List.getElem?_toArray, List.getElem?_cons_zero] at c8
          clear ht6 hs6 ho6 hf6 SC hun6 h64
          go_wp2_with fail
          refine C6.out.mono ?_
          rintro e w7 ⟨rfl, rfl⟩
          clear C6
          by_cases hN0 : N6 = []
          · subst hN0
            go_wp2_with fail
            go_roundw
            case rel => exact ⟨va', _, kk, M6, vsP, P, rfl, by omega, L6.out, KS.out.1 (by first | rfl | trivial), by omega, HB6.out⟩
            case measure => rw [MU.out, L6.out.len, List.length_take]; omega
          · have hNl : 0 < N6.length := List.length_pos_iff.2 hN0
            obtain ⟨g6, cc6, e6, hg61, hg62, hg63, hg64⟩ := own_shape HS6.out.stk.own hNl
            simp only [Value.slice.injEq] at e6
            obtain ⟨rfl, _, rfl⟩ := e6
            have hg5 : w5.heap.size ≤ g6 := HF6.out g6 rfl
            have SI := Lib.hid (sort_ints w3.heap.size g6 c6 (nums N6) _ (by rw [nums_len]; omega) (by rw [nums_len]; exact HS6.out.stk.own))
            rw [nums_len, srtN_nums] at SI
            have hsl : (srtN N6).length = N6.length := (srtN_perm N6).length_eq
            have KS2 := Lib.hid (KS.out.2 hN0 (srtN N6) (srtN_perm N6) (srtN_rises N6))
            have HSL := Lib.hid hsl
            obtain ⟨n6, en6⟩ : ∃ u, u = N6.length := ⟨_, rfl⟩
            have EN6 := Lib.hid en6
            rw [← en6] at SI c8 hNl hsl hN6 ⊢
            clear en6 hsl hN0
            obtain ⟨Al, clc, rfl, _, _⟩ := own_slice L6.out.lrow
            obtain ⟨pl, epl⟩ : ∃ u, u = P.length := ⟨_, rfl⟩
            have EPL := Lib.hid epl
            rw [← epl]
            have hpl64 : pl ≤ 64 := by omega
            have SZ := Lib.hid (Nat.le_trans L5.out.size KP56.out.1)
            clear epl
            go_wp2_with (first | (go_at_call 218; (with_reducible refine SI.out.mono ?_); rintro e w8 ⟨⟨u8', rfl⟩, ho8, hg8⟩; have O8 := Lib.hid ho8; have G8 := Lib.hid hg8; have b8 : Blk w8 s8 #[.slice (some ⟨g6, 0, none⟩) n6 c6] 197 := ((by rw [EN6.out]; exact HS6.out.stk.box : Blk _ s8 #[.slice (some ⟨g6, 0, none⟩) n6 c6] 197)).grown hg8 (fun e => own_ne HS6.out.stk.own HS6.out.stk.box (by decide) e.symm); have c88 : w8.cell? ⟨s8, 0, none⟩ = some (.slice (some ⟨g6, 0, none⟩) n6 c6) := (b8.cell 0).trans rfl; have L8 := Lib.hid (L5.out.later8 (M' := M6) K85.out hs38 (Nat.le_trans KP56.out.1 hg8.size) (fun j hj hb h8 => (hg8.block j (Nat.lt_of_lt_of_le hj KP56.out.1) (fun e => by have := Option.some.inj e; omega)).trans (KP56.out.2 j hj hb h8)) (HS6.out.blk.grown hg8 (fun e => own_ne HS6.out.stk.own HS6.out.blk (by decide) e.symm))); have OR8 := Lib.hid (show (w8.alloc (.cells #[.slice (some ⟨g6, 0, none⟩) n6 c6] 38)).ownsRow w3.heap.size 38 1 (.slice Al pl clc) pl vsP from by rw [EPL.out]; exact own_below L8.out.lrow (B1 _ _)); clear ho8 hg8 b8) | (at_builtin; refine wpList_append_onto _ rfl _ _ 31 rfl w3.heap.size 38 i0 (.slice none 0 0) 1 24 Tryz.underlying31 hi hz0 hz1 hz2 rfl (by decide) _ _ _ rfl OR8.out (some ⟨w8.heap.size, 0, none⟩) 1 1 [.slice (some ⟨g6, 0, none⟩) n6 c6] rfl rfl (fun ad had => by cases had; exact cell_one_new _ _ _) (fun h => by cases h) (by simp [Value.oneCell']) (by unfold maxLen; omega) (by omega) (by have h1 := G8.out.size; have h2 := SZ.out; simp; omega) ?_; intro v9 w9 hown9 hgrow9 hfr9; have O9 := Lib.hid hown9; have G9 := Lib.hid (show World.grownBy _ w9 (Value.slice Al pl clc).ownBlock from hgrow9); clear hown9 hgrow9 hfr9))
            have HWS := HW3.out.size
            have LP : RowKit.Hid (LS w.heap.size w3 w9 sb b1 (.slice (some ⟨gb, 0, none⟩) k k) va' v9 (N.take kk) M6 (vsP ++ [.slice (some ⟨g6, 0, none⟩) n6 c6]) (P ++ [srtN N6])) := Lib.hid (by
              have hba := B1 w8 (.cells #[.slice (some ⟨g6, 0, none⟩) n6 c6] 38)
              refine (L8.out.later hba.size (fun j hj _ => hba.block j hj) (L8.out.blk.below' hba)).push ?_ (fun q hq i hi e => ?_) (by rw [← EPL.out]; exact O9.out) (by rw [← EPL.out]; exact G9.out)
              · rw [HSL.out, ← EN6.out]
                exact own_below O8.out hba
              · have h1 := ((L5.out.rows.row i hi).lt q e).2
                simp only [Value.ownBlock, Option.some.injEq] at hq
                omega)
            have HB9 : RowKit.Hid (Below w.heap.size w w9) := Lib.hid (by
              have h1 := HB6.out.size
              have h2 := G8.out.size
              have b8 : Below w.heap.size w w8 := grown_below HB6.out h1 G8.out (fun q e => by cases e; omega)
              exact grown_below (b8.trans ((B1 w8 _).mono b8.size)) (by simp; omega) G9.out (fun q e => Nat.le_trans HWS (OR8.out.lt q e).1))
            go_roundw
            case rel => exact ⟨va', v9, kk, M6, _, _, rfl, by omega, LP.out, KS2.out, by rw [List.length_append]; simp; omega, HB9.out⟩
            case measure => rw [MU.out, LP.out.len, List.length_take]; omega
end Go.Proofs.YtlbjmkljmhfjdaaGreat
namespace Go.Proofs.YtlbjmkljmhfjdaaGreat
open Go Go.Proofs Go.Shelf Go.RowKit Go.Lib Go.Maps
def lineCells (gv pv : Value) (of : Nat → Nat) (W : Nat → Int) : List Value := gv :: pv :: (((List.range 64).map fun k => Value.int .i64 (of k : Nat)) ++ (List.range 64).map fun k => Value.int .i64 (W k))
theorem lineCells_of {gv pv : Value} {of : Nat → Nat} {W : Nat → Int} {k : Nat} (h : k < 64) : (lineCells gv pv of W)[2 + k]? = some (.int .i64 (of k : Nat)) := by
  rw [show 2 + k = k + 1 + 1 by omega]
  simp only [lineCells, List.getElem?_cons_succ]
  rw [List.getElem?_append_left (by simp; omega)]
  simp [h]
theorem lineCells_wait {gv pv : Value} {of : Nat → Nat} {W : Nat → Int} {k : Nat} (h : k < 64) : (lineCells gv pv of W)[66 + k]? = some (.int .i64 (W k)) := by
  rw [show 66 + k = (64 + k) + 1 + 1 by omega]
  simp only [lineCells, List.getElem?_cons_succ]
  rw [List.getElem?_append_right (by simp)]
  simp [h]
def upd {α : Type} (f : Nat → α) (k : Nat) (v : α) : Nat → α := fun q => if q = k then v else f q
theorem range_upd {α : Type} (f : Nat → α) (k : Nat) (v : α) (g : α → Value) (h : k < 64) : ((List.range 64).map fun q => g (f q)).set k (g v) = (List.range 64).map fun q => g (upd f k v q) := by
  refine List.ext_getElem (by simp) fun i h1 h2 => ?_
  rw [List.getElem_set]
  by_cases e : k = i
  · subst e; simp [upd]
  · rw [if_neg e]
    have : ¬ i = k := fun h => e h.symm
    simp [upd, this]
theorem lineCells_setOf {gv pv : Value} {of : Nat → Nat} {W : Nat → Int} {k p : Nat} (h : k < 64) : (lineCells gv pv of W).set (2 + k) (.int .i64 p) = lineCells gv pv (upd of k p) W := by
  rw [show 2 + k = k + 1 + 1 by omega]
  simp only [lineCells, List.set_cons_succ]
  rw [List.set_append_left _ _ (by simp; omega), range_upd of k p (fun x => Value.int .i64 (x : Nat)) h]
theorem lineCells_setWait {gv pv : Value} {of : Nat → Nat} {W : Nat → Int} {k : Nat} {x : Int} (h : k < 64) : (lineCells gv pv of W).set (66 + k) (.int .i64 x) = lineCells gv pv of (upd W k x) := by
  rw [show 66 + k = (64 + k) + 1 + 1 by omega]
  simp only [lineCells, List.set_cons_succ]
  rw [List.set_append_right _ _ (by simp)]
  simp only [List.length_map, List.length_range, Nat.add_sub_cancel_left]
  rw [range_upd W k x (fun x => Value.int .i64 x) h]
set_option maxRecDepth 100000 in
theorem Tryz.made_line (gv pv : Value) : (Tryz.zeroCells186.setIfInBounds 0 gv).setIfInBounds 1 pv = (lineCells gv pv (fun _ => 0) (fun _ => 0)).toArray := by rfl
set_option maxRecDepth 100000 in
set_option maxHeartbeats 1000000 in
/-- A row of parts sorted; none, too. -/
theorem sort_parts (B B' cap k : Nat) (A : Option Addr) (vs : List Value) (L : List (List Nat)) (w : World) (hk : k = L.length) (hm : k ≤ 1000) (hms : ∀ i, i < L.length → (L.getD i []).length ≤ 1000) (hne : ∀ i, i < L.length → L.getD i [] ≠ []) (hd : ∀ i j, i < L.length → j < L.length → i ≠ j → (L.getD i []).getD 0 0 ≠ (L.getD j []).getD 0 0)
    (ho : w.ownsRow B 38 1 (.slice A k cap) k vs) (hR : RowsO B' w vs L) :
    Calls Tryz.prog 175 #[.slice A k cap, .func (.func 176) #[] #[]] w fun e w' => ∃ vs' L', (∃ u, e = .returned u) ∧ L'.Perm L ∧ (L'.Pairwise fun p q => p.getD 0 0 ≤ q.getD 0 0) ∧ w'.ownsRow B 38 1 (.slice A k cap) k vs' ∧ RowsO B' w' vs' L' ∧ w.grownBy w' (Value.slice A k cap).ownBlock := by
  by_cases h0 : 0 < k
  · obtain ⟨g, cap', e, _, _, _, _⟩ := own_shape ho h0
    simp only [Value.slice.injEq] at e
    obtain ⟨rfl, _, rfl⟩ := e
    exact sort_rows B B' g cap k vs L w hk h0 hm hms hne hd ho hR
  · obtain rfl : k = 0 := by omega
    have hL : L = [] := List.length_eq_zero_iff.1 hk.symm
    subst hL
    refine (Tryz.slices_SortFunc_none (α := Nat) A cap _ w).mono ?_
    rintro e w' ⟨rfl, rfl⟩
    exact ⟨vs, [], ⟨_, rfl⟩, .refl _, List.Pairwise.nil, ho, hR, World.grownBy.refl _ _⟩
/-- The line in memory. -/
structure Ln (w W : World) (lb : Nat) (gv pv : Value) (gb : Nat) (vsT vsP : List Value) (G : List (List Nat)) (S : List (List Nat)) (of : Nat → Nat) (Wt : Nat → Int) : Prop where
  blk : Blk W lb (lineCells gv pv of Wt).toArray 186
  tg : Blk W gb vsT.toArray 38
  trows : RowsO w.heap.size W vsT (trnG G)
  own : W.ownsRow w.heap.size 38 1 pv S.length vsP
  rows : RowsO w.heap.size W vsP S
  low : Below w.heap.size w W
  gve : gv = .slice (some ⟨gb, 0, none⟩) G.length G.length
  lo : w.heap.size ≤ lb
/-- Only the line's own block has turned. -/
theorem Ln.turn {w W W' : World} {lb gb : Nat} {gv pv : Value} {vsT vsP : List Value} {G S : List (List Nat)} {of of' : Nat → Nat} {Wt Wt' : Nat → Int} (h : Ln w W lb gv pv gb vsT vsP G S of Wt) (hb : Blk W' lb (lineCells gv pv of' Wt').toArray 186) (hg : W.grownBy W' (some lb)) : Ln w W' lb gv pv gb vsT vsP G S of' Wt' := by
  have keep : ∀ {B e n : Nat} {v : Value} {xs : List Value}, e ≠ 186 → W.ownsRow B e 1 v n xs → ∀ k, v.ownBlock = some k → W'.heap[k]? = W.heap[k]? := fun {B e n v xs} he ho k hk => hg.block k (ho.lt k hk).2 (fun e2 => own_ne ho h.blk (fun h => he h.symm) (by rw [hk]; exact e2))
  have hgl : gb ≠ lb := fun e => by
    have h1 := h.tg
    rw [e] at h1
    have := h1.symm.trans h.blk
    simp at this
  exact ⟨hb, (hg.block gb h.tg.lt (fun e => hgl (Option.some.inj e))).trans h.tg, h.trows.kept (fun i k hi e => keep (by decide) (h.trows.row i hi) k e), own_kept h.own (fun k e => keep (by decide) h.own k e), h.rows.kept (fun i k hi e => keep (by decide) (h.rows.row i hi) k e), grown_below h.low h.low.size hg (fun k e => by cases e; exact h.lo), h.gve, h.lo⟩
theorem Ln.below {w W W' : World} {lb gb : Nat} {gv pv : Value} {vsT vsP : List Value} {G S : List (List Nat)} {of : Nat → Nat} {Wt : Nat → Int} (h : Ln w W lb gv pv gb vsT vsP G S of Wt) (hb : Below W.heap.size W W') : Ln w W' lb gv pv gb vsT vsP G S of Wt :=
  ⟨h.blk.below' hb, h.tg.below' hb, h.trows.below hb, own_below h.own hb, h.rows.below hb, h.low.trans (hb.mono h.low.size), h.gve, h.lo⟩
theorem Ln.set {w W : World} {lb gb : Nat} {gv pv : Value} {vsT vsP : List Value} {G S : List (List Nat)} {of : Nat → Nat} {Wt : Nat → Int} (h : Ln w W lb gv pv gb vsT vsP G S of Wt) {k : Nat} {x : Int} (hk : k < 64) : Ln w (W.setCell ⟨lb, 66 + k, none⟩ (.int .i64 x)) lb gv pv gb vsT vsP G S of (upd Wt k x) := by
  refine h.turn ?_ ⟨rfl, rfl, rfl, by simp [World.setCell], fun j _ hj => heap_setCell_other W ⟨lb, 66 + k, none⟩ j _ (fun e => hj (by rw [show j = lb from e]))⟩
  have := heap_setCell_same W lb (66 + k) _ _ (.int .i64 x) h.blk
  unfold Blk
  rw [this, List.setIfInBounds_toArray, lineCells_setWait hk]
theorem Ln.setOf {w W : World} {lb gb : Nat} {gv pv : Value} {vsT vsP : List Value} {G S : List (List Nat)} {of : Nat → Nat} {Wt : Nat → Int} (h : Ln w W lb gv pv gb vsT vsP G S of Wt) {k p : Nat} (hk : k < 64) : Ln w (W.setCell ⟨lb, 2 + k, none⟩ (.int .i64 p)) lb gv pv gb vsT vsP G S (upd of k p) Wt := by
  refine h.turn ?_ ⟨rfl, rfl, rfl, by simp [World.setCell], fun j _ hj => heap_setCell_other W ⟨lb, 2 + k, none⟩ j _ (fun e => hj (by rw [show j = lb from e]))⟩
  have := heap_setCell_same W lb (2 + k) _ _ (.int .i64 p) h.blk
  unfold Blk
  rw [this, List.setIfInBounds_toArray, lineCells_setOf hk]
end Go.Proofs.YtlbjmkljmhfjdaaGreat

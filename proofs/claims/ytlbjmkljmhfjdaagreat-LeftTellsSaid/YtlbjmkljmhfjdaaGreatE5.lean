/- What the reference tells: Rules, Nodes. (Great seat.) -/
import Derived.Test.YtlbjmkljmhfjdaaGreatE2
import Derived.Test.YtlbjmkljmhfjdaaGreatE4
import Derived.Deep.RegionHeld3
import Derived.Test.YtlbjmkljmhfjdaaGreatE3
import Derived.Test.YtlbjmkljmhfjdaaGreatC6
import Derived.ArgAppend
set_option linter.unusedSimpArgs false
set_option linter.unusedVariables false
namespace Go.Proofs.YtlbjmkljmhfjdaaGreat
open Go Go.Proofs Go.RowKit Go.Lib Go.Maps
def RowE (w : World) (B : Nat) (L : List Nat) (e : Ending) : Prop := ∃ v, e = .returned v ∧ w.ownsRow B 3 1 v L.length (ints (nums L))
theorem RowE.nil (w : World) (B : Nat) : RowE w B [] (.returned (.slice none 0 0)) := ⟨_, rfl, World.ownsRow_nil _ _ _ _⟩
end Go.Proofs.YtlbjmkljmhfjdaaGreat
namespace Go.Proofs.YtlbjmkljmhfjdaaGreat
open Go Go.Proofs Go.RowKit Go.Lib Go.Maps
/-- Marks in memory: just those of which something holds. -/
def Mk (W : World) (mb m : Nat) (f : Nat → Bool) : Prop := ∃ ml : List Bool, Blk W mb (bls ml).toArray 4 ∧ ml.length = m ∧ ∀ q, q < m → ml.getD q false = f q
theorem Mk.below {W W' : World} {mb m : Nat} {f : Nat → Bool} (h : Mk W mb m f) (hb : Below W.heap.size W W') : Mk W' mb m f := by
  obtain ⟨ml, h1, h2⟩ := h
  exact ⟨ml, h1.below' hb, h2⟩
theorem Mk.congr {W : World} {mb m : Nat} {f f' : Nat → Bool} (h : Mk W mb m f) (hf : ∀ q, q < m → f q = f' q) : Mk W mb m f' := by
  obtain ⟨ml, h1, h2, h3⟩ := h
  exact ⟨ml, h1, h2, fun q hq => (h3 q hq).trans (hf q hq)⟩
theorem Mk.cell {W : World} {mb m : Nat} {f : Nat → Bool} (h : Mk W mb m f) {q : Nat} (hq : q < m) : W.cell? ⟨mb, q, none⟩ = some (.bool (f q)) := by
  obtain ⟨ml, h1, h2, h3⟩ := h
  rw [h1.cell, List.getElem?_toArray, bls_at (by rw [h2]; exact hq), h3 q hq]
theorem Mk.frozen {W : World} {mb m : Nat} {f : Nat → Bool} (h : Mk W mb m f) (q : Nat) : W.frozen? ⟨mb, q, none⟩ = false := by
  obtain ⟨ml, h1, h2, h3⟩ := h
  exact h1.frozen q
theorem Mk.blk {W : World} {mb m : Nat} {f : Nat → Bool} (h : Mk W mb m f) : ∃ vs, Blk W mb vs 4 := by
  obtain ⟨ml, h1, _⟩ := h
  exact ⟨_, h1⟩
theorem Mk.put {W : World} {mb m : Nat} {f : Nat → Bool} (h : Mk W mb m f) {k : Nat} (hk : k < m) (b : Bool) : Mk (W.setCell ⟨mb, k, none⟩ (.bool b)) mb m (fun q => if q = k then b else f q) := by
  obtain ⟨ml, h1, h2, h3⟩ := h
  refine ⟨ml.set k b, by have := h1.put (k := k) (.bool b); rw [bls_set] at this; exact this, by simpa using h2, fun q hq => ?_⟩
  simp only [List.getD, List.getElem?_set]
  by_cases e : k = q
  · subst e; simp [h2, hk]
  · rw [if_neg e, if_neg (fun h => e h.symm)]
    exact h3 q hq
theorem Mk.zero {W : World} {mb m : Nat} (h : Blk W mb (bls (List.replicate m false)).toArray 4) : Mk W mb m (fun _ => false) :=
  ⟨_, h, by simp, fun q hq => by simp [List.getD, hq]⟩
theorem Mk.grown {W W' : World} {mb m B e z n : Nat} {f : Nat → Bool} {v : Value} {xs : List Value} (h : Mk W mb m f) (ho : W.ownsRow B e z v n xs) (he : (4 : TypeId) ≠ e) (hg : W.grownBy W' v.ownBlock) : Mk W' mb m f := by
  obtain ⟨ml, h1, h2, h3⟩ := h
  exact ⟨ml, h1.grown hg (fun e => own_ne ho h1 he e.symm), h2, h3⟩
theorem cell_setOther (W : World) (b k : Nat) (v : Value) (a : Addr) (h : a.block ≠ b) : (W.setCell ⟨b, k, none⟩ v).cell? a = W.cell? a := by
  unfold World.cell?
  rw [heap_setCell_other W ⟨b, k, none⟩ a.block v h]
set_option maxRecDepth 100000 in
set_option maxHeartbeats 8000000 in
theorem r12Nodes_any (g : Gr) (n : Int) (hn : -9223372036854775808 ≤ n ∧ n < 9223372036854775808) (w : World) (hg : Gr.At w g) (hin : Gr.In g) : Calls Tryz.prog 31 #[g.val, .int .i64 n] w fun e w' => RowZ w' w.heap.size (nodesAt g n) e ∧ Below w.heap.size w w' := by
  have RR := Lib.hid (fun (w' : World) (b : Below w.heap.size w w') => refRight_any g w' (hg.below b) hin)
  have RK := Lib.hid (fun (hR : Right g) (w' : World) (b : Below w.heap.size w w') => refRanks_any g hR w' (hg.below b))
  have OW := Lib.hid (fun (hR : Right g) W (eg : Below w.heap.size w W) rb k (hk : k < g.nodes.length) (hA : Lies W (some ⟨rb, 0, none⟩) (ints (ranks g))) => r12own_any g hR g.nodes.length k hk (by omega) rb W (hg.below eg) hA)
  have NO := Lib.hid (show ¬ (rightB g = true ∧ 0 ≤ n ∧ n < g.nodes.length) → nodesAt g n = [] from fun h => by unfold nodesAt; rw [if_neg h])
  have YES := Lib.hid (show (rightB g = true ∧ 0 ≤ n ∧ n < g.nodes.length) → nodesAt g n = ownN g.nodes (mayG g) n from fun h => by unfold nodesAt; rw [if_pos h])
  generalize nodesAt g n = L at NO YES ⊢
  have HG := Lib.hid hg.nl
  clear hg hin
  show Calls Tryz.prog 31 #[.agg #[.slice g.RA g.rules.length g.rc, .slice g.NA g.nodes.length g.nc], .int .i64 n] w _
  have NONE : RowKit.Hid (∀ W, L = [] → Below w.heap.size w W → RowZ W w.heap.size L (.returned (.slice none 0 0)) ∧ Below w.heap.size w W) := Lib.hid (fun W e b => by rw [e]; exact ⟨RowZ.nil _ _, b⟩)
  cases hr : rightB g with
  | false =>
    rw [hr] at RR
    have hv := NO.out (by rw [hr]; simp)
    have HV := Lib.hid hv
    clear hv NO YES RK OW hr hn
    go_enter Tryz.func31, Tryz.ntmps31
    go_wp2_with (go_at_call 104; with_reducible refine (RR.out _ (B1 _ _)).mono ?_; rintro e w1 ⟨rfl, hb⟩; have H1 := Lib.hid (bb (B1 w _) hb); have KB := Lib.hid ((Blk.new w #[.slice g.RA g.rules.length g.rc, .slice g.NA g.nodes.length g.nc] 25).below' hb); have g0 := KB.out.cell 0; have g1 := KB.out.cell 1; simp only [List.getElem?_toArray, List.getElem?_cons_zero, List.getElem?_cons_succ] at g0 g1; clear hb)
    go_ret
    exact NONE.out _ HV.out H1.out
  | true =>
    rw [hr] at RR NO YES
    have hR := rightB_true.1 hr
    have RK2 := Lib.hid (RK.out hR)
    have OW1 := Lib.hid (OW.out hR)
    have hrl := hR.rules.2
    have hnl := hR.nodes
    by_cases h0 : n < 0
    · have HV := Lib.hid (NO.out (by omega))
      clear NO YES RK OW RK2 OW1 hr hR
      go_enter Tryz.func31, Tryz.ntmps31
      go_wp2_with (go_at_call 104; with_reducible refine (RR.out _ (B1 _ _)).mono ?_; rintro e w1 ⟨rfl, hb⟩; have H1 := Lib.hid (bb (B1 w _) hb); have KB := Lib.hid ((Blk.new w #[.slice g.RA g.rules.length g.rc, .slice g.NA g.nodes.length g.nc] 25).below' hb); have g0 := KB.out.cell 0; have g1 := KB.out.cell 1; simp only [List.getElem?_toArray, List.getElem?_cons_zero, List.getElem?_cons_succ] at g0 g1; clear hb)
      go_ret
      exact NONE.out _ HV.out H1.out
    · by_cases h1 : (g.nodes.length : Int) ≤ n
      · have HV := Lib.hid (NO.out (by omega))
        clear NO YES RK OW RK2 OW1 hr hR
        go_enter Tryz.func31, Tryz.ntmps31
        go_wp2_with (go_at_call 104; with_reducible refine (RR.out _ (B1 _ _)).mono ?_; rintro e w1 ⟨rfl, hb⟩; have H1 := Lib.hid (bb (B1 w _) hb); have KB := Lib.hid ((Blk.new w #[.slice g.RA g.rules.length g.rc, .slice g.NA g.nodes.length g.nc] 25).below' hb); have g0 := KB.out.cell 0; have g1 := KB.out.cell 1; simp only [List.getElem?_toArray, List.getElem?_cons_zero, List.getElem?_cons_succ] at g0 g1; clear hb)
        go_ret
        exact NONE.out _ HV.out H1.out
      · obtain ⟨k, rfl⟩ : ∃ k : Nat, n = k := ⟨n.toNat, by omega⟩
        have hk : k < g.nodes.length := by omega
        have hk3 : ¬ (g.nodes.length : Int) ≤ k := by omega
        have hk0 : ¬ (k : Int) < 0 := by omega
        have EV := Lib.hid (YES.out ⟨rfl, by omega, by omega⟩)
        have OW2 := Lib.hid (show ∀ W, Below w.heap.size w W → ∀ rb : Nat, Lies W (some ⟨rb, 0, none⟩) (ints (ranks g)) → Calls Tryz.prog 105 #[.agg #[.slice g.RA g.rules.length g.rc, .slice g.NA g.nodes.length g.nc], .int .i64 k, .slice (some ⟨rb, 0, none⟩) g.rules.length g.rules.length] W fun e w' => RowZ w' W.heap.size L e ∧ Below W.heap.size W w' from fun W eg rb hA => by
          rw [EV.out]
          exact OW1.out W eg rb k hk hA)
        clear NO YES RK OW OW1 hr hR EV hn
        go_enter Tryz.func31, Tryz.ntmps31
        go_upto_region 3 with (go_at_call 104; with_reducible refine (RR.out _ (B1 _ _)).mono ?_; rintro e w1 ⟨rfl, hb⟩; have H1 := Lib.hid (bb (B1 w _) hb); have KB := Lib.hid ((Blk.new w #[.slice g.RA g.rules.length g.rc, .slice g.NA g.nodes.length g.nc] 25).below' hb); have g0 := KB.out.cell 0; have g1 := KB.out.cell 1; simp only [List.getElem?_toArray, List.getElem?_cons_zero, List.getElem?_cons_succ] at g0 g1; clear hb)
        clear g0 g1
        have k0 : (World.drew w1).cell? ⟨w.heap.size, 0, none⟩ = some (.slice g.RA g.rules.length g.rc) := KB.out.cell 0
        have k1 : (World.drew w1).cell? ⟨w.heap.size, 1, none⟩ = some (.slice g.NA g.nodes.length g.nc) := KB.out.cell 1
        go_region_held3 (fun W => W.cell? ⟨w.heap.size, 0, none⟩ = some (.slice g.RA g.rules.length g.rc) ∧ W.cell? ⟨w.heap.size, 1, none⟩ = some (.slice g.NA g.nodes.length g.nc)) (first | exact ⟨k0, k1⟩ | exact ⟨m0, m1⟩ | exact ⟨p0, p1⟩) (first | (go_at_call 106; (with_reducible refine (RK2.out _ (by exact bdrew1 H1.out)).mono ?_); rintro e w2 ⟨⟨b, rfl, ho⟩, hb⟩; have L2 := Lib.hid (own_lies1 ho); have M : Below w.heap.size w w2 := bb (bdrew1 H1.out) hb; have KB2 := Lib.hid (Blk.below' (show Blk (World.drew w1) w.heap.size #[.slice g.RA g.rules.length g.rc, .slice g.NA g.nodes.length g.nc] 25 from KB.out) hb); have m0 := KB2.out.cell 0; have m1 := KB2.out.cell 1; simp only [List.getElem?_toArray, List.getElem?_cons_zero, List.getElem?_cons_succ] at m0 m1; clear hb ho) | (go_at_call 105; (with_reducible refine (OW2.out _ M _ L2.out).mono ?_); rintro e w3 ⟨⟨A3, c3, rfl, ho⟩, hb⟩; have O3 := Lib.hid (own_lower ho M.size); have H3 : Below w.heap.size w w3 := bb M hb; have p0 := (KB2.out.below' hb).cell 0; have p1 := (KB2.out.below' hb).cell 1; simp only [List.getElem?_toArray, List.getElem?_cons_zero, List.getElem?_cons_succ] at p0 p1; clear hb ho))
        all_goals (go_wp2_with fail; go_ret; exact ⟨⟨A3, c3, rfl, O3.out⟩, H3⟩)
/-- Whom some nodes call. -/
def callsL (g : Gr) (L : List Int) : List Nat := rowOf' g.rules.length (fun r => L.any (isC g.nodes r))
set_option maxRecDepth 100000 in
set_option maxHeartbeats 16000000 in
theorem r12calls_any (g : Gr) (hrl : g.rules.length ≤ 100000) (A : Option Addr) (c : Nat) (L : List Int) (hL : ∀ m ∈ L, 0 ≤ m ∧ m < g.nodes.length ∧ ((g.nodes.getD m.toNat Nd.zero).kind = 5 → 0 ≤ (g.nodes.getD m.toNat Nd.zero).rule ∧ (g.nodes.getD m.toNat Nd.zero).rule < g.rules.length)) (hll : L.length ≤ 100000) (w : World) (hg : Gr.At w g) (hA : Lies w A (ints L)) :
    Calls Tryz.prog 107 #[g.val, .slice A L.length c] w fun e w' => RowE w' w.heap.size (callsL g L) e ∧ Below w.heap.size w w' := by
  obtain ⟨i0, hi, hz0, hz1, hz2⟩ := info_parts Tryz.info3
  obtain ⟨i1, ji, jz0, jz1, jz2⟩ := info_parts Tryz.info_b
  obtain ⟨r, er⟩ : ∃ r, r = g.rules.length := ⟨_, rfl⟩
  obtain ⟨m, em⟩ : ∃ m, m = L.length := ⟨_, rfl⟩
  have HL := Lib.hid hL
  have HA := Lib.hid hA
  have ER := Lib.hid er
  have EM := Lib.hid em
  have HNL := Lib.hid hg.nl
  have ND := Lib.hid (fun (W : World) (b : Below w.heap.size w W) k (hk : k < g.nodes.length) => (hg.below b).nodes.nine hk)
  have EV := Lib.hid (show callsL g L = rowOf' g.rules.length (fun r => L.any (isC g.nodes r)) from rfl)
  generalize callsL g L = Z at EV ⊢
  unfold Gr.val
  rw [← er] at hrl ⊢
  rw [← em] at hll ⊢
  have hmk : ∀ W : World, (Instr.makeSlice 82 (.int .i64 r) (.int .i64 r)).run Tryz.prog W = .ok (.slice (some ⟨W.heap.size, 0, none⟩) r r) (W.alloc (.cells (List.replicate r (Value.bool false)).toArray 4)) := fun W => by
    have hr := run_make (P := Tryz.prog) W 82 4 i1 (.bool false) Tryz.underlying82 ji jz0 .i64 .i64 (r : Nat) (r : Nat) (by omega) (by omega) (by rw [jz2]; omega) (by omega)
    rw [jz1, Int.toNat_natCast, made_bool] at hr
    exact hr
  have hr0 : (0 : Int) ≤ (r : Int) := by omega
  clear hL hA hg er em
  go_enter Tryz.func107, Tryz.ntmps107
  go_wp2_with fail
  obtain ⟨mb, emb⟩ : ∃ u, u = w.heap.size + 1 := ⟨_, rfl⟩
  obtain ⟨w1, ew1⟩ : ∃ u, u = (w.alloc (.cells #[.slice g.RA r g.rc, .slice g.NA g.nodes.length g.nc] 25)).alloc (.cells (Array.replicate r (Value.bool false)) 4) := ⟨_, rfl⟩
  rw [← ew1, ← emb]
  have I1 : RowKit.Hid (Below w.heap.size w w1 ∧ Blk w1 w.heap.size #[.slice g.RA r g.rc, .slice g.NA g.nodes.length g.nc] 25 ∧ Mk w1 mb r (fun _ => false)) := Lib.hid (by
    rw [ew1]
    refine ⟨B2 _ _ _, (Blk.new _ _ _).alloc _, Mk.zero ?_⟩
    have := Blk.new (w.alloc (.cells #[.slice g.RA r g.rc, .slice g.NA g.nodes.length g.nc] 25)) (List.replicate r (Value.bool false)).toArray 4
    rw [World.size_alloc, ← emb] at this
    simpa [bls] using this)
  have hmbw : w.heap.size < mb := by omega
  clear ew1 emb hmk
  go_loopw [6] (fun i wr => ∃ k : Nat, k ≤ m ∧ i = .int .i64 k ∧ Below w.heap.size w wr ∧ Blk wr w.heap.size #[.slice g.RA r g.rc, .slice g.NA g.nodes.length g.nc] 25 ∧ Mk wr mb r (fun q => (L.take k).any (isC g.nodes q))) (fun i _ => m - (RowKit.intOf i).toNat)
  case atStart => exact ⟨0, by omega, by go_num, I1.out.1, I1.out.2.1, I1.out.2.2.congr (fun q _ => by rw [List.take_zero]; rfl)⟩
  case round =>
    obtain ⟨k, hk, rfl, hb, hbx, hmk⟩ := hrel
    have g0 := hbx.cell 0
    have g1 := hbx.cell 1
    simp only [List.getElem?_toArray, List.getElem?_cons_zero, List.getElem?_cons_succ] at g0 g1
    have HB := Lib.hid hb
    have HBX := Lib.hid hbx
    have HM := Lib.hid hmk
    clear hb hbx hmk
    by_cases hlt : k < m
    · have hlt2 : (k : Int) < m := by omega
      have hkL : k < L.length := by have := EM.out; omega
      obtain ⟨bl, ol, eA, hbl0, cl0⟩ := lies_cell HA.out hkL
      subst eA
      have cl := (HB.out.cell (p := ⟨bl, ol + k, none⟩) (by exact hbl0)).trans cl0
      have hbl : bl < wr.heap.size := by have := HB.out.size; omega
      clear cl0
      have hmem : L.getD k 0 ∈ L := by simp [List.getD, List.getElem?_eq_getElem hkL]
      obtain ⟨p0, p1, p2⟩ := HL.out _ hmem
      have TK := Lib.hid (take_one hkL)
      generalize L.getD k 0 = nd at cl p0 p1 p2 TK
      obtain ⟨n, rfl⟩ : ∃ n : Nat, nd = n := ⟨nd.toNat, by omega⟩
      have hn : n < g.nodes.length := by omega
      have hn2 : (n : Int) < g.nodes.length := p1
      rw [Int.toNat_natCast] at p2
      obtain ⟨b1, o1, eN, hb10, z1, z2, z3, z4, z5, z6, z7, z8, z9⟩ := ND.out w (Below.refl _ _) n hn
      have n1 := (HB.out.cell (p := ⟨b1, _, none⟩) (by exact hb10)).trans z1
      have n7 := (HB.out.cell (p := ⟨b1, _, none⟩) (by exact hb10)).trans z7
      have hb1 : b1 < wr.heap.size := by have := HB.out.size; omega
      clear z1 z2 z3 z4 z5 z6 z7 z8 z9
      rw [eN] at g1
      have EN := Lib.hid eN
      clear eN
      have STN := Lib.hid (fun (h : (g.nodes.getD n Nd.zero).kind ≠ 5) q => show ((L.take (k + 1)).any (isC g.nodes q)) = ((L.take k).any (isC g.nodes q)) from by rw [TK.out, any_one, isC_no (by rw [Int.toNat_natCast]; exact h), Bool.or_false])
      have STY := Lib.hid (fun (h : (g.nodes.getD n Nd.zero).kind = 5) (ru : Nat) (hr : (g.nodes.getD n Nd.zero).rule = (ru : Int)) q => show ((L.take (k + 1)).any (isC g.nodes q)) = (if q = ru then true else (L.take k).any (isC g.nodes q)) from by
        rw [TK.out, any_one, isC_yes (r := ru) (by rw [Int.toNat_natCast]; exact h) (by rw [Int.toNat_natCast]; exact hr)]
        by_cases e : ru = q
        · rw [if_pos e.symm, decide_eq_true e, Bool.or_true]
        · rw [if_neg (fun h => e h.symm), decide_eq_false e, Bool.or_false])
      generalize g.nodes.getD n Nd.zero = x at n1 n7 p2 STN STY
      obtain ⟨kd, q0, q1, q2, q3, t, ru, lv, KA, cap, ks⟩ := x
      dsimp only at n1 n7 p2 STN STY
      clear hmem p0 p1
      have f0 := fun (e : Ext wr) => Ext.cell g1 e
      have f1 := fun (e : Ext wr) => Ext.cell cl e
      have f2 := fun (e : Ext wr) => Ext.cell n1 e
      by_cases h5 : kd = 5
      · subst h5
        obtain ⟨r0, r1⟩ := p2 rfl
        obtain ⟨ru', rfl⟩ : ∃ u : Nat, ru = u := ⟨ru.toNat, by omega⟩
        have ru2 : ru' < r := by have := ER.out; omega
        have ru3 : (ru' : Int) < r := by omega
        go_wp2_with fail
        refine wp_region_ext (by kernel_rfl) (by kernel_rfl) ?_
        repeat (first | go_big_quiet_step (fail) | quiet_step (fail))
        refine wpQuiet_nil ?_
        intro w13 hw'
        obtain ⟨⟨_, hb13⟩, rfl⟩ := hw'
        have H13 := Lib.hid hb13
        clear hb13
        have g1 := (HBX.out.below' H13.out).cell 1
        simp only [List.getElem?_toArray, List.getElem?_cons_zero, List.getElem?_cons_succ] at g1
        rw [EN.out] at g1
        have cl' := (H13.out.cell (p := ⟨bl, _, none⟩) hbl).trans cl
        have n7' := (H13.out.cell (p := ⟨b1, _, none⟩) hb1).trans n7
        have M13 := Lib.hid (HM.out.below H13.out)
        have e4 := M13.out.cell ru2
        have e5 := M13.out.frozen ru'
        have BLM := Lib.hid (show bl ≠ mb by omega)
        have B1M := Lib.hid (show b1 ≠ mb by omega)
        clear f0 f1 f2 cl n1 n7 g0
        go_wp2_with fail
        have k0 : (World.drew w13).cell? ⟨w.heap.size, 1, none⟩ = _ := g1
        have k1 : (World.drew w13).cell? ⟨bl, _, none⟩ = _ := cl'
        have k2 : (World.drew w13).cell? ⟨b1, _, none⟩ = _ := n7'
        have e6 : (World.drew w13).cell? ⟨mb, ru', none⟩ = _ := e4
        have e7 : (World.drew w13).frozen? ⟨mb, ru', none⟩ = false := e5
        have j0 := (cell_setOther (World.drew w13) mb ru' (.bool true) ⟨w.heap.size, 1, none⟩ (by show w.heap.size ≠ mb; omega)).trans k0
        have j1 := (cell_setOther (World.drew w13) mb ru' (.bool true) ⟨bl, _, none⟩ (by show bl ≠ mb; exact BLM.out)).trans k1
        have j2 := (cell_setOther (World.drew w13) mb ru' (.bool true) ⟨b1, _, none⟩ (by show b1 ≠ mb; exact B1M.out)).trans k2
        go_region_held3 (fun W => W.cell? ⟨w.heap.size, 1, none⟩ = some (.slice (some ⟨b1, o1, none⟩) g.nodes.length g.nc) ∧ W.cell? ⟨bl, ol + k, none⟩ = some (.int .i64 n) ∧ W.cell? ⟨b1, o1 + n * 9 + 6, none⟩ = some (.int .i64 ru')) (first | exact ⟨k0, k1, k2⟩ | exact ⟨j0, j1, j2⟩) (fail)
        all_goals (
          go_wp2_with fail
          go_roundw
          case rel =>
            have fin : ∃ k' : Nat, k' ≤ m ∧ Value.int .i64 ((k : Int) + 1) = .int .i64 k' ∧ Below w.heap.size w ((World.drew w13).setCell ⟨mb, ru', none⟩ (.bool true)) ∧ Blk ((World.drew w13).setCell ⟨mb, ru', none⟩ (.bool true)) w.heap.size #[.slice g.RA r g.rc, .slice g.NA g.nodes.length g.nc] 25 ∧ Mk ((World.drew w13).setCell ⟨mb, ru', none⟩ (.bool true)) mb r (fun q => (L.take k').any (isC g.nodes q)) := by
              refine ⟨k + 1, by omega, by go_num, (bdrew1 (HB.out.trans (H13.out.mono HB.out.size))).setCell (p := ⟨mb, ru', none⟩) (by show w.heap.size ≤ mb; omega) _, (heap_setCell_other _ ⟨mb, ru', none⟩ w.heap.size _ (by show w.heap.size ≠ mb; omega)).trans (HBX.out.below' (bdrew1 H13.out)), ?_⟩
              have h := (show Mk (World.drew w13) mb r _ from M13.out).put ru2 true
              exact h.congr (fun q _ => (STY.out (by first | rfl | trivial) ru' (by first | rfl | trivial) q).symm)
            first | exact fin | ((repeat apply Exists.intro); exact ⟨fin, rfl⟩)
          case measure => simp [RowKit.intOf]; omega)
      · have hkd : ¬ kd = 5 := h5
        go_wp2_with fail
        refine wp_region_ext (by kernel_rfl) (by kernel_rfl) ?_
        repeat (first | go_big_quiet_step (fail) | quiet_step (fail))
        refine wpQuiet_nil ?_
        intro w13 hw'
        obtain ⟨⟨_, hb13⟩, rfl⟩ := hw'
        have H13 := Lib.hid hb13
        clear hb13
        clear f0 f1 f2 cl n1 n7 g0 g1
        go_wp2_with fail
        go_roundw
        case rel => exact ⟨k + 1, by omega, by go_num, HB.out.trans (H13.out.mono HB.out.size), HBX.out.below' H13.out, (HM.out.below H13.out).congr (fun q _ => (STN.out h5 q).symm)⟩
        case measure => simp [RowKit.intOf]; omega
    · obtain rfl : k = m := by omega
      have hlt2 : ¬ (k : Int) < k := by omega
      have HM2 := Lib.hid (HM.out.congr (f' := fun q => L.any (isC g.nodes q)) (fun q _ => by have := EM.out; rw [this, List.take_length]))
      obtain ⟨fq, efq⟩ : ∃ fq : Nat → Bool, fq = fun q => L.any (isC g.nodes q) := ⟨_, rfl⟩
      rw [← efq] at HM2
      have EV2 := Lib.hid (show Z = rowOf' r fq from by rw [EV.out, efq, ER.out])
      clear HM EV efq g0 g1 HL HA ND
      clear hlt2
      go_wp2_with fail
      go_loopw [7, 8] (fun l i wz => ∃ k : Nat, k ≤ r ∧ i = .int .i64 k ∧ wz.ownsRow w.heap.size 3 1 l (rowOf' k fq).length (ints (nums (rowOf' k fq))) ∧ Below w.heap.size w wz ∧ Mk wz mb r fq) (fun _ i _ => r - (RowKit.intOf i).toNat)
      case atStart => exact ⟨0, by omega, by go_num, World.ownsRow_nil _ _ _ _, HB.out, HM2.out⟩
      case round =>
        obtain ⟨k, hk, rfl, hown, hb, hmk⟩ := hrel
        have HO := Lib.hid hown
        have HBz := Lib.hid hb
        have HMz := Lib.hid hmk
        have RS := Lib.hid (rowOf_succ k fq)
        have RL := Lib.hid (rowOf_len fq k)
        clear hown hb hmk
        by_cases hlt : k < r
        · have hlt2 : (k : Int) < r := by omega
          have c1 := HMz.out.cell hlt
          cases hp : fq k with
          | true =>
            rw [hp] at c1
            have QK := Lib.hid hp
            clear hp
            go_wp2_with (at_builtin; refine wpList_append_own _ rfl _ _ 38 rfl w.heap.size 3 i0 (.int .i64 0) 1 8 Tryz.underlying38 hi hz0 hz1 hz2 rfl (by decide) _ _ _ rfl (HO.out.alloc _) ⟨wr.heap.size, 0, none⟩ 1 1 [.int .i64 k] rfl rfl (cell_one_new _ _ _) (by simp [Value.oneCell']) (by unfold maxLen; have := RL.out; omega) (by have := RL.out; omega) (by have := HBz.out.size; simp; omega) ?_; intro v' w9 hown' hgrow hnil'; have O9 := Lib.hid hown'; have G9 := Lib.hid hgrow; clear hown' hgrow hnil')
            go_roundw
            case rel =>
              refine ⟨k + 1, by omega, by go_num, ?_, ?_, ?_⟩
              · rw [RS.out, QK.out, if_pos rfl, List.length_append, nums_app]
                have := O9.out
                simpa [ints] using this
              · exact grown_below (w := wr.alloc _) (HBz.out.trans ((B1 wr _).mono HBz.out.size)) (by have := HBz.out.size; simp; omega) G9.out (fun j e => (HO.out.lt j e).1)
              · exact (HMz.out.below (B1 wr _)).grown (HO.out.alloc _) (by decide) G9.out
            case measure => simp [RowKit.intOf]; omega
          | false =>
            rw [hp] at c1
            have QK := Lib.hid hp
            clear hp
            go_wp2_with fail
            go_roundw
            case rel => exact ⟨k + 1, by omega, by go_num, by rw [RS.out, QK.out]; exact HO.out, HBz.out, HMz.out⟩
            case measure => simp [RowKit.intOf]; omega
        · obtain rfl : k = r := by omega
          have hlt2 : ¬ (k : Int) < k := by omega
          go_wp2_with fail
          go_ret
          rw [EV2.out]
          exact ⟨⟨_, rfl, HO.out⟩, HBz.out⟩
theorem callsAt_L {g : Gr} (n : Int) : callsAt g n = callsL g (nodesAt g n) := by
  by_cases h : rightB g = true ∧ 0 ≤ n ∧ n < g.nodes.length
  · have e : nodesAt g n = ownN g.nodes (mayG g) n := by unfold nodesAt; rw [if_pos h]
    have e2 : callsAt g n = callsOf g n := by unfold callsAt; rw [if_pos h]
    rw [e, e2]
    rfl
  · have e : nodesAt g n = [] := by unfold nodesAt; rw [if_neg h]
    have e2 : callsAt g n = [] := by unfold callsAt; rw [if_neg h]
    rw [e, e2]
    symm
    refine List.eq_nil_iff_forall_not_mem.2 fun x hx => ?_
    have := (rowOf_mem.1 hx).2
    simp at this
theorem nodesAt_in {g : Gr} (n : Int) : ∀ m ∈ nodesAt g n, 0 ≤ m ∧ m < g.nodes.length ∧ ((g.nodes.getD m.toNat Nd.zero).kind = 5 → 0 ≤ (g.nodes.getD m.toNat Nd.zero).rule ∧ (g.nodes.getD m.toNat Nd.zero).rule < g.rules.length) := by
  intro m hm
  by_cases h : rightB g = true ∧ 0 ≤ n ∧ n < g.nodes.length
  · have e : nodesAt g n = ownN g.nodes (mayG g) n := by unfold nodesAt; rw [if_pos h]
    rw [e] at hm
    obtain ⟨hr, h0, h1⟩ := h
    have hR := rightB_true.1 hr
    obtain ⟨k, rfl⟩ : ∃ k : Nat, n = k := ⟨n.toNat, by omega⟩
    obtain ⟨ms, hms, _⟩ := hR.pre
    have hri := own_rises hms (mayG g) _ k (by omega) (Nat.le_refl _)
    have h2 := hms k (by omega) (by omega)
    have h3 := hri.each m hm
    have hml : m.toNat < g.nodes.length := by omega
    exact ⟨by omega, by omega, fun h5 => (kinds (hR.all m.toNat hml)).2.2 h5⟩
  · have e : nodesAt g n = [] := by unfold nodesAt; rw [if_neg h]
    rw [e] at hm
    cases hm
theorem nodesAt_len (g : Gr) (n : Int) : (nodesAt g n).length ≤ 2048 := by
  by_cases h : rightB g = true ∧ 0 ≤ n ∧ n < g.nodes.length
  · have e : nodesAt g n = ownN g.nodes (mayG g) n := by unfold nodesAt; rw [if_pos h]
    rw [e]
    obtain ⟨k, rfl⟩ : ∃ k : Nat, n = k := ⟨n.toNat, by omega⟩
    exact own_len (rightB_true.1 h.1) k (by omega)
  · have e : nodesAt g n = [] := by unfold nodesAt; rw [if_neg h]
    rw [e]; simp
set_option maxRecDepth 100000 in
set_option maxHeartbeats 8000000 in
theorem r12Calls_any (g : Gr) (n : Int) (hn : -9223372036854775808 ≤ n ∧ n < 9223372036854775808) (hrl : g.rules.length ≤ 100000) (w : World) (hg : Gr.At w g) (hin : Gr.In g) : Calls Tryz.prog 32 #[g.val, .int .i64 n] w fun e w' => RowE w' w.heap.size (callsAt g n) e ∧ Below w.heap.size w w' := by
  have NN := Lib.hid (fun (w' : World) (b : Below w.heap.size w w') => r12Nodes_any g n hn w' (hg.below b) hin)
  have CC := Lib.hid (fun (w' : World) (b : Below w.heap.size w w') A c (hA : Lies w' A (ints (nodesAt g n))) => r12calls_any g hrl A c (nodesAt g n) (nodesAt_in n) (by have := nodesAt_len g n; omega) w' (hg.below b) hA)
  rw [← callsAt_L] at CC
  generalize callsAt g n = Z at CC ⊢
  generalize nodesAt g n = L at NN CC
  clear hg hin hn hrl
  show Calls Tryz.prog 32 #[.agg #[.slice g.RA g.rules.length g.rc, .slice g.NA g.nodes.length g.nc], .int .i64 n] w _
  have KB := Lib.hid (show Blk (World.drew (w.alloc (.cells #[.slice g.RA g.rules.length g.rc, .slice g.NA g.nodes.length g.nc] 25))) w.heap.size #[.slice g.RA g.rules.length g.rc, .slice g.NA g.nodes.length g.nc] 25 from Blk.new w _ _)
  have k0 := KB.out.cell 0
  have k1 := KB.out.cell 1
  simp only [List.getElem?_toArray, List.getElem?_cons_zero, List.getElem?_cons_succ] at k0 k1
  go_enter Tryz.func32, Tryz.ntmps32
  go_wp2_with fail
  go_region_held3 (fun W => W.cell? ⟨w.heap.size, 0, none⟩ = some (.slice g.RA g.rules.length g.rc) ∧ W.cell? ⟨w.heap.size, 1, none⟩ = some (.slice g.NA g.nodes.length g.nc)) (first | exact ⟨k0, k1⟩ | exact ⟨m0, m1⟩ | exact ⟨p0, p1⟩) (first | (go_at_call 107; (with_reducible refine (CC.out _ M _ _ L2.out).mono ?_); rintro e w3 ⟨⟨v3, rfl, ho⟩, hb⟩; have O3 := Lib.hid (own_lower ho M.size); have H3 : Below w.heap.size w w3 := bb M hb; have p0 := (KB2.out.below' hb).cell 0; have p1 := (KB2.out.below' hb).cell 1; simp only [List.getElem?_toArray, List.getElem?_cons_zero, List.getElem?_cons_succ] at p0 p1; clear hb ho) | (go_at_call 31; (with_reducible refine (NN.out _ (by exact bdrew1 (B1 _ _))).mono ?_); rintro e w2 ⟨⟨A2, c2, rfl, ho⟩, hb⟩; have L2 := Lib.hid (own_lies1 ho); have M : Below w.heap.size w w2 := bb (bdrew1 (B1 w _)) hb; have KB2 := Lib.hid (KB.out.below' hb); have m0 := KB2.out.cell 0; have m1 := KB2.out.cell 1; simp only [List.getElem?_toArray, List.getElem?_cons_zero, List.getElem?_cons_succ] at m0 m1; clear hb ho))
  all_goals (go_wp2_with fail; go_ret; exact ⟨⟨v3, rfl, O3.out⟩, H3⟩)
end Go.Proofs.YtlbjmkljmhfjdaaGreat
namespace Go.Proofs.YtlbjmkljmhfjdaaGreat
open Go Go.RowKit Go.Maps Go.Shelf
theorem Tryz.info_sH : (Tryz.prog.info? 38).map (fun i => (i.zero, i.size, i.bytes)) = some (some (.slice none 0 0), 1, 24) := by kernel_rfl
/-- Rows of numbers, each of its own, in a row. -/
structure Rows2 (w W : World) (gb : Nat) (vs : List Value) (L : List (List Nat)) : Prop where
  blk : Blk W gb vs.toArray 38
  new : w.heap.size ≤ gb
  len : vs.length = L.length
  row : ∀ i, i < L.length → W.ownsRow w.heap.size 3 1 (vs.getD i undef) (L.getD i []).length (ints (nums (L.getD i [])))
  low : Below w.heap.size w W
theorem Rows2.below {w W W' : World} {gb : Nat} {vs : List Value} {L : List (List Nat)} (h : Rows2 w W gb vs L) (hb : Below W.heap.size W W') : Rows2 w W' gb vs L :=
  ⟨h.blk.below' hb, h.new, h.len, fun i hi => own_below (h.row i hi) hb, h.low.trans (hb.mono h.low.size)⟩
noncomputable def graphOf (g : Gr) : List (List Nat) := (List.range g.rules.length).map (lcal g)
theorem graphOf_len (g : Gr) : (graphOf g).length = g.rules.length := by simp [graphOf]
theorem graphOf_at {g : Gr} {i : Nat} (h : i < g.rules.length) : (graphOf g).getD i [] = lcal g i := by simp [graphOf, List.getD, h]
/-- The rows so far. -/
noncomputable def graphTo (g : Gr) (k : Nat) : List (List Nat) := (List.range g.rules.length).map fun i => if i < k then lcal g i else []
theorem graphTo_len (g : Gr) (k : Nat) : (graphTo g k).length = g.rules.length := by simp [graphTo]
theorem graphTo_at {g : Gr} {i k : Nat} (h : i < g.rules.length) : (graphTo g k).getD i [] = if i < k then lcal g i else [] := by simp [graphTo, List.getD, h]
theorem graphTo_all (g : Gr) : graphTo g g.rules.length = graphOf g := by
  unfold graphTo graphOf
  exact List.map_congr_left fun i hi => by rw [if_pos (by simpa using hi)]
theorem Rows2.step {w W W1 : World} {gb k : Nat} {vs : List Value} {g : Gr} {v : Value} (h : Rows2 w W gb vs (graphTo g k)) (hk : k < g.rules.length) (hb : Below W.heap.size W W1) (ho : W1.ownsRow W.heap.size 3 1 v (lcal g k).length (ints (nums (lcal g k)))) :
    Rows2 w (W1.setCell ⟨gb, k, none⟩ v) gb (vs.set k v) (graphTo g (k + 1)) := by
  have h1 := h.below hb
  have hl := h.len
  rw [graphTo_len] at hl
  have keep : ∀ {B n : Nat} {u : Value} {xs : List Value}, W1.ownsRow B 3 1 u n xs → (W1.setCell ⟨gb, k, none⟩ v).ownsRow B 3 1 u n xs := fun {B n u xs} ho =>
    own_kept ho (fun j hj => heap_setCell_other W1 ⟨gb, k, none⟩ j _ (fun e => own_ne ho h1.blk (by decide) (by rw [hj]; exact congrArg some e)))
  refine ⟨h1.blk.put v, h.new, by rw [List.length_set, graphTo_len]; exact hl, fun i hi => ?_, h1.low.setCell (p := ⟨gb, k, none⟩) h.new _⟩
  rw [graphTo_len] at hi
  rw [graphTo_at hi]
  by_cases e : i = k
  · subst e
    rw [if_pos (by omega)]
    have : (vs.set i v).getD i undef = v := by simp [List.getD, hl, hi]
    rw [this]
    exact keep (own_lower ho h.low.size)
  · have : (vs.set k v).getD i undef = vs.getD i undef := by simp only [List.getD]; rw [List.getElem?_set_ne (fun h => e h.symm)]
    rw [this]
    have h2 := h1.row i (by rw [graphTo_len]; exact hi)
    rw [graphTo_at hi] at h2
    have e2 : (if i < k + 1 then lcal g i else []) = if i < k then lcal g i else [] := by
      by_cases hik : i < k
      · rw [if_pos hik, if_pos (by omega)]
      · rw [if_neg hik, if_neg (by omega)]
    rw [e2]
    exact keep h2
set_option maxRecDepth 100000 in
set_option maxHeartbeats 2000000 in
theorem graph_no (g : Gr) (w : World) (hg : Gr.At w g) (hin : Gr.In g) (hr : rightB g = false) : Calls Tryz.prog 23 #[g.val] w fun e w' => e = .returned (.slice none 0 0) ∧ Below w.heap.size w w' := by
  have WW := Lib.hid (fun (w' : World) (b : Below w.heap.size w w') => lworkOf_no g w' (hg.below b) hin hr)
  clear hg hin hr
  show Calls Tryz.prog 23 #[.agg #[.slice g.RA g.rules.length g.rc, .slice g.NA g.nodes.length g.nc]] w _
  go_enter Tryz.func23, Tryz.ntmps23
  go_wp2_with (go_at_call 91; with_reducible refine (WW.out _ (B1 _ _)).mono ?_; rintro e w1 ⟨rfl, hb⟩; have H1 := Lib.hid (bb (B1 w _) hb); clear hb)
  go_ret
  exact ⟨rfl, H1.out⟩
set_option maxRecDepth 100000 in
set_option maxHeartbeats 4000000 in
theorem graph_any (g : Gr) (w : World) (hg : Gr.At w g) (hin : Gr.In g) (hc : Capd g) (hR : Right g) : Calls Tryz.prog 23 #[g.val] w fun e w' => ∃ gb vs, e = .returned (.slice (some ⟨gb, 0, none⟩) g.rules.length g.rules.length) ∧ Rows2 w w' gb vs (graphOf g) := by
  obtain ⟨i0, hi, hz0, hz1, hz2⟩ := info_parts Tryz.info_sH
  have WW := Lib.hid (fun (w' : World) (b : Below w.heap.size w w') => lworkOf_any g w' (hg.below b) hin hR)
  have BC := Lib.hid (fun (w1 : World) (p nb : Nat) (hW : Wk w1 p g nb) i hi => bodyCalls_any hW hR hc i hi)
  have h32 := hR.rules.2
  have GA := Lib.hid (graphTo_all g)
  have GZ := Lib.hid (fun i (h : i < g.rules.length) => graphTo_at (g := g) (k := 0) h)
  have GL := Lib.hid (graphTo_len g)
  clear hg hin hR hc
  show Calls Tryz.prog 23 #[.agg #[.slice g.RA g.rules.length g.rc, .slice g.NA g.nodes.length g.nc]] w _
  obtain ⟨m, em⟩ : ∃ m, m = g.rules.length := ⟨_, rfl⟩
  have EM := Lib.hid em
  rw [← em] at h32 ⊢
  have WW2 : RowKit.Hid (∀ (w' : World) (b : Below w.heap.size w w'), Calls Tryz.prog 91 #[.agg #[.slice g.RA m g.rc, .slice g.NA g.nodes.length g.nc]] w' fun e w'' => ∃ p nb, e = .returned (.tuple #[.pointer (some ⟨p, 0, none⟩), .bool true]) ∧ Wk w'' p g nb ∧ Below w'.heap.size w' w'') := Lib.hid (by rw [em]; exact WW.out)
  clear WW em
  go_enter Tryz.func23, Tryz.ntmps23
  go_upto_region 4 with (go_at_call 91; with_reducible refine (WW2.out _ (B1 _ _)).mono ?_; rintro e w1 ⟨p, nb, rfl, hW, hb⟩; have H1 := Lib.hid (bb (B1 w _) hb); have HW := Lib.hid hW; clear hb hW)
  have c0 := HW.out.box.cell 0
  simp only [List.getElem?_toArray, List.getElem?_cons_zero, List.getElem?_cons_succ] at c0
  rw [← EM.out] at c0
  have hmk : ∀ W : World, (Instr.makeSlice 31 (.int .i64 m) (.int .i64 m)).run Tryz.prog W = .ok (.slice (some ⟨W.heap.size, 0, none⟩) m m) (W.alloc (.cells (List.replicate m (Value.slice none 0 0)).toArray 38)) := fun W => by
    have hr := run_make (P := Tryz.prog) W 31 38 i0 (.slice none 0 0) Tryz.underlying31 hi hz0 .i64 .i64 (m : Nat) (m : Nat) (by omega) (by omega) (by rw [hz2]; omega) (by omega)
    have e : madeCells (Value.slice none 0 0).cells (m * 1) = (List.replicate m (Value.slice none 0 0)).toArray := by
      apply Array.ext
      · simp [madeCells]
      · intro k h1 h2
        simp [madeCells, Value.cells, Nat.mod_one]
    rw [hz1, Int.toNat_natCast, e] at hr
    exact hr
  go_wp2_with fail
  obtain ⟨gb, egb⟩ : ∃ u, u = w1.heap.size := ⟨_, rfl⟩
  have R0 : RowKit.Hid (Rows2 w (w1.alloc (.cells (Array.replicate m (Value.slice none 0 0)) 38)) gb (List.replicate m (Value.slice none 0 0)) (graphTo g 0)) := Lib.hid (by
    refine ⟨?_, by rw [egb]; exact H1.out.size, by rw [GL.out 0, List.length_replicate, EM.out], fun i hi => ?_, H1.out.trans ((B1 w1 _).mono H1.out.size)⟩
    · rw [egb, show (List.replicate m (Value.slice none 0 0)).toArray = Array.replicate m (Value.slice none 0 0) from by simp]
      exact Blk.new _ _ _
    · rw [GL.out 0] at hi
      rw [GZ.out i hi, if_neg (by omega)]
      have : (List.replicate m (Value.slice none 0 0)).getD i undef = .slice none 0 0 := by have := EM.out; simp [List.getD, show i < m by omega]
      rw [this]
      exact World.ownsRow_nil _ _ _ _)
  have EGB := Lib.hid (show w1.heap.size ≤ gb by omega)
  have hb12 := B1 w1 (.cells (Array.replicate m (Value.slice none 0 0)) 38)
  first | rw [← egb] | skip
  generalize w1.alloc (.cells (Array.replicate m (Value.slice none 0 0)) 38) = w2 at R0 hb12 ⊢
  have HB12 := Lib.hid hb12
  clear hb12 c0 hmk GZ egb
  go_loopw [23, 6] (fun i _ wr => ∃ (k : Nat) (vs : List Value), k ≤ m ∧ i = .int .i64 k ∧ Rows2 w wr gb vs (graphTo g k) ∧ Below w1.heap.size w1 wr) (fun i _ _ => m - (intOf i).toNat)
  case atStart => exact ⟨0, _, by omega, rfl, R0.out, HB12.out⟩
  case round =>
    obtain ⟨k, vs, hk, rfl, hrw, hbl⟩ := hrel
    have HRW := Lib.hid hrw
    have BL := Lib.hid hbl
    clear hrw hbl
    by_cases hlt : k < m
    · have hlt2 : (k : Int) < m := by omega
      have B0 := Lib.hid (BC.out wr p nb (HW.out.below BL.out) k (by have := EM.out; omega))
      go_wp2_with fail
      refine B0.out.mono ?_
      rintro e w5 ⟨⟨v5, rfl, ho, _⟩, hb5⟩
      have HS := Lib.hid (HRW.out.step (by have := EM.out; omega) hb5 ho)
      have h5 := HRW.out.below hb5
      have hvl : vs.length = m := by rw [h5.len, GL.out k]; exact EM.out.symm
      have c5 := h5.blk.cell k
      have f5 := h5.blk.frozen k
      obtain ⟨A6, n6, e6, _, _⟩ := own_slice (h5.row k (by rw [GL.out k]; have := EM.out; omega))
      have e7 : vs[k]? = some (vs.getD k undef) := by simp [List.getD, List.getElem?_eq_getElem (show k < vs.length by omega)]
      rw [List.getElem?_toArray, e7, e6] at c5
      generalize ((graphTo g k).getD k []).length = q6 at c5
      obtain ⟨A5, n5, rfl, _, _⟩ := own_slice ho
      have HB5 := Lib.hid (BL.out.trans (hb5.mono BL.out.size))
      generalize (lcal g k).length = q5 at HS ⊢
      clear h5 ho hb5 hvl e6 e7
      go_wp2_with fail
      go_roundw
      case rel => exact ⟨k + 1, _, by omega, by go_num, HS.out, HB5.out.setCell (p := ⟨gb, k, none⟩) EGB.out _⟩
      case measure => simp [intOf]; omega
    · obtain rfl : k = m := by omega
      have hlt2 : ¬ (k : Int) < k := by omega
      go_wp2_with fail
      go_ret
      refine ⟨gb, rfl, vs, ?_⟩
      have := HRW.out
      rw [EM.out, GA.out] at this
      exact this
end Go.Proofs.YtlbjmkljmhfjdaaGreat
namespace Go.Proofs.YtlbjmkljmhfjdaaGreat
open Go Go.RowKit Go.Maps Go.Shelf
/-- A row within a block of the call's own. -/
def Tail (w : World) (base : Nat) (v : Value) (xs : List Int) : Prop := ∃ g off cap cur, v = .slice (some ⟨g, off, none⟩) xs.length cap ∧ base ≤ g ∧ w.heap[g]? = some (.cells cur 3 (0, 0)) ∧ xs.length ≤ cap ∧ cap ≤ maxLen ∧ off + cap ≤ cur.size ∧ ∀ i, i < xs.length → cur[off + i]? = some (.int .i64 (xs.getD i 0))
theorem Tail.kept {w w' : World} {base : Nat} {v : Value} {xs : List Int} (h : Tail w base v xs) (hk : ∀ k, v.ownBlock = some k → w'.heap[k]? = w.heap[k]?) : Tail w' base v xs := by
  obtain ⟨g, off, cap, cur, rfl, h1, h2, h3⟩ := h
  exact ⟨g, off, cap, cur, rfl, h1, (hk g rfl).trans h2, h3⟩
theorem Tail.lt {w : World} {base : Nat} {v : Value} {xs : List Int} (h : Tail w base v xs) : ∀ k, v.ownBlock = some k → base ≤ k ∧ k < w.heap.size := by
  obtain ⟨g, off, cap, cur, rfl, h1, h2, h3⟩ := h
  intro k hk
  simp only [Value.ownBlock, Option.some.injEq] at hk
  subst hk
  exact ⟨h1, (Array.getElem?_eq_some_iff.1 h2).1⟩
theorem Tail.ne {w : World} {base b : Nat} {v : Value} {xs : List Int} {vs : Array Value} {T : TypeId} (h : Tail w base v xs) (hb : Blk w b vs T) (hT : T ≠ 3) : v.ownBlock ≠ some b := by
  obtain ⟨g, off, cap, cur, rfl, h1, h2, h3⟩ := h
  simp only [Value.ownBlock, ne_eq, Option.some.injEq]
  rintro rfl
  rw [show w.heap[g]? = _ from hb] at h2
  simp only [Option.some.injEq, Obj.cells.injEq] at h2
  exact hT h2.2.1
theorem Tail.one {w : World} {base b : Nat} {x : Int} (h : Blk w b #[.int .i64 x] 3) (hb : base ≤ b) : Tail w base (.slice (some ⟨b, 0, none⟩) 1 1) [x] :=
  ⟨b, 0, 1, #[.int .i64 x], rfl, hb, h, Nat.le_refl _, by unfold maxLen; omega, by simp, fun i hi => by
    obtain rfl : i = 0 := by simpa using hi
    rfl⟩
theorem Tail.app {w : World} {base : Nat} {v : Value} {xs : List Int} (h : Tail w base v xs) (hl : xs.length ≤ 1000) (x : Int) (a : Addr) (c : Nat) (hx : w.cell? a = some (.int .i64 x)) (hb : base ≤ w.heap.size) (ty : TypeId) :
    ∃ v' w', (Builtin.append_ #[38, 38] ty #[v, .slice (some a) 1 c]).run Tryz.prog w = .ok v' w' ∧ Tail w' base v' (xs ++ [x]) ∧ w.grownBy w' v.ownBlock ∧ (∀ k, v'.ownBlock = some k → v.ownBlock = some k ∨ w.heap.size ≤ k) := by
  obtain ⟨i0, hi, hz0, hz1, hz2⟩ := info_parts Tryz.info3
  obtain ⟨g, off, cap, cur, rfl, h1, h2, h3, h4, h5, h6⟩ := h
  have hnews : ∀ j u, [Value.int .i64 x][j]? = some u → w.cell? (a.add j) = some u := fun j u hj => by
    cases j with
    | zero => simp at hj; subst hj; simpa [Addr.add] using hx
    | succ j => simp at hj
  by_cases hr : xs.length + 1 ≤ cap
  · have hlt : off + xs.length < cur.size := by omega
    have hr2 := run_append_room_cells (P := Tryz.prog) w 38 ty 3 i0 Tryz.underlying38 hi g off xs.length cap a 1 c [.int .i64 x] (by rw [hz1]; rfl) hnews (by simp [Value.oneCell']) hr
      (fun j hj => by
        obtain rfl : j = 0 := by simpa using hj
        rw [hz1, Nat.mul_one, Nat.add_zero, Blk.cell h2, Array.getElem?_eq_getElem hlt]; rfl)
      (fun j _ => Blk.frozen h2 _)
    rw [hz1, Nat.mul_one] at hr2
    refine ⟨_, _, hr2, ⟨g, off, cap, cur.setIfInBounds (off + xs.length) (.int .i64 x), by simp, h1, ?_, by simpa using hr, h4, by simpa using h5, fun i hi => ?_⟩, ?_, fun k hk => .inl hk⟩
    · exact heap_setCell_same w g (off + xs.length) cur 3 (.int .i64 x) h2
    · simp only [List.length_append, List.length_singleton] at hi
      by_cases e : i = xs.length
      · subst e
        rw [Array.getElem?_setIfInBounds_self_of_lt hlt]
        simp [List.getD]
      · rw [Array.getElem?_setIfInBounds_ne (by omega), h6 i (by omega)]
        simp only [List.getD]
        rw [List.getElem?_append_left (by omega)]
    · have hbl := Below.setCell (Below.refl g w) (p := ⟨g, off + xs.length, none⟩) (Nat.le_refl _) (.int .i64 x)
      exact ⟨hbl.os, hbl.tape, hbl.output, hbl.size, fun k hk hne => Below.heap_setCell _ _ _ k (fun e => hne (by rw [show k = g from e]; rfl))⟩
  · obtain ⟨v', w', hrun, ho, hg⟩ := run_append_arg_grows (P := Tryz.prog) w 38 ty 3 i0 (.int .i64 0) 1 8 Tryz.underlying38 hi hz0 hz1 hz2 rfl (by decide) ⟨g, off, none⟩ xs.length cap (ints xs) (by rw [ints_length, Nat.mul_one])
      (fun j u hj => by
        have hjl : j < xs.length := by have := (List.getElem?_eq_some_iff.1 hj).1; rwa [ints_length] at this
        have : w.cell? ⟨g, off + j, none⟩ = some (.int .i64 (xs.getD j 0)) := by rw [Blk.cell h2]; exact h6 j hjl
        rw [Addr.add_lit, this]
        rw [ints_at hjl] at hj
        exact hj) a 1 c [.int .i64 x] rfl hnews (by omega) (by unfold maxLen; omega) (by omega)
    have hz : (Value.slice (some ⟨g, off, none⟩) xs.length cap).ownBlock = some g := rfl
    obtain ⟨g', cap', cur', e1, hbg, hgh, hnc, hcm, hcs, htake⟩ : ∃ g' cap' cur', v' = .slice (some ⟨g', 0, none⟩) (xs.length + 1) cap' ∧ w.heap.size ≤ g' ∧ w'.heap[g']? = some (.cells cur' 3 (0, 0)) ∧ xs.length + 1 ≤ cap' ∧ cap' ≤ maxLen ∧ cur'.size = cap' * 1 ∧ cur'.toList.take ((xs.length + 1) * 1) = ints xs ++ [.int .i64 x] := by
      rcases ho.2 with ⟨_, h0⟩ | ⟨g', cap', cur', e1, h7, h8, h9, h10, h11, h12⟩
      · omega
      · exact ⟨g', cap', cur', e1, h7, h8, h9, h10, h11, h12⟩
    subst e1
    refine ⟨_, _, hrun, ⟨g', 0, cap', cur', by simp, by omega, hgh, by simpa using hnc, hcm, by omega, fun i hi => ?_⟩, ⟨hg.os, hg.tape, hg.output, hg.size, fun k hk _ => hg.block k hk (by simp)⟩, fun k hk => .inr ?_⟩
    · simp only [List.length_append, List.length_singleton] at hi
      have h13 : cur'.toList[i]? = (ints xs ++ [.int .i64 x])[i]? := by rw [← htake, List.getElem?_take, if_pos (by omega)]
      rw [Nat.zero_add, ← Array.getElem?_toList, h13]
      have e : ints xs ++ [Value.int .i64 x] = ints (xs ++ [x]) := by simp [ints]
      rw [e]
      exact ints_at (by simpa using hi)
    · simp only [Value.ownBlock, Option.some.injEq] at hk
      omega
theorem wpList_append_tail {ops : Array Oper} {rest : List Oper} {o : Oper} {ac : Act} {w : World} {Q : Exit → Act → World → Prop}
    (hgd : o.guard = none) (s x : Operand) (hop : o.op = Op.call { callee := Callee.builtin Builtin.append, args := #[s, x], argTypes := #[38, 38] })
    (base : Nat) (v : Value) (xs : List Int) (hs : ac.eval s = v) (ht : Tail w base v xs) (hl : xs.length ≤ 1000) (a : Addr) (c : Nat) (k : Int) (hx : ac.eval x = .slice (some a) 1 c) (hc : w.cell? a = some (.int .i64 k)) (hbase : base ≤ w.heap.size)
    (hK : ∀ v' w', Tail w' base v' (xs ++ [k]) → w.grownBy w' v.ownBlock → (∀ k, v'.ownBlock = some k → v.ownBlock = some k ∨ w.heap.size ≤ k) → wpList Tryz.prog ops Q rest (ac.put o.dst v') w') :
    wpList Tryz.prog ops Q (o :: rest) ac w := by
  obtain ⟨v', w', hrun, r1, r2, r3⟩ := ht.app hl k a c hc hbase o.type
  refine wpList_plain hgd fun K hK' => ?_
  unfold Oper.wp execOp
  simp only [hop, resolve, invoke, builtin, Sem.run_bind, Sem.run_pure, Result.andThen_ok, List.map_toArray, List.map_cons, List.map_nil, hs, hx, hrun]
  exact hK' _ _ (hK v' w' r1 r2 r3)
end Go.Proofs.YtlbjmkljmhfjdaaGreat

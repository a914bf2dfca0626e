/- What the reference tells: Rules, Nodes. (Great seat.) -/
import Derived.Test.YtlbjmkljmhfjdaaGreatE7
import Derived.Test.YtlbjmkljmhfjdaaGreatE8
import Derived.Deep.RegionHeld3
import Derived.Test.YtlbjmkljmhfjdaaGreatD2
import Derived.Test.YtlbjmkljmhfjdaaGreatE2
import Derived.Test.YtlbjmkljmhfjdaaGreatD1
import Derived.Test.YtlbjmkljmhfjdaaGreatD6
set_option linter.unusedSimpArgs false
set_option linter.unusedVariables false
namespace Go.Proofs.YtlbjmkljmhfjdaaGreat
open Go Go.Proofs Go.RowKit Go.Lib Go.Maps
def RowE (w : World) (B : Nat) (L : List Nat) (e : Ending) : Prop := ∃ v, e = .returned v ∧ w.ownsRow B 3 1 v L.length (ints (nums L))
end Go.Proofs.YtlbjmkljmhfjdaaGreat
namespace Go.Proofs.YtlbjmkljmhfjdaaGreat
open Go Go.Proofs Go.RowKit Go.Lib Go.Maps
/-- Marks in memory: just those of which something holds. -/
def Mk (W : World) (mb m : Nat) (f : Nat → Bool) : Prop := ∃ ml : List Bool, Blk W mb (bls ml).toArray 4 ∧ ml.length = m ∧ ∀ q, q < m → ml.getD q false = f q
theorem Mk.below {W W' : World} {mb m : Nat} {f : Nat → Bool} (h : Mk W mb m f) (hb : Below W.heap.size W W') : Mk W' mb m f := by
  obtain ⟨ml, h1, h2⟩ := h
  exact ⟨ml, h1.below' hb, h2⟩
theorem Mk.congr {W : World} {mb m : Nat} {f f' : Nat → Bool} (h : Mk W mb m f) (hf : ∀ q, q < m → f q = f' q) : Mk W mb m f' := by
  obtain ⟨ml, h1, h2, h3⟩ := h
  exact ⟨ml, h1, h2, fun q hq => (h3 q hq).trans (hf q hq)⟩
theorem Mk.cell {W : World} {mb m : Nat} {f : Nat → Bool} (h : Mk W mb m f) {q : Nat} (hq : q < m) : W.cell? ⟨mb, q, none⟩ = some (.bool (f q)) := by
  obtain ⟨ml, h1, h2, h3⟩ := h
  rw [h1.cell, List.getElem?_toArray, bls_at (by rw [h2]; exact hq), h3 q hq]
theorem Mk.frozen {W : World} {mb m : Nat} {f : Nat → Bool} (h : Mk W mb m f) (q : Nat) : W.frozen? ⟨mb, q, none⟩ = false := by
  obtain ⟨ml, h1, h2, h3⟩ := h
  exact h1.frozen q
theorem Mk.blk {W : World} {mb m : Nat} {f : Nat → Bool} (h : Mk W mb m f) : ∃ vs, Blk W mb vs 4 := by
  obtain ⟨ml, h1, _⟩ := h
  exact ⟨_, h1⟩
theorem Mk.put {W : World} {mb m : Nat} {f : Nat → Bool} (h : Mk W mb m f) {k : Nat} (hk : k < m) (b : Bool) : Mk (W.setCell ⟨mb, k, none⟩ (.bool b)) mb m (fun q => if q = k then b else f q) := by
  obtain ⟨ml, h1, h2, h3⟩ := h
  refine ⟨ml.set k b, by have := h1.put (k := k) (.bool b); rw [bls_set] at this; exact this, by simpa using h2, fun q hq => ?_⟩
  simp only [List.getD, List.getElem?_set]
  by_cases e : k = q
  · subst e; simp [h2, hk]
  · rw [if_neg e, if_neg (fun h => e h.symm)]
    exact h3 q hq
theorem Mk.zero {W : World} {mb m : Nat} (h : Blk W mb (bls (List.replicate m false)).toArray 4) : Mk W mb m (fun _ => false) :=
  ⟨_, h, by simp, fun q hq => by simp [List.getD, hq]⟩
theorem Mk.grown {W W' : World} {mb m B e z n : Nat} {f : Nat → Bool} {v : Value} {xs : List Value} (h : Mk W mb m f) (ho : W.ownsRow B e z v n xs) (he : (4 : TypeId) ≠ e) (hg : W.grownBy W' v.ownBlock) : Mk W' mb m f := by
  obtain ⟨ml, h1, h2, h3⟩ := h
  exact ⟨ml, h1.grown hg (fun e => own_ne ho h1 he e.symm), h2, h3⟩
theorem cell_setOther (W : World) (b k : Nat) (v : Value) (a : Addr) (h : a.block ≠ b) : (W.setCell ⟨b, k, none⟩ v).cell? a = W.cell? a := by
  unfold World.cell?
  rw [heap_setCell_other W ⟨b, k, none⟩ a.block v h]
/-- Whom some nodes call. -/
def callsL (g : Gr) (L : List Int) : List Nat := rowOf' g.rules.length (fun r => L.any (isC g.nodes r))
set_option maxRecDepth 100000 in
set_option maxHeartbeats 16000000 in
theorem r12calls_any (g : Gr) (hrl : g.rules.length ≤ 100000) (A : Option Addr) (c : Nat) (L : List Int) (hL : ∀ m ∈ L, 0 ≤ m ∧ m < g.nodes.length ∧ ((g.nodes.getD m.toNat Nd.zero).kind = 5 → 0 ≤ (g.nodes.getD m.toNat Nd.zero).rule ∧ (g.nodes.getD m.toNat Nd.zero).rule < g.rules.length)) (hll : L.length ≤ 100000) (w : World) (hg : Gr.At w g) (hA : Lies w A (ints L)) :
    Calls Tryz.prog 107 #[g.val, .slice A L.length c] w fun e w' => RowE w' w.heap.size (callsL g L) e ∧ Below w.heap.size w w' := by
  obtain ⟨i0, hi, hz0, hz1, hz2⟩ := info_parts Tryz.info3
  obtain ⟨i1, ji, jz0, jz1, jz2⟩ := info_parts Tryz.info_b
  obtain ⟨r, er⟩ : ∃ r, r = g.rules.length := ⟨_, rfl⟩
  obtain ⟨m, em⟩ : ∃ m, m = L.length := ⟨_, rfl⟩
  have HL := Lib.hid hL
  have HA := Lib.hid hA
  have ER := Lib.hid er
  have EM := Lib.hid em
  have HNL := Lib.hid hg.nl
  have ND := Lib.hid (fun (W : World) (b : Below w.heap.size w W) k (hk : k < g.nodes.length) => (hg.below b).nodes.nine hk)
  have EV := Lib.hid (show callsL g L = rowOf' g.rules.length (fun r => L.any (isC g.nodes r)) from rfl)
  generalize callsL g L = Z at EV ⊢
  unfold Gr.val
  rw [← er] at hrl ⊢
  rw [← em] at hll ⊢
  have hmk : ∀ W : World, (Instr.makeSlice 82 (.int .i64 r) (.int .i64 r)).run Tryz.prog W = .ok (.slice (some ⟨W.heap.size, 0, none⟩) r r) (W.alloc (.cells (List.replicate r (Value.bool false)).toArray 4)) := fun W => by
    have hr := run_make (P := Tryz.prog) W 82 4 i1 (.bool false) Tryz.underlying82 ji jz0 .i64 .i64 (r : Nat) (r : Nat) (by omega) (by omega) (by rw [jz2]; omega) (by omega)
    rw [jz1, Int.toNat_natCast, made_bool] at hr
    exact hr
  have hr0 : (0 : Int) ≤ (r : Int) := by omega
  clear hL hA hg er em
  go_enter Tryz.func107, Tryz.ntmps107
  go_wp2_with fail
  obtain ⟨mb, emb⟩ : ∃ u, u = w.heap.size + 1 := ⟨_, rfl⟩
  obtain ⟨w1, ew1⟩ : ∃ u, u = (w.alloc (.cells #[.slice g.RA r g.rc, .slice g.NA g.nodes.length g.nc] 25)).alloc (.cells (Array.replicate r (Value.bool false)) 4) := ⟨_, rfl⟩
  rw [← ew1, ← emb]
  have I1 : RowKit.Hid (Below w.heap.size w w1 ∧ Blk w1 w.heap.size #[.slice g.RA r g.rc, .slice g.NA g.nodes.length g.nc] 25 ∧ Mk w1 mb r (fun _ => false)) := Lib.hid (by
    rw [ew1]
    refine ⟨B2 _ _ _, (Blk.new _ _ _).alloc _, Mk.zero ?_⟩
    have := Blk.new (w.alloc (.cells #[.slice g.RA r g.rc, .slice g.NA g.nodes.length g.nc] 25)) (List.replicate r (Value.bool false)).toArray 4
    rw [World.size_alloc, ← emb] at this
    simpa [bls] using this)
  have hmbw : w.heap.size < mb := by omega
  clear ew1 emb hmk
  go_loopw [6] (fun i wr => ∃ k : Nat, k ≤ m ∧ i = .int .i64 k ∧ Below w.heap.size w wr ∧ Blk wr w.heap.size #[.slice g.RA r g.rc, .slice g.NA g.nodes.length g.nc] 25 ∧ Mk wr mb r (fun q => (L.take k).any (isC g.nodes q))) (fun i _ => m - (RowKit.intOf i).toNat)
  case atStart => exact ⟨0, by omega, by go_num, I1.out.1, I1.out.2.1, I1.out.2.2.congr (fun q _ => by rw [List.take_zero]; rfl)⟩
  case round =>
    obtain ⟨k, hk, rfl, hb, hbx, hmk⟩ := hrel
    have g0 := hbx.cell 0
    have g1 := hbx.cell 1
    simp only [List.getElem?_toArray, List.getElem?_cons_zero, List.getElem?_cons_succ] at g0 g1
    have HB := Lib.hid hb
    have HBX := Lib.hid hbx
    have HM := Lib.hid hmk
    clear hb hbx hmk
    by_cases hlt : k < m
    · have hlt2 : (k : Int) < m := by omega
      have hkL : k < L.length := by have := EM.out; omega
      obtain ⟨bl, ol, eA, hbl0, cl0⟩ := lies_cell HA.out hkL
      subst eA
      have cl := (HB.out.cell (p := ⟨bl, ol + k, none⟩) (by exact hbl0)).trans cl0
      have hbl : bl < wr.heap.size := by have := HB.out.size; omega
      clear cl0
      have hmem : L.getD k 0 ∈ L := by simp [List.getD, List.getElem?_eq_getElem hkL]
      obtain ⟨p0, p1, p2⟩ := HL.out _ hmem
      have TK := Lib.hid (take_one hkL)
      generalize L.getD k 0 = nd at cl p0 p1 p2 TK
      obtain ⟨n, rfl⟩ : ∃ n : Nat, nd = n := ⟨nd.toNat, by omega⟩
      have hn : n < g.nodes.length := by omega
      have hn2 : (n : Int) < g.nodes.length := p1
      rw [Int.toNat_natCast] at p2
      obtain ⟨b1, o1, eN, hb10, z1, z2, z3, z4, z5, z6, z7, z8, z9⟩ := ND.out w (Below.refl _ _) n hn
      have n1 := (HB.out.cell (p := ⟨b1, _, none⟩) (by exact hb10)).trans z1
      have n7 := (HB.out.cell (p := ⟨b1, _, none⟩) (by exact hb10)).trans z7
      have hb1 : b1 < wr.heap.size := by have := HB.out.size; omega
      clear z1 z2 z3 z4 z5 z6 z7 z8 z9
      rw [eN] at g1
      have EN := Lib.hid eN
      clear eN
      have STN := Lib.hid (fun (h : (g.nodes.getD n Nd.zero).kind ≠ 5) q => show ((L.take (k + 1)).any (isC g.nodes q)) = ((L.take k).any (isC g.nodes q)) from by rw [TK.out, any_one, isC_no (by rw [Int.toNat_natCast]; exact h), Bool.or_false])
      have STY := Lib.hid (fun (h : (g.nodes.getD n Nd.zero).kind = 5) (ru : Nat) (hr : (g.nodes.getD n Nd.zero).rule = (ru : Int)) q => show ((L.take (k + 1)).any (isC g.nodes q)) = (if q = ru then true else (L.take k).any (isC g.nodes q)) from by
        rw [TK.out, any_one, isC_yes (r := ru) (by rw [Int.toNat_natCast]; exact h) (by rw [Int.toNat_natCast]; exact hr)]
        by_cases e : ru = q
        · rw [if_pos e.symm, decide_eq_true e, Bool.or_true]
        · rw [if_neg (fun h => e h.symm), decide_eq_false e, Bool.or_false])
      generalize g.nodes.getD n Nd.zero = x at n1 n7 p2 STN STY
      obtain ⟨kd, q0, q1, q2, q3, t, ru, lv, KA, cap, ks⟩ := x
      dsimp only at n1 n7 p2 STN STY
      clear hmem p0 p1
      have f0 := fun (e : Ext wr) => Ext.cell g1 e
      have f1 := fun (e : Ext wr) => Ext.cell cl e
      have f2 := fun (e : Ext wr) => Ext.cell n1 e
      by_cases h5 : kd = 5
      · subst h5
        obtain ⟨r0, r1⟩ := p2 rfl
        obtain ⟨ru', rfl⟩ : ∃ u : Nat, ru = u := ⟨ru.toNat, by omega⟩
        have ru2 : ru' < r := by have := ER.out; omega
        have ru3 : (ru' : Int) < r := by omega
        go_wp2_with fail
        refine wp_region_ext (by kernel_rfl) (by kernel_rfl) ?_
        repeat (first | go_big_quiet_step (fail) | quiet_step (fail))
        refine wpQuiet_nil ?_
        intro w13 hw'
        obtain ⟨⟨_, hb13⟩, rfl⟩ := hw'
        have H13 := Lib.hid hb13
        clear hb13
        have g1 := (HBX.out.below' H13.out).cell 1
        simp only [List.getElem?_toArray, List.getElem?_cons_zero, List.getElem?_cons_succ] at g1
        rw [EN.out] at g1
        have cl' := (H13.out.cell (p := ⟨bl, _, none⟩) hbl).trans cl
        have n7' := (H13.out.cell (p := ⟨b1, _, none⟩) hb1).trans n7
        have M13 := Lib.hid (HM.out.below H13.out)
        have e4 := M13.out.cell ru2
        have e5 := M13.out.frozen ru'
        have BLM := Lib.hid (show bl ≠ mb by omega)
        have B1M := Lib.hid (show b1 ≠ mb by omega)
        clear f0 f1 f2 cl n1 n7 g0
        go_wp2_with fail
        have k0 : (World.drew w13).cell? ⟨w.heap.size, 1, none⟩ = _ := g1
        have k1 : (World.drew w13).cell? ⟨bl, _, none⟩ = _ := cl'
        have k2 : (World.drew w13).cell? ⟨b1, _, none⟩ = _ := n7'
        have e6 : (World.drew w13).cell? ⟨mb, ru', none⟩ = _ := e4
        have e7 : (World.drew w13).frozen? ⟨mb, ru', none⟩ = false := e5
        have j0 := (cell_setOther (World.drew w13) mb ru' (.bool true) ⟨w.heap.size, 1, none⟩ (by show w.heap.size ≠ mb; omega)).trans k0
        have j1 := (cell_setOther (World.drew w13) mb ru' (.bool true) ⟨bl, _, none⟩ (by show bl ≠ mb; exact BLM.out)).trans k1
        have j2 := (cell_setOther (World.drew w13) mb ru' (.bool true) ⟨b1, _, none⟩ (by show b1 ≠ mb; exact B1M.out)).trans k2
        go_region_held3 (fun W => W.cell? ⟨w.heap.size, 1, none⟩ = some (.slice (some ⟨b1, o1, none⟩) g.nodes.length g.nc) ∧ W.cell? ⟨bl, ol + k, none⟩ = some (.int .i64 n) ∧ W.cell? ⟨b1, o1 + n * 9 + 6, none⟩ = some (.int .i64 ru')) (first | exact ⟨k0, k1, k2⟩ | exact ⟨j0, j1, j2⟩) (fail)
        all_goals (
          go_wp2_with fail
          go_roundw
          case rel =>
            have fin : ∃ k' : Nat, k' ≤ m ∧ Value.int .i64 ((k : Int) + 1) = .int .i64 k' ∧ Below w.heap.size w ((World.drew w13).setCell ⟨mb, ru', none⟩ (.bool true)) ∧ Blk ((World.drew w13).setCell ⟨mb, ru', none⟩ (.bool true)) w.heap.size #[.slice g.RA r g.rc, .slice g.NA g.nodes.length g.nc] 25 ∧ Mk ((World.drew w13).setCell ⟨mb, ru', none⟩ (.bool true)) mb r (fun q => (L.take k').any (isC g.nodes q)) := by
              refine ⟨k + 1, by omega, by go_num, (bdrew1 (HB.out.trans (H13.out.mono HB.out.size))).setCell (p := ⟨mb, ru', none⟩) (by show w.heap.size ≤ mb; omega) _, (heap_setCell_other _ ⟨mb, ru', none⟩ w.heap.size _ (by show w.heap.size ≠ mb; omega)).trans (HBX.out.below' (bdrew1 H13.out)), ?_⟩
              have h := (show Mk (World.drew w13) mb r _ from M13.out).put ru2 true
              exact h.congr (fun q _ => (STY.out (by first | rfl | trivial) ru' (by first | rfl | trivial) q).symm)
            first | exact fin | ((repeat apply Exists.intro); exact ⟨fin, rfl⟩)
          case measure => simp [RowKit.intOf]; omega)
      · have hkd : ¬ kd = 5 := h5
        go_wp2_with fail
        refine wp_region_ext (by kernel_rfl) (by kernel_rfl) ?_
        repeat (first | go_big_quiet_step (fail) | quiet_step (fail))
        refine wpQuiet_nil ?_
        intro w13 hw'
        obtain ⟨⟨_, hb13⟩, rfl⟩ := hw'
        have H13 := Lib.hid hb13
        clear hb13
        clear f0 f1 f2 cl n1 n7 g0 g1
        go_wp2_with fail
        go_roundw
        case rel => exact ⟨k + 1, by omega, by go_num, HB.out.trans (H13.out.mono HB.out.size), HBX.out.below' H13.out, (HM.out.below H13.out).congr (fun q _ => (STN.out h5 q).symm)⟩
        case measure => simp [RowKit.intOf]; omega
    · obtain rfl : k = m := by omega
      have hlt2 : ¬ (k : Int) < k := by omega
      have HM2 := Lib.hid (HM.out.congr (f' := fun q => L.any (isC g.nodes q)) (fun q _ => by have := EM.out; rw [this, List.take_length]))
      obtain ⟨fq, efq⟩ : ∃ fq : Nat → Bool, fq = fun q => L.any (isC g.nodes q) := ⟨_, rfl⟩
      rw [← efq] at HM2
      have EV2 := Lib.hid (show Z = rowOf' r fq from by rw [EV.out, efq, ER.out])
      clear HM EV efq g0 g1 HL HA ND
      clear hlt2
      go_wp2_with fail
      go_loopw [7, 8] (fun l i wz => ∃ k : Nat, k ≤ r ∧ i = .int .i64 k ∧ wz.ownsRow w.heap.size 3 1 l (rowOf' k fq).length (ints (nums (rowOf' k fq))) ∧ Below w.heap.size w wz ∧ Mk wz mb r fq) (fun _ i _ => r - (RowKit.intOf i).toNat)
      case atStart => exact ⟨0, by omega, by go_num, World.ownsRow_nil _ _ _ _, HB.out, HM2.out⟩
      case round =>
        obtain ⟨k, hk, rfl, hown, hb, hmk⟩ := hrel
        have HO := Lib.hid hown
        have HBz := Lib.hid hb
        have HMz := Lib.hid hmk
        have RS := Lib.hid (rowOf_succ k fq)
        have RL := Lib.hid (rowOf_len fq k)
        clear hown hb hmk
        by_cases hlt : k < r
        · have hlt2 : (k : Int) < r := by omega
          have c1 := HMz.out.cell hlt
          cases hp : fq k with
          | true =>
            rw [hp] at c1
            have QK := Lib.hid hp
            clear hp
            go_wp2_with (at_builtin; refine wpList_append_own _ rfl _ _ 38 rfl w.heap.size 3 i0 (.int .i64 0) 1 8 Tryz.underlying38 hi hz0 hz1 hz2 rfl (by decide) _ _ _ rfl (HO.out.alloc _) ⟨wr.heap.size, 0, none⟩ 1 1 [.int .i64 k] rfl rfl (cell_one_new _ _ _) (by simp [Value.oneCell']) (by unfold maxLen; have := RL.out; omega) (by have := RL.out; omega) (by have := HBz.out.size; simp; omega) ?_; intro v' w9 hown' hgrow hnil'; have O9 := Lib.hid hown'; have G9 := Lib.hid hgrow; clear hown' hgrow hnil')
            go_roundw
            case rel =>
              refine ⟨k + 1, by omega, by go_num, ?_, ?_, ?_⟩
              · rw [RS.out, QK.out, if_pos rfl, List.length_append, nums_app]
                have := O9.out
                simpa [ints] using this
              · exact grown_below (w := wr.alloc _) (HBz.out.trans ((B1 wr _).mono HBz.out.size)) (by have := HBz.out.size; simp; omega) G9.out (fun j e => (HO.out.lt j e).1)
              · exact (HMz.out.below (B1 wr _)).grown (HO.out.alloc _) (by decide) G9.out
            case measure => simp [RowKit.intOf]; omega
          | false =>
            rw [hp] at c1
            have QK := Lib.hid hp
            clear hp
            go_wp2_with fail
            go_roundw
            case rel => exact ⟨k + 1, by omega, by go_num, by rw [RS.out, QK.out]; exact HO.out, HBz.out, HMz.out⟩
            case measure => simp [RowKit.intOf]; omega
        · obtain rfl : k = r := by omega
          have hlt2 : ¬ (k : Int) < k := by omega
          go_wp2_with fail
          go_ret
          rw [EV2.out]
          exact ⟨⟨_, rfl, HO.out⟩, HBz.out⟩
theorem callsAt_L {g : Gr} (n : Int) : callsAt g n = callsL g (nodesAt g n) := by
  by_cases h : rightB g = true ∧ 0 ≤ n ∧ n < g.nodes.length
  · have e : nodesAt g n = ownN g.nodes (mayG g) n := by unfold nodesAt; rw [if_pos h]
    have e2 : callsAt g n = callsOf g n := by unfold callsAt; rw [if_pos h]
    rw [e, e2]
    rfl
  · have e : nodesAt g n = [] := by unfold nodesAt; rw [if_neg h]
    have e2 : callsAt g n = [] := by unfold callsAt; rw [if_neg h]
    rw [e, e2]
    symm
    refine List.eq_nil_iff_forall_not_mem.2 fun x hx => ?_
    have := (rowOf_mem.1 hx).2
    simp at this
theorem nodesAt_in {g : Gr} (n : Int) : ∀ m ∈ nodesAt g n, 0 ≤ m ∧ m < g.nodes.length ∧ ((g.nodes.getD m.toNat Nd.zero).kind = 5 → 0 ≤ (g.nodes.getD m.toNat Nd.zero).rule ∧ (g.nodes.getD m.toNat Nd.zero).rule < g.rules.length) := by
  intro m hm
  by_cases h : rightB g = true ∧ 0 ≤ n ∧ n < g.nodes.length
  · have e : nodesAt g n = ownN g.nodes (mayG g) n := by unfold nodesAt; rw [if_pos h]
    rw [e] at hm
    obtain ⟨hr, h0, h1⟩ := h
    have hR := rightB_true.1 hr
    obtain ⟨k, rfl⟩ : ∃ k : Nat, n = k := ⟨n.toNat, by omega⟩
    obtain ⟨ms, hms, _⟩ := hR.pre
    have hri := own_rises hms (mayG g) _ k (by omega) (Nat.le_refl _)
    have h2 := hms k (by omega) (by omega)
    have h3 := hri.each m hm
    have hml : m.toNat < g.nodes.length := by omega
    exact ⟨by omega, by omega, fun h5 => (kinds (hR.all m.toNat hml)).2.2 h5⟩
  · have e : nodesAt g n = [] := by unfold nodesAt; rw [if_neg h]
    rw [e] at hm
    cases hm
theorem nodesAt_len (g : Gr) (n : Int) : (nodesAt g n).length ≤ 2048 := by
  by_cases h : rightB g = true ∧ 0 ≤ n ∧ n < g.nodes.length
  · have e : nodesAt g n = ownN g.nodes (mayG g) n := by unfold nodesAt; rw [if_pos h]
    rw [e]
    obtain ⟨k, rfl⟩ : ∃ k : Nat, n = k := ⟨n.toNat, by omega⟩
    exact own_len (rightB_true.1 h.1) k (by omega)
  · have e : nodesAt g n = [] := by unfold nodesAt; rw [if_neg h]
    rw [e]; simp
end Go.Proofs.YtlbjmkljmhfjdaaGreat
namespace Go.Proofs.YtlbjmkljmhfjdaaGreat
open Go Go.RowKit Go.Maps
end Go.Proofs.YtlbjmkljmhfjdaaGreat
namespace Go.Proofs.YtlbjmkljmhfjdaaGreat
open Go Go.Proofs Go.RowKit Go.Lib Go.Maps
/-- Rows of numbers lie in a row. -/
def RR (W : World) (A : Option Addr) (L : List (List Nat)) : Prop := ∀ i, i < L.length → ∃ b o Ai ci, A = some ⟨b, o, none⟩ ∧ b < W.heap.size ∧ W.cell? ⟨b, o + i, none⟩ = some (.slice Ai (L.getD i []).length ci) ∧ Lies W Ai (ints (nums (L.getD i [])))
theorem RR.below {W W' : World} {A : Option Addr} {L : List (List Nat)} (h : RR W A L) (hb : Below W.heap.size W W') : RR W' A L := by
  intro i hi
  obtain ⟨b, o, Ai, ci, e, h1, h2, h3⟩ := h i hi
  exact ⟨b, o, Ai, ci, e, by have := hb.size; omega, (hb.cell (p := ⟨b, o + i, none⟩) (by exact h1)).trans h2, h3.below hb⟩
theorem RR.nil (W : World) (A : Option Addr) : RR W A [] := fun i hi => by simp at hi
/-- The graph that is told. -/
noncomputable def graphZ (g : Gr) : List (List Nat) := if rightB g = true then graphOf g else []
theorem graphZ_yes {g : Gr} (h : rightB g = true) : graphZ g = graphOf g := by unfold graphZ; rw [if_pos h]
theorem graphZ_no {g : Gr} (h : ¬ rightB g = true) : graphZ g = [] := by unfold graphZ; rw [if_neg h]
def RRE (w : World) (L : List (List Nat)) (e : Ending) : Prop := ∃ A c, e = .returned (.slice A L.length c) ∧ RR w A L
/-- An own row of rows, each of its own. -/
structure OwnRs (W : World) (B : Nat) (v : Value) (vs : List Value) (L : Nat → List Nat) : Prop where
  row : W.ownsRow B 38 1 v vs.length vs
  each : ∀ j, j < vs.length → W.ownsRow B 3 1 (vs.getD j undef) (L j).length (ints (nums (L j)))
theorem OwnRs.below {W W' : World} {B : Nat} {v : Value} {vs : List Value} {L : Nat → List Nat} (h : OwnRs W B v vs L) (hb : Below W.heap.size W W') : OwnRs W' B v vs L :=
  ⟨own_below h.row hb, fun j hj => own_below (h.each j hj) hb⟩
theorem OwnRs.rr {W : World} {B c : Nat} {A : Option Addr} {vs : List Value} {G : List (List Nat)} {L : Nat → List Nat} (h : OwnRs W B (.slice A vs.length c) vs L) (hl : G.length = vs.length) (he : ∀ i, i < G.length → G.getD i [] = L i) : RR W A G := by
  intro i hi
  have hl1 := own_lies1 h.row
  obtain ⟨b, o, e, hb, hc⟩ := hl1 (by omega)
  have hv : i < vs.length := by omega
  obtain ⟨Ai, ci, e2, _, _⟩ := own_slice (h.each i hv)
  have e3 : vs[i]? = some (vs.getD i undef) := by simp [List.getD, List.getElem?_eq_getElem hv]
  refine ⟨b, o, Ai, ci, e, hb, ?_, ?_⟩
  · rw [hc i hv, e3, e2, he i hi]
  · rw [he i hi]
    have := h.each i hv
    rw [e2] at this
    exact own_lies1 this
theorem OwnRs.add {W W' W2 : World} {B : Nat} {v v' u : Value} {vs : List Value} {L : Nat → List Nat} (h : OwnRs W B v vs L) (hu : W.ownsRow B 3 1 u (L vs.length).length (ints (nums (L vs.length)))) (hb : Below W.heap.size W W2) (ho : W'.ownsRow B 38 1 v' (vs.length + 1) (vs ++ [u])) (hg : W2.grownBy W' v.ownBlock) : OwnRs W' B v' (vs ++ [u]) L := by
  have h2 := own_below h.row hb
  have key : ∀ {n : Nat} {x : Value} {xs : List Value}, W.ownsRow B 3 1 x n xs → W'.ownsRow B 3 1 x n xs := fun {n x xs} hx => own_awayX (own_below hx hb) h2 (by decide) hg
  refine ⟨by rw [List.length_append]; exact ho, fun j hj => ?_⟩
  rw [List.length_append, List.length_singleton] at hj
  by_cases e : j = vs.length
  · subst e
    have : (vs ++ [u]).getD vs.length undef = u := by simp [List.getD]
    rw [this]
    exact key hu
  · have : (vs ++ [u]).getD j undef = vs.getD j undef := by
      simp only [List.getD]
      rw [List.getElem?_append_left (by omega)]
    rw [this]
    exact key (h.each j (by omega))
set_option maxRecDepth 100000 in
set_option maxHeartbeats 16000000 in
theorem r12Graph_any (g : Gr) (w : World) (hg : Gr.At w g) (hin : Gr.In g) : Calls Tryz.prog 36 #[g.val] w fun e w' => RRE w' (graphZ g) e ∧ Below w.heap.size w w' := by
  obtain ⟨i1, ji, jz0, jz1, jz2⟩ := info_parts Tryz.info_sH
  have RGT := Lib.hid (fun (w' : World) (b : Below w.heap.size w w') => refRight_any g w' (hg.below b) hin)
  have RK := Lib.hid (fun (hR : Right g) (w' : World) (b : Below w.heap.size w w') => refRanks_any g hR w' (hg.below b))
  have OW := Lib.hid (fun (hR : Right g) W (eg : Below w.heap.size w W) rb k (hk : k < g.nodes.length) (hA : Lies W (some ⟨rb, 0, none⟩) (ints (ranks g))) => r12own_any g hR g.nodes.length k hk (by omega) rb W (hg.below eg) hA)
  have CA := Lib.hid (fun (hrl : g.rules.length ≤ 100000) W (eg : Below w.heap.size w W) A c L hL hll (hA : Lies W A (ints L)) => r12calls_any g hrl A c L hL hll W (hg.below eg) hA)
  have RU := Lib.hid (fun W (eg : Below w.heap.size w W) i (hi : i < g.rules.length) => (hg.below eg).rules.two hi)
  clear hg hin
  show Calls Tryz.prog 36 #[.agg #[.slice g.RA g.rules.length g.rc, .slice g.NA g.nodes.length g.nc]] w _
  cases hr : rightB g with
  | false =>
    rw [hr] at RGT
    have HV := Lib.hid (graphZ_no (g := g) (by rw [hr]; decide))
    clear RK OW CA RU hr
    go_enter Tryz.func36, Tryz.ntmps36
    go_wp2_with (go_at_call 104; with_reducible refine (RGT.out _ (B1 _ _)).mono ?_; rintro e w1 ⟨rfl, hb⟩; have H1 := Lib.hid (bb (B1 w _) hb); have KB := Lib.hid ((Blk.new w #[.slice g.RA g.rules.length g.rc, .slice g.NA g.nodes.length g.nc] 25).below' hb); have g0 := KB.out.cell 0; have g1 := KB.out.cell 1; simp only [List.getElem?_toArray, List.getElem?_cons_zero, List.getElem?_cons_succ] at g0 g1; clear hb)
    go_ret
    rw [HV.out]
    exact ⟨⟨none, 0, rfl, RR.nil _ _⟩, H1.out⟩
  | true =>
    rw [hr] at RGT
    have hR := rightB_true.1 hr
    have HV := Lib.hid (graphZ_yes hr)
    have hrl := hR.rules.2
    have hnl := hR.nodes
    have RK2 := Lib.hid (RK.out hR)
    have OW2 := Lib.hid (OW.out hR)
    have CA2 := Lib.hid (CA.out (by omega))
    have HBD := Lib.hid (fun i (hi : i < g.rules.length) => hR.body i hi)
    have NIN := Lib.hid (fun n => nodesAt_in (g := g) n)
    have LC := Lib.hid (fun i (hi : i < g.rules.length) => show callsL g (nodesAt g (g.rules.getD i Rl.zero).body) = lcal g i ∧ nodesAt g (g.rules.getD i Rl.zero).body = ownN g.nodes (mayG g) (g.rules.getD i Rl.zero).body from by
      have hb := hR.body i hi
      refine ⟨?_, by unfold nodesAt; rw [if_pos ⟨hr, hb.1, hb.2⟩]⟩
      rw [← callsAt_L]
      unfold callsAt lcal
      rw [if_pos ⟨hr, hb.1, hb.2⟩])
    have NLN := Lib.hid (fun n => nodesAt_len g n)
    have LCL := Lib.hid (fun i => lcal_len g i)
    clear RK OW CA hr hR
    go_enter Tryz.func36, Tryz.ntmps36
    go_wp2_with (first | (go_at_call 104; with_reducible refine (RGT.out _ (B1 _ _)).mono ?_; rintro e w1 ⟨rfl, hb⟩; have H1 := Lib.hid (bb (B1 w _) hb); have KB := Lib.hid ((Blk.new w #[.slice g.RA g.rules.length g.rc, .slice g.NA g.nodes.length g.nc] 25).below' hb); have g0 := KB.out.cell 0; have g1 := KB.out.cell 1; simp only [List.getElem?_toArray, List.getElem?_cons_zero, List.getElem?_cons_succ] at g0 g1; clear hb) | (go_at_call 106; (with_reducible refine (RK2.out _ H1.out).mono ?_); rintro e w2 ⟨⟨rb, rfl, ho⟩, hb⟩; have HO2 := Lib.hid ho; have H2 := Lib.hid (bb H1.out hb); have KB2 := Lib.hid (KB.out.below' hb); clear hb ho g0 g1))
    go_loopw [4, 5] (fun l i wr => ∃ (k : Nat) (vs : List Value), k ≤ g.rules.length ∧ i = .int .i64 k ∧ vs.length = k ∧ OwnRs wr w2.heap.size l vs (lcal g) ∧ Below w2.heap.size w2 wr) (fun _ i _ => g.rules.length - (RowKit.intOf i).toNat)
    case atStart => exact ⟨0, [], by omega, by go_num, rfl, ⟨World.ownsRow_nil _ _ _ _, fun j hj => by simp at hj⟩, Below.refl _ _⟩
    case round =>
      obtain ⟨k, vs, hk, rfl, hvl, hown, hb⟩ := hrel
      obtain ⟨LA, lc, rfl, _, _⟩ := own_slice hown.row
      have HO := Lib.hid hown
      have HB := Lib.hid hb
      have HVL := Lib.hid hvl
      have KW := Lib.hid (KB2.out.below' hb)
      have RW := Lib.hid (own_below HO2.out hb)
      have hvl2 : ((vs.length : Nat) : Int) = (k : Int) := by rw [hvl]
      rw [hvl]
      clear hown hb hvl
      have g0 := KW.out.cell 0
      have g1 := KW.out.cell 1
      simp only [List.getElem?_toArray, List.getElem?_cons_zero, List.getElem?_cons_succ] at g0 g1
      by_cases hlt : k < g.rules.length
      · have hlt2 : (k : Int) < g.rules.length := by omega
        have HW := Lib.hid (H2.out.trans (HB.out.mono H2.out.size))
        obtain ⟨b2, o2, eR, hb2, _, c2⟩ := RU.out wr HW.out k hlt
        have hbd := HBD.out k hlt
        obtain ⟨l1, l2⟩ := LC.out k hlt
        obtain ⟨q, hq⟩ : ∃ q : Nat, (g.rules.getD k Rl.zero).body = q := ⟨(g.rules.getD k Rl.zero).body.toNat, by omega⟩
        rw [hq] at hbd l1 l2 c2
        have OW3 := Lib.hid (fun W (eg : Below wr.heap.size wr W) => show Calls Tryz.prog 105 #[.agg #[.slice g.RA g.rules.length g.rc, .slice g.NA g.nodes.length g.nc], .int .i64 q, .slice (some ⟨rb, 0, none⟩) g.rules.length g.rules.length] W fun e w' => RowZ w' W.heap.size (nodesAt g q) e ∧ Below W.heap.size W w' from by
          rw [l2]
          exact OW2.out W (HW.out.trans (eg.mono HW.out.size)) rb q (by omega) (own_lies1 (own_below RW.out eg)))
        have CA3 := Lib.hid (fun W (eg : Below wr.heap.size wr W) A c (hA : Lies W A (ints (nodesAt g q))) => show Calls Tryz.prog 107 #[.agg #[.slice g.RA g.rules.length g.rc, .slice g.NA g.nodes.length g.nc], .slice A (nodesAt g q).length c] W fun e w' => RowE w' W.heap.size (lcal g k) e ∧ Below W.heap.size W w' from by
          rw [← l1]
          exact CA2.out W (HW.out.trans (eg.mono HW.out.size)) A c _ (NIN.out _) (by have := NLN.out q; omega) hA)
        generalize nodesAt g q = NQ at OW3 CA3
        clear l1 l2 hq
        rw [eR] at g0
        have ER := Lib.hid eR
        clear eR
        have c2d : (World.drew wr).cell? ⟨b2, o2 + k * 2 + 1, none⟩ = _ := c2
        have g0d : (World.drew wr).cell? ⟨w.heap.size, 0, none⟩ = _ := g0
        have g1d : (World.drew wr).cell? ⟨w.heap.size, 1, none⟩ = _ := g1
        have hR0 : w2.heap.size ≤ wr.heap.size := HB.out.size
        go_upto_region 8 with fail
        refine wp_mono (Q := calm _) ?_ (calm_le _)
        have enO : ∀ args w, (callFunc 105 args).run Tryz.prog w = .ok (.enter 105 args) w := fun _ _ => by kernel_rfl
        have enC : ∀ args w, (callFunc 107 args).run Tryz.prog w = .ok (.enter 107 args) w := fun _ _ => by kernel_rfl
        go_region_law (first | (refine step_call rfl 105 _ _ #[.agg #[.slice (some ⟨b2, o2, none⟩) g.rules.length g.rc, .slice g.NA g.nodes.length g.nc], .int .i64 q, .slice (some ⟨rb, 0, none⟩) g.rules.length g.rules.length] rfl enO (by simp [Act.eval, Act.put]) ((show Calls Tryz.prog _ _ _ _ from by have h := OW3.out (World.drew wr) (bdrew1 (Below.refl _ _)); rw [ER.out] at h; exact h).mono ?_); rintro e w14 ⟨⟨A2, c2', rfl, ho2⟩, hb2'⟩; refine ⟨_, rfl, ?_⟩; have H14 := Lib.hid (bb (bdrew1 (Below.refl wr.heap.size wr)) hb2'); have L14 := Lib.hid (own_lies1 ho2); have m0 := (KW.out.below' H14.out).cell 0; have m1 := (KW.out.below' H14.out).cell 1; simp only [List.getElem?_toArray, List.getElem?_cons_zero, List.getElem?_cons_succ] at m0 m1; rw [ER.out] at m0; clear hb2' ho2) | (refine step_call rfl 107 _ _ #[.agg #[.slice (some ⟨b2, o2, none⟩) g.rules.length g.rc, .slice g.NA g.nodes.length g.nc], .slice A2 NQ.length c2'] rfl enC (by simp [Act.eval, Act.put]) ((show Calls Tryz.prog _ _ _ _ from by have h := CA3.out w14 H14.out A2 c2' L14.out; rw [ER.out] at h; exact h).mono ?_); rintro e w15 ⟨⟨v3, rfl, ho3⟩, hb3⟩; obtain ⟨A3, c3, rfl, _, _⟩ := own_slice ho3; refine ⟨_, rfl, ?_⟩; have H15 := Lib.hid (bb H14.out hb3); have HN15 := Lib.hid (own_lower (base' := w2.heap.size) ho3 (by have := H14.out.size; omega)); have O15 := Lib.hid (HO.out.below H15.out); clear hb3 ho3) | (refine step_append_any rfl (.tmp 18) (.tmp 30) 31 rfl w2.heap.size 38 i1 (.slice none 0 0) 1 24 Tryz.underlying31 ji jz0 jz1 jz2 rfl (by decide) (.slice LA k lc) k vs (by simp [Act.eval, Act.put]) (by have h := own_below O15.out.row (B1 w15 (.cells #[.slice A3 (lcal g k).length c3] 38)); rw [HVL.out] at h; exact h) (some ⟨w15.heap.size, 0, none⟩) 1 1 [.slice A3 (lcal g k).length c3] (by simp [Act.eval, Act.put]) rfl (new_news _ _ _) (fun h => nomatch h) (by simp [Value.oneCell']) (by unfold maxLen; omega) (by omega) (by have := H15.out.size; simp; omega) ?_; intro v16 w16 ho16 hg16 hf16; have HO16 := Lib.hid (O15.out.add (by rw [HVL.out]; exact HN15.out) (B1 w15 (.cells #[.slice A3 (lcal g k).length c3] 38)) (by rw [HVL.out]; exact ho16) (by rw [HVL.out]; exact hg16)); have HB16 := Lib.hid (grown_below ((HB.out.trans (H15.out.mono hR0)).trans ((B1 w15 (.cells #[.slice A3 (lcal g k).length c3] 38)).mono (by have := H15.out.size; omega))) (by have := H15.out.size; simp; omega) hg16 (fun q e => (O15.out.row.lt q (by rw [HVL.out]; exact e)).1)); clear ho16 hg16 hf16))
        all_goals (
          simp only [calm]
          go_wp2_with fail
          go_roundw
          case rel =>
            have fin : ∃ (k' : Nat) (vs' : List Value), k' ≤ g.rules.length ∧ Value.int .i64 ((k : Int) + 1) = .int .i64 k' ∧ vs'.length = k' ∧ OwnRs w16 w2.heap.size v16 vs' (lcal g) ∧ Below w2.heap.size w2 w16 := ⟨k + 1, _, by omega, by go_num, by rw [List.length_append, HVL.out]; rfl, HO16.out, HB16.out⟩
            first | exact fin | ((repeat apply Exists.intro); exact ⟨fin, rfl⟩)
          case measure => simp [RowKit.intOf]; omega)
      · obtain rfl : k = g.rules.length := by omega
        have hlt2 : ¬ (g.rules.length : Int) < g.rules.length := by omega
        go_wp2_with fail
        go_ret
        rw [HV.out]
        have hl2 : (graphOf g).length = vs.length := by rw [graphOf_len, HVL.out]
        have hfin := HO.out
        refine ⟨⟨LA, lc, by rw [graphOf_len]; rfl, ?_⟩, H2.out.trans (HB.out.mono H2.out.size)⟩
        exact OwnRs.rr (by rw [HVL.out]; rw [HVL.out] at hfin; exact hfin) hl2 (fun i hi => graphOf_at (by rw [graphOf_len] at hi; exact hi))
end Go.Proofs.YtlbjmkljmhfjdaaGreat
namespace Go.Proofs.YtlbjmkljmhfjdaaGreat
open Go Go.Proofs Go.RowKit Go.Lib Go.Maps
theorem Tryz.info_bs : (Tryz.prog.info? 82).map (fun i => (i.zero, i.size, i.bytes)) = some (some (.slice none 0 0), 1, 24) := by kernel_rfl
theorem nodup_le0 : ∀ (R : Nat) (l : List Nat), l.Nodup → (∀ y ∈ l, y < R) → l.length ≤ R
  | 0, l, _, h => by
    cases l with
    | nil => simp
    | cons a l => have := h a (List.mem_cons_self ..); omega
  | R + 1, l, hn, h => by
    by_cases hm : R ∈ l
    · have h1 := nodup_le0 R (l.erase R) (hn.erase R) (fun y hy => by
        have := (hn.mem_erase_iff).1 hy
        have h2 := h y this.2
        have h3 := this.1
        omega)
      rw [List.length_erase_of_mem hm] at h1
      omega
    · have := nodup_le0 R l hn (fun y hy => by
        have h2 := h y hy
        have : y ≠ R := fun e => hm (e ▸ hy)
        omega)
      omega
/-- Rows of Bools in a row. -/
structure BR (W : World) (A : Option Addr) (n : Nat) (bs : Nat → Nat) (F : Nat → Nat → Bool) : Prop where
  cell : ∀ i, i < n → ∃ b o, A = some ⟨b, o, none⟩ ∧ b < W.heap.size ∧ W.cell? ⟨b, o + i, none⟩ = some (.slice (some ⟨bs i, 0, none⟩) n n)
  mks : ∀ i, i < n → Mk W (bs i) n (F i)
  inj : ∀ i j, i < n → j < n → bs i = bs j → i = j
  out : ∀ b o, A = some ⟨b, o, none⟩ → 0 < n → ∃ vs, Blk W b vs 82
theorem BR.below {W W' : World} {A : Option Addr} {n : Nat} {bs : Nat → Nat} {F : Nat → Nat → Bool} (h : BR W A n bs F) (hb : Below W.heap.size W W') : BR W' A n bs F := by
  refine ⟨fun i hi => ?_, fun i hi => (h.mks i hi).below hb, h.inj, fun b o e hn => by obtain ⟨vs, hv⟩ := h.out b o e hn; exact ⟨vs, hv.below' hb⟩⟩
  obtain ⟨b, o, e, h1, h2⟩ := h.cell i hi
  exact ⟨b, o, e, by have := hb.size; omega, (hb.cell (p := ⟨b, o + i, none⟩) (by exact h1)).trans h2⟩
theorem BR.congr {W : World} {A : Option Addr} {n : Nat} {bs : Nat → Nat} {F F' : Nat → Nat → Bool} (h : BR W A n bs F) (hf : ∀ i k, i < n → k < n → F i k = F' i k) : BR W A n bs F' :=
  ⟨h.cell, fun i hi => (h.mks i hi).congr (fun q hq => hf i q hi hq), h.inj, h.out⟩
theorem Mk.apart {W : World} {b d n o : Nat} {f : Nat → Bool} {v : Value} (h : Mk W b n f) (hc : W.cell? ⟨d, o, none⟩ = some v) (hv : ∀ x, v ≠ .bool x) : d ≠ b := by
  rintro rfl
  obtain ⟨ml, h1, h2, _⟩ := h
  rw [h1.cell, List.getElem?_toArray] at hc
  unfold bls at hc
  rw [List.getElem?_map] at hc
  cases he : ml[o]? with
  | none => rw [he] at hc; cases hc
  | some x => rw [he] at hc; exact hv x (Option.some.inj hc).symm
theorem Mk.elsewhere {W : World} {b d n k : Nat} {f : Nat → Bool} {v : Value} (h : Mk W b n f) (hd : b ≠ d) : Mk (W.setCell ⟨d, k, none⟩ v) b n f := by
  obtain ⟨ml, h1, h2⟩ := h
  exact ⟨ml, (heap_setCell_other W ⟨d, k, none⟩ b v hd).trans h1, h2⟩
/-- A table of Bools with one place turned. -/
def up2 (F : Nat → Nat → Bool) (i k : Nat) (x : Bool) (j q : Nat) : Bool := if j = i ∧ q = k then x else F j q
theorem BR.put {W : World} {A : Option Addr} {n : Nat} {bs : Nat → Nat} {F : Nat → Nat → Bool} (h : BR W A n bs F) {i k : Nat} (hi : i < n) (hk : k < n) (x : Bool) : BR (W.setCell ⟨bs i, k, none⟩ (.bool x)) A n bs (up2 F i k x) := by
  refine ⟨fun j hj => ?_, fun j hj => ?_, h.inj, fun b o e hn => by
    obtain ⟨vs, hv⟩ := h.out b o e hn
    obtain ⟨us, hu⟩ := (h.mks i hi).blk
    refine ⟨vs, (heap_setCell_other W ⟨bs i, k, none⟩ b (.bool x) (fun e2 => ?_)).trans hv⟩
    have e3 : b = bs i := e2
    rw [e3] at hv
    unfold Blk at hv hu
    rw [hv] at hu
    have h2 := Option.some.inj hu
    simp only [Obj.cells.injEq] at h2
    exact absurd h2.2.1 (by decide)⟩
  · obtain ⟨b, o, e, h1, h2⟩ := h.cell j hj
    refine ⟨b, o, e, by simpa [World.setCell] using h1, ?_⟩
    rw [cell_setOther W (bs i) k (.bool x) ⟨b, o + j, none⟩ ((h.mks i hi).apart h2 (fun x e => nomatch e))]
    exact h2
  · by_cases e : j = i
    · subst e
      exact ((h.mks j hj).put hk x).congr (fun q _ => by unfold up2; by_cases e : q = k <;> simp [e])
    · exact ((h.mks j hj).elsewhere (fun e2 => e (h.inj j i hj hi e2))).congr (fun q _ => by unfold up2; rw [if_neg (fun hc => e hc.1)])
theorem BR.at {W : World} {A : Option Addr} {n : Nat} {bs : Nat → Nat} {F : Nat → Nat → Bool} (h : BR W A n bs F) {i k : Nat} (hi : i < n) (hk : k < n) : W.cell? ⟨bs i, k, none⟩ = some (.bool (F i k)) ∧ W.frozen? ⟨bs i, k, none⟩ = false := ⟨(h.mks i hi).cell hk, (h.mks i hi).frozen k⟩
/-- An own row of rows of Bools. -/
structure OwnBs (W : World) (B : Nat) (v : Value) (vs : List Value) (n : Nat) (bs : Nat → Nat) (F : Nat → Nat → Bool) : Prop where
  row : W.ownsRow B 82 1 v vs.length vs
  each : ∀ j, j < vs.length → vs.getD j undef = .slice (some ⟨bs j, 0, none⟩) n n ∧ Mk W (bs j) n (F j)
  inj : ∀ i j, i < vs.length → j < vs.length → bs i = bs j → i = j
theorem OwnBs.below {W W' : World} {B n : Nat} {v : Value} {vs : List Value} {bs : Nat → Nat} {F : Nat → Nat → Bool} (h : OwnBs W B v vs n bs F) (hb : Below W.heap.size W W') : OwnBs W' B v vs n bs F :=
  ⟨own_below h.row hb, fun j hj => ⟨(h.each j hj).1, (h.each j hj).2.below hb⟩, h.inj⟩
theorem OwnBs.elsewhere {W : World} {B n d k : Nat} {v u : Value} {vs : List Value} {bs : Nat → Nat} {F : Nat → Nat → Bool} {f : Nat → Bool} (h : OwnBs W B v vs n bs F) (hd : ∀ j, j < vs.length → bs j ≠ d) (hm : Mk W d n f) : OwnBs (W.setCell ⟨d, k, none⟩ u) B v vs n bs F := by
  obtain ⟨us, hb⟩ := hm.blk
  exact ⟨own_kept h.row (fun q e => heap_setCell_other W ⟨d, k, none⟩ q u (fun e2 => own_ne h.row hb (by decide) (by rw [e]; exact congrArg some e2))), fun j hj => ⟨(h.each j hj).1, (h.each j hj).2.elsewhere (hd j hj)⟩, h.inj⟩
theorem OwnBs.add {W W' W2 : World} {B n b : Nat} {v v' : Value} {vs : List Value} {bs : Nat → Nat} {F : Nat → Nat → Bool} (h : OwnBs W B v vs n bs F) (hm : Mk W b n (F vs.length)) (hn : ∀ j, j < vs.length → bs j ≠ b) (hb : Below W.heap.size W W2) (ho : W'.ownsRow B 82 1 v' (vs.length + 1) (vs ++ [.slice (some ⟨b, 0, none⟩) n n])) (hg : W2.grownBy W' v.ownBlock) :
    OwnBs W' B v' (vs ++ [.slice (some ⟨b, 0, none⟩) n n]) n (fun j => if j = vs.length then b else bs j) F := by
  have h2 := own_below h.row hb
  have key : ∀ {d : Nat} {f : Nat → Bool}, Mk W d n f → Mk W' d n f := fun {d f} hd => (hd.below hb).grown h2 (by decide) hg
  refine ⟨by rw [List.length_append]; exact ho, fun j hj => ?_, fun i j hi hj e => ?_⟩
  · rw [List.length_append, List.length_singleton] at hj
    by_cases e : j = vs.length
    · subst e
      refine ⟨by simp [List.getD], ?_⟩
      rw [if_pos rfl]; exact key hm
    · refine ⟨?_, ?_⟩
      · have : (vs ++ [Value.slice (some ⟨b, 0, none⟩) n n]).getD j undef = vs.getD j undef := by simp only [List.getD]; rw [List.getElem?_append_left (by omega)]
        rw [this, if_neg e]; exact (h.each j (by omega)).1
      · rw [if_neg e]; exact key (h.each j (by omega)).2
  · rw [List.length_append, List.length_singleton] at hi hj
    by_cases ei : i = vs.length
    · by_cases ej : j = vs.length
      · omega
      · rw [if_pos ei, if_neg ej] at e; exact absurd e.symm (hn j (by omega))
    · by_cases ej : j = vs.length
      · rw [if_neg ei, if_pos ej] at e; exact absurd e (hn i (by omega))
      · rw [if_neg ei, if_neg ej] at e; exact h.inj i j (by omega) (by omega) e
theorem OwnBs.br {W : World} {B n c : Nat} {A : Option Addr} {vs : List Value} {bs : Nat → Nat} {F : Nat → Nat → Bool} (h : OwnBs W B (.slice A vs.length c) vs n bs F) (hn : vs.length = n) : BR W A n bs F := by
  refine ⟨fun i hi => ?_, fun i hi => (h.each i (by omega)).2, fun i j hi hj e => h.inj i j (by omega) (by omega) e, fun b o e hn0 => by
    rcases h.row.2 with ⟨e1, e2⟩ | ⟨g, cap, cur, e1, _, e3, _⟩
    · omega
    · simp only [Value.slice.injEq] at e1
      rw [e1.1] at e
      have e4 := Option.some.inj e
      simp only [Addr.mk.injEq] at e4
      rw [← e4.1]
      exact ⟨cur, e3⟩⟩
  obtain ⟨b, o, e, hb, hc⟩ := own_lies1 h.row (by omega)
  refine ⟨b, o, e, hb, ?_⟩
  rw [hc i (by omega)]
  have := (h.each i (by omega)).1
  simp only [List.getD] at this
  rw [List.getElem?_eq_getElem (by omega)] at this ⊢
  rw [← this]; rfl
/-- A round of ways under way: so many rows are done. -/
def fwM (adj : Nat → List Nat) (m i j k : Nat) : Bool := if j < i then fw adj (m + 1) j k else fw adj m j k
theorem fw_self (adj : Nat → List Nat) (m k : Nat) : fw adj (m + 1) m k = fw adj m m k := by
  show (fw adj m m k || (fw adj m m m && fw adj m m k)) = fw adj m m k
  cases fw adj m m k <;> simp
theorem fwM_mid (adj : Nat → List Nat) (m i k : Nat) : fwM adj m i m k = fw adj m m k := by
  unfold fwM
  split
  · exact fw_self adj m k
  · rfl
theorem fwM_zero (adj : Nat → List Nat) (m j k : Nat) : fwM adj m 0 j k = fw adj m j k := by unfold fwM; rw [if_neg (by omega)]
/-- A row under way: so many numbers are looked at. -/
def fwP (adj : Nat → List Nat) (m i p j k : Nat) : Bool := if j = i ∧ k < p then fw adj (m + 1) i k else fwM adj m i j k
theorem fwP_zero (adj : Nat → List Nat) (m i j k : Nat) : fwP adj m i 0 j k = fwM adj m i j k := by unfold fwP; rw [if_neg (by omega)]
theorem fwP_all {adj : Nat → List Nat} {m i n j k : Nat} (hk : k < n) : fwP adj m i n j k = fwM adj m (i + 1) j k := by
  unfold fwP fwM
  by_cases e : j = i
  · subst e; rw [if_pos ⟨rfl, hk⟩, if_pos (by omega)]
  · rw [if_neg (fun h => e h.1)]
    by_cases h2 : j < i
    · rw [if_pos h2, if_pos (by omega)]
    · rw [if_neg h2, if_neg (by omega)]
theorem fwM_skip {adj : Nat → List Nat} {m i : Nat} (h : fw adj m i m = false) (j k : Nat) : fwM adj m i j k = fwM adj m (i + 1) j k := by
  unfold fwM
  by_cases e : j = i
  · subst e
    rw [if_neg (by omega), if_pos (by omega)]
    show _ = (fw adj m j k || (fw adj m j m && fw adj m m k))
    rw [h]; simp
  · by_cases h2 : j < i
    · rw [if_pos h2, if_pos (by omega)]
    · rw [if_neg h2, if_neg (by omega)]
/-- What a row's place of m says while the row is under way. -/
theorem fwP_gate {adj : Nat → List Nat} {m i p : Nat} (h : fw adj m i m = true) : fwP adj m i p i m = true := by
  unfold fwP
  split
  · show (fw adj m i m || _) = true
    rw [h]; rfl
  · unfold fwM; rw [if_neg (by omega)]; exact h
theorem fwP_here {adj : Nat → List Nat} {m i p : Nat} : fwP adj m i p i p = fw adj m i p := by
  unfold fwP
  rw [if_neg (by omega)]
  unfold fwM
  rw [if_neg (by omega)]
theorem fwP_mid {adj : Nat → List Nat} {m i p : Nat} : fwP adj m i p m p = fw adj m m p := by
  unfold fwP
  by_cases e : m = i
  · rw [if_neg (by omega)]; exact fwM_mid adj m i p
  · rw [if_neg (fun h => e h.1)]; exact fwM_mid adj m i p
theorem fwP_put {adj : Nat → List Nat} {m i p : Nat} (h : fw adj m i m = true) (j k : Nat) : up2 (fwP adj m i p) i p (fw adj m i p || fw adj m m p) j k = fwP adj m i (p + 1) j k := by
  unfold up2
  by_cases e : j = i ∧ k = p
  · obtain ⟨rfl, rfl⟩ := e
    rw [if_pos ⟨rfl, rfl⟩]
    unfold fwP
    rw [if_pos ⟨rfl, by omega⟩]
    show _ = (fw adj m j k || (fw adj m j m && fw adj m m k))
    rw [h]; simp
  · rw [if_neg e]
    unfold fwP
    by_cases e1 : j = i ∧ k < p
    · rw [if_pos e1, if_pos ⟨e1.1, by omega⟩]
    · rw [if_neg e1, if_neg (fun h => by
        by_cases hk : k = p
        · exact e ⟨h.1, hk⟩
        · exact e1 ⟨h.1, by omega⟩)]
/-- The first row, so far. -/
def rowS (adj : Nat → List Nat) (i p q : Nat) : Bool := decide (i = q) || ((adj i).take p).contains q
theorem rowS_zero (adj : Nat → List Nat) (i q : Nat) : rowS adj i 0 q = (if q = i then true else false) := by
  unfold rowS
  by_cases e : q = i
  · simp [e]
  · rw [if_neg e, decide_eq_false (fun h : i = q => e h.symm)]; simp
theorem rowS_all (adj : Nat → List Nat) (i q : Nat) : rowS adj i (adj i).length q = fw adj 0 i q := by
  unfold rowS fw
  rw [List.take_length]
theorem rowS_next {adj : Nat → List Nat} {i p : Nat} (h : p < (adj i).length) (q : Nat) : (if q = (adj i).getD p 0 then true else rowS adj i p q) = rowS adj i (p + 1) q := by
  unfold rowS
  have e : (adj i).getD p 0 = (adj i)[p] := by simp [List.getD, List.getElem?_eq_getElem h]
  rw [List.take_succ_eq_append_getElem h, Bool.eq_iff_iff]
  by_cases h1 : q = (adj i).getD p 0
  · rw [if_pos h1]
    refine ⟨fun _ => Bool.or_eq_true_iff.2 (.inr (List.contains_iff_mem.2 (List.mem_append_right _ ?_))), fun _ => rfl⟩
    rw [h1, e]; exact List.mem_singleton.2 rfl
  · rw [if_neg h1, Bool.or_eq_true_iff, Bool.or_eq_true_iff, List.contains_iff_mem, List.contains_iff_mem, List.mem_append, List.mem_singleton]
    constructor
    · rintro (h2 | h2)
      · exact .inl h2
      · exact .inr (.inl h2)
    · rintro (h2 | h2 | h2)
      · exact .inl h2
      · exact .inr h2
      · exact absurd (h2.trans e.symm) h1
end Go.Proofs.YtlbjmkljmhfjdaaGreat

/- The document's left: own. (Great seat.) -/
import Derived.Test.YtlbjmkljmhfjdaaGreatE7
import Derived.Test.YtlbjmkljmhfjdaaGreatD1
import Derived.Test.YtlbjmkljmhfjdaaGreatC8
import Derived.Deep.RegionLaw
import Derived.Deep.Cut
set_option linter.unusedSimpArgs false
set_option linter.unusedVariables false
namespace Go.Proofs.YtlbjmkljmhfjdaaGreat
open Go Go.Proofs Go.RowKit Go.Lib Go.Maps
/-- A row of numbers told, at or above B. -/
def RowZ (w : World) (B : Nat) (L : List Int) (e : Ending) : Prop := ∃ A c, e = .returned (.slice A L.length c) ∧ w.ownsRow B 3 1 (.slice A L.length c) L.length (ints L)
theorem fsts_other {x : Nd} {may : Int → Bool} (h : x.kind ≠ 6) : fsts x may = x.kids := by unfold fsts; rw [if_neg h]
theorem fsts_stop {x : Nd} {may : Int → Bool} {k : Nat} (h : x.kind = 6) (hk : k < x.kids.length) (h0 : 0 < k) (hm : ∀ j, j + 1 < k → may (x.kids.getD j 0) = true) (hl : may (x.kids.getD (k - 1) 0) = false) : fsts x may = x.kids.take k := by
  unfold fsts
  rw [if_pos h, upTo_at x.kids (k - 1) (by omega) (fun i hi => hm i (by omega)) hl, show k - 1 + 1 = k by omega]
theorem fsts_end {x : Nd} {may : Int → Bool} (hm : x.kind = 6 → ∀ j, j + 1 < x.kids.length → may (x.kids.getD j 0) = true) : fsts x may = x.kids := by
  by_cases h : x.kind = 6
  · have hm := hm h
    unfold fsts
    rw [if_pos h]
    by_cases h0 : x.kids.length = 0
    · rw [List.length_eq_zero_iff.1 h0]; rfl
    cases hl : may (x.kids.getD (x.kids.length - 1) 0) with
    | false =>
      rw [upTo_at x.kids (x.kids.length - 1) (by omega) (fun i hi => hm i (by omega)) hl, show x.kids.length - 1 + 1 = x.kids.length by omega, List.take_length]
    | true =>
      refine upTo_all fun k hk => ?_
      obtain ⟨j, hj, rfl⟩ := List.getElem_of_mem hk
      by_cases e : j + 1 < x.kids.length
      · have := hm j e
        simpa [List.getD, List.getElem?_eq_getElem hj] using this
      · have e2 : j = x.kids.length - 1 := by omega
        subst e2
        simpa [List.getD, List.getElem?_eq_getElem hj] using hl
  · exact fsts_other h
/-- What is told when k kids are gone through. -/
def soFar (n : Int) (ks : List Int) (f : Int → List Int) (k : Nat) : List Int := n :: (ks.take k).flatMap f
theorem soFar_next {n : Int} {ks : List Int} {f : Int → List Int} {k : Nat} (h : k < ks.length) : soFar n ks f (k + 1) = soFar n ks f k ++ f (ks.getD k 0) := by
  unfold soFar
  rw [take_one h, List.flatMap_append]
  simp
theorem upTo_pre {may : Int → Bool} : ∀ (l : List Int) (k : Nat), (∀ j, j + 1 < k → may (l.getD j 0) = true) → l.take k <+: upTo may l
  | [], k, _ => by simp
  | a :: r, 0, _ => by simp
  | a :: r, k + 1, h => by
    rw [List.take_succ_cons]
    unfold upTo
    refine List.cons_prefix_cons.2 ⟨rfl, ?_⟩
    cases k with
    | zero => simp
    | succ k =>
      have h0 : may a = true := h 0 (by omega)
      rw [if_pos h0]
      exact upTo_pre r (k + 1) fun j hj => h (j + 1) (by omega)
theorem fsts_pre {x : Nd} {may : Int → Bool} {k : Nat} (h : x.kind = 6 → ∀ j, j + 1 < k → may (x.kids.getD j 0) = true) : x.kids.take k <+: fsts x may := by
  unfold fsts
  split
  · exact upTo_pre _ _ (h (by assumption))
  · exact List.take_prefix _ _
theorem soFar_len {x : Nd} {may : Int → Bool} {k : Nat} {n : Int} {f : Int → List Int} (h : x.kind = 6 → ∀ j, j + 1 < k → may (x.kids.getD j 0) = true) : (soFar n x.kids f k).length ≤ (n :: (fsts x may).flatMap f).length := by
  obtain ⟨t, ht⟩ := fsts_pre h
  unfold soFar
  rw [← ht, List.flatMap_append]
  simp
theorem ints_app (a b : List Int) : ints (a ++ b) = ints a ++ ints b := by simp [ints]
set_option maxRecDepth 100000 in
set_option maxHeartbeats 16000000 in
theorem r12own_any (g : Gr) (hR : Right g) : ∀ (d n : Nat), n < g.nodes.length → g.nodes.length - n ≤ d → ∀ (rb : Nat) w, Gr.At w g → Lies w (some ⟨rb, 0, none⟩) (ints (ranks g)) →
    Calls Tryz.prog 105 #[g.val, .int .i64 n, .slice (some ⟨rb, 0, none⟩) g.rules.length g.rules.length] w fun e w' => RowZ w' w.heap.size (ownN g.nodes (mayG g) n) e ∧ Below w.heap.size w w'
  | 0, n, hn, hd, rb, w, h, hA => by omega
  | d + 1, n, hn, hd, rb, w, h, hA => by
    obtain ⟨i0, hi, hz0, hz1, hz2⟩ := info_parts Tryz.info3
    have hup := hR.kidsUp n hn
    have hrl := hR.rules.2
    have hnl := hR.nodes
    have hE := ownN_eq hR.kidsUp (mayG g) (n := (n : Int)) (by omega) (by omega)
    rw [Int.toNat_natCast] at hE
    have hlen := own_len hR n hn
    have REC := Lib.hid (show ∀ k ∈ (g.nodes.getD n Nd.zero).kids, ∀ w', Below w.heap.size w w' → Calls Tryz.prog 105 #[.agg #[.slice g.RA g.rules.length g.rc, .slice g.NA g.nodes.length g.nc], .int .i64 k, .slice (some ⟨rb, 0, none⟩) g.rules.length g.rules.length] w' fun e w'' => RowZ w'' w'.heap.size (ownN g.nodes (mayG g) k) e ∧ Below w'.heap.size w' w'' from by
      intro k hk' w' hb
      have := hup k hk'
      have := r12own_any g hR d k.toNat (by omega) (by omega) rb w' (h.below hb) (hA.below hb)
      rw [show ((k.toNat : Nat) : Int) = k by omega] at this
      exact this)
    have MAY := Lib.hid (show ∀ k ∈ (g.nodes.getD n Nd.zero).kids, ∀ w', Below w.heap.size w w' → Calls Tryz.prog 141 #[.agg #[.slice g.RA g.rules.length g.rc, .slice g.NA g.nodes.length g.nc], .int .i64 k, .slice (some ⟨rb, 0, none⟩) g.rules.length g.rules.length, .int .i64 1073741824] w' fun e w'' => e = .returned (.bool (mayG g k)) ∧ Below w'.heap.size w' w'' from by
      intro k hk' w' hb
      have := hup k hk'
      have := refMay_any g hR (some ⟨rb, 0, none⟩) g.rules.length (ranks g) (ranks_length g).symm 1073741824 g.nodes.length k.toNat (by omega) (by omega) w' (h.below hb) (hA.below hb)
      rw [low_top (by omega), show ((k.toNat : Nat) : Int) = k by omega] at this
      exact this)
    have LEN := Lib.hid (show ∀ k, ((g.nodes.getD n Nd.zero).kind = 6 → ∀ j, j + 1 < k → mayG g ((g.nodes.getD n Nd.zero).kids.getD j 0) = true) → (soFar n (g.nodes.getD n Nd.zero).kids (ownN g.nodes (mayG g)) k).length ≤ 2048 from fun k hk => by
      have := soFar_len (n := (n : Int)) (f := ownN g.nodes (mayG g)) hk
      rw [← hE] at this
      omega)
    have SUB := Lib.hid (show ∀ k, k ∈ (g.nodes.getD n Nd.zero).kids → (ownN g.nodes (mayG g) k).length ≤ 2048 from fun k hk => by
      have := hup k hk
      have := own_len hR k.toNat (by omega)
      rwa [show ((k.toNat : Nat) : Int) = k by omega] at this)
    obtain ⟨b1, o1, eA, _, n1, n2, n3, n4, n5, n6, n7, n8, n9⟩ := h.nodes.nine hn
    have hx := h.node hn
    have END := Lib.hid (show ∀ k, k ≤ (g.nodes.getD n Nd.zero).kids.length → fsts (g.nodes.getD n Nd.zero) (mayG g) = (g.nodes.getD n Nd.zero).kids.take k → ownN g.nodes (mayG g) n = soFar n (g.nodes.getD n Nd.zero).kids (ownN g.nodes (mayG g)) k from fun k hk e => by rw [hE, e]; rfl)
    generalize ownN g.nodes (mayG g) n = L at hlen END ⊢
    have STOP := Lib.hid (fun k => @fsts_stop (g.nodes.getD n Nd.zero) (mayG g) k)
    have ALL := Lib.hid (@fsts_end (g.nodes.getD n Nd.zero) (mayG g))
    have OTH := Lib.hid (@fsts_other (g.nodes.getD n Nd.zero) (mayG g))
    clear hE
    generalize g.nodes.getD n Nd.zero = x at REC MAY LEN SUB hx END STOP ALL OTH n1 n2 n3 n4 n5 n6 n7 n8 n9 hup
    generalize mayG g = M at MAY STOP ALL OTH END SUB LEN REC
    obtain ⟨f, ef⟩ : ∃ f, f = ownN g.nodes M := ⟨_, rfl⟩
    rw [← ef] at END REC SUB LEN
    clear ef
    obtain ⟨kd, q0, q1, q2, q3, t, ru, lv, KA, cap, ks⟩ := x
    dsimp only at hup REC MAY LEN SUB END STOP ALL OTH n1 n2 n3 n4 n5 n6 n7 n8 n9
    have hkl := hx.2.2
    dsimp only at hkl
    have hkn : ks.length ≤ 140737488351232 := by omega
    rw [eA] at REC MAY
    unfold Gr.val
    rw [eA]
    have hn2 : (n : Int) < g.nodes.length := by omega
    have HX := Lib.hid hx
    have HRA := Lib.hid hA
    have HL := Lib.hid hlen
    have HUP := Lib.hid hup
    have hb1 : b1 < w.heap.size := World.block_lt_of_cell? _ _ n1
    clear h hx hA hlen hup eA hd hR
    go_enter Tryz.func105, Tryz.ntmps105
    go_upto_region 2 with fail
    obtain ⟨w1, ew1⟩ : ∃ u, u = (w.alloc (.cells #[.slice g.RA g.rules.length g.rc, .slice (some ⟨b1, o1, none⟩) g.nodes.length g.nc] 25)).alloc (.cells #[.int .i64 n] 3) := ⟨_, rfl⟩
    have hB1 : Below w.heap.size w w1 := by rw [ew1]; exact B2 w _ _
    have hbox : Blk w1 w.heap.size #[.slice g.RA g.rules.length g.rc, .slice (some ⟨b1, o1, none⟩) g.nodes.length g.nc] 25 := by rw [ew1]; exact (Blk.new w _ _).alloc _
    have hrow : w1.ownsRow w.heap.size 3 1 (.slice (some ⟨w.heap.size + 1, 0, none⟩) 1 1) 1 [.int .i64 n] := by
      rw [ew1]
      have := own_built (w.alloc (.cells #[.slice g.RA g.rules.length g.rc, .slice (some ⟨b1, o1, none⟩) g.nodes.length g.nc] 25)) 3 1 1 [.int .i64 n] rfl (by unfold maxLen; omega)
      rw [World.size_alloc] at this
      exact own_lower this (by omega)
    rw [← ew1]
    clear ew1
    have g0 := hbox.cell 0
    have g1 := hbox.cell 1
    simp only [List.getElem?_toArray, List.getElem?_cons_zero, List.getElem?_cons_succ] at g0 g1
    have m1 := (hB1.cell (p := ⟨b1, _, none⟩) (by exact hb1)).trans n1
    have m2 := (hB1.cell (p := ⟨b1, _, none⟩) (by exact hb1)).trans n2
    have m3 := (hB1.cell (p := ⟨b1, _, none⟩) (by exact hb1)).trans n3
    have m4 := (hB1.cell (p := ⟨b1, _, none⟩) (by exact hb1)).trans n4
    have m5 := (hB1.cell (p := ⟨b1, _, none⟩) (by exact hb1)).trans n5
    have m6 := (hB1.cell (p := ⟨b1, _, none⟩) (by exact hb1)).trans n6
    have m7 := (hB1.cell (p := ⟨b1, _, none⟩) (by exact hb1)).trans n7
    have m8 := (hB1.cell (p := ⟨b1, _, none⟩) (by exact hb1)).trans n8
    have m9 := (hB1.cell (p := ⟨b1, _, none⟩) (by exact hb1)).trans n9
    clear n1 n2 n3 n4 n5 n6 n7 n8 n9
    have HB1 := Lib.hid hB1
    have HBOX := Lib.hid hbox
    have HROW := Lib.hid hrow
    clear hB1 hbox hrow
    go_wp2_with (first | (refine wpList_store_whole rfl 40 (.tmp 8) (.tmp 16) rfl w1.heap.size #[.int .i64 kd, .int .u64 q0, .int .u64 q1, .int .u64 q2, .int .u64 q3, .string t, .int .i64 ru, .int .i64 lv, .slice KA ks.length cap] rfl rfl 40 _ (Blk.new _ _ _) (by kernel_rfl) (by rfl) (by simp [Value.oneCell']) ?_; intro w2 hk2 hg2; have HB2 := Lib.hid (HB1.out.trans ((grown_below (B1 w1 _) (by simp) hg2 (fun k e => by cases e; exact Nat.le_refl _)).mono HB1.out.size)); have HND := Lib.hid hk2; have HBX2 := Lib.hid ((HBOX.out.alloc _).grown hg2 (by intro e; have h1 := Option.some.inj e; have h2 := HBOX.out.lt; omega)); have HRW2 := Lib.hid (own_beside (own_below HROW.out (B1 w1 _)) hg2 (by intro q e1 e2; have h1 := HROW.out.lt q e1; have h2 := Option.some.inj e2; omega)); clear hk2 hg2 m1 m2 m3 m4 m5 m6 m7 m8 m9 g0 g1))
    go_loopw [7, 9] (fun l i wr => ∃ k : Nat, k ≤ ks.length ∧ i = .int .i64 k ∧ (kd = 6 → ∀ j, j + 1 < k → M (ks.getD j 0) = true) ∧ wr.ownsRow w.heap.size 3 1 l (soFar n ks f k).length (ints (soFar n ks f k)) ∧ Below w.heap.size w wr ∧ Blk wr w.heap.size #[.slice g.RA g.rules.length g.rc, .slice (some ⟨b1, o1, none⟩) g.nodes.length g.nc] 25 ∧ Blk wr w1.heap.size #[.int .i64 kd, .int .u64 q0, .int .u64 q1, .int .u64 q2, .int .u64 q3, .string t, .int .i64 ru, .int .i64 lv, .slice KA ks.length cap] 40) (fun _ i _ => ks.length - (RowKit.intOf i).toNat)
    case atStart => exact ⟨0, by omega, by go_num, fun _ j hj => by omega, HRW2.out, HB2.out, HBX2.out, HND.out⟩
    case round =>
      obtain ⟨k, hk, rfl, hm, hown, hb, hbx, hnd⟩ := hrel
      obtain ⟨LA, lc, rfl, _, _⟩ := own_slice hown
      have g0 := hbx.cell 0
      have g1 := hbx.cell 1
      have x0 := hnd.cell 0
      have x8 := hnd.cell 8
      simp only [List.getElem?_toArray, List.getElem?_cons_zero, List.getElem?_cons_succ] at g0 g1 x0 x8
      have HM := Lib.hid hm
      have HO := Lib.hid hown
      have HB := Lib.hid hb
      have HBX := Lib.hid hbx
      have HND3 := Lib.hid hnd
      have LK := Lib.hid (LEN.out k hm)
      clear hm hown hb hbx hnd
      by_cases hlt : k < ks.length
      · have hlt2 : (k : Int) < ks.length := by omega
        obtain ⟨bk, ok, ek, hbk, ck⟩ := lies_cell (l := ks) (HX.out.1.below HB.out) (k := k) hlt
        dsimp only at ek
        rw [ek] at x8
        have hmem : ks.getD k 0 ∈ ks := by simp [List.getD, List.getElem?_eq_getElem hlt]
        have NXT := Lib.hid (soFar_next (n := (n : Int)) (f := f) hlt)
        have RK := Lib.hid (REC.out _ hmem)
        have SK := Lib.hid (SUB.out _ hmem)
        have hkr := HUP.out _ hmem
        have CK := Lib.hid ck
        have EK := Lib.hid ek
        clear ek
        have hcase : kd ≠ 6 ∨ (kd = 6 ∧ k = 0) ∨ (kd = 6 ∧ 0 < k) := by omega
        generalize ks.getD k 0 = kk at CK RK SK NXT ck hkr
        clear hmem
        rcases hcase with hne | ⟨h6, h0⟩ | ⟨h6, h0⟩
        · have hd6 : ¬ kd = 6 := hne
          have f0 := fun (e : Ext wr) => Ext.cell g0 e
          have f1 := fun (e : Ext wr) => Ext.cell g1 e
          have f2 := fun (e : Ext wr) => Ext.cell x0 e
          have f3 := fun (e : Ext wr) => Ext.cell x8 e
          have f4 := fun (e : Ext wr) => Ext.cell ck e
          go_wp2_with fail
          refine wp_region_ext (by kernel_rfl) (by kernel_rfl) ?_
          repeat (first | go_big_quiet_step ((fail)) | quiet_step ((fail)))
          refine wpQuiet_nil ?_
          intro w13 hw'
          obtain ⟨⟨_, hb13⟩, rfl⟩ := hw'
          have H13 := Lib.hid hb13
          clear hb13
          clear f0 f1 f2 f3 f4 g0 g1 x0 x8 ck
          go_wp2_with fail
          have q0' := Lib.hid (HB.out.trans (H13.out.mono HB.out.size))
          have X13 := Lib.hid (HBX.out.below' H13.out)
          have Y13 := Lib.hid (HND3.out.below' H13.out)
          have O13 := Lib.hid (own_below HO.out H13.out)
          have g0 := X13.out.cell 0
          have g1 := X13.out.cell 1
          have x8 := Y13.out.cell 8
          simp only [List.getElem?_toArray, List.getElem?_cons_zero, List.getElem?_cons_succ] at g0 g1 x8
          rw [EK.out] at x8
          have ck := (H13.out.cell (p := ⟨bk, _, none⟩) hbk).trans CK.out
          have LN := Lib.hid (LEN.out (k + 1) (fun h6 => absurd h6 hne))
          refine wp_mono (Q := calm _) ?_ (calm_le _)
          have enM : ∀ args w, (callFunc 105 args).run Tryz.prog w = .ok (.enter 105 args) w := fun _ _ => by kernel_rfl
          go_region_law (first | (refine step_call rfl 105 _ _ #[.agg #[.slice g.RA g.rules.length g.rc, .slice (some ⟨b1, o1, none⟩) g.nodes.length g.nc], .int .i64 kk, .slice (some ⟨rb, 0, none⟩) g.rules.length g.rules.length] rfl enM (by simp [Act.eval, Act.put]) ((RK.out _ (by first | exact bdrew1 q0'.out | exact q0'.out)).mono ?_); rintro e w14 ⟨⟨A2, c2, rfl, ho2⟩, hb2⟩; refine ⟨_, rfl, ?_⟩; have H14 := Lib.hid (show Below w13.heap.size w13 w14 from ⟨hb2.os, hb2.tape, hb2.output, hb2.size, hb2.block⟩); have NEWS := Lib.hid (own_news ho2); have O14 := Lib.hid (own_below O13.out H14.out); clear hb2 ho2) | (refine step_append_any rfl (.tmp 43) (.tmp 51) 38 rfl w.heap.size 3 i0 (.int .i64 0) 1 8 Tryz.underlying38 hi hz0 hz1 hz2 rfl (by decide) (.slice LA (soFar n ks f k).length lc) (soFar n ks f k).length (ints (soFar n ks f k)) (by simp [Act.eval, Act.put]) O14.out A2 (f kk).length c2 (ints (f kk)) (by simp [Act.eval, Act.put]) (by rw [ints_length, Nat.mul_one]) NEWS.out.1 NEWS.out.2 (ints_one _) (by unfold maxLen; have := SK.out; have := LK.out; omega) (by have := SK.out; have := LK.out; omega) (by have := q0'.out.size; have := H14.out.size; omega) ?_; intro v15 w15 ho15 hg15 hf15; have HO15 := Lib.hid ho15; have HG15 := Lib.hid hg15; clear ho15 hg15 hf15))
          all_goals (
            simp only [calm]
            go_wp2_with fail
            go_roundw
            case rel =>
              first
              | refine ⟨k + 1, by omega, by go_num, fun h6 => absurd h6 hne, ?_, ?_, ?_, ?_⟩
              | (repeat apply Exists.intro); refine ⟨⟨k + 1, by omega, by go_num, fun h6 => absurd h6 hne, ?_, ?_, ?_, ?_⟩, rfl⟩
              · have := HO15.out
                rw [← List.length_append, ← ints_app, ← NXT.out] at this
                exact this
              · exact grown_below (q0'.out.trans (H14.out.mono q0'.out.size)) (by have := q0'.out.size; have := H14.out.size; omega) HG15.out (fun q e => (O14.out.lt q e).1)
              · exact (X13.out.below' H14.out).grown HG15.out (fun e => own_ne O14.out (X13.out.below' H14.out) (by decide) e.symm)
              · exact (Y13.out.below' H14.out).grown HG15.out (fun e => own_ne O14.out (Y13.out.below' H14.out) (by decide) e.symm)
            case measure => simp [RowKit.intOf]; omega)
        · subst h6
          subst h0
          simp only [Nat.add_zero] at ck
          have CK := Lib.hid ck
          have f0 := fun (e : Ext wr) => Ext.cell g0 e
          have f1 := fun (e : Ext wr) => Ext.cell g1 e
          have f2 := fun (e : Ext wr) => Ext.cell x0 e
          have f3 := fun (e : Ext wr) => Ext.cell x8 e
          have f4 := fun (e : Ext wr) => Ext.cell ck e
          go_wp2_with fail
          refine wp_region_ext (by kernel_rfl) (by kernel_rfl) ?_
          repeat (first | go_big_quiet_step ((fail)) | quiet_step ((fail)))
          refine wpQuiet_nil ?_
          intro w13 hw'
          obtain ⟨⟨_, hb13⟩, rfl⟩ := hw'
          have H13 := Lib.hid hb13
          clear hb13
          clear f0 f1 f2 f3 f4 g0 g1 x0 x8 ck
          go_wp2_with fail
          have q0' := Lib.hid (HB.out.trans (H13.out.mono HB.out.size))
          have X13 := Lib.hid (HBX.out.below' H13.out)
          have Y13 := Lib.hid (HND3.out.below' H13.out)
          have O13 := Lib.hid (own_below HO.out H13.out)
          have g0 := X13.out.cell 0
          have g1 := X13.out.cell 1
          have x8 := Y13.out.cell 8
          simp only [List.getElem?_toArray, List.getElem?_cons_zero, List.getElem?_cons_succ] at g0 g1 x8
          rw [EK.out] at x8
          have ck := (H13.out.cell (p := ⟨bk, _, none⟩) hbk).trans CK.out
          have LN := Lib.hid (LEN.out (0 + 1) (fun _ j hj => absurd hj (by omega)))
          refine wp_mono (Q := calm _) ?_ (calm_le _)
          have enM : ∀ args w, (callFunc 105 args).run Tryz.prog w = .ok (.enter 105 args) w := fun _ _ => by kernel_rfl
          go_region_law (first | (refine step_call rfl 105 _ _ #[.agg #[.slice g.RA g.rules.length g.rc, .slice (some ⟨b1, o1, none⟩) g.nodes.length g.nc], .int .i64 kk, .slice (some ⟨rb, 0, none⟩) g.rules.length g.rules.length] rfl enM (by simp [Act.eval, Act.put]) ((RK.out _ (by first | exact bdrew1 q0'.out | exact q0'.out)).mono ?_); rintro e w14 ⟨⟨A2, c2, rfl, ho2⟩, hb2⟩; refine ⟨_, rfl, ?_⟩; have H14 := Lib.hid (show Below w13.heap.size w13 w14 from ⟨hb2.os, hb2.tape, hb2.output, hb2.size, hb2.block⟩); have NEWS := Lib.hid (own_news ho2); have O14 := Lib.hid (own_below O13.out H14.out); clear hb2 ho2) | (refine step_append_any rfl (.tmp 43) (.tmp 51) 38 rfl w.heap.size 3 i0 (.int .i64 0) 1 8 Tryz.underlying38 hi hz0 hz1 hz2 rfl (by decide) (.slice LA (soFar n ks f 0).length lc) (soFar n ks f 0).length (ints (soFar n ks f 0)) (by simp [Act.eval, Act.put]) O14.out A2 (f kk).length c2 (ints (f kk)) (by simp [Act.eval, Act.put]) (by rw [ints_length, Nat.mul_one]) NEWS.out.1 NEWS.out.2 (ints_one _) (by unfold maxLen; have := SK.out; have := LK.out; omega) (by have := SK.out; have := LK.out; omega) (by have := q0'.out.size; have := H14.out.size; omega) ?_; intro v15 w15 ho15 hg15 hf15; have HO15 := Lib.hid ho15; have HG15 := Lib.hid hg15; clear ho15 hg15 hf15))
          all_goals (
            simp only [calm]
            go_wp2_with fail
            go_roundw
            case rel =>
              first
              | refine ⟨0 + 1, by omega, by go_num, fun _ j hj => absurd hj (by omega), ?_, ?_, ?_, ?_⟩
              | (repeat apply Exists.intro); refine ⟨⟨0 + 1, by omega, by go_num, fun _ j hj => absurd hj (by omega), ?_, ?_, ?_, ?_⟩, rfl⟩
              · have := HO15.out
                rw [← List.length_append, ← ints_app, ← NXT.out] at this
                exact this
              · exact grown_below (q0'.out.trans (H14.out.mono q0'.out.size)) (by have := q0'.out.size; have := H14.out.size; omega) HG15.out (fun q e => (O14.out.lt q e).1)
              · exact (X13.out.below' H14.out).grown HG15.out (fun e => own_ne O14.out (X13.out.below' H14.out) (by decide) e.symm)
              · exact (Y13.out.below' H14.out).grown HG15.out (fun e => own_ne O14.out (Y13.out.below' H14.out) (by decide) e.symm)
            case measure => simp [RowKit.intOf]; omega)
        · subst h6
          obtain ⟨p, ekp⟩ : ∃ p, k = p + 1 := ⟨k - 1, by omega⟩
          have hpl : p < ks.length := by omega
          have hp0 : (0 : Int) ≤ (p : Int) := by omega
          have hpl2 : (p : Int) < ks.length := by omega
          have hw1 : IntKind.i64.wrap ((k : Int) - 1) = (p : Int) := by rw [show (k : Int) - 1 = (p : Int) by omega]; exact IntWalk.i64_in _ (by omega)
          have hgt : (0 : Int) < (k : Int) := by omega
          have EKP := Lib.hid ekp
          clear ekp
          obtain ⟨bk', ok', ek', hbk', cp⟩ := lies_cell (l := ks) (HX.out.1.below HB.out) (k := p) hpl
          dsimp only at ek'
          rw [EK.out] at ek'
          obtain ⟨rfl, rfl⟩ : bk = bk' ∧ ok = ok' := by
            have := Option.some.inj ek'
            simp only [Addr.mk.injEq] at this
            exact ⟨this.1, this.2.1⟩
          have hpm : ks.getD p 0 ∈ ks := by simp [List.getD, List.getElem?_eq_getElem hpl]
          have T2 := Lib.hid (fun (e : Ext wr) => MAY.out _ hpm e.val (HB.out.trans (e.grown.mono HB.out.size)))
          have ST := Lib.hid (fun (hl : M (ks.getD p 0) = false) => STOP.out k rfl hlt h0 (fun j hj => HM.out rfl j hj) (by rw [show k - 1 = p by have := EKP.out; omega]; exact hl))
          have PM := Lib.hid (fun (hl : M (ks.getD p 0) = true) j (hj : j + 1 < k + 1) => show M (ks.getD j 0) = true from if e : j = p then e ▸ hl else HM.out rfl j (by have := EKP.out; omega))
          generalize ks.getD p 0 = kp at cp T2 ST PM
          have f5 := fun (e : Ext wr) => Ext.cell cp e
          have f0 := fun (e : Ext wr) => Ext.cell g0 e
          have f1 := fun (e : Ext wr) => Ext.cell g1 e
          have f2 := fun (e : Ext wr) => Ext.cell x0 e
          have f3 := fun (e : Ext wr) => Ext.cell x8 e
          have f4 := fun (e : Ext wr) => Ext.cell ck e
          cases hmv : M kp with
          | false =>
            rw [hmv] at T2
            go_wp2_with fail
            refine wp_region_ext (by kernel_rfl) (by kernel_rfl) ?_
            repeat (first | go_big_quiet_step (((go_at_call 141; with_reducible exact Calls.ext_of (T2.out _)))) | quiet_step (((go_at_call 141; with_reducible exact Calls.ext_of (T2.out _)))))
            refine wpQuiet_nil ?_
            intro w13 hw'
            obtain ⟨⟨_, hb13⟩, rfl⟩ := hw'
            have H13 := Lib.hid hb13
            clear hb13
            clear f0 f1 f2 f3 f4 f5 g0 g1 x0 x8 ck cp
            go_wp2_with fail
            go_ret
            have e := END.out k (by omega) (ST.out hmv)
            rw [e]
            exact ⟨⟨LA, lc, rfl, own_below HO.out H13.out⟩, HB.out.trans (H13.out.mono HB.out.size)⟩
          | true =>
            rw [hmv] at T2
            go_wp2_with fail
            refine wp_region_ext (by kernel_rfl) (by kernel_rfl) ?_
            repeat (first | go_big_quiet_step (((go_at_call 141; with_reducible exact Calls.ext_of (T2.out _)))) | quiet_step (((go_at_call 141; with_reducible exact Calls.ext_of (T2.out _)))))
            refine wpQuiet_nil ?_
            intro w13 hw'
            obtain ⟨⟨_, hb13⟩, rfl⟩ := hw'
            have H13 := Lib.hid hb13
            clear hb13
            clear f0 f1 f2 f3 f4 f5 g0 g1 x0 x8 ck cp
            go_wp2_with fail
            have q0' := Lib.hid (HB.out.trans (H13.out.mono HB.out.size))
            have X13 := Lib.hid (HBX.out.below' H13.out)
            have Y13 := Lib.hid (HND3.out.below' H13.out)
            have O13 := Lib.hid (own_below HO.out H13.out)
            have g0 := X13.out.cell 0
            have g1 := X13.out.cell 1
            have x8 := Y13.out.cell 8
            simp only [List.getElem?_toArray, List.getElem?_cons_zero, List.getElem?_cons_succ] at g0 g1 x8
            rw [EK.out] at x8
            have ck := (H13.out.cell (p := ⟨bk, _, none⟩) hbk).trans CK.out
            have LN := Lib.hid (LEN.out (k + 1) (fun _ j hj => PM.out hmv j hj))
            refine wp_mono (Q := calm _) ?_ (calm_le _)
            have enM : ∀ args w, (callFunc 105 args).run Tryz.prog w = .ok (.enter 105 args) w := fun _ _ => by kernel_rfl
            go_region_law (first | (refine step_call rfl 105 _ _ #[.agg #[.slice g.RA g.rules.length g.rc, .slice (some ⟨b1, o1, none⟩) g.nodes.length g.nc], .int .i64 kk, .slice (some ⟨rb, 0, none⟩) g.rules.length g.rules.length] rfl enM (by simp [Act.eval, Act.put]) ((RK.out _ (by first | exact bdrew1 q0'.out | exact q0'.out)).mono ?_); rintro e w14 ⟨⟨A2, c2, rfl, ho2⟩, hb2⟩; refine ⟨_, rfl, ?_⟩; have H14 := Lib.hid (show Below w13.heap.size w13 w14 from ⟨hb2.os, hb2.tape, hb2.output, hb2.size, hb2.block⟩); have NEWS := Lib.hid (own_news ho2); have O14 := Lib.hid (own_below O13.out H14.out); clear hb2 ho2) | (refine step_append_any rfl (.tmp 43) (.tmp 51) 38 rfl w.heap.size 3 i0 (.int .i64 0) 1 8 Tryz.underlying38 hi hz0 hz1 hz2 rfl (by decide) (.slice LA (soFar n ks f k).length lc) (soFar n ks f k).length (ints (soFar n ks f k)) (by simp [Act.eval, Act.put]) O14.out A2 (f kk).length c2 (ints (f kk)) (by simp [Act.eval, Act.put]) (by rw [ints_length, Nat.mul_one]) NEWS.out.1 NEWS.out.2 (ints_one _) (by unfold maxLen; have := SK.out; have := LK.out; omega) (by have := SK.out; have := LK.out; omega) (by have := q0'.out.size; have := H14.out.size; omega) ?_; intro v15 w15 ho15 hg15 hf15; have HO15 := Lib.hid ho15; have HG15 := Lib.hid hg15; clear ho15 hg15 hf15))
            all_goals (
              simp only [calm]
              go_wp2_with fail
              go_roundw
              case rel =>
                first
                | refine ⟨k + 1, by omega, by go_num, fun _ j hj => PM.out hmv j hj, ?_, ?_, ?_, ?_⟩
                | (repeat apply Exists.intro); refine ⟨⟨k + 1, by omega, by go_num, fun _ j hj => PM.out hmv j hj, ?_, ?_, ?_, ?_⟩, rfl⟩
                · have := HO15.out
                  rw [← List.length_append, ← ints_app, ← NXT.out] at this
                  exact this
                · exact grown_below (q0'.out.trans (H14.out.mono q0'.out.size)) (by have := q0'.out.size; have := H14.out.size; omega) HG15.out (fun q e => (O14.out.lt q e).1)
                · exact (X13.out.below' H14.out).grown HG15.out (fun e => own_ne O14.out (X13.out.below' H14.out) (by decide) e.symm)
                · exact (Y13.out.below' H14.out).grown HG15.out (fun e => own_ne O14.out (Y13.out.below' H14.out) (by decide) e.symm)
              case measure => simp [RowKit.intOf]; omega)
      · obtain rfl : k = ks.length := by omega
        have hlt2 : ¬ (ks.length : Int) < ks.length := by omega
        go_wp2_with fail
        go_ret
        have e := END.out ks.length (Nat.le_refl _) (by rw [List.take_length]; exact ALL.out (fun h6 j hj => HM.out h6 j hj))
        rw [e]
        exact ⟨⟨LA, lc, rfl, HO.out⟩, HB.out⟩
end Go.Proofs.YtlbjmkljmhfjdaaGreat

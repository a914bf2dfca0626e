/- The tree of some rules. -/
import Derived.Test.YtfghfnpiaccfaaaGreatDoorGC
set_option linter.unusedSimpArgs false
set_option linter.unusedVariables false
namespace Go.Proofs.YtfghfnpiaccfaaaGreatDoor
open Go Go.RowKit Go.Maps
theorem Tryz.infoARule : (Tryz.prog.info? 50).map (fun i => (i.zero, i.size, i.bytes)) = some (some (.agg #[.string ⟨#[]⟩, .int .i64 0]), 2, 24) := by kernel_rfl
abbrev nil3 : Value := .slice none 0 0
theorem TrAt.below {l : List Nat} {w w' : World} {base tb : Nat} {vr vrp : Value} {F : List Rw} {vn vp vm : Value} {NL : List Nw} (h : TrAt l w base tb vr vrp F vn vp vm NL) (hb : Below w.heap.size w w') : TrAt l w' base tb vr vrp F vn vp vm NL :=
  ⟨h.lo, h.blk.below' hb, h.rows.below hb⟩
theorem Rws.far {w w' : World} {base tb r : Nat} {rs : List Rw} (h : Rws w base tb rs) (hg : w.grownBy w' (some r)) (hr : r < base) : Rws w' base tb rs :=
  ⟨fun s hs => own_kept (h.own s hs) (fun k hk => hg.block k ((h.own s hs).lt k hk).2 (fun e => by have := ((h.own s hs).lt k hk).1; cases e; omega)), h.sep, h.ntb, Nat.lt_of_lt_of_le h.tl hg.size⟩
theorem TrAt.far {l : List Nat} {w w' : World} {base tb r : Nat} {vr vrp : Value} {F : List Rw} {vn vp vm : Value} {NL : List Nw} (h : TrAt l w base tb vr vrp F vn vp vm NL) (hg : w.grownBy w' (some r)) (hr : r < base) : TrAt l w' base tb vr vrp F vn vp vm NL :=
  ⟨h.lo, h.blk.grown hg (fun e => by cases e; have := h.lo; omega), h.rows.far hg hr⟩
theorem TrAt.zero {l : List Nat} {w : World} {base tb : Nat} (hlo : base ≤ tb) (hk : Blk w tb #[nil3, nil3, nil3, nil3, nil3] 36) : TrAt l w base tb nil3 nil3 [⟨50, 2, nil3, 0, []⟩, ⟨3, 1, nil3, 0, []⟩] nil3 nil3 nil3 [] := by
  refine ⟨hlo, hk, ?_, ?_, ?_, hk.lt⟩
  · intro r hr
    simp only [trows, List.cons_append, List.nil_append, List.map_nil, List.mem_cons, List.not_mem_nil, or_false] at hr
    rcases hr with rfl | rfl | rfl | rfl | rfl <;> exact World.ownsRow_nil _ _ _ _
  · simp [trows, Value.ownBlock]
  · intro r hr
    simp only [trows, List.cons_append, List.nil_append, List.map_nil, List.mem_cons, List.not_mem_nil, or_false] at hr
    rcases hr with rfl | rfl | rfl | rfl | rfl <;> simp [Value.ownBlock]
theorem TrAt.f1 {l : List Nat} {w w' : World} {base tb e sz n n' : Nat} {vr vrp v' : Value} {xs xs' : List Value} {F : List Rw} {vn vp vm : Value} {NL : List Nw} {o : Obj} (h : TrAt l w base tb vr vrp (⟨e, sz, vr, n, xs⟩ :: F) vn vp vm NL) (hB : base ≤ w.heap.size) (hg : (w.alloc o).grownBy w' vr.ownBlock)
    (ho : w'.ownsRow base e sz v' n' xs') (hv : ∀ k, v'.ownBlock = some k → vr.ownBlock = some k ∨ (w.alloc o).heap.size ≤ k) :
    TrAt l (w'.setCell ⟨tb, 0, none⟩ v') base tb v' vrp (⟨e, sz, v', n', xs'⟩ :: F) vn vp vm NL ∧ Below base w (w'.setCell ⟨tb, 0, none⟩ v') ∧ Blk w' tb #[vr, vn, vrp, vp, vm] 36 ∧ ∀ b vs T, Blk w b vs T → b ≠ tb → vr.ownBlock ≠ some b → Blk (w'.setCell ⟨tb, 0, none⟩ v') b vs T := by
  have hm : (⟨e, sz, vr, n, xs⟩ : Rw) ∈ trows (⟨e, sz, vr, n, xs⟩ :: F) vn NL.length (ncl NL) vp NL.length (plv l NL) vm NL.length (nmv NL) NL := by simp [trows]
  have hk : Blk w' tb #[vr, vn, vrp, vp, vm] 36 := (h.blk.alloc o).grown hg (fun e => h.rows.ntb _ hm e.symm)
  have r1 := (h.rows.below (B1 w o)).upd (A := []) (r := ⟨e, sz, vr, n, xs⟩) (r' := ⟨e, sz, v', n', xs'⟩) hg ho hv
  refine ⟨⟨h.lo, heap_setCell_same w' tb 0 _ 36 v' hk, by simpa [trows] using r1.tbset 0 v'⟩, ?_, hk, fun b vs T hb h1 h2 => ?_⟩
  · exact set_below ((B1 w o).mono hB |>.trans (below_row (by simp; omega) hg (fun k e => ((h.rows.own _ hm).lt k e).1))) h.lo _ _
  · exact (heap_setCell_other w' ⟨tb, 0, none⟩ b _ h1).trans ((hb.alloc o).grown hg (fun e => h2 e.symm))
theorem TrAt.f2 {l : List Nat} {w w' : World} {base tb e sz n n' : Nat} {vr vrp v' : Value} {xs xs' : List Value} {R : Rw} {vn vp vm : Value} {NL : List Nw} {o : Obj} (h : TrAt l w base tb vr vrp [R, ⟨e, sz, vrp, n, xs⟩] vn vp vm NL) (hB : base ≤ w.heap.size) (hg : (w.alloc o).grownBy w' vrp.ownBlock)
    (ho : w'.ownsRow base e sz v' n' xs') (hv : ∀ k, v'.ownBlock = some k → vrp.ownBlock = some k ∨ (w.alloc o).heap.size ≤ k) :
    TrAt l (w'.setCell ⟨tb, 2, none⟩ v') base tb vr v' [R, ⟨e, sz, v', n', xs'⟩] vn vp vm NL ∧ Below base w (w'.setCell ⟨tb, 2, none⟩ v') ∧ Blk w' tb #[vr, vn, vrp, vp, vm] 36 ∧ ∀ b vs T, Blk w b vs T → b ≠ tb → vrp.ownBlock ≠ some b → Blk (w'.setCell ⟨tb, 2, none⟩ v') b vs T := by
  have hm : (⟨e, sz, vrp, n, xs⟩ : Rw) ∈ trows [R, ⟨e, sz, vrp, n, xs⟩] vn NL.length (ncl NL) vp NL.length (plv l NL) vm NL.length (nmv NL) NL := by simp [trows]
  have hk : Blk w' tb #[vr, vn, vrp, vp, vm] 36 := (h.blk.alloc o).grown hg (fun e => h.rows.ntb _ hm e.symm)
  have r1 := (h.rows.below (B1 w o)).upd (A := [R]) (r := ⟨e, sz, vrp, n, xs⟩) (r' := ⟨e, sz, v', n', xs'⟩) hg ho hv
  refine ⟨⟨h.lo, heap_setCell_same w' tb 2 _ 36 v' hk, by simpa [trows] using r1.tbset 2 v'⟩, ?_, hk, fun b vs T hb h1 h2 => ?_⟩
  · exact set_below ((B1 w o).mono hB |>.trans (below_row (by simp; omega) hg (fun k e => ((h.rows.own _ hm).lt k e).1))) h.lo _ _
  · exact (heap_setCell_other w' ⟨tb, 2, none⟩ b _ h1).trans ((hb.alloc o).grown hg (fun e => h2 e.symm))
theorem bod_le : ∀ us : List Ru, us.length ≤ (bod us).nodes
  | [] => Nat.le_refl _
  | u :: us => by simp only [bod, Fr.nodes, List.length_cons]; have := bod_le us; omega
def rlc (us : List Ru) (rd : List Nat) : List Value := (us.zip rd).flatMap fun x => [.string (bsv x.1.name), .int .i64 ((x.2 : Nat) : Int)]
def rpv (l : List Nat) (us : List Ru) : List Value := us.map fun u => .int .i64 (beg l u.at_ : Nat)
theorem rlc_app (us : List Ru) (rd : List Nat) (h : rd.length = us.length) (u : Ru) (n : Nat) : rlc (us ++ [u]) (rd ++ [n]) = rlc us rd ++ [.string (bsv u.name), .int .i64 ((n : Nat) : Int)] := by
  unfold rlc
  rw [List.zip_append h.symm]
  simp
theorem rcs_length (l : List Nat) : ∀ (us : List Ru) (qs : List Nat), qs.length = us.length → (rcs l us qs).length = us.length * 3
  | [], [], _ => rfl
  | u :: us, q :: qs, h => by
    have := rcs_length l us qs (by simpa using h)
    unfold rcs at this ⊢
    rw [List.zip_cons_cons, List.flatMap_cons, List.length_append, this]
    simp only [rcell, List.length_cons, List.length_nil]
    omega
  | [], _ :: _, h => by simp at h
  | _ :: _, [], h => by simp at h
theorem rcs_at (l : List Nat) (d s : List Ru) (dq rq : List Nat) (u : Ru) (q j : Nat) (h : dq.length = d.length) (hj : j < 3) : (rcs l (d ++ u :: s) (dq ++ q :: rq))[d.length * 3 + j]? = (rcell l u q)[j]? := by
  have e := rcs_length l d dq h
  unfold rcs at e ⊢
  rw [List.zip_append h.symm, List.flatMap_append, List.zip_cons_cons, List.flatMap_cons, List.getElem?_append_right (by omega), e, List.getElem?_append_left (by simp [rcell]; omega)]
  congr 1
  omega
theorem ones5 {l : List Nat} {w : World} {base tb : Nat} {vr vrp : Value} {n m : Nat} {T1 T2 s1 s2 : Nat} {x1 x2 : List Value} {vn vp vm : Value} {NL : List Nw} (h : TrAt l w base tb vr vrp [⟨T1, s1, vr, n, x1⟩, ⟨T2, s2, vrp, m, x2⟩] vn vp vm NL) : (#[vr, vn, vrp, vp, vm] : Array Value).all (·.oneCell') = true := by
  obtain ⟨_, _, e1, _, _⟩ := own_slice (h.rows.own ⟨T1, s1, vr, n, x1⟩ (by simp [trows]))
  obtain ⟨_, _, e2, _, _⟩ := own_slice (h.rows.own ⟨T2, s2, vrp, m, x2⟩ (by simp [trows]))
  obtain ⟨_, _, e3, _, _⟩ := own_slice h.own_n
  obtain ⟨_, _, e4, _, _⟩ := own_slice h.own_p
  obtain ⟨_, _, e5, _, _⟩ := own_slice h.own_m
  simp only at e1 e2
  rw [e1, e2, e3, e4, e5]
  simp [Value.oneCell']
theorem laid_rel {us s : List Ru} {u : Ru} {rd : List Nat} {NL E : List Nw} (h1 : roots 0 (bod us) = rd ++ roots NL.length (bod (u :: s))) (h2 : flat 0 (bod us) = said NL ++ flat NL.length (bod (u :: s))) (h3 : NL.length + (bod (u :: s)).nodes = (bod us).nodes) (h : said E = flat NL.length (u.body.fr .nil)) :
    roots 0 (bod us) = (rd ++ [NL.length]) ++ roots (NL ++ E).length (bod s) ∧ flat 0 (bod us) = said (NL ++ E) ++ flat (NL ++ E).length (bod s) ∧ (NL ++ E).length + (bod s).nodes = (bod us).nodes := by
  have hl : E.length = 1 + u.body.2.nodes := by
    have := congrArg List.length h
    rw [flat_length] at this
    simpa [said, Pn.fr, Fr.nodes] using this
  have e2 : (NL ++ E).length = NL.length + 1 + u.body.2.nodes := by simp [hl]; omega
  rw [e2]
  simp only [Pn.fr, flat, List.append_nil] at h
  simp only [bod, Fr.nodes] at h3
  refine ⟨by rw [h1]; simp [bod, roots], by rw [h2, said_app, h]; simp [bod, flat], by omega⟩
set_option maxRecDepth 100000 in
set_option maxHeartbeats 8000000 in
theorem laid_any (l : List Nat) (w : World) (bl lo : Nat) (us : List Ru) (qs : List Nat) (v : Value) (hown : w.ownsRow bl 160 3 v us.length (rcs l us qs)) (hq : qs.length = us.length) (hF : FrAt w lo l (bod us) qs) (hsz : (bod us).nodes ≤ 1000000) :
    Calls Tryz.prog 43 #[v] w fun e w' => ∃ vr vrp vn vp vm NL, e = .returned (.agg #[vr, vn, vrp, vp, vm]) ∧ Below w.heap.size w w' ∧ TrAt l w' (w.heap.size + 1) (w.heap.size + 1) vr vrp [⟨50, 2, vr, us.length, rlc us (roots 0 (bod us))⟩, ⟨3, 1, vrp, us.length, rpv l us⟩] vn vp vm NL ∧ said NL = flat 0 (bod us) := by
    obtain ⟨A0, c0, rfl, _, _⟩ := own_slice hown
    obtain ⟨iR, hiR, eR⟩ := Option.map_eq_some_iff.1 Tryz.infoARule
    simp only [Prod.mk.injEq] at eR
    obtain ⟨hzR0, hzR1, hzR2⟩ := eR
    obtain ⟨i3, hi3, e3⟩ := Option.map_eq_some_iff.1 Tryz.infoInt3
    simp only [Prod.mk.injEq] at e3
    obtain ⟨hz30, hz31, hz32⟩ := e3
    have HO := Lib.hid hown
    have HF := Lib.hid hF
    have HQ := Lib.hid hq
    clear hown hF hq
    have hus := bod_le us
    go_enter Tryz.func43, Tryz.ntmps43
    go_upto_region 2 with fail
    obtain ⟨w2, e2⟩ : ∃ w2, w2 = (w.alloc (.cells #[nil3, nil3, nil3, nil3, nil3] 36)).alloc (.cells #[nil3, nil3, nil3, nil3, nil3] 36) := ⟨_, rfl⟩
    have hs2 : w2.heap.size = w.heap.size + 2 := by rw [e2]; simp
    have T0 : RowKit.Hid (TrAt l w2 (w.heap.size + 1) (w.heap.size + 1) nil3 nil3 [⟨50, 2, nil3, 0, []⟩, ⟨3, 1, nil3, 0, []⟩] nil3 nil3 nil3 []) := Lib.hid (TrAt.zero (Nat.le_refl _) (by rw [e2]; exact blk_new' _ _ _ _ (by simp)))
    have K0 : RowKit.Hid (Blk w2 w.heap.size #[nil3, nil3, nil3, nil3, nil3] 36) := Lib.hid (by rw [e2]; exact (Blk.new w _ _).alloc _)
    have BB : RowKit.Hid (Below w.heap.size w w2) := Lib.hid (by rw [e2]; exact bnext (bnext (Below.refl _ _) _) _)
    rw [← e2]
    clear e2
    go_wp2_with fail
    go_loopw [8] (fun v wr => ∃ (d s : List Ru) (dq rq rd : List Nat) (NL : List Nw) (vr vrp vn vp vm : Value), v = .int .i64 (d.length : Nat) ∧ us = d ++ s ∧ qs = dq ++ rq ∧ dq.length = d.length ∧ rd.length = d.length ∧ FrAt w lo l (bod s) rq ∧ TrAt l wr (w.heap.size + 1) (w.heap.size + 1) vr vrp [⟨50, 2, vr, d.length, rlc d rd⟩, ⟨3, 1, vrp, d.length, rpv l d⟩] vn vp vm NL ∧ roots 0 (bod us) = rd ++ roots NL.length (bod s) ∧ flat 0 (bod us) = said NL ++ flat NL.length (bod s) ∧ NL.length + (bod s).nodes = (bod us).nodes ∧ Below (w.heap.size + 1) w2 wr) (fun v _ => us.length - (intOf v).toNat)
    case atStart => exact ⟨[], us, [], qs, [], [], nil3, nil3, nil3, nil3, nil3, rfl, rfl, rfl, rfl, rfl, HF.out, T0.out, rfl, rfl, by simp, Below.refl _ _⟩
    case round =>
      obtain ⟨d, s, dq, rq, rd, NL, vr, vrp, vn, vp, vm, rfl, hus2, hqs2, hdq, hrd, hFr, hTr, hro, hfl, hno, hbw⟩ := hrel
      have TRR := Lib.hid hTr
      have FR := Lib.hid hFr
      have RO := Lib.hid (And.intro hro (And.intro hfl hno))
      have BWR := Lib.hid hbw
      have DQ := Lib.hid (And.intro hqs2 (And.intro hdq hrd))
      have SZW : RowKit.Hid (w.heap.size + 2 ≤ wr.heap.size) := Lib.hid (by have := hbw.size; omega)
      clear hTr hro hfl hbw hno hqs2 hdq hrd hFr
      cases s with
      | nil =>
        have hlen : us.length = d.length := by rw [hus2]; simp
        have HU := Lib.hid hus2
        clear hus2
        rw [← hlen]
        have tk := TRR.out.blk
        have t0 := tk.cell 0
        have t1 := tk.cell 1
        have t2 := tk.cell 2
        have t3 := tk.cell 3
        have t4 := tk.cell 4
        simp only [List.getElem?_toArray, List.getElem?_cons_zero, List.getElem?_cons_succ] at t0 t1 t2 t3 t4
        have K1 : RowKit.Hid (Blk wr w.heap.size #[nil3, nil3, nil3, nil3, nil3] 36) := Lib.hid ((BWR.out.block w.heap.size (by omega)).trans K0.out)
        clear tk
        go_wp2_with (refine wpList_store_whole rfl 36 (.tmp 2) (.tmp 37) rfl w.heap.size #[vr, vn, vrp, vp, vm] rfl rfl 36 _ K1.out (by kernel_rfl) (by rfl) (by exact ones5 TRR.out) ?_; intro w8 hk8 hg8; have K8 := Lib.hid hk8; have G8 := Lib.hid hg8; clear hk8 hg8)
        refine bodyPost_ret (results_cell1 rfl _ _ w.heap.size 36 _ _ rfl K8.out Tryz.underlying36 rfl (by kernel_rfl)) rfl ⟨vr, vrp, vn, vp, vm, NL, rfl, ?_, ?_, ?_⟩
        · exact below_new (BB.out.trans (BWR.out.mono (by omega))) (by have := SZW.out; omega) G8.out (Nat.le_refl _)
        · have h1 := RO.out.1
          simp only [bod, roots, List.append_nil] at h1
          have h2 := HU.out
          rw [List.append_nil] at h2
          rw [h1, h2]
          exact TRR.out.far G8.out (by omega)
        · have h1 := RO.out.2.1
          simp only [bod, flat, List.append_nil] at h1
          exact h1.symm
      | cons u s =>
        have hi : d.length < us.length := by rw [hus2]; simp
        have hi2 : (d.length : Int) < us.length := by omega
        have HU := Lib.hid hus2
        clear hus2
        obtain ⟨q, rest, A2, cap2, kqs2, erq, g2, g3, g4, g5, g6, g7⟩ := FR.out
        have HP : RowKit.Hid (PtAt w lo l u.body q) := Lib.hid ⟨q, [], A2, cap2, kqs2, rfl, g2, g3, g4, g5, g6, rfl⟩
        have HS := Lib.hid (And.intro erq g7)
        clear erq g2 g3 g4 g5 g6 g7
        obtain ⟨g, rfl, hgl⟩ : ∃ g, A0 = some ⟨g, 0, none⟩ ∧ g < w.heap.size := by
          rcases HO.out.2 with ⟨h1, h2⟩ | ⟨g, cap, cur, h1, _, hh, _⟩
          · simp only [Value.slice.injEq] at h1; omega
          · simp only [Value.slice.injEq] at h1
            exact ⟨g, h1.1, (Array.getElem?_eq_some_iff.1 hh).1⟩
        have cc := fun j (hj : j < 3) => (show wr.cell? ⟨g, d.length * 3 + j, none⟩ = (rcell l u q)[j]? from by
          have e1 := HO.out.cellAt (d.length * 3 + j) (by omega)
          have e2 : rcs l us qs = rcs l (d ++ u :: s) (dq ++ q :: rest) := by rw [DQ.out.1, HU.out, HS.out.1]
          rw [e2, rcs_at l d s dq rest u q j DQ.out.2.1 hj] at e1
          rw [← e1]
          have := (BB.out.trans (BWR.out.mono (by omega))).block g hgl
          simp only [World.cell?, this])
        have c0_ := cc 0 (by omega)
        have c1_ := cc 1 (by omega)
        have c2_ := cc 2 (by omega)
        simp only [rcell, List.getElem?_cons_zero, List.getElem?_cons_succ, Nat.add_zero] at c0_ c1_ c2_
        clear cc
        obtain ⟨An, cn, rfl, _, _⟩ := own_slice TRR.out.own_n
        go_upto_region 5 with (refine wpList_store_whole rfl 160 (.tmp 5) (.tmp 11) rfl wr.heap.size #[.string (bsv u.name), .int .i64 (beg l u.at_ : Nat), .pointer (some ⟨q, 0, none⟩)] rfl rfl 160 _ (Blk.new wr #[.string ⟨#[]⟩, .int .i64 0, .pointer none] 160) (by kernel_rfl) (by rfl) (by simp [Value.oneCell']) ?_; intro w3 hk3 hg3; have B3 := Lib.hid (below_new (B1 wr (.cells #[.string ⟨#[]⟩, .int .i64 0, .pointer none] 160)) (by simp) hg3 (Nat.le_refl _)); have K3 := Lib.hid hk3; have k0 := hk3.cell 0; simp only [List.getElem?_toArray, List.getElem?_cons_zero, List.getElem?_cons_succ] at k0; clear hk3 hg3)
        have T3 := Lib.hid (TRR.out.below B3.out)
        have tk := T3.out.blk
        have t0 := tk.cell 0
        have t1 := tk.cell 1
        simp only [List.getElem?_toArray, List.getElem?_cons_zero, List.getElem?_cons_succ] at t0 t1
        clear tk c0_ c1_ c2_
        have hl1 : RowKit.Hid (∀ k, vr.ownBlock = some k → k < wr.heap.size) := Lib.hid (fun k e => ((TRR.out.rows.own ⟨50, 2, vr, d.length, rlc d rd⟩ (by simp [trows])).lt k e).2)
        have hl2 : RowKit.Hid (∀ k, vrp.ownBlock = some k → k < wr.heap.size) := Lib.hid (fun k e => ((TRR.out.rows.own ⟨3, 1, vrp, d.length, rpv l d⟩ (by simp [trows])).lt k e).2)
        have hn1 : RowKit.Hid (vr.ownBlock ≠ some wr.heap.size) := Lib.hid (fun e => by have := hl1.out _ e; omega)
        have hn2 : RowKit.Hid (vrp.ownBlock ≠ some wr.heap.size) := Lib.hid (fun e => by have := hl2.out _ e; omega)
        have hn3 : RowKit.Hid (wr.heap.size ≠ w.heap.size + 1) := Lib.hid (by have := SZW.out; omega)
        have S3 : RowKit.Hid (w.heap.size + 1 ≤ w3.heap.size) := Lib.hid (by have := SZW.out; have := B3.out.size; omega)
        go_upto_region 6 with (refine wpList_append_blk rfl (.tmp 14) (.tmp 22) 22 rfl (w.heap.size + 1) 50 iR _ 2 24 Tryz.underlying22 hiR hzR0 hzR1 hzR2 rfl (by decide) vr d.length (rlc d rd) rfl (own_below (T3.out.rows.own ⟨50, 2, vr, d.length, rlc d rd⟩ (by simp [trows])) (bnext (Below.refl _ _) _)) w3.heap.size 1 1 rfl _ (blk_new' _ _ _ _ rfl) (by rfl) (by simp [Value.oneCell']) (by unfold maxLen; omega) (by omega) (by have := S3.out; simp; omega) ?_; intro v' w4 ho hg hv; obtain ⟨A', c', rfl, _, _⟩ := own_slice ho; have N1 := Lib.hid (T3.out.f1 S3.out hg ho hv); have NC := N1.out.2.2.1.cell 0; have NF := N1.out.2.2.1.frozen 0; simp only [List.getElem?_toArray, List.getElem?_cons_zero, List.getElem?_cons_succ] at NC; clear ho hg hv)
        have K5 := Lib.hid (N1.out.2.2.2 _ _ _ K3.out hn3.out hn1.out)
        have k1 := K5.out.cell 1
        have t2 := N1.out.1.blk.cell 2
        simp only [List.getElem?_toArray, List.getElem?_cons_zero, List.getElem?_cons_succ] at k1 t2
        have S5 : RowKit.Hid (w.heap.size + 1 ≤ w4.heap.size) := Lib.hid (by have := S3.out; have := N1.out.2.1.size; simp at this; omega)
        clear NC NF k0 t0 t1
        go_upto_region 7 with (refine wpList_append_blk rfl (.tmp 27) (.tmp 30) 33 rfl (w.heap.size + 1) 3 i3 _ 1 8 Tryz.underlying33 hi3 hz30 hz31 hz32 rfl (by decide) vrp d.length (rpv l d) rfl (own_below (N1.out.1.rows.own ⟨3, 1, vrp, d.length, rpv l d⟩ (by simp [trows])) (bnext (Below.refl _ _) _)) w4.heap.size 1 1 rfl _ (blk_new' _ _ _ _ (by simp)) (by rfl) (by simp [Value.oneCell']) (by unfold maxLen; omega) (by omega) (by have := S5.out; simp; omega) ?_; intro v' w6 ho hg hv; obtain ⟨A6, c6, rfl, _, _⟩ := own_slice ho; have N2 := Lib.hid (N1.out.1.f2 (by have := S5.out; simp; omega) hg ho hv); have NC := N2.out.2.2.1.cell 2; have NF := N2.out.2.2.1.frozen 2; simp only [List.getElem?_toArray, List.getElem?_cons_zero, List.getElem?_cons_succ] at NC; clear ho hg hv)
        have k2 := (N2.out.2.2.2 _ _ _ K5.out hn3.out hn2.out).cell 2
        simp only [List.getElem?_toArray, List.getElem?_cons_zero, List.getElem?_cons_succ] at k2
        have BW7 := Lib.hid ((B3.out.mono (by have := SZW.out; omega)).trans (N1.out.2.1.trans N2.out.2.1))
        have S7 : RowKit.Hid (w.heap.size + 1 ≤ w6.heap.size) := Lib.hid (by have := S5.out; have := N2.out.2.1.size; simp at this; omega)
        clear NC NF k1 t2
        have LY := Lib.hid (lay_any l (w.heap.size + 1) (w.heap.size + 1) _ _ _ w lo (by omega) (u.body.2.nodes + 1) u.body q _ _ _ NL (by omega) (by have := RO.out.2.2; simp only [bod, Fr.nodes] at this; omega) HP.out _ (by have := S7.out; simp; omega) (BB.out.trans ((BWR.out.trans BW7.out).mono (by omega))) N2.out.1)
        go_wp2_with (go_at_call 94; (with_reducible refine LY.out.mono ?_); rintro e w8 ⟨rfl, hb8, vn8, vp8, vm8, E, hT8, hs8⟩; have HT8 := Lib.hid hT8; have HB8 := Lib.hid hb8; have HS8 := Lib.hid hs8; clear hb8 hT8 hs8)
        have hwr : wrap64 ((d.length : Int) + 1) = ((d.length + 1 : Nat) : Int) := by rw [IntWalk.wrap64_in _ (by omega)]; rfl
        go_roundw
        case rel =>
          have LR := laid_rel RO.out.1 RO.out.2.1 RO.out.2.2 HS8.out
          refine ⟨d ++ [u], s, dq ++ [q], rest, rd ++ [NL.length], NL ++ E, .slice A' (d.length + 1) c', .slice A6 (d.length + 1) c6, vn8, vp8, vm8, by first | (rw [hwr]; simp) | simp, by rw [HU.out]; simp, by rw [DQ.out.1, HS.out.1]; simp, by simp [DQ.out.2.1], by simp [DQ.out.2.2], HS.out.2, ?_, LR.1, LR.2.1, LR.2.2, BWR.out.trans (BW7.out.trans HB8.out)⟩
          have h := HT8.out
          rw [rlc_app d rd DQ.out.2.2 u NL.length]
          have e1 : rpv l (d ++ [u]) = rpv l d ++ [.int .i64 (beg l u.at_ : Nat)] := by simp [rpv]
          rw [e1, List.length_append, List.length_singleton]
          exact h
        case measure =>
          exact lay_meas hi
end Go.Proofs.YtfghfnpiaccfaaaGreatDoor
namespace Go.Proofs.YtfghfnpiaccfaaaGreatDoor
open Go Go.RowKit Go.Maps
section
variable {tk : Nat → Wd} {N : Nat}
theorem suf_nd : ∀ (f : Nat) (p : Pn) (k k0 : Nat) (q : Pn) (j : Nat), p.2.nodes + 2 ≤ 2 * (k - k0) → suf tk f p k = .ok q j → q.2.nodes + 2 ≤ 2 * (j - k0)
  | 0, _, _, _, _, _, _, e => by cases e
  | f + 1, p, k, k0, q, j, hk, e => by
    unfold suf at e
    split at e
    · cases e; exact hk
    · exact suf_nd f _ (k + 1) k0 q j (by simp only [Pn.fr, Fr.nodes]; omega) e
theorem sev_nd {one : Nat → Rs Pn} {more : Nat → Option Nat} (h1 : ∀ k p j, one k = .ok p j → p.2.nodes + 2 ≤ 2 * (j - k)) (h2 : ∀ k j, more k = some j → k ≤ j) : ∀ (f k : Nat) (r : Fr) (j : Nat), sev one more f k = .ok r j → k < j ∧ 1 ≤ r.len ∧ r.nodes + r.len ≤ 2 * (j - k)
  | 0, _, _, _, e => by cases e
  | f + 1, k, r, j, e => by
    unfold sev at e
    split at e
    · cases e
    · rename_i p j1 e1
      have g1 := h1 _ _ _ e1
      split at e
      · cases e; simp only [Pn.fr, Fr.nodes, Fr.len]; omega
      · rename_i j2 e2
        have g2 := h2 _ _ e2
        split at e
        · cases e
        · rename_i r' i e3
          cases e
          have := sev_nd h1 h2 f j2 _ _ e3
          simp only [Pn.fr, Fr.nodes, Fr.len]
          omega
theorem gath_nd (K : Int) (r : Fr) (h : 1 ≤ r.len) : (gath K r).2.nodes + 2 ≤ r.nodes + r.len := by
  cases r with
  | nil => simp [Fr.len] at h
  | cons x k r =>
    cases r with
    | nil => simp only [gath, Fr.nodes, Fr.len]; omega
    | cons y k' r' => simp only [gath, Fr.nodes, Fr.len]; omega
theorem several_nd {K : Int} {one : Nat → Rs Pn} {more : Nat → Option Nat} (h1 : ∀ k p j, one k = .ok p j → p.2.nodes + 2 ≤ 2 * (j - k)) (h2 : ∀ k j, more k = some j → k ≤ j) {f k : Nat} {p : Pn} {j : Nat} (e : several K one more f k = .ok p j) : p.2.nodes + 2 ≤ 2 * (j - k) := by
  unfold several at e
  split at e
  · cases e
  · rename_i r j1 e1
    cases e
    have g := sev_nd h1 h2 _ _ _ _ e1
    have := gath_nd K r g.2.1
    omega
theorem slash_up (k j : Nat) (e : slash tk k = some j) : k ≤ j := by
  unfold slash at e
  split at e
  · cases e; omega
  · cases e
theorem begins_up (k j : Nat) (e : begins tk k = some j) : k ≤ j := by
  unfold begins at e
  split at e
  · cases e; omega
  · cases e
theorem prim_nd {al : Nat → Rs Pn} (h3 : ∀ k p j, al k = .ok p j → p.2.nodes + 2 ≤ 2 * (j - k)) {d k : Nat} {p : Pn} {j : Nat} (e : prim tk al d k = .ok p j) : p.2.nodes + 2 ≤ 2 * (j - k) := by
  unfold prim at e
  split at e
  · cases e
  · split at e
    · cases e; simp only [Fr.nodes]; omega
    split at e
    · cases e; simp only [Fr.nodes]; omega
    split at e
    · cases e; simp only [Fr.nodes]; omega
    split at e
    · cases e; simp only [Fr.nodes]; omega
    split at e
    · cases e
    split at e
    · cases e; simp only [Fr.nodes]; omega
    split at e
    · cases e
    rename_i q i e2
    have := h3 _ _ _ e2
    split at e
    · cases e; omega
    · cases e
theorem itm_nd {it al : Nat → Rs Pn} (h1 : ∀ k p j, it k = .ok p j → p.2.nodes + 2 ≤ 2 * (j - k)) (h3 : ∀ k p j, al k = .ok p j → p.2.nodes + 2 ≤ 2 * (j - k)) {d k : Nat} {p : Pn} {j : Nat} (e : itm tk N it al d k = .ok p j) : p.2.nodes + 2 ≤ 2 * (j - k) := by
  unfold itm at e
  split at e
  · split at e
    · cases e
    · rename_i q i e1
      cases e
      have := h1 _ _ _ e1
      simp only [Pn.fr, Fr.nodes]
      omega
  · unfold sufd at e
    split at e
    · cases e
    · rename_i q i e1
      exact suf_nd _ _ _ _ _ _ (prim_nd h3 e1) e
theorem prs_nd : ∀ (f m d k : Nat) (p : Pn) (j : Nat), prs tk N f m d k = .ok p j → p.2.nodes + 2 ≤ 2 * (j - k)
  | 0, _, _, _, _, _, e => by unfold prs at e; cases e
  | f + 1, m, d, k, p, j, e => by
    have IH := prs_nd f
    unfold prs at e
    split at e
    · exact several_nd (fun k p j => IH 2 d k p j) slash_up e
    split at e
    · exact several_nd (fun k p j => IH 1 d k p j) begins_up e
    · exact itm_nd (fun k p j => IH 1 d k p j) (fun k p j => IH 3 (d + 1) k p j) e
theorem rul_nd {k : Nat} {u : Ru} {j : Nat} (e : rul tk N k = .ok u j) : 1 + u.body.2.nodes ≤ 2 * (j - k) ∧ k < j := by
  unfold rul at e
  split at e
  · cases e
  split at e
  · cases e
  split at e
  · cases e
  rename_i p i e1
  have := prs_nd _ _ _ _ _ _ e1
  split at e
  · cases e; simp only; omega
  · cases e
end
theorem ruls_nd {c : Cx} (hf : c.Fine) : ∀ (f k : Nat) (us : List Ru) (j : Nat), k ≤ c.N → ruls (tkn c.l) c.N f k = .ok us j → k < j ∧ j ≤ c.N ∧ (bod us).nodes ≤ 2 * (j - k)
  | 0, _, _, _, _, e => by cases e
  | f + 1, k, us, j, hk, e => by
    unfold ruls at e
    split at e
    · cases e
    rename_i u i e1
    have g := rul_nd e1
    have g2 := rul_lt hf hk e1
    split at e
    · cases e; simp only [bod, Fr.nodes]; omega
    split at e
    · cases e
    rename_i l i2 e2
    cases e
    have := ruls_nd hf f i _ _ g2.2 e2
    simp only [bod, Fr.nodes]
    omega
end Go.Proofs.YtfghfnpiaccfaaaGreatDoor
namespace Go.Proofs.YtfghfnpiaccfaaaGreatDoor
open Go Go.RowKit Go.Maps
abbrev z5 : Array Value := #[nil3, nil3, nil3, nil3, nil3]
/-- What is read of a text with N words ahead of its End. -/
def trd (l : List Nat) (N : Nat) : Rs (List Ru) := ruls (tkn l) N (N + 1) 0
abbrev dgv (e a : Int) : Value := .agg #[.int .i64 e, .int .i64 a]
/-- A tree of rules, with nothing else in its rows. -/
def TreeAt (l : List Nat) (us : List Ru) (v : Value) (B : Nat) (w : World) : Prop :=
  ∃ vr vrp vn vp vm NL tb, v = .agg #[vr, vn, vrp, vp, vm] ∧ B ≤ tb ∧ TrAt l w tb tb vr vrp [⟨50, 2, vr, us.length, rlc us (roots 0 (bod us))⟩, ⟨3, 1, vrp, us.length, rpv l us⟩] vn vp vm NL ∧ said NL = flat 0 (bod us)
def TxPost (l : List Nat) (N : Nat) (w : World) (e : Ending) (w' : World) : Prop :=
  Below w.heap.size w w' ∧ ((ow l N = none ∧ e = .returned (.tuple #[.agg z5, dgv 7 (beg l N : Nat)])) ∨ (ow l N ≠ none ∧ ∃ er j, trd l N = .no er j ∧ e = .returned (.tuple #[.agg z5, dgv er (beg l j : Nat)])) ∨
    (ow l N ≠ none ∧ ∃ us j v, trd l N = .ok us j ∧ e = .returned (.tuple #[v, dgv 0 0]) ∧ TreeAt l us v w.heap.size w'))
theorem toks_of {l : List Nat} {N : Nat} (hN : stp l N = true) (hNb : ∀ j, j < N → stp l j = false) (ho : ow l N ≠ none) : Toks (tkn l) N ∧ ∀ j, j ≤ N → ow l j = some (tkn l j) := by
  have h1 : ∀ j, j ≤ N → ∃ y, ow l j = some y := by
    intro j hj
    rcases Nat.lt_or_eq_of_le hj with h | rfl
    · cases e : ow l j with
      | some y => exact ⟨y, rfl⟩
      | none => have := hNb j h; rw [stp_none e] at this; cases this
    · cases e : ow l j with
      | some y => exact ⟨y, rfl⟩
      | none => exact absurd e ho
  refine ⟨⟨?_, fun j hj => ?_⟩, fun j hj => ?_⟩
  · obtain ⟨y, hy⟩ := h1 N (Nat.le_refl _)
    rw [stp_some hy] at hN
    rw [tkn_some hy]
    simpa using hN
  · obtain ⟨y, hy⟩ := h1 j (by omega)
    have := hNb j hj
    rw [stp_some hy] at this
    rw [tkn_some hy]
    simpa using this
  · obtain ⟨y, hy⟩ := h1 j hj
    rw [tkn_some hy, hy]
theorem rowK {l : List Nat} {N e base g cap : Nat} {w : World} (h : w.ownsRow base e 9 (.slice (some ⟨g, 0, none⟩) (N + 1) cap) (N + 1) (wrow l (N + 1))) (hi : ∀ j, j ≤ N → ow l j = some (tkn l j)) : ∀ i, i ≤ N → ∀ j, j < 9 → w.cell? ⟨g, i * 9 + j, none⟩ = (wfull (tkn l i) (beg l i))[j]? := by
  intro i h1 j hj
  rw [h.cellAt (i * 9 + j) (by omega), show i * 9 + j = 9 * i + j by omega, wrow_at l i (N + 1) j (by omega) hj, wA_some (hi i h1)]
theorem five_set {w : World} {b : Nat} {T : TypeId} {a0 a1 a2 a3 a4 : Value} (h : Blk w b #[a0, a1, a2, a3, a4] T) (v0 v1 v2 v3 v4 : Value) :
    Blk (((((w.setCell ⟨b, 0, none⟩ v0).setCell ⟨b, 1, none⟩ v1).setCell ⟨b, 2, none⟩ v2).setCell ⟨b, 3, none⟩ v3).setCell ⟨b, 4, none⟩ v4) b #[v0, v1, v2, v3, v4] T ∧ w.grownBy (((((w.setCell ⟨b, 0, none⟩ v0).setCell ⟨b, 1, none⟩ v1).setCell ⟨b, 2, none⟩ v2).setCell ⟨b, 3, none⟩ v3).setCell ⟨b, 4, none⟩ v4) (some b) := by
  have g : ∀ (W : World) (i : Nat) (v : Value), W.grownBy (W.setCell ⟨b, i, none⟩ v) (some b) := fun W i v => ⟨rfl, rfl, rfl, by simp, fun k _ hn => heap_setCell_other W ⟨b, i, none⟩ k v (fun e => hn (by rw [e]))⟩
  have h1 : Blk (w.setCell ⟨b, 0, none⟩ v0) b #[v0, a1, a2, a3, a4] T := heap_setCell_same _ b 0 #[a0, a1, a2, a3, a4] T _ h
  have h2 : Blk ((w.setCell ⟨b, 0, none⟩ v0).setCell ⟨b, 1, none⟩ v1) b #[v0, v1, a2, a3, a4] T := heap_setCell_same _ b 1 #[v0, a1, a2, a3, a4] T _ h1
  have h3 : Blk (((w.setCell ⟨b, 0, none⟩ v0).setCell ⟨b, 1, none⟩ v1).setCell ⟨b, 2, none⟩ v2) b #[v0, v1, v2, a3, a4] T := heap_setCell_same _ b 2 #[v0, v1, a2, a3, a4] T _ h2
  have h4 : Blk ((((w.setCell ⟨b, 0, none⟩ v0).setCell ⟨b, 1, none⟩ v1).setCell ⟨b, 2, none⟩ v2).setCell ⟨b, 3, none⟩ v3) b #[v0, v1, v2, v3, a4] T := heap_setCell_same _ b 3 #[v0, v1, v2, a3, a4] T _ h3
  have h5 : Blk (((((w.setCell ⟨b, 0, none⟩ v0).setCell ⟨b, 1, none⟩ v1).setCell ⟨b, 2, none⟩ v2).setCell ⟨b, 3, none⟩ v3).setCell ⟨b, 4, none⟩ v4) b #[v0, v1, v2, v3, v4] T := heap_setCell_same _ b 4 #[v0, v1, v2, v3, a4] T _ h4
  exact ⟨h5, (grown_trans (grown_trans (grown_trans (grown_trans (g w 0 v0) (g _ 1 v1)) (g _ 2 v2)) (g _ 3 v3)) (g _ 4 v4))⟩
theorem two_set {w : World} {b : Nat} {T : TypeId} {a0 a1 : Value} (h : Blk w b #[a0, a1] T) (v0 v1 : Value) :
    Blk ((w.setCell ⟨b, 0, none⟩ v0).setCell ⟨b, 1, none⟩ v1) b #[v0, v1] T ∧ w.grownBy ((w.setCell ⟨b, 0, none⟩ v0).setCell ⟨b, 1, none⟩ v1) (some b) := by
  have g : ∀ (W : World) (i : Nat) (v : Value), W.grownBy (W.setCell ⟨b, i, none⟩ v) (some b) := fun W i v => ⟨rfl, rfl, rfl, by simp, fun k _ hn => heap_setCell_other W ⟨b, i, none⟩ k v (fun e => hn (by rw [e]))⟩
  have h1 : Blk (w.setCell ⟨b, 0, none⟩ v0) b #[v0, a1] T := heap_setCell_same _ b 0 #[a0, a1] T _ h
  have h2 : Blk ((w.setCell ⟨b, 0, none⟩ v0).setCell ⟨b, 1, none⟩ v1) b #[v0, v1] T := heap_setCell_same _ b 1 #[v0, a1] T _ h1
  exact ⟨h2, (grown_trans (g w 0 v0) (g _ 1 v1))⟩
theorem keep_row {w w' : World} {b k j : Nat} {u : Value} (hg : w.grownBy w' (some b)) (h : w.cell? ⟨k, j, none⟩ = some u) (hk : ¬ k = b) : w'.cell? ⟨k, j, none⟩ = some u := by
  rw [← h]
  have hl : k < w.heap.size := World.block_lt_of_cell? _ _ h
  have := hg.block k hl (fun e => hk (Option.some.inj e))
  simp only [World.cell?, this]
theorem keep_rowd {w w' : World} {b k j : Nat} {u : Value} (hg : w.grownBy w' (some b)) (h : w.cell? ⟨k, j, none⟩ = some u) (hk : ¬ k = b) : w'.drew.cell? ⟨k, j, none⟩ = some u := keep_row (w' := w'.drew) ⟨hg.os, hg.tape, hg.output, hg.size, hg.block⟩ h hk
theorem results_cell2 {P : Program} {fn : Func} {p q : Tmp} {ty1 ty2 : TypeId} (h : fn.results = #[.cell p ty1, .cell q ty2]) (tmps : Array Value) (w : World) (g1 : Nat) (t1 : TypeId) (cs1 : Array Value) (d1 : TypeDesc) (g2 : Nat) (t2 : TypeId) (cs2 : Array Value) (d2 : TypeDesc)
    (hp : tmps.getD p undef = .pointer (some ⟨g1, 0, none⟩)) (hq : tmps.getD q undef = .pointer (some ⟨g2, 0, none⟩)) (h1 : Blk w g1 cs1 t1) (h2 : Blk w g2 cs2 t2) (u1 : P.underlying ty1 = some d1) (u2 : P.underlying ty2 = some d2)
    (k1 : (match d1 with | .struct _ | .array _ _ => true | _ => false) = true) (k2 : (match d2 with | .struct _ | .array _ _ => true | _ => false) = true) (i1 : (P.info? ty1).map (·.size) = some cs1.size) (i2 : (P.info? ty2).map (·.size) = some cs2.size) :
    (results fn tmps).run P w = .ok (.tuple #[.agg cs1, .agg cs2]) w := by
  have hp' : tmps[p]?.getD undef = .pointer (some ⟨g1, 0, none⟩) := by simpa using hp
  have hq' : tmps[q]?.getD undef = .pointer (some ⟨g2, 0, none⟩) := by simpa using hq
  simp [results, h, hp', hq', asAddr, run_loadVar_row w g1 t1 ty1 cs1 (0, 0) d1 h1 u1 k1 i1, run_loadVar_row w g2 t2 ty2 cs2 (0, 0) d2 h2 u2 k2 i2]
set_option maxRecDepth 100000 in
set_option maxHeartbeats 8000000 in
theorem readText_any (N : Nat) (s : ByteArray) (l : List Nat) (hs : Str s l) (hl : l.length ≤ 16384) (hN : stp l N = true) (hNl : N ≤ l.length) (hNb : ∀ j, j < N → stp l j = false) (w : World) (hT : Tab w) :
    Calls Tryz.prog 15 #[.string s] w (TxPost l N w) := by
    have AL := Lib.hid (fun W hW => All_any N s l hs hl hN hNl hNb W hW)
    have HT := Lib.hid hT
    have FN : RowKit.Hid (ow l N ≠ none → Toks (tkn l) N ∧ ∀ j, j ≤ N → ow l j = some (tkn l j)) := Lib.hid (fun ho => toks_of hN hNb ho)
    have LT := Lib.hid hs.lt
    clear hT hN hNb hs
    go_enter Tryz.func15, Tryz.ntmps15
    go_upto_region 1 with fail
    obtain ⟨w0, e0⟩ : ∃ w0, w0 = (w.alloc (.cells z5 36)).alloc (.cells #[.int .i64 0, .int .i64 0] 38) := ⟨_, rfl⟩
    have hs0 : w0.heap.size = w.heap.size + 2 := by rw [e0]; simp
    have KR : RowKit.Hid (Blk w0 w.heap.size z5 36) := Lib.hid (by rw [e0]; exact (Blk.new w _ _).alloc _)
    have KD : RowKit.Hid (Blk w0 (w.heap.size + 1) #[.int .i64 0, .int .i64 0] 38) := Lib.hid (by rw [e0]; exact blk_new' _ _ _ _ (by simp))
    have BB : RowKit.Hid (Below w.heap.size w w0) := Lib.hid (by rw [e0]; exact bnext (bnext (Below.refl _ _) _) _)
    have HT0 : RowKit.Hid (Tab w0) := Lib.hid (HT.out.below BB.out)
    rw [← e0]
    clear e0
    go_upto_region 2 with (go_at_call 39; (with_reducible refine (AL.out w0 HT0.out).mono ?_); rintro e w1 ⟨hb1, hcase⟩; have B1_ := Lib.hid hb1; clear hb1; rcases hcase with ⟨ho, rfl⟩ | ⟨v, ho, rfl, hrow⟩)
    · have KR1 := Lib.hid (KR.out.below' B1_.out)
      have KD1 := Lib.hid (KD.out.below' B1_.out)
      go_wp2_with (first | (refine wpList_store_whole rfl 36 (.tmp 2) (.tmp 18) rfl w.heap.size z5 rfl rfl 36 _ KR1.out (by kernel_rfl) (by rfl) (by simp [Value.oneCell']) ?_; intro w2 hk2 hg2; have K2 := Lib.hid hk2; have G2 := Lib.hid hg2; have D2 := Lib.hid (KD1.out.grown hg2 (by simp)); clear hk2 hg2) | (refine wpList_store_whole rfl 38 (.tmp 3) (.tmp 21) rfl (w.heap.size + 1) #[.int .i64 7, .int .i64 (beg l N : Nat)] rfl rfl 38 _ D2.out (by kernel_rfl) (by rfl) (by simp [Value.oneCell']) ?_; intro w3 hk3 hg3; have K3 := Lib.hid hk3; have G3 := Lib.hid hg3; have R3 := Lib.hid (K2.out.grown hg3 (by simp)); clear hk3 hg3))
      have OH := Lib.hid ho
      refine bodyPost_ret (results_cell2 rfl _ _ w.heap.size 36 _ _ (w.heap.size + 1) 38 _ _ rfl rfl R3.out K3.out Tryz.underlying36 Tryz.underlying38 rfl rfl (by kernel_rfl) (by kernel_rfl)) rfl ⟨?_, .inl ⟨OH.out, rfl⟩⟩
      exact below_new (below_new (BB.out.trans (B1_.out.mono (by omega))) (by have := B1_.out.size; omega) G2.out (Nat.le_refl _)) (by have := B1_.out.size; have := G2.out.size; omega) G3.out (by omega)
    · obtain ⟨A, cap, rfl, _, hcap⟩ := own_slice hrow
      obtain ⟨g, rfl, hgl⟩ : ∃ g, A = some ⟨g, 0, none⟩ ∧ g < w1.heap.size := by
        rcases hrow.2 with ⟨h1, h2⟩ | ⟨g, cap, cur, h1, _, hh, _⟩
        · omega
        · simp only [Value.slice.injEq] at h1
          exact ⟨g, h1.1, (Array.getElem?_eq_some_iff.1 hh).1⟩
      have FO := Lib.hid (FN.out ho)
      have OH := Lib.hid ho
      have RW := Lib.hid hrow
      have S1 : RowKit.Hid (w0.heap.size ≤ w1.heap.size) := Lib.hid B1_.out.size
      clear ho hrow
      go_upto_region 5 with (first | (go_at_call 40; (with_reducible refine (aheadM_any _).mono ?_); rintro e w2 ⟨rfl, hm2, hb2⟩; have M2 := Lib.hid hm2; have B2_ := Lib.hid hb2; clear hm2 hb2) | (go_at_call 41; (with_reducible refine (behindM_any _).mono ?_); rintro e w3 ⟨rfl, hm3, hb3⟩; have M3 := Lib.hid hm3; have B3_ := Lib.hid hb3; clear hm3 hb3))
      have S2 : RowKit.Hid (w1.heap.size < w2.heap.size ∧ w2.heap.size < w3.heap.size) := Lib.hid ⟨M2.out.lt, M3.out.lt⟩
      obtain ⟨c, ec⟩ : ∃ c : Cx, c = ⟨l, N, w3.heap.size, g, w1.heap.size, w2.heap.size, cap⟩ := ⟨_, rfl⟩
      obtain ⟨w4, e4⟩ : ∃ w4, w4 = w3.alloc (.cells (c.cells 0 0 0 0) 89) := ⟨_, rfl⟩
      have hb : c.b = w3.heap.size := by rw [ec]
      have hcl : c.l = l := by rw [ec]
      have hcN : c.N = N := by rw [ec]
      have CF : RowKit.Hid c.Fine := Lib.hid (by
        have := S2.out
        subst ec
        exact ⟨LT.out, hl, FO.out.1, hNl, by show g < w3.heap.size; omega, by show w1.heap.size < w3.heap.size; omega, this.2, hcap, FO.out.2⟩)
      have RD : RowKit.Hid (RdR c 0 0 w4) := Lib.hid (by
        have hs := S2.out
        have b13 : Below w1.heap.size w1 w3 := B2_.out.trans (B3_.out.mono (Nat.le_of_lt hs.1))
        have b14 : Below w1.heap.size w1 w4 := by rw [e4]; exact b13.alloc (Nat.le_of_lt (Nat.lt_trans hs.1 hs.2)) _
        have r := rowK RW.out FO.out.2
        subst ec
        refine ⟨by rw [e4]; exact Blk.new w3 _ _, Nat.lt_of_lt_of_le hgl b14.size, fun i hi j hj => ?_, ?_, ?_⟩
        · rw [← r i hi j hj]
          have := b14.block g hgl
          simp only [World.cell?, this]
        · refine M2.out.kept ?_
          rw [e4]
          exact (Below.heap_alloc _ _ _ (by show w1.heap.size < _; omega)).trans (B3_.out.block _ hs.1)
        · refine M3.out.kept ?_
          rw [e4]
          exact Below.heap_alloc _ _ _ hs.2)
      have GA := Lib.hid (grammar_any c CF.out w4 RD.out)
      have S4 : RowKit.Hid (w4.heap.size = w3.heap.size + 1) := Lib.hid (by rw [e4]; simp)
      have B4 : RowKit.Hid (Below w0.heap.size w0 w4) := Lib.hid (by
        have hs := S2.out
        have := S1.out
        rw [e4]
        exact ((B1_.out.trans (B2_.out.mono this)).trans (B3_.out.mono (by omega))).alloc (by omega) _)
      have hcells : #[.slice (some ⟨g, 0, none⟩) (N + 1) cap, .int .i64 0, .map (some w1.heap.size), .map (some w2.heap.size), .int .i64 0, .int .i64 0, .int .i64 0] = c.cells 0 0 0 0 := by rw [ec]; rfl
      rw [hcells, ← e4, ← hb]
      have HBE := Lib.hid hb
      have HCL := Lib.hid (And.intro hcl hcN)
      clear e4 hcells
      rw [hcl, hcN] at GA
      clear hb hcl hcN ec
      have KR4 := Lib.hid (KR.out.below' B4.out)
      have KD4 := Lib.hid (KD.out.below' B4.out)
      have CB : RowKit.Hid (w.heap.size + 2 ≤ c.b) := Lib.hid (by have := S1.out; have := S2.out; have := HBE.out; omega)
      have GA2 : RowKit.Hid (Calls Tryz.prog 42 #[.pointer (some ⟨c.b, 0, none⟩)] w4 (GPost c (trd l N) w4)) := GA
      clear GA
      cases hr : trd l N with
      | no er j =>
        rw [hr] at GA2
        have HR := Lib.hid hr
        clear hr
        go_upto_region 7 with (go_at_call 42; (with_reducible refine GA2.out.mono ?_); rintro e w5 ⟨hg, rfl, k5, d5, hk⟩; have G5 := Lib.hid hg; have r5 := hk.cell 5; have r6 := hk.cell 6; simp only [Cx.cells, List.getElem?_toArray, List.getElem?_cons_zero, List.getElem?_cons_succ] at r5 r6; clear hg hk)
        have KR5 := Lib.hid (KR4.out.grown G5.out (fun e => by have := CB.out; have := Option.some.inj e; omega))
        have KD5 := Lib.hid (KD4.out.grown G5.out (fun e => by have := CB.out; have := Option.some.inj e; omega))
        have n1 : ¬ c.b = w.heap.size := by have := CB.out; omega
        have n2 : ¬ c.b = w.heap.size + 1 := by have := CB.out; omega
        have t0 := KR5.out.cell 0
        have t1 := KR5.out.cell 1
        have t2 := KR5.out.cell 2
        have t3 := KR5.out.cell 3
        have t4 := KR5.out.cell 4
        have d0 := KD5.out.cell 0
        have d1 := KD5.out.cell 1
        simp only [List.getElem?_toArray, List.getElem?_cons_zero, List.getElem?_cons_succ] at t0 t1 t2 t3 t4 d0 d1
        have f0 := KR5.out.frozen 0
        have f1 := KR5.out.frozen 1
        have f2 := KR5.out.frozen 2
        have f3 := KR5.out.frozen 3
        have f4 := KR5.out.frozen 4
        have e0 := KD5.out.frozen 0
        have e1 := KD5.out.frozen 1
        rw [HCL.out.1] at r6
        have F5 := Lib.hid (five_set KR5.out (.slice none 0 0) (.slice none 0 0) (.slice none 0 0) (.slice none 0 0) (.slice none 0 0))
        have D5 := Lib.hid (KD5.out.grown F5.out.2 (by simp))
        have E5 := Lib.hid (two_set D5.out (.int .i64 er) (.int .i64 (beg l j : Nat)))
        have TT1 : RowKit.Hid ((((((w5.setCell ⟨w.heap.size, 0, none⟩ (.slice none 0 0)).setCell ⟨w.heap.size, 1, none⟩ (.slice none 0 0)).setCell ⟨w.heap.size, 2, none⟩ (.slice none 0 0)).setCell ⟨w.heap.size, 3, none⟩ (.slice none 0 0)).setCell ⟨w.heap.size, 4, none⟩ (.slice none 0 0)).drew.cell? ⟨c.b, 5, none⟩ = some (.int .i64 er) ∧ (((((w5.setCell ⟨w.heap.size, 0, none⟩ (.slice none 0 0)).setCell ⟨w.heap.size, 1, none⟩ (.slice none 0 0)).setCell ⟨w.heap.size, 2, none⟩ (.slice none 0 0)).setCell ⟨w.heap.size, 3, none⟩ (.slice none 0 0)).setCell ⟨w.heap.size, 4, none⟩ (.slice none 0 0)).drew.cell? ⟨c.b, 6, none⟩ = some (.int .i64 (beg l j : Nat))) := Lib.hid ⟨keep_rowd F5.out.2 r5 n1, keep_rowd F5.out.2 r6 n1⟩
        have TT2 : RowKit.Hid ((((((((w5.setCell ⟨w.heap.size, 0, none⟩ (.slice none 0 0)).setCell ⟨w.heap.size, 1, none⟩ (.slice none 0 0)).setCell ⟨w.heap.size, 2, none⟩ (.slice none 0 0)).setCell ⟨w.heap.size, 3, none⟩ (.slice none 0 0)).setCell ⟨w.heap.size, 4, none⟩ (.slice none 0 0)).setCell ⟨w.heap.size + 1, 0, none⟩ (.int .i64 er)).setCell ⟨w.heap.size + 1, 1, none⟩ (.int .i64 (beg l j : Nat))).drew.cell? ⟨c.b, 5, none⟩ = some (.int .i64 er) ∧ (((((((w5.setCell ⟨w.heap.size, 0, none⟩ (.slice none 0 0)).setCell ⟨w.heap.size, 1, none⟩ (.slice none 0 0)).setCell ⟨w.heap.size, 2, none⟩ (.slice none 0 0)).setCell ⟨w.heap.size, 3, none⟩ (.slice none 0 0)).setCell ⟨w.heap.size, 4, none⟩ (.slice none 0 0)).setCell ⟨w.heap.size + 1, 0, none⟩ (.int .i64 er)).setCell ⟨w.heap.size + 1, 1, none⟩ (.int .i64 (beg l j : Nat))).drew.cell? ⟨c.b, 6, none⟩ = some (.int .i64 (beg l j : Nat))) := Lib.hid ⟨keep_rowd E5.out.2 (keep_row F5.out.2 r5 n1) n2, keep_rowd E5.out.2 (keep_row F5.out.2 r6 n1) n2⟩
        go_region_held_law (fun W' => W'.cell? ⟨c.b, 5, none⟩ = some (.int .i64 er) ∧ W'.cell? ⟨c.b, 6, none⟩ = some (.int .i64 (beg l j : Nat))) (first | with_reducible exact TT1.out | with_reducible exact TT2.out | (go_keep; done)) (fail)
        all_goals go_wp2_with fail
        have K7 : RowKit.Hid (Blk (((((((w5.setCell ⟨w.heap.size, 0, none⟩ (.slice none 0 0)).setCell ⟨w.heap.size, 1, none⟩ (.slice none 0 0)).setCell ⟨w.heap.size, 2, none⟩ (.slice none 0 0)).setCell ⟨w.heap.size, 3, none⟩ (.slice none 0 0)).setCell ⟨w.heap.size, 4, none⟩ (.slice none 0 0)).setCell ⟨w.heap.size + 1, 0, none⟩ (.int .i64 er)).setCell ⟨w.heap.size + 1, 1, none⟩ (.int .i64 (beg l j : Nat))) w.heap.size #[.slice none 0 0, .slice none 0 0, .slice none 0 0, .slice none 0 0, .slice none 0 0] 36) := Lib.hid (F5.out.1.grown E5.out.2 (by simp))
        have K8 := Lib.hid E5.out.1
        have b5 : Below w.heap.size w w5 := below_new (BB.out.trans (B4.out.mono (by have := S1.out; omega))) (by have := S4.out; have := CB.out; have := HBE.out; omega) G5.out (by have := CB.out; omega)
        have hz5 : w.heap.size + 2 ≤ w5.heap.size := by have := G5.out.size; have := S4.out; have := CB.out; have := HBE.out; omega
        have b7 := Lib.hid (below_new (below_new b5 (by omega) F5.out.2 (Nat.le_refl _)) (by have := F5.out.2.size; omega) E5.out.2 (by omega))
        obtain ⟨X7, e7⟩ : ∃ X, X = (((((((w5.setCell ⟨w.heap.size, 0, none⟩ (.slice none 0 0)).setCell ⟨w.heap.size, 1, none⟩ (.slice none 0 0)).setCell ⟨w.heap.size, 2, none⟩ (.slice none 0 0)).setCell ⟨w.heap.size, 3, none⟩ (.slice none 0 0)).setCell ⟨w.heap.size, 4, none⟩ (.slice none 0 0)).setCell ⟨w.heap.size + 1, 0, none⟩ (.int .i64 er)).setCell ⟨w.heap.size + 1, 1, none⟩ (.int .i64 (beg l j : Nat))) := ⟨_, rfl⟩
        rw [← e7] at K7 K8 b7 ⊢
        clear e7 TT1 TT2 F5 D5 E5
        have k7 : Blk X7.drew w.heap.size #[.slice none 0 0, .slice none 0 0, .slice none 0 0, .slice none 0 0, .slice none 0 0] 36 := K7.out
        have k8 : Blk X7.drew (w.heap.size + 1) #[.int .i64 er, .int .i64 (beg l j : Nat)] 38 := K8.out
        exact bodyPost_ret (results_cell2 rfl _ _ w.heap.size 36 _ _ (w.heap.size + 1) 38 _ _ rfl rfl k7 k8 Tryz.underlying36 Tryz.underlying38 rfl rfl (by kernel_rfl) (by kernel_rfl)) rfl ⟨bdrew1 b7.out, .inr (.inl ⟨OH.out, er, j, HR.out, rfl⟩)⟩
      | ok us j =>
        rw [hr] at GA2
        have HR := Lib.hid hr
        clear hr
        go_upto_region 8 with (go_at_call 42; (with_reducible refine GA2.out.mono ?_); rintro e w5 ⟨hg, v, qs, rfl, ho, hq, hF⟩; have G5 := Lib.hid hg; have O5 := Lib.hid ho; have Q5 := Lib.hid hq; have F5 := Lib.hid hF; clear hg ho hq hF)
        have KR5 := Lib.hid (KR4.out.grown G5.out (fun e => by have := CB.out; have := Option.some.inj e; omega))
        have KD5 := Lib.hid (KD4.out.grown G5.out (fun e => by have := CB.out; have := Option.some.inj e; omega))
        have ND : (bod us).nodes ≤ 1000000 := by
          have h1 := HR.out
          have := (ruls_nd CF.out (N + 1) 0 us j (Nat.zero_le _) (by rw [HCL.out.1, HCL.out.2]; exact h1)).2
          rw [HCL.out.2] at this
          omega
        have LA := Lib.hid (laid_any c.l w5 _ _ us qs v O5.out Q5.out F5.out ND)
        rw [HCL.out.1] at LA
        have S5 : RowKit.Hid (w4.heap.size ≤ w5.heap.size) := Lib.hid G5.out.size
        go_wp2_with (first | (go_at_call 43; (with_reducible refine LA.out.mono ?_); rintro e w6 ⟨vr, vrp, vn, vp, vm, NL, rfl, hb6, hT6, hs6⟩; have B6 := Lib.hid hb6; have T6 := Lib.hid hT6; have HS6 := Lib.hid hs6; have KR6 := Lib.hid (KR5.out.below' hb6); have KD6 := Lib.hid (KD5.out.below' hb6); clear hb6 hT6 hs6) | (refine wpList_store_whole rfl 36 (.tmp 2) (.tmp 41) rfl w.heap.size #[vr, vn, vrp, vp, vm] rfl rfl 36 _ KR6.out (by kernel_rfl) (by rfl) (by exact ones5 T6.out) ?_; intro w7 hk7 hg7; have K7 := Lib.hid hk7; have G7 := Lib.hid hg7; have D7 := Lib.hid (KD6.out.grown hg7 (by simp)); clear hk7 hg7) | (refine wpList_store_whole rfl 38 (.tmp 3) (.tmp 42) rfl (w.heap.size + 1) #[.int .i64 0, .int .i64 0] rfl rfl 38 _ D7.out (by kernel_rfl) (by rfl) (by simp [Value.oneCell']) ?_; intro w8 hk8 hg8; have K8 := Lib.hid hk8; have G8 := Lib.hid hg8; have R8 := Lib.hid (K7.out.grown hg8 (by simp)); clear hk8 hg8))
        have s5 := S5.out
        have s4 := S4.out
        have cb := CB.out
        have hbe := HBE.out
        refine bodyPost_ret (results_cell2 rfl _ _ w.heap.size 36 _ _ (w.heap.size + 1) 38 _ _ rfl rfl R8.out K8.out Tryz.underlying36 Tryz.underlying38 rfl rfl (by kernel_rfl) (by kernel_rfl)) rfl ⟨?_, .inr (.inr ⟨OH.out, us, j, _, HR.out, rfl, vr, vrp, vn, vp, vm, NL, w5.heap.size + 1, rfl, by omega, ?_, HS6.out⟩)⟩
        · have b5 : Below w.heap.size w w5 := below_new (BB.out.trans (B4.out.mono (by omega))) (by omega) G5.out (by omega)
          exact below_new (below_new (b5.trans (B6.out.mono (by omega))) (by have := B6.out.size; omega) G7.out (Nat.le_refl _)) (by have := B6.out.size; have := G7.out.size; omega) G8.out (by omega)
        · exact (T6.out.far G7.out (by omega)).far G8.out (by omega)
end Go.Proofs.YtfghfnpiaccfaaaGreatDoor

/- No arena: two of them, nil and an empty one, asked for all. -/
import Derived.Test.YtfcacgiejoeneaaA7
import Derived.Test.YtfcacgiejoeneaaRq
import Derived.LoopN
set_option linter.unusedSimpArgs false
set_option linter.unusedVariables false
namespace Go.Proofs.Ytfcacgiejoeneaa
open Go Go.RowKit
attribute [local go_sem] Oper.semAt_some
theorem wpIn_range_zero {P : Program} {n : Nat} {g : Operand} {ps : Array Tmp} {body : Code} {Q : Exit → Act → World → Prop} {a : Act} {w : World} (h1 : 1 ≤ n) {gf : Nat} {lb : Array Value}
    (hg : a.eval g = .func (.func gf) #[] lb) (eg : ∀ args w, (callFunc gf args).run P w = .ok (.enter gf args) w) {encs : Nat → Array Value} {G : Nat → Prop} {w0 : World}
    (hseq : SeqN (n - 1) P gf lb encs 0 G w0) (hb0 : Below w0.heap.size w0 w) (hps : ∀ k, (encs k).size = ps.size) (hG : ∀ k, G k → k < w.heap.size)
    (I : World → Prop) (hI : ∀ A A', I A → Below w.heap.size A A' → I A') (h0 : I w)
    (hdone : ∀ (D : Nat) (W : World), w.heap.size ≤ D → I W → W.heap[D]? = some (.deferred (some [])) → Q .normal { a with defers := { target := .collected D, args := #[] } :: a.defers } W) :
    (Code.rangeFunc g ps Code.skip body).wpIn Fence.wide n P Q a w :=
  wpIn_rangeFunc_n h1 hg eg hseq hb0 hps hG (fun _ W => I W) (fun _ _ _ => False) (fun _ A A' h hb => hI A A' h hb) (fun _ _ _ _ h _ => h) h0
    (fun k => { tmps := (ps.zip (encs k)).foldl (fun t (p, v) => t.setIfInBounds p v) a.tmps, defers := [] })
    (fun l k W K hK => wpIn_skip hK) (fun l k W _ _ hk => absurd hk (Nat.not_lt_zero k)) hdone (fun D c k W _ _ h _ => h.elim)
theorem res22 {tmps : Array Value} {w : World} {b : Nat} {x : Value} (hp : tmps.getD 0 undef = .pointer (some ⟨b, 0, none⟩)) (c1 : w.cell? ⟨b, 0, none⟩ = some x) : (results Try.f22 tmps).run Try.prog w = .ok x w := by
  have hp' : tmps[0]?.getD undef = .pointer (some ⟨b, 0, none⟩) := by simpa using hp
  simp [results, Try.results22, hp', go_sem, c1]
theorem Blk.one_set {w : World} {b : Nat} {v u : Value} {T : TypeId} (h : Blk w b #[v] T) : Blk (w.setCell ⟨b, 0, none⟩ u) b #[u] T := heap_setCell_same w b 0 #[v] T u h
theorem put_below {B b : Nat} {w0 w : World} (h : Below B w0 w) (hb : B ≤ b) (o : Obj) : Below B w0 (w.putObj b o) := h.trans (below_putObj w b B o hb)
theorem fin22 {w W : World} {tmps : Array Value} {D D2 rb : Nat} {x : Value} (hp : tmps.getD 0 undef = .pointer (some ⟨rb, 0, none⟩)) (hD : W.heap[D]? = some (.deferred (some []))) (hD2 : W.heap[D2]? = some (.deferred (some []))) (hne : D ≠ D2) (hr : Blk W rb #[x] 4) (hb : Below w.heap.size w W) (h1 : w.heap.size ≤ D) (h2 : w.heap.size ≤ D2) (h3 : w.heap.size ≤ rb) :
    bodyPostM Fence.wide 12 Try.prog Try.f22 (fun e w' => e = .returned (.bool true) ∧ Below w.heap.size w w') .ret { tmps := tmps, defers := [{ target := .collected D2, args := #[] }, { target := .collected D, args := #[] }] } (W.setCell ⟨rb, 0, none⟩ (.bool true)) := by
  have k1 : Blk (W.setCell ⟨rb, 0, none⟩ (.bool true)) rb #[.bool true] 4 := hr.one_set
  have n1 : ∀ d, W.heap[d]? = some (.deferred (some [])) → d ≠ rb := fun d hd e => by
    subst e
    have h' : W.heap[d]? = some (.cells #[x] 4 (0, 0)) := hr
    rw [hd] at h'
    cases h'
  have e1 : (W.setCell ⟨rb, 0, none⟩ (.bool true)).heap[D]? = some (.deferred (some [])) := (heap_setCell_other W ⟨rb, 0, none⟩ D _ (n1 D hD)).trans hD
  have e2 : (W.setCell ⟨rb, 0, none⟩ (.bool true)).heap[D2]? = some (.deferred (some [])) := (heap_setCell_other W ⟨rb, 0, none⟩ D2 _ (n1 D2 hD2)).trans hD2
  have low : Below w.heap.size w (W.setCell ⟨rb, 0, none⟩ (.bool true)) := hb.setCell (p := ⟨rb, 0, none⟩) h3 _
  refine ⟨by simp, .inl ⟨_, _, rfl, run_takeDeferred e2, ⟨by simp, .inl ⟨_, _, rfl, run_takeDeferred ((World.putObj_heap_other hne).trans e1), ?_⟩⟩⟩⟩
  refine ⟨_, res22 hp ?_, rfl, put_below (put_below low h2 _) h1 _⟩
  have q : Blk (((W.setCell ⟨rb, 0, none⟩ (.bool true)).putObj D2 (.deferred none)).putObj D (.deferred none)) rb #[.bool true] 4 := (World.putObj_heap_other (fun e => n1 D hD e.symm)).trans ((World.putObj_heap_other (fun e => n1 D2 hD2 e.symm)).trans k1)
  exact q.cell 0
set_option maxRecDepth 100000 in
set_option maxHeartbeats 4000000 in
theorem none_any (w : World) : Calls Try.prog 22 #[] w fun e w' => e = .returned (.bool true) ∧ Below w.heap.size w w' := by
  refine (callsIn_wide (n := 12)).1 ?_
  refine callsIn_of_wp_marks Try.func22 rfl trivial ?_ rfl
  simp only [Try.ntmps22, List.size_toArray, List.length_cons, List.length_nil, Nat.reduceAdd, Nat.reduceSub, Array.replicate_succ, Array.replicate_zero, List.push_toArray, List.append_toArray, List.nil_append, List.cons_append]
  refine wpIn_wide.2 ?_
  go_wp2_with fail
  obtain ⟨wl, ewl⟩ : ∃ u, u = ((w.alloc (.cells #[.bool false] 4)).alloc (.cells #[.slice none 0 0, .int .i64 0, .int .i64 0, .pointer none] 61)).alloc (.cells #[.pointer none, .pointer (some ⟨w.heap.size + 1, 0, none⟩)] 25) := ⟨_, rfl⟩
  obtain ⟨z, ez⟩ : ∃ z, z = w.heap.size := ⟨_, rfl⟩
  rw [← ez] at ewl
  have hbl : Below w.heap.size w wl := by rw [ewl]; exact ((B1 _ _).alloc (by simp) _).alloc (by simp; omega) _
  have k0 : Blk wl z #[.bool false] 4 := by rw [ewl, ez]; exact ((Blk.new _ _ _).alloc _).alloc _
  have k1 : Blk wl (z + 1) #[.slice none 0 0, .int .i64 0, .int .i64 0, .pointer none] 61 := by
    rw [ewl, ez]; have := Blk.new (w.alloc (.cells #[.bool false] 4)) #[.slice none 0 0, .int .i64 0, .int .i64 0, .pointer none] 61; rw [World.size_alloc] at this; exact this.alloc _
  have k2 : Blk wl (z + 1 + 1) #[.pointer none, .pointer (some ⟨z + 1, 0, none⟩)] 25 := by
    rw [ewl, ez]; have := Blk.new ((w.alloc (.cells #[.bool false] 4)).alloc (.cells #[.slice none 0 0, .int .i64 0, .int .i64 0, .pointer none] 61)) #[.pointer none, .pointer (some ⟨w.heap.size + 1, 0, none⟩)] 25; rw [World.size_alloc, World.size_alloc] at this; exact this
  have BX : RowKit.Hid (Below wl.heap.size wl wl) := Lib.hid (Below.refl _ _)
  have NN : RowKit.Hid (∀ W : World, Below wl.heap.size wl W → Noa W none) := Lib.hid (fun W _ => .inl rfl)
  have NP : RowKit.Hid (∀ W : World, Below wl.heap.size wl W → Noa W (some ⟨z + 1, 0, none⟩)) := Lib.hid (fun W hb => .inr ⟨z + 1, rfl, k1.below' hb⟩)
  have CN := Lib.hid (fun (W : World) (hb : Below wl.heap.size wl W) => (show W.cell? ⟨z + 1 + 1, 0, none⟩ = some (.pointer none) from (k2.below' hb).cell 0))
  have CP := Lib.hid (fun (W : World) (hb : Below wl.heap.size wl W) => (show W.cell? ⟨z + 1 + 1, 1, none⟩ = some (.pointer (some ⟨z + 1, 0, none⟩)) from (k2.below' hb).cell 1))
  have K0 := Lib.hid (fun (W : World) (hb : Below wl.heap.size wl W) => k0.below' hb)
  have HB := Lib.hid hbl
  have ZZ := Lib.hid (And.intro ez k2.lt)
  rw [← ez, ← ewl]
  clear ewl ez hbl k0 k1 k2
  refine wp_loop_rounds 3 ?_

  -- round 0

  rw [rounds_succ]
  have cc0 := CN.out _ BX.out
  go_wp2_with (first
    | (go_at_call 12; (with_reducible refine (noa_put none _ _ _ _ (NN.out _ ((BX.out).alloc (BX.out).size _))).mono ?_); rintro e w1 ⟨rfl, rfl⟩; have HB1 := Lib.hid ((BX.out).alloc (BX.out).size (.cells #[.int .i64 1] 3)); have cc := CN.out _ HB1.out)
    | (go_at_call 27; (with_reducible refine (noa_at none _ _ (NN.out _ HB1.out)).mono ?_); rintro e w2 ⟨rfl, hb⟩; have HB2 := Lib.hid (HB1.out.trans (hb.mono HB1.out.size)); clear hb; have cc2 := CN.out _ HB2.out)
    | (go_at_call 21; (with_reducible refine (noa_all none _ (NN.out _ HB2.out)).mono ?_); rintro e w3 ⟨cb, b, rfl, hb, hcb, hx, hz1, hz2⟩; have HB3 := Lib.hid (HB2.out.trans (hb.mono HB2.out.size)); have HX := Lib.hid (And.intro hcb hx); clear hb hcb hx; have cc3 := CN.out _ HB3.out))
  refine (wpIn_wide (n := 12)).1 ?_
  refine wpIn_range_zero (n := 12) (by omega) (gf := 42) (lb := #[.pointer (some ⟨cb, 0, none⟩)]) rfl (enters_of Try.func42 (by kernel_rfl) rfl)
    (all_seq 11 (by omega) cb b (.slice none 0 0) [] (by decide) (fun k => k < w3.heap.size) HX.out.1.lt HX.out.2.lt (fun k e => by cases e) w3 HX.out.1 HX.out.2)
    (Below.refl _ _) (fun _ => rfl) (fun k h => h)
    (fun W => Below wl.heap.size wl W) (fun A A' h hb => h.trans (hb.mono HB3.out.size)) HB3.out ?_
  rintro D W hD hF hK

  have HF0 := Lib.hid hF
  have DD0 := Lib.hid (And.intro hD hK)
  have dc := fun (e : Ext W) => CN.out e.val (hF.trans (e.grown.mono hF.size))
  have NX : RowKit.Hid (∀ e : Ext W, Noa e.val none) := Lib.hid (fun e => NN.out e.val (hF.trans (e.grown.mono hF.size)))
  clear hF hD hK cc0 cc cc2 cc3
  go_wp2_with fail
  refine wp_region_ext (by kernel_rfl) (by kernel_rfl) ?_
  repeat (first | go_big_quiet_step (first | (go_at_call 16; with_reducible exact Calls.ext_of ((noa_set none _ _ _ (NX.out _)).mono fun e w' h => ⟨h.1, h.2 ▸ Below.refl _ _⟩)) | (go_at_call 18; with_reducible exact Calls.ext_of ((noa_back none _ _ (NX.out _)).mono fun e w' h => ⟨h.1, h.2 ▸ Below.refl _ _⟩)) | (go_at_call 24; with_reducible exact Calls.ext_of (noa_len none _ (NX.out _))) | (go_at_call 25; with_reducible exact Calls.ext_of (noa_left none _ (NX.out _))) | (go_at_call 23; with_reducible exact Calls.ext_of (noa_mark none _ (NX.out _))) | (go_at_call 26; with_reducible exact Calls.ext_of (noa_peak none _ (NX.out _)))))
  refine wpQuiet_nil ?_
  intro wd hw'
  obtain ⟨⟨wd', hb9⟩, e9⟩ := hw'
  obtain rfl : wd = wd' := e9

  have BY : RowKit.Hid (Below wl.heap.size wl wd) := Lib.hid (HF0.out.trans (hb9.mono HF0.out.size))
  have DE : RowKit.Hid (wd.heap[D]? = some (.deferred (some []))) := Lib.hid ((hb9.block D (Array.getElem?_eq_some_iff.1 DD0.out.2).1).trans DD0.out.2)
  have DZ : RowKit.Hid (wl.heap.size ≤ D ∧ D < wd.heap.size) := Lib.hid ⟨Nat.le_trans HB3.out.size DD0.out.1, Nat.lt_of_lt_of_le (Array.getElem?_eq_some_iff.1 DD0.out.2).1 hb9.size⟩
  have NQ : RowKit.Hid (∀ W : World, Below wd.heap.size wd W → Noa W (some ⟨z + 1, 0, none⟩)) := Lib.hid (fun W hb => NP.out W (BY.out.trans (hb.mono BY.out.size)))
  have CQ : RowKit.Hid (∀ W : World, Below wd.heap.size wd W → W.cell? ⟨z + 1 + 1, 1, none⟩ = some (.pointer (some ⟨z + 1, 0, none⟩))) := Lib.hid (fun W hb => CP.out W (BY.out.trans (hb.mono BY.out.size)))
  have BR : RowKit.Hid (Below wd.heap.size wd wd) := Lib.hid (Below.refl _ _)
  clear hb9 dc NX HB1 HB2 HB3 HX HF0 DD0 BX
  go_wp2_with fail

  -- round 1

  rw [rounds_succ]
  have cc0 := CQ.out _ BR.out
  go_wp2_with (first
    | (go_at_call 12; (with_reducible refine (noa_put (some ⟨z + 1, 0, none⟩) _ _ _ _ (NQ.out _ ((BR.out).alloc (BR.out).size _))).mono ?_); rintro e w1 ⟨rfl, rfl⟩; have HB1 := Lib.hid ((BR.out).alloc (BR.out).size (.cells #[.int .i64 1] 3)); have cc := CQ.out _ HB1.out)
    | (go_at_call 27; (with_reducible refine (noa_at (some ⟨z + 1, 0, none⟩) _ _ (NQ.out _ HB1.out)).mono ?_); rintro e w2 ⟨rfl, hb⟩; have HB2 := Lib.hid (HB1.out.trans (hb.mono HB1.out.size)); clear hb; have cc2 := CQ.out _ HB2.out)
    | (go_at_call 21; (with_reducible refine (noa_all (some ⟨z + 1, 0, none⟩) _ (NQ.out _ HB2.out)).mono ?_); rintro e w3 ⟨cb, b, rfl, hb, hcb, hx, hz1, hz2⟩; have HB3 := Lib.hid (HB2.out.trans (hb.mono HB2.out.size)); have HX := Lib.hid (And.intro hcb hx); clear hb hcb hx; have cc3 := CQ.out _ HB3.out))
  refine (wpIn_wide (n := 12)).1 ?_
  refine wpIn_range_zero (n := 12) (by omega) (gf := 42) (lb := #[.pointer (some ⟨cb, 0, none⟩)]) rfl (enters_of Try.func42 (by kernel_rfl) rfl)
    (all_seq 11 (by omega) cb b (.slice none 0 0) [] (by decide) (fun k => k < w3.heap.size) HX.out.1.lt HX.out.2.lt (fun k e => by cases e) w3 HX.out.1 HX.out.2)
    (Below.refl _ _) (fun _ => rfl) (fun k h => h)
    (fun W => Below wd.heap.size wd W) (fun A A' h hb => h.trans (hb.mono HB3.out.size)) HB3.out ?_
  rintro D2 W hD hF hK

  have HF0 := Lib.hid hF
  have DD0 := Lib.hid (And.intro hD hK)
  have dc := fun (e : Ext W) => CQ.out e.val (hF.trans (e.grown.mono hF.size))
  have NX : RowKit.Hid (∀ e : Ext W, Noa e.val (some ⟨z + 1, 0, none⟩)) := Lib.hid (fun e => NQ.out e.val (hF.trans (e.grown.mono hF.size)))
  clear hF hD hK cc0 cc cc2 cc3
  go_wp2_with fail
  refine wp_region_ext (by kernel_rfl) (by kernel_rfl) ?_
  repeat (first | go_big_quiet_step (first | (go_at_call 16; with_reducible exact Calls.ext_of ((noa_set (some ⟨z + 1, 0, none⟩) _ _ _ (NX.out _)).mono fun e w' h => ⟨h.1, h.2 ▸ Below.refl _ _⟩)) | (go_at_call 18; with_reducible exact Calls.ext_of ((noa_back (some ⟨z + 1, 0, none⟩) _ _ (NX.out _)).mono fun e w' h => ⟨h.1, h.2 ▸ Below.refl _ _⟩)) | (go_at_call 24; with_reducible exact Calls.ext_of (noa_len (some ⟨z + 1, 0, none⟩) _ (NX.out _))) | (go_at_call 25; with_reducible exact Calls.ext_of (noa_left (some ⟨z + 1, 0, none⟩) _ (NX.out _))) | (go_at_call 23; with_reducible exact Calls.ext_of (noa_mark (some ⟨z + 1, 0, none⟩) _ (NX.out _))) | (go_at_call 26; with_reducible exact Calls.ext_of (noa_peak (some ⟨z + 1, 0, none⟩) _ (NX.out _)))))
  refine wpQuiet_nil ?_
  intro wf hw'
  obtain ⟨⟨wd', hb9⟩, e9⟩ := hw'
  obtain rfl : wf = wd' := e9

  have HZ : RowKit.Hid (Below wd.heap.size wd wf) := Lib.hid (HF0.out.trans (hb9.mono HF0.out.size))
  have E2 : RowKit.Hid (wf.heap[D2]? = some (.deferred (some []))) := Lib.hid ((hb9.block D2 (Array.getElem?_eq_some_iff.1 DD0.out.2).1).trans DD0.out.2)
  have E1 : RowKit.Hid (wf.heap[D]? = some (.deferred (some []))) := Lib.hid ((HZ.out.block D DZ.out.2).trans DE.out)
  have ND : RowKit.Hid (D ≠ D2 ∧ wd.heap.size ≤ D2) := Lib.hid (by have h1 := DZ.out; have h2 := DD0.out.1; have h3 := HB3.out.size; omega)
  have KW : RowKit.Hid (Blk wf z #[.bool false] 4) := Lib.hid ((K0.out _ BY.out).below' HZ.out)
  have LW : RowKit.Hid (Below w.heap.size w wf) := Lib.hid ((HB.out.trans (BY.out.mono HB.out.size)).trans (HZ.out.mono (Nat.le_trans HB.out.size BY.out.size)))
  have SZ : RowKit.Hid (w.heap.size ≤ wl.heap.size ∧ wl.heap.size ≤ wd.heap.size) := Lib.hid ⟨HB.out.size, BY.out.size⟩
  have cz := KW.out.cell 0
  have fz := KW.out.frozen 0
  simp only [List.getElem?_toArray, List.getElem?_cons_zero] at cz
  clear hb9 dc NX HB1 HB2 HB3 HX HF0 DD0 BR
  go_wp2_with fail
  rw [rounds_succ]
  go_wp2_with fail
  exact fin22 rfl E1.out E2.out ND.out.1 KW.out LW.out (by have := DZ.out; have := SZ.out; omega) (by have := ND.out; have := SZ.out; omega) (by have := ZZ.out; omega)

end Go.Proofs.Ytfcacgiejoeneaa

/- The law GramWalks, walked. -/
import Derived.Test.YtfdfcagkfnckmaaA9
import Derived.StillTailTactics
import Derived.Test.YtfdfcagkfnckmaaAb
import Derived.Test.YtfdfcagkfnckmaaA6
import Derived.Sort.BigQuietIn
set_option linter.unusedSimpArgs false
set_option linter.unusedVariables false
namespace Go.Proofs.Ytfdfcagkfnckmaa
open Go Go.RowKit
attribute [local go_sem] Oper.semAt_some
theorem meas_in {g : Gr} {n : Int} {k : Nat} (h : k < (measOf g n).1.toNat) : Right g ∧ 0 ≤ n ∧ n.toNat + k < g.nodes.length := by
  by_cases hy : Right g ∧ 0 ≤ n ∧ n < g.nodes.length
  · obtain ⟨hr, h0, h1⟩ := hy
    obtain ⟨ms, hm, _⟩ := hr.pre
    obtain ⟨j, rfl⟩ : ∃ j : Nat, n = j := ⟨n.toNat, by omega⟩
    have := hm j (by omega) (by omega)
    rw [measOf_yes hr hm (by omega)] at h
    exact ⟨hr, h0, by omega⟩
  · rw [measOf_no hy] at h
    simp at h
theorem res7 {tmps : Array Value} {w : World} {b : Nat} {x : Value} (hp : tmps.getD 8 undef = .pointer (some ⟨b, 0, none⟩)) (c1 : w.cell? ⟨b, 0, none⟩ = some x) : (results Try.f7 tmps).run Try.prog w = .ok x w := by
  have hp' : tmps[8]?.getD undef = .pointer (some ⟨b, 0, none⟩) := by simpa using hp
  simp [results, Try.results7, hp', go_sem, c1]
theorem wpIn_region_ext_round {P : Program} {n id r : Nat} {Q : Exit → Act → World → Prop} {a : Act} {w : World} {l : List Oper} (hm : P.follows .mixedOrders = true) (hd : defers l.toArray = false) (hB : Region.lexB .any l.toArray = true)
    (h : wpQuietIn Fence.wide n P l.toArray (fun w' => ∃ e : Ext w, w' = e.val) (fun a' => ∀ w', (∃ e : Ext w, w' = e.val) → Q .normal a' w') l a) : (Code.region id l.toArray true).wpIn (Fence.wide.inRound r) n P Q a w := by
  simp only [Region.lexB, Bool.and_eq_true] at hB
  refine wpIn_region_round hm hd (wpAnyIn_of_quiet (C := fun w' => ∃ e : Ext w, w' = e.val) (Q := fun a' => ∀ w', (∃ e : Ext w, w' = e.val) → Q .normal a' w') rfl (fun _ w' hw' h => h w' hw') _ _ _ _ ⟨⟨w.drew, ⟨rfl, rfl, rfl, Nat.le_refl _, fun _ _ => rfl⟩⟩, rfl⟩ ?_)
  have := wpAnyQIn_lex (F := Fence.wide) (n := n) (C := fun w' => ∃ e : Ext w, w' = e.val) (md := .any) hB.1 l 0 (Array.replicate l.toArray.size false) a (by simp) (by simpa using hB.2) h
  simpa using this
/-- What lies while the nodes are gone through. -/
structure WI (w : World) (g : Gr) (n : Int) (gb rb kb mb k : Nat) (W : World) : Prop where
  g_ : Blk W gb #[.slice g.RA g.rules.length g.rc, .slice g.NA g.nodes.length g.nc] 25
  r : Blk W rb #[.bool false] 4
  k_ : Blk W kb #[.int .i64 (n + (k : Nat))] 3
  m : Blk W mb #[.int .i64 (k : Int)] 3
  low : Below w.heap.size w W
  ne : w.heap.size ≤ gb ∧ w.heap.size ≤ rb ∧ rb < kb ∧ gb < kb ∧ kb < mb ∧ gb < rb
theorem WI.grow {w W W' : World} {g : Gr} {n : Int} {gb rb kb mb k : Nat} (h : WI w g n gb rb kb mb k W) (hb : Below W.heap.size W W') : WI w g n gb rb kb mb k W' :=
  ⟨h.g_.below' hb, h.r.below' hb, h.k_.below' hb, h.m.below' hb, bb h.low hb, h.ne⟩
theorem WI.put {w W : World} {g : Gr} {n : Int} {gb rb kb mb k b : Nat} {lp : Loop} (h : WI w g n gb rb kb mb k W) (hl : W.heap[b]? = some (.loop lp)) (hb : w.heap.size ≤ b) (o : Obj) : WI w g n gb rb kb mb k (W.putObj b o) :=
  ⟨h.g_.put hl o, h.r.put hl o, h.k_.put hl o, h.m.put hl o, below_put h.low hb o, h.ne⟩
theorem Blk.other {w : World} {b c : Nat} {vs : Array Value} {T : TypeId} {v : Value} (h : Blk w b vs T) (hne : b ≠ c) : Blk (w.setCell ⟨c, 0, none⟩ v) b vs T := (heap_setCell_other w ⟨c, 0, none⟩ b v hne).trans h
theorem Blk.one_set {w : World} {b : Nat} {v u : Value} {T : TypeId} (h : Blk w b #[v] T) : Blk (w.setCell ⟨b, 0, none⟩ u) b #[u] T := heap_setCell_same w b 0 #[v] T u h
theorem WI.next {w W : World} {g : Gr} {n : Int} {gb rb kb mb k : Nat} (h : WI w g n gb rb kb mb k W) (x y : Int) (ex : x = n + ((k + 1 : Nat) : Int)) (ey : y = ((k + 1 : Nat) : Int)) : WI w g n gb rb kb mb (k + 1) ((W.setCell ⟨kb, 0, none⟩ (.int .i64 x)).setCell ⟨mb, 0, none⟩ (.int .i64 y)) := by
  subst ex; subst ey
  obtain ⟨h1, h2, h3, h4, h5, h6⟩ := h
  exact ⟨(h1.other (by omega)).other (by omega), (h2.other (by omega)).other (by omega), (h3.one_set).other (by omega), (h4.other (by omega)).one_set, (h5.setCell (p := ⟨kb, 0, none⟩) (by simp; omega) _).setCell (p := ⟨mb, 0, none⟩) (by simp; omega) _, h6⟩
/-- What lies while it is walked and stopped. -/
structure WJ (w : World) (g : Gr) (n lf : Int) (gb rb kb mb L lb D j : Nat) (W : World) : Prop where
  i : WI w g n gb rb kb mb L W
  l : Blk W lb #[.int .i64 (lf - (j : Nat))] 3
  d : W.heap[D]? = some (.deferred (some []))
  le : (j : Int) ≤ lf
theorem lt_of_some {W : World} {D : Nat} {o : Obj} (h : W.heap[D]? = some o) : D < W.heap.size := (Array.getElem?_eq_some_iff.1 h).1
theorem def_put {W : World} {D b : Nat} {x : Option (List Deferred)} {lp : Loop} (h : W.heap[D]? = some (.deferred x)) (hl : W.heap[b]? = some (.loop lp)) (o : Obj) : (W.putObj b o).heap[D]? = some (.deferred x) :=
  (World.putObj_heap_other (by intro e; subst e; rw [hl] at h; cases h)).trans h
theorem WJ.grow {w W W' : World} {g : Gr} {n lf : Int} {gb rb kb mb L lb D j : Nat} (h : WJ w g n lf gb rb kb mb L lb D j W) (hb : Below W.heap.size W W') : WJ w g n lf gb rb kb mb L lb D j W' :=
  ⟨h.i.grow hb, h.l.below' hb, (hb.block D (lt_of_some h.d)).trans h.d, h.le⟩
theorem WJ.put {w W : World} {g : Gr} {n lf : Int} {gb rb kb mb L lb D j b : Nat} {lp : Loop} (h : WJ w g n lf gb rb kb mb L lb D j W) (hl : W.heap[b]? = some (.loop lp)) (hb : w.heap.size ≤ b) (o : Obj) : WJ w g n lf gb rb kb mb L lb D j (W.putObj b o) :=
  ⟨h.i.put hl hb o, h.l.put hl o, def_put h.d hl o, h.le⟩
theorem WI.one {w W : World} {g : Gr} {n : Int} {gb rb kb mb k lb : Nat} (h : WI w g n gb rb kb mb k W) (hl : mb < lb) (hw : w.heap.size ≤ lb) (v : Value) : WI w g n gb rb kb mb k (W.setCell ⟨lb, 0, none⟩ v) := by
  obtain ⟨h1, h2, h3, h4, h5, h6⟩ := h
  exact ⟨h1.other (by omega), h2.other (by omega), h3.other (by omega), h4.other (by omega), h5.setCell (p := ⟨lb, 0, none⟩) hw _, h6⟩
theorem WI.drew {w W : World} {g : Gr} {n : Int} {gb rb kb mb k : Nat} (h : WI w g n gb rb kb mb k W) : WI w g n gb rb kb mb k W.drew := h.grow (bdrew1 (Below.refl _ _))
theorem WI.far {w W : World} {g : Gr} {n : Int} {gb rb kb mb k c j : Nat} (h : WI w g n gb rb kb mb k W) (hl : mb < c) (hw : w.heap.size ≤ c) (v : Value) : WI w g n gb rb kb mb k (W.setCell ⟨c, j, none⟩ v) := by
  obtain ⟨h1, h2, h3, h4, h5, h6⟩ := h
  exact ⟨blk_set h1 (by omega), blk_set h2 (by omega), blk_set h3 (by omega), blk_set h4 (by omega), h5.setCell (p := ⟨c, j, none⟩) hw _, h6⟩
theorem WJ.next {w W : World} {g : Gr} {n lf : Int} {gb rb kb mb L lb D j : Nat} (h : WJ w g n lf gb rb kb mb L lb D j W) (hlb : mb < lb) (hw : w.heap.size ≤ lb) (x : Int) (ex : x = lf - ((j + 1 : Nat) : Int)) (hx : 0 ≤ x) : WJ w g n lf gb rb kb mb L lb D (j + 1) (W.setCell ⟨lb, 0, none⟩ (.int .i64 x)) := by
  subst ex
  refine ⟨h.i.one hlb hw _, h.l.one_set, (heap_setCell_other W ⟨lb, 0, none⟩ D _ ?_).trans h.d, by omega⟩
  intro e
  have e' : D = lb := e
  have h1 := h.l
  have h2 := h.d
  rw [e'] at h2
  unfold Blk at h1
  rw [h1] at h2
  cases h2
/-- The end, both ranges behind it. -/
theorem fin2 {w W : World} {tmps : Array Value} {D D2 rb : Nat} {x : Value} (hp : tmps.getD 8 undef = .pointer (some ⟨rb, 0, none⟩)) (hD : W.heap[D]? = some (.deferred (some []))) (hD2 : W.heap[D2]? = some (.deferred (some []))) (hne : D ≠ D2) (hr : Blk W rb #[x] 4) (hb : Below w.heap.size w W) (h1 : w.heap.size ≤ D) (h2 : w.heap.size ≤ D2) (h3 : w.heap.size ≤ rb) :
    bodyPostM Fence.wide 12 Try.prog Try.f7 (fun e w' => e = .returned (.bool true) ∧ Below w.heap.size w w') .ret { tmps := tmps, defers := [{ target := .collected D2, args := #[] }, { target := .collected D, args := #[] }] } (W.setCell ⟨rb, 0, none⟩ (.bool true)) := by
  have k1 : Blk (W.setCell ⟨rb, 0, none⟩ (.bool true)) rb #[.bool true] 4 := hr.one_set
  have n1 : ∀ d, W.heap[d]? = some (.deferred (some [])) → d ≠ rb := fun d hd e => by
    subst e
    have h' : W.heap[d]? = some (.cells #[x] 4 (0, 0)) := hr
    rw [hd] at h'
    cases h'
  have e1 : (W.setCell ⟨rb, 0, none⟩ (.bool true)).heap[D]? = some (.deferred (some [])) := (heap_setCell_other W ⟨rb, 0, none⟩ D _ (n1 D hD)).trans hD
  have e2 : (W.setCell ⟨rb, 0, none⟩ (.bool true)).heap[D2]? = some (.deferred (some [])) := (heap_setCell_other W ⟨rb, 0, none⟩ D2 _ (n1 D2 hD2)).trans hD2
  have low : Below w.heap.size w (W.setCell ⟨rb, 0, none⟩ (.bool true)) := hb.setCell (p := ⟨rb, 0, none⟩) h3 _
  refine ⟨by simp, .inl ⟨_, _, rfl, run_takeDeferred e2, ⟨by simp, .inl ⟨_, _, rfl, run_takeDeferred ((World.putObj_heap_other hne).trans e1), ?_⟩⟩⟩⟩
  refine ⟨_, res7 hp ?_, rfl, below_put (below_put low h2 _) h1 _⟩
  have q : Blk (((W.setCell ⟨rb, 0, none⟩ (.bool true)).putObj D2 (.deferred none)).putObj D (.deferred none)) rb #[.bool true] 4 := (World.putObj_heap_other (fun e => n1 D hD e.symm)).trans ((World.putObj_heap_other (fun e => n1 D2 hD2 e.symm)).trans k1)
  exact q.cell 0
set_option maxRecDepth 100000 in
set_option maxHeartbeats 16000000 in
theorem walks_law (g : Gr) (n st at_ : Int) (w : World) (hg : Gr.At w g) (hin : Gr.In g) (hcap : g.nodes.length ≤ g.nc) (hn : ∀ r ∈ g.rules, r.name.size ≤ 281474976710656) (ht : ∀ x ∈ g.nodes, x.text.size ≤ 281474976710656) (hst : -9223372036854775808 ≤ st ∧ st < 9223372036854775808) (hat : -9223372036854775808 ≤ at_ ∧ at_ < 9223372036854775808) :
    Calls Try.prog 7 #[g.val, .int .i64 n, .int .i64 st, .int .i64 at_] w fun e w' => e = .returned (.bool true) ∧ Below w.heap.size w w' := by
  have SA := Lib.hid (fun (w' : World) (q : Below w.heap.size w w') => size_all g w' (hg.below q))
  have HG := Lib.hid hg
  have HT := Lib.hid (And.intro hn (And.intro ht (And.intro hst hat)))
  have WA := Lib.hid (fun (w' : World) (q : Below w.heap.size w w') h1 => walk_any g n w' (hg.below q) hin hcap h1)
  clear hg hn ht hst hat hcap
  show Calls Try.prog 7 #[.agg #[.slice g.RA g.rules.length g.rc, .slice g.NA g.nodes.length g.nc], .int .i64 n, .int .i64 st, .int .i64 at_] w _
  refine (callsIn_wide (n := 12)).1 ?_
  refine callsIn_of_wp_marks Try.func7 rfl trivial ?_ rfl
  simp only [Try.ntmps7, List.size_toArray, List.length_cons, List.length_nil, Nat.reduceAdd, Nat.reduceSub, Array.replicate_succ, Array.replicate_zero, List.push_toArray, List.append_toArray, List.nil_append, List.cons_append]
  refine wpIn_wide.2 ?_
  go_upto_region 7 with (first | (go_at_call 9; refine (awake_any _).mono ?_; rintro e w1 ⟨rfl, hb⟩; have H1 := Lib.hid (bb (B2 w _ _) hb); have KA := Lib.hid (((Blk.new w _ _).alloc _).below' hb); have KR := Lib.hid (by have := (Blk.new (w.alloc _) _ _).below' hb; rw [World.size_alloc] at this; exact this); have a0 := KA.out.cell 0; have a1 := KA.out.cell 1; simp only [List.getElem?_toArray, List.getElem?_cons_zero, List.getElem?_cons_succ] at a0 a1; clear hb) | (go_at_call 8; refine (SA.out _ H1.out).mono ?_; rintro e w2 ⟨⟨z, rfl, hz⟩, hb⟩; have HZ := Lib.hid hz; have KA2 := Lib.hid (KA.out.below' hb); have KR2 := Lib.hid (KR.out.below' hb); have H2 := Lib.hid (bb H1.out hb); have cr0 := KR2.out.cell 0; have cr := KR2.out.frozen 0; simp only [List.getElem?_toArray, List.getElem?_cons_zero, List.getElem?_cons_succ] at cr0; clear hz hb a0 a1))
  · go_wp2_with fail
    exact ⟨_, res7 rfl (KR2.out.one_set.cell 0), rfl, H2.out.setCell (p := ⟨w.heap.size + 1, 0, none⟩) (by simp) _⟩
  · clear cr cr0
    have q := HZ.out (by omega)
    have SM : RowKit.Hid (Small g) := Lib.hid ⟨by omega, by omega, fun x hx => ⟨by have := q.2 x hx; omega, HT.out.2.1 x hx⟩, HT.out.1⟩
    clear q
    obtain ⟨wl, ewl⟩ : ∃ u, u = (w2.alloc (.cells #[.int .i64 n] 3)).alloc (.cells #[.int .i64 0] 3) := ⟨_, rfl⟩
    obtain ⟨kb, ekb⟩ : ∃ u, u = w2.heap.size := ⟨_, rfl⟩
    obtain ⟨mb, emb⟩ : ∃ u, u = w2.heap.size + 1 := ⟨_, rfl⟩
    have hbl : Below w2.heap.size w2 wl := by rw [ewl]; exact B2 _ _ _
    have kk : Blk wl kb #[.int .i64 (n + (0 : Nat))] 3 := by rw [ewl, ekb, Int.natCast_zero, Int.add_zero]; exact (Blk.new _ _ _).alloc _
    have km : Blk wl mb #[.int .i64 ((0 : Nat) : Int)] 3 := by
      rw [ewl, emb]; have := Blk.new (w2.alloc (.cells #[.int .i64 n] 3)) #[.int .i64 0] 3; rw [World.size_alloc] at this; exact this
    have hz : wl.heap.size = w2.heap.size + 2 := by rw [ewl]; simp
    obtain ⟨gb, egb⟩ : ∃ u, u = w.heap.size := ⟨_, rfl⟩
    obtain ⟨rb, erb⟩ : ∃ u, u = w.heap.size + 1 := ⟨_, rfl⟩
    have ka : Blk wl gb #[.slice g.RA g.rules.length g.rc, .slice g.NA g.nodes.length g.nc] 25 := by rw [egb]; exact KA2.out.below' hbl
    have kr : Blk wl rb #[.bool false] 4 := by rw [erb]; exact KR2.out.below' hbl
    have BS := Lib.hid (And.intro ekb (And.intro emb (And.intro hz (And.intro egb erb))))
    have F0 : RowKit.Hid (WI w g n gb rb kb mb 0 wl) := Lib.hid ⟨ka, kr, kk, km, bb H2.out hbl, by have := KR2.out.lt; have := KA2.out.lt; omega⟩
    have c0 := ka.cell 0; have c1 := ka.cell 1
    simp only [List.getElem?_toArray, List.getElem?_cons_zero, List.getElem?_cons_succ] at c0 c1
    rw [← ewl, ← emb, ← ekb, ← erb, ← egb]
    clear ewl ekb emb hbl kk km ka kr hz egb erb
    go_wp2_with (go_at_call 28; refine (WA.out _ F0.out.low SM.out).mono ?_; rintro e w4 ⟨hbw, p, q, cl, rfl, h1, h2, h3⟩; have HL := Lib.hid h1; have HTW := Lib.hid h2; have HSQ := Lib.hid h3; have HBW := Lib.hid hbw; clear hbw h1 h2 h3)
    obtain ⟨n0, en0⟩ : ∃ m, m = n.toNat := ⟨_, rfl⟩
    rw [← en0] at HTW HSQ
    have EN := Lib.hid en0
    clear en0
    have F4 := Lib.hid (F0.out.grow HBW.out)
    have H4 : RowKit.Hid (wl.heap.size ≤ w4.heap.size ∧ mb < wl.heap.size ∧ w.heap.size ≤ wl.heap.size) := Lib.hid ⟨HBW.out.size, F0.out.m.lt, F0.out.low.size⟩
    clear c0 c1
    refine (wpIn_wide (n := 12)).1 ?_
    refine wpIn_rangeFunc_e (ε := Option Addr × Nat) (encs := fun k x => #[.int .i64 ((n0 + k : Nat) : Int), ((cl.getD k Nd.zero).at_ x.1 x.2).val]) (R := CopyIs w4.heap.size cl) (n := 12) (by omega) (gf := 72) (lb := #[.pointer (some ⟨p, 0, none⟩), .pointer (some ⟨q, 0, none⟩)]) rfl (enters_of Try.func72 (by kernel_rfl) rfl)
      (G := fun b => b < w4.heap.size ∧ b ≠ kb ∧ b ≠ mb)
      (HSQ.out _ (fun b h1 h2 => ⟨h2, by have := H4.out; have := F0.out.ne; omega, by have := H4.out; omega⟩))
      (Below.refl _ _) (fun _ _ => rfl) (fun k h => h.1)
      (fun k W => WI w g n gb rb kb mb k W) (fun _ _ _ => False)
      (fun k W W' h hb => h.grow hb) (fun _ _ _ _ h _ => h) (fun k b W lp o hb h hl => h.put hl (by have := H4.out; omega) o) (fun _ _ _ _ _ _ _ h _ => h)
      (fun x k W W' h hb => ⟨own_below h.1 hb, h.2⟩) (fun x k b W lp o hb h hl => ⟨own_put h.1 hl o, h.2⟩) F4.out
      (fun k x b => { tmps := #[.agg #[.slice g.RA g.rules.length g.rc, .slice g.NA g.nodes.length g.nc], .int .i64 n, .int .i64 st, .int .i64 at_, .pointer (some ⟨gb, 0, none⟩), undef, undef, undef, .pointer (some ⟨rb, 0, none⟩), .pointer (some ⟨kb, 0, none⟩), .pointer (some ⟨mb, 0, none⟩), .int .i64 ((n0 : Int) + (k : Int)), .pointer (some ⟨b, 0, none⟩), undef, undef, undef, .bool true, .bool false, .agg #[.slice g.RA g.rules.length g.rc, .slice g.NA g.nodes.length g.nc], .int .i64 z, .bool (decide (300 < z)), .int .i64 n, .agg #[.slice g.RA g.rules.length g.rc, .slice g.NA g.nodes.length g.nc], .int .i64 n, .func (.func 72) #[] #[.pointer (some ⟨p, 0, none⟩), .pointer (some ⟨q, 0, none⟩)], .int .i64 ((n0 : Int) + (k : Int)), ((cl.getD k Nd.zero).at_ x.1 x.2).val, undef, undef, undef, undef, undef, undef, undef, undef, undef, undef, undef, undef, undef, undef, undef, undef, undef, undef, undef, undef, undef, undef, undef, undef, undef, undef, undef, undef, undef, undef, undef, undef, undef, undef, undef, undef, undef, undef, undef, undef, undef, undef, undef, undef, undef, undef, undef, undef, undef, undef, undef, undef, undef, undef, undef, undef, undef, undef, undef, undef, undef, undef, undef, undef, undef, undef, undef, undef, undef, undef, undef, undef, undef, undef, undef, undef, undef, undef, undef, undef, undef, undef, undef, undef, undef, undef, undef, undef, undef, undef, undef, undef, undef], defers := [] })
      (fun k x => .cells ((cl.getD k Nd.zero).at_ x.1 x.2).cells.toArray 32) ?assign ?body ?done ?stop
    case assign =>
      intro l2 k x W K hK
      unfold Nd.val
      gi_wp2
      exact hK
    case stop =>
      rintro D cd k W hD hk h hK
      exact h.elim
    case body =>
      rintro l2 k b ⟨A1, c1⟩ W hF hR hz hob hkm
      have hk2 : k < cl.length := hkm
      obtain ⟨_, hn0, hi⟩ := meas_in (g := g) (n := n) (k := k) (by have := HL.out; omega)
      have tw := HTW.out k hk2
      rw [← EN.out] at hi
      obtain ⟨i, ei⟩ : ∃ i : Nat, i = n0 + k := ⟨_, rfl⟩
      have ekn : n + (k : Int) = i := by have := EN.out; omega
      have eki : (n0 : Int) + (k : Int) = i := by omega
      rw [← ei] at tw hi
      rw [eki]
      obtain ⟨b1, o1, eA, hb1, c0, c1', c2, c3, c4, c5, c6, c7, c8⟩ := (HG.out.below hF.low).nodes.nine hi
      have hy : Nd.At W (g.nodes.getD i Nd.zero) := (HG.out.below hF.low).node hi
      have hx : Nd.At W ((cl.getD k Nd.zero).at_ A1 c1) := ⟨own_lies1 hR.1, hR.2, by rw [show ((cl.getD k Nd.zero).at_ A1 c1).kids = (g.nodes.getD i Nd.zero).kids from (twin_kids tw).1]; exact hy.2.2⟩
      have hs : sameNd ((cl.getD k Nd.zero).at_ A1 c1) (g.nodes.getD i Nd.zero) = true := by
        obtain ⟨A, c, e⟩ := tw
        rw [e]
        simp [sameNd]
      have KS := Lib.hid (fun (e : Ext W) => by have := kitSame_any _ _ e.val (hx.below e.grown) (hy.below e.grown); rw [hs] at this; exact this)
      have hob' : Blk W b ((cl.getD k Nd.zero).at_ A1 c1).cells.toArray 32 := hob
      have HF := Lib.hid hF
      have HI : RowKit.Hid (n + (k : Int) = i ∧ i < g.nodes.length ∧ k ≤ i) := Lib.hid ⟨ekn, hi, by omega⟩
      have hlt : (i : Int) < g.nodes.length := by omega
      have hle : g.nodes.length ≤ 300 := by have := SM.out.nodes; have := HZ.out (by omega); omega
      have kg := hF.g_.cell 1
      have kk := hF.k_.cell 0
      rw [ekn] at kk
      rw [eA] at kg
      generalize cl.getD k Nd.zero = x0 at KS hob' ⊢
      generalize g.nodes.getD i Nd.zero = y0 at KS c0 c1' c2 c3 c4 c5 c6 c7 c8
      have e0 := hob'.cell 0; have e1 := hob'.cell 1; have e2 := hob'.cell 2; have e3 := hob'.cell 3; have e4 := hob'.cell 4; have e5 := hob'.cell 5; have e6 := hob'.cell 6; have e7 := hob'.cell 7; have e8 := hob'.cell 8
      simp only [Nd.cells, List.getElem?_toArray, List.getElem?_cons_zero, List.getElem?_cons_succ] at e0 e1 e2 e3 e4 e5 e6 e7 e8 kg kk
      have f0 := fun e => Ext.cell (w := W) e0 e; have f1 := fun e => Ext.cell (w := W) e1 e; have f2 := fun e => Ext.cell (w := W) e2 e; have f3 := fun e => Ext.cell (w := W) e3 e; have f4 := fun e => Ext.cell (w := W) e4 e; have f5 := fun e => Ext.cell (w := W) e5 e; have f6 := fun e => Ext.cell (w := W) e6 e; have f7 := fun e => Ext.cell (w := W) e7 e; have f8 := fun e => Ext.cell (w := W) e8 e
      have g0 := fun e => Ext.cell (w := W) c0 e; have g1 := fun e => Ext.cell (w := W) c1' e; have g2 := fun e => Ext.cell (w := W) c2 e; have g3 := fun e => Ext.cell (w := W) c3 e; have g4 := fun e => Ext.cell (w := W) c4 e; have g5 := fun e => Ext.cell (w := W) c5 e; have g6 := fun e => Ext.cell (w := W) c6 e; have g7 := fun e => Ext.cell (w := W) c7 e; have g8 := fun e => Ext.cell (w := W) c8 e
      have gg := fun e => Ext.cell (w := W) kg e
      have gk := fun e => Ext.cell (w := W) kk e
      have hn1 : ((i : Int) != (i : Int)) = false := by simp
      have hn2 : (i != i) = false := by simp
      clear hF hR hz hob hob' hkm tw ei ekn eki hi eA hb1 hy hx hs c0 c1' c2 c3 c4 c5 c6 c7 c8 e0 e1 e2 e3 e4 e5 e6 e7 e8 kg kk hn0 hk2
      gi_wp2_with fail
      refine wpIn_region_ext_round mixed (by kernel_rfl) (by kernel_rfl) ?_
      repeat (gi_big_quiet_step (fail))
      refine BigFrame.wpQuietIn_want (fun _ _ _ _ => trivial) rfl ?_
      intro K hK
      gi_big_quiet_op
      apply Exists.intro
      refine ⟨fun _ => ?_, ?_⟩
      · gi_at_call 29
        exact callsIn_wide.2 (Calls.ext_of (KS.out _))
      refine hK _ ?_
      clear hK K
      repeat (gi_big_quiet_step (fail))
      refine wpQuietIn_nil ?_
      intro W' hw'
      obtain ⟨⟨w9, hb9⟩, rfl⟩ := hw'
      clear f0 f1 f2 f3 f4 f5 f6 f7 f8 g0 g1 g2 g3 g4 g5 g6 g7 g8 gg gk KS
      have F9 := Lib.hid (HF.out.grow hb9)
      have L9 := Lib.hid (Left.below (G := fun b => b < w4.heap.size ∧ b ≠ kb ∧ b ≠ mb) (B := w4.heap.size) hb9)
      have hkk := F9.out.k_.cell 0
      have hmm := F9.out.m.cell 0
      have fkk := F9.out.k_.frozen 0
      have fmm := F9.out.m.frozen 0
      rw [HI.out.1] at hkk
      simp only [List.getElem?_toArray, List.getElem?_cons_zero] at hkk hmm
      have hkl : (k : Int) < 1000 := by have := HI.out; omega
      have nk1 : kb ≠ mb := by have := F9.out.ne; omega
      have nk2 : mb ≠ kb := by have := F9.out.ne; omega
      clear hb9
      gi_wp2_with fail
      refine ⟨L9.out.trans ((Left.setCell _ kb 0 _ (fun h => h.2.1 rfl) (by have := H4.out; have := F9.out.ne; omega)).trans (Left.setCell _ mb 0 _ (fun h => h.2.2 rfl) (by have := H4.out; omega))), F9.out.next _ _ (by have := HI.out.1; omega) (by omega)⟩
    case done =>
      rintro D W hD hF hK
      have hmz : (measOf g n).1 = (cl.length : Int) := by
        rw [HL.out]
        by_cases hy : Right g ∧ 0 ≤ n ∧ n < g.nodes.length
        · obtain ⟨hr, h0, h1⟩ := hy
          obtain ⟨ms, hm, _⟩ := hr.pre
          obtain ⟨j, rfl⟩ : ∃ j : Nat, n = j := ⟨n.toNat, by omega⟩
          have := hm j (by omega) (by omega)
          rw [measOf_yes hr hm (by omega)]
          omega
        · rw [measOf_no hy]
          rfl
      have hL300 : cl.length ≤ 300 := by
        by_cases h0 : cl.length = 0
        · omega
        · obtain ⟨_, h1, h2⟩ := meas_in (g := g) (n := n) (k := cl.length - 1) (by have := HL.out; omega)
          have := HZ.out (by omega)
          omega
      have hL0 : ¬ Right g → cl.length = 0 := fun hr => by
        rw [HL.out, measOf_no (fun h => hr h.1)]
        rfl
      have HMZ := Lib.hid hmz
      obtain ⟨L, eL⟩ : ∃ L, L = cl.length := ⟨_, rfl⟩
      rw [← eL] at hF hL300 hL0 hmz
      have ML := Lib.hid hmz
      have HL0 := Lib.hid hL0
      have SZ := Lib.hid (fun (e : Ext W) => by have := size_of g n e.val (HG.out.below (bb hF.low e.grown)) hin; rw [hmz] at this; exact this)
      have kg0 := fun e => Ext.cell (w := W) (hF.g_.cell 0) e
      have kg1 := fun e => Ext.cell (w := W) (hF.g_.cell 1) e
      have km := fun e => Ext.cell (w := W) (hF.m.cell 0) e
      have hn1 : ((L : Int) != (L : Int)) = false := by simp
      have hn2 : (L != L) = false := by simp
      have HF := Lib.hid hF
      have HD := Lib.hid (And.intro hK hD)
      clear hF hK hmz hL0 HMZ HL HTW HSQ eL hD
      go_upto_region 14 with fail
      refine wp_region_ext (by kernel_rfl) (by kernel_rfl) ?_
      repeat (first | go_big_quiet_step (first | (go_at_call 25; exact Calls.ext_of (SZ.out _))) | quiet_step (first | (go_at_call 25; exact Calls.ext_of (SZ.out _))))
      refine wpQuiet_nil ?_
      intro w9 hw'
      obtain ⟨⟨_, hb9⟩, rfl⟩ := hw'
      have F9 := Lib.hid (HF.out.grow hb9)
      have D9 := Lib.hid ((hb9.block D (Array.getElem?_eq_some_iff.1 HD.out.1).1).trans HD.out.1)
      clear hb9 kg0 kg1 km SZ hn1 hn2
      have km := F9.out.m.cell 0
      simp only [List.getElem?_toArray, List.getElem?_cons_zero] at km
      have PK := Lib.hid (fun W => pick_any st ((L : Int) + 1) HT.out.2.2.1 (by omega) W)
      have hlf0 := Int.emod_nonneg st (show ((L : Int) + 1) ≠ 0 by omega)
      have hlf1 := Int.emod_lt_of_pos st (show (0 : Int) < L + 1 by omega)
      obtain ⟨lf, elf⟩ : ∃ lf, lf = st % ((L : Int) + 1) := ⟨_, rfl⟩
      rw [← elf] at PK hlf0 hlf1
      clear elf
      go_upto_region 17 with (go_at_call 20; refine (PK.out _).mono ?_; rintro e w10 ⟨rfl, rfl⟩)
      obtain ⟨wm, ewm⟩ : ∃ u, u = w9.alloc (.cells #[.int .i64 lf] 3) := ⟨_, rfl⟩
      obtain ⟨lb, elb⟩ : ∃ u, u = w9.heap.size := ⟨_, rfl⟩
      have hbm : Below w9.heap.size w9 wm := by rw [ewm]; exact B1 _ _
      have kl : Blk wm lb #[.int .i64 lf] 3 := by rw [ewm, elb]; exact Blk.new _ _ _
      have FM := Lib.hid (F9.out.grow hbm)
      have DM := Lib.hid ((hbm.block D (Array.getElem?_eq_some_iff.1 D9.out).1).trans D9.out)
      have KL := Lib.hid kl
      have EL : RowKit.Hid (lb = w9.heap.size) := Lib.hid elb
      have LM : RowKit.Hid (lb < wm.heap.size) := Lib.hid kl.lt
      have c0 := FM.out.g_.cell 0; have c1 := FM.out.g_.cell 1
      simp only [List.getElem?_toArray, List.getElem?_cons_zero, List.getElem?_cons_succ] at c0 c1
      rw [← ewm, ← elb]
      clear ewm elb hbm kl km PK
      go_wp2_with (go_at_call 28; refine (WA.out _ FM.out.low SM.out).mono ?_; rintro e w5 ⟨hbw, p2, q2, cl2, rfl, h1, h2, h3⟩; have HL2 : RowKit.Hid (cl2.length = L) := Lib.hid (by have := ML.out; omega); rw [← EN.out] at h3; have HSQ2 := Lib.hid h3; have HBW2 := Lib.hid hbw; clear hbw h1 h2 h3)
      have F5 := Lib.hid (FM.out.grow HBW2.out)
      have K5 := Lib.hid (KL.out.below' HBW2.out)
      have D5 := Lib.hid ((HBW2.out.block D (Array.getElem?_eq_some_iff.1 DM.out).1).trans DM.out)
      have H5 : RowKit.Hid (wm.heap.size ≤ w5.heap.size) := Lib.hid HBW2.out.size
      clear c0 c1
      refine (wpIn_wide (n := 12)).1 ?_
      refine wpIn_rangeFunc_ex (ε := Option Addr × Nat) (encs := fun k x => #[.int .i64 ((n0 + k : Nat) : Int), ((cl2.getD k Nd.zero).at_ x.1 x.2).val]) (R := CopyIs w5.heap.size cl2) (n := 12) (by omega) (gf := 72) (lb := #[.pointer (some ⟨p2, 0, none⟩), .pointer (some ⟨q2, 0, none⟩)]) rfl (enters_of Try.func72 (by kernel_rfl) rfl)
        (G := fun b => b < w5.heap.size ∧ b ≠ lb)
        (HSQ2.out _ (fun b h1 h2 => ⟨h2, by have := LM.out; omega⟩))
        (Below.refl _ _) (fun _ _ => rfl) (fun k h => h.1)
        (fun k W => WJ w g n lf gb rb kb mb L lb D k W) (fun c _ W => c = .exit 2 ∧ ∃ j : Nat, lf = j ∧ WJ w g n lf gb rb kb mb L lb D j W)
        (fun k W W' h hb => h.grow hb) (fun _ _ _ _ h hb => ⟨h.1, by obtain ⟨j, e, h⟩ := h.2; exact ⟨j, e, h.grow hb⟩⟩) (fun k b W lp o hb h hl => h.put hl (by have := H5.out; have := FM.out.low.size; omega) o) (fun _ _ b W lp o hb h hl => ⟨h.1, by obtain ⟨j, e, h⟩ := h.2; exact ⟨j, e, h.put hl (by have := H5.out; have := FM.out.low.size; omega) o⟩⟩)
        (fun x k W W' h hb => ⟨own_below h.1 hb, h.2⟩) (fun x k b W lp o hb h hl => ⟨own_put h.1 hl o, h.2⟩) ⟨F5.out, by simpa using K5.out, D5.out, by omega⟩
        (fun k x => { tmps := #[Value.agg #[Value.slice g.RA g.rules.length g.rc, Value.slice g.NA g.nodes.length g.nc], Value.int IntKind.i64 n, Value.int IntKind.i64 st, Value.int IntKind.i64 at_, Value.pointer (some { block := gb, off := 0 }), undef, undef, undef, Value.pointer (some { block := rb, off := 0 }), Value.pointer (some { block := kb, off := 0 }), Value.pointer (some { block := mb, off := 0 }), undef, undef, Value.pointer (some { block := lb, off := 0 }), undef, undef, Value.bool true, Value.bool false, Value.agg #[Value.slice g.RA g.rules.length g.rc, Value.slice g.NA g.nodes.length g.nc], Value.int IntKind.i64 z, Value.bool (decide (300 < z)), Value.int IntKind.i64 n, Value.agg #[Value.slice g.RA g.rules.length g.rc, Value.slice g.NA g.nodes.length g.nc], Value.int IntKind.i64 n, Value.func (Fn.func 72) #[] #[Value.pointer (some { block := p, off := 0 }), Value.pointer (some { block := q, off := 0 })], undef, undef, undef, undef, undef, undef, undef, undef, undef, undef, undef, undef, undef, undef, undef, undef, undef, undef, undef, Value.int IntKind.i64 ↑L, Value.agg #[Value.slice g.RA g.rules.length g.rc, Value.slice g.NA g.nodes.length g.nc], Value.int IntKind.i64 n, Value.int IntKind.i64 ↑L, Value.bool false, Value.int IntKind.i64 st, Value.int IntKind.i64 ↑L, Value.int IntKind.i64 (↑L + 1), Value.int IntKind.i64 lf, Value.agg #[Value.slice g.RA g.rules.length g.rc, Value.slice g.NA g.nodes.length g.nc], Value.int IntKind.i64 n, Value.func (Fn.func 72) #[] #[Value.pointer (some { block := p2, off := 0 }), Value.pointer (some { block := q2, off := 0 })], .int .i64 ((n0 : Int) + (k : Int)), ((cl2.getD k Nd.zero).at_ x.1 x.2).val, undef, undef, undef, undef, undef, undef, undef, undef, undef, undef, undef, undef, undef, undef, undef, undef, undef, undef, undef, undef, undef, undef, undef, undef, undef, undef, undef, undef, undef, undef, undef, undef, undef, undef, undef, undef, undef, undef, undef, undef, undef, undef, undef, undef, undef, undef, undef, undef, undef, undef, undef, undef, undef, undef, undef, undef, undef, undef, undef, undef, undef, undef], defers := [] }) ?assign ?body ?done ?stop
      case assign =>
        intro l2 k x W K hK
        gi_wp2
        exact hK
      case body =>
        rintro l2 k ⟨A1, c1⟩ W hF hR hz hkm
        have c0 := hF.l.cell 0
        have f0 := hF.l.frozen 0
        have hle := hF.le
        simp only [List.getElem?_toArray, List.getElem?_cons_zero] at c0
        have HF := Lib.hid hF
        by_cases hlf : lf = k
        · have ez : lf - (k : Int) = 0 := by omega
          rw [ez] at c0
          have EZ := Lib.hid hlf
          clear hF hR hz hkm hle hlf ez
          gi_wp2_with fail
          exact ⟨Left.refl _ _ _, rfl, k, EZ.out, HF.out⟩
        · obtain ⟨y, ey⟩ : ∃ y, y = lf - (k : Int) := ⟨_, rfl⟩
          have hy : 0 < y := by omega
          have hy2 : y ≤ 300 := by omega
          have hny : ¬ y = 0 := by omega
          rw [← ey] at c0
          have EY := Lib.hid ey
          clear hF hR hz hkm hle hlf ey
          gi_wp2_with fail
          refine ⟨Left.setCell _ lb 0 _ (fun h => h.2 rfl) (by have := LM.out; have := H5.out; omega), HF.out.next (by have := FM.out.m.lt; have := EL.out; have := F9.out.m.lt; omega) (by have := EL.out; have := F9.out.low.size; omega) _ (by have := EY.out; omega) (by omega)⟩
      case done =>
        rintro D2 W hD2 hF hK
        rw [HL2.out] at hF
        have hl0 : lf - (L : Int) = 0 := by have := hF.le; omega
        have HB4 : RowKit.Hid (w5.heap.size ≤ D2) := Lib.hid hD2
        have XI := Lib.hid hF.i
        have XK : RowKit.Hid (Blk W lb #[.int .i64 0] 3) := Lib.hid (by have := hF.l; rw [hl0] at this; exact this)
        have XD := Lib.hid hF.d
        have XE := Lib.hid hK
        clear hF hK hl0 hD2
        have ND : RowKit.Hid (D ≠ D2 ∧ w.heap.size ≤ D ∧ w.heap.size ≤ D2) := Lib.hid (by have := lt_of_some D5.out; have := HD.out.2; have := H4.out; have := HB4.out; have := H5.out; omega)
        by_cases hr : Right g
        · have RI := Lib.hid (fun (w' : World) (b : Below w.heap.size w w') => by have := right_all g w' (HG.out.below b) hin; rw [rightB_true.2 hr] at this; exact this)
          have CG := Lib.hid (fun (w' : World) (b : Below w.heap.size w w') => by have := gcopy_any g w' (HG.out.below b) SM.out; unfold Gr.val at this; exact this)
          obtain ⟨ms, hm, hb0⟩ := hr.pre
          have HM := Lib.hid hm
          have hr1 := hr.rules.1
          have hr2 := hr.nodes
          have hlen : 0 < g.nodes.length := by
            cases hl : g.rules with
            | nil => rw [hl] at hr1; simp at hr1
            | cons r l =>
              rw [hl] at hb0
              unfold bodies at hb0
              split at hb0
              · rename_i q; omega
              · cases hb0
          have RT := Lib.hid hr
          have c0 := XI.out.g_.cell 0; have c1 := XI.out.g_.cell 1
          simp only [List.getElem?_toArray, List.getElem?_cons_zero, List.getElem?_cons_succ] at c0 c1
          clear hr hm hb0 hr1
          go_upto_region 23 with (first | (go_at_call 15; refine (RI.out _ XI.out.low).mono ?_; rintro e w6 ⟨rfl, hb⟩; have X6 := Lib.hid (XI.out.grow hb); have D6 := Lib.hid ((hb.block D (lt_of_some XD.out)).trans XD.out); have E6 := Lib.hid ((hb.block D2 (lt_of_some XE.out)).trans XE.out); have K6 := Lib.hid (XK.out.below' hb); have d0 := X6.out.g_.cell 0; have d1 := X6.out.g_.cell 1; simp only [List.getElem?_toArray, List.getElem?_cons_zero, List.getElem?_cons_succ] at d0 d1; clear hb c0 c1) | (go_at_call 22; refine (CG.out _ X6.out.low).mono ?_; rintro e w7 ⟨⟨h, rfl, ht, hf⟩, hb⟩; have TW := Lib.hid ht; have FR := Lib.hid hf; have HB7 := Lib.hid hb; clear ht hf hb d0 d1) | (refine wpList_store_whole rfl 25 (.tmp 14) (.tmp 68) rfl w7.heap.size #[.slice h.RA h.rules.length h.rc, .slice h.NA h.nodes.length h.nc] rfl rfl 25 _ (Blk.new _ _ _) (by kernel_rfl) (by rfl) (by simp [Value.oneCell']) ?_; intro w8 hk hg; have HB8 := Lib.hid (grown_below (B1 w7 _) (by simp) hg (fun k e => by cases e; exact Nat.le_refl _)); have KH := Lib.hid hk; clear hk hg))
          have X8 := Lib.hid ((X6.out.grow HB7.out).grow HB8.out)
          have D8 := Lib.hid ((HB8.out.block D (lt_of_some ((HB7.out.block D (lt_of_some D6.out)).trans D6.out))).trans ((HB7.out.block D (lt_of_some D6.out)).trans D6.out))
          have E8 := Lib.hid ((HB8.out.block D2 (lt_of_some ((HB7.out.block D2 (lt_of_some E6.out)).trans E6.out))).trans ((HB7.out.block D2 (lt_of_some E6.out)).trans E6.out))
          have K8 := Lib.hid ((K6.out.below' HB7.out).below' HB8.out)
          have F8 := Lib.hid (FR.out.below HB8.out)
          have A8 := Lib.hid (HG.out.below X8.out.low)
          have AH := Lib.hid (F8.out.lies TW.out A8.out)
          obtain ⟨hb, ehb⟩ : ∃ b, b = w7.heap.size := ⟨_, rfl⟩
          have LL : RowKit.Hid (mb < w6.heap.size ∧ lb < w6.heap.size ∧ D < w6.heap.size ∧ D2 < w6.heap.size ∧ hb = w7.heap.size ∧ w6.heap.size ≤ w7.heap.size) := Lib.hid ⟨X6.out.m.lt, K6.out.lt, lt_of_some D6.out, lt_of_some E6.out, ehb, HB7.out.size⟩
          rw [← ehb] at KH ⊢
          clear ehb HB7 HB8 FR D6 E6 K6 RI CG
          have hm0 := Int.emod_nonneg at_ (show (g.nodes.length : Int) ≠ 0 by omega)
          have hm1 := Int.emod_lt_of_pos at_ (show (0 : Int) < g.nodes.length by omega)
          have PK2 := Lib.hid (fun W => pick_any at_ g.nodes.length HT.out.2.2.2 (by omega) W)
          obtain ⟨m, em⟩ : ∃ m : Nat, (m : Int) = at_ % (g.nodes.length : Int) := ⟨(at_ % (g.nodes.length : Int)).toNat, by omega⟩
          rw [← em] at PK2 hm1
          have hgm : m < h.nodes.length := by have := TW.out.len; omega
          have hgl : g.nodes.length = h.nodes.length := TW.out.len.symm
          have SG : RowKit.Hid (sameGr h g = true) := Lib.hid (TW.out.same)
          obtain ⟨b2, o2, eN, _, _, _, _, _, _, _, _, _, c8⟩ := AH.out.nodes.nine hgm
          have TN := Lib.hid (fun (hk : 0 < (h.nodes.getD m Nd.zero).kids.length) v hv => turn_not HM.out TW.out hgm hk (v := v) hv)
          have TL := Lib.hid (fun (hk : 0 < (h.nodes.getD m Nd.zero).kids.length) => turn_lies HM.out TW.out F8.out AH.out hgm hk)
          have KB := Lib.hid (fun (hk : 0 < (h.nodes.getD m Nd.zero).kids.length) => show (h.nodes.getD m Nd.zero).kids.getD ((h.nodes.getD m Nd.zero).kids.length - 1) 0 < h.nodes.length ∧ 0 ≤ (h.nodes.getD m Nd.zero).kids.getD ((h.nodes.getD m Nd.zero).kids.length - 1) 0 from by
            have e := TW.out.kids m (by omega)
            have := kid_lt HM.out (j := m) (by omega) ((h.nodes.getD m Nd.zero).kids.getD ((h.nodes.getD m Nd.zero).kids.length - 1) 0) (by
              rw [← e]
              show _ ∈ (h.nodes.getD m Nd.zero).kids
              exact getD_mem (by omega))
            omega)
          have HKL : RowKit.Hid ((h.nodes.getD m Nd.zero).kids.length ≤ 1000000) := Lib.hid (by
            have e := TW.out.kids m (by omega)
            have := (SM.out.kids _ (getD_mem (z := Nd.zero) (show m < g.nodes.length by omega))).1
            unfold kidsOf at e
            rw [e]
            exact this)
          have TI := Lib.hid (fun k => turn_within (TW.out.within hin) hgm k)
          have kg0 := X8.out.g_.cell 0; have kg1 := X8.out.g_.cell 1
          have kh0 := KH.out.cell 0; have kh1 := KH.out.cell 1
          simp only [List.getElem?_toArray, List.getElem?_cons_zero, List.getElem?_cons_succ] at kg0 kg1 kh0 kh1
          rw [eN] at kh1
          have EN2 := Lib.hid eN
          have hml : (m : Int) < h.nodes.length := by omega
          generalize hx : h.nodes.getD m Nd.zero = x at c8 TN TL KB HKL
          have HX := Lib.hid hx
          clear hm0 em eN hx hm1 hgm
          have HGL := Lib.hid hgl
          clear hgl
          by_cases hk : x.kids.length = 0
          · have HK0 := Lib.hid hk
            rw [hk] at c8
            have SM2 := Lib.hid (fun (w' : World) (q : Below w8.heap.size w8 w') => by have := sameGram_any h g w' (AH.out.below q) (A8.out.below q); rw [SG.out] at this; unfold Gr.val at this; rw [EN2.out] at this; exact this)
            clear hk
            go_wp2_with (first | (go_at_call 20; refine (PK2.out _).mono ?_; rintro e w10 ⟨rfl, rfl⟩) | (go_at_call 23; refine (SM2.out _ (Below.refl _ _)).mono ?_; rintro e w10 ⟨rfl, hb⟩; have X10 := Lib.hid (X8.out.grow hb); have D10 := Lib.hid ((hb.block D (lt_of_some D8.out)).trans D8.out); have E10 := Lib.hid ((hb.block D2 (lt_of_some E8.out)).trans E8.out); have K10 := Lib.hid (K8.out.below' hb); have kl := K10.out.cell 0; have cr := X10.out.r.cell 0; have fr := X10.out.r.frozen 0; simp only [List.getElem?_toArray, List.getElem?_cons_zero] at kl cr; clear hb))
            exact fin2 rfl D10.out E10.out ND.out.1 X10.out.r X10.out.low ND.out.2.1 ND.out.2.2 (by have := X10.out.ne; omega)
          · have hk0 : 0 < x.kids.length := by omega
            obtain ⟨b, eA, hB, ⟨vs, hvs⟩, hfr, hce, hat2⟩ := TL.out hk0
            have hv := KB.out hk0
            have hkl := HKL.out
            have tn := TN.out hk0
            obtain ⟨nn, enn⟩ : ∃ nn, nn = x.kids.length := ⟨_, rfl⟩
            obtain ⟨p, ep⟩ : ∃ p, p = nn - 1 := ⟨_, rfl⟩
            rw [← enn, ← ep] at hfr hce hat2 hv tn
            rw [← enn, eA] at c8
            rw [← enn] at hkl hk0
            obtain ⟨la, ela⟩ : ∃ la, la = x.kids.getD p 0 := ⟨_, rfl⟩
            rw [← ela] at hce hv tn
            have tn2 := tn (la + 1) (by omega)
            have at2 := hat2 (la + 1)
            obtain ⟨y, ey⟩ : ∃ y, y = turned h m (x.kids.set p (la + 1)) := ⟨_, rfl⟩
            have yv : y.val = .agg #[.slice h.RA h.rules.length h.rc, .slice h.NA h.nodes.length h.nc] := by rw [ey]; exact turn_val h m _
            have yi : Gr.In y := by rw [ey]; exact TI.out _
            rw [← ey] at tn2 at2
            have hne1 : ¬ (nn : Int) = 0 := by omega
            have hne2 : ¬ nn = 0 := by omega
            have hw1 : IntKind.i64.wrap ((nn : Int) - 1) = (p : Int) := (IntWalk.i64_in _ (by omega)).trans (by omega)
            have hw2 : IntKind.i64.wrap (la + 1) = la + 1 := IntWalk.i64_in _ (by have := HGL.out; omega)
            have hpn : (p : Int) < nn := by omega
            have hpn2 : p < nn := by omega
            have YY := Lib.hid (And.intro tn2 (And.intro at2 (And.intro yv (And.intro yi (And.intro hB hvs)))))
            clear tn2 at2 yv yi ey tn hat2 hv hkl TN TL KB TI HKL hk hk0 eA enn ep ela hB hvs
            go_upto_region 26 with (go_at_call 20; refine (PK2.out _).mono ?_; rintro e w10 ⟨rfl, rfl⟩)
            go_still_tail 18, (by kernel_rfl)
            change wpList _ _ _ _ _ w8.drew
            go_upto_region 27 with fail
            obtain ⟨w11, ew11⟩ : ∃ u, u = (w8.setCell ⟨b, p, none⟩ (.int .i64 (la + 1))).drew := ⟨_, rfl⟩
            rw [← ew11]
            have BB : RowKit.Hid (w6.heap.size ≤ b ∧ b ≠ hb ∧ b < w8.heap.size) := Lib.hid (by
              have hvs := YY.out.2.2.2.2.2
              refine ⟨YY.out.2.2.2.2.1, fun e => ?_, hvs.lt⟩
              rw [e] at hvs
              exact absurd (hvs.same_T KH.out) (by decide))
            have X11 : RowKit.Hid (WI w g n gb rb kb mb L w11) := Lib.hid (by rw [ew11]; exact (X8.out.far (c := b) (j := p) (by have := LL.out; have := BB.out; omega) (by have := ND.out; have := LL.out; have := BB.out; omega) _).drew)
            have K11 : RowKit.Hid (Blk w11 lb #[.int .i64 0] 3) := Lib.hid (by rw [ew11]; exact blk_set (w := w8) K8.out (by have := LL.out; have := BB.out; omega))
            have KH11 : RowKit.Hid (Blk w11 hb #[.slice h.RA h.rules.length h.rc, .slice h.NA h.nodes.length h.nc] 25) := Lib.hid (by rw [ew11]; exact blk_set (w := w8) KH.out (by have := BB.out; omega))
            have D11 : RowKit.Hid (w11.heap[D]? = some (.deferred (some []))) := Lib.hid (by rw [ew11]; exact (heap_setCell_other w8 ⟨b, p, none⟩ D _ (by show D ≠ b; have := LL.out; have := BB.out; omega)).trans D8.out)
            have E11 : RowKit.Hid (w11.heap[D2]? = some (.deferred (some []))) := Lib.hid (by rw [ew11]; exact (heap_setCell_other w8 ⟨b, p, none⟩ D2 _ (by show D2 ≠ b; have := LL.out; have := BB.out; omega)).trans E8.out)
            have A11 : RowKit.Hid (Gr.At w11 y) := Lib.hid (by rw [ew11]; exact YY.out.2.1.below (bdrew1 (Below.refl _ _)))
            have AG11 := Lib.hid (HG.out.below X11.out.low)
            have R15 := Lib.hid (by have := right_all y w11 A11.out YY.out.2.2.2.1; rw [YY.out.1.1, YY.out.2.2.1] at this; exact this)
            have R23 := Lib.hid (fun (w' : World) (q : Below w11.heap.size w11 w') => by have := sameGram_any y g w' (A11.out.below q) (AG11.out.below q); rw [YY.out.1.2, YY.out.2.2.1] at this; unfold Gr.val at this; exact this)
            have kg0 := X11.out.g_.cell 0; have kg1 := X11.out.g_.cell 1
            have kh0 := KH11.out.cell 0; have kh1 := KH11.out.cell 1
            simp only [List.getElem?_toArray, List.getElem?_cons_zero, List.getElem?_cons_succ] at kg0 kg1 kh0 kh1
            clear ew11 hce hfr c8 hw1 hw2 hpn hpn2 hne1 hne2 hml
            go_wp2_with (first | (go_at_call 15; refine (R15.out).mono ?_; rintro e w12 ⟨rfl, hb⟩; have Q12 := Lib.hid hb; have X12 := Lib.hid (X11.out.grow hb); have D12 := Lib.hid ((hb.block D (lt_of_some D11.out)).trans D11.out); have E12 := Lib.hid ((hb.block D2 (lt_of_some E11.out)).trans E11.out); have K12 := Lib.hid (K11.out.below' hb); have kg0 := X12.out.g_.cell 0; have kg1 := X12.out.g_.cell 1; have KH12 := Lib.hid (KH11.out.below' hb); have kh0 := KH12.out.cell 0; have kh1 := KH12.out.cell 1; simp only [List.getElem?_toArray, List.getElem?_cons_zero, List.getElem?_cons_succ] at kg0 kg1 kh0 kh1; clear hb) | (go_at_call 23; refine (R23.out _ Q12.out).mono ?_; rintro e w10 ⟨rfl, hb⟩; have X10 := Lib.hid (X12.out.grow hb); have D10 := Lib.hid ((hb.block D (lt_of_some D12.out)).trans D12.out); have E10 := Lib.hid ((hb.block D2 (lt_of_some E12.out)).trans E12.out); have K10 := Lib.hid (K12.out.below' hb); have kl := K10.out.cell 0; have cr := X10.out.r.cell 0; have fr := X10.out.r.frozen 0; simp only [List.getElem?_toArray, List.getElem?_cons_zero] at kl cr; clear hb))
            exact fin2 rfl D10.out E10.out ND.out.1 X10.out.r X10.out.low ND.out.2.1 ND.out.2.2 (by have := X10.out.ne; omega)
        · have RI := Lib.hid (fun (w' : World) (b : Below w.heap.size w w') => by have := right_all g w' (HG.out.below b) hin; rw [rightB_false.2 hr] at this; exact this)
          obtain rfl := HL0.out hr
          have c0 := XI.out.g_.cell 0; have c1 := XI.out.g_.cell 1
          simp only [List.getElem?_toArray, List.getElem?_cons_zero, List.getElem?_cons_succ] at c0 c1
          clear hr
          go_wp2_with (go_at_call 15; refine (RI.out _ XI.out.low).mono ?_; rintro e w6 ⟨rfl, hb⟩; have X6 := Lib.hid (XI.out.grow hb); have D6 := Lib.hid ((hb.block D (lt_of_some XD.out)).trans XD.out); have E6 := Lib.hid ((hb.block D2 (lt_of_some XE.out)).trans XE.out); have cm := X6.out.m.cell 0; have cr := X6.out.r.cell 0; have fr := X6.out.r.frozen 0; simp only [List.getElem?_toArray, List.getElem?_cons_zero] at cm cr; clear hb)
          exact fin2 rfl D6.out E6.out ND.out.1 X6.out.r X6.out.low ND.out.2.1 ND.out.2.2 (by have := X6.out.ne; omega)
      case stop =>
        rintro D2 c k W hD2 hk ⟨rfl, j, ej, hF⟩ hK
        have hl0 : lf - (j : Int) = 0 := by omega
        have HB4 : RowKit.Hid (w5.heap.size ≤ D2) := Lib.hid hD2
        have XI := Lib.hid hF.i
        have XK : RowKit.Hid (Blk W lb #[.int .i64 0] 3) := Lib.hid (by have := hF.l; rw [hl0] at this; exact this)
        have XD := Lib.hid hF.d
        have XE := Lib.hid hK
        clear hF hK hl0 hD2 ej hk
        refine wpIn_wide.2 ?_
        have ND : RowKit.Hid (D ≠ D2 ∧ w.heap.size ≤ D ∧ w.heap.size ≤ D2) := Lib.hid (by have := lt_of_some D5.out; have := HD.out.2; have := H4.out; have := HB4.out; have := H5.out; omega)
        by_cases hr : Right g
        · have RI := Lib.hid (fun (w' : World) (b : Below w.heap.size w w') => by have := right_all g w' (HG.out.below b) hin; rw [rightB_true.2 hr] at this; exact this)
          have CG := Lib.hid (fun (w' : World) (b : Below w.heap.size w w') => by have := gcopy_any g w' (HG.out.below b) SM.out; unfold Gr.val at this; exact this)
          obtain ⟨ms, hm, hb0⟩ := hr.pre
          have HM := Lib.hid hm
          have hr1 := hr.rules.1
          have hr2 := hr.nodes
          have hlen : 0 < g.nodes.length := by
            cases hl : g.rules with
            | nil => rw [hl] at hr1; simp at hr1
            | cons r l =>
              rw [hl] at hb0
              unfold bodies at hb0
              split at hb0
              · rename_i q; omega
              · cases hb0
          have RT := Lib.hid hr
          have c0 := XI.out.g_.cell 0; have c1 := XI.out.g_.cell 1
          simp only [List.getElem?_toArray, List.getElem?_cons_zero, List.getElem?_cons_succ] at c0 c1
          clear hr hm hb0 hr1
          go_upto_region 23 with (first | (go_at_call 15; refine (RI.out _ XI.out.low).mono ?_; rintro e w6 ⟨rfl, hb⟩; have X6 := Lib.hid (XI.out.grow hb); have D6 := Lib.hid ((hb.block D (lt_of_some XD.out)).trans XD.out); have E6 := Lib.hid ((hb.block D2 (lt_of_some XE.out)).trans XE.out); have K6 := Lib.hid (XK.out.below' hb); have d0 := X6.out.g_.cell 0; have d1 := X6.out.g_.cell 1; simp only [List.getElem?_toArray, List.getElem?_cons_zero, List.getElem?_cons_succ] at d0 d1; clear hb c0 c1) | (go_at_call 22; refine (CG.out _ X6.out.low).mono ?_; rintro e w7 ⟨⟨h, rfl, ht, hf⟩, hb⟩; have TW := Lib.hid ht; have FR := Lib.hid hf; have HB7 := Lib.hid hb; clear ht hf hb d0 d1) | (refine wpList_store_whole rfl 25 (.tmp 14) (.tmp 68) rfl w7.heap.size #[.slice h.RA h.rules.length h.rc, .slice h.NA h.nodes.length h.nc] rfl rfl 25 _ (Blk.new _ _ _) (by kernel_rfl) (by rfl) (by simp [Value.oneCell']) ?_; intro w8 hk hg; have HB8 := Lib.hid (grown_below (B1 w7 _) (by simp) hg (fun k e => by cases e; exact Nat.le_refl _)); have KH := Lib.hid hk; clear hk hg))
          have X8 := Lib.hid ((X6.out.grow HB7.out).grow HB8.out)
          have D8 := Lib.hid ((HB8.out.block D (lt_of_some ((HB7.out.block D (lt_of_some D6.out)).trans D6.out))).trans ((HB7.out.block D (lt_of_some D6.out)).trans D6.out))
          have E8 := Lib.hid ((HB8.out.block D2 (lt_of_some ((HB7.out.block D2 (lt_of_some E6.out)).trans E6.out))).trans ((HB7.out.block D2 (lt_of_some E6.out)).trans E6.out))
          have K8 := Lib.hid ((K6.out.below' HB7.out).below' HB8.out)
          have F8 := Lib.hid (FR.out.below HB8.out)
          have A8 := Lib.hid (HG.out.below X8.out.low)
          have AH := Lib.hid (F8.out.lies TW.out A8.out)
          obtain ⟨hb, ehb⟩ : ∃ b, b = w7.heap.size := ⟨_, rfl⟩
          have LL : RowKit.Hid (mb < w6.heap.size ∧ lb < w6.heap.size ∧ D < w6.heap.size ∧ D2 < w6.heap.size ∧ hb = w7.heap.size ∧ w6.heap.size ≤ w7.heap.size) := Lib.hid ⟨X6.out.m.lt, K6.out.lt, lt_of_some D6.out, lt_of_some E6.out, ehb, HB7.out.size⟩
          rw [← ehb] at KH ⊢
          clear ehb HB7 HB8 FR D6 E6 K6 RI CG
          have hm0 := Int.emod_nonneg at_ (show (g.nodes.length : Int) ≠ 0 by omega)
          have hm1 := Int.emod_lt_of_pos at_ (show (0 : Int) < g.nodes.length by omega)
          have PK2 := Lib.hid (fun W => pick_any at_ g.nodes.length HT.out.2.2.2 (by omega) W)
          obtain ⟨m, em⟩ : ∃ m : Nat, (m : Int) = at_ % (g.nodes.length : Int) := ⟨(at_ % (g.nodes.length : Int)).toNat, by omega⟩
          rw [← em] at PK2 hm1
          have hgm : m < h.nodes.length := by have := TW.out.len; omega
          have hgl : g.nodes.length = h.nodes.length := TW.out.len.symm
          have SG : RowKit.Hid (sameGr h g = true) := Lib.hid (TW.out.same)
          obtain ⟨b2, o2, eN, _, _, _, _, _, _, _, _, _, c8⟩ := AH.out.nodes.nine hgm
          have TN := Lib.hid (fun (hk : 0 < (h.nodes.getD m Nd.zero).kids.length) v hv => turn_not HM.out TW.out hgm hk (v := v) hv)
          have TL := Lib.hid (fun (hk : 0 < (h.nodes.getD m Nd.zero).kids.length) => turn_lies HM.out TW.out F8.out AH.out hgm hk)
          have KB := Lib.hid (fun (hk : 0 < (h.nodes.getD m Nd.zero).kids.length) => show (h.nodes.getD m Nd.zero).kids.getD ((h.nodes.getD m Nd.zero).kids.length - 1) 0 < h.nodes.length ∧ 0 ≤ (h.nodes.getD m Nd.zero).kids.getD ((h.nodes.getD m Nd.zero).kids.length - 1) 0 from by
            have e := TW.out.kids m (by omega)
            have := kid_lt HM.out (j := m) (by omega) ((h.nodes.getD m Nd.zero).kids.getD ((h.nodes.getD m Nd.zero).kids.length - 1) 0) (by
              rw [← e]
              show _ ∈ (h.nodes.getD m Nd.zero).kids
              exact getD_mem (by omega))
            omega)
          have HKL : RowKit.Hid ((h.nodes.getD m Nd.zero).kids.length ≤ 1000000) := Lib.hid (by
            have e := TW.out.kids m (by omega)
            have := (SM.out.kids _ (getD_mem (z := Nd.zero) (show m < g.nodes.length by omega))).1
            unfold kidsOf at e
            rw [e]
            exact this)
          have TI := Lib.hid (fun k => turn_within (TW.out.within hin) hgm k)
          have kg0 := X8.out.g_.cell 0; have kg1 := X8.out.g_.cell 1
          have kh0 := KH.out.cell 0; have kh1 := KH.out.cell 1
          simp only [List.getElem?_toArray, List.getElem?_cons_zero, List.getElem?_cons_succ] at kg0 kg1 kh0 kh1
          rw [eN] at kh1
          have EN2 := Lib.hid eN
          have hml : (m : Int) < h.nodes.length := by omega
          generalize hx : h.nodes.getD m Nd.zero = x at c8 TN TL KB HKL
          have HX := Lib.hid hx
          clear hm0 em eN hx hm1 hgm
          have HGL := Lib.hid hgl
          clear hgl
          by_cases hk : x.kids.length = 0
          · have HK0 := Lib.hid hk
            rw [hk] at c8
            have SM2 := Lib.hid (fun (w' : World) (q : Below w8.heap.size w8 w') => by have := sameGram_any h g w' (AH.out.below q) (A8.out.below q); rw [SG.out] at this; unfold Gr.val at this; rw [EN2.out] at this; exact this)
            clear hk
            go_wp2_with (first | (go_at_call 20; refine (PK2.out _).mono ?_; rintro e w10 ⟨rfl, rfl⟩) | (go_at_call 23; refine (SM2.out _ (Below.refl _ _)).mono ?_; rintro e w10 ⟨rfl, hb⟩; have X10 := Lib.hid (X8.out.grow hb); have D10 := Lib.hid ((hb.block D (lt_of_some D8.out)).trans D8.out); have E10 := Lib.hid ((hb.block D2 (lt_of_some E8.out)).trans E8.out); have K10 := Lib.hid (K8.out.below' hb); have kl := K10.out.cell 0; have cr := X10.out.r.cell 0; have fr := X10.out.r.frozen 0; simp only [List.getElem?_toArray, List.getElem?_cons_zero] at kl cr; clear hb))
            exact fin2 rfl D10.out E10.out ND.out.1 X10.out.r X10.out.low ND.out.2.1 ND.out.2.2 (by have := X10.out.ne; omega)
          · have hk0 : 0 < x.kids.length := by omega
            obtain ⟨b, eA, hB, ⟨vs, hvs⟩, hfr, hce, hat2⟩ := TL.out hk0
            have hv := KB.out hk0
            have hkl := HKL.out
            have tn := TN.out hk0
            obtain ⟨nn, enn⟩ : ∃ nn, nn = x.kids.length := ⟨_, rfl⟩
            obtain ⟨p, ep⟩ : ∃ p, p = nn - 1 := ⟨_, rfl⟩
            rw [← enn, ← ep] at hfr hce hat2 hv tn
            rw [← enn, eA] at c8
            rw [← enn] at hkl hk0
            obtain ⟨la, ela⟩ : ∃ la, la = x.kids.getD p 0 := ⟨_, rfl⟩
            rw [← ela] at hce hv tn
            have tn2 := tn (la + 1) (by omega)
            have at2 := hat2 (la + 1)
            obtain ⟨y, ey⟩ : ∃ y, y = turned h m (x.kids.set p (la + 1)) := ⟨_, rfl⟩
            have yv : y.val = .agg #[.slice h.RA h.rules.length h.rc, .slice h.NA h.nodes.length h.nc] := by rw [ey]; exact turn_val h m _
            have yi : Gr.In y := by rw [ey]; exact TI.out _
            rw [← ey] at tn2 at2
            have hne1 : ¬ (nn : Int) = 0 := by omega
            have hne2 : ¬ nn = 0 := by omega
            have hw1 : IntKind.i64.wrap ((nn : Int) - 1) = (p : Int) := (IntWalk.i64_in _ (by omega)).trans (by omega)
            have hw2 : IntKind.i64.wrap (la + 1) = la + 1 := IntWalk.i64_in _ (by have := HGL.out; omega)
            have hpn : (p : Int) < nn := by omega
            have hpn2 : p < nn := by omega
            have YY := Lib.hid (And.intro tn2 (And.intro at2 (And.intro yv (And.intro yi (And.intro hB hvs)))))
            clear tn2 at2 yv yi ey tn hat2 hv hkl TN TL KB TI HKL hk hk0 eA enn ep ela hB hvs
            go_upto_region 26 with (go_at_call 20; refine (PK2.out _).mono ?_; rintro e w10 ⟨rfl, rfl⟩)
            go_still_tail 18, (by kernel_rfl)
            change wpList _ _ _ _ _ w8.drew
            go_upto_region 27 with fail
            obtain ⟨w11, ew11⟩ : ∃ u, u = (w8.setCell ⟨b, p, none⟩ (.int .i64 (la + 1))).drew := ⟨_, rfl⟩
            rw [← ew11]
            have BB : RowKit.Hid (w6.heap.size ≤ b ∧ b ≠ hb ∧ b < w8.heap.size) := Lib.hid (by
              have hvs := YY.out.2.2.2.2.2
              refine ⟨YY.out.2.2.2.2.1, fun e => ?_, hvs.lt⟩
              rw [e] at hvs
              exact absurd (hvs.same_T KH.out) (by decide))
            have X11 : RowKit.Hid (WI w g n gb rb kb mb L w11) := Lib.hid (by rw [ew11]; exact (X8.out.far (c := b) (j := p) (by have := LL.out; have := BB.out; omega) (by have := ND.out; have := LL.out; have := BB.out; omega) _).drew)
            have K11 : RowKit.Hid (Blk w11 lb #[.int .i64 0] 3) := Lib.hid (by rw [ew11]; exact blk_set (w := w8) K8.out (by have := LL.out; have := BB.out; omega))
            have KH11 : RowKit.Hid (Blk w11 hb #[.slice h.RA h.rules.length h.rc, .slice h.NA h.nodes.length h.nc] 25) := Lib.hid (by rw [ew11]; exact blk_set (w := w8) KH.out (by have := BB.out; omega))
            have D11 : RowKit.Hid (w11.heap[D]? = some (.deferred (some []))) := Lib.hid (by rw [ew11]; exact (heap_setCell_other w8 ⟨b, p, none⟩ D _ (by show D ≠ b; have := LL.out; have := BB.out; omega)).trans D8.out)
            have E11 : RowKit.Hid (w11.heap[D2]? = some (.deferred (some []))) := Lib.hid (by rw [ew11]; exact (heap_setCell_other w8 ⟨b, p, none⟩ D2 _ (by show D2 ≠ b; have := LL.out; have := BB.out; omega)).trans E8.out)
            have A11 : RowKit.Hid (Gr.At w11 y) := Lib.hid (by rw [ew11]; exact YY.out.2.1.below (bdrew1 (Below.refl _ _)))
            have AG11 := Lib.hid (HG.out.below X11.out.low)
            have R15 := Lib.hid (by have := right_all y w11 A11.out YY.out.2.2.2.1; rw [YY.out.1.1, YY.out.2.2.1] at this; exact this)
            have R23 := Lib.hid (fun (w' : World) (q : Below w11.heap.size w11 w') => by have := sameGram_any y g w' (A11.out.below q) (AG11.out.below q); rw [YY.out.1.2, YY.out.2.2.1] at this; unfold Gr.val at this; exact this)
            have kg0 := X11.out.g_.cell 0; have kg1 := X11.out.g_.cell 1
            have kh0 := KH11.out.cell 0; have kh1 := KH11.out.cell 1
            simp only [List.getElem?_toArray, List.getElem?_cons_zero, List.getElem?_cons_succ] at kg0 kg1 kh0 kh1
            clear ew11 hce hfr c8 hw1 hw2 hpn hpn2 hne1 hne2 hml
            go_wp2_with (first | (go_at_call 15; refine (R15.out).mono ?_; rintro e w12 ⟨rfl, hb⟩; have Q12 := Lib.hid hb; have X12 := Lib.hid (X11.out.grow hb); have D12 := Lib.hid ((hb.block D (lt_of_some D11.out)).trans D11.out); have E12 := Lib.hid ((hb.block D2 (lt_of_some E11.out)).trans E11.out); have K12 := Lib.hid (K11.out.below' hb); have kg0 := X12.out.g_.cell 0; have kg1 := X12.out.g_.cell 1; have KH12 := Lib.hid (KH11.out.below' hb); have kh0 := KH12.out.cell 0; have kh1 := KH12.out.cell 1; simp only [List.getElem?_toArray, List.getElem?_cons_zero, List.getElem?_cons_succ] at kg0 kg1 kh0 kh1; clear hb) | (go_at_call 23; refine (R23.out _ Q12.out).mono ?_; rintro e w10 ⟨rfl, hb⟩; have X10 := Lib.hid (X12.out.grow hb); have D10 := Lib.hid ((hb.block D (lt_of_some D12.out)).trans D12.out); have E10 := Lib.hid ((hb.block D2 (lt_of_some E12.out)).trans E12.out); have K10 := Lib.hid (K12.out.below' hb); have kl := K10.out.cell 0; have cr := X10.out.r.cell 0; have fr := X10.out.r.frozen 0; simp only [List.getElem?_toArray, List.getElem?_cons_zero] at kl cr; clear hb))
            exact fin2 rfl D10.out E10.out ND.out.1 X10.out.r X10.out.low ND.out.2.1 ND.out.2.2 (by have := X10.out.ne; omega)
        · have RI := Lib.hid (fun (w' : World) (b : Below w.heap.size w w') => by have := right_all g w' (HG.out.below b) hin; rw [rightB_false.2 hr] at this; exact this)
          obtain rfl := HL0.out hr
          have c0 := XI.out.g_.cell 0; have c1 := XI.out.g_.cell 1
          simp only [List.getElem?_toArray, List.getElem?_cons_zero, List.getElem?_cons_succ] at c0 c1
          clear hr
          go_wp2_with (go_at_call 15; refine (RI.out _ XI.out.low).mono ?_; rintro e w6 ⟨rfl, hb⟩; have X6 := Lib.hid (XI.out.grow hb); have D6 := Lib.hid ((hb.block D (lt_of_some XD.out)).trans XD.out); have E6 := Lib.hid ((hb.block D2 (lt_of_some XE.out)).trans XE.out); have cm := X6.out.m.cell 0; have cr := X6.out.r.cell 0; have fr := X6.out.r.frozen 0; simp only [List.getElem?_toArray, List.getElem?_cons_zero] at cm cr; clear hb)
          exact fin2 rfl D6.out E6.out ND.out.1 X6.out.r X6.out.low ND.out.2.1 ND.out.2.2 (by have := X6.out.ne; omega)
end Go.Proofs.Ytfdfcagkfnckmaa

/- What lies while one goes through what is reached. Nothing here walks the program. -/
import Derived.Test.YtfghfnpiaccfaaaGreatDoorD2
import Derived.Test.YtfghfnpiaccfaaaGreatDoorU2
import Derived.RangeFuncLeaves
import Derived.Test.YtfghfnpiaccfaaaGreatDoorJ5
set_option linter.unusedSimpArgs false
set_option linter.unusedVariables false
namespace Go.Proofs.YtfghfnpiaccfaaaGreatDoor.J
open Go Go.RowKit
theorem own_ne {w : World} {base e size n b : Nat} {v : Value} {xs : List Value} {vs : Array Value} {T : TypeId} (h : w.ownsRow base e size v n xs) (hb : Blk w b vs T) (hT : T ≠ e) : v.ownBlock ≠ some b := by
  rcases h.2 with ⟨rfl, _⟩ | ⟨g, cap, cur, rfl, _, hg, _⟩
  · simp [Value.ownBlock]
  · simp only [Value.ownBlock, ne_eq, Option.some.injEq]
    rintro rfl
    rw [show w.heap[g]? = _ from hb] at hg
    cases hg
    exact hT rfl
theorem own_take {w : World} {base e n k g cap : Nat} {xs : List Value} (h : w.ownsRow base e 1 (.slice (some ⟨g, 0, none⟩) n cap) n xs) (hk : k ≤ n) : w.ownsRow base e 1 (.slice (some ⟨g, 0, none⟩) k cap) k (xs.take k) := by
  have hl := h.1
  rcases h.2 with ⟨h', _⟩ | ⟨g', cap', cur, h', hb, hg, hnc, hcm, hcs, htake⟩
  · simp at h'
  · simp only [Value.slice.injEq, Option.some.injEq, Addr.mk.injEq, and_true, true_and] at h'
    obtain ⟨rfl, rfl⟩ := h'
    refine ⟨by simp; omega, .inr ⟨g, cap, cur, rfl, hb, hg, by omega, hcm, hcs, ?_⟩⟩
    rw [← htake, List.take_take]
    congr 1
    omega
theorem own_one {w : World} {base e b : Nat} {u : Value} (h : Blk w b #[u] e) (hb : base ≤ b) : w.ownsRow base e 1 (.slice (some ⟨b, 0, none⟩) 1 1) 1 [u] :=
  ⟨rfl, .inr ⟨b, 1, #[u], rfl, hb, h, Nat.le_refl _, by unfold maxLen; omega, rfl, rfl⟩⟩
theorem own_cell {w : World} {base e size n b : Nat} {v : Value} {xs : List Value} {vs : Array Value} {T : TypeId} (h : w.ownsRow base e size v n xs) (hb : Blk w b vs T) (hT : T ≠ e) (o : Nat) (u : Value) : (w.setCell ⟨b, o, none⟩ u).ownsRow base e size v n xs := by
  have hne := own_ne h hb hT
  refine ⟨h.1, ?_⟩
  rcases h.2 with hn | ⟨g, cap, cur, rfl, hbg, hg, rest⟩
  · exact .inl hn
  · exact .inr ⟨g, cap, cur, rfl, hbg, (heap_setCell_other w ⟨b, o, none⟩ g u (fun e => hne (by rw [Value.ownBlock]; exact congrArg some e))).trans hg, rest⟩
theorem blk_cell {w : World} {b d : Nat} {vs : Array Value} {T : TypeId} (h : Blk w d vs T) (hne : d ≠ b) (o : Nat) (u : Value) : Blk (w.setCell ⟨b, o, none⟩ u) d vs T := (heap_setCell_other w ⟨b, o, none⟩ d u hne).trans h
/-- Where things lie while one goes: what is asked, the marks, those put aside. -/
structure RSt (w : World) (g : Gr) (x d3 d4 : Nat) (W : World) (s : Aw) (v : Value) : Prop where
  ord : w.heap.size + 1 < d3 ∧ d3 < d4
  b1 : Blk W w.heap.size (askC g x) 126
  met : MetAt W (w.heap.size + 1) s.1
  b3 : Blk W (d3) #[.slice (some ⟨w.heap.size + 1, 0, none⟩) g.rules.length g.rules.length] 132
  b4 : Blk W (d4) #[v] 33
  own : W.ownsRow (d3 + 1) 3 1 v s.2.length (ints (nums s.2))
  low : Below w.heap.size w W
variable {w W : World} {g : Gr} {x d3 d4 : Nat} {s : Aw} {v : Value}
theorem RSt.grow (h : RSt w g x d3 d4 W s v) {W' : World} (hb : Below W.heap.size W W') : RSt w g x d3 d4 W' s v :=
  ⟨h.ord, h.b1.below' hb, h.met.below hb, h.b3.below' hb, h.b4.below' hb, own_below h.own hb, h.low.trans (hb.mono h.low.size)⟩
theorem RSt.put (h : RSt w g x d3 d4 W s v) {b : Nat} {lp : Loop} (hl : W.heap[b]? = some (.loop lp)) (hb : w.heap.size ≤ b) (o : Obj) : RSt w g x d3 d4 (W.putObj b o) s v :=
  ⟨h.ord, blk_put h.b1 hl o, blk_put h.met hl o, blk_put h.b3 hl o, blk_put h.b4 hl o, own_put h.own hl o, h.low.trans (below_putObj W b _ o hb)⟩
/-- All but the marks, those put aside, stays. -/
def Kp (w : World) (d4 : Nat) (v : Value) (W W' : World) : Prop := W.heap.size ≤ W'.heap.size ∧ ∀ k, k < W.heap.size → k ≠ w.heap.size + 1 → k ≠ d4 → v.ownBlock ≠ some k → W'.heap[k]? = W.heap[k]?
theorem Kp.holds {W' : World} (h : RSt w g x d3 d4 W s v) (k : Kp w d4 v W W') {D : Nat} (hD : d4 < D) (h1 : W.heap[D]? = some (.deferred (some []))) (h2 : ∃ lp, W.heap[D + 1]? = some (.loop lp)) : Holds (fun j => j < w.heap.size ∨ j = D ∨ j = D + 1) W W' := by
  obtain ⟨lp, h2⟩ := h2
  refine ⟨k.1, fun j hj => k.2 j ?_ ?_ ?_ ?_⟩
  · have := h.low.size
    have q1 := (Array.getElem?_eq_some_iff.1 h1).1
    have q2 := (Array.getElem?_eq_some_iff.1 h2).1
    have := h.ord
    rcases hj with hj | rfl | rfl <;> omega
  · have := h.ord; omega
  · have := h.ord; omega
  · intro e
    rcases h.own.2 with ⟨rfl, _⟩ | ⟨g', cap, cur, rfl, hb, hg, _⟩
    · simp [Value.ownBlock] at e
    · simp only [Value.ownBlock, Option.some.injEq] at e
      subst e
      rcases hj with hj | rfl | rfl
      · have := h.ord; omega
      · rw [h1] at hg; cases hg
      · rw [h2] at hg; cases hg
theorem met_set {W : World} {b : Nat} {m : List Bool} (h : MetAt W b m) (c : Nat) : MetAt (W.setCell ⟨b, c, none⟩ (.bool true)) b (m.set c true) := by
  have := heap_setCell_same W b c (m.map Value.bool).toArray 4 (.bool true) h
  show (W.setCell ⟨b, c, none⟩ (.bool true)).heap[b]? = some (.cells ((m.set c true).map Value.bool).toArray 4 (0, 0))
  rw [this]
  congr 2
  simp [List.map_set]
theorem cell_new_at {w : World} {n : Nat} (h : w.heap.size = n) (x : Value) (t : TypeId) : ∀ j u, [x][j]? = some u → (w.alloc (.cells #[x] t)).cell? ((⟨n, 0, none⟩ : Addr).add j) = some u := by subst h; exact cell_one_new w x t
/-- A mark is set. -/
theorem RSt.mark (h : RSt w g x d3 d4 W s v) {c : Nat} : RSt w g x d3 d4 (W.setCell ⟨w.heap.size + 1, c, none⟩ (.bool true)) (s.1.set c true, s.2) v ∧ Kp w d4 v W (W.setCell ⟨w.heap.size + 1, c, none⟩ (.bool true)) := by
  refine ⟨⟨h.ord, blk_cell h.b1 (by have := h.ord; omega) _ _, ?_, blk_cell h.b3 (by have := h.ord; omega) _ _, blk_cell h.b4 (by have := h.ord; omega) _ _, own_cell h.own h.met (by decide) _ _, h.low.setCell (p := ⟨w.heap.size + 1, c, none⟩) (by show w.heap.size ≤ w.heap.size + 1; have := h.ord; omega) _⟩, by simp [World.setCell], fun k hk h1 _ _ => heap_setCell_other W ⟨w.heap.size + 1, c, none⟩ k _ h1⟩
  have := heap_setCell_same W (w.heap.size + 1) c (s.1.map Value.bool).toArray 4 (.bool true) h.met
  show (W.setCell ⟨w.heap.size + 1, c, none⟩ (.bool true)).heap[w.heap.size + 1]? = some (.cells ((s.1.set c true).map Value.bool).toArray 4 (0, 0))
  rw [this]
  congr 2
  simp [List.map_set]
/-- One is put aside. -/
theorem RSt.aside (h : RSt w g x d3 d4 W s v) {c : Nat} {W2 : World} {v' : Value} (ho : W2.ownsRow (d3 + 1) 3 1 v' (s.2.length + 1) (ints (nums s.2) ++ [.int .i64 c])) (hg : (W.alloc (.cells #[.int .i64 c] 3)).grownBy W2 v.ownBlock) :
    RSt w g x d3 d4 (W2.setCell ⟨d4, 0, none⟩ v') (s.1, s.2 ++ [c]) v' ∧ Kp w d4 v W (W2.setCell ⟨d4, 0, none⟩ v') ∧ Blk W2 (d4) #[v] 33 := by
  have hk : ∀ {d : Nat} {vs : Array Value} {T : TypeId}, Blk W d vs T → T ≠ 3 → Blk W2 d vs T := fun hB hT =>
    (hg.block _ (by have := hB.lt; simp; have := h.ord; omega) (fun e2 => own_ne h.own hB hT e2.symm)).trans ((Below.heap_alloc W _ _ hB.lt).trans hB)
  have h4 : Blk W2 (d4) #[v] 33 := hk h.b4 (by decide)
  have hlow : Below w.heap.size w W2 := grown_below (w := W.alloc _) (h.low.trans ((B1 W _).mono h.low.size)) (by have := h.low.size; simp; have := h.ord; omega) hg (fun k e => by have := (h.own.lt k e).1; have := h.ord; omega)
  refine ⟨⟨h.ord, blk_cell (hk h.b1 (by decide)) (by have := h.ord; omega) _ _, blk_cell (hk h.met (by decide)) (by have := h.ord; omega) _ _, blk_cell (hk h.b3 (by decide)) (by have := h.ord; omega) _ _, heap_setCell_same W2 (d4) 0 #[v] _ v' h4, ?_, hlow.setCell (p := ⟨d4, 0, none⟩) (by show w.heap.size ≤ d4; have := h.ord; omega) _⟩, ⟨?_, fun k hk1 h1 h2 h3 => ?_⟩, h4⟩
  · rw [nums_app, List.length_append]
    have := own_cell ho h4 (by decide) 0 v'
    simpa [ints] using this
  · have := hg.size; simp [World.setCell] at this ⊢; omega
  · exact (heap_setCell_other W2 ⟨d4, 0, none⟩ k _ h2).trans ((hg.block k (by simp; have := h.ord; omega) (fun e => h3 e.symm)).trans (Below.heap_alloc W _ k hk1))
/-- The last one of those put aside is taken. -/
theorem RSt.pop {m : List Bool} {l : List Nat} {r : Nat} (h : RSt w g x d3 d4 W (m, l ++ [r]) v) : ∃ g' cap, v = .slice (some ⟨g', 0, none⟩) (l.length + 1) cap ∧ W.cell? ⟨g', l.length, none⟩ = some (.int .i64 r) ∧ l.length + 1 ≤ cap ∧
    RSt w g x d3 d4 (W.setCell ⟨d4, 0, none⟩ (.slice (some ⟨g', 0, none⟩) l.length cap)) (m, l) (.slice (some ⟨g', 0, none⟩) l.length cap) := by
  have ho := h.own
  simp only [List.length_append, List.length_singleton] at ho
  obtain ⟨g', cap, rfl, _, hle, _⟩ := own_shape ho (by have := h.ord; omega)
  refine ⟨g', cap, rfl, ?_, hle, h.ord, blk_cell h.b1 (by have := h.ord; omega) _ _, blk_cell h.met (by have := h.ord; omega) _ _, blk_cell h.b3 (by have := h.ord; omega) _ _, heap_setCell_same W (d4) 0 _ _ _ h.b4, ?_, h.low.setCell (p := ⟨d4, 0, none⟩) (by show w.heap.size ≤ d4; have := h.ord; omega) _⟩
  · rw [ho.cellAt l.length (by have := h.ord; omega)]
    simp [ints, nums]
  · have h2 := own_cell (own_take ho (show l.length ≤ l.length + 1 by have := h.ord; omega)) h.b4 (by decide) 0 (.slice (some ⟨g', 0, none⟩) l.length cap)
    have e : (ints (nums (l ++ [r]))).take l.length = ints (nums l) := by simp [ints, nums]
    rw [e] at h2
    exact h2
/-- How much is left to be done, as memory tells it. -/
def isT : Option Value → Bool
  | some (.bool b) => b
  | _ => false
def muOf (w : World) (d4 n : Nat) (W : World) : Nat :=
  2 * unmet ((List.range n).map fun i => isT (W.cell? ⟨w.heap.size + 1, i, none⟩)) + match W.cell? ⟨d4, 0, none⟩ with
    | some (.slice _ k _) => k
    | _ => 0
theorem RSt.mu (h : RSt w g x d3 d4 W s v) (hn : s.1.length = g.rules.length) : muOf w d4 g.rules.length W = J.mu s := by
  have e1 : ((List.range g.rules.length).map fun i => isT (W.cell? ⟨w.heap.size + 1, i, none⟩)) = s.1 := by
    apply List.ext_getElem
    · simp [hn]
    · intro i h1 h2
      have := h.met.cell h2
      simp only [List.getElem_map, List.getElem_range, this]
      simp [List.getD, h2, isT]
  obtain ⟨A, c, rfl, _, _⟩ := own_slice h.own
  have e2 : W.cell? ⟨d4, 0, none⟩ = some (.slice A s.2.length c) := h.b4.cell 0
  unfold muOf J.mu
  rw [e1, e2]
/-- The marks of ranges that are behind one. -/
structure DOK (d4 : Nat) (dl : List Nat) (W : World) : Prop where
  nodup : dl.Nodup
  each : ∀ D ∈ dl, d4 < D ∧ W.heap[D]? = some (.deferred (some []))
theorem DOK.grow {d4 : Nat} {dl : List Nat} {W W' : World} (h : DOK d4 dl W) (hb : Below W.heap.size W W') : DOK d4 dl W' := ⟨h.nodup, fun D hD => ⟨(h.each D hD).1, (hb.block D (Array.getElem?_eq_some_iff.1 (h.each D hD).2).1).trans (h.each D hD).2⟩⟩
theorem DOK.put {d4 : Nat} {dl : List Nat} {W : World} (h : DOK d4 dl W) {b : Nat} {lp : Loop} (hl : W.heap[b]? = some (.loop lp)) (o : Obj) : DOK d4 dl (W.putObj b o) := ⟨h.nodup, fun D hD => ⟨(h.each D hD).1, (World.putObj_heap_other (fun e => by have h2 := (h.each D hD).2; rw [e] at h2; rw [hl] at h2; cases h2)).trans (h.each D hD).2⟩⟩
theorem DOK.cell {d4 b : Nat} {dl : List Nat} {W : World} (h : DOK d4 dl W) (hb : b ≤ d4) (o : Nat) (u : Value) : DOK d4 dl (W.setCell ⟨b, o, none⟩ u) := ⟨h.nodup, fun D hD => ⟨(h.each D hD).1, (heap_setCell_other W ⟨b, o, none⟩ D u (by have := (h.each D hD).1; show D ≠ b; omega)).trans (h.each D hD).2⟩⟩
theorem DOK.kp {dl : List Nat} {W' : World} (d : DOK d4 dl W) (h : RSt w g x d3 d4 W s v) (k : Kp w d4 v W W') : DOK d4 dl W' := by
  refine ⟨d.nodup, fun D hD => ?_⟩
  obtain ⟨h1, h2⟩ := d.each D hD
  refine ⟨h1, (k.2 D (Array.getElem?_eq_some_iff.1 h2).1 (by have := h.ord; omega) (by omega) ?_).trans h2⟩
  intro e
  rcases h.own.2 with ⟨rfl, _⟩ | ⟨g', cap, cur, rfl, hb, hg, _⟩
  · simp [Value.ownBlock] at e
  · simp only [Value.ownBlock, Option.some.injEq] at e
    subst e
    rw [h2] at hg
    cases hg
theorem DOK.cons {d4 D : Nat} {dl : List Nat} {W : World} (h : DOK d4 dl W) (hD : d4 < D) (hn : D ∉ dl) (hW : W.heap[D]? = some (.deferred (some []))) : DOK d4 (D :: dl) W := ⟨List.nodup_cons.2 ⟨hn, h.nodup⟩, fun E hE => by
  rcases List.mem_cons.1 hE with rfl | hE
  · exact ⟨hD, hW⟩
  · exact h.each E hE⟩
def mkD (D : Nat) : Deferred := { target := .collected D, args := #[] }
theorem leaves_dl {F : Fence} {n B : Nat} {P : Program} {fn : Func} {tmps : Array Value} {R : Ending → World → Prop} : ∀ (dl : List Nat) (W : World), DOK B dl W → (∀ W', Below (B + 1) W W' → LeavesIn F n P fn tmps R [] .returning W') → LeavesInM F n P fn tmps R (dl.map mkD) .returning W
  | [], W, _, h => h W (Below.refl _ _)
  | D :: dl, W, hd, h => by
    obtain ⟨h1, h2⟩ := hd.each D List.mem_cons_self
    refine ⟨by simp, .inl ⟨D, _, rfl, run_takeDeferred h2, leaves_dl dl _ ⟨(List.nodup_cons.1 hd.nodup).2, fun E hE => ⟨(hd.each E (List.mem_cons_of_mem _ hE)).1, (World.putObj_heap_other (fun e => (List.nodup_cons.1 hd.nodup).1 (by rw [← e]; exact hE))).trans (hd.each E (List.mem_cons_of_mem _ hE)).2⟩⟩ fun W' hb => h W' ((below_putObj W D (B + 1) _ (by omega)).trans hb)⟩⟩
end Go.Proofs.YtfghfnpiaccfaaaGreatDoor.J
namespace Go.Proofs.YtfghfnpiaccfaaaGreatDoor.J
open Go Go.RowKit Go.Shelf
attribute [local go_sem] Oper.semAt_some
theorem Tryz.infoB : (Tryz.prog.info? 4).map (fun i => (i.zero, i.size, i.bytes)) = some (some (.bool false), 1, 1) := by kernel_rfl
theorem met_made {w : World} {base b n : Nat} (h : w.ownsRow base 4 1 (.slice (some ⟨b, 0, none⟩) n n) n (madeCells (Value.bool false).cells (n * 1)).toList) : MetAt w b (List.replicate n false) := by
  rcases h.2 with ⟨h', _⟩ | ⟨g', cap', cur, h', hb, hg, hnc, hcm, hcs, htake⟩
  · simp at h'
  · simp only [Value.slice.injEq, Option.some.injEq, Addr.mk.injEq, and_true, true_and] at h'
    obtain ⟨rfl, rfl⟩ := h'
    have e : cur = ((List.replicate n false).map Value.bool).toArray := by
      apply Array.toList_inj.1
      rw [← List.take_length (l := cur.toList), Array.length_toList, hcs, htake]
      show (madeCells #[Value.bool false] (n * 1)).toList = _
      rw [toList_madeCells_one]
      simp
    subst e
    exact hg
set_option maxRecDepth 100000 in
set_option maxHeartbeats 8000000 in
theorem reached_any (g : Gr) (x : Nat) (w : World) (hg : Gr.At w g) (hl : Lain g) (hcap : g.nodes.length ≤ g.nc) (hx : x < g.rules.length) :
    Calls Tryz.prog 79 #[askV g x] w fun e w' => (∃ b m, e = .returned (.slice (some ⟨b, 0, none⟩) g.rules.length g.rules.length) ∧ m.length = g.rules.length ∧ MetAt w' b m ∧ ∀ r, m.getD r false = true ↔ Reach (cal g) x r) ∧ Below w.heap.size w w' := by
  obtain ⟨i0, hi, hz0, hz1, hz2⟩ := info_parts Tryz.infoB
  have h32 := hl.n32
  have HG := Lib.hid hg
  have HL := Lib.hid hl
  have HC := Lib.hid hcap
  obtain ⟨n, en⟩ : ∃ n, n = g.rules.length := ⟨_, rfl⟩
  have EN := Lib.hid en
  rw [← en] at h32 hx
  clear hg hl hcap
  refine (callsIn_wide (n := 12)).1 ?_
  show CallsIn _ _ Tryz.prog 79 #[.agg #[.slice g.RA g.rules.length g.rc, .slice g.NA g.nodes.length g.nc, .int .i64 x]] w _
  rw [← en]
  clear en
  refine callsIn_of_wp_marks Tryz.func79 rfl trivial ?_ rfl
  simp only [Tryz.ntmps79, List.size_toArray, List.length_cons, List.length_nil, Nat.reduceAdd, Nat.reduceSub, Array.replicate_succ, Array.replicate_zero, List.push_toArray, List.append_toArray, List.nil_append, List.cons_append]
  refine wpIn_wide.2 ?_
  go_upto_region 2 with (first | (at_make; refine wpList_make_full _ rfl _ _ 132 rfl w.heap.size 4 i0 (.bool false) 1 Tryz.underlying132 hi hz0 hz1 .i64 .i64 _ _ n rfl rfl rfl rfl (by rw [hz2]; omega) (by unfold maxLen; omega) (by simp) ?_; intro w0 hown0 hgrow0; have O0 := Lib.hid hown0; have G0 := Lib.hid hgrow0; clear hown0 hgrow0))
  obtain ⟨d3, ed3⟩ : ∃ u, u = w0.heap.size := ⟨_, rfl⟩
  obtain ⟨w1, ew1⟩ : ∃ u, u = w0.alloc (.cells #[.slice (some ⟨w.heap.size + 1, 0, none⟩) n n] 132) := ⟨_, rfl⟩
  have hz1' : w1.heap.size = d3 + 1 := by rw [ew1, ed3]; simp
  have hm0 : MetAt w0 (w.heap.size + 1) (List.replicate n false) := by have := met_made O0.out; rw [World.size_alloc] at this; exact this
  have hlt : w.heap.size + 1 < d3 := by rw [ed3]; exact hm0.lt
  have ka : Blk w1 w.heap.size (askC g x) 126 := by
    rw [ew1]
    refine ((Blk.grown (row := none) ?_ G0.out (by simp)).alloc _)
    rw [show askC g x = #[.slice g.RA n g.rc, .slice g.NA g.nodes.length g.nc, .int .i64 x] by rw [EN.out]]
    exact Blk.new w _ _
  have km : MetAt w1 (w.heap.size + 1) (List.replicate n false) := by rw [ew1]; exact hm0.below (B1 _ _)
  have k3 : Blk w1 d3 #[.slice (some ⟨w.heap.size + 1, 0, none⟩) n n] 132 := by rw [ew1, ed3]; exact Blk.new _ _ _
  have hlow : Below w.heap.size w w1 := by
    rw [ew1]
    have h1 : Below w.heap.size w w0 := grown_below (B1 w _) (by simp) G0.out (fun k e => by cases e)
    exact h1.trans ((B1 w0 _).mono (by omega))
  rw [← ew1, ← ed3]
  have a2 : w1.cell? ⟨w.heap.size, 2, none⟩ = some (.int .i64 x) := ka.cell 2
  have a3 : w1.cell? ⟨d3, 0, none⟩ = some (.slice (some ⟨w.heap.size + 1, 0, none⟩) n n) := k3.cell 0
  have a4 := km.cell (show x < (List.replicate n false).length by simpa using hx)
  have f4 := Blk.frozen km x
  have hxn : (x : Int) < n := by omega
  obtain ⟨w2, ew2⟩ : ∃ u, u = w1.setCell ⟨w.heap.size + 1, x, none⟩ (.bool true) := ⟨_, rfl⟩
  have ka2 : Blk w2 w.heap.size (askC g x) 126 := by rw [ew2]; exact blk_cell ka (by omega) _ _
  have k32 : Blk w2 d3 #[.slice (some ⟨w.heap.size + 1, 0, none⟩) n n] 132 := by rw [ew2]; exact blk_cell k3 (by omega) _ _
  have km2 : MetAt w2 (w.heap.size + 1) ((List.replicate n false).set x true) := by
    rw [ew2]; exact met_set km x
  have hlow2 : Below w.heap.size w w2 := by rw [ew2]; exact hlow.setCell (p := ⟨w.heap.size + 1, x, none⟩) (by show w.heap.size ≤ w.heap.size + 1; omega) _
  have hz2' : w2.heap.size = d3 + 1 := by rw [ew2]; simpa [World.setCell] using hz1'
  have KA2 := Lib.hid ka2
  have K32 := Lib.hid k32
  have KM2 := Lib.hid km2
  have HL2 := Lib.hid hlow2
  have HZ2 := Lib.hid hz2'
  have LT := Lib.hid hlt
  have EW2 := Lib.hid ew2
  clear ew1 ed3 hz1' hm0 hlt ka km k3 hlow ew2 ka2 k32 km2 hlow2 hz2' O0 G0
  go_upto_region 3 with fail
  rw [← EW2.out]
  clear a2 a3 a4 f4
  have a2 : w2.cell? ⟨w.heap.size, 2, none⟩ = some (.int .i64 x) := KA2.out.cell 2
  obtain ⟨wl, ewl⟩ : ∃ u, u = (w2.alloc (.cells #[.int .i64 x] 3)).alloc (.cells #[.slice (some ⟨d3 + 1, 0, none⟩) 1 1] 33) := ⟨_, rfl⟩
  have R0 : RowKit.Hid (RSt w g x d3 (d3 + 2) wl ((List.replicate n false).set x true, [x]) (.slice (some ⟨d3 + 1, 0, none⟩) 1 1)) := Lib.hid (by
    have hb : Below w2.heap.size w2 wl := by rw [ewl]; exact B2 _ _ _
    have q1 : Blk wl (d3 + 1) #[.int .i64 x] 3 := by rw [ewl, ← HZ2.out]; exact (Blk.new _ _ _).alloc _
    have q2 : Blk wl (d3 + 2) #[.slice (some ⟨d3 + 1, 0, none⟩) 1 1] 33 := by
      rw [ewl]; have := Blk.new (w2.alloc (.cells #[.int .i64 x] 3)) #[.slice (some ⟨d3 + 1, 0, none⟩) 1 1] 33; rw [World.size_alloc, HZ2.out] at this; exact this
    exact ⟨⟨LT.out, by omega⟩, KA2.out.below' hb, KM2.out.below hb, by have := K32.out.below' hb; rw [EN.out] at this; exact this, q2, own_one q1 (Nat.le_refl _), HL2.out.trans (hb.mono HL2.out.size)⟩)
  have EWL := Lib.hid ewl
  have hzw := HZ2.out
  clear ewl KA2 K32 KM2 HL2
  go_wp2_with fail
  rw [← EWL.out]
  clear a2 hzw
  have hz2 : d3 + 1 + 1 = d3 + 2 := rfl
  rw [hz2]
  obtain ⟨d4, ed4⟩ : ∃ d, d = d3 + 2 := ⟨_, rfl⟩
  rw [← ed4] at R0 ⊢
  clear hz2 ed4 EWL
  refine wp_loop (fun a wr => ∃ (u5 u6 u19 u20 u21 u22 u23 u24 u25 u26 u27 u28 u29 u30 u31 u32 u33 u34 u35 u36 u37 u38 u39 u40 u41 u42 u43 u44 u45 u46 u47 u48 u49 : Value) (dl : List Nat) (s : Aw) (v : Value),
      a = { tmps := #[.agg #[.slice g.RA n g.rc, .slice g.NA g.nodes.length g.nc, .int .i64 x], .pointer (some ⟨w.heap.size, 0, none⟩), .slice none 0 0, .pointer (some ⟨d3, 0, none⟩), .pointer (some ⟨d4, 0, none⟩), u5, u6, .pointer (some ⟨w.heap.size, 0, none⟩), .pointer (some ⟨w.heap.size, 0, none⟩), .slice g.RA n g.rc, .int .i64 n, .slice (some ⟨w.heap.size + 1, 0, none⟩) n n, .slice (some ⟨w.heap.size + 1, 0, none⟩) n n, .pointer (some ⟨w.heap.size, 2, none⟩), .int .i64 x, .pointer (some ⟨w.heap.size + 1, x, none⟩), .pointer (some ⟨w.heap.size, 2, none⟩), .int .i64 x, .slice (some ⟨d3 + 1, 0, none⟩) 1 1, u19, u20, u21, u22, u23, u24, u25, u26, u27, u28, u29, u30, u31, u32, u33, u34, u35, u36, u37, u38, u39, u40, u41, u42, u43, u44, u45, u46, u47, u48, u49], defers := dl.map mkD } ∧
      RSt w g x d3 d4 wr s v ∧ Going (cal g) n x none s ∧ DOK d4 dl wr ∧ mu s ≤ 65) (fun _ wr => muOf w d4 g.rules.length wr) ?start ?round
  case start => exact ⟨_, _, _, _, _, _, _, _, _, _, _, _, _, _, _, _, _, _, _, _, _, _, _, _, _, _, _, _, _, _, _, _, _, [], _, _, rfl, R0.out, Going.start hx, ⟨List.nodup_nil, fun D h => by cases h⟩, by
      have := List.countP_le_length (p := fun b => !b) (l := (List.replicate n false).set x true)
      simp only [List.length_set, List.length_replicate] at this
      simp only [mu, unmet, List.length_singleton]
      omega⟩
  case round =>
    rintro a wr ⟨u5, u6, u19, u20, u21, u22, u23, u24, u25, u26, u27, u28, u29, u30, u31, u32, u33, u34, u35, u36, u37, u38, u39, u40, u41, u42, u43, u44, u45, u46, u47, u48, u49, dl, ⟨m, al⟩, v, rfl, hR, hGo, hD, hmu⟩
    have HR := Lib.hid hR
    have HGo := Lib.hid hGo
    have HD := Lib.hid hD
    have MU := Lib.hid (hR.mu (by rw [hGo.len, EN.out]))
    have a3 : wr.cell? ⟨d3, 0, none⟩ = some (.slice (some ⟨w.heap.size + 1, 0, none⟩) n n) := by have := hR.b3.cell 0; rw [← EN.out] at this; exact this
    have a4 : wr.cell? ⟨d4, 0, none⟩ = some v := hR.b4.cell 0
    have f4 := hR.b4.frozen 0
    clear hR hGo hD
    rcases List.eq_nil_or_concat al with rfl | ⟨l, r, rfl⟩
    · obtain ⟨A, c, rfl, _, _⟩ := own_slice HR.out.own
      clear a4
      have a4 : wr.cell? ⟨d4, 0, none⟩ = some (.slice A 0 c) := HR.out.b4.cell 0
      go_wp2_with fail
      refine leaves_dl dl wr HD.out (fun W' hb => ?_)
      have hd := HR.out.ord
      refine ⟨_, results_tmp rfl _ _ _, ⟨_, rfl, m, by rw [EN.out]; exact HGo.out.len.trans EN.out, Blk.below HR.out.met hb (by omega), fun r => ?_⟩, HR.out.low.trans (hb.mono (by omega))⟩
      have := HGo.out.done r
      simpa [List.getD_eq_getElem?_getD] using this
    · rw [List.concat_eq_append] at HR HGo MU hmu
      obtain ⟨g', cap, rfl, c5, hle, hR1⟩ := HR.out.pop
      have hrn : r < n := by have := met_lt (HGo.out.aside r (by simp)); rw [HGo.out.len] at this; exact this
      obtain ⟨k, ek⟩ : ∃ k, k = l.length := ⟨_, rfl⟩
      have EK := Lib.hid ek
      rw [← ek] at c5 hle hR1
      obtain ⟨W1, eW1⟩ : ∃ u, u = wr.setCell ⟨d4, 0, none⟩ (.slice (some ⟨g', 0, none⟩) k cap) := ⟨_, rfl⟩
      rw [← eW1] at hR1
      have R1 := Lib.hid hR1
      have EW1 := Lib.hid eW1
      have D1 : RowKit.Hid (DOK d4 dl W1) := Lib.hid (by rw [eW1]; exact HD.out.cell (Nat.le_refl _) _ _)
      clear a4 ek hR1 eW1
      have a4 : wr.cell? ⟨d4, 0, none⟩ = some (.slice (some ⟨g', 0, none⟩) (k + 1) cap) := by have := HR.out.b4.cell 0; rw [EK.out]; simpa using this
      obtain ⟨hGp, hmr, hmp⟩ := HGo.out.pop
      have hk : k ≤ 65 := by rw [EK.out]; simp only [mu, List.length_append, List.length_singleton] at hmp hmu; omega
      have HGP := Lib.hid hGp
      have HMP := Lib.hid hmp
      have HMU := Lib.hid hmu
      clear hGp hmr hmp hmu
      go_upto_region 7 with fail
      rw [← EW1.out]
      clear a3 f4 a4 c5
      have q0 : W1.cell? ⟨w.heap.size, 0, none⟩ = some (.slice g.RA g.rules.length g.rc) := R1.out.b1.cell 0
      have q1 : W1.cell? ⟨w.heap.size, 1, none⟩ = some (.slice g.NA g.nodes.length g.nc) := R1.out.b1.cell 1
      have q2 : W1.cell? ⟨w.heap.size, 2, none⟩ = some (.int .i64 x) := R1.out.b1.cell 2
      go_wp2_with (first | (go_at_call 127; refine (calls_any g x r _).mono ?_; rintro e w8 ⟨rfl, rfl⟩))
      clear q0 q1 q2
      obtain ⟨wc, ewc⟩ : ∃ u, u = (W1.alloc (.cells (askC g x) 126)).alloc (.cells #[.int .i64 r] 3) := ⟨_, rfl⟩
      rw [← ewc]
      have hbc : Below W1.heap.size W1 wc := by rw [ewc]; exact B2 _ _ _
      have hzc : wc.heap.size = W1.heap.size + 2 := by rw [ewc]; simp
      have kp : Blk wc W1.heap.size (askC g x) 126 := by rw [ewc]; exact (Blk.new _ _ _).alloc _
      have kq : Blk wc (W1.heap.size + 1) #[.int .i64 r] 3 := by rw [ewc]; have := Blk.new (W1.alloc (.cells (askC g x) 126)) #[.int .i64 r] 3; rw [World.size_alloc] at this; exact this
      have SQ := Lib.hid (calls_seq 11 (by omega) W1.heap.size (W1.heap.size + 1) g x r HL.out HC.out (by rw [← EN.out]; exact hrn) (fun k => k < w.heap.size) (fun b' o e => by
        obtain ⟨_, _, _, h4⟩ := HL.out.beg r (by rw [← EN.out]; exact hrn)
        obtain ⟨b1, o1, e1, hb1, _⟩ := HG.out.nodes (by omega)
        rw [e] at e1; cases e1; exact hb1) wc kp kq (HG.out.below (R1.out.low.trans (hbc.mono R1.out.low.size))))
      have CB := Lib.hid (fun c (hc : c ∈ cal g r) => (show c < n ∧ Reach (cal g) x c from ⟨by rw [EN.out]; exact HL.out.cal hc, .step (HGo.out.back r (HGo.out.aside r (by simp))) hc⟩))
      have hord := R1.out.ord
      have hws := R1.out.b4.lt
      have RC := Lib.hid (R1.out.grow hbc)
      have DC := Lib.hid (D1.out.grow hbc)
      clear ewc kp kq hbc
      have ECS : RowKit.Hid (∀ c, c ∈ cal g r → True) := Lib.hid (fun _ _ => trivial)
      refine (wpIn_wide (n := 12)).1 ?_
      refine wpIn_rangeFunc_g (n := 12) (by omega) (gf := 180) (lb := #[.pointer (some ⟨W1.heap.size, 0, none⟩), .pointer (some ⟨W1.heap.size + 1, 0, none⟩)]) rfl (enters_of Tryz.func180 (by kernel_rfl) rfl)
        SQ.out (Below.refl _ _) (fun _ => rfl) (fun k h => by omega)
        (fun k W => (∃ v, RSt w g x d3 d4 W (pushAll (m, l) ((cal g r).take k)) v) ∧ DOK d4 dl W) (fun _ _ _ => False) ?gi ?gx ?ai ?ax ⟨⟨_, RC.out⟩, DC.out⟩
        (fun kk => { tmps := #[.agg #[.slice g.RA n g.rc, .slice g.NA g.nodes.length g.nc, .int .i64 x], .pointer (some ⟨w.heap.size, 0, none⟩), .slice none 0 0, .pointer (some ⟨d3, 0, none⟩), .pointer (some ⟨d4, 0, none⟩), .int .i64 r, .int .i64 ((cal g r)[kk]?.getD 0 : Nat), .pointer (some ⟨w.heap.size, 0, none⟩), .pointer (some ⟨w.heap.size, 0, none⟩), .slice g.RA n g.rc, .int .i64 n, .slice (some ⟨w.heap.size + 1, 0, none⟩) n n, .slice (some ⟨w.heap.size + 1, 0, none⟩) n n, .pointer (some ⟨w.heap.size, 2, none⟩), .int .i64 x, .pointer (some ⟨w.heap.size + 1, x, none⟩), .pointer (some ⟨w.heap.size, 2, none⟩), .int .i64 x, .slice (some ⟨d3 + 1, 0, none⟩) 1 1,
          .slice (some ⟨g', 0, none⟩) (k + 1) cap, .int .i64 (k + 1), .bool true, .slice (some ⟨g', 0, none⟩) (k + 1) cap, .slice (some ⟨g', 0, none⟩) (k + 1) cap, .int .i64 (k + 1), .int .i64 k, .pointer (some ⟨g', k, none⟩), .int .i64 r, .slice (some ⟨g', 0, none⟩) (k + 1) cap, .slice (some ⟨g', 0, none⟩) (k + 1) cap, .int .i64 (k + 1), .int .i64 k, .slice (some ⟨g', 0, none⟩) k cap, .agg #[.slice g.RA g.rules.length g.rc, .slice g.NA g.nodes.length g.nc, .int .i64 x], .int .i64 r, .func (.func 180) #[] #[.pointer (some ⟨W1.heap.size, 0, none⟩), .pointer (some ⟨W1.heap.size + 1, 0, none⟩)], .int .i64 ((cal g r)[kk]?.getD 0 : Nat), u37, u38, u39, u40, u41, u42, u43, u44, u45, u46, u47, u48, u49], defers := [] }) ?assign ?body ?done ?stop
      case gi => rintro s A A' ⟨⟨v, h1⟩, h2⟩ hb; exact ⟨⟨v, h1.grow hb⟩, h2.grow hb⟩
      case gx => rintro cd s A A' h hb; exact h
      case ai => rintro s b' A lp o hb' ⟨⟨v, h1⟩, h2⟩ hl; exact ⟨⟨v, h1.put hl (by omega) o⟩, h2.put hl o⟩
      case ax => rintro cd s b' A lp o hb' h hl; exact h
      case assign =>
        intro l2 kk W K hK
        gi_wp2
        exact hK
      case body =>
        rintro l2 kk W ⟨⟨v, hR⟩, hD⟩ hsz hDD hLL hkk
        have hcm : (cal g r).getD kk 0 ∈ cal g r := getD_mem hkk
        have hcn := (CB.out _ hcm).1
        obtain ⟨hGo2, _, _, hmu2⟩ := HGP.out.all ((cal g r).take kk) (fun c hc => CB.out c (List.mem_of_mem_take hc))
        have TK := pushAll_take (m, l) hkk
        rw [List.getD_eq_getElem?_getD] at hcn TK
        obtain ⟨c, ec⟩ : ∃ c, c = (cal g r)[kk]?.getD 0 := ⟨_, rfl⟩
        rw [← ec] at hcn TK ⊢
        have hms : mu (pushAll (m, l) ((cal g r).take kk)) ≤ 65 := by have := HMP.out; have := HMU.out; simp only [List.concat_eq_append] at *; omega
        generalize pushAll (m, l) ((cal g r).take kk) = s at hR TK hGo2 hms
        obtain ⟨sm, sl⟩ := s
        obtain ⟨A, cp, rfl, _, _⟩ := own_slice hR.own
        have hsl : sl.length ≤ 65 := by simp only [mu] at hms; omega
        have hlen : sm.length = n := hGo2.len
        have a3 : W.cell? ⟨d3, 0, none⟩ = some (.slice (some ⟨w.heap.size + 1, 0, none⟩) n n) := by have := hR.b3.cell 0; rw [← EN.out] at this; exact this
        have a4 : W.cell? ⟨d4, 0, none⟩ = some (.slice A sl.length cp) := hR.b4.cell 0
        have a5 := hR.met.cell (show c < sm.length by omega)
        have f5 := Blk.frozen hR.met c
        have f4 := hR.b4.frozen 0
        have HDD := Lib.hid hDD
        have HLL := Lib.hid hLL
        have HSZ := Lib.hid hsz
        have HR2 := Lib.hid hR
        have HD2 := Lib.hid hD
        have TK2 := Lib.hid TK
        have SL := Lib.hid hsl
        have hcn2 : (c : Int) < n := by omega
        have HO := Lib.hid (show d4 < wc.heap.size by omega)
        cases hb : sm.getD c false with
        | true =>
          rw [hb] at a5
          have HBB := Lib.hid hb
          clear hR hD hsz hDD hLL hkk hcm hGo2 TK hb ec hms hsl hlen hmu2
          gi_wp2_with fail
          refine ⟨⟨Nat.le_refl _, fun _ _ => rfl⟩, ⟨.slice A sl.length cp, ?_⟩, HD2.out⟩
          rw [TK2.out, push, if_pos HBB.out]
          exact HR2.out
        | false =>
          rw [hb] at a5
          have HBB := Lib.hid hb
          obtain ⟨hM, hKM⟩ := hR.mark (c := c)
          have b4 : (W.setCell ⟨w.heap.size + 1, c, none⟩ (.bool true)).cell? ⟨d4, 0, none⟩ = some (.slice A sl.length cp) := hM.b4.cell 0
          have HM := Lib.hid hM
          have HKM := Lib.hid hKM
          clear hR hD hsz hDD hLL hkk hcm hGo2 TK hb ec hms hsl hlen hmu2 hM hKM
          obtain ⟨i0', hi', hz0', hz1', hz2'⟩ := info_parts Tryz.info3
          gi_wp2_with (gi_at_builtin; refine wpListIn_append_own _ rfl _ _ 33 rfl (d3 + 1) 3 i0' (.int .i64 0) 1 8 Tryz.underlying33 hi' hz0' hz1' hz2' rfl (by decide) _ _ _ rfl (HM.out.own.alloc _) ⟨W.heap.size, 0, none⟩ 1 1 [.int .i64 c] rfl rfl (cell_new_at (by simp [World.setCell]) _ _) (by simp [Value.oneCell']) (by unfold maxLen; have := SL.out; simp; omega) (by have := SL.out; simp; omega) (by have := HO.out; have := HSZ.out; have := HR2.out.ord; simp [World.setCell]; omega) ?_; intro v' w3 hown' hgrow hnil'; obtain ⟨A', cp', rfl, _, _⟩ := own_slice hown'; obtain ⟨hA1, hA2, hA3⟩ := HM.out.aside hown' hgrow; have c4 := hA3.cell 0; have g4 := hA3.frozen 0; have A1 := Lib.hid hA1; have A2 := Lib.hid hA2; clear hA1 hA2 hA3 hown' hgrow hnil')
          have KK : Kp w d4 (.slice A sl.length cp) W (w3.setCell ⟨d4, 0, none⟩ (.slice A' (sl.length + 1) cp')) := ⟨Nat.le_trans HKM.out.1 A2.out.1, fun k h1 h2 h3 h4 => (A2.out.2 k (Nat.lt_of_lt_of_le h1 HKM.out.1) h2 h3 h4).trans (HKM.out.2 k h1 h2 h3 h4)⟩
          have HH := KK.holds HR2.out HO.out HDD.out HLL.out
          rw [hzc] at HH
          refine ⟨HH, ⟨.slice A' (sl.length + 1) cp', ?_⟩, HD2.out.kp HR2.out KK⟩
          rw [TK2.out, push, if_neg (by rw [HBB.out]; decide)]
          exact A1.out
      case done =>
        rintro D W hDw ⟨⟨v, hR⟩, hD⟩ hK
        rw [List.take_length] at hR
        obtain ⟨hGo2, hall, _, hmu2⟩ := HGP.out.all (cal g r) CB.out
        have hmu3 : mu (pushAll (m, l) (cal g r)) ≤ 65 ∧ mu (pushAll (m, l) (cal g r)) < mu (m, l ++ [r]) := by have := HMP.out; have := HMU.out; simp only [List.concat_eq_append] at *; omega
        have e1 := hR.mu (by rw [hGo2.len, EN.out])
        have hDn : D ∉ dl := fun hm => by have := (Array.getElem?_eq_some_iff.1 (DC.out.each D hm).2).1; omega
        refine ⟨⟨_, _, _, _, _, _, _, _, _, _, _, _, _, _, _, _, _, _, _, _, _, _, _, _, _, _, _, _, _, _, _, _, _, D :: dl, _, v, rfl, hR, hGo2.round hall, hD.cons (by omega) hDn hK, hmu3.1⟩, ?_⟩
        rw [e1, MU.out]
        exact hmu3.2
      case stop =>
        rintro D cd kk W hD hk h hK
        exact h.elim
end Go.Proofs.YtfghfnpiaccfaaaGreatDoor.J
namespace Go.Proofs.YtfghfnpiaccfaaaGreatDoor.J
open Go Go.RowKit Go.Shelf
attribute [local go_sem] Oper.semAt_some
/-- A rule of a right grammar. -/
def AskOk (g : Gr) (rule : Int) : Prop := 0 ≤ rule ∧ rule < g.rules.length ∧ Right g
noncomputable def askB (g : Gr) (rule : Int) : Bool := by classical exact decide (AskOk g rule)
theorem askB_iff {g : Gr} {rule : Int} : askB g rule = true ↔ AskOk g rule := by unfold askB; simp
noncomputable def callersOf (g : Gr) (rule : Int) : List Nat := if askB g rule then rowOf g.rules.length (fun r => doesB g r rule.toNat) else []
noncomputable def calledOf (g : Gr) (rule : Int) : List Nat := if askB g rule then rowOf g.rules.length (fun r => doesB g rule.toNat r) else []
noncomputable def reachedOf (g : Gr) (rule : Int) : List Nat := if askB g rule then rowOf g.rules.length (fun r => reachB g rule.toNat r) else []
abbrev askZ : Value := .agg #[.slice none 0 0, .slice none 0 0, .int .i64 0]
theorem ask_set {w W : World} {b : Nat} {T : TypeId} {a0 a1 a2 : Value} (h : Blk W b #[a0, a1, a2] T) (hw : Below w.heap.size w W) (hb : w.heap.size ≤ b) (x y z : Value) :
    Blk (((W.setCell ⟨b, 0, none⟩ x).setCell ⟨b, 1, none⟩ y).setCell ⟨b, 2, none⟩ z) b #[x, y, z] T ∧ Below w.heap.size w (((W.setCell ⟨b, 0, none⟩ x).setCell ⟨b, 1, none⟩ y).setCell ⟨b, 2, none⟩ z) := by
  have h0 : Blk (W.setCell ⟨b, 0, none⟩ x) b #[x, a1, a2] T := heap_setCell_same W b 0 #[a0, a1, a2] T x h
  have h1 : Blk ((W.setCell ⟨b, 0, none⟩ x).setCell ⟨b, 1, none⟩ y) b #[x, y, a2] T := heap_setCell_same _ b 1 #[x, a1, a2] T y h0
  have h2 := heap_setCell_same _ b 2 #[x, y, a2] T z h1
  exact ⟨h2, ((hw.setCell (p := ⟨b, 0, none⟩) hb _).setCell (p := ⟨b, 1, none⟩) hb _).setCell (p := ⟨b, 2, none⟩) hb _⟩
set_option maxRecDepth 100000 in
set_option maxHeartbeats 2000000 in
theorem askedOf_any (g : Gr) (rule : Int) (hr : -9223372036854775808 ≤ rule ∧ rule < 9223372036854775808) (w : World) (hg : Gr.At w g) (hin : Gr.In g) :
    Calls Tryz.prog 75 #[g.val, .int .i64 rule] w fun e w' => e = .returned (.tuple #[if askB g rule then askV g rule.toNat else askZ, .bool (askB g rule)]) ∧ Below w.heap.size w w' := by
  obtain ⟨b, eb⟩ : ∃ b, b = askB g rule := ⟨_, rfl⟩
  rw [← eb]
  have EB : RowKit.Hid (b = true ↔ (0 ≤ rule ∧ rule < g.rules.length ∧ rightB g = true)) := Lib.hid (by rw [eb, askB_iff, rightB_true]; rfl)
  obtain ⟨W2, eW2⟩ : ∃ u, u = (w.alloc (.cells #[.slice g.RA g.rules.length g.rc, .slice g.NA g.nodes.length g.nc] 25)).alloc (.cells #[.slice none 0 0, .slice none 0 0, .int .i64 0] 126) := ⟨_, rfl⟩
  have hb2 : Below w.heap.size w W2 := by rw [eW2]; exact B2 _ _ _
  have k1 : Blk W2 w.heap.size #[.slice g.RA g.rules.length g.rc, .slice g.NA g.nodes.length g.nc] 25 := by rw [eW2]; exact (Blk.new w _ _).alloc _
  have k2 : Blk W2 (w.heap.size + 1) #[.slice none 0 0, .slice none 0 0, .int .i64 0] 126 := by
    rw [eW2]; have := Blk.new (w.alloc (.cells #[.slice g.RA g.rules.length g.rc, .slice g.NA g.nodes.length g.nc] 25)) #[.slice none 0 0, .slice none 0 0, .int .i64 0] 126; rw [World.size_alloc] at this; exact this
  have RA := Lib.hid (show Calls Tryz.prog 13 #[.agg #[.slice g.RA g.rules.length g.rc, .slice g.NA g.nodes.length g.nc]] W2 (fun e w' => e = .returned (.bool (rightB g)) ∧ Below W2.heap.size W2 w') from right_all g W2 (hg.below hb2) hin)
  have K1 := Lib.hid k1
  have K2 := Lib.hid k2
  have HB2 := Lib.hid hb2
  have HZ : RowKit.Hid (W2.heap.size = w.heap.size + 2) := Lib.hid (by rw [eW2]; simp)
  have hn := hg.rl
  have done : ∀ (W : World) (tmps : Array Value) (cs : Array Value) (v : Bool), Blk W (w.heap.size + 1) cs 126 → cs.size = 3 → tmps.getD 4 undef = .pointer (some ⟨w.heap.size + 1, 0, none⟩) → tmps.getD 5 undef = .bool v → (results Tryz.f75 tmps).run Tryz.prog W = .ok (.tuple #[.agg cs, .bool v]) W := fun W tmps cs v h hs h4 h5 =>
    results_cell_tmp rfl _ _ (w.heap.size + 1) 126 cs _ _ h5 h4 h Tryz.underlying126 rfl (by rw [hs]; kernel_rfl)
  have DN := Lib.hid done
  clear hg hin k1 k2 hb2 eb done
  show Calls Tryz.prog 75 #[.agg #[.slice g.RA g.rules.length g.rc, .slice g.NA g.nodes.length g.nc], .int .i64 rule] w _
  obtain ⟨n, en⟩ : ∃ n, n = g.rules.length := ⟨_, rfl⟩
  rw [← en] at hn EB eW2 K1 RA ⊢
  have EN := Lib.hid en
  clear en
  go_enter Tryz.func75, Tryz.ntmps75
  go_upto_region 1 with fail
  rw [← eW2]
  clear eW2
  have q0 := K1.out.cell 0
  have q1 := K1.out.cell 1
  have z0 := K2.out.cell 0
  have z1 := K2.out.cell 1
  have z2 := K2.out.cell 2
  have g0 := K2.out.frozen 0
  have g1 := K2.out.frozen 1
  have g2 := K2.out.frozen 2
  simp only [List.getElem?_toArray, List.getElem?_cons_zero, List.getElem?_cons_succ] at q0 q1 z0 z1 z2
  by_cases h1 : rule < 0
  · have hbf : b = false := by cases hb : b with | false => rfl | true => have := EB.out.1 hb; omega
    subst hbf
    go_wp2_with fail
    obtain ⟨k, hk⟩ := ask_set K2.out HB2.out (by omega) (.slice none 0 0) (.slice none 0 0) (.int .i64 0)
    exact ⟨rfl, _, DN.out _ _ _ _ k rfl rfl rfl, rfl, hk⟩
  · by_cases h2 : (n : Int) ≤ rule
    · have hbf : b = false := by cases hb : b with | false => rfl | true => have := EB.out.1 hb; omega
      subst hbf
      go_wp2_with fail
      obtain ⟨k, hk⟩ := ask_set K2.out HB2.out (by omega) (.slice none 0 0) (.slice none 0 0) (.int .i64 0)
      exact ⟨rfl, _, DN.out _ _ _ _ k rfl rfl rfl, rfl, hk⟩
    · obtain ⟨x, rfl⟩ : ∃ x : Nat, rule = x := ⟨rule.toNat, by omega⟩
      cases hrb : rightB g with
      | false =>
        rw [hrb] at RA
        have hbf : b = false := by cases hb : b with | false => rfl | true => have := (EB.out.1 hb).2.2; rw [hrb] at this; cases this
        subst hbf
        clear hrb EB
        go_wp2_with (go_at_call 13; (with_reducible refine RA.out.mono ?_); rintro e w1 ⟨rfl, hb1⟩; have B1' := Lib.hid hb1; have K3 := Lib.hid (K2.out.below' hb1); have z0' := K3.out.cell 0; have z1' := K3.out.cell 1; have z2' := K3.out.cell 2; have g0' := K3.out.frozen 0; have g1' := K3.out.frozen 1; have g2' := K3.out.frozen 2; simp only [List.getElem?_toArray, List.getElem?_cons_zero, List.getElem?_cons_succ] at z0' z1' z2'; clear hb1 z0 z1 z2 g0 g1 g2 q0 q1)
        obtain ⟨k, hk⟩ := ask_set K3.out (HB2.out.trans (B1'.out.mono HB2.out.size)) (by omega) (.slice none 0 0) (.slice none 0 0) (.int .i64 0)
        exact ⟨rfl, _, DN.out _ _ _ _ k rfl rfl rfl, rfl, hk⟩
      | true =>
        rw [hrb] at RA
        have hbt : b = true := EB.out.2 ⟨by omega, by omega, hrb⟩
        subst hbt
        clear hrb EB
        go_wp2_with (go_at_call 13; (with_reducible refine RA.out.mono ?_); rintro e w1 ⟨rfl, hb1⟩; have B1' := Lib.hid hb1; have K3 := Lib.hid (K2.out.below' hb1); have z0' := K3.out.cell 0; have z1' := K3.out.cell 1; have z2' := K3.out.cell 2; have g0' := K3.out.frozen 0; have g1' := K3.out.frozen 1; have g2' := K3.out.frozen 2; have q0' := (K1.out.below' hb1).cell 0; have q1' := (K1.out.below' hb1).cell 1; simp only [List.getElem?_toArray, List.getElem?_cons_zero, List.getElem?_cons_succ] at z0' z1' z2' q0' q1'; clear hb1 z0 z1 z2 g0 g1 g2 q0 q1)
        obtain ⟨k, hk⟩ := ask_set K3.out (HB2.out.trans (B1'.out.mono HB2.out.size)) (by omega) (.slice g.RA n g.rc) (.slice g.NA g.nodes.length g.nc) (.int .i64 x)
        exact ⟨rfl, _, DN.out _ _ _ _ k rfl rfl rfl, by rw [EN.out], hk⟩
end Go.Proofs.YtfghfnpiaccfaaaGreatDoor.J
namespace Go.Proofs.YtfghfnpiaccfaaaGreatDoor.J
open Go Go.RowKit Go.Shelf
attribute [local go_sem] Oper.semAt_some
/-- A rising row that is told. -/
def Row (w : World) (L : List Nat) (e : Ending) (w' : World) : Prop := (∃ v, e = .returned v ∧ w'.ownsRow w.heap.size 3 1 v L.length (ints (nums L)) ∧ (v = .slice none 0 0 ↔ L = [])) ∧ Below w.heap.size w w'
theorem row_nil (w w' : World) (hb : Below w.heap.size w w') : Row w [] (.returned (.slice none 0 0)) w' := ⟨⟨_, rfl, World.ownsRow_nil _ _ _ _, by simp⟩, hb⟩
theorem bund {B : Nat} {w w' : World} (h : Below B w.drew w') : Below B w w' := ⟨h.os, h.tape, h.output, h.size, h.block⟩
theorem ask_new {w w1 : World} {cs : Array Value} {T : TypeId} (h : Below w.heap.size w w1) : Blk (w1.alloc (.cells cs T)) w1.heap.size cs T ∧ Below w.heap.size w (w1.alloc (.cells cs T)) := ⟨Blk.new _ _ _, h.trans ((B1 w1 _).mono h.size)⟩
set_option maxRecDepth 100000 in
set_option maxHeartbeats 2000000 in
theorem called_any (g : Gr) (rule : Int) (hr : -9223372036854775808 ≤ rule ∧ rule < 9223372036854775808) (w : World) (hg : Gr.At w g) (hin : Gr.In g) (hcap : g.nodes.length ≤ g.nc) :
    Calls Tryz.prog 30 #[g.val, .int .i64 rule] w (Row w (calledOf g rule)) := by
  have AO := Lib.hid (fun W (b : Below w.heap.size w W) => askedOf_any g rule hr W (hg.below b) hin)
  have HG := Lib.hid hg
  have HC := Lib.hid hcap
  have AI := Lib.hid (@askB_iff g rule)
  have EL : RowKit.Hid (calledOf g rule = if askB g rule then rowOf g.rules.length (fun r => doesB g rule.toNat r) else []) := Lib.hid rfl
  generalize calledOf g rule = L at EL ⊢
  clear hg hin hcap
  show Calls Tryz.prog 30 #[.agg #[.slice g.RA g.rules.length g.rc, .slice g.NA g.nodes.length g.nc], .int .i64 rule] w _
  cases hb : askB g rule with
  | false =>
    rw [hb] at AO EL
    have EL2 : RowKit.Hid (L = []) := Lib.hid EL.out
    clear hb AI EL
    go_enter Tryz.func30, Tryz.ntmps30
    go_wp2_with (go_at_call 75; (with_reducible refine (AO.out _ (B1 _ _)).mono ?_); rintro e w1 ⟨rfl, hb1⟩; have H1 := Lib.hid (bb (B1 w _) hb1); clear hb1)
    go_ret
    rw [EL2.out]
    exact row_nil _ _ (ask_new H1.out).2
  | true =>
    rw [hb] at AO EL
    obtain ⟨h0, h1, hR⟩ := AI.out.1 hb
    obtain ⟨x, rfl⟩ : ∃ x : Nat, rule = x := ⟨rule.toNat, by omega⟩
    have hx : x < g.rules.length := by omega
    have hl := hR.lain
    have EL2 : RowKit.Hid (L = rowOf g.rules.length (fun r => doesB g x r)) := Lib.hid EL.out
    have AL := Lib.hid (fun W (b : Below w.heap.size w W) => all_called g x (askV g x) (fun r => doesB g x r) W hl.n32.2 (fun W' b' r hr' => one_called g x r W' ((HG.out.below b).below b') hl HC.out hx))
    clear hb AI EL hR hl h0 h1
    go_enter Tryz.func30, Tryz.ntmps30
    go_upto_region 4 with (go_at_call 75; (with_reducible refine (AO.out _ (B1 _ _)).mono ?_); rintro e w1 ⟨rfl, hb1⟩; have H1 := Lib.hid (bb (B1 w _) hb1); clear hb1)
    obtain ⟨w2, ew2⟩ : ∃ u, u = w1.alloc (.cells (askC g x) 126) := ⟨_, rfl⟩
    obtain ⟨p, ep⟩ : ∃ u, u = w1.heap.size := ⟨_, rfl⟩
    have hw2 : Blk w2 p (askC g x) 126 ∧ Below w.heap.size w w2 := by rw [ew2, ep]; exact ask_new H1.out
    have KW := Lib.hid hw2
    rw [← ep]
    first | rw [← ew2] | (show Code.wp _ _ _ _ (w1.alloc (.cells (askC g x) 126)); rw [← ew2])
    clear ew2 ep hw2
    have c0 : w2.cell? ⟨p, 0, none⟩ = some (.slice g.RA g.rules.length g.rc) := KW.out.1.cell 0
    have c1 : w2.cell? ⟨p, 1, none⟩ = some (.slice g.NA g.nodes.length g.nc) := KW.out.1.cell 1
    have c2 : w2.cell? ⟨p, 2, none⟩ = some (.int .i64 x) := KW.out.1.cell 2
    go_wp2_with (go_at_call 76; (with_reducible refine (AL.out _ KW.out.2).mono ?_); rintro e w3 ⟨⟨v, rfl, ho, hn⟩, hb3⟩; have O3 := Lib.hid ho; have N3 := Lib.hid hn; have B3 := Lib.hid hb3; clear ho hn hb3)
    go_ret
    rw [EL2.out]
    exact ⟨⟨_, rfl, own_lower O3.out KW.out.2.size, N3.out⟩, KW.out.2.trans (B3.out.mono KW.out.2.size)⟩
set_option maxRecDepth 100000 in
set_option maxHeartbeats 2000000 in
theorem reached_all (g : Gr) (rule : Int) (hr : -9223372036854775808 ≤ rule ∧ rule < 9223372036854775808) (w : World) (hg : Gr.At w g) (hin : Gr.In g) (hcap : g.nodes.length ≤ g.nc) :
    Calls Tryz.prog 31 #[g.val, .int .i64 rule] w (Row w (reachedOf g rule)) := by
  have AO := Lib.hid (fun W (b : Below w.heap.size w W) => askedOf_any g rule hr W (hg.below b) hin)
  have HG := Lib.hid hg
  have HC := Lib.hid hcap
  have AI := Lib.hid (@askB_iff g rule)
  have EL : RowKit.Hid (reachedOf g rule = if askB g rule then rowOf g.rules.length (fun r => reachB g rule.toNat r) else []) := Lib.hid rfl
  generalize reachedOf g rule = L at EL ⊢
  clear hg hin hcap
  show Calls Tryz.prog 31 #[.agg #[.slice g.RA g.rules.length g.rc, .slice g.NA g.nodes.length g.nc], .int .i64 rule] w _
  cases hb : askB g rule with
  | false =>
    rw [hb] at AO EL
    have EL2 : RowKit.Hid (L = []) := Lib.hid EL.out
    clear hb AI EL
    go_enter Tryz.func31, Tryz.ntmps31
    go_wp2_with (go_at_call 75; (with_reducible refine (AO.out _ (B1 _ _)).mono ?_); rintro e w1 ⟨rfl, hb1⟩; have H1 := Lib.hid (bb (B1 w _) hb1); clear hb1)
    go_ret
    rw [EL2.out]
    exact row_nil _ _ (ask_new H1.out).2
  | true =>
    rw [hb] at AO EL
    obtain ⟨h0, h1, hR⟩ := AI.out.1 hb
    obtain ⟨x, rfl⟩ : ∃ x : Nat, rule = x := ⟨rule.toNat, by omega⟩
    have hx : x < g.rules.length := by omega
    have hl := hR.lain
    have EL2 : RowKit.Hid (L = rowOf g.rules.length (fun r => reachB g x r)) := Lib.hid EL.out
    have RE := Lib.hid (fun W (b : Below w.heap.size w W) => reached_any g x W (HG.out.below b) hl HC.out hx)
    have AL := Lib.hid (fun W b (m : List Bool) (hm : m.length = g.rules.length) (h : MetAt W b m) => all_has g x (.slice (some ⟨b, 0, none⟩) g.rules.length g.rules.length) (fun r => m.getD r false) W hl.n32.2 (fun W' b' r hr' => one_has b m g.rules.length g.rules.length r hm.symm hl.n32.2 W' (h.below b') hr'))
    have RC := Lib.hid (fun (m : List Bool) (h : ∀ r, m.getD r false = true ↔ Reach (cal g) x r) => (show rowOf g.rules.length (fun r => m.getD r false) = rowOf g.rules.length (fun r => reachB g x r) from rowOf_congr fun r _ => by
      cases hm : m.getD r false with
      | true => exact (reachB_iff.2 ((h r).1 hm)).symm
      | false => cases hb2 : reachB g x r with
        | false => rfl
        | true => have := (h r).2 (reachB_iff.1 hb2); rw [hm] at this; cases this))
    clear hb AI EL hR hl h0 h1
    go_enter Tryz.func31, Tryz.ntmps31
    go_upto_region 4 with (go_at_call 75; (with_reducible refine (AO.out _ (B1 _ _)).mono ?_); rintro e w1 ⟨rfl, hb1⟩; have H1 := Lib.hid (bb (B1 w _) hb1); clear hb1)
    obtain ⟨w2, ew2⟩ : ∃ u, u = w1.alloc (.cells (askC g x) 126) := ⟨_, rfl⟩
    obtain ⟨p, ep⟩ : ∃ u, u = w1.heap.size := ⟨_, rfl⟩
    have hw2 : Blk w2 p (askC g x) 126 ∧ Below w.heap.size w w2 := by rw [ew2, ep]; exact ask_new H1.out
    have KW := Lib.hid hw2
    rw [← ep]
    first | rw [← ew2] | (show Code.wp _ _ _ _ (w1.alloc (.cells (askC g x) 126)); rw [← ew2])
    clear ew2 ep hw2
    have c0 : w2.cell? ⟨p, 0, none⟩ = some (.slice g.RA g.rules.length g.rc) := KW.out.1.cell 0
    have c1 : w2.cell? ⟨p, 1, none⟩ = some (.slice g.NA g.nodes.length g.nc) := KW.out.1.cell 1
    have c2 : w2.cell? ⟨p, 2, none⟩ = some (.int .i64 x) := KW.out.1.cell 2
    go_region_with (first | (go_at_call 79; (refine (RE.out _ (by first | exact KW.out.2 | exact bdrew1 KW.out.2 | exact bdrew1 (bdrew1 KW.out.2))).mono ?_); rintro e w3 ⟨⟨b, m, rfl, hm, hM, hrr⟩, hb3⟩; have HM := Lib.hid hm; have MM := Lib.hid hM; have RR := Lib.hid hrr; have B3 := Lib.hid hb3; have K3 := Lib.hid (Blk.below' (b := p) (vs := askC g x) (T := 126) (h := by exact KW.out.1) hb3); have d0 := K3.out.cell 0; have d1 := K3.out.cell 1; have d2 := K3.out.cell 2; simp only [List.getElem?_toArray, List.getElem?_cons_zero, List.getElem?_cons_succ] at d0 d1 d2; clear hm hM hrr hb3) | (go_at_call 76; (refine (AL.out _ b m HM.out (by first | exact MM.out | exact MM.out.below (bdrew1 (Below.refl _ _)))).mono ?_); rintro e w4 ⟨⟨v, rfl, ho, hn⟩, hb4⟩; have O4 := Lib.hid ho; have N4 := Lib.hid hn; have B4 := Lib.hid hb4; clear ho hn hb4))
    all_goals (
      have S3 : Below w2.heap.size w2 w3 := by first | exact B3.out | exact bund B3.out | exact bund (bund B3.out) | exact bund (bund (bund B3.out))
      have S4 : Below w3.heap.size w3 w4 := by first | exact B4.out | exact bund B4.out | exact bund (bund B4.out) | exact bund (bund (bund B4.out))
      have HS3 := Lib.hid S3
      have HS4 := Lib.hid S4
      clear S3 S4 c0 c1 c2 d0 d1 d2
      go_wp2_with fail
      go_ret
      rw [EL2.out, ← RC.out m RR.out]
      exact ⟨⟨_, rfl, own_lower O4.out (Nat.le_trans KW.out.2.size HS3.out.size), N4.out⟩, (KW.out.2.trans (HS3.out.mono KW.out.2.size)).trans (HS4.out.mono (Nat.le_trans KW.out.2.size HS3.out.size))⟩)
end Go.Proofs.YtfghfnpiaccfaaaGreatDoor.J

/- The way back, plainly; the search from a rule: the program's answers To, Goes. -/
import Derived.Test.YtlbjmkljmhfjdaaGreatD3
import Derived.Test.YtlbjmkljmhfjdaaGreatD1
import Derived.KernelRfl
import Derived.Deep.CutRange
set_option linter.unusedSimpArgs false
set_option linter.unusedVariables false
namespace Go.Proofs.YtlbjmkljmhfjdaaGreat
open Go Go.RowKit Go.Maps Go.Shelf
/-- Each was met from one that was met earlier, or from the first. -/
def Ranked (i : Nat) (s : Bf) : Prop := ∃ (r : Nat → Nat) (cnt : Nat), cnt + unmet s.1 = 32 ∧ ∀ k, s.1.getD k false = true → r k < cnt ∧ (s.2.1.getD k 0 = i ∨ (s.1.getD (s.2.1.getD k 0) false = true ∧ r (s.2.1.getD k 0) < r k))
theorem ahead_set {l : List Nat} {k j a : Nat} (hk : k < l.length) : (l.set k a).getD j 0 = if j = k then a else l.getD j 0 := by
  simp only [List.getD, List.getElem?_set]
  by_cases e : k = j
  · subst e; simp [hk]
  · rw [if_neg e, if_neg (fun h => e h.symm)]
theorem visit_ranked {i a k : Nat} {s : Bf} (hs : Sound s) (hk : k < 32) (ha : a = i ∨ s.1.getD a false = true) (h : Ranked i s) : Ranked i (visit a s k) := by
  unfold visit
  split
  · exact h
  · rename_i hn
    have hf : s.1.getD k false = false := by simpa using hn
    obtain ⟨r, cnt, hc, hr⟩ := h
    have hu := unmet_set (m := s.1) (k := k) (by rw [hs.met]; exact hk) hf
    have hset := fun j => met_set (m := s.1) (k := k) (j := j) (by rw [hs.met]; exact hk)
    refine ⟨fun j => if j = k then cnt else r j, cnt + 1, by show cnt + 1 + unmet (s.1.set k true) = 32; omega, fun j hj => ?_⟩
    show (if j = k then cnt else r j) < cnt + 1 ∧ ((s.2.1.set k a).getD j 0 = i ∨ ((s.1.set k true).getD ((s.2.1.set k a).getD j 0) false = true ∧ (if (s.2.1.set k a).getD j 0 = k then cnt else r ((s.2.1.set k a).getD j 0)) < if j = k then cnt else r j))
    rw [ahead_set (by rw [hs.ahead]; exact hk)]
    by_cases e : j = k
    · rw [if_pos e, if_pos e]
      refine ⟨by omega, ?_⟩
      rcases ha with h1 | h1
      · exact .inl h1
      · have hak : a ≠ k := fun e => by rw [e, hf] at h1; cases h1
        exact .inr ⟨(hset a).2 (.inr h1), by rw [if_neg hak]; exact (hr a h1).1⟩
    · rw [if_neg e, if_neg e]
      have hm : s.1.getD j false = true := ((hset j).1 hj).resolve_left e
      obtain ⟨h1, h2⟩ := hr j hm
      refine ⟨by omega, ?_⟩
      rcases h2 with h2 | ⟨h2, h3⟩
      · exact .inl h2
      · have hak : s.2.1.getD j 0 ≠ k := fun e => by rw [e, hf] at h2; cases h2
        exact .inr ⟨(hset _).2 (.inr h2), by rw [if_neg hak]; exact h3⟩
theorem visits_ranked {i a : Nat} : ∀ (l : List Nat) (s : Bf), (∀ k ∈ l, k < 32) → Sound s → (a = i ∨ s.1.getD a false = true) → Ranked i s → Ranked i (l.foldl (visit a) s)
  | [], _, _, _, _, h => h
  | k :: l, s, hl, hs, ha, h => by
    have hk := hl k (List.mem_cons_self ..)
    exact visits_ranked l (visit a s k) (fun j hj => hl j (List.mem_cons_of_mem _ hj)) (visit_sound hs) (by
      rcases ha with h1 | h1
      · exact .inl h1
      · exact .inr ((visit_met hs hk).2 (.inr h1))) (visit_ranked hs hk ha h)
theorem pop_ranked {c : Nat → List Nat} {i : Nat} (hc : ∀ a k, k ∈ c a → k < 32) {s : Bf} (hs : Sound s) (hv : Inv c i s (fun _ => False)) (h : Ranked i s) : Ranked i (popB c s) := by
  cases hq : s.2.2 with
  | nil => rw [pop_nil hq]; exact h
  | cons a q =>
    rw [pop_cons hq]
    exact visits_ranked (c a) (s.1, s.2.1, q) (hc a) ⟨hs.met, hs.ahead⟩ (hv.next a (by rw [hq]; exact List.mem_cons_self ..)) h
theorem run_ranked {c : Nat → List Nat} {i : Nat} (hc : ∀ a k, k ∈ c a → k < 32) : ∀ (n : Nat) {s : Bf}, Sound s → Inv c i s (fun _ => False) → Ranked i s → Ranked i (runB c n s)
  | 0, _, _, _, h => h
  | n + 1, _, hs, hv, h => run_ranked hc n (pop_sound hc hs).1 (pop_inv hc hs hv) (pop_ranked hc hs hv h)
theorem start_ranked (i : Nat) : Ranked i (startB i) := ⟨fun _ => 0, 0, by simp [startB, unmet], fun k h => by
  simp only [startB, List.getD, List.getElem?_replicate] at h
  split at h <;> simp at h⟩
theorem bfs_ranked {c : Nat → List Nat} (hc : ∀ a k, k ∈ c a → k < 32) (i : Nat) : Ranked i (bfs c i) := run_ranked hc fuelB (start_sound i) (start_inv c i) (start_ranked i)
/-- From one back to the first. -/
def backF (ah : List Nat) (i : Nat) : Nat → Nat → List Nat
  | 0, _ => []
  | f + 1, a => if a = i then [i] else a :: backF ah i f (ah.getD a 0)
/-- The way from the first to one. -/
def wayB (s : Bf) (i k : Nat) : List Nat := (k :: backF s.2.1 i 33 (s.2.1.getD k 0)).reverse
noncomputable def srch (g : Gr) (i : Int) : Bf := by classical exact if rightB g = true ∧ 0 ≤ i ∧ i < g.rules.length then bfs (lcal g) i.toNat else startB 0
theorem cells_start (i j : Nat) : cellsB (startB i) = cellsB (startB j) := rfl
theorem lcal_len (g : Gr) (a : Nat) : (lcal g a).length ≤ g.rules.length := rowOf_len _ _
theorem Tryz.zero_search : (cellsB (startB 0)).toArray = #[.bool false, .bool false, .bool false, .bool false, .bool false, .bool false, .bool false, .bool false, .bool false, .bool false, .bool false, .bool false, .bool false, .bool false, .bool false, .bool false, .bool false, .bool false, .bool false, .bool false, .bool false, .bool false, .bool false, .bool false, .bool false, .bool false, .bool false, .bool false, .bool false, .bool false, .bool false, .bool false,
  .int .i64 0, .int .i64 0, .int .i64 0, .int .i64 0, .int .i64 0, .int .i64 0, .int .i64 0, .int .i64 0, .int .i64 0, .int .i64 0, .int .i64 0, .int .i64 0, .int .i64 0, .int .i64 0, .int .i64 0, .int .i64 0, .int .i64 0, .int .i64 0, .int .i64 0, .int .i64 0, .int .i64 0, .int .i64 0, .int .i64 0, .int .i64 0, .int .i64 0, .int .i64 0, .int .i64 0, .int .i64 0, .int .i64 0, .int .i64 0, .int .i64 0, .int .i64 0] := by rfl
set_option maxRecDepth 100000 in
set_option maxHeartbeats 4000000 in
theorem searchFrom_yes (g : Gr) (i : Nat) (hi : i < g.rules.length) (hR : Right g) (w : World) (hg : Gr.At w g) (hin : Gr.In g) (hc : Capd g) : Calls Tryz.prog 94 #[g.val, .int .i64 i] w fun e w' =>
    ∃ b, e = .returned (.pointer (some ⟨b, 0, none⟩)) ∧ Blk w' b (cellsB (bfs (lcal g) i)).toArray 94 ∧ Below w.heap.size w w' := by
  have h32 := hR.rules.2
  have WY := Lib.hid (fun (w' : World) (b : Below w.heap.size w w') => lworkOf_any g w' (hg.below b) hin hR)
  have HG := Lib.hid hg
  have SP := Lib.hid (fun (b p nb : Nat) (w1 : World) (hb : Blk w1 b (cellsB (startB i)).toArray 94) (hC : ∀ W, w1.grownBy W (some b) → Wk W p g nb) => spread_any b i p (lcal g) (fun a k hk => Nat.lt_of_lt_of_le (lcal_lt hk) h32) g.rules.length h32 (fun a k hk => lcal_lt hk) (fun a => Nat.le_trans (lcal_len g a) h32) hi w1 hb (fun W hW a ha => bodyCalls_any (hC W hW) hR hc a ha))
  have hnl := hg.rl
  clear hg hin hR hc
  show Calls Tryz.prog 94 #[.agg #[.slice g.RA g.rules.length g.rc, .slice g.NA g.nodes.length g.nc], .int .i64 i] w _
  have h0 : ¬ (i : Int) < 0 := by omega
  have h1 : ¬ (g.rules.length : Int) ≤ i := by omega
  go_enter Tryz.func94, Tryz.ntmps94
  go_upto_region 4 with fail
  obtain ⟨w1, ew1⟩ : ∃ u, u = (w.alloc (.cells #[.slice g.RA g.rules.length g.rc, .slice g.NA g.nodes.length g.nc] 25)).alloc (.cells (cellsB (startB 0)).toArray 94) := ⟨_, rfl⟩
  have hb1 : Below w.heap.size w w1 := by rw [ew1]; exact B2 _ _ _
  have kb : Blk w1 (w.heap.size + 1) (cellsB (startB i)).toArray 94 := by
    rw [cells_start i 0, ew1]
    have := Blk.new (w.alloc (.cells #[.slice g.RA g.rules.length g.rc, .slice g.NA g.nodes.length g.nc] 25)) (cellsB (startB 0)).toArray 94
    rw [World.size_alloc] at this
    exact this
  have kg : Blk w1 w.heap.size #[.slice g.RA g.rules.length g.rc, .slice g.NA g.nodes.length g.nc] 25 := by rw [ew1]; exact (Blk.new _ _ _).alloc _
  rw [Tryz.zero_search] at ew1
  rw [← ew1]
  have q0 := kg.cell 0
  have q1 := kg.cell 1
  simp only [List.getElem?_toArray, List.getElem?_cons_zero, List.getElem?_cons_succ] at q0 q1
  have W1 := Lib.hid (WY.out w1 hb1)
  have HB1 := Lib.hid hb1
  have KB := Lib.hid kb
  clear ew1 hb1 kb kg WY
  go_wp2_with fail
  refine W1.out.mono ?_
  rintro e w2 ⟨p, nb, rfl, hW, hb2⟩
  have hk2 := KB.out.below' hb2
  have S2 := Lib.hid (SP.out (w.heap.size + 1) p nb w2 hk2 (fun W hgr => by
    have hne : ∀ {d : Nat} {vs : Array Value} {T : TypeId}, Blk w2 d vs T → T ≠ 94 → d ≠ w.heap.size + 1 := fun hd hT e => by
      subst e
      have := hd.symm.trans hk2
      simp only [Option.some.injEq, Obj.cells.injEq] at this
      exact hT this.2.1
    have key : ∀ d, d < w2.heap.size → d ≠ w.heap.size + 1 → W.heap[d]? = w2.heap[d]? := fun d hd h => hgr.block d hd (fun e => h (Option.some.inj e))
    refine ⟨(key p hW.box.lt (hne hW.box (by decide))).trans hW.box, HG.out.heap (Nat.le_trans (HB1.out.trans (hb2.mono HB1.out.size)).size hgr.size) (fun d hd => ?_), (key nb hW.row.lt (hne hW.row (by decide))).trans hW.row⟩
    have h2 := HB1.out.trans (hb2.mono HB1.out.size)
    exact (key d (Nat.lt_of_lt_of_le hd h2.size) (by omega)).trans (h2.block d hd)))
  have H2 := Lib.hid (HB1.out.trans (hb2.mono HB1.out.size))
  clear hk2 hW hb2 SP
  go_wp2_with fail
  refine S2.out.mono ?_
  rintro e w3 ⟨⟨v, rfl⟩, hk3, hg3⟩
  have K3 := Lib.hid hk3
  have G3 := Lib.hid hg3
  clear hk3 hg3
  go_wp2_with fail
  go_ret
  exact ⟨_, rfl, K3.out, grown_below H2.out H2.out.size G3.out (fun k e => by cases e; omega)⟩
set_option maxRecDepth 100000 in
set_option maxHeartbeats 4000000 in
theorem searchFrom_no (g : Gr) (i : Int) (hi : -9223372036854775808 ≤ i ∧ i < 9223372036854775808) (hno : ¬ (rightB g = true ∧ 0 ≤ i ∧ i < g.rules.length)) (w : World) (hg : Gr.At w g) (hin : Gr.In g) : Calls Tryz.prog 94 #[g.val, .int .i64 i] w fun e w' =>
    ∃ b, e = .returned (.pointer (some ⟨b, 0, none⟩)) ∧ Blk w' b (cellsB (startB 0)).toArray 94 ∧ Below w.heap.size w w' := by
  have WN := Lib.hid (fun (hR : rightB g = false) (w' : World) (b : Below w.heap.size w w') => lworkOf_no g w' (hg.below b) hin hR)
  have hnl := hg.rl
  clear hg hin
  show Calls Tryz.prog 94 #[.agg #[.slice g.RA g.rules.length g.rc, .slice g.NA g.nodes.length g.nc], .int .i64 i] w _
  by_cases h0 : i < 0
  · clear WN hno
    go_enter Tryz.func94, Tryz.ntmps94
    go_wp2_with fail
    go_ret
    rw [Tryz.zero_search]
    exact ⟨_, rfl, by have := Blk.new (w.alloc (.cells #[.slice g.RA g.rules.length g.rc, .slice g.NA g.nodes.length g.nc] 25)); rw [World.size_alloc] at this; exact this _ _, B2 _ _ _⟩
  · by_cases h1 : (g.rules.length : Int) ≤ i
    · clear WN hno
      go_enter Tryz.func94, Tryz.ntmps94
      go_wp2_with fail
      go_ret
      rw [Tryz.zero_search]
      exact ⟨_, rfl, by have := Blk.new (w.alloc (.cells #[.slice g.RA g.rules.length g.rc, .slice g.NA g.nodes.length g.nc] 25)); rw [World.size_alloc] at this; exact this _ _, B2 _ _ _⟩
    · have hr : rightB g = false := by
        cases hr : rightB g with
        | false => rfl
        | true => exact (hno ⟨hr, by omega, by omega⟩).elim
      have h1' : ¬ (g.rules.length : Int) ≤ i := h1
      have WN2 := Lib.hid (WN.out hr)
      clear WN hr hno
      go_enter Tryz.func94, Tryz.ntmps94
      go_upto_region 4 with fail
      obtain ⟨w1, ew1⟩ : ∃ u, u = (w.alloc (.cells #[.slice g.RA g.rules.length g.rc, .slice g.NA g.nodes.length g.nc] 25)).alloc (.cells (cellsB (startB 0)).toArray 94) := ⟨_, rfl⟩
      have hb1 : Below w.heap.size w w1 := by rw [ew1]; exact B2 _ _ _
      have kb : Blk w1 (w.heap.size + 1) (cellsB (startB 0)).toArray 94 := by
        rw [ew1]
        have := Blk.new (w.alloc (.cells #[.slice g.RA g.rules.length g.rc, .slice g.NA g.nodes.length g.nc] 25)) (cellsB (startB 0)).toArray 94
        rw [World.size_alloc] at this
        exact this
      have kg : Blk w1 w.heap.size #[.slice g.RA g.rules.length g.rc, .slice g.NA g.nodes.length g.nc] 25 := by rw [ew1]; exact (Blk.new _ _ _).alloc _
      rw [Tryz.zero_search] at ew1
      rw [← ew1]
      have q0 := kg.cell 0
      have q1 := kg.cell 1
      simp only [List.getElem?_toArray, List.getElem?_cons_zero, List.getElem?_cons_succ] at q0 q1
      have W1 := Lib.hid (WN2.out w1 hb1)
      have HB1 := Lib.hid hb1
      have KB := Lib.hid kb
      clear ew1 hb1 kb kg WN2
      go_wp2_with fail
      refine W1.out.mono ?_
      rintro e w2 ⟨rfl, hb2⟩
      have K2 := Lib.hid (KB.out.below' hb2)
      have H2 := Lib.hid (HB1.out.trans (hb2.mono HB1.out.size))
      clear hb2
      go_wp2_with fail
      go_ret
      exact ⟨_, rfl, K2.out, H2.out⟩
theorem searchFrom_any (g : Gr) (i : Int) (hi : -9223372036854775808 ≤ i ∧ i < 9223372036854775808) (w : World) (hg : Gr.At w g) (hin : Gr.In g) (hc : Capd g) : Calls Tryz.prog 94 #[g.val, .int .i64 i] w fun e w' =>
    ∃ b, e = .returned (.pointer (some ⟨b, 0, none⟩)) ∧ Blk w' b (cellsB (srch g i)).toArray 94 ∧ Below w.heap.size w w' := by
  by_cases h : rightB g = true ∧ 0 ≤ i ∧ i < g.rules.length
  · have e : srch g i = bfs (lcal g) i.toNat := by unfold srch; rw [if_pos h]
    rw [e]
    obtain ⟨k, rfl⟩ : ∃ k : Nat, i = k := ⟨i.toNat, by omega⟩
    exact searchFrom_yes g k (by omega) (rightB_true.1 h.1) w hg hin hc
  · have e : srch g i = startB 0 := by unfold srch; rw [if_neg h]
    rw [e]
    exact searchFrom_no g i hi h w hg hin
end Go.Proofs.YtlbjmkljmhfjdaaGreat
namespace Go.Proofs.YtlbjmkljmhfjdaaGreat
open Go Go.RowKit Go.Maps Go.Shelf
theorem own_putH {W : World} {B e g n cap k : Nat} {xs : List Value} (h : W.ownsRow B e 1 (.slice (some ⟨g, 0, none⟩) n cap) n xs) (hk : k < n) (u : Value) : (W.setCell ⟨g, k, none⟩ u).ownsRow B e 1 (.slice (some ⟨g, 0, none⟩) n cap) n (xs.set k u) := by
  have hl := h.1
  rcases h.2 with ⟨h', _⟩ | ⟨g', cap', cur, h', hb, hg, hnc, hcm, hcs, htake⟩
  · simp at h'
  · simp only [Value.slice.injEq, Option.some.injEq, Addr.mk.injEq, and_true, true_and] at h'
    obtain ⟨rfl, rfl⟩ := h'
    refine ⟨by rw [List.length_set]; exact hl, .inr ⟨g, cap, cur.setIfInBounds k u, rfl, hb, heap_setCell_same W g k cur e u hg, hnc, hcm, by simpa using hcs, ?_⟩⟩
    rw [← htake, Array.toList_setIfInBounds, List.take_set]
def revTo (xs : List Int) (k : Nat) : List Int := (List.range xs.length).map fun p => if p < k ∨ xs.length - k ≤ p then xs.getD (xs.length - 1 - p) 0 else xs.getD p 0
theorem revTo_len (xs : List Int) (k : Nat) : (revTo xs k).length = xs.length := by simp [revTo]
theorem revTo_get {xs : List Int} {k p : Nat} (h : p < (revTo xs k).length) : (revTo xs k)[p] = if p < k ∨ xs.length - k ≤ p then xs.getD (xs.length - 1 - p) 0 else xs.getD p 0 := by simp [revTo]
theorem revTo_at {xs : List Int} {k p : Nat} (h : p < xs.length) : (revTo xs k).getD p 0 = if p < k ∨ xs.length - k ≤ p then xs.getD (xs.length - 1 - p) 0 else xs.getD p 0 := by
  rw [← revTo_get (by rw [revTo_len]; exact h)]
  simp [List.getD, List.getElem?_eq_getElem (show p < (revTo xs k).length by rw [revTo_len]; exact h)]
theorem revTo_zero (xs : List Int) : revTo xs 0 = xs := by
  refine List.ext_getElem (revTo_len _ _) fun p h1 h2 => ?_
  rw [revTo_get, if_neg (by omega)]
  simp [List.getD, List.getElem?_eq_getElem h2]
theorem revTo_step {xs : List Int} {k : Nat} (h : k + 1 + k < xs.length) : ((revTo xs k).set k (xs.getD (xs.length - 1 - k) 0)).set (xs.length - 1 - k) (xs.getD k 0) = revTo xs (k + 1) := by
  refine List.ext_getElem (by simp [revTo_len]) fun p h1 h2 => ?_
  rw [revTo_len] at h2
  rw [List.getElem_set, List.getElem_set, revTo_get, revTo_get]
  by_cases e1 : xs.length - 1 - k = p
  · rw [if_pos e1, if_pos (by omega)]
    congr 1
    omega
  · rw [if_neg e1]
    by_cases e2 : k = p
    · subst e2
      rw [if_pos rfl, if_pos (by omega)]
    · rw [if_neg e2]
      by_cases h3 : p < k ∨ xs.length - k ≤ p
      · rw [if_pos h3, if_pos (by omega)]
      · rw [if_neg h3, if_neg (by omega)]
theorem revTo_end {xs : List Int} {k : Nat} (h : xs.length ≤ k + 1 + k) : revTo xs k = xs.reverse := by
  refine List.ext_getElem (by simp [revTo_len]) fun p h1 h2 => ?_
  rw [List.length_reverse] at h2
  rw [revTo_get, List.getElem_reverse]
  by_cases h3 : p < k ∨ xs.length - k ≤ p
  · rw [if_pos h3]
    simp [List.getD, List.getElem?_eq_getElem (show xs.length - 1 - p < xs.length by omega)]
  · rw [if_neg h3]
    have e : xs.length - 1 - p = p := by omega
    simp [List.getD, List.getElem?_eq_getElem h2, e]
set_option maxRecDepth 100000 in
set_option maxHeartbeats 4000000 in
theorem reverse_any (B g cap : Nat) (xs : List Int) (hx : xs.length ≤ 100000) (hx0 : 0 < xs.length) (w : World) (h : w.ownsRow B 3 1 (.slice (some ⟨g, 0, none⟩) xs.length cap) xs.length (ints xs)) :
    Calls Tryz.prog 147 #[.slice (some ⟨g, 0, none⟩) xs.length cap] w fun e w' => (∃ v, e = .returned v) ∧ w'.ownsRow B 3 1 (.slice (some ⟨g, 0, none⟩) xs.length cap) xs.length (ints xs.reverse) ∧ w.grownBy w' (some g) := by
  have H := Lib.hid h
  obtain ⟨n, en⟩ : ∃ n, n = xs.length := ⟨_, rfl⟩
  have EN := Lib.hid en
  have RS := Lib.hid (fun k h => revTo_step (xs := xs) (k := k) h)
  have RE := Lib.hid (fun k h => revTo_end (xs := xs) (k := k) h)
  have RA := Lib.hid (fun k p h => revTo_at (xs := xs) (k := k) (p := p) h)
  have RL := Lib.hid (revTo_len xs)
  have RZ := Lib.hid (revTo_zero xs)
  have hm := h
  rw [← en] at hx hx0 ⊢
  clear h en hm
  go_enter Tryz.func147, Tryz.ntmps147
  go_wp2_with fail
  go_loopw [2, 3] (fun i j wr => ∃ k : Nat, k + k ≤ n ∧ i = .int .i64 k ∧ j = .int .i64 ((n : Int) - 1 - k) ∧ wr.ownsRow B 3 1 (.slice (some ⟨g, 0, none⟩) n cap) n (ints (revTo xs k)) ∧ w.grownBy wr (some g)) (fun i _ _ => n - (intOf i).toNat)
  case atStart => exact ⟨0, by omega, rfl, by simp, by rw [RZ.out, EN.out]; exact H.out, World.grownBy.refl _ _⟩
  case round =>
    obtain ⟨k, hk, rfl, rfl, ho, hg⟩ := hrel
    by_cases hlt : k + 1 + k < n
    · have hlt2 : (k : Int) < n - 1 - k := by omega
      obtain ⟨d, ed⟩ : ∃ d : Nat, d = n - 1 - k := ⟨_, rfl⟩
      have hd : (n : Int) - 1 - k = d := by omega
      rw [hd]
      have hdn : d < n := by omega
      have hkd : k ≠ d := by omega
      have ck : wr.cell? ⟨g, k, none⟩ = some (.int .i64 (xs.getD k 0)) := by
        rw [ho.cellAt k (by omega), ints_at (by rw [RL.out k, ← EN.out]; omega), RA.out k k (by rw [← EN.out]; omega), if_neg (by have := EN.out; omega)]
      have cd : wr.cell? ⟨g, d, none⟩ = some (.int .i64 (xs.getD d 0)) := by
        rw [ho.cellAt d (by omega), ints_at (by rw [RL.out k, ← EN.out]; omega), RA.out k d (by rw [← EN.out]; omega), if_neg (by have := EN.out; omega)]
      have hs := RS.out k (by rw [← EN.out]; omega)
      rw [show xs.length - 1 - k = d by rw [← EN.out]; exact ed.symm] at hs
      have HS := Lib.hid hs
      generalize xs.getD k 0 = a at ck HS
      generalize xs.getD d 0 = b at cd HS
      have o1 := own_putH ho (show k < n by omega) (.int .i64 b)
      have o1' := own_putH ho hdn (.int .i64 a)
      have O2 := Lib.hid (own_putH o1 hdn (.int .i64 a))
      have frz : ∀ {W : World} {ys : List Value} (j : Nat), W.ownsRow B 3 1 (.slice (some ⟨g, 0, none⟩) n cap) n ys → W.frozen? ⟨g, j, none⟩ = false := fun {W ys} j ho => by
        rcases ho.2 with ⟨h', _⟩ | ⟨g', cap', cur, h', _, hgh, _⟩
        · simp at h'
        · simp only [Value.slice.injEq, Option.some.injEq, Addr.mk.injEq, and_true, true_and] at h'
          obtain ⟨rfl, rfl⟩ := h'
          exact Blk.frozen hgh j
      have fk := frz k ho
      have fd := frz d ho
      have fd2 := frz d o1
      have fk2 := frz k o1'
      have hil : (ints (revTo xs k)).length = n := by rw [ints_length, RL.out k, EN.out]
      have cd2 : (wr.setCell ⟨g, k, none⟩ (.int .i64 b)).cell? ⟨g, d, none⟩ = some (.int .i64 b) := by
        rw [o1.cellAt d (by omega), List.getElem?_set_ne hkd, ← ho.cellAt d (by omega)]; exact cd
      have ck2 : (wr.setCell ⟨g, d, none⟩ (.int .i64 a)).cell? ⟨g, k, none⟩ = some (.int .i64 a) := by
        rw [o1'.cellAt k (by omega), List.getElem?_set_ne (fun e => hkd e.symm), ← ho.cellAt k (by omega)]; exact ck
      have HG := Lib.hid (show w.grownBy ((wr.setCell ⟨g, k, none⟩ (.int .i64 b)).setCell ⟨g, d, none⟩ (.int .i64 a)).drew (some g) from by
        have g1 : ∀ (X : World) (o : Nat) (u : Value), X.grownBy (X.setCell ⟨g, o, none⟩ u) (some g) := fun X o u => by
          have hbl := Below.setCell (Below.refl g X) (p := ⟨g, o, none⟩) (Nat.le_refl _) u
          exact ⟨hbl.os, hbl.tape, hbl.output, hbl.size, fun j _ hne => Below.heap_setCell _ _ _ j (fun e => hne (by rw [show j = g from e]))⟩
        have := (hg.trans (g1 wr k (.int .i64 b))).trans (g1 _ d (.int .i64 a))
        exact ⟨this.os, this.tape, this.output, this.size, this.block⟩)
      have O3 := Lib.hid (show ((wr.setCell ⟨g, k, none⟩ (.int .i64 b)).setCell ⟨g, d, none⟩ (.int .i64 a)).drew.ownsRow B 3 1 (.slice (some ⟨g, 0, none⟩) n cap) n (ints (revTo xs (k + 1))) from by
        rw [← HS.out, ← ints_set, ← ints_set]
        exact O2.out)
      have hdk : (d : Int) - 1 = (n : Int) - 1 - ((k + 1 : Nat) : Int) := by omega
      have HDK := Lib.hid hdk
      have hlt3 : (k : Int) < d := by omega
      have hdi : (d : Int) < n := by omega
      have hki : (k : Int) < n := by omega
      clear ho hg o1 o1' frz hil hs hd hdk ed hlt2
      go_upto_region 3 with fail
      go_region
      obtain ⟨w9, ew9⟩ : ∃ u, u = ((wr.setCell ⟨g, k, none⟩ (.int .i64 b)).setCell ⟨g, d, none⟩ (.int .i64 a)).drew := ⟨_, rfl⟩
      rw [← ew9] at O3 HG ⊢
      clear ew9 ck cd fk fd fd2 fk2 cd2 ck2
      go_wp2_with fail
      go_roundw
      case rel => exact ⟨k + 1, by omega, by go_num, by rw [← HDK.out], O3.out, HG.out⟩
      case measure => simp [intOf]; omega
    · have hlt2 : ¬ (k : Int) < n - 1 - k := by omega
      have HO := Lib.hid ho
      have HG := Lib.hid hg
      clear ho hg
      go_wp2_with fail
      go_end0
      refine ⟨⟨_, rfl⟩, ?_, HG.out⟩
      rw [← RE.out k (by rw [← EN.out]; omega)]
      exact HO.out
end Go.Proofs.YtlbjmkljmhfjdaaGreat
namespace Go.Proofs.YtlbjmkljmhfjdaaGreat
open Go Go.RowKit Go.Maps Go.Shelf
theorem srch_yes {g : Gr} {i : Nat} (hR : Right g) (hi : i < g.rules.length) : srch g i = bfs (lcal g) i := by
  unfold srch; rw [if_pos ⟨rightB_true.2 hR, by omega, by omega⟩, Int.toNat_natCast]
theorem lcal32 {g : Gr} (hR : Right g) : ∀ a k, k ∈ lcal g a → k < 32 := fun a k hk => Nat.lt_of_lt_of_le (lcal_lt hk) hR.rules.2
theorem srch_sound (g : Gr) (i : Int) : Sound (srch g i) := by
  unfold srch
  split
  · rename_i h; exact bfs_sound (lcal32 (rightB_true.1 h.1)) _
  · exact start_sound 0
theorem srch_ranked (g : Gr) (i : Int) : Ranked i.toNat (srch g i) := by
  unfold srch
  split
  · rename_i h; exact bfs_ranked (lcal32 (rightB_true.1 h.1)) _
  · obtain ⟨r, cnt, h1, h2⟩ := start_ranked 0
    refine ⟨r, cnt, h1, fun k hk => ?_⟩
    simp only [startB, List.getD, List.getElem?_replicate] at hk
    split at hk <;> simp at hk
theorem srch_met_i {g : Gr} {i : Int} {k : Nat} (h : (srch g i).1.getD k false = true) : 0 ≤ i ∧ i < g.rules.length ∧ Right g := by
  unfold srch at h
  split at h
  · rename_i h1; exact ⟨h1.2.1, h1.2.2, rightB_true.1 h1.1⟩
  · simp only [startB, List.getD, List.getElem?_replicate] at h
    split at h <;> simp at h
noncomputable def toOf (g : Gr) (i : Int) : List Nat := rowOf' 32 fun k => (srch g i).1.getD k false
noncomputable def wayOf (g : Gr) (i k : Int) : List Nat := by classical exact if 0 ≤ k ∧ k < 32 ∧ (srch g i).1.getD k.toNat false = true then wayB (srch g i) i.toNat k.toNat else []
set_option maxRecDepth 100000 in
set_option maxHeartbeats 4000000 in
theorem to_any (g : Gr) (i : Int) (hi : -9223372036854775808 ≤ i ∧ i < 9223372036854775808) (w : World) (hg : Gr.At w g) (hin : Gr.In g) (hc : Capd g) : Calls Tryz.prog 25 #[g.val, .int .i64 i] w (Row w (toOf g i)) := by
  have S := Lib.hid (fun (w' : World) (b : Below w.heap.size w w') => searchFrom_any g i hi w' (hg.below b) hin hc)
  have RI := Lib.hid (fun (b : Nat) (w1 : World) (hb : Blk w1 b (cellsB (srch g i)).toArray 94) => rising_has 32 b (fun k => (srch g i).1.getD k false) (by omega) w1 (fun W hb2 k hk => by
    have hcell := (hb.below' hb2).cell k
    rw [List.getElem?_toArray, cellsB_met (srch_sound g i) hk] at hcell
    exact (has_any b k _ hk W hcell).mono fun e w' ⟨q1, q2⟩ => ⟨q1, by rw [q2]; exact Below.refl _ _⟩))
  have ET : RowKit.Hid (toOf g i = rowOf' 32 fun k => (srch g i).1.getD k false) := Lib.hid rfl
  rw [← ET.out] at RI
  generalize toOf g i = L at RI ⊢
  clear hg hin hc ET
  show Calls Tryz.prog 25 #[.agg #[.slice g.RA g.rules.length g.rc, .slice g.NA g.nodes.length g.nc], .int .i64 i] w _
  go_enter Tryz.func25, Tryz.ntmps25
  go_wp2_with fail
  refine (S.out _ (B1 _ _)).mono ?_
  rintro e w1 ⟨b, rfl, hb, hl⟩
  have HB := Lib.hid hb
  have H1 := Lib.hid (bb (B1 w _) hl)
  clear hb hl
  go_wp2_with fail
  refine (RI.out b w1 HB.out).mono ?_
  rintro e w2 ⟨⟨v, rfl, ho, hn⟩, hb⟩
  have HO := Lib.hid (own_lower ho H1.out.size)
  have HN := Lib.hid hn
  have H2 := Lib.hid (H1.out.trans (hb.mono H1.out.size))
  clear ho hn hb RI
  go_wp2_with fail
  go_ret
  exact ⟨⟨v, rfl, HO.out, HN.out⟩, H2.out⟩
theorem own_one1 (w : World) (l : List Nat) : ∀ (k : Nat), l = [k] → (w.alloc (.cells #[.int .i64 k] 3)).ownsRow w.heap.size 3 1 (.slice (some ⟨w.heap.size, 0, none⟩) 1 1) l.length (ints (nums l)) := by
  rintro k rfl
  exact ⟨rfl, .inr ⟨w.heap.size, 1, #[.int .i64 k], rfl, Nat.le_refl _, Blk.new _ _ _, Nat.le_refl _, by unfold maxLen; omega, rfl, rfl⟩⟩
theorem before_any (b k a : Nat) (hk : k < 32) (w : World) (hc : w.cell? ⟨b, 32 + k, none⟩ = some (.int .i64 a)) : Calls Tryz.prog 97 #[.pointer (some ⟨b, 0, none⟩), .int .i64 k] w fun e w' => e = .returned (.int .i64 a) ∧ w' = w := by
  have hk2 : (k : Int) < 32 := by omega
  go_enter Tryz.func97, Tryz.ntmps97
  go_wp2_with fail
  go_ret
  exact ⟨rfl, rfl⟩
theorem met_lt {s : Bf} (hs : Sound s) {k : Nat} (h : s.1.getD k false = true) : k < 32 := by
  rcases Nat.lt_or_ge k 32 with h1 | h1
  · exact h1
  · simp only [List.getD] at h
    rw [List.getElem?_eq_none (by rw [hs.met]; exact h1)] at h
    cases h
def lenV : Value → Nat
  | .slice _ n _ => n
  | _ => 0
set_option maxRecDepth 100000 in
set_option maxHeartbeats 4000000 in
theorem row_any (b i k : Nat) (s : Bf) (hs : Sound s) (hr : Ranked i s) (hi : i < 100) (hk : s.1.getD k false = true) (w : World) (hb : Blk w b (cellsB s).toArray 94) :
    Calls Tryz.prog 96 #[.int .i64 i, .int .i64 k, .func (.func 97) #[.pointer (some ⟨b, 0, none⟩)] #[]] w (Row w (wayB s i k)) := by
  obtain ⟨i0, hi0, hz0, hz1, hz2⟩ := info_parts Tryz.info3
  obtain ⟨r, cnt, hcnt, hrk⟩ := hr
  have BF := Lib.hid (fun (j : Nat) (hj : j < 32) (W : World) (hW : Below w.heap.size w W) => before_any b j (s.2.1.getD j 0) hj W (by rw [(hb.below' hW).cell, List.getElem?_toArray, cellsB_ahead hs hj]))
  have hk32 := met_lt hs hk
  have RK := Lib.hid (fun j (hj : s.1.getD j false = true) => show j < 32 ∧ r j + 1 ≤ 32 ∧ (s.2.1.getD j 0 = i ∨ (s.1.getD (s.2.1.getD j 0) false = true ∧ r (s.2.1.getD j 0) < r j)) from ⟨met_lt hs hj, by have := (hrk j hj).1; omega, (hrk j hj).2⟩)
  have HK := Lib.hid hk
  have EW : RowKit.Hid (wayB s i k = (k :: backF s.2.1 i 33 (s.2.1.getD k 0)).reverse) := Lib.hid rfl
  generalize wayB s i k = Wy at EW ⊢
  have B0 := Lib.hid (BF.out k hk32)
  have E1 := Lib.hid (RK.out k HK.out)
  obtain ⟨a0, ea0⟩ : ∃ a, a = s.2.1.getD k 0 := ⟨_, rfl⟩
  rw [← ea0] at EW E1 B0
  clear hrk hs hb hk ea0
  go_enter Tryz.func96, Tryz.ntmps96
  go_wp2_with fail
  refine (B0.out _ (B1 _ _)).mono ?_
  rintro e w1 ⟨rfl, rfl⟩
  go_wp2_with fail
  have O1 := Lib.hid (own_one1 w [k] k rfl)
  have HB1 := Lib.hid (B1 w (.cells #[.int .i64 k] 3))
  generalize hw1 : w.alloc (.cells #[.int .i64 k] 3) = w1 at O1 HB1 ⊢
  clear hw1
  go_loopw [7, 8] (fun v at_ wr => ∃ (a f : Nat) (l : List Nat), at_ = .int .i64 a ∧ l.length + f = 34 ∧ 1 ≤ f ∧ l ++ backF s.2.1 i f a = k :: backF s.2.1 i 33 a0 ∧ (a = i ∨ (s.1.getD a false = true ∧ r a + 1 < f)) ∧ wr.ownsRow w.heap.size 3 1 v l.length (ints (nums l)) ∧ l ≠ [] ∧ Below w.heap.size w wr) (fun v _ _ => 40 - lenV v)
  case atStart => exact ⟨a0, 33, [k], rfl, rfl, by omega, rfl, by
    rcases E1.out.2.2 with h | ⟨h, h2⟩
    · exact .inl h
    · exact .inr ⟨h, by have := (RK.out _ h).2.1; omega⟩, O1.out, by simp, HB1.out⟩
  case round =>
    obtain ⟨a, f, l, rfl, hlf, hf1, hbk, hor, ho, hne, hbl⟩ := hrel
    obtain ⟨A, cp, rfl, _, _⟩ := own_slice ho
    have HO := Lib.hid ho
    have HL := Lib.hid hbl
    have HNE := Lib.hid hne
    have HBK := Lib.hid hbk
    have HOR := Lib.hid hor
    obtain ⟨ll, ell⟩ : ∃ ll, ll = l.length := ⟨_, rfl⟩
    have ELL := Lib.hid ell
    rw [← ell] at HO hlf ⊢
    clear ho hbl hne hbk hor ell
    by_cases hai : a = i
    · subst hai
      have EQ := Lib.hid (show l ++ [a] = k :: backF s.2.1 a 33 a0 from by
        rw [← HBK.out]
        obtain ⟨f', rfl⟩ : ∃ f', f = f' + 1 := ⟨f - 1, by omega⟩
        simp [backF])
      clear HOR HBK
      go_wp2_with (at_builtin; refine wpList_append_own _ rfl _ _ 38 rfl w.heap.size 3 i0 (.int .i64 0) 1 8 Tryz.underlying38 hi0 hz0 hz1 hz2 rfl (by decide) _ _ _ rfl (HO.out.alloc _) ⟨wr.heap.size, 0, none⟩ 1 1 [.int .i64 a] rfl rfl (cell_one_new _ _ _) (by simp [Value.oneCell']) (by unfold maxLen; omega) (by omega) (by have := HL.out.size; simp; omega) ?_; intro v' w9 hown' hgrow hnil'; obtain ⟨g9, c9, rfl, _, _⟩ := own_shape hown' (by omega); have O9 := Lib.hid hown'; have G9 := Lib.hid hgrow; clear hown' hgrow hnil')
      have GB9 := Lib.hid (grown_below (HL.out.trans ((B1 wr (.cells #[.int .i64 a] 3)).mono HL.out.size)) (by have := HL.out.size; simp; omega) G9.out (fun j e => (HO.out.lt j e).1))
      have hln : (nums (l ++ [a])).length = ll + 1 := by rw [nums_len, List.length_append, ELL.out]; rfl
      have RV := Lib.hid (reverse_any w.heap.size g9 c9 (nums (l ++ [a])) (by rw [hln]; omega) (by rw [hln]; omega) w9 (by
        rw [hln, nums_app]
        have := O9.out
        simpa [ints] using this))
      rw [hln] at RV
      refine RV.out.mono ?_
      rintro e w10 ⟨⟨v, rfl⟩, ho, hg⟩
      have HO10 := Lib.hid ho
      have HB10 := Lib.hid (grown_below GB9.out GB9.out.size hg (fun j e => by cases e; exact (O9.out.lt g9 rfl).1))
      clear ho hg hln RV
      go_wp2_with fail
      go_ret
      have hW : Wy = (l ++ [a]).reverse := by rw [EW.out, EQ.out]
      refine ⟨⟨_, rfl, ?_, ?_⟩, HB10.out⟩
      · have := HO10.out
        rw [hW, List.length_reverse, List.length_append]
        have e : nums (l ++ [a]).reverse = (nums (l ++ [a])).reverse := by simp [nums]
        rw [e, show l.length + [a].length = ll + 1 by rw [ELL.out]; rfl]
        exact this
      · rw [hW]; simp
    · have hmet := (HOR.out.resolve_left hai)
      have hai2 : ¬ (a : Int) = i := by omega
      have RA := Lib.hid (RK.out a hmet.1)
      have HMT := Lib.hid hmet
      clear HOR hmet
      go_wp2_with (at_builtin; refine wpList_append_own _ rfl _ _ 38 rfl w.heap.size 3 i0 (.int .i64 0) 1 8 Tryz.underlying38 hi0 hz0 hz1 hz2 rfl (by decide) _ _ _ rfl (HO.out.alloc _) ⟨wr.heap.size, 0, none⟩ 1 1 [.int .i64 a] rfl rfl (cell_one_new _ _ _) (by simp [Value.oneCell']) (by unfold maxLen; omega) (by omega) (by have := HL.out.size; simp; omega) ?_; intro v' w9 hown' hgrow hnil'; obtain ⟨g9, c9, rfl, _, _⟩ := own_shape hown' (by omega); have O9 := Lib.hid hown'; have G9 := Lib.hid (grown_below (HL.out.trans ((B1 wr (.cells #[.int .i64 a] 3)).mono HL.out.size)) (by have := HL.out.size; simp; omega) hgrow (fun j e => (HO.out.lt j e).1)); clear hown' hgrow hnil')
      refine (BF.out a RA.out.1 w9 G9.out).mono ?_
      rintro e w10 ⟨rfl, rfl⟩
      go_wp2_with fail
      go_roundw
      case rel =>
        refine ⟨s.2.1.getD a 0, f - 1, l ++ [a], by simp [List.getD], by rw [List.length_append, ← ELL.out]; simp; have := HMT.out.2; omega, by have := HMT.out.2; omega, ?_, ?_, ?_, by simp, G9.out⟩
        · rw [← HBK.out]
          obtain ⟨f', rfl⟩ : ∃ f', f = f' + 1 := ⟨f - 1, by omega⟩
          simp [backF, hai]
        · rcases RA.out.2.2 with h | ⟨h, h2⟩
          · exact .inl h
          · exact .inr ⟨h, by have := HMT.out.2; omega⟩
        · rw [List.length_append, nums_app, ← ELL.out]
          have := O9.out
          simpa [ints] using this
      case measure => simp [lenV]; omega
end Go.Proofs.YtlbjmkljmhfjdaaGreat
namespace Go.Proofs.YtlbjmkljmhfjdaaGreat
open Go Go.RowKit Go.Maps Go.Shelf
theorem way_yes {g : Gr} {i k : Int} (h0 : 0 ≤ k) (h1 : k < 32) (h2 : (srch g i).1.getD k.toNat false = true) : wayOf g i k = wayB (srch g i) i.toNat k.toNat := by
  unfold wayOf; rw [if_pos ⟨h0, h1, h2⟩]
theorem way_no {g : Gr} {i k : Int} (h : ¬ (0 ≤ k ∧ k < 32 ∧ (srch g i).1.getD k.toNat false = true)) : wayOf g i k = [] := by
  unfold wayOf; rw [if_neg h]
set_option maxRecDepth 100000 in
set_option maxHeartbeats 4000000 in
theorem way_any (g : Gr) (i k : Int) (hi : -9223372036854775808 ≤ i ∧ i < 9223372036854775808) (hk : -9223372036854775808 ≤ k ∧ k < 9223372036854775808) (w : World) (hg : Gr.At w g) (hin : Gr.In g) (hc : Capd g) : Calls Tryz.prog 27 #[g.val, .int .i64 i, .int .i64 k] w (Row w (wayOf g i k)) := by
  have S := Lib.hid (fun (w' : World) (b : Below w.heap.size w w') => searchFrom_any g i hi w' (hg.below b) hin hc)
  have YES := Lib.hid (@way_yes g i k)
  have NO := Lib.hid (@way_no g i k)
  have RW := Lib.hid (fun (b : Nat) (k' : Nat) (hm : (srch g i).1.getD k' false = true) (w1 : World) (hb : Blk w1 b (cellsB (srch g i)).toArray 94) => by
    obtain ⟨q0, q1, q2⟩ := srch_met_i hm
    exact row_any b i.toNat k' (srch g i) (srch_sound g i) (srch_ranked g i) (by have := q2.rules.2; omega) hm w1 hb)
  have IT := Lib.hid (fun (k' : Nat) (hm : (srch g i).1.getD k' false = true) => show ((i.toNat : Nat) : Int) = i from by
    obtain ⟨q0, q1, q2⟩ := srch_met_i hm
    omega)
  have HC := Lib.hid (fun (b : Nat) (k' : Nat) (h : k' < 32) (w1 : World) (hb : Blk w1 b (cellsB (srch g i)).toArray 94) => has_any b k' ((srch g i).1.getD k' false) h w1 (by rw [hb.cell, List.getElem?_toArray, cellsB_met (srch_sound g i) h]))
  generalize wayOf g i k = L at YES NO ⊢
  clear hg hin hc
  show Calls Tryz.prog 27 #[.agg #[.slice g.RA g.rules.length g.rc, .slice g.NA g.nodes.length g.nc], .int .i64 i, .int .i64 k] w _
  go_enter Tryz.func27, Tryz.ntmps27
  go_upto_region 2 with fail
  refine (S.out _ (B1 _ _)).mono ?_
  rintro e w1 ⟨b, rfl, hb, hl⟩
  have HB := Lib.hid hb
  have H1 := Lib.hid (bb (B1 w _) hl)
  clear hb hl
  by_cases h0 : k < 0
  · have HL := Lib.hid (NO.out (fun h => by omega))
    clear S YES NO RW IT HC HB
    go_wp2_with fail
    go_ret
    rw [HL.out]
    exact row_nil _ _ H1.out
  · by_cases h32 : 32 ≤ k
    · have HL := Lib.hid (NO.out (fun h => by omega))
      clear S YES NO RW IT HC HB
      go_wp2_with fail
      go_ret
      rw [HL.out]
      exact row_nil _ _ H1.out
    · have hk0 : ¬ k < 0 := h0
      obtain ⟨k', rfl⟩ : ∃ k' : Nat, k = k' := ⟨k.toNat, by omega⟩
      have hk32 : k' < 32 := by omega
      have hk32i : ¬ (32 : Int) ≤ k' := h32
      have C := Lib.hid (HC.out b k' hk32 w1 HB.out)
      cases hm : (srch g i).1.getD k' false with
      | false =>
        rw [hm] at C
        have HL := Lib.hid (NO.out (fun h => by rw [Int.toNat_natCast, hm] at h; exact absurd h.2.2 (by decide)))
        clear S YES NO RW IT HC HB hm
        go_wp2_with (go_at_call 95; with_reducible refine C.out.mono ?_; rintro e w2 ⟨rfl, rfl⟩)
        go_ret
        rw [HL.out]
        exact row_nil _ _ H1.out
      | true =>
        rw [hm] at C
        have HL := Lib.hid (YES.out (by omega) (by omega) (by rw [Int.toNat_natCast]; exact hm))
        have R := Lib.hid (RW.out b k' hm w1 HB.out)
        rw [IT.out k' hm] at R
        rw [Int.toNat_natCast] at HL
        rw [← HL.out] at R
        clear S YES NO RW IT HC HB hm
        go_wp2_with (go_at_call 95; with_reducible refine C.out.mono ?_; rintro e w2 ⟨rfl, rfl⟩)
        refine R.out.mono ?_
        rintro e w3 ⟨⟨v, rfl, ho, hn⟩, hb⟩
        have HO := Lib.hid (own_lower ho H1.out.size)
        have HN := Lib.hid hn
        have H2 := Lib.hid (H1.out.trans (hb.mono H1.out.size))
        clear ho hn hb R
        go_wp2_with fail
        go_ret
        exact ⟨⟨v, rfl, HO.out, HN.out⟩, H2.out⟩
noncomputable def goesB (g : Gr) (i : Int) : Bool := decide (0 < (wayOf g i i).length)
set_option maxRecDepth 100000 in
set_option maxHeartbeats 4000000 in
theorem goes_any (g : Gr) (i : Int) (hi : -9223372036854775808 ≤ i ∧ i < 9223372036854775808) (w : World) (hg : Gr.At w g) (hin : Gr.In g) (hc : Capd g) : Calls Tryz.prog 26 #[g.val, .int .i64 i] w fun e w' => e = .returned (.bool (goesB g i)) ∧ Below w.heap.size w w' := by
  have W := Lib.hid (fun (w' : World) (b : Below w.heap.size w w') => way_any g i i hi hi w' (hg.below b) hin hc)
  have EG : RowKit.Hid (goesB g i = decide (0 < (wayOf g i i).length)) := Lib.hid rfl
  generalize goesB g i = bo at EG ⊢
  generalize wayOf g i i = L at W EG
  clear hg hin hc
  show Calls Tryz.prog 26 #[.agg #[.slice g.RA g.rules.length g.rc, .slice g.NA g.nodes.length g.nc], .int .i64 i] w _
  go_enter Tryz.func26, Tryz.ntmps26
  go_wp2_with fail
  refine (W.out _ (B1 _ _)).mono ?_
  rintro e w1 ⟨⟨v, rfl, ho, hn⟩, hb⟩
  obtain ⟨A, cp, rfl, _, _⟩ := own_slice ho
  have H1 := Lib.hid (bb (B1 w _) hb)
  clear ho hn hb
  go_wp2_with fail
  go_ret
  exact ⟨ret_bool (by rw [EG.out]), H1.out⟩
end Go.Proofs.YtlbjmkljmhfjdaaGreat
namespace Go.Proofs.YtlbjmkljmhfjdaaGreat
open Go Go.RowKit
theorem fsts_kz (x : Nd) (may : Int → Bool) : fsts x.kz may = fsts x may := rfl
theorem ownF_kz (l : List Nd) (may : Int → Bool) : ∀ (f : Nat) (n : Int), ownF (l.map Nd.kz) may f n = ownF l may f n
  | 0, _ => rfl
  | f + 1, n => by
    unfold ownF
    rw [kz_getD, fsts_kz, show ownF (l.map Nd.kz) may f = ownF l may f from funext (ownF_kz l may f)]
theorem ownN_kz (l : List Nd) (may : Int → Bool) (n : Int) : ownN (l.map Nd.kz) may n = ownN l may n := by
  unfold ownN
  rw [List.length_map, ownF_kz]
theorem callsB_kz (l : List Nd) (may : Int → Bool) (n : Int) (r : Nat) : callsB (l.map Nd.kz) may n r = callsB l may n r := by
  unfold callsB
  rw [ownN_kz]
  congr 1
  funext m
  rw [kz_getD]
  rfl
theorem mayG_kz (g : Gr) : mayG g.kz = mayG g := by
  unfold mayG
  rw [ranks_kz]
  funext n
  exact mayN_kz g.nodes _ n
theorem callsOf_kz (g : Gr) (n : Int) : callsOf g.kz n = callsOf g n := by
  unfold callsOf
  rw [mayG_kz]
  show rowOf' g.rules.length (callsB (g.nodes.map Nd.kz) (mayG g) n) = _
  rw [show callsB (g.nodes.map Nd.kz) (mayG g) n = callsB g.nodes (mayG g) n from funext fun r => callsB_kz _ _ _ r]
theorem lcal_kz (g : Gr) : lcal g.kz = lcal g := by
  funext r
  unfold lcal
  rw [callsOf_kz]
  rfl
theorem graphOf_kz (g : Gr) : graphOf g.kz = graphOf g := by
  unfold graphOf
  rw [lcal_kz]
  rfl
theorem srch_kz (g : Gr) (i : Int) : srch g.kz i = srch g i := by
  unfold srch
  rw [lcal_kz, rightB_kz]
  rfl
theorem toOf_kz (g : Gr) (i : Int) : toOf g.kz i = toOf g i := by
  unfold toOf
  rw [srch_kz]
theorem wayOf_kz (g : Gr) (i k : Int) : wayOf g.kz i k = wayOf g i k := by
  unfold wayOf
  rw [srch_kz]
theorem goesB_kz (g : Gr) (i : Int) : goesB g.kz i = goesB g i := by
  unfold goesB
  rw [wayOf_kz]
/-- The law's example. -/
def lxBl : List (List Nd) := [ofL 7 [ofL 6 [ofL 10 [[callN 1 0]], [callN 0 0], [wordN ⟨#[120]⟩]], ofL 6 [ofL 11 [[callN 2 0]], [leafN 2]]], ofL 6 [[wordN ⟨#[98]⟩], [callN 0 0]], ofL 6 [ofL 8 [[wordN ⟨#[99]⟩]], [callN 2 0]]]
def lxN : List Nd := [⟨7, 0, 0, 0, 0, ⟨#[]⟩, 0, 0, none, 0, [1, 6]⟩, ⟨6, 0, 0, 0, 0, ⟨#[]⟩, 0, 0, none, 0, [2, 4, 5]⟩, ⟨10, 0, 0, 0, 0, ⟨#[]⟩, 0, 0, none, 0, [3]⟩, ⟨5, 0, 0, 0, 0, ⟨#[]⟩, 1, 0, none, 0, []⟩, ⟨5, 0, 0, 0, 0, ⟨#[]⟩, 0, 0, none, 0, []⟩, ⟨4, 0, 0, 0, 0, ⟨#[120]⟩, 0, 0, none, 0, []⟩,
  ⟨6, 0, 0, 0, 0, ⟨#[]⟩, 0, 0, none, 0, [7, 9]⟩, ⟨11, 0, 0, 0, 0, ⟨#[]⟩, 0, 0, none, 0, [8]⟩, ⟨5, 0, 0, 0, 0, ⟨#[]⟩, 2, 0, none, 0, []⟩, ⟨2, 0, 0, 0, 0, ⟨#[]⟩, 0, 0, none, 0, []⟩,
  ⟨6, 0, 0, 0, 0, ⟨#[]⟩, 0, 0, none, 0, [11, 12]⟩, ⟨4, 0, 0, 0, 0, ⟨#[98]⟩, 0, 0, none, 0, []⟩, ⟨5, 0, 0, 0, 0, ⟨#[]⟩, 0, 0, none, 0, []⟩,
  ⟨6, 0, 0, 0, 0, ⟨#[]⟩, 0, 0, none, 0, [14, 16]⟩, ⟨8, 0, 0, 0, 0, ⟨#[]⟩, 0, 0, none, 0, [15]⟩, ⟨4, 0, 0, 0, 0, ⟨#[99]⟩, 0, 0, none, 0, []⟩, ⟨5, 0, 0, 0, 0, ⟨#[]⟩, 2, 0, none, 0, []⟩]
def lxR : List Rl := [⟨⟨#[65]⟩, 0⟩, ⟨⟨#[66]⟩, 10⟩, ⟨⟨#[67]⟩, 13⟩]
theorem lx_gram : gramL lxBl = (lxR, lxN) := by rfl
def lx0 : Gr := ⟨none, 0, lxR, none, 0, lxN⟩
def lxM : Nat → Meas
  | 0 => (10, 4) | 1 => (5, 3) | 2 => (2, 2) | 6 => (4, 3) | 7 => (2, 2) | 10 => (3, 2) | 13 => (4, 3) | 14 => (2, 2) | _ => (1, 1)
theorem lx_right : Right lx0 where
  rules := by decide
  nodes := by decide
  named := by
    intro i hi
    have : i = 0 ∨ i = 1 ∨ i = 2 := by simp [lx0, lxR] at hi; omega
    rcases this with rfl | rfl | rfl
    all_goals exact ⟨by simp [lx0, lxR, nameOk, byteOk, letter], by simp [lx0, lxR, ruleAt, ruleFrom]⟩
  all := by
    intro i hi
    have : i = 0 ∨ i = 1 ∨ i = 2 ∨ i = 3 ∨ i = 4 ∨ i = 5 ∨ i = 6 ∨ i = 7 ∨ i = 8 ∨ i = 9 ∨ i = 10 ∨ i = 11 ∨ i = 12 ∨ i = 13 ∨ i = 14 ∨ i = 15 ∨ i = 16 := by simp [lx0, lxN] at hi; omega
    rw [nodeOk_iff]
    rcases this with rfl | rfl | rfl | rfl | rfl | rfl | rfl | rfl | rfl | rfl | rfl | rfl | rfl | rfl | rfl | rfl | rfl
    all_goals simp [lx0, lxN, lxR, NodeIs, ByteArray.toList_eq, ByteArray.size]
  pre := ⟨lxM, fun m _ hm => by
    have : m = 0 ∨ m = 1 ∨ m = 2 ∨ m = 3 ∨ m = 4 ∨ m = 5 ∨ m = 6 ∨ m = 7 ∨ m = 8 ∨ m = 9 ∨ m = 10 ∨ m = 11 ∨ m = 12 ∨ m = 13 ∨ m = 14 ∨ m = 15 ∨ m = 16 := by simp [lx0, lxN] at hm; omega
    rcases this with rfl | rfl | rfl | rfl | rfl | rfl | rfl | rfl | rfl | rfl | rfl | rfl | rfl | rfl | rfl | rfl | rfl
    all_goals exact ⟨by decide, by decide, by decide, by rfl⟩, by rfl⟩
theorem lx_graph : graphOf lx0 = [[0, 1, 2], [], [2]] := by kernel_rfl
theorem lx_bfs0 : (bfs (lcal lx0) 0).1 = [true, true, true] ++ List.replicate 29 false ∧ (bfs (lcal lx0) 0).2.1 = List.replicate 32 0 := by exact ⟨by kernel_rfl, by kernel_rfl⟩
theorem lx_bfs1 : (bfs (lcal lx0) 1).1 = List.replicate 32 false := by kernel_rfl
theorem lx_bfs2 : (bfs (lcal lx0) 2).1 = [false, false, true] ++ List.replicate 29 false := by kernel_rfl
theorem lx_srch (i : Nat) (h : i < 3) : srch lx0 i = bfs (lcal lx0) i := srch_yes lx_right h
theorem lx_to : toOf lx0 0 = [0, 1, 2] := by
  unfold toOf
  rw [show srch lx0 0 = bfs (lcal lx0) 0 from lx_srch 0 (by decide), lx_bfs0.1]
  rfl
theorem lx_way : wayOf lx0 0 2 = [0, 2] := by
  have e : srch lx0 0 = bfs (lcal lx0) 0 := lx_srch 0 (by decide)
  rw [way_yes (by decide) (by decide) (by rw [e, lx_bfs0.1]; rfl), e]
  unfold wayB
  rw [lx_bfs0.2]
  rfl
theorem lx_goes : goesB lx0 0 = true ∧ goesB lx0 1 = false ∧ goesB lx0 2 = true := by
  have e0 : srch lx0 0 = bfs (lcal lx0) 0 := lx_srch 0 (by decide)
  have e1 : srch lx0 1 = bfs (lcal lx0) 1 := lx_srch 1 (by decide)
  have e2 : srch lx0 2 = bfs (lcal lx0) 2 := lx_srch 2 (by decide)
  unfold goesB
  refine ⟨?_, ?_, ?_⟩
  · rw [way_yes (by decide) (by decide) (by rw [e0, lx_bfs0.1]; rfl)]
    simp [wayB]
  · rw [way_no (fun h => by have := h.2.2; rw [e1, lx_bfs1] at this; exact absurd this (by decide))]
    rfl
  · rw [way_yes (by decide) (by decide) (by rw [e2, lx_bfs2]; rfl)]
    simp [wayB]
end Go.Proofs.YtlbjmkljmhfjdaaGreat
namespace Go.Proofs.YtlbjmkljmhfjdaaGreat
open Go Go.RowKit
theorem lies_three {w : World} {b : Nat} {x y z : Value} {T : TypeId} (h : Blk w b #[x, y, z] T) : Lies w (some ⟨b, 0, none⟩) [x, y, z] := fun _ => ⟨b, 0, rfl, h.lt, fun i hi => by
  have : i = 0 ∨ i = 1 ∨ i = 2 := by simp at hi; omega
  rcases this with rfl | rfl | rfl <;> (rw [Nat.zero_add, h.cell]; rfl)⟩
set_option maxRecDepth 100000 in
set_option maxHeartbeats 8000000 in
theorem lexample_any (w : World) : Calls Tryz.prog 22 #[] w fun e w' => ∃ g : Gr, e = .returned g.val ∧ Gr.At w' g ∧ g.kz = lx0 ∧ Capd g ∧ Below w.heap.size w w' := by
  go_enter Tryz.func22, Tryz.ntmps22
  go_upto_region 1 with fail
  obtain ⟨w0, ew0⟩ : ∃ u, u = w.alloc (.cells #[.slice none 0 0, .slice none 0 0] 25) := ⟨_, rfl⟩
  have HW0 := Lib.hid (show Below w.heap.size w w0 from by rw [ew0]; exact B1 _ _)
  have R_0 := Lib.hid (show Blk w0 w.heap.size #[.slice none 0 0, .slice none 0 0] 25 from by rw [ew0]; exact Blk.new _ _ _)
  rw [← ew0]
  clear ew0
  go_wp2_with fail
  refine (kcall_any 0 0 _).mono ?_
  rintro e w1 ⟨Aa, ca, La, rfl, sa, ba, na, hb⟩
  have Sa := Lib.hid sa
  have Na := Lib.hid na
  have Ba_1 := Lib.hid ba
  have HW1 := Lib.hid (HW0.out.trans (hb.mono HW0.out.size))
  have R_1 := Lib.hid (R_0.out.below' hb)
  clear sa ba na hb
  go_wp2_with fail
  refine (kcall_any 1 0 _).mono ?_
  rintro e w2 ⟨Ab, cb, Lb, rfl, sb, bb, nb, hb⟩
  have Sb := Lib.hid sb
  have Nb := Lib.hid nb
  have Bb_2 := Lib.hid bb
  have Ba_2 := Lib.hid (Ba_1.out.below hb)
  have HW2 := Lib.hid (HW1.out.trans (hb.mono HW1.out.size))
  have R_2 := Lib.hid (R_1.out.below' hb)
  clear sb bb nb hb
  go_wp2_with fail
  refine (kcall_any 2 0 _).mono ?_
  rintro e w3 ⟨Ac, cc, Lc, rfl, sc, bc, nc, hb⟩
  have Sc := Lib.hid sc
  have Nc := Lib.hid nc
  have Bc_3 := Lib.hid bc
  have Ba_3 := Lib.hid (Ba_2.out.below hb)
  have Bb_3 := Lib.hid (Bb_2.out.below hb)
  have HW3 := Lib.hid (HW2.out.trans (hb.mono HW2.out.size))
  have R_3 := Lib.hid (R_2.out.below' hb)
  clear sc bc nc hb
  go_wp2_with fail
  refine (kin_any 10 Ab cb Lb 0 _ Bb_3.out Nb.out (by have h := congrArg List.length Sb.out; simp only [List.length_map] at h; rw [h]; decide) (by decide)).mono ?_
  rintro e w4 ⟨Ad, cd, Ld, rfl, sd, bd, nd, hb⟩
  rw [Sb.out] at sd
  have Sd := Lib.hid sd
  have Nd := Lib.hid nd
  have Bd_4 := Lib.hid bd
  have Ba_4 := Lib.hid (Ba_3.out.below hb)
  have Bb_4 := Lib.hid (Bb_3.out.below hb)
  have Bc_4 := Lib.hid (Bc_3.out.below hb)
  have HW4 := Lib.hid (HW3.out.trans (hb.mono HW3.out.size))
  have R_4 := Lib.hid (R_3.out.below' hb)
  clear sd bd nd hb
  go_wp2_with fail
  refine (word_any ⟨#[120]⟩ (by decide) _).mono ?_
  rintro e w5 ⟨Af, cf, Lf, rfl, sf, bf, nf, hb⟩
  have Sf := Lib.hid sf
  have Nf := Lib.hid nf
  have Bf_5 := Lib.hid bf
  have Ba_5 := Lib.hid (Ba_4.out.below hb)
  have Bb_5 := Lib.hid (Bb_4.out.below hb)
  have Bc_5 := Lib.hid (Bc_4.out.below hb)
  have Bd_5 := Lib.hid (Bd_4.out.below hb)
  have HW5 := Lib.hid (HW4.out.trans (hb.mono HW4.out.size))
  have R_5 := Lib.hid (R_4.out.below' hb)
  clear sf bf nf hb
  have GR := Lib.hid (of_any 6 (some ⟨w5.heap.size, 0, none⟩) [(Ad, cd, Ld), (Aa, ca, La), (Af, cf, Lf)] 3 100000 (w5.alloc (.cells #[.slice Ad Ld.length cd, .slice Aa La.length ca, .slice Af Lf.length cf] 23)) ⟨lies_three (Blk.new _ _ _), fun x hx => by
    simp only [List.mem_cons, List.not_mem_nil, or_false] at hx
    rcases hx with rfl | rfl | rfl
    · exact ⟨(Bd_5.out.mono (by decide)).below (B1 _ _), (by have h := congrArg List.length Sd.out; simp only [List.length_map] at h; rw [h]; decide), Nd.out⟩
    · exact ⟨(Ba_5.out.mono (by decide)).below (B1 _ _), (by have h := congrArg List.length Sa.out; simp only [List.length_map] at h; rw [h]; decide), Na.out⟩
    · exact ⟨(Bf_5.out.mono (by decide)).below (B1 _ _), (by have h := congrArg List.length Sf.out; simp only [List.length_map] at h; rw [h]; decide), Nf.out⟩
    ⟩ (by simp) (by decide))
  simp only [List.length_cons, List.length_nil, Nat.reduceAdd, List.map_cons, List.map_nil, Sd.out, Sa.out, Sf.out] at GR
  go_wp2_with fail
  refine GR.out.mono ?_
  rintro e w6 ⟨Ah, ch, Lh, rfl, sh, bh, nh, _, hb0⟩
  have hb : Below w5.heap.size w5 w6 := (B1 w5 _).trans (hb0.mono (by simp))
  clear hb0 GR
  have Sh := Lib.hid sh
  have Nh := Lib.hid nh
  have Bh_6 := Lib.hid bh
  have Ba_6 := Lib.hid (Ba_5.out.below hb)
  have Bb_6 := Lib.hid (Bb_5.out.below hb)
  have Bc_6 := Lib.hid (Bc_5.out.below hb)
  have Bd_6 := Lib.hid (Bd_5.out.below hb)
  have Bf_6 := Lib.hid (Bf_5.out.below hb)
  have HW6 := Lib.hid (HW5.out.trans (hb.mono HW5.out.size))
  have R_6 := Lib.hid (R_5.out.below' hb)
  clear sh bh nh hb
  go_wp2_with fail
  refine (kin_any 11 Ac cc Lc 0 _ Bc_6.out Nc.out (by have h := congrArg List.length Sc.out; simp only [List.length_map] at h; rw [h]; decide) (by decide)).mono ?_
  rintro e w7 ⟨Ai, ci, Li, rfl, si, bi, ni, hb⟩
  rw [Sc.out] at si
  have Si := Lib.hid si
  have Ni := Lib.hid ni
  have Bi_7 := Lib.hid bi
  have Ba_7 := Lib.hid (Ba_6.out.below hb)
  have Bb_7 := Lib.hid (Bb_6.out.below hb)
  have Bc_7 := Lib.hid (Bc_6.out.below hb)
  have Bd_7 := Lib.hid (Bd_6.out.below hb)
  have Bf_7 := Lib.hid (Bf_6.out.below hb)
  have Bh_7 := Lib.hid (Bh_6.out.below hb)
  have HW7 := Lib.hid (HW6.out.trans (hb.mono HW6.out.size))
  have R_7 := Lib.hid (R_6.out.below' hb)
  clear si bi ni hb
  go_wp2_with fail
  refine (leaf_any 2 _).mono ?_
  rintro e w8 ⟨Aj, cj, Lj, rfl, sj, bj, nj, hb⟩
  have Sj := Lib.hid sj
  have Nj := Lib.hid nj
  have Bj_8 := Lib.hid bj
  have Ba_8 := Lib.hid (Ba_7.out.below hb)
  have Bb_8 := Lib.hid (Bb_7.out.below hb)
  have Bc_8 := Lib.hid (Bc_7.out.below hb)
  have Bd_8 := Lib.hid (Bd_7.out.below hb)
  have Bf_8 := Lib.hid (Bf_7.out.below hb)
  have Bh_8 := Lib.hid (Bh_7.out.below hb)
  have Bi_8 := Lib.hid (Bi_7.out.below hb)
  have HW8 := Lib.hid (HW7.out.trans (hb.mono HW7.out.size))
  have R_8 := Lib.hid (R_7.out.below' hb)
  clear sj bj nj hb
  go_wp2_with fail
  refine (chain_any Ai ci Li Aj cj Lj 100000 _ (Bi_8.out.mono (K' := 100000) (by decide)) (Bj_8.out.mono (K' := 100000) (by decide)) Ni.out Nj.out (by have h := congrArg List.length Si.out; simp only [List.length_map] at h; rw [h]; decide) (by have h := congrArg List.length Sj.out; simp only [List.length_map] at h; rw [h]; decide) (by decide)).mono ?_
  rintro e w9 ⟨Ak, ck, Lk, rfl, sk, bk, nk, hb⟩
  rw [Si.out] at sk
  rw [Sj.out] at sk
  have Sk := Lib.hid sk
  have Nk := Lib.hid nk
  have Bk_9 := Lib.hid bk
  have Ba_9 := Lib.hid (Ba_8.out.below hb)
  have Bb_9 := Lib.hid (Bb_8.out.below hb)
  have Bc_9 := Lib.hid (Bc_8.out.below hb)
  have Bd_9 := Lib.hid (Bd_8.out.below hb)
  have Bf_9 := Lib.hid (Bf_8.out.below hb)
  have Bh_9 := Lib.hid (Bh_8.out.below hb)
  have Bi_9 := Lib.hid (Bi_8.out.below hb)
  have Bj_9 := Lib.hid (Bj_8.out.below hb)
  have HW9 := Lib.hid (HW8.out.trans (hb.mono HW8.out.size))
  have R_9 := Lib.hid (R_8.out.below' hb)
  clear sk bk nk hb
  go_wp2_with fail
  refine (first_any Ah ch Lh Ak ck Lk 200000 _ (Bh_9.out.mono (K' := 200000) (by decide)) (Bk_9.out.mono (K' := 200000) (by decide)) Nh.out Nk.out (by have h := congrArg List.length Sh.out; simp only [List.length_map] at h; rw [h]; decide) (by have h := congrArg List.length Sk.out; simp only [List.length_map] at h; rw [h]; decide) (by decide)).mono ?_
  rintro e w10 ⟨Ag1, cg1, Lg1, rfl, sg1, bg1, ng1, hb⟩
  rw [Sh.out] at sg1
  rw [Sk.out] at sg1
  have Sg1 := Lib.hid sg1
  have Ng1 := Lib.hid ng1
  have Bg1_10 := Lib.hid bg1
  have Ba_10 := Lib.hid (Ba_9.out.below hb)
  have Bb_10 := Lib.hid (Bb_9.out.below hb)
  have Bc_10 := Lib.hid (Bc_9.out.below hb)
  have Bd_10 := Lib.hid (Bd_9.out.below hb)
  have Bf_10 := Lib.hid (Bf_9.out.below hb)
  have Bh_10 := Lib.hid (Bh_9.out.below hb)
  have Bi_10 := Lib.hid (Bi_9.out.below hb)
  have Bj_10 := Lib.hid (Bj_9.out.below hb)
  have Bk_10 := Lib.hid (Bk_9.out.below hb)
  have HW10 := Lib.hid (HW9.out.trans (hb.mono HW9.out.size))
  have R_10 := Lib.hid (R_9.out.below' hb)
  clear sg1 bg1 ng1 hb
  go_wp2_with fail
  refine (word_any ⟨#[98]⟩ (by decide) _).mono ?_
  rintro e w11 ⟨Am, cm, Lm, rfl, sm, bm, nm, hb⟩
  have Sm := Lib.hid sm
  have Nm := Lib.hid nm
  have Bm_11 := Lib.hid bm
  have Ba_11 := Lib.hid (Ba_10.out.below hb)
  have Bb_11 := Lib.hid (Bb_10.out.below hb)
  have Bc_11 := Lib.hid (Bc_10.out.below hb)
  have Bd_11 := Lib.hid (Bd_10.out.below hb)
  have Bf_11 := Lib.hid (Bf_10.out.below hb)
  have Bh_11 := Lib.hid (Bh_10.out.below hb)
  have Bi_11 := Lib.hid (Bi_10.out.below hb)
  have Bj_11 := Lib.hid (Bj_10.out.below hb)
  have Bk_11 := Lib.hid (Bk_10.out.below hb)
  have Bg1_11 := Lib.hid (Bg1_10.out.below hb)
  have HW11 := Lib.hid (HW10.out.trans (hb.mono HW10.out.size))
  have R_11 := Lib.hid (R_10.out.below' hb)
  clear sm bm nm hb
  go_wp2_with fail
  refine (chain_any Am cm Lm Aa ca La 0 _ (Bm_11.out.mono (K' := 0) (by decide)) (Ba_11.out.mono (K' := 0) (by decide)) Nm.out Na.out (by have h := congrArg List.length Sm.out; simp only [List.length_map] at h; rw [h]; decide) (by have h := congrArg List.length Sa.out; simp only [List.length_map] at h; rw [h]; decide) (by decide)).mono ?_
  rintro e w12 ⟨Ag2, cg2, Lg2, rfl, sg2, bg2, ng2, hb⟩
  rw [Sm.out] at sg2
  rw [Sa.out] at sg2
  have Sg2 := Lib.hid sg2
  have Ng2 := Lib.hid ng2
  have Bg2_12 := Lib.hid bg2
  have Ba_12 := Lib.hid (Ba_11.out.below hb)
  have Bb_12 := Lib.hid (Bb_11.out.below hb)
  have Bc_12 := Lib.hid (Bc_11.out.below hb)
  have Bd_12 := Lib.hid (Bd_11.out.below hb)
  have Bf_12 := Lib.hid (Bf_11.out.below hb)
  have Bh_12 := Lib.hid (Bh_11.out.below hb)
  have Bi_12 := Lib.hid (Bi_11.out.below hb)
  have Bj_12 := Lib.hid (Bj_11.out.below hb)
  have Bk_12 := Lib.hid (Bk_11.out.below hb)
  have Bg1_12 := Lib.hid (Bg1_11.out.below hb)
  have Bm_12 := Lib.hid (Bm_11.out.below hb)
  have HW12 := Lib.hid (HW11.out.trans (hb.mono HW11.out.size))
  have R_12 := Lib.hid (R_11.out.below' hb)
  clear sg2 bg2 ng2 hb
  go_wp2_with fail
  refine (word_any ⟨#[99]⟩ (by decide) _).mono ?_
  rintro e w13 ⟨An, cn, Ln, rfl, sn, bn, nn, hb⟩
  have Sn := Lib.hid sn
  have Nn := Lib.hid nn
  have Bn_13 := Lib.hid bn
  have Ba_13 := Lib.hid (Ba_12.out.below hb)
  have Bb_13 := Lib.hid (Bb_12.out.below hb)
  have Bc_13 := Lib.hid (Bc_12.out.below hb)
  have Bd_13 := Lib.hid (Bd_12.out.below hb)
  have Bf_13 := Lib.hid (Bf_12.out.below hb)
  have Bh_13 := Lib.hid (Bh_12.out.below hb)
  have Bi_13 := Lib.hid (Bi_12.out.below hb)
  have Bj_13 := Lib.hid (Bj_12.out.below hb)
  have Bk_13 := Lib.hid (Bk_12.out.below hb)
  have Bg1_13 := Lib.hid (Bg1_12.out.below hb)
  have Bm_13 := Lib.hid (Bm_12.out.below hb)
  have Bg2_13 := Lib.hid (Bg2_12.out.below hb)
  have HW13 := Lib.hid (HW12.out.trans (hb.mono HW12.out.size))
  have R_13 := Lib.hid (R_12.out.below' hb)
  clear sn bn nn hb
  go_wp2_with fail
  refine (kin_any 8 An cn Ln 0 _ Bn_13.out Nn.out (by have h := congrArg List.length Sn.out; simp only [List.length_map] at h; rw [h]; decide) (by decide)).mono ?_
  rintro e w14 ⟨Ap, cp, Lp, rfl, sp, bp, np, hb⟩
  rw [Sn.out] at sp
  have Sp := Lib.hid sp
  have Np := Lib.hid np
  have Bp_14 := Lib.hid bp
  have Ba_14 := Lib.hid (Ba_13.out.below hb)
  have Bb_14 := Lib.hid (Bb_13.out.below hb)
  have Bc_14 := Lib.hid (Bc_13.out.below hb)
  have Bd_14 := Lib.hid (Bd_13.out.below hb)
  have Bf_14 := Lib.hid (Bf_13.out.below hb)
  have Bh_14 := Lib.hid (Bh_13.out.below hb)
  have Bi_14 := Lib.hid (Bi_13.out.below hb)
  have Bj_14 := Lib.hid (Bj_13.out.below hb)
  have Bk_14 := Lib.hid (Bk_13.out.below hb)
  have Bg1_14 := Lib.hid (Bg1_13.out.below hb)
  have Bm_14 := Lib.hid (Bm_13.out.below hb)
  have Bg2_14 := Lib.hid (Bg2_13.out.below hb)
  have Bn_14 := Lib.hid (Bn_13.out.below hb)
  have HW14 := Lib.hid (HW13.out.trans (hb.mono HW13.out.size))
  have R_14 := Lib.hid (R_13.out.below' hb)
  clear sp bp np hb
  go_wp2_with fail
  refine (chain_any Ap cp Lp Ac cc Lc 100000 _ (Bp_14.out.mono (K' := 100000) (by decide)) (Bc_14.out.mono (K' := 100000) (by decide)) Np.out Nc.out (by have h := congrArg List.length Sp.out; simp only [List.length_map] at h; rw [h]; decide) (by have h := congrArg List.length Sc.out; simp only [List.length_map] at h; rw [h]; decide) (by decide)).mono ?_
  rintro e w15 ⟨Ag3, cg3, Lg3, rfl, sg3, bg3, ng3, hb⟩
  rw [Sp.out] at sg3
  rw [Sc.out] at sg3
  have Sg3 := Lib.hid sg3
  have Ng3 := Lib.hid ng3
  have Bg3_15 := Lib.hid bg3
  have Ba_15 := Lib.hid (Ba_14.out.below hb)
  have Bb_15 := Lib.hid (Bb_14.out.below hb)
  have Bc_15 := Lib.hid (Bc_14.out.below hb)
  have Bd_15 := Lib.hid (Bd_14.out.below hb)
  have Bf_15 := Lib.hid (Bf_14.out.below hb)
  have Bh_15 := Lib.hid (Bh_14.out.below hb)
  have Bi_15 := Lib.hid (Bi_14.out.below hb)
  have Bj_15 := Lib.hid (Bj_14.out.below hb)
  have Bk_15 := Lib.hid (Bk_14.out.below hb)
  have Bg1_15 := Lib.hid (Bg1_14.out.below hb)
  have Bm_15 := Lib.hid (Bm_14.out.below hb)
  have Bg2_15 := Lib.hid (Bg2_14.out.below hb)
  have Bn_15 := Lib.hid (Bn_14.out.below hb)
  have Bp_15 := Lib.hid (Bp_14.out.below hb)
  have HW15 := Lib.hid (HW14.out.trans (hb.mono HW14.out.size))
  have R_15 := Lib.hid (R_14.out.below' hb)
  clear sg3 bg3 ng3 hb
  have GR := Lib.hid (gram_any (some ⟨w15.heap.size, 0, none⟩) [(Ag1, cg1, Lg1), (Ag2, cg2, Lg2), (Ag3, cg3, Lg3)] 3 300000 (w15.alloc (.cells #[.slice Ag1 Lg1.length cg1, .slice Ag2 Lg2.length cg2, .slice Ag3 Lg3.length cg3] 23)) ⟨lies_three (Blk.new _ _ _), fun x hx => by
    simp only [List.mem_cons, List.not_mem_nil, or_false] at hx
    rcases hx with rfl | rfl | rfl
    · exact ⟨(Bg1_15.out.mono (by decide)).below (B1 _ _), (by have h := congrArg List.length Sg1.out; simp only [List.length_map] at h; rw [h]; decide), Ng1.out⟩
    · exact ⟨(Bg2_15.out.mono (by decide)).below (B1 _ _), (by have h := congrArg List.length Sg2.out; simp only [List.length_map] at h; rw [h]; decide), Ng2.out⟩
    · exact ⟨(Bg3_15.out.mono (by decide)).below (B1 _ _), (by have h := congrArg List.length Sg3.out; simp only [List.length_map] at h; rw [h]; decide), Ng3.out⟩
    ⟩ (by simp) (by decide))
  simp only [List.length_cons, List.length_nil, Nat.reduceAdd, List.map_cons, List.map_nil, Sg1.out, Sg2.out, Sg3.out] at GR
  go_wp2_with fail
  refine GR.out.mono ?_
  rintro e wg ⟨g, rfl, hst, hsp, hkl, hcp, hb⟩
  have HST := Lib.hid hst
  have HSP := Lib.hid hsp
  have HCP := Lib.hid hcp
  have RG := Lib.hid (show Blk wg w.heap.size #[.slice none 0 0, .slice none 0 0] 25 from ((R_15.out.alloc _).below' hb))
  have HWG := Lib.hid (show Below w.heap.size w wg from (HW15.out.alloc HW15.out.size _).trans (hb.mono (by have := HW15.out.size; simp; omega)))
  have HLO := Lib.hid (show w.heap.size < w15.heap.size from R_15.out.lt)
  clear hst hsp hkl hcp hb GR
  go_wp2_with (refine wpList_store_whole rfl 25 (.tmp 0) (.tmp 26) rfl w.heap.size #[.slice g.RA g.rules.length g.rc, .slice g.NA g.nodes.length g.nc] rfl rfl 25 _ RG.out (by kernel_rfl) (by rfl) (by simp [Value.oneCell']) ?_; intro w5 hk5 hg5; have K5 := Lib.hid hk5; have G5 := Lib.hid hg5; clear hk5 hg5)
  refine bodyPost_ret (results_cell_row rfl _ _ w.heap.size 25 _ (0, 0) _ rfl K5.out Tryz.underlying25 rfl (by kernel_rfl)) rfl ?_
  exact ⟨g, rfl, HST.out w5 G5.out.size (fun b h1 h2 => G5.out.block b h2 (fun e => by have := HLO.out; cases e; simp at h1; omega)), kz_of (HSP.out.trans lx_gram), HCP.out, grown_below HWG.out HWG.out.size G5.out (fun k e => by cases e; exact Nat.le_refl _)⟩
end Go.Proofs.YtlbjmkljmhfjdaaGreat

/- The way back, plainly; the search from a rule: the program's answers To, Goes. -/
import Derived.Test.YtmlaepbmdfmgbaaL4
set_option linter.unusedSimpArgs false
set_option linter.unusedVariables false
namespace Go.Proofs.Ytmlaepbmdfmgbaa
open Go Go.RowKit Go.Maps Go.Shelf
/-- Each was met from one that was met earlier, or from the first. -/
def Ranked (i : Nat) (s : Bf) : Prop := ∃ (r : Nat → Nat) (cnt : Nat), cnt + unmet s.1 = 32 ∧ ∀ k, s.1.getD k false = true → r k < cnt ∧ (s.2.1.getD k 0 = i ∨ (s.1.getD (s.2.1.getD k 0) false = true ∧ r (s.2.1.getD k 0) < r k))
theorem ahead_set {l : List Nat} {k j a : Nat} (hk : k < l.length) : (l.set k a).getD j 0 = if j = k then a else l.getD j 0 := by
  simp only [List.getD, List.getElem?_set]
  by_cases e : k = j
  · subst e; simp [hk]
  · rw [if_neg e, if_neg (fun h => e h.symm)]
theorem visit_ranked {i a k : Nat} {s : Bf} (hs : Sound s) (hk : k < 32) (ha : a = i ∨ s.1.getD a false = true) (h : Ranked i s) : Ranked i (visit a s k) := by
  unfold visit
  split
  · exact h
  · rename_i hn
    have hf : s.1.getD k false = false := by simpa using hn
    obtain ⟨r, cnt, hc, hr⟩ := h
    have hu := unmet_set (m := s.1) (k := k) (by rw [hs.met]; exact hk) hf
    have hset := fun j => met_set (m := s.1) (k := k) (j := j) (by rw [hs.met]; exact hk)
    refine ⟨fun j => if j = k then cnt else r j, cnt + 1, by show cnt + 1 + unmet (s.1.set k true) = 32; omega, fun j hj => ?_⟩
    show (if j = k then cnt else r j) < cnt + 1 ∧ ((s.2.1.set k a).getD j 0 = i ∨ ((s.1.set k true).getD ((s.2.1.set k a).getD j 0) false = true ∧ (if (s.2.1.set k a).getD j 0 = k then cnt else r ((s.2.1.set k a).getD j 0)) < if j = k then cnt else r j))
    rw [ahead_set (by rw [hs.ahead]; exact hk)]
    by_cases e : j = k
    · rw [if_pos e, if_pos e]
      refine ⟨by omega, ?_⟩
      rcases ha with h1 | h1
      · exact .inl h1
      · have hak : a ≠ k := fun e => by rw [e, hf] at h1; cases h1
        exact .inr ⟨(hset a).2 (.inr h1), by rw [if_neg hak]; exact (hr a h1).1⟩
    · rw [if_neg e, if_neg e]
      have hm : s.1.getD j false = true := ((hset j).1 hj).resolve_left e
      obtain ⟨h1, h2⟩ := hr j hm
      refine ⟨by omega, ?_⟩
      rcases h2 with h2 | ⟨h2, h3⟩
      · exact .inl h2
      · have hak : s.2.1.getD j 0 ≠ k := fun e => by rw [e, hf] at h2; cases h2
        exact .inr ⟨(hset _).2 (.inr h2), by rw [if_neg hak]; exact h3⟩
theorem visits_ranked {i a : Nat} : ∀ (l : List Nat) (s : Bf), (∀ k ∈ l, k < 32) → Sound s → (a = i ∨ s.1.getD a false = true) → Ranked i s → Ranked i (l.foldl (visit a) s)
  | [], _, _, _, _, h => h
  | k :: l, s, hl, hs, ha, h => by
    have hk := hl k (List.mem_cons_self ..)
    exact visits_ranked l (visit a s k) (fun j hj => hl j (List.mem_cons_of_mem _ hj)) (visit_sound hs) (by
      rcases ha with h1 | h1
      · exact .inl h1
      · exact .inr ((visit_met hs hk).2 (.inr h1))) (visit_ranked hs hk ha h)
theorem pop_ranked {c : Nat → List Nat} {i : Nat} (hc : ∀ a k, k ∈ c a → k < 32) {s : Bf} (hs : Sound s) (hv : Inv c i s (fun _ => False)) (h : Ranked i s) : Ranked i (popB c s) := by
  cases hq : s.2.2 with
  | nil => rw [pop_nil hq]; exact h
  | cons a q =>
    rw [pop_cons hq]
    exact visits_ranked (c a) (s.1, s.2.1, q) (hc a) ⟨hs.met, hs.ahead⟩ (hv.next a (by rw [hq]; exact List.mem_cons_self ..)) h
theorem run_ranked {c : Nat → List Nat} {i : Nat} (hc : ∀ a k, k ∈ c a → k < 32) : ∀ (n : Nat) {s : Bf}, Sound s → Inv c i s (fun _ => False) → Ranked i s → Ranked i (runB c n s)
  | 0, _, _, _, h => h
  | n + 1, _, hs, hv, h => run_ranked hc n (pop_sound hc hs).1 (pop_inv hc hs hv) (pop_ranked hc hs hv h)
theorem start_ranked (i : Nat) : Ranked i (startB i) := ⟨fun _ => 0, 0, by simp [startB, unmet], fun k h => by
  simp only [startB, List.getD, List.getElem?_replicate] at h
  split at h <;> simp at h⟩
theorem bfs_ranked {c : Nat → List Nat} (hc : ∀ a k, k ∈ c a → k < 32) (i : Nat) : Ranked i (bfs c i) := run_ranked hc fuelB (start_sound i) (start_inv c i) (start_ranked i)
/-- From one back to the first. -/
def backF (ah : List Nat) (i : Nat) : Nat → Nat → List Nat
  | 0, _ => []
  | f + 1, a => if a = i then [i] else a :: backF ah i f (ah.getD a 0)
/-- The way from the first to one. -/
def wayB (s : Bf) (i k : Nat) : List Nat := (k :: backF s.2.1 i 33 (s.2.1.getD k 0)).reverse
noncomputable def srch (g : Gr) (i : Int) : Bf := by classical exact if rightB g = true ∧ 0 ≤ i ∧ i < g.rules.length then bfs (lcal g) i.toNat else startB 0
theorem cells_start (i j : Nat) : cellsB (startB i) = cellsB (startB j) := rfl
theorem lcal_len (g : Gr) (a : Nat) : (lcal g a).length ≤ g.rules.length := rowOf_len _ _
theorem Try.zero_search : (cellsB (startB 0)).toArray = #[.bool false, .bool false, .bool false, .bool false, .bool false, .bool false, .bool false, .bool false, .bool false, .bool false, .bool false, .bool false, .bool false, .bool false, .bool false, .bool false, .bool false, .bool false, .bool false, .bool false, .bool false, .bool false, .bool false, .bool false, .bool false, .bool false, .bool false, .bool false, .bool false, .bool false, .bool false, .bool false,
  .int .i64 0, .int .i64 0, .int .i64 0, .int .i64 0, .int .i64 0, .int .i64 0, .int .i64 0, .int .i64 0, .int .i64 0, .int .i64 0, .int .i64 0, .int .i64 0, .int .i64 0, .int .i64 0, .int .i64 0, .int .i64 0, .int .i64 0, .int .i64 0, .int .i64 0, .int .i64 0, .int .i64 0, .int .i64 0, .int .i64 0, .int .i64 0, .int .i64 0, .int .i64 0, .int .i64 0, .int .i64 0, .int .i64 0, .int .i64 0, .int .i64 0, .int .i64 0] := by rfl
set_option maxRecDepth 100000 in
set_option maxHeartbeats 4000000 in
theorem searchFrom_yes (g : Gr) (i : Nat) (hi : i < g.rules.length) (hR : Right g) (w : World) (hg : Gr.At w g) (hin : Gr.In g) (hc : Capd g) : Calls Try.prog 56 #[g.val, .int .i64 i] w fun e w' =>
    ∃ b, e = .returned (.pointer (some ⟨b, 0, none⟩)) ∧ Blk w' b (cellsB (bfs (lcal g) i)).toArray 98 ∧ Below w.heap.size w w' := by
  have h32 := hR.rules.2
  have WY := Lib.hid (fun (w' : World) (b : Below w.heap.size w w') => lworkOf_any g w' (hg.below b) hin hR)
  have HG := Lib.hid hg
  have SP := Lib.hid (fun (b p nb : Nat) (w1 : World) (hb : Blk w1 b (cellsB (startB i)).toArray 98) (hC : ∀ W, w1.grownBy W (some b) → Wk W p g nb) => spread_any b i p (lcal g) (fun a k hk => Nat.lt_of_lt_of_le (lcal_lt hk) h32) g.rules.length h32 (fun a k hk => lcal_lt hk) (fun a => Nat.le_trans (lcal_len g a) h32) hi w1 hb (fun W hW a ha => bodyCalls_any (hC W hW) hR hc a ha))
  have hnl := hg.rl
  clear hg hin hR hc
  show Calls Try.prog 56 #[.agg #[.slice g.RA g.rules.length g.rc, .slice g.NA g.nodes.length g.nc], .int .i64 i] w _
  have h0 : ¬ (i : Int) < 0 := by omega
  have h1 : ¬ (g.rules.length : Int) ≤ i := by omega
  go_enter Try.func56, Try.ntmps56
  go_upto_region 4 with fail
  obtain ⟨w1, ew1⟩ : ∃ u, u = (w.alloc (.cells #[.slice g.RA g.rules.length g.rc, .slice g.NA g.nodes.length g.nc] 25)).alloc (.cells (cellsB (startB 0)).toArray 98) := ⟨_, rfl⟩
  have hb1 : Below w.heap.size w w1 := by rw [ew1]; exact B2 _ _ _
  have kb : Blk w1 (w.heap.size + 1) (cellsB (startB i)).toArray 98 := by
    rw [cells_start i 0, ew1]
    have := Blk.new (w.alloc (.cells #[.slice g.RA g.rules.length g.rc, .slice g.NA g.nodes.length g.nc] 25)) (cellsB (startB 0)).toArray 98
    rw [World.size_alloc] at this
    exact this
  have kg : Blk w1 w.heap.size #[.slice g.RA g.rules.length g.rc, .slice g.NA g.nodes.length g.nc] 25 := by rw [ew1]; exact (Blk.new _ _ _).alloc _
  rw [Try.zero_search] at ew1
  rw [← ew1]
  have q0 := kg.cell 0
  have q1 := kg.cell 1
  simp only [List.getElem?_toArray, List.getElem?_cons_zero, List.getElem?_cons_succ] at q0 q1
  have W1 := Lib.hid (WY.out w1 hb1)
  have HB1 := Lib.hid hb1
  have KB := Lib.hid kb
  clear ew1 hb1 kb kg WY
  go_wp2_with fail
  refine W1.out.mono ?_
  rintro e w2 ⟨p, nb, rfl, hW, hb2⟩
  have hk2 := KB.out.below' hb2
  have S2 := Lib.hid (SP.out (w.heap.size + 1) p nb w2 hk2 (fun W hgr => by
    have hne : ∀ {d : Nat} {vs : Array Value} {T : TypeId}, Blk w2 d vs T → T ≠ 98 → d ≠ w.heap.size + 1 := fun hd hT e => by
      subst e
      have := hd.symm.trans hk2
      simp only [Option.some.injEq, Obj.cells.injEq] at this
      exact hT this.2.1
    have key : ∀ d, d < w2.heap.size → d ≠ w.heap.size + 1 → W.heap[d]? = w2.heap[d]? := fun d hd h => hgr.block d hd (fun e => h (Option.some.inj e))
    refine ⟨(key p hW.box.lt (hne hW.box (by decide))).trans hW.box, HG.out.heap (Nat.le_trans (HB1.out.trans (hb2.mono HB1.out.size)).size hgr.size) (fun d hd => ?_), (key nb hW.row.lt (hne hW.row (by decide))).trans hW.row⟩
    have h2 := HB1.out.trans (hb2.mono HB1.out.size)
    exact (key d (Nat.lt_of_lt_of_le hd h2.size) (by omega)).trans (h2.block d hd)))
  have H2 := Lib.hid (HB1.out.trans (hb2.mono HB1.out.size))
  clear hk2 hW hb2 SP
  go_wp2_with fail
  refine S2.out.mono ?_
  rintro e w3 ⟨⟨v, rfl⟩, hk3, hg3⟩
  have K3 := Lib.hid hk3
  have G3 := Lib.hid hg3
  clear hk3 hg3
  go_wp2_with fail
  go_ret
  exact ⟨_, rfl, K3.out, grown_below H2.out H2.out.size G3.out (fun k e => by cases e; omega)⟩
set_option maxRecDepth 100000 in
set_option maxHeartbeats 4000000 in
theorem searchFrom_no (g : Gr) (i : Int) (hi : -9223372036854775808 ≤ i ∧ i < 9223372036854775808) (hno : ¬ (rightB g = true ∧ 0 ≤ i ∧ i < g.rules.length)) (w : World) (hg : Gr.At w g) (hin : Gr.In g) : Calls Try.prog 56 #[g.val, .int .i64 i] w fun e w' =>
    ∃ b, e = .returned (.pointer (some ⟨b, 0, none⟩)) ∧ Blk w' b (cellsB (startB 0)).toArray 98 ∧ Below w.heap.size w w' := by
  have WN := Lib.hid (fun (hR : rightB g = false) (w' : World) (b : Below w.heap.size w w') => lworkOf_no g w' (hg.below b) hin hR)
  have hnl := hg.rl
  clear hg hin
  show Calls Try.prog 56 #[.agg #[.slice g.RA g.rules.length g.rc, .slice g.NA g.nodes.length g.nc], .int .i64 i] w _
  by_cases h0 : i < 0
  · clear WN hno
    go_enter Try.func56, Try.ntmps56
    go_wp2_with fail
    go_ret
    rw [Try.zero_search]
    exact ⟨_, rfl, by have := Blk.new (w.alloc (.cells #[.slice g.RA g.rules.length g.rc, .slice g.NA g.nodes.length g.nc] 25)); rw [World.size_alloc] at this; exact this _ _, B2 _ _ _⟩
  · by_cases h1 : (g.rules.length : Int) ≤ i
    · clear WN hno
      go_enter Try.func56, Try.ntmps56
      go_wp2_with fail
      go_ret
      rw [Try.zero_search]
      exact ⟨_, rfl, by have := Blk.new (w.alloc (.cells #[.slice g.RA g.rules.length g.rc, .slice g.NA g.nodes.length g.nc] 25)); rw [World.size_alloc] at this; exact this _ _, B2 _ _ _⟩
    · have hr : rightB g = false := by
        cases hr : rightB g with
        | false => rfl
        | true => exact (hno ⟨hr, by omega, by omega⟩).elim
      have h1' : ¬ (g.rules.length : Int) ≤ i := h1
      have WN2 := Lib.hid (WN.out hr)
      clear WN hr hno
      go_enter Try.func56, Try.ntmps56
      go_upto_region 4 with fail
      obtain ⟨w1, ew1⟩ : ∃ u, u = (w.alloc (.cells #[.slice g.RA g.rules.length g.rc, .slice g.NA g.nodes.length g.nc] 25)).alloc (.cells (cellsB (startB 0)).toArray 98) := ⟨_, rfl⟩
      have hb1 : Below w.heap.size w w1 := by rw [ew1]; exact B2 _ _ _
      have kb : Blk w1 (w.heap.size + 1) (cellsB (startB 0)).toArray 98 := by
        rw [ew1]
        have := Blk.new (w.alloc (.cells #[.slice g.RA g.rules.length g.rc, .slice g.NA g.nodes.length g.nc] 25)) (cellsB (startB 0)).toArray 98
        rw [World.size_alloc] at this
        exact this
      have kg : Blk w1 w.heap.size #[.slice g.RA g.rules.length g.rc, .slice g.NA g.nodes.length g.nc] 25 := by rw [ew1]; exact (Blk.new _ _ _).alloc _
      rw [Try.zero_search] at ew1
      rw [← ew1]
      have q0 := kg.cell 0
      have q1 := kg.cell 1
      simp only [List.getElem?_toArray, List.getElem?_cons_zero, List.getElem?_cons_succ] at q0 q1
      have W1 := Lib.hid (WN2.out w1 hb1)
      have HB1 := Lib.hid hb1
      have KB := Lib.hid kb
      clear ew1 hb1 kb kg WN2
      go_wp2_with fail
      refine W1.out.mono ?_
      rintro e w2 ⟨rfl, hb2⟩
      have K2 := Lib.hid (KB.out.below' hb2)
      have H2 := Lib.hid (HB1.out.trans (hb2.mono HB1.out.size))
      clear hb2
      go_wp2_with fail
      go_ret
      exact ⟨_, rfl, K2.out, H2.out⟩
theorem searchFrom_any (g : Gr) (i : Int) (hi : -9223372036854775808 ≤ i ∧ i < 9223372036854775808) (w : World) (hg : Gr.At w g) (hin : Gr.In g) (hc : Capd g) : Calls Try.prog 56 #[g.val, .int .i64 i] w fun e w' =>
    ∃ b, e = .returned (.pointer (some ⟨b, 0, none⟩)) ∧ Blk w' b (cellsB (srch g i)).toArray 98 ∧ Below w.heap.size w w' := by
  by_cases h : rightB g = true ∧ 0 ≤ i ∧ i < g.rules.length
  · have e : srch g i = bfs (lcal g) i.toNat := by unfold srch; rw [if_pos h]
    rw [e]
    obtain ⟨k, rfl⟩ : ∃ k : Nat, i = k := ⟨i.toNat, by omega⟩
    exact searchFrom_yes g k (by omega) (rightB_true.1 h.1) w hg hin hc
  · have e : srch g i = startB 0 := by unfold srch; rw [if_neg h]
    rw [e]
    exact searchFrom_no g i hi h w hg hin
end Go.Proofs.Ytmlaepbmdfmgbaa
namespace Go.Proofs.Ytmlaepbmdfmgbaa
open Go Go.RowKit Go.Maps Go.Shelf
theorem own_put {W : World} {B e g n cap k : Nat} {xs : List Value} (h : W.ownsRow B e 1 (.slice (some ⟨g, 0, none⟩) n cap) n xs) (hk : k < n) (u : Value) : (W.setCell ⟨g, k, none⟩ u).ownsRow B e 1 (.slice (some ⟨g, 0, none⟩) n cap) n (xs.set k u) := by
  have hl := h.1
  rcases h.2 with ⟨h', _⟩ | ⟨g', cap', cur, h', hb, hg, hnc, hcm, hcs, htake⟩
  · simp at h'
  · simp only [Value.slice.injEq, Option.some.injEq, Addr.mk.injEq, and_true, true_and] at h'
    obtain ⟨rfl, rfl⟩ := h'
    refine ⟨by rw [List.length_set]; exact hl, .inr ⟨g, cap, cur.setIfInBounds k u, rfl, hb, heap_setCell_same W g k cur e u hg, hnc, hcm, by simpa using hcs, ?_⟩⟩
    rw [← htake, Array.toList_setIfInBounds, List.take_set]
def revTo (xs : List Int) (k : Nat) : List Int := (List.range xs.length).map fun p => if p < k ∨ xs.length - k ≤ p then xs.getD (xs.length - 1 - p) 0 else xs.getD p 0
theorem revTo_len (xs : List Int) (k : Nat) : (revTo xs k).length = xs.length := by simp [revTo]
theorem revTo_get {xs : List Int} {k p : Nat} (h : p < (revTo xs k).length) : (revTo xs k)[p] = if p < k ∨ xs.length - k ≤ p then xs.getD (xs.length - 1 - p) 0 else xs.getD p 0 := by simp [revTo]
theorem revTo_at {xs : List Int} {k p : Nat} (h : p < xs.length) : (revTo xs k).getD p 0 = if p < k ∨ xs.length - k ≤ p then xs.getD (xs.length - 1 - p) 0 else xs.getD p 0 := by
  rw [← revTo_get (by rw [revTo_len]; exact h)]
  simp [List.getD, List.getElem?_eq_getElem (show p < (revTo xs k).length by rw [revTo_len]; exact h)]
theorem revTo_zero (xs : List Int) : revTo xs 0 = xs := by
  refine List.ext_getElem (revTo_len _ _) fun p h1 h2 => ?_
  rw [revTo_get, if_neg (by omega)]
  simp [List.getD, List.getElem?_eq_getElem h2]
theorem revTo_step {xs : List Int} {k : Nat} (h : k + 1 + k < xs.length) : ((revTo xs k).set k (xs.getD (xs.length - 1 - k) 0)).set (xs.length - 1 - k) (xs.getD k 0) = revTo xs (k + 1) := by
  refine List.ext_getElem (by simp [revTo_len]) fun p h1 h2 => ?_
  rw [revTo_len] at h2
  rw [List.getElem_set, List.getElem_set, revTo_get, revTo_get]
  by_cases e1 : xs.length - 1 - k = p
  · rw [if_pos e1, if_pos (by omega)]
    congr 1
    omega
  · rw [if_neg e1]
    by_cases e2 : k = p
    · subst e2
      rw [if_pos rfl, if_pos (by omega)]
    · rw [if_neg e2]
      by_cases h3 : p < k ∨ xs.length - k ≤ p
      · rw [if_pos h3, if_pos (by omega)]
      · rw [if_neg h3, if_neg (by omega)]
theorem revTo_end {xs : List Int} {k : Nat} (h : xs.length ≤ k + 1 + k) : revTo xs k = xs.reverse := by
  refine List.ext_getElem (by simp [revTo_len]) fun p h1 h2 => ?_
  rw [List.length_reverse] at h2
  rw [revTo_get, List.getElem_reverse]
  by_cases h3 : p < k ∨ xs.length - k ≤ p
  · rw [if_pos h3]
    simp [List.getD, List.getElem?_eq_getElem (show xs.length - 1 - p < xs.length by omega)]
  · rw [if_neg h3]
    have e : xs.length - 1 - p = p := by omega
    simp [List.getD, List.getElem?_eq_getElem h2, e]
set_option maxRecDepth 100000 in
set_option maxHeartbeats 4000000 in
theorem reverse_any (B g cap : Nat) (xs : List Int) (hx : xs.length ≤ 100000) (hx0 : 0 < xs.length) (w : World) (h : w.ownsRow B 3 1 (.slice (some ⟨g, 0, none⟩) xs.length cap) xs.length (ints xs)) :
    Calls Try.prog 75 #[.slice (some ⟨g, 0, none⟩) xs.length cap] w fun e w' => (∃ v, e = .returned v) ∧ w'.ownsRow B 3 1 (.slice (some ⟨g, 0, none⟩) xs.length cap) xs.length (ints xs.reverse) ∧ w.grownBy w' (some g) := by
  have H := Lib.hid h
  obtain ⟨n, en⟩ : ∃ n, n = xs.length := ⟨_, rfl⟩
  have EN := Lib.hid en
  have RS := Lib.hid (fun k h => revTo_step (xs := xs) (k := k) h)
  have RE := Lib.hid (fun k h => revTo_end (xs := xs) (k := k) h)
  have RA := Lib.hid (fun k p h => revTo_at (xs := xs) (k := k) (p := p) h)
  have RL := Lib.hid (revTo_len xs)
  have RZ := Lib.hid (revTo_zero xs)
  have hm := h
  rw [← en] at hx hx0 ⊢
  clear h en hm
  go_enter Try.func75, Try.ntmps75
  go_wp2_with fail
  go_loopw [2, 3] (fun i j wr => ∃ k : Nat, k + k ≤ n ∧ i = .int .i64 k ∧ j = .int .i64 ((n : Int) - 1 - k) ∧ wr.ownsRow B 3 1 (.slice (some ⟨g, 0, none⟩) n cap) n (ints (revTo xs k)) ∧ w.grownBy wr (some g)) (fun i _ _ => n - (intOf i).toNat)
  case atStart => exact ⟨0, by omega, rfl, by simp, by rw [RZ.out, EN.out]; exact H.out, World.grownBy.refl _ _⟩
  case round =>
    obtain ⟨k, hk, rfl, rfl, ho, hg⟩ := hrel
    by_cases hlt : k + 1 + k < n
    · have hlt2 : (k : Int) < n - 1 - k := by omega
      obtain ⟨d, ed⟩ : ∃ d : Nat, d = n - 1 - k := ⟨_, rfl⟩
      have hd : (n : Int) - 1 - k = d := by omega
      rw [hd]
      have hdn : d < n := by omega
      have hkd : k ≠ d := by omega
      have ck : wr.cell? ⟨g, k, none⟩ = some (.int .i64 (xs.getD k 0)) := by
        rw [ho.cellAt k (by omega), ints_at (by rw [RL.out k, ← EN.out]; omega), RA.out k k (by rw [← EN.out]; omega), if_neg (by have := EN.out; omega)]
      have cd : wr.cell? ⟨g, d, none⟩ = some (.int .i64 (xs.getD d 0)) := by
        rw [ho.cellAt d (by omega), ints_at (by rw [RL.out k, ← EN.out]; omega), RA.out k d (by rw [← EN.out]; omega), if_neg (by have := EN.out; omega)]
      have hs := RS.out k (by rw [← EN.out]; omega)
      rw [show xs.length - 1 - k = d by rw [← EN.out]; exact ed.symm] at hs
      have HS := Lib.hid hs
      generalize xs.getD k 0 = a at ck HS
      generalize xs.getD d 0 = b at cd HS
      have o1 := own_put ho (show k < n by omega) (.int .i64 b)
      have o1' := own_put ho hdn (.int .i64 a)
      have O2 := Lib.hid (own_put o1 hdn (.int .i64 a))
      have frz : ∀ {W : World} {ys : List Value} (j : Nat), W.ownsRow B 3 1 (.slice (some ⟨g, 0, none⟩) n cap) n ys → W.frozen? ⟨g, j, none⟩ = false := fun {W ys} j ho => by
        rcases ho.2 with ⟨h', _⟩ | ⟨g', cap', cur, h', _, hgh, _⟩
        · simp at h'
        · simp only [Value.slice.injEq, Option.some.injEq, Addr.mk.injEq, and_true, true_and] at h'
          obtain ⟨rfl, rfl⟩ := h'
          exact Blk.frozen hgh j
      have fk := frz k ho
      have fd := frz d ho
      have fd2 := frz d o1
      have fk2 := frz k o1'
      have hil : (ints (revTo xs k)).length = n := by rw [ints_length, RL.out k, EN.out]
      have cd2 : (wr.setCell ⟨g, k, none⟩ (.int .i64 b)).cell? ⟨g, d, none⟩ = some (.int .i64 b) := by
        rw [o1.cellAt d (by omega), List.getElem?_set_ne hkd, ← ho.cellAt d (by omega)]; exact cd
      have ck2 : (wr.setCell ⟨g, d, none⟩ (.int .i64 a)).cell? ⟨g, k, none⟩ = some (.int .i64 a) := by
        rw [o1'.cellAt k (by omega), List.getElem?_set_ne (fun e => hkd e.symm), ← ho.cellAt k (by omega)]; exact ck
      have HG := Lib.hid (show w.grownBy ((wr.setCell ⟨g, k, none⟩ (.int .i64 b)).setCell ⟨g, d, none⟩ (.int .i64 a)).drew (some g) from by
        have g1 : ∀ (X : World) (o : Nat) (u : Value), X.grownBy (X.setCell ⟨g, o, none⟩ u) (some g) := fun X o u => by
          have hbl := Below.setCell (Below.refl g X) (p := ⟨g, o, none⟩) (Nat.le_refl _) u
          exact ⟨hbl.os, hbl.tape, hbl.output, hbl.size, fun j _ hne => Below.heap_setCell _ _ _ j (fun e => hne (by rw [show j = g from e]))⟩
        have := (hg.trans (g1 wr k (.int .i64 b))).trans (g1 _ d (.int .i64 a))
        exact ⟨this.os, this.tape, this.output, this.size, this.block⟩)
      have O3 := Lib.hid (show ((wr.setCell ⟨g, k, none⟩ (.int .i64 b)).setCell ⟨g, d, none⟩ (.int .i64 a)).drew.ownsRow B 3 1 (.slice (some ⟨g, 0, none⟩) n cap) n (ints (revTo xs (k + 1))) from by
        rw [← HS.out, ← ints_set, ← ints_set]
        exact O2.out)
      have hdk : (d : Int) - 1 = (n : Int) - 1 - ((k + 1 : Nat) : Int) := by omega
      have HDK := Lib.hid hdk
      have hlt3 : (k : Int) < d := by omega
      have hdi : (d : Int) < n := by omega
      have hki : (k : Int) < n := by omega
      clear ho hg o1 o1' frz hil hs hd hdk ed hlt2
      go_upto_region 3 with fail
      go_region
      obtain ⟨w9, ew9⟩ : ∃ u, u = ((wr.setCell ⟨g, k, none⟩ (.int .i64 b)).setCell ⟨g, d, none⟩ (.int .i64 a)).drew := ⟨_, rfl⟩
      rw [← ew9] at O3 HG ⊢
      clear ew9 ck cd fk fd fd2 fk2 cd2 ck2
      go_wp2_with fail
      go_roundw
      case rel => exact ⟨k + 1, by omega, by go_num, by rw [← HDK.out], O3.out, HG.out⟩
      case measure => simp [intOf]; omega
    · have hlt2 : ¬ (k : Int) < n - 1 - k := by omega
      have HO := Lib.hid ho
      have HG := Lib.hid hg
      clear ho hg
      go_wp2_with fail
      go_end0
      refine ⟨⟨_, rfl⟩, ?_, HG.out⟩
      rw [← RE.out k (by rw [← EN.out]; omega)]
      exact HO.out
end Go.Proofs.Ytmlaepbmdfmgbaa
namespace Go.Proofs.Ytmlaepbmdfmgbaa
open Go Go.RowKit Go.Maps Go.Shelf
theorem srch_yes {g : Gr} {i : Nat} (hR : Right g) (hi : i < g.rules.length) : srch g i = bfs (lcal g) i := by
  unfold srch; rw [if_pos ⟨rightB_true.2 hR, by omega, by omega⟩, Int.toNat_natCast]
theorem lcal32 {g : Gr} (hR : Right g) : ∀ a k, k ∈ lcal g a → k < 32 := fun a k hk => Nat.lt_of_lt_of_le (lcal_lt hk) hR.rules.2
theorem srch_sound (g : Gr) (i : Int) : Sound (srch g i) := by
  unfold srch
  split
  · rename_i h; exact bfs_sound (lcal32 (rightB_true.1 h.1)) _
  · exact start_sound 0
theorem srch_ranked (g : Gr) (i : Int) : Ranked i.toNat (srch g i) := by
  unfold srch
  split
  · rename_i h; exact bfs_ranked (lcal32 (rightB_true.1 h.1)) _
  · obtain ⟨r, cnt, h1, h2⟩ := start_ranked 0
    refine ⟨r, cnt, h1, fun k hk => ?_⟩
    simp only [startB, List.getD, List.getElem?_replicate] at hk
    split at hk <;> simp at hk
theorem srch_met_i {g : Gr} {i : Int} {k : Nat} (h : (srch g i).1.getD k false = true) : 0 ≤ i ∧ i < g.rules.length ∧ Right g := by
  unfold srch at h
  split at h
  · rename_i h1; exact ⟨h1.2.1, h1.2.2, rightB_true.1 h1.1⟩
  · simp only [startB, List.getD, List.getElem?_replicate] at h
    split at h <;> simp at h
noncomputable def toOf (g : Gr) (i : Int) : List Nat := rowOf' 32 fun k => (srch g i).1.getD k false
noncomputable def wayOf (g : Gr) (i k : Int) : List Nat := by classical exact if 0 ≤ k ∧ k < 32 ∧ (srch g i).1.getD k.toNat false = true then wayB (srch g i) i.toNat k.toNat else []
set_option maxRecDepth 100000 in
set_option maxHeartbeats 4000000 in
theorem to_any (g : Gr) (i : Int) (hi : -9223372036854775808 ≤ i ∧ i < 9223372036854775808) (w : World) (hg : Gr.At w g) (hin : Gr.In g) (hc : Capd g) : Calls Try.prog 40 #[g.val, .int .i64 i] w (Row w (toOf g i)) := by
  have S := Lib.hid (fun (w' : World) (b : Below w.heap.size w w') => searchFrom_any g i hi w' (hg.below b) hin hc)
  have RI := Lib.hid (fun (b : Nat) (w1 : World) (hb : Blk w1 b (cellsB (srch g i)).toArray 98) => rising_has 32 b (fun k => (srch g i).1.getD k false) (by omega) w1 (fun W hb2 k hk => by
    have hcell := (hb.below' hb2).cell k
    rw [List.getElem?_toArray, cellsB_met (srch_sound g i) hk] at hcell
    exact (has_any b k _ hk W hcell).mono fun e w' ⟨q1, q2⟩ => ⟨q1, by rw [q2]; exact Below.refl _ _⟩))
  have ET : RowKit.Hid (toOf g i = rowOf' 32 fun k => (srch g i).1.getD k false) := Lib.hid rfl
  rw [← ET.out] at RI
  generalize toOf g i = L at RI ⊢
  clear hg hin hc ET
  show Calls Try.prog 40 #[.agg #[.slice g.RA g.rules.length g.rc, .slice g.NA g.nodes.length g.nc], .int .i64 i] w _
  go_enter Try.func40, Try.ntmps40
  go_wp2_with fail
  refine (S.out _ (B1 _ _)).mono ?_
  rintro e w1 ⟨b, rfl, hb, hl⟩
  have HB := Lib.hid hb
  have H1 := Lib.hid (bb (B1 w _) hl)
  clear hb hl
  go_wp2_with fail
  refine (RI.out b w1 HB.out).mono ?_
  rintro e w2 ⟨⟨v, rfl, ho, hn⟩, hb⟩
  have HO := Lib.hid (own_lower ho H1.out.size)
  have HN := Lib.hid hn
  have H2 := Lib.hid (H1.out.trans (hb.mono H1.out.size))
  clear ho hn hb RI
  go_wp2_with fail
  go_ret
  exact ⟨⟨v, rfl, HO.out, HN.out⟩, H2.out⟩
theorem own_one1 (w : World) (l : List Nat) : ∀ (k : Nat), l = [k] → (w.alloc (.cells #[.int .i64 k] 3)).ownsRow w.heap.size 3 1 (.slice (some ⟨w.heap.size, 0, none⟩) 1 1) l.length (ints (nums l)) := by
  rintro k rfl
  exact ⟨rfl, .inr ⟨w.heap.size, 1, #[.int .i64 k], rfl, Nat.le_refl _, Blk.new _ _ _, Nat.le_refl _, by unfold maxLen; omega, rfl, rfl⟩⟩
theorem before_any (b k a : Nat) (hk : k < 32) (w : World) (hc : w.cell? ⟨b, 32 + k, none⟩ = some (.int .i64 a)) : Calls Try.prog 59 #[.pointer (some ⟨b, 0, none⟩), .int .i64 k] w fun e w' => e = .returned (.int .i64 a) ∧ w' = w := by
  have hk2 : (k : Int) < 32 := by omega
  go_enter Try.func59, Try.ntmps59
  go_wp2_with fail
  go_ret
  exact ⟨rfl, rfl⟩
theorem met_lt {s : Bf} (hs : Sound s) {k : Nat} (h : s.1.getD k false = true) : k < 32 := by
  rcases Nat.lt_or_ge k 32 with h1 | h1
  · exact h1
  · simp only [List.getD] at h
    rw [List.getElem?_eq_none (by rw [hs.met]; exact h1)] at h
    cases h
def lenV : Value → Nat
  | .slice _ n _ => n
  | _ => 0
set_option maxRecDepth 100000 in
set_option maxHeartbeats 4000000 in
theorem row_any (b i k : Nat) (s : Bf) (hs : Sound s) (hr : Ranked i s) (hi : i < 100) (hk : s.1.getD k false = true) (w : World) (hb : Blk w b (cellsB s).toArray 98) :
    Calls Try.prog 58 #[.int .i64 i, .int .i64 k, .func (.func 59) #[.pointer (some ⟨b, 0, none⟩)] #[]] w (Row w (wayB s i k)) := by
  obtain ⟨i0, hi0, hz0, hz1, hz2⟩ := info_parts Try.info3
  obtain ⟨r, cnt, hcnt, hrk⟩ := hr
  have BF := Lib.hid (fun (j : Nat) (hj : j < 32) (W : World) (hW : Below w.heap.size w W) => before_any b j (s.2.1.getD j 0) hj W (by rw [(hb.below' hW).cell, List.getElem?_toArray, cellsB_ahead hs hj]))
  have hk32 := met_lt hs hk
  have RK := Lib.hid (fun j (hj : s.1.getD j false = true) => show j < 32 ∧ r j + 1 ≤ 32 ∧ (s.2.1.getD j 0 = i ∨ (s.1.getD (s.2.1.getD j 0) false = true ∧ r (s.2.1.getD j 0) < r j)) from ⟨met_lt hs hj, by have := (hrk j hj).1; omega, (hrk j hj).2⟩)
  have HK := Lib.hid hk
  have EW : RowKit.Hid (wayB s i k = (k :: backF s.2.1 i 33 (s.2.1.getD k 0)).reverse) := Lib.hid rfl
  generalize wayB s i k = Wy at EW ⊢
  have B0 := Lib.hid (BF.out k hk32)
  have E1 := Lib.hid (RK.out k HK.out)
  obtain ⟨a0, ea0⟩ : ∃ a, a = s.2.1.getD k 0 := ⟨_, rfl⟩
  rw [← ea0] at EW E1 B0
  clear hrk hs hb hk ea0
  go_enter Try.func58, Try.ntmps58
  go_wp2_with fail
  refine (B0.out _ (B1 _ _)).mono ?_
  rintro e w1 ⟨rfl, rfl⟩
  go_wp2_with fail
  have O1 := Lib.hid (own_one1 w [k] k rfl)
  have HB1 := Lib.hid (B1 w (.cells #[.int .i64 k] 3))
  generalize hw1 : w.alloc (.cells #[.int .i64 k] 3) = w1 at O1 HB1 ⊢
  clear hw1
  go_loopw [7, 8] (fun v at_ wr => ∃ (a f : Nat) (l : List Nat), at_ = .int .i64 a ∧ l.length + f = 34 ∧ 1 ≤ f ∧ l ++ backF s.2.1 i f a = k :: backF s.2.1 i 33 a0 ∧ (a = i ∨ (s.1.getD a false = true ∧ r a + 1 < f)) ∧ wr.ownsRow w.heap.size 3 1 v l.length (ints (nums l)) ∧ l ≠ [] ∧ Below w.heap.size w wr) (fun v _ _ => 40 - lenV v)
  case atStart => exact ⟨a0, 33, [k], rfl, rfl, by omega, rfl, by
    rcases E1.out.2.2 with h | ⟨h, h2⟩
    · exact .inl h
    · exact .inr ⟨h, by have := (RK.out _ h).2.1; omega⟩, O1.out, by simp, HB1.out⟩
  case round =>
    obtain ⟨a, f, l, rfl, hlf, hf1, hbk, hor, ho, hne, hbl⟩ := hrel
    obtain ⟨A, cp, rfl, _, _⟩ := own_slice ho
    have HO := Lib.hid ho
    have HL := Lib.hid hbl
    have HNE := Lib.hid hne
    have HBK := Lib.hid hbk
    have HOR := Lib.hid hor
    obtain ⟨ll, ell⟩ : ∃ ll, ll = l.length := ⟨_, rfl⟩
    have ELL := Lib.hid ell
    rw [← ell] at HO hlf ⊢
    clear ho hbl hne hbk hor ell
    by_cases hai : a = i
    · subst hai
      have EQ := Lib.hid (show l ++ [a] = k :: backF s.2.1 a 33 a0 from by
        rw [← HBK.out]
        obtain ⟨f', rfl⟩ : ∃ f', f = f' + 1 := ⟨f - 1, by omega⟩
        simp [backF])
      clear HOR HBK
      go_wp2_with (at_builtin; refine wpList_append_own _ rfl _ _ 37 rfl w.heap.size 3 i0 (.int .i64 0) 1 8 Try.underlying37 hi0 hz0 hz1 hz2 rfl (by decide) _ _ _ rfl (HO.out.alloc _) ⟨wr.heap.size, 0, none⟩ 1 1 [.int .i64 a] rfl rfl (cell_one_new _ _ _) (by simp [Value.oneCell']) (by unfold maxLen; omega) (by omega) (by have := HL.out.size; simp; omega) ?_; intro v' w9 hown' hgrow hnil'; obtain ⟨g9, c9, rfl, _, _⟩ := own_shape hown' (by omega); have O9 := Lib.hid hown'; have G9 := Lib.hid hgrow; clear hown' hgrow hnil')
      have GB9 := Lib.hid (grown_below (HL.out.trans ((B1 wr (.cells #[.int .i64 a] 3)).mono HL.out.size)) (by have := HL.out.size; simp; omega) G9.out (fun j e => (HO.out.lt j e).1))
      have hln : (nums (l ++ [a])).length = ll + 1 := by rw [nums_len, List.length_append, ELL.out]; rfl
      have RV := Lib.hid (reverse_any w.heap.size g9 c9 (nums (l ++ [a])) (by rw [hln]; omega) (by rw [hln]; omega) w9 (by
        rw [hln, nums_app]
        have := O9.out
        simpa [ints] using this))
      rw [hln] at RV
      refine RV.out.mono ?_
      rintro e w10 ⟨⟨v, rfl⟩, ho, hg⟩
      have HO10 := Lib.hid ho
      have HB10 := Lib.hid (grown_below GB9.out GB9.out.size hg (fun j e => by cases e; exact (O9.out.lt g9 rfl).1))
      clear ho hg hln RV
      go_wp2_with fail
      go_ret
      have hW : Wy = (l ++ [a]).reverse := by rw [EW.out, EQ.out]
      refine ⟨⟨_, rfl, ?_, ?_⟩, HB10.out⟩
      · have := HO10.out
        rw [hW, List.length_reverse, List.length_append]
        have e : nums (l ++ [a]).reverse = (nums (l ++ [a])).reverse := by simp [nums]
        rw [e, show l.length + [a].length = ll + 1 by rw [ELL.out]; rfl]
        exact this
      · rw [hW]; simp
    · have hmet := (HOR.out.resolve_left hai)
      have hai2 : ¬ (a : Int) = i := by omega
      have RA := Lib.hid (RK.out a hmet.1)
      have HMT := Lib.hid hmet
      clear HOR hmet
      go_wp2_with (at_builtin; refine wpList_append_own _ rfl _ _ 37 rfl w.heap.size 3 i0 (.int .i64 0) 1 8 Try.underlying37 hi0 hz0 hz1 hz2 rfl (by decide) _ _ _ rfl (HO.out.alloc _) ⟨wr.heap.size, 0, none⟩ 1 1 [.int .i64 a] rfl rfl (cell_one_new _ _ _) (by simp [Value.oneCell']) (by unfold maxLen; omega) (by omega) (by have := HL.out.size; simp; omega) ?_; intro v' w9 hown' hgrow hnil'; obtain ⟨g9, c9, rfl, _, _⟩ := own_shape hown' (by omega); have O9 := Lib.hid hown'; have G9 := Lib.hid (grown_below (HL.out.trans ((B1 wr (.cells #[.int .i64 a] 3)).mono HL.out.size)) (by have := HL.out.size; simp; omega) hgrow (fun j e => (HO.out.lt j e).1)); clear hown' hgrow hnil')
      refine (BF.out a RA.out.1 w9 G9.out).mono ?_
      rintro e w10 ⟨rfl, rfl⟩
      go_wp2_with fail
      go_roundw
      case rel =>
        refine ⟨s.2.1.getD a 0, f - 1, l ++ [a], by simp [List.getD], by rw [List.length_append, ← ELL.out]; simp; have := HMT.out.2; omega, by have := HMT.out.2; omega, ?_, ?_, ?_, by simp, G9.out⟩
        · rw [← HBK.out]
          obtain ⟨f', rfl⟩ : ∃ f', f = f' + 1 := ⟨f - 1, by omega⟩
          simp [backF, hai]
        · rcases RA.out.2.2 with h | ⟨h, h2⟩
          · exact .inl h
          · exact .inr ⟨h, by have := HMT.out.2; omega⟩
        · rw [List.length_append, nums_app, ← ELL.out]
          have := O9.out
          simpa [ints] using this
      case measure => simp [lenV]; omega
end Go.Proofs.Ytmlaepbmdfmgbaa
namespace Go.Proofs.Ytmlaepbmdfmgbaa
open Go Go.RowKit Go.Maps Go.Shelf
theorem way_yes {g : Gr} {i k : Int} (h0 : 0 ≤ k) (h1 : k < 32) (h2 : (srch g i).1.getD k.toNat false = true) : wayOf g i k = wayB (srch g i) i.toNat k.toNat := by
  unfold wayOf; rw [if_pos ⟨h0, h1, h2⟩]
theorem way_no {g : Gr} {i k : Int} (h : ¬ (0 ≤ k ∧ k < 32 ∧ (srch g i).1.getD k.toNat false = true)) : wayOf g i k = [] := by
  unfold wayOf; rw [if_neg h]
set_option maxRecDepth 100000 in
set_option maxHeartbeats 4000000 in
theorem way_any (g : Gr) (i k : Int) (hi : -9223372036854775808 ≤ i ∧ i < 9223372036854775808) (hk : -9223372036854775808 ≤ k ∧ k < 9223372036854775808) (w : World) (hg : Gr.At w g) (hin : Gr.In g) (hc : Capd g) : Calls Try.prog 41 #[g.val, .int .i64 i, .int .i64 k] w (Row w (wayOf g i k)) := by
  have S := Lib.hid (fun (w' : World) (b : Below w.heap.size w w') => searchFrom_any g i hi w' (hg.below b) hin hc)
  have YES := Lib.hid (@way_yes g i k)
  have NO := Lib.hid (@way_no g i k)
  have RW := Lib.hid (fun (b : Nat) (k' : Nat) (hm : (srch g i).1.getD k' false = true) (w1 : World) (hb : Blk w1 b (cellsB (srch g i)).toArray 98) => by
    obtain ⟨q0, q1, q2⟩ := srch_met_i hm
    exact row_any b i.toNat k' (srch g i) (srch_sound g i) (srch_ranked g i) (by have := q2.rules.2; omega) hm w1 hb)
  have IT := Lib.hid (fun (k' : Nat) (hm : (srch g i).1.getD k' false = true) => show ((i.toNat : Nat) : Int) = i from by
    obtain ⟨q0, q1, q2⟩ := srch_met_i hm
    omega)
  have HC := Lib.hid (fun (b : Nat) (k' : Nat) (h : k' < 32) (w1 : World) (hb : Blk w1 b (cellsB (srch g i)).toArray 98) => has_any b k' ((srch g i).1.getD k' false) h w1 (by rw [hb.cell, List.getElem?_toArray, cellsB_met (srch_sound g i) h]))
  generalize wayOf g i k = L at YES NO ⊢
  clear hg hin hc
  show Calls Try.prog 41 #[.agg #[.slice g.RA g.rules.length g.rc, .slice g.NA g.nodes.length g.nc], .int .i64 i, .int .i64 k] w _
  go_enter Try.func41, Try.ntmps41
  go_upto_region 2 with fail
  refine (S.out _ (B1 _ _)).mono ?_
  rintro e w1 ⟨b, rfl, hb, hl⟩
  have HB := Lib.hid hb
  have H1 := Lib.hid (bb (B1 w _) hl)
  clear hb hl
  by_cases h0 : k < 0
  · have HL := Lib.hid (NO.out (fun h => by omega))
    clear S YES NO RW IT HC HB
    go_wp2_with fail
    go_ret
    rw [HL.out]
    exact row_nil _ _ H1.out
  · by_cases h32 : 32 ≤ k
    · have HL := Lib.hid (NO.out (fun h => by omega))
      clear S YES NO RW IT HC HB
      go_wp2_with fail
      go_ret
      rw [HL.out]
      exact row_nil _ _ H1.out
    · have hk0 : ¬ k < 0 := h0
      obtain ⟨k', rfl⟩ : ∃ k' : Nat, k = k' := ⟨k.toNat, by omega⟩
      have hk32 : k' < 32 := by omega
      have hk32i : ¬ (32 : Int) ≤ k' := h32
      have C := Lib.hid (HC.out b k' hk32 w1 HB.out)
      cases hm : (srch g i).1.getD k' false with
      | false =>
        rw [hm] at C
        have HL := Lib.hid (NO.out (fun h => by rw [Int.toNat_natCast, hm] at h; exact absurd h.2.2 (by decide)))
        clear S YES NO RW IT HC HB hm
        go_wp2_with (go_at_call 57; with_reducible refine C.out.mono ?_; rintro e w2 ⟨rfl, rfl⟩)
        go_ret
        rw [HL.out]
        exact row_nil _ _ H1.out
      | true =>
        rw [hm] at C
        have HL := Lib.hid (YES.out (by omega) (by omega) (by rw [Int.toNat_natCast]; exact hm))
        have R := Lib.hid (RW.out b k' hm w1 HB.out)
        rw [IT.out k' hm] at R
        rw [Int.toNat_natCast] at HL
        rw [← HL.out] at R
        clear S YES NO RW IT HC HB hm
        go_wp2_with (go_at_call 57; with_reducible refine C.out.mono ?_; rintro e w2 ⟨rfl, rfl⟩)
        refine R.out.mono ?_
        rintro e w3 ⟨⟨v, rfl, ho, hn⟩, hb⟩
        have HO := Lib.hid (own_lower ho H1.out.size)
        have HN := Lib.hid hn
        have H2 := Lib.hid (H1.out.trans (hb.mono H1.out.size))
        clear ho hn hb R
        go_wp2_with fail
        go_ret
        exact ⟨⟨v, rfl, HO.out, HN.out⟩, H2.out⟩
noncomputable def goesB (g : Gr) (i : Int) : Bool := decide (0 < (wayOf g i i).length)
set_option maxRecDepth 100000 in
set_option maxHeartbeats 4000000 in
theorem goes_any (g : Gr) (i : Int) (hi : -9223372036854775808 ≤ i ∧ i < 9223372036854775808) (w : World) (hg : Gr.At w g) (hin : Gr.In g) (hc : Capd g) : Calls Try.prog 22 #[g.val, .int .i64 i] w fun e w' => e = .returned (.bool (goesB g i)) ∧ Below w.heap.size w w' := by
  have W := Lib.hid (fun (w' : World) (b : Below w.heap.size w w') => way_any g i i hi hi w' (hg.below b) hin hc)
  have EG : RowKit.Hid (goesB g i = decide (0 < (wayOf g i i).length)) := Lib.hid rfl
  generalize goesB g i = bo at EG ⊢
  generalize wayOf g i i = L at W EG
  clear hg hin hc
  show Calls Try.prog 22 #[.agg #[.slice g.RA g.rules.length g.rc, .slice g.NA g.nodes.length g.nc], .int .i64 i] w _
  go_enter Try.func22, Try.ntmps22
  go_wp2_with fail
  refine (W.out _ (B1 _ _)).mono ?_
  rintro e w1 ⟨⟨v, rfl, ho, hn⟩, hb⟩
  obtain ⟨A, cp, rfl, _, _⟩ := own_slice ho
  have H1 := Lib.hid (bb (B1 w _) hb)
  clear ho hn hb
  go_wp2_with fail
  go_ret
  exact ⟨ret_bool (by rw [EG.out]), H1.out⟩
end Go.Proofs.Ytmlaepbmdfmgbaa
namespace Go.Proofs.Ytmlaepbmdfmgbaa
open Go Go.RowKit Go.Maps
set_option maxHeartbeats 1000000 in
theorem ints_same (A B : Option Addr) (c d : Nat) (a b : List Int) (ha : a.length ≤ 140737488351232) (hb : b.length ≤ 140737488351232) (w : World) (hA : Lies w A (ints a)) (hB : Lies w B (ints b)) :
    Calls Try.prog 44 #[.slice A a.length c, .slice B b.length d] w fun e w' => e = .returned (.bool (decide (a = b))) ∧ ∃ n, w' = w.drewN n := by
  have HA := Lib.hid hA
  have HB := Lib.hid hB
  clear hA hB
  by_cases hl : a.length = b.length
  · have HL := Lib.hid hl
    obtain ⟨m, em⟩ : ∃ m, m = b.length := ⟨_, rfl⟩
    rw [← em] at hl hb ⊢
    rw [hl] at ha ⊢
    have EM := Lib.hid em
    clear em hl
    go_enter Try.func44, Try.ntmps44
    go_wp2_with fail
    go_loopw [5] (fun i wr => ∃ (k n : Nat), k ≤ m ∧ i = .int .i64 k ∧ a.take k = b.take k ∧ wr = w.drewN n) (fun i _ => m - (intOf i).toNat)
    case atStart => exact ⟨0, 0, by omega, rfl, by simp, rfl⟩
    case round =>
      obtain ⟨k, n, hk, rfl, ht, rfl⟩ := hrel
      have HT := Lib.hid ht
      clear ht
      by_cases hlt : k < m
      · have hlt2 : (k : Int) < m := by omega
        obtain ⟨b1, o1, rfl, _, c1⟩ := lies_cell HA.out (show k < a.length by have := HL.out; have := EM.out; omega)
        obtain ⟨b2, o2, rfl, _, c2⟩ := lies_cell HB.out (show k < b.length by have := EM.out; omega)
        have HS := Lib.hid (take_same (a := a) (b := b) (k := k) (by have := HL.out; have := EM.out; omega) HL.out HT.out)
        have HN := Lib.hid (@getD_ne a b k)
        generalize a.getD k 0 = x at c1 HS HN
        generalize b.getD k 0 = y at c2 HS HN
        by_cases hxy : x = y
        · have HK := Lib.hid (HS.out.2 hxy)
          have hb : (x == y) = true := by simpa using hxy
          have hb2 : (x != y) = false := by simpa using hxy
          clear HS HN hxy
          go_wp2_with fail
          go_quiet (fail)
          go_wp2_with fail
          go_roundw
          case rel => exact ⟨k + 1, n + nq, by omega, by go_num, HK.out, by first | rfl | exact World.drewN_drewN _ _ _⟩
          case measure => simp [intOf]; omega
        · have HK := Lib.hid (HN.out hxy)
          have hb : (x == y) = false := by simpa using hxy
          have hb2 : (x != y) = true := by simpa using hxy
          clear HS HN hxy
          go_wp2_with fail
          go_quiet (fail)
          go_wp2_with fail
          go_ret
          exact ⟨ret_bool (by simpa using HK.out), n + nq, by first | rfl | exact World.drewN_drewN _ _ _⟩
      · obtain rfl : k = m := by omega
        have hlt2 : ¬ (k : Int) < k := by omega
        go_wp2_with fail
        go_ret
        exact ⟨ret_bool (by have := HT.out; rw [List.take_of_length_le (by have := HL.out; have := EM.out; omega), List.take_of_length_le (by have := EM.out; omega)] at this; simp [this]), n, rfl⟩
  · have hne : ¬ (a.length : Int) = b.length := by omega
    have hv : decide (a = b) = false := by simp; intro e; rw [e] at hl; exact hl rfl
    rw [hv]
    clear hv hl
    go_enter Try.func44, Try.ntmps44
    go_wp2_with fail
    go_ret
    exact ⟨rfl, 0, rfl⟩
theorem same_row (A B : Option Addr) (c d : Nat) (L : List Nat) (hl : L.length ≤ 140737488351232) (w : World) (hA : Lies w A (ints (nums L))) (hB : Lies w B (ints (nums L))) :
    Calls Try.prog 44 #[.slice A L.length c, .slice B L.length d] w fun e w' => e = .returned (.bool true) ∧ Below w.heap.size w w' := by
  have := ints_same A B c d (nums L) (nums L) (by rw [nums_len]; exact hl) (by rw [nums_len]; exact hl) w hA hB
  rw [nums_len] at this
  refine this.mono ?_
  rintro e w' ⟨rfl, n, rfl⟩
  exact ⟨by rw [decide_eq_true rfl], bdrew (Below.refl _ _)⟩
set_option maxRecDepth 100000 in
set_option maxHeartbeats 2000000 in
theorem size12_any (g : Gr) (w : World) (hg : Gr.At w g) : Calls Try.prog 18 #[g.val] w fun e w' => (∃ z : Int, e = .returned (.int .i64 z)) ∧ Below w.heap.size w w' := by
  have HG := Lib.hid hg
  have h1 := hg.rl
  have h2 := hg.nl
  obtain ⟨RA, rc, rules, NA, nc, nodes⟩ := g
  dsimp only at h1 h2
  obtain ⟨m, em⟩ : ∃ m, m = nodes.length := ⟨_, rfl⟩
  obtain ⟨r, er⟩ : ∃ m, m = rules.length := ⟨_, rfl⟩
  show Calls Try.prog 18 #[.agg #[.slice RA rules.length rc, .slice NA nodes.length nc]] w _
  have EM := Lib.hid em
  rw [← em, ← er]
  rw [← em] at h2
  rw [← er] at h1
  clear hg em er
  go_enter Try.func18, Try.ntmps18
  go_wp2_with fail
  obtain ⟨wb, ewb⟩ : ∃ u, u = w.alloc (.cells #[.slice RA r rc, .slice NA m nc] 25) := ⟨_, rfl⟩
  have hb2 : Below w.heap.size w wb := by rw [ewb]; exact B1 _ _
  have c0 : wb.cell? ⟨w.heap.size, 0, none⟩ = some (.slice RA r rc) := by rw [ewb]; exact (Blk.new _ _ _).cell 0
  have c1 : wb.cell? ⟨w.heap.size, 1, none⟩ = some (.slice NA m nc) := by rw [ewb]; exact (Blk.new _ _ _).cell 1
  rw [← ewb]
  have BB := Lib.hid hb2
  clear ewb hb2
  go_loopw [3, 4] (fun s i wr => ∃ (k : Nat) (n : Int), k ≤ m ∧ s = .int .i64 n ∧ i = .int .i64 k ∧ n ≤ 500000000000000 ∧ 0 ≤ n ∧ wr = wb) (fun _ i _ => m - (intOf i).toNat)
  case atStart => exact ⟨0, r + m, by omega, rfl, rfl, by omega, by omega, rfl⟩
  case round =>
    obtain ⟨k, n, hk, rfl, rfl, hn, hn0, rfl⟩ := hrel
    by_cases hlt : k < m
    · have hlt2 : (k : Int) < m := by omega
      by_cases hle : n ≤ 300
      · obtain ⟨b1, o1, eA, _, _, _, _, _, _, _, _, _, c9⟩ := (HG.out.below BB.out).nodes.nine (show k < nodes.length by have := EM.out; omega)
        have hx := ((HG.out.below BB.out).node (show k < nodes.length by have := EM.out; omega)).2.2
        dsimp only at eA c9 hx
        rw [eA] at c1
        generalize nodes.getD k Nd.zero = x at c9 hx
        clear eA
        go_wp2_with fail
        go_roundw
        case rel => exact ⟨k + 1, n + x.kids.length, by omega, by first | rfl | go_num, by go_num, by omega, by omega, by first | trivial | rfl⟩
        case measure => simp [intOf]; omega
      · have hle2 : 300 < n := by omega
        go_wp2_with fail
        go_ret
        exact ⟨⟨n, rfl⟩, BB.out⟩
    · obtain rfl : k = m := by omega
      have hlt2 : ¬ (k : Int) < k := by omega
      go_wp2_with fail
      go_ret
      exact ⟨⟨n, rfl⟩, BB.out⟩
theorem lsame_any (A B : Option Addr) (c d : Nat) (a b : List Int) (ha : a.length ≤ 140737488351232) (hb : b.length ≤ 140737488351232) (w : World) (hA : Lies w A (ints a)) (hB : Lies w B (ints b)) :
    Calls Try.prog 39 #[.slice A a.length c, .slice B b.length d] w fun e w' => e = .returned (.bool (decide (a = b))) ∧ Below w.heap.size w w' := by
  have I := Lib.hid (ints_same A B c d a b ha hb w hA hB)
  generalize decide (a = b) = bo at I ⊢
  obtain ⟨x, ex⟩ : ∃ x, x = a.length := ⟨_, rfl⟩
  obtain ⟨y, ey⟩ : ∃ x, x = b.length := ⟨_, rfl⟩
  rw [← ex, ← ey] at I ⊢
  clear hA hB ex ey
  go_enter Try.func39, Try.ntmps39
  go_wp2_with (go_at_call 44; with_reducible refine I.out.mono ?_; rintro e w1 ⟨rfl, n, rfl⟩)
  go_ret
  exact ⟨rfl, bdrew (Below.refl _ _)⟩
def hasN (a : List Int) (k : Int) (j : Nat) : Bool := (a.take j).any fun x => x == k
theorem hasN_next {a : List Int} {k : Int} {j : Nat} (h : j < a.length) : hasN a k (j + 1) = (hasN a k j || (a.getD j 0 == k)) := by
  unfold hasN; rw [take_one h, any_one]
theorem hasN_all (a : List Int) (k : Int) : hasN a k a.length = decide (k ∈ a) := by
  unfold hasN
  rw [List.take_length, Bool.eq_iff_iff]
  simp
end Go.Proofs.Ytmlaepbmdfmgbaa

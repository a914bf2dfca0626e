/- The law NullNodes' parts: size, the row of what may, by a row of numbers. -/
import Derived.Test.YtmlaepbmdfmgbaaC1
import Derived.Test.YtmlaepbmdfmgbaaB6
set_option linter.unusedSimpArgs false
set_option linter.unusedVariables false
namespace Go.Proofs.Ytmlaepbmdfmgbaa
open Go Go.RowKit Go.Maps
set_option maxRecDepth 100000 in
set_option maxHeartbeats 2000000 in
theorem size11_any (g : Gr) (w : World) (hg : Gr.At w g) : Calls Try.prog 6 #[g.val] w fun e w' => (∃ z : Int, e = .returned (.int .i64 z)) ∧ Below w.heap.size w w' := by
  have HG := Lib.hid hg
  have h1 := hg.rl
  have h2 := hg.nl
  obtain ⟨RA, rc, rules, NA, nc, nodes⟩ := g
  dsimp only at h1 h2
  obtain ⟨m, em⟩ : ∃ m, m = nodes.length := ⟨_, rfl⟩
  obtain ⟨r, er⟩ : ∃ m, m = rules.length := ⟨_, rfl⟩
  show Calls Try.prog 6 #[.agg #[.slice RA rules.length rc, .slice NA nodes.length nc]] w _
  have EM := Lib.hid em
  rw [← em, ← er]
  rw [← em] at h2
  rw [← er] at h1
  clear hg em er
  go_enter Try.func6, Try.ntmps6
  go_wp2_with fail
  obtain ⟨wb, ewb⟩ : ∃ u, u = w.alloc (.cells #[.slice RA r rc, .slice NA m nc] 25) := ⟨_, rfl⟩
  have hb2 : Below w.heap.size w wb := by rw [ewb]; exact B1 _ _
  have c0 : wb.cell? ⟨w.heap.size, 0, none⟩ = some (.slice RA r rc) := by rw [ewb]; exact (Blk.new _ _ _).cell 0
  have c1 : wb.cell? ⟨w.heap.size, 1, none⟩ = some (.slice NA m nc) := by rw [ewb]; exact (Blk.new _ _ _).cell 1
  rw [← ewb]
  have BB := Lib.hid hb2
  clear ewb hb2
  go_loopw [3, 4] (fun s i wr => ∃ (k : Nat) (n : Int), k ≤ m ∧ s = .int .i64 n ∧ i = .int .i64 k ∧ n ≤ 500000000000000 ∧ 0 ≤ n ∧ wr = wb) (fun _ i _ => m - (intOf i).toNat)
  case atStart => exact ⟨0, r + m, by omega, rfl, rfl, by omega, by omega, rfl⟩
  case round =>
    obtain ⟨k, n, hk, rfl, rfl, hn, hn0, rfl⟩ := hrel
    by_cases hlt : k < m
    · have hlt2 : (k : Int) < m := by omega
      by_cases hle : n ≤ 300
      · obtain ⟨b1, o1, eA, _, _, _, _, _, _, _, _, _, c9⟩ := (HG.out.below BB.out).nodes.nine (show k < nodes.length by have := EM.out; omega)
        have hx := ((HG.out.below BB.out).node (show k < nodes.length by have := EM.out; omega)).2.2
        dsimp only at eA c9 hx
        rw [eA] at c1
        generalize nodes.getD k Nd.zero = x at c9 hx
        clear eA
        go_wp2_with fail
        go_roundw
        case rel => exact ⟨k + 1, n + x.kids.length, by omega, by first | rfl | go_num, by go_num, by omega, by omega, by first | trivial | rfl⟩
        case measure => simp [intOf]; omega
      · have hle2 : 300 < n := by omega
        go_wp2_with fail
        go_ret
        exact ⟨⟨n, rfl⟩, BB.out⟩
    · obtain rfl : k = m := by omega
      have hlt2 : ¬ (k : Int) < k := by omega
      go_wp2_with fail
      go_ret
      exact ⟨⟨n, rfl⟩, BB.out⟩
theorem rank_of {g : Gr} (hR : Right g) (i : Nat) (hi : i < g.rules.length) : rankOf g i = (ranks g).getD i 0 := by
  unfold rankOf
  rw [if_pos ⟨rightB_true.2 hR, by omega, by omega⟩, Int.toNat_natCast]
theorem nodeB_of {g : Gr} (hR : Right g) (n : Nat) (hn : n < g.nodes.length) : nodeB g n = mayN g.nodes (inB (ranks g)) n := by
  unfold nodeB
  rw [rightB_true.2 hR]
  have : (0 : Int) ≤ n ∧ (n : Int) < g.nodes.length := by omega
  simp [this.2]
theorem nodesOf_of {g : Gr} (hR : Right g) : nodesOf g = rowOf' g.nodes.length (fun n => mayN g.nodes (inB (ranks g)) n) := by
  unfold nodesOf
  rw [rightB_true.2 hR]
  rfl
theorem rows_no {g : Gr} (h : rightB g = false) : rulesOf g = [] ∧ nodesOf g = [] := by
  unfold rulesOf nodesOf
  rw [h]
  exact ⟨rfl, rfl⟩
theorem row_no {w w' : World} {e : Ending} {L : List Nat} (h : Row w L e w') (hL : L = []) : e = .returned (.slice none 0 0) ∧ Below w.heap.size w w' := by
  obtain ⟨⟨v, rfl, _, hn⟩, hb⟩ := h
  rw [hn.2 hL]
  exact ⟨rfl, hb⟩
/-- The row of what may, some of it stored. -/
structure MidM (w4 wr : World) (mb : Nat) (L : List Nat) (j : Nat) (ml : List Bool) (N : Nat) : Prop where
  row : Blk wr mb (bls ml).toArray 4
  len : ml.length = N
  val : ∀ q, q < N → ml.getD q false = decide (q ∈ L.take j)
  size : wr.heap.size = w4.heap.size
  other : ∀ b, b ≠ mb → wr.heap[b]? = w4.heap[b]?
theorem MidM.start {w4 : World} {mb N : Nat} {L : List Nat} (h : Blk w4 mb (bls (List.replicate N false)).toArray 4) : MidM w4 w4 mb L 0 (List.replicate N false) N :=
  ⟨h, by simp, fun q hq => by simp only [List.getD, List.getElem?_replicate]; rw [if_pos hq]; simp, rfl, fun _ _ => rfl⟩
theorem MidM.step {w4 wr : World} {mb N j : Nat} {L : List Nat} {ml : List Bool} (h : MidM w4 wr mb L j ml N) (hj : j < L.length) :
    MidM w4 (wr.setCell ⟨mb, L.getD j 0, none⟩ (.bool true)) mb L (j + 1) (ml.set (L.getD j 0) true) N := by
  have ht : L.take (j + 1) = L.take j ++ [L.getD j 0] := by
    rw [List.take_add_one]
    simp [List.getD, List.getElem?_eq_getElem hj]
  refine ⟨?_, by rw [List.length_set]; exact h.len, fun q hq => ?_, by rw [← h.size]; simp [World.setCell], fun b hb => (Below.heap_setCell _ _ _ b hb).trans (h.other b hb)⟩
  · have := h.row.put (k := L.getD j 0) (.bool true)
    rw [bls_set] at this
    exact this
  · rw [ht]
    generalize L.getD j 0 = e0
    by_cases e : q = e0
    · subst e
      simp only [List.getD]
      rw [List.getElem?_set_self (by rw [h.len]; exact hq)]
      simp
    · simp only [List.getD]
      rw [List.getElem?_set_ne (fun h => e h.symm)]
      have := h.val q hq
      simp only [List.getD] at this
      rw [this]
      simp [e]
theorem MidM.done {w4 wr : World} {mb : Nat} {g : Gr} {ml : List Bool} {f : Nat → Bool} (h : MidM w4 wr mb (rowOf' g.nodes.length f) (rowOf' g.nodes.length f).length ml g.nodes.length) (q : Nat) (hq : q < g.nodes.length) : ml.getD q false = f q := by
  rw [h.val q hq, List.take_length]
  cases hf : f q with
  | true => exact decide_eq_true (rowOf_mem.2 ⟨hq, hf⟩)
  | false => exact decide_eq_false (fun h => by have := (rowOf_mem.1 h).2; rw [hf] at this; cases this)
end Go.Proofs.Ytmlaepbmdfmgbaa
namespace Go.Proofs.Ytmlaepbmdfmgbaa
open Go Go.RowKit Go.Maps
/-- A grammar with one node turned into another. -/
def Gr.turn (g : Gr) (c : Nat) (y : Nd) : Gr := { g with nodes := g.nodes.set c y }
theorem turn_len (g : Gr) (c : Nat) (y : Nd) : (g.turn c y).nodes.length = g.nodes.length := by simp [Gr.turn]
theorem turn_at {g : Gr} {c : Nat} {y : Nd} (hc : c < g.nodes.length) : (g.turn c y).nodes.getD c Nd.zero = y := by
  simp only [Gr.turn, List.getD]
  rw [List.getElem?_set_self hc]; rfl
theorem turn_other {g : Gr} {c j : Nat} {y : Nd} (h : j ≠ c) : (g.turn c y).nodes.getD j Nd.zero = g.nodes.getD j Nd.zero := by
  simp only [Gr.turn, List.getD]
  rw [List.getElem?_set_ne (fun e => h e.symm)]
theorem turn_kids {g : Gr} {c : Nat} {y : Nd} (hc : c < g.nodes.length) (h : y.kids = (g.nodes.getD c Nd.zero).kids) (j : Nat) : kidsOf (g.turn c y).nodes j = kidsOf g.nodes j := by
  unfold kidsOf
  by_cases e : j = c
  · subst e; rw [turn_at hc, h]
  · rw [turn_other e]
theorem turn_meas {g : Gr} {c : Nat} {y : Nd} (hc : c < g.nodes.length) (h : y.kids = (g.nodes.getD c Nd.zero).kids) {ms : Nat → Meas} (hm : Measured g.nodes ms 0) : Measured (g.turn c y).nodes ms 0 := by
  intro m h1 h2
  rw [turn_len] at h2
  have := hm m h1 h2
  rw [turn_kids hc h, turn_len]
  exact this
theorem turn_right {g : Gr} {c : Nat} {y : Nd} (hR : Right g) (hc : c < g.nodes.length) (h : y.kids = (g.nodes.getD c Nd.zero).kids) (hy : nodeOk y g.rules.length = true) : Right (g.turn c y) := by
  obtain ⟨ms, hm, hb⟩ := hR.pre
  refine ⟨hR.rules, by rw [turn_len]; exact hR.nodes, hR.named, fun i hi => ?_, ms, turn_meas hc h hm, ?_⟩
  · rw [turn_len] at hi
    show nodeOk ((g.turn c y).nodes.getD i Nd.zero) g.rules.length = true
    by_cases e : i = c
    · subst e; rw [turn_at hc]; exact hy
    · rw [turn_other e]; exact hR.all i hi
  · rw [turn_len]
    exact hb
theorem turn_up_kids {g : Gr} {c : Nat} {y : Nd} (hR : Right g) (hc : c < g.nodes.length) (h : y.kids = (g.nodes.getD c Nd.zero).kids) : KidsUp (g.turn c y).nodes := by
  intro m hm2 k hk
  rw [turn_len] at hm2
  have := turn_kids hc h m
  unfold kidsOf at this
  rw [this] at hk
  have := hR.kidsUp m hm2 k hk
  rw [turn_len]
  exact this
/-- One that never may, turned: what may, may still. -/
theorem turn_up {g : Gr} {c : Nat} {y : Nd} (hR : Right g) (hc : c < g.nodes.length) (h : y.kids = (g.nodes.getD c Nd.zero).kids) (inn inn' : Int → Bool)
    (hy : ∀ f, stepMay (g.nodes.getD c Nd.zero) f inn = false) (hi : ∀ k, inn k = true → inn' k = true) :
    ∀ (d n : Nat), n < g.nodes.length → g.nodes.length - n ≤ d → mayN g.nodes inn n = true → mayN (g.turn c y).nodes inn' n = true
  | 0, n, hn, hd, _ => by omega
  | d + 1, n, hn, hd, hm => by
    rw [mayN_eq hR.kidsUp inn (n := n) (by omega) (by omega), Int.toNat_natCast] at hm
    rw [mayN_eq (turn_up_kids hR hc h) inn' (n := n) (by omega) (by rw [turn_len]; omega), Int.toNat_natCast]
    by_cases e : n = c
    · subst e
      rw [hy] at hm
      cases hm
    · rw [turn_other e]
      refine stepMay_mono (fun k hk hv => ?_) (hi _) hm
      have := hR.kidsUp n hn k hk
      obtain ⟨j, rfl⟩ : ∃ j : Nat, k = j := ⟨k.toNat, by omega⟩
      exact turn_up hR hc h inn inn' hy hi d j (by omega) (by omega) hv
/-- One that never may, turned into one that never may: nothing changes. -/
theorem turn_same {g : Gr} {c : Nat} {y : Nd} (hR : Right g) (hc : c < g.nodes.length) (h : y.kids = (g.nodes.getD c Nd.zero).kids) (inn : Int → Bool)
    (hy : ∀ f, stepMay (g.nodes.getD c Nd.zero) f inn = false) (hy2 : ∀ f, stepMay y f inn = false) (n : Int) (h0 : 0 ≤ n) (h1 : n < g.nodes.length) :
    mayN (g.turn c y).nodes inn n = mayN g.nodes inn n := by
  refine mayN_unique hR.kidsUp inn (mayN (g.turn c y).nodes inn) (lo := 0) (by omega) (fun m a b => ?_) (g.nodes.length) n h0 h1 (by omega)
  rw [mayN_eq (turn_up_kids hR hc h) inn a (by rw [turn_len]; exact b)]
  by_cases e : m.toNat = c
  · rw [e, turn_at hc, hy, hy2]
  · rw [turn_other e]
theorem turn_rules (g : Gr) (c : Nat) (y : Nd) : (g.turn c y).rules = g.rules := rfl
theorem rk_full (g : Gr) (k : Nat) : ∀ i, g.rules.length ≤ i → (rk g k).getD i 0 = 0 := fun i hi => by
  simp only [List.getD]
  rw [List.getElem?_eq_none (by rw [rk_length]; exact hi)]
  rfl
/-- Who is in is in, as soon, behind the turn. -/
theorem turn_in {g : Gr} {c : Nat} {y : Nd} (hR : Right g) (hc : c < g.nodes.length) (h : y.kids = (g.nodes.getD c Nd.zero).kids)
    (hy : ∀ f inn, stepMay (g.nodes.getD c Nd.zero) f inn = false) : ∀ (k i : Nat), 0 < (rk g k).getD i 0 → 0 < (rk (g.turn c y) k).getD i 0
  | 0, i, hi => by rw [rk_zero] at hi; omega
  | k + 1, i, hi => by
    by_cases hl : i < g.rules.length
    · have hb := in_body k i hl hi
      have hbd := hR.body i hl
      obtain ⟨q, hq⟩ : ∃ q : Nat, (g.rules.getD i Rl.zero).body = q := ⟨(g.rules.getD i Rl.zero).body.toNat, by omega⟩
      rw [hq] at hb
      have hu := turn_up hR hc h (inB (rk g k)) (inB (rk (g.turn c y) k)) (fun f => hy f _) (fun r hr => by
        simp only [inB, decide_eq_true_eq] at hr ⊢
        exact turn_in hR hc h hy k _ hr) g.nodes.length q (by omega) (by omega) hb
      have := body_in (g := g.turn c y) k i hl
      rw [turn_rules, hq, hu] at this
      simpa using this.symm
    · rw [rk_full g (k + 1) i (by omega)] at hi
      omega
/-- Ranks don't rise. -/
theorem turn_rank {g : Gr} {c : Nat} {y : Nd} (hR : Right g) (hc : c < g.nodes.length) (h : y.kids = (g.nodes.getD c Nd.zero).kids)
    (hy : ∀ f inn, stepMay (g.nodes.getD c Nd.zero) f inn = false) (i : Nat) (hi : 0 < (ranks g).getD i 0) : 0 < (ranks (g.turn c y)).getD i 0 ∧ (ranks (g.turn c y)).getD i 0 ≤ (ranks g).getD i 0 := by
  have hle := ranks_le g i
  obtain ⟨a, ha⟩ : ∃ a : Nat, (ranks g).getD i 0 = a := ⟨((ranks g).getD i 0).toNat, by omega⟩
  have h1 := rk_below g i (g.rules.length - a) a
  rw [show a + (g.rules.length - a) = g.rules.length by omega] at h1
  have h2 : (rk g a).getD i 0 = a := by
    rw [h1]
    show (if (ranks g).getD i 0 ≤ (a : Int) then (ranks g).getD i 0 else 0) = a
    rw [if_pos (by omega), ha]
  have h3 := turn_in hR hc h hy a i (by omega)
  have h4 := rk_keep (g.turn c y) a i h3 (g.rules.length - a)
  rw [show a + (g.rules.length - a) = (g.turn c y).rules.length by rw [turn_rules]; omega] at h4
  have h5 := (rk_bound (g.turn c y) a i).2
  have h6 : (ranks (g.turn c y)).getD i 0 = (rk (g.turn c y) a).getD i 0 := h4
  rw [h6, ha]
  exact ⟨h3, h5⟩
/-- A call of a rule that never comes in, turned into one that never may: the same rounds. -/
theorem turn_rk {g : Gr} {c : Nat} {y : Nd} (hR : Right g) (hc : c < g.nodes.length) (h : y.kids = (g.nodes.getD c Nd.zero).kids)
    (hy : ∀ f k, stepMay (g.nodes.getD c Nd.zero) f (inB (rk g k)) = false) (hy2 : ∀ f inn, stepMay y f inn = false) : ∀ k, rk (g.turn c y) k = rk g k
  | 0 => rfl
  | k + 1 => by
    have ih := turn_rk hR hc h hy hy2 k
    apply ext_getD
    · rw [rk_length, rk_length, turn_rules]
    · intro i hi
      rw [rk_length, turn_rules] at hi
      rw [rk_next _ k i (by rw [turn_rules]; exact hi), rk_next g k i hi]
      have hbd := hR.body i hi
      have : comB (g.turn c y) (rk (g.turn c y) k) i = comB g (rk g k) i := by
        unfold comB
        rw [ih, turn_rules, turn_same hR hc h (inB (rk g k)) (fun f => hy f k) (fun f => hy2 f _) _ hbd.1 hbd.2]
      rw [this, ih]
end Go.Proofs.Ytmlaepbmdfmgbaa
namespace Go.Proofs.Ytmlaepbmdfmgbaa
open Go Go.RowKit Go.Maps
theorem gramL_snoc (bl : List (List Nd)) (b : List Nd) : gramL (bl ++ [b]) = gramN (gramL bl) b := by
  unfold gramL; rw [List.foldl_append]; rfl
theorem gramL_rules : ∀ (n : Nat) (bl : List (List Nd)), bl.length = n → (gramL bl).1.length = bl.length
  | 0, bl, h => by rw [List.length_eq_zero_iff.1 h]; rfl
  | n + 1, bl, h => by
    obtain ⟨l, b, rfl⟩ : ∃ l b, bl = l ++ [b] := ⟨bl.dropLast, bl.getLast (by intro e; simp [e] at h), (List.dropLast_concat_getLast _).symm⟩
    have := gramL_rules n l (by simpa using h)
    rw [gramL_snoc]
    simp [gramN, this]
/-- A block lies in the built grammar at its rule's body. -/
theorem gramL_block : ∀ (n : Nat) (bl : List (List Nd)), bl.length = n → ∀ i, i < bl.length → ∃ o : Nat, ((gramL bl).1.getD i Rl.zero).body = o ∧ o + (bl.getD i []).length ≤ (gramL bl).2.length ∧ ∀ j, j < (bl.getD i []).length → (gramL bl).2.getD (o + j) Nd.zero = mvk o ((bl.getD i []).getD j Nd.zero)
  | 0, bl, h, i, hi => by omega
  | n + 1, bl, h, i, hi => by
    obtain ⟨l, b, rfl⟩ : ∃ l b, bl = l ++ [b] := ⟨bl.dropLast, bl.getLast (by intro e; simp [e] at h), (List.dropLast_concat_getLast _).symm⟩
    have hl : l.length = n := by simpa using h
    have hr := gramL_rules n l hl
    rw [gramL_snoc]
    by_cases e : i < l.length
    · obtain ⟨o, h1, h3, h2⟩ := gramL_block n l hl i e
      have eb : (l ++ [b]).getD i [] = l.getD i [] := by
        simp only [List.getD]
        rw [List.getElem?_append_left e]
      rw [eb]
      refine ⟨o, ?_, ?_, fun j hj => ?_⟩
      · rw [← h1]
        simp only [gramN, List.getD]
        rw [List.getElem?_append_left (by rw [hr]; exact e)]
      · simp only [gramN, List.length_append]; omega
      · rw [← h2 j hj]
        simp only [gramN, List.getD]
        rw [List.getElem?_append_left (by omega)]
    · have ei : i = l.length := by simp at hi; omega
      subst ei
      have eb : (l ++ [b]).getD l.length [] = b := by
        simp [List.getD]
      rw [eb]
      refine ⟨(gramL l).2.length, ?_, ?_, fun j hj => ?_⟩
      · simp only [gramN, List.getD]
        rw [← hr]
        simp
      · simp [gramN]
      · simp only [gramN, List.getD]
        rw [List.getElem?_append_right (by omega)]
        simp [List.getElem?_eq_getElem hj]
/-- A grammar whose bodies are these blocks, whatever its rules' names. -/
structure Built (g : Gr) (bl : List (List Nd)) : Prop where
  nodes : g.nodes.map Nd.kz = (gramL bl).2
  len : g.rules.length = bl.length
  body : ∀ i, i < bl.length → (g.rules.getD i Rl.zero).body = ((gramL bl).1.getD i Rl.zero).body
/-- A body's nodes. -/
theorem Built.at_ {g : Gr} {bl : List (List Nd)} (h : Built g bl) (i : Nat) (hi : i < bl.length) (h0 : 0 < (bl.getD i []).length) : ∃ o : Nat, (g.rules.getD i Rl.zero).body = o ∧ o + (bl.getD i []).length ≤ g.nodes.length ∧ ∀ j, j < (bl.getD i []).length → (g.nodes.getD (o + j) Nd.zero).kz = mvk o ((bl.getD i []).getD j Nd.zero) := by
  obtain ⟨o, h1, h2, h3⟩ := gramL_block _ bl rfl i hi
  refine ⟨o, by rw [h.body i hi, h1], ?_, fun j hj => ?_⟩
  · rw [← h.nodes, List.length_map] at h2; exact h2
  · rw [← h3 j hj, ← h.nodes, kz_getD]
theorem step_kz (x : Nd) (f inn : Int → Bool) : stepMay x.kz f inn = stepMay x f inn := rfl
theorem hard_eq (b : List Nd) : ofL 6 [[leafN 2], b] = { leafN 6 with kids := [1, 2] } :: leafN 2 :: b.map (mvk 2) := by
  simp [ofL, ofN, mvk, leafN, Nd.zero]
theorem soft_eq (b : List Nd) : ofL 8 [b] = { leafN 8 with kids := [1] } :: b.map (mvk 1) := by
  simp [ofL, ofN, mvk, leafN, Nd.zero]
/-- An Any ahead: no body may. -/
theorem hard_body {g : Gr} {bl : List (List Nd)} (hR : Right g) (h : Built g bl) (i : Nat) (hi : i < bl.length) (b : List Nd) (hb : bl.getD i [] = ofL 6 [[leafN 2], b]) (inn : Int → Bool) : mayN g.nodes inn (g.rules.getD i Rl.zero).body = false := by
  have hlen : (bl.getD i []).length = b.length + 2 := by rw [hb, hard_eq]; simp
  obtain ⟨o, h1, h2, h3⟩ := h.at_ i hi (by omega)
  have n0 := h3 0 (by omega)
  have n1 := h3 1 (by omega)
  rw [hb, hard_eq] at n0 n1
  simp only [List.getD_cons_zero, List.getD_cons_succ, Nat.add_zero] at n0 n1
  rw [h1, mayN_eq hR.kidsUp inn (by omega) (by omega), Int.toNat_natCast, ← step_kz, n0]
  have m1 : mayN g.nodes inn ((o : Int) + 1) = false := by
    rw [mayN_eq hR.kidsUp inn (by omega) (by omega), show ((o : Int) + 1).toNat = o + 1 by omega, ← step_kz, n1]
    unfold stepMay
    simp [mvk, leafN]
  unfold stepMay
  simp [mvk, leafN]
  intro h
  rw [show (1 : Int) + o = o + 1 by omega] at h
  rw [m1] at h
  cases h
/-- An Opt around: each body may. -/
theorem soft_body {g : Gr} {bl : List (List Nd)} (hR : Right g) (h : Built g bl) (i : Nat) (hi : i < bl.length) (b : List Nd) (hb : bl.getD i [] = ofL 8 [b]) (inn : Int → Bool) : mayN g.nodes inn (g.rules.getD i Rl.zero).body = true := by
  have hlen : (bl.getD i []).length = b.length + 1 := by rw [hb, soft_eq]; simp
  obtain ⟨o, h1, h2, h3⟩ := h.at_ i hi (by omega)
  have n0 := h3 0 (by omega)
  rw [hb, soft_eq] at n0
  simp only [List.getD_cons_zero, Nat.add_zero] at n0
  rw [h1, mayN_eq hR.kidsUp inn (by omega) (by omega), Int.toNat_natCast, ← step_kz, n0]
  unfold stepMay
  simp [mvk, leafN]
/-- With no body that may there is no rank. -/
theorem no_ranks {g : Gr} (h : ∀ i inn, i < g.rules.length → mayN g.nodes inn (g.rules.getD i Rl.zero).body = false) : ∀ (k i : Nat), (rk g k).getD i 0 = 0
  | 0, i => rk_zero g i
  | k + 1, i => by
    by_cases hi : i < g.rules.length
    · rw [rk_next g k i hi, if_neg (by unfold comB; rw [h i _ hi]; simp)]
      exact no_ranks h k i
    · exact rk_full g (k + 1) i (by omega)
/-- Where every body may all ranks are 1. -/
theorem one_ranks {g : Gr} (h : ∀ i inn, i < g.rules.length → mayN g.nodes inn (g.rules.getD i Rl.zero).body = true) (i : Nat) (hi : i < g.rules.length) : (ranks g).getD i 0 = 1 := by
  have h1 : (rk g 1).getD i 0 = 1 := by
    rw [rk_next g 0 i hi, if_pos (by unfold comB inB; rw [h i _ hi, Int.toNat_natCast, rk_zero]; simp)]
    rfl
  have := rk_keep g 1 i (by omega) (g.rules.length - 1)
  rw [show 1 + (g.rules.length - 1) = g.rules.length by omega] at this
  show (rk g g.rules.length).getD i 0 = 1
  rw [this, h1]
end Go.Proofs.Ytmlaepbmdfmgbaa

/- The law NullNodes' parts: size, the row of what may, by a row of numbers. -/
import Derived.Test.YtjelgmdjmjnnfaaC1
import Derived.Test.YtjelgmdjmjnnfaaB6
set_option linter.unusedSimpArgs false
set_option linter.unusedVariables false
namespace Go.Proofs.Ytjelgmdjmjnnfaa
open Go Go.RowKit Go.Maps
theorem rank_of {g : Gr} (hR : Right g) (i : Nat) (hi : i < g.rules.length) : rankOf g i = (ranks g).getD i 0 := by
  unfold rankOf
  rw [if_pos ⟨rightB_true.2 hR, by omega, by omega⟩, Int.toNat_natCast]
theorem nodeB_of {g : Gr} (hR : Right g) (n : Nat) (hn : n < g.nodes.length) : nodeB g n = mayN g.nodes (inB (ranks g)) n := by
  unfold nodeB
  rw [rightB_true.2 hR]
  have : (0 : Int) ≤ n ∧ (n : Int) < g.nodes.length := by omega
  simp [this.2]
theorem nodesOf_of {g : Gr} (hR : Right g) : nodesOf g = rowOf' g.nodes.length (fun n => mayN g.nodes (inB (ranks g)) n) := by
  unfold nodesOf
  rw [rightB_true.2 hR]
  rfl
theorem rows_no {g : Gr} (h : rightB g = false) : rulesOf g = [] ∧ nodesOf g = [] := by
  unfold rulesOf nodesOf
  rw [h]
  exact ⟨rfl, rfl⟩
theorem row_no {w w' : World} {e : Ending} {L : List Nat} (h : Row w L e w') (hL : L = []) : e = .returned (.slice none 0 0) ∧ Below w.heap.size w w' := by
  obtain ⟨⟨v, rfl, _, hn⟩, hb⟩ := h
  rw [hn.2 hL]
  exact ⟨rfl, hb⟩
/-- The row of what may, some of it stored. -/
structure MidM (w4 wr : World) (mb : Nat) (L : List Nat) (j : Nat) (ml : List Bool) (N : Nat) : Prop where
  row : Blk wr mb (bls ml).toArray 4
  len : ml.length = N
  val : ∀ q, q < N → ml.getD q false = decide (q ∈ L.take j)
  size : wr.heap.size = w4.heap.size
  other : ∀ b, b ≠ mb → wr.heap[b]? = w4.heap[b]?
theorem MidM.start {w4 : World} {mb N : Nat} {L : List Nat} (h : Blk w4 mb (bls (List.replicate N false)).toArray 4) : MidM w4 w4 mb L 0 (List.replicate N false) N :=
  ⟨h, by simp, fun q hq => by simp only [List.getD, List.getElem?_replicate]; rw [if_pos hq]; simp, rfl, fun _ _ => rfl⟩
theorem MidM.step {w4 wr : World} {mb N j : Nat} {L : List Nat} {ml : List Bool} (h : MidM w4 wr mb L j ml N) (hj : j < L.length) :
    MidM w4 (wr.setCell ⟨mb, L.getD j 0, none⟩ (.bool true)) mb L (j + 1) (ml.set (L.getD j 0) true) N := by
  have ht : L.take (j + 1) = L.take j ++ [L.getD j 0] := by
    rw [List.take_add_one]
    simp [List.getD, List.getElem?_eq_getElem hj]
  refine ⟨?_, by rw [List.length_set]; exact h.len, fun q hq => ?_, by rw [← h.size]; simp [World.setCell], fun b hb => (Below.heap_setCell _ _ _ b hb).trans (h.other b hb)⟩
  · have := h.row.put (k := L.getD j 0) (.bool true)
    rw [bls_set] at this
    exact this
  · rw [ht]
    generalize L.getD j 0 = e0
    by_cases e : q = e0
    · subst e
      simp only [List.getD]
      rw [List.getElem?_set_self (by rw [h.len]; exact hq)]
      simp
    · simp only [List.getD]
      rw [List.getElem?_set_ne (fun h => e h.symm)]
      have := h.val q hq
      simp only [List.getD] at this
      rw [this]
      simp [e]
theorem MidM.done {w4 wr : World} {mb : Nat} {g : Gr} {ml : List Bool} {f : Nat → Bool} (h : MidM w4 wr mb (rowOf' g.nodes.length f) (rowOf' g.nodes.length f).length ml g.nodes.length) (q : Nat) (hq : q < g.nodes.length) : ml.getD q false = f q := by
  rw [h.val q hq, List.take_length]
  cases hf : f q with
  | true => exact decide_eq_true (rowOf_mem.2 ⟨hq, hf⟩)
  | false => exact decide_eq_false (fun h => by have := (rowOf_mem.1 h).2; rw [hf] at this; cases this)
end Go.Proofs.Ytjelgmdjmjnnfaa
namespace Go.Proofs.Ytjelgmdjmjnnfaa
open Go Go.RowKit Go.Maps
/-- A grammar with one node turned into another. -/
def Gr.turn (g : Gr) (c : Nat) (y : Nd) : Gr := { g with nodes := g.nodes.set c y }
theorem turn_len (g : Gr) (c : Nat) (y : Nd) : (g.turn c y).nodes.length = g.nodes.length := by simp [Gr.turn]
theorem turn_at {g : Gr} {c : Nat} {y : Nd} (hc : c < g.nodes.length) : (g.turn c y).nodes.getD c Nd.zero = y := by
  simp only [Gr.turn, List.getD]
  rw [List.getElem?_set_self hc]; rfl
theorem turn_other {g : Gr} {c j : Nat} {y : Nd} (h : j ≠ c) : (g.turn c y).nodes.getD j Nd.zero = g.nodes.getD j Nd.zero := by
  simp only [Gr.turn, List.getD]
  rw [List.getElem?_set_ne (fun e => h e.symm)]
theorem turn_kids {g : Gr} {c : Nat} {y : Nd} (hc : c < g.nodes.length) (h : y.kids = (g.nodes.getD c Nd.zero).kids) (j : Nat) : kidsOf (g.turn c y).nodes j = kidsOf g.nodes j := by
  unfold kidsOf
  by_cases e : j = c
  · subst e; rw [turn_at hc, h]
  · rw [turn_other e]
theorem turn_meas {g : Gr} {c : Nat} {y : Nd} (hc : c < g.nodes.length) (h : y.kids = (g.nodes.getD c Nd.zero).kids) {ms : Nat → Meas} (hm : Measured g.nodes ms 0) : Measured (g.turn c y).nodes ms 0 := by
  intro m h1 h2
  rw [turn_len] at h2
  have := hm m h1 h2
  rw [turn_kids hc h, turn_len]
  exact this
theorem turn_right {g : Gr} {c : Nat} {y : Nd} (hR : Right g) (hc : c < g.nodes.length) (h : y.kids = (g.nodes.getD c Nd.zero).kids) (hy : nodeOk y g.rules.length = true) : Right (g.turn c y) := by
  obtain ⟨ms, hm, hb⟩ := hR.pre
  refine ⟨hR.rules, by rw [turn_len]; exact hR.nodes, hR.named, fun i hi => ?_, ms, turn_meas hc h hm, ?_⟩
  · rw [turn_len] at hi
    show nodeOk ((g.turn c y).nodes.getD i Nd.zero) g.rules.length = true
    by_cases e : i = c
    · subst e; rw [turn_at hc]; exact hy
    · rw [turn_other e]; exact hR.all i hi
  · rw [turn_len]
    exact hb
theorem turn_up_kids {g : Gr} {c : Nat} {y : Nd} (hR : Right g) (hc : c < g.nodes.length) (h : y.kids = (g.nodes.getD c Nd.zero).kids) : KidsUp (g.turn c y).nodes := by
  intro m hm2 k hk
  rw [turn_len] at hm2
  have := turn_kids hc h m
  unfold kidsOf at this
  rw [this] at hk
  have := hR.kidsUp m hm2 k hk
  rw [turn_len]
  exact this
/-- One that never may, turned: what may, may still. -/
theorem turn_up {g : Gr} {c : Nat} {y : Nd} (hR : Right g) (hc : c < g.nodes.length) (h : y.kids = (g.nodes.getD c Nd.zero).kids) (inn inn' : Int → Bool)
    (hy : ∀ f, stepMay (g.nodes.getD c Nd.zero) f inn = false) (hi : ∀ k, inn k = true → inn' k = true) :
    ∀ (d n : Nat), n < g.nodes.length → g.nodes.length - n ≤ d → mayN g.nodes inn n = true → mayN (g.turn c y).nodes inn' n = true
  | 0, n, hn, hd, _ => by omega
  | d + 1, n, hn, hd, hm => by
    rw [mayN_eq hR.kidsUp inn (n := n) (by omega) (by omega), Int.toNat_natCast] at hm
    rw [mayN_eq (turn_up_kids hR hc h) inn' (n := n) (by omega) (by rw [turn_len]; omega), Int.toNat_natCast]
    by_cases e : n = c
    · subst e
      rw [hy] at hm
      cases hm
    · rw [turn_other e]
      refine stepMay_mono (fun k hk hv => ?_) (hi _) hm
      have := hR.kidsUp n hn k hk
      obtain ⟨j, rfl⟩ : ∃ j : Nat, k = j := ⟨k.toNat, by omega⟩
      exact turn_up hR hc h inn inn' hy hi d j (by omega) (by omega) hv
/-- One that never may, turned into one that never may: nothing changes. -/
theorem turn_same {g : Gr} {c : Nat} {y : Nd} (hR : Right g) (hc : c < g.nodes.length) (h : y.kids = (g.nodes.getD c Nd.zero).kids) (inn : Int → Bool)
    (hy : ∀ f, stepMay (g.nodes.getD c Nd.zero) f inn = false) (hy2 : ∀ f, stepMay y f inn = false) (n : Int) (h0 : 0 ≤ n) (h1 : n < g.nodes.length) :
    mayN (g.turn c y).nodes inn n = mayN g.nodes inn n := by
  refine mayN_unique hR.kidsUp inn (mayN (g.turn c y).nodes inn) (lo := 0) (by omega) (fun m a b => ?_) (g.nodes.length) n h0 h1 (by omega)
  rw [mayN_eq (turn_up_kids hR hc h) inn a (by rw [turn_len]; exact b)]
  by_cases e : m.toNat = c
  · rw [e, turn_at hc, hy, hy2]
  · rw [turn_other e]
theorem turn_rules (g : Gr) (c : Nat) (y : Nd) : (g.turn c y).rules = g.rules := rfl
theorem rk_full (g : Gr) (k : Nat) : ∀ i, g.rules.length ≤ i → (rk g k).getD i 0 = 0 := fun i hi => by
  simp only [List.getD]
  rw [List.getElem?_eq_none (by rw [rk_length]; exact hi)]
  rfl
/-- Who is in is in, as soon, behind the turn. -/
theorem turn_in {g : Gr} {c : Nat} {y : Nd} (hR : Right g) (hc : c < g.nodes.length) (h : y.kids = (g.nodes.getD c Nd.zero).kids)
    (hy : ∀ f inn, stepMay (g.nodes.getD c Nd.zero) f inn = false) : ∀ (k i : Nat), 0 < (rk g k).getD i 0 → 0 < (rk (g.turn c y) k).getD i 0
  | 0, i, hi => by rw [rk_zero] at hi; omega
  | k + 1, i, hi => by
    by_cases hl : i < g.rules.length
    · have hb := in_body k i hl hi
      have hbd := hR.body i hl
      obtain ⟨q, hq⟩ : ∃ q : Nat, (g.rules.getD i Rl.zero).body = q := ⟨(g.rules.getD i Rl.zero).body.toNat, by omega⟩
      rw [hq] at hb
      have hu := turn_up hR hc h (inB (rk g k)) (inB (rk (g.turn c y) k)) (fun f => hy f _) (fun r hr => by
        simp only [inB, decide_eq_true_eq] at hr ⊢
        exact turn_in hR hc h hy k _ hr) g.nodes.length q (by omega) (by omega) hb
      have := body_in (g := g.turn c y) k i hl
      rw [turn_rules, hq, hu] at this
      simpa using this.symm
    · rw [rk_full g (k + 1) i (by omega)] at hi
      omega
/-- Ranks don't rise. -/
theorem turn_rank {g : Gr} {c : Nat} {y : Nd} (hR : Right g) (hc : c < g.nodes.length) (h : y.kids = (g.nodes.getD c Nd.zero).kids)
    (hy : ∀ f inn, stepMay (g.nodes.getD c Nd.zero) f inn = false) (i : Nat) (hi : 0 < (ranks g).getD i 0) : 0 < (ranks (g.turn c y)).getD i 0 ∧ (ranks (g.turn c y)).getD i 0 ≤ (ranks g).getD i 0 := by
  have hle := ranks_le g i
  obtain ⟨a, ha⟩ : ∃ a : Nat, (ranks g).getD i 0 = a := ⟨((ranks g).getD i 0).toNat, by omega⟩
  have h1 := rk_below g i (g.rules.length - a) a
  rw [show a + (g.rules.length - a) = g.rules.length by omega] at h1
  have h2 : (rk g a).getD i 0 = a := by
    rw [h1]
    show (if (ranks g).getD i 0 ≤ (a : Int) then (ranks g).getD i 0 else 0) = a
    rw [if_pos (by omega), ha]
  have h3 := turn_in hR hc h hy a i (by omega)
  have h4 := rk_keep (g.turn c y) a i h3 (g.rules.length - a)
  rw [show a + (g.rules.length - a) = (g.turn c y).rules.length by rw [turn_rules]; omega] at h4
  have h5 := (rk_bound (g.turn c y) a i).2
  have h6 : (ranks (g.turn c y)).getD i 0 = (rk (g.turn c y) a).getD i 0 := h4
  rw [h6, ha]
  exact ⟨h3, h5⟩
/-- A call of a rule that never comes in, turned into one that never may: the same rounds. -/
theorem turn_rk {g : Gr} {c : Nat} {y : Nd} (hR : Right g) (hc : c < g.nodes.length) (h : y.kids = (g.nodes.getD c Nd.zero).kids)
    (hy : ∀ f k, stepMay (g.nodes.getD c Nd.zero) f (inB (rk g k)) = false) (hy2 : ∀ f inn, stepMay y f inn = false) : ∀ k, rk (g.turn c y) k = rk g k
  | 0 => rfl
  | k + 1 => by
    have ih := turn_rk hR hc h hy hy2 k
    apply ext_getD
    · rw [rk_length, rk_length, turn_rules]
    · intro i hi
      rw [rk_length, turn_rules] at hi
      rw [rk_next _ k i (by rw [turn_rules]; exact hi), rk_next g k i hi]
      have hbd := hR.body i hi
      have : comB (g.turn c y) (rk (g.turn c y) k) i = comB g (rk g k) i := by
        unfold comB
        rw [ih, turn_rules, turn_same hR hc h (inB (rk g k)) (fun f => hy f k) (fun f => hy2 f _) _ hbd.1 hbd.2]
      rw [this, ih]
end Go.Proofs.Ytjelgmdjmjnnfaa

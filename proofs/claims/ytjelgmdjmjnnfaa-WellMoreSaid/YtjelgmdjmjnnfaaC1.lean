/- What the laws of null ask of a node, by a row of what is known: in memory. -/
import Derived.Test.YtjelgmdjmjnnfaaB7
import Derived.Test.YtjelgmdjmjnnfaaA5
set_option linter.unusedSimpArgs false
set_option linter.unusedVariables false
namespace Go.Proofs.Ytjelgmdjmjnnfaa
open Go Go.RowKit Go.Maps
def bls (l : List Bool) : List Value := l.map Value.bool
theorem bls_length (l : List Bool) : (bls l).length = l.length := by simp [bls]
theorem bls_at {l : List Bool} {k : Nat} (h : k < l.length) : (bls l)[k]? = some (.bool (l.getD k false)) := by
  simp [bls, List.getD, List.getElem?_eq_getElem h]
theorem bls_set (l : List Bool) (k : Nat) (b : Bool) : (bls l).set k (.bool b) = bls (l.set k b) := by simp [bls, List.map_set]
theorem ints_set (l : List Int) (k : Nat) (b : Int) : (ints l).set k (.int .i64 b) = ints (l.set k b) := by simp [ints, List.map_set]
theorem Blk.put {w : World} {b k : Nat} {l : List Value} {T : TypeId} (h : Blk w b l.toArray T) (v : Value) : Blk (w.setCell ⟨b, k, none⟩ v) b (l.set k v).toArray T := by
  have := heap_setCell_same w b k l.toArray T v h
  unfold Blk
  rw [this]
  simp
theorem made_blk {w : World} {base b n : Nat} {e : TypeId} {xs : List Value} (h : w.ownsRow base e 1 (.slice (some ⟨b, 0, none⟩) n n) n xs) : Blk w b xs.toArray e := by
  have h1 := h.1
  rcases h.2 with ⟨hn, _⟩ | ⟨g', cap', cur, hv, hbg, hgh, hnc, hcm, hcs, htake⟩
  · cases hn
  · simp only [Value.slice.injEq, Option.some.injEq, Addr.mk.injEq, and_true, true_and] at hv
    obtain ⟨rfl, rfl⟩ := hv
    have : cur.toList = xs := by
      rw [List.take_of_length_le (by simp; omega)] at htake
      exact htake
    unfold Blk
    rw [hgh, ← this]
theorem all_take {p : Int → Bool} {l : List Int} {k : Nat} (h : k < l.length) : (l.take (k + 1)).all p = ((l.take k).all p && p (l.getD k 0)) := by
  rw [List.take_add_one, List.all_append, List.getElem?_eq_getElem h]
  simp [List.getD, List.getElem?_eq_getElem h]
theorem any_take {p : Int → Bool} {l : List Int} {k : Nat} (h : k < l.length) : (l.take (k + 1)).any p = ((l.take k).any p || p (l.getD k 0)) := by
  rw [List.take_add_one, List.any_append, List.getElem?_eq_getElem h]
  simp [List.getD, List.getElem?_eq_getElem h]
theorem and_eq {a b c : Bool} (h : a = (b && c)) : a = if b = true then c else false := by subst h; cases b <;> rfl
end Go.Proofs.Ytjelgmdjmjnnfaa
namespace Go.Proofs.Ytjelgmdjmjnnfaa
open Go Go.RowKit Go.Maps
theorem in_later {g : Gr} {k i : Nat} (h : inB (rk g k) i = true) : inB (rk g (k + 1)) i = true := by
  simp only [inB, Int.toNat_natCast, decide_eq_true_eq] at h ⊢
  rw [rk_keeps g k i h]; exact h
/-- A rule that is in is in with its body. -/
theorem in_body {g : Gr} : ∀ (k i : Nat), i < g.rules.length → 0 < (rk g (k + 1)).getD i 0 → mayN g.nodes (inB (rk g k)) (g.rules.getD i Rl.zero).body = true
  | k, i, hi, h => by
    rw [rk_next g k i hi] at h
    by_cases hc : comB g (rk g k) i = true
    · unfold comB at hc
      simp only [Bool.and_eq_true] at hc
      exact hc.2
    · rw [if_neg hc] at h
      cases k with
      | zero => rw [rk_zero] at h; omega
      | succ k =>
        refine mayN_mono (i := inB (rk g k)) (fun q hq => ?_) (in_body k i hi h)
        simp only [inB, decide_eq_true_eq] at hq ⊢
        rw [rk_keeps g k _ hq]; exact hq
theorem body_in {g : Gr} (k i : Nat) (hi : i < g.rules.length) : mayN g.nodes (inB (rk g k)) (g.rules.getD i Rl.zero).body = decide (0 < (rk g (k + 1)).getD i 0) := by
  by_cases h : 0 < (rk g (k + 1)).getD i 0
  · rw [in_body k i hi h, decide_eq_true h]
  · rw [decide_eq_false h]
    cases hm : mayN g.nodes (inB (rk g k)) (g.rules.getD i Rl.zero).body with
    | false => rfl
    | true =>
      exfalso
      apply h
      by_cases h0 : inB (rk g k) i = true
      · have := in_later h0
        simpa [inB] using this
      · rw [rk_next g k i hi, if_pos (by unfold comB; rw [hm]; simpa using h0)]
        omega
theorem rk_past (g : Gr) : rk g (g.rules.length + 1) = ranks g := by
  obtain ⟨N, h1, h2, _⟩ := rounds_end g
  have := rk_stay g N h2 (g.rules.length + 1 - N)
  rw [show N + (g.rules.length + 1 - N) = g.rules.length + 1 by omega] at this
  rw [this, ranks_fix g h1 h2]
theorem ranks_length (g : Gr) : (ranks g).length = g.rules.length := rk_length g _
theorem ranks_pos (g : Gr) (i : Nat) : 0 ≤ (ranks g).getD i 0 := (rk_bound g _ i).1
theorem ranks_le (g : Gr) (i : Nat) : (ranks g).getD i 0 ≤ g.rules.length := (rk_bound g _ i).2
/-- A rule is in just as its body may. -/
theorem body_ranks {g : Gr} (i : Nat) (hi : i < g.rules.length) : mayN g.nodes (inB (ranks g)) (g.rules.getD i Rl.zero).body = decide (0 < (ranks g).getD i 0) := by
  have := body_in (g := g) g.rules.length i hi
  rw [rk_past] at this
  exact this
/-- The ranks below a number. -/
def low (r : List Int) (k : Nat) : List Int := r.map fun x => if x < (k : Int) + 1 then x else 0
theorem low_length (r : List Int) (k : Nat) : (low r k).length = r.length := by simp [low]
theorem low_at {r : List Int} {k i : Nat} (h : i < r.length) : (low r k).getD i 0 = if r.getD i 0 < (k : Int) + 1 then r.getD i 0 else 0 := by
  simp [low, List.getD, List.getElem?_eq_getElem h]
theorem ext_getD {a b : List Int} (h : a.length = b.length) (h2 : ∀ i, i < a.length → a.getD i 0 = b.getD i 0) : a = b := by
  apply List.ext_getElem h
  intro i h3 h4
  have := h2 i h3
  simpa [List.getD, List.getElem?_eq_getElem h3, List.getElem?_eq_getElem h4] using this
theorem low_ranks (g : Gr) (k : Nat) (hk : k ≤ g.rules.length) : low (ranks g) k = rk g k := by
  apply ext_getD
  · rw [low_length, rk_length, ranks_length]
  · intro i hi
    rw [low_length] at hi
    rw [low_at hi]
    have := rk_below g i (g.rules.length - k) k
    rw [show k + (g.rules.length - k) = g.rules.length by omega] at this
    rw [this]
    show (if (ranks g).getD i 0 < (k : Int) + 1 then (ranks g).getD i 0 else 0) = if (ranks g).getD i 0 ≤ k then (ranks g).getD i 0 else 0
    by_cases h : (ranks g).getD i 0 ≤ k
    · rw [if_pos h, if_pos (by omega)]
    · rw [if_neg h, if_neg (by omega)]
theorem rk_upto (g : Gr) (k i : Nat) (hk : k ≤ g.rules.length) : decide (0 < (rk g (k + 1)).getD i 0) = decide (0 < (ranks g).getD i 0 ∧ (ranks g).getD i 0 ≤ (k : Int) + 1) := by
  by_cases h : k = g.rules.length
  · subst h
    rw [rk_past]
    have := ranks_le g i
    have h2 : (ranks g).getD i 0 ≤ (g.rules.length : Int) + 1 := by omega
    exact decide_eq_decide.2 ⟨fun h => ⟨h, h2⟩, fun h => h.1⟩
  · have := rk_below g i (g.rules.length - (k + 1)) (k + 1)
    rw [show (k + 1) + (g.rules.length - (k + 1)) = g.rules.length by omega] at this
    rw [this]
    show decide (0 < if (ranks g).getD i 0 ≤ ((k + 1 : Nat) : Int) then (ranks g).getD i 0 else 0) = _
    by_cases h : (ranks g).getD i 0 ≤ ((k + 1 : Nat) : Int)
    · rw [if_pos h]
      have h2 : (ranks g).getD i 0 ≤ (k : Int) + 1 := by omega
      exact decide_eq_decide.2 ⟨fun h => ⟨h, h2⟩, fun h => h.1⟩
    · rw [if_neg h]
      have h2 : ¬ (ranks g).getD i 0 ≤ (k : Int) + 1 := by omega
      exact decide_eq_decide.2 ⟨fun h => absurd h (by omega), fun h => absurd h.2 h2⟩
theorem body_low {g : Gr} (k i : Nat) (hi : i < g.rules.length) (hk : k ≤ g.rules.length) : mayN g.nodes (inB (low (ranks g) k)) (g.rules.getD i Rl.zero).body = decide (0 < (ranks g).getD i 0 ∧ (ranks g).getD i 0 ≤ (k : Int) + 1) := by
  rw [low_ranks g k hk, body_in k i hi, rk_upto g k i hk]
/-- What a node may, by what its kids may. -/
theorem may_step {g : Gr} (hR : Right g) (inn : Int → Bool) (l : List Bool) (n : Nat) (hn : n < g.nodes.length) (h : ∀ j, n < j → j < g.nodes.length → l.getD j false = mayN g.nodes inn j) :
    stepMay (g.nodes.getD n Nd.zero) (fun k => l.getD k.toNat false) inn = mayN g.nodes inn n := by
  rw [mayN_eq hR.kidsUp inn (n := n) (by omega) (by omega), Int.toNat_natCast]
  refine stepMay_congr (fun k hk => ?_) (fun _ => rfl)
  have := hR.kidsUp n hn k hk
  obtain ⟨j, rfl⟩ : ∃ j : Nat, k = j := ⟨k.toNat, by omega⟩
  simpa using h j (by omega) (by omega)
theorem made_ints (n : Nat) : (madeCells (Value.int .i64 0).cells (n * 1)).toList.toArray = (ints (List.replicate n 0)).toArray := by
  rw [made_int]; simp [ints]
theorem made_bools (n : Nat) : (madeCells (Value.bool false).cells (n * 1)).toList.toArray = (bls (List.replicate n false)).toArray := by
  have : madeCells (Value.bool false).cells (n * 1) = (List.replicate n (Value.bool false)).toArray := by
    apply Array.ext
    · simp [madeCells]
    · intro k h1 h2
      simp [madeCells, Value.cells, Nat.mod_one]
  rw [this]; simp [bls]
end Go.Proofs.Ytjelgmdjmjnnfaa

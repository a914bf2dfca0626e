/- Plain facts of layer 7: the places at which a text's words are looked for, one behind the other. -/
import Derived.Test.YtgmdfmckkfefgaaDoorMc
namespace Go.Proofs.YtgmdfmckkfefgaaDoor
/-- Where the k-th word is looked for; where it would begin; it. -/
def pos (l : List Nat) : Nat → Nat
  | 0 => 0
  | k + 1 => match wd (l.drop (pos l k + sk false (l.drop (pos l k)))) with
    | some x => pos l k + sk false (l.drop (pos l k)) + x.len
    | none => pos l k + sk false (l.drop (pos l k))
def beg (l : List Nat) (k : Nat) : Nat := pos l k + sk false (l.drop (pos l k))
def ow (l : List Nat) (k : Nat) : Option Wd := wd (l.drop (beg l k))
def stp (l : List Nat) (k : Nat) : Bool := match ow l k with | none => true | some x => x.kind == 1
theorem pos_some {l : List Nat} {k : Nat} {x : Wd} (h : ow l k = some x) : pos l (k + 1) = beg l k + x.len := by
  have h' : wd (l.drop (pos l k + sk false (l.drop (pos l k)))) = some x := h
  rw [pos, h']
  rfl
theorem pos_none {l : List Nat} {k : Nat} (h : ow l k = none) : pos l (k + 1) = beg l k := by
  have h' : wd (l.drop (pos l k + sk false (l.drop (pos l k)))) = none := h
  rw [pos, h']
  rfl
theorem drop_lt {l : List Nat} (hl : ∀ x ∈ l, x < 256) (k : Nat) : ∀ x ∈ l.drop k, x < 256 := fun x hx => hl x (List.mem_of_mem_drop hx)
theorem pos_le {l : List Nat} (hl : ∀ x ∈ l, x < 256) : ∀ k, pos l k ≤ l.length
  | 0 => Nat.zero_le _
  | k + 1 => by
    have h1 := pos_le hl k
    have h2 := sk_le (l.drop (pos l k)) false
    rw [List.length_drop] at h2
    cases h : ow l k with
    | none => rw [pos_none h]; unfold beg; omega
    | some x =>
      have h3 := (wd_ok (drop_lt hl _) h).1
      rw [List.length_drop] at h3
      rw [pos_some h]
      unfold beg at h3 ⊢
      omega
theorem beg_le {l : List Nat} (hl : ∀ x ∈ l, x < 256) (k : Nat) : beg l k ≤ l.length := by
  have h1 := pos_le hl k
  have h2 := sk_le (l.drop (pos l k)) false
  rw [List.length_drop] at h2
  unfold beg
  omega
theorem pos_beg (l : List Nat) (k : Nat) : pos l k ≤ beg l k := by unfold beg; omega
theorem stp_some {l : List Nat} {k : Nat} {x : Wd} (h : ow l k = some x) : stp l k = (x.kind == 1) := by unfold stp; rw [h]
theorem stp_none {l : List Nat} {k : Nat} (h : ow l k = none) : stp l k = true := by unfold stp; rw [h]
theorem pos_more {l : List Nat} (hl : ∀ x ∈ l, x < 256) {k : Nat} (h : stp l k = false) : ∃ x, ow l k = some x ∧ x.kind ≠ 1 ∧ 1 ≤ x.len ∧ pos l k < pos l (k + 1) := by
  cases h1 : ow l k with
  | none => rw [stp_none h1] at h; cases h
  | some x =>
    rw [stp_some h1] at h
    have hk : x.kind ≠ 1 := by simpa using h
    obtain ⟨_, a2, a3, _⟩ := wd_ok (drop_lt hl _) h1
    have h3 := a3 (fun e => hk (a2.2 e))
    refine ⟨x, rfl, hk, h3, ?_⟩
    rw [pos_some h1]
    have := pos_beg l k
    omega
/-- The words end. -/
theorem ends {l : List Nat} (hl : ∀ x ∈ l, x < 256) : ∃ N, N ≤ l.length ∧ stp l N = true ∧ ∀ j, j < N → stp l j = false := by
  have key : ∀ m, (∀ j, j < m → stp l j = false) → m ≤ pos l m := by
    intro m
    induction m with
    | zero => intro _; exact Nat.zero_le _
    | succ m ih =>
      intro h
      have h1 := ih (fun j hj => h j (by omega))
      obtain ⟨_, _, _, _, h2⟩ := pos_more hl (h m (by omega))
      omega
  have find : ∀ m, (∃ N, N < m ∧ stp l N = true ∧ ∀ j, j < N → stp l j = false) ∨ ∀ j, j < m → stp l j = false := by
    intro m
    induction m with
    | zero => exact .inr fun j hj => by omega
    | succ m ih =>
      rcases ih with ⟨N, h1, h2, h3⟩ | h
      · exact .inl ⟨N, by omega, h2, h3⟩
      · cases hs : stp l m with
        | true => exact .inl ⟨m, by omega, hs, h⟩
        | false =>
          refine .inr (fun j hj => ?_)
          by_cases e : j = m
          · rw [e]; exact hs
          · exact h j (by omega)
  rcases find (l.length + 1) with ⟨N, h1, h2, h3⟩ | h
  · exact ⟨N, by omega, h2, h3⟩
  · have := key _ h
    have := pos_le hl (l.length + 1)
    omega
/-- An End stands at the end, and nowhere else. -/
theorem ow_end {l : List Nat} (hl : ∀ x ∈ l, x < 256) {k : Nat} {x : Wd} (h : ow l k = some x) : (x.kind = 1 ↔ beg l k = l.length) ∧ (beg l k = l.length → x = ⟨1, 0, [], 0, no⟩) := by
  obtain ⟨_, a2, _⟩ := wd_ok (drop_lt hl _) h
  have h1 := beg_le hl k
  have e : l.drop (beg l k) = [] ↔ beg l k = l.length := by
    rw [List.drop_eq_nil_iff]
    omega
  refine ⟨a2.trans e, fun h2 => ?_⟩
  have h3 : wd (l.drop (beg l k)) = some x := h
  rw [e.2 h2] at h3
  exact (Option.some.inj h3).symm
end Go.Proofs.YtgmdfmckkfefgaaDoor

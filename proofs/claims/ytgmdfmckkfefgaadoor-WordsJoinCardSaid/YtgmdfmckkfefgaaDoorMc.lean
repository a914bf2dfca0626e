/- Plain facts of layer 7: all words of a text; two texts. -/
import Derived.Test.YtgmdfmckkfefgaaDoorMb
namespace Go.Proofs.YtgmdfmckkfefgaaDoor
theorem lead_pos {p : Nat → Bool} {c : Nat} {r : List Nat} (h : p c = true) : 1 ≤ lead p (c :: r) := by simp [lead, h]
theorem val_le : ∀ (l : List Nat) (a : Nat), (∀ x ∈ l, x < 58) → l.foldl (fun a c => 10 * a + (c - 48)) a < (a + 1) * 10 ^ l.length
  | [], a, _ => by simp
  | c :: r, a, h => by
    simp only [List.foldl_cons, List.length_cons]
    have h1 := val_le r (10 * a + (c - 48)) (fun x hx => h x (by simp [hx]))
    have h2 := h c (by simp)
    refine Nat.lt_of_lt_of_le h1 ?_
    rw [Nat.pow_succ, Nat.mul_comm (10 ^ r.length) 10, ← Nat.mul_assoc]
    exact Nat.mul_le_mul_right _ (by omega)
theorem lvl_bound {ds : List Nat} (h : ∀ x ∈ ds, x < 58) : 0 ≤ lvl ds ∧ lvl ds ≤ 9999 := by
  unfold lvl
  split
  · omega
  · have h1 := val_le ds 0 h
    have h2 : (10 : Nat) ^ ds.length ≤ 10 ^ 4 := Nat.pow_le_pow_right (by omega) (by omega)
    have : val ds < (0 + 1) * 10 ^ ds.length := h1
    omega
theorem dgt_lt {c : Nat} (h : dgt c = true) : c < 58 := by simp [dgt] at h; omega
theorem nam_ok {l : List Nat} (h : 1 ≤ lead inm l) : (nam l).kind = 2 ∧ 1 ≤ (nam l).len ∧ (nam l).len ≤ l.length ∧ (nam l).text = l.take (lead inm l) ∧ -1 ≤ (nam l).lev ∧ (nam l).lev ≤ 9999 ∧ (nam l).cls = no := by
  have h1 := lead_le inm l
  unfold nam
  cases hd : l.drop (lead inm l) with
  | nil => exact ⟨rfl, h, h1, rfl, Int.le_refl _, (by decide : (-1 : Int) ≤ 9999), rfl⟩
  | cons c r =>
    have hlen : l.length - lead inm l = r.length + 1 := by rw [← List.length_drop, hd]; rfl
    have h2 := lead_le dgt r
    by_cases hc : c = 58
    · subst hc
      by_cases h0 : lead dgt r = 0
      · rw [namR_0 _ _ h0]; exact ⟨rfl, h, h1, rfl, Int.le_refl _, (by decide : (-1 : Int) ≤ 9999), rfl⟩
      · rw [namR_1 _ _ h0]
        have h3 := lvl_bound (ds := r.take (lead dgt r)) (fun x hx => dgt_lt (lead_all dgt r x hx))
        exact ⟨rfl, by simp; omega, by simp; omega, rfl, by simp; omega, by simp; omega, rfl⟩
    · rw [show namR (lead inm l) (l.take (lead inm l)) (c :: r) = ⟨2, lead inm l, l.take (lead inm l), -1, no⟩ by simp only [namR, if_neg hc]]
      exact ⟨rfl, h, h1, rfl, Int.le_refl _, (by decide : (-1 : Int) ≤ 9999), rfl⟩
theorem inm_ltr {c : Nat} (h : ltr c = true) : inm c = true := by simp [inm, h]
theorem sgn_ok {l t : List Nat} (h : sgn l = some t) : 1 ≤ t.length ∧ t.length ≤ 2 ∧ t = l.take t.length ∧ t.length ≤ l.length := by
  cases l with
  | nil => cases h
  | cons c r =>
    simp only [sgn] at h
    by_cases h60 : c = 60
    · rw [if_pos h60] at h
      cases r with
      | nil => cases h
      | cons d r2 =>
        by_cases h45 : d = 45
        · subst h45 h60
          simp at h
          subst h
          simp
        · simp [h45] at h
    · rw [if_neg h60] at h
      split at h
      · simp only [Option.some.injEq] at h
        subst h
        simp
      · cases h
theorem wd_ok {l : List Nat} {w : Wd} (hl : ∀ x ∈ l, x < 256) (h : wd l = some w) : w.len ≤ l.length ∧ (w.kind = 1 ↔ l = []) ∧ (l ≠ [] → 1 ≤ w.len) ∧ 1 ≤ w.kind ∧ w.kind ≤ 5 ∧ (∀ x ∈ w.text, x < 256) ∧ w.text.length ≤ l.length ∧ -1 ≤ w.lev ∧ w.lev ≤ 9999 := by
  cases l with
  | nil =>
    simp only [wd, Option.some.injEq] at h
    subst h
    simp
  | cons c r =>
    simp only [wd] at h
    have hr : ∀ x ∈ r, x < 256 := fun x hx => hl x (by simp [hx])
    by_cases h1 : ltr c = true
    · rw [if_pos h1] at h
      simp only [Option.some.injEq] at h
      subst h
      obtain ⟨a1, a2, a3, a4, a5, a6, _⟩ := nam_ok (l := c :: r) (lead_pos (inm_ltr h1))
      refine ⟨a3, by rw [a1]; simp, fun _ => a2, by omega, by omega, ?_, ?_, a5, a6⟩
      · rw [a4]; exact fun x hx => hl x (List.mem_of_mem_take hx)
      · rw [a4, List.length_take]; omega
    · rw [if_neg h1] at h
      by_cases h2 : c = 34
      · rw [if_pos h2] at h
        cases hq : QT r with
        | none => rw [hq] at h; cases h
        | some x =>
          obtain ⟨bs, k⟩ := x
          rw [hq] at h
          simp only [Option.map_some, Option.some.injEq] at h
          subst h
          obtain ⟨q1, q2, q3, q4, _⟩ := QT_ok hr hq
          refine ⟨by simp; omega, by simp, fun _ => by simp, by simp, by simp, q3, by simp; omega, by simp, by simp⟩
      · rw [if_neg h2] at h
        by_cases h3 : c = 91
        · rw [if_pos h3] at h
          cases hq : ST r with
          | none => rw [hq] at h; cases h
          | some x =>
            obtain ⟨bs, k⟩ := x
            rw [hq] at h
            simp only [Option.map_some, Option.some.injEq] at h
            subst h
            obtain ⟨q1, q2, q3, q4, _⟩ := ST_ok hr hq
            refine ⟨by simp; omega, by simp, fun _ => by simp, by simp, by simp, by simp, by simp, by simp, by simp⟩
        · rw [if_neg h3] at h
          cases hq : sgn (c :: r) with
          | none => rw [hq] at h; cases h
          | some t =>
            rw [hq] at h
            simp only [Option.map_some, Option.some.injEq] at h
            subst h
            obtain ⟨q1, q2, q3, q4⟩ := sgn_ok hq
            refine ⟨q4, by simp, fun _ => q1, by simp, by simp, ?_, q4, by simp, by simp⟩
            rw [q3]
            exact fun x hx => hl x (List.mem_of_mem_take hx)
theorem nam_app {l x : List Nat} (hx : ∀ c r, x = c :: r → inm c = false ∧ c ≠ 58) : nam (l ++ x) = nam l := by
  have h1 := lead_le inm l
  have hx2 : ∀ c r, x = c :: r → dgt c = false := fun c r e => by
    have := (hx c r e).1
    simp only [inm, Bool.or_eq_false_iff] at this
    exact this.2
  unfold nam
  simp only [lead_app (fun c r e => (hx c r e).1) l, List.drop_append_of_le_length h1, List.take_append_of_le_length h1]
  cases hd : l.drop (lead inm l) with
  | nil =>
    rw [List.nil_append]
    cases x with
    | nil => rfl
    | cons c r =>
      have := (hx c r rfl).2
      simp only [namR, if_neg this]
  | cons c r =>
    have h2 := lead_le dgt r
    simp only [List.cons_append, namR, lead_app hx2 r, List.take_append_of_le_length h2]
/-- A word stays, whatever stands behind a blank behind it. -/
theorem wd_app {l x : List Nat} {w : Wd} (hl : ∀ y ∈ l, y < 256) (hx : ∀ y ∈ x, y < 256) (hb : ∀ c r, x = c :: r → c = 10 ∨ c = 32) (h0 : l ≠ []) (h : wd l = some w) : wd (l ++ x) = some w := by
  cases l with
  | nil => exact absurd rfl h0
  | cons c r =>
    have hr : ∀ x ∈ r, x < 256 := fun x hx => hl x (by simp [hx])
    simp only [wd] at h
    have hxn : ∀ c r, x = c :: r → inm c = false ∧ c ≠ 58 := fun c r e => by
      rcases hb c r e with rfl | rfl <;> exact ⟨rfl, by omega⟩
    simp only [List.cons_append, wd]
    by_cases h1 : ltr c = true
    · rw [if_pos h1] at h ⊢
      rw [← List.cons_append, nam_app hxn]
      exact h
    · rw [if_neg h1] at h ⊢
      by_cases h2 : c = 34
      · rw [if_pos h2] at h ⊢
        cases hq : QT r with
        | none => rw [hq] at h; cases h
        | some y => rw [(QT_ok hr (bs := y.1) (k := y.2) hq).2.2.2.2 x hx]; rw [hq] at h; exact h
      · rw [if_neg h2] at h ⊢
        by_cases h3 : c = 91
        · rw [if_pos h3] at h ⊢
          cases hq : ST r with
          | none => rw [hq] at h; cases h
          | some y =>
            rw [(ST_ok hr (bs := y.1) (k := y.2) hq).2.2.2.2 x hx (by
              cases x with
              | nil => simp
              | cons c2 r2 => rcases hb c2 r2 rfl with rfl | rfl <;> simp)]
            rw [hq] at h; exact h
        · rw [if_neg h3] at h ⊢
          cases hq : sgn (c :: r) with
          | none => rw [hq] at h; cases h
          | some t =>
            have : sgn (c :: (r ++ x)) = some t := by
              simp only [sgn] at hq ⊢
              by_cases h60 : c = 60
              · rw [if_pos h60] at hq ⊢
                cases r with
                | nil => cases hq
                | cons d r2 => exact hq
              · rw [if_neg h60] at hq ⊢
                exact hq
            rw [this]; rw [hq] at h; exact h
/-- The words of a text from a place on, each with its place; or none, and the place at which there is none. -/
def al : Nat → Nat → List Nat → Option (List (Nat × Wd)) × Nat
  | 0, _, _ => (none, 0)
  | f + 1, off, r =>
    match wd (r.drop (sk false r)) with
    | none => (none, off + sk false r)
    | some w => if w.kind = 1 then (some [(off + sk false r, w)], 0) else
      match al f (off + sk false r + w.len) (r.drop (sk false r + w.len)) with
      | (none, k) => (none, k)
      | (some l, _) => (some ((off + sk false r, w) :: l), 0)
def AL (l : List Nat) : Option (List (Nat × Wd)) × Nat := al (l.length + 1) 0 l
theorem al_fuel : ∀ (f g off : Nat) (l : List Nat), (∀ x ∈ l, x < 256) → l.length < f → l.length < g → al f off l = al g off l
  | 0, _, _, _, _, h, _ => by omega
  | _, 0, _, _, _, _, h => by omega
  | f + 1, g + 1, off, l, hl, hf, hg => by
    unfold al
    have h1 := sk_le l false
    have hl2 : ∀ x ∈ l.drop (sk false l), x < 256 := fun x hx => hl x (List.mem_of_mem_drop hx)
    cases h : wd (l.drop (sk false l)) with
    | none => rfl
    | some w =>
      obtain ⟨a1, a2, a3, _⟩ := wd_ok hl2 h
      simp only
      by_cases hk : w.kind = 1
      · rw [if_pos hk, if_pos hk]
      · rw [if_neg hk, if_neg hk]
        have h3 : l.drop (sk false l) ≠ [] := fun e => hk (a2.2 e)
        have h4 := a3 h3
        rw [List.length_drop] at a1
        rw [al_fuel f g _ _ (fun x hx => hl x (List.mem_of_mem_drop hx)) (by rw [List.length_drop]; omega) (by rw [List.length_drop]; omega)]
/-- One step: the words from a place on. -/
def alAt (l : List Nat) (k : Nat) : Option (List (Nat × Wd)) × Nat := al ((l.drop k).length + 1) k (l.drop k)
theorem AL_at (l : List Nat) : AL l = alAt l 0 := rfl
theorem alAt_none {l : List Nat} {k : Nat} (h : wd (l.drop (k + sk false (l.drop k))) = none) : alAt l k = (none, k + sk false (l.drop k)) := by
  unfold alAt al
  rw [List.drop_drop, h]
theorem alAt_end {l : List Nat} {k : Nat} {w : Wd} (h : wd (l.drop (k + sk false (l.drop k))) = some w) (hk : w.kind = 1) : alAt l k = (some [(k + sk false (l.drop k), w)], 0) := by
  unfold alAt al
  rw [List.drop_drop, h]
  simp only
  rw [if_pos hk]
theorem alAt_more {l : List Nat} {k : Nat} {w : Wd} (hl : ∀ x ∈ l, x < 256) (h : wd (l.drop (k + sk false (l.drop k))) = some w) (hk : w.kind ≠ 1) :
    alAt l k = match alAt l (k + sk false (l.drop k) + w.len) with | (none, q) => (none, q) | (some x, _) => (some ((k + sk false (l.drop k), w) :: x), 0) := by
  have h1 := sk_le (l.drop k) false
  have hl2 : ∀ x ∈ l.drop (k + sk false (l.drop k)), x < 256 := fun x hx => hl x (List.mem_of_mem_drop hx)
  obtain ⟨a1, a2, a3, _⟩ := wd_ok hl2 h
  have h3 : l.drop (k + sk false (l.drop k)) ≠ [] := fun e => hk (a2.2 e)
  have h4 := a3 h3
  rw [List.length_drop] at a1 h1
  unfold alAt
  rw [al, List.drop_drop, h]
  simp only
  rw [if_neg hk, List.drop_drop, ← Nat.add_assoc, al_fuel (l.drop k).length ((l.drop (k + sk false (l.drop k) + w.len)).length + 1) _ _ (fun x hx => hl x (List.mem_of_mem_drop hx)) (by simp only [List.length_drop]; omega) (by omega)]
end Go.Proofs.YtgmdfmckkfefgaaDoor

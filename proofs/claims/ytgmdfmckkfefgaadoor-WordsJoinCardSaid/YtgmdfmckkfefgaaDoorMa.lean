/- Plain facts of layer 4: bytes written, bytes read. -/
import Derived.Test.YtgmdfmckkfefgaaDoorRows
namespace Go.Proofs.YtgmdfmckkfefgaaDoor
/-- A place that there is. -/
def kn (p : Int) : Bool := p == 1 || p == 2
/-- A byte that stands for itself. -/
def pl (p : Int) (c : Nat) : Bool := decide (32 ≤ c) && decide (c ≤ 126) && !(c == 92) && !(p == 1 && c == 34) && !(p == 2 && (c == 93 || c == 45))
/-- The sign of a byte; the byte of a sign. -/
def sg (c : Nat) : Option Nat :=
  if c = 10 then some 110 else if c = 13 then some 114 else if c = 9 then some 116 else if c = 92 then some 92 else if c = 34 then some 34 else if c = 93 then some 93 else if c = 45 then some 45 else none
def sd (c : Nat) : Option Nat :=
  if c = 110 then some 10 else if c = 114 then some 13 else if c = 116 then some 9 else if c = 92 then some 92 else if c = 34 then some 34 else if c = 93 then some 93 else if c = 45 then some 45 else none
/-- A digit written, a digit read. -/
def hx (n : Nat) : Nat := if n < 10 then 48 + n else 87 + n
def dg (c : Nat) : Option Nat := if 48 ≤ c ∧ c ≤ 57 then some (c - 48) else if 97 ≤ c ∧ c ≤ 102 then some (c - 87) else if 65 ≤ c ∧ c ≤ 70 then some (c - 55) else none
/-- A byte, written. -/
def one (p : Int) (c : Nat) : List Nat := if kn p then (if pl p c then [c] else match sg c with | some s => [92, s] | none => [92, 120, hx (c / 16), hx (c % 16)]) else []
/-- Bytes, written. -/
def all (p : Int) (l : List Nat) : List Nat := l.flatMap (one p)
/-- Two digits, read. -/
def rx (l : List Nat) : Option (Nat × Nat) :=
  match l with
  | a :: b :: _ => match dg a, dg b with
    | some x, some y => some (16 * x + y, 4)
    | _, _ => none
  | _ => none
/-- A byte, read off the head of a text, and how many bytes it took. -/
def rd (p : Int) (l : List Nat) : Option (Nat × Nat) :=
  match l with
  | [] => none
  | c :: r => if !kn p then none else if pl p c then some (c, 1) else if c = 92 then (match r with
    | [] => none
    | k :: r2 => match sd k with
      | some b => some (b, 2)
      | none => if k = 120 then rx r2 else none) else none

theorem sd_sg {c s : Nat} (h : sg c = some s) : sd s = some c := by
  unfold sg at h
  repeat' split at h
  all_goals first
    | (simp only [Option.some.injEq] at h; subst h; subst_vars; rfl)
    | cases h
theorem sg_sd {k b : Nat} (h : sd k = some b) : sg b = some k ∧ b < 256 := by
  unfold sd at h
  repeat' split at h
  all_goals first
    | (simp only [Option.some.injEq] at h; subst h; subst_vars; exact ⟨rfl, by omega⟩)
    | cases h
theorem dg_lt {c x : Nat} (h : dg c = some x) : x < 16 := by
  unfold dg at h
  repeat' split at h
  all_goals first
    | (simp only [Option.some.injEq] at h; omega)
    | cases h
theorem dg_hx {n : Nat} (h : n < 16) : dg (hx n) = some n := by
  unfold dg hx
  split <;> repeat' split
  all_goals first
    | omega
    | (simp only [Option.some.injEq]; omega)
theorem pl_bs (p : Int) : pl p 92 = false := by simp [pl]

theorem one_cases {p : Int} (hp : kn p = true) (c : Nat) : (pl p c = true ∧ one p c = [c]) ∨ (pl p c = false ∧ ∃ s, sg c = some s ∧ one p c = [92, s]) ∨ (pl p c = false ∧ sg c = none ∧ one p c = [92, 120, hx (c / 16), hx (c % 16)]) := by
  unfold one
  rw [hp]
  cases h : pl p c with
  | true => exact .inl ⟨rfl, rfl⟩
  | false =>
    cases h2 : sg c with
    | some s => exact .inr (.inl ⟨rfl, s, rfl, rfl⟩)
    | none => exact .inr (.inr ⟨rfl, rfl, rfl⟩)
theorem rd_one {p : Int} (hp : kn p = true) {b : Nat} (hb : b < 256) (r : List Nat) : rd p (one p b ++ r) = some (b, (one p b).length) := by
  rcases one_cases hp b with ⟨h, e⟩ | ⟨h, s, h2, e⟩ | ⟨h, h2, e⟩
  · rw [e]; simp [rd, hp, h]
  · rw [e]; simp [rd, hp, pl_bs, sd_sg h2]
  · rw [e]
    have e1 : sd 120 = none := rfl
    have e2 : 16 * (b / 16) + b % 16 = b := by omega
    simp [rd, hp, pl_bs, e1, rx, dg_hx (show b / 16 < 16 by omega), dg_hx (show b % 16 < 16 by omega), e2]
/-- What is known of a byte that is read. -/
theorem rd_ok {p : Int} {l : List Nat} {b n : Nat} (hl : ∀ x ∈ l, x < 256) (h : rd p l = some (b, n)) :
    kn p = true ∧ 1 ≤ n ∧ n ≤ l.length ∧ b < 256 ∧ (one p b).length ≤ n ∧ ∀ r, rd p (l ++ r) = some (b, n) := by
  cases l with
  | nil => cases h
  | cons c r =>
    cases hk : kn p with
    | false => simp [rd, hk] at h
    | true =>
      cases hpl : pl p c with
      | true =>
        simp only [rd, hk, hpl, Bool.not_true, Bool.false_eq_true, if_false, if_true, Option.some.injEq, Prod.mk.injEq] at h
        obtain ⟨rfl, rfl⟩ := h
        refine ⟨rfl, Nat.le_refl _, by simp, hl _ (by simp), by simp [one, hk, hpl], fun r2 => by simp [rd, hk, hpl]⟩
      | false =>
        by_cases h92 : c = 92
        · subst h92
          cases r with
          | nil => simp [rd, hk, hpl] at h
          | cons k r2 =>
            cases hsd : sd k with
            | some y =>
              simp only [rd, hk, hpl, hsd, Bool.not_true, Bool.false_eq_true, if_false, if_true, Option.some.injEq, Prod.mk.injEq] at h
              obtain ⟨rfl, rfl⟩ := h
              obtain ⟨h3, h4⟩ := sg_sd hsd
              refine ⟨rfl, by omega, by simp, h4, ?_, fun r3 => by simp [rd, hk, hpl, hsd]⟩
              rcases one_cases hk y with ⟨_, e⟩ | ⟨_, s, _, e⟩ | ⟨_, h2, e⟩
              · rw [e]; simp
              · rw [e]; simp
              · rw [h3] at h2; cases h2
            | none =>
              by_cases h120 : k = 120
              · subst h120
                simp only [rd, hk, hpl, hsd, Bool.not_true, Bool.false_eq_true, if_false, if_true] at h
                match r2, h with
                | a :: d :: r3, h =>
                  cases ha : dg a with
                  | none => simp [rx, ha] at h
                  | some x =>
                    cases hd : dg d with
                    | none => simp [rx, ha, hd] at h
                    | some y =>
                      simp only [rx, ha, hd, Option.some.injEq, Prod.mk.injEq] at h
                      obtain ⟨rfl, rfl⟩ := h
                      have := dg_lt ha
                      have := dg_lt hd
                      refine ⟨rfl, by omega, by simp, by omega, ?_, fun r3 => by simp [rd, hk, hpl, hsd, rx, ha, hd]⟩
                      rcases one_cases hk (16 * x + y) with ⟨_, e⟩ | ⟨_, s, _, e⟩ | ⟨_, h2, e⟩ <;> rw [e] <;> simp
                | [a], h => simp [rx] at h
                | [], h => simp [rx] at h
              · simp [rd, hk, hpl, hsd, h120] at h
        · simp [rd, hk, hpl, h92] at h

/-- One byte more. -/
def cb (b n : Nat) (x : Option (List Nat) × Nat) : Option (List Nat) × Nat :=
  match x with
  | (some bs, _) => (some (b :: bs), 0)
  | (none, k) => (none, n + k)
/-- A text, read: its bytes; or none, and where. -/
def dec (p : Int) : Nat → List Nat → Option (List Nat) × Nat
  | 0, _ => (some [], 0)
  | f + 1, l => if l.isEmpty then (some [], 0) else match rd p l with
    | none => (none, 0)
    | some (b, n) => cb b n (dec p f (l.drop n))
theorem dec_fuel (p : Int) : ∀ (f g : Nat) (l : List Nat), (∀ x ∈ l, x < 256) → l.length ≤ f → l.length ≤ g → dec p f l = dec p g l := by
  intro f
  induction f with
  | zero =>
    intro g l hl h1 h2
    have : l = [] := List.length_eq_zero_iff.1 (by omega)
    subst this
    cases g <;> rfl
  | succ f ih =>
    intro g l hl h1 h2
    cases l with
    | nil => cases g <;> rfl
    | cons c r =>
      cases g with
      | zero => simp at h2
      | succ g =>
        simp only [dec, List.isEmpty_cons, Bool.false_eq_true, if_false]
        cases hr : rd p (c :: r) with
        | none => rfl
        | some bn =>
          obtain ⟨b, n⟩ := bn
          obtain ⟨_, h3, h4, _⟩ := rd_ok hl hr
          simp only
          rw [ih g ((c :: r).drop n) (fun x hx => hl x (List.mem_of_mem_drop hx)) (by rw [List.length_drop]; omega) (by rw [List.length_drop]; omega)]
def D (p : Int) (l : List Nat) : Option (List Nat) × Nat := dec p l.length l
theorem D_nil (p : Int) : D p [] = (some [], 0) := rfl
theorem D_none {p : Int} {l : List Nat} (h0 : l ≠ []) (h : rd p l = none) : D p l = (none, 0) := by
  unfold D
  cases l with
  | nil => exact absurd rfl h0
  | cons c r => simp [dec, h]
theorem D_some {p : Int} {l : List Nat} (hl : ∀ x ∈ l, x < 256) {b n : Nat} (h : rd p l = some (b, n)) : D p l = cb b n (D p (l.drop n)) := by
  obtain ⟨_, h3, h4, _⟩ := rd_ok hl h
  unfold D
  cases l with
  | nil => cases h
  | cons c r =>
    simp only [List.length_cons, dec, List.isEmpty_cons, Bool.false_eq_true, if_false, h]
    rw [dec_fuel p r.length _ ((c :: r).drop n) (fun x hx => hl x (List.mem_of_mem_drop hx)) (by rw [List.length_drop]; simp only [List.length_cons]; omega) (Nat.le_refl _)]
/-- What is read ahead, put before the rest. -/
def cc (acc : List Nat) (k : Nat) (x : Option (List Nat) × Nat) : Option (List Nat) × Nat :=
  match x with
  | (some bs, _) => (some (acc ++ bs), 0)
  | (none, j) => (none, k + j)
theorem cc_cb (acc : List Nat) (k b n : Nat) (x : Option (List Nat) × Nat) : cc acc k (cb b n x) = cc (acc ++ [b]) (k + n) x := by
  rcases x with ⟨_ | bs, j⟩ <;> simp [cc, cb, Nat.add_assoc]
theorem cc_zero (x : Option (List Nat) × Nat) (h : x.1 ≠ none → x.2 = 0) : cc [] 0 x = x := by
  rcases x with ⟨_ | bs, j⟩
  · simp [cc]
  · have := h (by simp)
    simp only at this
    subst this
    rfl
theorem cb_zero {b n k : Nat} {bs : List Nat} {x : Option (List Nat) × Nat} (h : cb b n x = (some bs, k)) : k = 0 ∧ ∃ c j, x = (some c, j) ∧ bs = b :: c := by
  rcases x with ⟨_ | c, j⟩
  · simp [cb] at h
  · simp only [cb, Prod.mk.injEq, Option.some.injEq] at h
    exact ⟨h.2.symm, c, j, rfl, h.1.symm⟩
theorem cb_none {b n k : Nat} {x : Option (List Nat) × Nat} (h : cb b n x = (none, k)) : ∃ j, x = (none, j) ∧ k = n + j := by
  rcases x with ⟨_ | c, j⟩
  · simp only [cb, Prod.mk.injEq, true_and] at h
    exact ⟨j, rfl, h.symm⟩
  · simp [cb] at h
theorem D_zero {p : Int} {l bs : List Nat} {k : Nat} (hl : ∀ x ∈ l, x < 256) (h : D p l = (some bs, k)) : k = 0 := by
  cases l with
  | nil => rw [D_nil] at h; simp at h; exact h.2.symm
  | cons c r =>
    cases hr : rd p (c :: r) with
    | none => rw [D_none (by simp) hr] at h; cases h
    | some bn =>
      obtain ⟨b, n⟩ := bn
      rw [D_some hl hr] at h
      exact (cb_zero h).1
theorem cc_assoc (b n k : Nat) (bs : List Nat) (x : Option (List Nat) × Nat) : cb b n (cc bs k x) = cc (b :: bs) (n + k) x := by
  rcases x with ⟨_ | c, j⟩ <;> simp [cc, cb, Nat.add_assoc]
/-- What is known of a text that is read. -/
theorem D_spec (p : Int) : ∀ (m : Nat) (l : List Nat), l.length ≤ m → (∀ x ∈ l, x < 256) →
    (∀ bs k, D p l = (some bs, k) → (∀ x ∈ bs, x < 256) ∧ bs.length ≤ l.length ∧ (all p bs).length ≤ l.length ∧ ∀ r, (∀ x ∈ r, x < 256) → D p (l ++ r) = cc bs l.length (D p r)) ∧
    (∀ k, D p l = (none, k) → k < l.length ∧ ∀ r, (∀ x ∈ r, x < 256) → (D p (l ++ r)).1 = none → k ≤ (D p (l ++ r)).2) := by
  intro m
  induction m with
  | zero =>
    intro l h1 hl
    have : l = [] := List.length_eq_zero_iff.1 (by omega)
    subst this
    refine ⟨fun bs k h => ?_, fun k h => by cases h⟩
    rw [D_nil] at h
    simp only [Prod.mk.injEq, Option.some.injEq] at h
    obtain ⟨rfl, rfl⟩ := h
    refine ⟨by simp, by simp, by simp [all], fun r hr => ?_⟩
    rw [List.nil_append, List.length_nil, cc_zero]
    intro hne
    rcases hx : D p r with ⟨_ | c, j⟩
    · rw [hx] at hne; exact absurd rfl hne
    · exact D_zero hr hx
  | succ m ih =>
    intro l h1 hl
    by_cases h0 : l = []
    · exact ih l (by subst h0; simp) hl
    · cases hr : rd p l with
      | none =>
        refine ⟨fun bs k h => (by rw [D_none h0 hr] at h; cases h), fun k h => ?_⟩
        rw [D_none h0 hr] at h
        simp only [Prod.mk.injEq, true_and] at h
        subst h
        exact ⟨List.length_pos_iff.2 h0, fun r _ _ => Nat.zero_le _⟩
      | some bn =>
        obtain ⟨b, n⟩ := bn
        obtain ⟨hk, h3, h4, h5, h6, h7⟩ := rd_ok hl hr
        have hl2 : ∀ x ∈ l.drop n, x < 256 := fun x hx => hl x (List.mem_of_mem_drop hx)
        have hlen : (l.drop n).length = l.length - n := List.length_drop
        obtain ⟨i1, i2⟩ := ih (l.drop n) (by omega) hl2
        have hD := D_some hl hr
        have hDr : ∀ r, (∀ x ∈ r, x < 256) → D p (l ++ r) = cb b n (D p (l.drop n ++ r)) := fun r hr2 => by
          rw [D_some (fun x hx => (List.mem_append.1 hx).elim (hl x) (hr2 x)) (h7 r), List.drop_append_of_le_length h4]
        refine ⟨fun bs k h => ?_, fun k h => ?_⟩
        · rw [hD] at h
          obtain ⟨_, c, j, e1, rfl⟩ := cb_zero h
          obtain ⟨j1, j2, j3, j4⟩ := i1 c j e1
          refine ⟨fun x hx => ?_, by simp only [List.length_cons]; omega, ?_, fun r hr2 => ?_⟩
          · rcases List.mem_cons.1 hx with rfl | hx
            · exact h5
            · exact j1 x hx
          · simp only [all, List.flatMap_cons, List.length_append]
            simp only [all] at j3
            omega
          · rw [hDr r hr2, j4 r hr2, cc_assoc, hlen, Nat.add_sub_cancel' h4]
        · rw [hD] at h
          obtain ⟨j, e1, rfl⟩ := cb_none h
          obtain ⟨j1, j2⟩ := i2 j e1
          refine ⟨by omega, fun r hr2 hne => ?_⟩
          rw [hDr r hr2] at hne ⊢
          rcases hx : D p (l.drop n ++ r) with ⟨_ | c, q⟩
          · have := j2 r hr2 (by rw [hx])
            rw [hx] at this
            simp only [cb]
            omega
          · rw [hx] at hne
            simp [cb] at hne
theorem sg_vis {c s : Nat} (h : sg c = some s) : 32 ≤ s ∧ s ≤ 126 := by
  unfold sg at h
  repeat' split at h
  all_goals first
    | (simp only [Option.some.injEq] at h; omega)
    | cases h
theorem hx_vis {n : Nat} (h : n < 16) : (48 ≤ hx n ∧ hx n ≤ 57) ∨ (97 ≤ hx n ∧ hx n ≤ 102) := by
  unfold hx
  split <;> omega
theorem pl_vis {p : Int} {c : Nat} (h : pl p c = true) : 32 ≤ c ∧ c ≤ 126 ∧ c ≠ 92 := by
  simp [pl] at h
  omega
/-- The byte that ends a place. -/
def en (p : Int) : Nat := if p == 1 then 34 else 93
theorem pl_en {p : Int} (hp : kn p = true) : pl p (en p) = false := by
  rcases (show p = 1 ∨ p = 2 by simpa [kn] using hp) with rfl | rfl <;> rfl
theorem en_not {p : Int} : en p = 34 ∨ en p = 93 := by
  unfold en
  split <;> simp
/-- Each byte may be seen, and the ending one stands behind a backslash. -/
def Ok (e : Nat) : Nat → List Nat → Prop
  | _, [] => True
  | q, c :: r => 32 ≤ c ∧ c ≤ 126 ∧ (c = e → q = 92) ∧ Ok e c r
theorem ok_one {p : Int} (hp : kn p = true) {b : Nat} (hb : b < 256) (r : List Nat) (h : ∀ q, Ok (en p) q r) (q : Nat) : Ok (en p) q (one p b ++ r) := by
  have he := @en_not p
  rcases one_cases hp b with ⟨h1, e⟩ | ⟨h1, s, h2, e⟩ | ⟨h1, h2, e⟩ <;> rw [e]
  · have := pl_vis h1
    refine ⟨this.1, this.2.1, fun e => ?_, h _⟩
    rw [e, pl_en hp] at h1
    cases h1
  · have := sg_vis h2
    exact ⟨by omega, by omega, fun e => by omega, by omega, by omega, fun _ => rfl, h _⟩
  · have := hx_vis (show b / 16 < 16 by omega)
    have := hx_vis (show b % 16 < 16 by omega)
    exact ⟨by omega, by omega, fun e => by omega, by omega, by omega, fun e => by omega, by omega, by omega, fun e => by omega, by omega, by omega, fun e => by omega, h _⟩
theorem ok_all {p : Int} (hp : kn p = true) : ∀ (l : List Nat), (∀ x ∈ l, x < 256) → ∀ q, Ok (en p) q (all p l)
  | [], _, _ => trivial
  | b :: l, hl, q => ok_one hp (hl b (by simp)) _ (fun q => ok_all hp l (fun x hx => hl x (by simp [hx])) q) q
theorem ok_at {e : Nat} : ∀ (t : List Nat) (q : Nat), Ok e q t → ∀ i, i < t.length → 32 ≤ t.getD i 0 ∧ t.getD i 0 ≤ 126 ∧ (t.getD i 0 = e → (i = 0 ∧ q = 92) ∨ (0 < i ∧ t.getD (i - 1) 0 = 92))
  | [], _, _, i, hi => by simp at hi
  | c :: r, q, h, 0, _ => ⟨h.1, h.2.1, fun e => .inl ⟨rfl, h.2.2.1 e⟩⟩
  | c :: r, q, h, i + 1, hi => by
    obtain ⟨a, b, d⟩ := ok_at r c h.2.2.2 i (by simpa using hi)
    refine ⟨a, b, fun e => .inr ⟨by omega, ?_⟩⟩
    rcases d e with ⟨rfl, rfl⟩ | ⟨h0, h1⟩
    · rfl
    · obtain ⟨j, rfl⟩ : ∃ j, i = j + 1 := ⟨i - 1, by omega⟩
      exact h1
theorem ok_lt {e : Nat} : ∀ (t : List Nat) (q : Nat), Ok e q t → ∀ x ∈ t, x < 256
  | [], _, _, x, hx => by simp at hx
  | c :: r, q, h, x, hx => by
    rcases List.mem_cons.1 hx with rfl | hx
    · have := h.2.1; omega
    · exact ok_lt r c h.2.2.2 x hx
theorem all_lt {p : Int} (l : List Nat) (hl : ∀ x ∈ l, x < 256) : ∀ x ∈ all p l, x < 256 := by
  cases hp : kn p with
  | true => exact ok_lt _ 0 (ok_all hp l hl 0)
  | false =>
    have : all p l = [] := by simp [all, one, hp]
    rw [this]
    simp
theorem one_lt {p : Int} {b : Nat} (hb : b < 256) : ∀ x ∈ one p b, x < 256 := by
  have := all_lt (p := p) [b] (by simpa using hb)
  simpa [all] using this
theorem one_len (p : Int) (b : Nat) : (one p b).length ≤ 4 ∧ (kn p = true → 1 ≤ (one p b).length) := by
  cases hp : kn p with
  | true => rcases one_cases hp b with ⟨_, e⟩ | ⟨_, s, _, e⟩ | ⟨_, _, e⟩ <;> rw [e] <;> simp
  | false => simp [one, hp]
theorem all_len (p : Int) : ∀ l : List Nat, (all p l).length ≤ 4 * l.length ∧ (kn p = true → l.length ≤ (all p l).length)
  | [] => by simp [all]
  | b :: l => by
    have h := all_len p l
    have h1 := one_len p b
    simp only [all, List.flatMap_cons, List.length_append, List.length_cons] at h ⊢
    exact ⟨by omega, fun hp => by have := h.2 hp; have := h1.2 hp; omega⟩
theorem D_all {p : Int} (hp : kn p = true) : ∀ (l : List Nat), (∀ x ∈ l, x < 256) → D p (all p l) = (some l, 0)
  | [], _ => rfl
  | b :: l, hl => by
    have hb := hl b (by simp)
    have hl2 : ∀ x ∈ l, x < 256 := fun x hx => hl x (by simp [hx])
    have h := rd_one hp hb (all p l)
    have e : all p (b :: l) = one p b ++ all p l := rfl
    have h2 : ∀ x ∈ one p b ++ all p l, x < 256 := fun x hx => (List.mem_append.1 hx).elim (one_lt hb x) (all_lt l hl2 x)
    rw [e, D_some h2 h, List.drop_left, D_all hp l hl2]
    rfl
end Go.Proofs.YtgmdfmckkfefgaaDoor

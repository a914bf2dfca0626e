/- Plain facts of layer 7: what is skipped, words. -/
import Derived.Test.YtgmdfmckkfefgaaDoorMa
namespace Go.Proofs.YtgmdfmckkfefgaaDoor
/-- Bytes of sorts. -/
def bln (c : Nat) : Bool := c == 32 || c == 9 || c == 10 || c == 13
def ltr (c : Nat) : Bool := (decide (97 ≤ c) && decide (c ≤ 122)) || (decide (65 ≤ c) && decide (c ≤ 90)) || c == 95
def dgt (c : Nat) : Bool := decide (48 ≤ c) && decide (c ≤ 57)
def inm (c : Nat) : Bool := ltr c || dgt c
def rmk (c : Nat) : Bool := !(c == 10)
/-- How many of a sort lead a text. -/
def lead (p : Nat → Bool) : List Nat → Nat
  | [] => 0
  | c :: r => if p c then lead p r + 1 else 0
theorem lead_le (p : Nat → Bool) : ∀ (l : List Nat), lead p l ≤ l.length
  | [] => Nat.le_refl _
  | c :: r => by
    have := lead_le p r
    unfold lead
    split <;> simp <;> omega
theorem lead_app {p : Nat → Bool} {x : List Nat} (hx : ∀ c r, x = c :: r → p c = false) : ∀ l, lead p (l ++ x) = lead p l
  | [] => by
    cases x with
    | nil => rfl
    | cons c r => simp [lead, hx c r rfl]
  | c :: r => by simp only [List.cons_append, lead, lead_app hx r]
/-- One step of a passing: the byte at a place is of the sort, or not. -/
theorem lead_at {p : Nat → Bool} {l : List Nat} {k : Nat} (h : k < l.length) : lead p (l.drop k) = if p (l.getD k 0) then lead p (l.drop (k + 1)) + 1 else 0 := by
  rw [List.drop_eq_getElem_cons h, lead]
  simp [List.getD, List.getElem?_eq_getElem h]
theorem lead_end {p : Nat → Bool} {l : List Nat} {k : Nat} (h : l.length ≤ k) : lead p (l.drop k) = 0 := by rw [List.drop_of_length_le h]; rfl
/-- Where the leading ones end, no further one stands. -/
theorem lead_stop (p : Nat → Bool) : ∀ (l : List Nat), ∀ c r, l.drop (lead p l) = c :: r → p c = false
  | [], c, r, h => by simp [lead] at h
  | d :: t, c, r, h => by
    unfold lead at h
    cases hp : p d with
    | true => rw [hp] at h; simp only [if_true] at h; rw [List.drop_succ_cons] at h; exact lead_stop p t c r h
    | false =>
      rw [hp] at h
      simp only [Bool.false_eq_true, if_false, List.drop_zero, List.cons.injEq] at h
      rw [← h.1]
      exact hp
theorem lead_all (p : Nat → Bool) : ∀ (l : List Nat), ∀ c ∈ l.take (lead p l), p c = true
  | [], c, h => by simp at h
  | d :: t, c, h => by
    unfold lead at h
    cases hp : p d with
    | true =>
      rw [hp] at h
      simp only [if_true, List.take_succ_cons, List.mem_cons] at h
      rcases h with rfl | h
      · exact hp
      · exact lead_all p t c h
    | false => rw [hp] at h; simp at h
/-- How much is blanks and remarks; within a remark, or not. -/
def sk : Bool → List Nat → Nat
  | _, [] => 0
  | true, c :: r => sk (!(c == 10)) r + 1
  | false, c :: r => if bln c then sk false r + 1 else if c = 35 then sk true r + 1 else 0
theorem sk_le : ∀ (l : List Nat) (f : Bool), sk f l ≤ l.length
  | [], f => by cases f <;> exact Nat.le_refl _
  | c :: r, true => by have := sk_le r (!(c == 10)); simp only [sk, List.length_cons]; omega
  | c :: r, false => by
    have := sk_le r false
    have := sk_le r true
    simp only [sk, List.length_cons]
    repeat' split
    all_goals omega
theorem sk_blank : ∀ l, sk false l = lead bln l + sk false (l.drop (lead bln l))
  | [] => rfl
  | c :: r => by
    unfold lead
    cases h : bln c with
    | true =>
      have := sk_blank r
      simp only [if_true, List.drop_succ_cons, sk, h]
      omega
    | false => simp
theorem sk_remark : ∀ l, sk true l = lead rmk l + sk false (l.drop (lead rmk l))
  | [] => rfl
  | c :: r => by
    unfold lead
    cases h : rmk c with
    | true =>
      have := sk_remark r
      have e : (c == 10) = false := by simpa [rmk] using h
      simp only [if_true, List.drop_succ_cons, sk, e, Bool.not_false]
      omega
    | false =>
      have e : c = 10 := by simpa [rmk] using h
      subst e
      simp [sk, bln]
theorem sk_hash (r : List Nat) : sk false (35 :: r) = 1 + (lead rmk r + sk false (r.drop (lead rmk r))) := by
  rw [← sk_remark]; simp [sk, bln]; omega
theorem sk_none {l : List Nat} (h : ∀ c r, l = c :: r → bln c = false ∧ c ≠ 35) : sk false l = 0 := by
  cases l with
  | nil => rfl
  | cons c r => simp [sk, h c r rfl]
/-- Behind what is skipped no blank and no remark begins. -/
theorem sk_stop : ∀ (l : List Nat) (f : Bool), ∀ c r, l.drop (sk f l) = c :: r → bln c = false ∧ c ≠ 35
  | [], f, c, r, h => by cases f <;> simp [sk] at h
  | d :: t, true, c, r, h => by
    simp only [sk] at h
    rw [List.drop_succ_cons] at h
    exact sk_stop t _ c r h
  | d :: t, false, c, r, h => by
    simp only [sk] at h
    cases hb : bln d with
    | true => rw [hb] at h; simp only [if_true] at h; rw [List.drop_succ_cons] at h; exact sk_stop t false c r h
    | false =>
      rw [hb] at h
      simp only [Bool.false_eq_true, if_false] at h
      by_cases h35 : d = 35
      · rw [if_pos h35, List.drop_succ_cons] at h
        exact sk_stop t true c r h
      · rw [if_neg h35] at h
        simp only [List.drop_zero, List.cons.injEq] at h
        rw [← h.1]
        exact ⟨hb, h35⟩
theorem sk_idem (l : List Nat) : sk false (l.drop (sk false l)) = 0 := sk_none (fun c r h => sk_stop l false c r h)
/-- Something behind a text. -/
theorem sk_app : ∀ (l x : List Nat) (f : Bool), (sk f l < l.length → sk f (l ++ x) = sk f l) ∧ (sk f l = l.length → ∃ g, sk f (l ++ x) = l.length + sk g x)
  | [], x, f => ⟨fun h => by cases f <;> simp [sk] at h, fun _ => ⟨f, by simp⟩⟩
  | d :: t, x, true => by
    obtain ⟨h1, h2⟩ := sk_app t x (!(d == 10))
    simp only [List.cons_append, sk, List.length_cons]
    exact ⟨fun h => by rw [h1 (by omega)], fun h => by obtain ⟨g, e⟩ := h2 (by omega); exact ⟨g, by omega⟩⟩
  | d :: t, x, false => by
    simp only [List.cons_append, sk, List.length_cons]
    cases hb : bln d with
    | true =>
      obtain ⟨h1, h2⟩ := sk_app t x false
      simp only [if_true]
      exact ⟨fun h => by rw [h1 (by omega)], fun h => by obtain ⟨g, e⟩ := h2 (by omega); exact ⟨g, by omega⟩⟩
    | false =>
      simp only [Bool.false_eq_true, if_false]
      by_cases h35 : d = 35
      · obtain ⟨h1, h2⟩ := sk_app t x true
        simp only [if_pos h35]
        exact ⟨fun h => by rw [h1 (by omega)], fun h => by obtain ⟨g, e⟩ := h2 (by omega); exact ⟨g, by omega⟩⟩
      · simp only [if_neg h35]
        exact ⟨fun _ => trivial, fun h => by omega⟩
/-- The number of digits. -/
def val (ds : List Nat) : Nat := ds.foldl (fun a c => 10 * a + (c - 48)) 0
def lvl (ds : List Nat) : Int := if 4 < ds.length then 9999 else val ds
/-- A word: its Kind, how many bytes it has, its text, level, and which bytes are of its class. -/
structure Wd where
  kind : Int
  len : Nat
  text : List Nat
  lev : Int
  cls : Nat → Bool
def no : Nat → Bool := fun _ => false
/-- A name of n bytes t, with what stands behind it. -/
def namR (n : Nat) (t d : List Nat) : Wd :=
  match d with
  | [] => ⟨2, n, t, -1, no⟩
  | c :: r => if c = 58 then (if lead dgt r = 0 then ⟨2, n, t, -1, no⟩ else ⟨2, n + 1 + lead dgt r, t, lvl (r.take (lead dgt r)), no⟩) else ⟨2, n, t, -1, no⟩
theorem namR_nil (n : Nat) (t : List Nat) : namR n t [] = ⟨2, n, t, -1, no⟩ := rfl
theorem namR_no (n : Nat) (t : List Nat) {c : Nat} (r : List Nat) (h : c ≠ 58) : namR n t (c :: r) = ⟨2, n, t, -1, no⟩ := by simp only [namR, if_neg h]
theorem namR_0 (n : Nat) (t : List Nat) {r : List Nat} (h : lead dgt r = 0) : namR n t (58 :: r) = ⟨2, n, t, -1, no⟩ := by simp only [namR, if_true, if_pos h]
theorem namR_1 (n : Nat) (t : List Nat) {r : List Nat} (h : lead dgt r ≠ 0) : namR n t (58 :: r) = ⟨2, n + 1 + lead dgt r, t, lvl (r.take (lead dgt r)), no⟩ := by simp only [namR, if_true, if_neg h]
def nam (l : List Nat) : Wd := namR (lead inm l) (l.take (lead inm l)) (l.drop (lead inm l))
/-- Bytes up to the quote. -/
def qt : Nat → List Nat → Option (List Nat × Nat)
  | 0, _ => none
  | f + 1, l => if l.head? = some 34 then some ([], 1) else match rd 1 l with
    | none => none
    | some (b, n) => (qt f (l.drop n)).map fun x => (b :: x.1, n + x.2)
def QT (l : List Nat) : Option (List Nat × Nat) := qt (l.length + 1) l
/-- An item of a class. -/
def item (l : List Nat) : Option ((Nat × Nat) × Nat) :=
  match rd 2 l with
  | none => none
  | some (b, n) => if (l.drop n).head? = some 45 then (rd 2 (l.drop (n + 1))).map fun x => ((b, x.1), n + 1 + x.2) else some ((b, b), n)
def st : Nat → List Nat → Option (List (Nat × Nat) × Nat)
  | 0, _ => none
  | f + 1, l => if l.head? = some 93 then some ([], 1) else match item l with
    | none => none
    | some (b, n) => (st f (l.drop n)).map fun x => (b :: x.1, n + x.2)
def ST (l : List Nat) : Option (List (Nat × Nat) × Nat) := st (l.length + 1) l
def cls (ps : List (Nat × Nat)) : Nat → Bool := fun i => ps.any fun p => decide (p.1 ≤ i) && decide (i ≤ p.2)
/-- A sign. -/
def sgn (l : List Nat) : Option (List Nat) :=
  match l with
  | [] => none
  | c :: r => if c = 60 then (if r.head? = some 45 then some [60, 45] else none) else if c ∈ [47, 40, 41, 46, 59, 42, 43, 63, 33, 38] then some [c] else none
/-- The word at a text's head. -/
def wd (l : List Nat) : Option Wd :=
  match l with
  | [] => some ⟨1, 0, [], 0, no⟩
  | c :: r => if ltr c then some (nam (c :: r)) else if c = 34 then (QT r).map fun x => ⟨3, 1 + x.2, x.1, 0, no⟩ else if c = 91 then (ST r).map fun x => ⟨4, 1 + x.2, [], 0, cls x.1⟩ else (sgn (c :: r)).map fun t => ⟨5, t.length, t, 0, no⟩
theorem item_ok {l : List Nat} {b : Nat × Nat} {n : Nat} (hl : ∀ x ∈ l, x < 256) (h : item l = some (b, n)) : 1 ≤ n ∧ n ≤ l.length ∧ b.1 < 256 ∧ b.2 < 256 ∧ ∀ r, (∀ x ∈ r, x < 256) → r.head? ≠ some 45 → item (l ++ r) = some (b, n) := by
  unfold item at h
  cases h1 : rd 2 l with
  | none => rw [h1] at h; cases h
  | some bn =>
    obtain ⟨b1, n1⟩ := bn
    obtain ⟨_, k1, k2, k3, _, k4⟩ := rd_ok hl h1
    rw [h1] at h
    simp only at h
    by_cases h45 : (l.drop n1).head? = some 45
    · rw [if_pos h45] at h
      cases h2 : rd 2 (l.drop (n1 + 1)) with
      | none => rw [h2] at h; cases h
      | some bm =>
        obtain ⟨b2, n2⟩ := bm
        have hl2 : ∀ x ∈ l.drop (n1 + 1), x < 256 := fun x hx => hl x (List.mem_of_mem_drop hx)
        obtain ⟨_, j1, j2, j3, _, j4⟩ := rd_ok hl2 h2
        rw [h2] at h
        simp only [Option.map_some, Option.some.injEq, Prod.mk.injEq] at h
        obtain ⟨rfl, rfl⟩ := h
        rw [List.length_drop] at j2
        have hlt : n1 < l.length := by
          apply Nat.lt_of_not_le
          intro hge
          rw [List.drop_of_length_le hge] at h45
          cases h45
        refine ⟨by omega, by omega, k3, j3, fun r _ _ => ?_⟩
        unfold item
        rw [k4 r]
        simp only
        rw [List.drop_append_of_le_length (by omega), List.drop_append_of_le_length (by omega), List.head?_append, h45]
        simp [j4 r]
    · rw [if_neg h45] at h
      simp only [Option.some.injEq, Prod.mk.injEq] at h
      obtain ⟨rfl, rfl⟩ := h
      refine ⟨k1, k2, k3, k3, fun r _ hr => ?_⟩
      unfold item
      rw [k4 r]
      simp only
      rw [List.drop_append_of_le_length (by omega), List.head?_append]
      cases hd : (l.drop n1).head? with
      | none => simp [hr]
      | some c => rw [hd] at h45; rw [show (some c).or r.head? = some c from rfl, if_neg h45]
theorem qt_ok : ∀ (f : Nat) (l : List Nat) (bs : List Nat) (k : Nat), (∀ x ∈ l, x < 256) → qt f l = some (bs, k) → 1 ≤ k ∧ k ≤ l.length ∧ (∀ x ∈ bs, x < 256) ∧ bs.length ≤ l.length ∧ ∀ (g : Nat) (r : List Nat), (∀ x ∈ r, x < 256) → f ≤ g → qt g (l ++ r) = some (bs, k)
  | 0, l, bs, k, _, h => by cases h
  | f + 1, l, bs, k, hl, h => by
    unfold qt at h
    by_cases h34 : l.head? = some 34
    · rw [if_pos h34] at h
      simp only [Option.some.injEq, Prod.mk.injEq] at h
      obtain ⟨rfl, rfl⟩ := h
      cases l with
      | nil => cases h34
      | cons c t =>
        refine ⟨Nat.le_refl _, by simp, by simp, by simp, fun g r _ hg => ?_⟩
        obtain ⟨g, rfl⟩ : ∃ q, g = q + 1 := ⟨g - 1, by omega⟩
        unfold qt
        rw [if_pos (by simpa using h34)]
    · rw [if_neg h34] at h
      cases h1 : rd 1 l with
      | none => rw [h1] at h; cases h
      | some bn =>
        obtain ⟨b, n⟩ := bn
        obtain ⟨_, k1, k2, k3, _, k4⟩ := rd_ok hl h1
        rw [h1] at h
        simp only at h
        have hl2 : ∀ x ∈ l.drop n, x < 256 := fun x hx => hl x (List.mem_of_mem_drop hx)
        cases h2 : qt f (l.drop n) with
        | none => rw [h2] at h; cases h
        | some y =>
          obtain ⟨bs2, m⟩ := y
          rw [h2] at h
          simp only [Option.map_some, Option.some.injEq, Prod.mk.injEq] at h
          obtain ⟨rfl, rfl⟩ := h
          obtain ⟨j1, j2, j3, j4, j5⟩ := qt_ok f _ bs2 m hl2 h2
          rw [List.length_drop] at j2 j4
          refine ⟨by omega, by omega, ?_, by simp only [List.length_cons]; omega, fun g r hr hg => ?_⟩
          · intro x hx
            rcases List.mem_cons.1 hx with rfl | hx
            · exact k3
            · exact j3 x hx
          · obtain ⟨g, rfl⟩ : ∃ q, g = q + 1 := ⟨g - 1, by omega⟩
            unfold qt
            have hne : (l ++ r).head? ≠ some 34 := by
              cases l with
              | nil => simp [rd] at h1
              | cons c t => simpa using h34
            rw [if_neg hne, k4 r]
            simp only
            rw [List.drop_append_of_le_length k2, j5 g r hr (by omega)]
            rfl
theorem st_ok : ∀ (f : Nat) (l : List Nat) (bs : List (Nat × Nat)) (k : Nat), (∀ x ∈ l, x < 256) → st f l = some (bs, k) → 1 ≤ k ∧ k ≤ l.length ∧ (∀ x ∈ bs, x.1 < 256 ∧ x.2 < 256) ∧ bs.length ≤ l.length ∧ ∀ (g : Nat) (r : List Nat), (∀ x ∈ r, x < 256) → r.head? ≠ some 45 → f ≤ g → st g (l ++ r) = some (bs, k)
  | 0, l, bs, k, _, h => by cases h
  | f + 1, l, bs, k, hl, h => by
    unfold st at h
    by_cases h34 : l.head? = some 93
    · rw [if_pos h34] at h
      simp only [Option.some.injEq, Prod.mk.injEq] at h
      obtain ⟨rfl, rfl⟩ := h
      cases l with
      | nil => cases h34
      | cons c t =>
        refine ⟨Nat.le_refl _, by simp, by simp, by simp, fun g r _ _ hg => ?_⟩
        obtain ⟨g, rfl⟩ : ∃ q, g = q + 1 := ⟨g - 1, by omega⟩
        unfold st
        rw [if_pos (by simpa using h34)]
    · rw [if_neg h34] at h
      cases h1 : item l with
      | none => rw [h1] at h; cases h
      | some bn =>
        obtain ⟨b, n⟩ := bn
        obtain ⟨k1, k2, k3, k3', k4⟩ := item_ok hl h1
        rw [h1] at h
        simp only at h
        have hl2 : ∀ x ∈ l.drop n, x < 256 := fun x hx => hl x (List.mem_of_mem_drop hx)
        cases h2 : st f (l.drop n) with
        | none => rw [h2] at h; cases h
        | some y =>
          obtain ⟨bs2, m⟩ := y
          rw [h2] at h
          simp only [Option.map_some, Option.some.injEq, Prod.mk.injEq] at h
          obtain ⟨rfl, rfl⟩ := h
          obtain ⟨j1, j2, j3, j4, j5⟩ := st_ok f _ bs2 m hl2 h2
          rw [List.length_drop] at j2 j4
          refine ⟨by omega, by omega, ?_, by simp only [List.length_cons]; omega, fun g r hr hr2 hg => ?_⟩
          · intro x hx
            rcases List.mem_cons.1 hx with rfl | hx
            · exact ⟨k3, k3'⟩
            · exact j3 x hx
          · obtain ⟨g, rfl⟩ : ∃ q, g = q + 1 := ⟨g - 1, by omega⟩
            unfold st
            have hne : (l ++ r).head? ≠ some 93 := by
              cases l with
              | nil => simp [item, rd] at h1
              | cons c t => simpa using h34
            rw [if_neg hne, k4 r hr hr2]
            simp only
            rw [List.drop_append_of_le_length k2, j5 g r hr hr2 (by omega)]
            rfl
theorem QT_ok {l bs : List Nat} {k : Nat} (hl : ∀ x ∈ l, x < 256) (h : QT l = some (bs, k)) : 1 ≤ k ∧ k ≤ l.length ∧ (∀ x ∈ bs, x < 256) ∧ bs.length ≤ l.length ∧ ∀ r : List Nat, (∀ x ∈ r, x < 256) → QT (l ++ r) = some (bs, k) := by
  obtain ⟨h1, h2, h3, h4, h5⟩ := qt_ok _ l bs k hl h
  exact ⟨h1, h2, h3, h4, fun r hr => h5 _ r hr (by simp)⟩
theorem ST_ok {l : List Nat} {bs : List (Nat × Nat)} {k : Nat} (hl : ∀ x ∈ l, x < 256) (h : ST l = some (bs, k)) : 1 ≤ k ∧ k ≤ l.length ∧ (∀ x ∈ bs, x.1 < 256 ∧ x.2 < 256) ∧ bs.length ≤ l.length ∧ ∀ r : List Nat, (∀ x ∈ r, x < 256) → r.head? ≠ some 45 → ST (l ++ r) = some (bs, k) := by
  obtain ⟨h1, h2, h3, h4, h5⟩ := st_ok _ l bs k hl h
  exact ⟨h1, h2, h3, h4, fun r hr hr2 => h5 _ r hr hr2 (by simp)⟩
/-- Once more, one byte on: what is left is read with the fuel of what is left. -/
theorem qt_fuel : ∀ (f g : Nat) (l : List Nat), (∀ x ∈ l, x < 256) → l.length < f → l.length < g → qt f l = qt g l
  | 0, _, _, _, h, _ => by omega
  | _, 0, _, _, _, h => by omega
  | f + 1, g + 1, l, hl, hf, hg => by
    unfold qt
    cases h1 : rd 1 l with
    | none => rfl
    | some bn =>
      obtain ⟨b, n⟩ := bn
      obtain ⟨_, k1, k2, _⟩ := rd_ok hl h1
      simp only
      rw [qt_fuel f g (l.drop n) (fun x hx => hl x (List.mem_of_mem_drop hx)) (by rw [List.length_drop]; omega) (by rw [List.length_drop]; omega)]
theorem st_fuel : ∀ (f g : Nat) (l : List Nat), (∀ x ∈ l, x < 256) → l.length < f → l.length < g → st f l = st g l
  | 0, _, _, _, h, _ => by omega
  | _, 0, _, _, _, h => by omega
  | f + 1, g + 1, l, hl, hf, hg => by
    unfold st
    cases h1 : item l with
    | none => rfl
    | some bn =>
      obtain ⟨b, n⟩ := bn
      obtain ⟨k1, k2, _⟩ := item_ok hl h1
      simp only
      rw [st_fuel f g (l.drop n) (fun x hx => hl x (List.mem_of_mem_drop hx)) (by rw [List.length_drop]; omega) (by rw [List.length_drop]; omega)]
theorem QT_end {l : List Nat} (h : l.head? = some 34) : QT l = some ([], 1) := by unfold QT qt; rw [if_pos h]
theorem QT_no {l : List Nat} (h : l.head? ≠ some 34) (h1 : rd 1 l = none) : QT l = none := by unfold QT qt; rw [if_neg h, h1]
theorem QT_more {l : List Nat} {b n : Nat} (hl : ∀ x ∈ l, x < 256) (h : l.head? ≠ some 34) (h1 : rd 1 l = some (b, n)) : QT l = (QT (l.drop n)).map fun x => (b :: x.1, n + x.2) := by
  obtain ⟨_, k1, k2, _⟩ := rd_ok hl h1
  unfold QT
  rw [qt, if_neg h, h1]
  simp only
  rw [qt_fuel l.length ((l.drop n).length + 1) _ (fun x hx => hl x (List.mem_of_mem_drop hx)) (by rw [List.length_drop]; omega) (by omega)]
theorem ST_end {l : List Nat} (h : l.head? = some 93) : ST l = some ([], 1) := by unfold ST st; rw [if_pos h]
theorem ST_no {l : List Nat} (h : l.head? ≠ some 93) (h1 : item l = none) : ST l = none := by unfold ST st; rw [if_neg h, h1]
theorem ST_more {l : List Nat} {b : Nat × Nat} {n : Nat} (hl : ∀ x ∈ l, x < 256) (h : l.head? ≠ some 93) (h1 : item l = some (b, n)) : ST l = (ST (l.drop n)).map fun x => (b :: x.1, n + x.2) := by
  obtain ⟨k1, k2, _⟩ := item_ok hl h1
  unfold ST
  rw [st, if_neg h, h1]
  simp only
  rw [st_fuel l.length ((l.drop n).length + 1) _ (fun x hx => hl x (List.mem_of_mem_drop hx)) (by rw [List.length_drop]; omega) (by omega)]
end Go.Proofs.YtgmdfmckkfefgaaDoor

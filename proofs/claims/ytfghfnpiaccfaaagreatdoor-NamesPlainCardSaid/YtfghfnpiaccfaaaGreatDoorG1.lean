/- Plain facts of layer 4: bytes written, bytes read. -/
import Derived.Test.YtfghfnpiaccfaaaGreatDoorRows
import Derived.WalkKit
import Derived.WalkSpells
import Derived.Lib.Hide
import Derived.Deep.QuietTactic
import Derived.BigQuiet
import Derived.Deep.Draws
import Derived.Outline
import Derived.IntWalk
import Derived.Laws.OwnMore
import Derived.Laws.Rows
import Derived.Laws.IdiomStrings
import Derived.Laws.BitsLemmas
import Derived.Laws.BitsAllLaws
import Derived.Maps.OwnSet
import Derived.Maps.RangeWalk
import Derived.Laws.BytesArg
import Derived.Deep.RegionWith
import Derived.Laws.AppendOwnNone
import Derived.Laws.MakeOwn
set_option linter.unusedSimpArgs false
set_option linter.unusedVariables false
namespace Go.Proofs.YtfghfnpiaccfaaaGreatDoor
/-- A place that there is. -/
def kn (p : Int) : Bool := p == 1 || p == 2
/-- A byte that stands for itself. -/
def pl (p : Int) (c : Nat) : Bool := decide (32 ≤ c) && decide (c ≤ 126) && !(c == 92) && !(p == 1 && c == 34) && !(p == 2 && (c == 93 || c == 45))
/-- The sign of a byte; the byte of a sign. -/
def sg (c : Nat) : Option Nat :=
  if c = 10 then some 110 else if c = 13 then some 114 else if c = 9 then some 116 else if c = 92 then some 92 else if c = 34 then some 34 else if c = 93 then some 93 else if c = 45 then some 45 else none
def sd (c : Nat) : Option Nat :=
  if c = 110 then some 10 else if c = 114 then some 13 else if c = 116 then some 9 else if c = 92 then some 92 else if c = 34 then some 34 else if c = 93 then some 93 else if c = 45 then some 45 else none
/-- A digit written, a digit read. -/
def hx (n : Nat) : Nat := if n < 10 then 48 + n else 87 + n
def dg (c : Nat) : Option Nat := if 48 ≤ c ∧ c ≤ 57 then some (c - 48) else if 97 ≤ c ∧ c ≤ 102 then some (c - 87) else if 65 ≤ c ∧ c ≤ 70 then some (c - 55) else none
/-- A byte, written. -/
def one (p : Int) (c : Nat) : List Nat := if kn p then (if pl p c then [c] else match sg c with | some s => [92, s] | none => [92, 120, hx (c / 16), hx (c % 16)]) else []
/-- Bytes, written. -/
def all (p : Int) (l : List Nat) : List Nat := l.flatMap (one p)
/-- Two digits, read. -/
def rx (l : List Nat) : Option (Nat × Nat) :=
  match l with
  | a :: b :: _ => match dg a, dg b with
    | some x, some y => some (16 * x + y, 4)
    | _, _ => none
  | _ => none
/-- A byte, read off the head of a text, and how many bytes it took. -/
def rd (p : Int) (l : List Nat) : Option (Nat × Nat) :=
  match l with
  | [] => none
  | c :: r => if !kn p then none else if pl p c then some (c, 1) else if c = 92 then (match r with
    | [] => none
    | k :: r2 => match sd k with
      | some b => some (b, 2)
      | none => if k = 120 then rx r2 else none) else none

theorem sd_sg {c s : Nat} (h : sg c = some s) : sd s = some c := by
  unfold sg at h
  repeat' split at h
  all_goals first
    | (simp only [Option.some.injEq] at h; subst h; subst_vars; rfl)
    | cases h
theorem sg_sd {k b : Nat} (h : sd k = some b) : sg b = some k ∧ b < 256 := by
  unfold sd at h
  repeat' split at h
  all_goals first
    | (simp only [Option.some.injEq] at h; subst h; subst_vars; exact ⟨rfl, by omega⟩)
    | cases h
theorem dg_lt {c x : Nat} (h : dg c = some x) : x < 16 := by
  unfold dg at h
  repeat' split at h
  all_goals first
    | (simp only [Option.some.injEq] at h; omega)
    | cases h
theorem dg_hx {n : Nat} (h : n < 16) : dg (hx n) = some n := by
  unfold dg hx
  split <;> repeat' split
  all_goals first
    | omega
    | (simp only [Option.some.injEq]; omega)
theorem pl_bs (p : Int) : pl p 92 = false := by simp [pl]

theorem one_cases {p : Int} (hp : kn p = true) (c : Nat) : (pl p c = true ∧ one p c = [c]) ∨ (pl p c = false ∧ ∃ s, sg c = some s ∧ one p c = [92, s]) ∨ (pl p c = false ∧ sg c = none ∧ one p c = [92, 120, hx (c / 16), hx (c % 16)]) := by
  unfold one
  rw [hp]
  cases h : pl p c with
  | true => exact .inl ⟨rfl, rfl⟩
  | false =>
    cases h2 : sg c with
    | some s => exact .inr (.inl ⟨rfl, s, rfl, rfl⟩)
    | none => exact .inr (.inr ⟨rfl, rfl, rfl⟩)
theorem rd_one {p : Int} (hp : kn p = true) {b : Nat} (hb : b < 256) (r : List Nat) : rd p (one p b ++ r) = some (b, (one p b).length) := by
  rcases one_cases hp b with ⟨h, e⟩ | ⟨h, s, h2, e⟩ | ⟨h, h2, e⟩
  · rw [e]; simp [rd, hp, h]
  · rw [e]; simp [rd, hp, pl_bs, sd_sg h2]
  · rw [e]
    have e1 : sd 120 = none := rfl
    have e2 : 16 * (b / 16) + b % 16 = b := by omega
    simp [rd, hp, pl_bs, e1, rx, dg_hx (show b / 16 < 16 by omega), dg_hx (show b % 16 < 16 by omega), e2]
/-- What is known of a byte that is read. -/
theorem rd_ok {p : Int} {l : List Nat} {b n : Nat} (hl : ∀ x ∈ l, x < 256) (h : rd p l = some (b, n)) :
    kn p = true ∧ 1 ≤ n ∧ n ≤ l.length ∧ b < 256 ∧ (one p b).length ≤ n ∧ ∀ r, rd p (l ++ r) = some (b, n) := by
  cases l with
  | nil => cases h
  | cons c r =>
    cases hk : kn p with
    | false => simp [rd, hk] at h
    | true =>
      cases hpl : pl p c with
      | true =>
        simp only [rd, hk, hpl, Bool.not_true, Bool.false_eq_true, if_false, if_true, Option.some.injEq, Prod.mk.injEq] at h
        obtain ⟨rfl, rfl⟩ := h
        refine ⟨rfl, Nat.le_refl _, by simp, hl _ (by simp), by simp [one, hk, hpl], fun r2 => by simp [rd, hk, hpl]⟩
      | false =>
        by_cases h92 : c = 92
        · subst h92
          cases r with
          | nil => simp [rd, hk, hpl] at h
          | cons k r2 =>
            cases hsd : sd k with
            | some y =>
              simp only [rd, hk, hpl, hsd, Bool.not_true, Bool.false_eq_true, if_false, if_true, Option.some.injEq, Prod.mk.injEq] at h
              obtain ⟨rfl, rfl⟩ := h
              obtain ⟨h3, h4⟩ := sg_sd hsd
              refine ⟨rfl, by omega, by simp, h4, ?_, fun r3 => by simp [rd, hk, hpl, hsd]⟩
              rcases one_cases hk y with ⟨_, e⟩ | ⟨_, s, _, e⟩ | ⟨_, h2, e⟩
              · rw [e]; simp
              · rw [e]; simp
              · rw [h3] at h2; cases h2
            | none =>
              by_cases h120 : k = 120
              · subst h120
                simp only [rd, hk, hpl, hsd, Bool.not_true, Bool.false_eq_true, if_false, if_true] at h
                match r2, h with
                | a :: d :: r3, h =>
                  cases ha : dg a with
                  | none => simp [rx, ha] at h
                  | some x =>
                    cases hd : dg d with
                    | none => simp [rx, ha, hd] at h
                    | some y =>
                      simp only [rx, ha, hd, Option.some.injEq, Prod.mk.injEq] at h
                      obtain ⟨rfl, rfl⟩ := h
                      have := dg_lt ha
                      have := dg_lt hd
                      refine ⟨rfl, by omega, by simp, by omega, ?_, fun r3 => by simp [rd, hk, hpl, hsd, rx, ha, hd]⟩
                      rcases one_cases hk (16 * x + y) with ⟨_, e⟩ | ⟨_, s, _, e⟩ | ⟨_, h2, e⟩ <;> rw [e] <;> simp
                | [a], h => simp [rx] at h
                | [], h => simp [rx] at h
              · simp [rd, hk, hpl, hsd, h120] at h
        · simp [rd, hk, hpl, h92] at h

/-- One byte more. -/
def cb (b n : Nat) (x : Option (List Nat) × Nat) : Option (List Nat) × Nat :=
  match x with
  | (some bs, _) => (some (b :: bs), 0)
  | (none, k) => (none, n + k)
/-- A text, read: its bytes; or none, and where. -/
def dec (p : Int) : Nat → List Nat → Option (List Nat) × Nat
  | 0, _ => (some [], 0)
  | f + 1, l => if l.isEmpty then (some [], 0) else match rd p l with
    | none => (none, 0)
    | some (b, n) => cb b n (dec p f (l.drop n))
theorem dec_fuel (p : Int) : ∀ (f g : Nat) (l : List Nat), (∀ x ∈ l, x < 256) → l.length ≤ f → l.length ≤ g → dec p f l = dec p g l := by
  intro f
  induction f with
  | zero =>
    intro g l hl h1 h2
    have : l = [] := List.length_eq_zero_iff.1 (by omega)
    subst this
    cases g <;> rfl
  | succ f ih =>
    intro g l hl h1 h2
    cases l with
    | nil => cases g <;> rfl
    | cons c r =>
      cases g with
      | zero => simp at h2
      | succ g =>
        simp only [dec, List.isEmpty_cons, Bool.false_eq_true, if_false]
        cases hr : rd p (c :: r) with
        | none => rfl
        | some bn =>
          obtain ⟨b, n⟩ := bn
          obtain ⟨_, h3, h4, _⟩ := rd_ok hl hr
          simp only
          rw [ih g ((c :: r).drop n) (fun x hx => hl x (List.mem_of_mem_drop hx)) (by rw [List.length_drop]; omega) (by rw [List.length_drop]; omega)]
def D (p : Int) (l : List Nat) : Option (List Nat) × Nat := dec p l.length l
theorem D_nil (p : Int) : D p [] = (some [], 0) := rfl
theorem D_none {p : Int} {l : List Nat} (h0 : l ≠ []) (h : rd p l = none) : D p l = (none, 0) := by
  unfold D
  cases l with
  | nil => exact absurd rfl h0
  | cons c r => simp [dec, h]
theorem D_some {p : Int} {l : List Nat} (hl : ∀ x ∈ l, x < 256) {b n : Nat} (h : rd p l = some (b, n)) : D p l = cb b n (D p (l.drop n)) := by
  obtain ⟨_, h3, h4, _⟩ := rd_ok hl h
  unfold D
  cases l with
  | nil => cases h
  | cons c r =>
    simp only [List.length_cons, dec, List.isEmpty_cons, Bool.false_eq_true, if_false, h]
    rw [dec_fuel p r.length _ ((c :: r).drop n) (fun x hx => hl x (List.mem_of_mem_drop hx)) (by rw [List.length_drop]; simp only [List.length_cons]; omega) (Nat.le_refl _)]
/-- What is read ahead, put before the rest. -/
def cc (acc : List Nat) (k : Nat) (x : Option (List Nat) × Nat) : Option (List Nat) × Nat :=
  match x with
  | (some bs, _) => (some (acc ++ bs), 0)
  | (none, j) => (none, k + j)
theorem cc_cb (acc : List Nat) (k b n : Nat) (x : Option (List Nat) × Nat) : cc acc k (cb b n x) = cc (acc ++ [b]) (k + n) x := by
  rcases x with ⟨_ | bs, j⟩ <;> simp [cc, cb, Nat.add_assoc]
theorem cc_zero (x : Option (List Nat) × Nat) (h : x.1 ≠ none → x.2 = 0) : cc [] 0 x = x := by
  rcases x with ⟨_ | bs, j⟩
  · simp [cc]
  · have := h (by simp)
    simp only at this
    subst this
    rfl
theorem cb_zero {b n k : Nat} {bs : List Nat} {x : Option (List Nat) × Nat} (h : cb b n x = (some bs, k)) : k = 0 ∧ ∃ c j, x = (some c, j) ∧ bs = b :: c := by
  rcases x with ⟨_ | c, j⟩
  · simp [cb] at h
  · simp only [cb, Prod.mk.injEq, Option.some.injEq] at h
    exact ⟨h.2.symm, c, j, rfl, h.1.symm⟩
theorem cb_none {b n k : Nat} {x : Option (List Nat) × Nat} (h : cb b n x = (none, k)) : ∃ j, x = (none, j) ∧ k = n + j := by
  rcases x with ⟨_ | c, j⟩
  · simp only [cb, Prod.mk.injEq, true_and] at h
    exact ⟨j, rfl, h.symm⟩
  · simp [cb] at h
theorem D_zero {p : Int} {l bs : List Nat} {k : Nat} (hl : ∀ x ∈ l, x < 256) (h : D p l = (some bs, k)) : k = 0 := by
  cases l with
  | nil => rw [D_nil] at h; simp at h; exact h.2.symm
  | cons c r =>
    cases hr : rd p (c :: r) with
    | none => rw [D_none (by simp) hr] at h; cases h
    | some bn =>
      obtain ⟨b, n⟩ := bn
      rw [D_some hl hr] at h
      exact (cb_zero h).1
theorem cc_assoc (b n k : Nat) (bs : List Nat) (x : Option (List Nat) × Nat) : cb b n (cc bs k x) = cc (b :: bs) (n + k) x := by
  rcases x with ⟨_ | c, j⟩ <;> simp [cc, cb, Nat.add_assoc]
theorem sg_vis {c s : Nat} (h : sg c = some s) : 32 ≤ s ∧ s ≤ 126 := by
  unfold sg at h
  repeat' split at h
  all_goals first
    | (simp only [Option.some.injEq] at h; omega)
    | cases h
theorem hx_vis {n : Nat} (h : n < 16) : (48 ≤ hx n ∧ hx n ≤ 57) ∨ (97 ≤ hx n ∧ hx n ≤ 102) := by
  unfold hx
  split <;> omega
theorem pl_vis {p : Int} {c : Nat} (h : pl p c = true) : 32 ≤ c ∧ c ≤ 126 ∧ c ≠ 92 := by
  simp [pl] at h
  omega
/-- The byte that ends a place. -/
def en (p : Int) : Nat := if p == 1 then 34 else 93
theorem pl_en {p : Int} (hp : kn p = true) : pl p (en p) = false := by
  rcases (show p = 1 ∨ p = 2 by simpa [kn] using hp) with rfl | rfl <;> rfl
theorem en_not {p : Int} : en p = 34 ∨ en p = 93 := by
  unfold en
  split <;> simp
/-- Each byte may be seen, and the ending one stands behind a backslash. -/
def Ok (e : Nat) : Nat → List Nat → Prop
  | _, [] => True
  | q, c :: r => 32 ≤ c ∧ c ≤ 126 ∧ (c = e → q = 92) ∧ Ok e c r
theorem ok_one {p : Int} (hp : kn p = true) {b : Nat} (hb : b < 256) (r : List Nat) (h : ∀ q, Ok (en p) q r) (q : Nat) : Ok (en p) q (one p b ++ r) := by
  have he := @en_not p
  rcases one_cases hp b with ⟨h1, e⟩ | ⟨h1, s, h2, e⟩ | ⟨h1, h2, e⟩ <;> rw [e]
  · have := pl_vis h1
    refine ⟨this.1, this.2.1, fun e => ?_, h _⟩
    rw [e, pl_en hp] at h1
    cases h1
  · have := sg_vis h2
    exact ⟨by omega, by omega, fun e => by omega, by omega, by omega, fun _ => rfl, h _⟩
  · have := hx_vis (show b / 16 < 16 by omega)
    have := hx_vis (show b % 16 < 16 by omega)
    exact ⟨by omega, by omega, fun e => by omega, by omega, by omega, fun e => by omega, by omega, by omega, fun e => by omega, by omega, by omega, fun e => by omega, h _⟩
theorem ok_all {p : Int} (hp : kn p = true) : ∀ (l : List Nat), (∀ x ∈ l, x < 256) → ∀ q, Ok (en p) q (all p l)
  | [], _, _ => trivial
  | b :: l, hl, q => ok_one hp (hl b (by simp)) _ (fun q => ok_all hp l (fun x hx => hl x (by simp [hx])) q) q
theorem ok_at {e : Nat} : ∀ (t : List Nat) (q : Nat), Ok e q t → ∀ i, i < t.length → 32 ≤ t.getD i 0 ∧ t.getD i 0 ≤ 126 ∧ (t.getD i 0 = e → (i = 0 ∧ q = 92) ∨ (0 < i ∧ t.getD (i - 1) 0 = 92))
  | [], _, _, i, hi => by simp at hi
  | c :: r, q, h, 0, _ => ⟨h.1, h.2.1, fun e => .inl ⟨rfl, h.2.2.1 e⟩⟩
  | c :: r, q, h, i + 1, hi => by
    obtain ⟨a, b, d⟩ := ok_at r c h.2.2.2 i (by simpa using hi)
    refine ⟨a, b, fun e => .inr ⟨by omega, ?_⟩⟩
    rcases d e with ⟨rfl, rfl⟩ | ⟨h0, h1⟩
    · rfl
    · obtain ⟨j, rfl⟩ : ∃ j, i = j + 1 := ⟨i - 1, by omega⟩
      exact h1
theorem ok_lt {e : Nat} : ∀ (t : List Nat) (q : Nat), Ok e q t → ∀ x ∈ t, x < 256
  | [], _, _, x, hx => by simp at hx
  | c :: r, q, h, x, hx => by
    rcases List.mem_cons.1 hx with rfl | hx
    · have := h.2.1; omega
    · exact ok_lt r c h.2.2.2 x hx
theorem all_lt {p : Int} (l : List Nat) (hl : ∀ x ∈ l, x < 256) : ∀ x ∈ all p l, x < 256 := by
  cases hp : kn p with
  | true => exact ok_lt _ 0 (ok_all hp l hl 0)
  | false =>
    have : all p l = [] := by simp [all, one, hp]
    rw [this]
    simp
theorem one_lt {p : Int} {b : Nat} (hb : b < 256) : ∀ x ∈ one p b, x < 256 := by
  have := all_lt (p := p) [b] (by simpa using hb)
  simpa [all] using this
theorem one_len (p : Int) (b : Nat) : (one p b).length ≤ 4 ∧ (kn p = true → 1 ≤ (one p b).length) := by
  cases hp : kn p with
  | true => rcases one_cases hp b with ⟨_, e⟩ | ⟨_, s, _, e⟩ | ⟨_, _, e⟩ <;> rw [e] <;> simp
  | false => simp [one, hp]
theorem all_len (p : Int) : ∀ l : List Nat, (all p l).length ≤ 4 * l.length ∧ (kn p = true → l.length ≤ (all p l).length)
  | [] => by simp [all]
  | b :: l => by
    have h := all_len p l
    have h1 := one_len p b
    simp only [all, List.flatMap_cons, List.length_append, List.length_cons] at h ⊢
    exact ⟨by omega, fun hp => by have := h.2 hp; have := h1.2 hp; omega⟩
theorem D_all {p : Int} (hp : kn p = true) : ∀ (l : List Nat), (∀ x ∈ l, x < 256) → D p (all p l) = (some l, 0)
  | [], _ => rfl
  | b :: l, hl => by
    have hb := hl b (by simp)
    have hl2 : ∀ x ∈ l, x < 256 := fun x hx => hl x (by simp [hx])
    have h := rd_one hp hb (all p l)
    have e : all p (b :: l) = one p b ++ all p l := rfl
    have h2 : ∀ x ∈ one p b ++ all p l, x < 256 := fun x hx => (List.mem_append.1 hx).elim (one_lt hb x) (all_lt l hl2 x)
    rw [e, D_some h2 h, List.drop_left, D_all hp l hl2]
    rfl
end Go.Proofs.YtfghfnpiaccfaaaGreatDoor
namespace Go.Proofs.YtfghfnpiaccfaaaGreatDoor
open Go Go.RowKit

theorem bt {B : Nat} {a b c : World} (h : Below B a b) (h' : Below b.heap.size b c) (hB : B ≤ b.heap.size) : Below B a c := h.trans (h'.mono hB)
theorem bb {a b c : World} (h : Below a.heap.size a b) (h' : Below b.heap.size b c) : Below a.heap.size a c := h.trans (h'.mono h.size)
theorem bdrew {B n : Nat} {a w : World} (h : Below B a w) : Below B a (w.drewN n) := ⟨h.os, h.tape, h.output, h.size, h.block⟩
theorem bdrew1 {B : Nat} {a w : World} (h : Below B a w) : Below B a w.drew := ⟨h.os, h.tape, h.output, h.size, h.block⟩
theorem bcell {W w1 : World} (hb : Below W.heap.size W w1) : (∀ b o, b < W.heap.size → w1.cell? ⟨b, o, none⟩ = W.cell? ⟨b, o, none⟩) ∧ (∀ b o, b < W.heap.size → w1.frozen? ⟨b, o, none⟩ = W.frozen? ⟨b, o, none⟩) :=
  ⟨fun b o h => hb.cell (p := ⟨b, o, none⟩) h, fun b o h => hb.frozen (p := ⟨b, o, none⟩) h⟩
/-- Block b is whole, and reads vs. -/
def Blk (w : World) (b : Nat) (vs : Array Value) (T : TypeId) : Prop := w.heap[b]? = some (.cells vs T (0, 0))
theorem Blk.lt {w : World} {b : Nat} {vs : Array Value} {T : TypeId} (h : Blk w b vs T) : b < w.heap.size := (Array.getElem?_eq_some_iff.1 h).1
theorem Blk.cell {w : World} {b : Nat} {vs : Array Value} {T : TypeId} (h : Blk w b vs T) (j : Nat) : w.cell? ⟨b, j, none⟩ = vs[j]? := by simp [World.cell?, show w.heap[b]? = _ from h]
theorem Blk.frozen {w : World} {b : Nat} {vs : Array Value} {T : TypeId} (h : Blk w b vs T) (j : Nat) : w.frozen? ⟨b, j, none⟩ = false := by simp [World.frozen?, show w.heap[b]? = _ from h]
theorem Blk.below {w w' : World} {b B : Nat} {vs : Array Value} {T : TypeId} (h : Blk w b vs T) (hb : Below B w w') (hl : b < B) : Blk w' b vs T := (hb.block b hl).trans h
theorem Blk.below' {w w' : World} {b : Nat} {vs : Array Value} {T : TypeId} (h : Blk w b vs T) (hb : Below w.heap.size w w') : Blk w' b vs T := h.below hb h.lt
theorem Blk.alloc {w : World} {b : Nat} {vs : Array Value} {T : TypeId} (h : Blk w b vs T) (o : Obj) : Blk (w.alloc o) b vs T := (Below.heap_alloc w o b h.lt).trans h
theorem Blk.new (w : World) (vs : Array Value) (T : TypeId) : Blk (w.alloc (.cells vs T)) w.heap.size vs T := heap_alloc_new w _
theorem Blk.drewN {w : World} {b n : Nat} {vs : Array Value} {T : TypeId} (h : Blk w b vs T) : Blk (w.drewN n) b vs T := h
theorem ret_int {k : IntKind} {a b : Int} (h : a = b) : Ending.returned (.int k a) = .returned (.int k b) := by rw [h]
theorem ret_bool {a b : Bool} (h : a = b) : Ending.returned (.bool a) = .returned (.bool b) := by rw [h]
abbrev B1 (w : World) (o : Obj) : Below w.heap.size w (w.alloc o) := (Below.refl _ _).alloc (Nat.le_refl _) o
theorem B2 (w : World) (o p : Obj) : Below w.heap.size w ((w.alloc o).alloc p) := (B1 w o).alloc (by simp) p

theorem known_any (p : Int) (w : World) : Calls Tryz.prog 254 #[.int .i64 p] w fun e w' => e = .returned (.bool (kn p)) ∧ w = w' := by
  have h : kn p = (p == 1 || p == 2) := rfl
  rw [h]
  clear h
  by_cases h1 : p = 1
  · subst h1
    go_enter Tryz.func254, Tryz.ntmps254
    go_wp2
    go_ret
    exact ⟨rfl, rfl⟩
  · have h2 : (p == 1) = false := by simpa using h1
    go_enter Tryz.func254, Tryz.ntmps254
    go_wp2
    go_ret
    exact ⟨ret_bool (by rw [h2]; rfl), rfl⟩
theorem pl_ifs (p : Int) (c : Nat) : pl p c = if c = 92 then false else if c = 34 then p != 1 else if c = 93 then p != 2 else if c = 45 then p != 2 else decide (32 ≤ c) && decide (c ≤ 126) := by
  have e1 : (p != 1) = !(p == 1) := rfl
  have e2 : (p != 2) = !(p == 2) := rfl
  unfold pl
  rw [e1, e2]
  generalize (p == 1) = a
  generalize (p == 2) = b
  by_cases h1 : c = 92
  · subst h1; simp
  · by_cases h2 : c = 34
    · subst h2; cases a <;> cases b <;> rfl
    · by_cases h3 : c = 93
      · subst h3; cases a <;> cases b <;> rfl
      · by_cases h4 : c = 45
        · subst h4; cases a <;> cases b <;> rfl
        · rw [if_neg h1, if_neg h2, if_neg h3, if_neg h4, show (c == 92) = false by simpa using h1, show (c == 34) = false by simpa using h2, show (c == 93) = false by simpa using h3, show (c == 45) = false by simpa using h4]
          cases a <;> cases b <;> simp
set_option maxHeartbeats 1000000 in
theorem plain_any (p : Int) (c : Nat) (w : World) : Calls Tryz.prog 255 #[.int .i64 p, .int .u8 c] w fun e w' => e = .returned (.bool (pl p c)) ∧ w = w' := by
  rw [pl_ifs]
  by_cases h1 : c = 92
  · subst h1
    rw [if_pos rfl]
    go_enter Tryz.func255, Tryz.ntmps255
    go_wp2
    go_ret
    exact ⟨rfl, rfl⟩
  · rw [if_neg h1]
    by_cases h2 : c = 34
    · subst h2
      rw [if_pos rfl]
      clear h1
      go_enter Tryz.func255, Tryz.ntmps255
      go_wp2
      go_ret
      exact ⟨rfl, rfl⟩
    · rw [if_neg h2]
      by_cases h3 : c = 93
      · subst h3
        rw [if_pos rfl]
        clear h1 h2
        go_enter Tryz.func255, Tryz.ntmps255
        go_wp2
        go_ret
        exact ⟨rfl, rfl⟩
      · rw [if_neg h3]
        by_cases h4 : c = 45
        · subst h4
          rw [if_pos rfl]
          clear h1 h2 h3
          go_enter Tryz.func255, Tryz.ntmps255
          go_wp2
          go_ret
          exact ⟨rfl, rfl⟩
        · rw [if_neg h4]
          have g1 : ((c : Int) == 92) = false := by simp; omega
          have g2 : ((c : Int) == 34) = false := by simp; omega
          have g3 : ((c : Int) == 93) = false := by simp; omega
          have g4 : ((c : Int) == 45) = false := by simp; omega
          clear h1 h2 h3 h4
          by_cases h5 : 32 ≤ c
          · have g5 : (32 : Int) ≤ c := by omega
            have e6 : decide (c ≤ 126) = decide ((c : Int) ≤ 126) := by by_cases h : c ≤ 126 <;> simp [h] <;> omega
            rw [e6, show decide (32 ≤ c) = true by simpa using h5, Bool.true_and]
            clear e6 h5
            go_enter Tryz.func255, Tryz.ntmps255
            go_wp2
            go_ret
            exact ⟨rfl, rfl⟩
          · have g5 : (c : Int) < 32 := by omega
            rw [show decide (32 ≤ c) = false by simpa using h5, Bool.false_and]
            clear h5
            go_enter Tryz.func255, Tryz.ntmps255
            go_wp2
            go_ret
            exact ⟨rfl, rfl⟩
theorem sp_ifs (p : Int) (c : Nat) : (!pl p c) = (decide (c < 32) || decide (126 < c) || (c == 92) || (p == 1 && c == 34) || (p == 2 && (c == 93 || c == 45))) := by
  have e3 : decide (c < 32) = !decide (32 ≤ c) := by by_cases h : c < 32 <;> simp [h] <;> omega
  have e4 : decide (126 < c) = !decide (c ≤ 126) := by by_cases h : c ≤ 126 <;> simp [h] <;> omega
  unfold pl
  rw [e3, e4]
  generalize decide (32 ≤ c) = a1
  generalize decide (c ≤ 126) = a2
  generalize (c == 92) = a3
  generalize (p == 1 && c == 34) = a4
  generalize (p == 2 && (c == 93 || c == 45)) = a5
  cases a1 <;> cases a2 <;> cases a3 <;> cases a4 <;> cases a5 <;> rfl
theorem beq_cast (c k : Nat) : (c == k) = ((c : Int) == (k : Int)) := by
  rw [Bool.eq_iff_iff]
  simp
  omega
theorem sp_int (p : Int) (c : Nat) : (!pl p c) = (decide ((c : Int) < 32) || decide (126 < (c : Int)) || ((c : Int) == 92) || (p == 1 && (c : Int) == 34) || (p == 2 && ((c : Int) == 93 || (c : Int) == 45))) := by
  have e1 : decide (c < 32) = decide ((c : Int) < 32) := by rw [Bool.eq_iff_iff]; simp; omega
  have e2 : decide (126 < c) = decide (126 < (c : Int)) := by rw [Bool.eq_iff_iff]; simp; omega
  rw [sp_ifs, beq_cast c 92, beq_cast c 34, beq_cast c 93, beq_cast c 45, e1, e2]
  rfl
theorem dg_none {c : Nat} (h : dg c = none) : ¬ (48 ≤ c ∧ c ≤ 57) ∧ ¬ (97 ≤ c ∧ c ≤ 102) ∧ ¬ (65 ≤ c ∧ c ≤ 70) := by
  unfold dg at h
  split at h
  · cases h
  · split at h
    · cases h
    · split at h
      · cases h
      · exact ⟨by assumption, by assumption, by assumption⟩
theorem dg_cases {c x : Nat} (h : dg c = some x) : (48 ≤ c ∧ c ≤ 57 ∧ x = c - 48) ∨ (97 ≤ c ∧ c ≤ 102 ∧ x = c - 87) ∨ (65 ≤ c ∧ c ≤ 70 ∧ x = c - 55) := by
  unfold dg at h
  repeat' split at h
  all_goals first
    | (simp only [Option.some.injEq] at h; omega)
    | cases h
/-- The document's digit. -/
def dv (c : Nat) : Int := match dg c with
  | some x => x
  | none => -1
theorem u8_in {x : Int} (h : 0 ≤ x ∧ x < 256) : IntKind.u8.wrap x = x := by unfold IntKind.wrap; simp [IntKind.signed, IntKind.bits]; omega
/-- A letter, made small. -/
def lw (c : Nat) : Nat := c ||| 32
theorem lower_any (c : Nat) (hc : c < 256) (w : World) : Calls Tryz.prog 306 #[.int .u8 c] w fun e w' => e = .returned (.int .u8 (lw c : Nat)) ∧ w = w' := by
  go_enter Tryz.func306, Tryz.ntmps306
  go_wp2
  go_ret
  exact ⟨ret_int (u8_or_nat c 32 hc (by omega)), rfl⟩
theorem u8_cast {c : Nat} (h : c < 256) : IntKind.u8.wrap (c : Int) = c := by unfold IntKind.wrap; simp [IntKind.signed, IntKind.bits]; omega
end Go.Proofs.YtfghfnpiaccfaaaGreatDoor
namespace Go.Proofs.YtfghfnpiaccfaaaGreatDoor
open Go Go.RowKit
/-- The bytes of a string. -/
def Str (s : ByteArray) (l : List Nat) : Prop := s.data.toList.map UInt8.toNat = l
theorem Str.lt {s : ByteArray} {l : List Nat} (h : Str s l) : ∀ x ∈ l, x < 256 := by
  intro x hx
  rw [← h] at hx
  obtain ⟨y, _, rfl⟩ := List.mem_map.1 hx
  exact y.toNat_lt
theorem Str.size {s : ByteArray} {l : List Nat} (h : Str s l) : s.size = l.length := by
  rw [← h, List.length_map, Array.length_toList]
  rfl
theorem Str.at_ {s : ByteArray} {l : List Nat} (h : Str s l) (i : Nat) (hi : i < s.size) : (s[i]'hi).toNat = l.getD i 0 := by
  subst h
  have h2 : i < s.data.toList.length := hi
  rw [List.getD_eq_getElem?_getD, List.getElem?_map, List.getElem?_eq_getElem h2]
  rfl
theorem Str.ext {s t : ByteArray} {l : List Nat} (h : Str s l) (h' : Str t l) : s = t := by
  apply ByteArray.ext
  apply Array.ext'
  have : s.data.toList.map UInt8.toNat = t.data.toList.map UInt8.toNat := h.trans h'.symm
  exact (List.map_inj_right (fun a b h => UInt8.toNat_inj.1 h)).1 this
theorem Str.extract {s : ByteArray} {l : List Nat} (h : Str s l) (a b : Nat) : Str (s.extract a b) ((l.drop a).take (b - a)) := by
  subst h
  unfold Str
  simp [ByteArray.data_extract, List.map_take, List.map_drop]
theorem Str.append {s t : ByteArray} {l m : List Nat} (h : Str s l) (h' : Str t m) : Str (s ++ t) (l ++ m) := by
  subst h h'
  unfold Str
  simp
theorem Str.list {s : ByteArray} {l : List Nat} (h : Str s l) : s.toList = l.map UInt8.ofNat := by
  rw [← h, ByteArray.toList_eq, List.map_map]
  conv => lhs; rw [← List.map_id s.data.toList]
  apply List.map_congr_left
  intro x _
  simp
def bsv (l : List Nat) : ByteArray := ⟨(l.map UInt8.ofNat).toArray⟩
theorem str_bsv {l : List Nat} (h : ∀ x ∈ l, x < 256) : Str (bsv l) l := by
  unfold Str bsv
  simp only [List.toList_toArray, List.map_map]
  conv => rhs; rw [← List.map_id l]
  apply List.map_congr_left
  intro x hx
  simp only [Function.comp, UInt8.toNat_ofNat', id]
  exact Nat.mod_eq_of_lt (h x hx)
theorem Str.eq {s : ByteArray} {l : List Nat} (h : Str s l) : s = bsv l := h.ext (str_bsv h.lt)
theorem str_eq {s t : ByteArray} {l m : List Nat} (h : Str s l) (h' : Str t m) : (s.toList == t.toList) = decide (l = m) := by
  rw [Bool.eq_iff_iff, beq_iff_eq, decide_eq_true_eq]
  constructor
  · intro e
    rw [← h, ← h']
    have : s.data.toList = t.data.toList := by rw [← ByteArray.toList_eq, ← ByteArray.toList_eq]; exact e
    rw [this]
  · rintro rfl
    rw [h.ext h']

/-- A cursor in memory. -/
def Cur (w : World) (b : Nat) (s : ByteArray) (a p : Int) : Prop := Blk w b #[.string s, .int .i64 a, .int .i64 p] 338
set_option maxHeartbeats 400000 in
theorem readerAt_any (p a : Int) (s : ByteArray) (w : World) :
    Calls Tryz.prog 277 #[.int .i64 p, .string s, .int .i64 a] w fun e w' => e = .returned (.pointer (some ⟨w.heap.size, 0, none⟩)) ∧ Below w.heap.size w w' ∧ Cur w' w.heap.size s a p := by
  go_enter Tryz.func277, Tryz.ntmps277
  go_wp2
  go_ret
  exact ⟨rfl, B1 _ _, Blk.new _ _ _⟩
theorem cur3 {w : World} {b : Nat} {s : ByteArray} {a p : Int} (h : Cur w b s a p) : w.cell? ⟨b, 0, none⟩ = some (.string s) ∧ w.cell? ⟨b, 1, none⟩ = some (.int .i64 a) ∧ w.cell? ⟨b, 2, none⟩ = some (.int .i64 p) :=
  ⟨by rw [Blk.cell h]; rfl, by rw [Blk.cell h]; rfl, by rw [Blk.cell h]; rfl⟩
set_option maxHeartbeats 400000 in
theorem pass_any (b n : Nat) (s : ByteArray) (a p : Int) (h0 : 0 ≤ a + n) (h1 : a + n < 9223372036854775808) (w : World) (h : Cur w b s a p) :
    Calls Tryz.prog 299 #[.pointer (some ⟨b, 0, none⟩), .int .i64 n] w fun e w' => e = .returned (.tuple #[]) ∧ Below b w w' ∧ Cur w' b s (a + n) p := by
  obtain ⟨c0, c1, c2⟩ := cur3 h
  have f1 : w.frozen? ⟨b, 1, none⟩ = false := Blk.frozen h 1
  have hw : IntKind.i64.wrap (a + n) = a + n := IntWalk.i64_in _ (by omega)
  have H := Lib.hid h
  clear h
  go_enter Tryz.func299, Tryz.ntmps299
  go_wp2_with fail
  go_end0
  exact ⟨rfl, (Below.refl _ _).setCell (p := ⟨b, 1, none⟩) (Nat.le_refl _) _, heap_setCell_same w b 1 _ 338 _ H.out⟩
set_option maxHeartbeats 400000 in
theorem ahead_none (b n : Nat) (s : ByteArray) (a p : Int) (hs : (s.size : Int) < 4611686018427387904) (ha : -9223372036854775808 ≤ a ∧ a < 9223372036854775808) (hn : n < 10) (hc : a < 0 ∨ s.size < a + n) (w : World) (h : Cur w b s a p) :
    Calls Tryz.prog 303 #[.pointer (some ⟨b, 0, none⟩), .int .i64 n] w fun e w' => e = .returned (.tuple #[.string ⟨#[]⟩, .bool false]) ∧ ∃ n, w' = w.drewN n := by
  obtain ⟨c0, c1, c2⟩ := cur3 h
  clear h
  by_cases h0 : a < 0
  · go_enter Tryz.func303, Tryz.ntmps303
    go_wp2_with fail
    go_quiet (fail)
    go_wp2_with fail
    go_ret2
    exact ⟨rfl, _, rfl⟩
  · have h1 : (0 : Int) ≤ a := by omega
    have hw : IntKind.i64.wrap ((s.size : Int) - a) = s.size - a := IntWalk.i64_in _ (by omega)
    have h2 : (s.size : Int) - a < n := by omega
    clear hc h0
    go_enter Tryz.func303, Tryz.ntmps303
    go_wp2_with fail
    go_quiet (fail)
    go_wp2_with fail
    go_ret2
    exact ⟨rfl, _, rfl⟩
set_option maxHeartbeats 400000 in
theorem ahead_ints (b : Nat) (x y z d : Int) (s : ByteArray) (p : Int) (h1 : 0 ≤ x) (hw : IntKind.i64.wrap ((s.size : Int) - x) = d) (h2 : y ≤ d) (hw2 : IntKind.i64.wrap (x + y) = z) (h3 : x ≤ z) (h4 : z ≤ s.size) (w : World) (h : Cur w b s x p) :
    Calls Tryz.prog 303 #[.pointer (some ⟨b, 0, none⟩), .int .i64 y] w fun e w' => e = .returned (.tuple #[.string (s.extract x.toNat z.toNat), .bool true]) ∧ ∃ n, w' = w.drewN n := by
  obtain ⟨c0, c1, c2⟩ := cur3 h
  clear h
  go_enter Tryz.func303, Tryz.ntmps303
  go_wp2_with fail
  go_quiet (fail)
  go_wp2_with fail
  go_quiet (fail)
  go_wp2_with fail
  go_ret2
  exact ⟨rfl, _, World.drewN_drewN _ _ _⟩
theorem ahead_some (b n k : Nat) (s : ByteArray) (p : Int) (hs : (s.size : Int) < 4611686018427387904) (hc : k + n ≤ s.size) (w : World) (h : Cur w b s k p) :
    Calls Tryz.prog 303 #[.pointer (some ⟨b, 0, none⟩), .int .i64 n] w fun e w' => e = .returned (.tuple #[.string (s.extract k (k + n)), .bool true]) ∧ ∃ n, w' = w.drewN n := by
  have := ahead_ints b k n (k + n : Nat) (s.size - k : Nat) s p (by omega) ((IntWalk.i64_in _ (by omega)).trans (by omega)) (by omega) ((IntWalk.i64_in _ (by omega)).trans (by omega)) (by omega) (by omega) w h
  rwa [Int.toNat_natCast, Int.toNat_natCast] at this
end Go.Proofs.YtfghfnpiaccfaaaGreatDoor
namespace Go.Proofs.YtfghfnpiaccfaaaGreatDoor
open Go Go.RowKit Go.Maps

section
variable {H : Type} {P : Program} (w : World) {ops : Array Oper} {rest : List Oper} {o : Oper} {a : Act} {Q : Exit → Act → World → Prop}
/-- An entry of a literal map. -/
theorem wpList_insert_own (hg : o.guard = none) (m x v : Operand) (t : TypeId) (hop : o.op = Op.insert t m x v)
    (k e : TypeId) (K : Keyed P k) (ht : P.underlying t = some (.map k e)) (R : Value → Option (DataW H × List MemPlace)) (b n : Nat) (D : DataW H)
    (hm : a.eval m = .map (some b)) (hown : w.ownsMap P k R b n D) (hn : n < maxLen) (key val : Value) (kl : Lit) (hx : a.eval x = key) (hv : a.eval v = val) (hkey : keyOf P k key = some kl)
    (d : DataW H) (ps : List MemPlace) (hval : R val = some (d, ps))
    (hK : ∀ w', w'.ownsMap P k R b (n + 1) (D.put kl d) → w.grownBy w' (some b) → wpList P ops Q rest (a.put o.dst undef) w') :
    wpList P ops Q (o :: rest) a w := by
  refine wpList_plain hg fun K' hK' => ?_
  obtain ⟨w', hrun, r1, r2⟩ := hown.update K ht hn hkey hval
  unfold Oper.wp
  simp [execOp, hop, hm, hx, hv, hrun, Result.andThen]
  exact hK' _ _ (hK w' r1 r2)
end

abbrev lk (c : Int) : Lit := .int .u8 c
abbrev ld (c : Int) : DataW Unit := .lit (.int .u8 c)
theorem lk_wf {c : Int} (h : 0 ≤ c ∧ c < 256) : (lk c).wf = true := by
  have e1 : IntKind.u8.min = 0 := by decide
  have e2 : IntKind.u8.max = 255 := by decide
  have e3 : IntKind.u8.min ≤ c ∧ c ≤ IntKind.u8.max := by rw [e1, e2]; omega
  simpa [lk, Lit.wf] using e3
theorem Tryz.law5 : Keyed Tryz.prog 5 := int_keyed Tryz.underlying5
theorem has_put (D : DataW Unit) (hD : IsMap D) (k c d : Int) : Maps.has (D.put (lk k) (ld d)) (lk c) = if c = k then true else Maps.has D (lk c) := by
  by_cases h : c = k
  · subst h
    rw [if_pos rfl]
    exact has_put_same hD (k := lk c) trivial _
  · rw [if_neg h]
    exact has_put_other (fun e => h (by cases e; rfl)) _
theorem at_put (D : DataW Unit) (hD : IsMap D) (k c d : Int) (z : DataW Unit) : (D.put (lk k) (ld d)).atKey (lk c) z = if c = k then ld d else D.atKey (lk c) z := by
  by_cases h : c = k
  · subst h
    rw [if_pos rfl]
    exact atKey_put_same hD (k := lk c) trivial _ _
  · rw [if_neg h]
    exact atKey_put_other (fun e => h (by cases e; rfl)) _ _
def d0 : DataW Unit := .map []
def d1 : DataW Unit := d0.put (lk 10) (ld 110)
def d2 : DataW Unit := d1.put (lk 13) (ld 114)
def d3 : DataW Unit := d2.put (lk 9) (ld 116)
def d4 : DataW Unit := d3.put (lk 92) (ld 92)
def d5 : DataW Unit := d4.put (lk 34) (ld 34)
def d6 : DataW Unit := d5.put (lk 93) (ld 93)
def d7 : DataW Unit := d6.put (lk 45) (ld 45)
theorem im0 : IsMap d0 := ⟨[], rfl⟩
theorem im1 : IsMap d1 := im0.put _ _
theorem im2 : IsMap d2 := im1.put _ _
theorem im3 : IsMap d3 := im2.put _ _
theorem im4 : IsMap d4 := im3.put _ _
theorem im5 : IsMap d5 := im4.put _ _
theorem im6 : IsMap d6 := im5.put _ _
theorem im7 : IsMap d7 := im6.put _ _
theorem ki (c k : Nat) : ((c : Int) = (k : Int)) ↔ c = k := by omega
theorem h1 (c : Int) : Maps.has d1 (lk c) = if c = 10 then true else Maps.has d0 (lk c) := by unfold d1; exact has_put d0 im0 10 c 110
theorem a1 (c : Int) (z : DataW Unit) : d1.atKey (lk c) z = if c = 10 then ld 110 else d0.atKey (lk c) z := by unfold d1; exact at_put d0 im0 10 c 110 z
theorem h2 (c : Int) : Maps.has d2 (lk c) = if c = 13 then true else Maps.has d1 (lk c) := by unfold d2; exact has_put d1 im1 13 c 114
theorem a2 (c : Int) (z : DataW Unit) : d2.atKey (lk c) z = if c = 13 then ld 114 else d1.atKey (lk c) z := by unfold d2; exact at_put d1 im1 13 c 114 z
theorem h3 (c : Int) : Maps.has d3 (lk c) = if c = 9 then true else Maps.has d2 (lk c) := by unfold d3; exact has_put d2 im2 9 c 116
theorem a3 (c : Int) (z : DataW Unit) : d3.atKey (lk c) z = if c = 9 then ld 116 else d2.atKey (lk c) z := by unfold d3; exact at_put d2 im2 9 c 116 z
theorem h4 (c : Int) : Maps.has d4 (lk c) = if c = 92 then true else Maps.has d3 (lk c) := by unfold d4; exact has_put d3 im3 92 c 92
theorem a4 (c : Int) (z : DataW Unit) : d4.atKey (lk c) z = if c = 92 then ld 92 else d3.atKey (lk c) z := by unfold d4; exact at_put d3 im3 92 c 92 z
theorem h5 (c : Int) : Maps.has d5 (lk c) = if c = 34 then true else Maps.has d4 (lk c) := by unfold d5; exact has_put d4 im4 34 c 34
theorem a5 (c : Int) (z : DataW Unit) : d5.atKey (lk c) z = if c = 34 then ld 34 else d4.atKey (lk c) z := by unfold d5; exact at_put d4 im4 34 c 34 z
theorem h6 (c : Int) : Maps.has d6 (lk c) = if c = 93 then true else Maps.has d5 (lk c) := by unfold d6; exact has_put d5 im5 93 c 93
theorem a6 (c : Int) (z : DataW Unit) : d6.atKey (lk c) z = if c = 93 then ld 93 else d5.atKey (lk c) z := by unfold d6; exact at_put d5 im5 93 c 93 z
theorem h7 (c : Int) : Maps.has d7 (lk c) = if c = 45 then true else Maps.has d6 (lk c) := by unfold d7; exact has_put d6 im6 45 c 45
theorem a7 (c : Int) (z : DataW Unit) : d7.atKey (lk c) z = if c = 45 then ld 45 else d6.atKey (lk c) z := by unfold d7; exact at_put d6 im6 45 c 45 z
attribute [irreducible] d1 d2 d3 d4 d5 d6 d7
theorem d7_has (c : Nat) : Maps.has d7 (lk c) = (sg c).isSome := by
  have e0 : Maps.has d0 (lk c) = false := rfl
  rw [h7, h6, h5, h4, h3, h2, h1, e0]
  have k1 := ki c 10
  have k2 := ki c 13
  have k3 := ki c 9
  have k4 := ki c 92
  have k5 := ki c 34
  have k6 := ki c 93
  have k7 := ki c 45
  unfold sg
  repeat' split
  all_goals first
    | rfl
    | omega
theorem d7_at (c s : Nat) (h : sg c = some s) (z : DataW Unit) : d7.atKey (lk c) z = ld s := by
  rw [a7, a6, a5, a4, a3, a2, a1]
  have k1 := ki c 10
  have k2 := ki c 13
  have k3 := ki c 9
  have k4 := ki c 92
  have k5 := ki c 34
  have k6 := ki c 93
  have k7 := ki c 45
  unfold sg at h
  repeat' split at h
  all_goals first
    | (cases h; done)
    | (simp only [Option.some.injEq] at h
       subst h
       repeat' split
       all_goals first
         | rfl
         | omega)
theorem ins {w : World} {b n : Nat} {D : DataW Unit} (hown : w.ownsMap Tryz.prog 5 (plainElem Tryz.prog 5) b n D) (x v : Int) (hx : 0 ≤ x ∧ x < 256) (hv : 0 ≤ v ∧ v < 256) (hn : n < 100) :
    ∃ w', (Instr.mapUpdate 311 (.map (some b)) (.int .u8 x) (.int .u8 v)).run Tryz.prog w = .ok () w' ∧ w'.ownsMap Tryz.prog 5 (plainElem Tryz.prog 5) b (n + 1) (D.put (lk x) (ld v)) ∧ w.grownBy w' (some b) :=
  hown.update Tryz.law5 Tryz.underlying311 (by unfold maxLen; omega) (keyOf_int_mk Tryz.underlying5 (lk_wf hx)) (plainElem_int Tryz.underlying5 (lk_wf hv))
theorem below_map {a w w' : World} {b : Nat} (h : Below a.heap.size a w) (hg : w.grownBy w' (some b)) (hb : a.heap.size ≤ b) : Below a.heap.size a w' := h.grown hg h.size (fun j hj => by cases hj; exact hb)
set_option maxRecDepth 100000 in
set_option maxHeartbeats 1000000 in
theorem signs_any (w : World) :
    Calls Tryz.prog 256 #[] w fun e w' => e = .returned (.map (some w.heap.size)) ∧ w'.ownsMap Tryz.prog 5 (plainElem Tryz.prog 5) w.heap.size 7 d7 ∧ Below w.heap.size w w' := by
  have hmm := @run_makeMap Tryz.prog
  have m0 : (w.alloc (.map #[] 0)).ownsMap Tryz.prog 5 (plainElem Tryz.prog 5) w.heap.size 0 d0 := World.ownsMap_made w Tryz.prog 5 _
  have g0 : Below w.heap.size w (w.alloc (.map #[] 0)) := B1 _ _
  obtain ⟨w1, r1, m1, g1⟩ := ins m0 10 110 (by omega) (by omega) (by omega)
  have b1 := below_map g0 g1 (Nat.le_refl _)
  obtain ⟨w2, r2, m2, g2⟩ := ins m1 13 114 (by omega) (by omega) (by omega)
  have b2 := below_map b1 g2 (Nat.le_refl _)
  obtain ⟨w3, r3, m3, g3⟩ := ins m2 9 116 (by omega) (by omega) (by omega)
  have b3 := below_map b2 g3 (Nat.le_refl _)
  obtain ⟨w4, r4, m4, g4⟩ := ins m3 92 92 (by omega) (by omega) (by omega)
  have b4 := below_map b3 g4 (Nat.le_refl _)
  obtain ⟨w5, r5, m5, g5⟩ := ins m4 34 34 (by omega) (by omega) (by omega)
  have b5 := below_map b4 g5 (Nat.le_refl _)
  obtain ⟨w6, r6, m6, g6⟩ := ins m5 93 93 (by omega) (by omega) (by omega)
  have b6 := below_map b5 g6 (Nat.le_refl _)
  obtain ⟨w7, r7, m7, g7⟩ := ins m6 45 45 (by omega) (by omega) (by omega)
  have b7 := below_map b6 g7 (Nat.le_refl _)
  have M : RowKit.Hid (w7.ownsMap Tryz.prog 5 (plainElem Tryz.prog 5) w.heap.size 7 d7) := Lib.hid (by unfold d7 d6 d5 d4 d3 d2 d1; exact m7)
  have B := Lib.hid b7
  clear m0 m1 m2 m3 m4 m5 m6 m7 g0 g1 g2 g3 g4 g5 g6 g7 b1 b2 b3 b4 b5 b6 b7
  go_enter Tryz.func256, Tryz.ntmps256
  go_wp2_with fail
  go_ret
  exact ⟨rfl, M.out, B.out⟩

/-- The map turned round, but for what is still to come. -/
def Turned (D : DataW Unit) (left : Lit → Bool) : Prop :=
  IsMap D ∧ (∀ z : Nat, left (lk z) = true → (sg z).isSome = true) ∧ (∀ c : Nat, Maps.has D (lk c) = match sd c with | some z => !left (lk z) | none => false) ∧ ∀ (c z : Nat) (y : DataW Unit), sd c = some z → left (lk z) = false → D.atKey (lk c) y = ld z
theorem sg_inj {x z s : Nat} (h : sg x = some s) (h' : sg z = some s) : z = x := by
  have := sd_sg h
  rw [sd_sg h'] at this
  exact Option.some.inj this
theorem turned_start : Turned (.map []) (Maps.has d7) := by
  refine ⟨im0, fun z h => by rw [← d7_has]; exact h, fun c => ?_, fun c z y h h' => ?_⟩
  · cases h : sd c with
    | none => rfl
    | some z => simp only [d7_has, (sg_sd h).1]; rfl
  · rw [d7_has, (sg_sd h).1] at h'
    cases h'
theorem turned_step {D : DataW Unit} {left : Lit → Bool} (h : Turned D left) {x s : Nat} (hs : sg x = some s) : Turned (D.put (lk s) (ld x)) (fun z => left z && !z.sameKey (lk x)) := by
  obtain ⟨h1, h2, h3, h4⟩ := h
  have hsame : ∀ z : Nat, (lk (z : Int)).sameKey (lk x) = decide (z = x) := fun z => by
    by_cases e : z = x
    · subst e; simp [Lit.sameKey]
    · rw [sameKey_ne (fun e2 => e (by simp only [lk, Lit.int.injEq, true_and] at e2; omega))]; simp [e]
  refine ⟨h1.put _ _, fun z hz => h2 z (by simp only [Bool.and_eq_true] at hz; exact hz.1), fun c => ?_, fun c z y hc hl => ?_⟩
  · rw [has_put _ h1]
    by_cases e : c = s
    · subst e
      rw [if_pos rfl, sd_sg hs]
      simp only [hsame]
      simp
    · rw [if_neg (by omega), h3]
      cases hc : sd c with
      | none => rfl
      | some z =>
        have hz : z ≠ x := fun e2 => by
          subst e2
          have := (sg_sd hc).1
          rw [hs] at this
          exact e (Option.some.inj this).symm
        simp [hsame, hz]
  · rw [at_put _ h1]
    by_cases e : c = s
    · subst e
      rw [if_pos rfl]
      rw [sd_sg hs] at hc
      cases hc
      rfl
    · rw [if_neg (by omega)]
      have hz : z ≠ x := fun e2 => by
        subst e2
        have := (sg_sd hc).1
        rw [hs] at this
        exact e (Option.some.inj this).symm
      simp only [hsame, hz, decide_false, Bool.not_false, Bool.and_true] at hl
      exact h4 c z y hc hl
end Go.Proofs.YtfghfnpiaccfaaaGreatDoor
namespace Go.Proofs.YtfghfnpiaccfaaaGreatDoor
open Go Go.RowKit Go.Maps
/-- The map of signs' bytes. -/
def Signed (w : World) (b : Nat) : Prop := ∃ D : DataW Unit, w.ownsMap Tryz.prog 5 (plainElem Tryz.prog 5) b 7 D ∧ (∀ c : Nat, Maps.has D (lk c) = (sd c).isSome) ∧ ∀ (c z : Nat) (y : DataW Unit), sd c = some z → D.atKey (lk c) y = ld z
theorem wf_nat {x : Int} (h : (Lit.int .u8 x).wf = true) : ∃ z : Nat, x = z ∧ z < 256 := by
  have e1 : IntKind.u8.min = 0 := by decide
  have e2 : IntKind.u8.max = 255 := by decide
  have e3 : IntKind.u8.min ≤ x ∧ x ≤ IntKind.u8.max := by simpa [Lit.wf] using h
  rw [e1, e2] at e3
  exact ⟨x.toNat, by omega, by omega⟩
/-- A step of the going through the map of signs. -/
theorem sign_step {w : World} {b r cnt : Nat} {left : Lit → Bool} (h : w.ranges Tryz.prog 5 (plainElem Tryz.prog 5) b r 7 d7 left cnt) (hd : ∀ z : Nat, left (lk z) = true → (sg z).isSome = true) :
    ((∀ kl, left kl = false) ∧ ∀ ty, (Instr.next (.pointer (some ⟨r, 0, none⟩)) false ty).run Tryz.prog w = .ok (.tuple #[.bool false]) w) ∨
    ∃ (z s : Nat) (w' : World) (cnt' : Nat), z < 256 ∧ s < 256 ∧ sg z = some s ∧ left (lk z) = true ∧ (∀ ty, (Instr.next (.pointer (some ⟨r, 0, none⟩)) false ty).run Tryz.prog w = .ok (.tuple #[.bool true, .int .u8 z, .int .u8 s]) w') ∧
      w'.ranges Tryz.prog 5 (plainElem Tryz.prog 5) b r 7 d7 (fun x => left x && !x.sameKey (lk z)) cnt' ∧ cnt' < cnt ∧ w.grownBy w' (some r) ∧ w'.heap.size = w.heap.size ∧ (Instr.entry (.pointer (some ⟨r, 0, none⟩))).run Tryz.prog w' = .ok (.tuple #[.int .u8 z, .int .u8 s]) w' := by
  rcases h.next Tryz.law5 0 with ⟨_, h2, h3⟩ | ⟨key, v, kl, y, w', cnt', k1, k2, k3, k4, k5, k6, k7, k8, k9, k10⟩
  · exact .inl ⟨h2, fun _ => h3⟩
  · obtain ⟨x, rfl, rfl, hwx⟩ := Maps.keyOf_int_inv Tryz.underlying5 k1
    obtain ⟨c, rfl, rfl, hwc⟩ := plainElem_int_inv Tryz.underlying5 k3
    obtain ⟨z, rfl, hz⟩ := wf_nat hwx
    obtain ⟨s, rfl, hs⟩ := wf_nat hwc
    obtain ⟨s', es⟩ := Option.isSome_iff_exists.1 (hd z k2)
    have e := k4 (ld 0)
    rw [d7_at z s' es] at e
    have e2 : s' = s := by
      have e3 : (ld (s' : Int)) = ld (s : Int) := e
      simp only [ld, DataW.lit.injEq, Lit.int.injEq, true_and] at e3
      omega
    subst e2
    exact .inr ⟨z, s', w', cnt', hz, hs, es, k2, fun _ => k5, k6, k7, k8, k9, k10⟩
set_option maxRecDepth 100000 in
set_option maxHeartbeats 1000000 in
theorem signed_any (w : World) :
    Calls Tryz.prog 304 #[] w fun e w' => ∃ b, e = .returned (.map (some b)) ∧ Signed w' b ∧ Below w.heap.size w w' := by
  have hmm := @run_makeMap Tryz.prog
  have e1 : (w.alloc (.map #[] 0)).heap.size = w.heap.size + 1 := by simp
  have O0 : (w.alloc (.map #[] 0)).ownsMap Tryz.prog 5 (plainElem Tryz.prog 5) w.heap.size 0 (.map [] : DataW Unit) := World.ownsMap_made w Tryz.prog 5 _
  have OH := Lib.hid O0
  clear O0
  go_enter Tryz.func304, Tryz.ntmps304
  go_wp2_with (go_at_call 256; refine (signs_any _).mono ?_; rintro e w1 ⟨rfl, hm1, hb1⟩)
  have S1 := hb1.size
  rw [e1] at hm1 S1
  obtain ⟨w0, hr0, hrg0, hg0, hs0⟩ := hm1.range Tryz.law5 Tryz.underlying311
  have OW0 : w1.ownsMap Tryz.prog 5 (plainElem Tryz.prog 5) w.heap.size 0 (.map [] : DataW Unit) := OH.out.kept (row := none) ⟨hb1.os, hb1.tape, hb1.output, hb1.size, fun i hi _ => hb1.block i hi⟩ (by simp)
  have OW := Lib.hid (OW0.kept hg0 (by simp))
  have B00 : Below w.heap.size w w1 := bt (B1 w _) hb1 (by simp)
  have B0 := Lib.hid (B00.grown hg0 B00.size (fun j hj => by cases hj))
  have RG := Lib.hid hrg0
  have SZ := hm1.size_le
  clear OW0 B00 hrg0 hg0 hb1 hm1
  obtain ⟨r, er⟩ : ∃ r, r = w1.heap.size := ⟨_, rfl⟩
  rw [← er] at hr0 RG hs0
  have hr1 : w.heap.size + 1 ≤ r := by omega
  clear S1 er
  simp only [hr0, Result.andThen]
  rw [Oper.upon_value]
  go_wp2_with fail
  go_frame
  go_loopw [2, 3] (fun _ _ wr => ∃ (left : Lit → Bool) (cnt : Nat) (D : DataW Unit), wr.ranges Tryz.prog 5 (plainElem Tryz.prog 5) (w.heap.size + 1) r 7 d7 left cnt ∧ cnt ≤ 7 ∧
      wr.ownsMap Tryz.prog 5 (plainElem Tryz.prog 5) w.heap.size (7 - cnt) D ∧ Turned D left ∧ Below w.heap.size w wr)
    (fun _ _ wr => wr.rangeLeft (w.heap.size + 1) r)
  case atStart =>
    exact ⟨_, _, .map [], RG.out, SZ, OW.out.mono (Nat.zero_le _), turned_start, B0.out⟩
  case round =>
    obtain ⟨left, cnt, D, hrg, hcs, hout, hT, hnx⟩ := hrel
    rcases sign_step hrg hT.2.1 with ⟨hl, hnext⟩ | ⟨z, s, w2, cnt2, hz, hs, es, hlz, hnext, hrg1, hlt, hg1, hs1, hen⟩
    · have F1 := Lib.hid (hout.mono (show 7 - cnt ≤ 7 by omega))
      have F2 := Lib.hid hT
      have F3 := Lib.hid hnx
      have F4 := Lib.hid hl
      clear hrg hout hT hnx hl
      go_wp2_with fail
      go_ret
      refine ⟨_, rfl, ⟨D, F1.out, fun c => ?_, fun c z y hc => F2.out.2.2.2 c z y hc (F4.out _)⟩, F3.out⟩
      rw [F2.out.2.2.1 c]
      cases sd c with
      | none => rfl
      | some z => simp [F4.out]
    · have hne : r ≠ w.heap.size := by omega
      have hout1 := hout.kept hg1 (fun e => hne (Option.some.inj e).symm)
      obtain ⟨w3, hr3, hout2, hg2⟩ := ins hout1 s z (by omega) (by omega) (by omega)
      have hrg2 := hrg1.kept hg2 (fun e => by have := Option.some.inj e; omega) (fun e => hne (Option.some.inj e))
      have F1 := Lib.hid (hout2.mono (show 7 - cnt + 1 ≤ 7 - cnt2 by omega))
      have F2 := Lib.hid (turned_step hT es)
      have F3 := Lib.hid ((hnx.grown hg1 hnx.size (fun j hj => by cases hj; omega)).grown hg2 (by have := hnx.size; have := hg1.size; omega) (fun j hj => by cases hj; exact Nat.le_refl _))
      have F4 := Lib.hid hrg2
      have F5 := Lib.hid hrg
      clear hrg hout hT hnx hout1 hout2 hrg1 hrg2 hg1 hg2 hlz
      go_wp2_with fail
      go_roundw
      case rel => exact ⟨_, cnt2, _, F4.out, by omega, F1.out, F2.out, F3.out⟩
      case measure => rw [F4.out.left_eq, F5.out.left_eq]; exact hlt
end Go.Proofs.YtfghfnpiaccfaaaGreatDoor
namespace Go.Proofs.YtfghfnpiaccfaaaGreatDoor
open Go Go.RowKit Go.Maps
theorem str_nums (l : List Nat) : strOfNums (l.map fun x : Nat => (x : Int)) = bsv l := by
  unfold strOfNums bsv
  simp only [List.map_map]
  rfl
theorem look_d7 {w : World} {b : Nat} (h : w.ownsMap Tryz.prog 5 (plainElem Tryz.prog 5) b 7 d7) (c : Nat) (hc : c < 256) :
    (∀ s, sg c = some s → (Instr.lookup 311 (.map (some b)) (.int .u8 c) true).run Tryz.prog w = .ok (.tuple #[.int .u8 s, .bool true]) w) ∧
    (sg c = none → ∃ v : Int, (Instr.lookup 311 (.map (some b)) (.int .u8 c) true).run Tryz.prog w = .ok (.tuple #[.int .u8 v, .bool false]) w) := by
  obtain ⟨v, ps, hrun, hv⟩ := h.look_ok Tryz.law5 Tryz.underlying311 (z := .int .u8 0) (by first | exact Tryz.zeroValue5 _ | kernel_rfl | rfl) (plainElem_int Tryz.underlying5 (lk_wf (c := 0) (by omega))) (keyOf_int_mk Tryz.underlying5 (lk_wf (c := c) (by omega)))
  obtain ⟨x, rfl, hx, hwx⟩ := plainElem_int_inv Tryz.underlying5 hv
  rw [d7_has] at hrun
  refine ⟨fun s hs => ?_, fun hs => ⟨x, ?_⟩⟩
  · rw [hs] at hrun
    simp only [Prod.mk.injEq, d7_at c s hs] at hx
    have e : x = s := by have := hx.1; simp only [ld, DataW.lit.injEq, Lit.int.injEq, true_and] at this; omega
    rw [hrun, e]
    rfl
  · rw [hs] at hrun
    exact hrun
theorem look_signed {w : World} {b : Nat} (h : Signed w b) (c : Nat) (hc : c < 256) :
    (∀ s, sd c = some s → (Instr.lookup 311 (.map (some b)) (.int .u8 c) true).run Tryz.prog w = .ok (.tuple #[.int .u8 s, .bool true]) w) ∧
    (sd c = none → ∃ v : Int, (Instr.lookup 311 (.map (some b)) (.int .u8 c) true).run Tryz.prog w = .ok (.tuple #[.int .u8 v, .bool false]) w) := by
  obtain ⟨D, h, hD, hA⟩ := h
  obtain ⟨v, ps, hrun, hv⟩ := h.look_ok Tryz.law5 Tryz.underlying311 (z := .int .u8 0) (by first | exact Tryz.zeroValue5 _ | kernel_rfl | rfl) (plainElem_int Tryz.underlying5 (lk_wf (c := 0) (by omega))) (keyOf_int_mk Tryz.underlying5 (lk_wf (c := c) (by omega)))
  obtain ⟨x, rfl, hx, hwx⟩ := plainElem_int_inv Tryz.underlying5 hv
  rw [hD] at hrun
  refine ⟨fun s hs => ?_, fun hs => ⟨x, ?_⟩⟩
  · rw [hs] at hrun
    simp only [Prod.mk.injEq, hA c s _ hs] at hx
    have e : x = s := by have := hx.1; simp only [ld, DataW.lit.injEq, Lit.int.injEq, true_and] at this; omega
    rw [hrun, e]
    rfl
  · rw [hs] at hrun
    exact hrun
end Go.Proofs.YtfghfnpiaccfaaaGreatDoor
namespace Go.Proofs.YtfghfnpiaccfaaaGreatDoor
open Go Go.RowKit Go.Maps
def i1 (p : Int) : List Nat → Nat × Nat
  | c :: _ => if pl p c then (c, 1) else (0, 0)
  | [] => (0, 0)
def i2 : List Nat → Nat × Nat
  | c :: k :: _ => if c = 92 then (match sd k with | some b => (b, 2) | none => (0, 0)) else (0, 0)
  | _ => (0, 0)
def i4 : List Nat → Nat × Nat
  | c :: k :: a :: b :: _ => if c = 92 ∧ k = 120 then (match dg a, dg b with | some x, some y => (16 * x + y, 4) | _, _ => (0, 0)) else (0, 0)
  | _ => (0, 0)
/-- What lies ahead of a place. -/
def rst (a : Int) (l : List Nat) : List Nat := if a < 0 then [] else l.drop a.toNat
theorem rst_nat (k : Nat) (l : List Nat) : rst k l = l.drop k := by
  unfold rst
  rw [if_neg (by omega), Int.toNat_natCast]
theorem rst_cases (a : Int) (l : List Nat) : (rst a l = [] ∧ (a < 0 ∨ (l.length : Int) ≤ a)) ∨ ∃ k : Nat, a = k ∧ k < l.length ∧ rst a l = l.drop k := by
  by_cases h : a < 0
  · exact .inl ⟨by simp [rst, h], .inl h⟩
  · by_cases h2 : (l.length : Int) ≤ a
    · refine .inl ⟨?_, .inr h2⟩
      rw [rst, if_neg h]
      exact List.drop_eq_nil_of_le (by omega)
    · exact .inr ⟨a.toNat, by omega, by omega, by rw [rst, if_neg h]⟩
theorem rd_three (p : Int) (l : List Nat) : rd p l = if kn p = false then none else if (i1 p l).2 ≠ 0 then some (i1 p l) else if (i2 l).2 ≠ 0 then some (i2 l) else if (i4 l).2 ≠ 0 then some (i4 l) else none := by
  cases hk : kn p with
  | false => cases l <;> simp [rd, hk]
  | true =>
    match l with
    | [] => simp [rd, i1, i2, i4]
    | [c] =>
      cases hp : pl p c <;> simp [rd, i1, i2, i4, hk, hp]
    | c :: k :: r =>
      cases hp : pl p c with
      | true => simp [rd, i1, hk, hp]
      | false =>
        by_cases h92 : c = 92
        · subst h92
          cases hs : sd k with
          | some b => simp [rd, i1, i2, hk, hp, hs]
          | none =>
            by_cases h120 : k = 120
            · subst h120
              match r with
              | [] => simp [rd, i1, i2, i4, hk, hp, hs, rx]
              | [x] => simp [rd, i1, i2, i4, hk, hp, hs, rx]
              | x :: y :: r2 =>
                cases hx : dg x <;> cases hy : dg y <;> simp [rd, i1, i2, i4, hk, hp, hs, rx, hx, hy]
            · match r with
              | [] => simp [rd, i1, i2, i4, hk, hp, hs, h120]
              | [x] => simp [rd, i1, i2, i4, hk, hp, hs, h120]
              | x :: y :: r2 => simp [rd, i1, i2, i4, hk, hp, hs, h120]
        · match r with
          | [] => simp [rd, i1, i2, i4, hk, hp, h92]
          | [x] => simp [rd, i1, i2, i4, hk, hp, h92]
          | x :: y :: r2 => simp [rd, i1, i2, i4, hk, hp, h92]
theorem ahead_any (b n : Nat) (s : ByteArray) (l : List Nat) (a p : Int) (hs : Str s l) (hl : l.length ≤ 60000) (ha : -9223372036854775808 ≤ a ∧ a < 9223372036854775808) (hn : n < 10) (hn0 : 0 < n) (w : World) (h : Cur w b s a p) :
    (((rst a l).length < n) ∧ Calls Tryz.prog 303 #[.pointer (some ⟨b, 0, none⟩), .int .i64 n] w fun e w' => e = .returned (.tuple #[.string ⟨#[]⟩, .bool false]) ∧ ∃ n, w' = w.drewN n) ∨
    (n ≤ (rst a l).length ∧ ∃ t, Str t ((rst a l).take n) ∧ Calls Tryz.prog 303 #[.pointer (some ⟨b, 0, none⟩), .int .i64 n] w fun e w' => e = .returned (.tuple #[.string t, .bool true]) ∧ ∃ n, w' = w.drewN n) := by
  have hz := hs.size
  rcases rst_cases a l with ⟨e, h1⟩ | ⟨k, rfl, hk, e⟩
  · exact .inl ⟨by rw [e]; exact hn0, ahead_none b n s a p (by omega) ha hn (by omega) w h⟩
  · rw [e, List.length_drop]
    by_cases h2 : k + n ≤ l.length
    · refine .inr ⟨by omega, s.extract k (k + n), ?_, ahead_some b n k s p (by omega) (by omega) w h⟩
      have := hs.extract k (k + n)
      rwa [Nat.add_sub_cancel_left] at this
    · exact .inl ⟨by omega, ahead_none b n s k p (by omega) ha hn (by omega) w h⟩
theorem q_left {P : Program} {f : FuncId} {args : Array Value} {w : World} {n : Nat} {v : Value}
    (h : Calls P f args (w.drewN n) fun e w' => e = .returned v ∧ w.drewN n = w') : Calls P f args (w.drewN n) fun e w'' => e = .returned v ∧ ∃ m, w'' = w.drewN m :=
  h.mono fun _ _ ⟨he, hm⟩ => ⟨he, n, hm.symm⟩
theorem i1_nil (p : Int) : i1 p [] = (0, 0) := rfl
theorem below_drewN (w : World) (n : Nat) : Below w.heap.size w (w.drewN n) := bdrew (Below.refl _ _)
set_option maxHeartbeats 1000000 in
theorem itself_any (b : Nat) (s : ByteArray) (l : List Nat) (a p : Int) (hs : Str s l) (hl : l.length ≤ 60000) (ha : -9223372036854775808 ≤ a ∧ a < 9223372036854775808) (w : World) (h : Cur w b s a p) :
    Calls Tryz.prog 296 #[.pointer (some ⟨b, 0, none⟩)] w fun e w' => e = .returned (.tuple #[.int .u8 (i1 p (rst a l)).1, .int .i64 (i1 p (rst a l)).2]) ∧ Below w.heap.size w w' := by
  obtain ⟨c0, c1, c2⟩ := cur3 h
  have K := ahead_any b 1 s l a p hs hl ha (by omega) (by omega) w h
  generalize rst a l = r at K
  have HA := Lib.hid h
  clear h hs hl ha
  rcases K with ⟨h1, K⟩ | ⟨h1, t, ht, K⟩
  · have : r = [] := List.length_eq_zero_iff.1 (by omega)
    subst this
    rw [i1_nil]
    have K := Lib.hid K
    clear h1
    go_enter Tryz.func296, Tryz.ntmps296
    go_wp2_with (go_at_call 303; refine K.out.mono ?_; rintro e w1 ⟨rfl, n, rfl⟩)
    go_quiet (fail)
    go_wp2_with fail
    go_ret2
    exact ⟨rfl, by rw [World.drewN_drewN]; exact below_drewN _ _⟩
  · match r, h1, ht with
    | c :: r, _, ht =>
      have hz : t.size = 1 := ht.size
      have hx0 : ∀ h, (t[0]'h).toNat = c := fun h => ht.at_ 0 h
      have K := Lib.hid K
      have P := fun w => plain_any p c w
      rw [show i1 p (c :: r) = if pl p c then (c, 1) else (0, 0) from rfl]
      generalize pl p c = q at P
      have PH := Lib.hid P
      clear ht P
      cases q with
      | true =>
        simp only [if_true]
        go_enter Tryz.func296, Tryz.ntmps296
        go_wp2_with (go_at_call 303; refine K.out.mono ?_; rintro e w1 ⟨rfl, n, rfl⟩)
        go_quiet ((go_at_call 255; exact (PH.out _).mono fun _ _ ⟨he, hm⟩ => ⟨he, _, hm.symm⟩))
        go_wp2_with fail
        go_ret2
        exact ⟨rfl, below_drewN _ _⟩
      | false =>
        simp only [Bool.false_eq_true, if_false]
        go_enter Tryz.func296, Tryz.ntmps296
        go_wp2_with (go_at_call 303; refine K.out.mono ?_; rintro e w1 ⟨rfl, n, rfl⟩)
        go_quiet ((go_at_call 255; exact (PH.out _).mono fun _ _ ⟨he, hm⟩ => ⟨he, _, hm.symm⟩))
        go_wp2_with fail
        go_ret2
        exact ⟨rfl, by rw [World.drewN_drewN]; exact below_drewN _ _⟩
end Go.Proofs.YtfghfnpiaccfaaaGreatDoor
namespace Go.Proofs.YtfghfnpiaccfaaaGreatDoor
open Go Go.RowKit Go.Maps
theorem rd2 (w : World) (n : Nat) {w1 : World} (h : Below (w.drewN n).heap.size (w.drewN n) w1) : Below w.heap.size w w1 := ⟨h.os, h.tape, h.output, h.size, h.block⟩
theorem rd1 (w : World) (n : Nat) {w1 : World} (h : Below (w.drewN n).drew.heap.size (w.drewN n).drew w1) : Below w.heap.size w w1 := ⟨h.os, h.tape, h.output, h.size, h.block⟩
set_option maxHeartbeats 2000000 in
theorem short_any (b : Nat) (s : ByteArray) (l : List Nat) (a p : Int) (hs : Str s l) (hl : l.length ≤ 60000) (ha : -9223372036854775808 ≤ a ∧ a < 9223372036854775808) (w : World) (h : Cur w b s a p) :
    Calls Tryz.prog 297 #[.pointer (some ⟨b, 0, none⟩)] w fun e w' => e = .returned (.tuple #[.int .u8 (i2 (rst a l)).1, .int .i64 (i2 (rst a l)).2]) ∧ Below w.heap.size w w' := by
  obtain ⟨c0, c1, c2⟩ := cur3 h
  have K := ahead_any b 2 s l a p hs hl ha (by omega) (by omega) w h
  generalize rst a l = r at K
  clear h hs hl ha
  rcases K with ⟨h1, K⟩ | ⟨h1, t, ht, K⟩
  · have : i2 r = (0, 0) := by
      match r, h1 with
      | [], _ => rfl
      | [_], _ => rfl
      | _ :: _ :: _, h => simp at h; omega
    rw [this]
    have K := Lib.hid K
    clear h1 this
    go_enter Tryz.func297, Tryz.ntmps297
    go_wp2_with (go_at_call 303; refine K.out.mono ?_; rintro e w1 ⟨rfl, n, rfl⟩)
    go_ret2
    exact ⟨rfl, below_drewN _ _⟩
  · match r, h1, ht with
    | c :: k :: r, _, ht =>
      have hz : t.size = 2 := ht.size
      have hx0 : ∀ h, (t[0]'h).toNat = c := fun h => ht.at_ 0 h
      have hx1 : ∀ h, (t[1]'h).toNat = k := fun h => ht.at_ 1 h
      have hk : k < 256 := ht.lt k (by simp)
      have K := Lib.hid K
      rw [show i2 (c :: k :: r) = if c = 92 then (match sd k with | some b => (b, 2) | none => (0, 0)) else (0, 0) from rfl]
      clear ht
      by_cases h92 : c = 92
      · subst h92
        simp only [if_true]
        cases hsd : sd k with
        | some x =>
          simp only
          have HS := Lib.hid hsd
          have HK := Lib.hid hk
          clear hsd hk
          go_enter Tryz.func297, Tryz.ntmps297
          go_wp2_with (go_at_call 303; refine K.out.mono ?_; rintro e w1 ⟨rfl, n, rfl⟩)
          go_region_with (go_at_call 304; refine (signed_any _).mono ?_; rintro e w1 ⟨b2, rfl, hS, hb⟩; have hlk := (look_signed hS k HK.out).1 x HS.out; have HB := Lib.hid hb; clear hS hb)
          all_goals (go_wp2_with fail)
          all_goals go_ret2
          all_goals exact ⟨rfl, ⟨HB.out.os, HB.out.tape, HB.out.output, HB.out.size, HB.out.block⟩⟩
        | none =>
          simp only
          have HS := Lib.hid hsd
          have HK := Lib.hid hk
          clear hsd hk
          go_enter Tryz.func297, Tryz.ntmps297
          go_wp2_with (go_at_call 303; refine K.out.mono ?_; rintro e w1 ⟨rfl, n, rfl⟩)
          go_region_with (go_at_call 304; refine (signed_any _).mono ?_; rintro e w1 ⟨b2, rfl, hS, hb⟩; obtain ⟨v, hlk⟩ := (look_signed hS k HK.out).2 HS.out; have HB := Lib.hid hb; clear hS hb)
          all_goals (go_wp2_with fail)
          all_goals go_ret2
          all_goals exact ⟨rfl, ⟨HB.out.os, HB.out.tape, HB.out.output, HB.out.size, HB.out.block⟩⟩
      · rw [if_neg h92]
        have g1 : ((c : Int) == 92) = false := by simp; omega
        have g2 : ((c : Int) != 92) = true := by simp; omega
        clear h92 hk
        go_enter Tryz.func297, Tryz.ntmps297
        go_wp2_with (go_at_call 303; refine K.out.mono ?_; rintro e w1 ⟨rfl, n, rfl⟩)
        go_ret2
        exact ⟨rfl, below_drewN _ _⟩
end Go.Proofs.YtfghfnpiaccfaaaGreatDoor
namespace Go.Proofs.YtfghfnpiaccfaaaGreatDoor
open Go Go.RowKit
/-- A text in memory. -/
def Txt (w : World) (A : Option Addr) (l : List Nat) : Prop :=
  (∀ x ∈ l, x < 256) ∧ (0 < l.length → ∃ b o, A = some ⟨b, o, none⟩ ∧ b < w.heap.size ∧ ∀ i, i < l.length → w.cell? ⟨b, o + i, none⟩ = some (.int .u8 (l.getD i 0 : Nat)))
theorem Txt.below {w w' : World} {A : Option Addr} {l : List Nat} (h : Txt w A l) (hb : Below w.heap.size w w') : Txt w' A l := by
  refine ⟨h.1, fun h0 => ?_⟩
  obtain ⟨b, o, e, hl, hc⟩ := h.2 h0
  exact ⟨b, o, e, Nat.lt_of_lt_of_le hl hb.size, fun i hi => (hb.cell (p := ⟨b, o + i, none⟩) hl).trans (hc i hi)⟩

theorem cell_one_new (w : World) (x : Value) (t : TypeId) : ∀ j u, [x][j]? = some u → (w.alloc (.cells #[x] t)).cell? ((⟨w.heap.size, 0, none⟩ : Addr).add j) = some u := by
  intro j u h
  match j, h with
  | 0, h =>
    simp only [List.getElem?_cons_zero, Option.some.injEq] at h
    subst h
    rw [Addr.add_lit, (Blk.new w _ _).cell]
    rfl
def natb (x : Nat) : Value := .int .u8 (x : Int)
theorem natb_one (l : List Nat) : ∀ u ∈ l.map natb, u.oneCell' = true := by
  intro u hu
  obtain ⟨x, _, rfl⟩ := List.mem_map.1 hu
  rfl
theorem Tryz.info5 : (Tryz.prog.info? 5).map (fun i => (i.zero, i.size, i.bytes)) = some (some (.int .u8 0), 1, 1) := by kernel_rfl
theorem getD_natb {l : List Nat} {i : Nat} (h : i < l.length) : (l.map natb)[i]? = some (.int .u8 (l.getD i 0 : Nat)) := by
  simp [natb, List.getElem?_map, List.getElem?_eq_getElem h, List.getD]

/-- 'append(own, text...)', the text nil or not. -/
theorem wpList_append_txt (w : World) {ops : Array Oper} {rest : List Oper} {o : Oper} {a : Act} {Q : Exit → Act → World → Prop}
    (hg : o.guard = none) (s x : Operand) (hop : o.op = Op.call { callee := Callee.builtin Builtin.append, args := #[s, x], argTypes := #[70, 70] })
    (base : Nat) (v : Value) (xs : List Nat) (hs : a.eval s = v) (hown : w.ownsRow base 5 1 v xs.length (xs.map natb)) (A : Option Addr) (l : List Nat) (c : Nat) (hx : a.eval x = .slice A l.length c) (ht : Txt w A l) (hnc : A = none → c = 0)
    (hl : xs.length + l.length ≤ 65536) (b3 : base ≤ w.heap.size)
    (hK : ∀ v' w', w'.ownsRow base 5 1 v' (xs ++ l).length ((xs ++ l).map natb) → w.grownBy w' v.ownBlock → wpList Tryz.prog ops Q rest (a.put o.dst v') w') :
    wpList Tryz.prog ops Q (o :: rest) a w := by
  obtain ⟨i0, hi, hz0, hz1, hz2⟩ := info_parts Tryz.info5
  cases A with
  | none =>
    have h0 : l = [] := by
      cases l with
      | nil => rfl
      | cons y l => obtain ⟨b, o, e, _⟩ := ht.2 (by simp); cases e
    subst h0
    obtain rfl := hnc rfl
    refine wpList_append_own_none hg s x 70 hop base 5 i0 1 Tryz.underlying70 hi v xs.length _ hs hown hx (hK v w (by simpa using hown) (World.grownBy.refl _ _))
  | some ad =>
    refine wpList_append_own w hg s x 70 hop base 5 i0 (.int .u8 0) 1 1 Tryz.underlying70 hi hz0 hz1 hz2 rfl (by decide) v xs.length _ hs hown ad l.length c (l.map natb) hx (by simp) (fun j u hu => ?_) (natb_one l) (by unfold maxLen; omega) (by omega) b3
      (fun v' w' a b _ => hK v' w' (by rw [List.length_append, List.map_append]; exact a) b)
    have hj : j < l.length := by simpa using (List.getElem?_eq_some_iff.1 hu).1
    obtain ⟨tb, to, e, _, hc⟩ := ht.2 (by omega)
    cases e
    rw [Addr.add_lit, hc j hj, ← getD_natb hj, hu]
theorem txt_of_own {w : World} {base : Nat} {xs : List Nat} {v : Value} (h : w.ownsRow base 5 1 v xs.length (xs.map natb)) (hx : ∀ x ∈ xs, x < 256) : ∃ A c, v = .slice A xs.length c ∧ Txt w A xs ∧ (A = none → c = 0) := by
  rcases h.2 with ⟨rfl, hn⟩ | ⟨g, cap, cur, rfl, hb, hh, _⟩
  · exact ⟨none, 0, by rw [hn], ⟨hx, fun h0 => by omega⟩, fun _ => rfl⟩
  · refine ⟨_, cap, rfl, ⟨hx, fun _ => ⟨g, 0, rfl, (Array.getElem?_eq_some_iff.1 hh).1, fun i hi => ?_⟩⟩, fun h => by cases h⟩
    rw [Nat.zero_add, h.cellAt i (by omega), getD_natb hi]
theorem Txt.at_ {w : World} {A : Option Addr} {l : List Nat} (h : Txt w A l) {i : Nat} (hi : i < l.length) : ∃ b o, A = some ⟨b, o, none⟩ ∧ w.cell? ⟨b, o + i, none⟩ = some (.int .u8 (l.getD i 0 : Nat)) := by
  obtain ⟨b, o, e, _, hc⟩ := h.2 (by omega)
  exact ⟨b, o, e, hc i hi⟩

end Go.Proofs.YtfghfnpiaccfaaaGreatDoor
namespace Go.Proofs.YtfghfnpiaccfaaaGreatDoor
open Go Go.RowKit
theorem getD_of {l : List Nat} {i : Nat} (h : i < l.length) : l.getD i 0 = l[i] := by simp [List.getD, List.getElem?_eq_getElem h]
theorem conv_txt (w : World) (l : List Nat) (hl : ∀ x ∈ l, x < 256) : ∃ A c w', (convert 9 70 (.string ⟨(l.map UInt8.ofNat).toArray⟩)).run Tryz.prog w = .ok (.slice A l.length c) w' ∧ Below w.heap.size w w' ∧ Txt w' A l ∧ (A = none → c = 0) := by
  have h := run_bytes_of_string (P := Tryz.prog) w 9 70 5 ⟨(l.map UInt8.ofNat).toArray⟩ Tryz.underlying9 Tryz.underlying70 Tryz.underlying5
  have hs : (⟨(l.map UInt8.ofNat).toArray⟩ : ByteArray).size = l.length := by simp [ByteArray.size]
  rw [hs] at h
  refine ⟨_, _, _, h, ?_, ?_, ?_⟩
  · exact (bdrew1 (Below.refl _ _)).alloc (Nat.le_refl _) _
  · refine ⟨hl, fun _ => ⟨_, _, rfl, by simp, fun i hi => ?_⟩⟩
    rw [Nat.zero_add, show w.heap.size = w.drew.heap.size from rfl, cell_of_row _ _ i _ _ _ (heap_alloc_new w.drew _), bytesRow_at _ _ i (by simpa using hi)]
    have hx := hl (l.getD i 0) (by rw [getD_of hi]; exact List.getElem_mem hi)
    simp only [List.getElem_toArray, List.getElem_map, Option.some.injEq, Value.int.injEq, true_and]
    rw [getD_of hi] at hx ⊢
    simp [UInt8.toNat_ofNat', Nat.mod_eq_of_lt hx]
  · intro h; cases h
end Go.Proofs.YtfghfnpiaccfaaaGreatDoor

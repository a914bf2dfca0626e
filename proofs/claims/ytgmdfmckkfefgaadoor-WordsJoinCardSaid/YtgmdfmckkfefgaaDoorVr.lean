/- A word, read. Made by mk7d.py. -/
import Derived.Test.YtgmdfmckkfefgaaDoorVq
namespace Go.Proofs.YtgmdfmckkfefgaaDoor
open Go Go.RowKit
/-- A word's cells, as a try has them; with its places. -/
abbrev wtry (x : Wd) : Array Value := #[.int .i64 x.kind, .int .i64 0, .int .i64 0, .string (bsv x.text), .int .i64 x.lev, .int .u64 (cw x.cls 0), .int .u64 (cw x.cls 1), .int .u64 (cw x.cls 2), .int .u64 (cw x.cls 3)]
abbrev wfull (x : Wd) (p : Nat) : Array Value := #[.int .i64 x.kind, .int .i64 p, .int .i64 (p + x.len : Nat), .string (bsv x.text), .int .i64 x.lev, .int .u64 (cw x.cls 0), .int .u64 (cw x.cls 1), .int .u64 (cw x.cls 2), .int .u64 (cw x.cls 3)]
theorem wcells_no (kind : Int) (t : List Nat) (lv : Int) (n : Nat) : wcells kind (bsv t) lv = wtry ⟨kind, n, t, lv, no⟩ := by
  have h : no = fun _ => false := rfl
  rw [wtry, wcells]
  simp only
  rw [h, cw_none, cw_none, cw_none, cw_none]
  rfl
/-- What each try looks for. -/
def o0 (r : List Nat) : Option Wd := match r with | [] => some ⟨1, 0, [], 0, no⟩ | _ => none
def o1 (r : List Nat) : Option Wd := match r with | [] => none | c :: t => if ltr c then some (nam (c :: t)) else none
def o2 (r : List Nat) : Option Wd := (quo r).map fun x => ⟨3, x.2, x.1, 0, no⟩
def o3 (r : List Nat) : Option Wd := (stq r).map fun x => ⟨4, x.2, [], 0, cls x.1⟩
def o4 (r : List Nat) : Option Wd := (sgn r).map fun t => ⟨5, t.length, t, 0, no⟩
theorem ltr_not {c : Nat} (h : ltr c = true) : c ≠ 34 ∧ c ≠ 91 ∧ c ≠ 60 ∧ c ∉ [47, 40, 41, 46, 59, 42, 43, 63, 33, 38] := by
  simp [ltr] at h
  simp
  omega
theorem wd_first (r : List Nat) : (o0 r).isSome ∨ o0 r = none := by cases o0 r <;> simp
theorem wd_0 {r : List Nat} {x : Wd} (h : o0 r = some x) : wd r = some x := by
  cases r with
  | nil => exact h
  | cons c t => cases h
theorem wd_1 {r : List Nat} {x : Wd} (h : o1 r = some x) : wd r = some x := by
  cases r with
  | nil => cases h
  | cons c t =>
    simp only [o1] at h
    by_cases hc : ltr c = true
    · rw [if_pos hc] at h
      simp only [wd, if_pos hc]
      exact h
    · rw [if_neg hc] at h; cases h
theorem wd_2 {r : List Nat} {x : Wd} (h1 : o1 r = none) (h : o2 r = some x) : wd r = some x := by
  cases r with
  | nil => simp [o2, quo] at h
  | cons c t =>
    by_cases hc : ltr c = true
    · simp [o1, hc] at h1
    · simp only [wd, if_neg hc]
      by_cases h34 : c = 34
      · subst h34
        simp only [o2, quo, List.head?_cons, if_true, List.drop_succ_cons, List.drop_zero, Option.map_map] at h
        simp only [if_true]
        exact h
      · simp [o2, quo, h34] at h
theorem wd_3 {r : List Nat} {x : Wd} (h1 : o1 r = none) (h : o3 r = some x) : wd r = some x := by
  cases r with
  | nil => simp [o3, stq] at h
  | cons c t =>
    by_cases hc : ltr c = true
    · simp [o1, hc] at h1
    · simp only [wd, if_neg hc]
      by_cases h91 : c = 91
      · subst h91
        simp only [o3, stq, List.head?_cons, if_true, List.drop_succ_cons, List.drop_zero, Option.map_map] at h
        simp only [if_true]
        exact h
      · simp [o3, stq, h91] at h
theorem wd_4 {r : List Nat} {x : Wd} (h1 : o1 r = none) (h : o4 r = some x) : wd r = some x := by
  cases r with
  | nil => cases h
  | cons c t =>
    by_cases hc : ltr c = true
    · simp [o1, hc] at h1
    · simp only [wd, if_neg hc]
      by_cases h34 : c = 34
      · subst h34; simp [o4, sgn] at h
      · by_cases h91 : c = 91
        · subst h91; simp [o4, sgn] at h
        · rw [if_neg h34, if_neg h91]
          exact h
theorem wd_5 {r : List Nat} (h0 : o0 r = none) (h1 : o1 r = none) (h2 : o2 r = none) (h3 : o3 r = none) (h4 : o4 r = none) : wd r = none := by
  cases r with
  | nil => cases h0
  | cons c t =>
    by_cases hc : ltr c = true
    · simp [o1, hc] at h1
    · simp only [wd, if_neg hc]
      by_cases h34 : c = 34
      · subst h34
        simp only [o2, quo, List.head?_cons, if_true, List.drop_succ_cons, List.drop_zero, Option.map_map] at h2
        simp only [if_true]
        cases hq : QT t with
        | none => rfl
        | some y => rw [hq] at h2; cases h2
      · by_cases h91 : c = 91
        · subst h91
          simp only [o3, stq, List.head?_cons, if_true, List.drop_succ_cons, List.drop_zero, Option.map_map] at h3
          simp only [if_neg h34, if_true]
          cases hq : ST t with
          | none => rfl
          | some y => rw [hq] at h3; cases h3
        · rw [if_neg h34, if_neg h91]
          exact h4
/-- What a try tells. -/
def TPost (b p m : Nat) (s : ByteArray) (o : Option Wd) (w : World) (e : Ending) (w' : World) : Prop :=
  (o = none ∧ e = .returned (.tuple #[.agg wzero, .bool false]) ∧ Some' w w' b s m) ∨ ∃ x, o = some x ∧ e = .returned (.tuple #[.agg (wtry x), .bool true]) ∧ w.grownBy w' (some b) ∧ Rd w' b s (p + x.len)
theorem TPost.no {b p m : Nat} {s : ByteArray} {o : Option Wd} {w : World} {e : Ending} {w' : World} (h : TPost b p m s o w e w') (ho : o = none) : e = .returned (.tuple #[.agg wzero, .bool false]) ∧ Some' w w' b s m := by
  rcases h with ⟨_, h1, h2⟩ | ⟨x, h1, _⟩
  · exact ⟨h1, h2⟩
  · rw [ho] at h1; cases h1
theorem TPost.yes {b p m : Nat} {s : ByteArray} {o : Option Wd} {w : World} {e : Ending} {w' : World} {x : Wd} (h : TPost b p m s o w e w') (ho : o = some x) : e = .returned (.tuple #[.agg (wtry x), .bool true]) ∧ w.grownBy w' (some b) ∧ Rd w' b s (p + x.len) := by
  rcases h with ⟨h1, _⟩ | ⟨y, h1, h2⟩
  · rw [ho] at h1; cases h1
  · rw [ho] at h1; cases h1; exact h2
section
variable (b p : Nat) (s : ByteArray) (l : List Nat) (hs : Str s l) (hl : l.length ≤ 60000) (hp : p ≤ l.length) (w : World) (h : Rd w b s p)
include hs hl hp h
theorem try0 : Calls Tryd.prog 19 #[.pointer (some ⟨b, 0, none⟩)] w (TPost b p l.length s (o0 (l.drop p)) w) := by
  have hz := And.intro hs.size hl
  by_cases hlt : p < l.length
  · refine (end_no b p s (by omega) w h).mono fun e w' ⟨he, hb⟩ => .inl ⟨?_, he, below_is_grown hb _, p, hp, h.below hb⟩
    rw [List.drop_eq_getElem_cons hlt]
    rfl
  · refine (end_yes b p s (by omega) w h).mono fun e w' ⟨he, hb⟩ => .inr ⟨⟨1, 0, [], 0, no⟩, ?_, ?_, below_is_grown hb _, h.below hb⟩
    · rw [List.drop_of_length_le (by omega)]
      rfl
    · rw [he, ← wcells_no 1 [] 0 0]
      rfl
theorem try1 : Calls Tryd.prog 20 #[.pointer (some ⟨b, 0, none⟩)] w (TPost b p l.length s (o1 (l.drop p)) w) := by
  by_cases hc : p < l.length ∧ ltr (l.getD p 0) = true
  · obtain ⟨hlt, hc⟩ := hc
    have e1 : l.drop p = l.getD p 0 :: l.drop (p + 1) := by rw [List.drop_eq_getElem_cons hlt]; simp [List.getD, List.getElem?_eq_getElem hlt]
    have en : nam (l.drop p) = ⟨2, lead inm (l.drop p) + (lvR (l.drop (p + lead inm (l.drop p)))).2, (l.drop p).take (lead inm (l.drop p)), (lvR (l.drop (p + lead inm (l.drop p)))).1, no⟩ := by
      unfold nam
      rw [namR_lvR, List.drop_drop]
    have hle := lead_le inm (l.drop p)
    rw [List.length_drop] at hle
    refine (name_yes b p (lead inm (l.drop p)) (lvR (l.drop (p + lead inm (l.drop p)))).2 (lvR (l.drop (p + lead inm (l.drop p)))).1 s l hs hl hlt hc rfl rfl w h).mono fun e w' ⟨he, hg, hR⟩ => .inr ⟨nam (l.drop p), ?_, ?_, hg, ?_⟩
    · rw [e1]; simp only [o1, if_pos hc]
    · have ht := (hs.extract p (p + lead inm (l.drop p))).eq
      rw [Nat.add_sub_cancel_left] at ht
      rw [he, ht, en, wcells_no]
    · rw [en]; rw [Nat.add_assoc] at hR; exact hR
  · have hi : ∀ c r, l.drop p = c :: r → ltr c = false := fun c r e => by
      have hlt : p < l.length := by
        apply Nat.lt_of_not_le
        intro hge
        rw [List.drop_of_length_le hge] at e
        cases e
      have e1 : l.drop p = l.getD p 0 :: l.drop (p + 1) := by rw [List.drop_eq_getElem_cons hlt]; simp [List.getD, List.getElem?_eq_getElem hlt]
      rw [e1] at e
      simp only [List.cons.injEq] at e
      rw [← e.1]
      cases hq : ltr (l.getD p 0) with
      | false => rfl
      | true => exact absurd ⟨hlt, hq⟩ hc
    refine (name_no b p s l hs hp hi w h).mono fun e w' ⟨he, hb⟩ => .inl ⟨?_, he, below_is_grown hb _, p, hp, h.below hb⟩
    cases hd : l.drop p with
    | nil => rfl
    | cons c r => simp [o1, hi c r hd]
theorem try2 (hT : Tab w) (hb0 : b ≠ 0) : Calls Tryd.prog 21 #[.pointer (some ⟨b, 0, none⟩)] w (TPost b p l.length s (o2 (l.drop p)) w) := by
  refine (quoted_any b p s l hs hl hp w h hT hb0).mono fun e w' hq => ?_
  rcases hq with ⟨h1, h2, h3⟩ | ⟨t, n, h1, h2, h3, h4⟩
  · exact .inl ⟨by unfold o2; rw [h1]; rfl, h2, h3⟩
  · exact .inr ⟨⟨3, n, t, 0, no⟩, by unfold o2; rw [h1]; rfl, by rw [h2, wcells_no 3 t 0 n], h3, h4⟩
theorem try3 (hT : Tab w) (hb0 : b ≠ 0) : Calls Tryd.prog 22 #[.pointer (some ⟨b, 0, none⟩)] w (TPost b p l.length s (o3 (l.drop p)) w) := by
  refine (set_any b p s l hs hl hp w h hT hb0).mono fun e w' hq => ?_
  rcases hq with ⟨h1, h2, h3⟩ | ⟨t, n, h1, h2, h3, h4⟩
  · exact .inl ⟨by unfold o3; rw [h1]; rfl, h2, h3⟩
  · exact .inr ⟨⟨4, n, [], 0, cls t⟩, by unfold o3; rw [h1]; rfl, by rw [h2]; rfl, h3, h4⟩
theorem try4 : Calls Tryd.prog 23 #[.pointer (some ⟨b, 0, none⟩)] w (TPost b p l.length s (o4 (l.drop p)) w) := by
  refine (sign_any b p s l hs hl hp w h).mono fun e w' hq => ?_
  rcases hq with ⟨h1, h2, h3⟩ | ⟨t, h1, h2, h3, h4⟩
  · exact .inl ⟨by unfold o4; rw [h1]; rfl, h2, below_is_grown h3 _, p, hp, h.below h3⟩
  · exact .inr ⟨⟨5, t.length, t, 0, no⟩, by unfold o4; rw [h1]; rfl, by rw [h2, wcells_no 5 t 0 t.length], h3, h4⟩
end
end Go.Proofs.YtgmdfmckkfefgaaDoor

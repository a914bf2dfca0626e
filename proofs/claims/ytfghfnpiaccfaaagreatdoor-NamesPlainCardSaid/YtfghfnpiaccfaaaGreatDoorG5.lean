/- A word, read. Made by mk7d.py. -/
import Derived.Test.YtfghfnpiaccfaaaGreatDoorG5a
import Derived.Deep.RegionWith
import Derived.RangeFuncBox
import Derived.RangeFuncNested
import Derived.RangeFuncBound
import Derived.RangeFuncCalls
import Derived.RangeFuncLeaves
import Derived.OwnWalkIn
import Derived.TacticsInMore
import Derived.Test.YtfghfnpiaccfaaaGreatDoorG3
import Derived.Deep.CutRange
import Derived.LoopNIn
import Derived.LoopIn
import Derived.OrdersIn
set_option linter.unusedSimpArgs false
set_option linter.unusedVariables false
namespace Go.Proofs.YtfghfnpiaccfaaaGreatDoor
open Go Go.RowKit
set_option maxRecDepth 100000
/-- A word's cells, as a try has them; with its places. -/
abbrev wtry (x : Wd) : Array Value := #[.int .i64 x.kind, .int .i64 0, .int .i64 0, .string (bsv x.text), .int .i64 x.lev, .int .u64 (cw x.cls 0), .int .u64 (cw x.cls 1), .int .u64 (cw x.cls 2), .int .u64 (cw x.cls 3)]
abbrev wfull (x : Wd) (p : Nat) : Array Value := #[.int .i64 x.kind, .int .i64 p, .int .i64 (p + x.len : Nat), .string (bsv x.text), .int .i64 x.lev, .int .u64 (cw x.cls 0), .int .u64 (cw x.cls 1), .int .u64 (cw x.cls 2), .int .u64 (cw x.cls 3)]
theorem wcells_no (kind : Int) (t : List Nat) (lv : Int) (n : Nat) : wcells kind (bsv t) lv = wtry ⟨kind, n, t, lv, no⟩ := by
  have h : no = fun _ => false := rfl
  rw [wtry, wcells]
  simp only
  rw [h, cw_none, cw_none, cw_none, cw_none]
  rfl
/-- What each try looks for. -/
def o0 (r : List Nat) : Option Wd := match r with | [] => some ⟨1, 0, [], 0, no⟩ | _ => none
def o1 (r : List Nat) : Option Wd := match r with | [] => none | c :: t => if ltr c then some (nam (c :: t)) else none
def o2 (r : List Nat) : Option Wd := (quo r).map fun x => ⟨3, x.2, x.1, 0, no⟩
def o3 (r : List Nat) : Option Wd := (stq r).map fun x => ⟨4, x.2, [], 0, cls x.1⟩
def o4 (r : List Nat) : Option Wd := (sgn r).map fun t => ⟨5, t.length, t, 0, no⟩
theorem ltr_not {c : Nat} (h : ltr c = true) : c ≠ 34 ∧ c ≠ 91 ∧ c ≠ 60 ∧ c ∉ [47, 40, 41, 46, 59, 42, 43, 63, 33, 38] := by
  simp [ltr] at h
  simp
  omega
theorem wd_first (r : List Nat) : (o0 r).isSome ∨ o0 r = none := by cases o0 r <;> simp
theorem wd_0 {r : List Nat} {x : Wd} (h : o0 r = some x) : wd r = some x := by
  cases r with
  | nil => exact h
  | cons c t => cases h
theorem wd_1 {r : List Nat} {x : Wd} (h : o1 r = some x) : wd r = some x := by
  cases r with
  | nil => cases h
  | cons c t =>
    simp only [o1] at h
    by_cases hc : ltr c = true
    · rw [if_pos hc] at h
      simp only [wd, if_pos hc]
      exact h
    · rw [if_neg hc] at h; cases h
theorem wd_2 {r : List Nat} {x : Wd} (h1 : o1 r = none) (h : o2 r = some x) : wd r = some x := by
  cases r with
  | nil => simp [o2, quo] at h
  | cons c t =>
    by_cases hc : ltr c = true
    · simp [o1, hc] at h1
    · simp only [wd, if_neg hc]
      by_cases h34 : c = 34
      · subst h34
        simp only [o2, quo, List.head?_cons, if_true, List.drop_succ_cons, List.drop_zero, Option.map_map] at h
        simp only [if_true]
        exact h
      · simp [o2, quo, h34] at h
theorem wd_3 {r : List Nat} {x : Wd} (h1 : o1 r = none) (h : o3 r = some x) : wd r = some x := by
  cases r with
  | nil => simp [o3, stq] at h
  | cons c t =>
    by_cases hc : ltr c = true
    · simp [o1, hc] at h1
    · simp only [wd, if_neg hc]
      by_cases h91 : c = 91
      · subst h91
        simp only [o3, stq, List.head?_cons, if_true, List.drop_succ_cons, List.drop_zero, Option.map_map] at h
        simp only [if_true]
        exact h
      · simp [o3, stq, h91] at h
theorem wd_4 {r : List Nat} {x : Wd} (h1 : o1 r = none) (h : o4 r = some x) : wd r = some x := by
  cases r with
  | nil => cases h
  | cons c t =>
    by_cases hc : ltr c = true
    · simp [o1, hc] at h1
    · simp only [wd, if_neg hc]
      by_cases h34 : c = 34
      · subst h34; simp [o4, sgn] at h
      · by_cases h91 : c = 91
        · subst h91; simp [o4, sgn] at h
        · rw [if_neg h34, if_neg h91]
          exact h
theorem wd_5 {r : List Nat} (h0 : o0 r = none) (h1 : o1 r = none) (h2 : o2 r = none) (h3 : o3 r = none) (h4 : o4 r = none) : wd r = none := by
  cases r with
  | nil => cases h0
  | cons c t =>
    by_cases hc : ltr c = true
    · simp [o1, hc] at h1
    · simp only [wd, if_neg hc]
      by_cases h34 : c = 34
      · subst h34
        simp only [o2, quo, List.head?_cons, if_true, List.drop_succ_cons, List.drop_zero, Option.map_map] at h2
        simp only [if_true]
        cases hq : QT t with
        | none => rfl
        | some y => rw [hq] at h2; cases h2
      · by_cases h91 : c = 91
        · subst h91
          simp only [o3, stq, List.head?_cons, if_true, List.drop_succ_cons, List.drop_zero, Option.map_map] at h3
          simp only [if_neg h34, if_true]
          cases hq : ST t with
          | none => rfl
          | some y => rw [hq] at h3; cases h3
        · rw [if_neg h34, if_neg h91]
          exact h4
/-- What a try tells. -/
def TPost (b p m : Nat) (s : ByteArray) (o : Option Wd) (w : World) (e : Ending) (w' : World) : Prop :=
  (o = none ∧ e = .returned (.tuple #[.agg wzero, .bool false]) ∧ Some' w w' b s m) ∨ ∃ x, o = some x ∧ e = .returned (.tuple #[.agg (wtry x), .bool true]) ∧ w.grownBy w' (some b) ∧ Rd w' b s (p + x.len)
theorem TPost.no {b p m : Nat} {s : ByteArray} {o : Option Wd} {w : World} {e : Ending} {w' : World} (h : TPost b p m s o w e w') (ho : o = none) : e = .returned (.tuple #[.agg wzero, .bool false]) ∧ Some' w w' b s m := by
  rcases h with ⟨_, h1, h2⟩ | ⟨x, h1, _⟩
  · exact ⟨h1, h2⟩
  · rw [ho] at h1; cases h1
theorem TPost.yes {b p m : Nat} {s : ByteArray} {o : Option Wd} {w : World} {e : Ending} {w' : World} {x : Wd} (h : TPost b p m s o w e w') (ho : o = some x) : e = .returned (.tuple #[.agg (wtry x), .bool true]) ∧ w.grownBy w' (some b) ∧ Rd w' b s (p + x.len) := by
  rcases h with ⟨h1, _⟩ | ⟨y, h1, h2⟩
  · rw [ho] at h1; cases h1
  · rw [ho] at h1; cases h1; exact h2
section
variable (b p : Nat) (s : ByteArray) (l : List Nat) (hs : Str s l) (hl : l.length ≤ 60000) (hp : p ≤ l.length) (w : World) (h : Rd w b s p)
include hs hl hp h
theorem try0 : Calls Tryz.prog 199 #[.pointer (some ⟨b, 0, none⟩)] w (TPost b p l.length s (o0 (l.drop p)) w) := by
  have hz := And.intro hs.size hl
  by_cases hlt : p < l.length
  · refine (end_no b p s (by omega) w h).mono fun e w' ⟨he, hb⟩ => .inl ⟨?_, he, below_is_grown hb _, p, hp, h.below hb⟩
    rw [List.drop_eq_getElem_cons hlt]
    rfl
  · refine (end_yes b p s (by omega) w h).mono fun e w' ⟨he, hb⟩ => .inr ⟨⟨1, 0, [], 0, no⟩, ?_, ?_, below_is_grown hb _, h.below hb⟩
    · rw [List.drop_of_length_le (by omega)]
      rfl
    · rw [he, ← wcells_no 1 [] 0 0]
      rfl
theorem try1 : Calls Tryz.prog 200 #[.pointer (some ⟨b, 0, none⟩)] w (TPost b p l.length s (o1 (l.drop p)) w) := by
  by_cases hc : p < l.length ∧ ltr (l.getD p 0) = true
  · obtain ⟨hlt, hc⟩ := hc
    have e1 : l.drop p = l.getD p 0 :: l.drop (p + 1) := by rw [List.drop_eq_getElem_cons hlt]; simp [List.getD, List.getElem?_eq_getElem hlt]
    have en : nam (l.drop p) = ⟨2, lead inm (l.drop p) + (lvR (l.drop (p + lead inm (l.drop p)))).2, (l.drop p).take (lead inm (l.drop p)), (lvR (l.drop (p + lead inm (l.drop p)))).1, no⟩ := by
      unfold nam
      rw [namR_lvR, List.drop_drop]
    have hle := lead_le inm (l.drop p)
    rw [List.length_drop] at hle
    refine (name_yes b p (lead inm (l.drop p)) (lvR (l.drop (p + lead inm (l.drop p)))).2 (lvR (l.drop (p + lead inm (l.drop p)))).1 s l hs hl hlt hc rfl rfl w h).mono fun e w' ⟨he, hg, hR⟩ => .inr ⟨nam (l.drop p), ?_, ?_, hg, ?_⟩
    · rw [e1]; simp only [o1, if_pos hc]
    · have ht := (hs.extract p (p + lead inm (l.drop p))).eq
      rw [Nat.add_sub_cancel_left] at ht
      rw [he, ht, en, wcells_no]
    · rw [en]; rw [Nat.add_assoc] at hR; exact hR
  · have hi : ∀ c r, l.drop p = c :: r → ltr c = false := fun c r e => by
      have hlt : p < l.length := by
        apply Nat.lt_of_not_le
        intro hge
        rw [List.drop_of_length_le hge] at e
        cases e
      have e1 : l.drop p = l.getD p 0 :: l.drop (p + 1) := by rw [List.drop_eq_getElem_cons hlt]; simp [List.getD, List.getElem?_eq_getElem hlt]
      rw [e1] at e
      simp only [List.cons.injEq] at e
      rw [← e.1]
      cases hq : ltr (l.getD p 0) with
      | false => rfl
      | true => exact absurd ⟨hlt, hq⟩ hc
    refine (name_no b p s l hs hp hi w h).mono fun e w' ⟨he, hb⟩ => .inl ⟨?_, he, below_is_grown hb _, p, hp, h.below hb⟩
    cases hd : l.drop p with
    | nil => rfl
    | cons c r => simp [o1, hi c r hd]
theorem try2 (hT : Tab w) (hb0 : b ≠ 2) : Calls Tryz.prog 201 #[.pointer (some ⟨b, 0, none⟩)] w (TPost b p l.length s (o2 (l.drop p)) w) := by
  refine (quoted_any b p s l hs hl hp w h hT hb0).mono fun e w' hq => ?_
  rcases hq with ⟨h1, h2, h3⟩ | ⟨t, n, h1, h2, h3, h4⟩
  · exact .inl ⟨by unfold o2; rw [h1]; rfl, h2, h3⟩
  · exact .inr ⟨⟨3, n, t, 0, no⟩, by unfold o2; rw [h1]; rfl, by rw [h2, wcells_no 3 t 0 n], h3, h4⟩
theorem try3 (hT : Tab w) (hb0 : b ≠ 2) : Calls Tryz.prog 202 #[.pointer (some ⟨b, 0, none⟩)] w (TPost b p l.length s (o3 (l.drop p)) w) := by
  refine (set_any b p s l hs hl hp w h hT hb0).mono fun e w' hq => ?_
  rcases hq with ⟨h1, h2, h3⟩ | ⟨t, n, h1, h2, h3, h4⟩
  · exact .inl ⟨by unfold o3; rw [h1]; rfl, h2, h3⟩
  · exact .inr ⟨⟨4, n, [], 0, cls t⟩, by unfold o3; rw [h1]; rfl, by rw [h2]; rfl, h3, h4⟩
theorem try4 : Calls Tryz.prog 203 #[.pointer (some ⟨b, 0, none⟩)] w (TPost b p l.length s (o4 (l.drop p)) w) := by
  refine (sign_any b p s l hs hl hp w h).mono fun e w' hq => ?_
  rcases hq with ⟨h1, h2, h3⟩ | ⟨t, h1, h2, h3, h4⟩
  · exact .inl ⟨by unfold o4; rw [h1]; rfl, h2, below_is_grown h3 _, p, hp, h.below h3⟩
  · exact .inr ⟨⟨5, t.length, t, 0, no⟩, by unfold o4; rw [h1]; rfl, by rw [h2, wcells_no 5 t 0 t.length], h3, h4⟩
end
end Go.Proofs.YtfghfnpiaccfaaaGreatDoor
namespace Go.Proofs.YtfghfnpiaccfaaaGreatDoor
open Go Go.RowKit
set_option maxRecDepth 100000
/-- What is told of the word ahead. -/
def WPost (b p : Nat) (s : ByteArray) (o : Option Wd) (w : World) (e : Ending) (w' : World) : Prop :=
  w.grownBy w' (some b) ∧ ((o = none ∧ e = .returned (.tuple #[.agg wzero, .bool false]) ∧ Rd w' b s p) ∨ ∃ x, o = some x ∧ e = .returned (.tuple #[.agg (wfull x p), .bool true]) ∧ Rd w' b s (p + x.len))
abbrev rowF (b : Nat) : Array Value := #[.func (.func 199) #[.pointer (some ⟨b, 0, none⟩)] #[], .func (.func 200) #[.pointer (some ⟨b, 0, none⟩)] #[], .func (.func 201) #[.pointer (some ⟨b, 0, none⟩)] #[], .func (.func 202) #[.pointer (some ⟨b, 0, none⟩)] #[], .func (.func 203) #[.pointer (some ⟨b, 0, none⟩)] #[]]
theorem wfull_1 {w : World} {B : Nat} {x : Wd} {p : Nat} (h : Blk w B (wtry x) 156) (y : Int) (e : y = (p + x.len : Nat)) : Blk ((w.setCell ⟨B, 1, none⟩ (.int .i64 p)).setCell ⟨B, 2, none⟩ (.int .i64 y)) B (wfull x p) 156 := by
  subst e
  exact heap_setCell_same _ B 2 _ 156 _ (heap_setCell_same w B 1 _ 156 _ h)
theorem grown_drew {a w : World} {r : Option Nat} (h : a.grownBy w r) : a.grownBy w.drew r := ⟨h.os, h.tape, h.output, h.size, h.block⟩
theorem two_grown (w : World) (B i j : Nat) (u v : Value) : w.grownBy ((w.setCell ⟨B, i, none⟩ u).setCell ⟨B, j, none⟩ v) (some B) :=
  ⟨rfl, rfl, rfl, by simp, fun k _ hn => (heap_setCell_other _ ⟨B, j, none⟩ k v (fun e => hn (by rw [e]))).trans (heap_setCell_other w ⟨B, i, none⟩ k u (fun e => hn (by rw [e])))⟩
set_option maxRecDepth 100000 in
set_option maxHeartbeats 16000000 in
theorem word_any (b k : Nat) (s : ByteArray) (l : List Nat) (hs : Str s l) (hl : l.length ≤ 60000) (hk : k ≤ l.length) (w : World) (h : Rd w b s k) (hT : Tab w) (hb0 : b ≠ 2) :
    Calls Tryz.prog 146 #[.pointer (some ⟨b, 0, none⟩)] w (WPost b (k + sk false (l.drop k)) s (wd (l.drop (k + sk false (l.drop k)))) w) := by
  have hbw := h.lt
  have SK := Lib.hid (fun W hW => skip_any b k s l hs hl hk W hW)
  have hsk := sk_le (l.drop k) false
  rw [List.length_drop] at hsk
  obtain ⟨p, ep⟩ : ∃ p, p = k + sk false (l.drop k) := ⟨_, rfl⟩
  rw [← ep] at SK ⊢
  have hp : p ≤ l.length := by omega
  have T0 := Lib.hid (fun W hW (_ : Tab W) => try0 b p s l hs hl hp W hW)
  have T1 := Lib.hid (fun W hW (_ : Tab W) => try1 b p s l hs hl hp W hW)
  have T2 := Lib.hid (fun W hW hTW => try2 b p s l hs hl hp W hW hTW hb0)
  have T3 := Lib.hid (fun W hW hTW => try3 b p s l hs hl hp W hW hTW hb0)
  have T4 := Lib.hid (fun W hW (_ : Tab W) => try4 b p s l hs hl hp W hW)
  have D0 := Lib.hid (fun x => wd_0 (r := l.drop p) (x := x))
  have D1 := Lib.hid (fun x => wd_1 (r := l.drop p) (x := x))
  have D2 := Lib.hid (fun x => wd_2 (r := l.drop p) (x := x))
  have D3 := Lib.hid (fun x => wd_3 (r := l.drop p) (x := x))
  have D4 := Lib.hid (fun x => wd_4 (r := l.drop p) (x := x))
  have D5 := Lib.hid (wd_5 (r := l.drop p))
  have L6 := Lib.hid (fun x (e : wd (l.drop p) = some x) => (wd_ok (fun y hy => hs.lt y (List.mem_of_mem_drop hy)) e).1)
  obtain ⟨d, ed⟩ : ∃ d, d = wd (l.drop p) := ⟨_, rfl⟩
  obtain ⟨a0, e0⟩ : ∃ a, a = o0 (l.drop p) := ⟨_, rfl⟩
  obtain ⟨a1, e1⟩ : ∃ a, a = o1 (l.drop p) := ⟨_, rfl⟩
  obtain ⟨a2, e2⟩ : ∃ a, a = o2 (l.drop p) := ⟨_, rfl⟩
  obtain ⟨a3, e3⟩ : ∃ a, a = o3 (l.drop p) := ⟨_, rfl⟩
  obtain ⟨a4, e4⟩ : ∃ a, a = o4 (l.drop p) := ⟨_, rfl⟩
  rw [← ed] at D0 D1 D2 D3 D4 D5 L6 ⊢
  rw [← e0] at T0 D0 D5
  rw [← e1] at T1 D1 D2 D3 D4 D5
  rw [← e2] at T2 D2 D5
  rw [← e3] at T3 D3 D5
  rw [← e4] at T4 D4 D5
  have HH := Lib.hid (h.below (B1 w (.cells wzero 156)))
  have HT := Lib.hid (hT.below (B1 w (.cells wzero 156)))
  have K0 := Lib.hid (Blk.new w wzero 156)
  have hp6 : (p : Int) ≤ 60000 := by omega
  clear h hT ed e0 e1 e2 e3 e4 hs ep hsk
  go_enter Tryz.func146, Tryz.ntmps146
  go_wp2_with (go_at_call 198; (with_reducible refine (SK.out _ HH.out).mono ?_); rintro e w1 ⟨rfl, hg, hR⟩; have K1 := Lib.hid (K0.out.grown hg (by simp; omega)); have R1 := Lib.hid hR; have U1 := Lib.hid (HT.out.grown hg hb0); have G1 := Lib.hid (grown_trans (below_is_grown (B1 w _) (some b)) hg); have c1 := hR.cells.2; clear hg hR)
  obtain ⟨w2, ew⟩ : ∃ u, u = w1.alloc (.cells (rowF b) 216) := ⟨_, rfl⟩
  obtain ⟨B5, eB⟩ : ∃ B5, B5 = w1.heap.size := ⟨_, rfl⟩
  have F2 : RowKit.Hid (Blk w2 B5 (rowF b) 216) := Lib.hid (by rw [ew, eB]; exact Blk.new _ _ _)
  have K2 : RowKit.Hid (Blk w2 w.heap.size wzero 156) := Lib.hid (by rw [ew]; exact K1.out.alloc _)
  have R2 : RowKit.Hid (Rd w2 b s p) := Lib.hid (by rw [ew]; exact R1.out.below (B1 _ _))
  have U2 : RowKit.Hid (Tab w2) := Lib.hid (by rw [ew]; exact U1.out.below (B1 _ _))
  have G2 : RowKit.Hid (w.grownBy w2 (some b)) := Lib.hid (by rw [ew]; exact grown_on G1.out (B1 _ _))
  have N5 : RowKit.Hid (w.heap.size < B5) := Lib.hid (by rw [eB]; exact K1.out.lt)
  rw [← ew, ← eB]
  clear ew eB c1
  go_loopw [6, 7, 8, 30] (fun _ _ _ i wr => ∃ q : Nat, q ≤ 5 ∧ i = .int .i64 q ∧ Rd wr b s p ∧ Blk wr w.heap.size wzero 156 ∧ Blk wr B5 (rowF b) 216 ∧ w.grownBy wr (some b) ∧ Tab wr ∧ (1 ≤ q → a0 = none) ∧ (2 ≤ q → a1 = none) ∧ (3 ≤ q → a2 = none) ∧ (4 ≤ q → a3 = none) ∧ (5 ≤ q → a4 = none)) (fun _ _ _ i _ => 5 - (intOf i).toNat)
  case atStart => exact ⟨0, by omega, rfl, R2.out, K2.out, F2.out, G2.out, U2.out, fun h => by omega, fun h => by omega, fun h => by omega, fun h => by omega, fun h => by omega⟩
  case round =>
    obtain ⟨q, hq, rfl, hR, hK, hF, hG, hU, z0, z1, z2, z3, z4⟩ := hrel
    have RR := Lib.hid hR
    have KR := Lib.hid hK
    have FR := Lib.hid hF
    have GR := Lib.hid hG
    have UR := Lib.hid hU
    have Z0 := Lib.hid z0
    have Z1 := Lib.hid z1
    have Z2 := Lib.hid z2
    have Z3 := Lib.hid z3
    have Z4 := Lib.hid z4
    clear hR hK hF hG hU z0 z1 z2 z3 z4
    obtain ⟨wa, rfl⟩ : ∃ u, u = wr := ⟨_, rfl⟩
    by_cases hq0 : q = 0
    · subst hq0
      have cc : wa.cell? ⟨B5, 0, none⟩ = some (.func (.func 199) #[.pointer (some ⟨b, 0, none⟩)] #[]) := FR.out.cell 0
      cases ha : a0 with
      | none =>
        have HA := Lib.hid ha
        have CA := Lib.hid ((T0.out wa RR.out UR.out).mono fun e w' h => TPost.no h ha)
        clear ha
        go_wp2_with (first | (go_at_call 199; (with_reducible refine CA.out.mono ?_); rintro e w3 ⟨rfl, hg, j, hj, hR⟩; have K3 := Lib.hid (KR.out.grown hg (by simp; omega)); have F3 := Lib.hid (FR.out.grown hg (by have := N5.out; simp; omega)); have R3 := Lib.hid hR; have U3 := Lib.hid (UR.out.grown hg hb0); have G3 := Lib.hid (grown_trans GR.out hg); have M3 := Lib.hid K3.out.lt; have O3 := Lib.hid F3.out.lt; have KA := Lib.hid (K3.out.alloc (.cells wzero 156)); have FA := Lib.hid (F3.out.alloc (.cells wzero 156)); clear hg hR) | (refine wpList_store_whole rfl 156 (.tmp 7) (.tmp 37) rfl w3.heap.size wzero rfl rfl 156 _ (Blk.new w3 wzero 156) (by kernel_rfl) (by rfl) (by simp [Value.oneCell']) ?_; intro w4 hk2 hg2; have K4 := Lib.hid (KA.out.grown hg2 (by have := M3.out; simp; omega)); have F4 := Lib.hid (FA.out.grown hg2 (by have := O3.out; simp; omega)); have G4 := Lib.hid (grown_new (grown_on G3.out (B1 w3 _)) hg2 (by have := M3.out; omega)); have R4 := Lib.hid ((R3.out.below (B1 w3 _)).grown hg2 (by have := R3.out.lt; omega)); have U4 := Lib.hid ((U3.out.below (B1 w3 _)).grown hg2 (by have := U3.out.pos; have := M3.out; omega)); have d1 := R4.out.cells.2; have f1 := Blk.frozen R4.out 1; clear hk2 hg2))
        have qq := Rd.set R4.out p p rfl
        have R5 := Lib.hid qq.1
        have G5 := Lib.hid qq.2
        clear qq
        go_roundw
        case rel => exact ⟨1, by omega, by go_num, R5.out, K4.out.grown G5.out (by simp; omega), F4.out.grown G5.out (by have := N5.out; simp; omega), grown_trans G4.out G5.out, U4.out.grown G5.out hb0, fun h => by first | exact HA.out | trivial, fun h => by omega, fun h => by omega, fun h => by omega, fun h => by omega⟩
        case measure => simp [intOf]
      | some x =>
        have CA := Lib.hid ((T0.out wa RR.out UR.out).mono fun e w' h => TPost.yes h ha)
        have DX : RowKit.Hid (d = some x) := Lib.hid (D0.out x ha)
        have LX := L6.out x DX.out
        rw [List.length_drop] at LX
        have HL6 := Lib.hid (show (p : Int) + x.len ≤ 120000 by omega)
        clear ha LX
        go_wp2_with (first | (go_at_call 199; (with_reducible refine CA.out.mono ?_); rintro e w3 ⟨rfl, hg, hR⟩; have K3 := Lib.hid (KR.out.grown hg (by simp; omega)); have R3 := Lib.hid hR; have G3 := Lib.hid (grown_trans GR.out hg); have M3 := Lib.hid K3.out.lt; have KA := Lib.hid (K3.out.alloc (.cells wzero 156)); clear hg hR) | (refine wpList_store_whole rfl 156 (.tmp 7) (.tmp 37) rfl w3.heap.size (wtry x) rfl rfl 156 _ (Blk.new w3 wzero 156) (by kernel_rfl) (by rfl) (by simp [Value.oneCell']) ?_; intro w4 hk2 hg2; have B4 := Lib.hid hk2; have K4 := Lib.hid (KA.out.grown hg2 (by have := M3.out; simp; omega)); have G4 := Lib.hid (grown_new (grown_on G3.out (B1 w3 _)) hg2 (by have := M3.out; omega)); have R4 := Lib.hid ((R3.out.below (B1 w3 _)).grown hg2 (by have := R3.out.lt; omega)); have d1 := R4.out.cells.2; have f1 := hk2.frozen 1; have f2 := hk2.frozen 2; have g1 := hk2.cell 1; have g2 := hk2.cell 2; simp only [wtry, List.getElem?_toArray, List.getElem?_cons_zero, List.getElem?_cons_succ] at g1 g2; have hne := (show ¬ b = w3.heap.size from by have := R3.out.lt; omega); clear hk2 hg2))
        go_region
        obtain ⟨w5, ew5⟩ : ∃ u, u = ((w4.setCell ⟨w3.heap.size, 1, none⟩ (.int .i64 p)).setCell ⟨w3.heap.size, 2, none⟩ (.int .i64 ((p : Int) + x.len))).drew := ⟨_, rfl⟩
        have g5 : w4.grownBy w5 (some w3.heap.size) := by rw [ew5]; exact grown_drew (two_grown _ _ _ _ _ _)
        have BW : Blk w5 w3.heap.size (wfull x p) 156 := by rw [ew5]; exact wfull_1 B4.out _ (by omega)
        have KW := Lib.hid (K4.out.grown g5 (by have := M3.out; simp; omega))
        have RW := Lib.hid (R4.out.grown g5 hne)
        have GG := Lib.hid (grown_new G4.out g5 (by have := M3.out; omega))
        have n0 := BW.cell 0
        have n1 := BW.cell 1
        have n2 := BW.cell 2
        have n3 := BW.cell 3
        have n4 := BW.cell 4
        have n5 := BW.cell 5
        have n6 := BW.cell 6
        have n7 := BW.cell 7
        have n8 := BW.cell 8
        simp only [wfull, List.getElem?_toArray, List.getElem?_cons_zero, List.getElem?_cons_succ] at n0 n1 n2 n3 n4 n5 n6 n7 n8
        rw [← ew5]
        clear d1 f1 f2 g1 g2 hne g5 BW ew5
        go_wp2_with (refine wpList_store_whole rfl 156 (.tmp 2) (.tmp 48) rfl w.heap.size (wfull x p) rfl rfl 156 _ KW.out (by kernel_rfl) (by rfl) (by simp [Value.oneCell']) ?_; intro w6 hk2 hg2; have K6 := Lib.hid hk2; have G6 := Lib.hid hg2; clear hk2 hg2)
        exact bodyPost_ret (results_cell_tmp rfl _ _ w.heap.size 156 _ _ _ rfl rfl K6.out Tryz.underlying156 rfl (by kernel_rfl)) rfl ⟨grown_new GG.out G6.out (Nat.le_refl _), .inr ⟨x, DX.out, rfl, RW.out.grown G6.out (by omega)⟩⟩

    by_cases hq1 : q = 1
    · subst hq1
      have cc : wa.cell? ⟨B5, 1, none⟩ = some (.func (.func 200) #[.pointer (some ⟨b, 0, none⟩)] #[]) := FR.out.cell 1
      cases ha : a1 with
      | none =>
        have HA := Lib.hid ha
        have CA := Lib.hid ((T1.out wa RR.out UR.out).mono fun e w' h => TPost.no h ha)
        clear ha
        go_wp2_with (first | (go_at_call 200; (with_reducible refine CA.out.mono ?_); rintro e w3 ⟨rfl, hg, j, hj, hR⟩; have K3 := Lib.hid (KR.out.grown hg (by simp; omega)); have F3 := Lib.hid (FR.out.grown hg (by have := N5.out; simp; omega)); have R3 := Lib.hid hR; have U3 := Lib.hid (UR.out.grown hg hb0); have G3 := Lib.hid (grown_trans GR.out hg); have M3 := Lib.hid K3.out.lt; have O3 := Lib.hid F3.out.lt; have KA := Lib.hid (K3.out.alloc (.cells wzero 156)); have FA := Lib.hid (F3.out.alloc (.cells wzero 156)); clear hg hR) | (refine wpList_store_whole rfl 156 (.tmp 7) (.tmp 37) rfl w3.heap.size wzero rfl rfl 156 _ (Blk.new w3 wzero 156) (by kernel_rfl) (by rfl) (by simp [Value.oneCell']) ?_; intro w4 hk2 hg2; have K4 := Lib.hid (KA.out.grown hg2 (by have := M3.out; simp; omega)); have F4 := Lib.hid (FA.out.grown hg2 (by have := O3.out; simp; omega)); have G4 := Lib.hid (grown_new (grown_on G3.out (B1 w3 _)) hg2 (by have := M3.out; omega)); have R4 := Lib.hid ((R3.out.below (B1 w3 _)).grown hg2 (by have := R3.out.lt; omega)); have U4 := Lib.hid ((U3.out.below (B1 w3 _)).grown hg2 (by have := U3.out.pos; have := M3.out; omega)); have d1 := R4.out.cells.2; have f1 := Blk.frozen R4.out 1; clear hk2 hg2))
        have qq := Rd.set R4.out p p rfl
        have R5 := Lib.hid qq.1
        have G5 := Lib.hid qq.2
        clear qq
        go_roundw
        case rel => exact ⟨2, by omega, by go_num, R5.out, K4.out.grown G5.out (by simp; omega), F4.out.grown G5.out (by have := N5.out; simp; omega), grown_trans G4.out G5.out, U4.out.grown G5.out hb0, fun h => Z0.out (by omega), fun h => by first | exact HA.out | trivial, fun h => by omega, fun h => by omega, fun h => by omega⟩
        case measure => simp [intOf]
      | some x =>
        have CA := Lib.hid ((T1.out wa RR.out UR.out).mono fun e w' h => TPost.yes h ha)
        have DX : RowKit.Hid (d = some x) := Lib.hid (D1.out x ha)
        have LX := L6.out x DX.out
        rw [List.length_drop] at LX
        have HL6 := Lib.hid (show (p : Int) + x.len ≤ 120000 by omega)
        clear ha LX
        go_wp2_with (first | (go_at_call 200; (with_reducible refine CA.out.mono ?_); rintro e w3 ⟨rfl, hg, hR⟩; have K3 := Lib.hid (KR.out.grown hg (by simp; omega)); have R3 := Lib.hid hR; have G3 := Lib.hid (grown_trans GR.out hg); have M3 := Lib.hid K3.out.lt; have KA := Lib.hid (K3.out.alloc (.cells wzero 156)); clear hg hR) | (refine wpList_store_whole rfl 156 (.tmp 7) (.tmp 37) rfl w3.heap.size (wtry x) rfl rfl 156 _ (Blk.new w3 wzero 156) (by kernel_rfl) (by rfl) (by simp [Value.oneCell']) ?_; intro w4 hk2 hg2; have B4 := Lib.hid hk2; have K4 := Lib.hid (KA.out.grown hg2 (by have := M3.out; simp; omega)); have G4 := Lib.hid (grown_new (grown_on G3.out (B1 w3 _)) hg2 (by have := M3.out; omega)); have R4 := Lib.hid ((R3.out.below (B1 w3 _)).grown hg2 (by have := R3.out.lt; omega)); have d1 := R4.out.cells.2; have f1 := hk2.frozen 1; have f2 := hk2.frozen 2; have g1 := hk2.cell 1; have g2 := hk2.cell 2; simp only [wtry, List.getElem?_toArray, List.getElem?_cons_zero, List.getElem?_cons_succ] at g1 g2; have hne := (show ¬ b = w3.heap.size from by have := R3.out.lt; omega); clear hk2 hg2))
        go_region
        obtain ⟨w5, ew5⟩ : ∃ u, u = ((w4.setCell ⟨w3.heap.size, 1, none⟩ (.int .i64 p)).setCell ⟨w3.heap.size, 2, none⟩ (.int .i64 ((p : Int) + x.len))).drew := ⟨_, rfl⟩
        have g5 : w4.grownBy w5 (some w3.heap.size) := by rw [ew5]; exact grown_drew (two_grown _ _ _ _ _ _)
        have BW : Blk w5 w3.heap.size (wfull x p) 156 := by rw [ew5]; exact wfull_1 B4.out _ (by omega)
        have KW := Lib.hid (K4.out.grown g5 (by have := M3.out; simp; omega))
        have RW := Lib.hid (R4.out.grown g5 hne)
        have GG := Lib.hid (grown_new G4.out g5 (by have := M3.out; omega))
        have n0 := BW.cell 0
        have n1 := BW.cell 1
        have n2 := BW.cell 2
        have n3 := BW.cell 3
        have n4 := BW.cell 4
        have n5 := BW.cell 5
        have n6 := BW.cell 6
        have n7 := BW.cell 7
        have n8 := BW.cell 8
        simp only [wfull, List.getElem?_toArray, List.getElem?_cons_zero, List.getElem?_cons_succ] at n0 n1 n2 n3 n4 n5 n6 n7 n8
        rw [← ew5]
        clear d1 f1 f2 g1 g2 hne g5 BW ew5
        go_wp2_with (refine wpList_store_whole rfl 156 (.tmp 2) (.tmp 48) rfl w.heap.size (wfull x p) rfl rfl 156 _ KW.out (by kernel_rfl) (by rfl) (by simp [Value.oneCell']) ?_; intro w6 hk2 hg2; have K6 := Lib.hid hk2; have G6 := Lib.hid hg2; clear hk2 hg2)
        exact bodyPost_ret (results_cell_tmp rfl _ _ w.heap.size 156 _ _ _ rfl rfl K6.out Tryz.underlying156 rfl (by kernel_rfl)) rfl ⟨grown_new GG.out G6.out (Nat.le_refl _), .inr ⟨x, DX.out, rfl, RW.out.grown G6.out (by omega)⟩⟩

    by_cases hq2 : q = 2
    · subst hq2
      have cc : wa.cell? ⟨B5, 2, none⟩ = some (.func (.func 201) #[.pointer (some ⟨b, 0, none⟩)] #[]) := FR.out.cell 2
      cases ha : a2 with
      | none =>
        have HA := Lib.hid ha
        have CA := Lib.hid ((T2.out wa RR.out UR.out).mono fun e w' h => TPost.no h ha)
        clear ha
        go_wp2_with (first | (go_at_call 201; (with_reducible refine CA.out.mono ?_); rintro e w3 ⟨rfl, hg, j, hj, hR⟩; have K3 := Lib.hid (KR.out.grown hg (by simp; omega)); have F3 := Lib.hid (FR.out.grown hg (by have := N5.out; simp; omega)); have R3 := Lib.hid hR; have U3 := Lib.hid (UR.out.grown hg hb0); have G3 := Lib.hid (grown_trans GR.out hg); have M3 := Lib.hid K3.out.lt; have O3 := Lib.hid F3.out.lt; have KA := Lib.hid (K3.out.alloc (.cells wzero 156)); have FA := Lib.hid (F3.out.alloc (.cells wzero 156)); clear hg hR) | (refine wpList_store_whole rfl 156 (.tmp 7) (.tmp 37) rfl w3.heap.size wzero rfl rfl 156 _ (Blk.new w3 wzero 156) (by kernel_rfl) (by rfl) (by simp [Value.oneCell']) ?_; intro w4 hk2 hg2; have K4 := Lib.hid (KA.out.grown hg2 (by have := M3.out; simp; omega)); have F4 := Lib.hid (FA.out.grown hg2 (by have := O3.out; simp; omega)); have G4 := Lib.hid (grown_new (grown_on G3.out (B1 w3 _)) hg2 (by have := M3.out; omega)); have R4 := Lib.hid ((R3.out.below (B1 w3 _)).grown hg2 (by have := R3.out.lt; omega)); have U4 := Lib.hid ((U3.out.below (B1 w3 _)).grown hg2 (by have := U3.out.pos; have := M3.out; omega)); have d1 := R4.out.cells.2; have f1 := Blk.frozen R4.out 1; clear hk2 hg2))
        have qq := Rd.set R4.out p p rfl
        have R5 := Lib.hid qq.1
        have G5 := Lib.hid qq.2
        clear qq
        go_roundw
        case rel => exact ⟨3, by omega, by go_num, R5.out, K4.out.grown G5.out (by simp; omega), F4.out.grown G5.out (by have := N5.out; simp; omega), grown_trans G4.out G5.out, U4.out.grown G5.out hb0, fun h => Z0.out (by omega), fun h => Z1.out (by omega), fun h => by first | exact HA.out | trivial, fun h => by omega, fun h => by omega⟩
        case measure => simp [intOf]
      | some x =>
        have CA := Lib.hid ((T2.out wa RR.out UR.out).mono fun e w' h => TPost.yes h ha)
        have DX : RowKit.Hid (d = some x) := Lib.hid (D2.out x (Z1.out (by omega)) ha)
        have LX := L6.out x DX.out
        rw [List.length_drop] at LX
        have HL6 := Lib.hid (show (p : Int) + x.len ≤ 120000 by omega)
        clear ha LX
        go_wp2_with (first | (go_at_call 201; (with_reducible refine CA.out.mono ?_); rintro e w3 ⟨rfl, hg, hR⟩; have K3 := Lib.hid (KR.out.grown hg (by simp; omega)); have R3 := Lib.hid hR; have G3 := Lib.hid (grown_trans GR.out hg); have M3 := Lib.hid K3.out.lt; have KA := Lib.hid (K3.out.alloc (.cells wzero 156)); clear hg hR) | (refine wpList_store_whole rfl 156 (.tmp 7) (.tmp 37) rfl w3.heap.size (wtry x) rfl rfl 156 _ (Blk.new w3 wzero 156) (by kernel_rfl) (by rfl) (by simp [Value.oneCell']) ?_; intro w4 hk2 hg2; have B4 := Lib.hid hk2; have K4 := Lib.hid (KA.out.grown hg2 (by have := M3.out; simp; omega)); have G4 := Lib.hid (grown_new (grown_on G3.out (B1 w3 _)) hg2 (by have := M3.out; omega)); have R4 := Lib.hid ((R3.out.below (B1 w3 _)).grown hg2 (by have := R3.out.lt; omega)); have d1 := R4.out.cells.2; have f1 := hk2.frozen 1; have f2 := hk2.frozen 2; have g1 := hk2.cell 1; have g2 := hk2.cell 2; simp only [wtry, List.getElem?_toArray, List.getElem?_cons_zero, List.getElem?_cons_succ] at g1 g2; have hne := (show ¬ b = w3.heap.size from by have := R3.out.lt; omega); clear hk2 hg2))
        go_region
        obtain ⟨w5, ew5⟩ : ∃ u, u = ((w4.setCell ⟨w3.heap.size, 1, none⟩ (.int .i64 p)).setCell ⟨w3.heap.size, 2, none⟩ (.int .i64 ((p : Int) + x.len))).drew := ⟨_, rfl⟩
        have g5 : w4.grownBy w5 (some w3.heap.size) := by rw [ew5]; exact grown_drew (two_grown _ _ _ _ _ _)
        have BW : Blk w5 w3.heap.size (wfull x p) 156 := by rw [ew5]; exact wfull_1 B4.out _ (by omega)
        have KW := Lib.hid (K4.out.grown g5 (by have := M3.out; simp; omega))
        have RW := Lib.hid (R4.out.grown g5 hne)
        have GG := Lib.hid (grown_new G4.out g5 (by have := M3.out; omega))
        have n0 := BW.cell 0
        have n1 := BW.cell 1
        have n2 := BW.cell 2
        have n3 := BW.cell 3
        have n4 := BW.cell 4
        have n5 := BW.cell 5
        have n6 := BW.cell 6
        have n7 := BW.cell 7
        have n8 := BW.cell 8
        simp only [wfull, List.getElem?_toArray, List.getElem?_cons_zero, List.getElem?_cons_succ] at n0 n1 n2 n3 n4 n5 n6 n7 n8
        rw [← ew5]
        clear d1 f1 f2 g1 g2 hne g5 BW ew5
        go_wp2_with (refine wpList_store_whole rfl 156 (.tmp 2) (.tmp 48) rfl w.heap.size (wfull x p) rfl rfl 156 _ KW.out (by kernel_rfl) (by rfl) (by simp [Value.oneCell']) ?_; intro w6 hk2 hg2; have K6 := Lib.hid hk2; have G6 := Lib.hid hg2; clear hk2 hg2)
        exact bodyPost_ret (results_cell_tmp rfl _ _ w.heap.size 156 _ _ _ rfl rfl K6.out Tryz.underlying156 rfl (by kernel_rfl)) rfl ⟨grown_new GG.out G6.out (Nat.le_refl _), .inr ⟨x, DX.out, rfl, RW.out.grown G6.out (by omega)⟩⟩

    by_cases hq3 : q = 3
    · subst hq3
      have cc : wa.cell? ⟨B5, 3, none⟩ = some (.func (.func 202) #[.pointer (some ⟨b, 0, none⟩)] #[]) := FR.out.cell 3
      cases ha : a3 with
      | none =>
        have HA := Lib.hid ha
        have CA := Lib.hid ((T3.out wa RR.out UR.out).mono fun e w' h => TPost.no h ha)
        clear ha
        go_wp2_with (first | (go_at_call 202; (with_reducible refine CA.out.mono ?_); rintro e w3 ⟨rfl, hg, j, hj, hR⟩; have K3 := Lib.hid (KR.out.grown hg (by simp; omega)); have F3 := Lib.hid (FR.out.grown hg (by have := N5.out; simp; omega)); have R3 := Lib.hid hR; have U3 := Lib.hid (UR.out.grown hg hb0); have G3 := Lib.hid (grown_trans GR.out hg); have M3 := Lib.hid K3.out.lt; have O3 := Lib.hid F3.out.lt; have KA := Lib.hid (K3.out.alloc (.cells wzero 156)); have FA := Lib.hid (F3.out.alloc (.cells wzero 156)); clear hg hR) | (refine wpList_store_whole rfl 156 (.tmp 7) (.tmp 37) rfl w3.heap.size wzero rfl rfl 156 _ (Blk.new w3 wzero 156) (by kernel_rfl) (by rfl) (by simp [Value.oneCell']) ?_; intro w4 hk2 hg2; have K4 := Lib.hid (KA.out.grown hg2 (by have := M3.out; simp; omega)); have F4 := Lib.hid (FA.out.grown hg2 (by have := O3.out; simp; omega)); have G4 := Lib.hid (grown_new (grown_on G3.out (B1 w3 _)) hg2 (by have := M3.out; omega)); have R4 := Lib.hid ((R3.out.below (B1 w3 _)).grown hg2 (by have := R3.out.lt; omega)); have U4 := Lib.hid ((U3.out.below (B1 w3 _)).grown hg2 (by have := U3.out.pos; have := M3.out; omega)); have d1 := R4.out.cells.2; have f1 := Blk.frozen R4.out 1; clear hk2 hg2))
        have qq := Rd.set R4.out p p rfl
        have R5 := Lib.hid qq.1
        have G5 := Lib.hid qq.2
        clear qq
        go_roundw
        case rel => exact ⟨4, by omega, by go_num, R5.out, K4.out.grown G5.out (by simp; omega), F4.out.grown G5.out (by have := N5.out; simp; omega), grown_trans G4.out G5.out, U4.out.grown G5.out hb0, fun h => Z0.out (by omega), fun h => Z1.out (by omega), fun h => Z2.out (by omega), fun h => by first | exact HA.out | trivial, fun h => by omega⟩
        case measure => simp [intOf]
      | some x =>
        have CA := Lib.hid ((T3.out wa RR.out UR.out).mono fun e w' h => TPost.yes h ha)
        have DX : RowKit.Hid (d = some x) := Lib.hid (D3.out x (Z1.out (by omega)) ha)
        have LX := L6.out x DX.out
        rw [List.length_drop] at LX
        have HL6 := Lib.hid (show (p : Int) + x.len ≤ 120000 by omega)
        clear ha LX
        go_wp2_with (first | (go_at_call 202; (with_reducible refine CA.out.mono ?_); rintro e w3 ⟨rfl, hg, hR⟩; have K3 := Lib.hid (KR.out.grown hg (by simp; omega)); have R3 := Lib.hid hR; have G3 := Lib.hid (grown_trans GR.out hg); have M3 := Lib.hid K3.out.lt; have KA := Lib.hid (K3.out.alloc (.cells wzero 156)); clear hg hR) | (refine wpList_store_whole rfl 156 (.tmp 7) (.tmp 37) rfl w3.heap.size (wtry x) rfl rfl 156 _ (Blk.new w3 wzero 156) (by kernel_rfl) (by rfl) (by simp [Value.oneCell']) ?_; intro w4 hk2 hg2; have B4 := Lib.hid hk2; have K4 := Lib.hid (KA.out.grown hg2 (by have := M3.out; simp; omega)); have G4 := Lib.hid (grown_new (grown_on G3.out (B1 w3 _)) hg2 (by have := M3.out; omega)); have R4 := Lib.hid ((R3.out.below (B1 w3 _)).grown hg2 (by have := R3.out.lt; omega)); have d1 := R4.out.cells.2; have f1 := hk2.frozen 1; have f2 := hk2.frozen 2; have g1 := hk2.cell 1; have g2 := hk2.cell 2; simp only [wtry, List.getElem?_toArray, List.getElem?_cons_zero, List.getElem?_cons_succ] at g1 g2; have hne := (show ¬ b = w3.heap.size from by have := R3.out.lt; omega); clear hk2 hg2))
        go_region
        obtain ⟨w5, ew5⟩ : ∃ u, u = ((w4.setCell ⟨w3.heap.size, 1, none⟩ (.int .i64 p)).setCell ⟨w3.heap.size, 2, none⟩ (.int .i64 ((p : Int) + x.len))).drew := ⟨_, rfl⟩
        have g5 : w4.grownBy w5 (some w3.heap.size) := by rw [ew5]; exact grown_drew (two_grown _ _ _ _ _ _)
        have BW : Blk w5 w3.heap.size (wfull x p) 156 := by rw [ew5]; exact wfull_1 B4.out _ (by omega)
        have KW := Lib.hid (K4.out.grown g5 (by have := M3.out; simp; omega))
        have RW := Lib.hid (R4.out.grown g5 hne)
        have GG := Lib.hid (grown_new G4.out g5 (by have := M3.out; omega))
        have n0 := BW.cell 0
        have n1 := BW.cell 1
        have n2 := BW.cell 2
        have n3 := BW.cell 3
        have n4 := BW.cell 4
        have n5 := BW.cell 5
        have n6 := BW.cell 6
        have n7 := BW.cell 7
        have n8 := BW.cell 8
        simp only [wfull, List.getElem?_toArray, List.getElem?_cons_zero, List.getElem?_cons_succ] at n0 n1 n2 n3 n4 n5 n6 n7 n8
        rw [← ew5]
        clear d1 f1 f2 g1 g2 hne g5 BW ew5
        go_wp2_with (refine wpList_store_whole rfl 156 (.tmp 2) (.tmp 48) rfl w.heap.size (wfull x p) rfl rfl 156 _ KW.out (by kernel_rfl) (by rfl) (by simp [Value.oneCell']) ?_; intro w6 hk2 hg2; have K6 := Lib.hid hk2; have G6 := Lib.hid hg2; clear hk2 hg2)
        exact bodyPost_ret (results_cell_tmp rfl _ _ w.heap.size 156 _ _ _ rfl rfl K6.out Tryz.underlying156 rfl (by kernel_rfl)) rfl ⟨grown_new GG.out G6.out (Nat.le_refl _), .inr ⟨x, DX.out, rfl, RW.out.grown G6.out (by omega)⟩⟩

    by_cases hq4 : q = 4
    · subst hq4
      have cc : wa.cell? ⟨B5, 4, none⟩ = some (.func (.func 203) #[.pointer (some ⟨b, 0, none⟩)] #[]) := FR.out.cell 4
      cases ha : a4 with
      | none =>
        have HA := Lib.hid ha
        have CA := Lib.hid ((T4.out wa RR.out UR.out).mono fun e w' h => TPost.no h ha)
        clear ha
        go_wp2_with (first | (go_at_call 203; (with_reducible refine CA.out.mono ?_); rintro e w3 ⟨rfl, hg, j, hj, hR⟩; have K3 := Lib.hid (KR.out.grown hg (by simp; omega)); have F3 := Lib.hid (FR.out.grown hg (by have := N5.out; simp; omega)); have R3 := Lib.hid hR; have U3 := Lib.hid (UR.out.grown hg hb0); have G3 := Lib.hid (grown_trans GR.out hg); have M3 := Lib.hid K3.out.lt; have O3 := Lib.hid F3.out.lt; have KA := Lib.hid (K3.out.alloc (.cells wzero 156)); have FA := Lib.hid (F3.out.alloc (.cells wzero 156)); clear hg hR) | (refine wpList_store_whole rfl 156 (.tmp 7) (.tmp 37) rfl w3.heap.size wzero rfl rfl 156 _ (Blk.new w3 wzero 156) (by kernel_rfl) (by rfl) (by simp [Value.oneCell']) ?_; intro w4 hk2 hg2; have K4 := Lib.hid (KA.out.grown hg2 (by have := M3.out; simp; omega)); have F4 := Lib.hid (FA.out.grown hg2 (by have := O3.out; simp; omega)); have G4 := Lib.hid (grown_new (grown_on G3.out (B1 w3 _)) hg2 (by have := M3.out; omega)); have R4 := Lib.hid ((R3.out.below (B1 w3 _)).grown hg2 (by have := R3.out.lt; omega)); have U4 := Lib.hid ((U3.out.below (B1 w3 _)).grown hg2 (by have := U3.out.pos; have := M3.out; omega)); have d1 := R4.out.cells.2; have f1 := Blk.frozen R4.out 1; clear hk2 hg2))
        have qq := Rd.set R4.out p p rfl
        have R5 := Lib.hid qq.1
        have G5 := Lib.hid qq.2
        clear qq
        go_roundw
        case rel => exact ⟨5, by omega, by go_num, R5.out, K4.out.grown G5.out (by simp; omega), F4.out.grown G5.out (by have := N5.out; simp; omega), grown_trans G4.out G5.out, U4.out.grown G5.out hb0, fun h => Z0.out (by omega), fun h => Z1.out (by omega), fun h => Z2.out (by omega), fun h => Z3.out (by omega), fun h => by first | exact HA.out | trivial⟩
        case measure => simp [intOf]
      | some x =>
        have CA := Lib.hid ((T4.out wa RR.out UR.out).mono fun e w' h => TPost.yes h ha)
        have DX : RowKit.Hid (d = some x) := Lib.hid (D4.out x (Z1.out (by omega)) ha)
        have LX := L6.out x DX.out
        rw [List.length_drop] at LX
        have HL6 := Lib.hid (show (p : Int) + x.len ≤ 120000 by omega)
        clear ha LX
        go_wp2_with (first | (go_at_call 203; (with_reducible refine CA.out.mono ?_); rintro e w3 ⟨rfl, hg, hR⟩; have K3 := Lib.hid (KR.out.grown hg (by simp; omega)); have R3 := Lib.hid hR; have G3 := Lib.hid (grown_trans GR.out hg); have M3 := Lib.hid K3.out.lt; have KA := Lib.hid (K3.out.alloc (.cells wzero 156)); clear hg hR) | (refine wpList_store_whole rfl 156 (.tmp 7) (.tmp 37) rfl w3.heap.size (wtry x) rfl rfl 156 _ (Blk.new w3 wzero 156) (by kernel_rfl) (by rfl) (by simp [Value.oneCell']) ?_; intro w4 hk2 hg2; have B4 := Lib.hid hk2; have K4 := Lib.hid (KA.out.grown hg2 (by have := M3.out; simp; omega)); have G4 := Lib.hid (grown_new (grown_on G3.out (B1 w3 _)) hg2 (by have := M3.out; omega)); have R4 := Lib.hid ((R3.out.below (B1 w3 _)).grown hg2 (by have := R3.out.lt; omega)); have d1 := R4.out.cells.2; have f1 := hk2.frozen 1; have f2 := hk2.frozen 2; have g1 := hk2.cell 1; have g2 := hk2.cell 2; simp only [wtry, List.getElem?_toArray, List.getElem?_cons_zero, List.getElem?_cons_succ] at g1 g2; have hne := (show ¬ b = w3.heap.size from by have := R3.out.lt; omega); clear hk2 hg2))
        go_region
        obtain ⟨w5, ew5⟩ : ∃ u, u = ((w4.setCell ⟨w3.heap.size, 1, none⟩ (.int .i64 p)).setCell ⟨w3.heap.size, 2, none⟩ (.int .i64 ((p : Int) + x.len))).drew := ⟨_, rfl⟩
        have g5 : w4.grownBy w5 (some w3.heap.size) := by rw [ew5]; exact grown_drew (two_grown _ _ _ _ _ _)
        have BW : Blk w5 w3.heap.size (wfull x p) 156 := by rw [ew5]; exact wfull_1 B4.out _ (by omega)
        have KW := Lib.hid (K4.out.grown g5 (by have := M3.out; simp; omega))
        have RW := Lib.hid (R4.out.grown g5 hne)
        have GG := Lib.hid (grown_new G4.out g5 (by have := M3.out; omega))
        have n0 := BW.cell 0
        have n1 := BW.cell 1
        have n2 := BW.cell 2
        have n3 := BW.cell 3
        have n4 := BW.cell 4
        have n5 := BW.cell 5
        have n6 := BW.cell 6
        have n7 := BW.cell 7
        have n8 := BW.cell 8
        simp only [wfull, List.getElem?_toArray, List.getElem?_cons_zero, List.getElem?_cons_succ] at n0 n1 n2 n3 n4 n5 n6 n7 n8
        rw [← ew5]
        clear d1 f1 f2 g1 g2 hne g5 BW ew5
        go_wp2_with (refine wpList_store_whole rfl 156 (.tmp 2) (.tmp 48) rfl w.heap.size (wfull x p) rfl rfl 156 _ KW.out (by kernel_rfl) (by rfl) (by simp [Value.oneCell']) ?_; intro w6 hk2 hg2; have K6 := Lib.hid hk2; have G6 := Lib.hid hg2; clear hk2 hg2)
        exact bodyPost_ret (results_cell_tmp rfl _ _ w.heap.size 156 _ _ _ rfl rfl K6.out Tryz.underlying156 rfl (by kernel_rfl)) rfl ⟨grown_new GG.out G6.out (Nat.le_refl _), .inr ⟨x, DX.out, rfl, RW.out.grown G6.out (by omega)⟩⟩

    obtain rfl : q = 5 := by omega
    have DN : RowKit.Hid (d = none) := Lib.hid (D5.out (Z0.out (by omega)) (Z1.out (by omega)) (Z2.out (by omega)) (Z3.out (by omega)) (Z4.out (by omega)))
    clear hq hq0 hq1 hq2 hq3 hq4
    go_wp2_with (refine wpList_store_whole rfl 156 (.tmp 2) (.tmp 55) rfl w.heap.size wzero rfl rfl 156 _ KR.out (by kernel_rfl) (by rfl) (by simp [Value.oneCell']) ?_; intro w5 hk2 hg2; have K5 := Lib.hid hk2; have G5 := Lib.hid hg2; clear hk2 hg2)
    exact bodyPost_ret (results_cell_tmp rfl _ _ w.heap.size 156 _ _ _ rfl rfl K5.out Tryz.underlying156 rfl (by kernel_rfl)) rfl ⟨grown_new GR.out G5.out (Nat.le_refl _), .inl ⟨DN.out, rfl, RR.out.grown G5.out (by omega)⟩⟩
end Go.Proofs.YtfghfnpiaccfaaaGreatDoor
namespace Go.Proofs.YtfghfnpiaccfaaaGreatDoor
open Go Go.RowKit
variable {P : Program}

/-- What J says it says of blocks below B. -/
def Low (B : Nat) (J : Nat → World → Prop) : Prop := ∀ (s : Nat) (A A' : World), J s A → Below B A A' → J s A'
/-- A round leaves what the function asked for, and what came since the function was called. -/
structure Left (G : Nat → Prop) (B : Nat) (A A' : World) : Prop where
  size : A.heap.size ≤ A'.heap.size
  block : ∀ k, k < A.heap.size → (G k ∨ B ≤ k) → A'.heap[k]? = A.heap[k]?
theorem Left.refl (G : Nat → Prop) (B : Nat) (A : World) : Left G B A A := ⟨Nat.le_refl _, fun _ _ _ => rfl⟩
theorem Left.trans {G : Nat → Prop} {B : Nat} {A A' A'' : World} (h : Left G B A A') (k : Left G B A' A'') : Left G B A A'' :=
  ⟨Nat.le_trans h.size k.size, fun i hi hg => (k.block i (Nat.lt_of_lt_of_le hi h.size) hg).trans (h.block i hi hg)⟩
theorem Left.below {G : Nat → Prop} {B : Nat} {A A' : World} (h : Below A.heap.size A A') : Left G B A A' := ⟨h.size, fun k hk _ => h.block k hk⟩
theorem Left.mono {G G' : Nat → Prop} {B B' : Nat} {A A' : World} (h : Left G B A A') (hg : ∀ k, k < A.heap.size → (G' k ∨ B' ≤ k) → (G k ∨ B ≤ k)) : Left G' B' A A' := ⟨h.size, fun k hk h' => h.block k hk (hg k hk h')⟩
theorem Left.setCell {G : Nat → Prop} {B : Nat} (A : World) (b o : Nat) (v : Value) (hG : ¬ G b) (hB : b < B) : Left G B A (A.setCell ⟨b, o, none⟩ v) :=
  ⟨by simp [World.setCell], fun k _ hg => Below.heap_setCell _ _ _ k (fun e => by rcases hg with h | h; exact hG (by rw [← show k = b from e]; exact h); have : k = b := e; omega)⟩

/-- The contract: N things in their turn, or a part of them. -/
def SeqN (n : Nat) (P : Program) (gf : Nat) (lb : Array Value) (encs : Nat → Array Value) (N : Nat) (G : Nat → Prop) (w : World) : Prop :=
  ∀ (l : Nat) (J Jx : Nat → World → Prop) (W : World), Below w.heap.size w W → Low W.heap.size J → Low W.heap.size Jx →
    (∀ k W1, J k W1 → W.heap.size ≤ W1.heap.size → k < N → YieldAt Fence.wide (n - 1) P l (encs k) W1 fun e W' =>
      (e = .returned (.bool true) ∧ J (k + 1) W' ∧ Left G W.heap.size W1 W') ∨ (e = .returned (.bool false) ∧ Jx (k + 1) W' ∧ Left (fun _ => False) W.heap.size W1 W')) →
    J 0 W → CallsIn Fence.wide n P gf (#[.func (.yield l) #[] #[]] ++ lb) W fun e W' => (∃ v, e = .returned v) ∧ (J N W' ∨ ∃ k, k ≤ N ∧ Jx k W')

/-- How a body may end. -/
def endN (G : Nat → Prop) (B : Nat) (I : Nat → World → Prop) (Ix : Code → Nat → World → Prop) (k : Nat) (W : World) : Exit → Act → World → Prop
  | .normal, _, W' => Left G B W W' ∧ I k W'
  | .ret, _, W' => Left (fun _ => False) B W W' ∧ Ix .ret k W'
  | .exit id, _, W' => Left (fun _ => False) B W W' ∧ Ix (.exit id) k W'
  | .goto t, _, W' => Left (fun _ => False) B W W' ∧ Ix (.goto t) k W'
  | .panic _, _, _ => False
  | .outgrown, _, _ => False

theorem below_putObj (W : World) (l B : Nat) (o : Obj) (h : B ≤ l) : Below B W (W.putObj l o) := ⟨rfl, rfl, rfl, by simp, fun k hk => World.putObj_heap_other (by omega)⟩

theorem wpIn_rangeFunc_n {n : Nat} {g : Operand} {ps : Array Tmp} {assign body : Code} {Q : Exit → Act → World → Prop} {a : Act} {w : World} (h1 : 1 ≤ n) {gf : Nat} {lb : Array Value}
    (hg : a.eval g = .func (.func gf) #[] lb) (eg : ∀ args w, (callFunc gf args).run P w = .ok (.enter gf args) w) {encs : Nat → Array Value} {N : Nat} {G : Nat → Prop} {w0 : World}
    (hseq : SeqN (n - 1) P gf lb encs N G w0) (hb0 : Below w0.heap.size w0 w) (hps : ∀ k, (encs k).size = ps.size) (hG : ∀ k, G k → k < w.heap.size)
    (I : Nat → World → Prop) (Ix : Code → Nat → World → Prop) (hI : Low w.heap.size I) (hIx : ∀ c, Low w.heap.size (Ix c)) (h0 : I 0 w) (a₁ : Nat → Act)
    (hassign : ∀ (l k : Nat) (W : World) (K : Act → World → Prop), K (a₁ k) W →
      assign.wpIn (Fence.wide.inRound l) (n - 1 - 1) P (Exit.then K (fun _ _ _ => False)) { tmps := (ps.zip (encs k)).foldl (fun t (p, v) => t.setIfInBounds p v) a.tmps, defers := [] } W)
    (hbody : ∀ (l k : Nat) (W : World), I k W → w.heap.size + 2 ≤ W.heap.size → k < N → body.wpIn (Fence.wide.inRound l) (n - 1 - 1) P (endN G w.heap.size I Ix (k + 1) W) (a₁ k) W)
    (hdone : ∀ (D : Nat) (W : World), w.heap.size ≤ D → I N W → W.heap[D]? = some (.deferred (some [])) → Q .normal { a with defers := { target := .collected D, args := #[] } :: a.defers } W)
    (hstop : ∀ (D : Nat) (c : Code) (k : Nat) (W : World), w.heap.size ≤ D → k ≤ N → Ix c k W → W.heap[D]? = some (.deferred (some [])) → c.wpIn Fence.wide n P Q { a with defers := { target := .collected D, args := #[] } :: a.defers } W) :
    (Code.rangeFunc g ps assign body).wpIn Fence.wide n P Q a w := by
  refine wpIn_rangeFunc ?_
  intro fn hfn
  show ∃ _, _
  let rec0 : LoopState → Option Code → Loop := fun st pe => { state := st, pending := pe, fn, tmps := a.tmps, params := ps, assign, body, defers := w.heap.size }
  obtain ⟨D, eD⟩ : ∃ D, D = w.heap.size := ⟨_, rfl⟩
  obtain ⟨W1, eW⟩ : ∃ W1, W1 = (w.alloc (.deferred (some []))).alloc (.loop (rec0 .ready none)) := ⟨_, rfl⟩
  have hB2 : Below w.heap.size w W1 := by rw [eW]; exact B2 _ _ _
  have hzz : W1.heap.size = D + 2 := by rw [eW, eD]; simp
  have hD : W1.heap[D]? = some (.deferred (some [])) := by
    rw [eW, eD]; exact (Below.heap_alloc _ _ _ (by simp)).trans (World.alloc_heap_new w _)
  have hL : W1.heap[D + 1]? = some (.loop (rec0 .ready none)) := by
    rw [eW, eD]; have := World.alloc_heap_new (w.alloc (.deferred (some []))) (.loop (rec0 .ready none)); rwa [World.size_alloc] at this
  have hI1 : I 0 W1 := hI 0 _ _ h0 hB2
  have keepI : ∀ (K : Nat → World → Prop) (hK : Low w.heap.size K) (k : Nat) (W : World) (o : Obj), K k W → K k (W.putObj (D + 1) o) := fun K hK k W o h => hK k _ _ h (below_putObj W (D + 1) _ o (by omega))
  refine ⟨D + 1, [{ target := .collected D, args := #[] }], W1, { target := .fn (.func gf) lb, args := #[.func (.yield (D + 1)) #[] #[]] }, W1, gf, #[.func (.yield (D + 1)) #[] #[]] ++ lb, W1, ?_, ?_, fun _ _ => trivial, ?_, fun _ => h1, ?_⟩
  · rw [eW, eD]; exact run_enterLoop_outer _ _ _ _ _
  · simp only [resolve, hg]
    simp [go_sem]
  · simp [invoke, go_sem, eg]
  refine (hseq (D + 1) (fun k W => I k W ∧ W.heap[D + 1]? = some (.loop (rec0 .ready none)) ∧ W.heap[D]? = some (.deferred (some [])))
    (fun k W => ∃ c, Ix c k W ∧ W.heap[D + 1]? = some (.loop (rec0 .done (some c))) ∧ W.heap[D]? = some (.deferred (some []))) W1 (hb0.trans (hB2.mono hb0.size)) ?_ ?_ ?_ ⟨hI1, hL, hD⟩).mono ?_
  · rintro s A A' ⟨hi, hl, hd⟩ hb
    exact ⟨hI s A A' hi (hb.mono (by omega)), (hb.block _ (by omega)).trans hl, (hb.block _ (by omega)).trans hd⟩
  · rintro s A A' ⟨c, hi, hl, hd⟩ hb
    exact ⟨c, hIx c s A A' hi (hb.mono (by omega)), (hb.block _ (by omega)).trans hl, (hb.block _ (by omega)).trans hd⟩
  · rintro k W ⟨hi, hl, hd⟩ hsz hk
    have hlt : D + 1 < W.heap.size := (Array.getElem?_eq_some_iff.1 hl).1
    refine ⟨fn, _, assign, body, run_yield (P := P) (args := encs k) hl (hps k), roundIn_of_wpIn hfn (hassign _ k W _ ⟨_, run_beginRound hl rfl, ?_⟩)⟩
    have hl2 : (W.putObj (D + 1) (.loop (rec0 .busy none))).heap[D + 1]? = some (.loop (rec0 .busy none)) := World.putObj_heap_same hlt
    have hd2 : (W.putObj (D + 1) (.loop (rec0 .busy none))).heap[D]? = some (.deferred (some [])) := (World.putObj_heap_other (by omega)).trans hd
    have hw2 : ∀ (X : World) (o : Obj), Left G (D + 2) X (X.putObj (D + 1) o) := fun X o => ⟨by simp, fun j _ hg => World.putObj_heap_other (by rcases hg with h | h; have := hG j h; omega; omega)⟩
    have hw3 : ∀ (X : World) (o : Obj), Left (fun _ => False) (D + 2) X (X.putObj (D + 1) o) := fun X o => ⟨by simp, fun j _ hg => World.putObj_heap_other (by rcases hg with h | h; exact h.elim; omega)⟩
    refine wpIn_mono (hbody _ k _ (keepI I hI k W _ hi) (by simp; omega) hk) ?_
    have fin : ∀ (jump : Option Code) (W3 : World), Left (fun _ => False) w.heap.size (W.putObj (D + 1) (.loop (rec0 .busy none))) W3 →
        (Instr.endRound (D + 1) jump).run P W3 = .ok (.bool jump.isNone) (W3.putObj (D + 1) (.loop (rec0 (if jump.isNone then .ready else .done) jump))) ∧
        (W3.putObj (D + 1) (.loop (rec0 (if jump.isNone then .ready else .done) jump))).heap[D + 1]? = some (.loop (rec0 (if jump.isNone then .ready else .done) jump)) ∧
        (W3.putObj (D + 1) (.loop (rec0 (if jump.isNone then .ready else .done) jump))).heap[D]? = some (.deferred (some [])) := fun jump W3 hk3 => by
      have hl3 := (hk3.block (D + 1) (by simpa using hlt) (.inr (by omega))).trans hl2
      have hd3 := (hk3.block D (by simp; omega) (.inr (by omega))).trans hd2
      exact ⟨run_endRound (P := P) jump hl3, World.putObj_heap_same (Array.getElem?_eq_some_iff.1 hl3).1, (World.putObj_heap_other (by omega)).trans hd3⟩
    rintro e a3 W3 hp
    cases e with
    | normal =>
      obtain ⟨hk3, hi3⟩ := hp
      obtain ⟨hr, hl4, hd4⟩ := fin none W3 (hk3.mono (fun j _ h => by rcases h with h | h; exact h.elim; exact .inr h))
      refine ⟨_, _, hr, .inl ⟨rfl, ⟨keepI I hI _ _ _ hi3, hl4, hd4⟩, ?_⟩⟩
      rw [hzz]
      exact ((hw2 _ _).trans (hk3.mono (fun j _ h => by rcases h with h | h; exact .inl h; exact .inr (by omega)))).trans (hw2 _ _)
    | ret =>
      obtain ⟨hk3, hi3⟩ := hp
      obtain ⟨hr, hl4, hd4⟩ := fin (some .ret) W3 hk3
      exact ⟨_, _, hr, .inr ⟨rfl, ⟨.ret, keepI _ (hIx _) _ _ _ hi3, hl4, hd4⟩, by rw [hzz]; exact ((hw3 _ _).trans (hk3.mono (fun j _ h => by rcases h with h | h; exact h.elim; exact .inr (by omega)))).trans (hw3 _ _)⟩⟩
    | exit id =>
      obtain ⟨hk3, hi3⟩ := hp
      obtain ⟨hr, hl4, hd4⟩ := fin (some (.exit id)) W3 hk3
      exact ⟨_, _, hr, .inr ⟨rfl, ⟨.exit id, keepI _ (hIx _) _ _ _ hi3, hl4, hd4⟩, by rw [hzz]; exact ((hw3 _ _).trans (hk3.mono (fun j _ h => by rcases h with h | h; exact h.elim; exact .inr (by omega)))).trans (hw3 _ _)⟩⟩
    | goto t =>
      obtain ⟨hk3, hi3⟩ := hp
      obtain ⟨hr, hl4, hd4⟩ := fin (some (.goto t)) W3 hk3
      exact ⟨_, _, hr, .inr ⟨rfl, ⟨.goto t, keepI _ (hIx _) _ _ _ hi3, hl4, hd4⟩, by rw [hzz]; exact ((hw3 _ _).trans (hk3.mono (fun j _ h => by rcases h with h | h; exact h.elim; exact .inr (by omega)))).trans (hw3 _ _)⟩⟩
    | panic ch => exact hp.elim
    | outgrown => exact hp.elim
  · rintro e W2 ⟨⟨v, rfl⟩, (⟨hi, hl, hd⟩ | ⟨k, hk, c, hi, hl, hd⟩)⟩
    · exact ⟨none, _, run_endLoop (P := P) hl (by simp [rec0]), hdone D _ (by omega) (keepI I hI _ _ _ hi) ((World.putObj_heap_other (by omega)).trans hd)⟩
    · exact ⟨some c, _, run_endLoop (P := P) hl (by simp [rec0]), hstop D c k _ (by omega) hk (keepI _ (hIx c) _ _ _ hi) ((World.putObj_heap_other (by omega)).trans hd)⟩
end Go.Proofs.YtfghfnpiaccfaaaGreatDoor
namespace Go.Proofs.YtfghfnpiaccfaaaGreatDoor
open Go Go.RowKit
variable {P : Program}
/-- All but the caller's own blocks is kept. -/
structure Keep (C : Nat → World → Prop) (A A' : World) : Prop where
  size : A.heap.size ≤ A'.heap.size
  block : ∀ j, j < A.heap.size → ¬ C j A → A'.heap[j]? = A.heap[j]?
/-- What J says is not said of a loop's own record. -/
def Aside (B : Nat) (J : Nat → World → Prop) : Prop := ∀ (s b : Nat) (A : World) (lp : Loop) (o : Obj), B ≤ b → J s A → A.heap[b]? = some (.loop lp) → J s (A.putObj b o)
/-- What J says stays as memory grows and block b turns. -/
def Turns (b : Nat) (J : Nat → World → Prop) : Prop := ∀ (s : Nat) (A A' : World), J s A → A.grownBy A' (some b) → J s A'
/-- The contract: N things in their turn, or a part of them; of the function's own blocks (T, b among them) none is the caller's (C). -/
def SeqM (n : Nat) (P : Program) (gf : Nat) (lb : Array Value) (encs : Nat → Array Value) (R : Nat → World → Prop) (N b : Nat) (T : Nat → Prop) (w : World) : Prop :=
  ∀ (l : Nat) (J Jx C : Nat → World → Prop) (W : World), Below w.heap.size w W → Turns b J → Turns b Jx → (∀ s A j, J s A → T j → ¬ C j A) → (∀ s A A' j, J s A → A.grownBy A' (some b) → C j A' → j < A.heap.size) →
    (∀ k W1, J k W1 → R k W1 → W.heap.size ≤ W1.heap.size → k < N → YieldAt Fence.wide (n - 1) P l (encs k) W1 fun e W' =>
      (e = .returned (.bool true) ∧ J (k + 1) W' ∧ Keep C W1 W') ∨ (e = .returned (.bool false) ∧ Jx (k + 1) W')) →
    J 0 W → CallsIn Fence.wide n P gf (#[.func (.yield l) #[] #[]] ++ lb) W fun e W' => (∃ v, e = .returned v) ∧ (J N W' ∨ ∃ k, k ≤ N ∧ Jx k W')
/-- How a body may end. -/
def endM (C : Nat → World → Prop) (I : Nat → World → Prop) (Ix : Code → Nat → World → Prop) (k B : Nat) (W : World) : Exit → Act → World → Prop
  | .normal, _, W' => Keep C W W' ∧ I k W'
  | .ret, _, W' => (∀ j, B ≤ j → j < W.heap.size → ¬ C j W → W'.heap[j]? = W.heap[j]?) ∧ W.heap.size ≤ W'.heap.size ∧ Ix .ret k W'
  | .exit _, _, _ => False
  | .goto _, _, _ => False
  | .panic _, _, _ => False
  | .outgrown, _, _ => False
theorem wpIn_rangeFunc_m {n : Nat} {g : Operand} {ps : Array Tmp} {assign body : Code} {Q : Exit → Act → World → Prop} {a : Act} {w : World} (h1 : 1 ≤ n) {gf : Nat} {lb : Array Value}
    (hg : a.eval g = .func (.func gf) #[] lb) (eg : ∀ args w, (callFunc gf args).run P w = .ok (.enter gf args) w) {encs : Nat → Array Value} {R : Nat → World → Prop} {N b : Nat} {T : Nat → Prop} {w0 : World}
    (hseq : SeqM (n - 1) P gf lb encs R N b T w0) (hb0 : Below w0.heap.size w0 w) (hps : ∀ k, (encs k).size = ps.size) (hT : ∀ j, T j → j < w.heap.size) (hbw : b < w.heap.size)
    (C : Nat → World → Prop) (I : Nat → World → Prop) (Ix : Code → Nat → World → Prop) (hI : Turns b I) (hIx : ∀ c, Turns b (Ix c)) (hIp : Aside w.heap.size I) (hIxp : ∀ c, Aside w.heap.size (Ix c)) (hRg : ∀ k A A', R k A → Below A.heap.size A A' → R k A') (hRp : Aside w.heap.size R)
    (hCT : ∀ s A j, I s A → T j → ¬ C j A) (hC1 : ∀ s A j, I s A → C j A → j < A.heap.size) (hC3 : ∀ s A A' j, I s A → A.grownBy A' (some b) → C j A' → C j A)
    (hCl : ∀ s A j lp, I s A → A.heap[j]? = some (.loop lp) → ¬ C j A) (hCd : ∀ s A j d, I s A → A.heap[j]? = some (.deferred d) → ¬ C j A)
    (hCp : ∀ s A lp o b' j, w.heap.size ≤ b' → I s A → A.heap[b']? = some (.loop lp) → C j (A.putObj b' o) → C j A) (h0 : I 0 w) (a₁ : Nat → Nat → Act) (ob : Nat → Obj)
    (hassign : ∀ (l k : Nat) (W : World) (K : Act → World → Prop), K (a₁ k W.heap.size) (W.alloc (ob k)) →
      assign.wpIn (Fence.wide.inRound l) (n - 1 - 1) P (Exit.then K (fun _ _ _ => False)) { tmps := (ps.zip (encs k)).foldl (fun t (p, v) => t.setIfInBounds p v) a.tmps, defers := [] } W)
    (hbody : ∀ (l k bl : Nat) (W : World), I k W → R k W → w.heap.size + 2 ≤ bl → W.heap[bl]? = some (ob k) → ¬ C bl W → k < N → body.wpIn (Fence.wide.inRound l) (n - 1 - 1) P (endM C I Ix (k + 1) w.heap.size W) (a₁ k bl) W)
    (hdone : ∀ (D : Nat) (W : World), w.heap.size ≤ D → I N W → W.heap[D]? = some (.deferred (some [])) → Q .normal { a with defers := { target := .collected D, args := #[] } :: a.defers } W)
    (hstop : ∀ (D : Nat) (c : Code) (k : Nat) (W : World), w.heap.size ≤ D → k ≤ N → Ix c k W → W.heap[D]? = some (.deferred (some [])) → c.wpIn Fence.wide n P Q { a with defers := { target := .collected D, args := #[] } :: a.defers } W) :
    (Code.rangeFunc g ps assign body).wpIn Fence.wide n P Q a w := by
  refine wpIn_rangeFunc ?_
  intro fn hfn
  show ∃ _, _
  let rec0 : LoopState → Option Code → Loop := fun st pe => { state := st, pending := pe, fn, tmps := a.tmps, params := ps, assign, body, defers := w.heap.size }
  obtain ⟨D, eD⟩ : ∃ D, D = w.heap.size := ⟨_, rfl⟩
  obtain ⟨W1, eW⟩ : ∃ W1, W1 = (w.alloc (.deferred (some []))).alloc (.loop (rec0 .ready none)) := ⟨_, rfl⟩
  have hB2 : Below w.heap.size w W1 := by rw [eW]; exact B2 _ _ _
  have hzz : W1.heap.size = D + 2 := by rw [eW, eD]; simp
  have hD : W1.heap[D]? = some (.deferred (some [])) := by
    rw [eW, eD]; exact (Below.heap_alloc _ _ _ (by simp)).trans (World.alloc_heap_new w _)
  have hL : W1.heap[D + 1]? = some (.loop (rec0 .ready none)) := by
    rw [eW, eD]; have := World.alloc_heap_new (w.alloc (.deferred (some []))) (.loop (rec0 .ready none)); rwa [World.size_alloc] at this
  have hI1 : I 0 W1 := hI 0 _ _ h0 (below_is_grown hB2 _)
  have keepI : ∀ (K : Nat → World → Prop) (hK : Aside w.heap.size K) (k : Nat) (W : World) (o : Obj) (lp : Loop), W.heap[D + 1]? = some (.loop lp) → K k W → K k (W.putObj (D + 1) o) := fun K hK k W o lp hl h => hK k _ _ lp o (by omega) h hl
  refine ⟨D + 1, [{ target := .collected D, args := #[] }], W1, { target := .fn (.func gf) lb, args := #[.func (.yield (D + 1)) #[] #[]] }, W1, gf, #[.func (.yield (D + 1)) #[] #[]] ++ lb, W1, ?_, ?_, fun _ _ => trivial, ?_, fun _ => h1, ?_⟩
  · rw [eW, eD]; exact run_enterLoop_outer _ _ _ _ _
  · simp only [resolve, hg]
    simp [go_sem]
  · simp [invoke, go_sem, eg]
  refine (hseq (D + 1) (fun k W => I k W ∧ W.heap[D + 1]? = some (.loop (rec0 .ready none)) ∧ W.heap[D]? = some (.deferred (some [])))
    (fun k W => ∃ c, Ix c k W ∧ W.heap[D + 1]? = some (.loop (rec0 .done (some c))) ∧ W.heap[D]? = some (.deferred (some []))) (fun j A => C j A ∨ j = D + 1) W1 (hb0.trans (hB2.mono hb0.size)) ?_ ?_ ?_ ?_ ?_ ⟨hI1, hL, hD⟩).mono ?_
  · rintro s A A' ⟨hi, hl, hd⟩ hb
    have q1 := (Array.getElem?_eq_some_iff.1 hl).1
    exact ⟨hI s A A' hi hb, (hb.block _ q1 (fun e => by have := Option.some.inj e; omega)).trans hl, (hb.block _ (by omega) (fun e => by have := Option.some.inj e; omega)).trans hd⟩
  · rintro s A A' ⟨c, hi, hl, hd⟩ hb
    have q1 := (Array.getElem?_eq_some_iff.1 hl).1
    exact ⟨c, hIx c s A A' hi hb, (hb.block _ q1 (fun e => by have := Option.some.inj e; omega)).trans hl, (hb.block _ (by omega) (fun e => by have := Option.some.inj e; omega)).trans hd⟩
  · rintro s A j ⟨hi, hl, hd⟩ hTj (hc | hc)
    · exact hCT s A j hi hTj hc
    · have := hT j hTj
      omega
  · rintro s A A' j ⟨hi, hl, hd⟩ hb (hc | hc)
    · exact hC1 s A j hi (hC3 s A A' j hi hb hc)
    · have q1 := (Array.getElem?_eq_some_iff.1 hl).1
      omega
  · rintro k WW ⟨hi0, hl0, hd0⟩ hR0 hsz hk
    have hlt0 : D + 1 < WW.heap.size := (Array.getElem?_eq_some_iff.1 hl0).1
    obtain ⟨W, eWW⟩ : ∃ W, W = WW.alloc (ob k) := ⟨_, rfl⟩
    have hbW : Below WW.heap.size WW W := by rw [eWW]; exact B1 _ _
    have hobW : W.heap[WW.heap.size]? = some (ob k) := by rw [eWW]; exact World.alloc_heap_new WW _
    have hszW : W.heap.size = WW.heap.size + 1 := by rw [eWW]; simp
    have hi : I k W := hI k _ _ hi0 (below_is_grown hbW _)
    have hRW : R k W := hRg k _ _ hR0 hbW
    have hl : W.heap[D + 1]? = some (.loop (rec0 .ready none)) := (hbW.block _ hlt0).trans hl0
    have hd : W.heap[D]? = some (.deferred (some [])) := (hbW.block _ (by omega)).trans hd0
    have hlt : D + 1 < W.heap.size := (Array.getElem?_eq_some_iff.1 hl).1
    refine ⟨fn, _, assign, body, run_yield (P := P) (args := encs k) hl0 (hps k), roundIn_of_wpIn hfn (hassign _ k WW _ ?_)⟩
    rw [← eWW]
    refine ⟨_, run_beginRound hl rfl, ?_⟩
    have hl2 : (W.putObj (D + 1) (.loop (rec0 .busy none))).heap[D + 1]? = some (.loop (rec0 .busy none)) := World.putObj_heap_same hlt
    have hd2 : (W.putObj (D + 1) (.loop (rec0 .busy none))).heap[D]? = some (.deferred (some [])) := (World.putObj_heap_other (by omega)).trans hd
    have hi2 : I k (W.putObj (D + 1) (.loop (rec0 .busy none))) := keepI I hIp k W _ _ hl hi
    have hcW : ∀ j, C j (W.putObj (D + 1) (.loop (rec0 .busy none))) → C j WW := fun j hj => hC3 k WW W j hi0 (below_is_grown hbW _) (hCp k W _ _ (D + 1) j (by omega) hi hl hj)
    have hcD : ¬ C (D + 1) (W.putObj (D + 1) (.loop (rec0 .busy none))) := hCl k _ _ _ hi2 hl2
    have hcd : ¬ C D (W.putObj (D + 1) (.loop (rec0 .busy none))) := hCd k _ _ _ hi2 hd2
    refine wpIn_mono (hbody _ k WW.heap.size _ hi2 (hRp k _ _ _ _ (by omega) hRW hl) (by omega) ((World.putObj_heap_other (by omega)).trans hobW) (fun hc => by have := hC1 k WW _ hi0 (hcW _ hc); omega) hk) ?_
    have fin : ∀ (jump : Option Code) (W3 : World), W3.heap[D + 1]? = some (.loop (rec0 .busy none)) → W3.heap[D]? = some (.deferred (some [])) →
        (Instr.endRound (D + 1) jump).run P W3 = .ok (.bool jump.isNone) (W3.putObj (D + 1) (.loop (rec0 (if jump.isNone then .ready else .done) jump))) ∧
        (W3.putObj (D + 1) (.loop (rec0 (if jump.isNone then .ready else .done) jump))).heap[D + 1]? = some (.loop (rec0 (if jump.isNone then .ready else .done) jump)) ∧
        (W3.putObj (D + 1) (.loop (rec0 (if jump.isNone then .ready else .done) jump))).heap[D]? = some (.deferred (some [])) := fun jump W3 hl3 hd3 =>
      ⟨run_endRound (P := P) jump hl3, World.putObj_heap_same (Array.getElem?_eq_some_iff.1 hl3).1, (World.putObj_heap_other (by omega)).trans hd3⟩
    rintro e a3 W3 hp
    cases e with
    | normal =>
      obtain ⟨hk3, hi3⟩ := hp
      have hl3 := (hk3.block (D + 1) (by simpa using hlt) hcD).trans hl2
      have hd3 := (hk3.block D (by simp; omega) hcd).trans hd2
      obtain ⟨hr, hl4, hd4⟩ := fin none W3 hl3 hd3
      refine ⟨_, _, hr, .inl ⟨rfl, ⟨keepI I hIp _ _ _ _ hl3 hi3, hl4, hd4⟩, ⟨?_, fun j hj hn => ?_⟩⟩⟩
      · have := hk3.size
        simp at this ⊢
        omega
      · have hn1 : ¬ C j WW := fun h => hn (.inl h)
        have hn2 : j ≠ D + 1 := fun h => hn (.inr h)
        exact (World.putObj_heap_other (by omega)).trans ((hk3.block j (by simp; omega) (fun h => hn1 (hcW j h))).trans ((World.putObj_heap_other (by omega)).trans (hbW.block j hj)))
    | ret =>
      obtain ⟨hk3, hsz3, hi3⟩ := hp
      have hl3 := (hk3 (D + 1) (by omega) (by simpa using hlt) hcD).trans hl2
      have hd3 := (hk3 D (by omega) (by simp; omega) hcd).trans hd2
      obtain ⟨hr, hl4, hd4⟩ := fin (some .ret) W3 hl3 hd3
      exact ⟨_, _, hr, .inr ⟨rfl, ⟨.ret, keepI _ (hIxp _) _ _ _ _ hl3 hi3, hl4, hd4⟩⟩⟩
    | exit id => exact hp.elim
    | goto t => exact hp.elim
    | panic ch => exact hp.elim
    | outgrown => exact hp.elim
  · rintro e W2 ⟨⟨v, rfl⟩, (⟨hi, hl, hd⟩ | ⟨k, hk, c, hi, hl, hd⟩)⟩
    · exact ⟨none, _, run_endLoop (P := P) hl (by simp [rec0]), hdone D _ (by omega) (keepI I hIp _ _ _ _ hl hi) ((World.putObj_heap_other (by omega)).trans hd)⟩
    · exact ⟨some c, _, run_endLoop (P := P) hl (by simp [rec0]), hstop D c k _ (by omega) hk (keepI _ (hIxp c) _ _ _ _ hl hi) ((World.putObj_heap_other (by omega)).trans hd)⟩
/-- A store of a whole value into a whole block, within a function that is ranged over. -/
theorem wpListIn_store_whole {F : Fence} {k : Nat} {w : World} {ops : Array Oper} {rest : List Oper} {o : Oper} {ac : Act} {Q : Exit → Act → World → Prop}
    (hgd : o.guard = none) (ty : TypeId) (x y : Operand) (hop : o.op = .store ty x y) (g : Nat) (cells : Array Value) (hx : ac.eval x = .pointer (some ⟨g, 0, none⟩)) (hy : ac.eval y = .agg cells)
    (t : TypeId) (old : Array Value) (hg : Blk w g old t) (hi : (P.info? ty).map (·.size) = some cells.size) (hold : old.size = cells.size) (h1 : cells.all (·.oneCell') = true)
    (hK : ∀ w', Blk w' g cells t → w.grownBy w' (some g) → wpListIn F k P ops Q rest (ac.put o.dst undef) w') : wpListIn F k P ops Q (o :: rest) ac w := by
  refine wpListIn_plain hgd fun K hK' => ?_
  unfold Oper.wpIn
  constructor
  · simp [Oper.about, hop, Sem.run_pure]
  · rw [Oper.semAt_plain F _ _ (by rw [hop]; intro c hc'; cases hc')]
    simp only [execOp, hop, hx, hy, Instr.storeAt, Instr.sureAddr, Sem.run_bind, Sem.run_pure, Result.andThen_ok, run_storeVar_row w g t ty old cells hg hi hold h1]
    exact hK' _ _ (hK _ hg.setRow (setRow_grown w g cells))
end Go.Proofs.YtfghfnpiaccfaaaGreatDoor
namespace Go.Proofs.YtfghfnpiaccfaaaGreatDoor
/-- Where the k-th word is looked for; where it would begin; it. -/
def pos (l : List Nat) : Nat → Nat
  | 0 => 0
  | k + 1 => match wd (l.drop (pos l k + sk false (l.drop (pos l k)))) with
    | some x => pos l k + sk false (l.drop (pos l k)) + x.len
    | none => pos l k + sk false (l.drop (pos l k))
def beg (l : List Nat) (k : Nat) : Nat := pos l k + sk false (l.drop (pos l k))
def ow (l : List Nat) (k : Nat) : Option Wd := wd (l.drop (beg l k))
def stp (l : List Nat) (k : Nat) : Bool := match ow l k with | none => true | some x => x.kind == 1
theorem pos_some {l : List Nat} {k : Nat} {x : Wd} (h : ow l k = some x) : pos l (k + 1) = beg l k + x.len := by
  have h' : wd (l.drop (pos l k + sk false (l.drop (pos l k)))) = some x := h
  rw [pos, h']
  rfl
theorem pos_none {l : List Nat} {k : Nat} (h : ow l k = none) : pos l (k + 1) = beg l k := by
  have h' : wd (l.drop (pos l k + sk false (l.drop (pos l k)))) = none := h
  rw [pos, h']
  rfl
theorem drop_lt {l : List Nat} (hl : ∀ x ∈ l, x < 256) (k : Nat) : ∀ x ∈ l.drop k, x < 256 := fun x hx => hl x (List.mem_of_mem_drop hx)
theorem pos_le {l : List Nat} (hl : ∀ x ∈ l, x < 256) : ∀ k, pos l k ≤ l.length
  | 0 => Nat.zero_le _
  | k + 1 => by
    have h1 := pos_le hl k
    have h2 := sk_le (l.drop (pos l k)) false
    rw [List.length_drop] at h2
    cases h : ow l k with
    | none => rw [pos_none h]; unfold beg; omega
    | some x =>
      have h3 := (wd_ok (drop_lt hl _) h).1
      rw [List.length_drop] at h3
      rw [pos_some h]
      unfold beg at h3 ⊢
      omega
theorem beg_le {l : List Nat} (hl : ∀ x ∈ l, x < 256) (k : Nat) : beg l k ≤ l.length := by
  have h1 := pos_le hl k
  have h2 := sk_le (l.drop (pos l k)) false
  rw [List.length_drop] at h2
  unfold beg
  omega
theorem pos_beg (l : List Nat) (k : Nat) : pos l k ≤ beg l k := by unfold beg; omega
theorem stp_some {l : List Nat} {k : Nat} {x : Wd} (h : ow l k = some x) : stp l k = (x.kind == 1) := by unfold stp; rw [h]
theorem stp_none {l : List Nat} {k : Nat} (h : ow l k = none) : stp l k = true := by unfold stp; rw [h]
theorem pos_more {l : List Nat} (hl : ∀ x ∈ l, x < 256) {k : Nat} (h : stp l k = false) : ∃ x, ow l k = some x ∧ x.kind ≠ 1 ∧ 1 ≤ x.len ∧ pos l k < pos l (k + 1) := by
  cases h1 : ow l k with
  | none => rw [stp_none h1] at h; cases h
  | some x =>
    rw [stp_some h1] at h
    have hk : x.kind ≠ 1 := by simpa using h
    obtain ⟨_, a2, a3, _⟩ := wd_ok (drop_lt hl _) h1
    have h3 := a3 (fun e => hk (a2.2 e))
    refine ⟨x, rfl, hk, h3, ?_⟩
    rw [pos_some h1]
    have := pos_beg l k
    omega
/-- The words end. -/
theorem ends {l : List Nat} (hl : ∀ x ∈ l, x < 256) : ∃ N, N ≤ l.length ∧ stp l N = true ∧ ∀ j, j < N → stp l j = false := by
  have key : ∀ m, (∀ j, j < m → stp l j = false) → m ≤ pos l m := by
    intro m
    induction m with
    | zero => intro _; exact Nat.zero_le _
    | succ m ih =>
      intro h
      have h1 := ih (fun j hj => h j (by omega))
      obtain ⟨_, _, _, _, h2⟩ := pos_more hl (h m (by omega))
      omega
  have find : ∀ m, (∃ N, N < m ∧ stp l N = true ∧ ∀ j, j < N → stp l j = false) ∨ ∀ j, j < m → stp l j = false := by
    intro m
    induction m with
    | zero => exact .inr fun j hj => by omega
    | succ m ih =>
      rcases ih with ⟨N, h1, h2, h3⟩ | h
      · exact .inl ⟨N, by omega, h2, h3⟩
      · cases hs : stp l m with
        | true => exact .inl ⟨m, by omega, hs, h⟩
        | false =>
          refine .inr (fun j hj => ?_)
          by_cases e : j = m
          · rw [e]; exact hs
          · exact h j (by omega)
  rcases find (l.length + 1) with ⟨N, h1, h2, h3⟩ | h
  · exact ⟨N, by omega, h2, h3⟩
  · have := key _ h
    have := pos_le hl (l.length + 1)
    omega
/-- An End stands at the end, and nowhere else. -/
theorem ow_end {l : List Nat} (hl : ∀ x ∈ l, x < 256) {k : Nat} {x : Wd} (h : ow l k = some x) : (x.kind = 1 ↔ beg l k = l.length) ∧ (beg l k = l.length → x = ⟨1, 0, [], 0, no⟩) := by
  obtain ⟨_, a2, _⟩ := wd_ok (drop_lt hl _) h
  have h1 := beg_le hl k
  have e : l.drop (beg l k) = [] ↔ beg l k = l.length := by
    rw [List.drop_eq_nil_iff]
    omega
  refine ⟨a2.trans e, fun h2 => ?_⟩
  have h3 : wd (l.drop (beg l k)) = some x := h
  rw [e.2 h2] at h3
  exact (Option.some.inj h3).symm
end Go.Proofs.YtfghfnpiaccfaaaGreatDoor
namespace Go.Proofs.YtfghfnpiaccfaaaGreatDoor
open Go Go.RowKit
set_option maxRecDepth 100000
/-- The cells of the k-th word; what is handed out as the k-th. -/
def wA (l : List Nat) (k : Nat) : Array Value := match ow l k with | some x => wfull x (beg l k) | none => wzero
theorem wA_some {l : List Nat} {k : Nat} {x : Wd} (h : ow l k = some x) : wA l k = wfull x (beg l k) := by unfold wA; rw [h]
theorem wA_none {l : List Nat} {k : Nat} (h : ow l k = none) : wA l k = wzero := by unfold wA; rw [h]
def encW (l : List Nat) (k : Nat) : Array Value := #[.agg (wA l k), .bool (ow l k).isSome]
theorem encW_some {l : List Nat} {k : Nat} {x : Wd} (h : ow l k = some x) : encW l k = #[.agg (wfull x (beg l k)), .bool true] := by unfold encW; rw [wA_some h, h]; rfl
theorem encW_none {l : List Nat} {k : Nat} (h : ow l k = none) : encW l k = #[.agg wzero, .bool false] := by unfold encW; rw [wA_none h, h]; rfl
theorem WPost.no {b p : Nat} {s : ByteArray} {o : Option Wd} {w : World} {e : Ending} {w' : World} (h : WPost b p s o w e w') (ho : o = none) : e = .returned (.tuple #[.agg wzero, .bool false]) ∧ w.grownBy w' (some b) ∧ Rd w' b s p := by
  obtain ⟨hg, ⟨_, h1, h2⟩ | ⟨x, h1, _⟩⟩ := h
  · exact ⟨h1, hg, h2⟩
  · rw [ho] at h1; cases h1
theorem WPost.yes {b p : Nat} {s : ByteArray} {o : Option Wd} {w : World} {e : Ending} {w' : World} {x : Wd} (h : WPost b p s o w e w') (ho : o = some x) : e = .returned (.tuple #[.agg (wfull x p), .bool true]) ∧ w.grownBy w' (some b) ∧ Rd w' b s (p + x.len) := by
  obtain ⟨hg, ⟨h1, _⟩ | ⟨y, h1, h2, h3⟩⟩ := h
  · rw [ho] at h1; cases h1
  · rw [ho] at h1; cases h1; exact ⟨h2, hg, h3⟩
/-- The k-th word, read where it is looked for. -/
theorem word_no (b k : Nat) (s : ByteArray) (l : List Nat) (hs : Str s l) (hl : l.length ≤ 60000) (ho : ow l k = none) (w : World) (h : Rd w b s (pos l k)) (hT : Tab w) (hb0 : b ≠ 2) :
    Calls Tryz.prog 146 #[.pointer (some ⟨b, 0, none⟩)] w fun e w' => e = .returned (.tuple #[.agg wzero, .bool false]) ∧ w.grownBy w' (some b) ∧ Rd w' b s (pos l (k + 1)) := by
  rw [pos_none ho]
  exact (word_any b (pos l k) s l hs hl (pos_le hs.lt k) w h hT hb0).mono fun e w' hp => hp.no ho
theorem word_yes (b k : Nat) (x : Wd) (s : ByteArray) (l : List Nat) (hs : Str s l) (hl : l.length ≤ 60000) (ho : ow l k = some x) (w : World) (h : Rd w b s (pos l k)) (hT : Tab w) (hb0 : b ≠ 2) :
    Calls Tryz.prog 146 #[.pointer (some ⟨b, 0, none⟩)] w fun e w' => e = .returned (.tuple #[.agg (wfull x (beg l k)), .bool true]) ∧ w.grownBy w' (some b) ∧ Rd w' b s (pos l (k + 1)) := by
  rw [pos_some ho]
  exact (word_any b (pos l k) s l hs hl (pos_le hs.lt k) w h hT hb0).mono fun e w' hp => hp.yes ho
set_option maxRecDepth 100000 in
set_option maxHeartbeats 8000000 in
theorem words_in (n : Nat) (hn : 6 ≤ n) (lp p b N : Nat) (s : ByteArray) (l : List Nat) (hs : Str s l) (hl : l.length ≤ 60000) (hN : stp l N = true) (hNl : N ≤ l.length) (hNb : ∀ j, j < N → stp l j = false) (hb0 : b ≠ 2) (hpb : p ≠ b) (hp0 : p ≠ 0)
    (T : Nat → Prop) (hTp : T p) (hTb : T b) (hT0 : T 2) (J Jx C : Nat → World → Prop) (hJ : Turns b J) (hJx : Turns b Jx) (hCT : ∀ s A j, J s A → T j → ¬ C j A) (hC2 : ∀ s A A' j, J s A → A.grownBy A' (some b) → C j A' → j < A.heap.size)
    (B : Nat) (hY : ∀ k W1, J k W1 → Rd W1 b s (pos l (k + 1)) → B ≤ W1.heap.size → k < N + 1 → YieldAt Fence.wide (n - 1) Tryz.prog lp (encW l k) W1 fun e W' =>
      (e = .returned (.bool true) ∧ J (k + 1) W' ∧ Keep C W1 W') ∨ (e = .returned (.bool false) ∧ Jx (k + 1) W'))
    (W : World) (hB : B ≤ W.heap.size) (hbox : Blk W p #[.pointer (some ⟨b, 0, none⟩)] 146) (hR : Rd W b s 0) (hTab : Tab W) (h0 : J 0 W) :
    CallsIn Fence.wide n Tryz.prog 145 #[.func (.yield lp) #[] #[], .pointer (some ⟨p, 0, none⟩)] W fun e W' => (∃ v, e = .returned v) ∧ (J (N + 1) W' ∨ ∃ k, k ≤ N + 1 ∧ Jx k W') := by
  have WN := Lib.hid (fun k ho W hW hTW => word_no b k s l hs hl ho W hW hTW hb0)
  have WY := Lib.hid (fun k x ho W hW hTW => word_yes b k x s l hs hl ho W hW hTW hb0)
  have HY := Lib.hid hY
  have H0 := Lib.hid h0
  have HBX := Lib.hid hbox
  have HR := Lib.hid hR
  have HTB := Lib.hid hTab
  have HSZ := Lib.hid hB
  have HJ := Lib.hid hJ
  have HCT := Lib.hid hCT
  have HC2 := Lib.hid hC2
  have HLT := Lib.hid hs.lt
  have HN := Lib.hid hN
  have HNB := Lib.hid hNb
  have TT := Lib.hid (And.intro hTp (And.intro hTb hT0))
  clear hY h0 hbox hR hTab hB hJ hJx hCT hC2 hs hN hNb hTp hTb hT0
  refine callsIn_of_wp Tryz.func145 rfl trivial ?_ rfl
  simp only [Tryz.ntmps145, List.size_toArray, List.length_cons, List.length_nil, Nat.reduceAdd, Nat.reduceSub, Array.replicate_succ, Array.replicate_zero, List.push_toArray, List.append_toArray, List.nil_append, List.cons_append]
  gi_wp2_with (fail)
  gi_loopw [3, 4] (fun _ _ wr => ∃ k : Nat, k ≤ N ∧ J k wr ∧ Blk wr p #[.pointer (some ⟨b, 0, none⟩)] 146 ∧ Rd wr b s (pos l k) ∧ Tab wr ∧ B ≤ wr.heap.size) (fun _ _ wr => l.length + 1 - posOf wr b)
  case atStart => exact ⟨0, by omega, H0.out, HBX.out, HR.out, HTB.out, HSZ.out⟩
  case round =>
    obtain ⟨k, hk, hJ, hbx, hR, hTb, hz⟩ := hrel
    have JJ := Lib.hid hJ
    have BX := Lib.hid hbx
    have RR := Lib.hid hR
    have TR := Lib.hid hTb
    have ZZ := Lib.hid hz
    have c0 := hbx.cell 0
    simp only [List.getElem?_toArray, List.getElem?_cons_zero] at c0
    clear hJ hbx hR hTb hz
    cases ho : ow l k with
    | none =>
      have HO := Lib.hid ho
      have hkN : k = N := by
        rcases Nat.lt_or_ge k N with h | h
        · have := HNB.out k h; rw [stp_none ho] at this; cases this
        · omega
      have WK := Lib.hid (WN.out k ho)
      have YK := Lib.hid (fun W1 h1 h2 h3 => by have := HY.out k W1 h1 h2 h3 (by omega); rw [encW_none ho] at this; exact this)
      clear ho
      gi_wp2_with (first | (refine ⟨trivial, fun _ => by omega, ?_⟩; gi_at_call 146; (with_reducible refine CallsIn.mono (callsIn_wide.2 (WK.out _ RR.out TR.out)) ?_); rintro e w1 ⟨rfl, hg, hR⟩; have G1 := Lib.hid hg; have R1 := Lib.hid hR; have X1 := Lib.hid (BX.out.grown hg (by simp; omega)); clear hg hR) | (refine wpListIn_store_whole rfl 156 (.tmp 3) (.tmp 8) rfl w1.heap.size wzero rfl rfl 156 _ (Blk.new w1 wzero 156) (by kernel_rfl) (by rfl) (by simp [Value.oneCell']) ?_; intro w2 hk2 hg2; have B2 := Lib.hid hk2; have E2 := Lib.hid hg2; clear hk2 hg2; have GR := Lib.hid (grown_new (grown_on G1.out (B1 w1 _)) E2.out G1.out.size); have J2 := Lib.hid (HJ.out k _ _ JJ.out GR.out); have R2 := Lib.hid ((R1.out.below (B1 w1 _)).grown E2.out (by have := R1.out.lt; omega)); have X2 := Lib.hid ((X1.out.alloc _).grown E2.out (by have := X1.out.lt; simp; omega)); have NC : RowKit.Hid (¬ C w1.heap.size w2) := Lib.hid (fun h => by have := HC2.out k wr w2 _ JJ.out GR.out h; have := G1.out.size; omega); have TB2 := Lib.hid (TR.out.grown GR.out hb0); have n0 := B2.out.cell 0; have n1 := B2.out.cell 1; have n2 := B2.out.cell 2; have n3 := B2.out.cell 3; have n4 := B2.out.cell 4; have n5 := B2.out.cell 5; have n6 := B2.out.cell 6; have n7 := B2.out.cell 7; have n8 := B2.out.cell 8; simp only [wzero, wfull, List.getElem?_toArray, List.getElem?_cons_zero, List.getElem?_cons_succ] at n0 n1 n2 n3 n4 n5 n6 n7 n8; obtain ⟨fn, tmps, assign, body, hy, hRd⟩ := YK.out w2 J2.out R2.out (Nat.le_trans ZZ.out GR.out.size); have HRD := Lib.hid hRd; clear hRd; simp only [wzero, wfull, Int.natCast_add] at hy))
      refine ⟨fun _ => by omega, HRD.out.mono ?_⟩
      clear hy c0 n0 n1 n2 n3 n4 n5 n6 n7 n8
      rintro e W3 (⟨rfl, hJ3, hk3⟩ | ⟨rfl, hJ3⟩)
      · have J3 := Lib.hid hJ3
        clear hJ3 hk3
        gi_wp2_with fail
        refine bodyPost_ret (results_none rfl _ _ _) rfl ?_
        exact ⟨⟨_, rfl⟩, .inl (by rw [← hkN]; exact J3.out)⟩
      · have J3 := Lib.hid hJ3
        clear hJ3
        gi_wp2_with fail
        refine bodyPost_ret (results_none rfl _ _ _) rfl ?_
        exact ⟨⟨_, rfl⟩, .inr ⟨k + 1, by omega, J3.out⟩⟩
    | some x =>
      have HO := Lib.hid ho
      have SX := Lib.hid (stp_some ho)
      have WK := Lib.hid (WY.out k x ho)
      have YK := Lib.hid (fun W1 h1 h2 h3 => by have := HY.out k W1 h1 h2 h3 (by omega); rw [encW_some ho] at this; exact this)
      obtain ⟨bg, ebg⟩ : ∃ bg, bg = beg l k := ⟨_, rfl⟩
      rw [← ebg] at WK YK
      clear ho ebg
      gi_wp2_with (first | (refine ⟨trivial, fun _ => by omega, ?_⟩; gi_at_call 146; (with_reducible refine CallsIn.mono (callsIn_wide.2 (WK.out _ RR.out TR.out)) ?_); rintro e w1 ⟨rfl, hg, hR⟩; have G1 := Lib.hid hg; have R1 := Lib.hid hR; have X1 := Lib.hid (BX.out.grown hg (by simp; omega)); clear hg hR) | (refine wpListIn_store_whole rfl 156 (.tmp 3) (.tmp 8) rfl w1.heap.size (wfull x bg) rfl rfl 156 _ (Blk.new w1 wzero 156) (by kernel_rfl) (by rfl) (by simp [Value.oneCell']) ?_; intro w2 hk2 hg2; have B2 := Lib.hid hk2; have E2 := Lib.hid hg2; clear hk2 hg2; have GR := Lib.hid (grown_new (grown_on G1.out (B1 w1 _)) E2.out G1.out.size); have J2 := Lib.hid (HJ.out k _ _ JJ.out GR.out); have R2 := Lib.hid ((R1.out.below (B1 w1 _)).grown E2.out (by have := R1.out.lt; omega)); have X2 := Lib.hid ((X1.out.alloc _).grown E2.out (by have := X1.out.lt; simp; omega)); have NC : RowKit.Hid (¬ C w1.heap.size w2) := Lib.hid (fun h => by have := HC2.out k wr w2 _ JJ.out GR.out h; have := G1.out.size; omega); have TB2 := Lib.hid (TR.out.grown GR.out hb0); have n0 := B2.out.cell 0; have n1 := B2.out.cell 1; have n2 := B2.out.cell 2; have n3 := B2.out.cell 3; have n4 := B2.out.cell 4; have n5 := B2.out.cell 5; have n6 := B2.out.cell 6; have n7 := B2.out.cell 7; have n8 := B2.out.cell 8; simp only [wzero, wfull, List.getElem?_toArray, List.getElem?_cons_zero, List.getElem?_cons_succ] at n0 n1 n2 n3 n4 n5 n6 n7 n8; obtain ⟨fn, tmps, assign, body, hy, hRd⟩ := YK.out w2 J2.out R2.out (Nat.le_trans ZZ.out GR.out.size); have HRD := Lib.hid hRd; clear hRd; simp only [wzero, wfull, Int.natCast_add] at hy))
      refine ⟨fun _ => by omega, HRD.out.mono ?_⟩
      clear hy c0 n0 n1 n2 n3 n4 n5 n6 n7 n8
      rintro e W3 (⟨rfl, hJ3, hk3⟩ | ⟨rfl, hJ3⟩)
      · have J3 := Lib.hid hJ3
        have keep : ∀ j, j < w2.heap.size → ¬ C j w2 → W3.heap[j]? = w2.heap[j]? := hk3.block
        have B3 : Blk W3 w1.heap.size (wfull x bg) 156 := (keep _ B2.out.lt NC.out).trans B2.out
        have X3 := Lib.hid (show Blk W3 p #[.pointer (some ⟨b, 0, none⟩)] 146 from (keep _ X2.out.lt (HCT.out k _ _ J2.out TT.out.1)).trans X2.out)
        have R3 := Lib.hid (show Rd W3 b s (pos l (k + 1)) from (keep _ R2.out.lt (HCT.out k _ _ J2.out TT.out.2.1)).trans R2.out)
        have Z3 := Lib.hid (Nat.le_trans (Nat.le_trans ZZ.out GR.out.size) hk3.size)
        have TB3 : RowKit.Hid (Tab W3) := Lib.hid (by
          obtain ⟨ev, h1, h2⟩ := TB2.out
          have hlt0 : 2 < w2.heap.size := World.block_lt_of_cell? _ _ h1
          exact ⟨ev, (World.cell?_of_block (a := ⟨2, 0, none⟩) (keep 2 hlt0 (HCT.out k _ _ J2.out TT.out.2.2))).trans h1, h2⟩)
        have m0 : W3.cell? ⟨w1.heap.size, 0, none⟩ = some (.int .i64 x.kind) := B3.cell 0
        clear hJ3 hk3 keep B3
        by_cases hk1 : x.kind = 1
        · have hkN : k = N := by
            rcases Nat.lt_or_ge k N with h | h
            · have h1 := HNB.out k h
              rw [SX.out, hk1] at h1
              cases h1
            · omega
          have tk : (x.kind == 1) = true := by rw [hk1]; rfl
          clear hk1
          gi_wp2_with fail
          refine bodyPost_ret (results_none rfl _ _ _) rfl ?_
          exact ⟨⟨_, rfl⟩, .inl (by rw [← hkN]; exact J3.out)⟩
        · have tk : (x.kind == 1) = false := by simpa using hk1
          have hlt : k < N := by
            rcases Nat.lt_or_ge k N with h | h
            · exact h
            · have e : k = N := by omega
              have h1 := HN.out
              rw [← e, SX.out, tk] at h1
              cases h1
          have PM := Lib.hid (pos_more HLT.out (HNB.out k hlt))
          clear hk1
          gi_wp2_with fail
          go_roundw
          case rel => exact ⟨k + 1, by omega, J3.out, X3.out, R3.out, TB3.out, Z3.out⟩
          case measure =>
            obtain ⟨_, _, _, _, h⟩ := PM.out
            have h2 := pos_le HLT.out (k + 1)
            rw [R3.out.pos, RR.out.pos]
            omega
      · have J3 := Lib.hid hJ3
        clear hJ3
        gi_wp2_with fail
        refine bodyPost_ret (results_none rfl _ _ _) rfl ?_
        exact ⟨⟨_, rfl⟩, .inr ⟨k + 1, by omega, J3.out⟩⟩
end Go.Proofs.YtfghfnpiaccfaaaGreatDoor

/- A byte that stands for itself; a sign that stands for one. -/
import Derived.Test.YtgmdfmckkfefgaaDoorWe
namespace Go.Proofs.YtgmdfmckkfefgaaDoor
open Go Go.RowKit Go.Maps
def i1 (p : Int) : List Nat → Nat × Nat
  | c :: _ => if pl p c then (c, 1) else (0, 0)
  | [] => (0, 0)
def i2 : List Nat → Nat × Nat
  | c :: k :: _ => if c = 92 then (match sd k with | some b => (b, 2) | none => (0, 0)) else (0, 0)
  | _ => (0, 0)
def i4 : List Nat → Nat × Nat
  | c :: k :: a :: b :: _ => if c = 92 ∧ k = 120 then (match dg a, dg b with | some x, some y => (16 * x + y, 4) | _, _ => (0, 0)) else (0, 0)
  | _ => (0, 0)
/-- What lies ahead of a place. -/
def rst (a : Int) (l : List Nat) : List Nat := if a < 0 then [] else l.drop a.toNat
theorem rst_nat (k : Nat) (l : List Nat) : rst k l = l.drop k := by
  unfold rst
  rw [if_neg (by omega), Int.toNat_natCast]
theorem rst_cases (a : Int) (l : List Nat) : (rst a l = [] ∧ (a < 0 ∨ (l.length : Int) ≤ a)) ∨ ∃ k : Nat, a = k ∧ k < l.length ∧ rst a l = l.drop k := by
  by_cases h : a < 0
  · exact .inl ⟨by simp [rst, h], .inl h⟩
  · by_cases h2 : (l.length : Int) ≤ a
    · refine .inl ⟨?_, .inr h2⟩
      rw [rst, if_neg h]
      exact List.drop_eq_nil_of_le (by omega)
    · exact .inr ⟨a.toNat, by omega, by omega, by rw [rst, if_neg h]⟩
theorem rd_three (p : Int) (l : List Nat) : rd p l = if kn p = false then none else if (i1 p l).2 ≠ 0 then some (i1 p l) else if (i2 l).2 ≠ 0 then some (i2 l) else if (i4 l).2 ≠ 0 then some (i4 l) else none := by
  cases hk : kn p with
  | false => cases l <;> simp [rd, hk]
  | true =>
    match l with
    | [] => simp [rd, i1, i2, i4]
    | [c] =>
      cases hp : pl p c <;> simp [rd, i1, i2, i4, hk, hp]
    | c :: k :: r =>
      cases hp : pl p c with
      | true => simp [rd, i1, hk, hp]
      | false =>
        by_cases h92 : c = 92
        · subst h92
          cases hs : sd k with
          | some b => simp [rd, i1, i2, hk, hp, hs]
          | none =>
            by_cases h120 : k = 120
            · subst h120
              match r with
              | [] => simp [rd, i1, i2, i4, hk, hp, hs, rx]
              | [x] => simp [rd, i1, i2, i4, hk, hp, hs, rx]
              | x :: y :: r2 =>
                cases hx : dg x <;> cases hy : dg y <;> simp [rd, i1, i2, i4, hk, hp, hs, rx, hx, hy]
            · match r with
              | [] => simp [rd, i1, i2, i4, hk, hp, hs, h120]
              | [x] => simp [rd, i1, i2, i4, hk, hp, hs, h120]
              | x :: y :: r2 => simp [rd, i1, i2, i4, hk, hp, hs, h120]
        · match r with
          | [] => simp [rd, i1, i2, i4, hk, hp, h92]
          | [x] => simp [rd, i1, i2, i4, hk, hp, h92]
          | x :: y :: r2 => simp [rd, i1, i2, i4, hk, hp, h92]
theorem ahead_any (b n : Nat) (s : ByteArray) (l : List Nat) (a p : Int) (hs : Str s l) (hl : l.length ≤ 60000) (ha : -9223372036854775808 ≤ a ∧ a < 9223372036854775808) (hn : n < 10) (hn0 : 0 < n) (w : World) (h : Cur w b s a p) :
    (((rst a l).length < n) ∧ Calls Tryd.prog 62 #[.pointer (some ⟨b, 0, none⟩), .int .i64 n] w fun e w' => e = .returned (.tuple #[.string ⟨#[]⟩, .bool false]) ∧ ∃ n, w' = w.drewN n) ∨
    (n ≤ (rst a l).length ∧ ∃ t, Str t ((rst a l).take n) ∧ Calls Tryd.prog 62 #[.pointer (some ⟨b, 0, none⟩), .int .i64 n] w fun e w' => e = .returned (.tuple #[.string t, .bool true]) ∧ ∃ n, w' = w.drewN n) := by
  have hz := hs.size
  rcases rst_cases a l with ⟨e, h1⟩ | ⟨k, rfl, hk, e⟩
  · exact .inl ⟨by rw [e]; exact hn0, ahead_none b n s a p (by omega) ha hn (by omega) w h⟩
  · rw [e, List.length_drop]
    by_cases h2 : k + n ≤ l.length
    · refine .inr ⟨by omega, s.extract k (k + n), ?_, ahead_some b n k s p (by omega) (by omega) w h⟩
      have := hs.extract k (k + n)
      rwa [Nat.add_sub_cancel_left] at this
    · exact .inl ⟨by omega, ahead_none b n s k p (by omega) ha hn (by omega) w h⟩
theorem q_left {P : Program} {f : FuncId} {args : Array Value} {w : World} {n : Nat} {v : Value}
    (h : Calls P f args (w.drewN n) fun e w' => e = .returned v ∧ w.drewN n = w') : Calls P f args (w.drewN n) fun e w'' => e = .returned v ∧ ∃ m, w'' = w.drewN m :=
  h.mono fun _ _ ⟨he, hm⟩ => ⟨he, n, hm.symm⟩
theorem i1_nil (p : Int) : i1 p [] = (0, 0) := rfl
theorem below_drewN (w : World) (n : Nat) : Below w.heap.size w (w.drewN n) := bdrew (Below.refl _ _)
set_option maxHeartbeats 1000000 in
theorem itself_any (b : Nat) (s : ByteArray) (l : List Nat) (a p : Int) (hs : Str s l) (hl : l.length ≤ 60000) (ha : -9223372036854775808 ≤ a ∧ a < 9223372036854775808) (w : World) (h : Cur w b s a p) :
    Calls Tryd.prog 55 #[.pointer (some ⟨b, 0, none⟩)] w fun e w' => e = .returned (.tuple #[.int .u8 (i1 p (rst a l)).1, .int .i64 (i1 p (rst a l)).2]) ∧ Below w.heap.size w w' := by
  obtain ⟨c0, c1, c2⟩ := cur3 h
  have K := ahead_any b 1 s l a p hs hl ha (by omega) (by omega) w h
  generalize rst a l = r at K
  have HA := Lib.hid h
  clear h hs hl ha
  rcases K with ⟨h1, K⟩ | ⟨h1, t, ht, K⟩
  · have : r = [] := List.length_eq_zero_iff.1 (by omega)
    subst this
    rw [i1_nil]
    have K := Lib.hid K
    clear h1
    go_enter Tryd.func55, Tryd.ntmps55
    go_wp2_with (go_at_call 62; refine K.out.mono ?_; rintro e w1 ⟨rfl, n, rfl⟩)
    go_quiet (fail)
    go_wp2_with fail
    go_ret2
    exact ⟨rfl, by rw [World.drewN_drewN]; exact below_drewN _ _⟩
  · match r, h1, ht with
    | c :: r, _, ht =>
      have hz : t.size = 1 := ht.size
      have hx0 : ∀ h, (t[0]'h).toNat = c := fun h => ht.at_ 0 h
      have K := Lib.hid K
      have P := fun w => plain_any p c w
      rw [show i1 p (c :: r) = if pl p c then (c, 1) else (0, 0) from rfl]
      generalize pl p c = q at P
      have PH := Lib.hid P
      clear ht P
      cases q with
      | true =>
        simp only [if_true]
        go_enter Tryd.func55, Tryd.ntmps55
        go_wp2_with (go_at_call 62; refine K.out.mono ?_; rintro e w1 ⟨rfl, n, rfl⟩)
        go_quiet ((go_at_call 63; exact (PH.out _).mono fun _ _ ⟨he, hm⟩ => ⟨he, _, hm.symm⟩))
        go_wp2_with fail
        go_ret2
        exact ⟨rfl, below_drewN _ _⟩
      | false =>
        simp only [Bool.false_eq_true, if_false]
        go_enter Tryd.func55, Tryd.ntmps55
        go_wp2_with (go_at_call 62; refine K.out.mono ?_; rintro e w1 ⟨rfl, n, rfl⟩)
        go_quiet ((go_at_call 63; exact (PH.out _).mono fun _ _ ⟨he, hm⟩ => ⟨he, _, hm.symm⟩))
        go_wp2_with fail
        go_ret2
        exact ⟨rfl, by rw [World.drewN_drewN]; exact below_drewN _ _⟩
end Go.Proofs.YtgmdfmckkfefgaaDoor

/- What a backslash, x and two digits stand for: digits. -/
import Derived.Test.YtgmdfmckkfefgaaDoorWj
namespace Go.Proofs.YtgmdfmckkfefgaaDoor
open Go Go.RowKit Go.Maps
theorem i4_cons (c k x y : Nat) (r : List Nat) : i4 (c :: k :: x :: y :: r) = if c = 92 ∧ k = 120 then (match dg x, dg y with | some a, some b => (16 * a + b, 4) | _, _ => (0, 0)) else (0, 0) := rfl
theorem ext2 {t : ByteArray} {c k x y : Nat} (ht : Str t [c, k, x, y]) : t.extract 2 4 = bsv [x, y] := by
  have h := ht.extract 2 4
  simp only [List.drop_succ_cons, List.drop_zero, Nat.reduceSub, List.take_succ_cons, List.take_zero] at h
  exact h.eq
theorem ext0 {t : ByteArray} {c k x y : Nat} (ht : Str t [c, k, x, y]) : (t.extract 0 2).toList = [UInt8.ofNat c, UInt8.ofNat k] := by
  have h := ht.extract 0 2
  simp only [List.drop_zero, Nat.reduceSub, List.take_succ_cons, List.take_zero] at h
  exact h.list
theorem u8_ne {a b : Nat} (ha : a < 256) (hb : b < 256) (h : a ≠ b) : UInt8.ofNat a ≠ UInt8.ofNat b := by
  intro e
  have := congrArg UInt8.toNat e
  simp only [UInt8.toNat_ofNat'] at this
  rw [Nat.mod_eq_of_lt ha, Nat.mod_eq_of_lt hb] at this
  exact h this
set_option maxHeartbeats 2000000 in
theorem digits_any (b : Nat) (s : ByteArray) (l : List Nat) (a p : Int) (hs : Str s l) (hl : l.length ≤ 60000) (ha : -9223372036854775808 ≤ a ∧ a < 9223372036854775808) (w : World) (h : Cur w b s a p) (hT : Tab w) :
    Calls Tryd.prog 57 #[.pointer (some ⟨b, 0, none⟩)] w fun e w' => e = .returned (.tuple #[.int .u8 (i4 (rst a l)).1, .int .i64 (i4 (rst a l)).2]) ∧ Below w.heap.size w w' := by
  obtain ⟨c0, c1, c2⟩ := cur3 h
  have K := ahead_any b 4 s l a p hs hl ha (by omega) (by omega) w h
  generalize rst a l = r at K
  have TH := Lib.hid hT
  clear h hs hl ha hT
  rcases K with ⟨h1, K⟩ | ⟨h1, t, ht, K⟩
  · have : i4 r = (0, 0) := by
      match r, h1 with
      | [], _ => rfl
      | [_], _ => rfl
      | [_, _], _ => rfl
      | [_, _, _], _ => rfl
      | _ :: _ :: _ :: _ :: _, h => simp at h; omega
    rw [this]
    have K := Lib.hid K
    clear h1 this
    go_enter Tryd.func57, Tryd.ntmps57
    go_wp2_with (go_at_call 62; refine K.out.mono ?_; rintro e w1 ⟨rfl, n, rfl⟩)
    go_ret2
    exact ⟨rfl, below_drewN _ _⟩
  · match r, h1, ht with
    | c :: k :: x :: y :: r, _, ht =>
      have ht : Str t [c, k, x, y] := ht
      have hz : t.size = 4 := ht.size
      have hc : c < 256 := ht.lt c (by simp)
      have hk : k < 256 := ht.lt k (by simp)
      have hx : x < 256 := ht.lt x (by simp)
      have hy : y < 256 := ht.lt y (by simp)
      have e2 := ext2 ht
      have e0 := ext0 ht
      have K := Lib.hid K
      rw [i4_cons]
      by_cases hck : c = 92 ∧ k = 120
      · rw [if_pos hck]
        have hq : ((t.extract 0 2).toList == [92, 120]) = true := by rw [e0, hck.1, hck.2]; rfl
        clear e0 hck hc hk ht
        by_cases hd : dg x = none ∨ dg y = none
        · have : (match dg x, dg y with | some a, some b => (16 * a + b, 4) | _, _ => (0, 0)) = (0, 0) := by
            rcases hd with hd | hd
            · simp only [hd]
            · cases dg x <;> simp [hd]
          rw [this]
          have P := Lib.hid (fun w hT => parse_none x y hx hy hd w hT)
          clear this hd hx hy
          generalize bsv [x, y] = S at e2 P
          go_enter Tryd.func57, Tryd.ntmps57
          go_wp2_with (go_at_call 62; refine K.out.mono ?_; rintro e w1 ⟨rfl, n, rfl⟩)
          go_wp2_with (go_at_call 65; refine (P.out _ TH.out.drewN).mono ?_; rintro e w2 ⟨N, rfl, hb2⟩; have HB2 := Lib.hid hb2; clear hb2)
          go_ret2
          exact ⟨rfl, ⟨HB2.out.os, HB2.out.tape, HB2.out.output, HB2.out.size, HB2.out.block⟩⟩
        · obtain ⟨u, hu⟩ : ∃ u, dg x = some u := by cases h : dg x with | none => exact absurd (.inl h) hd | some u => exact ⟨u, rfl⟩
          obtain ⟨v, hv⟩ : ∃ v, dg y = some v := by cases h : dg y with | none => exact absurd (.inr h) hd | some v => exact ⟨v, rfl⟩
          have : (match dg x, dg y with | some a, some b => (16 * a + b, 4) | _, _ => (0, 0)) = (16 * u + v, 4) := by simp only [hu, hv]
          rw [this]
          have P := Lib.hid (fun w => parse_some x y u v hx hy hu hv w)
          have h1 := dg_lt hu
          have h2 := dg_lt hv
          obtain ⟨z, ez⟩ : ∃ z : Int, z = (16 * u + v : Nat) := ⟨_, rfl⟩
          have hw : IntKind.u8.wrap z = z := u8_in (by omega)
          simp only [← ez] at P ⊢
          clear this hd hx hy hu hv h1 h2 ez
          generalize bsv [x, y] = S at e2 P
          go_enter Tryd.func57, Tryd.ntmps57
          go_wp2_with (go_at_call 62; refine K.out.mono ?_; rintro e w1 ⟨rfl, n, rfl⟩)
          go_wp2_with (go_at_call 65; refine (P.out _).mono ?_; rintro e w2 ⟨rfl, hb2⟩; have HB2 := Lib.hid hb2; clear hb2)
          go_ret2
          exact ⟨rfl, ⟨HB2.out.os, HB2.out.tape, HB2.out.output, HB2.out.size, HB2.out.block⟩⟩
      · rw [if_neg hck]
        have hq : ((t.extract 0 2).toList == [92, 120]) = false := by
          rw [e0]
          simp only [beq_eq_false_iff_ne, ne_eq, List.cons.injEq, and_true, not_and]
          intro h h2
          exact hck ⟨Classical.byContradiction fun hn => u8_ne hc (by omega) hn h, Classical.byContradiction fun hn => u8_ne hk (by omega) hn h2⟩
        clear e0 hck hc hk ht hx hy e2
        go_enter Tryd.func57, Tryd.ntmps57
        go_wp2_with (go_at_call 62; refine K.out.mono ?_; rintro e w1 ⟨rfl, n, rfl⟩)
        go_ret2
        exact ⟨rfl, below_drewN _ _⟩
end Go.Proofs.YtgmdfmckkfefgaaDoor

/- A backslash and a sign. -/
import Derived.Test.YtgmdfmckkfefgaaDoorWh
import Derived.Deep.RegionWith
namespace Go.Proofs.YtgmdfmckkfefgaaDoor
open Go Go.RowKit Go.Maps
theorem rd2 (w : World) (n : Nat) {w1 : World} (h : Below (w.drewN n).heap.size (w.drewN n) w1) : Below w.heap.size w w1 := ⟨h.os, h.tape, h.output, h.size, h.block⟩
theorem rd1 (w : World) (n : Nat) {w1 : World} (h : Below (w.drewN n).drew.heap.size (w.drewN n).drew w1) : Below w.heap.size w w1 := ⟨h.os, h.tape, h.output, h.size, h.block⟩
set_option maxHeartbeats 2000000 in
theorem short_any (b : Nat) (s : ByteArray) (l : List Nat) (a p : Int) (hs : Str s l) (hl : l.length ≤ 60000) (ha : -9223372036854775808 ≤ a ∧ a < 9223372036854775808) (w : World) (h : Cur w b s a p) :
    Calls Tryd.prog 56 #[.pointer (some ⟨b, 0, none⟩)] w fun e w' => e = .returned (.tuple #[.int .u8 (i2 (rst a l)).1, .int .i64 (i2 (rst a l)).2]) ∧ Below w.heap.size w w' := by
  obtain ⟨c0, c1, c2⟩ := cur3 h
  have K := ahead_any b 2 s l a p hs hl ha (by omega) (by omega) w h
  generalize rst a l = r at K
  clear h hs hl ha
  rcases K with ⟨h1, K⟩ | ⟨h1, t, ht, K⟩
  · have : i2 r = (0, 0) := by
      match r, h1 with
      | [], _ => rfl
      | [_], _ => rfl
      | _ :: _ :: _, h => simp at h; omega
    rw [this]
    have K := Lib.hid K
    clear h1 this
    go_enter Tryd.func56, Tryd.ntmps56
    go_wp2_with (go_at_call 62; refine K.out.mono ?_; rintro e w1 ⟨rfl, n, rfl⟩)
    go_ret2
    exact ⟨rfl, below_drewN _ _⟩
  · match r, h1, ht with
    | c :: k :: r, _, ht =>
      have hz : t.size = 2 := ht.size
      have hx0 : ∀ h, (t[0]'h).toNat = c := fun h => ht.at_ 0 h
      have hx1 : ∀ h, (t[1]'h).toNat = k := fun h => ht.at_ 1 h
      have hk : k < 256 := ht.lt k (by simp)
      have K := Lib.hid K
      rw [show i2 (c :: k :: r) = if c = 92 then (match sd k with | some b => (b, 2) | none => (0, 0)) else (0, 0) from rfl]
      clear ht
      by_cases h92 : c = 92
      · subst h92
        simp only [if_true]
        cases hsd : sd k with
        | some x =>
          simp only
          have HS := Lib.hid hsd
          have HK := Lib.hid hk
          clear hsd hk
          go_enter Tryd.func56, Tryd.ntmps56
          go_wp2_with (go_at_call 62; refine K.out.mono ?_; rintro e w1 ⟨rfl, n, rfl⟩)
          go_region_with (go_at_call 64; refine (signed_any _).mono ?_; rintro e w1 ⟨b2, rfl, hS, hb⟩; have hlk := (look_signed hS k HK.out).1 x HS.out; have HB := Lib.hid hb; clear hS hb)
          all_goals (go_wp2_with fail)
          all_goals go_ret2
          all_goals exact ⟨rfl, ⟨HB.out.os, HB.out.tape, HB.out.output, HB.out.size, HB.out.block⟩⟩
        | none =>
          simp only
          have HS := Lib.hid hsd
          have HK := Lib.hid hk
          clear hsd hk
          go_enter Tryd.func56, Tryd.ntmps56
          go_wp2_with (go_at_call 62; refine K.out.mono ?_; rintro e w1 ⟨rfl, n, rfl⟩)
          go_region_with (go_at_call 64; refine (signed_any _).mono ?_; rintro e w1 ⟨b2, rfl, hS, hb⟩; obtain ⟨v, hlk⟩ := (look_signed hS k HK.out).2 HS.out; have HB := Lib.hid hb; clear hS hb)
          all_goals (go_wp2_with fail)
          all_goals go_ret2
          all_goals exact ⟨rfl, ⟨HB.out.os, HB.out.tape, HB.out.output, HB.out.size, HB.out.block⟩⟩
      · rw [if_neg h92]
        have g1 : ((c : Int) == 92) = false := by simp; omega
        have g2 : ((c : Int) != 92) = true := by simp; omega
        clear h92 hk
        go_enter Tryd.func56, Tryd.ntmps56
        go_wp2_with (go_at_call 62; refine K.out.mono ?_; rintro e w1 ⟨rfl, n, rfl⟩)
        go_ret2
        exact ⟨rfl, below_drewN _ _⟩
end Go.Proofs.YtgmdfmckkfefgaaDoor

/- Contracts of an arena of strings: Len, Left, Mark, Peak, At, Put. -/
import Derived.Test.YtfcacgiejoeneaaWe
import Derived.Test.YtfcacgiejoeneaaVd
namespace Go.Proofs.Ytfcacgiejoeneaa
open Go Go.RowKit
set_option maxHeartbeats 1000000 in
theorem s_len_any (b : Nat) (most peak : Int) (v : Value) (xs : List Value) (base : Nat) (w : World) (h : Ar 74 9 w base b most peak v xs) :
    Calls Try.prog 33 #[.pointer (some ⟨b, 0, none⟩)] w fun e w' => e = .returned (.int .i64 xs.length) ∧ w = w' := by
  obtain ⟨c0, _, _, _⟩ := ar_cells h
  obtain ⟨A, cap, rfl, _, _⟩ := own_slice h.own
  have K := Lib.hid (s_known_any b most peak _ xs base w h)
  have C := Lib.hid (s_count_any b _ cap A w c0)
  clear h c0
  go_enter Try.func33, Try.ntmps33
  go_wp2_with (first | (go_at_call 49; refine K.out.mono ?_; rintro e w1 ⟨rfl, rfl⟩) | (go_at_call 46; refine C.out.mono ?_; rintro e w1 ⟨rfl, rfl⟩))
  go_ret
  exact ⟨rfl, rfl⟩
set_option maxHeartbeats 1000000 in
theorem s_mark_any (b : Nat) (most peak : Int) (v : Value) (xs : List Value) (base : Nat) (w : World) (h : Ar 74 9 w base b most peak v xs) :
    Calls Try.prog 30 #[.pointer (some ⟨b, 0, none⟩)] w fun e w' => e = .returned (.int .i64 xs.length) ∧ w = w' := by
  have K := Lib.hid (s_len_any b most peak _ xs base w h)
  clear h
  go_enter Try.func30, Try.ntmps30
  go_wp2_with (go_at_call 33; refine K.out.mono ?_; rintro e w1 ⟨rfl, rfl⟩)
  go_ret
  exact ⟨rfl, rfl⟩
set_option maxHeartbeats 1000000 in
theorem s_peak_any (b : Nat) (most peak : Int) (v : Value) (xs : List Value) (base : Nat) (w : World) (h : Ar 74 9 w base b most peak v xs) :
    Calls Try.prog 34 #[.pointer (some ⟨b, 0, none⟩)] w fun e w' => e = .returned (.int .i64 peak) ∧ w = w' := by
  obtain ⟨_, _, c2, _⟩ := ar_cells h
  have K := Lib.hid (s_known_any b most peak _ xs base w h)
  clear h
  go_enter Try.func34, Try.ntmps34
  go_wp2_with (go_at_call 49; refine K.out.mono ?_; rintro e w1 ⟨rfl, rfl⟩)
  go_ret
  exact ⟨rfl, rfl⟩
set_option maxHeartbeats 1000000 in
theorem s_left_any (b : Nat) (most peak : Int) (v : Value) (xs : List Value) (base : Nat) (w : World) (h : Ar 74 9 w base b most peak v xs) :
    Calls Try.prog 45 #[.pointer (some ⟨b, 0, none⟩)] w fun e w' => e = .returned (.int .i64 (most - xs.length)) ∧ ∃ n, w' = w.drewN n := by
  obtain ⟨c0, c1, _, _⟩ := ar_cells h
  obtain ⟨A, cap, rfl, _, _⟩ := own_slice h.own
  have K := Lib.hid (s_known_any b most peak _ xs base w h)
  have C := Lib.hid (fun n => s_count_any b _ cap A (w.drewN n) c0)
  have hw : IntKind.i64.wrap (most - xs.length) = most - xs.length := IntWalk.i64_in _ (by have := h.fits; have := h.room; omega)
  clear h
  go_enter Try.func45, Try.ntmps45
  go_wp2_with (go_at_call 49; refine K.out.mono ?_; rintro e w1 ⟨rfl, rfl⟩)
  go_quiet ((go_at_call 46; exact q_left (C.out _)))
  go_wp2_with fail
  go_ret
  exact ⟨rfl, _, rfl⟩
set_option maxHeartbeats 1000000 in
theorem s_at_yes (b : Nat) (most peak : Int) (v : Value) (xs : List Value) (base k : Nat) (x : Value) (hk : xs[k]? = some x) (w : World) (h : Ar 74 9 w base b most peak v xs) :
    Calls Try.prog 32 #[.pointer (some ⟨b, 0, none⟩), .int .i64 k] w fun e w' => e = .returned (.tuple #[x, .bool true]) ∧ w = w' := by
  have hlt : k < xs.length := (List.getElem?_eq_some_iff.1 hk).1
  obtain ⟨c0, _, _, _⟩ := ar_cells h
  obtain ⟨g, cap, rfl, _, _⟩ := own_shape h.own (by omega)
  have c4 := (h.own.cellAt k (by omega)).trans hk
  have K := Lib.hid (s_known_any b most peak _ xs base w h)
  have C := Lib.hid (s_has_any b _ cap _ k w c0)
  have hd : (decide ((0 : Int) ≤ k) && decide ((k : Int) < xs.length)) = true := by simp; omega
  rw [hd] at C
  have hlt2 : (k : Int) < xs.length := by omega
  clear h hd hk
  go_enter Try.func32, Try.ntmps32
  go_wp2_with (first | (go_at_call 49; refine K.out.mono ?_; rintro e w1 ⟨rfl, rfl⟩) | (go_at_call 50; refine C.out.mono ?_; rintro e w1 ⟨rfl, rfl⟩))
  go_ret2
  exact ⟨rfl, rfl⟩
set_option maxHeartbeats 1000000 in
theorem s_at_no (b : Nat) (most peak : Int) (v : Value) (xs : List Value) (base : Nat) (k : Int) (hk : k < 0 ∨ (xs.length : Int) ≤ k) (w : World) (h : Ar 74 9 w base b most peak v xs) :
    Calls Try.prog 32 #[.pointer (some ⟨b, 0, none⟩), .int .i64 k] w fun e w' => e = .returned (.tuple #[.string ⟨#[]⟩, .bool false]) ∧ w = w' := by
  obtain ⟨c0, _, _, _⟩ := ar_cells h
  obtain ⟨A, cap, rfl, _, _⟩ := own_slice h.own
  have K := Lib.hid (s_known_any b most peak _ xs base w h)
  have C := Lib.hid (s_has_any b _ cap A k w c0)
  have hd : (decide ((0 : Int) ≤ k) && decide ((k : Int) < xs.length)) = false := by simp; omega
  rw [hd] at C
  clear h hd hk
  go_enter Try.func32, Try.ntmps32
  go_wp2_with (first | (go_at_call 49; refine K.out.mono ?_; rintro e w1 ⟨rfl, rfl⟩) | (go_at_call 50; refine C.out.mono ?_; rintro e w1 ⟨rfl, rfl⟩))
  go_ret2
  exact ⟨rfl, rfl⟩
end Go.Proofs.Ytfcacgiejoeneaa

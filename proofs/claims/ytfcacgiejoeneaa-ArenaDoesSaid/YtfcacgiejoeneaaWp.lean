/- The contract of the chapter's example. -/
import Derived.Test.YtfcacgiejoeneaaVf
namespace Go.Proofs.Ytfcacgiejoeneaa
open Go Go.RowKit
abbrev sA : Value := .string { data := #[97] }
abbrev sB : Value := .string { data := #[98] }
abbrev sC : Value := .string { data := #[99] }
abbrev sD : Value := .string { data := #[100] }
theorem lies_new (w : World) (l : List Value) (T : TypeId) : Lies (w.alloc (.cells l.toArray T)) (some ⟨w.heap.size, 0, none⟩) l := by
  intro h0
  refine ⟨_, 0, rfl, by simp, fun i hi => ?_⟩
  rw [Nat.zero_add, (Blk.new w _ _).cell]
  simp
theorem aw_put1 (w : World) (base b : Nat) (v : Value) (hb : base ≤ w.heap.size) (h : Ar 74 9 w base b 3 0 v []) :
    Calls Try.prog 29 #[.pointer (some ⟨b, 0, none⟩), .slice (some ⟨w.heap.size, 0, none⟩) 2 2] (w.alloc (.cells #[sA, sB] 9)) fun e w' => e = .returned (.tuple #[.int .i64 0, .int .i64 0]) ∧ ∃ v', Ar 74 9 w' base b 3 2 v' [sA, sB] ∧ Below base w w' := by
  have h' := h.below (B1 w (.cells #[sA, sB] 9))
  have P := s_put_room b 3 0 v [] base (some ⟨w.heap.size, 0, none⟩) 2 [sA, sB] (fun h => by cases h) (by simp [Value.oneCell']) (by unfold maxLen; simp) (by simp) (by simp) (w.alloc (.cells #[sA, sB] 9)) (by simp; omega) h' (lies_new w [sA, sB] 9)
  refine P.mono ?_
  rintro e w' ⟨he, v', ha, ht⟩
  exact ⟨he, v', ha, ((Below.refl base w).alloc hb _).trans (ht.below h' (by simp; omega))⟩
theorem aw_put2 (w : World) (base b : Nat) (v : Value) (hb : base ≤ w.heap.size) (h : Ar 74 9 w base b 3 2 v [sA, sB]) :
    Calls Try.prog 29 #[.pointer (some ⟨b, 0, none⟩), .slice (some ⟨w.heap.size, 0, none⟩) 1 1] (w.alloc (.cells #[sC] 9)) fun e w' => e = .returned (.tuple #[.int .i64 2, .int .i64 0]) ∧ ∃ v', Ar 74 9 w' base b 3 3 v' [sA, sB, sC] ∧ Below base w w' := by
  have h' := h.below (B1 w (.cells #[sC] 9))
  have P := s_put_room b 3 2 v [sA, sB] base (some ⟨w.heap.size, 0, none⟩) 1 [sC] (fun h => by cases h) (by simp [Value.oneCell']) (by unfold maxLen; simp) (by simp) (by simp) (w.alloc (.cells #[sC] 9)) (by simp; omega) h' (lies_new w [sC] 9)
  refine P.mono ?_
  rintro e w' ⟨he, v', ha, ht⟩
  exact ⟨he, v', ha, ((Below.refl base w).alloc hb _).trans (ht.below h' (by simp; omega))⟩
theorem aw_put3 (w : World) (base b : Nat) (v : Value) (h : Ar 74 9 w base b 3 3 v [sA, sB, sC]) :
    Calls Try.prog 29 #[.pointer (some ⟨b, 0, none⟩), .slice (some ⟨w.heap.size, 0, none⟩) 1 1] (w.alloc (.cells #[sD] 9)) fun e w' => e = .returned (.tuple #[.int .i64 0, .int .i64 12]) ∧ Ar 74 9 w' base b 3 3 v [sA, sB, sC] ∧ Below w.heap.size w w' := by
  have h' := h.below (B1 w (.cells #[sD] 9))
  refine (s_put_full b 3 3 v [sA, sB, sC] base 1 1 (some ⟨w.heap.size, 0, none⟩) (by simp) (w.alloc (.cells #[sD] 9)) h').mono ?_
  rintro e w' ⟨he, n, rfl⟩
  exact ⟨he, h'.drewN, bdrew (B1 _ _)⟩
theorem aw_back (w : World) (base b : Nat) (v : Value) (hb : base ≤ w.heap.size) (h : Ar 74 9 w base b 3 3 v [sA, sB, sC]) :
    Calls Try.prog 31 #[.pointer (some ⟨b, 0, none⟩), .int .i64 2] w fun e w' => e = .returned (.int .i64 0) ∧ ∃ v', Ar 74 9 w' base b 3 3 v' [sA, sB] ∧ Below base w w' := by
  refine (s_back_good b 3 3 v [sA, sB, sC] base 2 (by simp) w h).mono ?_
  rintro e w' ⟨he, v', ha, ht⟩
  exact ⟨he, v', ha, ht.below h hb⟩
set_option maxRecDepth 100000 in
set_option maxHeartbeats 4000000 in
theorem awake_any (w : World) : Calls Try.prog 8 #[] w fun e w' => e = .returned (.bool true) ∧ Below w.heap.size w w' := by
  go_enter Try.func8, Try.ntmps8
  go_wp2_with (go_at_call 28; refine (s_new_any 3 (by decide) (by decide) _).mono ?_; rintro e w1 ⟨rfl, hb1, ha1, hz1⟩; have HB1 := Lib.hid hb1; have HA1 := Lib.hid ha1; clear hb1 ha1 hz1)
  go_wp2_with (go_at_call 29; refine (aw_put1 w1 w.heap.size w.heap.size _ HB1.out.size HA1.out).mono ?_; clear HA1; rintro e w2 ⟨rfl, v2, ha2, hb2⟩; have HB2 := Lib.hid (HB1.out.trans hb2); have HA2 := Lib.hid ha2; clear hb2 ha2)
  go_wp2_with (go_at_call 30; refine (s_mark_any w.heap.size 3 2 v2 [sA, sB] w.heap.size _ HA2.out).mono ?_; rintro e w3 ⟨rfl, rfl⟩)
  go_wp2_with (go_at_call 29; refine (aw_put2 w2 w.heap.size w.heap.size _ HB2.out.size HA2.out).mono ?_; clear HA2; rintro e w3 ⟨rfl, v3, ha3, hb3⟩; have HB3 := Lib.hid (HB2.out.trans hb3); have HA3 := Lib.hid ha3; clear hb3 ha3)
  go_wp2_with (go_at_call 29; refine (aw_put3 w3 w.heap.size w.heap.size v3 HA3.out).mono ?_; clear HA3; rintro e w4 ⟨rfl, ha4, hb4⟩; have HB4 := Lib.hid (bb HB3.out hb4); have HA4 := Lib.hid ha4; clear hb4 ha4)
  go_wp2_with (go_at_call 31; refine (aw_back w4 w.heap.size w.heap.size v3 HB4.out.size HA4.out).mono ?_; rintro e w5 ⟨rfl, v5, ha5, hb5⟩; have HB5 := Lib.hid (HB4.out.trans hb5); have HA5 := Lib.hid ha5; clear hb5 ha5)
  go_wp2_with (first | (go_at_call 32; refine (s_at_yes w.heap.size 3 3 v5 [sA, sB] w.heap.size 1 sB rfl _ HA5.out).mono ?_; rintro e w6 ⟨rfl, rfl⟩) | (go_at_call 33; refine (s_len_any w.heap.size 3 3 v5 [sA, sB] w.heap.size _ HA5.out).mono ?_; rintro e w6 ⟨rfl, rfl⟩) | (go_at_call 34; refine (s_peak_any w.heap.size 3 3 v5 [sA, sB] w.heap.size _ HA5.out).mono ?_; rintro e w6 ⟨rfl, rfl⟩))
  go_ret
  exact ⟨rfl, HB5.out⟩
end Go.Proofs.Ytfcacgiejoeneaa

/- An arena of numbers: what the laws ask of Put, of the others. -/
import Derived.Test.YtfcacgiejoeneaaWg
import Derived.Test.YtfcacgiejoeneaaKa
namespace Go.Proofs.Ytfcacgiejoeneaa
open Go Go.RowKit
theorem Turn.ofAlloc {w w' : World} {b : Nat} {v v' : Value} {o : Obj} (h : Turn (w.alloc o) w' b v v') : Turn w w' b v v' :=
  ⟨h.os, h.tape, h.output, by have := h.size; simp at this; omega, fun k hk h1 h2 => (h.block k (by simp; omega) h1 h2).trans (Below.heap_alloc w o k hk), fun k e => (h.fresh k e).imp id (fun h => by simp at h; omega)⟩
/-- Things are put into an arena that has none. -/
theorem put_first (w : World) (base b : Nat) (most : Int) (v : Value) (A : Option Addr) (c n : Nat) (l : List Value) (hn : l.length = n) (hnc : A = none → c = 0) (h1 : ∀ u ∈ l, u.oneCell' = true) (hl : n ≤ 60000) (hm : (n : Int) ≤ most) (hbase : base ≤ w.heap.size)
    (h : Ar 61 3 w base b most 0 v []) (hA : Lies w A l) :
    Calls Try.prog 12 #[.pointer (some ⟨b, 0, none⟩), .slice A n c] w fun e w' => e = .returned (.tuple #[.int .i64 0, .int .i64 0]) ∧ ∃ v', Ar 61 3 w' base b most n v' l ∧ Turn w w' b v v' := by
  subst hn
  refine (i_put_room b most 0 v [] base A c l hnc h1 (by unfold maxLen; simp; omega) (by simp; omega) (by simpa using hm) w hbase h hA).mono ?_
  rintro e w' ⟨he, v', ha, ht⟩
  refine ⟨he, v', ?_, ht⟩
  have e1 : max (0 : Int) ((([] : List Value).length : Int) + l.length) = l.length := by simp
  rw [e1] at ha
  simpa using ha
/-- One thing is put. -/
theorem put_one (w : World) (base b N : Nat) (most peak : Int) (v x : Value) (xs : List Value) (hN : xs.length = N) (h1 : x.oneCell' = true) (hl : N ≤ 60000) (hm : (N : Int) + 1 ≤ most) (hbase : base ≤ w.heap.size)
    (h : Ar 61 3 w base b most peak v xs) :
    Calls Try.prog 12 #[.pointer (some ⟨b, 0, none⟩), .slice (some ⟨w.heap.size, 0, none⟩) 1 1] (w.alloc (.cells #[x] 3)) fun e w' => e = .returned (.tuple #[.int .i64 N, .int .i64 0]) ∧ ∃ v' pk, Ar 61 3 w' base b most pk v' (xs ++ [x]) ∧ Turn w w' b v v' := by
  have h' := h.below (B1 w (.cells #[x] 3))
  refine (i_put_room b most peak v xs base (some ⟨w.heap.size, 0, none⟩) 1 [x] (fun h => by cases h) (by simpa using h1) (by unfold maxLen; simp; omega) (by simp; omega) (by simp; omega) _ (by simp; omega) h' (lies_one w x 3)).mono ?_
  rintro e w' ⟨he, v', ha, ht⟩
  rw [hN] at he
  exact ⟨he, v', _, ha, ht.ofAlloc⟩
/-- One thing too many. -/
theorem put_none (w : World) (base b : Nat) (most peak : Int) (v x : Value) (xs : List Value) (hN : (xs.length : Int) = most) (h : Ar 61 3 w base b most peak v xs) :
    Calls Try.prog 12 #[.pointer (some ⟨b, 0, none⟩), .slice (some ⟨w.heap.size, 0, none⟩) 1 1] (w.alloc (.cells #[x] 3)) fun e w' => e = .returned (.tuple #[.int .i64 0, .int .i64 12]) ∧ Ar 61 3 w' base b most peak v xs ∧ Below w.heap.size w w' := by
  have h' := h.below (B1 w (.cells #[x] 3))
  refine (i_put_full b most peak v xs base 1 1 (some ⟨w.heap.size, 0, none⟩) (by omega) _ h').mono ?_
  rintro e w' ⟨he, n, rfl⟩
  exact ⟨he, h'.drewN, bdrew (B1 _ _)⟩
theorem len_is (b N : Nat) (most peak : Int) (v : Value) (xs : List Value) (base : Nat) (hN : xs.length = N) (w : World) (h : Ar 61 3 w base b most peak v xs) :
    Calls Try.prog 24 #[.pointer (some ⟨b, 0, none⟩)] w fun e w' => e = .returned (.int .i64 N) ∧ w = w' := by
  have := i_len_any b most peak v xs base w h
  rwa [hN] at this
theorem left_is (b : Nat) (most peak M : Int) (v : Value) (xs : List Value) (base : Nat) (hM : most - xs.length = M) (w : World) (h : Ar 61 3 w base b most peak v xs) :
    Calls Try.prog 25 #[.pointer (some ⟨b, 0, none⟩)] w fun e w' => e = .returned (.int .i64 M) ∧ ∃ n, w' = w.drewN n := by
  have := i_left_any b most peak v xs base w h
  rwa [hM] at this
theorem mark_is (b N : Nat) (most peak : Int) (v : Value) (xs : List Value) (base : Nat) (hN : xs.length = N) (w : World) (h : Ar 61 3 w base b most peak v xs) :
    Calls Try.prog 23 #[.pointer (some ⟨b, 0, none⟩)] w fun e w' => e = .returned (.int .i64 N) ∧ w = w' := by
  have := i_mark_any b most peak v xs base w h
  rwa [hN] at this
end Go.Proofs.Ytfcacgiejoeneaa

/- Pick; what all words are told to be, however they are; the gaps of the law WordsJoin. -/
import Derived.Test.YtgmdfmckkfefgaaDoorXb
import Derived.Test.YtgmdfmckkfefgaaDoorMe
namespace Go.Proofs.YtgmdfmckkfefgaaDoor
open Go Go.RowKit
set_option maxHeartbeats 400000 in
theorem pick_any (x n : Int) (hx : -9223372036854775808 ≤ x ∧ x < 9223372036854775808) (hn : 1 ≤ n ∧ n < 9223372036854775808) (w : World) :
    Calls Tryd.prog 9 #[.int .i64 x, .int .i64 n] w fun e w' => e = .returned (.int .i64 (x % n)) ∧ w = w' := by
  have h1 := Int.emod_nonneg x (show n ≠ 0 by omega)
  have h2 := Int.emod_lt_of_pos x (show 0 < n by omega)
  have ht := Int.tmod_eq_emod (a := x) (b := n)
  have hd0 : n ≠ 0 := by omega
  have hd1 : (n == 0) = false := by simpa using hd0
  obtain ⟨y, ey⟩ : ∃ y, y = x.tmod n := ⟨_, rfl⟩
  rw [← ey] at ht
  obtain ⟨z, ez⟩ : ∃ z, z = x % n := ⟨_, rfl⟩
  rw [← ez] at ht h1 h2 ⊢
  have hcase : (0 ≤ y ∧ y = z) ∨ (y < 0 ∧ y + n = z) := by
    split at ht
    · left; omega
    · right; omega
  have hy : x.tmod n = y := ey.symm
  have hn1 : ¬ n < 1 := by omega
  have hwy : IntKind.i64.wrap y = y := IntWalk.i64_in _ (by omega)
  clear ht ez ey hx
  rcases hcase with ⟨h3, rfl⟩ | ⟨h3, h4⟩
  · go_enter Tryd.func9, Tryd.ntmps9
    go_wp2_with fail
    go_ret
    exact ⟨rfl, rfl⟩
  · have hwz : IntKind.i64.wrap (y + n) = z := (IntWalk.i64_in _ (by omega)).trans h4
    clear h4
    go_enter Tryd.func9, Tryd.ntmps9
    go_wp2_with fail
    go_ret
    exact ⟨rfl, rfl⟩
/-- What is told of all words of a text. -/
def Told (l : List Nat) (N : Nat) (base : Nat) (A : Option Addr) (n c : Nat) (at_ er : Int) (w : World) : Prop :=
  (er = 7 ∧ ow l N = none ∧ at_ = beg l N) ∨ (er = 0 ∧ ow l N ≠ none ∧ n = N + 1 ∧ ∃ g, A = some ⟨g, 0, none⟩ ∧ w.ownsRow base 33 9 (.slice (some ⟨g, 0, none⟩) (N + 1) c) (N + 1) (wrow l (N + 1)))
theorem All_told (N : Nat) (s : ByteArray) (l : List Nat) (hs : Str s l) (hl : l.length ≤ 16384) (hN : stp l N = true) (hNl : N ≤ l.length) (hNb : ∀ j, j < N → stp l j = false) (w : World) (hT : Tab w) :
    Calls Tryd.prog 6 #[.string s] w fun e w' => Below w.heap.size w w' ∧ ∃ A n c at_ er, e = .returned (.tuple #[.slice A n c, .int .i64 at_, .int .i64 er]) ∧ Told l N w.heap.size A n c at_ er w' := by
  refine (All_any N s l hs hl hN hNl hNb w hT).mono fun e w' h => ?_
  obtain ⟨hb, ⟨h1, h2⟩ | ⟨v, h1, h2, h4⟩⟩ := h
  · exact ⟨hb, none, 0, 0, _, 7, h2, .inl ⟨rfl, h1, rfl⟩⟩
  · have h5 := h4
    rcases h4.2 with ⟨_, h6⟩ | ⟨g, cap, cur, rfl, _⟩
    · omega
    · exact ⟨hb, _, _, _, 0, 0, h2, .inr ⟨rfl, h1, rfl, g, rfl, h5⟩⟩
/-- The gaps. -/
def four : Array Value := #[.string ⟨#[10]⟩, .string ⟨#[10, 32, 9, 13]⟩, .string ⟨#[10, 35, 120, 10]⟩, .string ⟨#[32, 10, 35, 10, 10]⟩]
theorem four_at : ∀ j, j < 4 → ∃ (gs : ByteArray) (x : List Nat), four[j]? = some (.string gs) ∧ Str gs x ∧ Gap x := by
  intro j hj
  match j, hj with
  | 0, _ => exact ⟨_, _, rfl, rfl, gap0⟩
  | 1, _ => exact ⟨_, _, rfl, rfl, gap1⟩
  | 2, _ => exact ⟨_, _, rfl, rfl, gap2⟩
  | 3, _ => exact ⟨_, _, rfl, rfl, gap3⟩
set_option maxRecDepth 100000 in
set_option maxHeartbeats 2000000 in
theorem join_long (s t : ByteArray) (k : Int) (h : 500 < s.size ∨ 500 < t.size) (w : World) (hT : Tab w) :
    Calls Tryd.prog 4 #[.string s, .string t, .int .i64 k] w fun e w' => e = .returned (.bool true) ∧ Below w.heap.size w w' := by
  have AW := Lib.hid (awake_any w hT)
  have TT := Lib.hid hT
  clear hT
  by_cases h3 : (500 : Int) < s.size
  · clear h
    go_enter Tryd.func4, Tryd.ntmps4
    go_wp2_with (go_at_call 5; (with_reducible refine AW.out.mono ?_); rintro e w1 ⟨rfl, hb⟩; have HB := Lib.hid hb; have T1 := Lib.hid (TT.out.below hb); clear hb)
    go_ret
    exact ⟨rfl, HB.out⟩
  · have h4 : (500 : Int) < t.size := by omega
    clear h
    go_enter Tryd.func4, Tryd.ntmps4
    go_wp2_with (go_at_call 5; (with_reducible refine AW.out.mono ?_); rintro e w1 ⟨rfl, hb⟩; have HB := Lib.hid hb; have T1 := Lib.hid (TT.out.below hb); clear hb)
    go_ret
    exact ⟨rfl, HB.out⟩
end Go.Proofs.YtgmdfmckkfefgaaDoor

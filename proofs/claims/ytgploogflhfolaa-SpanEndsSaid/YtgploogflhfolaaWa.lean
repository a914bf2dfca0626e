/- Contracts of layer 3's small functions: Right, Len, Has, and the document's. -/
import Derived.Test.YtgploogflhfolaaRows
import Derived.WalkKit
import Derived.WalkSpells
import Derived.Lib.Hide
import Derived.StillTailTactics
import Derived.Deep.QuietTactic
import Derived.BigQuiet
import Derived.Deep.Draws
import Derived.Outline
import Derived.IntWalk
import Derived.Laws.OwnMore
import Derived.Laws.Rows
namespace Go.Proofs.Ytgploogflhfolaa
open Go.RowKit

theorem bt {B : Nat} {a b c : World} (h : Below B a b) (h' : Below b.heap.size b c) (hB : B ≤ b.heap.size) : Below B a c := h.trans (h'.mono hB)
theorem bdrew {B n : Nat} {a w : World} (h : Below B a w) : Below B a (w.drewN n) := ⟨h.os, h.tape, h.output, h.size, h.block⟩
theorem bdrew1 {B : Nat} {a w : World} (h : Below B a w) : Below B a w.drew := ⟨h.os, h.tape, h.output, h.size, h.block⟩
theorem bcell {W w1 : World} (hb : Below W.heap.size W w1) : (∀ b o, b < W.heap.size → w1.cell? ⟨b, o, none⟩ = W.cell? ⟨b, o, none⟩) ∧ (∀ b o, b < W.heap.size → w1.frozen? ⟨b, o, none⟩ = W.frozen? ⟨b, o, none⟩) :=
  ⟨fun b o h => hb.cell (p := ⟨b, o, none⟩) h, fun b o h => hb.frozen (p := ⟨b, o, none⟩) h⟩
/-- Block b is whole, and reads vs. -/
def Blk (w : World) (b : Nat) (vs : Array Value) (T : TypeId) : Prop := w.heap[b]? = some (.cells vs T (0, 0))
theorem Blk.lt {w : World} {b : Nat} {vs : Array Value} {T : TypeId} (h : Blk w b vs T) : b < w.heap.size := (Array.getElem?_eq_some_iff.1 h).1
theorem Blk.cell {w : World} {b : Nat} {vs : Array Value} {T : TypeId} (h : Blk w b vs T) (j : Nat) : w.cell? ⟨b, j, none⟩ = vs[j]? := by simp [World.cell?, show w.heap[b]? = _ from h]
theorem Blk.frozen {w : World} {b : Nat} {vs : Array Value} {T : TypeId} (h : Blk w b vs T) (j : Nat) : w.frozen? ⟨b, j, none⟩ = false := by simp [World.frozen?, show w.heap[b]? = _ from h]
theorem Blk.below {w w' : World} {b B : Nat} {vs : Array Value} {T : TypeId} (h : Blk w b vs T) (hb : Below B w w') (hl : b < B) : Blk w' b vs T := (hb.block b hl).trans h
theorem Blk.alloc {w : World} {b : Nat} {vs : Array Value} {T : TypeId} (h : Blk w b vs T) (o : Obj) : Blk (w.alloc o) b vs T := (Below.heap_alloc w o b h.lt).trans h
theorem Blk.new (w : World) (vs : Array Value) (T : TypeId) : Blk (w.alloc (.cells vs T)) w.heap.size vs T := heap_alloc_new w _
theorem Blk.two {w : World} {b : Nat} {x y : Value} {T : TypeId} (h : Blk w b #[x, y] T) : w.cell? ⟨b, 0, none⟩ = some x ∧ w.cell? ⟨b, 1, none⟩ = some y := ⟨by rw [h.cell]; rfl, by rw [h.cell]; rfl⟩
theorem Blk.new2 (w : World) (o : Obj) (vs : Array Value) (T : TypeId) : Blk ((w.alloc o).alloc (.cells vs T)) (w.heap.size + 1) vs T := by have := Blk.new (w.alloc o) vs T; rwa [World.size_alloc] at this
theorem Blk.drewN {w : World} {b n : Nat} {vs : Array Value} {T : TypeId} (h : Blk w b vs T) : Blk (w.drewN n) b vs T := h

theorem ret_int {k : IntKind} {a b : Int} (h : a = b) : Ending.returned (.int k a) = .returned (.int k b) := by rw [h]
theorem ret_bool {a b : Bool} (h : a = b) : Ending.returned (.bool a) = .returned (.bool b) := by rw [h]
abbrev B1 (w : World) (o : Obj) : Below w.heap.size w (w.alloc o) := (Below.refl _ _).alloc (Nat.le_refl _) o
theorem B2 (w : World) (o p : Obj) : Below w.heap.size w ((w.alloc o).alloc p) := (B1 w o).alloc (by simp) p

/-- A span is right. -/
def rt (x y : Int) : Bool := decide (0 ≤ x) && decide (x ≤ y)
/-- How many places it has. -/
def ln (x y : Int) : Int := if rt x y then y - x else 0
/-- Whether it has a place. -/
def hs (x y p : Int) : Bool := rt x y && decide (x ≤ p) && decide (p < y)

set_option maxHeartbeats 400000 in
theorem right_any (x y : Int) (w : World) :
    Calls Try.prog 10 #[.agg #[.int .i64 x, .int .i64 y]] w fun e w' => e = .returned (.bool (rt x y)) ∧ Below w.heap.size w w' := by
  go_enter Try.func10, Try.ntmps10
  go_wp2
  all_goals
    go_ret
    exact ⟨ret_bool (by simp [rt]; try omega), B1 _ _⟩
set_option maxHeartbeats 400000 in
theorem rright_any (x y : Int) (w : World) :
    Calls Try.prog 11 #[.agg #[.int .i64 x, .int .i64 y]] w fun e w' => e = .returned (.bool (rt x y)) ∧ Below w.heap.size w w' := by
  go_enter Try.func11, Try.ntmps11
  go_wp2
  all_goals
    go_ret
    exact ⟨ret_bool (by simp [rt]; try omega), B1 _ _⟩

set_option maxHeartbeats 400000 in
theorem len_any (x y : Int) (hy : y < 9223372036854775808) (w : World) :
    Calls Try.prog 12 #[.agg #[.int .i64 x, .int .i64 y]] w fun e w' => e = .returned (.int .i64 (ln x y)) ∧ Below w.heap.size w w' := by
  obtain ⟨r, hr⟩ : ∃ r, r = rt x y := ⟨_, rfl⟩
  have R := fun w => right_any x y w
  rw [← hr] at R
  have R := Lib.hid R
  have e0 : ln x y = if r then y - x else 0 := by rw [hr]; rfl
  rw [e0]
  clear e0
  cases r with
  | false =>
    clear hr
    go_enter Try.func12, Try.ntmps12
    go_wp2_with (go_at_call 10; refine (R.out _).mono ?_; rintro e w1 ⟨rfl, hb⟩)
    go_ret
    exact ⟨rfl, bt (B1 _ _) hb (by simp)⟩
  | true =>
    have hr2 : 0 ≤ x ∧ x ≤ y := by simpa [rt] using hr.symm
    clear hr
    go_enter Try.func12, Try.ntmps12
    go_wp2_with (go_at_call 10; refine (R.out _).mono ?_; rintro e w1 ⟨rfl, hb⟩; obtain ⟨hqc, hqf⟩ := bcell hb)
    have hw : IntKind.i64.wrap (y - x) = y - x := IntWalk.i64_in _ (by omega)
    go_wp2
    go_ret
    exact ⟨rfl, bt (B1 _ _) hb (by simp)⟩

set_option maxHeartbeats 400000 in
theorem rlen_any (x y : Int) (hy : y < 9223372036854775808) (w : World) :
    Calls Try.prog 13 #[.agg #[.int .i64 x, .int .i64 y]] w fun e w' => e = .returned (.int .i64 (ln x y)) ∧ Below w.heap.size w w' := by
  obtain ⟨r, hr⟩ : ∃ r, r = rt x y := ⟨_, rfl⟩
  have R := fun w => rright_any x y w
  rw [← hr] at R
  have R := Lib.hid R
  have e0 : ln x y = if r then y - x else 0 := by rw [hr]; rfl
  rw [e0]
  clear e0
  cases r with
  | false =>
    clear hr
    go_enter Try.func13, Try.ntmps13
    go_wp2_with (go_at_call 11; refine (R.out _).mono ?_; rintro e w1 ⟨rfl, hb⟩)
    go_ret
    exact ⟨rfl, bt (B1 _ _) hb (by simp)⟩
  | true =>
    have hr2 : 0 ≤ x ∧ x ≤ y := by simpa [rt] using hr.symm
    clear hr
    go_enter Try.func13, Try.ntmps13
    go_wp2_with (go_at_call 11; refine (R.out _).mono ?_; rintro e w1 ⟨rfl, hb⟩; obtain ⟨hqc, hqf⟩ := bcell hb)
    have hw : IntKind.i64.wrap (y - x) = y - x := IntWalk.i64_in _ (by omega)
    go_wp2
    go_ret
    exact ⟨rfl, bt (B1 _ _) hb (by simp)⟩

set_option maxHeartbeats 400000 in
theorem has_any (x y p : Int) (w : World) :
    Calls Try.prog 14 #[.agg #[.int .i64 x, .int .i64 y], .int .i64 p] w fun e w' => e = .returned (.bool (hs x y p)) ∧ Below w.heap.size w w' := by
  obtain ⟨r, hr⟩ : ∃ r, r = rt x y := ⟨_, rfl⟩
  have R := fun w => right_any x y w
  rw [← hr] at R
  have R := Lib.hid R
  have e0 : hs x y p = (r && decide (x ≤ p) && decide (p < y)) := by rw [hr]; rfl
  rw [e0]
  clear e0 hr
  go_enter Try.func14, Try.ntmps14
  go_wp2_with (go_at_call 10; refine (R.out _).mono ?_; rintro e w1 ⟨rfl, hb⟩; obtain ⟨hqc, hqf⟩ := bcell hb)
  all_goals
    go_ret
    exact ⟨ret_bool (by simp_all <;> omega), bt (B1 _ _) hb (by simp)⟩

set_option maxHeartbeats 400000 in
theorem rhas_any (x y p : Int) (w : World) :
    Calls Try.prog 15 #[.agg #[.int .i64 x, .int .i64 y], .int .i64 p] w fun e w' => e = .returned (.bool (hs x y p)) ∧ Below w.heap.size w w' := by
  obtain ⟨r, hr⟩ : ∃ r, r = rt x y := ⟨_, rfl⟩
  have R := fun w => rright_any x y w
  rw [← hr] at R
  have R := Lib.hid R
  have e0 : hs x y p = (r && decide (x ≤ p) && decide (p < y)) := by rw [hr]; rfl
  rw [e0]
  clear e0 hr
  go_enter Try.func15, Try.ntmps15
  go_wp2_with (go_at_call 11; refine (R.out _).mono ?_; rintro e w1 ⟨rfl, hb⟩; obtain ⟨hqc, hqf⟩ := bcell hb)
  all_goals
    go_ret
    exact ⟨ret_bool (by simp_all <;> omega), bt (B1 _ _) hb (by simp)⟩
end Go.Proofs.Ytgploogflhfolaa

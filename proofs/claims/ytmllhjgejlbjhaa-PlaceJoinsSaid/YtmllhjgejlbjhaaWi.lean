/- Layer 2: the chapter's example. -/
import Derived.Test.YtmllhjgejlbjhaaWh
import Derived.Lib.SlBytesConst
namespace Go.Proofs.Ytmllhjgejlbjhaa
open Go.RowKit
def ex : List Nat := [97, 98, 10, 99]
theorem ex_begs : begs ex = [0, 3] := by decide
theorem ex_lns : Lns [0, 3] 4 := by have := begs_lns ex; rw [ex_begs] at this; exact this
theorem ex_at2 (x : Nat) (w : World) (h : Idx w x [0, 3] 4) : Calls Try.prog 13 #[.pointer (some ⟨x, 0, none⟩), .int .i64 2] w fun e w' => e = .returned (.tuple #[.int .i64 1, .int .i64 3, .bool true]) ∧ Below w.heap.size w w' :=
  at_yes x [0, 3] 4 2 ex_lns (by omega) (by omega) w h
theorem ex_at3 (x : Nat) (w : World) (h : Idx w x [0, 3] 4) : Calls Try.prog 13 #[.pointer (some ⟨x, 0, none⟩), .int .i64 3] w fun e w' => e = .returned (.tuple #[.int .i64 2, .int .i64 1, .bool true]) ∧ Below w.heap.size w w' :=
  at_yes x [0, 3] 4 3 ex_lns (by omega) (by omega) w h
theorem ex_place (x : Nat) (w : World) (h : Idx w x [0, 3] 4) : Calls Try.prog 14 #[.pointer (some ⟨x, 0, none⟩), .int .i64 2, .int .i64 2] w fun e w' => e = .returned (.tuple #[.int .i64 4, .bool true]) ∧ Below w.heap.size w w' :=
  place_yes x [0, 3] 4 ex_lns (by omega) 2 2 (by omega) (by simp) (by omega) (by decide) w h
theorem ex_lines (x : Nat) (w : World) (h : Idx w x [0, 3] 4) : Calls Try.prog 16 #[.pointer (some ⟨x, 0, none⟩)] w fun e w' => e = .returned (.int .i64 2) ∧ Below w.heap.size w w' :=
  lines_any x [0, 3] 4 w h
theorem ex_txt (w : World) : Txt (w.alloc (.cells #[.int .u8 97, .int .u8 98, .int .u8 10, .int .u8 99] 5 (4, 5))) (some ⟨w.heap.size, 0, none⟩) ex := by
  refine ⟨by decide, fun _ => ⟨_, _, rfl, by simp, fun i hi => ?_⟩⟩
  rw [Nat.zero_add, cell_of_row _ _ i _ _ _ (heap_alloc_new w _)]
  have hi' : i < 4 := hi
  match i, hi' with
  | 0, _ => rfl
  | 1, _ => rfl
  | 2, _ => rfl
  | 3, _ => rfl
theorem ex_new (w : World) : Calls Try.prog 9 #[.slice (some ⟨w.heap.size, 0, none⟩) 4 4] (w.alloc (.cells #[.int .u8 97, .int .u8 98, .int .u8 10, .int .u8 99] 5 (4, 5))) fun e w' => ∃ x, e = .returned (.pointer (some ⟨x, 0, none⟩)) ∧ Idx w' x [0, 3] 4 ∧ Below w.heap.size w w' :=
  (new_any (some ⟨w.heap.size, 0, none⟩) ex 4 _ (by decide) (ex_txt w)).mono fun e w' ⟨⟨x, he, _, hi⟩, hb⟩ => ⟨x, he, by rw [ex_begs] at hi; exact hi, ((Below.refl _ _).alloc (Nat.le_refl _) _).trans (hb.mono (by simp))⟩

end Go.Proofs.Ytmllhjgejlbjhaa

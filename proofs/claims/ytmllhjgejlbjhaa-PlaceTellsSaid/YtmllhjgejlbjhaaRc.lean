/- Layer 2: an index tells what the document tells. -/
import Derived.Test.YtmllhjgejlbjhaaRb
namespace Go.Proofs.Ytmllhjgejlbjhaa
open Go.RowKit
section
variable (A : Option Addr) (l : List Nat) (c : Nat) (hl : l.length ≤ 65536) {x : Nat} (w : World) (h : Txt w A l)
include hl h
theorem rat_as (p : Int) :
    (∃ (a b : Nat) (s : Bool), (∀ w', Below w.heap.size w w' → Calls Try.prog 19 #[.slice A l.length c, .int .i64 p] w' fun e w'' => e = .returned (.tuple #[.int .i64 a, .int .i64 b, .bool s]) ∧ w' = w'') ∧
      (∀ w', Idx w' x (begs l) l.length → Calls Try.prog 13 #[.pointer (some ⟨x, 0, none⟩), .int .i64 p] w' fun e w'' => e = .returned (.tuple #[.int .i64 a, .int .i64 b, .bool s]) ∧ Below w'.heap.size w' w'')) := by
  by_cases hp : p < 0 ∨ (l.length : Int) < p
  · exact ⟨0, 0, false, fun w' _ => rat_no A l.length c p hl hp w', fun w' hx => at_no x _ _ (begs_lns l) (by omega) p hp w' hx⟩
  · obtain ⟨k, rfl⟩ := Int.eq_ofNat_of_zero_le (show 0 ≤ p by omega)
    exact ⟨_, _, true, fun w' hb => rat_yes A l c k hl (by omega) w' (h.below hb), fun w' hx => at_yes x _ _ k (begs_lns l) (by omega) (by omega) w' hx⟩
theorem rline_as (q : Int) :
    (∃ (a b : Nat) (s : Bool), (∀ w', Below w.heap.size w w' → Calls Try.prog 21 #[.slice A l.length c, .int .i64 q] w' fun e w'' => e = .returned (.tuple #[.int .i64 a, .int .i64 b, .bool s]) ∧ w' = w'') ∧
      (∀ w', Idx w' x (begs l) l.length → Calls Try.prog 15 #[.pointer (some ⟨x, 0, none⟩), .int .i64 q] w' fun e w'' => e = .returned (.tuple #[.int .i64 a, .int .i64 b, .bool s]) ∧ Below w'.heap.size w' w'')) := by
  by_cases hp : q < 1 ∨ ((begs l).length : Int) < q
  · exact ⟨0, 0, false, fun w' hb => rline_no A l c q hl hp w' (h.below hb), fun w' hx => line_no x _ _ (begs_lns l) (by omega) q hp w' hx⟩
  · obtain ⟨k, rfl⟩ := Int.eq_ofNat_of_zero_le (show 0 ≤ q by omega)
    refine ⟨_, _, true, fun w' hb => rline_yes A l c k hl (by omega) (by omega) w' (h.below hb), fun w' hx => ?_⟩
    have := line_yes x _ _ (begs_lns l) (by omega) k (by omega) (by omega) w' hx
    rwa [st_next (begs_lns l) (by omega) (by omega), st_of (L := l.length) (by omega)] at this
end
theorem bt {w0 w w' : World} (h : Below w0.heap.size w0 w) (h' : Below w.heap.size w w') : Below w0.heap.size w0 w' := h.trans (h'.mono h.size)

set_option maxRecDepth 100000 in
set_option maxHeartbeats 2000000 in
theorem tells_any (A : Option Addr) (l : List Nat) (c : Nat) (hl : l.length ≤ 65536) (x : Nat) (p q col : Int) (w : World) (h : Txt w A l) (hx : Idx w x (begs l) l.length) :
    Calls Try.prog 12 #[.pointer (some ⟨x, 0, none⟩), .slice A l.length c, .int .i64 p, .int .i64 q, .int .i64 col] w fun e w' => e = .returned (.bool true) ∧ Below w.heap.size w w' := by
  obtain ⟨a1, b1, s1, R1, I1⟩ := rat_as A l c hl (x := x) w h p
  obtain ⟨a2, s2, R2, I2⟩ := rplace_as A l c q col hl (x := x) w h
  obtain ⟨a3, b3, s3, R3, I3⟩ := rline_as A l c hl (x := x) w h q
  have R4 := fun w' (hb : Below w.heap.size w w') => rlines_any A l c hl w' (h.below hb)
  have I4 := fun w' (hi : Idx w' x (begs l) l.length) => lines_any x (begs l) l.length w' hi
  have I5 := fun w' (hi : Idx w' x (begs l) l.length) => len_any x (begs l) l.length (by omega) w' hi
  generalize (begs l).length = n at R4 I4
  have R1 := Lib.hid R1
  have R2 := Lib.hid R2
  have R3 := Lib.hid R3
  have R4 := Lib.hid R4
  have I1 := Lib.hid I1
  have I2 := Lib.hid I2
  have I3 := Lib.hid I3
  have I4 := Lib.hid I4
  have I5 := Lib.hid I5
  have X0 := Lib.hid hx
  clear h hx
  go_enter Try.func12, Try.ntmps12
  go_wp2_with fail
  refine (I1.out _ X0.out).mono ?_
  rintro e w1 ⟨rfl, hb⟩
  have X1 := Lib.hid (X0.out.below hb)
  have B1 := Lib.hid hb
  clear hb X0
  go_wp2_with fail
  refine (R1.out _ B1.out).mono ?_
  rintro e w2 ⟨rfl, rfl⟩
  go_wp2_with fail
  refine (I2.out _ X1.out).mono ?_
  rintro e w2 ⟨rfl, hb⟩
  have X2 := Lib.hid (X1.out.below hb)
  have B2 := Lib.hid (bt B1.out hb)
  clear hb X1
  go_wp2_with fail
  refine (R2.out _ B2.out).mono ?_
  rintro e w3 ⟨rfl, rfl⟩
  go_wp2_with fail
  refine (I3.out _ X2.out).mono ?_
  rintro e w3 ⟨rfl, hb⟩
  have X3 := Lib.hid (X2.out.below hb)
  have B3 := Lib.hid (bt B2.out hb)
  clear hb X2
  go_wp2_with fail
  refine (R3.out _ B3.out).mono ?_
  rintro e w4 ⟨rfl, rfl⟩
  go_wp2_with fail
  refine (I4.out _ X3.out).mono ?_
  rintro e w4 ⟨rfl, hb⟩
  have X4 := Lib.hid (X3.out.below hb)
  have B4 := Lib.hid (bt B3.out hb)
  clear hb X3
  go_wp2_with fail
  refine (R4.out _ B4.out).mono ?_
  rintro e w5 ⟨rfl, rfl⟩
  go_wp2_with fail
  refine (I5.out _ X4.out).mono ?_
  rintro e w5 ⟨rfl, hb⟩
  have B5 := Lib.hid (bt B4.out hb)
  clear hb X4
  go_wp2_with fail
  go_ret
  exact ⟨rfl, B5.out⟩
end Go.Proofs.Ytmllhjgejlbjhaa

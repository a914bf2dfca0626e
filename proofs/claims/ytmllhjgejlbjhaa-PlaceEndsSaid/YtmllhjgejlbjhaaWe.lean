/- Contracts of layer 2: tell, at each pair of questions; known. -/
import Derived.Test.YtmllhjgejlbjhaaWd
import Derived.Test.YtmllhjgejlbjhaaRq
namespace Go.Proofs.Ytmllhjgejlbjhaa
open Go.RowKit
theorem ret_iib {a b c d : Int} {x : Bool} (h : a = c) (h' : b = d) : Ending.returned (.tuple #[.int .i64 a, .int .i64 b, .bool x]) = .returned (.tuple #[.int .i64 c, .int .i64 d, .bool x]) := by rw [h, h']
theorem ret_ib {a c : Int} {x : Bool} (h : a = c) : Ending.returned (.tuple #[.int .i64 a, .bool x]) = .returned (.tuple #[.int .i64 c, .bool x]) := by rw [h]

set_option maxHeartbeats 400000 in
theorem tell_no (f g : FuncId) (n : Int) (X : Value) (w : World) (hf : f = 25 ∨ f = 27) (h : Calls Try.prog f #[X, .int .i64 n] w fun e w' => e = .returned (.bool false) ∧ Below w.heap.size w w') :
    Calls Try.prog 24 #[.int .i64 n, .func (.func f) #[X] #[], .func (.func g) #[X] #[]] w fun e w' => e = .returned (.tuple #[.int .i64 0, .int .i64 0, .bool false]) ∧ Below w.heap.size w w' := by
  have H := Lib.hid h
  clear h
  rcases hf with rfl | rfl
  · go_enter Try.func24, Try.ntmps24
    go_wp2_with (go_at_call 25; refine H.out.mono ?_; rintro e w' ⟨rfl, hb⟩)
    go_ret3
    exact ⟨rfl, hb⟩
  · go_enter Try.func24, Try.ntmps24
    go_wp2_with (go_at_call 27; refine H.out.mono ?_; rintro e w' ⟨rfl, hb⟩)
    go_ret3
    exact ⟨rfl, hb⟩
set_option maxHeartbeats 400000 in
theorem tell_yes (f g : FuncId) (n : Int) (X : Value) (a b : Int) (w : World) (hf : (f = 25 ∧ g = 26) ∨ (f = 27 ∧ g = 28) ∨ (f = 27 ∧ g = 29)) (h : Calls Try.prog f #[X, .int .i64 n] w fun e w' => e = .returned (.bool true) ∧ Below w.heap.size w w')
    (h' : ∀ w', Below w.heap.size w w' → Calls Try.prog g #[X, .int .i64 n] w' fun e w'' => e = .returned (.tuple #[.int .i64 a, .int .i64 b]) ∧ Below w'.heap.size w' w'') :
    Calls Try.prog 24 #[.int .i64 n, .func (.func f) #[X] #[], .func (.func g) #[X] #[]] w fun e w' => e = .returned (.tuple #[.int .i64 a, .int .i64 b, .bool true]) ∧ Below w.heap.size w w' := by
  have H := Lib.hid h
  have H' := Lib.hid h'
  clear h h'
  rcases hf with ⟨rfl, rfl⟩ | ⟨rfl, rfl⟩ | ⟨rfl, rfl⟩
  · go_enter Try.func24, Try.ntmps24
    go_wp2_with (first | (go_at_call 25; refine H.out.mono ?_; rintro e w' ⟨rfl, hb⟩) | (go_at_call 26; refine (H'.out _ hb).mono ?_; rintro e w2 ⟨rfl, hb2⟩))
    go_ret3
    exact ⟨rfl, hb.trans (hb2.mono hb.size)⟩
  · go_enter Try.func24, Try.ntmps24
    go_wp2_with (first | (go_at_call 27; refine H.out.mono ?_; rintro e w' ⟨rfl, hb⟩) | (go_at_call 28; refine (H'.out _ hb).mono ?_; rintro e w2 ⟨rfl, hb2⟩))
    go_ret3
    exact ⟨rfl, hb.trans (hb2.mono hb.size)⟩
  · go_enter Try.func24, Try.ntmps24
    go_wp2_with (first | (go_at_call 27; refine H.out.mono ?_; rintro e w' ⟨rfl, hb⟩) | (go_at_call 29; refine (H'.out _ hb).mono ?_; rintro e w2 ⟨rfl, hb2⟩))
    go_ret3
    exact ⟨rfl, hb.trans (hb2.mono hb.size)⟩

set_option maxHeartbeats 400000 in
theorem known_some (g : Nat) (w : World) :
    Calls Try.prog 23 #[.pointer (some ⟨g, 0, none⟩)] w fun e w' => e = .returned (.pointer (some ⟨g, 0, none⟩)) ∧ w = w' := by
  go_enter Try.func23, Try.ntmps23
  go_wp2
  go_ret
  exact ⟨rfl, rfl⟩
set_option maxHeartbeats 400000 in
theorem known_none (w : World) :
    Calls Try.prog 23 #[.pointer none] w fun e w' => e = .returned (.pointer (some ⟨w.heap.size, 0, none⟩)) ∧ Below w.heap.size w w' ∧ Blk w' w.heap.size #[.slice none 0 0, .int .i64 0] 36 := by
  go_enter Try.func23, Try.ntmps23
  go_wp2
  go_ret
  exact ⟨rfl, (Below.refl _ _).alloc (Nat.le_refl _) _, Blk.new _ _ _⟩

/-- An index of lines bs of a text of L bytes. -/
def Idx (w : World) (x : Nat) (bs : List Nat) (L : Nat) : Prop := ∃ g c, Blk w x #[.slice (some ⟨g, 0, none⟩) bs.length c, .int .i64 (L + 1 : Nat)] 36 ∧ Nums w g bs
theorem Idx.below {w w' : World} {x : Nat} {bs : List Nat} {L : Nat} (h : Idx w x bs L) (hb : Below w.heap.size w w') : Idx w' x bs L := by
  obtain ⟨g, c, h1, h2⟩ := h
  exact ⟨g, c, h1.below hb h1.lt, h2.below' hb⟩

end Go.Proofs.Ytmllhjgejlbjhaa

/- Contracts of Read and Decode. -/
import Derived.Test.YtgmdfmckkfefgaaDoorWl
import Derived.Test.YtgmdfmckkfefgaaDoorXl
namespace Go.Proofs.YtgmdfmckkfefgaaDoor
open Go Go.RowKit Go.Maps
/-- What Read tells. -/
def RE (p a : Int) (r : List Nat) : Ending := match rd p r with
  | some (x, n) => .returned (.tuple #[.int .u8 x, .int .i64 (a + n), .bool true])
  | none => .returned (.tuple #[.int .u8 0, .int .i64 0, .bool false])
theorem grown_below {B : Nat} {a b c : World} {r : Nat} (h : Below B a b) (h' : b.grownBy c (some r)) (hB : B ≤ b.heap.size) (hr : B ≤ r) : Below B a c :=
  h.grown h' hB (fun j hj => by cases hj; exact hr)
set_option maxHeartbeats 1000000 in
theorem Read_any (s : ByteArray) (l : List Nat) (a p : Int) (hs : Str s l) (hl : l.length ≤ 60000) (ha : -9223372036854775808 ≤ a ∧ a < 9223372036854775808) (w : World) (hT : Tab w) :
    Calls Tryd.prog 38 #[.int .i64 p, .string s, .int .i64 a] w fun e w' => e = RE p a (rst a l) ∧ Below w.heap.size w w' := by
  have R := Lib.hid (fun b w h hT => read_any b s l a p hs hl ha w h hT)
  have TH := Lib.hid hT
  unfold RE
  generalize rst a l = r at R
  clear hs hl ha hT
  cases hr : rd p r with
  | none =>
    have e1 : RdE p r = .returned (.tuple #[.int .u8 0, .bool false]) := by unfold RdE; rw [hr]
    rw [e1] at R
    clear e1 hr
    go_enter Tryd.func38, Tryd.ntmps38
    go_wp2_with (go_at_call 46; refine (readerAt_any p a s _).mono ?_; rintro e w1 ⟨rfl, hb1, hc1⟩; have HB1 := Lib.hid hb1; have HC1 := Lib.hid hc1; clear hb1 hc1)
    go_wp2_with (go_at_call 47; refine (R.out _ _ HC1.out (TH.out.below HB1.out)).mono ?_; rintro e w2 ⟨rfl, hb2, _⟩; have HB2 := Lib.hid hb2; clear hb2)
    go_ret3
    exact ⟨rfl, grown_below HB1.out HB2.out HB1.out.size (Nat.le_refl _)⟩
  | some xn =>
    obtain ⟨x, n⟩ := xn
    have e1 : RdE p r = .returned (.tuple #[.int .u8 x, .bool true]) := by unfold RdE; rw [hr]
    have e2 : RdN p r = n := by unfold RdN; rw [hr]
    rw [e1, e2] at R
    simp only
    generalize a + (n : Int) = an at R ⊢
    clear e1 e2 hr
    go_enter Tryd.func38, Tryd.ntmps38
    go_wp2_with (go_at_call 46; refine (readerAt_any p a s _).mono ?_; rintro e w1 ⟨rfl, hb1, hc1⟩; have HB1 := Lib.hid hb1; have HC1 := Lib.hid hc1; clear hb1 hc1)
    go_wp2_with (go_at_call 47; refine (R.out _ _ HC1.out (TH.out.below HB1.out)).mono ?_; rintro e w2 ⟨rfl, hb2, hc2⟩; have HB2 := Lib.hid hb2; obtain ⟨d0, d1, d2⟩ := cur3 hc2; clear hb2 hc2)
    go_quiet (fail)
    go_wp2_with fail
    go_ret3
    exact ⟨rfl, bdrew (grown_below HB1.out HB2.out HB1.out.size (Nat.le_refl _))⟩
end Go.Proofs.YtgmdfmckkfefgaaDoor

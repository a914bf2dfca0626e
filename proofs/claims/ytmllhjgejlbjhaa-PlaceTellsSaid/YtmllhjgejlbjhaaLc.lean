/- Layer 2: the law PlaceTells, walked. -/
import Derived.Test.YtmllhjgejlbjhaaWj
import Derived.Test.YtmllhjgejlbjhaaRc
import Derived.Test.YtmllhjgejlbjhaaKe
namespace Go.Proofs.Ytmllhjgejlbjhaa
open Go.RowKit
theorem below_over {w0 w w' : World} {g : Nat} (h : Below w0.heap.size w0 w) (hg : w.grownBy w' (some g)) (hB : w0.heap.size ≤ g) : Below w0.heap.size w0 w' :=
  h.grown hg h.size (fun k hk => by cases hk; exact hB)

set_option maxRecDepth 100000 in
set_option maxHeartbeats 2000000 in
theorem tellsLaw_long (A : Option Addr) (n c : Nat) (p q col : Int) (w : World) (hl : 2000 < n) (hm : n ≤ 9223372036854775807) :
    Calls Try.prog 3 #[.slice A n c, .int .i64 p, .int .i64 q, .int .i64 col] w fun e w' => e = .returned (.bool true) ∧ Below w.heap.size w w' := by
  go_enter Try.func3, Try.ntmps3
  go_wp2_with fail
  refine (awake_any _).mono ?_
  rintro e w1 ⟨rfl, hb1⟩
  go_wp2_with fail
  go_ret
  exact ⟨rfl, hb1⟩

set_option maxRecDepth 100000 in
set_option maxHeartbeats 2000000 in
theorem tellsLaw_any (A : Option Addr) (l : List Nat) (c : Nat) (p q col : Int) (w : World) (hl : l.length ≤ 2000) (hnc : A = none → c = 0) (h : Txt w A l) :
    Calls Try.prog 3 #[.slice A l.length c, .int .i64 p, .int .i64 q, .int .i64 col] w fun e w' => e = .returned (.bool true) ∧ Below w.heap.size w w' := by
  have L0 := Lib.hid (lent_any A l c (by omega) hnc w h)
  have HT := Lib.hid h
  clear h hnc
  go_enter Try.func3, Try.ntmps3
  go_wp2_with fail
  refine L0.out.mono ?_
  rintro e w1 ⟨⟨g, cap, rfl, hg, hown⟩, hb⟩
  obtain ⟨hlent, hc1, hc2⟩ := Lent.of_own hown
  have HO := Lib.hid hown
  have HL := Lib.hid hlent
  have HB1 := Lib.hid hb
  have hc3 : cap ≤ 9223372036854775807 := hc2
  have HTxt := Lib.hid (⟨HT.out.1, fun _ => ⟨g, 0, rfl, hlent.1, fun i hi => by rw [Nat.zero_add, hlent.2 i (by omega), lent_text hi]⟩⟩ : Txt w1 (some ⟨g, 0, none⟩) l)
  clear hown hlent hb hc2 L0
  go_wp2_with fail
  refine (new_from _ l cap w1 (by omega) HTxt.out).mono ?_
  rintro e w2 ⟨⟨x, rfl, hx⟩, hb⟩
  have HX := Lib.hid hx
  have HB2 := Lib.hid (bt HB1.out hb)
  have HL2 := Lib.hid (HL.out.below hb)
  have HO2 : Hid (w2.ownsRow w.heap.size 5 1 (.slice (some ⟨g, 0, none⟩) (l.length + 12) cap) (l.length + 12) ((l ++ marks 1 12).map natb)) := by
    have ho := own_below HO.out hb
    rw [show (l ++ marks 1 12).length = l.length + 12 by simp [marks_length]] at ho
    exact ho
  have hg1 := HL.out.1
  clear hx hb HTxt
  go_wp2_with fail
  refine (kept_any A l c g cap (by omega) hc1 hc3 w2 (HT.out.below HB2.out) HL2.out).mono ?_
  rintro e w3 ⟨rfl, n3, rfl⟩
  go_wp2_with fail
  refine (over_any w.heap.size g cap l.length _ (by omega) (w2.drewN n3) HO2.out).mono ?_
  rintro e w4 ⟨rfl, hgr⟩
  have HB4 := Lib.hid (below_over (bdrew (n := n3) HB2.out) hgr hg)
  have HX4 := Lib.hid (HX.out.drewN.over hgr hg1)
  clear hgr HO2 HL2
  go_wp2_with fail
  refine (tells_any A l c (by omega) x p q col w4 (HT.out.below HB4.out) HX4.out).mono ?_
  rintro e w5 ⟨rfl, hb5⟩
  have HB5 := Lib.hid (bt HB4.out hb5)
  clear hb5
  go_wp2_with fail
  refine (awake_any _).mono ?_
  rintro e w6 ⟨rfl, hb6⟩
  go_wp2_with fail
  go_ret
  exact ⟨rfl, bt HB5.out hb6⟩
end Go.Proofs.Ytmllhjgejlbjhaa

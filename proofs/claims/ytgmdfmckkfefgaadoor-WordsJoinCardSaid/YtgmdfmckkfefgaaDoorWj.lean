/- A backslash, x and two digits. -/
import Derived.Test.YtgmdfmckkfefgaaDoorWi
import Derived.Test.YtgmdfmckkfefgaaDoorSe
import Derived.Test.YtgmdfmckkfefgaaDoorSb
namespace Go.Proofs.YtgmdfmckkfefgaaDoor
open Go Go.RowKit Go.Maps
/-- The library's error variable holds an error, or none. -/
def Tab (w : World) : Prop := ∃ ev, w.cell? ⟨0, 0, none⟩ = some ev ∧ (ev = .nilIface ∨ ∃ te pe, ev = .iface te pe)
theorem Tab.below {w w' : World} (h : Tab w) (hb : Below w.heap.size w w') : Tab w' := by
  obtain ⟨ev, h1, h2⟩ := h
  exact ⟨ev, (hb.cell (p := ⟨0, 0, none⟩) (World.block_lt_of_cell? _ _ h1)).trans h1, h2⟩
theorem Tab.drewN {w : World} {n : Nat} (h : Tab w) : Tab (w.drewN n) := h
set_option maxHeartbeats 1000000 in
theorem parse_some (a b x y : Nat) (ha : a < 256) (hb : b < 256) (hx : dg a = some x) (hy : dg b = some y) (w : World) :
    Calls Tryd.prog 65 #[.string (bsv [a, b]), .int .i64 16, .int .i64 8] w fun e w' => e = .returned (.tuple #[.int .u64 (16 * x + y : Nat), .nilIface]) ∧ Below w.heap.size w w' := by
  have P := fun w => pu_any a b ha hb w
  rw [puE_some hx hy] at P
  generalize bsv [a, b] = S at P
  obtain ⟨v, ev⟩ : ∃ v : Int, v = (16 * x + y : Nat) := ⟨_, rfl⟩
  rw [← ev] at P ⊢
  have PH := Lib.hid P
  clear P hx hy ha hb ev
  go_enter Tryd.func65, Tryd.ntmps65
  go_wp2_with (go_at_call 59; refine (PH.out _).mono ?_; rintro e w1 ⟨rfl, hb⟩; have HB := Lib.hid hb; clear hb)
  go_ret2
  exact ⟨rfl, HB.out⟩
set_option maxHeartbeats 1000000 in
theorem parse_none (a b : Nat) (ha : a < 256) (hb : b < 256) (h : dg a = none ∨ dg b = none) (w : World) (hT : Tab w) :
    Calls Tryd.prog 65 #[.string (bsv [a, b]), .int .i64 16, .int .i64 8] w fun e w' => ∃ N : Nat, e = .returned (.tuple #[.int .u64 0, .iface 94 (.pointer (some ⟨N, 0, none⟩))]) ∧ Below w.heap.size w w' := by
  have P := fun w => pu_any a b ha hb w
  rw [show puE a b = .returned (.tuple #[.int .u64 0, .iface 91 (.int .i64 2)]) by rcases h with h | h; exact puE_none1 h; exact puE_none2 h] at P
  have hsz : (bsv [a, b]).size ≤ 281474976710656 := by rw [show (bsv [a, b]).size = 2 from rfl]; omega
  generalize bsv [a, b] = S at P hsz
  have PH := Lib.hid P
  have HZ := Lib.hid hsz
  have HT := Lib.hid hT
  clear P hsz hT h ha hb
  go_enter Tryd.func65, Tryd.ntmps65
  go_wp2_with (go_at_call 59; refine (PH.out _).mono ?_; rintro e w1 ⟨rfl, hb⟩; have HB := Lib.hid hb; clear hb)
  obtain ⟨ev, hv1, hv2⟩ := HT.out.below HB.out
  have HV1 := Lib.hid hv1
  have HV2 := Lib.hid hv2
  clear hv1 hv2
  go_wp2_with (go_at_call 45; refine (toErr _ _ _ _ _ _ HZ.out HV1.out HV2.out).mono ?_; rintro e w2 ⟨N, rfl, _, _, hb2⟩; have HB2 := Lib.hid hb2; clear hb2)
  go_ret2
  exact ⟨N, rfl, bb HB.out HB2.out⟩
end Go.Proofs.YtgmdfmckkfefgaaDoor

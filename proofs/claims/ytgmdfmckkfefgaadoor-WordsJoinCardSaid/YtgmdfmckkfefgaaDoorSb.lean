/- The library's contracts as they are used: an error of a number, a text's copy, whether a text begins with another, a number read. -/
import Derived.Test.YtgmdfmckkfefgaaDoorSa
import Derived.Test.YtgmdfmckkfefgaaDoorWb
namespace Go.Proofs.YtgmdfmckkfefgaaDoor
open Go Go.Proofs Go.RowKit
theorem toErr (fn s : ByteArray) (base bits : Int) (ev : Value) (w : World) (hlim : s.size ≤ 281474976710656) (hv : w.cell? ⟨0, 0, none⟩ = some ev) (hev : ev = .nilIface ∨ ∃ te pe, ev = .iface te pe) :
    Calls Tryd.prog 45 #[.string fn, .string s, .int .i64 base, .int .i64 bits, .iface 91 (.int .i64 2)] w fun e w' => ∃ N, e = .returned (.iface 94 (.pointer (some ⟨N, 0, none⟩))) ∧ w.heap.size ≤ N ∧ w'.heap[N]? = some (.cells #[.string fn, .string s, ev] 105 (0, 0)) ∧ Below w.heap.size w w' := Tryd.strconv_toError_syntax fn s base bits ev w hlim hv hev
theorem liteClone_any (s : ByteArray) (hs : s.size ≤ 281474976710656) (w : World) : Calls Tryd.prog 43 #[.string s] w fun e w' => e = .returned (.string s) ∧ Below w.heap.size w w' := Tryd.stringslite_Clone s w hs
theorem clone_any (s : ByteArray) (hs : s.size ≤ 281474976710656) (w : World) : Calls Tryd.prog 35 #[.string s] w fun e w' => e = .returned (.string s) ∧ Below w.heap.size w w' := by
  have C := Lib.hid (fun w => liteClone_any s hs w)
  clear hs
  go_enter Tryd.func35, Tryd.ntmps35
  go_wp2_with (go_at_call 43; refine (C.out _).mono ?_; rintro e w1 ⟨rfl, hb⟩; have HB := Lib.hid hb; clear hb)
  go_ret
  exact ⟨rfl, HB.out⟩
/-- Whether a text begins with another. -/
def isPre : List Nat → List Nat → Bool
  | [], _ => true
  | _ :: _, [] => false
  | a :: p, b :: l => a == b && isPre p l
theorem isPre_u8 : ∀ (p l : List UInt8), p.isPrefixOf l = isPre (p.map UInt8.toNat) (l.map UInt8.toNat)
  | [], l => by cases l <;> rfl
  | a :: p, [] => rfl
  | a :: p, b :: l => by
    simp only [List.isPrefixOf, List.map_cons, isPre, isPre_u8 p l]
    congr 1
    rw [Bool.eq_iff_iff]
    simp [UInt8.toNat_inj]
theorem hasPre_any (s p : ByteArray) (l m : List Nat) (hs : Str s l) (hp : Str p m) (w : World) : Calls Tryd.prog 25 #[.string s, .string p] w fun e w' => e = .returned (.bool (isPre m l)) ∧ w = w' :=
  (Tryd.strings_HasPrefix s p w).mono fun e w' ⟨he, hw⟩ => ⟨by rw [he, show Lib.hasPrefix s.data.toList p.data.toList = isPre m l from (isPre_u8 _ _).trans (by rw [show p.data.toList.map UInt8.toNat = m from hp, show s.data.toList.map UInt8.toNat = l from hs])], hw.symm⟩
end Go.Proofs.YtgmdfmckkfefgaaDoor

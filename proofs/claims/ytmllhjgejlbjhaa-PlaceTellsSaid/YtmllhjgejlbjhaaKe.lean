/- The kit's lent bytes: written over. -/
import Derived.Test.YtmllhjgejlbjhaaKd
namespace Go.Proofs.Ytmllhjgejlbjhaa
open Go.RowKit
theorem own_below {w w' : World} {base e size n : Nat} {v : Value} {xs : List Value} (h : w.ownsRow base e size v n xs) (hb : Below w.heap.size w w') : w'.ownsRow base e size v n xs := by
  obtain ⟨h1, h2⟩ := h
  refine ⟨h1, ?_⟩
  rcases h2 with h2 | ⟨g, cap, cur, a, b, c, d⟩
  · exact .inl h2
  · exact .inr ⟨g, cap, cur, a, b, (hb.block g (Array.getElem?_eq_some_iff.1 c).1).trans c, d⟩
set_option maxRecDepth 100000 in
set_option maxHeartbeats 2000000 in
theorem over_any (base g cap n : Nat) (xs : List Value) (hn : n ≤ 60000) (w : World) (h : w.ownsRow base 5 1 (.slice (some ⟨g, 0, none⟩) (n + 12) cap) (n + 12) xs) :
    Calls Try.prog 11 #[.slice (some ⟨g, 0, none⟩) n cap] w fun e w' => e = .returned (.tuple #[]) ∧ w.grownBy w' (some g) := by
  obtain ⟨g', cap', e, _, h1, h2, h3⟩ := own_shape h (by omega)
  cases e
  have h2' : cap ≤ 9223372036854775807 := h2
  clear h2
  have HO := Lib.hid h
  clear h
  go_enter Try.func11, Try.ntmps11
  go_wp2_with fail
  all_goals
    obtain ⟨m, em, hm⟩ : ∃ m : Nat, m = n + 12 ∧ True := ⟨_, rfl, trivial⟩
    first
      | (rw [show ((n : Int) + 12).toNat = n + 12 from by omega])
      | skip
    go_loopw [3] (fun i wr => ∃ k : Nat, k ≤ n + 12 ∧ i = .int .i64 k ∧ w.grownBy wr (some g) ∧ ∃ ys, wr.ownsRow base 5 1 (.slice (some ⟨g, 0, none⟩) (n + 12) cap) (n + 12) ys) (fun i _ => n + 12 - (intOf i).toNat)
    case atStart => exact ⟨0, by omega, rfl, World.grownBy.refl _ _, _, HO.out⟩
    case round =>
      obtain ⟨k, hk, rfl, hgr, ys, hown⟩ := hrel
      by_cases hlt : k < n + 12
      · have M := Lib.hid (fun W => markByte_any 2 k (by omega) (by omega) W)
        obtain ⟨u, c1⟩ : ∃ u, wr.cell? ⟨g, k, none⟩ = some u := by
          have hlen := hown.1
          have c1 := hown.cellAt k (by omega)
          rw [List.getElem?_eq_getElem (show k < ys.length by omega)] at c1
          exact ⟨_, c1⟩
        have f1 := hown.frozenAt k
        have HW := Lib.hid hown
        have HR := Lib.hid hgr
        clear hown hgr
        have hi2 : (k : Int) < (n : Int) + 12 := by omega
        go_wp2_with fail
        refine (M.out _).mono ?_
        rintro e w2 ⟨rfl, rfl⟩
        go_wp2_with fail
        go_roundw
        case rel => exact ⟨k + 1, by omega, by go_num, by
          obtain ⟨q1, q2⟩ := HW.out.stored k (.int .u8 (mkb 2 k))
          exact ⟨⟨q2.os.trans HR.out.os, q2.tape.trans HR.out.tape, q2.output.trans HR.out.output, Nat.le_trans HR.out.size q2.size, fun i hi hne => (q2.block i (Nat.lt_of_lt_of_le hi HR.out.size) hne).trans (HR.out.block i hi hne)⟩, _, q1⟩⟩
        case measure => simp [intOf]; omega
      · have hi2 : (n : Int) + 12 ≤ k := by omega
        have HR := Lib.hid hgr
        clear hgr hown
        go_wp2_with fail
        go_end0
        exact ⟨rfl, HR.out⟩
end Go.Proofs.Ytmllhjgejlbjhaa

/- The kit's OverBytes over a row of the call's own. -/
import Derived.Test.YtgploogflhfolaaKd
namespace Go.Proofs.Ytgploogflhfolaa
open Go Go.RowKit
theorem own_wide {w : World} {base g cap n : Nat} {xs : List Value} (h : w.ownsRow base 5 1 (.slice (some ⟨g, 0, none⟩) n cap) n xs) (k : Nat) (hk : k ≤ cap) : ∃ ys, w.ownsRow base 5 1 (.slice (some ⟨g, 0, none⟩) k cap) k ys := by
  rcases h.2 with ⟨e, _⟩ | ⟨g', cap', cur, e, hb, hh, h1, h2, h3, h4⟩
  · cases e
  · simp only [Value.slice.injEq, Option.some.injEq, Addr.mk.injEq] at e
    obtain ⟨⟨rfl, _⟩, _, rfl⟩ := e
    exact ⟨cur.toList.take (k * 1), by simp; omega, .inr ⟨g, cap, cur, rfl, hb, hh, hk, h2, h3, rfl⟩⟩
set_option maxRecDepth 100000 in
set_option maxHeartbeats 2000000 in
theorem over_any (base n : Nat) (v : Value) (xs : List Value) (hn : n ≤ 60000) (w : World) (h : w.ownsRow base 5 1 v n xs) :
    Calls Try.prog 32 #[v] w fun e w' => e = .returned (.tuple #[]) ∧ w.grownBy w' v.ownBlock := by
  rcases h.2 with ⟨rfl, hn0⟩ | ⟨g, cap, cur, rfl, hb, hh, hnc, hcm, hcs, htk⟩
  · clear h
    go_enter Try.func32, Try.ntmps32
    go_wp2_with fail
    go_loopw [3] (fun i wr => i = .int .i64 0 ∧ wr = w) (fun _ _ => 0)
    case atStart => exact ⟨rfl, rfl⟩
    case round =>
      obtain ⟨rfl, rfl⟩ := hrel
      go_wp2_with fail
      go_end0
      exact ⟨rfl, World.grownBy.refl _ _⟩
  · obtain ⟨m, em⟩ : ∃ m, m = min cap (n + 12) := ⟨_, rfl⟩
    obtain ⟨ys0, hown0⟩ := own_wide h m (by omega)
    have hcm' : cap ≤ 9223372036854775807 := hcm
    have HO := Lib.hid hown0
    have hmc : m ≤ cap := by omega
    have hm6 : m ≤ 60012 := by omega
    have hmi : min (cap : Int) ((n : Int) + 12) = (m : Int) := by omega
    have hmi2 : (min (cap : Int) ((n : Int) + 12)).toNat = m := by omega
    have hmcI : (m : Int) ≤ (cap : Int) := by omega
    have hm0 : (0 : Int) ≤ (m : Int) := by omega
    clear h hown0 hb hh hcs htk hcm em cur
    go_enter Try.func32, Try.ntmps32
    go_wp2_with fail
    go_loopw [3] (fun i wr => ∃ k : Nat, k ≤ m ∧ i = .int .i64 k ∧ w.grownBy wr (some g) ∧ ∃ ys, wr.ownsRow base 5 1 (.slice (some ⟨g, 0, none⟩) m cap) m ys) (fun i _ => m - (intOf i).toNat)
    case atStart => exact ⟨0, by omega, rfl, World.grownBy.refl _ _, _, HO.out⟩
    case round =>
      obtain ⟨k, hk, rfl, hgr, ys, hown⟩ := hrel
      by_cases hlt : k < m
      · have M := Lib.hid (fun W => markByte_any 2 k (by omega) (by omega) W)
        obtain ⟨u, c1⟩ : ∃ u, wr.cell? ⟨g, k, none⟩ = some u := by
          have hlen := hown.1
          have c1 := hown.cellAt k (by omega)
          rw [List.getElem?_eq_getElem (show k < ys.length by omega)] at c1
          exact ⟨_, c1⟩
        have f1 := hown.frozenAt k
        have HW := Lib.hid hown
        have HR := Lib.hid hgr
        clear hown hgr
        have hi2 : (k : Int) < (m : Int) := by omega
        go_wp2_with fail
        refine (M.out _).mono ?_
        rintro e w2 ⟨rfl, rfl⟩
        go_wp2_with fail
        go_roundw
        case rel => exact ⟨k + 1, by omega, by go_num, by
          obtain ⟨q1, q2⟩ := HW.out.stored k (.int .u8 (mkb 2 k))
          exact ⟨⟨q2.os.trans HR.out.os, q2.tape.trans HR.out.tape, q2.output.trans HR.out.output, Nat.le_trans HR.out.size q2.size, fun i hi hne => (q2.block i (Nat.lt_of_lt_of_le hi HR.out.size) hne).trans (HR.out.block i hi hne)⟩, _, q1⟩⟩
        case measure => simp [intOf]; omega
      · have hi2 : (m : Int) ≤ k := by omega
        have HR := Lib.hid hgr
        clear hgr hown
        go_wp2_with fail
        go_end0
        exact ⟨rfl, HR.out⟩
end Go.Proofs.Ytgploogflhfolaa

/- The kit's lent numbers: still as they were; written over. -/
import Derived.Test.YtfcacgiejoeneaaKc
namespace Go.Proofs.Ytfcacgiejoeneaa
open Go Go.RowKit
set_option maxRecDepth 100000 in
set_option maxHeartbeats 2000000 in
theorem kept_any (A : Option Addr) (l : List Int) (c g cap : Nat) (hl : l.length ≤ 60000) (hc : l.length + 12 ≤ cap) (hm : cap ≤ 9223372036854775807) (w : World) (h : Lies w A (ints l)) (hg : Lent w g l) :
    Calls Try.prog 14 #[.slice (some ⟨g, 0, none⟩) l.length cap, .slice A l.length c] w fun e w' => e = .returned (.bool true) ∧ ∃ n, w' = w.drewN n := by
  have HT := Lib.hid h
  have HG := Lib.hid hg
  clear h hg
  go_enter Try.func14, Try.ntmps14
  go_wp2_with fail
  go_loopw [6] (fun i wr => ∃ k : Nat, k ≤ l.length + 12 ∧ i = .int .i64 k ∧ ∃ n, wr = w.drewN n) (fun i _ => l.length + 12 - (intOf i).toNat)
  case atStart => exact ⟨0, by omega, rfl, 0, rfl⟩
  case round =>
    obtain ⟨k, hk, rfl, hq⟩ := hrel
    have HC0 : ∀ b o, wr.cell? ⟨b, o, none⟩ = w.cell? ⟨b, o, none⟩ := by obtain ⟨n, rfl⟩ := hq; exact fun _ _ => rfl
    have HC := Lib.hid HC0
    have HQ := Lib.hid hq
    clear hq HC0
    by_cases hlt : k < l.length
    · have c10 := HG.out.2 k (by omega)
      rw [lent_text hlt] at c10
      obtain ⟨tb, to, rfl, _, c20⟩ := lies_cell HT.out hlt
      have c1 := (HC.out _ _).trans c10
      have c2 := (HC.out _ _).trans c20
      clear c10 c20
      generalize l.getD k 0 = v at c1 c2
      have hi1 : (k : Int) < l.length := by omega
      have hi2 : (k : Int) < (l.length : Int) + 12 := by omega
      have hd : decide ((k : Int) < l.length) = true := by simpa using hlt
      have hd2 : decide (k < l.length) = true := by simpa using hlt
      have hd3 : decide ((l.length : Int) ≤ k) = false := by simp; omega
      have hd4 : decide (l.length ≤ k) = false := by simp; omega
      go_wp2_with fail
      go_quiet (fail)
      go_wp2_with fail
      go_roundw
      case rel => exact ⟨k + 1, by omega, by go_num, by obtain ⟨n, rfl⟩ := HQ.out; exact ⟨_, World.drewN_drewN _ _ _⟩⟩
      case measure => simp [intOf]; omega
    · by_cases hle : k < l.length + 12
      · have c10 := HG.out.2 k hle
        rw [lent_mark (by omega) hle] at c10
        have c1 := (HC.out _ _).trans c10
        clear c10
        have M0 : ∀ W : World, Calls Try.prog 35 #[.int .i64 1, .int .i64 (k - l.length : Nat)] W fun e w' => e = .returned (.int .i64 (mkn (k - l.length))) ∧ W = w' := fun W => mark_any 1 (k - l.length) (by omega) (by omega) W
        generalize mkn (k - l.length) = v at c1 M0
        have M := Lib.hid M0
        clear M0
        have hi2 : (k : Int) < (l.length : Int) + 12 := by omega
        have hw : IntKind.i64.wrap ((k : Int) - l.length) = ((k - l.length : Nat) : Int) := (IntWalk.i64_in _ (by omega)).trans (by omega)
        have hd : decide ((k : Int) < l.length) = false := by simp; omega
        have hd2 : decide (k < l.length) = false := by simp; omega
        have hd3 : decide ((l.length : Int) ≤ k) = true := by simp; omega
        have hd4 : decide (l.length ≤ k) = true := by simp; omega
        go_wp2_with fail
        go_quiet ((go_at_call 35; exact q_left (M.out _)))
        go_wp2_with fail
        go_roundw
        case rel => exact ⟨k + 1, by omega, by go_num, by obtain ⟨n, rfl⟩ := HQ.out; exact ⟨_, World.drewN_drewN _ _ _⟩⟩
        case measure => simp [intOf]; omega
      · have hi2 : (l.length : Int) + 12 ≤ k := by omega
        go_wp2_with fail
        go_ret
        exact ⟨rfl, HQ.out⟩
theorem own_wide {w : World} {base g cap n : Nat} {xs : List Value} (h : w.ownsRow base 3 1 (.slice (some ⟨g, 0, none⟩) n cap) n xs) (k : Nat) (hk : k ≤ cap) : ∃ ys, w.ownsRow base 3 1 (.slice (some ⟨g, 0, none⟩) k cap) k ys := by
  rcases h.2 with ⟨e, _⟩ | ⟨g', cap', cur, e, hb, hh, h1, h2, h3, h4⟩
  · cases e
  · simp only [Value.slice.injEq, Option.some.injEq, Addr.mk.injEq] at e
    obtain ⟨⟨rfl, _⟩, _, rfl⟩ := e
    exact ⟨cur.toList.take (k * 1), by simp; omega, .inr ⟨g, cap, cur, rfl, hb, hh, hk, h2, h3, rfl⟩⟩
set_option maxRecDepth 100000 in
set_option maxHeartbeats 2000000 in
theorem over_any (base g cap n m : Nat) (xs : List Value) (hn : m ≤ 60000) (w : World) (h : w.ownsRow base 3 1 (.slice (some ⟨g, 0, none⟩) n cap) n xs) (hmn : m + 12 ≤ cap) (hcm : cap ≤ 9223372036854775807) :
    Calls Try.prog 15 #[.slice (some ⟨g, 0, none⟩) m cap] w fun e w' => e = .returned (.tuple #[]) ∧ w.grownBy w' (some g) := by
  obtain ⟨ys0, hown0⟩ := own_wide h (m + 12) hmn
  have HO := Lib.hid hown0
  have hmi : min (cap : Int) ((m : Int) + 12) = ((m + 12 : Nat) : Int) := by omega
  have hmi2 : (min (cap : Int) ((m : Int) + 12)).toNat = m + 12 := by omega
  have hmcI : ((m + 12 : Nat) : Int) ≤ (cap : Int) := by omega
  obtain ⟨q, eq⟩ : ∃ q, q = m + 12 := ⟨_, rfl⟩
  rw [← eq] at hmi hmi2 hmcI HO hmn
  have hq6 : q ≤ 60012 := by omega
  have hq3 : ((m : Int) + 12).toNat = q := by omega
  rcases Nat.lt_or_ge q cap with hA | hA
  · have hB : (m : Int) + 12 < (cap : Int) := by omega
    clear h hown0 eq hmi hmi2
    go_enter Try.func15, Try.ntmps15
    go_wp2_with fail
    go_loopw [3] (fun i wr => ∃ k : Nat, k ≤ q ∧ i = .int .i64 k ∧ w.grownBy wr (some g) ∧ ∃ ys, wr.ownsRow base 3 1 (.slice (some ⟨g, 0, none⟩) q cap) q ys) (fun i _ => q - (intOf i).toNat)
    case atStart => exact ⟨0, by omega, rfl, World.grownBy.refl _ _, _, HO.out⟩
    case round =>
      obtain ⟨k, hk, rfl, hgr, ys, hown⟩ := hrel
      by_cases hlt : k < q
      · have M := Lib.hid (fun W => mark_any 2 k (by omega) (by omega) W)
        obtain ⟨u, c1⟩ : ∃ u, wr.cell? ⟨g, k, none⟩ = some u := by
          have hlen := hown.1
          have c1 := hown.cellAt k (by omega)
          rw [List.getElem?_eq_getElem (show k < ys.length by omega)] at c1
          exact ⟨_, c1⟩
        have f1 := hown.frozenAt k
        have HW := Lib.hid hown
        have HR := Lib.hid hgr
        clear hown hgr
        have hi2 : (k : Int) < (q : Int) := by omega
        go_wp2_with (go_at_call 35; refine (M.out _).mono ?_; rintro e w2 ⟨rfl, rfl⟩)
        go_roundw
        case rel => exact ⟨k + 1, by omega, by go_num, by
          obtain ⟨q1, q2⟩ := HW.out.stored k _
          exact ⟨⟨q2.os.trans HR.out.os, q2.tape.trans HR.out.tape, q2.output.trans HR.out.output, Nat.le_trans HR.out.size q2.size, fun i hi hne => (q2.block i (Nat.lt_of_lt_of_le hi HR.out.size) hne).trans (HR.out.block i hi hne)⟩, _, q1⟩⟩
        case measure => simp [intOf]; omega
      · have hi2 : (q : Int) ≤ k := by omega
        have HR := Lib.hid hgr
        clear hgr hown
        go_wp2_with fail
        go_end0
        exact ⟨rfl, HR.out⟩
  · obtain rfl : cap = q := by omega
    have hB : (cap : Int) ≤ (m : Int) + 12 := by omega
    clear h hown0 eq hmi hmi2 hq3
    go_enter Try.func15, Try.ntmps15
    go_wp2_with fail
    go_loopw [3] (fun i wr => ∃ k : Nat, k ≤ cap ∧ i = .int .i64 k ∧ w.grownBy wr (some g) ∧ ∃ ys, wr.ownsRow base 3 1 (.slice (some ⟨g, 0, none⟩) cap cap) cap ys) (fun i _ => cap - (intOf i).toNat)
    case atStart => exact ⟨0, by omega, rfl, World.grownBy.refl _ _, _, HO.out⟩
    case round =>
      obtain ⟨k, hk, rfl, hgr, ys, hown⟩ := hrel
      by_cases hlt : k < cap
      · have M := Lib.hid (fun W => mark_any 2 k (by omega) (by omega) W)
        obtain ⟨u, c1⟩ : ∃ u, wr.cell? ⟨g, k, none⟩ = some u := by
          have hlen := hown.1
          have c1 := hown.cellAt k (by omega)
          rw [List.getElem?_eq_getElem (show k < ys.length by omega)] at c1
          exact ⟨_, c1⟩
        have f1 := hown.frozenAt k
        have HW := Lib.hid hown
        have HR := Lib.hid hgr
        clear hown hgr
        have hi2 : (k : Int) < (cap : Int) := by omega
        go_wp2_with (go_at_call 35; refine (M.out _).mono ?_; rintro e w2 ⟨rfl, rfl⟩)
        go_roundw
        case rel => exact ⟨k + 1, by omega, by go_num, by
          obtain ⟨q1, q2⟩ := HW.out.stored k _
          exact ⟨⟨q2.os.trans HR.out.os, q2.tape.trans HR.out.tape, q2.output.trans HR.out.output, Nat.le_trans HR.out.size q2.size, fun i hi hne => (q2.block i (Nat.lt_of_lt_of_le hi HR.out.size) hne).trans (HR.out.block i hi hne)⟩, _, q1⟩⟩
        case measure => simp [intOf]; omega
      · have hi2 : (cap : Int) ≤ k := by omega
        have HR := Lib.hid hgr
        clear hgr hown
        go_wp2_with fail
        go_end0
        exact ⟨rfl, HR.out⟩
end Go.Proofs.Ytfcacgiejoeneaa

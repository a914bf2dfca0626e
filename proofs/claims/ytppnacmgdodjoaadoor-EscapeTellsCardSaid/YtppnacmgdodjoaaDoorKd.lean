/- The kit's lent bytes: still as they were. -/
import Derived.Test.YtppnacmgdodjoaaDoorKc
namespace Go.Proofs.YtppnacmgdodjoaaDoor
open Go.RowKit

set_option maxRecDepth 100000 in
set_option maxHeartbeats 2000000 in
theorem kept_any (A : Option Addr) (l : List Nat) (c g cap : Nat) (hl : l.length ≤ 60000) (hc : l.length + 12 ≤ cap) (hm : cap ≤ 9223372036854775807) (w : World) (h : Txt w A l) (hg : Lent w g l) :
    Calls Tryd.prog 11 #[.slice (some ⟨g, 0, none⟩) l.length cap, .slice A l.length c] w fun e w' => e = .returned (.bool true) ∧ ∃ n, w' = w.drewN n := by
  have HT := Lib.hid h
  have HG := Lib.hid hg
  clear h hg
  go_enter Tryd.func11, Tryd.ntmps11
  go_wp2_with fail
  go_loopw [6] (fun i wr => ∃ k : Nat, k ≤ l.length + 12 ∧ i = .int .i64 k ∧ ∃ n, wr = w.drewN n) (fun i _ => l.length + 12 - (intOf i).toNat)
  case atStart => exact ⟨0, by omega, rfl, 0, rfl⟩
  case round =>
    obtain ⟨k, hk, rfl, hq⟩ := hrel
    have HC0 : ∀ b o, wr.cell? ⟨b, o, none⟩ = w.cell? ⟨b, o, none⟩ := by obtain ⟨n, rfl⟩ := hq; exact fun _ _ => rfl
    have HC := Lib.hid HC0
    have HQ := Lib.hid hq
    clear hq HC0
    by_cases hlt : k < l.length
    · have c10 := HG.out.2 k (by omega)
      rw [lent_text hlt] at c10
      obtain ⟨tb, to, rfl, c20⟩ := HT.out.at_ hlt
      have c1 := (HC.out _ _).trans c10
      have c2 := (HC.out _ _).trans c20
      clear c10 c20
      generalize l.getD k 0 = v at c1 c2
      have hi1 : (k : Int) < l.length := by omega
      have hi2 : (k : Int) < (l.length : Int) + 12 := by omega
      have hd : decide ((k : Int) < l.length) = true := by simpa using hlt
      have hd2 : decide (k < l.length) = true := by simpa using hlt
      have hd3 : decide ((l.length : Int) ≤ k) = false := by simp; omega
      have hd4 : decide (l.length ≤ k) = false := by simp; omega
      go_wp2_with fail
      go_quiet (fail)
      go_wp2_with fail
      go_roundw
      case rel => exact ⟨k + 1, by omega, by go_num, by obtain ⟨n, rfl⟩ := HQ.out; exact ⟨_, World.drewN_drewN _ _ _⟩⟩
      case measure => simp [intOf]; omega
    · by_cases hle : k < l.length + 12
      · have c10 := HG.out.2 k hle
        rw [lent_mark (by omega) hle] at c10
        have c1 := (HC.out _ _).trans c10
        clear c10
        have M0 : ∀ W : World, Calls Tryd.prog 17 #[.int .i64 1, .int .i64 (k - l.length : Nat)] W fun e w' => e = .returned (.int .u8 (mkb 1 (k - l.length))) ∧ W = w' := fun W => markByte_any 1 (k - l.length) (by omega) (by omega) W
        generalize mkb 1 (k - l.length) = v at c1 M0
        have M := Lib.hid M0
        clear M0
        have hi2 : (k : Int) < (l.length : Int) + 12 := by omega
        have hw : IntKind.i64.wrap ((k : Int) - l.length) = ((k - l.length : Nat) : Int) := (IntWalk.i64_in _ (by omega)).trans (by omega)
        have hd : decide ((k : Int) < l.length) = false := by simp; omega
        have hd2 : decide (k < l.length) = false := by simp; omega
        have hd3 : decide ((l.length : Int) ≤ k) = true := by simp; omega
        have hd4 : decide (l.length ≤ k) = true := by simp; omega
        go_wp2_with fail
        go_quiet ((go_at_call 17; exact q_left (M.out _)))
        go_wp2_with fail
        go_roundw
        case rel => exact ⟨k + 1, by omega, by go_num, by obtain ⟨n, rfl⟩ := HQ.out; exact ⟨_, World.drewN_drewN _ _ _⟩⟩
        case measure => simp [intOf]; omega
      · have hi2 : (l.length : Int) + 12 ≤ k := by omega
        go_wp2_with fail
        go_ret
        exact ⟨rfl, HQ.out⟩
end Go.Proofs.YtppnacmgdodjoaaDoor

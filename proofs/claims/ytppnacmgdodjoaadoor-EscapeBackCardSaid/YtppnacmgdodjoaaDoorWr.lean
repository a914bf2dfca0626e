/- Bytes, written as the document has them; awake. -/
import Derived.Test.YtppnacmgdodjoaaDoorWg
namespace Go.Proofs.YtppnacmgdodjoaaDoor
open Go Go.RowKit Go.Maps
theorem bsv_append (a b : List Nat) : bsv a ++ bsv b = bsv (a ++ b) := by
  unfold bsv
  rw [ByteArray.mk_append_mk, List.map_append]
set_option maxRecDepth 100000 in
set_option maxHeartbeats 2000000 in
theorem rall_any (p : Int) (A : Option Addr) (l : List Nat) (c : Nat) (hl : l.length ≤ 60000) (w : World) (h : Txt w A l) :
    Calls Tryd.prog 10 #[.int .i64 p, .slice A l.length c] w fun e w' => e = .returned (.string (bsv (all p l))) ∧ Below w.heap.size w w' := by
  have HT := Lib.hid h
  clear h
  go_enter Tryd.func10, Tryd.ntmps10
  go_wp2_with fail
  go_loopw [5, 6] (fun v i wr => ∃ k : Nat, k ≤ l.length ∧ i = .int .i64 k ∧ v = .string (bsv (all p (l.take k))) ∧ Below w.heap.size w wr) (fun _ i _ => l.length - (intOf i).toNat)
  case atStart => exact ⟨0, by omega, rfl, rfl, Below.refl _ _⟩
  case round =>
    obtain ⟨k, hk, rfl, rfl, hb⟩ := hrel
    have HB := Lib.hid hb
    clear hb
    by_cases hlt : k < l.length
    · obtain ⟨tb, to, rfl, c1⟩ := (HT.out.below HB.out).at_ hlt
      have hv : l.getD k 0 < 256 := HT.out.1 _ (by rw [List.getD_eq_getElem?_getD, List.getElem?_eq_getElem hlt]; exact List.getElem_mem hlt)
      have E := Lib.hid (all_snoc p l hlt)
      have L1 := one_len p (l.getD k 0)
      have L2 := all_len p (l.take k)
      have L3 : (l.take k).length ≤ 60000 := by rw [List.length_take]; omega
      have L4 : ¬ 9223372036854775807 < (bsv (all p (l.take k))).size + (bsv (one p (l.getD k 0))).size := by rw [bsv_size, bsv_size]; omega
      clear L1 L2 L3
      generalize l.getD k 0 = v at c1 hv E L4
      have V := Lib.hid hv
      have O := Lib.hid (fun w => rone_any p v V.out w)
      have E2 : RowKit.Hid (bsv (all p (l.take (k + 1))) = bsv (all p (l.take k)) ++ bsv (one p v)) := Lib.hid (by rw [E.out, bsv_append])
      generalize bsv (all p (l.take k)) = S at L4 E2
      generalize bsv (one p v) = T at L4 E2 O
      have hk3 : (k : Int) < l.length := by omega
      clear hv
      go_wp2_with (go_at_call 14; refine (O.out _).mono ?_; rintro e w1 ⟨rfl, hb1⟩; have HB1 := Lib.hid hb1; clear hb1)
      go_roundw
      case rel => exact ⟨k + 1, by omega, by go_num, by rw [E2.out], bb HB.out HB1.out⟩
      case measure => simp [intOf]; omega
    · obtain rfl : k = l.length := by omega
      rw [List.take_length]
      go_wp2_with fail
      go_ret
      exact ⟨rfl, HB.out⟩
theorem bsv_eq {a b : List Nat} (ha : ∀ x ∈ a, x < 256) (hb : ∀ x ∈ b, x < 256) : ((bsv a).toList == (bsv b).toList) = decide (a = b) := str_eq (str_bsv ha) (str_bsv hb)
theorem txt_three (w : World) (a b c : Nat) (ha : a < 256) (hb : b < 256) (hc : c < 256) : Txt (w.alloc (.cells #[.int .u8 a, .int .u8 b, .int .u8 c] 5)) (some ⟨w.heap.size, 0, none⟩) [a, b, c] := by
  refine ⟨by simp; omega, fun _ => ⟨_, _, rfl, by simp, fun i hi => ?_⟩⟩
  rw [(Blk.new w _ _).cell]
  match i, hi with
  | 0, _ => rfl
  | 1, _ => rfl
  | 2, _ => rfl
set_option maxRecDepth 100000 in
set_option maxHeartbeats 2000000 in
theorem awake_any (w : World) : Calls Tryd.prog 7 #[] w fun e w' => e = .returned (.bool true) ∧ Below w.heap.size w w' := by
  have e1 : bsv (all 1 [34, 10, 0]) = ⟨#[92, 34, 92, 110, 92, 120, 48, 48]⟩ := by decide
  have e2 : bsv (one 2 45) = ⟨#[92, 45]⟩ := by decide
  have e3 : bsv (one 2 34) = ⟨#[34]⟩ := by decide
  have A := fun w => all_any 1 (some ⟨(w : World).heap.size, 0, none⟩) [34, 10, 0] 3 (by simp) (w.alloc (.cells #[.int .u8 34, .int .u8 10, .int .u8 0] 5)) (txt_three w 34 10 0 (by omega) (by omega) (by omega))
  have O1 := fun w => one_any 2 45 (by omega) w
  have O2 := fun w => one_any 2 34 (by omega) w
  rw [e1] at A
  rw [e2] at O1
  rw [e3] at O2
  have A := Lib.hid A
  have O1 := Lib.hid O1
  have O2 := Lib.hid O2
  clear e1 e2 e3
  go_enter Tryd.func7, Tryd.ntmps7
  go_wp2_with (go_at_call 9; refine (A.out _).mono ?_; rintro e w1 ⟨rfl, hb1⟩; have HB1 := Lib.hid hb1; clear hb1)
  refine (O1.out _).mono ?_
  rintro e w2 ⟨rfl, hb2⟩
  have HB2 := Lib.hid hb2
  clear hb2
  go_wp2_with fail
  refine (O2.out _).mono ?_
  rintro e w3 ⟨rfl, hb3⟩
  have HB3 := Lib.hid hb3
  clear hb3
  go_wp2_with fail
  go_ret
  exact ⟨rfl, bb (bb (bt (B1 w _) HB1.out (by simp)) HB2.out) HB3.out⟩
end Go.Proofs.YtppnacmgdodjoaaDoor

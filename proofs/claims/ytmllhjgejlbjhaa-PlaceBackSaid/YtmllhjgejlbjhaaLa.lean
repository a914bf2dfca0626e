/- Layer 2: the law PlaceBack, walked. -/
import Derived.Test.YtmllhjgejlbjhaaWk
namespace Go.Proofs.Ytmllhjgejlbjhaa
open Go.RowKit

theorem bsz {B : Nat} {a w : World} (h : Below B a w) : a.heap.size ≤ w.heap.size := h.size
theorem btr {w0 w w' : World} (h : Below w0.heap.size w0 w) (h' : Below w.heap.size w w') : Below w0.heap.size w0 w' := h.trans (h'.mono h.size)

set_option maxRecDepth 100000 in
set_option maxHeartbeats 2000000 in
theorem back_long (A : Option Addr) (n c : Nat) (q col : Int) (w : World) (hl : 2000 < n) (hm : n ≤ 9223372036854775807) :
    Calls Try.prog 5 #[.slice A n c, .int .i64 q, .int .i64 col] w fun e w' => e = .returned (.bool true) ∧ Below w.heap.size w w' := by
  go_enter Try.func5, Try.ntmps5
  go_wp2_with fail
  refine (awake_any _).mono ?_
  rintro e w1 ⟨rfl, hb1⟩
  go_wp2_with fail
  go_ret
  exact ⟨rfl, hb1⟩

set_option maxRecDepth 100000 in
set_option maxHeartbeats 2000000 in
theorem back_any (A : Option Addr) (l : List Nat) (c : Nat) (q col : Int) (w : World) (hl : l.length ≤ 2000) (h : Txt w A l) :
    Calls Try.prog 5 #[.slice A l.length c, .int .i64 q, .int .i64 col] w fun e w' => e = .returned (.bool true) ∧ Below w.heap.size w w' := by
  have HT := Lib.hid h
  clear h
  have N : ∀ w', Below w.heap.size w w' → Calls Try.prog 9 #[.slice A l.length c] w' fun e w'' => (∃ x, e = .returned (.pointer (some ⟨x, 0, none⟩)) ∧ w'.heap.size ≤ x ∧ Idx w'' x (begs l) l.length) ∧ Below w'.heap.size w' w'' :=
    fun w' hb => new_any A l c w' (by omega) (HT.out.below hb)
  have HN := Lib.hid N
  have HB := Lib.hid (begs_lns l)
  have HL : Hid (l.length < 1152921504606846976) := by unfold Hid; omega
  clear N
  go_enter Try.func5, Try.ntmps5
  go_wp2_with fail
  refine (awake_any _).mono ?_
  rintro e w1 ⟨rfl, hb1⟩
  go_wp2_with fail
  refine (HN.out _ hb1).mono ?_
  rintro e w2 ⟨⟨x, rfl, _, hI⟩, hb2⟩
  have HI := Lib.hid hI
  have hw2 := btr hb1 hb2
  clear hI hb1 hb2
  go_wp2_with fail
  go_loopw [8] (fun i wr => ∃ k : Nat, k ≤ l.length + 1 ∧ i = .int .i64 k ∧ Below w.heap.size w wr ∧ Idx wr x (begs l) l.length) (fun i _ => l.length + 1 - (intOf i).toNat)
  case atStart => exact ⟨0, by omega, rfl, hw2, HI.out⟩
  case round =>
    clear HI hw2
    obtain ⟨k, hk, rfl, hb, hI⟩ := hrel
    have HI := Lib.hid hI
    clear hI
    by_cases hlt : k ≤ l.length
    · obtain ⟨q', c', h1, h2, h3, h4, A1, A2⟩ := at_back (x := x) HB.out HL.out hlt
      have HA1 := Lib.hid A1
      have HA2 := Lib.hid A2
      have hsh := HB.out.short
      clear A1 A2
      go_wp2_with fail
      refine (HA1.out _ HI.out).mono ?_
      rintro e w3 ⟨rfl, hb3⟩
      go_wp2_with fail
      refine (HA2.out _ (HI.out.below hb3)).mono ?_
      rintro e w4 ⟨rfl, hb4⟩
      have hI4 := Lib.hid ((HI.out.below hb3).below hb4)
      go_wp2_with fail
      refine (lines_any _ _ _ _ hI4.out).mono ?_
      rintro e w5 ⟨rfl, hb5⟩
      go_wp2_with fail
      go_roundw
      case rel => exact ⟨k + 1, by omega, by go_num, btr (btr (btr hb hb3) hb4) hb5, hI4.out.below hb5⟩
      case measure => simp [intOf]; omega
    · go_wp2_with fail
      clear hk hlt
      obtain ⟨wo, rfl⟩ : ∃ wo : World, wo = wr := ⟨_, rfl⟩
      go_loopw [14, 15] (fun a i wr => ∃ j : Nat, 1 ≤ j ∧ j ≤ (begs l).length + 1 ∧ i = .int .i64 j ∧ a = .int .i64 (st (begs l) l.length j) ∧ Below w.heap.size w wr ∧ Idx wr x (begs l) l.length) (fun _ i _ => (begs l).length + 1 - (intOf i).toNat)
      case atStart => exact ⟨1, by omega, by have := HB.out.pos; omega, rfl, by rw [st_one HB.out]; rfl, hb, HI.out⟩
      case round =>
        clear HI hb
        obtain ⟨j, hj1, hj2, rfl, rfl, hb, hI⟩ := hrel
        have HI := Lib.hid hI
        clear hI
        have hsh := HB.out.short
        by_cases hlt : j ≤ (begs l).length
        · have m1 := st_mono HB.out hj1 hlt
          have m2 := st_le (L := l.length) HB.out (show 1 ≤ j + 1 by omega)
          have HLn := Lib.hid (fun w h => line_st (x := x) HB.out HL.out hj1 hlt w h)
          have HNot := Lib.hid (fun i => st_not l (j := i) hj1 hlt)
          obtain ⟨f, ef⟩ : ∃ f, f = st (begs l) l.length j := ⟨_, rfl⟩
          obtain ⟨t, et⟩ : ∃ t, t = st (begs l) l.length (j + 1) := ⟨_, rfl⟩
          have HM := Lib.hid (fun (h : j < (begs l).length) => (⟨st_lt HB.out hj1 h, st_ten l hj1 h⟩ : st (begs l) l.length j < st (begs l) l.length (j + 1) ∧ l.getD (st (begs l) l.length (j + 1) - 1) 0 = 10))
          rw [← ef, ← et] at HLn HNot HM m1
          rw [← et] at m2
          rw [← ef]
          have ET := Lib.hid et
          clear ef et
          obtain ⟨n, en⟩ : ∃ n, n = (begs l).length := ⟨_, rfl⟩
          have EN := Lib.hid en
          rw [← en] at hlt hj2 hsh HM
          have LN : ∀ w, Idx w x (begs l) l.length → Calls Try.prog 16 #[.pointer (some ⟨x, 0, none⟩)] w fun e w' => e = .returned (.int .i64 n) ∧ Below w.heap.size w w' := by rw [en]; exact fun w h => lines_any x _ _ w h
          have LN := Lib.hid LN
          clear en
          go_wp2_with fail
          refine (LN.out _ HI.out).mono ?_
          rintro e w3 ⟨rfl, hb3⟩
          have HI3 := Lib.hid (HI.out.below hb3)
          go_wp2_with fail
          refine (HLn.out _ HI3.out).mono ?_
          rintro e w4 ⟨rfl, hb4⟩
          have HI4 := Lib.hid (HI3.out.below hb4)
          go_wp2_with fail
          refine (LN.out _ HI4.out).mono ?_
          rintro e w5 ⟨rfl, hb5⟩
          have HI5 := Lib.hid (HI4.out.below hb5)
          have hw5 := btr (btr (btr hb hb3) hb4) hb5
          clear hb hb3 hb4 hb5
          have HT5 := Lib.hid (HT.out.below hw5)
          by_cases hjn : j < n
          · obtain ⟨mt, m10⟩ := HM.out hjn
            obtain ⟨tb, to, rfl, htl, htc⟩ := HT5.out.2 (by omega)
            have hc0 := htc (t - 1) (by omega)
            rw [m10] at hc0
            have hd : ((t : Int) == f) = false := beq_eq_false_iff_ne.2 (by omega)
            clear m10
            have HC := Lib.hid htc
            clear htc
            go_wp2_with fail
            clear hc0 hd
            go_loop [19] (fun i => ∃ k2 : Nat, f ≤ k2 ∧ k2 ≤ l.length ∧ i = .int .i64 k2) (fun i => t - (intOf i).toNat)
            case atStart => exact ⟨f, Nat.le_refl _, by omega, rfl⟩
            case round =>
              obtain ⟨i, hi1, hi2, rfl⟩ := hrel
              by_cases hlt2 : i + 1 < t
              · have HCI := HC.out
                have hcv := HCI i (by omega)
                have hne := HNot.out i hi1 hlt2
                clear HCI
                generalize l.getD i 0 = v at hcv hne
                have hd2 : ((v : Int) == 10) = false := beq_eq_false_iff_ne.2 (by omega)
                have hil : (i : Int) < l.length := by omega
                have hlt3 : (i : Int) + 1 < t := by omega
                go_wp2_with fail
                go_round
                case rel => exact ⟨i + 1, by omega, by omega, by go_num⟩
                case measure => simp [intOf]; omega
              · have hlt3 : (t : Int) ≤ (i : Int) + 1 := by omega
                go_wp2_with fail
                go_roundw
                case rel => exact ⟨j + 1, by omega, by have := EN.out; omega, by go_num, by rw [← ET.out], hw5, HI5.out⟩
                case measure => have := EN.out; simp [intOf]; omega
          · go_wp2_with fail
            go_loop [19] (fun i => ∃ k2 : Nat, f ≤ k2 ∧ k2 ≤ l.length ∧ i = .int .i64 k2) (fun i => t - (intOf i).toNat)
            case atStart => exact ⟨f, Nat.le_refl _, by omega, rfl⟩
            case round =>
              obtain ⟨i, hi1, hi2, rfl⟩ := hrel
              by_cases hlt2 : i + 1 < t
              · obtain ⟨tb, to, rfl, htl, HCI⟩ := HT5.out.2 (by omega)
                have hcv := HCI i (by omega)
                have hne := HNot.out i hi1 hlt2
                clear HCI
                generalize l.getD i 0 = v at hcv hne
                have hd2 : ((v : Int) == 10) = false := beq_eq_false_iff_ne.2 (by omega)
                have hil : (i : Int) < l.length := by omega
                have hlt3 : (i : Int) + 1 < t := by omega
                go_wp2_with fail
                go_round
                case rel => exact ⟨i + 1, by omega, by omega, by go_num⟩
                case measure => have := EN.out; simp [intOf]; omega
              · have hlt3 : (t : Int) ≤ (i : Int) + 1 := by omega
                go_wp2_with fail
                go_roundw
                case rel => exact ⟨j + 1, by omega, by have := EN.out; omega, by go_num, by rw [← ET.out], hw5, HI5.out⟩
                case measure => have := EN.out; simp [intOf]; omega
        · obtain rfl : j = (begs l).length + 1 := by omega
          have ES := Lib.hid (st_last (bs := begs l) (L := l.length))
          obtain ⟨n, en⟩ : ∃ n, n = (begs l).length := ⟨_, rfl⟩
          have EN := Lib.hid en
          rw [← en] at ES hsh
          rw [← en]
          rw [ES.out]
          have LN : ∀ w, Idx w x (begs l) l.length → Calls Try.prog 16 #[.pointer (some ⟨x, 0, none⟩)] w fun e w' => e = .returned (.int .i64 n) ∧ Below w.heap.size w w' := by rw [en]; exact fun w h => lines_any x _ _ w h
          have LN := Lib.hid LN
          clear en hj1 hj2 hlt
          go_wp2_with fail
          refine (LN.out _ HI.out).mono ?_
          rintro e w3 ⟨rfl, hb3⟩
          have HI3 := Lib.hid (HI.out.below hb3)
          have hw3 := btr hb hb3
          clear hb hb3
          go_wp2_with fail
          rcases place_back (x := x) HB.out HL.out q col with P1 | ⟨p, hp, P1, P2⟩
          · have HP1 := Lib.hid P1
            clear P1
            refine (HP1.out _ HI3.out).mono ?_
            rintro e w4 ⟨rfl, hb4⟩
            go_wp2_with fail
            go_ret
            exact ⟨rfl, btr hw3 hb4⟩
          · have HP1 := Lib.hid P1
            have HP2 := Lib.hid P2
            clear P1 P2
            refine (HP1.out _ HI3.out).mono ?_
            rintro e w4 ⟨rfl, hb4⟩
            go_wp2_with fail
            refine (HP2.out _ (HI3.out.below hb4)).mono ?_
            rintro e w5 ⟨rfl, hb5⟩
            go_wp2_with fail
            go_ret
            exact ⟨rfl, btr (btr hw3 hb4) hb5⟩
end Go.Proofs.Ytmllhjgejlbjhaa

/- Layer 2: the document's own answers: Line, Lines. -/
import Derived.Test.YtmllhjgejlbjhaaRa
namespace Go.Proofs.Ytmllhjgejlbjhaa
open Go.RowKit

set_option maxHeartbeats 1000000 in
theorem rline_yes (A : Option Addr) (l : List Nat) (c q : Nat) (hl : l.length ≤ 65536) (h1 : 1 ≤ q) (h2 : q ≤ (begs l).length) (w : World) (h : Txt w A l) :
    Calls Try.prog 21 #[.slice A l.length c, .int .i64 q] w fun e w' => e = .returned (.tuple #[.int .i64 (st (begs l) l.length q), .int .i64 (st (begs l) l.length (q + 1)), .bool true]) ∧ w = w' := by
  obtain ⟨s1, s2⟩ := st_line (begs_lns l) h1 h2
  have m1 := st_mono (begs_lns l) h1 h2
  have m2 := st_le (L := l.length) (begs_lns l) (show 1 ≤ q + 1 by omega)
  have P := rplace_yes A l c (st (begs l) l.length q) q 1 hl (by omega) s1 s2 w h
  have HNot := Lib.hid (fun i => st_not l (j := i) h1 h2)
  have HEnd := Lib.hid (fun (hq : q < (begs l).length) => (⟨st_lt (L := l.length) (begs_lns l) h1 hq, st_ten l h1 hq⟩ : st (begs l) l.length q < st (begs l) l.length (q + 1) ∧ l.getD (st (begs l) l.length (q + 1) - 1) 0 = 10))
  have HLast := Lib.hid (fun (hq : q = (begs l).length) => (by subst hq; exact st_last : st (begs l) l.length (q + 1) = l.length))
  obtain ⟨f, ef⟩ : ∃ f, f = st (begs l) l.length q := ⟨_, rfl⟩
  obtain ⟨t, et⟩ : ∃ t, t = st (begs l) l.length (q + 1) := ⟨_, rfl⟩
  rw [← ef, ← et] at m1 HNot HEnd
  rw [← et] at m2 HLast ⊢
  rw [← ef] at P ⊢
  have HT := Lib.hid h
  have P := Lib.hid P
  have hsh := (begs_lns l).short
  clear h s1 s2 ef et
  go_enter Try.func21, Try.ntmps21
  go_wp2_with fail
  refine P.out.mono ?_
  rintro e w1 ⟨rfl, rfl⟩
  go_wp2_with fail
  go_loop [9] (fun i => ∃ k : Nat, f ≤ k ∧ k ≤ t ∧ i = .int .i64 k) (fun i => t - (intOf i).toNat)
  case atStart => exact ⟨f, by omega, m1, rfl⟩
  case round =>
    obtain ⟨k, hk1, hk2, rfl⟩ := hrel
    by_cases hlt : k < t
    · have hkl : (k : Int) < l.length := by omega
      by_cases hf : k = f
      · subst hf
        go_wp2_with fail
        go_round
        case rel => exact ⟨k + 1, by omega, by omega, by go_num⟩
        case measure => simp [intOf]; omega
      · have hd : ((k : Int) == f) = false := beq_eq_false_iff_ne.2 (by omega)
        obtain ⟨tb, to, rfl, hc⟩ := HT.out.at_ (show k - 1 < l.length by omega)
        have hne := HNot.out (k - 1) (by omega) (by omega)
        generalize l.getD (k - 1) 0 = v at hc hne
        have hd2 : ((v : Int) != 10) = true := by rw [bne_iff_ne]; omega
        have hk3 : (1 : Int) ≤ (k : Int) := by omega
        have hk4 : (k : Int) - 1 < l.length := by omega
        clear hne hf
        go_wp2_with fail
        go_round
        case rel => exact ⟨k + 1, by omega, by omega, by go_num⟩
        case measure => simp [intOf]; omega
    · obtain rfl : k = t := by omega
      by_cases hq : q < (begs l).length
      · obtain ⟨n1, n2⟩ := HEnd.out hq
        by_cases hkl : k < l.length
        · have hd0 : decide ((k : Int) < l.length) = true := by simp; omega
          have hd : ((k : Int) == f) = false := beq_eq_false_iff_ne.2 (by omega)
          obtain ⟨tb, to, rfl, hc⟩ := HT.out.at_ (show k - 1 < l.length by omega)
          rw [n2] at hc
          have hk3 : (1 : Int) ≤ (k : Int) := by omega
          have hk4 : (k : Int) - 1 < l.length := by omega
          clear n2 hq
          go_wp2_with fail
          go_ret3
          exact ⟨rfl, rfl⟩
        · have hd0 : decide ((k : Int) < l.length) = false := by simp; omega
          clear n2 hq
          go_wp2_with fail
          go_ret3
          exact ⟨rfl, rfl⟩
      · have := HLast.out (by omega)
        have hkl : l.length ≤ k := by omega
        clear this hq
        go_wp2_with fail
        go_ret3
        exact ⟨rfl, rfl⟩
set_option maxHeartbeats 1000000 in
theorem rline_no (A : Option Addr) (l : List Nat) (c : Nat) (q : Int) (hl : l.length ≤ 65536) (hq : q < 1 ∨ ((begs l).length : Int) < q) (w : World) (h : Txt w A l) :
    Calls Try.prog 21 #[.slice A l.length c, .int .i64 q] w fun e w' => e = .returned (.tuple #[.int .i64 0, .int .i64 0, .bool false]) ∧ w = w' := by
  have P := rplace_no A l c q 1 hl (fun k hk ⟨x1, _⟩ => by obtain ⟨a1, a2, _, _⟩ := ln_spec k (begs_lns l); omega) w h
  have P := Lib.hid P
  clear h hq
  go_enter Try.func21, Try.ntmps21
  go_wp2_with fail
  refine P.out.mono ?_
  rintro e w1 ⟨rfl, rfl⟩
  go_wp2_with fail
  go_ret3
  exact ⟨rfl, rfl⟩
set_option maxHeartbeats 1000000 in
theorem rlines_any (A : Option Addr) (l : List Nat) (c : Nat) (hl : l.length ≤ 65536) (w : World) (h : Txt w A l) :
    Calls Try.prog 22 #[.slice A l.length c] w fun e w' => e = .returned (.int .i64 (begs l).length) ∧ w = w' := by
  have P := rat_yes A l c l.length hl (Nat.le_refl _) w h
  rw [ln_end] at P
  have P := Lib.hid P
  clear h
  go_enter Try.func22, Try.ntmps22
  go_wp2_with fail
  refine P.out.mono ?_
  rintro e w1 ⟨rfl, rfl⟩
  go_wp2_with fail
  go_ret
  exact ⟨rfl, rfl⟩

/-- Place of the document, as it may come out. -/
theorem rplace_as (A : Option Addr) (l : List Nat) (c : Nat) (q col : Int) (hl : l.length ≤ 65536) {x : Nat} (w : World) (h : Txt w A l) :
    (∃ (p : Nat) (b : Bool), (∀ w', Below w.heap.size w w' → Calls Try.prog 20 #[.slice A l.length c, .int .i64 q, .int .i64 col] w' fun e w'' => e = .returned (.tuple #[.int .i64 p, .bool b]) ∧ w' = w'') ∧
      (∀ w', Idx w' x (begs l) l.length → Calls Try.prog 14 #[.pointer (some ⟨x, 0, none⟩), .int .i64 q, .int .i64 col] w' fun e w'' => e = .returned (.tuple #[.int .i64 p, .bool b]) ∧ Below w'.heap.size w' w'')) := by
  have hL := begs_lns l
  by_cases hex : ∃ p, p ≤ l.length ∧ (ln (begs l) p : Int) = q ∧ (colm (begs l) p : Int) = col
  · obtain ⟨p, hp, rfl, rfl⟩ := hex
    refine ⟨p, true, fun w' hb => rplace_yes A l c p _ _ hl hp rfl rfl w' (h.below hb), fun w' hx => ?_⟩
    obtain ⟨h1, h2, h3, h4⟩ := ln_spec p hL
    have hv := ln_beh hL hp
    have := place_yes x _ _ hL (by omega) (ln (begs l) p) (colm (begs l) p) h1 h2 (by unfold colm; omega) (by unfold colm; omega) w' hx
    rwa [show (begs l).getD (ln (begs l) p - 1) 0 + colm (begs l) p - 1 = p by unfold colm; omega] at this
  · refine ⟨0, false, fun w' hb => rplace_no A l c q col hl (fun k hk hh => hex ⟨k, hk, hh⟩) w' (h.below hb), fun w' hx => ?_⟩
    by_cases hq : q < 1 ∨ ((begs l).length : Int) < q
    · exact place_noline x _ _ hL (by omega) q col hq w' hx
    · obtain ⟨n, rfl⟩ := Int.eq_ofNat_of_zero_le (show 0 ≤ q by omega)
      refine place_nocol x _ _ hL (by omega) n col (by omega) (by omega) ?_ w' hx
      by_cases h1 : col < 1
      · exact .inl h1
      · right
        obtain ⟨cc, rfl⟩ := Int.eq_ofNat_of_zero_le (show 0 ≤ col by omega)
        rcases Int.lt_or_le (beh (begs l) l.length n : Int) ((cc : Int) + ((begs l).getD (n - 1) 0 : Nat)) with h | h
        · exact h
        · exfalso
          have hg := beh_gt hL (show 1 ≤ n by omega) (by omega)
          have e1 := beh_ln hL (show 1 ≤ n by omega) (by omega) (p := (begs l).getD (n - 1) 0 + cc - 1) (by omega) (by omega)
          refine hex ⟨(begs l).getD (n - 1) 0 + cc - 1, by omega, by rw [e1], ?_⟩
          unfold colm
          rw [e1]
          omega
end Go.Proofs.Ytmllhjgejlbjhaa

/- strconv's ParseUint at two digits to base 16, at eight bits. -/
import Derived.Test.YtgmdfmckkfefgaaDoorXo
import Derived.Test.YtgmdfmckkfefgaaDoorWb
namespace Go.Proofs.YtgmdfmckkfefgaaDoor
open Go Go.RowKit
set_option maxRecDepth 100000 in
theorem lw_dg : ∀ c, c < 256 → ¬ (48 ≤ c ∧ c ≤ 57) → (97 ≤ lw c ∧ lw c ≤ 102 → dg c = some (lw c - 87)) ∧ (¬ (97 ≤ lw c ∧ lw c ≤ 102) → dg c = none) ∧ lw c < 256 := by decide
set_option maxRecDepth 100000 in
theorem lw_small : ∀ c, c < 48 → lw c < 97 := by decide
theorem lw_95 : lw 95 = 127 := by decide
theorem u64_in {x : Int} (h : 0 ≤ x ∧ x < 18446744073709551616) : IntKind.u64.wrap x = x := by unfold IntKind.wrap; simp [IntKind.signed, IntKind.bits]; omega
/-- What a row of two digits is told to be. -/
def puE (a b : Nat) : Ending := match dg a, dg b with
  | some x, some y => .returned (.tuple #[.int .u64 (16 * x + y : Nat), .nilIface])
  | _, _ => .returned (.tuple #[.int .u64 0, .iface 91 (.int .i64 2)])
theorem puE_some {a b x y : Nat} (h : dg a = some x) (h' : dg b = some y) : puE a b = .returned (.tuple #[.int .u64 (16 * x + y : Nat), .nilIface]) := by simp only [puE, h, h']
theorem puE_none1 {a b : Nat} (h : dg a = none) : puE a b = .returned (.tuple #[.int .u64 0, .iface 91 (.int .i64 2)]) := by simp only [puE, h]
theorem puE_none2 {a b : Nat} (h' : dg b = none) : puE a b = .returned (.tuple #[.int .u64 0, .iface 91 (.int .i64 2)]) := by
  simp only [puE]
  cases dg a <;> simp [h']
/-- How far the reading of digits has come. -/
def Far (a b : Nat) (k : Nat) (n : Nat) : Prop := (k = 0 ∧ n = 0) ∨ (k = 1 ∧ dg a = some n) ∨ (k = 2 ∧ ∃ x y, dg a = some x ∧ dg b = some y ∧ n = 16 * x + y)
theorem far_step {a b k n c x : Nat} (h : Far a b k n) (hk : k < 2) (hc : c = [a, b].getD k 0) (hx : dg c = some x) : Far a b (k + 1) (16 * n + x) := by
  rcases h with ⟨rfl, rfl⟩ | ⟨rfl, h⟩ | ⟨rfl, _⟩
  · refine .inr (.inl ⟨rfl, ?_⟩)
    rw [← show c = a from hc, hx]
    simp
  · exact .inr (.inr ⟨rfl, n, x, h, by rw [← show c = b from hc]; exact hx, rfl⟩)
  · omega
theorem far_lt {a b k n : Nat} (h : Far a b k n) (hk : k < 2) : n < 16 := by
  rcases h with ⟨rfl, rfl⟩ | ⟨rfl, h⟩ | ⟨rfl, _⟩
  · omega
  · exact dg_lt h
  · omega
theorem far_none {a b k n c : Nat} (h : Far a b k n) (hk : k < 2) (hc : c = [a, b].getD k 0) (hx : dg c = none) : puE a b = .returned (.tuple #[.int .u64 0, .iface 91 (.int .i64 2)]) := by
  rcases h with ⟨rfl, rfl⟩ | ⟨rfl, h⟩ | ⟨rfl, _⟩
  · exact puE_none1 (by rw [← show c = a from hc]; exact hx)
  · exact puE_none2 (by rw [← show c = b from hc]; exact hx)
  · omega
set_option maxHeartbeats 4000000 in
set_option maxRecDepth 100000 in
theorem pu_any (a b : Nat) (ha : a < 256) (hb : b < 256) (w : World) :
    Calls Tryd.prog 59 #[.string (bsv [a, b]), .int .i64 16, .int .i64 8] w fun e w' => e = puE a b ∧ Below w.heap.size w w' := by
  obtain ⟨A, cp, w1, hrun, hb1, hT, _⟩ := conv_txt w [a, b] (by simp; omega)
  obtain ⟨tb, to, rfl, _⟩ := hT.at_ (i := 0) (by simp)
  have hc : ∀ k, k < 2 → w1.cell? ⟨tb, to + k, none⟩ = some (.int .u8 ([a, b].getD k 0 : Nat)) := fun k hk => by
    obtain ⟨_, _, e, c1⟩ := hT.at_ (i := k) (by simpa using hk)
    cases e
    exact c1
  have hz : (bsv [a, b]).toList.isEmpty = false := by
    rw [(str_bsv (l := [a, b]) (by simp; omega)).list]
    rfl
  have hrun2 : (convert 9 60 (.string (bsv [a, b]))).run Tryd.prog w = .ok (.slice (some ⟨tb, to, none⟩) 2 cp) w1 := hrun
  have hlt : ∀ k, [a, b].getD k 0 < 256 := fun k => by
    match k with
    | 0 => exact ha
    | 1 => exact hb
    | k + 2 => simp
  have HL := Lib.hid hlt
  have HC := Lib.hid hc
  have HB := Lib.hid hb1
  generalize bsv [a, b] = S at hz hrun2
  obtain ⟨E, hE⟩ : ∃ E, E = puE a b := ⟨_, rfl⟩
  rw [← hE]
  have EH := Lib.hid hE
  clear hT hrun hb1 hc hlt ha hb hE
  go_enter Tryd.func59, Tryd.ntmps59
  go_wp2_with fail
  go_loopw [12, 13, 15, 16, 17, 101] (fun z n _ _ _ i wr => ∃ k N : Nat, z = .bool false ∧ k ≤ 2 ∧ i = .int .i64 k ∧ n = .int .u64 N ∧ Far a b k N ∧ wr = w1) (fun _ _ _ _ _ i _ => 2 - (intOf i).toNat)
  case atStart => exact ⟨0, 0, rfl, by omega, rfl, rfl, .inl ⟨rfl, rfl⟩, rfl⟩
  case round =>
    obtain ⟨k, N, rfl, hk, rfl, rfl, hF, rfl⟩ := hrel
    by_cases h2 : k < 2
    · have c1 := HC.out k h2
      have hv := HL.out k
      obtain ⟨c, ec⟩ : ∃ c, c = [a, b].getD k 0 := ⟨_, rfl⟩
      rw [← ec] at c1 hv
      have hN := far_lt hF h2
      have hk3 : (k : Int) < 2 := by omega
      have hNc : (N : Int) < 1152921504606846976 := by omega
      have FH := Lib.hid hF
      have EC := Lib.hid ec
      have V := Lib.hid hv
      have LW := Lib.hid (lw_dg c hv)
      by_cases hd : 48 ≤ c ∧ c ≤ 57
      · have hx : dg c = some (c - 48) := by simp [dg, hd]
        have X := Lib.hid hx
        obtain ⟨C, eC⟩ : ∃ C : Int, C = c := ⟨_, rfl⟩
        rw [← eC] at c1
        obtain ⟨v, ev⟩ : ∃ v : Int, v = N := ⟨_, rfl⟩
        rw [← ev] at hNc ⊢
        have q1 : 48 ≤ C := by omega
        have q2 : C ≤ 57 := by omega
        obtain ⟨x, ex⟩ : ∃ x : Int, x = ((c - 48 : Nat) : Int) := ⟨_, rfl⟩
        obtain ⟨M, eM⟩ : ∃ M : Int, M = v * 16 := ⟨_, rfl⟩
        obtain ⟨R, eR⟩ : ∃ R : Int, R = M + x := ⟨_, rfl⟩
        have hw1 : IntKind.u8.wrap (C - 48) = x := (u8_in (by omega)).trans (by omega)
        have hw2 : IntKind.u64.wrap (v * 16) = M := (u64_in (by omega)).trans (by omega)
        have q3 : x < 16 := by omega
        have hw3 : IntKind.u64.wrap x = x := u64_in (by omega)
        have hw4 : IntKind.u64.wrap (M + x) = R := (u64_in (by omega)).trans (by omega)
        have q4 : M ≤ R := by omega
        have q5 : R ≤ 255 := by omega
        have G : RowKit.Hid (R = ((16 * N + (c - 48) : Nat) : Int)) := Lib.hid (by omega)
        clear hF ec hv hN hd hx eM eR eC ev ex
        go_wp2_with fail
        go_roundw
        case rel => exact ⟨k + 1, 16 * N + (c - 48), rfl, by omega, by go_num, by rw [G.out], far_step FH.out h2 EC.out X.out, trivial⟩
        case measure => simp [intOf]; omega
      · obtain ⟨z1, z2, z3⟩ := LW.out hd
        have T := lower_any c hv
        by_cases hlo : c < 48
        · have hx : dg c = none := z2 (by intro h; have := lw_small c hlo; omega)
          have X := Lib.hid hx
          have hlw := lw_small c hlo
          obtain ⟨C, eC⟩ : ∃ C : Int, C = c := ⟨_, rfl⟩
          obtain ⟨L, eL⟩ : ∃ L : Int, L = (lw c : Nat) := ⟨_, rfl⟩
          rw [← eC] at c1 T
          rw [← eL] at T
          have q1 : C < 48 := by omega
          have q2 : L < 97 := by omega
          have T := Lib.hid T
          clear hF ec hv hN hd hx eC eL z1 z2 z3 hlo hlw hNc
          go_wp2_with (go_at_call 66; refine (T.out _).mono ?_; rintro e w2 ⟨rfl, rfl⟩)
          go_ret2
          exact ⟨(EH.out.trans (far_none FH.out h2 EC.out X.out)).symm, HB.out⟩
        · by_cases hl1 : lw c < 97
          · have hx : dg c = none := z2 (by omega)
            have X := Lib.hid hx
            obtain ⟨C, eC⟩ : ∃ C : Int, C = c := ⟨_, rfl⟩
            obtain ⟨L, eL⟩ : ∃ L : Int, L = (lw c : Nat) := ⟨_, rfl⟩
            rw [← eC] at c1 T
            rw [← eL] at T
            have q1 : 57 < C := by omega
            have q1' : 48 ≤ C := by omega
            have q2 : L < 97 := by omega
            have n95 : ¬ C = 95 := fun e => by have := lw_95; rw [show c = 95 by omega] at eL; omega
            have T := Lib.hid T
            clear hF ec hv hN hd hx eC eL z1 z2 z3 hlo hl1 hNc
            go_wp2_with (go_at_call 66; refine (T.out _).mono ?_; rintro e w2 ⟨rfl, rfl⟩)
            go_ret2
            exact ⟨(EH.out.trans (far_none FH.out h2 EC.out X.out)).symm, HB.out⟩
          · by_cases hl2 : lw c ≤ 102
            · have hx : dg c = some (lw c - 87) := z1 (by omega)
              have X := Lib.hid hx
              obtain ⟨C, eC⟩ : ∃ C : Int, C = c := ⟨_, rfl⟩
              obtain ⟨L, eL⟩ : ∃ L : Int, L = (lw c : Nat) := ⟨_, rfl⟩
              obtain ⟨v, ev⟩ : ∃ v : Int, v = N := ⟨_, rfl⟩
              rw [← eC] at c1 T
              rw [← eL] at T
              rw [← ev] at hNc ⊢
              have q1 : 57 < C := by omega
              have q1' : 48 ≤ C := by omega
              have q2 : 97 ≤ L := by omega
              have q2' : L ≤ 122 := by omega
              have n95 : ¬ C = 95 := fun e => by have := lw_95; rw [show c = 95 by omega] at eL; omega
              obtain ⟨x, ex⟩ : ∃ x : Int, x = ((lw c - 87 : Nat) : Int) := ⟨_, rfl⟩
              obtain ⟨y, ey⟩ : ∃ y : Int, y = L - 97 := ⟨_, rfl⟩
              obtain ⟨M, eM⟩ : ∃ M : Int, M = v * 16 := ⟨_, rfl⟩
              obtain ⟨R, eR⟩ : ∃ R : Int, R = M + x := ⟨_, rfl⟩
              have hw1 : IntKind.u8.wrap (L - 97) = y := (u8_in (by omega)).trans (by omega)
              have hw5 : IntKind.u8.wrap (y + 10) = x := (u8_in (by omega)).trans (by omega)
              have hw2 : IntKind.u64.wrap (v * 16) = M := (u64_in (by omega)).trans (by omega)
              have q3 : x < 16 := by omega
              have hw3 : IntKind.u64.wrap x = x := u64_in (by omega)
              have hw4 : IntKind.u64.wrap (M + x) = R := (u64_in (by omega)).trans (by omega)
              have q4 : M ≤ R := by omega
              have q5 : R ≤ 255 := by omega
              have G : RowKit.Hid (R = ((16 * N + (lw c - 87) : Nat) : Int)) := Lib.hid (by omega)
              have T := Lib.hid T
              clear hF ec hv hN hd hx eM eR eC eL ev ex ey z1 z2 z3 hlo hl1 hl2
              go_wp2_with (go_at_call 66; refine (T.out _).mono ?_; rintro e w2 ⟨rfl, rfl⟩)
              go_roundw
              case rel => exact ⟨k + 1, 16 * N + (lw c - 87), rfl, by omega, by go_num, by rw [G.out], far_step FH.out h2 EC.out X.out, trivial⟩
              case measure => simp [intOf]; omega
            · have hx : dg c = none := z2 (by omega)
              have X := Lib.hid hx
              obtain ⟨C, eC⟩ : ∃ C : Int, C = c := ⟨_, rfl⟩
              obtain ⟨L, eL⟩ : ∃ L : Int, L = (lw c : Nat) := ⟨_, rfl⟩
              rw [← eC] at c1 T
              rw [← eL] at T
              have q1 : 57 < C := by omega
              have q1' : 48 ≤ C := by omega
              have q2 : 97 ≤ L := by omega
              by_cases hl3 : lw c ≤ 122
              · have q2' : L ≤ 122 := by omega
                have n95 : ¬ C = 95 := fun e => by have := lw_95; rw [show c = 95 by omega] at eL; omega
                obtain ⟨y, ey⟩ : ∃ y : Int, y = L - 97 := ⟨_, rfl⟩
                obtain ⟨x, ex⟩ : ∃ x : Int, x = L - 87 := ⟨_, rfl⟩
                have hw1 : IntKind.u8.wrap (L - 97) = y := (u8_in (by omega)).trans (by omega)
                have hw5 : IntKind.u8.wrap (y + 10) = x := (u8_in (by omega)).trans (by omega)
                have q3 : 16 ≤ x := by omega
                have T := Lib.hid T
                clear hF ec hv hN hd hx eC eL ex ey z1 z2 z3 hlo hl1 hl2 hl3 hNc
                go_wp2_with (go_at_call 66; refine (T.out _).mono ?_; rintro e w2 ⟨rfl, rfl⟩)
                go_ret2
                exact ⟨(EH.out.trans (far_none FH.out h2 EC.out X.out)).symm, HB.out⟩
              · have q2' : 122 < L := by omega
                have T := Lib.hid T
                clear hF ec hv hN hd hx eL z1 z2 z3 hlo hl1 hl2 hl3 hNc
                by_cases n95 : C = 95
                · subst n95
                  clear eC
                  go_wp2_with (go_at_call 66; refine (T.out _).mono ?_; rintro e w2 ⟨rfl, rfl⟩)
                  go_ret2
                  exact ⟨(EH.out.trans (far_none FH.out h2 EC.out X.out)).symm, HB.out⟩
                · clear eC
                  go_wp2_with (go_at_call 66; refine (T.out _).mono ?_; rintro e w2 ⟨rfl, rfl⟩)
                  go_ret2
                  exact ⟨(EH.out.trans (far_none FH.out h2 EC.out X.out)).symm, HB.out⟩
    · obtain rfl : k = 2 := by omega
      have R : RowKit.Hid (E = .returned (.tuple #[.int .u64 N, .nilIface])) := Lib.hid (by
        rcases hF with ⟨h, _⟩ | ⟨h, _⟩ | ⟨_, x, y, h1, h3, rfl⟩
        · omega
        · omega
        · exact EH.out.trans (puE_some h1 h3))
      clear hF h2 hk
      obtain ⟨v, ev⟩ : ∃ v : Int, v = N := ⟨_, rfl⟩
      rw [← ev]
      have EV := Lib.hid ev
      clear ev
      go_wp2_with fail
      go_ret2
      exact ⟨by rw [R.out, ← EV.out]; rfl, HB.out⟩
end Go.Proofs.YtgmdfmckkfefgaaDoor

/- Layer 2: the document's own answers. -/
import Derived.Test.YtmllhjgejlbjhaaWh
import Derived.Test.YtmllhjgejlbjhaaMd
namespace Go.Proofs.Ytmllhjgejlbjhaa
open Go.RowKit

theorem Txt.at_ {w : World} {A : Option Addr} {l : List Nat} (h : Txt w A l) {i : Nat} (hi : i < l.length) : ∃ b o, A = some ⟨b, o, none⟩ ∧ w.cell? ⟨b, o + i, none⟩ = some (.int .u8 (l.getD i 0 : Nat)) := by
  obtain ⟨b, o, e, _, hc⟩ := h.2 (by omega)
  exact ⟨b, o, e, hc i hi⟩

set_option maxHeartbeats 1000000 in
theorem rat_yes (A : Option Addr) (l : List Nat) (c p : Nat) (hl : l.length ≤ 65536) (hp : p ≤ l.length) (w : World) (h : Txt w A l) :
    Calls Try.prog 19 #[.slice A l.length c, .int .i64 p] w fun e w' => e = .returned (.tuple #[.int .i64 (ln (begs l) p), .int .i64 (colm (begs l) p), .bool true]) ∧ w = w' := by
  have HT := Lib.hid h
  clear h
  go_enter Try.func19, Try.ntmps19
  go_wp2
  go_loop [7, 8, 9] (fun a b i => ∃ k : Nat, k ≤ p ∧ i = .int .i64 k ∧ a = .int .i64 (ln (begs l) k) ∧ b = .int .i64 (colm (begs l) k)) (fun _ _ i => p - (intOf i).toNat)
  case atStart => exact ⟨0, by omega, rfl, by rw [ln_zero]; rfl, by rw [colm_zero]; rfl⟩
  case round =>
    obtain ⟨k, hk, rfl, rfl, rfl⟩ := hrel
    obtain ⟨b1, b2, b3, b4⟩ := at_bd l k
    by_cases hlt : k < p
    · have hkl : (k : Int) < l.length := by omega
      obtain ⟨tb, to, rfl, hc⟩ := HT.out.at_ (show k < l.length by omega)
      by_cases h10 : l.getD k 0 = 10
      · obtain ⟨e1, e2⟩ := at_ten l (by omega) h10
        rw [h10] at hc
        have E1 := Lib.hid e1
        have E2 := Lib.hid e2
        clear h10 e1 e2
        go_wp2
        go_round
        case rel => exact ⟨k + 1, by omega, by go_num, by rw [E1.out]; go_num, by rw [E2.out]; rfl⟩
        case measure => simp [intOf]; omega
      · obtain ⟨e1, e2⟩ := at_other l (show k < l.length by omega) h10
        have E1 := Lib.hid e1
        have E2 := Lib.hid e2
        clear e1 e2
        generalize l.getD k 0 = v at hc h10
        have hd : ((v : Int) == 10) = false := beq_eq_false_iff_ne.2 (by omega)
        clear h10
        go_wp2
        go_round
        case rel => exact ⟨k + 1, by omega, by go_num, by rw [E1.out], by rw [E2.out]; go_num⟩
        case measure => simp [intOf]; omega
    · obtain rfl : k = p := by omega
      go_wp2
      go_ret3
      exact ⟨rfl, rfl⟩
set_option maxHeartbeats 1000000 in
theorem rat_no (A : Option Addr) (n c : Nat) (p : Int) (hl : n ≤ 65536) (hp : p < 0 ∨ (n : Int) < p) (w : World) :
    Calls Try.prog 19 #[.slice A n c, .int .i64 p] w fun e w' => e = .returned (.tuple #[.int .i64 0, .int .i64 0, .bool false]) ∧ w = w' := by
  by_cases h0 : p < 0
  · have hd : decide (p < 0) = true := by simpa using h0
    clear hp
    go_enter Try.func19, Try.ntmps19
    go_wp2
    go_ret3
    exact ⟨rfl, rfl⟩
  · have hd : decide (p < 0) = false := by simpa using h0
    have h1 : (n : Int) < p := by omega
    clear hp
    go_enter Try.func19, Try.ntmps19
    go_wp2
    go_ret3
    exact ⟨rfl, rfl⟩

set_option maxHeartbeats 1000000 in
theorem rplace_yes (A : Option Addr) (l : List Nat) (c p : Nat) (q col : Nat) (hl : l.length ≤ 65536) (hp : p ≤ l.length) (hq : ln (begs l) p = q) (hcol : colm (begs l) p = col) (w : World) (h : Txt w A l) :
    Calls Try.prog 20 #[.slice A l.length c, .int .i64 q, .int .i64 col] w fun e w' => e = .returned (.tuple #[.int .i64 p, .bool true]) ∧ w = w' := by
  have HT := Lib.hid h
  have HQ := Lib.hid hq
  have HC := Lib.hid hcol
  have HL := Lib.hid (begs_lns l)
  clear h hq hcol
  go_enter Try.func20, Try.ntmps20
  go_wp2
  go_loop [8, 9, 10] (fun a b i => ∃ k : Nat, k ≤ p ∧ i = .int .i64 k ∧ a = .int .i64 (ln (begs l) k) ∧ b = .int .i64 (colm (begs l) k)) (fun _ _ i => p - (intOf i).toNat)
  case atStart => exact ⟨0, by omega, rfl, by rw [ln_zero]; rfl, by rw [colm_zero]; rfl⟩
  case round =>
    obtain ⟨k, hk, rfl, rfl, rfl⟩ := hrel
    obtain ⟨b1, b2, b3, b4⟩ := at_bd l k
    by_cases hlt : k < p
    · have hkl : (k : Int) < l.length := by omega
      have hne : ¬ (ln (begs l) k = q ∧ colm (begs l) k = col) := fun ⟨x1, x2⟩ => by
        have := at_inj HL.out (x1.trans HQ.out.symm) (x2.trans HC.out.symm)
        omega
      obtain ⟨tb, to, rfl, hc⟩ := HT.out.at_ (show k < l.length by omega)
      by_cases h10 : l.getD k 0 = 10
      · obtain ⟨e1, e2⟩ := at_ten l (by omega) h10
        rw [h10] at hc
        have E1 := Lib.hid e1
        have E2 := Lib.hid e2
        clear h10 e1 e2
        by_cases hx : ln (begs l) k = q
        · have hd1 : ((ln (begs l) k : Int) == q) = true := beq_iff_eq.2 (by omega)
          have hd2 : ((colm (begs l) k : Int) == col) = false := beq_eq_false_iff_ne.2 (by omega)
          clear hne hx
          go_wp2
          go_round
          case rel => exact ⟨k + 1, by omega, by go_num, by rw [E1.out]; go_num, by rw [E2.out]; rfl⟩
          case measure => simp [intOf]; omega
        · have hd1 : ((ln (begs l) k : Int) == q) = false := beq_eq_false_iff_ne.2 (by omega)
          clear hne hx
          go_wp2
          go_round
          case rel => exact ⟨k + 1, by omega, by go_num, by rw [E1.out]; go_num, by rw [E2.out]; rfl⟩
          case measure => simp [intOf]; omega
      · obtain ⟨e1, e2⟩ := at_other l (show k < l.length by omega) h10
        have E1 := Lib.hid e1
        have E2 := Lib.hid e2
        clear e1 e2
        generalize l.getD k 0 = v at hc h10
        have hd : ((v : Int) == 10) = false := beq_eq_false_iff_ne.2 (by omega)
        clear h10
        by_cases hx : ln (begs l) k = q
        · have hd1 : ((ln (begs l) k : Int) == q) = true := beq_iff_eq.2 (by omega)
          have hd2 : ((colm (begs l) k : Int) == col) = false := beq_eq_false_iff_ne.2 (by omega)
          clear hne hx
          go_wp2
          go_round
          case rel => exact ⟨k + 1, by omega, by go_num, by rw [E1.out], by rw [E2.out]; go_num⟩
          case measure => simp [intOf]; omega
        · have hd1 : ((ln (begs l) k : Int) == q) = false := beq_eq_false_iff_ne.2 (by omega)
          clear hne hx
          go_wp2
          go_round
          case rel => exact ⟨k + 1, by omega, by go_num, by rw [E1.out], by rw [E2.out]; go_num⟩
          case measure => simp [intOf]; omega
    · obtain rfl : k = p := by omega
      have hd1 : ((ln (begs l) k : Int) == q) = true := beq_iff_eq.2 (by have := HQ.out; omega)
      have hd2 : ((colm (begs l) k : Int) == col) = true := beq_iff_eq.2 (by have := HC.out; omega)
      go_wp2
      go_ret2
      exact ⟨rfl, rfl⟩

set_option maxHeartbeats 1000000 in
theorem rplace_no (A : Option Addr) (l : List Nat) (c : Nat) (q col : Int) (hl : l.length ≤ 65536) (hno : ∀ k, k ≤ l.length → ¬ ((ln (begs l) k : Int) = q ∧ (colm (begs l) k : Int) = col)) (w : World) (h : Txt w A l) :
    Calls Try.prog 20 #[.slice A l.length c, .int .i64 q, .int .i64 col] w fun e w' => e = .returned (.tuple #[.int .i64 0, .bool false]) ∧ w = w' := by
  have HT := Lib.hid h
  have HN := Lib.hid hno
  clear h hno
  go_enter Try.func20, Try.ntmps20
  go_wp2
  go_loop [8, 9, 10] (fun a b i => ∃ k : Nat, k ≤ l.length + 1 ∧ i = .int .i64 k ∧ (k ≤ l.length → a = .int .i64 (ln (begs l) k) ∧ b = .int .i64 (colm (begs l) k))) (fun _ _ i => l.length + 1 - (intOf i).toNat)
  case atStart => exact ⟨0, by omega, rfl, fun _ => ⟨by rw [ln_zero]; rfl, by rw [colm_zero]; rfl⟩⟩
  case round =>
    obtain ⟨k, hk, rfl, hab⟩ := hrel
    by_cases hle : k ≤ l.length
    · obtain ⟨rfl, rfl⟩ := hab hle
      obtain ⟨b1, b2, b3, b4⟩ := at_bd l k
      have hne := HN.out k hle
      clear hab
      by_cases hlt : k < l.length
      · have hkl : (k : Int) < l.length := by omega
        obtain ⟨tb, to, rfl, hc⟩ := HT.out.at_ hlt
        by_cases h10 : l.getD k 0 = 10
        · obtain ⟨e1, e2⟩ := at_ten l (by omega) h10
          rw [h10] at hc
          have E1 := Lib.hid e1
          have E2 := Lib.hid e2
          clear h10 e1 e2
          by_cases hx : (ln (begs l) k : Int) = q
          · have hd1 : ((ln (begs l) k : Int) == q) = true := beq_iff_eq.2 hx
            have hd2 : ((colm (begs l) k : Int) == col) = false := beq_eq_false_iff_ne.2 (fun h => hne ⟨hx, h⟩)
            clear hne hx
            go_wp2
            go_round
            case rel => exact ⟨k + 1, by omega, by go_num, fun _ => ⟨by rw [E1.out]; go_num, by rw [E2.out]; rfl⟩⟩
            case measure => simp [intOf]; omega
          · have hd1 : ((ln (begs l) k : Int) == q) = false := beq_eq_false_iff_ne.2 hx
            clear hne hx
            go_wp2
            go_round
            case rel => exact ⟨k + 1, by omega, by go_num, fun _ => ⟨by rw [E1.out]; go_num, by rw [E2.out]; rfl⟩⟩
            case measure => simp [intOf]; omega
        · obtain ⟨e1, e2⟩ := at_other l hlt h10
          have E1 := Lib.hid e1
          have E2 := Lib.hid e2
          clear e1 e2
          generalize l.getD k 0 = v at hc h10
          have hd : ((v : Int) == 10) = false := beq_eq_false_iff_ne.2 (by omega)
          clear h10
          by_cases hx : (ln (begs l) k : Int) = q
          · have hd1 : ((ln (begs l) k : Int) == q) = true := beq_iff_eq.2 hx
            have hd2 : ((colm (begs l) k : Int) == col) = false := beq_eq_false_iff_ne.2 (fun h => hne ⟨hx, h⟩)
            clear hne hx
            go_wp2
            go_round
            case rel => exact ⟨k + 1, by omega, by go_num, fun _ => ⟨by rw [E1.out], by rw [E2.out]; go_num⟩⟩
            case measure => simp [intOf]; omega
          · have hd1 : ((ln (begs l) k : Int) == q) = false := beq_eq_false_iff_ne.2 hx
            clear hne hx
            go_wp2
            go_round
            case rel => exact ⟨k + 1, by omega, by go_num, fun _ => ⟨by rw [E1.out], by rw [E2.out]; go_num⟩⟩
            case measure => simp [intOf]; omega
      · obtain rfl : k = l.length := by omega
        by_cases hx : (ln (begs l) l.length : Int) = q
        · have hd1 : ((ln (begs l) l.length : Int) == q) = true := beq_iff_eq.2 hx
          have hd2 : ((colm (begs l) l.length : Int) == col) = false := beq_eq_false_iff_ne.2 (fun h => hne ⟨hx, h⟩)
          clear hne hx
          go_wp2
          go_round
          case rel => exact ⟨l.length + 1, by omega, by go_num, fun h => by omega⟩
          case measure => simp [intOf]
        · have hd1 : ((ln (begs l) l.length : Int) == q) = false := beq_eq_false_iff_ne.2 hx
          clear hne hx
          go_wp2
          go_round
          case rel => exact ⟨l.length + 1, by omega, by go_num, fun h => by omega⟩
          case measure => simp [intOf]
    · clear hab
      go_wp2
      go_ret2
      exact ⟨rfl, rfl⟩
end Go.Proofs.Ytmllhjgejlbjhaa

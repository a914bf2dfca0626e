/- The contracts of same, of awake. -/
import Derived.Test.YtgploogflhfolaaWh
namespace Go.Proofs.Ytgploogflhfolaa
open Go Go.Proofs Go.RowKit

theorem gaps_any (s : Int × Int) (hs : Inr s) (A : Option Addr) (l : List (Int × Int)) (c : Nat) (hl : l.length ≤ 65536) (hr : Inrs l) (w : World) (h : Spn w A l) :
    Calls Try.prog 22 #[.agg #[.int .i64 s.1, .int .i64 s.2], .slice A l.length c] w fun e w' => ∃ v, e = .returned v ∧ w'.ownsRow w.heap.size 23 2 v (gapsF s.1 s.2 l).length (scells (gapsF s.1 s.2 l)) ∧ Below w.heap.size w w' := by
  cases hrt : rt s.1 s.2 with
  | false =>
    have e : gapsF s.1 s.2 l = [] := by simp [gapsF, hrt]
    rw [e]
    exact (gaps_no s.1 s.2 A l.length c hrt w).mono fun _ _ ⟨he, hb⟩ => ⟨_, he, World.ownsRow_nil _ _ _ _, hb⟩
  | true =>
    have e : gapsF s.1 s.2 l = sweep s.2 s.1 (srt (parts l) ++ [(s.2, s.2)]) := by simp [gapsF, hrt]
    rw [e]
    exact gaps_yes s.1 s.2 hs A l c hl hr hrt w h

/-- A row of the call's own is spans in memory. -/
theorem spn_of_own {w : World} {base : Nat} {xs : List (Int × Int)} {v : Value} (h : w.ownsRow base 23 2 v xs.length (scells xs)) : ∃ A c, v = .slice A xs.length c ∧ Spn w A xs := by
  rcases h.2 with ⟨rfl, hn⟩ | ⟨g, cap, cur, rfl, hb, hh, _⟩
  · exact ⟨none, 0, by rw [hn], fun h0 => by omega⟩
  · refine ⟨_, cap, rfl, fun _ => ⟨g, 0, rfl, (Array.getElem?_eq_some_iff.1 hh).1, fun i hi => ?_⟩⟩
    rw [Nat.zero_add]
    have := scells_at hi
    exact ⟨(h.cellAt (i * 2) (by omega)).trans this.1, (h.cellAt (i * 2 + 1) (by omega)).trans this.2⟩

@[go_sem] theorem eq23 (a b c d : Int) (w : World) : (Op.equalIn 10000 23 (.agg #[.int .i64 a, .int .i64 b]) (.agg #[.int .i64 c, .int .i64 d])).run Try.prog w = .ok (a == c && b == d) w := by
  by_cases h1 : a = c
  · subst h1
    by_cases h2 : b = d
    · subst h2
      go_simp
    · have h3 : (b == d) = false := by simpa using h2
      go_simp
  · have h3 : (a == c) = false := by simpa using h1
    go_simp

theorem drewN_two (w : World) (n m : Nat) : (w.drewN n).drewN m = w.drewN (n + m) := by simp [World.drewN, Nat.add_assoc]
theorem same_end {a b : List (Int × Int)} {k : Nat} (h : ¬ k < a.length ∨ ¬ k < b.length) (hk : k ≤ a.length) (hk2 : k ≤ b.length) (hp : ∀ j, j < k → a.getD j (0, 0) = b.getD j (0, 0)) :
    ((a.length : Int) == (b.length : Int)) = decide (a = b) := by
  rw [Bool.eq_iff_iff]
  simp only [beq_iff_eq, decide_eq_true_eq]
  constructor
  · intro hl
    have hl : a.length = b.length := by omega
    apply List.ext_getElem hl
    intro j h1 h2
    have := hp j (by omega)
    simpa [List.getD, List.getElem?_eq_getElem h1, List.getElem?_eq_getElem h2] using this
  · rintro rfl; rfl

set_option maxHeartbeats 1000000 in
theorem same_any (A B : Option Addr) (a b : List (Int × Int)) (c d : Nat) (ha : a.length ≤ 65536) (hb : b.length ≤ 65536) (w : World) (hA : Spn w A a) (hB : Spn w B b) :
    Calls Try.prog 25 #[.slice A a.length c, .slice B b.length d] w fun e w' => e = .returned (.bool (decide (a = b))) ∧ ∃ n, w' = w.drewN n := by
  have HA := Lib.hid hA
  have HB := Lib.hid hB
  obtain ⟨res, eres⟩ : ∃ res, res = decide (a = b) := ⟨_, rfl⟩
  rw [← eres]
  have ER := Lib.hid eres
  clear hA hB eres
  go_enter Try.func25, Try.ntmps25
  go_wp2
  go_loopw [5] (fun i wr => ∃ k : Nat, k ≤ a.length ∧ k ≤ b.length ∧ i = .int .i64 k ∧ (∀ j, j < k → a.getD j (0, 0) = b.getD j (0, 0)) ∧ ∃ n, wr = w.drewN n) (fun i _ => a.length - (intOf i).toNat)
  case atStart => exact ⟨0, by omega, by omega, rfl, by intro j hj; omega, 0, rfl⟩
  case round =>
    obtain ⟨k, hk, hk2, rfl, hpre, n, rfl⟩ := hrel
    have HP := Lib.hid hpre
    clear hpre
    by_cases h1 : k < a.length
    · by_cases h2 : k < b.length
      · obtain ⟨ab, ao, rfl, hal, hac⟩ := HA.out (by omega)
        obtain ⟨bb, bo, rfl, hbl, hbc⟩ := HB.out (by omega)
        obtain ⟨c0, c1⟩ := hac k h1
        obtain ⟨d0, d1⟩ := hbc k h2
        obtain ⟨x, ex⟩ : ∃ x, x = a.getD k (0, 0) := ⟨_, rfl⟩
        obtain ⟨y, ey⟩ : ∃ y, y = b.getD k (0, 0) := ⟨_, rfl⟩
        rw [← ex] at c0 c1
        rw [← ey] at d0 d1
        have hk3 : (k : Int) < a.length := by omega
        have hk4 : (k : Int) < b.length := by omega
        obtain ⟨x1, x2⟩ := x
        obtain ⟨y1, y2⟩ := y
        dsimp only at c0 c1 d0 d1
        have EX := Lib.hid ex
        have EY := Lib.hid ey
        clear ex ey hac hbc
        by_cases he : (x1, x2) = (y1, y2)
        · obtain ⟨rfl, rfl⟩ : x1 = y1 ∧ x2 = y2 := by simpa using he
          go_wp2_with fail
          go_quiet (fail)
          go_wp2_with fail
          go_roundw
          case rel =>
            refine ⟨k + 1, by omega, by omega, by go_num, fun j hj => ?_, _, rfl⟩
            rcases Nat.lt_or_ge j k with h | h
            · exact HP.out j h
            · obtain rfl : j = k := by omega
              rw [← EX.out, ← EY.out]
          case measure => simp [intOf]; omega
        · have hne : a ≠ b := fun e => he (by rw [EX.out, EY.out, e])
          have hd : res = false := by rw [ER.out]; simpa using hne
          have HD := Lib.hid hd
          have eqv : ∀ W : World, (Op.equalIn 10000 23 (.agg #[.int .i64 x1, .int .i64 x2]) (.agg #[.int .i64 y1, .int .i64 y2])).run Try.prog W = .ok false W := fun W => by
            rw [eq23]
            have : (x1 == y1 && x2 == y2) = false := by simpa using he
            rw [this]
          clear he hne hd
          go_wp2_with fail
          go_quiet (fail)
          go_wp2_with fail
          go_ret
          exact ⟨ret_bool HD.out.symm, _, drewN_two _ _ _⟩
      · have hR := same_end (Or.inr h2) hk hk2 HP.out
        have hn1 : (k : Int) < a.length := by omega
        have hn2 : ¬ ((k : Int) < b.length) := by omega
        rw [← ER.out] at hR
        have HR := Lib.hid hR
        clear hR
        go_wp2_with fail
        go_ret
        exact ⟨ret_bool HR.out, _, rfl⟩
    · have hR := same_end (Or.inl h1) hk hk2 HP.out
      have hn1 : ¬ ((k : Int) < a.length) := by omega
      rw [← ER.out] at hR
      have HR := Lib.hid hR
      clear hR
      go_wp2_with fail
      go_ret
      exact ⟨ret_bool HR.out, _, rfl⟩

theorem awake_gaps : gapsF 0 9 [(2, 4), (3, 6)] = [(0, 2), (6, 9)] := by
  have e : srt (parts [(2, 4), (3, 6)]) = [(2, 4), (3, 6)] := by
    rw [show parts [(2, 4), (3, 6)] = [(2, 4), (3, 6)] by decide +kernel]
    exact List.mergeSort_of_pairwise (by simp [ltOrd])
  unfold gapsF
  rw [e]
  decide +kernel

set_option maxHeartbeats 1000000 in
theorem awake_any : ∀ w : World, Calls Try.prog 20 #[] w fun e w' => e = .returned (.bool true) ∧ Below w.heap.size w w' := by
  intro w
  have G := fun (w : World) h => gaps_any (0, 9) ⟨by decide, by decide, by decide, by decide⟩ (some ⟨w.heap.size, 0, none⟩) [(2, 4), (3, 6)] 2 (by decide) (by intro x hx; simp at hx; rcases hx with rfl | rfl <;> exact ⟨by decide, by decide, by decide, by decide⟩) (w.alloc (.cells #[.int .i64 2, .int .i64 4, .int .i64 3, .int .i64 6] 23)) h
  rw [awake_gaps] at G
  have HS : Spn (w.alloc (.cells #[.int .i64 2, .int .i64 4, .int .i64 3, .int .i64 6] 23)) (some ⟨w.heap.size, 0, none⟩) [(2, 4), (3, 6)] := fun _ => ⟨_, 0, rfl, by simp, fun i hi => by
    have hi : i < 2 := hi
    rw [(Blk.new w _ _).cell, (Blk.new w _ _).cell]
    have : i = 0 ∨ i = 1 := by omega
    rcases this with rfl | rfl <;> exact ⟨rfl, rfl⟩⟩
  have G := Lib.hid (G w HS)
  clear HS
  go_enter Try.func20, Try.ntmps20
  go_wp2_with fail
  refine G.out.mono ?_
  rintro e w1 ⟨v, rfl, hown, hb⟩
  obtain ⟨A, c, rfl, hA⟩ := spn_of_own hown
  have hB1 := bt (B1 w _) hb (by simp)
  clear hown G hb
  obtain ⟨w2, e2⟩ : ∃ w2, w2 = w1.alloc (.cells #[.int .i64 0, .int .i64 2, .int .i64 6, .int .i64 9] 23) := ⟨_, rfl⟩
  have hA2 : Spn w2 A [(0, 2), (6, 9)] := by rw [e2]; exact hA.below (B1 _ _)
  have hS2 : Spn w2 (some ⟨w1.heap.size, 0, none⟩) [(0, 2), (6, 9)] := fun _ => ⟨_, 0, rfl, by rw [e2]; simp, fun i hi => by
    have hi : i < 2 := hi
    rw [e2, (Blk.new w1 _ _).cell, (Blk.new w1 _ _).cell]
    have : i = 0 ∨ i = 1 := by omega
    rcases this with rfl | rfl <;> exact ⟨rfl, rfl⟩⟩
  have hB2 : Below w.heap.size w w2 := by rw [e2]; exact hB1.alloc hB1.size _
  have S := Lib.hid (same_any A (some ⟨w1.heap.size, 0, none⟩) [(0, 2), (6, 9)] [(0, 2), (6, 9)] c 2 (by decide) (by decide) w2 hA2 hS2)
  clear hA hA2 hS2 hB1
  go_wp2_with fail
  rw [← e2]
  clear e2
  refine S.out.mono ?_
  rintro e w3 ⟨rfl, n, rfl⟩
  go_wp2_with fail
  go_ret
  exact ⟨ret_bool (by simp), bdrew hB2⟩
end Go.Proofs.Ytgploogflhfolaa

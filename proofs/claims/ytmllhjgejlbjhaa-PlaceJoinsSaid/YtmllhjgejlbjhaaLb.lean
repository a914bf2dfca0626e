/- Layer 2: the law PlaceJoins, walked. -/
import Derived.Test.YtmllhjgejlbjhaaWk
import Derived.Test.YtmllhjgejlbjhaaWl
import Derived.Test.YtmllhjgejlbjhaaMc
namespace Go.Proofs.Ytmllhjgejlbjhaa
open Go.RowKit
theorem btr2 {w0 w w' : World} (h : Below w0.heap.size w0 w) (h' : Below w.heap.size w w') : Below w0.heap.size w0 w' := h.trans (h'.mono h.size)

/-- Three indexes lie on. -/
structure Three (w W : World) (x y z : Nat) (a b : List Nat) : Prop where
  below : Below w.heap.size w W
  one : Idx W x (begs a) a.length
  two : Idx W y (begs b) b.length
  both : Idx W z (begs (a ++ b)) (a ++ b).length
theorem Three.next {w W W' : World} {x y z : Nat} {a b : List Nat} (h : Three w W x y z a b) (hb : Below W.heap.size W W') : Three w W' x y z a b :=
  ⟨btr2 h.below hb, h.one.below hb, h.two.below hb, h.both.below hb⟩
/-- What the three say of a place of the second text. -/
theorem three_at {x y z : Nat} {a b : List Nat} (hla : a.length ≤ 1000) (hlb : b.length ≤ 1000) {k : Nat} (hk : k ≤ b.length) : ∃ l c e cz : Nat, 1 ≤ l ∧ l ≤ (begs b).length ∧ 1 ≤ c ∧ c ≤ 2001 ∧ 1 ≤ e ∧ e ≤ 2001 ∧ (l = 1 → cz + 1 = c + e) ∧ (l ≠ 1 → cz = c) ∧
    (∀ w W, Three w W x y z a b → Calls Try.prog 13 #[.pointer (some ⟨y, 0, none⟩), .int .i64 k] W fun en w' => en = .returned (.tuple #[.int .i64 l, .int .i64 c, .bool true]) ∧ Below W.heap.size W w') ∧
    (∀ w W, Three w W x y z a b → Calls Try.prog 13 #[.pointer (some ⟨z, 0, none⟩), .int .i64 (a.length + k : Nat)] W fun en w' => en = .returned (.tuple #[.int .i64 ((begs a).length + l - 1 : Nat), .int .i64 cz, .bool true]) ∧ Below W.heap.size W w') ∧
    (∀ w W, Three w W x y z a b → Calls Try.prog 13 #[.pointer (some ⟨x, 0, none⟩), .int .i64 a.length] W fun en w' => en = .returned (.tuple #[.int .i64 (begs a).length, .int .i64 e, .bool true]) ∧ Below W.heap.size W w') := by
  obtain ⟨h1, h2, h3, h4⟩ := ln_spec k (begs_lns b)
  obtain ⟨q1, q2⟩ := ln_append a b hk
  have hp := (begs_lns a).pos
  have v1 := h3 (ln (begs b) k - 1) (by omega)
  have v2 := (begs_lns a).le ((begs a).length - 1) (by omega)
  have v3 := (begs_lns b).head
  refine ⟨ln (begs b) k, k - (begs b).getD (ln (begs b) k - 1) 0 + 1, a.length - (begs a).getD ((begs a).length - 1) 0 + 1, a.length + k - (begs (a ++ b)).getD ((begs a).length + ln (begs b) k - 1 - 1) 0 + 1,
    h1, h2, by omega, by omega, by omega, by omega, fun h => ?_, fun h => ?_, fun w W h => at_yes y _ _ k (begs_lns b) (by omega) hk W h.two, fun w W h => ?_, fun w W h => ?_⟩
  · rw [q2, if_pos h, h]
    simp only [Nat.sub_self, v3]
    omega
  · rw [q2, if_neg h]
    omega
  · have := at_yes z _ _ (a.length + k) (begs_lns (a ++ b)) (by simp; omega) (by simp; omega) W h.both
    rwa [q1] at this
  · have := at_yes x _ _ a.length (begs_lns a) (by omega) (Nat.le_refl _) W h.one
    rwa [ln_end] at this

set_option maxRecDepth 100000 in
set_option maxHeartbeats 2000000 in
theorem joins_any (A B : Option Addr) (a b : List Nat) (ca cb : Nat) (p : Int) (w : World) (hla : a.length ≤ 1000) (hlb : b.length ≤ 1000) (hna : A = none → ca = 0) (hnb : B = none → cb = 0) (ha : Txt w A a) (hb : Txt w B b) :
    Calls Try.prog 6 #[.slice A a.length ca, .slice B b.length cb, .int .i64 p] w fun e w' => e = .returned (.bool true) ∧ Below w.heap.size w w' := by
  have HA := Lib.hid ha
  have HB := Lib.hid hb
  have HNA := Lib.hid hna
  have HNB := Lib.hid hnb
  clear ha hb hna hnb
  go_enter Try.func6, Try.ntmps6
  go_wp2_with fail
  refine (awake_any _).mono ?_
  rintro e w1 ⟨rfl, hb1⟩
  go_wp2_with fail
  refine (new_any A a ca w1 (by omega) (HA.out.below hb1)).mono ?_
  rintro e w2 ⟨⟨x, rfl, _, hIx⟩, hb2⟩
  have HX := Lib.hid hIx
  have hw2 := btr2 hb1 hb2
  clear hb1 hb2 hIx
  go_wp2_with fail
  refine (new_any B b cb w2 (by omega) (HB.out.below hw2)).mono ?_
  rintro e w3 ⟨⟨y, rfl, _, hIy⟩, hb3⟩
  have HY := Lib.hid hIy
  have HX3 := Lib.hid (HX.out.below hb3)
  have hw3 := btr2 hw2 hb3
  clear hb3 hIy hw2
  have HA3 := Lib.hid (HA.out.below hw3)
  have HB3 := Lib.hid (HB.out.below hw3)
  have hw4 : Below w3.heap.size w3 (w3.alloc (.cells #[] 5)) := (Below.refl _ _).alloc (Nat.le_refl _) _
  have own0 : (w3.alloc (.cells #[] 5)).ownsRow w3.heap.size 5 1 (.slice (some ⟨w3.heap.size, 0, none⟩) 0 0) ([] : List Nat).length (([] : List Nat).map natb) := World.ownsRow_made w3 #[] 0 (Nat.le_refl _) (by unfold maxLen; omega) rfl
  have HO := Lib.hid own0
  have H4 := Lib.hid hw4
  clear own0 hw4
  go_wp2_with (first
    | (at_builtin; refine wpList_append_txt _ rfl (.tmp 33) (.tmp 34) rfl w3.heap.size _ [] rfl HO.out A a ca rfl (HA3.out.below H4.out) HNA.out (by simp; omega) H4.out.size ?_; intro v1 w5 hown1 hg1; have HO1 := Lib.hid hown1; have H5 := Lib.hid (H4.out.grown hg1 H4.out.size (fun k hk => (HO.out.lt k hk).1)); clear hown1 hg1)
    | (at_builtin; refine wpList_append_txt _ rfl (.tmp 35) (.tmp 36) rfl w3.heap.size _ ([] ++ a) rfl HO1.out B b cb rfl (HB3.out.below H5.out) HNB.out (by simp; omega) H5.out.size ?_; intro v2 w6 hown2 hg2; have HO2 := Lib.hid hown2; have H6 := Lib.hid (H5.out.grown hg2 H5.out.size (fun k hk => (HO1.out.lt k hk).1)); clear hown2 hg2))
  obtain ⟨C, cz, rfl, hT, _⟩ := txt_of_own HO2.out (by intro z hz; simp at hz; rcases hz with h | h; exact HA.out.1 z h; exact HB.out.1 z h)
  clear HO HO1 HO2
  have N : Calls Try.prog 9 #[.slice C ([] ++ a ++ b).length cz] w6 fun e w' => (∃ z, e = .returned (.pointer (some ⟨z, 0, none⟩)) ∧ Idx w' z (begs (a ++ b)) (a ++ b).length) ∧ Below w6.heap.size w6 w' :=
    (new_any C _ cz w6 (by simp; omega) hT).mono fun e w' ⟨⟨z, h1, _, h2⟩, h3⟩ => ⟨⟨z, h1, h2⟩, h3⟩
  refine N.mono ?_
  rintro e w7 ⟨⟨z, rfl, hZ⟩, hb7⟩
  have hw7 := btr2 H6.out hb7
  have T7 := Lib.hid (⟨btr2 hw3 hw7, HX3.out.below hw7, HY.out.below hw7, hZ⟩ : Three w w7 x y z a b)
  clear N hT hZ hb7 hw7 H4 H5 H6 HX HY HX3 HA3 HB3 hw3
  obtain ⟨e1, _, _⟩ := begs_append a b
  have p1 := (begs_lns a).pos
  have p2 := (begs_lns b).pos
  have s1 := (begs_lns a).short
  have s2 := (begs_lns b).short
  obtain ⟨n1, en1⟩ : ∃ n, n = (begs a).length := ⟨_, rfl⟩
  obtain ⟨n2, en2⟩ : ∃ n, n = (begs b).length := ⟨_, rfl⟩
  obtain ⟨n3, en3⟩ : ∃ n, n = (begs (a ++ b)).length := ⟨_, rfl⟩
  obtain ⟨m3, em3⟩ : ∃ n, n = (a ++ b).length := ⟨_, rfl⟩
  have LX : ∀ W, Three w W x y z a b → Calls Try.prog 16 #[.pointer (some ⟨x, 0, none⟩)] W fun e w' => e = .returned (.int .i64 n1) ∧ Below W.heap.size W w' := fun W h => by rw [en1]; exact lines_any x _ _ W h.one
  have LY : ∀ W, Three w W x y z a b → Calls Try.prog 16 #[.pointer (some ⟨y, 0, none⟩)] W fun e w' => e = .returned (.int .i64 n2) ∧ Below W.heap.size W w' := fun W h => by rw [en2]; exact lines_any y _ _ W h.two
  have LZ : ∀ W, Three w W x y z a b → Calls Try.prog 16 #[.pointer (some ⟨z, 0, none⟩)] W fun e w' => e = .returned (.int .i64 n3) ∧ Below W.heap.size W w' := fun W h => by rw [en3]; exact lines_any z _ _ W h.both
  have NZ : ∀ W, Three w W x y z a b → Calls Try.prog 17 #[.pointer (some ⟨z, 0, none⟩)] W fun e w' => e = .returned (.int .i64 m3) ∧ Below W.heap.size W w' := fun W h => by rw [em3]; exact len_any z _ _ (by simp; omega) W h.both
  have em3' : m3 = a.length + b.length := by rw [em3, List.length_append]
  have LX := Lib.hid LX
  have LY := Lib.hid LY
  have LZ := Lib.hid LZ
  have NZ := Lib.hid NZ
  have AT := Lib.hid (fun k h => three_at (x := x) (y := y) (z := z) (a := a) (b := b) hla hlb (k := k) h)
  rw [← en1, ← en2, ← en3] at e1
  rw [← en1] at p1 s1
  rw [← en2] at p2 s2
  have EN1 := Lib.hid en1
  have EN2 := Lib.hid en2
  have hd1 : ((n3 : Int) != (n1 : Int) + n2 - 1) = false := by rw [bne_eq_false_iff_eq]; omega
  have hd2 : ((m3 : Int) != (a.length : Int) + b.length) = false := by rw [bne_eq_false_iff_eq]; omega
  clear em3' en1 en2 en3 em3 e1
  go_wp2_with fail
  refine (LZ.out _ T7.out).mono ?_
  rintro e w8 ⟨rfl, hb⟩
  have T8 := Lib.hid (T7.out.next hb); clear T7 hb
  go_wp2_with fail
  refine (LX.out _ T8.out).mono ?_
  rintro e w9 ⟨rfl, hb⟩
  have T9 := Lib.hid (T8.out.next hb); clear T8 hb
  go_wp2_with fail
  refine (LY.out _ T9.out).mono ?_
  rintro e w10 ⟨rfl, hb⟩
  have T10 := Lib.hid (T9.out.next hb); clear T9 hb
  go_wp2_with fail
  refine (NZ.out _ T10.out).mono ?_
  rintro e w11 ⟨rfl, hb⟩
  have T11 := Lib.hid (T10.out.next hb); clear T10 hb
  go_wp2_with fail
  by_cases hp : p < 0 ∨ (b.length : Int) < p
  · refine (at_no y _ _ (begs_lns b) (by omega) p hp w11 T11.out.two).mono ?_
    rintro e w12 ⟨rfl, hb⟩
    by_cases h0 : p < 0
    · have hd3 : decide (p < 0) = true := by simpa using h0
      clear hp
      go_wp2_with fail
      go_ret
      exact ⟨rfl, btr2 T11.out.below hb⟩
    · have hd3 : decide (p < 0) = false := by simpa using h0
      have h1 : (b.length : Int) < p := by omega
      clear hp
      go_wp2_with fail
      go_ret
      exact ⟨ret_bool (by simp), btr2 T11.out.below hb⟩
  · obtain ⟨k, rfl⟩ := Int.eq_ofNat_of_zero_le (show 0 ≤ p by omega)
    have hk : k ≤ b.length := by omega
    clear hp
    obtain ⟨l, c, e, cz, l1, l2, c1, c2, c3, c4, q1, q2, AY, AZ, AX⟩ := AT.out k hk
    rw [← EN2.out] at l2
    rw [← EN1.out] at AZ AX
    have AY := Lib.hid AY
    have AX := Lib.hid AX
    have hz : (a.length + k : Nat) = (a.length : Int) + k := by omega
    rw [hz] at AZ
    have AZ := Lib.hid AZ
    obtain ⟨m, em⟩ : ∃ m, m = n1 + l - 1 := ⟨_, rfl⟩
    rw [← em] at AZ
    have hd4 : ((m : Int) == (l : Int) + n1 - 1) = true := beq_iff_eq.2 (by omega)
    have AZ := Lib.hid AZ
    clear hz em
    refine (AY.out w _ T11.out).mono ?_
    rintro e w12 ⟨rfl, hb⟩
    have T12 := Lib.hid (T11.out.next hb); clear T11 hb
    go_wp2_with fail
    refine (AZ.out w _ T12.out).mono ?_
    rintro e w13 ⟨rfl, hb⟩
    have T13 := Lib.hid (T12.out.next hb); clear T12 hb
    go_wp2_with fail
    refine (AX.out w _ T13.out).mono ?_
    rintro e w14 ⟨rfl, hb⟩
    have T14 := Lib.hid (T13.out.next hb); clear T13 hb
    by_cases hl1 : l = 1
    · have hcz := q1 hl1
      have hd5 : ((l : Int) == 1) = true := beq_iff_eq.2 (by omega)
      have hd6 : ((cz : Int) == (c : Int) + e - 1) = true := beq_iff_eq.2 (by omega)
      clear q1 q2 hl1 hcz
      go_wp2_with fail
      refine (LX.out _ T14.out).mono ?_
      rintro e w15 ⟨rfl, hb⟩
      go_wp2_with fail
      go_ret
      exact ⟨rfl, btr2 T14.out.below hb⟩
    · have hcz := q2 hl1
      have hd5 : ((l : Int) == 1) = false := beq_eq_false_iff_ne.2 (by omega)
      subst hcz
      clear q1 q2 hl1
      go_wp2_with fail
      refine (LX.out _ T14.out).mono ?_
      rintro e w15 ⟨rfl, hb⟩
      go_wp2_with fail
      go_ret
      exact ⟨rfl, btr2 T14.out.below hb⟩

set_option maxRecDepth 100000 in
set_option maxHeartbeats 2000000 in
theorem joins_long (A B : Option Addr) (na nb ca cb : Nat) (p : Int) (w : World) (hl : 1000 < na ∨ 1000 < nb) (h1 : na ≤ 9223372036854775807) (h2 : nb ≤ 9223372036854775807) :
    Calls Try.prog 6 #[.slice A na ca, .slice B nb cb, .int .i64 p] w fun e w' => e = .returned (.bool true) ∧ Below w.heap.size w w' := by
  by_cases h : 1000 < na
  · have hd : decide (1000 < (na : Int)) = true := by simp; omega
    clear hl
    go_enter Try.func6, Try.ntmps6
    go_wp2_with fail
    refine (awake_any _).mono ?_
    rintro e w1 ⟨rfl, hb1⟩
    go_wp2_with fail
    go_ret
    exact ⟨rfl, hb1⟩
  · have hd : decide (1000 < (na : Int)) = false := by simp; omega
    have h3 : 1000 < nb := by omega
    clear hl
    go_enter Try.func6, Try.ntmps6
    go_wp2_with fail
    refine (awake_any _).mono ?_
    rintro e w1 ⟨rfl, hb1⟩
    go_wp2_with fail
    go_ret
    exact ⟨rfl, hb1⟩
end Go.Proofs.Ytmllhjgejlbjhaa

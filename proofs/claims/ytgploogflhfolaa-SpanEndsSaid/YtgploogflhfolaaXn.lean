/- Contracts of Cut, and the document's. -/
import Derived.Test.YtgploogflhfolaaXm
namespace Go.Proofs.Ytgploogflhfolaa
open Go.RowKit
theorem own_low {w : World} {B base e size n : Nat} {v : Value} {xs : List Value} (h : w.ownsRow base e size v n xs) (hB : B ≤ base) : w.ownsRow B e size v n xs := by
  obtain ⟨h1, h2⟩ := h
  refine ⟨h1, ?_⟩
  rcases h2 with h2 | ⟨g, cap, cur, a, b, c, d⟩
  · exact .inl h2
  · exact .inr ⟨g, cap, cur, a, Nat.le_trans hB b, c, d⟩
/-- A span's bytes. -/
def cutL (l : List Nat) (p q : Nat) : List Nat := (l.drop p).take (q - p)
theorem cutL_length {l : List Nat} {p q : Nat} (h1 : p ≤ q) (h2 : q ≤ l.length) : (cutL l p q).length = q - p := by simp [cutL]; omega
theorem Txt.cut {w : World} {b o : Nat} {l : List Nat} (h : Txt w (some ⟨b, o, none⟩) l) (p q : Nat) (h1 : p ≤ q) (h2 : q ≤ l.length) : Txt w (some ⟨b, o + p, none⟩) (cutL l p q) := by
  refine ⟨fun x hx => h.1 x (List.mem_of_mem_drop (List.mem_of_mem_take hx)), fun h0 => ?_⟩
  have hl := cutL_length h1 h2
  obtain ⟨b', o', e, hb, hc⟩ := h.2 (by omega)
  cases e
  refine ⟨b, o + p, rfl, hb, fun i hi => ?_⟩
  have := hc (p + i) (by omega)
  rw [Nat.add_assoc, this]
  have e : (cutL l p q).getD i 0 = l.getD (p + i) 0 := by
    simp only [List.getD, cutL]
    rw [List.getElem?_take, if_pos (by omega), List.getElem?_drop]
  rw [e]

theorem txt_nil (w : World) (A : Option Addr) : Txt w A [] := ⟨by simp, fun h => by simp at h⟩
theorem Txt.cut' {w : World} {ad : Addr} {l : List Nat} (h : Txt w (some ad) l) (p q : Nat) (h1 : p ≤ q) (h2 : q ≤ l.length) : Txt w (some (ad.add p)) (cutL l p q) := by
  by_cases e : p = q
  · have : cutL l p q = [] := List.eq_nil_of_length_eq_zero (by rw [cutL_length h1 h2]; omega)
    rw [this]; exact txt_nil _ _
  · obtain ⟨b, o, e, _, _⟩ := h.2 (by omega)
    cases e
    rw [Addr.add_lit]
    exact h.cut p q h1 h2
/-- The clone of a part. -/
theorem clone_cut (ad : Addr) (l : List Nat) (c p q : Nat) (hl : l.length ≤ 60000) (h1 : p ≤ q) (h2 : q ≤ l.length) (w : World) (h : Txt w (some ad) l) :
    Calls Try.prog 38 #[.slice (some (ad.add p)) (q - p) c] w fun e w' => ∃ v, e = .returned v ∧ w'.ownsRow w.heap.size 5 1 v (q - p) ((cutL l p q).map natb) ∧ Below w.heap.size w w' := by
  have hl' := cutL_length h1 h2
  have := clone_any (some (ad.add p)) (cutL l p q) c (by omega) (fun h => by cases h) w (h.cut' p q h1 h2)
  rw [hl'] at this
  exact this
set_option maxHeartbeats 1000000 in
theorem cut_no (A : Option Addr) (n c : Nat) (x y : Int) (hn : n ≤ 65536) (h : rt x y = false ∨ (n : Int) < y) (w : World) :
    Calls Try.prog 23 #[.slice A n c, .agg #[.int .i64 x, .int .i64 y]] w fun e w' => e = .returned (.tuple #[.slice none 0 0, .int .i64 6]) ∧ Below w.heap.size w w' := by
  have R := fun w => right_any x y w
  cases hr : rt x y with
  | false =>
    rw [hr] at R
    have R := Lib.hid R
    clear h hr
    go_enter Try.func23, Try.ntmps23
    go_wp2_with fail
    refine (R.out _).mono ?_
    rintro e w1 ⟨rfl, hb⟩
    go_wp2_with fail
    go_ret2
    exact ⟨rfl, bt (B1 _ _) hb (by simp)⟩
  | true =>
    have hy : (n : Int) < y := by rcases h with h | h; · rw [hr] at h; cases h
                                  · exact h
    rw [hr] at R
    have R := Lib.hid R
    clear h hr
    go_enter Try.func23, Try.ntmps23
    go_wp2_with fail
    refine (R.out _).mono ?_
    rintro e w1 ⟨rfl, hb⟩
    obtain ⟨a0, a1⟩ := ((Blk.new w #[.int .i64 x, .int .i64 y] 23).below hb (by simp)).two
    have hb1 := bt (B1 w _) hb (by simp)
    clear hb
    go_wp2_with fail
    go_ret2
    exact ⟨rfl, hb1⟩
set_option maxHeartbeats 1000000 in
theorem cut_yes (A : Option Addr) (l : List Nat) (c p q : Nat) (hl : l.length ≤ 60000) (hc : l.length ≤ c) (hc2 : c ≤ 9223372036854775807) (hnc : A = none → c = 0) (h1 : p ≤ q) (h2 : q ≤ l.length) (w : World) (h : Txt w A l) :
    Calls Try.prog 23 #[.slice A l.length c, .agg #[.int .i64 p, .int .i64 q]] w fun e w' => ∃ v, e = .returned (.tuple #[v, .int .i64 0]) ∧ w'.ownsRow w.heap.size 5 1 v (q - p) ((cutL l p q).map natb) ∧ Below w.heap.size w w' := by
  have R := fun w => right_any (p : Int) (q : Int) w
  rw [show rt (p : Int) (q : Int) = true by simp [rt]; omega] at R
  have R := Lib.hid R
  have HT := Lib.hid h
  clear h
  have hpq : (p : Int) ≤ q := by omega
  have hql : (q : Int) ≤ l.length := by omega
  have hqc : (q : Int) ≤ c := by omega
  go_enter Try.func23, Try.ntmps23
  go_wp2_with fail
  refine (R.out _).mono ?_
  rintro e w1 ⟨rfl, hb⟩
  obtain ⟨a0, a1⟩ := ((Blk.new w #[.int .i64 (p : Int), .int .i64 (q : Int)] 23).below hb (by simp)).two
  have hb1 := bt (B1 w _) hb (by simp)
  clear hb R
  cases A with
  | none =>
    obtain rfl : c = 0 := hnc rfl
    obtain rfl : l = [] := List.eq_nil_of_length_eq_zero (by omega)
    obtain rfl : q = 0 := by simpa using h2
    obtain rfl : p = 0 := by omega
    go_wp2_with fail
    refine (clone_any none [] 0 (by simp) (fun _ => rfl) w1 (txt_nil _ _)).mono ?_
    rintro e w2 ⟨v, rfl, hown, hb2⟩
    have HO := Lib.hid (own_low hown hb1.size)
    clear hown
    go_wp2_with fail
    go_ret2
    exact ⟨v, rfl, HO.out, bt hb1 hb2 hb1.size⟩
  | some ad =>
    have HT1 := Lib.hid (HT.out.below hb1)
    by_cases hcp : c = p
    · obtain rfl : q = p := by omega
      subst hcp
      have ec : cutL l c c = [] := List.eq_nil_of_length_eq_zero (by rw [cutL_length h1 h2]; omega)
      have EC := Lib.hid ec
      clear ec
      go_wp2_with fail
      refine (clone_any (some ad) [] 0 (by simp) (fun _ => rfl) w1 (txt_nil _ _)).mono ?_
      rintro e w2 ⟨v, rfl, hown, hb2⟩
      have HO := Lib.hid (own_low hown hb1.size)
      clear hown
      go_wp2_with fail
      go_ret2
      exact ⟨v, rfl, by rw [EC.out, Nat.sub_self]; exact HO.out, bt hb1 hb2 hb1.size⟩
    · go_wp2_with fail
      refine (clone_cut ad l (c - p) p q hl h1 h2 w1 HT1.out).mono ?_
      rintro e w2 ⟨v, rfl, hown, hb2⟩
      have HO := Lib.hid (own_low hown hb1.size)
      clear hown
      go_wp2_with fail
      go_ret2
      exact ⟨v, rfl, HO.out, bt hb1 hb2 hb1.size⟩

set_option maxHeartbeats 1000000 in
theorem rcut_no (A : Option Addr) (n c : Nat) (x y : Int) (hn : n ≤ 65536) (h : rt x y = false ∨ (n : Int) < y) (w : World) :
    Calls Try.prog 24 #[.slice A n c, .agg #[.int .i64 x, .int .i64 y]] w fun e w' => e = .returned (.tuple #[.slice none 0 0, .int .i64 6]) ∧ Below w.heap.size w w' := by
  have R := fun w => rright_any x y w
  cases hr : rt x y with
  | false =>
    rw [hr] at R
    have R := Lib.hid R
    clear h hr
    go_enter Try.func24, Try.ntmps24
    go_wp2_with fail
    refine (R.out _).mono ?_
    rintro e w1 ⟨rfl, hb⟩
    go_wp2_with fail
    go_ret2
    exact ⟨rfl, bt (B1 _ _) hb (by simp)⟩
  | true =>
    have hy : (n : Int) < y := by rcases h with h | h; · rw [hr] at h; cases h
                                  · exact h
    rw [hr] at R
    have R := Lib.hid R
    clear h hr
    go_enter Try.func24, Try.ntmps24
    go_wp2_with fail
    refine (R.out _).mono ?_
    rintro e w1 ⟨rfl, hb⟩
    obtain ⟨a0, a1⟩ := ((Blk.new w #[.int .i64 x, .int .i64 y] 23).below hb (by simp)).two
    have hb1 := bt (B1 w _) hb (by simp)
    clear hb
    go_wp2_with fail
    go_ret2
    exact ⟨rfl, hb1⟩
set_option maxHeartbeats 1000000 in
theorem rcut_yes (A : Option Addr) (l : List Nat) (c p q : Nat) (hl : l.length ≤ 60000) (hc : l.length ≤ c) (hc2 : c ≤ 9223372036854775807) (hnc : A = none → c = 0) (h1 : p ≤ q) (h2 : q ≤ l.length) (w : World) (h : Txt w A l) :
    Calls Try.prog 24 #[.slice A l.length c, .agg #[.int .i64 p, .int .i64 q]] w fun e w' => ∃ v, e = .returned (.tuple #[v, .int .i64 0]) ∧ w'.ownsRow w.heap.size 5 1 v (q - p) ((cutL l p q).map natb) ∧ Below w.heap.size w w' := by
  have R := fun w => rright_any (p : Int) (q : Int) w
  rw [show rt (p : Int) (q : Int) = true by simp [rt]; omega] at R
  have R := Lib.hid R
  have HT := Lib.hid h
  clear h
  have hpq : (p : Int) ≤ q := by omega
  have hql : (q : Int) ≤ l.length := by omega
  have hqc : (q : Int) ≤ c := by omega
  go_enter Try.func24, Try.ntmps24
  go_wp2_with fail
  refine (R.out _).mono ?_
  rintro e w1 ⟨rfl, hb⟩
  obtain ⟨a0, a1⟩ := ((Blk.new w #[.int .i64 (p : Int), .int .i64 (q : Int)] 23).below hb (by simp)).two
  have hb1 := bt (B1 w _) hb (by simp)
  have hb2 : Below w.heap.size w (w1.alloc (.cells #[] 5)) := hb1.alloc hb1.size _
  have HB2 := Lib.hid hb2
  have hz := (Blk.new w #[.int .i64 (p : Int), .int .i64 (q : Int)] 23).lt
  have hw1 : w.heap.size < w1.heap.size := by have := hb.size; simp at this; omega
  clear hb R hz hb2
  cases A with
  | none =>
    obtain rfl : c = 0 := hnc rfl
    obtain rfl : l = [] := List.eq_nil_of_length_eq_zero (by omega)
    obtain rfl : q = 0 := by simpa using h2
    obtain rfl : p = 0 := by omega
    go_wp2_with (at_builtin; refine wpList_append_txt _ rfl (.tmp 16) (.tmp 22) rfl w1.heap.size _ [] rfl (own_empty5 w1) none [] 0 rfl (txt_nil _ _) (fun _ => rfl) (by simp) (by simp) ?_; intro v1 w2 hown2 hg2; have HB3 := Lib.hid (HB2.out.grown hg2 HB2.out.size (fun k hk => Nat.le_trans hb1.size ((own_empty5 w1).lt k hk).1)); clear hg2)
    have HO := Lib.hid (own_low hown2 hb1.size)
    clear hown2
    go_ret2
    exact ⟨v1, rfl, by simpa [cutL] using HO.out, HB3.out⟩
  | some ad =>
    have HT1 := Lib.hid (HT.out.below hb1)
    have HT2 := Lib.hid (HT1.out.below (B1 w1 (.cells #[] 5)))
    by_cases hcp : c = p
    · obtain rfl : q = p := by omega
      subst hcp
      have ec : cutL l c c = [] := List.eq_nil_of_length_eq_zero (by rw [cutL_length h1 h2]; omega)
      have EC := Lib.hid ec
      clear ec
      go_wp2_with (at_builtin; refine wpList_append_txt _ rfl (.tmp 16) (.tmp 22) rfl w1.heap.size _ [] rfl (own_empty5 w1) (some ad) [] 0 (by simp [Act.eval]) (txt_nil _ _) (fun h => by cases h) (by simp) (by simp) ?_; intro v1 w2 hown2 hg2; have HB3 := Lib.hid (HB2.out.grown hg2 HB2.out.size (fun k hk => Nat.le_trans hb1.size ((own_empty5 w1).lt k hk).1)); clear hg2)
      have HO := Lib.hid (own_low hown2 hb1.size)
      clear hown2
      go_ret2
      exact ⟨v1, rfl, by rw [EC.out, Nat.sub_self]; simpa using HO.out, HB3.out⟩
    · have hlc := cutL_length (l := l) h1 h2
      have HLC := Lib.hid hlc
      clear hlc
      go_wp2_with (at_builtin; refine wpList_append_txt _ rfl (.tmp 16) (.tmp 22) rfl w1.heap.size _ [] rfl (own_empty5 w1) (some (ad.add p)) (cutL l p q) (c - p) (by rw [HLC.out]; rfl) (HT2.out.cut' p q h1 h2) (fun h => by cases h) (by rw [HLC.out]; simp; omega) (by simp) ?_; intro v1 w2 hown2 hg2; have HB3 := Lib.hid (HB2.out.grown hg2 HB2.out.size (fun k hk => Nat.le_trans hb1.size ((own_empty5 w1).lt k hk).1)); clear hg2)
      rw [List.nil_append, HLC.out] at hown2
      have HO := Lib.hid (own_low hown2 hb1.size)
      clear hown2
      go_ret2
      exact ⟨v1, rfl, HO.out, HB3.out⟩
end Go.Proofs.Ytgploogflhfolaa

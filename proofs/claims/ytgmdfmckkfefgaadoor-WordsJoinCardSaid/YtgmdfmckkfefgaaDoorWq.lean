/- The cursor of layer 7: take, pass, row, skip. Made by mk7b.py. -/
import Derived.Test.YtgmdfmckkfefgaaDoorWn
import Derived.Test.YtgmdfmckkfefgaaDoorSb
namespace Go.Proofs.YtgmdfmckkfefgaaDoor
open Go Go.RowKit
def posOf (w : World) (b : Nat) : Nat := match w.cell? ⟨b, 1, none⟩ with | some v => (intOf v).toNat | none => 0
theorem Rd.pos {w : World} {b : Nat} {s : ByteArray} {k : Nat} (h : Rd w b s k) : posOf w b = k := by
  unfold posOf
  rw [h.cells.2]
  simp [intOf]
theorem Str.drop_all {s : ByteArray} {l : List Nat} (h : Str s l) (k : Nat) : Str (s.extract k s.size) (l.drop k) := by
  have := h.extract k s.size
  rwa [List.take_of_length_le (by rw [List.length_drop, h.size]; omega)] at this
theorem Str.byte {s : ByteArray} {l : List Nat} (h : Str s l) (k : Nat) : ∀ h, (s[k]'h).toNat = l.getD k 0 := fun hk => h.at_ k hk
theorem grown_drawn {a w : World} {r : Option Nat} (h : a.grownBy w r) (n : Nat) : a.grownBy (w.drewN n) r := ⟨h.os, h.tape, h.output, h.size, h.block⟩
set_option maxHeartbeats 1000000 in
theorem take_yes (b k : Nat) (s t : ByteArray) (l m : List Nat) (hs : Str s l) (ht : Str t m) (hl : l.length ≤ 60000) (hm : m.length ≤ 10) (hk : k ≤ l.length) (hp : isPre m (l.drop k) = true) (w : World) (h : Rd w b s k) :
    Calls Tryd.prog 17 #[.pointer (some ⟨b, 0, none⟩), .string t] w fun e w' => e = .returned (.bool true) ∧ w.grownBy w' (some b) ∧ Rd w' b s (k + m.length) := by
  have HP := fun w => hasPre_any (s.extract k s.size) t (l.drop k) m (hs.drop_all k) ht w
  rw [hp] at HP
  have hz := hs.size
  have hy := ht.size
  have HH := Lib.hid h
  obtain ⟨c0, c1⟩ := h.cells
  obtain ⟨x, ex⟩ : ∃ x : Int, x = k := ⟨_, rfl⟩
  have e1 : k = x.toNat := by omega
  rw [e1] at HP
  rw [← ex] at c1
  have PH := Lib.hid HP
  have h0 : 0 ≤ x := by omega
  have h1 : x ≤ s.size := by omega
  have h2 : x ≤ 60000 := by omega
  have h3 : (t.size : Int) ≤ 10 := by omega
  have f1 := Blk.frozen h 1
  have EX := Lib.hid ex
  have EY := Lib.hid hy
  clear h hp hz hy e1 ex hk hm hl hs ht HP
  go_enter Tryd.func17, Tryd.ntmps17
  go_wp2_with fail
  go_quiet ((go_at_call 25; exact (PH.out _).mono fun _ _ ⟨he, hm⟩ => ⟨he, _, hm.symm⟩))
  go_wp2_with fail
  go_ret
  refine ⟨rfl, ?_⟩
  have q := Rd.set (w := w.drewN nq) HH.out (k + m.length) (x + t.size) (by have := EX.out; have := EY.out; omega)
  exact ⟨grown_trans (drawn_grown w nq b) q.2, q.1⟩
theorem take_no (b k : Nat) (s t : ByteArray) (l m : List Nat) (hs : Str s l) (ht : Str t m) (hk : k ≤ l.length) (hp : isPre m (l.drop k) = false) (w : World) (h : Rd w b s k) :
    Calls Tryd.prog 17 #[.pointer (some ⟨b, 0, none⟩), .string t] w fun e w' => e = .returned (.bool false) ∧ ∃ n, w' = w.drewN n := by
  have HP := fun w => hasPre_any (s.extract k s.size) t (l.drop k) m (hs.drop_all k) ht w
  rw [hp] at HP
  have hz := hs.size
  obtain ⟨c0, c1⟩ := h.cells
  obtain ⟨x, ex⟩ : ∃ x : Int, x = k := ⟨_, rfl⟩
  have e1 : k = x.toNat := by omega
  rw [e1] at HP
  rw [← ex] at c1
  have PH := Lib.hid HP
  have h0 : 0 ≤ x := by omega
  have h1 : x ≤ s.size := by omega
  clear h hp hz e1 ex hk hs ht HP
  go_enter Tryd.func17, Tryd.ntmps17
  go_wp2_with fail
  go_quiet ((go_at_call 25; exact (PH.out _).mono fun _ _ ⟨he, hm⟩ => ⟨he, _, hm.symm⟩))
  go_wp2_with fail
  go_ret
  exact ⟨rfl, _, rfl⟩
set_option maxHeartbeats 1000000 in
theorem pass_bln (b k : Nat) (s : ByteArray) (l : List Nat) (hs : Str s l) (hl : l.length ≤ 60000) (hk : k ≤ l.length) (w : World) (h : Rd w b s k) :
    Calls Tryd.prog 15 #[.pointer (some ⟨b, 0, none⟩), .func (.func 16) #[] #[]] w fun e w' => e = .returned (.tuple #[]) ∧ w.grownBy w' (some b) ∧ Rd w' b s (k + lead bln (l.drop k)) := by
  have HZ := Lib.hid hs.size
  have HS := Lib.hid hs
  have HH := Lib.hid h
  clear hs h
  go_enter Tryd.func15, Tryd.ntmps15
  go_wp2_with fail
  go_loopw [] (fun wr => ∃ j : Nat, j ≤ l.length ∧ Rd wr b s j ∧ w.grownBy wr (some b) ∧ j + lead bln (l.drop j) = k + lead bln (l.drop k)) (fun wr => l.length - posOf wr b)
  case atStart => exact ⟨k, hk, HH.out, World.grownBy.refl _ _, rfl⟩
  case round =>
    obtain ⟨j, hj, hR, hg, he⟩ := hrel
    have R := Lib.hid hR
    have G := Lib.hid hg
    have E := Lib.hid he
    obtain ⟨c0, c1⟩ := hR.cells
    have f1 := Blk.frozen hR 1
    clear hR hg he
    by_cases hlt : j < l.length
    · have SA := Lib.hid (sees_bln_at b j (l.getD j 0) s wr R.out (by rw [HZ.out]; exact hlt) (HS.out.byte j))
      have LA := Lib.hid (lead_at (p := bln) hlt)
      obtain ⟨x, ex⟩ : ∃ x, x = bln (l.getD j 0) := ⟨_, rfl⟩
      rw [← ex] at SA LA
      clear ex
      cases x with
      | true =>
        have h2 : (j : Int) ≤ 60000 := by omega
        go_wp2_with (go_at_call 24; refine SA.out.mono ?_; rintro e w1 ⟨rfl, n, rfl⟩)
        go_roundw
        case rel =>
          have q := Rd.set (w := wr.drewN n) R.out (j + 1) (j + 1) (by omega)
          have la := LA.out
          simp only [if_true] at la
          exact ⟨j + 1, by omega, q.1, grown_trans (grown_drawn G.out n) q.2, by have := E.out; omega⟩
        case measure =>
          have q := Rd.set (w := wr.drewN n) R.out (j + 1) (j + 1) (by omega)
          rw [q.1.pos, R.out.pos]; omega
      | false =>
        go_wp2_with (go_at_call 24; refine SA.out.mono ?_; rintro e w1 ⟨rfl, n, rfl⟩)
        go_end0
        have la := LA.out
        simp only [Bool.false_eq_true, if_false] at la
        exact ⟨rfl, grown_drawn G.out n, by have := E.out; rw [← this, la]; exact R.out⟩
    · obtain rfl : j = l.length := by omega
      have SN := Lib.hid (sees_bln_no b s wr (by rw [HZ.out]; exact R.out))
      go_wp2_with (go_at_call 24; refine SN.out.mono ?_; rintro e w1 ⟨rfl, n, rfl⟩)
      go_end0
      exact ⟨rfl, grown_drawn G.out n, by have := E.out; rw [lead_end (Nat.le_refl _)] at this; rw [← this]; exact R.out⟩
set_option maxHeartbeats 1000000 in
theorem pass_dgt (b k : Nat) (s : ByteArray) (l : List Nat) (hs : Str s l) (hl : l.length ≤ 60000) (hk : k ≤ l.length) (w : World) (h : Rd w b s k) :
    Calls Tryd.prog 15 #[.pointer (some ⟨b, 0, none⟩), .func (.func 36) #[] #[]] w fun e w' => e = .returned (.tuple #[]) ∧ w.grownBy w' (some b) ∧ Rd w' b s (k + lead dgt (l.drop k)) := by
  have HZ := Lib.hid hs.size
  have HS := Lib.hid hs
  have HH := Lib.hid h
  clear hs h
  go_enter Tryd.func15, Tryd.ntmps15
  go_wp2_with fail
  go_loopw [] (fun wr => ∃ j : Nat, j ≤ l.length ∧ Rd wr b s j ∧ w.grownBy wr (some b) ∧ j + lead dgt (l.drop j) = k + lead dgt (l.drop k)) (fun wr => l.length - posOf wr b)
  case atStart => exact ⟨k, hk, HH.out, World.grownBy.refl _ _, rfl⟩
  case round =>
    obtain ⟨j, hj, hR, hg, he⟩ := hrel
    have R := Lib.hid hR
    have G := Lib.hid hg
    have E := Lib.hid he
    obtain ⟨c0, c1⟩ := hR.cells
    have f1 := Blk.frozen hR 1
    clear hR hg he
    by_cases hlt : j < l.length
    · have SA := Lib.hid (sees_dgt_at b j (l.getD j 0) s wr R.out (by rw [HZ.out]; exact hlt) (HS.out.byte j))
      have LA := Lib.hid (lead_at (p := dgt) hlt)
      obtain ⟨x, ex⟩ : ∃ x, x = dgt (l.getD j 0) := ⟨_, rfl⟩
      rw [← ex] at SA LA
      clear ex
      cases x with
      | true =>
        have h2 : (j : Int) ≤ 60000 := by omega
        go_wp2_with (go_at_call 24; refine SA.out.mono ?_; rintro e w1 ⟨rfl, n, rfl⟩)
        go_roundw
        case rel =>
          have q := Rd.set (w := wr.drewN n) R.out (j + 1) (j + 1) (by omega)
          have la := LA.out
          simp only [if_true] at la
          exact ⟨j + 1, by omega, q.1, grown_trans (grown_drawn G.out n) q.2, by have := E.out; omega⟩
        case measure =>
          have q := Rd.set (w := wr.drewN n) R.out (j + 1) (j + 1) (by omega)
          rw [q.1.pos, R.out.pos]; omega
      | false =>
        go_wp2_with (go_at_call 24; refine SA.out.mono ?_; rintro e w1 ⟨rfl, n, rfl⟩)
        go_end0
        have la := LA.out
        simp only [Bool.false_eq_true, if_false] at la
        exact ⟨rfl, grown_drawn G.out n, by have := E.out; rw [← this, la]; exact R.out⟩
    · obtain rfl : j = l.length := by omega
      have SN := Lib.hid (sees_dgt_no b s wr (by rw [HZ.out]; exact R.out))
      go_wp2_with (go_at_call 24; refine SN.out.mono ?_; rintro e w1 ⟨rfl, n, rfl⟩)
      go_end0
      exact ⟨rfl, grown_drawn G.out n, by have := E.out; rw [lead_end (Nat.le_refl _)] at this; rw [← this]; exact R.out⟩
set_option maxHeartbeats 1000000 in
theorem pass_inm (b k : Nat) (s : ByteArray) (l : List Nat) (hs : Str s l) (hl : l.length ≤ 60000) (hk : k ≤ l.length) (w : World) (h : Rd w b s k) :
    Calls Tryd.prog 15 #[.pointer (some ⟨b, 0, none⟩), .func (.func 29) #[] #[]] w fun e w' => e = .returned (.tuple #[]) ∧ w.grownBy w' (some b) ∧ Rd w' b s (k + lead inm (l.drop k)) := by
  have HZ := Lib.hid hs.size
  have HS := Lib.hid hs
  have HH := Lib.hid h
  clear hs h
  go_enter Tryd.func15, Tryd.ntmps15
  go_wp2_with fail
  go_loopw [] (fun wr => ∃ j : Nat, j ≤ l.length ∧ Rd wr b s j ∧ w.grownBy wr (some b) ∧ j + lead inm (l.drop j) = k + lead inm (l.drop k)) (fun wr => l.length - posOf wr b)
  case atStart => exact ⟨k, hk, HH.out, World.grownBy.refl _ _, rfl⟩
  case round =>
    obtain ⟨j, hj, hR, hg, he⟩ := hrel
    have R := Lib.hid hR
    have G := Lib.hid hg
    have E := Lib.hid he
    obtain ⟨c0, c1⟩ := hR.cells
    have f1 := Blk.frozen hR 1
    clear hR hg he
    by_cases hlt : j < l.length
    · have SA := Lib.hid (sees_inm_at b j (l.getD j 0) s wr R.out (by rw [HZ.out]; exact hlt) (HS.out.byte j))
      have LA := Lib.hid (lead_at (p := inm) hlt)
      obtain ⟨x, ex⟩ : ∃ x, x = inm (l.getD j 0) := ⟨_, rfl⟩
      rw [← ex] at SA LA
      clear ex
      cases x with
      | true =>
        have h2 : (j : Int) ≤ 60000 := by omega
        go_wp2_with (go_at_call 24; refine SA.out.mono ?_; rintro e w1 ⟨rfl, n, rfl⟩)
        go_roundw
        case rel =>
          have q := Rd.set (w := wr.drewN n) R.out (j + 1) (j + 1) (by omega)
          have la := LA.out
          simp only [if_true] at la
          exact ⟨j + 1, by omega, q.1, grown_trans (grown_drawn G.out n) q.2, by have := E.out; omega⟩
        case measure =>
          have q := Rd.set (w := wr.drewN n) R.out (j + 1) (j + 1) (by omega)
          rw [q.1.pos, R.out.pos]; omega
      | false =>
        go_wp2_with (go_at_call 24; refine SA.out.mono ?_; rintro e w1 ⟨rfl, n, rfl⟩)
        go_end0
        have la := LA.out
        simp only [Bool.false_eq_true, if_false] at la
        exact ⟨rfl, grown_drawn G.out n, by have := E.out; rw [← this, la]; exact R.out⟩
    · obtain rfl : j = l.length := by omega
      have SN := Lib.hid (sees_inm_no b s wr (by rw [HZ.out]; exact R.out))
      go_wp2_with (go_at_call 24; refine SN.out.mono ?_; rintro e w1 ⟨rfl, n, rfl⟩)
      go_end0
      exact ⟨rfl, grown_drawn G.out n, by have := E.out; rw [lead_end (Nat.le_refl _)] at this; rw [← this]; exact R.out⟩
set_option maxHeartbeats 1000000 in
theorem pass_rmk (b k : Nat) (s : ByteArray) (l : List Nat) (hs : Str s l) (hl : l.length ≤ 60000) (hk : k ≤ l.length) (w : World) (h : Rd w b s k) :
    Calls Tryd.prog 15 #[.pointer (some ⟨b, 0, none⟩), .func (.func 18) #[] #[]] w fun e w' => e = .returned (.tuple #[]) ∧ w.grownBy w' (some b) ∧ Rd w' b s (k + lead rmk (l.drop k)) := by
  have HZ := Lib.hid hs.size
  have HS := Lib.hid hs
  have HH := Lib.hid h
  clear hs h
  go_enter Tryd.func15, Tryd.ntmps15
  go_wp2_with fail
  go_loopw [] (fun wr => ∃ j : Nat, j ≤ l.length ∧ Rd wr b s j ∧ w.grownBy wr (some b) ∧ j + lead rmk (l.drop j) = k + lead rmk (l.drop k)) (fun wr => l.length - posOf wr b)
  case atStart => exact ⟨k, hk, HH.out, World.grownBy.refl _ _, rfl⟩
  case round =>
    obtain ⟨j, hj, hR, hg, he⟩ := hrel
    have R := Lib.hid hR
    have G := Lib.hid hg
    have E := Lib.hid he
    obtain ⟨c0, c1⟩ := hR.cells
    have f1 := Blk.frozen hR 1
    clear hR hg he
    by_cases hlt : j < l.length
    · have SA := Lib.hid (sees_rmk_at b j (l.getD j 0) s wr R.out (by rw [HZ.out]; exact hlt) (HS.out.byte j))
      have LA := Lib.hid (lead_at (p := rmk) hlt)
      obtain ⟨x, ex⟩ : ∃ x, x = rmk (l.getD j 0) := ⟨_, rfl⟩
      rw [← ex] at SA LA
      clear ex
      cases x with
      | true =>
        have h2 : (j : Int) ≤ 60000 := by omega
        go_wp2_with (go_at_call 24; refine SA.out.mono ?_; rintro e w1 ⟨rfl, n, rfl⟩)
        go_roundw
        case rel =>
          have q := Rd.set (w := wr.drewN n) R.out (j + 1) (j + 1) (by omega)
          have la := LA.out
          simp only [if_true] at la
          exact ⟨j + 1, by omega, q.1, grown_trans (grown_drawn G.out n) q.2, by have := E.out; omega⟩
        case measure =>
          have q := Rd.set (w := wr.drewN n) R.out (j + 1) (j + 1) (by omega)
          rw [q.1.pos, R.out.pos]; omega
      | false =>
        go_wp2_with (go_at_call 24; refine SA.out.mono ?_; rintro e w1 ⟨rfl, n, rfl⟩)
        go_end0
        have la := LA.out
        simp only [Bool.false_eq_true, if_false] at la
        exact ⟨rfl, grown_drawn G.out n, by have := E.out; rw [← this, la]; exact R.out⟩
    · obtain rfl : j = l.length := by omega
      have SN := Lib.hid (sees_rmk_no b s wr (by rw [HZ.out]; exact R.out))
      go_wp2_with (go_at_call 24; refine SN.out.mono ?_; rintro e w1 ⟨rfl, n, rfl⟩)
      go_end0
      exact ⟨rfl, grown_drawn G.out n, by have := E.out; rw [lead_end (Nat.le_refl _)] at this; rw [← this]; exact R.out⟩
end Go.Proofs.YtgmdfmckkfefgaaDoor

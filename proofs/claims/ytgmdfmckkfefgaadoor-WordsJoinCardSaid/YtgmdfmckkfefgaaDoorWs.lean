/- The cursor of layer 7: row, skip, read; a reader. Made by mk7c.py. -/
import Derived.Test.YtgmdfmckkfefgaaDoorWq
namespace Go.Proofs.YtgmdfmckkfefgaaDoor
open Go Go.RowKit
theorem grown_on {a w w' : World} {r : Option Nat} (h : a.grownBy w r) (hb : Below w.heap.size w w') : a.grownBy w' r :=
  ⟨hb.os.trans h.os, hb.tape.trans h.tape, hb.output.trans h.output, Nat.le_trans h.size hb.size, fun k hk hn => (hb.block k (Nat.lt_of_lt_of_le hk h.size)).trans (h.block k hk hn)⟩
theorem below_is_grown {a b : World} (h : Below a.heap.size a b) (r : Option Nat) : a.grownBy b r := ⟨h.os, h.tape, h.output, h.size, fun i hi _ => h.block i hi⟩
theorem Rd.lt {w : World} {b : Nat} {s : ByteArray} {k : Nat} (h : Rd w b s k) : b < w.heap.size := Blk.lt h
set_option maxHeartbeats 1000000 in
theorem row_dgt (b k : Nat) (s : ByteArray) (l : List Nat) (hs : Str s l) (hl : l.length ≤ 60000) (hk : k ≤ l.length) (w : World) (h : Rd w b s k) :
    Calls Tryd.prog 28 #[.pointer (some ⟨b, 0, none⟩), .func (.func 36) #[] #[]] w fun e w' => e = .returned (.string (s.extract k (k + lead dgt (l.drop k)))) ∧ w.grownBy w' (some b) ∧ Rd w' b s (k + lead dgt (l.drop k)) := by
  have HP := Lib.hid (pass_dgt b k s l hs hl hk w h)
  obtain ⟨c0, c1⟩ := h.cells
  have hz := hs.size
  have hle := lead_le dgt (l.drop k)
  rw [List.length_drop] at hle
  obtain ⟨m, em⟩ : ∃ m, m = k + lead dgt (l.drop k) := ⟨_, rfl⟩
  rw [← em] at HP ⊢
  have hm : k ≤ m := by omega
  have hm2 : m ≤ s.size := by omega
  obtain ⟨x, ex⟩ : ∃ x : Int, x = k := ⟨_, rfl⟩
  obtain ⟨y, ey⟩ : ∃ y : Int, y = m := ⟨_, rfl⟩
  have e1 : k = x.toNat := by omega
  have e2 : m = y.toNat := by omega
  have h0 : 0 ≤ x := by omega
  have h1 : x ≤ y := by omega
  have h2 : y ≤ s.size := by omega
  have CC := Lib.hid (fun W => clone_any (s.extract x.toNat y.toNat) (by rw [ByteArray.size_extract]; omega) W)
  have RV : RowKit.Hid (s.extract k m = s.extract x.toNat y.toNat) := Lib.hid (by rw [← e1, ← e2])
  rw [← ex] at c1
  have EY := Lib.hid ey
  clear hs hl hk h em hle hz hm hm2 e1 e2 ex ey
  go_enter Tryd.func28, Tryd.ntmps28
  go_wp2_with (go_at_call 15; refine HP.out.mono ?_; rintro e w1 ⟨rfl, hg, hr⟩; have G := Lib.hid hg; have RR := Lib.hid hr; clear hg hr)
  have d0 := fun e => Ext.cell (w := w1) (v := .string s) RR.out.cells.1 e
  have d1 := fun e => Ext.cell (w := w1) (v := .int .i64 y) (by rw [EY.out]; exact RR.out.cells.2) e
  refine wp_region_ext (by kernel_rfl) (by kernel_rfl) ?_
  repeat (first | go_big_quiet_step (first | (go_at_call 35; with_reducible exact Calls.ext_of (CC.out _))) | quiet_step (first | (go_at_call 35; with_reducible exact Calls.ext_of (CC.out _))))
  refine wpQuiet_nil ?_
  intro wd hw'
  obtain ⟨⟨wd', hb9⟩, e9⟩ := hw'
  obtain rfl : wd = wd' := e9
  have B9 := Lib.hid hb9
  clear hb9 d0 d1
  go_wp2_with fail
  go_ret
  rw [RV.out]
  exact ⟨rfl, grown_on G.out B9.out, RR.out.below B9.out⟩
set_option maxHeartbeats 1000000 in
theorem row_inm (b k : Nat) (s : ByteArray) (l : List Nat) (hs : Str s l) (hl : l.length ≤ 60000) (hk : k ≤ l.length) (w : World) (h : Rd w b s k) :
    Calls Tryd.prog 28 #[.pointer (some ⟨b, 0, none⟩), .func (.func 29) #[] #[]] w fun e w' => e = .returned (.string (s.extract k (k + lead inm (l.drop k)))) ∧ w.grownBy w' (some b) ∧ Rd w' b s (k + lead inm (l.drop k)) := by
  have HP := Lib.hid (pass_inm b k s l hs hl hk w h)
  obtain ⟨c0, c1⟩ := h.cells
  have hz := hs.size
  have hle := lead_le inm (l.drop k)
  rw [List.length_drop] at hle
  obtain ⟨m, em⟩ : ∃ m, m = k + lead inm (l.drop k) := ⟨_, rfl⟩
  rw [← em] at HP ⊢
  have hm : k ≤ m := by omega
  have hm2 : m ≤ s.size := by omega
  obtain ⟨x, ex⟩ : ∃ x : Int, x = k := ⟨_, rfl⟩
  obtain ⟨y, ey⟩ : ∃ y : Int, y = m := ⟨_, rfl⟩
  have e1 : k = x.toNat := by omega
  have e2 : m = y.toNat := by omega
  have h0 : 0 ≤ x := by omega
  have h1 : x ≤ y := by omega
  have h2 : y ≤ s.size := by omega
  have CC := Lib.hid (fun W => clone_any (s.extract x.toNat y.toNat) (by rw [ByteArray.size_extract]; omega) W)
  have RV : RowKit.Hid (s.extract k m = s.extract x.toNat y.toNat) := Lib.hid (by rw [← e1, ← e2])
  rw [← ex] at c1
  have EY := Lib.hid ey
  clear hs hl hk h em hle hz hm hm2 e1 e2 ex ey
  go_enter Tryd.func28, Tryd.ntmps28
  go_wp2_with (go_at_call 15; refine HP.out.mono ?_; rintro e w1 ⟨rfl, hg, hr⟩; have G := Lib.hid hg; have RR := Lib.hid hr; clear hg hr)
  have d0 := fun e => Ext.cell (w := w1) (v := .string s) RR.out.cells.1 e
  have d1 := fun e => Ext.cell (w := w1) (v := .int .i64 y) (by rw [EY.out]; exact RR.out.cells.2) e
  refine wp_region_ext (by kernel_rfl) (by kernel_rfl) ?_
  repeat (first | go_big_quiet_step (first | (go_at_call 35; with_reducible exact Calls.ext_of (CC.out _))) | quiet_step (first | (go_at_call 35; with_reducible exact Calls.ext_of (CC.out _))))
  refine wpQuiet_nil ?_
  intro wd hw'
  obtain ⟨⟨wd', hb9⟩, e9⟩ := hw'
  obtain rfl : wd = wd' := e9
  have B9 := Lib.hid hb9
  clear hb9 d0 d1
  go_wp2_with fail
  go_ret
  rw [RV.out]
  exact ⟨rfl, grown_on G.out B9.out, RR.out.below B9.out⟩
theorem isPre_hash (l : List Nat) : isPre [35] l = match l with | c :: _ => 35 == c | [] => false := by
  cases l with
  | nil => rfl
  | cons c r => simp [isPre]
set_option maxRecDepth 100000 in
set_option maxHeartbeats 2000000 in
theorem skip_any (b k : Nat) (s : ByteArray) (l : List Nat) (hs : Str s l) (hl : l.length ≤ 60000) (hk : k ≤ l.length) (w : World) (h : Rd w b s k) :
    Calls Tryd.prog 12 #[.pointer (some ⟨b, 0, none⟩)] w fun e w' => e = .returned (.tuple #[]) ∧ w.grownBy w' (some b) ∧ Rd w' b s (k + sk false (l.drop k)) := by
  have PB := Lib.hid (fun j hj W hW => pass_bln b j s l hs hl hj W hW)
  have PR := Lib.hid (fun j hj W hW => pass_rmk b j s l hs hl hj W hW)
  have TY := Lib.hid (fun j hj hp W hW => by have q := take_yes b j s ⟨#[35]⟩ l [35] hs rfl hl (by decide) hj hp W hW; rw [show ([35] : List Nat).length = 1 from rfl] at q; exact q)
  have TN := Lib.hid (fun j hj hp W hW => take_no b j s ⟨#[35]⟩ l [35] hs rfl hj hp W hW)
  have HH := Lib.hid h
  have st := sk_blank (l.drop k)
  rw [List.drop_drop] at st
  have le0 := lead_le bln (l.drop k)
  rw [List.length_drop] at le0
  have ST := Lib.hid st
  have LS := Lib.hid (lead_stop bln (l.drop k))
  clear h st hs hl
  go_enter Tryd.func12, Tryd.ntmps12
  go_wp2_with (go_at_call 15; (with_reducible refine (PB.out k hk w HH.out).mono ?_); rintro e w1 ⟨rfl, hg, hr⟩; have G := Lib.hid hg; have RR := Lib.hid hr; clear hg hr)
  go_loopw [] (fun wr => ∃ j : Nat, j ≤ l.length ∧ Rd wr b s j ∧ w.grownBy wr (some b) ∧ k + sk false (l.drop k) = j + sk false (l.drop j) ∧ ∀ c r, l.drop j = c :: r → bln c = false) (fun wr => l.length - posOf wr b)
  case atStart => exact ⟨k + lead bln (l.drop k), by omega, RR.out, G.out, by have := ST.out; omega, fun c r e => LS.out c r (by rw [List.drop_drop]; exact e)⟩
  case round =>
    obtain ⟨j, hj, hR, hg, he, hb⟩ := hrel
    have R := Lib.hid hR
    have GG := Lib.hid hg
    have E := Lib.hid he
    have HB := Lib.hid hb
    clear hR hg he hb
    cases hp : isPre [35] (l.drop j) with
    | true =>
      have HP := Lib.hid hp
      obtain ⟨r, hr⟩ : ∃ r, l.drop j = 35 :: r := by
        rw [isPre_hash] at hp
        cases hd : l.drop j with
        | nil => rw [hd] at hp; cases hp
        | cons c r => rw [hd] at hp; simp at hp; exact ⟨r, by rw [hp]⟩
      have hjl : j < l.length := by
        apply Nat.lt_of_not_le
        intro hge
        rw [List.drop_of_length_le hge] at hr
        cases hr
      have hr1 : l.drop (j + 1) = r := by rw [← List.drop_drop, hr]; rfl
      have le1 := lead_le rmk (l.drop (j + 1))
      rw [List.length_drop] at le1
      have le2 := lead_le bln (l.drop (j + 1 + lead rmk (l.drop (j + 1))))
      rw [List.length_drop] at le2
      have st := sk_hash r
      have st2 := sk_blank (r.drop (lead rmk r))
      rw [← hr1, List.drop_drop] at st2
      rw [← hr, ← hr1, List.drop_drop] at st
      rw [List.drop_drop] at st2
      have SS := Lib.hid st
      have S2 := Lib.hid st2
      have LS2 := Lib.hid (lead_stop bln (l.drop (j + 1 + lead rmk (l.drop (j + 1)))))
      have hj1 : j + 1 ≤ l.length := hjl
      have hj2 : j + 1 + lead rmk (l.drop (j + 1)) ≤ l.length := by omega
      clear hp hr hr1 st st2
      go_wp2_with (go_at_call 17; refine (TY.out j hj HP.out wr R.out).mono ?_; rintro e w2 ⟨rfl, hg, hr⟩; have G2 := Lib.hid hg; have R2 := Lib.hid hr; clear hg hr)
      go_wp2_with (go_at_call 15; (with_reducible refine (PR.out (j + 1) hj1 w2 R2.out).mono ?_); rintro e w3 ⟨rfl, hg, hr⟩; have G3 := Lib.hid hg; have R3 := Lib.hid hr; clear hg hr)
      go_wp2_with (go_at_call 15; (with_reducible refine (PB.out (j + 1 + lead rmk (l.drop (j + 1))) hj2 w3 R3.out).mono ?_); rintro e w4 ⟨rfl, hg, hr⟩; have G4 := Lib.hid hg; have R4 := Lib.hid hr; clear hg hr)
      go_roundw
      case rel =>
        exact ⟨_, by omega, R4.out, grown_trans (grown_trans (grown_trans GG.out G2.out) G3.out) G4.out, by have := E.out; have := SS.out; have := S2.out; omega, fun c r e => LS2.out c r (by rw [List.drop_drop]; exact e)⟩
      case measure => rw [R4.out.pos, R.out.pos]; omega
    | false =>
      have HP := Lib.hid hp
      have Z : RowKit.Hid (sk false (l.drop j) = 0) := Lib.hid (sk_none (fun c r e => ⟨HB.out c r e, fun e2 => by
        rw [isPre_hash, e, e2] at hp
        simp at hp⟩))
      clear hp
      go_wp2_with (go_at_call 17; refine (TN.out j hj HP.out wr R.out).mono ?_; rintro e w2 ⟨rfl, n, rfl⟩)
      go_end0
      exact ⟨rfl, grown_drawn GG.out n, by rw [E.out, Z.out]; exact R.out⟩
theorem RE_no {p a : Int} {r : List Nat} (h : rd p r = none) : RE p a r = .returned (.tuple #[.int .u8 0, .int .i64 0, .bool false]) := by simp only [RE, h]
theorem RE_yes {p a : Int} {r : List Nat} {x n : Nat} (h : rd p r = some (x, n)) : RE p a r = .returned (.tuple #[.int .u8 x, .int .i64 (a + n), .bool true]) := by simp only [RE, h]
set_option maxHeartbeats 1000000 in
theorem cread_no (b k : Nat) (p : Int) (s : ByteArray) (l : List Nat) (hs : Str s l) (hl : l.length ≤ 60000) (hk : k ≤ l.length) (hr : rd p (l.drop k) = none) (w : World) (h : Rd w b s k) (hT : Tab w) :
    Calls Tryd.prog 31 #[.pointer (some ⟨b, 0, none⟩), .int .i64 p] w fun e w' => e = .returned (.tuple #[.int .u8 0, .bool false]) ∧ Below w.heap.size w w' := by
  have CR := Lib.hid (fun (e : Ext w) => by have := Read_any s l k p hs hl (by omega) e.val (hT.below e.grown); rw [rst_nat, RE_no hr] at this; exact this)
  have d0 := fun e => Ext.cell (w := w) (v := .string s) h.cells.1 e
  have d1 := fun e => Ext.cell (w := w) (v := .int .i64 k) h.cells.2 e
  clear hs hl hr hT h
  go_enter Tryd.func31, Tryd.ntmps31
  go_wp2_with fail
  refine wp_region_ext (by kernel_rfl) (by kernel_rfl) ?_
  repeat (first | go_big_quiet_step (first | (go_at_call 38; with_reducible exact Calls.ext_of (CR.out _))) | quiet_step (first | (go_at_call 38; with_reducible exact Calls.ext_of (CR.out _))))
  refine wpQuiet_nil ?_
  intro wd hw'
  obtain ⟨⟨wd', hb9⟩, e9⟩ := hw'
  obtain rfl : wd = wd' := e9
  have B9 := Lib.hid hb9
  clear hb9 d0 d1
  go_wp2_with fail
  go_ret2
  exact ⟨rfl, B9.out⟩
set_option maxHeartbeats 1000000 in
theorem cread_yes (b k x n : Nat) (p : Int) (s : ByteArray) (l : List Nat) (hs : Str s l) (hl : l.length ≤ 60000) (hk : k ≤ l.length) (hr : rd p (l.drop k) = some (x, n)) (w : World) (h : Rd w b s k) (hT : Tab w) :
    Calls Tryd.prog 31 #[.pointer (some ⟨b, 0, none⟩), .int .i64 p] w fun e w' => e = .returned (.tuple #[.int .u8 x, .bool true]) ∧ w.grownBy w' (some b) ∧ Rd w' b s (k + n) := by
  obtain ⟨y, ey⟩ : ∃ y : Int, y = (k : Int) + n := ⟨_, rfl⟩
  have CR := Lib.hid (fun (e : Ext w) => by have := Read_any s l k p hs hl (by omega) e.val (hT.below e.grown); rw [rst_nat, RE_yes hr, ← ey] at this; exact this)
  have d0 := fun e => Ext.cell (w := w) (v := .string s) h.cells.1 e
  have d1 := fun e => Ext.cell (w := w) (v := .int .i64 k) h.cells.2 e
  have HH := Lib.hid h
  have EY := Lib.hid ey
  clear hs hl hr hT h ey
  go_enter Tryd.func31, Tryd.ntmps31
  go_wp2_with fail
  refine wp_region_ext (by kernel_rfl) (by kernel_rfl) ?_
  repeat (first | go_big_quiet_step (first | (go_at_call 38; with_reducible exact Calls.ext_of (CR.out _))) | quiet_step (first | (go_at_call 38; with_reducible exact Calls.ext_of (CR.out _))))
  refine wpQuiet_nil ?_
  intro wd hw'
  obtain ⟨⟨wd', hb9⟩, e9⟩ := hw'
  obtain rfl : wd = wd' := e9
  have B9 := Lib.hid hb9
  have R9 := Lib.hid (HH.out.below hb9)
  have c1 := R9.out.cells.2
  have f1 := Blk.frozen R9.out 1
  clear hb9 d0 d1
  go_wp2_with fail
  go_ret2
  have q := Rd.set R9.out (k + n) y (by rw [EY.out]; omega)
  exact ⟨rfl, grown_trans (below_is_grown B9.out _) q.2, q.1⟩
theorem readerAt_yes (s : ByteArray) (k : Nat) (hk : k ≤ s.size) (w : World) :
    Calls Tryd.prog 11 #[.string s, .int .i64 k] w fun e w' => ∃ b, e = .returned (.tuple #[.pointer (some ⟨b, 0, none⟩), .bool true]) ∧ w.heap.size ≤ b ∧ Rd w' b s k ∧ Below w.heap.size w w' := by
  have h1 : ¬ (s.size : Int) < k := by omega
  have h2 : ¬ s.size < k := by omega
  go_enter Tryd.func11, Tryd.ntmps11
  go_wp2_with fail
  go_ret2
  exact ⟨_, rfl, Nat.le_refl _, Blk.new _ _ _, B1 _ _⟩
theorem readerAt_no (s : ByteArray) (a : Int) (ha : a < 0 ∨ (s.size : Int) < a) (w : World) :
    Calls Tryd.prog 11 #[.string s, .int .i64 a] w fun e w' => e = .returned (.tuple #[.pointer none, .bool false]) ∧ Below w.heap.size w w' := by
  rcases ha with h | h
  · go_enter Tryd.func11, Tryd.ntmps11
    go_wp2_with fail
    go_ret2
    exact ⟨rfl, Below.refl _ _⟩
  · by_cases h0 : a < 0
    · go_enter Tryd.func11, Tryd.ntmps11
      go_wp2_with fail
      go_ret2
      exact ⟨rfl, Below.refl _ _⟩
    · have h3 : 0 ≤ a := by omega
      go_enter Tryd.func11, Tryd.ntmps11
      go_wp2_with fail
      go_ret2
      exact ⟨rfl, Below.refl _ _⟩
end Go.Proofs.YtgmdfmckkfefgaaDoor

/- The next byte: read. -/
import Derived.Test.YtgmdfmckkfefgaaDoorWk
namespace Go.Proofs.YtgmdfmckkfefgaaDoor
open Go Go.RowKit Go.Maps
set_option maxHeartbeats 400000 in
theorem pass_grown (b n : Nat) (s : ByteArray) (a p : Int) (h0 : 0 ≤ a + n) (h1 : a + n < 9223372036854775808) (w : World) (h : Cur w b s a p) :
    Calls Tryd.prog 58 #[.pointer (some ⟨b, 0, none⟩), .int .i64 n] w fun e w' => e = .returned (.tuple #[]) ∧ w.grownBy w' (some b) ∧ Cur w' b s (a + n) p := by
  obtain ⟨c0, c1, c2⟩ := cur3 h
  have f1 : w.frozen? ⟨b, 1, none⟩ = false := Blk.frozen h 1
  have hw : IntKind.i64.wrap (a + n) = a + n := IntWalk.i64_in _ (by omega)
  have H := Lib.hid h
  clear h
  go_enter Tryd.func58, Tryd.ntmps58
  go_wp2_with fail
  go_end0
  exact ⟨rfl, ⟨rfl, rfl, rfl, by simp, fun i hi hne => heap_setCell_other _ _ _ _ (fun e => hne (by rw [e]))⟩, heap_setCell_same w b 1 _ 88 _ H.out⟩
/-- What is told by a reading, and how the cursor stands behind it. -/
def RdE (p : Int) (r : List Nat) : Ending := match rd p r with
  | some (x, _) => .returned (.tuple #[.int .u8 x, .bool true])
  | none => .returned (.tuple #[.int .u8 0, .bool false])
def RdN (p : Int) (r : List Nat) : Nat := match rd p r with
  | some (_, n) => n
  | none => 0
def fv (f b : Nat) : Value := .func (.func f) #[.pointer (some ⟨b, 0, none⟩)] #[]
theorem grown_bb {a b c : World} {r : Option Nat} (h : Below a.heap.size a b) (h' : b.grownBy c r) : a.grownBy c r :=
  ⟨h'.os.trans h.os, h'.tape.trans h.tape, h'.output.trans h.output, Nat.le_trans h.size h'.size, fun i hi hne => (h'.block i (Nat.lt_of_lt_of_le hi h.size) hne).trans (h.block i hi)⟩
theorem below_grown' {a b : World} {r : Option Nat} (h : Below a.heap.size a b) : a.grownBy b r := ⟨h.os, h.tape, h.output, h.size, fun i hi _ => h.block i hi⟩
theorem i_le_0 (p : Int) (r : List Nat) : (i1 p r).2 ≤ 4 := by
  cases r with
  | nil => simp [i1]
  | cons c r => simp only [i1]; split <;> simp
theorem i_le_1 (_ : Int) (r : List Nat) : (i2 r).2 ≤ 4 := by
  unfold i2
  repeat' split
  all_goals simp
theorem i_le_2 (_ : Int) (r : List Nat) : (i4 r).2 ≤ 4 := by
  unfold i4
  repeat' split
  all_goals simp
set_option maxHeartbeats 4000000 in
theorem read_any (b : Nat) (s : ByteArray) (l : List Nat) (a p : Int) (hs : Str s l) (hl : l.length ≤ 60000) (ha : -9223372036854775808 ≤ a ∧ a < 9223372036854775808) (w : World) (h : Cur w b s a p) (hT : Tab w) :
    Calls Tryd.prog 47 #[.pointer (some ⟨b, 0, none⟩)] w fun e w' => e = RdE p (rst a l) ∧ w.grownBy w' (some b) ∧ Cur w' b s (a + RdN p (rst a l)) p := by
  have hblt := h.lt
  obtain ⟨c0, c1, c2⟩ := cur3 h
  have h3 := rd_three p (rst a l)
  have HR := Lib.hid h3
  have HA := Lib.hid h
  have HT := Lib.hid hT
  have HS := Lib.hid hs
  have HW := Lib.hid ha
  have HL := Lib.hid hl
  clear h3 hT h hs ha hl
  cases hk : kn p with
  | false =>
    have e1 : RdE p (rst a l) = .returned (.tuple #[.int .u8 0, .bool false]) := by unfold RdE; rw [HR.out, if_pos hk]
    have e2 : RdN p (rst a l) = 0 := by unfold RdN; rw [HR.out, if_pos hk]
    rw [e1, e2]
    clear e1 e2
    go_enter Tryd.func47, Tryd.ntmps47
    go_wp2_with (go_at_call 54; refine (known_any p _).mono ?_; rintro e w1 ⟨rfl, rfl⟩)
    go_ret2
    exact ⟨rfl, World.grownBy.refl _ _, by simpa using HA.out⟩
  | true =>
    obtain ⟨E, hE⟩ : ∃ E, E = RdE p (rst a l) := ⟨_, rfl⟩
    obtain ⟨N, hN⟩ : ∃ N, N = RdN p (rst a l) := ⟨_, rfl⟩
    rw [← hE, ← hN]
    unfold RdE at hE
    unfold RdN at hN
    rw [HR.out] at hE hN
    simp only [hk, Bool.true_eq_false, if_false] at hE hN
    have EH := Lib.hid hE
    have NH := Lib.hid hN
    have I1 := Lib.hid (fun w h => itself_any b s l a p HS.out HL.out HW.out w h)
    have I2 := Lib.hid (fun w h => short_any b s l a p HS.out HL.out HW.out w h)
    have I4 := Lib.hid (fun w h hT => digits_any b s l a p HS.out HL.out HW.out w h hT)
    have hlen : (rst a l).length ≤ 60000 := by
      rcases rst_cases a l with ⟨e, _⟩ | ⟨k, _, _, e⟩
      · rw [e]; simp
      · rw [e, List.length_drop]; have := HL.out; omega
    have hpos : rst a l ≠ [] → 0 ≤ a ∧ a ≤ 60000 := fun hne => by
      rcases rst_cases a l with ⟨e, _⟩ | ⟨k, e, hkl, _⟩
      · exact absurd e hne
      · have := HL.out; omega
    have PO := Lib.hid hpos
    generalize rst a l = r at I1 I2 I4 EH NH PO
    clear hE hN hlen hpos HR
    have hmf : ∀ (fn : Fn) (first cap : Array Value) (w : World), (Instr.makeFunc fn first cap).run Tryd.prog w = .ok (.func fn first cap) w := fun _ _ _ _ => rfl
    obtain ⟨w0, ew0⟩ : ∃ w0, w0 = w.alloc (.cells #[fv 55 b, fv 56 b, fv 57 b] 97) := ⟨_, rfl⟩
    have B0 : RowKit.Hid (Blk w0 w.heap.size #[fv 55 b, fv 56 b, fv 57 b] 97) := Lib.hid (by rw [ew0]; exact Blk.new _ _ _)
    have W0 : RowKit.Hid (Below w.heap.size w w0) := Lib.hid (by rw [ew0]; exact B1 _ _)
    go_enter Tryd.func47, Tryd.ntmps47
    go_wp2_with (go_at_call 54; refine (known_any p _).mono ?_; rintro e w1 ⟨rfl, rfl⟩)
    have ew1 := ew0
    simp only [fv] at ew1
    rw [← ew1]
    have HK3 : RowKit.Hid (Below w.heap.size w w0) := W0
    clear ew0 ew1
    have SZ : w.heap.size < w0.heap.size := B0.out.lt
    go_loopw [5, 6, 7, 22] (fun _ _ _ i wr => ∃ k : Nat, k ≤ 3 ∧ i = .int .i64 k ∧ Below w0.heap.size w0 wr ∧ (1 ≤ k → (i1 p r).2 = 0) ∧ (2 ≤ k → (i2 r).2 = 0) ∧ (3 ≤ k → (i4 r).2 = 0)) (fun _ _ _ i _ => 3 - (intOf i).toNat)
    case atStart => exact ⟨0, by omega, rfl, Below.refl _ _, fun h => by omega, fun h => by omega, fun h => by omega⟩
    case round =>
      obtain ⟨k, hk, rfl, hb, z1, z2, z4⟩ := hrel
      have HB := Lib.hid hb
      have WB := Lib.hid (bb W0.out hb)
      have Z1 := Lib.hid z1
      have Z2 := Lib.hid z2
      have Z4 := Lib.hid z4
      clear hb z1 z2 z4

      by_cases hk0 : k = 0
      · subst hk0
        have cc : wr.cell? ⟨w.heap.size, 0, none⟩ = some (.func (.func 55) #[.pointer (some ⟨b, 0, none⟩)] #[]) := by rw [(B0.out.below' HB.out).cell]; rfl
        have CU : Cur wr b s a p := Blk.below HA.out WB.out hblt
        have CUH := Lib.hid CU
        have hi := i_le_0 p r
        have hne : (i1 p r).2 ≠ 0 → r ≠ [] := fun h e => h (by rw [e]; rfl)
        obtain ⟨x, n, en⟩ : ∃ x n, i1 p r = (x, n) := ⟨_, _, rfl⟩
        have CA := Lib.hid (I1.out wr CUH.out)
        rw [en] at CA hi hne
        have EN := Lib.hid en
        have NE := Lib.hid hne
        clear CU en hne
        by_cases hz : n = 0
        · subst hz
          have hd : decide ((0 : Int) < ((0 : Nat) : Int)) = false := by decide
          go_wp2_with (go_at_call 55; refine CA.out.mono ?_; rintro e w2 ⟨rfl, hb2⟩; have HB2 := Lib.hid hb2; clear hb2)
          go_roundw
          case rel => exact ⟨1, by omega, rfl, bb HB.out HB2.out, fun _ => by rw [EN.out], fun h => by omega, fun h => by omega⟩
          case measure => simp [intOf]
        · have hd : (0 : Int) < n := by omega
          have HZ := Lib.hid hz
          have HI := Lib.hid hi
          clear hz hi
          go_wp2_with (go_at_call 55; refine CA.out.mono ?_; rintro e w2 ⟨rfl, hb2⟩; have HB2 := Lib.hid hb2; clear hb2)
          have W2 := Lib.hid (bb WB.out HB2.out)
          go_wp2_with (go_at_call 58; refine (pass_grown b n s a p (by have := PO.out (NE.out HZ.out); omega) (by have := PO.out (NE.out HZ.out); have := HI.out; omega) _ (Blk.below HA.out W2.out hblt)).mono ?_; rintro e w3 ⟨rfl, hb3, hc3⟩; have HB3 := Lib.hid hb3; have HC3 := Lib.hid hc3; clear hb3 hc3)
          go_ret2
          have q := HZ.out
          refine ⟨?_, grown_bb W2.out HB3.out, ?_⟩
          · rw [EH.out]; simp only [EN.out, ne_eq, q, not_false_eq_true, if_true]; rfl
          · rw [NH.out]; simp only [EN.out, ne_eq, q, not_false_eq_true, if_true]; exact HC3.out

      by_cases hk1 : k = 1
      · subst hk1
        have cc : wr.cell? ⟨w.heap.size, 1, none⟩ = some (.func (.func 56) #[.pointer (some ⟨b, 0, none⟩)] #[]) := by rw [(B0.out.below' HB.out).cell]; rfl
        have CU : Cur wr b s a p := Blk.below HA.out WB.out hblt
        have CUH := Lib.hid CU
        have hi := i_le_1 p r
        have hne : (i2 r).2 ≠ 0 → r ≠ [] := fun h e => h (by rw [e]; rfl)
        obtain ⟨x, n, en⟩ : ∃ x n, i2 r = (x, n) := ⟨_, _, rfl⟩
        have CA := Lib.hid (I2.out wr CUH.out)
        rw [en] at CA hi hne
        have EN := Lib.hid en
        have NE := Lib.hid hne
        clear CU en hne
        by_cases hz : n = 0
        · subst hz
          have hd : decide ((0 : Int) < ((0 : Nat) : Int)) = false := by decide
          go_wp2_with (go_at_call 56; refine CA.out.mono ?_; rintro e w2 ⟨rfl, hb2⟩; have HB2 := Lib.hid hb2; clear hb2)
          go_roundw
          case rel => exact ⟨2, by omega, rfl, bb HB.out HB2.out, fun _ => Z1.out (by omega), fun _ => by rw [EN.out], fun h => by omega⟩
          case measure => simp [intOf]
        · have hd : (0 : Int) < n := by omega
          have HZ := Lib.hid hz
          have HI := Lib.hid hi
          clear hz hi
          go_wp2_with (go_at_call 56; refine CA.out.mono ?_; rintro e w2 ⟨rfl, hb2⟩; have HB2 := Lib.hid hb2; clear hb2)
          have W2 := Lib.hid (bb WB.out HB2.out)
          go_wp2_with (go_at_call 58; refine (pass_grown b n s a p (by have := PO.out (NE.out HZ.out); omega) (by have := PO.out (NE.out HZ.out); have := HI.out; omega) _ (Blk.below HA.out W2.out hblt)).mono ?_; rintro e w3 ⟨rfl, hb3, hc3⟩; have HB3 := Lib.hid hb3; have HC3 := Lib.hid hc3; clear hb3 hc3)
          go_ret2
          have q := HZ.out
          refine ⟨?_, grown_bb W2.out HB3.out, ?_⟩
          · rw [EH.out]; simp only [Z1.out (by omega), EN.out, ne_eq, q, not_true_eq_false, not_false_eq_true, if_true, if_false]; rfl
          · rw [NH.out]; simp only [Z1.out (by omega), EN.out, ne_eq, q, not_true_eq_false, not_false_eq_true, if_true, if_false]; exact HC3.out

      by_cases hk2 : k = 2
      · subst hk2
        have cc : wr.cell? ⟨w.heap.size, 2, none⟩ = some (.func (.func 57) #[.pointer (some ⟨b, 0, none⟩)] #[]) := by rw [(B0.out.below' HB.out).cell]; rfl
        have CU : Cur wr b s a p := Blk.below HA.out WB.out hblt
        have CUH := Lib.hid CU
        have hi := i_le_2 p r
        have hne : (i4 r).2 ≠ 0 → r ≠ [] := fun h e => h (by rw [e]; rfl)
        obtain ⟨x, n, en⟩ : ∃ x n, i4 r = (x, n) := ⟨_, _, rfl⟩
        have CA := Lib.hid (I4.out wr CUH.out (HT.out.below WB.out))
        rw [en] at CA hi hne
        have EN := Lib.hid en
        have NE := Lib.hid hne
        clear CU en hne
        by_cases hz : n = 0
        · subst hz
          have hd : decide ((0 : Int) < ((0 : Nat) : Int)) = false := by decide
          go_wp2_with (go_at_call 57; refine CA.out.mono ?_; rintro e w2 ⟨rfl, hb2⟩; have HB2 := Lib.hid hb2; clear hb2)
          go_roundw
          case rel => exact ⟨3, by omega, rfl, bb HB.out HB2.out, fun _ => Z1.out (by omega), fun _ => Z2.out (by omega), fun _ => by rw [EN.out]⟩
          case measure => simp [intOf]
        · have hd : (0 : Int) < n := by omega
          have HZ := Lib.hid hz
          have HI := Lib.hid hi
          clear hz hi
          go_wp2_with (go_at_call 57; refine CA.out.mono ?_; rintro e w2 ⟨rfl, hb2⟩; have HB2 := Lib.hid hb2; clear hb2)
          have W2 := Lib.hid (bb WB.out HB2.out)
          go_wp2_with (go_at_call 58; refine (pass_grown b n s a p (by have := PO.out (NE.out HZ.out); omega) (by have := PO.out (NE.out HZ.out); have := HI.out; omega) _ (Blk.below HA.out W2.out hblt)).mono ?_; rintro e w3 ⟨rfl, hb3, hc3⟩; have HB3 := Lib.hid hb3; have HC3 := Lib.hid hc3; clear hb3 hc3)
          go_ret2
          have q := HZ.out
          refine ⟨?_, grown_bb W2.out HB3.out, ?_⟩
          · rw [EH.out]; simp only [Z1.out (by omega), Z2.out (by omega), EN.out, ne_eq, q, not_true_eq_false, not_false_eq_true, if_true, if_false]; rfl
          · rw [NH.out]; simp only [Z1.out (by omega), Z2.out (by omega), EN.out, ne_eq, q, not_true_eq_false, not_false_eq_true, if_true, if_false]; exact HC3.out

      obtain rfl : k = 3 := by omega
      have EE : RowKit.Hid (E = .returned (.tuple #[.int .u8 0, .bool false]) ∧ N = 0) := Lib.hid (by
        rw [EH.out, NH.out]
        simp only [Z1.out (by omega), Z2.out (by omega), Z4.out (by omega), ne_eq, not_true_eq_false, if_false]
        first
          | exact ⟨rfl, trivial⟩
          | exact ⟨trivial, rfl⟩
          | exact ⟨trivial, trivial⟩)
      clear hk hk0 hk1 hk2
      go_wp2_with fail
      go_ret2
      obtain ⟨rfl, rfl⟩ := EE.out
      have CU : Cur wr b s a p := Blk.below HA.out WB.out hblt
      exact ⟨rfl, below_grown' WB.out, by simpa using CU⟩
end Go.Proofs.YtgmdfmckkfefgaaDoor

/- What a backslash, x and two digits stand for: digits. -/
import Derived.Test.YtfghfnpiaccfaaaGreatDoorG2
import Derived.Test.YtfghfnpiaccfaaaGreatDoorG1
import Derived.Test.YtfghfnpiaccfaaaGreatDoorH0
set_option linter.unusedSimpArgs false
set_option linter.unusedVariables false
namespace Go.Proofs.YtfghfnpiaccfaaaGreatDoor
open Go Go.RowKit Go.Maps
theorem i4_cons (c k x y : Nat) (r : List Nat) : i4 (c :: k :: x :: y :: r) = if c = 92 ∧ k = 120 then (match dg x, dg y with | some a, some b => (16 * a + b, 4) | _, _ => (0, 0)) else (0, 0) := rfl
theorem ext2 {t : ByteArray} {c k x y : Nat} (ht : Str t [c, k, x, y]) : t.extract 2 4 = bsv [x, y] := by
  have h := ht.extract 2 4
  simp only [List.drop_succ_cons, List.drop_zero, Nat.reduceSub, List.take_succ_cons, List.take_zero] at h
  exact h.eq
theorem ext0 {t : ByteArray} {c k x y : Nat} (ht : Str t [c, k, x, y]) : (t.extract 0 2).toList = [UInt8.ofNat c, UInt8.ofNat k] := by
  have h := ht.extract 0 2
  simp only [List.drop_zero, Nat.reduceSub, List.take_succ_cons, List.take_zero] at h
  exact h.list
theorem u8_ne {a b : Nat} (ha : a < 256) (hb : b < 256) (h : a ≠ b) : UInt8.ofNat a ≠ UInt8.ofNat b := by
  intro e
  have := congrArg UInt8.toNat e
  simp only [UInt8.toNat_ofNat'] at this
  rw [Nat.mod_eq_of_lt ha, Nat.mod_eq_of_lt hb] at this
  exact h this
set_option maxHeartbeats 2000000 in
theorem digits_any (b : Nat) (s : ByteArray) (l : List Nat) (a p : Int) (hs : Str s l) (hl : l.length ≤ 60000) (ha : -9223372036854775808 ≤ a ∧ a < 9223372036854775808) (w : World) (h : Cur w b s a p) (hT : Tab w) :
    Calls Tryz.prog 298 #[.pointer (some ⟨b, 0, none⟩)] w fun e w' => e = .returned (.tuple #[.int .u8 (i4 (rst a l)).1, .int .i64 (i4 (rst a l)).2]) ∧ Below w.heap.size w w' := by
  obtain ⟨c0, c1, c2⟩ := cur3 h
  have K := ahead_any b 4 s l a p hs hl ha (by omega) (by omega) w h
  generalize rst a l = r at K
  have TH := Lib.hid hT
  clear h hs hl ha hT
  rcases K with ⟨h1, K⟩ | ⟨h1, t, ht, K⟩
  · have : i4 r = (0, 0) := by
      match r, h1 with
      | [], _ => rfl
      | [_], _ => rfl
      | [_, _], _ => rfl
      | [_, _, _], _ => rfl
      | _ :: _ :: _ :: _ :: _, h => simp at h; omega
    rw [this]
    have K := Lib.hid K
    clear h1 this
    go_enter Tryz.func298, Tryz.ntmps298
    go_wp2_with (go_at_call 303; refine K.out.mono ?_; rintro e w1 ⟨rfl, n, rfl⟩)
    go_ret2
    exact ⟨rfl, below_drewN _ _⟩
  · match r, h1, ht with
    | c :: k :: x :: y :: r, _, ht =>
      have ht : Str t [c, k, x, y] := ht
      have hz : t.size = 4 := ht.size
      have hc : c < 256 := ht.lt c (by simp)
      have hk : k < 256 := ht.lt k (by simp)
      have hx : x < 256 := ht.lt x (by simp)
      have hy : y < 256 := ht.lt y (by simp)
      have e2 := ext2 ht
      have e0 := ext0 ht
      have K := Lib.hid K
      rw [i4_cons]
      by_cases hck : c = 92 ∧ k = 120
      · rw [if_pos hck]
        have hq : ((t.extract 0 2).toList == [92, 120]) = true := by rw [e0, hck.1, hck.2]; rfl
        clear e0 hck hc hk ht
        by_cases hd : dg x = none ∨ dg y = none
        · have : (match dg x, dg y with | some a, some b => (16 * a + b, 4) | _, _ => (0, 0)) = (0, 0) := by
            rcases hd with hd | hd
            · simp only [hd]
            · cases dg x <;> simp [hd]
          rw [this]
          have P := Lib.hid (fun w hT => parse_none x y hx hy hd w hT)
          clear this hd hx hy
          generalize bsv [x, y] = S at e2 P
          go_enter Tryz.func298, Tryz.ntmps298
          go_wp2_with (go_at_call 303; refine K.out.mono ?_; rintro e w1 ⟨rfl, n, rfl⟩)
          go_wp2_with (go_at_call 305; refine (P.out _ TH.out.drewN).mono ?_; rintro e w2 ⟨N, rfl, hb2⟩; have HB2 := Lib.hid hb2; clear hb2)
          go_ret2
          exact ⟨rfl, ⟨HB2.out.os, HB2.out.tape, HB2.out.output, HB2.out.size, HB2.out.block⟩⟩
        · obtain ⟨u, hu⟩ : ∃ u, dg x = some u := by cases h : dg x with | none => exact absurd (.inl h) hd | some u => exact ⟨u, rfl⟩
          obtain ⟨v, hv⟩ : ∃ v, dg y = some v := by cases h : dg y with | none => exact absurd (.inr h) hd | some v => exact ⟨v, rfl⟩
          have : (match dg x, dg y with | some a, some b => (16 * a + b, 4) | _, _ => (0, 0)) = (16 * u + v, 4) := by simp only [hu, hv]
          rw [this]
          have P := Lib.hid (fun w => parse_some x y u v hx hy hu hv w)
          have h1 := dg_lt hu
          have h2 := dg_lt hv
          obtain ⟨z, ez⟩ : ∃ z : Int, z = (16 * u + v : Nat) := ⟨_, rfl⟩
          have hw : IntKind.u8.wrap z = z := u8_in (by omega)
          simp only [← ez] at P ⊢
          clear this hd hx hy hu hv h1 h2 ez
          generalize bsv [x, y] = S at e2 P
          go_enter Tryz.func298, Tryz.ntmps298
          go_wp2_with (go_at_call 303; refine K.out.mono ?_; rintro e w1 ⟨rfl, n, rfl⟩)
          go_wp2_with (go_at_call 305; refine (P.out _).mono ?_; rintro e w2 ⟨rfl, hb2⟩; have HB2 := Lib.hid hb2; clear hb2)
          go_ret2
          exact ⟨rfl, ⟨HB2.out.os, HB2.out.tape, HB2.out.output, HB2.out.size, HB2.out.block⟩⟩
      · rw [if_neg hck]
        have hq : ((t.extract 0 2).toList == [92, 120]) = false := by
          rw [e0]
          simp only [beq_eq_false_iff_ne, ne_eq, List.cons.injEq, and_true, not_and]
          intro h h2
          exact hck ⟨Classical.byContradiction fun hn => u8_ne hc (by omega) hn h, Classical.byContradiction fun hn => u8_ne hk (by omega) hn h2⟩
        clear e0 hck hc hk ht hx hy e2
        go_enter Tryz.func298, Tryz.ntmps298
        go_wp2_with (go_at_call 303; refine K.out.mono ?_; rintro e w1 ⟨rfl, n, rfl⟩)
        go_ret2
        exact ⟨rfl, below_drewN _ _⟩
end Go.Proofs.YtfghfnpiaccfaaaGreatDoor
namespace Go.Proofs.YtfghfnpiaccfaaaGreatDoor
open Go Go.RowKit Go.Maps
set_option maxHeartbeats 400000 in
theorem pass_grown (b n : Nat) (s : ByteArray) (a p : Int) (h0 : 0 ≤ a + n) (h1 : a + n < 9223372036854775808) (w : World) (h : Cur w b s a p) :
    Calls Tryz.prog 299 #[.pointer (some ⟨b, 0, none⟩), .int .i64 n] w fun e w' => e = .returned (.tuple #[]) ∧ w.grownBy w' (some b) ∧ Cur w' b s (a + n) p := by
  obtain ⟨c0, c1, c2⟩ := cur3 h
  have f1 : w.frozen? ⟨b, 1, none⟩ = false := Blk.frozen h 1
  have hw : IntKind.i64.wrap (a + n) = a + n := IntWalk.i64_in _ (by omega)
  have H := Lib.hid h
  clear h
  go_enter Tryz.func299, Tryz.ntmps299
  go_wp2_with fail
  go_end0
  exact ⟨rfl, ⟨rfl, rfl, rfl, by simp, fun i hi hne => heap_setCell_other _ _ _ _ (fun e => hne (by rw [e]))⟩, heap_setCell_same w b 1 _ 338 _ H.out⟩
/-- What is told by a reading, and how the cursor stands behind it. -/
def RdE (p : Int) (r : List Nat) : Ending := match rd p r with
  | some (x, _) => .returned (.tuple #[.int .u8 x, .bool true])
  | none => .returned (.tuple #[.int .u8 0, .bool false])
def RdN (p : Int) (r : List Nat) : Nat := match rd p r with
  | some (_, n) => n
  | none => 0
def fv (f b : Nat) : Value := .func (.func f) #[.pointer (some ⟨b, 0, none⟩)] #[]
theorem grown_bb {a b c : World} {r : Option Nat} (h : Below a.heap.size a b) (h' : b.grownBy c r) : a.grownBy c r :=
  ⟨h'.os.trans h.os, h'.tape.trans h.tape, h'.output.trans h.output, Nat.le_trans h.size h'.size, fun i hi hne => (h'.block i (Nat.lt_of_lt_of_le hi h.size) hne).trans (h.block i hi)⟩
theorem below_grown' {a b : World} {r : Option Nat} (h : Below a.heap.size a b) : a.grownBy b r := ⟨h.os, h.tape, h.output, h.size, fun i hi _ => h.block i hi⟩
theorem i_le_0 (p : Int) (r : List Nat) : (i1 p r).2 ≤ 4 := by
  cases r with
  | nil => simp [i1]
  | cons c r => simp only [i1]; split <;> simp
theorem i_le_1 (_ : Int) (r : List Nat) : (i2 r).2 ≤ 4 := by
  unfold i2
  repeat' split
  all_goals simp
theorem i_le_2 (_ : Int) (r : List Nat) : (i4 r).2 ≤ 4 := by
  unfold i4
  repeat' split
  all_goals simp
set_option maxHeartbeats 4000000 in
theorem read_any (b : Nat) (s : ByteArray) (l : List Nat) (a p : Int) (hs : Str s l) (hl : l.length ≤ 60000) (ha : -9223372036854775808 ≤ a ∧ a < 9223372036854775808) (w : World) (h : Cur w b s a p) (hT : Tab w) :
    Calls Tryz.prog 278 #[.pointer (some ⟨b, 0, none⟩)] w fun e w' => e = RdE p (rst a l) ∧ w.grownBy w' (some b) ∧ Cur w' b s (a + RdN p (rst a l)) p := by
  have hblt := h.lt
  obtain ⟨c0, c1, c2⟩ := cur3 h
  have h3 := rd_three p (rst a l)
  have HR := Lib.hid h3
  have HA := Lib.hid h
  have HT := Lib.hid hT
  have HS := Lib.hid hs
  have HW := Lib.hid ha
  have HL := Lib.hid hl
  clear h3 hT h hs ha hl
  cases hk : kn p with
  | false =>
    have e1 : RdE p (rst a l) = .returned (.tuple #[.int .u8 0, .bool false]) := by unfold RdE; rw [HR.out, if_pos hk]
    have e2 : RdN p (rst a l) = 0 := by unfold RdN; rw [HR.out, if_pos hk]
    rw [e1, e2]
    clear e1 e2
    go_enter Tryz.func278, Tryz.ntmps278
    go_wp2_with (go_at_call 254; refine (known_any p _).mono ?_; rintro e w1 ⟨rfl, rfl⟩)
    go_ret2
    exact ⟨rfl, World.grownBy.refl _ _, by simpa using HA.out⟩
  | true =>
    obtain ⟨E, hE⟩ : ∃ E, E = RdE p (rst a l) := ⟨_, rfl⟩
    obtain ⟨N, hN⟩ : ∃ N, N = RdN p (rst a l) := ⟨_, rfl⟩
    rw [← hE, ← hN]
    unfold RdE at hE
    unfold RdN at hN
    rw [HR.out] at hE hN
    simp only [hk, Bool.true_eq_false, if_false] at hE hN
    have EH := Lib.hid hE
    have NH := Lib.hid hN
    have I1 := Lib.hid (fun w h => itself_any b s l a p HS.out HL.out HW.out w h)
    have I2 := Lib.hid (fun w h => short_any b s l a p HS.out HL.out HW.out w h)
    have I4 := Lib.hid (fun w h hT => digits_any b s l a p HS.out HL.out HW.out w h hT)
    have hlen : (rst a l).length ≤ 60000 := by
      rcases rst_cases a l with ⟨e, _⟩ | ⟨k, _, _, e⟩
      · rw [e]; simp
      · rw [e, List.length_drop]; have := HL.out; omega
    have hpos : rst a l ≠ [] → 0 ≤ a ∧ a ≤ 60000 := fun hne => by
      rcases rst_cases a l with ⟨e, _⟩ | ⟨k, e, hkl, _⟩
      · exact absurd e hne
      · have := HL.out; omega
    have PO := Lib.hid hpos
    generalize rst a l = r at I1 I2 I4 EH NH PO
    clear hE hN hlen hpos HR
    have hmf : ∀ (fn : Fn) (first cap : Array Value) (w : World), (Instr.makeFunc fn first cap).run Tryz.prog w = .ok (.func fn first cap) w := fun _ _ _ _ => rfl
    obtain ⟨w0, ew0⟩ : ∃ w0, w0 = w.alloc (.cells #[fv 296 b, fv 297 b, fv 298 b] 351) := ⟨_, rfl⟩
    have B0 : RowKit.Hid (Blk w0 w.heap.size #[fv 296 b, fv 297 b, fv 298 b] 351) := Lib.hid (by rw [ew0]; exact Blk.new _ _ _)
    have W0 : RowKit.Hid (Below w.heap.size w w0) := Lib.hid (by rw [ew0]; exact B1 _ _)
    go_enter Tryz.func278, Tryz.ntmps278
    go_wp2_with (go_at_call 254; refine (known_any p _).mono ?_; rintro e w1 ⟨rfl, rfl⟩)
    have ew1 := ew0
    simp only [fv] at ew1
    rw [← ew1]
    have HK3 : RowKit.Hid (Below w.heap.size w w0) := W0
    clear ew0 ew1
    have SZ : w.heap.size < w0.heap.size := B0.out.lt
    go_loopw [5, 6, 7, 22] (fun _ _ _ i wr => ∃ k : Nat, k ≤ 3 ∧ i = .int .i64 k ∧ Below w0.heap.size w0 wr ∧ (1 ≤ k → (i1 p r).2 = 0) ∧ (2 ≤ k → (i2 r).2 = 0) ∧ (3 ≤ k → (i4 r).2 = 0)) (fun _ _ _ i _ => 3 - (intOf i).toNat)
    case atStart => exact ⟨0, by omega, rfl, Below.refl _ _, fun h => by omega, fun h => by omega, fun h => by omega⟩
    case round =>
      obtain ⟨k, hk, rfl, hb, z1, z2, z4⟩ := hrel
      have HB := Lib.hid hb
      have WB := Lib.hid (bb W0.out hb)
      have Z1 := Lib.hid z1
      have Z2 := Lib.hid z2
      have Z4 := Lib.hid z4
      clear hb z1 z2 z4

      by_cases hk0 : k = 0
      · subst hk0
        have cc : wr.cell? ⟨w.heap.size, 0, none⟩ = some (.func (.func 296) #[.pointer (some ⟨b, 0, none⟩)] #[]) := by rw [(B0.out.below' HB.out).cell]; rfl
        have CU : Cur wr b s a p := Blk.below HA.out WB.out hblt
        have CUH := Lib.hid CU
        have hi := i_le_0 p r
        have hne : (i1 p r).2 ≠ 0 → r ≠ [] := fun h e => h (by rw [e]; rfl)
        obtain ⟨x, n, en⟩ : ∃ x n, i1 p r = (x, n) := ⟨_, _, rfl⟩
        have CA := Lib.hid (I1.out wr CUH.out)
        rw [en] at CA hi hne
        have EN := Lib.hid en
        have NE := Lib.hid hne
        clear CU en hne
        by_cases hz : n = 0
        · subst hz
          have hd : decide ((0 : Int) < ((0 : Nat) : Int)) = false := by decide
          go_wp2_with (go_at_call 296; refine CA.out.mono ?_; rintro e w2 ⟨rfl, hb2⟩; have HB2 := Lib.hid hb2; clear hb2)
          go_roundw
          case rel => exact ⟨1, by omega, rfl, bb HB.out HB2.out, fun _ => by rw [EN.out], fun h => by omega, fun h => by omega⟩
          case measure => simp [intOf]
        · have hd : (0 : Int) < n := by omega
          have HZ := Lib.hid hz
          have HI := Lib.hid hi
          clear hz hi
          go_wp2_with (go_at_call 296; refine CA.out.mono ?_; rintro e w2 ⟨rfl, hb2⟩; have HB2 := Lib.hid hb2; clear hb2)
          have W2 := Lib.hid (bb WB.out HB2.out)
          go_wp2_with (go_at_call 299; refine (pass_grown b n s a p (by have := PO.out (NE.out HZ.out); omega) (by have := PO.out (NE.out HZ.out); have := HI.out; omega) _ (Blk.below HA.out W2.out hblt)).mono ?_; rintro e w3 ⟨rfl, hb3, hc3⟩; have HB3 := Lib.hid hb3; have HC3 := Lib.hid hc3; clear hb3 hc3)
          go_ret2
          have q := HZ.out
          refine ⟨?_, grown_bb W2.out HB3.out, ?_⟩
          · rw [EH.out]; simp only [EN.out, ne_eq, q, not_false_eq_true, if_true]; rfl
          · rw [NH.out]; simp only [EN.out, ne_eq, q, not_false_eq_true, if_true]; exact HC3.out

      by_cases hk1 : k = 1
      · subst hk1
        have cc : wr.cell? ⟨w.heap.size, 1, none⟩ = some (.func (.func 297) #[.pointer (some ⟨b, 0, none⟩)] #[]) := by rw [(B0.out.below' HB.out).cell]; rfl
        have CU : Cur wr b s a p := Blk.below HA.out WB.out hblt
        have CUH := Lib.hid CU
        have hi := i_le_1 p r
        have hne : (i2 r).2 ≠ 0 → r ≠ [] := fun h e => h (by rw [e]; rfl)
        obtain ⟨x, n, en⟩ : ∃ x n, i2 r = (x, n) := ⟨_, _, rfl⟩
        have CA := Lib.hid (I2.out wr CUH.out)
        rw [en] at CA hi hne
        have EN := Lib.hid en
        have NE := Lib.hid hne
        clear CU en hne
        by_cases hz : n = 0
        · subst hz
          have hd : decide ((0 : Int) < ((0 : Nat) : Int)) = false := by decide
          go_wp2_with (go_at_call 297; refine CA.out.mono ?_; rintro e w2 ⟨rfl, hb2⟩; have HB2 := Lib.hid hb2; clear hb2)
          go_roundw
          case rel => exact ⟨2, by omega, rfl, bb HB.out HB2.out, fun _ => Z1.out (by omega), fun _ => by rw [EN.out], fun h => by omega⟩
          case measure => simp [intOf]
        · have hd : (0 : Int) < n := by omega
          have HZ := Lib.hid hz
          have HI := Lib.hid hi
          clear hz hi
          go_wp2_with (go_at_call 297; refine CA.out.mono ?_; rintro e w2 ⟨rfl, hb2⟩; have HB2 := Lib.hid hb2; clear hb2)
          have W2 := Lib.hid (bb WB.out HB2.out)
          go_wp2_with (go_at_call 299; refine (pass_grown b n s a p (by have := PO.out (NE.out HZ.out); omega) (by have := PO.out (NE.out HZ.out); have := HI.out; omega) _ (Blk.below HA.out W2.out hblt)).mono ?_; rintro e w3 ⟨rfl, hb3, hc3⟩; have HB3 := Lib.hid hb3; have HC3 := Lib.hid hc3; clear hb3 hc3)
          go_ret2
          have q := HZ.out
          refine ⟨?_, grown_bb W2.out HB3.out, ?_⟩
          · rw [EH.out]; simp only [Z1.out (by omega), EN.out, ne_eq, q, not_true_eq_false, not_false_eq_true, if_true, if_false]; rfl
          · rw [NH.out]; simp only [Z1.out (by omega), EN.out, ne_eq, q, not_true_eq_false, not_false_eq_true, if_true, if_false]; exact HC3.out

      by_cases hk2 : k = 2
      · subst hk2
        have cc : wr.cell? ⟨w.heap.size, 2, none⟩ = some (.func (.func 298) #[.pointer (some ⟨b, 0, none⟩)] #[]) := by rw [(B0.out.below' HB.out).cell]; rfl
        have CU : Cur wr b s a p := Blk.below HA.out WB.out hblt
        have CUH := Lib.hid CU
        have hi := i_le_2 p r
        have hne : (i4 r).2 ≠ 0 → r ≠ [] := fun h e => h (by rw [e]; rfl)
        obtain ⟨x, n, en⟩ : ∃ x n, i4 r = (x, n) := ⟨_, _, rfl⟩
        have CA := Lib.hid (I4.out wr CUH.out (HT.out.below WB.out))
        rw [en] at CA hi hne
        have EN := Lib.hid en
        have NE := Lib.hid hne
        clear CU en hne
        by_cases hz : n = 0
        · subst hz
          have hd : decide ((0 : Int) < ((0 : Nat) : Int)) = false := by decide
          go_wp2_with (go_at_call 298; refine CA.out.mono ?_; rintro e w2 ⟨rfl, hb2⟩; have HB2 := Lib.hid hb2; clear hb2)
          go_roundw
          case rel => exact ⟨3, by omega, rfl, bb HB.out HB2.out, fun _ => Z1.out (by omega), fun _ => Z2.out (by omega), fun _ => by rw [EN.out]⟩
          case measure => simp [intOf]
        · have hd : (0 : Int) < n := by omega
          have HZ := Lib.hid hz
          have HI := Lib.hid hi
          clear hz hi
          go_wp2_with (go_at_call 298; refine CA.out.mono ?_; rintro e w2 ⟨rfl, hb2⟩; have HB2 := Lib.hid hb2; clear hb2)
          have W2 := Lib.hid (bb WB.out HB2.out)
          go_wp2_with (go_at_call 299; refine (pass_grown b n s a p (by have := PO.out (NE.out HZ.out); omega) (by have := PO.out (NE.out HZ.out); have := HI.out; omega) _ (Blk.below HA.out W2.out hblt)).mono ?_; rintro e w3 ⟨rfl, hb3, hc3⟩; have HB3 := Lib.hid hb3; have HC3 := Lib.hid hc3; clear hb3 hc3)
          go_ret2
          have q := HZ.out
          refine ⟨?_, grown_bb W2.out HB3.out, ?_⟩
          · rw [EH.out]; simp only [Z1.out (by omega), Z2.out (by omega), EN.out, ne_eq, q, not_true_eq_false, not_false_eq_true, if_true, if_false]; rfl
          · rw [NH.out]; simp only [Z1.out (by omega), Z2.out (by omega), EN.out, ne_eq, q, not_true_eq_false, not_false_eq_true, if_true, if_false]; exact HC3.out

      obtain rfl : k = 3 := by omega
      have EE : RowKit.Hid (E = .returned (.tuple #[.int .u8 0, .bool false]) ∧ N = 0) := Lib.hid (by
        rw [EH.out, NH.out]
        simp only [Z1.out (by omega), Z2.out (by omega), Z4.out (by omega), ne_eq, not_true_eq_false, if_false]
        first
          | exact ⟨rfl, trivial⟩
          | exact ⟨trivial, rfl⟩
          | exact ⟨trivial, trivial⟩)
      clear hk hk0 hk1 hk2
      go_wp2_with fail
      go_ret2
      obtain ⟨rfl, rfl⟩ := EE.out
      have CU : Cur wr b s a p := Blk.below HA.out WB.out hblt
      exact ⟨rfl, below_grown' WB.out, by simpa using CU⟩
end Go.Proofs.YtfghfnpiaccfaaaGreatDoor
namespace Go.Proofs.YtfghfnpiaccfaaaGreatDoor
open Go Go.RowKit Go.Maps
/-- What Read tells. -/
def RE (p a : Int) (r : List Nat) : Ending := match rd p r with
  | some (x, n) => .returned (.tuple #[.int .u8 x, .int .i64 (a + n), .bool true])
  | none => .returned (.tuple #[.int .u8 0, .int .i64 0, .bool false])
theorem grown_below {B : Nat} {a b c : World} {r : Nat} (h : Below B a b) (h' : b.grownBy c (some r)) (hB : B ≤ b.heap.size) (hr : B ≤ r) : Below B a c :=
  h.grown h' hB (fun j hj => by cases hj; exact hr)
set_option maxHeartbeats 1000000 in
theorem Read_any (s : ByteArray) (l : List Nat) (a p : Int) (hs : Str s l) (hl : l.length ≤ 60000) (ha : -9223372036854775808 ≤ a ∧ a < 9223372036854775808) (w : World) (hT : Tab w) :
    Calls Tryz.prog 262 #[.int .i64 p, .string s, .int .i64 a] w fun e w' => e = RE p a (rst a l) ∧ Below w.heap.size w w' := by
  have R := Lib.hid (fun b w h hT => read_any b s l a p hs hl ha w h hT)
  have TH := Lib.hid hT
  unfold RE
  generalize rst a l = r at R
  clear hs hl ha hT
  cases hr : rd p r with
  | none =>
    have e1 : RdE p r = .returned (.tuple #[.int .u8 0, .bool false]) := by unfold RdE; rw [hr]
    rw [e1] at R
    clear e1 hr
    go_enter Tryz.func262, Tryz.ntmps262
    go_wp2_with (go_at_call 277; refine (readerAt_any p a s _).mono ?_; rintro e w1 ⟨rfl, hb1, hc1⟩; have HB1 := Lib.hid hb1; have HC1 := Lib.hid hc1; clear hb1 hc1)
    go_wp2_with (go_at_call 278; refine (R.out _ _ HC1.out (TH.out.below HB1.out)).mono ?_; rintro e w2 ⟨rfl, hb2, _⟩; have HB2 := Lib.hid hb2; clear hb2)
    go_ret3
    exact ⟨rfl, grown_below HB1.out HB2.out HB1.out.size (Nat.le_refl _)⟩
  | some xn =>
    obtain ⟨x, n⟩ := xn
    have e1 : RdE p r = .returned (.tuple #[.int .u8 x, .bool true]) := by unfold RdE; rw [hr]
    have e2 : RdN p r = n := by unfold RdN; rw [hr]
    rw [e1, e2] at R
    simp only
    generalize a + (n : Int) = an at R ⊢
    clear e1 e2 hr
    go_enter Tryz.func262, Tryz.ntmps262
    go_wp2_with (go_at_call 277; refine (readerAt_any p a s _).mono ?_; rintro e w1 ⟨rfl, hb1, hc1⟩; have HB1 := Lib.hid hb1; have HC1 := Lib.hid hc1; clear hb1 hc1)
    go_wp2_with (go_at_call 278; refine (R.out _ _ HC1.out (TH.out.below HB1.out)).mono ?_; rintro e w2 ⟨rfl, hb2, hc2⟩; have HB2 := Lib.hid hb2; obtain ⟨d0, d1, d2⟩ := cur3 hc2; clear hb2 hc2)
    go_quiet (fail)
    go_wp2_with fail
    go_ret3
    exact ⟨rfl, bdrew (grown_below HB1.out HB2.out HB1.out.size (Nat.le_refl _))⟩
end Go.Proofs.YtfghfnpiaccfaaaGreatDoor
namespace Go.Proofs.YtfghfnpiaccfaaaGreatDoor
/-- Bytes of sorts. -/
def bln (c : Nat) : Bool := c == 32 || c == 9 || c == 10 || c == 13
def ltr (c : Nat) : Bool := (decide (97 ≤ c) && decide (c ≤ 122)) || (decide (65 ≤ c) && decide (c ≤ 90)) || c == 95
def dgt (c : Nat) : Bool := decide (48 ≤ c) && decide (c ≤ 57)
def inm (c : Nat) : Bool := ltr c || dgt c
def rmk (c : Nat) : Bool := !(c == 10)
/-- How many of a sort lead a text. -/
def lead (p : Nat → Bool) : List Nat → Nat
  | [] => 0
  | c :: r => if p c then lead p r + 1 else 0
theorem lead_le (p : Nat → Bool) : ∀ (l : List Nat), lead p l ≤ l.length
  | [] => Nat.le_refl _
  | c :: r => by
    have := lead_le p r
    unfold lead
    split <;> simp <;> omega
theorem lead_app {p : Nat → Bool} {x : List Nat} (hx : ∀ c r, x = c :: r → p c = false) : ∀ l, lead p (l ++ x) = lead p l
  | [] => by
    cases x with
    | nil => rfl
    | cons c r => simp [lead, hx c r rfl]
  | c :: r => by simp only [List.cons_append, lead, lead_app hx r]
/-- One step of a passing: the byte at a place is of the sort, or not. -/
theorem lead_at {p : Nat → Bool} {l : List Nat} {k : Nat} (h : k < l.length) : lead p (l.drop k) = if p (l.getD k 0) then lead p (l.drop (k + 1)) + 1 else 0 := by
  rw [List.drop_eq_getElem_cons h, lead]
  simp [List.getD, List.getElem?_eq_getElem h]
theorem lead_end {p : Nat → Bool} {l : List Nat} {k : Nat} (h : l.length ≤ k) : lead p (l.drop k) = 0 := by rw [List.drop_of_length_le h]; rfl
/-- Where the leading ones end, no further one stands. -/
theorem lead_stop (p : Nat → Bool) : ∀ (l : List Nat), ∀ c r, l.drop (lead p l) = c :: r → p c = false
  | [], c, r, h => by simp [lead] at h
  | d :: t, c, r, h => by
    unfold lead at h
    cases hp : p d with
    | true => rw [hp] at h; simp only [if_true] at h; rw [List.drop_succ_cons] at h; exact lead_stop p t c r h
    | false =>
      rw [hp] at h
      simp only [Bool.false_eq_true, if_false, List.drop_zero, List.cons.injEq] at h
      rw [← h.1]
      exact hp
theorem lead_all (p : Nat → Bool) : ∀ (l : List Nat), ∀ c ∈ l.take (lead p l), p c = true
  | [], c, h => by simp at h
  | d :: t, c, h => by
    unfold lead at h
    cases hp : p d with
    | true =>
      rw [hp] at h
      simp only [if_true, List.take_succ_cons, List.mem_cons] at h
      rcases h with rfl | h
      · exact hp
      · exact lead_all p t c h
    | false => rw [hp] at h; simp at h
/-- How much is blanks and remarks; within a remark, or not. -/
def sk : Bool → List Nat → Nat
  | _, [] => 0
  | true, c :: r => sk (!(c == 10)) r + 1
  | false, c :: r => if bln c then sk false r + 1 else if c = 35 then sk true r + 1 else 0
theorem sk_le : ∀ (l : List Nat) (f : Bool), sk f l ≤ l.length
  | [], f => by cases f <;> exact Nat.le_refl _
  | c :: r, true => by have := sk_le r (!(c == 10)); simp only [sk, List.length_cons]; omega
  | c :: r, false => by
    have := sk_le r false
    have := sk_le r true
    simp only [sk, List.length_cons]
    repeat' split
    all_goals omega
theorem sk_blank : ∀ l, sk false l = lead bln l + sk false (l.drop (lead bln l))
  | [] => rfl
  | c :: r => by
    unfold lead
    cases h : bln c with
    | true =>
      have := sk_blank r
      simp only [if_true, List.drop_succ_cons, sk, h]
      omega
    | false => simp
theorem sk_remark : ∀ l, sk true l = lead rmk l + sk false (l.drop (lead rmk l))
  | [] => rfl
  | c :: r => by
    unfold lead
    cases h : rmk c with
    | true =>
      have := sk_remark r
      have e : (c == 10) = false := by simpa [rmk] using h
      simp only [if_true, List.drop_succ_cons, sk, e, Bool.not_false]
      omega
    | false =>
      have e : c = 10 := by simpa [rmk] using h
      subst e
      simp [sk, bln]
theorem sk_hash (r : List Nat) : sk false (35 :: r) = 1 + (lead rmk r + sk false (r.drop (lead rmk r))) := by
  rw [← sk_remark]; simp [sk, bln]; omega
theorem sk_none {l : List Nat} (h : ∀ c r, l = c :: r → bln c = false ∧ c ≠ 35) : sk false l = 0 := by
  cases l with
  | nil => rfl
  | cons c r => simp [sk, h c r rfl]
/-- Behind what is skipped no blank and no remark begins. -/
theorem sk_stop : ∀ (l : List Nat) (f : Bool), ∀ c r, l.drop (sk f l) = c :: r → bln c = false ∧ c ≠ 35
  | [], f, c, r, h => by cases f <;> simp [sk] at h
  | d :: t, true, c, r, h => by
    simp only [sk] at h
    rw [List.drop_succ_cons] at h
    exact sk_stop t _ c r h
  | d :: t, false, c, r, h => by
    simp only [sk] at h
    cases hb : bln d with
    | true => rw [hb] at h; simp only [if_true] at h; rw [List.drop_succ_cons] at h; exact sk_stop t false c r h
    | false =>
      rw [hb] at h
      simp only [Bool.false_eq_true, if_false] at h
      by_cases h35 : d = 35
      · rw [if_pos h35, List.drop_succ_cons] at h
        exact sk_stop t true c r h
      · rw [if_neg h35] at h
        simp only [List.drop_zero, List.cons.injEq] at h
        rw [← h.1]
        exact ⟨hb, h35⟩
theorem sk_idem (l : List Nat) : sk false (l.drop (sk false l)) = 0 := sk_none (fun c r h => sk_stop l false c r h)
/-- Something behind a text. -/
theorem sk_app : ∀ (l x : List Nat) (f : Bool), (sk f l < l.length → sk f (l ++ x) = sk f l) ∧ (sk f l = l.length → ∃ g, sk f (l ++ x) = l.length + sk g x)
  | [], x, f => ⟨fun h => by cases f <;> simp [sk] at h, fun _ => ⟨f, by simp⟩⟩
  | d :: t, x, true => by
    obtain ⟨h1, h2⟩ := sk_app t x (!(d == 10))
    simp only [List.cons_append, sk, List.length_cons]
    exact ⟨fun h => by rw [h1 (by omega)], fun h => by obtain ⟨g, e⟩ := h2 (by omega); exact ⟨g, by omega⟩⟩
  | d :: t, x, false => by
    simp only [List.cons_append, sk, List.length_cons]
    cases hb : bln d with
    | true =>
      obtain ⟨h1, h2⟩ := sk_app t x false
      simp only [if_true]
      exact ⟨fun h => by rw [h1 (by omega)], fun h => by obtain ⟨g, e⟩ := h2 (by omega); exact ⟨g, by omega⟩⟩
    | false =>
      simp only [Bool.false_eq_true, if_false]
      by_cases h35 : d = 35
      · obtain ⟨h1, h2⟩ := sk_app t x true
        simp only [if_pos h35]
        exact ⟨fun h => by rw [h1 (by omega)], fun h => by obtain ⟨g, e⟩ := h2 (by omega); exact ⟨g, by omega⟩⟩
      · simp only [if_neg h35]
        exact ⟨fun _ => trivial, fun h => by omega⟩
/-- The number of digits. -/
def val (ds : List Nat) : Nat := ds.foldl (fun a c => 10 * a + (c - 48)) 0
def lvl (ds : List Nat) : Int := if 4 < ds.length then 9999 else val ds
/-- A word: its Kind, how many bytes it has, its text, level, and which bytes are of its class. -/
structure Wd where
  kind : Int
  len : Nat
  text : List Nat
  lev : Int
  cls : Nat → Bool
def no : Nat → Bool := fun _ => false
/-- A name of n bytes t, with what stands behind it. -/
def namR (n : Nat) (t d : List Nat) : Wd :=
  match d with
  | [] => ⟨2, n, t, -1, no⟩
  | c :: r => if c = 58 then (if lead dgt r = 0 then ⟨2, n, t, -1, no⟩ else ⟨2, n + 1 + lead dgt r, t, lvl (r.take (lead dgt r)), no⟩) else ⟨2, n, t, -1, no⟩
theorem namR_nil (n : Nat) (t : List Nat) : namR n t [] = ⟨2, n, t, -1, no⟩ := rfl
theorem namR_no (n : Nat) (t : List Nat) {c : Nat} (r : List Nat) (h : c ≠ 58) : namR n t (c :: r) = ⟨2, n, t, -1, no⟩ := by simp only [namR, if_neg h]
theorem namR_0 (n : Nat) (t : List Nat) {r : List Nat} (h : lead dgt r = 0) : namR n t (58 :: r) = ⟨2, n, t, -1, no⟩ := by simp only [namR, if_true, if_pos h]
theorem namR_1 (n : Nat) (t : List Nat) {r : List Nat} (h : lead dgt r ≠ 0) : namR n t (58 :: r) = ⟨2, n + 1 + lead dgt r, t, lvl (r.take (lead dgt r)), no⟩ := by simp only [namR, if_true, if_neg h]
def nam (l : List Nat) : Wd := namR (lead inm l) (l.take (lead inm l)) (l.drop (lead inm l))
/-- Bytes up to the quote. -/
def qt : Nat → List Nat → Option (List Nat × Nat)
  | 0, _ => none
  | f + 1, l => if l.head? = some 34 then some ([], 1) else match rd 1 l with
    | none => none
    | some (b, n) => (qt f (l.drop n)).map fun x => (b :: x.1, n + x.2)
def QT (l : List Nat) : Option (List Nat × Nat) := qt (l.length + 1) l
/-- An item of a class. -/
def item (l : List Nat) : Option ((Nat × Nat) × Nat) :=
  match rd 2 l with
  | none => none
  | some (b, n) => if (l.drop n).head? = some 45 then (rd 2 (l.drop (n + 1))).map fun x => ((b, x.1), n + 1 + x.2) else some ((b, b), n)
def st : Nat → List Nat → Option (List (Nat × Nat) × Nat)
  | 0, _ => none
  | f + 1, l => if l.head? = some 93 then some ([], 1) else match item l with
    | none => none
    | some (b, n) => (st f (l.drop n)).map fun x => (b :: x.1, n + x.2)
def ST (l : List Nat) : Option (List (Nat × Nat) × Nat) := st (l.length + 1) l
def cls (ps : List (Nat × Nat)) : Nat → Bool := fun i => ps.any fun p => decide (p.1 ≤ i) && decide (i ≤ p.2)
/-- A sign. -/
def sgn (l : List Nat) : Option (List Nat) :=
  match l with
  | [] => none
  | c :: r => if c = 60 then (if r.head? = some 45 then some [60, 45] else none) else if c ∈ [47, 40, 41, 46, 59, 42, 43, 63, 33, 38] then some [c] else none
/-- The word at a text's head. -/
def wd (l : List Nat) : Option Wd :=
  match l with
  | [] => some ⟨1, 0, [], 0, no⟩
  | c :: r => if ltr c then some (nam (c :: r)) else if c = 34 then (QT r).map fun x => ⟨3, 1 + x.2, x.1, 0, no⟩ else if c = 91 then (ST r).map fun x => ⟨4, 1 + x.2, [], 0, cls x.1⟩ else (sgn (c :: r)).map fun t => ⟨5, t.length, t, 0, no⟩
theorem item_ok {l : List Nat} {b : Nat × Nat} {n : Nat} (hl : ∀ x ∈ l, x < 256) (h : item l = some (b, n)) : 1 ≤ n ∧ n ≤ l.length ∧ b.1 < 256 ∧ b.2 < 256 ∧ ∀ r, (∀ x ∈ r, x < 256) → r.head? ≠ some 45 → item (l ++ r) = some (b, n) := by
  unfold item at h
  cases h1 : rd 2 l with
  | none => rw [h1] at h; cases h
  | some bn =>
    obtain ⟨b1, n1⟩ := bn
    obtain ⟨_, k1, k2, k3, _, k4⟩ := rd_ok hl h1
    rw [h1] at h
    simp only at h
    by_cases h45 : (l.drop n1).head? = some 45
    · rw [if_pos h45] at h
      cases h2 : rd 2 (l.drop (n1 + 1)) with
      | none => rw [h2] at h; cases h
      | some bm =>
        obtain ⟨b2, n2⟩ := bm
        have hl2 : ∀ x ∈ l.drop (n1 + 1), x < 256 := fun x hx => hl x (List.mem_of_mem_drop hx)
        obtain ⟨_, j1, j2, j3, _, j4⟩ := rd_ok hl2 h2
        rw [h2] at h
        simp only [Option.map_some, Option.some.injEq, Prod.mk.injEq] at h
        obtain ⟨rfl, rfl⟩ := h
        rw [List.length_drop] at j2
        have hlt : n1 < l.length := by
          apply Nat.lt_of_not_le
          intro hge
          rw [List.drop_of_length_le hge] at h45
          cases h45
        refine ⟨by omega, by omega, k3, j3, fun r _ _ => ?_⟩
        unfold item
        rw [k4 r]
        simp only
        rw [List.drop_append_of_le_length (by omega), List.drop_append_of_le_length (by omega), List.head?_append, h45]
        simp [j4 r]
    · rw [if_neg h45] at h
      simp only [Option.some.injEq, Prod.mk.injEq] at h
      obtain ⟨rfl, rfl⟩ := h
      refine ⟨k1, k2, k3, k3, fun r _ hr => ?_⟩
      unfold item
      rw [k4 r]
      simp only
      rw [List.drop_append_of_le_length (by omega), List.head?_append]
      cases hd : (l.drop n1).head? with
      | none => simp [hr]
      | some c => rw [hd] at h45; rw [show (some c).or r.head? = some c from rfl, if_neg h45]
theorem qt_ok : ∀ (f : Nat) (l : List Nat) (bs : List Nat) (k : Nat), (∀ x ∈ l, x < 256) → qt f l = some (bs, k) → 1 ≤ k ∧ k ≤ l.length ∧ (∀ x ∈ bs, x < 256) ∧ bs.length ≤ l.length ∧ ∀ (g : Nat) (r : List Nat), (∀ x ∈ r, x < 256) → f ≤ g → qt g (l ++ r) = some (bs, k)
  | 0, l, bs, k, _, h => by cases h
  | f + 1, l, bs, k, hl, h => by
    unfold qt at h
    by_cases h34 : l.head? = some 34
    · rw [if_pos h34] at h
      simp only [Option.some.injEq, Prod.mk.injEq] at h
      obtain ⟨rfl, rfl⟩ := h
      cases l with
      | nil => cases h34
      | cons c t =>
        refine ⟨Nat.le_refl _, by simp, by simp, by simp, fun g r _ hg => ?_⟩
        obtain ⟨g, rfl⟩ : ∃ q, g = q + 1 := ⟨g - 1, by omega⟩
        unfold qt
        rw [if_pos (by simpa using h34)]
    · rw [if_neg h34] at h
      cases h1 : rd 1 l with
      | none => rw [h1] at h; cases h
      | some bn =>
        obtain ⟨b, n⟩ := bn
        obtain ⟨_, k1, k2, k3, _, k4⟩ := rd_ok hl h1
        rw [h1] at h
        simp only at h
        have hl2 : ∀ x ∈ l.drop n, x < 256 := fun x hx => hl x (List.mem_of_mem_drop hx)
        cases h2 : qt f (l.drop n) with
        | none => rw [h2] at h; cases h
        | some y =>
          obtain ⟨bs2, m⟩ := y
          rw [h2] at h
          simp only [Option.map_some, Option.some.injEq, Prod.mk.injEq] at h
          obtain ⟨rfl, rfl⟩ := h
          obtain ⟨j1, j2, j3, j4, j5⟩ := qt_ok f _ bs2 m hl2 h2
          rw [List.length_drop] at j2 j4
          refine ⟨by omega, by omega, ?_, by simp only [List.length_cons]; omega, fun g r hr hg => ?_⟩
          · intro x hx
            rcases List.mem_cons.1 hx with rfl | hx
            · exact k3
            · exact j3 x hx
          · obtain ⟨g, rfl⟩ : ∃ q, g = q + 1 := ⟨g - 1, by omega⟩
            unfold qt
            have hne : (l ++ r).head? ≠ some 34 := by
              cases l with
              | nil => simp [rd] at h1
              | cons c t => simpa using h34
            rw [if_neg hne, k4 r]
            simp only
            rw [List.drop_append_of_le_length k2, j5 g r hr (by omega)]
            rfl
theorem st_ok : ∀ (f : Nat) (l : List Nat) (bs : List (Nat × Nat)) (k : Nat), (∀ x ∈ l, x < 256) → st f l = some (bs, k) → 1 ≤ k ∧ k ≤ l.length ∧ (∀ x ∈ bs, x.1 < 256 ∧ x.2 < 256) ∧ bs.length ≤ l.length ∧ ∀ (g : Nat) (r : List Nat), (∀ x ∈ r, x < 256) → r.head? ≠ some 45 → f ≤ g → st g (l ++ r) = some (bs, k)
  | 0, l, bs, k, _, h => by cases h
  | f + 1, l, bs, k, hl, h => by
    unfold st at h
    by_cases h34 : l.head? = some 93
    · rw [if_pos h34] at h
      simp only [Option.some.injEq, Prod.mk.injEq] at h
      obtain ⟨rfl, rfl⟩ := h
      cases l with
      | nil => cases h34
      | cons c t =>
        refine ⟨Nat.le_refl _, by simp, by simp, by simp, fun g r _ _ hg => ?_⟩
        obtain ⟨g, rfl⟩ : ∃ q, g = q + 1 := ⟨g - 1, by omega⟩
        unfold st
        rw [if_pos (by simpa using h34)]
    · rw [if_neg h34] at h
      cases h1 : item l with
      | none => rw [h1] at h; cases h
      | some bn =>
        obtain ⟨b, n⟩ := bn
        obtain ⟨k1, k2, k3, k3', k4⟩ := item_ok hl h1
        rw [h1] at h
        simp only at h
        have hl2 : ∀ x ∈ l.drop n, x < 256 := fun x hx => hl x (List.mem_of_mem_drop hx)
        cases h2 : st f (l.drop n) with
        | none => rw [h2] at h; cases h
        | some y =>
          obtain ⟨bs2, m⟩ := y
          rw [h2] at h
          simp only [Option.map_some, Option.some.injEq, Prod.mk.injEq] at h
          obtain ⟨rfl, rfl⟩ := h
          obtain ⟨j1, j2, j3, j4, j5⟩ := st_ok f _ bs2 m hl2 h2
          rw [List.length_drop] at j2 j4
          refine ⟨by omega, by omega, ?_, by simp only [List.length_cons]; omega, fun g r hr hr2 hg => ?_⟩
          · intro x hx
            rcases List.mem_cons.1 hx with rfl | hx
            · exact ⟨k3, k3'⟩
            · exact j3 x hx
          · obtain ⟨g, rfl⟩ : ∃ q, g = q + 1 := ⟨g - 1, by omega⟩
            unfold st
            have hne : (l ++ r).head? ≠ some 93 := by
              cases l with
              | nil => simp [item, rd] at h1
              | cons c t => simpa using h34
            rw [if_neg hne, k4 r hr hr2]
            simp only
            rw [List.drop_append_of_le_length k2, j5 g r hr hr2 (by omega)]
            rfl
theorem QT_ok {l bs : List Nat} {k : Nat} (hl : ∀ x ∈ l, x < 256) (h : QT l = some (bs, k)) : 1 ≤ k ∧ k ≤ l.length ∧ (∀ x ∈ bs, x < 256) ∧ bs.length ≤ l.length ∧ ∀ r : List Nat, (∀ x ∈ r, x < 256) → QT (l ++ r) = some (bs, k) := by
  obtain ⟨h1, h2, h3, h4, h5⟩ := qt_ok _ l bs k hl h
  exact ⟨h1, h2, h3, h4, fun r hr => h5 _ r hr (by simp)⟩
theorem ST_ok {l : List Nat} {bs : List (Nat × Nat)} {k : Nat} (hl : ∀ x ∈ l, x < 256) (h : ST l = some (bs, k)) : 1 ≤ k ∧ k ≤ l.length ∧ (∀ x ∈ bs, x.1 < 256 ∧ x.2 < 256) ∧ bs.length ≤ l.length ∧ ∀ r : List Nat, (∀ x ∈ r, x < 256) → r.head? ≠ some 45 → ST (l ++ r) = some (bs, k) := by
  obtain ⟨h1, h2, h3, h4, h5⟩ := st_ok _ l bs k hl h
  exact ⟨h1, h2, h3, h4, fun r hr hr2 => h5 _ r hr hr2 (by simp)⟩
/-- Once more, one byte on: what is left is read with the fuel of what is left. -/
theorem qt_fuel : ∀ (f g : Nat) (l : List Nat), (∀ x ∈ l, x < 256) → l.length < f → l.length < g → qt f l = qt g l
  | 0, _, _, _, h, _ => by omega
  | _, 0, _, _, _, h => by omega
  | f + 1, g + 1, l, hl, hf, hg => by
    unfold qt
    cases h1 : rd 1 l with
    | none => rfl
    | some bn =>
      obtain ⟨b, n⟩ := bn
      obtain ⟨_, k1, k2, _⟩ := rd_ok hl h1
      simp only
      rw [qt_fuel f g (l.drop n) (fun x hx => hl x (List.mem_of_mem_drop hx)) (by rw [List.length_drop]; omega) (by rw [List.length_drop]; omega)]
theorem st_fuel : ∀ (f g : Nat) (l : List Nat), (∀ x ∈ l, x < 256) → l.length < f → l.length < g → st f l = st g l
  | 0, _, _, _, h, _ => by omega
  | _, 0, _, _, _, h => by omega
  | f + 1, g + 1, l, hl, hf, hg => by
    unfold st
    cases h1 : item l with
    | none => rfl
    | some bn =>
      obtain ⟨b, n⟩ := bn
      obtain ⟨k1, k2, _⟩ := item_ok hl h1
      simp only
      rw [st_fuel f g (l.drop n) (fun x hx => hl x (List.mem_of_mem_drop hx)) (by rw [List.length_drop]; omega) (by rw [List.length_drop]; omega)]
theorem QT_end {l : List Nat} (h : l.head? = some 34) : QT l = some ([], 1) := by unfold QT qt; rw [if_pos h]
theorem QT_no {l : List Nat} (h : l.head? ≠ some 34) (h1 : rd 1 l = none) : QT l = none := by unfold QT qt; rw [if_neg h, h1]
theorem QT_more {l : List Nat} {b n : Nat} (hl : ∀ x ∈ l, x < 256) (h : l.head? ≠ some 34) (h1 : rd 1 l = some (b, n)) : QT l = (QT (l.drop n)).map fun x => (b :: x.1, n + x.2) := by
  obtain ⟨_, k1, k2, _⟩ := rd_ok hl h1
  unfold QT
  rw [qt, if_neg h, h1]
  simp only
  rw [qt_fuel l.length ((l.drop n).length + 1) _ (fun x hx => hl x (List.mem_of_mem_drop hx)) (by rw [List.length_drop]; omega) (by omega)]
theorem ST_end {l : List Nat} (h : l.head? = some 93) : ST l = some ([], 1) := by unfold ST st; rw [if_pos h]
theorem ST_no {l : List Nat} (h : l.head? ≠ some 93) (h1 : item l = none) : ST l = none := by unfold ST st; rw [if_neg h, h1]
theorem ST_more {l : List Nat} {b : Nat × Nat} {n : Nat} (hl : ∀ x ∈ l, x < 256) (h : l.head? ≠ some 93) (h1 : item l = some (b, n)) : ST l = (ST (l.drop n)).map fun x => (b :: x.1, n + x.2) := by
  obtain ⟨k1, k2, _⟩ := item_ok hl h1
  unfold ST
  rw [st, if_neg h, h1]
  simp only
  rw [st_fuel l.length ((l.drop n).length + 1) _ (fun x hx => hl x (List.mem_of_mem_drop hx)) (by rw [List.length_drop]; omega) (by omega)]
end Go.Proofs.YtfghfnpiaccfaaaGreatDoor
namespace Go.Proofs.YtfghfnpiaccfaaaGreatDoor
theorem lead_pos {p : Nat → Bool} {c : Nat} {r : List Nat} (h : p c = true) : 1 ≤ lead p (c :: r) := by simp [lead, h]
theorem val_le : ∀ (l : List Nat) (a : Nat), (∀ x ∈ l, x < 58) → l.foldl (fun a c => 10 * a + (c - 48)) a < (a + 1) * 10 ^ l.length
  | [], a, _ => by simp
  | c :: r, a, h => by
    simp only [List.foldl_cons, List.length_cons]
    have h1 := val_le r (10 * a + (c - 48)) (fun x hx => h x (by simp [hx]))
    have h2 := h c (by simp)
    refine Nat.lt_of_lt_of_le h1 ?_
    rw [Nat.pow_succ, Nat.mul_comm (10 ^ r.length) 10, ← Nat.mul_assoc]
    exact Nat.mul_le_mul_right _ (by omega)
theorem lvl_bound {ds : List Nat} (h : ∀ x ∈ ds, x < 58) : 0 ≤ lvl ds ∧ lvl ds ≤ 9999 := by
  unfold lvl
  split
  · omega
  · have h1 := val_le ds 0 h
    have h2 : (10 : Nat) ^ ds.length ≤ 10 ^ 4 := Nat.pow_le_pow_right (by omega) (by omega)
    have : val ds < (0 + 1) * 10 ^ ds.length := h1
    omega
theorem dgt_lt {c : Nat} (h : dgt c = true) : c < 58 := by simp [dgt] at h; omega
theorem nam_ok {l : List Nat} (h : 1 ≤ lead inm l) : (nam l).kind = 2 ∧ 1 ≤ (nam l).len ∧ (nam l).len ≤ l.length ∧ (nam l).text = l.take (lead inm l) ∧ -1 ≤ (nam l).lev ∧ (nam l).lev ≤ 9999 ∧ (nam l).cls = no := by
  have h1 := lead_le inm l
  unfold nam
  cases hd : l.drop (lead inm l) with
  | nil => exact ⟨rfl, h, h1, rfl, Int.le_refl _, (by decide : (-1 : Int) ≤ 9999), rfl⟩
  | cons c r =>
    have hlen : l.length - lead inm l = r.length + 1 := by rw [← List.length_drop, hd]; rfl
    have h2 := lead_le dgt r
    by_cases hc : c = 58
    · subst hc
      by_cases h0 : lead dgt r = 0
      · rw [namR_0 _ _ h0]; exact ⟨rfl, h, h1, rfl, Int.le_refl _, (by decide : (-1 : Int) ≤ 9999), rfl⟩
      · rw [namR_1 _ _ h0]
        have h3 := lvl_bound (ds := r.take (lead dgt r)) (fun x hx => dgt_lt (lead_all dgt r x hx))
        exact ⟨rfl, by simp; omega, by simp; omega, rfl, by simp; omega, by simp; omega, rfl⟩
    · rw [show namR (lead inm l) (l.take (lead inm l)) (c :: r) = ⟨2, lead inm l, l.take (lead inm l), -1, no⟩ by simp only [namR, if_neg hc]]
      exact ⟨rfl, h, h1, rfl, Int.le_refl _, (by decide : (-1 : Int) ≤ 9999), rfl⟩
theorem inm_ltr {c : Nat} (h : ltr c = true) : inm c = true := by simp [inm, h]
theorem sgn_ok {l t : List Nat} (h : sgn l = some t) : 1 ≤ t.length ∧ t.length ≤ 2 ∧ t = l.take t.length ∧ t.length ≤ l.length := by
  cases l with
  | nil => cases h
  | cons c r =>
    simp only [sgn] at h
    by_cases h60 : c = 60
    · rw [if_pos h60] at h
      cases r with
      | nil => cases h
      | cons d r2 =>
        by_cases h45 : d = 45
        · subst h45 h60
          simp at h
          subst h
          simp
        · simp [h45] at h
    · rw [if_neg h60] at h
      split at h
      · simp only [Option.some.injEq] at h
        subst h
        simp
      · cases h
theorem wd_ok {l : List Nat} {w : Wd} (hl : ∀ x ∈ l, x < 256) (h : wd l = some w) : w.len ≤ l.length ∧ (w.kind = 1 ↔ l = []) ∧ (l ≠ [] → 1 ≤ w.len) ∧ 1 ≤ w.kind ∧ w.kind ≤ 5 ∧ (∀ x ∈ w.text, x < 256) ∧ w.text.length ≤ l.length ∧ -1 ≤ w.lev ∧ w.lev ≤ 9999 := by
  cases l with
  | nil =>
    simp only [wd, Option.some.injEq] at h
    subst h
    simp
  | cons c r =>
    simp only [wd] at h
    have hr : ∀ x ∈ r, x < 256 := fun x hx => hl x (by simp [hx])
    by_cases h1 : ltr c = true
    · rw [if_pos h1] at h
      simp only [Option.some.injEq] at h
      subst h
      obtain ⟨a1, a2, a3, a4, a5, a6, _⟩ := nam_ok (l := c :: r) (lead_pos (inm_ltr h1))
      refine ⟨a3, by rw [a1]; simp, fun _ => a2, by omega, by omega, ?_, ?_, a5, a6⟩
      · rw [a4]; exact fun x hx => hl x (List.mem_of_mem_take hx)
      · rw [a4, List.length_take]; omega
    · rw [if_neg h1] at h
      by_cases h2 : c = 34
      · rw [if_pos h2] at h
        cases hq : QT r with
        | none => rw [hq] at h; cases h
        | some x =>
          obtain ⟨bs, k⟩ := x
          rw [hq] at h
          simp only [Option.map_some, Option.some.injEq] at h
          subst h
          obtain ⟨q1, q2, q3, q4, _⟩ := QT_ok hr hq
          refine ⟨by simp; omega, by simp, fun _ => by simp, by simp, by simp, q3, by simp; omega, by simp, by simp⟩
      · rw [if_neg h2] at h
        by_cases h3 : c = 91
        · rw [if_pos h3] at h
          cases hq : ST r with
          | none => rw [hq] at h; cases h
          | some x =>
            obtain ⟨bs, k⟩ := x
            rw [hq] at h
            simp only [Option.map_some, Option.some.injEq] at h
            subst h
            obtain ⟨q1, q2, q3, q4, _⟩ := ST_ok hr hq
            refine ⟨by simp; omega, by simp, fun _ => by simp, by simp, by simp, by simp, by simp, by simp, by simp⟩
        · rw [if_neg h3] at h
          cases hq : sgn (c :: r) with
          | none => rw [hq] at h; cases h
          | some t =>
            rw [hq] at h
            simp only [Option.map_some, Option.some.injEq] at h
            subst h
            obtain ⟨q1, q2, q3, q4⟩ := sgn_ok hq
            refine ⟨q4, by simp, fun _ => q1, by simp, by simp, ?_, q4, by simp, by simp⟩
            rw [q3]
            exact fun x hx => hl x (List.mem_of_mem_take hx)
theorem nam_app {l x : List Nat} (hx : ∀ c r, x = c :: r → inm c = false ∧ c ≠ 58) : nam (l ++ x) = nam l := by
  have h1 := lead_le inm l
  have hx2 : ∀ c r, x = c :: r → dgt c = false := fun c r e => by
    have := (hx c r e).1
    simp only [inm, Bool.or_eq_false_iff] at this
    exact this.2
  unfold nam
  simp only [lead_app (fun c r e => (hx c r e).1) l, List.drop_append_of_le_length h1, List.take_append_of_le_length h1]
  cases hd : l.drop (lead inm l) with
  | nil =>
    rw [List.nil_append]
    cases x with
    | nil => rfl
    | cons c r =>
      have := (hx c r rfl).2
      simp only [namR, if_neg this]
  | cons c r =>
    have h2 := lead_le dgt r
    simp only [List.cons_append, namR, lead_app hx2 r, List.take_append_of_le_length h2]
/-- A word stays, whatever stands behind a blank behind it. -/
theorem wd_app {l x : List Nat} {w : Wd} (hl : ∀ y ∈ l, y < 256) (hx : ∀ y ∈ x, y < 256) (hb : ∀ c r, x = c :: r → c = 10 ∨ c = 32) (h0 : l ≠ []) (h : wd l = some w) : wd (l ++ x) = some w := by
  cases l with
  | nil => exact absurd rfl h0
  | cons c r =>
    have hr : ∀ x ∈ r, x < 256 := fun x hx => hl x (by simp [hx])
    simp only [wd] at h
    have hxn : ∀ c r, x = c :: r → inm c = false ∧ c ≠ 58 := fun c r e => by
      rcases hb c r e with rfl | rfl <;> exact ⟨rfl, by omega⟩
    simp only [List.cons_append, wd]
    by_cases h1 : ltr c = true
    · rw [if_pos h1] at h ⊢
      rw [← List.cons_append, nam_app hxn]
      exact h
    · rw [if_neg h1] at h ⊢
      by_cases h2 : c = 34
      · rw [if_pos h2] at h ⊢
        cases hq : QT r with
        | none => rw [hq] at h; cases h
        | some y => rw [(QT_ok hr (bs := y.1) (k := y.2) hq).2.2.2.2 x hx]; rw [hq] at h; exact h
      · rw [if_neg h2] at h ⊢
        by_cases h3 : c = 91
        · rw [if_pos h3] at h ⊢
          cases hq : ST r with
          | none => rw [hq] at h; cases h
          | some y =>
            rw [(ST_ok hr (bs := y.1) (k := y.2) hq).2.2.2.2 x hx (by
              cases x with
              | nil => simp
              | cons c2 r2 => rcases hb c2 r2 rfl with rfl | rfl <;> simp)]
            rw [hq] at h; exact h
        · rw [if_neg h3] at h ⊢
          cases hq : sgn (c :: r) with
          | none => rw [hq] at h; cases h
          | some t =>
            have : sgn (c :: (r ++ x)) = some t := by
              simp only [sgn] at hq ⊢
              by_cases h60 : c = 60
              · rw [if_pos h60] at hq ⊢
                cases r with
                | nil => cases hq
                | cons d r2 => exact hq
              · rw [if_neg h60] at hq ⊢
                exact hq
            rw [this]; rw [hq] at h; exact h
/-- The words of a text from a place on, each with its place; or none, and the place at which there is none. -/
def al : Nat → Nat → List Nat → Option (List (Nat × Wd)) × Nat
  | 0, _, _ => (none, 0)
  | f + 1, off, r =>
    match wd (r.drop (sk false r)) with
    | none => (none, off + sk false r)
    | some w => if w.kind = 1 then (some [(off + sk false r, w)], 0) else
      match al f (off + sk false r + w.len) (r.drop (sk false r + w.len)) with
      | (none, k) => (none, k)
      | (some l, _) => (some ((off + sk false r, w) :: l), 0)
def AL (l : List Nat) : Option (List (Nat × Wd)) × Nat := al (l.length + 1) 0 l
theorem al_fuel : ∀ (f g off : Nat) (l : List Nat), (∀ x ∈ l, x < 256) → l.length < f → l.length < g → al f off l = al g off l
  | 0, _, _, _, _, h, _ => by omega
  | _, 0, _, _, _, _, h => by omega
  | f + 1, g + 1, off, l, hl, hf, hg => by
    unfold al
    have h1 := sk_le l false
    have hl2 : ∀ x ∈ l.drop (sk false l), x < 256 := fun x hx => hl x (List.mem_of_mem_drop hx)
    cases h : wd (l.drop (sk false l)) with
    | none => rfl
    | some w =>
      obtain ⟨a1, a2, a3, _⟩ := wd_ok hl2 h
      simp only
      by_cases hk : w.kind = 1
      · rw [if_pos hk, if_pos hk]
      · rw [if_neg hk, if_neg hk]
        have h3 : l.drop (sk false l) ≠ [] := fun e => hk (a2.2 e)
        have h4 := a3 h3
        rw [List.length_drop] at a1
        rw [al_fuel f g _ _ (fun x hx => hl x (List.mem_of_mem_drop hx)) (by rw [List.length_drop]; omega) (by rw [List.length_drop]; omega)]
/-- One step: the words from a place on. -/
def alAt (l : List Nat) (k : Nat) : Option (List (Nat × Wd)) × Nat := al ((l.drop k).length + 1) k (l.drop k)
theorem AL_at (l : List Nat) : AL l = alAt l 0 := rfl
theorem alAt_none {l : List Nat} {k : Nat} (h : wd (l.drop (k + sk false (l.drop k))) = none) : alAt l k = (none, k + sk false (l.drop k)) := by
  unfold alAt al
  rw [List.drop_drop, h]
theorem alAt_end {l : List Nat} {k : Nat} {w : Wd} (h : wd (l.drop (k + sk false (l.drop k))) = some w) (hk : w.kind = 1) : alAt l k = (some [(k + sk false (l.drop k), w)], 0) := by
  unfold alAt al
  rw [List.drop_drop, h]
  simp only
  rw [if_pos hk]
theorem alAt_more {l : List Nat} {k : Nat} {w : Wd} (hl : ∀ x ∈ l, x < 256) (h : wd (l.drop (k + sk false (l.drop k))) = some w) (hk : w.kind ≠ 1) :
    alAt l k = match alAt l (k + sk false (l.drop k) + w.len) with | (none, q) => (none, q) | (some x, _) => (some ((k + sk false (l.drop k), w) :: x), 0) := by
  have h1 := sk_le (l.drop k) false
  have hl2 : ∀ x ∈ l.drop (k + sk false (l.drop k)), x < 256 := fun x hx => hl x (List.mem_of_mem_drop hx)
  obtain ⟨a1, a2, a3, _⟩ := wd_ok hl2 h
  have h3 : l.drop (k + sk false (l.drop k)) ≠ [] := fun e => hk (a2.2 e)
  have h4 := a3 h3
  rw [List.length_drop] at a1 h1
  unfold alAt
  rw [al, List.drop_drop, h]
  simp only
  rw [if_neg hk, List.drop_drop, ← Nat.add_assoc, al_fuel (l.drop k).length ((l.drop (k + sk false (l.drop k) + w.len)).length + 1) _ _ (fun x hx => hl x (List.mem_of_mem_drop hx)) (by simp only [List.length_drop]; omega) (by omega)]
end Go.Proofs.YtfghfnpiaccfaaaGreatDoor
namespace Go.Proofs.YtfghfnpiaccfaaaGreatDoor
open Go Go.RowKit
theorem q_drew {P : Program} {f : FuncId} {args : Array Value} {w : World} {n : Nat} {v : Value}
    (h : Calls P f args (w.drewN n) fun e w' => e = .returned v ∧ ∃ k, w' = (w.drewN n).drewN k) : Calls P f args (w.drewN n) fun e w'' => e = .returned v ∧ ∃ m, w'' = w.drewN m :=
  h.mono fun _ _ ⟨he, k, hm⟩ => ⟨he, n + k, by rw [hm, World.drewN_drewN]⟩
/-- A reader of a text, at a place. -/
def Rd (w : World) (b : Nat) (s : ByteArray) (k : Nat) : Prop := Blk w b #[.string s, .int .i64 k] 150
theorem Rd.cells {w : World} {b : Nat} {s : ByteArray} {k : Nat} (h : Rd w b s k) : w.cell? ⟨b, 0, none⟩ = some (.string s) ∧ w.cell? ⟨b, 1, none⟩ = some (.int .i64 k) := ⟨Blk.cell h 0, Blk.cell h 1⟩
theorem Rd.drewN {w : World} {b n : Nat} {s : ByteArray} {k : Nat} (h : Rd w b s k) : Rd (w.drewN n) b s k := h
theorem Rd.below {w w' : World} {b : Nat} {s : ByteArray} {k : Nat} (h : Rd w b s k) (hb : Below w.heap.size w w') : Rd w' b s k := Blk.below' h hb
theorem drawn_grown (w : World) (n b : Nat) : w.grownBy (w.drewN n) (some b) := ⟨rfl, rfl, rfl, Nat.le_refl _, fun _ _ _ => rfl⟩
theorem grown_trans {a b c : World} {r : Option Nat} (h : a.grownBy b r) (k : b.grownBy c r) : a.grownBy c r :=
  ⟨k.os.trans h.os, k.tape.trans h.tape, k.output.trans h.output, Nat.le_trans h.size k.size, fun j hj hn => (k.block j (Nat.lt_of_lt_of_le hj h.size) hn).trans (h.block j hj hn)⟩
/-- The place set anew. -/
theorem Rd.set {w : World} {b : Nat} {s : ByteArray} {k : Nat} (h : Rd w b s k) (j : Nat) (v : Int) (e : v = j) : Rd (w.setCell ⟨b, 1, none⟩ (.int .i64 v)) b s j ∧ w.grownBy (w.setCell ⟨b, 1, none⟩ (.int .i64 v)) (some b) := by
  subst e
  exact ⟨heap_setCell_same w b 1 _ 150 _ h, ⟨rfl, rfl, rfl, by simp, fun i hi hne => heap_setCell_other _ _ _ _ (fun e => hne (by rw [e]))⟩⟩
theorem bln_any (c : Nat) (w : World) : Calls Tryz.prog 232 #[.int .u8 c] w fun e w' => e = .returned (.bool (bln c)) ∧ w = w' := by
  go_enter Tryz.func232, Tryz.ntmps232
  go_wp2_with fail
  all_goals go_ret
  all_goals exact ⟨ret_bool (by unfold bln; rw [Bool.eq_iff_iff]; simp; omega), rfl⟩
theorem ltr_any (c : Nat) (w : World) : Calls Tryz.prog 237 #[.int .u8 c] w fun e w' => e = .returned (.bool (ltr c)) ∧ w = w' := by
  go_enter Tryz.func237, Tryz.ntmps237
  go_wp2_with fail
  all_goals go_ret
  all_goals exact ⟨ret_bool (by unfold ltr; rw [Bool.eq_iff_iff]; simp; omega), rfl⟩
theorem dgt_any (c : Nat) (w : World) : Calls Tryz.prog 260 #[.int .u8 c] w fun e w' => e = .returned (.bool (dgt c)) ∧ w = w' := by
  go_enter Tryz.func260, Tryz.ntmps260
  go_wp2_with fail
  all_goals go_ret
  all_goals exact ⟨ret_bool (by unfold dgt; rw [Bool.eq_iff_iff]; simp; omega), rfl⟩
theorem rmk_any (c : Nat) (w : World) : Calls Tryz.prog 234 #[.int .u8 c] w fun e w' => e = .returned (.bool (rmk c)) ∧ w = w' := by
  go_enter Tryz.func234, Tryz.ntmps234
  go_wp2_with fail
  all_goals go_ret
  all_goals exact ⟨ret_bool (by unfold rmk; first | rfl | (rw [Bool.eq_iff_iff]; simp; done) | (rw [Bool.eq_iff_iff]; simp; omega)), rfl⟩
theorem inm_any (c : Nat) (w : World) : Calls Tryz.prog 239 #[.int .u8 c] w fun e w' => e = .returned (.bool (inm c)) ∧ w = w' := by
  have L := fun w => ltr_any c w
  have D := fun w => dgt_any c w
  have e : inm c = (ltr c || dgt c) := rfl
  rw [e]
  clear e
  obtain ⟨x, ex⟩ : ∃ x, x = ltr c := ⟨_, rfl⟩
  obtain ⟨y, ey⟩ : ∃ y, y = dgt c := ⟨_, rfl⟩
  rw [← ex] at L ⊢
  rw [← ey] at D ⊢
  have LH := Lib.hid L
  have DH := Lib.hid D
  clear L D ex ey
  cases x with
  | true =>
    go_enter Tryz.func239, Tryz.ntmps239
    go_wp2_with (first | (go_at_call 237; refine (LH.out _).mono ?_; rintro e w1 ⟨rfl, rfl⟩) | (go_at_call 260; refine (DH.out _).mono ?_; rintro e w1 ⟨rfl, rfl⟩))
    go_ret
    exact ⟨rfl, rfl⟩
  | false =>
    go_enter Tryz.func239, Tryz.ntmps239
    go_wp2_with (first | (go_at_call 237; refine (LH.out _).mono ?_; rintro e w1 ⟨rfl, rfl⟩) | (go_at_call 260; refine (DH.out _).mono ?_; rintro e w1 ⟨rfl, rfl⟩))
    go_ret
    exact ⟨rfl, rfl⟩
theorem ends_yes (b : Nat) (s : ByteArray) (w : World) (h : Rd w b s s.size) : Calls Tryz.prog 235 #[.pointer (some ⟨b, 0, none⟩)] w fun e w' => e = .returned (.bool true) ∧ ∃ n, w' = w.drewN n := by
  obtain ⟨c0, c1⟩ := h.cells
  clear h
  go_enter Tryz.func235, Tryz.ntmps235
  go_wp2_with fail
  go_quiet (fail)
  go_wp2_with fail
  go_ret
  exact ⟨rfl, _, rfl⟩
theorem ends_no (b k : Nat) (s : ByteArray) (w : World) (h : Rd w b s k) (hk : k < s.size) : Calls Tryz.prog 235 #[.pointer (some ⟨b, 0, none⟩)] w fun e w' => e = .returned (.bool false) ∧ ∃ n, w' = w.drewN n := by
  obtain ⟨c0, c1⟩ := h.cells
  have e : ((k : Int) == (s.size : Int)) = false := by simp; omega
  clear h hk
  go_enter Tryz.func235, Tryz.ntmps235
  go_wp2_with fail
  go_quiet (fail)
  go_wp2_with fail
  go_ret
  exact ⟨rfl, _, rfl⟩
theorem sees_bln_no (b : Nat) (s : ByteArray) (w : World) (h : Rd w b s s.size) : Calls Tryz.prog 236 #[.pointer (some ⟨b, 0, none⟩), .func (.func 232) #[] #[]] w fun e w' => e = .returned (.bool false) ∧ ∃ n, w' = w.drewN n := by
  have EE := Lib.hid (fun n => ends_yes b s (w.drewN n) h)
  obtain ⟨c0, c1⟩ := h.cells
  clear h
  go_enter Tryz.func236, Tryz.ntmps236
  go_wp2_with fail
  go_quiet ((go_at_call 235; exact q_drew (EE.out _)))
  go_wp2_with fail
  go_ret
  exact ⟨rfl, _, rfl⟩
theorem sees_bln_at (b k c : Nat) (s : ByteArray) (w : World) (h : Rd w b s k) (hk : k < s.size) (hc : ∀ h, (s[k]'h).toNat = c) : Calls Tryz.prog 236 #[.pointer (some ⟨b, 0, none⟩), .func (.func 232) #[] #[]] w fun e w' => e = .returned (.bool (bln c)) ∧ ∃ n, w' = w.drewN n := by
  have EE := Lib.hid (fun n => ends_no b k s (w.drewN n) h hk)
  obtain ⟨c0, c1⟩ := h.cells
  have P := fun w => bln_any c w
  obtain ⟨x, ex⟩ : ∃ x, x = bln c := ⟨_, rfl⟩
  rw [← ex] at P ⊢
  have PH := Lib.hid P
  have hk2 : (k : Int) < s.size := by omega
  clear h P ex
  go_enter Tryz.func236, Tryz.ntmps236
  go_wp2_with fail
  go_quiet ((first | (go_at_call 235; exact q_drew (EE.out _)) | (go_at_call 232; exact (PH.out _).mono fun _ _ ⟨he, hm⟩ => ⟨he, _, hm.symm⟩)))
  go_wp2_with fail
  go_ret
  exact ⟨rfl, _, rfl⟩
theorem sees_ltr_no (b : Nat) (s : ByteArray) (w : World) (h : Rd w b s s.size) : Calls Tryz.prog 236 #[.pointer (some ⟨b, 0, none⟩), .func (.func 237) #[] #[]] w fun e w' => e = .returned (.bool false) ∧ ∃ n, w' = w.drewN n := by
  have EE := Lib.hid (fun n => ends_yes b s (w.drewN n) h)
  obtain ⟨c0, c1⟩ := h.cells
  clear h
  go_enter Tryz.func236, Tryz.ntmps236
  go_wp2_with fail
  go_quiet ((go_at_call 235; exact q_drew (EE.out _)))
  go_wp2_with fail
  go_ret
  exact ⟨rfl, _, rfl⟩
theorem sees_ltr_at (b k c : Nat) (s : ByteArray) (w : World) (h : Rd w b s k) (hk : k < s.size) (hc : ∀ h, (s[k]'h).toNat = c) : Calls Tryz.prog 236 #[.pointer (some ⟨b, 0, none⟩), .func (.func 237) #[] #[]] w fun e w' => e = .returned (.bool (ltr c)) ∧ ∃ n, w' = w.drewN n := by
  have EE := Lib.hid (fun n => ends_no b k s (w.drewN n) h hk)
  obtain ⟨c0, c1⟩ := h.cells
  have P := fun w => ltr_any c w
  obtain ⟨x, ex⟩ : ∃ x, x = ltr c := ⟨_, rfl⟩
  rw [← ex] at P ⊢
  have PH := Lib.hid P
  have hk2 : (k : Int) < s.size := by omega
  clear h P ex
  go_enter Tryz.func236, Tryz.ntmps236
  go_wp2_with fail
  go_quiet ((first | (go_at_call 235; exact q_drew (EE.out _)) | (go_at_call 237; exact (PH.out _).mono fun _ _ ⟨he, hm⟩ => ⟨he, _, hm.symm⟩)))
  go_wp2_with fail
  go_ret
  exact ⟨rfl, _, rfl⟩
theorem sees_dgt_no (b : Nat) (s : ByteArray) (w : World) (h : Rd w b s s.size) : Calls Tryz.prog 236 #[.pointer (some ⟨b, 0, none⟩), .func (.func 260) #[] #[]] w fun e w' => e = .returned (.bool false) ∧ ∃ n, w' = w.drewN n := by
  have EE := Lib.hid (fun n => ends_yes b s (w.drewN n) h)
  obtain ⟨c0, c1⟩ := h.cells
  clear h
  go_enter Tryz.func236, Tryz.ntmps236
  go_wp2_with fail
  go_quiet ((go_at_call 235; exact q_drew (EE.out _)))
  go_wp2_with fail
  go_ret
  exact ⟨rfl, _, rfl⟩
theorem sees_dgt_at (b k c : Nat) (s : ByteArray) (w : World) (h : Rd w b s k) (hk : k < s.size) (hc : ∀ h, (s[k]'h).toNat = c) : Calls Tryz.prog 236 #[.pointer (some ⟨b, 0, none⟩), .func (.func 260) #[] #[]] w fun e w' => e = .returned (.bool (dgt c)) ∧ ∃ n, w' = w.drewN n := by
  have EE := Lib.hid (fun n => ends_no b k s (w.drewN n) h hk)
  obtain ⟨c0, c1⟩ := h.cells
  have P := fun w => dgt_any c w
  obtain ⟨x, ex⟩ : ∃ x, x = dgt c := ⟨_, rfl⟩
  rw [← ex] at P ⊢
  have PH := Lib.hid P
  have hk2 : (k : Int) < s.size := by omega
  clear h P ex
  go_enter Tryz.func236, Tryz.ntmps236
  go_wp2_with fail
  go_quiet ((first | (go_at_call 235; exact q_drew (EE.out _)) | (go_at_call 260; exact (PH.out _).mono fun _ _ ⟨he, hm⟩ => ⟨he, _, hm.symm⟩)))
  go_wp2_with fail
  go_ret
  exact ⟨rfl, _, rfl⟩
theorem sees_inm_no (b : Nat) (s : ByteArray) (w : World) (h : Rd w b s s.size) : Calls Tryz.prog 236 #[.pointer (some ⟨b, 0, none⟩), .func (.func 239) #[] #[]] w fun e w' => e = .returned (.bool false) ∧ ∃ n, w' = w.drewN n := by
  have EE := Lib.hid (fun n => ends_yes b s (w.drewN n) h)
  obtain ⟨c0, c1⟩ := h.cells
  clear h
  go_enter Tryz.func236, Tryz.ntmps236
  go_wp2_with fail
  go_quiet ((go_at_call 235; exact q_drew (EE.out _)))
  go_wp2_with fail
  go_ret
  exact ⟨rfl, _, rfl⟩
theorem sees_inm_at (b k c : Nat) (s : ByteArray) (w : World) (h : Rd w b s k) (hk : k < s.size) (hc : ∀ h, (s[k]'h).toNat = c) : Calls Tryz.prog 236 #[.pointer (some ⟨b, 0, none⟩), .func (.func 239) #[] #[]] w fun e w' => e = .returned (.bool (inm c)) ∧ ∃ n, w' = w.drewN n := by
  have EE := Lib.hid (fun n => ends_no b k s (w.drewN n) h hk)
  obtain ⟨c0, c1⟩ := h.cells
  have P := fun w => inm_any c w
  obtain ⟨x, ex⟩ : ∃ x, x = inm c := ⟨_, rfl⟩
  rw [← ex] at P ⊢
  have PH := Lib.hid P
  have hk2 : (k : Int) < s.size := by omega
  clear h P ex
  go_enter Tryz.func236, Tryz.ntmps236
  go_wp2_with fail
  go_quiet ((first | (go_at_call 235; exact q_drew (EE.out _)) | (go_at_call 239; exact (PH.out _).mono fun _ _ ⟨he, hm⟩ => ⟨he, _, hm.symm⟩)))
  go_wp2_with fail
  go_ret
  exact ⟨rfl, _, rfl⟩
theorem sees_rmk_no (b : Nat) (s : ByteArray) (w : World) (h : Rd w b s s.size) : Calls Tryz.prog 236 #[.pointer (some ⟨b, 0, none⟩), .func (.func 234) #[] #[]] w fun e w' => e = .returned (.bool false) ∧ ∃ n, w' = w.drewN n := by
  have EE := Lib.hid (fun n => ends_yes b s (w.drewN n) h)
  obtain ⟨c0, c1⟩ := h.cells
  clear h
  go_enter Tryz.func236, Tryz.ntmps236
  go_wp2_with fail
  go_quiet ((go_at_call 235; exact q_drew (EE.out _)))
  go_wp2_with fail
  go_ret
  exact ⟨rfl, _, rfl⟩
theorem sees_rmk_at (b k c : Nat) (s : ByteArray) (w : World) (h : Rd w b s k) (hk : k < s.size) (hc : ∀ h, (s[k]'h).toNat = c) : Calls Tryz.prog 236 #[.pointer (some ⟨b, 0, none⟩), .func (.func 234) #[] #[]] w fun e w' => e = .returned (.bool (rmk c)) ∧ ∃ n, w' = w.drewN n := by
  have EE := Lib.hid (fun n => ends_no b k s (w.drewN n) h hk)
  obtain ⟨c0, c1⟩ := h.cells
  have P := fun w => rmk_any c w
  obtain ⟨x, ex⟩ : ∃ x, x = rmk c := ⟨_, rfl⟩
  rw [← ex] at P ⊢
  have PH := Lib.hid P
  have hk2 : (k : Int) < s.size := by omega
  clear h P ex
  go_enter Tryz.func236, Tryz.ntmps236
  go_wp2_with fail
  go_quiet ((first | (go_at_call 235; exact q_drew (EE.out _)) | (go_at_call 234; exact (PH.out _).mono fun _ _ ⟨he, hm⟩ => ⟨he, _, hm.symm⟩)))
  go_wp2_with fail
  go_ret
  exact ⟨rfl, _, rfl⟩
end Go.Proofs.YtfghfnpiaccfaaaGreatDoor
namespace Go.Proofs.YtfghfnpiaccfaaaGreatDoor
open Go Go.RowKit
def posOf (w : World) (b : Nat) : Nat := match w.cell? ⟨b, 1, none⟩ with | some v => (intOf v).toNat | none => 0
theorem Rd.pos {w : World} {b : Nat} {s : ByteArray} {k : Nat} (h : Rd w b s k) : posOf w b = k := by
  unfold posOf
  rw [h.cells.2]
  simp [intOf]
theorem Str.drop_all {s : ByteArray} {l : List Nat} (h : Str s l) (k : Nat) : Str (s.extract k s.size) (l.drop k) := by
  have := h.extract k s.size
  rwa [List.take_of_length_le (by rw [List.length_drop, h.size]; omega)] at this
theorem Str.byte {s : ByteArray} {l : List Nat} (h : Str s l) (k : Nat) : ∀ h, (s[k]'h).toNat = l.getD k 0 := fun hk => h.at_ k hk
theorem grown_drawn {a w : World} {r : Option Nat} (h : a.grownBy w r) (n : Nat) : a.grownBy (w.drewN n) r := ⟨h.os, h.tape, h.output, h.size, h.block⟩
set_option maxHeartbeats 1000000 in
theorem take_yes (b k : Nat) (s t : ByteArray) (l m : List Nat) (hs : Str s l) (ht : Str t m) (hl : l.length ≤ 60000) (hm : m.length ≤ 10) (hk : k ≤ l.length) (hp : isPre m (l.drop k) = true) (w : World) (h : Rd w b s k) :
    Calls Tryz.prog 233 #[.pointer (some ⟨b, 0, none⟩), .string t] w fun e w' => e = .returned (.bool true) ∧ w.grownBy w' (some b) ∧ Rd w' b s (k + m.length) := by
  have HP := fun w => hasPre_any (s.extract k s.size) t (l.drop k) m (hs.drop_all k) ht w
  rw [hp] at HP
  have hz := hs.size
  have hy := ht.size
  have HH := Lib.hid h
  obtain ⟨c0, c1⟩ := h.cells
  obtain ⟨x, ex⟩ : ∃ x : Int, x = k := ⟨_, rfl⟩
  have e1 : k = x.toNat := by omega
  rw [e1] at HP
  rw [← ex] at c1
  have PH := Lib.hid HP
  have h0 : 0 ≤ x := by omega
  have h1 : x ≤ s.size := by omega
  have h2 : x ≤ 60000 := by omega
  have h3 : (t.size : Int) ≤ 10 := by omega
  have f1 := Blk.frozen h 1
  have EX := Lib.hid ex
  have EY := Lib.hid hy
  clear h hp hz hy e1 ex hk hm hl hs ht HP
  go_enter Tryz.func233, Tryz.ntmps233
  go_wp2_with fail
  go_quiet ((go_at_call 259; exact (PH.out _).mono fun _ _ ⟨he, hm⟩ => ⟨he, _, hm.symm⟩))
  go_wp2_with fail
  go_ret
  refine ⟨rfl, ?_⟩
  have q := Rd.set (w := w.drewN nq) HH.out (k + m.length) (x + t.size) (by have := EX.out; have := EY.out; omega)
  exact ⟨grown_trans (drawn_grown w nq b) q.2, q.1⟩
theorem take_no (b k : Nat) (s t : ByteArray) (l m : List Nat) (hs : Str s l) (ht : Str t m) (hk : k ≤ l.length) (hp : isPre m (l.drop k) = false) (w : World) (h : Rd w b s k) :
    Calls Tryz.prog 233 #[.pointer (some ⟨b, 0, none⟩), .string t] w fun e w' => e = .returned (.bool false) ∧ ∃ n, w' = w.drewN n := by
  have HP := fun w => hasPre_any (s.extract k s.size) t (l.drop k) m (hs.drop_all k) ht w
  rw [hp] at HP
  have hz := hs.size
  obtain ⟨c0, c1⟩ := h.cells
  obtain ⟨x, ex⟩ : ∃ x : Int, x = k := ⟨_, rfl⟩
  have e1 : k = x.toNat := by omega
  rw [e1] at HP
  rw [← ex] at c1
  have PH := Lib.hid HP
  have h0 : 0 ≤ x := by omega
  have h1 : x ≤ s.size := by omega
  clear h hp hz e1 ex hk hs ht HP
  go_enter Tryz.func233, Tryz.ntmps233
  go_wp2_with fail
  go_quiet ((go_at_call 259; exact (PH.out _).mono fun _ _ ⟨he, hm⟩ => ⟨he, _, hm.symm⟩))
  go_wp2_with fail
  go_ret
  exact ⟨rfl, _, rfl⟩
set_option maxHeartbeats 1000000 in
theorem pass_bln (b k : Nat) (s : ByteArray) (l : List Nat) (hs : Str s l) (hl : l.length ≤ 60000) (hk : k ≤ l.length) (w : World) (h : Rd w b s k) :
    Calls Tryz.prog 231 #[.pointer (some ⟨b, 0, none⟩), .func (.func 232) #[] #[]] w fun e w' => e = .returned (.tuple #[]) ∧ w.grownBy w' (some b) ∧ Rd w' b s (k + lead bln (l.drop k)) := by
  have HZ := Lib.hid hs.size
  have HS := Lib.hid hs
  have HH := Lib.hid h
  clear hs h
  go_enter Tryz.func231, Tryz.ntmps231
  go_wp2_with fail
  go_loopw [] (fun wr => ∃ j : Nat, j ≤ l.length ∧ Rd wr b s j ∧ w.grownBy wr (some b) ∧ j + lead bln (l.drop j) = k + lead bln (l.drop k)) (fun wr => l.length - posOf wr b)
  case atStart => exact ⟨k, hk, HH.out, World.grownBy.refl _ _, rfl⟩
  case round =>
    obtain ⟨j, hj, hR, hg, he⟩ := hrel
    have R := Lib.hid hR
    have G := Lib.hid hg
    have E := Lib.hid he
    obtain ⟨c0, c1⟩ := hR.cells
    have f1 := Blk.frozen hR 1
    clear hR hg he
    by_cases hlt : j < l.length
    · have SA := Lib.hid (sees_bln_at b j (l.getD j 0) s wr R.out (by rw [HZ.out]; exact hlt) (HS.out.byte j))
      have LA := Lib.hid (lead_at (p := bln) hlt)
      obtain ⟨x, ex⟩ : ∃ x, x = bln (l.getD j 0) := ⟨_, rfl⟩
      rw [← ex] at SA LA
      clear ex
      cases x with
      | true =>
        have h2 : (j : Int) ≤ 60000 := by omega
        go_wp2_with (go_at_call 236; refine SA.out.mono ?_; rintro e w1 ⟨rfl, n, rfl⟩)
        go_roundw
        case rel =>
          have q := Rd.set (w := wr.drewN n) R.out (j + 1) (j + 1) (by omega)
          have la := LA.out
          simp only [if_true] at la
          exact ⟨j + 1, by omega, q.1, grown_trans (grown_drawn G.out n) q.2, by have := E.out; omega⟩
        case measure =>
          have q := Rd.set (w := wr.drewN n) R.out (j + 1) (j + 1) (by omega)
          rw [q.1.pos, R.out.pos]; omega
      | false =>
        go_wp2_with (go_at_call 236; refine SA.out.mono ?_; rintro e w1 ⟨rfl, n, rfl⟩)
        go_end0
        have la := LA.out
        simp only [Bool.false_eq_true, if_false] at la
        exact ⟨rfl, grown_drawn G.out n, by have := E.out; rw [← this, la]; exact R.out⟩
    · obtain rfl : j = l.length := by omega
      have SN := Lib.hid (sees_bln_no b s wr (by rw [HZ.out]; exact R.out))
      go_wp2_with (go_at_call 236; refine SN.out.mono ?_; rintro e w1 ⟨rfl, n, rfl⟩)
      go_end0
      exact ⟨rfl, grown_drawn G.out n, by have := E.out; rw [lead_end (Nat.le_refl _)] at this; rw [← this]; exact R.out⟩
set_option maxHeartbeats 1000000 in
theorem pass_dgt (b k : Nat) (s : ByteArray) (l : List Nat) (hs : Str s l) (hl : l.length ≤ 60000) (hk : k ≤ l.length) (w : World) (h : Rd w b s k) :
    Calls Tryz.prog 231 #[.pointer (some ⟨b, 0, none⟩), .func (.func 260) #[] #[]] w fun e w' => e = .returned (.tuple #[]) ∧ w.grownBy w' (some b) ∧ Rd w' b s (k + lead dgt (l.drop k)) := by
  have HZ := Lib.hid hs.size
  have HS := Lib.hid hs
  have HH := Lib.hid h
  clear hs h
  go_enter Tryz.func231, Tryz.ntmps231
  go_wp2_with fail
  go_loopw [] (fun wr => ∃ j : Nat, j ≤ l.length ∧ Rd wr b s j ∧ w.grownBy wr (some b) ∧ j + lead dgt (l.drop j) = k + lead dgt (l.drop k)) (fun wr => l.length - posOf wr b)
  case atStart => exact ⟨k, hk, HH.out, World.grownBy.refl _ _, rfl⟩
  case round =>
    obtain ⟨j, hj, hR, hg, he⟩ := hrel
    have R := Lib.hid hR
    have G := Lib.hid hg
    have E := Lib.hid he
    obtain ⟨c0, c1⟩ := hR.cells
    have f1 := Blk.frozen hR 1
    clear hR hg he
    by_cases hlt : j < l.length
    · have SA := Lib.hid (sees_dgt_at b j (l.getD j 0) s wr R.out (by rw [HZ.out]; exact hlt) (HS.out.byte j))
      have LA := Lib.hid (lead_at (p := dgt) hlt)
      obtain ⟨x, ex⟩ : ∃ x, x = dgt (l.getD j 0) := ⟨_, rfl⟩
      rw [← ex] at SA LA
      clear ex
      cases x with
      | true =>
        have h2 : (j : Int) ≤ 60000 := by omega
        go_wp2_with (go_at_call 236; refine SA.out.mono ?_; rintro e w1 ⟨rfl, n, rfl⟩)
        go_roundw
        case rel =>
          have q := Rd.set (w := wr.drewN n) R.out (j + 1) (j + 1) (by omega)
          have la := LA.out
          simp only [if_true] at la
          exact ⟨j + 1, by omega, q.1, grown_trans (grown_drawn G.out n) q.2, by have := E.out; omega⟩
        case measure =>
          have q := Rd.set (w := wr.drewN n) R.out (j + 1) (j + 1) (by omega)
          rw [q.1.pos, R.out.pos]; omega
      | false =>
        go_wp2_with (go_at_call 236; refine SA.out.mono ?_; rintro e w1 ⟨rfl, n, rfl⟩)
        go_end0
        have la := LA.out
        simp only [Bool.false_eq_true, if_false] at la
        exact ⟨rfl, grown_drawn G.out n, by have := E.out; rw [← this, la]; exact R.out⟩
    · obtain rfl : j = l.length := by omega
      have SN := Lib.hid (sees_dgt_no b s wr (by rw [HZ.out]; exact R.out))
      go_wp2_with (go_at_call 236; refine SN.out.mono ?_; rintro e w1 ⟨rfl, n, rfl⟩)
      go_end0
      exact ⟨rfl, grown_drawn G.out n, by have := E.out; rw [lead_end (Nat.le_refl _)] at this; rw [← this]; exact R.out⟩
set_option maxHeartbeats 1000000 in
theorem pass_inm (b k : Nat) (s : ByteArray) (l : List Nat) (hs : Str s l) (hl : l.length ≤ 60000) (hk : k ≤ l.length) (w : World) (h : Rd w b s k) :
    Calls Tryz.prog 231 #[.pointer (some ⟨b, 0, none⟩), .func (.func 239) #[] #[]] w fun e w' => e = .returned (.tuple #[]) ∧ w.grownBy w' (some b) ∧ Rd w' b s (k + lead inm (l.drop k)) := by
  have HZ := Lib.hid hs.size
  have HS := Lib.hid hs
  have HH := Lib.hid h
  clear hs h
  go_enter Tryz.func231, Tryz.ntmps231
  go_wp2_with fail
  go_loopw [] (fun wr => ∃ j : Nat, j ≤ l.length ∧ Rd wr b s j ∧ w.grownBy wr (some b) ∧ j + lead inm (l.drop j) = k + lead inm (l.drop k)) (fun wr => l.length - posOf wr b)
  case atStart => exact ⟨k, hk, HH.out, World.grownBy.refl _ _, rfl⟩
  case round =>
    obtain ⟨j, hj, hR, hg, he⟩ := hrel
    have R := Lib.hid hR
    have G := Lib.hid hg
    have E := Lib.hid he
    obtain ⟨c0, c1⟩ := hR.cells
    have f1 := Blk.frozen hR 1
    clear hR hg he
    by_cases hlt : j < l.length
    · have SA := Lib.hid (sees_inm_at b j (l.getD j 0) s wr R.out (by rw [HZ.out]; exact hlt) (HS.out.byte j))
      have LA := Lib.hid (lead_at (p := inm) hlt)
      obtain ⟨x, ex⟩ : ∃ x, x = inm (l.getD j 0) := ⟨_, rfl⟩
      rw [← ex] at SA LA
      clear ex
      cases x with
      | true =>
        have h2 : (j : Int) ≤ 60000 := by omega
        go_wp2_with (go_at_call 236; refine SA.out.mono ?_; rintro e w1 ⟨rfl, n, rfl⟩)
        go_roundw
        case rel =>
          have q := Rd.set (w := wr.drewN n) R.out (j + 1) (j + 1) (by omega)
          have la := LA.out
          simp only [if_true] at la
          exact ⟨j + 1, by omega, q.1, grown_trans (grown_drawn G.out n) q.2, by have := E.out; omega⟩
        case measure =>
          have q := Rd.set (w := wr.drewN n) R.out (j + 1) (j + 1) (by omega)
          rw [q.1.pos, R.out.pos]; omega
      | false =>
        go_wp2_with (go_at_call 236; refine SA.out.mono ?_; rintro e w1 ⟨rfl, n, rfl⟩)
        go_end0
        have la := LA.out
        simp only [Bool.false_eq_true, if_false] at la
        exact ⟨rfl, grown_drawn G.out n, by have := E.out; rw [← this, la]; exact R.out⟩
    · obtain rfl : j = l.length := by omega
      have SN := Lib.hid (sees_inm_no b s wr (by rw [HZ.out]; exact R.out))
      go_wp2_with (go_at_call 236; refine SN.out.mono ?_; rintro e w1 ⟨rfl, n, rfl⟩)
      go_end0
      exact ⟨rfl, grown_drawn G.out n, by have := E.out; rw [lead_end (Nat.le_refl _)] at this; rw [← this]; exact R.out⟩
set_option maxHeartbeats 1000000 in
theorem pass_rmk (b k : Nat) (s : ByteArray) (l : List Nat) (hs : Str s l) (hl : l.length ≤ 60000) (hk : k ≤ l.length) (w : World) (h : Rd w b s k) :
    Calls Tryz.prog 231 #[.pointer (some ⟨b, 0, none⟩), .func (.func 234) #[] #[]] w fun e w' => e = .returned (.tuple #[]) ∧ w.grownBy w' (some b) ∧ Rd w' b s (k + lead rmk (l.drop k)) := by
  have HZ := Lib.hid hs.size
  have HS := Lib.hid hs
  have HH := Lib.hid h
  clear hs h
  go_enter Tryz.func231, Tryz.ntmps231
  go_wp2_with fail
  go_loopw [] (fun wr => ∃ j : Nat, j ≤ l.length ∧ Rd wr b s j ∧ w.grownBy wr (some b) ∧ j + lead rmk (l.drop j) = k + lead rmk (l.drop k)) (fun wr => l.length - posOf wr b)
  case atStart => exact ⟨k, hk, HH.out, World.grownBy.refl _ _, rfl⟩
  case round =>
    obtain ⟨j, hj, hR, hg, he⟩ := hrel
    have R := Lib.hid hR
    have G := Lib.hid hg
    have E := Lib.hid he
    obtain ⟨c0, c1⟩ := hR.cells
    have f1 := Blk.frozen hR 1
    clear hR hg he
    by_cases hlt : j < l.length
    · have SA := Lib.hid (sees_rmk_at b j (l.getD j 0) s wr R.out (by rw [HZ.out]; exact hlt) (HS.out.byte j))
      have LA := Lib.hid (lead_at (p := rmk) hlt)
      obtain ⟨x, ex⟩ : ∃ x, x = rmk (l.getD j 0) := ⟨_, rfl⟩
      rw [← ex] at SA LA
      clear ex
      cases x with
      | true =>
        have h2 : (j : Int) ≤ 60000 := by omega
        go_wp2_with (go_at_call 236; refine SA.out.mono ?_; rintro e w1 ⟨rfl, n, rfl⟩)
        go_roundw
        case rel =>
          have q := Rd.set (w := wr.drewN n) R.out (j + 1) (j + 1) (by omega)
          have la := LA.out
          simp only [if_true] at la
          exact ⟨j + 1, by omega, q.1, grown_trans (grown_drawn G.out n) q.2, by have := E.out; omega⟩
        case measure =>
          have q := Rd.set (w := wr.drewN n) R.out (j + 1) (j + 1) (by omega)
          rw [q.1.pos, R.out.pos]; omega
      | false =>
        go_wp2_with (go_at_call 236; refine SA.out.mono ?_; rintro e w1 ⟨rfl, n, rfl⟩)
        go_end0
        have la := LA.out
        simp only [Bool.false_eq_true, if_false] at la
        exact ⟨rfl, grown_drawn G.out n, by have := E.out; rw [← this, la]; exact R.out⟩
    · obtain rfl : j = l.length := by omega
      have SN := Lib.hid (sees_rmk_no b s wr (by rw [HZ.out]; exact R.out))
      go_wp2_with (go_at_call 236; refine SN.out.mono ?_; rintro e w1 ⟨rfl, n, rfl⟩)
      go_end0
      exact ⟨rfl, grown_drawn G.out n, by have := E.out; rw [lead_end (Nat.le_refl _)] at this; rw [← this]; exact R.out⟩
end Go.Proofs.YtfghfnpiaccfaaaGreatDoor
namespace Go.Proofs.YtfghfnpiaccfaaaGreatDoor
open Go Go.RowKit
theorem grown_on {a w w' : World} {r : Option Nat} (h : a.grownBy w r) (hb : Below w.heap.size w w') : a.grownBy w' r :=
  ⟨hb.os.trans h.os, hb.tape.trans h.tape, hb.output.trans h.output, Nat.le_trans h.size hb.size, fun k hk hn => (hb.block k (Nat.lt_of_lt_of_le hk h.size)).trans (h.block k hk hn)⟩
theorem below_is_grown {a b : World} (h : Below a.heap.size a b) (r : Option Nat) : a.grownBy b r := ⟨h.os, h.tape, h.output, h.size, fun i hi _ => h.block i hi⟩
theorem Rd.lt {w : World} {b : Nat} {s : ByteArray} {k : Nat} (h : Rd w b s k) : b < w.heap.size := Blk.lt h
set_option maxHeartbeats 1000000 in
theorem row_dgt (b k : Nat) (s : ByteArray) (l : List Nat) (hs : Str s l) (hl : l.length ≤ 60000) (hk : k ≤ l.length) (w : World) (h : Rd w b s k) :
    Calls Tryz.prog 238 #[.pointer (some ⟨b, 0, none⟩), .func (.func 260) #[] #[]] w fun e w' => e = .returned (.string (s.extract k (k + lead dgt (l.drop k)))) ∧ w.grownBy w' (some b) ∧ Rd w' b s (k + lead dgt (l.drop k)) := by
  have HP := Lib.hid (pass_dgt b k s l hs hl hk w h)
  obtain ⟨c0, c1⟩ := h.cells
  have hz := hs.size
  have hle := lead_le dgt (l.drop k)
  rw [List.length_drop] at hle
  obtain ⟨m, em⟩ : ∃ m, m = k + lead dgt (l.drop k) := ⟨_, rfl⟩
  rw [← em] at HP ⊢
  have hm : k ≤ m := by omega
  have hm2 : m ≤ s.size := by omega
  obtain ⟨x, ex⟩ : ∃ x : Int, x = k := ⟨_, rfl⟩
  obtain ⟨y, ey⟩ : ∃ y : Int, y = m := ⟨_, rfl⟩
  have e1 : k = x.toNat := by omega
  have e2 : m = y.toNat := by omega
  have h0 : 0 ≤ x := by omega
  have h1 : x ≤ y := by omega
  have h2 : y ≤ s.size := by omega
  have CC := Lib.hid (fun W => clone_any (s.extract x.toNat y.toNat) (by rw [ByteArray.size_extract]; omega) W)
  have RV : RowKit.Hid (s.extract k m = s.extract x.toNat y.toNat) := Lib.hid (by rw [← e1, ← e2])
  rw [← ex] at c1
  have EY := Lib.hid ey
  clear hs hl hk h em hle hz hm hm2 e1 e2 ex ey
  go_enter Tryz.func238, Tryz.ntmps238
  go_wp2_with (go_at_call 231; refine HP.out.mono ?_; rintro e w1 ⟨rfl, hg, hr⟩; have G := Lib.hid hg; have RR := Lib.hid hr; clear hg hr)
  have d0 := fun e => Ext.cell (w := w1) (v := .string s) RR.out.cells.1 e
  have d1 := fun e => Ext.cell (w := w1) (v := .int .i64 y) (by rw [EY.out]; exact RR.out.cells.2) e
  refine wp_region_ext (by kernel_rfl) (by kernel_rfl) ?_
  repeat (first | go_big_quiet_step (first | (go_at_call 221; with_reducible exact Calls.ext_of (CC.out _))) | quiet_step (first | (go_at_call 221; with_reducible exact Calls.ext_of (CC.out _))))
  refine wpQuiet_nil ?_
  intro wd hw'
  obtain ⟨⟨wd', hb9⟩, e9⟩ := hw'
  obtain rfl : wd = wd' := e9
  have B9 := Lib.hid hb9
  clear hb9 d0 d1
  go_wp2_with fail
  go_ret
  rw [RV.out]
  exact ⟨rfl, grown_on G.out B9.out, RR.out.below B9.out⟩
set_option maxHeartbeats 1000000 in
theorem row_inm (b k : Nat) (s : ByteArray) (l : List Nat) (hs : Str s l) (hl : l.length ≤ 60000) (hk : k ≤ l.length) (w : World) (h : Rd w b s k) :
    Calls Tryz.prog 238 #[.pointer (some ⟨b, 0, none⟩), .func (.func 239) #[] #[]] w fun e w' => e = .returned (.string (s.extract k (k + lead inm (l.drop k)))) ∧ w.grownBy w' (some b) ∧ Rd w' b s (k + lead inm (l.drop k)) := by
  have HP := Lib.hid (pass_inm b k s l hs hl hk w h)
  obtain ⟨c0, c1⟩ := h.cells
  have hz := hs.size
  have hle := lead_le inm (l.drop k)
  rw [List.length_drop] at hle
  obtain ⟨m, em⟩ : ∃ m, m = k + lead inm (l.drop k) := ⟨_, rfl⟩
  rw [← em] at HP ⊢
  have hm : k ≤ m := by omega
  have hm2 : m ≤ s.size := by omega
  obtain ⟨x, ex⟩ : ∃ x : Int, x = k := ⟨_, rfl⟩
  obtain ⟨y, ey⟩ : ∃ y : Int, y = m := ⟨_, rfl⟩
  have e1 : k = x.toNat := by omega
  have e2 : m = y.toNat := by omega
  have h0 : 0 ≤ x := by omega
  have h1 : x ≤ y := by omega
  have h2 : y ≤ s.size := by omega
  have CC := Lib.hid (fun W => clone_any (s.extract x.toNat y.toNat) (by rw [ByteArray.size_extract]; omega) W)
  have RV : RowKit.Hid (s.extract k m = s.extract x.toNat y.toNat) := Lib.hid (by rw [← e1, ← e2])
  rw [← ex] at c1
  have EY := Lib.hid ey
  clear hs hl hk h em hle hz hm hm2 e1 e2 ex ey
  go_enter Tryz.func238, Tryz.ntmps238
  go_wp2_with (go_at_call 231; refine HP.out.mono ?_; rintro e w1 ⟨rfl, hg, hr⟩; have G := Lib.hid hg; have RR := Lib.hid hr; clear hg hr)
  have d0 := fun e => Ext.cell (w := w1) (v := .string s) RR.out.cells.1 e
  have d1 := fun e => Ext.cell (w := w1) (v := .int .i64 y) (by rw [EY.out]; exact RR.out.cells.2) e
  refine wp_region_ext (by kernel_rfl) (by kernel_rfl) ?_
  repeat (first | go_big_quiet_step (first | (go_at_call 221; with_reducible exact Calls.ext_of (CC.out _))) | quiet_step (first | (go_at_call 221; with_reducible exact Calls.ext_of (CC.out _))))
  refine wpQuiet_nil ?_
  intro wd hw'
  obtain ⟨⟨wd', hb9⟩, e9⟩ := hw'
  obtain rfl : wd = wd' := e9
  have B9 := Lib.hid hb9
  clear hb9 d0 d1
  go_wp2_with fail
  go_ret
  rw [RV.out]
  exact ⟨rfl, grown_on G.out B9.out, RR.out.below B9.out⟩
theorem isPre_hash (l : List Nat) : isPre [35] l = match l with | c :: _ => 35 == c | [] => false := by
  cases l with
  | nil => rfl
  | cons c r => simp [isPre]
set_option maxRecDepth 100000 in
set_option maxHeartbeats 2000000 in
theorem skip_any (b k : Nat) (s : ByteArray) (l : List Nat) (hs : Str s l) (hl : l.length ≤ 60000) (hk : k ≤ l.length) (w : World) (h : Rd w b s k) :
    Calls Tryz.prog 198 #[.pointer (some ⟨b, 0, none⟩)] w fun e w' => e = .returned (.tuple #[]) ∧ w.grownBy w' (some b) ∧ Rd w' b s (k + sk false (l.drop k)) := by
  have PB := Lib.hid (fun j hj W hW => pass_bln b j s l hs hl hj W hW)
  have PR := Lib.hid (fun j hj W hW => pass_rmk b j s l hs hl hj W hW)
  have TY := Lib.hid (fun j hj hp W hW => by have q := take_yes b j s ⟨#[35]⟩ l [35] hs rfl hl (by decide) hj hp W hW; rw [show ([35] : List Nat).length = 1 from rfl] at q; exact q)
  have TN := Lib.hid (fun j hj hp W hW => take_no b j s ⟨#[35]⟩ l [35] hs rfl hj hp W hW)
  have HH := Lib.hid h
  have st := sk_blank (l.drop k)
  rw [List.drop_drop] at st
  have le0 := lead_le bln (l.drop k)
  rw [List.length_drop] at le0
  have ST := Lib.hid st
  have LS := Lib.hid (lead_stop bln (l.drop k))
  clear h st hs hl
  go_enter Tryz.func198, Tryz.ntmps198
  go_wp2_with (go_at_call 231; (with_reducible refine (PB.out k hk w HH.out).mono ?_); rintro e w1 ⟨rfl, hg, hr⟩; have G := Lib.hid hg; have RR := Lib.hid hr; clear hg hr)
  go_loopw [] (fun wr => ∃ j : Nat, j ≤ l.length ∧ Rd wr b s j ∧ w.grownBy wr (some b) ∧ k + sk false (l.drop k) = j + sk false (l.drop j) ∧ ∀ c r, l.drop j = c :: r → bln c = false) (fun wr => l.length - posOf wr b)
  case atStart => exact ⟨k + lead bln (l.drop k), by omega, RR.out, G.out, by have := ST.out; omega, fun c r e => LS.out c r (by rw [List.drop_drop]; exact e)⟩
  case round =>
    obtain ⟨j, hj, hR, hg, he, hb⟩ := hrel
    have R := Lib.hid hR
    have GG := Lib.hid hg
    have E := Lib.hid he
    have HB := Lib.hid hb
    clear hR hg he hb
    cases hp : isPre [35] (l.drop j) with
    | true =>
      have HP := Lib.hid hp
      obtain ⟨r, hr⟩ : ∃ r, l.drop j = 35 :: r := by
        rw [isPre_hash] at hp
        cases hd : l.drop j with
        | nil => rw [hd] at hp; cases hp
        | cons c r => rw [hd] at hp; simp at hp; exact ⟨r, by rw [hp]⟩
      have hjl : j < l.length := by
        apply Nat.lt_of_not_le
        intro hge
        rw [List.drop_of_length_le hge] at hr
        cases hr
      have hr1 : l.drop (j + 1) = r := by rw [← List.drop_drop, hr]; rfl
      have le1 := lead_le rmk (l.drop (j + 1))
      rw [List.length_drop] at le1
      have le2 := lead_le bln (l.drop (j + 1 + lead rmk (l.drop (j + 1))))
      rw [List.length_drop] at le2
      have st := sk_hash r
      have st2 := sk_blank (r.drop (lead rmk r))
      rw [← hr1, List.drop_drop] at st2
      rw [← hr, ← hr1, List.drop_drop] at st
      rw [List.drop_drop] at st2
      have SS := Lib.hid st
      have S2 := Lib.hid st2
      have LS2 := Lib.hid (lead_stop bln (l.drop (j + 1 + lead rmk (l.drop (j + 1)))))
      have hj1 : j + 1 ≤ l.length := hjl
      have hj2 : j + 1 + lead rmk (l.drop (j + 1)) ≤ l.length := by omega
      clear hp hr hr1 st st2
      go_wp2_with (go_at_call 233; refine (TY.out j hj HP.out wr R.out).mono ?_; rintro e w2 ⟨rfl, hg, hr⟩; have G2 := Lib.hid hg; have R2 := Lib.hid hr; clear hg hr)
      go_wp2_with (go_at_call 231; (with_reducible refine (PR.out (j + 1) hj1 w2 R2.out).mono ?_); rintro e w3 ⟨rfl, hg, hr⟩; have G3 := Lib.hid hg; have R3 := Lib.hid hr; clear hg hr)
      go_wp2_with (go_at_call 231; (with_reducible refine (PB.out (j + 1 + lead rmk (l.drop (j + 1))) hj2 w3 R3.out).mono ?_); rintro e w4 ⟨rfl, hg, hr⟩; have G4 := Lib.hid hg; have R4 := Lib.hid hr; clear hg hr)
      go_roundw
      case rel =>
        exact ⟨_, by omega, R4.out, grown_trans (grown_trans (grown_trans GG.out G2.out) G3.out) G4.out, by have := E.out; have := SS.out; have := S2.out; omega, fun c r e => LS2.out c r (by rw [List.drop_drop]; exact e)⟩
      case measure => rw [R4.out.pos, R.out.pos]; omega
    | false =>
      have HP := Lib.hid hp
      have Z : RowKit.Hid (sk false (l.drop j) = 0) := Lib.hid (sk_none (fun c r e => ⟨HB.out c r e, fun e2 => by
        rw [isPre_hash, e, e2] at hp
        simp at hp⟩))
      clear hp
      go_wp2_with (go_at_call 233; refine (TN.out j hj HP.out wr R.out).mono ?_; rintro e w2 ⟨rfl, n, rfl⟩)
      go_end0
      exact ⟨rfl, grown_drawn GG.out n, by rw [E.out, Z.out]; exact R.out⟩
theorem RE_no {p a : Int} {r : List Nat} (h : rd p r = none) : RE p a r = .returned (.tuple #[.int .u8 0, .int .i64 0, .bool false]) := by simp only [RE, h]
theorem RE_yes {p a : Int} {r : List Nat} {x n : Nat} (h : rd p r = some (x, n)) : RE p a r = .returned (.tuple #[.int .u8 x, .int .i64 (a + n), .bool true]) := by simp only [RE, h]
set_option maxHeartbeats 1000000 in
theorem cread_no (b k : Nat) (p : Int) (s : ByteArray) (l : List Nat) (hs : Str s l) (hl : l.length ≤ 60000) (hk : k ≤ l.length) (hr : rd p (l.drop k) = none) (w : World) (h : Rd w b s k) (hT : Tab w) :
    Calls Tryz.prog 241 #[.pointer (some ⟨b, 0, none⟩), .int .i64 p] w fun e w' => e = .returned (.tuple #[.int .u8 0, .bool false]) ∧ Below w.heap.size w w' := by
  have CR := Lib.hid (fun (e : Ext w) => by have := Read_any s l k p hs hl (by omega) e.val (hT.below e.grown); rw [rst_nat, RE_no hr] at this; exact this)
  have d0 := fun e => Ext.cell (w := w) (v := .string s) h.cells.1 e
  have d1 := fun e => Ext.cell (w := w) (v := .int .i64 k) h.cells.2 e
  clear hs hl hr hT h
  go_enter Tryz.func241, Tryz.ntmps241
  go_wp2_with fail
  refine wp_region_ext (by kernel_rfl) (by kernel_rfl) ?_
  repeat (first | go_big_quiet_step (first | (go_at_call 262; with_reducible exact Calls.ext_of (CR.out _))) | quiet_step (first | (go_at_call 262; with_reducible exact Calls.ext_of (CR.out _))))
  refine wpQuiet_nil ?_
  intro wd hw'
  obtain ⟨⟨wd', hb9⟩, e9⟩ := hw'
  obtain rfl : wd = wd' := e9
  have B9 := Lib.hid hb9
  clear hb9 d0 d1
  go_wp2_with fail
  go_ret2
  exact ⟨rfl, B9.out⟩
set_option maxHeartbeats 1000000 in
theorem cread_yes (b k x n : Nat) (p : Int) (s : ByteArray) (l : List Nat) (hs : Str s l) (hl : l.length ≤ 60000) (hk : k ≤ l.length) (hr : rd p (l.drop k) = some (x, n)) (w : World) (h : Rd w b s k) (hT : Tab w) :
    Calls Tryz.prog 241 #[.pointer (some ⟨b, 0, none⟩), .int .i64 p] w fun e w' => e = .returned (.tuple #[.int .u8 x, .bool true]) ∧ w.grownBy w' (some b) ∧ Rd w' b s (k + n) := by
  obtain ⟨y, ey⟩ : ∃ y : Int, y = (k : Int) + n := ⟨_, rfl⟩
  have CR := Lib.hid (fun (e : Ext w) => by have := Read_any s l k p hs hl (by omega) e.val (hT.below e.grown); rw [rst_nat, RE_yes hr, ← ey] at this; exact this)
  have d0 := fun e => Ext.cell (w := w) (v := .string s) h.cells.1 e
  have d1 := fun e => Ext.cell (w := w) (v := .int .i64 k) h.cells.2 e
  have HH := Lib.hid h
  have EY := Lib.hid ey
  clear hs hl hr hT h ey
  go_enter Tryz.func241, Tryz.ntmps241
  go_wp2_with fail
  refine wp_region_ext (by kernel_rfl) (by kernel_rfl) ?_
  repeat (first | go_big_quiet_step (first | (go_at_call 262; with_reducible exact Calls.ext_of (CR.out _))) | quiet_step (first | (go_at_call 262; with_reducible exact Calls.ext_of (CR.out _))))
  refine wpQuiet_nil ?_
  intro wd hw'
  obtain ⟨⟨wd', hb9⟩, e9⟩ := hw'
  obtain rfl : wd = wd' := e9
  have B9 := Lib.hid hb9
  have R9 := Lib.hid (HH.out.below hb9)
  have c1 := R9.out.cells.2
  have f1 := Blk.frozen R9.out 1
  clear hb9 d0 d1
  go_wp2_with fail
  go_ret2
  have q := Rd.set R9.out (k + n) y (by rw [EY.out]; omega)
  exact ⟨rfl, grown_trans (below_is_grown B9.out _) q.2, q.1⟩
end Go.Proofs.YtfghfnpiaccfaaaGreatDoor

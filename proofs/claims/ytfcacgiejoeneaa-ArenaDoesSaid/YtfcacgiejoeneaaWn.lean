/- Contracts of numbers, All of an arena of ints, as range-functions. -/
import Derived.Test.YtfcacgiejoeneaaWg
import Derived.Test.YtfcacgiejoeneaaRw
import Derived.Shelf.Abstract
import Derived.Shelf.RegionOpen
import Derived.LoopNIn
import Derived.LoopIn
namespace Go.Proofs.Ytfcacgiejoeneaa
open Go Go.RowKit Go.Shelf
attribute [local go_sem] Oper.semAt_some

/-- What the going through leans on: a row's block, its things. -/
structure Ext3 (w : World) (b : Nat) (v : Value) (xs : List Value) : Prop where
  cell : w.cell? ⟨b, 0, none⟩ = some v
  own : w.ownsRow 0 3 1 v xs.length xs
theorem Ext3.lt {w : World} {b : Nat} {v : Value} {xs : List Value} (h : Ext3 w b v xs) : b < w.heap.size := block_lt_of_cell h.cell
theorem Ext3.kept {w w' : World} {b : Nat} {v : Value} {xs : List Value} (h : Ext3 w b v xs) (h1 : w'.heap[b]? = w.heap[b]?) (h2 : ∀ k, v.ownBlock = some k → w'.heap[k]? = w.heap[k]?) : Ext3 w' b v xs :=
  ⟨(World.cell?_of_block (a := ⟨b, 0, none⟩) h1).trans h.cell, own_kept h.own h2⟩
theorem Ext3.left {G : Nat → Prop} {B : Nat} {w w' : World} {b : Nat} {v : Value} {xs : List Value} (h : Ext3 w b v xs) (hl : Left G B w w') (h1 : G b ∨ B ≤ b) (h2 : ∀ k, v.ownBlock = some k → G k ∨ B ≤ k) : Ext3 w' b v xs :=
  h.kept (hl.block b h.lt h1) (fun k e => hl.block k (h.own.lt k e).2 (h2 k e))
theorem Ext3.below {w w' : World} {b : Nat} {v : Value} {xs : List Value} (h : Ext3 w b v xs) (hl : Below w.heap.size w w') : Ext3 w' b v xs :=
  h.kept (hl.block b h.lt) (fun k e => hl.block k (h.own.lt k e).2)
theorem Ext3.drew {w : World} {b n : Nat} {v : Value} {xs : List Value} (h : Ext3 w b v xs) : Ext3 (w.drewN n) b v xs := h.kept rfl (fun _ _ => rfl)

set_option maxRecDepth 100000 in
set_option maxHeartbeats 2000000 in
theorem numbers1_in (n : Nat) (hn : 1 ≤ n) (l p b : Nat) (v : Value) (xs : List Value) (hxl : xs.length < 9223372036854775807) (G : Nat → Prop) (hp : G p) (hb : G b) (hv : ∀ k, v.ownBlock = some k → G k) (J Jx : Nat → World → Prop)
    (B : Nat) (hY : ∀ k W1, J k W1 → B ≤ W1.heap.size → k < xs.length → YieldAt Fence.wide (n - 1) Try.prog l #[.int .i64 k] W1 fun e W' =>
      (e = .returned (.bool true) ∧ J (k + 1) W' ∧ Left G B W1 W') ∨ (e = .returned (.bool false) ∧ Jx (k + 1) W' ∧ Left (fun _ => False) B W1 W'))
    (W : World) (hB : B ≤ W.heap.size) (hbox : Blk W p #[.pointer (some ⟨b, 0, none⟩)] 77) (hx : Ext3 W b v xs) (h0 : J 0 W) :
    CallsIn Fence.wide n Try.prog 51 #[.func (.yield l) #[] #[], .pointer (some ⟨p, 0, none⟩)] W fun e W' => (∃ v, e = .returned v) ∧ (J xs.length W' ∨ ∃ k, k ≤ xs.length ∧ Jx k W') := by
  obtain ⟨A, c, rfl, _, _⟩ := own_slice hx.own
  have HX := Lib.hid hx
  have HY := Lib.hid hY
  have H0 := Lib.hid h0
  have HV := Lib.hid hv
  have HB := Lib.hid hbox
  have HSZ := Lib.hid hB
  have c0 := hbox.cell 0
  have HC := Lib.hid (i_count_any b xs.length c A W hx.cell)
  have HP := Lib.hid hp
  have HG := Lib.hid hb
  clear hx hY h0 hv hbox hp hb hB
  refine callsIn_of_wp Try.func51 rfl trivial ?_ rfl
  simp only [Try.ntmps51, List.size_toArray, List.length_cons, List.length_nil, Nat.reduceAdd, Nat.reduceSub, Array.replicate_succ, Array.replicate_zero, List.push_toArray, List.append_toArray, List.nil_append, List.cons_append]
  gi_wp2_with (refine ⟨trivial, ?_⟩; gi_at_call 37; refine (callsIn_wide.2 HC.out).mono ?_; rintro e w1 ⟨rfl, rfl⟩)
  clear c0
  gi_loopw [6] (fun i wr => ∃ k : Nat, k ≤ xs.length ∧ i = .int .i64 k ∧ J k wr ∧ Blk wr p #[.pointer (some ⟨b, 0, none⟩)] 77 ∧ Ext3 wr b (.slice A xs.length c) xs ∧ B ≤ wr.heap.size)
    (fun i _ => xs.length - (intOf i).toNat)
  case atStart => exact ⟨0, by omega, rfl, H0.out, HB.out, HX.out, HSZ.out⟩
  case round =>
    obtain ⟨k, hk, rfl, hJ, hbx, hx, hz⟩ := hrel
    by_cases hlt : k < xs.length
    · have c0 := hbx.cell 0
      have HH := Lib.hid (i_has_any b xs.length c A k wr hx.cell)
      have hd : (decide ((0 : Int) ≤ k) && decide ((k : Int) < xs.length)) = true := by simp; omega
      rw [hd] at HH
      have hlt2 : (k : Int) < xs.length := by omega
      obtain ⟨fn, tmps, assign, body, hy, hR⟩ := HY.out k wr hJ hz hlt
      have HR := Lib.hid hR
      have HBX := Lib.hid hbx
      have HXX := Lib.hid hx
      have HZ := Lib.hid hz
      clear hR hbx hx hJ hd hz
      gi_wp2_with (refine ⟨trivial, ?_⟩; gi_at_call 39; refine (callsIn_wide.2 HH.out).mono ?_; rintro e w1 ⟨rfl, rfl⟩)
      refine HR.out.mono ?_
      rintro e W3 (⟨rfl, hJ3, hl3⟩ | ⟨rfl, hJx3, hz3⟩)
      · have hb3 : Blk W3 p #[.pointer (some ⟨b, 0, none⟩)] 77 := (hl3.block p HBX.out.lt (.inl HP.out)).trans HBX.out
        have hx3 := HXX.out.left hl3 (.inl HG.out) (fun j e => .inl (HV.out j e))
        have HB3 := Lib.hid hb3
        have HX3 := Lib.hid hx3
        have HJ3 := Lib.hid hJ3
        have HZ3 : RowKit.Hid (B ≤ W3.heap.size) := Lib.hid (Nat.le_trans HZ.out hl3.size)
        clear hb3 hx3 hJ3 hl3 hy c0
        gi_wp2_with fail
        go_roundw
        case rel => exact ⟨k + 1, by omega, by go_num, HJ3.out, HB3.out, HX3.out, HZ3.out⟩
        case measure => simp [intOf]; omega
      · have HJ3 := Lib.hid hJx3
        clear hJx3 hy c0
        gi_wp2_with fail
        refine bodyPost_ret (results_none rfl _ _ _) rfl ?_
        exact ⟨⟨_, rfl⟩, .inr ⟨k + 1, by omega, HJ3.out⟩⟩
    · obtain rfl : k = xs.length := by omega
      have HJ3 := Lib.hid hJ
      clear hJ hbx hx
      gi_wp2_with fail
      go_end0
      exact ⟨⟨_, rfl⟩, .inl HJ3.out⟩

theorem numbers_any (b : Nat) (w : World) : Calls Try.prog 43 #[.pointer (some ⟨b, 0, none⟩)] w fun e w' => e = .returned (.func (.func 51) #[] #[.pointer (some ⟨w.heap.size, 0, none⟩)]) ∧ w' = w.alloc (.cells #[.pointer (some ⟨b, 0, none⟩)] 77) := by
  go_enter Try.func43, Try.ntmps43
  go_wp2_with fail
  go_ret
  exact ⟨rfl, rfl⟩
end Go.Proofs.Ytfcacgiejoeneaa

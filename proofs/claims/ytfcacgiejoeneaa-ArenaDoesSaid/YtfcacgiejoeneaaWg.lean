/- Contracts of an arena of ints: Set; of what is no arena. -/
import Derived.Test.YtfcacgiejoeneaaWf
namespace Go.Proofs.Ytfcacgiejoeneaa
open Go Go.RowKit
set_option maxHeartbeats 1000000 in
theorem set_no (b : Nat) (most peak : Int) (v : Value) (xs : List Value) (base : Nat) (k x : Int) (hk : k < 0 ∨ (xs.length : Int) ≤ k) (w : World) (h : Ar 61 3 w base b most peak v xs) :
    Calls Try.prog 16 #[.pointer (some ⟨b, 0, none⟩), .int .i64 k, .int .i64 x] w fun e w' => e = .returned (.int .i64 6) ∧ w = w' := by
  obtain ⟨c0, _, _, _⟩ := ar_cells h
  have K := Lib.hid (i_none_any b most peak _ xs base w h)
  obtain ⟨A, cap, rfl, _, _⟩ := own_slice h.own
  have C := Lib.hid (i_has_any b _ cap A k w c0)
  have hd : (decide ((0 : Int) ≤ k) && decide ((k : Int) < xs.length)) = false := by simp; omega
  rw [hd] at C
  clear h hd hk
  go_enter Try.func16, Try.ntmps16
  go_wp2_with (first | (go_at_call 36; refine K.out.mono ?_; rintro e w1 ⟨rfl, rfl⟩) | (go_at_call 39; refine C.out.mono ?_; rintro e w1 ⟨rfl, rfl⟩))
  go_ret
  exact ⟨rfl, rfl⟩
set_option maxHeartbeats 1000000 in
theorem set_yes (b : Nat) (most peak : Int) (v : Value) (xs : List Value) (base k : Nat) (x : Int) (hk : k < xs.length) (w : World) (h : Ar 61 3 w base b most peak v xs) :
    Calls Try.prog 16 #[.pointer (some ⟨b, 0, none⟩), .int .i64 k, .int .i64 x] w fun e w' => e = .returned (.int .i64 0) ∧ Ar 61 3 w' base b most peak v (xs.set k (.int .i64 x)) ∧ Turn w w' b v v := by
  obtain ⟨c0, _, _, _⟩ := ar_cells h
  have K := Lib.hid (i_none_any b most peak _ xs base w h)
  have H := Lib.hid h
  have hvb := own_ne h.own h.blk (by decide)
  obtain ⟨g, cap, rfl, _, _⟩ := own_shape h.own (by omega)
  have C := Lib.hid (i_has_any b _ cap _ k w c0)
  have hd : (decide ((0 : Int) ≤ k) && decide ((k : Int) < xs.length)) = true := by simp; omega
  rw [hd] at C
  have c4 := h.own.cellAt k (by omega)
  rw [List.getElem?_eq_getElem hk] at c4
  have f4 := h.own.frozenAt k
  have hlt2 : (k : Int) < xs.length := by omega
  have HO := Lib.hid (h.own.stored k (.int .i64 x))
  have hgb : b ≠ g := fun e => hvb (by rw [e]; rfl)
  clear h hd hvb
  go_enter Try.func16, Try.ntmps16
  go_wp2_with (first | (go_at_call 36; refine K.out.mono ?_; rintro e w1 ⟨rfl, rfl⟩) | (go_at_call 39; refine C.out.mono ?_; rintro e w1 ⟨rfl, rfl⟩))
  go_ret
  refine ⟨rfl, ⟨H.out.lo, (heap_setCell_other _ _ _ _ hgb).trans H.out.blk, by rw [List.length_set]; exact HO.out.1, by rw [List.length_set]; exact H.out.fits, H.out.room, by rw [List.length_set]; exact H.out.up, H.out.top⟩, ⟨rfl, rfl, rfl, by simp [World.setCell], fun j hj h1 h2 => heap_setCell_other _ _ _ _ (fun e => h2 (by rw [e]; rfl)), fun k h => .inl h⟩⟩

/-- What is no arena: none, or one that New did not answer. -/
def Noa (w : World) (p : Option Addr) : Prop := p = none ∨ ∃ b, p = some ⟨b, 0, none⟩ ∧ Blk w b #[.slice none 0 0, .int .i64 0, .int .i64 0, .pointer none] 61
theorem Noa.below {w w' : World} {p : Option Addr} (h : Noa w p) (hb : Below w.heap.size w w') : Noa w' p := by
  rcases h with h | ⟨b, e, h⟩
  · exact .inl h
  · exact .inr ⟨b, e, h.below' hb⟩
theorem noa_none (p : Option Addr) (w : World) (h : Noa w p) : Calls Try.prog 36 #[.pointer p] w fun e w' => e = .returned (.bool true) ∧ w = w' := by
  rcases h with rfl | ⟨b, rfl, h⟩
  · go_enter Try.func36, Try.ntmps36
    go_wp2_with fail
    go_ret
    exact ⟨rfl, rfl⟩
  · have c3 := h.cell 3
    clear h
    go_enter Try.func36, Try.ntmps36
    go_wp2_with fail
    go_ret
    exact ⟨rfl, rfl⟩
theorem noa_known (p : Option Addr) (w : World) (h : Noa w p) : Calls Try.prog 41 #[.pointer p] w fun e w' => e = .returned (.pointer (some ⟨w.heap.size, 0, none⟩)) ∧ Blk w' w.heap.size #[.slice none 0 0, .int .i64 0, .int .i64 0, .pointer none] 61 ∧ Below w.heap.size w w' := by
  have K := Lib.hid (noa_none p w h)
  clear h
  go_enter Try.func41, Try.ntmps41
  go_wp2_with (go_at_call 36; refine K.out.mono ?_; rintro e w1 ⟨rfl, rfl⟩)
  go_ret
  exact ⟨rfl, Blk.new _ _ _, B1 _ _⟩
theorem noa_put (p : Option Addr) (A : Option Addr) (n c : Nat) (w : World) (h : Noa w p) : Calls Try.prog 12 #[.pointer p, .slice A n c] w fun e w' => e = .returned (.tuple #[.int .i64 0, .int .i64 1]) ∧ w = w' := by
  have K := Lib.hid (noa_none p w h)
  clear h
  go_enter Try.func12, Try.ntmps12
  go_wp2_with (go_at_call 36; refine K.out.mono ?_; rintro e w1 ⟨rfl, rfl⟩)
  go_ret2
  exact ⟨rfl, rfl⟩
theorem noa_set (p : Option Addr) (k x : Int) (w : World) (h : Noa w p) : Calls Try.prog 16 #[.pointer p, .int .i64 k, .int .i64 x] w fun e w' => e = .returned (.int .i64 1) ∧ w = w' := by
  have K := Lib.hid (noa_none p w h)
  clear h
  go_enter Try.func16, Try.ntmps16
  go_wp2_with (go_at_call 36; refine K.out.mono ?_; rintro e w1 ⟨rfl, rfl⟩)
  go_ret
  exact ⟨rfl, rfl⟩
theorem noa_back (p : Option Addr) (k : Int) (w : World) (h : Noa w p) : Calls Try.prog 18 #[.pointer p, .int .i64 k] w fun e w' => e = .returned (.int .i64 1) ∧ w = w' := by
  have K := Lib.hid (noa_none p w h)
  clear h
  go_enter Try.func18, Try.ntmps18
  go_wp2_with (go_at_call 36; refine K.out.mono ?_; rintro e w1 ⟨rfl, rfl⟩)
  go_ret
  exact ⟨rfl, rfl⟩
set_option maxHeartbeats 1000000 in
theorem noa_len (p : Option Addr) (w : World) (h : Noa w p) : Calls Try.prog 24 #[.pointer p] w fun e w' => e = .returned (.int .i64 0) ∧ Below w.heap.size w w' := by
  have K := Lib.hid (noa_known p w h)
  clear h
  go_enter Try.func24, Try.ntmps24
  go_wp2_with (first | (go_at_call 41; refine K.out.mono ?_; rintro e w1 ⟨rfl, hB, hb⟩; have HB := Lib.hid hB; have Hb := Lib.hid hb; clear hB hb) | (go_at_call 37; refine (i_count_any _ 0 0 none _ (HB.out.cell 0)).mono ?_; rintro e w1 ⟨rfl, rfl⟩))
  go_ret
  exact ⟨rfl, Hb.out⟩
set_option maxHeartbeats 1000000 in
theorem noa_mark (p : Option Addr) (w : World) (h : Noa w p) : Calls Try.prog 23 #[.pointer p] w fun e w' => e = .returned (.int .i64 0) ∧ Below w.heap.size w w' := by
  have K := Lib.hid (noa_len p w h)
  clear h
  go_enter Try.func23, Try.ntmps23
  go_wp2_with (go_at_call 24; refine K.out.mono ?_; rintro e w1 ⟨rfl, hb⟩; have Hb := Lib.hid hb; clear hb)
  go_ret
  exact ⟨rfl, Hb.out⟩
set_option maxHeartbeats 1000000 in
theorem noa_peak (p : Option Addr) (w : World) (h : Noa w p) : Calls Try.prog 26 #[.pointer p] w fun e w' => e = .returned (.int .i64 0) ∧ Below w.heap.size w w' := by
  have K := Lib.hid (noa_known p w h)
  clear h
  go_enter Try.func26, Try.ntmps26
  go_wp2_with (go_at_call 41; refine K.out.mono ?_; rintro e w1 ⟨rfl, hB, hb⟩; have c2 := hB.cell 2; have Hb := Lib.hid hb; clear hB hb)
  go_ret
  exact ⟨rfl, Hb.out⟩
set_option maxHeartbeats 1000000 in
theorem noa_left (p : Option Addr) (w : World) (h : Noa w p) : Calls Try.prog 25 #[.pointer p] w fun e w' => e = .returned (.int .i64 0) ∧ Below w.heap.size w w' := by
  have K := Lib.hid (noa_known p w h)
  clear h
  go_enter Try.func25, Try.ntmps25
  go_wp2_with (go_at_call 41; refine K.out.mono ?_; rintro e w1 ⟨rfl, hB, hb⟩; have HB := Lib.hid hB; have c1 := hB.cell 1; have Hb := Lib.hid hb; clear hB hb)
  have C := Lib.hid (fun n => i_count_any w.heap.size 0 0 none (w1.drewN n) (HB.out.cell 0))
  go_quiet ((go_at_call 37; exact q_left (C.out _)))
  go_wp2_with fail
  go_ret
  exact ⟨rfl, bdrew Hb.out⟩
set_option maxHeartbeats 1000000 in
theorem noa_at (p : Option Addr) (k : Int) (w : World) (h : Noa w p) : Calls Try.prog 27 #[.pointer p, .int .i64 k] w fun e w' => e = .returned (.tuple #[.int .i64 0, .bool false]) ∧ Below w.heap.size w w' := by
  have K := Lib.hid (noa_known p w h)
  have hd : (decide ((0 : Int) ≤ k) && decide (k < ((0 : Nat) : Int))) = false := by simp
  have C := Lib.hid (fun w h => i_has_any w.heap.size 0 0 none k w h)
  clear h
  go_enter Try.func27, Try.ntmps27
  go_wp2_with (first | (go_at_call 41; refine K.out.mono ?_; rintro e w1 ⟨rfl, hB, hb⟩; have HB := Lib.hid hB; have Hb := Lib.hid hb; clear hB hb) | (go_at_call 39; refine (i_has_any _ 0 0 none k _ (HB.out.cell 0)).mono ?_; rintro e w2 ⟨rfl, rfl⟩; rw [hd]))
  go_ret2
  exact ⟨rfl, Hb.out⟩
end Go.Proofs.Ytfcacgiejoeneaa

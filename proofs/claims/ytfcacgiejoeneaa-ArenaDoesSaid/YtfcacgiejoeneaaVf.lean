/- Contracts of an arena of strings: Put, Back. -/
import Derived.Test.YtfcacgiejoeneaaWf
import Derived.Test.YtfcacgiejoeneaaVe
namespace Go.Proofs.Ytfcacgiejoeneaa
open Go Go.RowKit
set_option maxHeartbeats 1000000 in
theorem s_put_full (b : Nat) (most peak : Int) (v : Value) (xs : List Value) (base n c : Nat) (A : Option Addr) (hf : most < xs.length + n) (w : World) (h : Ar 74 9 w base b most peak v xs) :
    Calls Try.prog 29 #[.pointer (some ⟨b, 0, none⟩), .slice A n c] w fun e w' => e = .returned (.tuple #[.int .i64 0, .int .i64 12]) ∧ ∃ n, w' = w.drewN n := by
  have K := Lib.hid (s_none_any b most peak _ xs base w h)
  have L := Lib.hid (s_left_any b most peak v xs base w h)
  have hlt : most - xs.length < n := by omega
  generalize most - xs.length = left at hlt L
  clear h hf
  go_enter Try.func29, Try.ntmps29
  go_wp2_with (first | (go_at_call 44; refine K.out.mono ?_; rintro e w1 ⟨rfl, rfl⟩) | (go_at_call 45; refine L.out.mono ?_; rintro e w1 ⟨rfl, m, rfl⟩))
  go_ret2
  exact ⟨rfl, _, rfl⟩
set_option maxHeartbeats 2000000 in
theorem s_put_room (b : Nat) (most peak : Int) (v : Value) (xs : List Value) (base : Nat) (A : Option Addr) (c : Nat) (l : List Value) (hnc : A = none → c = 0) (h1 : ∀ u ∈ l, u.oneCell' = true) (h63 : xs.length + l.length ≤ maxLen) (hb : (xs.length + l.length) * 16 ≤ 140737488355328) (hf : (xs.length : Int) + l.length ≤ most)
    (w : World) (hbase : base ≤ w.heap.size) (h : Ar 74 9 w base b most peak v xs) (hl : Lies w A l) :
    Calls Try.prog 29 #[.pointer (some ⟨b, 0, none⟩), .slice A l.length c] w fun e w' => e = .returned (.tuple #[.int .i64 xs.length, .int .i64 0]) ∧ ∃ v', Ar 74 9 w' base b most (max peak ((xs.length : Int) + l.length)) v' (xs ++ l) ∧ Turn w w' b v v' := by
  obtain ⟨c0, _, _, _⟩ := ar_cells h
  have K := Lib.hid (s_none_any b most peak _ xs base w h)
  have L := Lib.hid (s_left_any b most peak v xs base w h)
  have D := Lib.hid (fun n => s_add_any b most peak v xs base A c l hnc h1 h63 hb (w.drewN n) hbase h.drewN hl)
  have H := Lib.hid h
  obtain ⟨A0, cap, rfl, _, _⟩ := own_slice h.own
  have C := Lib.hid (fun n => s_count_any b _ cap A0 (w.drewN n) c0)
  have hlt : l.length ≤ most - xs.length := by omega
  have HF := Lib.hid hf
  generalize most - xs.length = left at hlt L
  clear h hf hnc h1 h63 hb hl hbase
  go_enter Try.func29, Try.ntmps29
  go_wp2_with (first | (go_at_call 44; refine K.out.mono ?_; rintro e w1 ⟨rfl, rfl⟩) | (go_at_call 45; refine L.out.mono ?_; rintro e w1 ⟨rfl, m, rfl⟩) | (go_at_call 46; refine (C.out m).mono ?_; rintro e w1 ⟨rfl, rfl⟩) | (go_at_call 47; refine (D.out m).mono ?_; rintro e w1 ⟨rfl, v1, ho, hB, ht⟩; obtain ⟨A1, c1, rfl, _, _⟩ := own_slice ho; have HO := Lib.hid ho; have HB := Lib.hid hB; have HT := Lib.hid ht; have d0 := hB.cell 0; have d2 := hB.cell 2; have f2 := hB.frozen 2; clear ho hB ht))
  have C2 := Lib.hid (fun n => s_count_any b _ c1 A1 (w1.drewN n) d0)
  have FIN : RowKit.Hid (∀ p : Int, p = max peak ((xs.length : Int) + l.length) → Ar 74 9 ((w1.drewN 1).setCell ⟨b, 2, none⟩ (.int .i64 p)) base b most (max peak ((xs.length : Int) + l.length)) (.slice A1 (xs ++ l).length c1) (xs ++ l) ∧ Turn w ((w1.drewN 1).setCell ⟨b, 2, none⟩ (.int .i64 p)) b (.slice A0 xs.length cap) (.slice A1 (xs ++ l).length c1)) :=
    Lib.hid (fun p hp => by
      have h1 := H.out.top
      have h2 := HF.out
      subst hp
      exact peak_store H.out (by decide) HO.out HB.out HT.out.ofDrew 1 _ (by simp only [List.length_append]; omega) (by omega))
  go_region_with (go_at_call 46; refine (C2.out _).mono ?_; rintro e w2 ⟨rfl, rfl⟩)
  all_goals go_wp2_with fail
  all_goals
    go_ret2
    refine ⟨rfl, _, FIN.out _ ?_⟩
    omega
set_option maxHeartbeats 1000000 in
theorem s_back_bad (b : Nat) (most peak : Int) (v : Value) (xs : List Value) (base : Nat) (k : Int) (hk : k < 0 ∨ (xs.length : Int) < k) (w : World) (h : Ar 74 9 w base b most peak v xs) :
    Calls Try.prog 31 #[.pointer (some ⟨b, 0, none⟩), .int .i64 k] w fun e w' => e = .returned (.int .i64 6) ∧ w = w' := by
  obtain ⟨c0, _, _, _⟩ := ar_cells h
  obtain ⟨A, cap, rfl, _, _⟩ := own_slice h.own
  have K := Lib.hid (s_none_any b most peak _ xs base w h)
  have C := Lib.hid (s_count_any b _ cap A w c0)
  clear h
  by_cases h0 : k < 0
  · clear hk
    go_enter Try.func31, Try.ntmps31
    go_wp2_with (first | (go_at_call 44; refine K.out.mono ?_; rintro e w1 ⟨rfl, rfl⟩) | (go_at_call 46; refine C.out.mono ?_; rintro e w1 ⟨rfl, rfl⟩))
    go_ret
    exact ⟨rfl, rfl⟩
  · have h1 : 0 ≤ k := by omega
    have h2 : (xs.length : Int) < k := by omega
    clear hk h0
    go_enter Try.func31, Try.ntmps31
    go_wp2_with (first | (go_at_call 44; refine K.out.mono ?_; rintro e w1 ⟨rfl, rfl⟩) | (go_at_call 46; refine C.out.mono ?_; rintro e w1 ⟨rfl, rfl⟩))
    go_ret
    exact ⟨rfl, rfl⟩
set_option maxHeartbeats 1000000 in
theorem s_back_good (b : Nat) (most peak : Int) (v : Value) (xs : List Value) (base m : Nat) (hm : m ≤ xs.length) (w : World) (h : Ar 74 9 w base b most peak v xs) :
    Calls Try.prog 31 #[.pointer (some ⟨b, 0, none⟩), .int .i64 m] w fun e w' => e = .returned (.int .i64 0) ∧ ∃ v', Ar 74 9 w' base b most peak v' (xs.take m) ∧ Turn w w' b v v' := by
  obtain ⟨c0, _, _, _⟩ := ar_cells h
  have D := Lib.hid (s_cut_any b most peak v xs base m hm w h)
  have H := Lib.hid h
  obtain ⟨A, cap, rfl, _, _⟩ := own_slice h.own
  have K := Lib.hid (s_none_any b most peak _ xs base w h)
  have C := Lib.hid (s_count_any b _ cap A w c0)
  have h1 : (m : Int) ≤ xs.length := by omega
  clear h hm
  go_enter Try.func31, Try.ntmps31
  go_wp2_with (first | (go_at_call 44; refine K.out.mono ?_; rintro e w1 ⟨rfl, rfl⟩) | (go_at_call 46; refine C.out.mono ?_; rintro e w1 ⟨rfl, rfl⟩) | (go_at_call 48; refine D.out.mono ?_; rintro e w1 ⟨rfl, v1, ho, hB, ht⟩; have HO := Lib.hid ho; have HB := Lib.hid hB; have HT := Lib.hid ht; clear ho hB ht))
  go_ret
  exact ⟨rfl, _, ⟨H.out.lo, HB.out, HO.out, by have := H.out.fits; simp only [List.length_take]; omega, H.out.room, by have := H.out.up; simp only [List.length_take]; omega, H.out.top⟩, HT.out⟩
end Go.Proofs.Ytfcacgiejoeneaa

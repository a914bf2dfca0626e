/- Contracts of an arena of strings: none, count, has, known, New. -/
import Derived.Test.YtfcacgiejoeneaaA1
set_option linter.unusedSimpArgs false
set_option linter.unusedVariables false
namespace Go.Proofs.Ytfcacgiejoeneaa
open Go Go.RowKit

theorem Try.has53 : ∃ j, Try.prog.info? 74 = some j := Option.isSome_iff_exists.1 (by kernel_rfl)
@[go_sem] theorem s_neq_same (a : Addr) (w : World) : (binOp .neq 53 (.pointer (some a)) (.pointer (some a))).run Try.prog w = .ok (.bool false) w := by
  obtain ⟨j, hj⟩ := Try.has53
  exact neq_same w a Try.underlying53 hj
@[go_sem] theorem s_neq_nil (a : Addr) (w : World) : (binOp .neq 53 (.pointer none) (.pointer (some a))).run Try.prog w = .ok (.bool true) w := neq_nil_l w a Try.underlying53

theorem s_none_any (b : Nat) (most peak : Int) (v : Value) (xs : List Value) (base : Nat) (w : World) (h : Ar 74 9 w base b most peak v xs) :
    Calls Try.prog 44 #[.pointer (some ⟨b, 0, none⟩)] w fun e w' => e = .returned (.bool false) ∧ w = w' := by
  obtain ⟨c0, c1, c2, c3⟩ := ar_cells h
  clear h
  go_enter Try.func44, Try.ntmps44
  go_wp2_with fail
  go_ret
  exact ⟨rfl, rfl⟩
theorem s_count_any (b n c : Nat) (A : Option Addr) (w : World) (h : w.cell? ⟨b, 0, none⟩ = some (.slice A n c)) :
    Calls Try.prog 46 #[.pointer (some ⟨b, 0, none⟩)] w fun e w' => e = .returned (.int .i64 n) ∧ w = w' := by
  go_enter Try.func46, Try.ntmps46
  go_wp2_with fail
  go_ret
  exact ⟨rfl, rfl⟩
theorem s_has_any (b n c : Nat) (A : Option Addr) (i : Int) (w : World) (h : w.cell? ⟨b, 0, none⟩ = some (.slice A n c)) :
    Calls Try.prog 50 #[.pointer (some ⟨b, 0, none⟩), .int .i64 i] w fun e w' => e = .returned (.bool (decide (0 ≤ i) && decide (i < n))) ∧ w = w' := by
  by_cases h0 : 0 ≤ i
  · go_enter Try.func50, Try.ntmps50
    go_wp2_with (go_at_call 46; refine (s_count_any b n c A _ h).mono ?_; rintro e w1 ⟨rfl, rfl⟩)
    go_ret
    exact ⟨ret_bool (by simp [h0]), rfl⟩
  · have h1 : i < 0 := by omega
    clear h0
    go_enter Try.func50, Try.ntmps50
    go_wp2_with (go_at_call 46; refine (s_count_any b n c A _ h).mono ?_; rintro e w1 ⟨rfl, rfl⟩)
    go_ret
    exact ⟨ret_bool (by simp; omega), rfl⟩
theorem s_known_any (b : Nat) (most peak : Int) (v : Value) (xs : List Value) (base : Nat) (w : World) (h : Ar 74 9 w base b most peak v xs) :
    Calls Try.prog 49 #[.pointer (some ⟨b, 0, none⟩)] w fun e w' => e = .returned (.pointer (some ⟨b, 0, none⟩)) ∧ w = w' := by
  have H := Lib.hid h
  clear h
  go_enter Try.func49, Try.ntmps49
  go_wp2_with (go_at_call 44; refine (s_none_any b most peak v xs base _ H.out).mono ?_; rintro e w1 ⟨rfl, rfl⟩)
  go_ret
  exact ⟨rfl, rfl⟩
theorem s_new_any (most : Int) (h0 : 0 ≤ most) (h1 : most < 9223372036854775808) (w : World) :
    Calls Try.prog 28 #[.int .i64 most] w fun e w' => e = .returned (.pointer (some ⟨w.heap.size, 0, none⟩)) ∧ Below w.heap.size w w' ∧ Ar 74 9 w' w.heap.size w.heap.size most 0 (.slice none 0 0) [] ∧ w'.heap.size = w.heap.size + 1 := by
  go_enter Try.func28, Try.ntmps28
  go_wp2_with fail
  go_ret
  exact ⟨rfl, B1 _ _, ⟨Nat.le_refl _, Blk.new _ _ _, World.ownsRow_nil _ _ _ _, by simpa using h0, h1, by simp, h0⟩, by simp⟩
end Go.Proofs.Ytfcacgiejoeneaa
namespace Go.Proofs.Ytfcacgiejoeneaa
open Go Go.RowKit
theorem Try.info9 : (Try.prog.info? 9).map (fun i => (i.zero, i.size, i.bytes)) = some (some (.string ⟨#[]⟩), 1, 16) := by kernel_rfl
theorem s_zero (w : World) : (zeroValue 9).run Try.prog w = .ok (.string ⟨#[]⟩) w := by
  obtain ⟨i0, hi, hz0, _, _⟩ := info_parts Try.info9
  simp [zeroValue, typeInfo, hi, hz0]
set_option maxHeartbeats 1000000 in
theorem s_add_any (b : Nat) (most peak : Int) (v : Value) (xs : List Value) (base : Nat) (A : Option Addr) (c : Nat) (l : List Value) (hnc : A = none → c = 0) (h1 : ∀ u ∈ l, u.oneCell' = true) (h63 : xs.length + l.length ≤ maxLen) (hb : (xs.length + l.length) * 16 ≤ 140737488355328)
    (w : World) (hbase : base ≤ w.heap.size) (h : Ar 74 9 w base b most peak v xs) (hl : Lies w A l) :
    Calls Try.prog 47 #[.pointer (some ⟨b, 0, none⟩), .slice A l.length c] w fun e w' => e = .returned (.tuple #[]) ∧ ∃ v', w'.ownsRow base 9 1 v' (xs ++ l).length (xs ++ l) ∧ Blk w' b #[v', .int .i64 most, .int .i64 peak, .pointer (some ⟨b, 0, none⟩)] 74 ∧ Turn w w' b v v' := by
  obtain ⟨i0, hi, hz0, hz1, hz2⟩ := info_parts Try.info9
  obtain ⟨c0, _, _, _⟩ := ar_cells h
  have H := Lib.hid h
  have HL := Lib.hid hl
  have HN := Lib.hid hnc
  have H1 := Lib.hid h1
  have H6 := Lib.hid h63
  have HB := Lib.hid hb
  have hvb := Lib.hid (own_ne h.own h.blk (by decide))
  clear h hl hnc h1 h63 hb
  go_enter Try.func47, Try.ntmps47
  go_wp2_with (at_builtin; refine wpList_append_turn _ rfl (.tmp 8) (.tmp 9) 70 rfl base 9 i0 (.string ⟨#[]⟩) 16 Try.underlying70 hi hz0 hz1 hz2 rfl v xs rfl H.out.own A c l rfl HL.out HN.out H1.out H6.out HB.out hbase ?_; intro v1 w1 ho hg hf; obtain ⟨A1, c1, rfl, _, _⟩ := own_slice ho; have HO := Lib.hid ho; have HG := Lib.hid hg; have HF := Lib.hid hf; have hB : Blk w1 b _ _ := (hg.block b H.out.blk.lt (fun e => hvb.out e.symm)).trans H.out.blk; have d0 := hB.cell 0; have f0 := hB.frozen 0; clear ho hg hf hB)
  go_end0
  rw [← List.length_append]
  exact ⟨rfl, _, turn_store H.out (by decide) HO.out HG.out HF.out⟩
set_option maxHeartbeats 1000000 in
theorem s_cut_any (b : Nat) (most peak : Int) (v : Value) (xs : List Value) (base m : Nat) (hm : m ≤ xs.length) (w : World) (h : Ar 74 9 w base b most peak v xs) :
    Calls Try.prog 48 #[.pointer (some ⟨b, 0, none⟩), .int .i64 m] w fun e w' => e = .returned (.tuple #[]) ∧ ∃ v', w'.ownsRow base 9 1 v' (xs.take m).length (xs.take m) ∧ Blk w' b #[v', .int .i64 most, .int .i64 peak, .pointer (some ⟨b, 0, none⟩)] 74 ∧ Turn w w' b v v' := by
  obtain ⟨c0, _, _, _⟩ := ar_cells h
  have H := Lib.hid h
  have hvb := Lib.hid (own_ne h.own h.blk (by decide))
  have hO := h.own
  have f0 := h.blk.frozen 0
  clear h
  by_cases hlt : m < xs.length
  · obtain ⟨g, cap, rfl, hbg, hnc, hcm, hgl⟩ := own_shape hO (by omega)
    obtain ⟨w2, hcl, ho2, hg2⟩ := clear_turn (P := Try.prog) w base 70 9 (.string ⟨#[]⟩) Try.underlying70 s_zero rfl rfl g cap m xs hO hlt
    have hmc : ¬ cap = m := by omega
    have hB : Blk w2 b _ _ := (hg2.block b H.out.blk.lt (fun e => hvb.out e.symm)).trans H.out.blk
    have d0 := hB.cell 0
    have e0 := hB.frozen 0
    have HG := Lib.hid hg2
    have HO := Lib.hid ho2
    have hml : (xs.take m).length = m := by simp; omega
    clear hO hB hg2 ho2
    go_enter Try.func48, Try.ntmps48
    go_wp2_with fail
    go_end0
    exact ⟨rfl, _, turn_store (v1 := .slice (some ⟨g, 0, none⟩) m cap) (ys := xs.take m) H.out (by decide) (by rw [hml]; exact HO.out) HG.out (fun k e => .inl e)⟩
  · obtain rfl : m = xs.length := by omega
    obtain ⟨A, cap, rfl, hnil, hnc⟩ := own_slice hO
    have hcl := fun ty A c => clear_none (P := Try.prog) w 70 ty _ Try.underlying70 A c
    have hself := turn_store H.out (by decide) (ys := xs) H.out.own (World.grownBy.refl _ _) (fun k e => .inl e)
    have HS := Lib.hid hself
    rw [List.take_length]
    clear hO hself
    cases A with
    | none =>
      obtain ⟨hx0, rfl⟩ := hnil rfl
      rw [hx0] at HS c0 H ⊢
      simp only [hx0] at hvb
      clear hnil hlt hm hnc
      go_enter Try.func48, Try.ntmps48
      go_wp2_with fail
      go_end0
      exact ⟨rfl, _, HS.out⟩
    | some a =>
      clear hnil hlt hm
      obtain ⟨g, cap', e, _⟩ : ∃ g cap', a = ⟨g, 0, none⟩ ∧ cap' = cap := by
        rcases H.out.own.2 with ⟨h, _⟩ | ⟨g, cap', cur, h, _⟩
        · cases h
        · simp only [Value.slice.injEq, Option.some.injEq] at h
          exact ⟨g, cap, h.1, rfl⟩
      subst e
      by_cases hq : cap = xs.length
      · subst hq
        go_enter Try.func48, Try.ntmps48
        go_wp2_with fail
        go_end0
        exact ⟨rfl, _, HS.out⟩
      · go_enter Try.func48, Try.ntmps48
        go_wp2_with fail
        go_end0
        exact ⟨rfl, _, HS.out⟩
end Go.Proofs.Ytfcacgiejoeneaa
namespace Go.Proofs.Ytfcacgiejoeneaa
open Go Go.RowKit
set_option maxHeartbeats 1000000 in
theorem s_len_any (b : Nat) (most peak : Int) (v : Value) (xs : List Value) (base : Nat) (w : World) (h : Ar 74 9 w base b most peak v xs) :
    Calls Try.prog 33 #[.pointer (some ⟨b, 0, none⟩)] w fun e w' => e = .returned (.int .i64 xs.length) ∧ w = w' := by
  obtain ⟨c0, _, _, _⟩ := ar_cells h
  obtain ⟨A, cap, rfl, _, _⟩ := own_slice h.own
  have K := Lib.hid (s_known_any b most peak _ xs base w h)
  have C := Lib.hid (s_count_any b _ cap A w c0)
  clear h c0
  go_enter Try.func33, Try.ntmps33
  go_wp2_with (first | (go_at_call 49; refine K.out.mono ?_; rintro e w1 ⟨rfl, rfl⟩) | (go_at_call 46; refine C.out.mono ?_; rintro e w1 ⟨rfl, rfl⟩))
  go_ret
  exact ⟨rfl, rfl⟩
set_option maxHeartbeats 1000000 in
theorem s_mark_any (b : Nat) (most peak : Int) (v : Value) (xs : List Value) (base : Nat) (w : World) (h : Ar 74 9 w base b most peak v xs) :
    Calls Try.prog 30 #[.pointer (some ⟨b, 0, none⟩)] w fun e w' => e = .returned (.int .i64 xs.length) ∧ w = w' := by
  have K := Lib.hid (s_len_any b most peak _ xs base w h)
  clear h
  go_enter Try.func30, Try.ntmps30
  go_wp2_with (go_at_call 33; refine K.out.mono ?_; rintro e w1 ⟨rfl, rfl⟩)
  go_ret
  exact ⟨rfl, rfl⟩
set_option maxHeartbeats 1000000 in
theorem s_peak_any (b : Nat) (most peak : Int) (v : Value) (xs : List Value) (base : Nat) (w : World) (h : Ar 74 9 w base b most peak v xs) :
    Calls Try.prog 34 #[.pointer (some ⟨b, 0, none⟩)] w fun e w' => e = .returned (.int .i64 peak) ∧ w = w' := by
  obtain ⟨_, _, c2, _⟩ := ar_cells h
  have K := Lib.hid (s_known_any b most peak _ xs base w h)
  clear h
  go_enter Try.func34, Try.ntmps34
  go_wp2_with (go_at_call 49; refine K.out.mono ?_; rintro e w1 ⟨rfl, rfl⟩)
  go_ret
  exact ⟨rfl, rfl⟩
set_option maxHeartbeats 1000000 in
theorem s_left_any (b : Nat) (most peak : Int) (v : Value) (xs : List Value) (base : Nat) (w : World) (h : Ar 74 9 w base b most peak v xs) :
    Calls Try.prog 45 #[.pointer (some ⟨b, 0, none⟩)] w fun e w' => e = .returned (.int .i64 (most - xs.length)) ∧ ∃ n, w' = w.drewN n := by
  obtain ⟨c0, c1, _, _⟩ := ar_cells h
  obtain ⟨A, cap, rfl, _, _⟩ := own_slice h.own
  have K := Lib.hid (s_known_any b most peak _ xs base w h)
  have C := Lib.hid (fun n => s_count_any b _ cap A (w.drewN n) c0)
  have hw : IntKind.i64.wrap (most - xs.length) = most - xs.length := IntWalk.i64_in _ (by have := h.fits; have := h.room; omega)
  clear h
  go_enter Try.func45, Try.ntmps45
  go_wp2_with (go_at_call 49; refine K.out.mono ?_; rintro e w1 ⟨rfl, rfl⟩)
  go_quiet ((go_at_call 46; exact q_left (C.out _)))
  go_wp2_with fail
  go_ret
  exact ⟨rfl, _, rfl⟩
set_option maxHeartbeats 1000000 in
theorem s_at_yes (b : Nat) (most peak : Int) (v : Value) (xs : List Value) (base k : Nat) (x : Value) (hk : xs[k]? = some x) (w : World) (h : Ar 74 9 w base b most peak v xs) :
    Calls Try.prog 32 #[.pointer (some ⟨b, 0, none⟩), .int .i64 k] w fun e w' => e = .returned (.tuple #[x, .bool true]) ∧ w = w' := by
  have hlt : k < xs.length := (List.getElem?_eq_some_iff.1 hk).1
  obtain ⟨c0, _, _, _⟩ := ar_cells h
  obtain ⟨g, cap, rfl, _, _⟩ := own_shape h.own (by omega)
  have c4 := (h.own.cellAt k (by omega)).trans hk
  have K := Lib.hid (s_known_any b most peak _ xs base w h)
  have C := Lib.hid (s_has_any b _ cap _ k w c0)
  have hd : (decide ((0 : Int) ≤ k) && decide ((k : Int) < xs.length)) = true := by simp; omega
  rw [hd] at C
  have hlt2 : (k : Int) < xs.length := by omega
  clear h hd hk
  go_enter Try.func32, Try.ntmps32
  go_wp2_with (first | (go_at_call 49; refine K.out.mono ?_; rintro e w1 ⟨rfl, rfl⟩) | (go_at_call 50; refine C.out.mono ?_; rintro e w1 ⟨rfl, rfl⟩))
  go_ret2
  exact ⟨rfl, rfl⟩
set_option maxHeartbeats 1000000 in
theorem s_at_no (b : Nat) (most peak : Int) (v : Value) (xs : List Value) (base : Nat) (k : Int) (hk : k < 0 ∨ (xs.length : Int) ≤ k) (w : World) (h : Ar 74 9 w base b most peak v xs) :
    Calls Try.prog 32 #[.pointer (some ⟨b, 0, none⟩), .int .i64 k] w fun e w' => e = .returned (.tuple #[.string ⟨#[]⟩, .bool false]) ∧ w = w' := by
  obtain ⟨c0, _, _, _⟩ := ar_cells h
  obtain ⟨A, cap, rfl, _, _⟩ := own_slice h.own
  have K := Lib.hid (s_known_any b most peak _ xs base w h)
  have C := Lib.hid (s_has_any b _ cap A k w c0)
  have hd : (decide ((0 : Int) ≤ k) && decide ((k : Int) < xs.length)) = false := by simp; omega
  rw [hd] at C
  clear h hd hk
  go_enter Try.func32, Try.ntmps32
  go_wp2_with (first | (go_at_call 49; refine K.out.mono ?_; rintro e w1 ⟨rfl, rfl⟩) | (go_at_call 50; refine C.out.mono ?_; rintro e w1 ⟨rfl, rfl⟩))
  go_ret2
  exact ⟨rfl, rfl⟩
end Go.Proofs.Ytfcacgiejoeneaa
namespace Go.Proofs.Ytfcacgiejoeneaa
open Go Go.RowKit
set_option maxHeartbeats 1000000 in
theorem s_put_full (b : Nat) (most peak : Int) (v : Value) (xs : List Value) (base n c : Nat) (A : Option Addr) (hf : most < xs.length + n) (w : World) (h : Ar 74 9 w base b most peak v xs) :
    Calls Try.prog 29 #[.pointer (some ⟨b, 0, none⟩), .slice A n c] w fun e w' => e = .returned (.tuple #[.int .i64 0, .int .i64 12]) ∧ ∃ n, w' = w.drewN n := by
  have K := Lib.hid (s_none_any b most peak _ xs base w h)
  have L := Lib.hid (s_left_any b most peak v xs base w h)
  have hlt : most - xs.length < n := by omega
  generalize most - xs.length = left at hlt L
  clear h hf
  go_enter Try.func29, Try.ntmps29
  go_wp2_with (first | (go_at_call 44; refine K.out.mono ?_; rintro e w1 ⟨rfl, rfl⟩) | (go_at_call 45; refine L.out.mono ?_; rintro e w1 ⟨rfl, m, rfl⟩))
  go_ret2
  exact ⟨rfl, _, rfl⟩
set_option maxHeartbeats 2000000 in
theorem s_put_room (b : Nat) (most peak : Int) (v : Value) (xs : List Value) (base : Nat) (A : Option Addr) (c : Nat) (l : List Value) (hnc : A = none → c = 0) (h1 : ∀ u ∈ l, u.oneCell' = true) (h63 : xs.length + l.length ≤ maxLen) (hb : (xs.length + l.length) * 16 ≤ 140737488355328) (hf : (xs.length : Int) + l.length ≤ most)
    (w : World) (hbase : base ≤ w.heap.size) (h : Ar 74 9 w base b most peak v xs) (hl : Lies w A l) :
    Calls Try.prog 29 #[.pointer (some ⟨b, 0, none⟩), .slice A l.length c] w fun e w' => e = .returned (.tuple #[.int .i64 xs.length, .int .i64 0]) ∧ ∃ v', Ar 74 9 w' base b most (max peak ((xs.length : Int) + l.length)) v' (xs ++ l) ∧ Turn w w' b v v' := by
  obtain ⟨c0, _, _, _⟩ := ar_cells h
  have K := Lib.hid (s_none_any b most peak _ xs base w h)
  have L := Lib.hid (s_left_any b most peak v xs base w h)
  have D := Lib.hid (fun n => s_add_any b most peak v xs base A c l hnc h1 h63 hb (w.drewN n) hbase h.drewN hl)
  have H := Lib.hid h
  obtain ⟨A0, cap, rfl, _, _⟩ := own_slice h.own
  have C := Lib.hid (fun n => s_count_any b _ cap A0 (w.drewN n) c0)
  have hlt : l.length ≤ most - xs.length := by omega
  have HF := Lib.hid hf
  generalize most - xs.length = left at hlt L
  clear h hf hnc h1 h63 hb hl hbase
  go_enter Try.func29, Try.ntmps29
  go_wp2_with (first | (go_at_call 44; refine K.out.mono ?_; rintro e w1 ⟨rfl, rfl⟩) | (go_at_call 45; refine L.out.mono ?_; rintro e w1 ⟨rfl, m, rfl⟩) | (go_at_call 46; refine (C.out m).mono ?_; rintro e w1 ⟨rfl, rfl⟩) | (go_at_call 47; refine (D.out m).mono ?_; rintro e w1 ⟨rfl, v1, ho, hB, ht⟩; obtain ⟨A1, c1, rfl, _, _⟩ := own_slice ho; have HO := Lib.hid ho; have HB := Lib.hid hB; have HT := Lib.hid ht; have d0 := hB.cell 0; have d2 := hB.cell 2; have f2 := hB.frozen 2; clear ho hB ht))
  have C2 := Lib.hid (fun n => s_count_any b _ c1 A1 (w1.drewN n) d0)
  have FIN : RowKit.Hid (∀ p : Int, p = max peak ((xs.length : Int) + l.length) → Ar 74 9 ((w1.drewN 1).setCell ⟨b, 2, none⟩ (.int .i64 p)) base b most (max peak ((xs.length : Int) + l.length)) (.slice A1 (xs ++ l).length c1) (xs ++ l) ∧ Turn w ((w1.drewN 1).setCell ⟨b, 2, none⟩ (.int .i64 p)) b (.slice A0 xs.length cap) (.slice A1 (xs ++ l).length c1)) :=
    Lib.hid (fun p hp => by
      have h1 := H.out.top
      have h2 := HF.out
      subst hp
      exact peak_store H.out (by decide) HO.out HB.out HT.out.ofDrew 1 _ (by simp only [List.length_append]; omega) (by omega))
  go_region_with (go_at_call 46; refine (C2.out _).mono ?_; rintro e w2 ⟨rfl, rfl⟩)
  all_goals go_wp2_with fail
  all_goals
    go_ret2
    refine ⟨rfl, _, FIN.out _ ?_⟩
    omega
set_option maxHeartbeats 1000000 in
theorem s_back_bad (b : Nat) (most peak : Int) (v : Value) (xs : List Value) (base : Nat) (k : Int) (hk : k < 0 ∨ (xs.length : Int) < k) (w : World) (h : Ar 74 9 w base b most peak v xs) :
    Calls Try.prog 31 #[.pointer (some ⟨b, 0, none⟩), .int .i64 k] w fun e w' => e = .returned (.int .i64 6) ∧ w = w' := by
  obtain ⟨c0, _, _, _⟩ := ar_cells h
  obtain ⟨A, cap, rfl, _, _⟩ := own_slice h.own
  have K := Lib.hid (s_none_any b most peak _ xs base w h)
  have C := Lib.hid (s_count_any b _ cap A w c0)
  clear h
  by_cases h0 : k < 0
  · clear hk
    go_enter Try.func31, Try.ntmps31
    go_wp2_with (first | (go_at_call 44; refine K.out.mono ?_; rintro e w1 ⟨rfl, rfl⟩) | (go_at_call 46; refine C.out.mono ?_; rintro e w1 ⟨rfl, rfl⟩))
    go_ret
    exact ⟨rfl, rfl⟩
  · have h1 : 0 ≤ k := by omega
    have h2 : (xs.length : Int) < k := by omega
    clear hk h0
    go_enter Try.func31, Try.ntmps31
    go_wp2_with (first | (go_at_call 44; refine K.out.mono ?_; rintro e w1 ⟨rfl, rfl⟩) | (go_at_call 46; refine C.out.mono ?_; rintro e w1 ⟨rfl, rfl⟩))
    go_ret
    exact ⟨rfl, rfl⟩
set_option maxHeartbeats 1000000 in
theorem s_back_good (b : Nat) (most peak : Int) (v : Value) (xs : List Value) (base m : Nat) (hm : m ≤ xs.length) (w : World) (h : Ar 74 9 w base b most peak v xs) :
    Calls Try.prog 31 #[.pointer (some ⟨b, 0, none⟩), .int .i64 m] w fun e w' => e = .returned (.int .i64 0) ∧ ∃ v', Ar 74 9 w' base b most peak v' (xs.take m) ∧ Turn w w' b v v' := by
  obtain ⟨c0, _, _, _⟩ := ar_cells h
  have D := Lib.hid (s_cut_any b most peak v xs base m hm w h)
  have H := Lib.hid h
  obtain ⟨A, cap, rfl, _, _⟩ := own_slice h.own
  have K := Lib.hid (s_none_any b most peak _ xs base w h)
  have C := Lib.hid (s_count_any b _ cap A w c0)
  have h1 : (m : Int) ≤ xs.length := by omega
  clear h hm
  go_enter Try.func31, Try.ntmps31
  go_wp2_with (first | (go_at_call 44; refine K.out.mono ?_; rintro e w1 ⟨rfl, rfl⟩) | (go_at_call 46; refine C.out.mono ?_; rintro e w1 ⟨rfl, rfl⟩) | (go_at_call 48; refine D.out.mono ?_; rintro e w1 ⟨rfl, v1, ho, hB, ht⟩; have HO := Lib.hid ho; have HB := Lib.hid hB; have HT := Lib.hid ht; clear ho hB ht))
  go_ret
  exact ⟨rfl, _, ⟨H.out.lo, HB.out, HO.out, by have := H.out.fits; simp only [List.length_take]; omega, H.out.room, by have := H.out.up; simp only [List.length_take]; omega, H.out.top⟩, HT.out⟩
end Go.Proofs.Ytfcacgiejoeneaa
namespace Go.Proofs.Ytfcacgiejoeneaa
open Go Go.RowKit
abbrev sA : Value := .string { data := #[97] }
abbrev sB : Value := .string { data := #[98] }
abbrev sC : Value := .string { data := #[99] }
abbrev sD : Value := .string { data := #[100] }
theorem lies_new (w : World) (l : List Value) (T : TypeId) : Lies (w.alloc (.cells l.toArray T)) (some ⟨w.heap.size, 0, none⟩) l := by
  intro h0
  refine ⟨_, 0, rfl, by simp, fun i hi => ?_⟩
  rw [Nat.zero_add, (Blk.new w _ _).cell]
  simp
theorem aw_put1 (w : World) (base b : Nat) (v : Value) (hb : base ≤ w.heap.size) (h : Ar 74 9 w base b 3 0 v []) :
    Calls Try.prog 29 #[.pointer (some ⟨b, 0, none⟩), .slice (some ⟨w.heap.size, 0, none⟩) 2 2] (w.alloc (.cells #[sA, sB] 9)) fun e w' => e = .returned (.tuple #[.int .i64 0, .int .i64 0]) ∧ ∃ v', Ar 74 9 w' base b 3 2 v' [sA, sB] ∧ Below base w w' := by
  have h' := h.below (B1 w (.cells #[sA, sB] 9))
  have P := s_put_room b 3 0 v [] base (some ⟨w.heap.size, 0, none⟩) 2 [sA, sB] (fun h => by cases h) (by simp [Value.oneCell']) (by unfold maxLen; simp) (by simp) (by simp) (w.alloc (.cells #[sA, sB] 9)) (by simp; omega) h' (lies_new w [sA, sB] 9)
  refine P.mono ?_
  rintro e w' ⟨he, v', ha, ht⟩
  exact ⟨he, v', ha, ((Below.refl base w).alloc hb _).trans (ht.below h' (by simp; omega))⟩
theorem aw_put2 (w : World) (base b : Nat) (v : Value) (hb : base ≤ w.heap.size) (h : Ar 74 9 w base b 3 2 v [sA, sB]) :
    Calls Try.prog 29 #[.pointer (some ⟨b, 0, none⟩), .slice (some ⟨w.heap.size, 0, none⟩) 1 1] (w.alloc (.cells #[sC] 9)) fun e w' => e = .returned (.tuple #[.int .i64 2, .int .i64 0]) ∧ ∃ v', Ar 74 9 w' base b 3 3 v' [sA, sB, sC] ∧ Below base w w' := by
  have h' := h.below (B1 w (.cells #[sC] 9))
  have P := s_put_room b 3 2 v [sA, sB] base (some ⟨w.heap.size, 0, none⟩) 1 [sC] (fun h => by cases h) (by simp [Value.oneCell']) (by unfold maxLen; simp) (by simp) (by simp) (w.alloc (.cells #[sC] 9)) (by simp; omega) h' (lies_new w [sC] 9)
  refine P.mono ?_
  rintro e w' ⟨he, v', ha, ht⟩
  exact ⟨he, v', ha, ((Below.refl base w).alloc hb _).trans (ht.below h' (by simp; omega))⟩
theorem aw_put3 (w : World) (base b : Nat) (v : Value) (h : Ar 74 9 w base b 3 3 v [sA, sB, sC]) :
    Calls Try.prog 29 #[.pointer (some ⟨b, 0, none⟩), .slice (some ⟨w.heap.size, 0, none⟩) 1 1] (w.alloc (.cells #[sD] 9)) fun e w' => e = .returned (.tuple #[.int .i64 0, .int .i64 12]) ∧ Ar 74 9 w' base b 3 3 v [sA, sB, sC] ∧ Below w.heap.size w w' := by
  have h' := h.below (B1 w (.cells #[sD] 9))
  refine (s_put_full b 3 3 v [sA, sB, sC] base 1 1 (some ⟨w.heap.size, 0, none⟩) (by simp) (w.alloc (.cells #[sD] 9)) h').mono ?_
  rintro e w' ⟨he, n, rfl⟩
  exact ⟨he, h'.drewN, bdrew (B1 _ _)⟩
theorem aw_back (w : World) (base b : Nat) (v : Value) (hb : base ≤ w.heap.size) (h : Ar 74 9 w base b 3 3 v [sA, sB, sC]) :
    Calls Try.prog 31 #[.pointer (some ⟨b, 0, none⟩), .int .i64 2] w fun e w' => e = .returned (.int .i64 0) ∧ ∃ v', Ar 74 9 w' base b 3 3 v' [sA, sB] ∧ Below base w w' := by
  refine (s_back_good b 3 3 v [sA, sB, sC] base 2 (by simp) w h).mono ?_
  rintro e w' ⟨he, v', ha, ht⟩
  exact ⟨he, v', ha, ht.below h hb⟩
set_option maxRecDepth 100000 in
set_option maxHeartbeats 4000000 in
theorem awake_any (w : World) : Calls Try.prog 8 #[] w fun e w' => e = .returned (.bool true) ∧ Below w.heap.size w w' := by
  go_enter Try.func8, Try.ntmps8
  go_wp2_with (go_at_call 28; refine (s_new_any 3 (by decide) (by decide) _).mono ?_; rintro e w1 ⟨rfl, hb1, ha1, hz1⟩; have HB1 := Lib.hid hb1; have HA1 := Lib.hid ha1; clear hb1 ha1 hz1)
  go_wp2_with (go_at_call 29; refine (aw_put1 w1 w.heap.size w.heap.size _ HB1.out.size HA1.out).mono ?_; clear HA1; rintro e w2 ⟨rfl, v2, ha2, hb2⟩; have HB2 := Lib.hid (HB1.out.trans hb2); have HA2 := Lib.hid ha2; clear hb2 ha2)
  go_wp2_with (go_at_call 30; refine (s_mark_any w.heap.size 3 2 v2 [sA, sB] w.heap.size _ HA2.out).mono ?_; rintro e w3 ⟨rfl, rfl⟩)
  go_wp2_with (go_at_call 29; refine (aw_put2 w2 w.heap.size w.heap.size _ HB2.out.size HA2.out).mono ?_; clear HA2; rintro e w3 ⟨rfl, v3, ha3, hb3⟩; have HB3 := Lib.hid (HB2.out.trans hb3); have HA3 := Lib.hid ha3; clear hb3 ha3)
  go_wp2_with (go_at_call 29; refine (aw_put3 w3 w.heap.size w.heap.size v3 HA3.out).mono ?_; clear HA3; rintro e w4 ⟨rfl, ha4, hb4⟩; have HB4 := Lib.hid (bb HB3.out hb4); have HA4 := Lib.hid ha4; clear hb4 ha4)
  go_wp2_with (go_at_call 31; refine (aw_back w4 w.heap.size w.heap.size v3 HB4.out.size HA4.out).mono ?_; rintro e w5 ⟨rfl, v5, ha5, hb5⟩; have HB5 := Lib.hid (HB4.out.trans hb5); have HA5 := Lib.hid ha5; clear hb5 ha5)
  go_wp2_with (first | (go_at_call 32; refine (s_at_yes w.heap.size 3 3 v5 [sA, sB] w.heap.size 1 sB rfl _ HA5.out).mono ?_; rintro e w6 ⟨rfl, rfl⟩) | (go_at_call 33; refine (s_len_any w.heap.size 3 3 v5 [sA, sB] w.heap.size _ HA5.out).mono ?_; rintro e w6 ⟨rfl, rfl⟩) | (go_at_call 34; refine (s_peak_any w.heap.size 3 3 v5 [sA, sB] w.heap.size _ HA5.out).mono ?_; rintro e w6 ⟨rfl, rfl⟩))
  go_ret
  exact ⟨rfl, HB5.out⟩
end Go.Proofs.Ytfcacgiejoeneaa

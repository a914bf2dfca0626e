/- Contracts of an arena of strings: add, cut. -/
import Derived.Test.YtfcacgiejoeneaaWd
import Derived.Test.YtfcacgiejoeneaaVb
namespace Go.Proofs.Ytfcacgiejoeneaa
open Go Go.RowKit
theorem Try.info9 : (Try.prog.info? 9).map (fun i => (i.zero, i.size, i.bytes)) = some (some (.string ⟨#[]⟩), 1, 16) := by kernel_rfl
theorem s_zero (w : World) : (zeroValue 9).run Try.prog w = .ok (.string ⟨#[]⟩) w := by
  obtain ⟨i0, hi, hz0, _, _⟩ := info_parts Try.info9
  simp [zeroValue, typeInfo, hi, hz0]
set_option maxHeartbeats 1000000 in
theorem s_add_any (b : Nat) (most peak : Int) (v : Value) (xs : List Value) (base : Nat) (A : Option Addr) (c : Nat) (l : List Value) (hnc : A = none → c = 0) (h1 : ∀ u ∈ l, u.oneCell' = true) (h63 : xs.length + l.length ≤ maxLen) (hb : (xs.length + l.length) * 16 ≤ 140737488355328)
    (w : World) (hbase : base ≤ w.heap.size) (h : Ar 74 9 w base b most peak v xs) (hl : Lies w A l) :
    Calls Try.prog 47 #[.pointer (some ⟨b, 0, none⟩), .slice A l.length c] w fun e w' => e = .returned (.tuple #[]) ∧ ∃ v', w'.ownsRow base 9 1 v' (xs ++ l).length (xs ++ l) ∧ Blk w' b #[v', .int .i64 most, .int .i64 peak, .pointer (some ⟨b, 0, none⟩)] 74 ∧ Turn w w' b v v' := by
  obtain ⟨i0, hi, hz0, hz1, hz2⟩ := info_parts Try.info9
  obtain ⟨c0, _, _, _⟩ := ar_cells h
  have H := Lib.hid h
  have HL := Lib.hid hl
  have HN := Lib.hid hnc
  have H1 := Lib.hid h1
  have H6 := Lib.hid h63
  have HB := Lib.hid hb
  have hvb := Lib.hid (own_ne h.own h.blk (by decide))
  clear h hl hnc h1 h63 hb
  go_enter Try.func47, Try.ntmps47
  go_wp2_with (at_builtin; refine wpList_append_turn _ rfl (.tmp 8) (.tmp 9) 70 rfl base 9 i0 (.string ⟨#[]⟩) 16 Try.underlying70 hi hz0 hz1 hz2 rfl v xs rfl H.out.own A c l rfl HL.out HN.out H1.out H6.out HB.out hbase ?_; intro v1 w1 ho hg hf; obtain ⟨A1, c1, rfl, _, _⟩ := own_slice ho; have HO := Lib.hid ho; have HG := Lib.hid hg; have HF := Lib.hid hf; have hB : Blk w1 b _ _ := (hg.block b H.out.blk.lt (fun e => hvb.out e.symm)).trans H.out.blk; have d0 := hB.cell 0; have f0 := hB.frozen 0; clear ho hg hf hB)
  go_end0
  rw [← List.length_append]
  exact ⟨rfl, _, turn_store H.out (by decide) HO.out HG.out HF.out⟩
set_option maxHeartbeats 1000000 in
theorem s_cut_any (b : Nat) (most peak : Int) (v : Value) (xs : List Value) (base m : Nat) (hm : m ≤ xs.length) (w : World) (h : Ar 74 9 w base b most peak v xs) :
    Calls Try.prog 48 #[.pointer (some ⟨b, 0, none⟩), .int .i64 m] w fun e w' => e = .returned (.tuple #[]) ∧ ∃ v', w'.ownsRow base 9 1 v' (xs.take m).length (xs.take m) ∧ Blk w' b #[v', .int .i64 most, .int .i64 peak, .pointer (some ⟨b, 0, none⟩)] 74 ∧ Turn w w' b v v' := by
  obtain ⟨c0, _, _, _⟩ := ar_cells h
  have H := Lib.hid h
  have hvb := Lib.hid (own_ne h.own h.blk (by decide))
  have hO := h.own
  have f0 := h.blk.frozen 0
  clear h
  by_cases hlt : m < xs.length
  · obtain ⟨g, cap, rfl, hbg, hnc, hcm, hgl⟩ := own_shape hO (by omega)
    obtain ⟨w2, hcl, ho2, hg2⟩ := clear_turn (P := Try.prog) w base 70 9 (.string ⟨#[]⟩) Try.underlying70 s_zero rfl rfl g cap m xs hO hlt
    have hmc : ¬ cap = m := by omega
    have hB : Blk w2 b _ _ := (hg2.block b H.out.blk.lt (fun e => hvb.out e.symm)).trans H.out.blk
    have d0 := hB.cell 0
    have e0 := hB.frozen 0
    have HG := Lib.hid hg2
    have HO := Lib.hid ho2
    have hml : (xs.take m).length = m := by simp; omega
    clear hO hB hg2 ho2
    go_enter Try.func48, Try.ntmps48
    go_wp2_with fail
    go_end0
    exact ⟨rfl, _, turn_store (v1 := .slice (some ⟨g, 0, none⟩) m cap) (ys := xs.take m) H.out (by decide) (by rw [hml]; exact HO.out) HG.out (fun k e => .inl e)⟩
  · obtain rfl : m = xs.length := by omega
    obtain ⟨A, cap, rfl, hnil, hnc⟩ := own_slice hO
    have hcl := fun ty A c => clear_none (P := Try.prog) w 70 ty _ Try.underlying70 A c
    have hself := turn_store H.out (by decide) (ys := xs) H.out.own (World.grownBy.refl _ _) (fun k e => .inl e)
    have HS := Lib.hid hself
    rw [List.take_length]
    clear hO hself
    cases A with
    | none =>
      obtain ⟨hx0, rfl⟩ := hnil rfl
      rw [hx0] at HS c0 H ⊢
      simp only [hx0] at hvb
      clear hnil hlt hm hnc
      go_enter Try.func48, Try.ntmps48
      go_wp2_with fail
      go_end0
      exact ⟨rfl, _, HS.out⟩
    | some a =>
      clear hnil hlt hm
      obtain ⟨g, cap', e, _⟩ : ∃ g cap', a = ⟨g, 0, none⟩ ∧ cap' = cap := by
        rcases H.out.own.2 with ⟨h, _⟩ | ⟨g, cap', cur, h, _⟩
        · cases h
        · simp only [Value.slice.injEq, Option.some.injEq] at h
          exact ⟨g, cap, h.1, rfl⟩
      subst e
      by_cases hq : cap = xs.length
      · subst hq
        go_enter Try.func48, Try.ntmps48
        go_wp2_with fail
        go_end0
        exact ⟨rfl, _, HS.out⟩
      · go_enter Try.func48, Try.ntmps48
        go_wp2_with fail
        go_end0
        exact ⟨rfl, _, HS.out⟩
end Go.Proofs.Ytfcacgiejoeneaa

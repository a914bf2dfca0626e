/- Contracts of an arena of ints: add, cut. -/
import Derived.Test.YtfcacgiejoeneaaWc
import Derived.Test.YtfcacgiejoeneaaWb
namespace Go.Proofs.Ytfcacgiejoeneaa
open Go Go.RowKit
theorem Try.info3 : (Try.prog.info? 3).map (fun i => (i.zero, i.size, i.bytes)) = some (some (.int .i64 0), 1, 8) := by kernel_rfl
theorem i_zero (w : World) : (zeroValue 3).run Try.prog w = .ok (.int .i64 0) w := by
  obtain ⟨i0, hi, hz0, _, _⟩ := info_parts Try.info3
  simp [zeroValue, typeInfo, hi, hz0]
/-- An arena's block, its row beside it. -/
theorem turn_store {T E : TypeId} {w w1 : World} {base b : Nat} {most peak : Int} {v v1 : Value} {xs : List Value} (ha : Ar T E w base b most peak v xs) (hTE : T ≠ E) {ys : List Value}
    (ho : w1.ownsRow base E 1 v1 ys.length ys) (hg : w.grownBy w1 v.ownBlock) (hf : ∀ k, v1.ownBlock = some k → v.ownBlock = some k ∨ w.heap.size ≤ k) :
    (w1.setCell ⟨b, 0, none⟩ v1).ownsRow base E 1 v1 ys.length ys ∧ Blk (w1.setCell ⟨b, 0, none⟩ v1) b #[v1, .int .i64 most, .int .i64 peak, .pointer (some ⟨b, 0, none⟩)] T ∧ Turn w (w1.setCell ⟨b, 0, none⟩ v1) b v v1 := by
  have hvb := own_ne ha.own ha.blk hTE
  have hB : Blk w1 b #[v, .int .i64 most, .int .i64 peak, .pointer (some ⟨b, 0, none⟩)] T := (hg.block b ha.blk.lt (fun e => hvb e.symm)).trans ha.blk
  have hv1 := own_ne ho hB hTE
  refine ⟨own_kept ho (fun k e => heap_setCell_other _ _ _ _ (fun h => hv1 (by rw [e, show k = b from h]))), heap_setCell_same w1 b 0 _ T _ hB, ⟨hg.os, hg.tape, hg.output, by simpa [World.setCell] using hg.size, fun k hk h1 h2 => ?_, hf⟩⟩
  rw [heap_setCell_other _ _ _ _ (show k ≠ b from h1)]
  exact hg.block k hk (fun e => h2 e.symm)
set_option maxHeartbeats 1000000 in
theorem i_add_any (b : Nat) (most peak : Int) (v : Value) (xs : List Value) (base : Nat) (A : Option Addr) (c : Nat) (l : List Value) (hnc : A = none → c = 0) (h1 : ∀ u ∈ l, u.oneCell' = true) (h63 : xs.length + l.length ≤ maxLen) (hb : (xs.length + l.length) * 8 ≤ 140737488355328)
    (w : World) (hbase : base ≤ w.heap.size) (h : Ar 61 3 w base b most peak v xs) (hl : Lies w A l) :
    Calls Try.prog 38 #[.pointer (some ⟨b, 0, none⟩), .slice A l.length c] w fun e w' => e = .returned (.tuple #[]) ∧ ∃ v', w'.ownsRow base 3 1 v' (xs ++ l).length (xs ++ l) ∧ Blk w' b #[v', .int .i64 most, .int .i64 peak, .pointer (some ⟨b, 0, none⟩)] 61 ∧ Turn w w' b v v' := by
  obtain ⟨i0, hi, hz0, hz1, hz2⟩ := info_parts Try.info3
  obtain ⟨c0, _, _, _⟩ := ar_cells h
  have H := Lib.hid h
  have HL := Lib.hid hl
  have HN := Lib.hid hnc
  have H1 := Lib.hid h1
  have H6 := Lib.hid h63
  have HB := Lib.hid hb
  have hvb := Lib.hid (own_ne h.own h.blk (by decide))
  clear h hl hnc h1 h63 hb
  go_enter Try.func38, Try.ntmps38
  go_wp2_with (at_builtin; refine wpList_append_turn _ rfl (.tmp 8) (.tmp 9) 28 rfl base 3 i0 (.int .i64 0) 8 Try.underlying28 hi hz0 hz1 hz2 rfl v xs rfl H.out.own A c l rfl HL.out HN.out H1.out H6.out HB.out hbase ?_; intro v1 w1 ho hg hf; obtain ⟨A1, c1, rfl, _, _⟩ := own_slice ho; have HO := Lib.hid ho; have HG := Lib.hid hg; have HF := Lib.hid hf; have hB : Blk w1 b _ _ := (hg.block b H.out.blk.lt (fun e => hvb.out e.symm)).trans H.out.blk; have d0 := hB.cell 0; have f0 := hB.frozen 0; clear ho hg hf hB)
  go_end0
  rw [← List.length_append]
  exact ⟨rfl, _, turn_store H.out (by decide) HO.out HG.out HF.out⟩
set_option maxHeartbeats 1000000 in
theorem i_cut_any (b : Nat) (most peak : Int) (v : Value) (xs : List Value) (base m : Nat) (hm : m ≤ xs.length) (w : World) (h : Ar 61 3 w base b most peak v xs) :
    Calls Try.prog 40 #[.pointer (some ⟨b, 0, none⟩), .int .i64 m] w fun e w' => e = .returned (.tuple #[]) ∧ ∃ v', w'.ownsRow base 3 1 v' (xs.take m).length (xs.take m) ∧ Blk w' b #[v', .int .i64 most, .int .i64 peak, .pointer (some ⟨b, 0, none⟩)] 61 ∧ Turn w w' b v v' := by
  obtain ⟨c0, _, _, _⟩ := ar_cells h
  have H := Lib.hid h
  have hvb := Lib.hid (own_ne h.own h.blk (by decide))
  have hO := h.own
  have f0 := h.blk.frozen 0
  clear h
  by_cases hlt : m < xs.length
  · obtain ⟨g, cap, rfl, hbg, hnc, hcm, hgl⟩ := own_shape hO (by omega)
    obtain ⟨w2, hcl, ho2, hg2⟩ := clear_turn (P := Try.prog) w base 28 3 (.int .i64 0) Try.underlying28 i_zero rfl rfl g cap m xs hO hlt
    have hmc : ¬ cap = m := by omega
    have hB : Blk w2 b _ _ := (hg2.block b H.out.blk.lt (fun e => hvb.out e.symm)).trans H.out.blk
    have d0 := hB.cell 0
    have e0 := hB.frozen 0
    have HG := Lib.hid hg2
    have HO := Lib.hid ho2
    have hml : (xs.take m).length = m := by simp; omega
    clear hO hB hg2 ho2
    go_enter Try.func40, Try.ntmps40
    go_wp2_with fail
    go_end0
    exact ⟨rfl, _, turn_store (v1 := .slice (some ⟨g, 0, none⟩) m cap) (ys := xs.take m) H.out (by decide) (by rw [hml]; exact HO.out) HG.out (fun k e => .inl e)⟩
  · obtain rfl : m = xs.length := by omega
    obtain ⟨A, cap, rfl, hnil, hnc⟩ := own_slice hO
    have hcl := fun ty A c => clear_none (P := Try.prog) w 28 ty _ Try.underlying28 A c
    have hself := turn_store H.out (by decide) (ys := xs) H.out.own (World.grownBy.refl _ _) (fun k e => .inl e)
    have HS := Lib.hid hself
    rw [List.take_length]
    clear hO hself
    cases A with
    | none =>
      obtain ⟨hx0, rfl⟩ := hnil rfl
      rw [hx0] at HS c0 H ⊢
      simp only [hx0] at hvb
      clear hnil hlt hm hnc
      go_enter Try.func40, Try.ntmps40
      go_wp2_with fail
      go_end0
      exact ⟨rfl, _, HS.out⟩
    | some a =>
      clear hnil hlt hm
      obtain ⟨g, cap', e, _⟩ : ∃ g cap', a = ⟨g, 0, none⟩ ∧ cap' = cap := by
        rcases H.out.own.2 with ⟨h, _⟩ | ⟨g, cap', cur, h, _⟩
        · cases h
        · simp only [Value.slice.injEq, Option.some.injEq] at h
          exact ⟨g, cap, h.1, rfl⟩
      subst e
      by_cases hq : cap = xs.length
      · subst hq
        go_enter Try.func40, Try.ntmps40
        go_wp2_with fail
        go_end0
        exact ⟨rfl, _, HS.out⟩
      · go_enter Try.func40, Try.ntmps40
        go_wp2_with fail
        go_end0
        exact ⟨rfl, _, HS.out⟩
end Go.Proofs.Ytfcacgiejoeneaa

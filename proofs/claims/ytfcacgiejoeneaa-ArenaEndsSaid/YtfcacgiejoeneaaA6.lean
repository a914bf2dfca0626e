/- The law's same: an arena holds what the document's holds. -/
import Derived.Test.YtfcacgiejoeneaaA4
import Derived.Test.YtfcacgiejoeneaaA5
import Derived.Test.YtfcacgiejoeneaaA3
import Derived.ProofKit
import Derived.OpenShut
import Derived.WideKeyArgs
import Derived.Carry
import Derived.Below
import Derived.ChangeSlices
import Derived.Test.YtfcacgiejoeneaaA1
import Derived.SizedLaws
import Derived.Deep.Slices
import Derived.Lib.SmallJoins
import Derived.Deep.Fields
set_option linter.unusedSimpArgs false
set_option linter.unusedVariables false
namespace Go.Proofs.Ytfcacgiejoeneaa
open Go Go.RowKit Go.Shelf
attribute [local go_sem] Oper.semAt_some
/-- What lies as the going through goes. -/
structure SF (W : World) (nb k d3 d4 b c : Nat) (most peak : Int) (v u : Value) (l : List Int) (base : Nat) (w : World) : Prop where
  n : Blk W nb #[.int .i64 (k : Int)] 3
  z : Blk W d3 #[.pointer (some ⟨c, 0, none⟩)] 27
  r : Blk W d4 #[.bool false] 4
  a : Ar 61 3 W base b most peak v (ints l)
  f : Rf W base c most peak u (ints l)
  w : Below w.heap.size w W
  hv : v.ownBlock ≠ some nb
  hu : u.ownBlock ≠ some nb
theorem SF.low {W W' W0 w : World} {nb k k0 d3 d4 b c : Nat} {most peak : Int} {v u : Value} {l : List Int} {base : Nat} (h : SF W nb k d3 d4 b c most peak v u l base w) (h0 : SF W0 nb k0 d3 d4 b c most peak v u l base w) (hb : Below W0.heap.size W W') (hB : w.heap.size ≤ W0.heap.size) :
    SF W' nb k d3 d4 b c most peak v u l base w :=
  ⟨h.n.below hb h0.n.lt, h.z.below hb h0.z.lt, h.r.below hb h0.r.lt, h.a.kept (hb.block _ h0.a.blk.lt) (fun k e => hb.block k (h0.a.own.lt k e).2), h.f.kept (hb.block _ h0.f.blk.lt) (fun k e => hb.block k (h0.f.own.lt k e).2), h.w.trans (hb.mono hB), h.hv, h.hu⟩
theorem SF.next {W w : World} {nb k d3 d4 b c : Nat} {most peak : Int} {v u : Value} {l : List Int} {base : Nat} (h : SF W nb k d3 d4 b c most peak v u l base w) (q : Nat) (hw : w.heap.size ≤ nb) :
    SF ((W.drewN q).setCell ⟨nb, 0, none⟩ (.int .i64 ((k + 1 : Nat) : Int))) nb (k + 1) d3 d4 b c most peak v u l base w := by
  have o : ∀ j, j ≠ nb → ((W.drewN q).setCell ⟨nb, 0, none⟩ (.int .i64 ((k + 1 : Nat) : Int))).heap[j]? = W.heap[j]? := fun j hj => heap_setCell_other (W.drewN q) ⟨nb, 0, none⟩ j _ hj
  have hn : Blk (W.drewN q) nb #[.int .i64 (k : Int)] 3 := h.n
  exact ⟨heap_setCell_same (W.drewN q) nb 0 #[.int .i64 (k : Int)] 3 _ hn, (o _ (neT h.z h.n (by decide))).trans h.z, (o _ (neT h.r h.n (by decide))).trans h.r, h.a.kept (o _ (neT h.a.blk h.n (by decide))) (fun j e => o j (fun i => h.hv (by rw [e, i]))),
    h.f.kept (o _ (neT h.f.blk h.n (by decide))) (fun j e => o j (fun i => h.hu (by rw [e, i]))), (bdrew h.w).setCell (p := ⟨nb, 0, none⟩) hw _, h.hv, h.hu⟩
set_option maxRecDepth 100000 in
set_option maxHeartbeats 4000000 in
theorem same_any (b c : Nat) (most peak : Int) (v u : Value) (l : List Int) (base : Nat) (hl : l.length ≤ 60000) (w : World) (hA : Ar 61 3 w base b most peak v (ints l)) (hR : Rf w base c most peak u (ints l)) :
    Calls Try.prog 20 #[.pointer (some ⟨b, 0, none⟩), .pointer (some ⟨c, 0, none⟩)] w fun e w' => e = .returned (.bool true) ∧ Below w.heap.size w w' := by
  have HA := Lib.hid hA
  have HR := Lib.hid hR
  have hfit : (l.length : Int) ≤ most := by have := hA.fits; rwa [ints_length] at this
  have hroom := hA.room
  obtain ⟨M, eM⟩ : ∃ M : Int, M = most - l.length := ⟨_, rfl⟩
  have hwM : IntKind.i64.wrap (most - (l.length : Int)) = M := (IntWalk.i64_in _ (by omega)).trans eM.symm
  have EM := Lib.hid eM
  clear hA hR eM
  refine (callsIn_wide (n := 12)).1 ?_
  refine callsIn_of_wp_marks Try.func20 rfl trivial ?_ rfl
  simp only [Try.ntmps20, List.size_toArray, List.length_cons, List.length_nil, Nat.reduceAdd, Nat.reduceSub, Array.replicate_succ, Array.replicate_zero, List.push_toArray, List.append_toArray, List.nil_append, List.cons_append]
  refine wpIn_wide.2 ?_
  go_wp2_with fail
  have hb0 := B2 w (.cells #[.pointer (some ⟨c, 0, none⟩)] 27) (.cells #[.bool false] 4)
  have hK3 : Blk ((w.alloc (.cells #[.pointer (some ⟨c, 0, none⟩)] 27)).alloc (.cells #[.bool false] 4)) w.heap.size #[.pointer (some ⟨c, 0, none⟩)] 27 := (Blk.new w _ _).alloc _
  have hK4 : Blk ((w.alloc (.cells #[.pointer (some ⟨c, 0, none⟩)] 27)).alloc (.cells #[.bool false] 4)) (w.heap.size + 1) #[.bool false] 4 := by have := Blk.new (w.alloc (.cells #[.pointer (some ⟨c, 0, none⟩)] 27)) #[.bool false] 4; simpa using this
  generalize hW0 : (w.alloc (.cells #[.pointer (some ⟨c, 0, none⟩)] 27)).alloc (.cells #[.bool false] 4) = W0 at hK3 hK4 hb0 ⊢
  obtain ⟨d4, ed4⟩ : ∃ d, d = w.heap.size + 1 := ⟨_, rfl⟩
  rw [← ed4] at hK4 ⊢
  obtain ⟨d3, ed3⟩ : ∃ d, d = w.heap.size := ⟨_, rfl⟩
  rw [← ed3] at hK3 ⊢
  have HD : RowKit.Hid (w.heap.size ≤ d3 ∧ w.heap.size ≤ d4 ∧ d3 ≠ d4) := Lib.hid (by omega)
  have A0 := Lib.hid (HA.out.below hb0)
  have R0 := Lib.hid (HR.out.below hb0)
  have K3 := Lib.hid hK3
  have K4 := Lib.hid hK4
  have HB0 := Lib.hid hb0
  have c3 : W0.cell? ⟨d3, 0, none⟩ = some (.pointer (some ⟨c, 0, none⟩)) := hK3.one
  obtain ⟨A, cap, rfl, _, _⟩ := own_slice HR.out.own
  rw [ints_length] at R0 HR
  obtain ⟨r0, r1, r2⟩ := rf_cells R0.out
  have LN := Lib.hid (fun n => len_is b l.length most peak v _ base (ints_length l) (W0.drewN n) A0.out.drewN)
  have LF := Lib.hid (fun n => left_is b most peak M v _ base (by rw [ints_length]; exact EM.out.symm) (W0.drewN n) A0.out.drewN)
  have MK := Lib.hid (fun n => mark_is b l.length most peak v _ base (ints_length l) (W0.drewN n) A0.out.drewN)
  have PK := Lib.hid (fun n => i_peak_any b most peak v _ base (W0.drewN n) A0.out.drewN)
  clear ed3 ed4 hK3 hK4 hb0 hW0
  go_quiet (first | (go_at_call 24; exact q_left (LN.out _)) | (go_at_call 25; exact q_drew (LF.out _)) | (go_at_call 23; exact q_left (MK.out _)) | (go_at_call 26; exact q_left (PK.out _)))
  obtain ⟨W1, e1⟩ : ∃ u : World, u = W0.drewN nq := ⟨_, rfl⟩
  rw [← e1]
  have A1 : RowKit.Hid (Ar 61 3 W1 base b most peak v (ints l)) := Lib.hid (by rw [e1]; exact A0.out.drewN)
  have R1 : RowKit.Hid (Rf W1 base c most peak (.slice A l.length cap) (ints l)) := Lib.hid (by rw [e1]; exact R0.out.kept rfl (fun _ _ => rfl))
  have L3 : RowKit.Hid (Blk W1 d3 #[.pointer (some ⟨c, 0, none⟩)] 27 ∧ Blk W1 d4 #[.bool false] 4 ∧ Below w.heap.size w W1) := Lib.hid (by rw [e1]; exact ⟨K3.out, K4.out, bdrew HB0.out⟩)
  clear e1 A0 R0 K3 K4 HB0 c3 r0 r1 r2 LN LF MK PK
  go_wp2_with (go_at_call 21; refine (all_any b most peak v _ base _ (A1.out.below (B1 _ _))).mono ?_; rintro e w8 ⟨rfl, rfl⟩)
  obtain ⟨wl, ewl⟩ : ∃ u, u = (W1.alloc (.cells #[.int .i64 0] 3)).alloc (.cells #[.pointer (some ⟨b, 0, none⟩)] 25) := ⟨_, rfl⟩
  obtain ⟨cb, ecb⟩ : ∃ k, k = W1.heap.size + 1 := ⟨_, rfl⟩
  obtain ⟨nb, enb⟩ : ∃ k, k = W1.heap.size := ⟨_, rfl⟩
  rw [← ewl, ← ecb, ← enb]
  have hbl : Below W1.heap.size W1 wl := by rw [ewl]; exact B2 _ _ _
  have hnb : Blk wl nb #[.int .i64 0] 3 := by rw [ewl, enb]; exact (Blk.new W1 _ _).alloc _
  have BC : RowKit.Hid (Blk wl cb #[.pointer (some ⟨b, 0, none⟩)] 25) := Lib.hid (by rw [ewl, ecb]; have := Blk.new (W1.alloc (.cells #[.int .i64 0] 3)) #[.pointer (some ⟨b, 0, none⟩)] 25; simpa using this)
  have F0 : RowKit.Hid (SF wl nb 0 d3 d4 b c most peak v (.slice A l.length cap) l base w) := Lib.hid
    ⟨hnb, L3.out.1.below' hbl, L3.out.2.1.below' hbl, A1.out.below hbl, R1.out.below hbl, bb L3.out.2.2 hbl, fun e => by have := (A1.out.own.lt nb e).2; omega, fun e => by have := (R1.out.own.lt nb e).2; omega⟩
  have WW : RowKit.Hid (w.heap.size ≤ nb ∧ w.heap.size ≤ wl.heap.size) := Lib.hid ⟨by have := L3.out.2.2.size; omega, F0.out.w.size⟩
  have NE : RowKit.Hid (b ≠ nb ∧ c ≠ nb ∧ d3 ≠ nb ∧ d4 ≠ nb ∧ cb ≠ nb) := Lib.hid ⟨neT F0.out.a.blk hnb (by decide), neT F0.out.f.blk hnb (by decide), neT F0.out.z hnb (by decide), neT F0.out.r hnb (by decide), by omega⟩
  clear A1 R1 L3 hbl hnb ewl ecb enb
  refine (wpIn_wide (n := 12)).1 ?_
  refine wpIn_rangeFunc_n (n := 12) (by omega) (gf := 42) (lb := #[.pointer (some ⟨cb, 0, none⟩)]) rfl (enters_of Try.func42 (by kernel_rfl) rfl)
    (all_seq 11 (by omega) cb b v (ints l) (by rw [ints_length]; omega) (fun k => k < wl.heap.size ∧ k ≠ nb) ⟨BC.out.lt, NE.out.2.2.2.2⟩ ⟨F0.out.a.blk.lt, NE.out.1⟩ (fun k e => ⟨(F0.out.a.own.lt k e).2, fun h => F0.out.hv (by rw [e, h])⟩) wl BC.out ⟨(ar_cells F0.out.a).1, own0 F0.out.a.own⟩)
    (Below.refl _ _) (fun _ => rfl) (fun k h => h.1)
    (fun k W => SF W nb k d3 d4 b c most peak v (.slice A l.length cap) l base w) (fun _ _ _ => False) (fun _ _ _ h hb => h.low F0.out hb WW.out.2) (fun _ _ _ _ h _ => h) F0.out
    (fun k => { tmps := #[Value.pointer (some { block := b, off := 0 }), Value.pointer (some { block := c, off := 0 }), undef, Value.pointer (some { block := d3, off := 0 }), Value.pointer (some { block := d4, off := 0 }), Value.pointer (some { block := nb, off := 0 }), Value.int IntKind.i64 (k : Int), (ints l)[k]?.getD undef, undef, undef, undef, Value.pointer (some { block := b, off := 0 }), Value.int IntKind.i64 ↑l.length, Value.pointer (some { block := c, off := 0 }), Value.pointer (some { block := c, off := 0 }), Value.pointer (some { block := c, off := 2 }), Value.slice A l.length cap, Value.int IntKind.i64 ↑l.length, Value.bool false, Value.bool false, Value.pointer (some { block := b, off := 0 }), Value.int IntKind.i64 M, Value.pointer (some { block := c, off := 0 }), Value.pointer (some { block := c, off := 0 }), Value.pointer (some { block := c, off := 0 }), Value.int IntKind.i64 most, Value.pointer (some { block := c, off := 0 }), Value.pointer (some { block := c, off := 0 }), Value.pointer (some { block := c, off := 2 }), Value.slice A l.length cap, Value.int IntKind.i64 ↑l.length, Value.int IntKind.i64 M, Value.bool false, Value.bool false, Value.bool false, Value.pointer (some { block := b, off := 0 }), Value.int IntKind.i64 ↑l.length, Value.pointer (some { block := c, off := 0 }), Value.pointer (some { block := c, off := 0 }), Value.pointer (some { block := c, off := 2 }), Value.slice A l.length cap, Value.int IntKind.i64 ↑l.length, Value.bool false, Value.bool false, Value.bool false, Value.pointer (some { block := b, off := 0 }), Value.int IntKind.i64 peak, Value.pointer (some { block := c, off := 0 }), Value.pointer (some { block := c, off := 0 }), Value.pointer (some { block := c, off := 1 }), Value.int IntKind.i64 peak, Value.bool false, Value.bool false, Value.pointer (some { block := b, off := 0 }), Value.func (Fn.func 42) #[] #[Value.pointer (some { block := cb, off := 0 })], Value.int IntKind.i64 (k : Int), (ints l)[k]?.getD undef, undef, undef, undef, undef, undef, undef, undef, undef, undef, undef, undef, undef, undef, undef, undef, undef, undef, undef, undef, undef, undef, undef, undef, undef, undef, undef, undef, undef, undef, undef, undef, undef, undef, undef, undef, undef, undef, undef, undef, undef, undef, undef, undef, undef, undef, undef, undef, undef, undef, undef, undef, undef, undef, undef, undef, undef, undef, undef, undef, undef, undef, undef, undef, undef, undef, undef, undef, undef, undef, undef, undef, undef, undef, undef, undef, undef, undef, undef, undef, undef, undef, undef], defers := [] }) ?assign ?body ?done ?stop
  case assign =>
    intro l2 k W K hK
    gi_wp2
    exact hK
  case body =>
    rintro l2 k W hF hz hk
    have hk2 : k < l.length := by rw [ints_length] at hk; exact hk
    have hk3 : (k : Int) < l.length := by omega
    have hk4 : ¬ (l.length : Int) ≤ k := by omega
    have hk5 : decide ((l.length : Int) ≤ k) = false := by simp; omega
    have hk6 : decide (l.length ≤ k) = false := by simp; omega
    have c1 : W.cell? ⟨nb, 0, none⟩ = some (.int .i64 (k : Int)) := hF.n.one
    have f1 := hF.n.frozen 0
    have c2 : W.cell? ⟨d3, 0, none⟩ = some (.pointer (some ⟨c, 0, none⟩)) := hF.z.one
    obtain ⟨_, _, c3⟩ := rf_cells hF.f
    obtain ⟨g, cap', e, _, _, _, _⟩ := own_shape hF.f.own (by rw [ints_length]; omega)
    rw [ints_length] at e
    simp only [Value.slice.injEq] at e
    obtain ⟨rfl, _, rfl⟩ := e
    have c4 : W.cell? ⟨g, k, none⟩ = some (.int .i64 (l.getD k 0)) := by
      have := hF.f.own.cells (g := g) rfl k _ (ints_at hk2)
      rw [Addr.add_lit, Nat.zero_add] at this
      exact this
    have hx : (ints l)[k]?.getD undef = .int .i64 (l.getD k 0) := by rw [← List.getD_eq_getElem?_getD]; exact ints_getD hk2
    rw [hx]
    generalize l.getD k 0 = y at c4 ⊢
    have HF := Lib.hid hF
    have hwk : IntKind.i64.wrap ((k : Int) + 1) = ((k + 1 : Nat) : Int) := (IntWalk.i64_in _ (by omega)).trans (by omega)
    clear hF hx hk hz
    gi_wp2_with fail
    refine wpIn_region_quiet_round mixed (by kernel_rfl) (by kernel_rfl) ?_
    repeat (gi_big_quiet_step (fail))
    refine wpQuietIn_nil ?_
    intro W' hw'
    obtain ⟨q, rfl⟩ := hw'
    have c5 : (W.drewN q).cell? ⟨nb, 0, none⟩ = some (.int .i64 (k : Int)) := c1
    have f5 : (W.drewN q).frozen? ⟨nb, 0, none⟩ = false := f1
    clear c1 c2 c3 c4 f1
    gi_wp2_with fail
    exact ⟨⟨by simp [World.setCell], fun j hj hg => Below.heap_setCell _ _ _ j (by rcases hg with h | h; exact h.2; have := WW.out; intro e; have e2 : j = nb := e; have := F0.out.n.lt; omega)⟩, HF.out.next q WW.out.1⟩
  case stop =>
    rintro D c' k W hD hk h hK
    exact h.elim
  case done =>
    rintro D W hD hF hK
    rw [ints_length] at hF
    have c1 : W.cell? ⟨nb, 0, none⟩ = some (.int .i64 (l.length : Int)) := hF.n.one
    have c2 : W.cell? ⟨d3, 0, none⟩ = some (.pointer (some ⟨c, 0, none⟩)) := hF.z.one
    obtain ⟨_, _, c3⟩ := rf_cells hF.f
    have c6 : W.cell? ⟨d4, 0, none⟩ = some (.bool false) := hF.r.one
    have f6 := hF.r.frozen 0
    have HF := Lib.hid hF
    have HK := Lib.hid hK
    have hDw : w.heap.size ≤ D ∧ D ≠ d4 := ⟨by have := WW.out; omega, by have := F0.out.r.lt; omega⟩
    have DW := Lib.hid hDw
    clear hF hK hDw
    go_wp2_with fail
    go_loopw [8, 9, 10] (fun s _ _ wr => ∃ k : Int, -1 ≤ k ∧ k ≤ (l.length : Int) + 1 ∧ s = .int .i64 k ∧ wr = W) (fun s _ _ _ => ((l.length : Int) + 1 - intOf s).toNat)
    case atStart => exact ⟨-1, by omega, by omega, rfl, rfl⟩
    case round =>
      obtain ⟨k, hk1, hk2, rfl, rfl⟩ := hrel
      by_cases hlt : k ≤ (l.length : Int)
      · have hwk : IntKind.i64.wrap (k + 1) = k + 1 := IntWalk.i64_in _ (by omega)
        by_cases h0 : k < 0
        · obtain rfl : k = -1 := by omega
          have AT := Lib.hid (i_at_no b most peak v (ints l) base (-1) (.inl (by decide)) wr HF.out.a)
          go_wp2_with (go_at_call 27; refine AT.out.mono ?_; rintro e w9 ⟨rfl, rfl⟩)
          go_roundw
          case rel => exact ⟨0, by omega, by omega, by first | rfl | go_num, by first | trivial | rfl⟩
          case measure => simp [intOf] <;> omega
        · obtain ⟨j, rfl⟩ : ∃ j : Nat, k = j := ⟨k.toNat, by omega⟩
          by_cases hj : j < l.length
          · have AT := Lib.hid (i_at_yes b most peak v (ints l) base j _ (ints_at hj) wr HF.out.a)
            obtain ⟨g, cap', e, _, _, _, _⟩ := own_shape HF.out.f.own (by rw [ints_length]; omega)
            rw [ints_length] at e
            simp only [Value.slice.injEq] at e
            obtain ⟨rfl, _, rfl⟩ := e
            have c4 : wr.cell? ⟨g, j, none⟩ = some (.int .i64 (l.getD j 0)) := by
              have := HF.out.f.own.cells (g := g) rfl j _ (ints_at hj)
              rw [Addr.add_lit, Nat.zero_add] at this
              exact this
            generalize l.getD j 0 = y at c4 AT
            have hj2 : (j : Int) < l.length := by omega
            have hj0 : (0 : Int) ≤ j := by omega
            have hjl : j ≤ l.length := by omega
            go_wp2_with (go_at_call 27; refine AT.out.mono ?_; rintro e w9 ⟨rfl, rfl⟩)
            go_roundw
            case rel => exact ⟨(j : Int) + 1, by omega, by omega, by first | rfl | go_num, by first | trivial | rfl⟩
            case measure => simp [intOf] <;> omega
          · obtain rfl : j = l.length := by omega
            have AT := Lib.hid (i_at_no b most peak v (ints l) base l.length (.inr (by rw [ints_length]; omega)) wr HF.out.a)
            have hj2 : ¬ (l.length : Int) < l.length := by omega
            have hj0 : (0 : Int) ≤ l.length := by omega
            go_wp2_with (go_at_call 27; refine AT.out.mono ?_; rintro e w9 ⟨rfl, rfl⟩)
            go_roundw
            case rel => exact ⟨(l.length : Int) + 1, by omega, by omega, by first | rfl | go_num, by first | trivial | rfl⟩
            case measure => simp [intOf] <;> omega
      · have hlt2 : (l.length : Int) < k := by omega
        go_wp2_with fail
        refine wp_mono (Q := calm _) ?_ (calm_le _)
        have hm := mixed
        refine wp_region_any hm ?_
        simp only [List.size_toArray, List.length_cons, List.length_nil, Nat.reduceAdd]
        obtain ⟨wd, ed⟩ : ∃ u : World, u = { wr with drawn := wr.drawn + 1 } := ⟨_, rfl⟩
        rw [← ed]
        have k1 : wd.cell? ⟨nb, 0, none⟩ = some (.int .i64 (l.length : Int)) := by rw [ed]; exact c1
        have k2 : wd.cell? ⟨d3, 0, none⟩ = some (.pointer (some ⟨c, 0, none⟩)) := by rw [ed]; exact c2
        have k3 : wd.cell? ⟨c, 2, none⟩ = some (.slice A l.length cap) := by rw [ed]; exact c3
        have k4 : wd.cell? ⟨d4, 0, none⟩ = some (.bool false) := by rw [ed]; exact c6
        have k5 : wd.frozen? ⟨d4, 0, none⟩ = false := by rw [ed]; exact f6
        have HK3 : RowKit.Hid ((wd.setCell ⟨d4, 0, none⟩ (.bool true)).heap[D]? = some (.deferred (some []))) := Lib.hid (by rw [Below.heap_setCell _ _ _ D (show D ≠ d4 from DW.out.2), ed]; exact HK.out)
        have FIN : RowKit.Hid (((wd.setCell ⟨d4, 0, none⟩ (.bool true)).putObj D (.deferred none)).cell? ⟨d4, 0, none⟩ = some (.bool true) ∧ Below w.heap.size w ((wd.setCell ⟨d4, 0, none⟩ (.bool true)).putObj D (.deferred none))) := Lib.hid ⟨by
          have hb : Blk (wd.setCell ⟨d4, 0, none⟩ (.bool true)) d4 #[.bool true] 4 := heap_setCell_same wd d4 0 #[.bool false] 4 (.bool true) (by rw [ed]; exact HF.out.r)
          exact Blk.one (T := 4) ((World.putObj_heap_other (fun e => DW.out.2 e.symm)).trans hb), by
          have h1 : Below w.heap.size w wd := by rw [ed]; exact bdrew1 HF.out.w
          exact (h1.setCell (p := ⟨d4, 0, none⟩) HD.out.2.1 _).trans (below_putObj _ D _ _ DW.out.1)⟩
        clear ed c1 c2 c3 c6 f6
        refine wpAny_ready (rs := [0, 1]) (by kernel_rfl) (by simp) ?_
        refine AllReady.cons rfl (fun K hK => ?_) ?_
        · go_simp
          refine hK _ _ ?_
          clear hK K
          refine wpAny_ready (rs := [1]) (by kernel_rfl) (by simp) ?_
          refine AllReady.cons rfl (fun K hK => ?_) ?_
          · go_simp
            refine hK _ _ ?_
            clear hK K
            refine wpAny_take (i := 2) (v := ?_) rfl (by kernel_rfl) (by kernel_rfl) (by kernel_rfl) (fun _ _ _ h => h) (Or.inl ⟨by rfl, ?_⟩) ?_
            rotate_left
            · intro w; go_simp; try with_reducible rfl
            refine wpAny_take (i := 3) (v := ?_) rfl (by kernel_rfl) (by kernel_rfl) (by kernel_rfl) (fun _ _ _ h => h) (Or.inl ⟨by rfl, ?_⟩) ?_
            rotate_left
            · intro w; go_simp; try with_reducible rfl
            refine wpAny_ready (rs := [4]) (by kernel_rfl) (by simp) ?_
            refine AllReady.cons rfl (fun K hK => ?_) ?_
            · go_simp
              refine hK _ _ ?_
              clear hK K
              refine wpAny_take (i := 5) (v := ?_) rfl (by kernel_rfl) (by kernel_rfl) (by kernel_rfl) (fun _ _ _ h => h) (Or.inl ⟨by rfl, ?_⟩) ?_
              rotate_left
              · intro w; go_simp; try with_reducible rfl
              refine wpAny_take (i := 6) (v := ?_) rfl (by kernel_rfl) (by kernel_rfl) (by kernel_rfl) (fun _ _ _ h => h) (Or.inl ⟨by rfl, ?_⟩) ?_
              rotate_left
              · intro w; go_simp; try with_reducible rfl
              refine wpAny_ready (rs := [7]) (by kernel_rfl) (by simp) ?_
              refine AllReady.cons rfl (fun K hK => ?_) ?_
              · go_simp
                refine hK _ _ ?_
                clear hK K
                refine wpAny_done (by kernel_rfl) ?_ _
                simp only [calm]
                go_wp2_with fail
                refine ⟨by simp, .inl ⟨_, _, rfl, run_takeDeferred HK3.out, ?_⟩⟩
                exact ⟨_, results_b rfl _ _ d4 true rfl FIN.out.1, rfl, FIN.out.2⟩
              exact AllReady.nil
            exact AllReady.nil
          exact AllReady.nil
        refine AllReady.cons rfl (fun K hK => ?_) ?_
        · go_simp
          refine hK _ _ ?_
          clear hK K
          refine wpAny_take (i := 2) (v := ?_) rfl (by kernel_rfl) (by kernel_rfl) (by kernel_rfl) (fun _ _ _ h => h) (Or.inl ⟨by rfl, ?_⟩) ?_
          rotate_left
          · intro w; go_simp; try with_reducible rfl
          refine wpAny_take (i := 3) (v := ?_) rfl (by kernel_rfl) (by kernel_rfl) (by kernel_rfl) (fun _ _ _ h => h) (Or.inl ⟨by rfl, ?_⟩) ?_
          rotate_left
          · intro w; go_simp; try with_reducible rfl
          refine wpAny_ready (rs := [0, 4]) (by kernel_rfl) (by simp) ?_
          refine AllReady.cons rfl (fun K hK => ?_) ?_
          · go_simp
            refine hK _ _ ?_
            clear hK K
            refine wpAny_ready (rs := [4]) (by kernel_rfl) (by simp) ?_
            refine AllReady.cons rfl (fun K hK => ?_) ?_
            · go_simp
              refine hK _ _ ?_
              clear hK K
              refine wpAny_take (i := 5) (v := ?_) rfl (by kernel_rfl) (by kernel_rfl) (by kernel_rfl) (fun _ _ _ h => h) (Or.inl ⟨by rfl, ?_⟩) ?_
              rotate_left
              · intro w; go_simp; try with_reducible rfl
              refine wpAny_take (i := 6) (v := ?_) rfl (by kernel_rfl) (by kernel_rfl) (by kernel_rfl) (fun _ _ _ h => h) (Or.inl ⟨by rfl, ?_⟩) ?_
              rotate_left
              · intro w; go_simp; try with_reducible rfl
              refine wpAny_ready (rs := [7]) (by kernel_rfl) (by simp) ?_
              refine AllReady.cons rfl (fun K hK => ?_) ?_
              · go_simp
                refine hK _ _ ?_
                clear hK K
                refine wpAny_done (by kernel_rfl) ?_ _
                simp only [calm]
                go_wp2_with fail
                refine ⟨by simp, .inl ⟨_, _, rfl, run_takeDeferred HK3.out, ?_⟩⟩
                exact ⟨_, results_b rfl _ _ d4 true rfl FIN.out.1, rfl, FIN.out.2⟩
              exact AllReady.nil
            exact AllReady.nil
          refine AllReady.cons rfl (fun K hK => ?_) ?_
          · go_simp
            refine hK _ _ ?_
            clear hK K
            refine wpAny_take (i := 5) (v := ?_) rfl (by kernel_rfl) (by kernel_rfl) (by kernel_rfl) (fun _ _ _ h => h) (Or.inl ⟨by rfl, ?_⟩) ?_
            rotate_left
            · intro w; go_simp; try with_reducible rfl
            refine wpAny_ready (rs := [0]) (by kernel_rfl) (by simp) ?_
            refine AllReady.cons rfl (fun K hK => ?_) ?_
            · go_simp
              refine hK _ _ ?_
              clear hK K
              refine wpAny_take (i := 6) (v := ?_) rfl (by kernel_rfl) (by kernel_rfl) (by kernel_rfl) (fun _ _ _ h => h) (Or.inl ⟨by rfl, ?_⟩) ?_
              rotate_left
              · intro w; go_simp; try with_reducible rfl
              refine wpAny_ready (rs := [7]) (by kernel_rfl) (by simp) ?_
              refine AllReady.cons rfl (fun K hK => ?_) ?_
              · go_simp
                refine hK _ _ ?_
                clear hK K
                refine wpAny_done (by kernel_rfl) ?_ _
                simp only [calm]
                go_wp2_with fail
                refine ⟨by simp, .inl ⟨_, _, rfl, run_takeDeferred HK3.out, ?_⟩⟩
                exact ⟨_, results_b rfl _ _ d4 true rfl FIN.out.1, rfl, FIN.out.2⟩
              exact AllReady.nil
            exact AllReady.nil
          exact AllReady.nil
        exact AllReady.nil

end Go.Proofs.Ytfcacgiejoeneaa
namespace Go.Proofs.Ytfcacgiejoeneaa
open Go Go.RowKit
/-- The two arenas beside each other. -/
structure Pair (w : World) (B b c : Nat) (room pk : Int) (v u : Value) (xs : List Int) : Prop where
  a : Ar 61 3 w B b room pk v (ints xs)
  r : Rf w B c room pk u (ints xs)
  apart : ∀ k, v.ownBlock = some k → u.ownBlock ≠ some k
theorem Pair.below {w w' : World} {B b c : Nat} {room pk : Int} {v u : Value} {xs : List Int} (h : Pair w B b c room pk v u xs) (hb : Below w.heap.size w w') : Pair w' B b c room pk v u xs :=
  ⟨h.a.below hb, h.r.below hb, h.apart⟩
theorem Pair.ne {w : World} {B b c : Nat} {room pk : Int} {v u : Value} {xs : List Int} (h : Pair w B b c room pk v u xs) : b ≠ c := neT h.a.blk h.r.blk (by decide)
/-- The one turns, the other stays. -/
theorem Pair.left {w w' : World} {B b c : Nat} {room pk pk' : Int} {v u v' : Value} {xs ys : List Int} (h : Pair w B b c room pk v u xs) (ha : Ar 61 3 w' B b room pk' v' (ints ys)) (ht : Turn w w' b v v') :
    Rf w' B c room pk u (ints xs) ∧ ∀ k, v'.ownBlock = some k → u.ownBlock ≠ some k :=
  ⟨h.r.other ht (fun e => h.ne e.symm) (own_ne h.a.own h.r.blk (by decide)) (own_ne h.r.own h.a.blk (by decide)) (fun k e1 e2 => h.apart k e2 e1), fun k e1 e2 => by
    rcases ht.fresh k e1 with e | e
    · exact h.apart k e e2
    · have := (h.r.own.lt k e2).2; omega⟩
theorem Pair.right {w w' : World} {B b c : Nat} {room pk pk' : Int} {v u u' : Value} {xs ys : List Int} (ha : Ar 61 3 w B b room pk' v (ints ys)) (hr : Rf w B c room pk u (ints xs)) (hs : ∀ k, v.ownBlock = some k → u.ownBlock ≠ some k)
    (h' : Rf w' B c room pk' u' (ints ys)) (ht : Turn w w' c u u') : Pair w' B b c room pk' v u' ys :=
  ⟨ha.other ht (neT ha.blk hr.blk (by decide)) (own_ne hr.own ha.blk (by decide)) (own_ne ha.own hr.blk (by decide)) (fun k e1 e2 => hs k e1 e2), h', fun k e1 e2 => by
    rcases ht.fresh k e2 with e | e
    · exact hs k e1 e
    · have := (ha.own.lt k e1).2; omega⟩
set_option maxRecDepth 100000 in
set_option maxHeartbeats 1000000 in
theorem does_long (room : Int) (A : Option Addr) (ds : List Deed) (c : Nat) (hd : ds.length ≤ 140737488351232) (hl : ∀ d ∈ ds, d.l.length ≤ 140737488351232) (h : 400 < ds.length + things ds ∨ 60 < ds.length) (w : World) (hA : Deeds w A ds) :
    Calls Try.prog 3 #[.int .i64 room, .slice A ds.length c] w fun e w' => e = .returned (.bool true) ∧ Below w.heap.size w w' := by
  have SZ := Lib.hid (size_any A ds c hd hl w hA)
  by_cases h6 : 60 < ds.length
  · have h62 : (60 : Int) < ds.length := by omega
    clear hd hl hA h
    go_enter Try.func3, Try.ntmps3
    go_wp2_with (first | (go_at_call 7; refine SZ.out.mono ?_; rintro e w1 ⟨⟨z, rfl, hz⟩, rfl⟩) | (go_at_call 8; refine (awake_any _).mono ?_; rintro e w2 ⟨rfl, hb2⟩; have HB2 := Lib.hid hb2; clear hb2))
    all_goals go_ret
    all_goals exact ⟨rfl, HB2.out⟩
  · have h7 : 400 < ds.length + things ds := by omega
    have H7 := Lib.hid h7
    clear hd hl hA h h7 h6
    go_enter Try.func3, Try.ntmps3
    go_wp2_with (first | (go_at_call 7; refine SZ.out.mono ?_; rintro e w1 ⟨⟨z, rfl, hz⟩, rfl⟩; have hz4 : 400 < z := (by have := H7.out; omega); clear hz) | (go_at_call 8; refine (awake_any _).mono ?_; rintro e w2 ⟨rfl, hb2⟩; have HB2 := Lib.hid hb2; clear hb2))
    all_goals go_ret
    all_goals exact ⟨rfl, HB2.out⟩
end Go.Proofs.Ytfcacgiejoeneaa
namespace Go.Proofs.Ytfcacgiejoeneaa
open Go Go.ChangeShapes Go.WideShapes Go.ChangeAt Go.RowKit
section
variable {H : Type} {enc : TypeId × Value → H} {P : Program}
theorem trodAll_stays (hl : laidOutB P = true) {W W' : World} {sp' : Nat → Bool} : ∀ {ts : List TypeId} {vs : List Value} {ds : List (DataW H)} {ps : List MemPlace},
    (ts.all fun t => P.readableRec t && decide (t < P.types.size)) = true → DataW.TrodAll enc P W 0 (fun _ => true) true ts vs ds ps → (∀ p ∈ ps, W.sameAt W' p) → (∀ p ∈ ps, sp' p.block = true) → DataW.TrodAll enc P W' 0 sp' true ts vs ds ps
  | [], [], [], _, _, h, _, _ => h
  | t :: ts, _ :: _, _ :: _, _, hT, ⟨p, q, h1, h2, e⟩, hsame, hs => by
    simp only [List.all_cons, Bool.and_eq_true, decide_eq_true_eq] at hT
    exact ⟨p, q, WideElems.Trod_stays hl hT.1.1 hT.1.2 h1 (fun x hx => hsame x (by rw [e]; exact List.mem_append_left _ hx)) (fun x hx => hs x (by rw [e]; exact List.mem_append_left _ hx)),
      trodAll_stays hl hT.2 h2 (fun x hx => hsame x (by rw [e]; exact List.mem_append_right _ hx)) (fun x hx => hs x (by rw [e]; exact List.mem_append_right _ hx)), e⟩

theorem post_of_below {f : Func} {s : ChangeSpec} {apart fresh handsOn again : Bool} {W W' : World} {args : Array Value} {v : Value} {ds gs : List (DataW H)} {before pa pv : List MemPlace}
    (hW : DataW.Whole enc P f.params.toList s.vars apart W args.toList ds gs before)
    (hres : ∀ (b : Nat) (sp : Nat → Bool) (hd : Bool), DataW.TrodAll enc P W' b sp hd f.resultTypes.toList (v.resultList f.resultTypes.size) (s.fn H (ds ++ gs)).results [])
    (hargs : ∀ sp : Nat → Bool, (∀ p ∈ before, sp p.block = true) → DataW.TrodAll enc P W' 0 sp true f.params.toList args.toList (s.fn H (ds ++ gs)).args pa)
    (hvars : ∀ sp : Nat → Bool, (∀ p ∈ before, sp p.block = true) → DataW.TrodVars enc P W' sp s.vars (s.fn H (ds ++ gs)).vars pv)
    (hps : before = pa ++ pv) (hb : Below W.heap.size W W')
    (hok : ∀ (j : Nat) (t : TypeId) (r : Value), f.resultTypes[j]? = some t → (v.resultList f.resultTypes.size)[j]? = some r → Value.okWide P W' .any 0 t r) :
    s.post enc P f apart fresh handsOn again W args v W' := by
  have hlt : ∀ p ∈ before, p.block < W.heap.size := fun p hp => hW.lt p hp
  have hold : ∀ p ∈ before, (fun b => decide (b < W.heap.size)) p.block = true := fun p hp => by simpa using hlt p hp
  refine ⟨ds, gs, before, [], pa, pv, hW, hres _ _ _, hargs _ hold, hvars _ hold, World.keptBut_mono (fun p hp => ⟨hp, ?_⟩) (hb.frame (· ∈ before)), fun _ => ?_⟩
  · rw [hps, List.mem_append] at hp
    exact Or.inr hp
  · obtain ⟨_, _, _, _, _, hz, hn⟩ := hW
    refine ⟨hok, _, _, ([] ++ pa) ++ pv, ⟨[] ++ pa, pv, trodAll_append (hargs _ (fun _ _ => rfl)) (hres _ _ _), hvars _ (fun _ _ => rfl), rfl, ?_, ?_⟩, ?_⟩
    · intro b off hp
      have hin : MemPlace.cell b off ∈ before := by rw [hps]; simpa using hp
      rw [hb.frozen (hlt _ hin)]
      exact hz b off hin
    · intro ha
      have := hn ha
      rw [hps] at this
      simpa using this
    · intro p hp _
      rw [hps]
      simpa using hp

/-- A law that answered true, behind which all lies as it lay. -/
theorem post_true {f : Func} {s : ChangeSpec} {apart fresh handsOn again : Bool} {W W' : World} {args : Array Value} {ds : List (DataW H)} {before : List MemPlace} {tb : TypeId}
    (hl : laidOutB P = true) (hT : (f.params.toList.all fun t => P.readableRec t && decide (t < P.types.size)) = true) (hv : s.vars = []) (hrt : f.resultTypes = #[tb]) (htb : P.underlying tb = some .bool)
    (hW : DataW.Whole enc P f.params.toList s.vars apart W args.toList ds [] before)
    (hA : DataW.TrodAll enc P W 0 (fun _ => true) true f.params.toList args.toList ds before)
    (hr : (s.fn H (ds ++ [])).results = [.lit (.bool true)]) (ha : (s.fn H (ds ++ [])).args = ds) (hvs : (s.fn H (ds ++ [])).vars = []) (hb : Below W.heap.size W W') :
    s.post enc P f apart fresh handsOn again W args (.bool true) W' := by
  refine post_of_below (pa := before) (pv := []) hW (fun _ _ _ => ?_) (fun sp hsp => ?_) (fun _ _ => ?_) (by simp) hb ?_
  · rw [hr, hrt]
    exact trodAll_mk1 (shut_bool htb _)
  · rw [ha]
    exact trodAll_stays hl hT hA (fun x hx => hb.same (hW.lt x hx)) hsp
  · rw [hv, hvs]; rfl
  · exact ok_one hrt rfl (okWide_bool_mk htb _)

end
end Go.Proofs.Ytfcacgiejoeneaa
namespace Go.Proofs.Ytfcacgiejoeneaa
open Go Go.ChangeShapes Go.WideShapes Go.ChangeAt Go.RowKit
theorem own : ownKnob Try.prog.godebug = none := by kernel_rfl
theorem laidOut : laidOutB Try.prog = true := by kernel_rfl
theorem cells3 : Try.prog.cellsOf 3 = 1 := by kernel_rfl
theorem bytes3 : Try.prog.bytesOf 3 = 8 := by kernel_rfl
theorem int_of_wf {x : Int} (h : (Lit.int .i64 x).wf = true) : -9223372036854775808 ≤ x ∧ x < 9223372036854775808 := by
  simp [Lit.wf, IntKind.min, IntKind.max, IntKind.signed, IntKind.bits] at h
  exact ⟨by omega, by omega⟩
set_option maxRecDepth 100000 in
/-- A slice of numbers that came in. -/
theorem open_nums {H : Type} {enc : TypeId × Value → H} {W : World} {b0 : Nat} {v : Value} {d : DataW H} {p : List MemPlace}
    (hv : Value.okWide Try.prog W .any b0 28 v) (h0 : DataW.Trod enc Try.prog W 0 (fun _ => true) true 28 v d p) :
    ∃ (A : Option Addr) (l : List Int) (c : Nat), v = .slice A l.length c ∧ (A = none → c = 0) ∧ l.length ≤ maxLen ∧ (∀ x ∈ l, -9223372036854775808 ≤ x ∧ x < 9223372036854775808) ∧ Lies W A (ints l) := by
  obtain ⟨A, len, cap, rfl⟩ := okWide_slice Try.underlying28 hv
  obtain ⟨fuel, hf⟩ := h0
  rcases open_ints Try.underlying28 Try.underlying3 cells3 hf with ⟨hcs, hx⟩ | ⟨a, len', cap', zs, hcs, _, hl, hm, hz, hx, hcell, hwz⟩
  · simp [Value.cells] at hcs
    obtain ⟨rfl, rfl, rfl⟩ := hcs
    exact ⟨none, [], 0, rfl, fun _ => rfl, by simp, by simp, fun h => by simp [ints] at h⟩
  · simp [Value.cells] at hcs
    obtain ⟨rfl, rfl, rfl⟩ := hcs
    simp only [if_true] at hz
    have hlen : (zs.take len).length = len := by simp; omega
    refine ⟨some a, zs.take len, cap, by rw [hlen], (fun h => by cases h), by rw [hlen]; omega, fun x hx => int_of_wf (hwz x (List.mem_of_mem_take hx)), fun h0 => ?_⟩
    rw [ints_length, hlen] at h0 ⊢
    obtain ⟨ab, ao, spot⟩ := a
    have hspot : spot = none := by simpa [Addr.add] using World.cell?_spot (hcell 0 (by omega))
    subst hspot
    have hblk := World.block_lt_of_cell? _ _ (hcell 0 (by omega))
    rw [Addr.add_lit] at hblk
    refine ⟨ab, ao, rfl, hblk, fun i hi => ?_⟩
    have := hcell i (by omega)
    rw [Addr.add_lit] at this
    rw [this, ints_at (by rw [hlen]; exact hi)]
    have e : zs.getD i 0 = (zs.take len).getD i 0 := by
      simp only [List.getD_eq_getElem?_getD, List.getElem?_take, if_pos hi]
    rw [e]
theorem slice_data {P : Program} {H : Type} {enc : TypeId × Value → H} {W : World} {t e : TypeId} {A : Option Addr} {n c : Nat} {d : DataW H} {p : List MemPlace} (ht : P.underlying t = some (.slice e))
    (h0 : DataW.Trod enc P W 0 (fun _ => true) true t (.slice A n c) d p) : n = 0 ∨ ∃ es sp, d = .slice es sp ∧ es.length = n := by
  obtain ⟨fuel, hf⟩ := h0
  rcases DataW.trod_slice ht hf with ⟨hcs, _⟩ | ⟨a, len, cap, elems, rest, m, _, hcs, hx, _, _, _, hlen, _⟩
  · simp [Value.cells] at hcs; exact .inl hcs.2.1
  · simp [Value.cells] at hcs
    obtain ⟨_, rfl, _⟩ := hcs
    right
    exact ⟨_, _, (Prod.mk.inj hx).1, by simpa using hlen⟩
end Go.Proofs.Ytfcacgiejoeneaa
namespace Go.Proofs.Ytfcacgiejoeneaa
open Go Go.ChangeShapes Go.WideShapes Go.ChangeAt Go.RowKit Go.Joins Go.Deep
theorem weights_mem {H : Type} {P : Program} {e : TypeId} : ∀ {l : List (DataW H)} {d : DataW H}, d ∈ l → ∀ n ∈ d.weights P e, n ∈ DataW.weightsAll P e l
  | d' :: r, d, hd, n, hn => by
    simp only [DataW.weightsAll, List.mem_append]
    rcases List.mem_cons.1 hd with rfl | h
    · exact Or.inl hn
    · exact Or.inr (weights_mem h n hn)
theorem Try.fields32 : ∃ f0 f1 f2 f3 : Field, Try.prog.underlying 32 = some (.struct #[f0, f1, f2, f3]) ∧ f0.type = 3 ∧ f1.type = 3 ∧ f2.type = 3 ∧ f3.type = 28 ∧ oneCellFields Try.prog #[f0, f1, f2, f3] = true := ⟨_, _, _, _, Try.underlying32, rfl, rfl, rfl, rfl, by kernel_rfl⟩
theorem cells32 : Try.prog.cellsOf 32 = 4 := by kernel_rfl
/-- A row of numbers within what came in, by its cell. -/
theorem open_nums_in {H : Type} {enc : TypeId × Value → H} {W : World} {fuel : Nat} {u : Value} {d : DataW H} {p : List MemPlace} (hf : DataW.trod enc Try.prog W 0 (fun _ => true) true fuel 28 [u] = some (d, p)) :
    ∃ (A : Option Addr) (l : List Int) (c : Nat), u = .slice A l.length c ∧ (A = none → c = 0) ∧ Lies W A (ints l) ∧ (l.length = 0 ∨ ∃ es sp, d = .slice es sp ∧ es.length = l.length) := by
  have hd := DataW.trod_slice Try.underlying28 hf
  rcases open_ints Try.underlying28 Try.underlying3 cells3 hf with ⟨hcs, hx⟩ | ⟨a, len', cap', zs, hcs, _, hl, hm, hz, hx, hcell, hwz⟩
  · simp at hcs
    subst hcs
    exact ⟨none, [], 0, rfl, fun _ => rfl, fun h => by simp [ints] at h, .inl rfl⟩
  · simp at hcs
    subst hcs
    simp only [if_true] at hz
    have hlen : (zs.take len').length = len' := by simp; omega
    refine ⟨some a, zs.take len', cap', by rw [hlen], (fun h => by cases h), fun h0 => ?_, ?_⟩
    · rw [ints_length, hlen] at h0 ⊢
      obtain ⟨ab, ao, spot⟩ := a
      have hspot : spot = none := by simpa [Addr.add] using World.cell?_spot (hcell 0 (by omega))
      subst hspot
      have hblk := World.block_lt_of_cell? _ _ (hcell 0 (by omega))
      rw [Addr.add_lit] at hblk
      refine ⟨ab, ao, rfl, hblk, fun i hi => ?_⟩
      have := hcell i (by omega)
      rw [Addr.add_lit] at this
      rw [this, ints_at (by rw [hlen]; exact hi)]
      have e : zs.getD i 0 = (zs.take len').getD i 0 := by
        simp only [List.getD_eq_getElem?_getD, List.getElem?_take, if_pos hi]
      rw [e]
    · rcases hd with ⟨hcs, _⟩ | ⟨a', len, cap, elems, rest, m, _, hcs, hx', _, _, _, hlen', _⟩
      · simp at hcs
      · simp at hcs
        obtain ⟨_, rfl, _⟩ := hcs
        right
        exact ⟨_, _, (Prod.mk.inj hx').1, by rw [hlen]; simpa using hlen'⟩
theorem list4 {α : Type} (l : List α) (h : l.length = 4) : ∃ a b c d, l = [a, b, c, d] := by
  match l, h with
  | [a, b, c, d], _ => exact ⟨a, b, c, d, rfl⟩
/-- Where a slice that came in leads. -/
theorem slice_at {P : Program} {W : World} {b0 : Nat} {t e : TypeId} {a : Addr} {n c : Nat} (ht : P.underlying t = some (.slice e)) (h : Value.okWide P W .any b0 t (.slice (some a) n c)) : a.spot = none ∧ a.block < W.heap.size := by
  simp only [Value.okWide, ht, Cell.okWide, Cell.ok, World.has] at h
  obtain ⟨_, _, _, hs, row, cells, hsh, _⟩ := h
  refine ⟨hs, ?_⟩
  unfold World.shape? at hsh
  cases hw : W.heap[a.block]? with
  | none => rw [hw] at hsh; cases hsh
  | some o => exact (Array.getElem?_eq_some_iff.1 hw).1
instance : Inhabited Deed := ⟨Deed.zero⟩
/-- A deed that came in. -/
def Good (W : World) (d : Deed) : Prop :=
  (-9223372036854775808 ≤ d.what ∧ d.what < 9223372036854775808) ∧ (-9223372036854775808 ≤ d.n ∧ d.n < 9223372036854775808) ∧ (-9223372036854775808 ≤ d.x ∧ d.x < 9223372036854775808) ∧ (d.A = none → d.c = 0) ∧ Lies W d.A (ints d.l) ∧ d.l.length ≤ 140737488351232
set_option maxRecDepth 100000 in
theorem open_deeds {H : Type} {enc : TypeId × Value → H} {W : World} {base : Nat} {v : Value} {d : DataW H} {p : List MemPlace}
    (hv : Value.okWide Try.prog W .any base 22 v) (h0 : DataW.Trod enc Try.prog W 0 (fun _ => true) true 22 v d p) (hw : ∀ n ∈ d.weights Try.prog 22, n ≤ reachBytes) :
    ∃ (A : Option Addr) (ds : List Deed) (c : Nat), v = .slice A ds.length c ∧ ds.length ≤ 140737488351232 ∧ Deeds W A ds ∧ ∀ x ∈ ds, Good W x := by
  obtain ⟨f0, f1, f2, f3, hu, t0, t1, t2, t3, ho⟩ := Try.fields32
  obtain ⟨o0, k0⟩ := hone_of ho 0 f0 rfl
  obtain ⟨o1, k1⟩ := hone_of ho 1 f1 rfl
  obtain ⟨o2, k2⟩ := hone_of ho 2 f2 rfl
  obtain ⟨o3, k3⟩ := hone_of ho 3 f3 rfl
  obtain ⟨A, len, cap, rfl⟩ := okWide_slice Try.underlying22 hv
  obtain ⟨fuel, hf⟩ := h0
  rcases Go.Deep.open_slice Try.underlying22 hf with ⟨hcs, hx⟩ | ⟨a, len', cap', m, n, D, Pl, hcs, _, hl, hm, hmm, hx, hel⟩
  · simp [Value.cells] at hcs
    obtain ⟨rfl, rfl, rfl⟩ := hcs
    exact ⟨none, [], 0, rfl, by simp, fun h => by simp at h, by simp⟩
  · simp [Value.cells] at hcs
    obtain ⟨rfl, rfl, rfl⟩ := hcs
    simp only [if_true] at hmm
    subst hmm
    rw [cells32] at hel
    obtain ⟨hsp, hblk⟩ := slice_at Try.underlying22 hv
    obtain ⟨b, off, spot⟩ := a
    dsimp only at hsp hblk
    subst hsp
    have hd := (Prod.mk.inj hx).1
    have hwl : ∀ i, i < len → ∀ n ∈ (D i).weights Try.prog 32, n ≤ reachBytes := by
      intro i hi n hn
      refine hw n ?_
      rw [hd]
      simp only [DataW.weights, Try.underlying22, List.mem_cons, List.mem_append]
      exact .inr (.inl (weights_mem (List.mem_map.2 ⟨i, List.mem_range.2 hi, rfl⟩) n hn))
    have hlen8 : len ≤ 140737488351232 := by
      have h1 := hw ((((List.range len).map D).length + ((List.range (m - len)).map fun j => D (len + j)).length) * Try.prog.bytesOf 32) (by
        rw [hd]
        simp only [DataW.weights, Try.underlying22, List.mem_cons]
        exact .inl (by first | trivial | rfl))
      have hb : Try.prog.bytesOf 32 = 48 := by kernel_rfl
      rw [hb] at h1
      simp at h1
      unfold reachBytes at h1
      omega
    have key : ∀ i, i < len → ∃ r : Deed, Good W r ∧ W.cell? ⟨b, off + i * 4, none⟩ = some (.int .i64 r.what) ∧ W.cell? ⟨b, off + i * 4 + 1, none⟩ = some (.int .i64 r.n) ∧ W.cell? ⟨b, off + i * 4 + 2, none⟩ = some (.int .i64 r.x) ∧
        W.cell? ⟨b, off + i * 4 + 3, none⟩ = some (.slice r.A r.l.length r.c) := by
      intro i hi
      obtain ⟨cs', h1, h2⟩ := hel i (by omega)
      obtain ⟨_, hlen, hcell⟩ := World.cells?_some h1
      obtain ⟨c0, c1, c2, c3, rfl⟩ := list4 cs' hlen
      obtain ⟨y0, y1, y2, y3, n', hy, _, g0, g1, g2, g3⟩ := trod_struct4 hu h2
      rw [o0, k0, t0] at g0
      rw [o1, k1, t1] at g1
      rw [o2, k2, t2] at g2
      rw [o3, k3, t3] at g3
      obtain ⟨x0, e0, _, w0⟩ := DataW.trod_int Try.underlying3 g0
      obtain ⟨x1, e1, _, w1⟩ := DataW.trod_int Try.underlying3 g1
      obtain ⟨x2, e2, _, w2⟩ := DataW.trod_int Try.underlying3 g2
      simp at e0 e1 e2
      subst e0 e1 e2
      simp only [List.drop_succ_cons, List.drop_zero, List.take_succ_cons, List.take_zero] at g3
      obtain ⟨A3, l3, c3', rfl, hn3, hL3, hd3⟩ := open_nums_in (d := y3.1) (p := y3.2) g3
      have k0 := hcell 0 (by omega)
      have k1 := hcell 1 (by omega)
      have k2 := hcell 2 (by omega)
      have k3 := hcell 3 (by omega)
      rw [Addr.add_lit, Addr.add_lit] at k0 k1 k2 k3
      refine ⟨⟨x0, x1, x2, A3, c3', l3⟩, ⟨int_of_wf w0, int_of_wf w1, int_of_wf w2, hn3, hL3, ?_⟩, ?_, ?_, ?_, ?_⟩
      · rcases hd3 with h | ⟨es, sp, e, he⟩
        · show l3.length ≤ _
          omega
        · have hD := (Prod.mk.inj hy).1
          have := hwl i hi ((es.length + sp.length) * Try.prog.bytesOf 3) (by
            rw [hD, e]
            simp [DataW.weights, hu, DataW.weightsEach, t0, t1, t2, t3, Try.underlying28])
          rw [bytes3] at this
          unfold reachBytes at this
          show l3.length ≤ _
          omega
      · rw [Nat.add_zero] at k0; rw [k0]; simp
      · rw [k1]; simp
      · rw [k2]; simp
      · rw [k3]; simp
    obtain ⟨f, hfk⟩ := Go.Deep.choose_lt key
    have hlen : ((List.range len).map f).length = len := by simp
    have hget : ∀ i, i < len → ((List.range len).map f).getD i Deed.zero = f i := fun i hi => by simp [List.getD, hi]
    refine ⟨some ⟨b, off, none⟩, (List.range len).map f, m, by rw [hlen], by rw [hlen]; exact hlen8, fun _ => ⟨b, off, rfl, hblk, fun i hi => ?_⟩, fun r hr => ?_⟩
    · rw [hlen] at hi
      rw [hget i hi]
      exact (hfk i hi).2
    · obtain ⟨i, hi, rfl⟩ := List.mem_map.1 hr
      exact (hfk i (by simpa using hi)).1
end Go.Proofs.Ytfcacgiejoeneaa
namespace Go.Proofs.Ytfcacgiejoeneaa
open Go Go.RowKit
/-- What Put answers and leaves. -/
def PutIs (room pk : Int) (xs l : List Int) (r E pk' : Int) (ys : List Int) : Prop :=
  ((xs.length : Int) + l.length ≤ room ∧ r = xs.length ∧ E = 0 ∧ pk' = max pk ((xs.length : Int) + l.length) ∧ ys = xs ++ l) ∨ (room < (xs.length : Int) + l.length ∧ r = 0 ∧ E = 12 ∧ pk' = pk ∧ ys = xs)
theorem put_is (room pk : Int) (xs l : List Int) : ∃ r E pk' ys, PutIs room pk xs l r E pk' ys ∧ ys.length ≤ xs.length + l.length := by
  by_cases h : (xs.length : Int) + l.length ≤ room
  · exact ⟨_, _, _, _, .inl ⟨h, rfl, rfl, rfl, rfl⟩, by simp⟩
  · exact ⟨_, _, _, _, .inr ⟨by omega, rfl, rfl, rfl, rfl⟩, by simp⟩
def SetIs (xs : List Int) (k x : Int) (E : Int) (ys : List Int) : Prop :=
  (∃ m : Nat, k = m ∧ m < xs.length ∧ E = 0 ∧ ys = xs.set m x) ∨ ((k < 0 ∨ (xs.length : Int) ≤ k) ∧ E = 6 ∧ ys = xs)
theorem set_is (xs : List Int) (k x : Int) : ∃ E ys, SetIs xs k x E ys ∧ ys.length ≤ xs.length := by
  by_cases h : 0 ≤ k ∧ k < xs.length
  · exact ⟨_, _, .inl ⟨k.toNat, by omega, by omega, rfl, rfl⟩, by simp⟩
  · exact ⟨_, _, .inr ⟨by omega, rfl, rfl⟩, by simp⟩
def BackIs (xs : List Int) (k : Int) (E : Int) (ys : List Int) : Prop :=
  (∃ m : Nat, k = m ∧ m ≤ xs.length ∧ E = 0 ∧ ys = xs.take m) ∨ ((k < 0 ∨ (xs.length : Int) < k) ∧ E = 6 ∧ ys = xs)
theorem back_is (xs : List Int) (k : Int) : ∃ E ys, BackIs xs k E ys ∧ ys.length ≤ xs.length := by
  by_cases h : 0 ≤ k ∧ k ≤ xs.length
  · exact ⟨_, _, .inl ⟨k.toNat, by omega, by omega, rfl, rfl⟩, by simp; omega⟩
  · exact ⟨_, _, .inr ⟨by omega, rfl, rfl⟩, by simp⟩
theorem turn_refl (w : World) (b : Nat) (v : Value) : Turn w w b v v := ⟨rfl, rfl, rfl, Nat.le_refl _, fun _ _ _ _ => rfl, fun _ h => .inl h⟩
section
variable (b : Nat) (room pk : Int) (v : Value) (xs : List Int) (base : Nat)
theorem a_put (A : Option Addr) (c : Nat) (l : List Int) (r E pk' : Int) (ys : List Int) (hp : PutIs room pk xs l r E pk' ys) (hnc : A = none → c = 0) (hl : xs.length + l.length ≤ 60000) (w : World) (hB : base ≤ w.heap.size)
    (h : Ar 61 3 w base b room pk v (ints xs)) (hL : Lies w A (ints l)) :
    Calls Try.prog 12 #[.pointer (some ⟨b, 0, none⟩), .slice A l.length c] w fun e w' => e = .returned (.tuple #[.int .i64 r, .int .i64 E]) ∧ ∃ v', Ar 61 3 w' base b room pk' v' (ints ys) ∧ Turn w w' b v v' := by
  have i1 := ints_length xs
  have i2 := ints_length l
  rcases hp with ⟨hf, rfl, rfl, rfl, rfl⟩ | ⟨hf, rfl, rfl, rfl, rfl⟩
  · have := i_put_room b room pk v (ints xs) base A c (ints l) hnc (ints_one l) (by unfold maxLen; omega) (by omega) (by omega) w hB h hL
    rw [i1, i2, ← ints_app] at this
    exact this
  · refine (i_put_full b room pk' v (ints ys) base l.length c A (by omega) w h).mono ?_
    rintro e w' ⟨rfl, n, rfl⟩
    exact ⟨rfl, v, h.drewN, Turn.same _ _ _ _⟩
theorem r_put (A : Option Addr) (c : Nat) (l : List Int) (r E pk' : Int) (ys : List Int) (hp : PutIs room pk xs l r E pk' ys) (hnc : A = none → c = 0) (hl : xs.length + l.length ≤ 60000) (w : World) (hB : base ≤ w.heap.size)
    (h : Rf w base b room pk v (ints xs)) (hL : Lies w A (ints l)) :
    Calls Try.prog 13 #[.pointer (some ⟨b, 0, none⟩), .slice A l.length c] w fun e w' => e = .returned (.tuple #[.int .i64 r, .int .i64 E]) ∧ ∃ v', Rf w' base b room pk' v' (ints ys) ∧ Turn w w' b v v' := by
  have i1 := ints_length xs
  have i2 := ints_length l
  rcases hp with ⟨hf, rfl, rfl, rfl, rfl⟩ | ⟨hf, rfl, rfl, rfl, rfl⟩
  · have := rput_room b room pk v (ints xs) base A c l.length (ints l) i2 hnc (ints_one xs) (ints_one l) (by omega) (by omega) w hB h hL
    rw [i1, ← ints_app] at this
    exact this
  · refine (rput_full b l.length c room pk' v (ints ys) base A (by omega) (by omega) w h).mono ?_
    rintro e w' ⟨rfl, n, rfl⟩
    exact ⟨rfl, v, h.below (bdrew (Below.refl _ _)), Turn.same _ _ _ _⟩
theorem a_set (k x E : Int) (ys : List Int) (hp : SetIs xs k x E ys) (w : World) (h : Ar 61 3 w base b room pk v (ints xs)) :
    Calls Try.prog 16 #[.pointer (some ⟨b, 0, none⟩), .int .i64 k, .int .i64 x] w fun e w' => e = .returned (.int .i64 E) ∧ ∃ v', Ar 61 3 w' base b room pk v' (ints ys) ∧ Turn w w' b v v' := by
  have i1 := ints_length xs
  rcases hp with ⟨m, rfl, hm, rfl, rfl⟩ | ⟨hk, rfl, rfl⟩
  · refine (set_yes b room pk v (ints xs) base m x (by omega) w h).mono ?_
    rintro e w' ⟨rfl, h1, h2⟩
    rw [ints_set] at h1
    exact ⟨rfl, v, h1, h2⟩
  · refine (set_no b room pk v (ints ys) base k x (by omega) w h).mono ?_
    rintro e w' ⟨rfl, rfl⟩
    exact ⟨rfl, v, h, turn_refl _ _ _⟩
theorem r_set (k x E : Int) (ys : List Int) (hp : SetIs xs k x E ys) (w : World) (h : Rf w base b room pk v (ints xs)) :
    Calls Try.prog 17 #[.pointer (some ⟨b, 0, none⟩), .int .i64 k, .int .i64 x] w fun e w' => e = .returned (.int .i64 E) ∧ ∃ v', Rf w' base b room pk v' (ints ys) ∧ Turn w w' b v v' := by
  have i1 := ints_length xs
  rcases hp with ⟨m, rfl, hm, rfl, rfl⟩ | ⟨hk, rfl, rfl⟩
  · refine (rset_yes b room pk v (ints xs) base m x (by omega) w h).mono ?_
    rintro e w' ⟨rfl, h1, h2⟩
    rw [ints_set] at h1
    exact ⟨rfl, v, h1, h2⟩
  · refine (rset_no b room pk v (ints ys) base k x (by omega) w h).mono ?_
    rintro e w' ⟨rfl, rfl⟩
    exact ⟨rfl, v, h, turn_refl _ _ _⟩
theorem a_back (k E : Int) (ys : List Int) (hp : BackIs xs k E ys) (w : World) (h : Ar 61 3 w base b room pk v (ints xs)) :
    Calls Try.prog 18 #[.pointer (some ⟨b, 0, none⟩), .int .i64 k] w fun e w' => e = .returned (.int .i64 E) ∧ ∃ v', Ar 61 3 w' base b room pk v' (ints ys) ∧ Turn w w' b v v' := by
  have i1 := ints_length xs
  rcases hp with ⟨m, rfl, hm, rfl, rfl⟩ | ⟨hk, rfl, rfl⟩
  · refine (i_back_good b room pk v (ints xs) base m (by omega) w h).mono ?_
    rintro e w' ⟨rfl, v', h1, h2⟩
    rw [← ints_take] at h1
    exact ⟨rfl, v', h1, h2⟩
  · refine (i_back_bad b room pk v (ints ys) base k (by omega) w h).mono ?_
    rintro e w' ⟨rfl, rfl⟩
    exact ⟨rfl, v, h, turn_refl _ _ _⟩
theorem r_back (k E : Int) (ys : List Int) (hp : BackIs xs k E ys) (hx : xs.length ≤ 60000) (w : World) (hB : base ≤ w.heap.size) (h : Rf w base b room pk v (ints xs)) :
    Calls Try.prog 19 #[.pointer (some ⟨b, 0, none⟩), .int .i64 k] w fun e w' => e = .returned (.int .i64 E) ∧ ∃ v', Rf w' base b room pk v' (ints ys) ∧ Turn w w' b v v' := by
  have i1 := ints_length xs
  rcases hp with ⟨m, rfl, hm, rfl, rfl⟩ | ⟨hk, rfl, rfl⟩
  · refine (rback_good b room pk v (ints xs) base m (by omega) (by omega) (ints_one xs) w hB h).mono ?_
    rintro e w' ⟨rfl, v', h1, h2⟩
    rw [← ints_take] at h1
    exact ⟨rfl, v', h1, h2⟩
  · refine (rback_bad b room pk v (ints ys) base k (by omega) w h).mono ?_
    rintro e w' ⟨rfl, rfl⟩
    exact ⟨rfl, v, h, turn_refl _ _ _⟩
end
/-- A block that neither turn may touch. -/
theorem Turn.keeps {w w' : World} {b k : Nat} {v v' : Value} {vs : Array Value} {T : TypeId} (ht : Turn w w' b v v') (h : Blk w k vs T) (h1 : k ≠ b) (h2 : v.ownBlock ≠ some k) : Blk w' k vs T := (ht.block k h.lt h1 h2).trans h
/-- The law writes over what it lent: the two arenas stay. -/
theorem Pair.over {w w' : World} {B b c g : Nat} {room pk : Int} {v u : Value} {xs : List Int} (h : Pair w B b c room pk v u xs) (hg : w.grownBy w' (some g)) (h1 : g ≠ b) (h2 : g ≠ c) (h3 : v.ownBlock ≠ some g) (h4 : u.ownBlock ≠ some g) : Pair w' B b c room pk v u xs := by
  have hb : ∀ k, k < w.heap.size → k ≠ g → w'.heap[k]? = w.heap[k]? := fun k hk hne => hg.block k hk (fun e => by cases e; exact hne rfl)
  refine ⟨h.a.kept (hb _ h.a.blk.lt (fun e => h1 e.symm)) (fun k e => hb k (h.a.own.lt k e).2 (fun e2 => h3 (by rw [e, e2]))), h.r.kept (hb _ h.r.blk.lt (fun e => h2 e.symm)) (fun k e => hb k (h.r.own.lt k e).2 (fun e2 => h4 (by rw [e, e2]))), h.apart⟩
theorem bt0 {w0 w w' : World} (h : Below w0.heap.size w0 w) (h' : Below w0.heap.size w w') : Below w0.heap.size w0 w' := h.trans h'
/-- Between the two calls of a deed: the one arena has turned, the other not yet. -/
structure Mid (w0 w : World) (b c q : Nat) (room pk pk' : Int) (v u : Value) (ys xs : List Int) (D : Array Value) : Prop where
  a : Ar 61 3 w w0.heap.size b room pk' v (ints ys)
  r : Rf w w0.heap.size c room pk u (ints xs)
  apart : ∀ k, v.ownBlock = some k → u.ownBlock ≠ some k
  q : Blk w q D 32
  low : Below w0.heap.size w0 w
theorem Mid.of {w0 w : World} {b c q : Nat} {room pk : Int} {v u : Value} {xs : List Int} {D : Array Value} (h : Pair w w0.heap.size b c room pk v u xs) (hq : Blk w q D 32) (hl : Below w0.heap.size w0 w) : Mid w0 w b c q room pk pk v u xs xs D :=
  ⟨h.a, h.r, h.apart, hq, hl⟩
theorem Mid.left {w0 w w' : World} {b c q : Nat} {room pk pk' : Int} {v v' u : Value} {xs ys : List Int} {D : Array Value} (h : Mid w0 w b c q room pk pk v u xs xs D) (ha : Ar 61 3 w' w0.heap.size b room pk' v' (ints ys)) (ht : Turn w w' b v v') :
    Mid w0 w' b c q room pk pk' v' u ys xs D :=
  have hp : Pair w w0.heap.size b c room pk v u xs := ⟨h.a, h.r, h.apart⟩
  have h2 := hp.left ha ht
  ⟨ha, h2.1, h2.2, ht.keeps h.q (neT h.q h.a.blk (by decide)) (own_ne h.a.own h.q (by decide)), bt0 h.low (ht.below h.a h.low.size)⟩
theorem Mid.right {w0 w w' : World} {b c q : Nat} {room pk pk' : Int} {v u u' : Value} {xs ys : List Int} {D : Array Value} (h : Mid w0 w b c q room pk pk' v u ys xs D) (hr : Rf w' w0.heap.size c room pk' u' (ints ys)) (ht : Turn w w' c u u') :
    Mid w0 w' b c q room pk' pk' v u' ys ys D :=
  have h2 := Pair.right h.a h.r h.apart hr ht
  ⟨h2.a, h2.r, h2.apart, ht.keeps h.q (neT h.q h.r.blk (by decide)) (own_ne h.r.own h.q (by decide)), bt0 h.low (h.r.turned ht h.low.size)⟩
theorem Mid.pair {w0 w : World} {b c q : Nat} {room pk : Int} {v u : Value} {xs : List Int} {D : Array Value} (h : Mid w0 w b c q room pk pk v u xs xs D) : Pair w w0.heap.size b c room pk v u xs := ⟨h.a, h.r, h.apart⟩
theorem Mid.drew1 {w0 w : World} {b c q : Nat} {room pk pk' : Int} {v u : Value} {ys xs : List Int} {D : Array Value} (h : Mid w0 w b c q room pk pk' v u ys xs D) : Mid w0 { w with drawn := w.drawn + 1 } b c q room pk pk' v u ys xs D :=
  ⟨h.a.kept rfl (fun _ _ => rfl), h.r.kept rfl (fun _ _ => rfl), h.apart, h.q, ⟨h.low.os, h.low.tape, h.low.output, h.low.size, h.low.block⟩⟩
theorem Blk.four {w : World} {q : Nat} {x0 x1 x2 x3 : Value} {T : TypeId} (h : Blk w q #[x0, x1, x2, x3] T) : w.cell? ⟨q, 0, none⟩ = some x0 ∧ w.cell? ⟨q, 1, none⟩ = some x1 ∧ w.cell? ⟨q, 2, none⟩ = some x2 ∧ w.cell? ⟨q, 3, none⟩ = some x3 :=
  ⟨by rw [h.cell]; rfl, by rw [h.cell]; rfl, by rw [h.cell]; rfl, by rw [h.cell]; rfl⟩
end Go.Proofs.Ytfcacgiejoeneaa

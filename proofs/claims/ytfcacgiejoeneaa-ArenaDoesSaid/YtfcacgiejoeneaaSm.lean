/- The law's same: an arena holds what the document's holds. -/
import Derived.Test.YtfcacgiejoeneaaLs
import Derived.Test.YtfcacgiejoeneaaRe
import Derived.Test.YtfcacgiejoeneaaRz
namespace Go.Proofs.Ytfcacgiejoeneaa
open Go Go.RowKit Go.Shelf
attribute [local go_sem] Oper.semAt_some
/-- What lies as the going through goes. -/
structure SF (W : World) (nb k d3 d4 b c : Nat) (most peak : Int) (v u : Value) (l : List Int) (base : Nat) (w : World) : Prop where
  n : Blk W nb #[.int .i64 (k : Int)] 3
  z : Blk W d3 #[.pointer (some ⟨c, 0, none⟩)] 27
  r : Blk W d4 #[.bool false] 4
  a : Ar 61 3 W base b most peak v (ints l)
  f : Rf W base c most peak u (ints l)
  w : Below w.heap.size w W
  hv : v.ownBlock ≠ some nb
  hu : u.ownBlock ≠ some nb
theorem SF.low {W W' W0 w : World} {nb k k0 d3 d4 b c : Nat} {most peak : Int} {v u : Value} {l : List Int} {base : Nat} (h : SF W nb k d3 d4 b c most peak v u l base w) (h0 : SF W0 nb k0 d3 d4 b c most peak v u l base w) (hb : Below W0.heap.size W W') (hB : w.heap.size ≤ W0.heap.size) :
    SF W' nb k d3 d4 b c most peak v u l base w :=
  ⟨h.n.below hb h0.n.lt, h.z.below hb h0.z.lt, h.r.below hb h0.r.lt, h.a.kept (hb.block _ h0.a.blk.lt) (fun k e => hb.block k (h0.a.own.lt k e).2), h.f.kept (hb.block _ h0.f.blk.lt) (fun k e => hb.block k (h0.f.own.lt k e).2), h.w.trans (hb.mono hB), h.hv, h.hu⟩
theorem SF.next {W w : World} {nb k d3 d4 b c : Nat} {most peak : Int} {v u : Value} {l : List Int} {base : Nat} (h : SF W nb k d3 d4 b c most peak v u l base w) (q : Nat) (hw : w.heap.size ≤ nb) :
    SF ((W.drewN q).setCell ⟨nb, 0, none⟩ (.int .i64 ((k + 1 : Nat) : Int))) nb (k + 1) d3 d4 b c most peak v u l base w := by
  have o : ∀ j, j ≠ nb → ((W.drewN q).setCell ⟨nb, 0, none⟩ (.int .i64 ((k + 1 : Nat) : Int))).heap[j]? = W.heap[j]? := fun j hj => heap_setCell_other (W.drewN q) ⟨nb, 0, none⟩ j _ hj
  have hn : Blk (W.drewN q) nb #[.int .i64 (k : Int)] 3 := h.n
  exact ⟨heap_setCell_same (W.drewN q) nb 0 #[.int .i64 (k : Int)] 3 _ hn, (o _ (neT h.z h.n (by decide))).trans h.z, (o _ (neT h.r h.n (by decide))).trans h.r, h.a.kept (o _ (neT h.a.blk h.n (by decide))) (fun j e => o j (fun i => h.hv (by rw [e, i]))),
    h.f.kept (o _ (neT h.f.blk h.n (by decide))) (fun j e => o j (fun i => h.hu (by rw [e, i]))), (bdrew h.w).setCell (p := ⟨nb, 0, none⟩) hw _, h.hv, h.hu⟩
set_option maxRecDepth 100000 in
set_option maxHeartbeats 4000000 in
theorem same_any (b c : Nat) (most peak : Int) (v u : Value) (l : List Int) (base : Nat) (hl : l.length ≤ 60000) (w : World) (hA : Ar 61 3 w base b most peak v (ints l)) (hR : Rf w base c most peak u (ints l)) :
    Calls Try.prog 20 #[.pointer (some ⟨b, 0, none⟩), .pointer (some ⟨c, 0, none⟩)] w fun e w' => e = .returned (.bool true) ∧ Below w.heap.size w w' := by
  have HA := Lib.hid hA
  have HR := Lib.hid hR
  have hfit : (l.length : Int) ≤ most := by have := hA.fits; rwa [ints_length] at this
  have hroom := hA.room
  obtain ⟨M, eM⟩ : ∃ M : Int, M = most - l.length := ⟨_, rfl⟩
  have hwM : IntKind.i64.wrap (most - (l.length : Int)) = M := (IntWalk.i64_in _ (by omega)).trans eM.symm
  have EM := Lib.hid eM
  clear hA hR eM
  refine (callsIn_wide (n := 12)).1 ?_
  refine callsIn_of_wp_marks Try.func20 rfl trivial ?_ rfl
  simp only [Try.ntmps20, List.size_toArray, List.length_cons, List.length_nil, Nat.reduceAdd, Nat.reduceSub, Array.replicate_succ, Array.replicate_zero, List.push_toArray, List.append_toArray, List.nil_append, List.cons_append]
  refine wpIn_wide.2 ?_
  go_wp2_with fail
  have hb0 := B2 w (.cells #[.pointer (some ⟨c, 0, none⟩)] 27) (.cells #[.bool false] 4)
  have hK3 : Blk ((w.alloc (.cells #[.pointer (some ⟨c, 0, none⟩)] 27)).alloc (.cells #[.bool false] 4)) w.heap.size #[.pointer (some ⟨c, 0, none⟩)] 27 := (Blk.new w _ _).alloc _
  have hK4 : Blk ((w.alloc (.cells #[.pointer (some ⟨c, 0, none⟩)] 27)).alloc (.cells #[.bool false] 4)) (w.heap.size + 1) #[.bool false] 4 := by have := Blk.new (w.alloc (.cells #[.pointer (some ⟨c, 0, none⟩)] 27)) #[.bool false] 4; simpa using this
  generalize hW0 : (w.alloc (.cells #[.pointer (some ⟨c, 0, none⟩)] 27)).alloc (.cells #[.bool false] 4) = W0 at hK3 hK4 hb0 ⊢
  obtain ⟨d4, ed4⟩ : ∃ d, d = w.heap.size + 1 := ⟨_, rfl⟩
  rw [← ed4] at hK4 ⊢
  obtain ⟨d3, ed3⟩ : ∃ d, d = w.heap.size := ⟨_, rfl⟩
  rw [← ed3] at hK3 ⊢
  have HD : RowKit.Hid (w.heap.size ≤ d3 ∧ w.heap.size ≤ d4 ∧ d3 ≠ d4) := Lib.hid (by omega)
  have A0 := Lib.hid (HA.out.below hb0)
  have R0 := Lib.hid (HR.out.below hb0)
  have K3 := Lib.hid hK3
  have K4 := Lib.hid hK4
  have HB0 := Lib.hid hb0
  have c3 : W0.cell? ⟨d3, 0, none⟩ = some (.pointer (some ⟨c, 0, none⟩)) := hK3.one
  obtain ⟨A, cap, rfl, _, _⟩ := own_slice HR.out.own
  rw [ints_length] at R0 HR
  obtain ⟨r0, r1, r2⟩ := rf_cells R0.out
  have LN := Lib.hid (fun n => len_is b l.length most peak v _ base (ints_length l) (W0.drewN n) A0.out.drewN)
  have LF := Lib.hid (fun n => left_is b most peak M v _ base (by rw [ints_length]; exact EM.out.symm) (W0.drewN n) A0.out.drewN)
  have MK := Lib.hid (fun n => mark_is b l.length most peak v _ base (ints_length l) (W0.drewN n) A0.out.drewN)
  have PK := Lib.hid (fun n => i_peak_any b most peak v _ base (W0.drewN n) A0.out.drewN)
  clear ed3 ed4 hK3 hK4 hb0 hW0
  go_quiet (first | (go_at_call 24; exact q_left (LN.out _)) | (go_at_call 25; exact q_drew (LF.out _)) | (go_at_call 23; exact q_left (MK.out _)) | (go_at_call 26; exact q_left (PK.out _)))
  obtain ⟨W1, e1⟩ : ∃ u : World, u = W0.drewN nq := ⟨_, rfl⟩
  rw [← e1]
  have A1 : RowKit.Hid (Ar 61 3 W1 base b most peak v (ints l)) := Lib.hid (by rw [e1]; exact A0.out.drewN)
  have R1 : RowKit.Hid (Rf W1 base c most peak (.slice A l.length cap) (ints l)) := Lib.hid (by rw [e1]; exact R0.out.kept rfl (fun _ _ => rfl))
  have L3 : RowKit.Hid (Blk W1 d3 #[.pointer (some ⟨c, 0, none⟩)] 27 ∧ Blk W1 d4 #[.bool false] 4 ∧ Below w.heap.size w W1) := Lib.hid (by rw [e1]; exact ⟨K3.out, K4.out, bdrew HB0.out⟩)
  clear e1 A0 R0 K3 K4 HB0 c3 r0 r1 r2 LN LF MK PK
  go_wp2_with (go_at_call 21; refine (all_any b most peak v _ base _ (A1.out.below (B1 _ _))).mono ?_; rintro e w8 ⟨rfl, rfl⟩)
  obtain ⟨wl, ewl⟩ : ∃ u, u = (W1.alloc (.cells #[.int .i64 0] 3)).alloc (.cells #[.pointer (some ⟨b, 0, none⟩)] 25) := ⟨_, rfl⟩
  obtain ⟨cb, ecb⟩ : ∃ k, k = W1.heap.size + 1 := ⟨_, rfl⟩
  obtain ⟨nb, enb⟩ : ∃ k, k = W1.heap.size := ⟨_, rfl⟩
  rw [← ewl, ← ecb, ← enb]
  have hbl : Below W1.heap.size W1 wl := by rw [ewl]; exact B2 _ _ _
  have hnb : Blk wl nb #[.int .i64 0] 3 := by rw [ewl, enb]; exact (Blk.new W1 _ _).alloc _
  have BC : RowKit.Hid (Blk wl cb #[.pointer (some ⟨b, 0, none⟩)] 25) := Lib.hid (by rw [ewl, ecb]; have := Blk.new (W1.alloc (.cells #[.int .i64 0] 3)) #[.pointer (some ⟨b, 0, none⟩)] 25; simpa using this)
  have F0 : RowKit.Hid (SF wl nb 0 d3 d4 b c most peak v (.slice A l.length cap) l base w) := Lib.hid
    ⟨hnb, L3.out.1.below' hbl, L3.out.2.1.below' hbl, A1.out.below hbl, R1.out.below hbl, bb L3.out.2.2 hbl, fun e => by have := (A1.out.own.lt nb e).2; omega, fun e => by have := (R1.out.own.lt nb e).2; omega⟩
  have WW : RowKit.Hid (w.heap.size ≤ nb ∧ w.heap.size ≤ wl.heap.size) := Lib.hid ⟨by have := L3.out.2.2.size; omega, F0.out.w.size⟩
  have NE : RowKit.Hid (b ≠ nb ∧ c ≠ nb ∧ d3 ≠ nb ∧ d4 ≠ nb ∧ cb ≠ nb) := Lib.hid ⟨neT F0.out.a.blk hnb (by decide), neT F0.out.f.blk hnb (by decide), neT F0.out.z hnb (by decide), neT F0.out.r hnb (by decide), by omega⟩
  clear A1 R1 L3 hbl hnb ewl ecb enb
  refine (wpIn_wide (n := 12)).1 ?_
  refine wpIn_rangeFunc_n (n := 12) (by omega) (gf := 42) (lb := #[.pointer (some ⟨cb, 0, none⟩)]) rfl (enters_of Try.func42 (by kernel_rfl) rfl)
    (all_seq 11 (by omega) cb b v (ints l) (by rw [ints_length]; omega) (fun k => k < wl.heap.size ∧ k ≠ nb) ⟨BC.out.lt, NE.out.2.2.2.2⟩ ⟨F0.out.a.blk.lt, NE.out.1⟩ (fun k e => ⟨(F0.out.a.own.lt k e).2, fun h => F0.out.hv (by rw [e, h])⟩) wl BC.out ⟨(ar_cells F0.out.a).1, own0 F0.out.a.own⟩)
    (Below.refl _ _) (fun _ => rfl) (fun k h => h.1)
    (fun k W => SF W nb k d3 d4 b c most peak v (.slice A l.length cap) l base w) (fun _ _ _ => False) (fun _ _ _ h hb => h.low F0.out hb WW.out.2) (fun _ _ _ _ h _ => h) F0.out
    (fun k => { tmps := #[Value.pointer (some { block := b, off := 0 }), Value.pointer (some { block := c, off := 0 }), undef, Value.pointer (some { block := d3, off := 0 }), Value.pointer (some { block := d4, off := 0 }), Value.pointer (some { block := nb, off := 0 }), Value.int IntKind.i64 (k : Int), (ints l)[k]?.getD undef, undef, undef, undef, Value.pointer (some { block := b, off := 0 }), Value.int IntKind.i64 ↑l.length, Value.pointer (some { block := c, off := 0 }), Value.pointer (some { block := c, off := 0 }), Value.pointer (some { block := c, off := 2 }), Value.slice A l.length cap, Value.int IntKind.i64 ↑l.length, Value.bool false, Value.bool false, Value.pointer (some { block := b, off := 0 }), Value.int IntKind.i64 M, Value.pointer (some { block := c, off := 0 }), Value.pointer (some { block := c, off := 0 }), Value.pointer (some { block := c, off := 0 }), Value.int IntKind.i64 most, Value.pointer (some { block := c, off := 0 }), Value.pointer (some { block := c, off := 0 }), Value.pointer (some { block := c, off := 2 }), Value.slice A l.length cap, Value.int IntKind.i64 ↑l.length, Value.int IntKind.i64 M, Value.bool false, Value.bool false, Value.bool false, Value.pointer (some { block := b, off := 0 }), Value.int IntKind.i64 ↑l.length, Value.pointer (some { block := c, off := 0 }), Value.pointer (some { block := c, off := 0 }), Value.pointer (some { block := c, off := 2 }), Value.slice A l.length cap, Value.int IntKind.i64 ↑l.length, Value.bool false, Value.bool false, Value.bool false, Value.pointer (some { block := b, off := 0 }), Value.int IntKind.i64 peak, Value.pointer (some { block := c, off := 0 }), Value.pointer (some { block := c, off := 0 }), Value.pointer (some { block := c, off := 1 }), Value.int IntKind.i64 peak, Value.bool false, Value.bool false, Value.pointer (some { block := b, off := 0 }), Value.func (Fn.func 42) #[] #[Value.pointer (some { block := cb, off := 0 })], Value.int IntKind.i64 (k : Int), (ints l)[k]?.getD undef, undef, undef, undef, undef, undef, undef, undef, undef, undef, undef, undef, undef, undef, undef, undef, undef, undef, undef, undef, undef, undef, undef, undef, undef, undef, undef, undef, undef, undef, undef, undef, undef, undef, undef, undef, undef, undef, undef, undef, undef, undef, undef, undef, undef, undef, undef, undef, undef, undef, undef, undef, undef, undef, undef, undef, undef, undef, undef, undef, undef, undef, undef, undef, undef, undef, undef, undef, undef, undef, undef, undef, undef, undef, undef, undef, undef, undef, undef, undef, undef, undef, undef], defers := [] }) ?assign ?body ?done ?stop
  case assign =>
    intro l2 k W K hK
    gi_wp2
    exact hK
  case body =>
    rintro l2 k W hF hz hk
    have hk2 : k < l.length := by rw [ints_length] at hk; exact hk
    have hk3 : (k : Int) < l.length := by omega
    have hk4 : ¬ (l.length : Int) ≤ k := by omega
    have hk5 : decide ((l.length : Int) ≤ k) = false := by simp; omega
    have hk6 : decide (l.length ≤ k) = false := by simp; omega
    have c1 : W.cell? ⟨nb, 0, none⟩ = some (.int .i64 (k : Int)) := hF.n.one
    have f1 := hF.n.frozen 0
    have c2 : W.cell? ⟨d3, 0, none⟩ = some (.pointer (some ⟨c, 0, none⟩)) := hF.z.one
    obtain ⟨_, _, c3⟩ := rf_cells hF.f
    obtain ⟨g, cap', e, _, _, _, _⟩ := own_shape hF.f.own (by rw [ints_length]; omega)
    rw [ints_length] at e
    simp only [Value.slice.injEq] at e
    obtain ⟨rfl, _, rfl⟩ := e
    have c4 : W.cell? ⟨g, k, none⟩ = some (.int .i64 (l.getD k 0)) := by
      have := hF.f.own.cells (g := g) rfl k _ (ints_at hk2)
      rw [Addr.add_lit, Nat.zero_add] at this
      exact this
    have hx : (ints l)[k]?.getD undef = .int .i64 (l.getD k 0) := by rw [← List.getD_eq_getElem?_getD]; exact ints_getD hk2
    rw [hx]
    generalize l.getD k 0 = y at c4 ⊢
    have HF := Lib.hid hF
    have hwk : IntKind.i64.wrap ((k : Int) + 1) = ((k + 1 : Nat) : Int) := (IntWalk.i64_in _ (by omega)).trans (by omega)
    clear hF hx hk hz
    gi_wp2_with fail
    refine wpIn_region_quiet_round mixed (by kernel_rfl) (by kernel_rfl) ?_
    repeat (gi_big_quiet_step (fail))
    refine wpQuietIn_nil ?_
    intro W' hw'
    obtain ⟨q, rfl⟩ := hw'
    have c5 : (W.drewN q).cell? ⟨nb, 0, none⟩ = some (.int .i64 (k : Int)) := c1
    have f5 : (W.drewN q).frozen? ⟨nb, 0, none⟩ = false := f1
    clear c1 c2 c3 c4 f1
    gi_wp2_with fail
    exact ⟨⟨by simp [World.setCell], fun j hj hg => Below.heap_setCell _ _ _ j (by rcases hg with h | h; exact h.2; have := WW.out; intro e; have e2 : j = nb := e; have := F0.out.n.lt; omega)⟩, HF.out.next q WW.out.1⟩
  case stop =>
    rintro D c' k W hD hk h hK
    exact h.elim
  case done =>
    rintro D W hD hF hK
    rw [ints_length] at hF
    have c1 : W.cell? ⟨nb, 0, none⟩ = some (.int .i64 (l.length : Int)) := hF.n.one
    have c2 : W.cell? ⟨d3, 0, none⟩ = some (.pointer (some ⟨c, 0, none⟩)) := hF.z.one
    obtain ⟨_, _, c3⟩ := rf_cells hF.f
    have c6 : W.cell? ⟨d4, 0, none⟩ = some (.bool false) := hF.r.one
    have f6 := hF.r.frozen 0
    have HF := Lib.hid hF
    have HK := Lib.hid hK
    have hDw : w.heap.size ≤ D ∧ D ≠ d4 := ⟨by have := WW.out; omega, by have := F0.out.r.lt; omega⟩
    have DW := Lib.hid hDw
    clear hF hK hDw
    go_wp2_with fail
    go_loopw [8, 9, 10] (fun s _ _ wr => ∃ k : Int, -1 ≤ k ∧ k ≤ (l.length : Int) + 1 ∧ s = .int .i64 k ∧ wr = W) (fun s _ _ _ => ((l.length : Int) + 1 - intOf s).toNat)
    case atStart => exact ⟨-1, by omega, by omega, rfl, rfl⟩
    case round =>
      obtain ⟨k, hk1, hk2, rfl, rfl⟩ := hrel
      by_cases hlt : k ≤ (l.length : Int)
      · have hwk : IntKind.i64.wrap (k + 1) = k + 1 := IntWalk.i64_in _ (by omega)
        by_cases h0 : k < 0
        · obtain rfl : k = -1 := by omega
          have AT := Lib.hid (i_at_no b most peak v (ints l) base (-1) (.inl (by decide)) wr HF.out.a)
          go_wp2_with (go_at_call 27; refine AT.out.mono ?_; rintro e w9 ⟨rfl, rfl⟩)
          go_roundw
          case rel => exact ⟨0, by omega, by omega, by first | rfl | go_num, by first | trivial | rfl⟩
          case measure => simp [intOf] <;> omega
        · obtain ⟨j, rfl⟩ : ∃ j : Nat, k = j := ⟨k.toNat, by omega⟩
          by_cases hj : j < l.length
          · have AT := Lib.hid (i_at_yes b most peak v (ints l) base j _ (ints_at hj) wr HF.out.a)
            obtain ⟨g, cap', e, _, _, _, _⟩ := own_shape HF.out.f.own (by rw [ints_length]; omega)
            rw [ints_length] at e
            simp only [Value.slice.injEq] at e
            obtain ⟨rfl, _, rfl⟩ := e
            have c4 : wr.cell? ⟨g, j, none⟩ = some (.int .i64 (l.getD j 0)) := by
              have := HF.out.f.own.cells (g := g) rfl j _ (ints_at hj)
              rw [Addr.add_lit, Nat.zero_add] at this
              exact this
            generalize l.getD j 0 = y at c4 AT
            have hj2 : (j : Int) < l.length := by omega
            have hj0 : (0 : Int) ≤ j := by omega
            have hjl : j ≤ l.length := by omega
            go_wp2_with (go_at_call 27; refine AT.out.mono ?_; rintro e w9 ⟨rfl, rfl⟩)
            go_roundw
            case rel => exact ⟨(j : Int) + 1, by omega, by omega, by first | rfl | go_num, by first | trivial | rfl⟩
            case measure => simp [intOf] <;> omega
          · obtain rfl : j = l.length := by omega
            have AT := Lib.hid (i_at_no b most peak v (ints l) base l.length (.inr (by rw [ints_length]; omega)) wr HF.out.a)
            have hj2 : ¬ (l.length : Int) < l.length := by omega
            have hj0 : (0 : Int) ≤ l.length := by omega
            go_wp2_with (go_at_call 27; refine AT.out.mono ?_; rintro e w9 ⟨rfl, rfl⟩)
            go_roundw
            case rel => exact ⟨(l.length : Int) + 1, by omega, by omega, by first | rfl | go_num, by first | trivial | rfl⟩
            case measure => simp [intOf] <;> omega
      · have hlt2 : (l.length : Int) < k := by omega
        go_wp2_with fail
        refine wp_mono (Q := calm _) ?_ (calm_le _)
        have hm := mixed
        refine wp_region_any hm ?_
        simp only [List.size_toArray, List.length_cons, List.length_nil, Nat.reduceAdd]
        obtain ⟨wd, ed⟩ : ∃ u : World, u = { wr with drawn := wr.drawn + 1 } := ⟨_, rfl⟩
        rw [← ed]
        have k1 : wd.cell? ⟨nb, 0, none⟩ = some (.int .i64 (l.length : Int)) := by rw [ed]; exact c1
        have k2 : wd.cell? ⟨d3, 0, none⟩ = some (.pointer (some ⟨c, 0, none⟩)) := by rw [ed]; exact c2
        have k3 : wd.cell? ⟨c, 2, none⟩ = some (.slice A l.length cap) := by rw [ed]; exact c3
        have k4 : wd.cell? ⟨d4, 0, none⟩ = some (.bool false) := by rw [ed]; exact c6
        have k5 : wd.frozen? ⟨d4, 0, none⟩ = false := by rw [ed]; exact f6
        have HK3 : RowKit.Hid ((wd.setCell ⟨d4, 0, none⟩ (.bool true)).heap[D]? = some (.deferred (some []))) := Lib.hid (by rw [Below.heap_setCell _ _ _ D (show D ≠ d4 from DW.out.2), ed]; exact HK.out)
        have FIN : RowKit.Hid (((wd.setCell ⟨d4, 0, none⟩ (.bool true)).putObj D (.deferred none)).cell? ⟨d4, 0, none⟩ = some (.bool true) ∧ Below w.heap.size w ((wd.setCell ⟨d4, 0, none⟩ (.bool true)).putObj D (.deferred none))) := Lib.hid ⟨by
          have hb : Blk (wd.setCell ⟨d4, 0, none⟩ (.bool true)) d4 #[.bool true] 4 := heap_setCell_same wd d4 0 #[.bool false] 4 (.bool true) (by rw [ed]; exact HF.out.r)
          exact Blk.one (T := 4) ((World.putObj_heap_other (fun e => DW.out.2 e.symm)).trans hb), by
          have h1 : Below w.heap.size w wd := by rw [ed]; exact bdrew1 HF.out.w
          exact (h1.setCell (p := ⟨d4, 0, none⟩) HD.out.2.1 _).trans (below_putObj _ D _ _ DW.out.1)⟩
        clear ed c1 c2 c3 c6 f6
        refine wpAny_ready (rs := [0, 1]) (by kernel_rfl) (by simp) ?_
        refine AllReady.cons rfl (fun K hK => ?_) ?_
        · go_simp
          refine hK _ _ ?_
          clear hK K
          refine wpAny_ready (rs := [1]) (by kernel_rfl) (by simp) ?_
          refine AllReady.cons rfl (fun K hK => ?_) ?_
          · go_simp
            refine hK _ _ ?_
            clear hK K
            refine wpAny_take (i := 2) (v := ?_) rfl (by kernel_rfl) (by kernel_rfl) (by kernel_rfl) (fun _ _ _ h => h) (Or.inl ⟨by rfl, ?_⟩) ?_
            rotate_left
            · intro w; go_simp; try with_reducible rfl
            refine wpAny_take (i := 3) (v := ?_) rfl (by kernel_rfl) (by kernel_rfl) (by kernel_rfl) (fun _ _ _ h => h) (Or.inl ⟨by rfl, ?_⟩) ?_
            rotate_left
            · intro w; go_simp; try with_reducible rfl
            refine wpAny_ready (rs := [4]) (by kernel_rfl) (by simp) ?_
            refine AllReady.cons rfl (fun K hK => ?_) ?_
            · go_simp
              refine hK _ _ ?_
              clear hK K
              refine wpAny_take (i := 5) (v := ?_) rfl (by kernel_rfl) (by kernel_rfl) (by kernel_rfl) (fun _ _ _ h => h) (Or.inl ⟨by rfl, ?_⟩) ?_
              rotate_left
              · intro w; go_simp; try with_reducible rfl
              refine wpAny_take (i := 6) (v := ?_) rfl (by kernel_rfl) (by kernel_rfl) (by kernel_rfl) (fun _ _ _ h => h) (Or.inl ⟨by rfl, ?_⟩) ?_
              rotate_left
              · intro w; go_simp; try with_reducible rfl
              refine wpAny_ready (rs := [7]) (by kernel_rfl) (by simp) ?_
              refine AllReady.cons rfl (fun K hK => ?_) ?_
              · go_simp
                refine hK _ _ ?_
                clear hK K
                refine wpAny_done (by kernel_rfl) ?_ _
                simp only [calm]
                go_wp2_with fail
                refine ⟨by simp, .inl ⟨_, _, rfl, run_takeDeferred HK3.out, ?_⟩⟩
                exact ⟨_, results_b rfl _ _ d4 true rfl FIN.out.1, rfl, FIN.out.2⟩
              exact AllReady.nil
            exact AllReady.nil
          exact AllReady.nil
        refine AllReady.cons rfl (fun K hK => ?_) ?_
        · go_simp
          refine hK _ _ ?_
          clear hK K
          refine wpAny_take (i := 2) (v := ?_) rfl (by kernel_rfl) (by kernel_rfl) (by kernel_rfl) (fun _ _ _ h => h) (Or.inl ⟨by rfl, ?_⟩) ?_
          rotate_left
          · intro w; go_simp; try with_reducible rfl
          refine wpAny_take (i := 3) (v := ?_) rfl (by kernel_rfl) (by kernel_rfl) (by kernel_rfl) (fun _ _ _ h => h) (Or.inl ⟨by rfl, ?_⟩) ?_
          rotate_left
          · intro w; go_simp; try with_reducible rfl
          refine wpAny_ready (rs := [0, 4]) (by kernel_rfl) (by simp) ?_
          refine AllReady.cons rfl (fun K hK => ?_) ?_
          · go_simp
            refine hK _ _ ?_
            clear hK K
            refine wpAny_ready (rs := [4]) (by kernel_rfl) (by simp) ?_
            refine AllReady.cons rfl (fun K hK => ?_) ?_
            · go_simp
              refine hK _ _ ?_
              clear hK K
              refine wpAny_take (i := 5) (v := ?_) rfl (by kernel_rfl) (by kernel_rfl) (by kernel_rfl) (fun _ _ _ h => h) (Or.inl ⟨by rfl, ?_⟩) ?_
              rotate_left
              · intro w; go_simp; try with_reducible rfl
              refine wpAny_take (i := 6) (v := ?_) rfl (by kernel_rfl) (by kernel_rfl) (by kernel_rfl) (fun _ _ _ h => h) (Or.inl ⟨by rfl, ?_⟩) ?_
              rotate_left
              · intro w; go_simp; try with_reducible rfl
              refine wpAny_ready (rs := [7]) (by kernel_rfl) (by simp) ?_
              refine AllReady.cons rfl (fun K hK => ?_) ?_
              · go_simp
                refine hK _ _ ?_
                clear hK K
                refine wpAny_done (by kernel_rfl) ?_ _
                simp only [calm]
                go_wp2_with fail
                refine ⟨by simp, .inl ⟨_, _, rfl, run_takeDeferred HK3.out, ?_⟩⟩
                exact ⟨_, results_b rfl _ _ d4 true rfl FIN.out.1, rfl, FIN.out.2⟩
              exact AllReady.nil
            exact AllReady.nil
          refine AllReady.cons rfl (fun K hK => ?_) ?_
          · go_simp
            refine hK _ _ ?_
            clear hK K
            refine wpAny_take (i := 5) (v := ?_) rfl (by kernel_rfl) (by kernel_rfl) (by kernel_rfl) (fun _ _ _ h => h) (Or.inl ⟨by rfl, ?_⟩) ?_
            rotate_left
            · intro w; go_simp; try with_reducible rfl
            refine wpAny_ready (rs := [0]) (by kernel_rfl) (by simp) ?_
            refine AllReady.cons rfl (fun K hK => ?_) ?_
            · go_simp
              refine hK _ _ ?_
              clear hK K
              refine wpAny_take (i := 6) (v := ?_) rfl (by kernel_rfl) (by kernel_rfl) (by kernel_rfl) (fun _ _ _ h => h) (Or.inl ⟨by rfl, ?_⟩) ?_
              rotate_left
              · intro w; go_simp; try with_reducible rfl
              refine wpAny_ready (rs := [7]) (by kernel_rfl) (by simp) ?_
              refine AllReady.cons rfl (fun K hK => ?_) ?_
              · go_simp
                refine hK _ _ ?_
                clear hK K
                refine wpAny_done (by kernel_rfl) ?_ _
                simp only [calm]
                go_wp2_with fail
                refine ⟨by simp, .inl ⟨_, _, rfl, run_takeDeferred HK3.out, ?_⟩⟩
                exact ⟨_, results_b rfl _ _ d4 true rfl FIN.out.1, rfl, FIN.out.2⟩
              exact AllReady.nil
            exact AllReady.nil
          exact AllReady.nil
        exact AllReady.nil

end Go.Proofs.Ytfcacgiejoeneaa

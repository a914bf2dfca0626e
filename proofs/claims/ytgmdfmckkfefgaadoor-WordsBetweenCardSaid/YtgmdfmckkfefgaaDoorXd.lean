/- The law WordsBetween, walked: a text with words. -/
import Derived.Test.YtgmdfmckkfefgaaDoorXc
namespace Go.Proofs.YtgmdfmckkfefgaaDoor
open Go Go.RowKit
/-- What is known of a word of the row. -/
structure Here (l : List Nat) (N i : Nat) (x : Wd) : Prop where
  is : ow l i = some x
  k1 : 1 ≤ x.kind
  k5 : x.kind ≤ 5
  fit : beg l i + x.len ≤ l.length
  last : (x.kind == 1) = decide (i = N)
  none_ : decide (x.len = 0) = decide (i = N)
theorem here {l : List Nat} (hl : ∀ x ∈ l, x < 256) {N i : Nat} (hN : stp l N = true) (hNb : ∀ j, j < N → stp l j = false) (hi : i ≤ N) (ho : ow l i ≠ none) : ∃ x, Here l N i x := by
  cases h : ow l i with
  | none => exact absurd h ho
  | some x =>
    obtain ⟨a1, a2, a3, a4, a5, _⟩ := wd_ok (drop_lt hl _) h
    rw [List.length_drop] at a1
    have hb := beg_le hl i
    have h1 : (x.kind == 1) = decide (i = N) := by
      rw [← stp_some h]
      by_cases e : i = N
      · subst e; rw [hN]; simp
      · rw [hNb i (by omega)]; simp [e]
    refine ⟨x, h, a4, a5, by omega, h1, ?_⟩
    rw [← h1]
    by_cases e : x.kind = 1
    · have := (ow_end hl h).2 ((ow_end hl h).1.1 e)
      rw [this]; rfl
    · have h3 := a3 (fun q => e (a2.2 q))
      have e2 : (x.kind == 1) = false := by simpa using e
      rw [e2]
      simp; omega
set_option maxRecDepth 100000 in
set_option maxHeartbeats 8000000 in
theorem between_yes (N : Nat) (s : ByteArray) (l : List Nat) (hs : Str s l) (hl : s.size ≤ 1000) (hN : stp l N = true) (hNl : N ≤ l.length) (hNb : ∀ j, j < N → stp l j = false) (ho : ow l N ≠ none) (w : World) (hT : Tab w) :
    Calls Tryd.prog 3 #[.string s] w fun e w' => e = .returned (.bool true) ∧ Below w.heap.size w w' := by
  have hz := hs.size
  have AW := Lib.hid (awake_any w hT)
  have SH := Lib.hid hs
  have NN := Lib.hid hN
  have NB := Lib.hid hNb
  have NL := Lib.hid hNl
  have ZL := Lib.hid (show l.length ≤ 1000 by omega)
  have ZS := Lib.hid hz
  have HO := Lib.hid ho
  have TT := Lib.hid hT
  have h3 : ¬ (1000 : Int) < s.size := by omega
  have AL2 : RowKit.Hid (∀ W, Tab W → Calls Tryd.prog 6 #[.string s] W fun e w' => Below W.heap.size W w' ∧ ∃ g c, e = .returned (.tuple #[.slice (some ⟨g, 0, none⟩) (N + 1) c, .int .i64 0, .int .i64 0]) ∧ w'.ownsRow W.heap.size 33 9 (.slice (some ⟨g, 0, none⟩) (N + 1) c) (N + 1) (wrow l (N + 1))) := Lib.hid (fun W hW => (All_any N s l hs (by omega) hN hNl hNb W hW).mono fun e w' h => by
    obtain ⟨hb, ⟨h2, _⟩ | ⟨v, _, h2, h4⟩⟩ := h
    · exact absurd h2 ho
    · have h5 := h4
      rcases h4.2 with ⟨_, h6⟩ | ⟨g, cap, cur, rfl, _⟩
      · omega
      · exact ⟨hb, g, cap, h2, h5⟩)
  have n1 : (N : Int) ≤ 1000 := by omega
  have n2 : IntKind.i64.wrap ((N : Int) + 1 - 1) = N := (IntWalk.i64_in _ (by omega)).trans (by omega)
  have n3 : IntKind.i64.wrap (((N + 1 : Nat) : Int) - 1) = N := (IntWalk.i64_in _ (by omega)).trans (by omega)
  clear hT ho hs hN hNl hNb hl hz
  go_enter Tryd.func3, Tryd.ntmps3
  go_wp2_with (first | (go_at_call 5; (with_reducible refine AW.out.mono ?_); rintro e w1 ⟨rfl, hb⟩; have HB := Lib.hid hb; have T1 := Lib.hid (TT.out.below hb); clear hb) | (go_at_call 6; (with_reducible refine (AL2.out _ T1.out).mono ?_); rintro e w2 ⟨hb, g, c, rfl, ho⟩; have HB2 := Lib.hid (bb HB.out hb); have T2 := Lib.hid (T1.out.below hb); have OW := Lib.hid ho; clear hb ho))
  go_loopw [8, 9, 10, 11, 12] (fun v8 v9 _ _ _ wr => ∃ i : Nat, i ≤ N + 1 ∧ v9 = .int .i64 i ∧ v8 = .int .i64 (pos l i) ∧ Below w2.heap.size w2 wr) (fun _ v9 _ _ _ _ => N + 1 - (intOf v9).toNat)
  case atStart => exact ⟨0, by omega, rfl, rfl, Below.refl _ _⟩
  case round =>
    obtain ⟨i, hi, rfl, rfl, hb⟩ := hrel
    have HBR := Lib.hid hb
    have TR := Lib.hid (T2.out.below hb)
    have OR := Lib.hid (own_below OW.out hb)
    clear hb
    by_cases hlt : i < N + 1
    · have hoi : ow l i ≠ none := by
        by_cases e : i = N
        · subst e; exact HO.out
        · intro h; have := NB.out i (by omega); rw [stp_none h] at this; cases this
      obtain ⟨x, hx⟩ := here SH.out.lt NN.out NB.out (by omega : i ≤ N) hoi
      have hp := pos_le SH.out.lt i
      have SK := Lib.hid (fun W hW => Skip_in (pos l i) s l SH.out (by have := ZL.out; omega) hp W hW)
      have NX := Lib.hid (fun W hW => Next_yes (pos l i) x s l SH.out (by have := ZL.out; omega) hp hx.is W hW)
      have PN := Lib.hid (pos_some hx.is)
      have RC : ∀ j, j < 9 → wr.cell? ⟨g, i * 9 + j, none⟩ = (wfull x (beg l i))[j]? := fun j hj => by
        rw [OR.out.cellAt (i * 9 + j) (by omega), Nat.mul_comm i 9, wrow_at l i (N + 1) j hlt hj, wA_some hx.is]
      have e1 := hx.k1
      have e2 := hx.k5
      have e3 := hx.fit
      have e4 := hx.last
      have e5 := hx.none_
      rw [show pos l i + sk false (l.drop (pos l i)) = beg l i from rfl] at SK NX
      clear hx hoi hp
      obtain ⟨a, ea⟩ : ∃ a, a = beg l i := ⟨_, rfl⟩
      obtain ⟨z, ez⟩ : ∃ z : Nat, z = a + x.len := ⟨_, rfl⟩
      rw [← ea] at SK NX PN RC e3
      rw [← ez] at PN e3
      rw [show wfull x a = #[.int .i64 x.kind, .int .i64 a, .int .i64 z, .string (bsv x.text), .int .i64 x.lev, .int .u64 (cw x.cls 0), .int .u64 (cw x.cls 1), .int .u64 (cw x.cls 2), .int .u64 (cw x.cls 3)] by rw [ez]] at NX RC
      obtain ⟨b, eb⟩ : ∃ b, b = decide (i = N) := ⟨_, rfl⟩
      have f1 : (x.kind == 1) = b := e4.trans eb.symm
      have f2 : ((z : Int) == (a : Int)) = b := by
        rw [eb, ← e5, ez]
        by_cases q : x.len = 0 <;> simp [q] <;> omega
      have f3 : ((i : Int) == (N : Int)) = b := by
        rw [eb]
        by_cases q : i = N <;> simp [q] <;> omega
      have f4 : ¬ (z : Int) < a := by omega
      have f5 : ¬ (s.size : Int) < z := by have := ZS.out; omega
      have f6 : ¬ x.kind < 1 := by omega
      have f7 : ¬ 5 < x.kind := by omega
      generalize x.kind = K at NX RC f1 f6 f7 e1 e2
      generalize bsv x.text = T at NX RC
      generalize x.lev = V at NX RC
      generalize (cw x.cls 0 : Int) = C0 at NX RC
      generalize (cw x.cls 1 : Int) = C1 at NX RC
      generalize (cw x.cls 2 : Int) = C2 at NX RC
      generalize (cw x.cls 3 : Int) = C3 at NX RC
      have r0 := RC 0 (by omega)
      have r1 := RC 1 (by omega)
      have r2 := RC 2 (by omega)
      have r3 := RC 3 (by omega)
      have r4 := RC 4 (by omega)
      have r5 := RC 5 (by omega)
      have r6 := RC 6 (by omega)
      have r7 := RC 7 (by omega)
      have r8 := RC 8 (by omega)
      simp only [List.getElem?_toArray, List.getElem?_cons_zero, List.getElem?_cons_succ, Nat.add_zero] at r0 r1 r2 r3 r4 r5 r6 r7 r8
      have E4 := Lib.hid (And.intro ea (And.intro ez PN.out))
      have hi3 : (i : Int) < N + 1 := by omega
      have hi4 : (i : Int) < ((N + 1 : Nat) : Int) := by omega
      clear RC e1 e2 e3 e4 e5 ea ez eb
      go_wp2_with (refine wpList_store_whole rfl 33 (.tmp 10) (.tmp 67) rfl wr.heap.size #[.int .i64 K, .int .i64 a, .int .i64 z, .string T, .int .i64 V, .int .u64 C0, .int .u64 C1, .int .u64 C2, .int .u64 C3] rfl rfl 33 _ (Blk.new wr wzero 33) (by kernel_rfl) (by rfl) (by simp [Value.oneCell']) ?_; intro w5 hk2 hg2; have K5 := Lib.hid hk2; have H5 := Lib.hid (below_new (HBR.out.alloc HBR.out.size _) (by have := HBR.out.size; simp; omega) hg2 HBR.out.size); have T5 := Lib.hid (T2.out.below H5.out); clear hk2 hg2)
      have k0 := K5.out.cell 0
      have k1 := K5.out.cell 1
      have k2 := K5.out.cell 2
      simp only [List.getElem?_toArray, List.getElem?_cons_zero, List.getElem?_cons_succ] at k0 k1 k2
      have d0 := fun e => Ext.cell k0 e
      have d1 := fun e => Ext.cell k1 e
      have d2 := fun e => Ext.cell k2 e
      have SK2 := Lib.hid (fun (e : Ext w5) => SK.out e.val (T5.out.below e.grown).pos)
      clear r0 r1 r2 r3 r4 r5 r6 r7 r8 k0 k1 k2
      have g4 : decide (z < a) = false := decide_eq_false (by omega)
      have g5 : decide (s.size < z) = false := decide_eq_false (by omega)
      have g2 : (z == a) = b := f2 ▸ Bool.eq_iff_iff.2 (by rw [beq_iff_eq, beq_iff_eq]; omega)
      have g3 : (i == N) = b := f3 ▸ Bool.eq_iff_iff.2 (by rw [beq_iff_eq, beq_iff_eq]; omega)
      have g8 : IntKind.i64.wrap (N : Int) = N := IntWalk.i64_in _ (by omega)
      have g6 : decide (K < 1) = false := decide_eq_false (by omega)
      have g7 : decide (5 < K) = false := decide_eq_false (by omega)
      refine wp_region_ext (by kernel_rfl) (by kernel_rfl) ?_
      repeat (first | go_big_quiet_step ((go_at_call 7; exact Calls.ext_of (SK2.out _))) | quiet_step ((go_at_call 7; exact Calls.ext_of (SK2.out _))))
      refine wpQuiet_nil ?_
      intro _ hw'
      obtain ⟨⟨w6, hb6⟩, rfl⟩ := hw'
      have K6 := Lib.hid (K5.out.below' hb6)
      have H6 := Lib.hid (bt H5.out hb6 H5.out.size)
      have T6 := Lib.hid (T5.out.below hb6)
      clear d0 d1 d2 hb6 g2 g3 g4 g5 g6 g7 g8 f1 f2 f3 f4 f5 f6 f7
      go_wp2_with (first | (go_at_call 8; (with_reducible refine (NX.out _ T6.out).mono ?_); rintro e w7 ⟨rfl, hb7⟩; have K7 := Lib.hid (K6.out.below' hb7); have H7 := Lib.hid (bt H6.out hb7 H6.out.size); clear hb7) | (refine wpList_store_whole rfl 33 (.tmp 11) (.tmp 124) rfl w7.heap.size #[.int .i64 K, .int .i64 a, .int .i64 z, .string T, .int .i64 V, .int .u64 C0, .int .u64 C1, .int .u64 C2, .int .u64 C3] rfl rfl 33 _ (Blk.new w7 wzero 33) (by kernel_rfl) (by rfl) (by simp [Value.oneCell']) ?_; intro w8 hk8 hg8; have K8 := Lib.hid hk8; have H8 := Lib.hid (below_new (H7.out.alloc H7.out.size _) (by have := H7.out.size; simp; omega) hg8 H7.out.size); have L8 := Lib.hid ((K7.out.alloc _).grown hg8 (by have := K7.out.lt; simp; omega)); have k0 := hk8.cell 0; have k1 := hk8.cell 1; have k2 := hk8.cell 2; have k3 := hk8.cell 3; have k4 := hk8.cell 4; have k5 := hk8.cell 5; have k6 := hk8.cell 6; have k7 := hk8.cell 7; have k8 := hk8.cell 8; have l0 := L8.out.cell 0; have l1 := L8.out.cell 1; have l2 := L8.out.cell 2; have l3 := L8.out.cell 3; have l4 := L8.out.cell 4; have l5 := L8.out.cell 5; have l6 := L8.out.cell 6; have l7 := L8.out.cell 7; have l8 := L8.out.cell 8; simp only [List.getElem?_toArray, List.getElem?_cons_zero, List.getElem?_cons_succ] at k0 k1 k2 k3 k4 k5 k6 k7 k8 l0 l1 l2 l3 l4 l5 l6 l7 l8; clear hk8 hg8))
      go_roundw
      case rel =>
        obtain ⟨q1, q2, q3⟩ := E4.out
        exact ⟨i + 1, by omega, by go_num, by rw [q3], H8.out⟩
      case measure => simp [intOf]; omega
    · obtain rfl : i = N + 1 := by omega
      obtain ⟨x, hx⟩ := here SH.out.lt NN.out NB.out (Nat.le_refl N) HO.out
      have hk : x.kind = 1 := by have := hx.last; simpa using this
      have hq := (ow_end SH.out.lt hx.is).1.1 hk
      have hx0 : x.len = 0 := by have := hx.none_; simpa using this
      have PE : pos l (N + 1) = s.size := by rw [pos_some hx.is, hx0, hq, ZS.out]; rfl
      rw [PE]
      have hN0 : (0 : Int) < (N : Int) + 1 := by omega
      clear hx hk hq hx0 hlt
      go_wp2_with fail
      go_ret
      exact ⟨ret_bool (by simp), bt HB2.out HBR.out HB2.out.size⟩
end Go.Proofs.YtgmdfmckkfefgaaDoor

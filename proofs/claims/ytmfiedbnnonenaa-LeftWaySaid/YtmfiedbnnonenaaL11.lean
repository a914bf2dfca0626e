/- What left tells of ways: they are the least ones. -/
import Derived.Test.YtmfiedbnnonenaaL10
import Derived.Test.YtmfiedbnnonenaaL7
import Derived.Test.YtmfiedbnnonenaaL9
import Derived.Deep.CutRange
import Derived.Deep.RegionHeld3
set_option linter.unusedSimpArgs false
set_option linter.unusedVariables false
namespace Go.Proofs.Ytmfiedbnnonenaa
open Go Go.RowKit
theorem lcal_rise (g : Gr) (a : Nat) : (lcal g a).Pairwise (· < ·) := by
  unfold lcal callsOf rowOf'
  exact List.Pairwise.filter _ List.pairwise_lt_range
theorem back_way {s : Bf} {W : Nat → List Nat} {i cnt : Nat} {r : Nat → Nat} (h : ∀ k, s.1.getD k false = true → W k = (if s.2.1.getD k 0 = i then [i] else W (s.2.1.getD k 0)) ++ [k])
    (hr : ∀ k, s.1.getD k false = true → r k < cnt ∧ (s.2.1.getD k 0 = i ∨ (s.1.getD (s.2.1.getD k 0) false = true ∧ r (s.2.1.getD k 0) < r k))) : ∀ (f a : Nat), (a = i ∨ (s.1.getD a false = true ∧ r a < f)) → (backF s.2.1 i (f + 1) a).reverse = if a = i then [i] else W a
  | 0, a, ha => by
    have e : a = i := by
      rcases ha with e | ⟨_, e⟩
      · exact e
      · omega
    unfold backF
    rw [if_pos e, if_pos e]; rfl
  | f + 1, a, ha => by
    unfold backF
    by_cases e : a = i
    · rw [if_pos e, if_pos e]; rfl
    · rw [if_neg e, if_neg e, List.reverse_cons]
      obtain ⟨hm, hlt⟩ := ha.resolve_left e
      obtain ⟨_, h2⟩ := hr a hm
      rw [back_way h hr f _ (by
        rcases h2 with h2 | ⟨h2, h3⟩
        · exact .inl h2
        · exact .inr ⟨h2, by omega⟩), ← h a hm]
theorem way_is {g : Gr} (hR : Right g) {i : Nat} (hi : i < g.rules.length) : ∃ W : Nat → List Nat, (∀ k, tB g i k = true → k < 32 → wayOf g i k = W k ∧ Walk (lcal g) i (W k) k) ∧ ∀ p k, Walk (lcal g) i p k → tB g i k = true ∧ sle (W k) p := by
  obtain ⟨W, h1, h2⟩ := bfs_way (lcal32 hR) (lcal_rise g) i
  obtain ⟨r, cnt, hc, hr⟩ := bfs_ranked (lcal32 hR) i
  have hs := srch_yes hR hi
  refine ⟨W, fun k hk h32 => ?_, fun p k hp => ?_⟩
  · unfold tB at hk
    rw [hs] at hk
    refine ⟨?_, (h1 k hk).2⟩
    rw [way_yes (by omega) (by omega) (by rw [hs, Int.toNat_natCast]; exact hk), hs, Int.toNat_natCast, Int.toNat_natCast]
    unfold wayB
    obtain ⟨hk1, hk2⟩ := hr k hk
    rw [List.reverse_cons, back_way (r := r) (cnt := cnt) (fun k hk => (h1 k hk).1) hr 32 _ (by
      rcases hk2 with h | ⟨h, h3⟩
      · exact .inl h
      · exact .inr ⟨h, by omega⟩), ← (h1 k hk).1]
  · unfold tB
    rw [hs]
    exact h2 p k hp
theorem backF_len (ah : List Nat) (i : Nat) : ∀ f a : Nat, (backF ah i f a).length ≤ f
  | 0, _ => by simp [backF]
  | f + 1, a => by
    unfold backF
    split
    · simp
    · have := backF_len ah i f (ah.getD a 0)
      simp only [List.length_cons]; omega
theorem way_le (g : Gr) (i k : Int) : (wayOf g i k).length ≤ 34 := by
  unfold wayOf
  split
  · unfold wayB
    have := backF_len (srch g i).2.1 i.toNat 33 ((srch g i).2.1.getD k.toNat 0)
    simp only [List.length_reverse, List.length_cons]; omega
  · simp
theorem way_none {g : Gr} {i k : Nat} (h : tB g i k = false) : wayOf g i k = [] := by
  rw [way_no (fun hc => by
    have := hc.2.2
    rw [Int.toNat_natCast] at this
    unfold tB at h
    rw [h] at this; cases this)]
theorem way_len {g : Gr} (hR : Right g) {i k : Nat} (hi : i < g.rules.length) (hk : k < g.rules.length) : decide (0 < (wayOf g i k).length) = tB g i k := by
  cases h : tB g i k with
  | false => rw [way_none h]; rfl
  | true =>
    obtain ⟨W, h1, _⟩ := way_is hR hi
    obtain ⟨h2, h3⟩ := h1 k h (Nat.lt_of_lt_of_le hk hR.rules.2)
    rw [h2]
    have := h3.last.2
    exact decide_eq_true (by omega)
theorem way_law {g : Gr} (hR : Right g) {i k : Nat} (hi : i < g.rules.length) (hk : k < g.rules.length) (h : tB g i k = true) : ∃ x t, wayOf g i k = i :: x :: t ∧ x ∈ lcal g i ∧ (i :: x :: t).getD (t.length + 1) 0 = k ∧ (0 < t.length → wayOf g x k = x :: t) ∧ ∀ nx ∈ lcal g i, ∀ far : Nat, (far = if nx = k then 1 else (wayOf g nx k).length) → 0 < far → ¬ far < t.length + 1 ∧ ¬ (far = t.length + 1 ∧ nx < x) := by
  have h32 : k < 32 := Nat.lt_of_lt_of_le hk hR.rules.2
  obtain ⟨W, h1, h2⟩ := way_is hR hi
  obtain ⟨e, hw⟩ := h1 k h h32
  have hmin := fun p hp => (h2 p k hp).2
  rw [← e] at hw hmin
  have hl := hw.last
  -- what lies beyond the first
  have part : ∃ x t, wayOf g i k = i :: x :: t ∧ x ∈ lcal g i ∧ ((t = [] ∧ x = k) ∨ (1 ≤ t.length ∧ Walk (lcal g) x (x :: t) k)) := by
    rcases hw.inv with ⟨e1, e2⟩ | ⟨x, t, e1, e2, e3, e4⟩
    · exact ⟨k, [], e1, e2, .inl ⟨rfl, rfl⟩⟩
    · exact ⟨x, t, e1, e2, .inr ⟨e3, e4⟩⟩
  obtain ⟨x, t, e1, hx, hpart⟩ := part
  have hxr : x < g.rules.length := lcal_lt hx
  refine ⟨x, t, e1, hx, ?_, fun ht => ?_, fun nx hnx far hfar hpos => ?_⟩
  · rw [e1] at hl
    have := hl.1
    rw [List.getLastD_eq_getLast?, List.getLast?_eq_getElem?] at this
    simpa [List.getD] using this
  · rcases hpart with ⟨e3, _⟩ | ⟨_, hwx⟩
    · rw [e3] at ht; simp at ht
    · obtain ⟨Wx, k1, k2⟩ := way_is hR hxr
      obtain ⟨k3, k4⟩ := k2 _ _ hwx
      obtain ⟨k5, k6⟩ := k1 k k3 h32
      rw [k5]
      have := hmin _ (k6.head hx)
      rw [e1] at this
      exact sle_anti k4 (sle_tail this)
  · by_cases en : nx = k
    · rw [if_pos en] at hfar
      have hm := hmin _ (.one (by rw [← en]; exact hnx))
      have hlen := sle_len hm
      rw [e1] at hlen
      simp only [List.length_cons, List.length_nil] at hlen
      refine ⟨by omega, fun hc => ?_⟩
      rcases hpart with ⟨_, e3⟩ | ⟨e3, _⟩
      · omega
      · omega
    · rw [if_neg en] at hfar
      have hnr : nx < g.rules.length := lcal_lt hnx
      have ht : tB g nx k = true := by
        rw [← way_len hR hnr hk]
        exact decide_eq_true (by omega)
      obtain ⟨Wn, k1, k2⟩ := way_is hR hnr
      obtain ⟨k5, k6⟩ := k1 k ht h32
      have hm := hmin _ (k6.head hnx)
      rw [e1] at hm
      have hm2 := sle_tail hm
      have hlen := sle_len hm2
      rw [← k5, ← hfar] at hlen
      simp only [List.length_cons] at hlen
      refine ⟨by omega, fun ⟨c1, c2⟩ => ?_⟩
      have hhead : ∃ t', Wn k = nx :: t' := by
        rcases k6.inv with ⟨e3, _⟩ | ⟨y, t', e3, _⟩
        · exact ⟨_, e3⟩
        · exact ⟨_, e3⟩
      obtain ⟨t', et⟩ := hhead
      rw [et] at hm2
      rcases hm2 with h3 | h3 | ⟨_, h3⟩
      · have := (List.cons.inj h3).1; omega
      · have e4 : (Wn k).length = far := by rw [hfar, k5]
        rw [et] at e4
        simp only [List.length_cons] at h3 e4
        omega
      · unfold lx at h3
        rcases h3 with h3 | ⟨h3, _⟩ <;> omega
end Go.Proofs.Ytmfiedbnnonenaa
namespace Go.Proofs.Ytmfiedbnnonenaa
open Go Go.RowKit Go.Maps Go.Shelf
theorem lies_snd {w : World} {b o : Nat} {a : Int} {l : List Int} (h : Lies w (some ⟨b, o, none⟩) (ints (a :: l))) : Lies w (some ⟨b, o + 1, none⟩) (ints l) := by
  intro h0
  obtain ⟨b', o', e, hb, hc⟩ := h (by simp [ints])
  simp only [Option.some.injEq, Addr.mk.injEq] at e
  obtain ⟨rfl, rfl, _⟩ := e
  refine ⟨b, o + 1, rfl, hb, fun i hi => ?_⟩
  have := hc (i + 1) (by simp [ints] at *; omega)
  rw [show o + 1 + i = o + (i + 1) by omega, this]
  simp [ints]
theorem lies_at {w : World} {b o : Nat} {l : List Int} (h : Lies w (some ⟨b, o, none⟩) (ints l)) {k : Nat} (hk : k < l.length) : w.cell? ⟨b, o + k, none⟩ = some (.int .i64 (l.getD k 0)) := by
  obtain ⟨b', o', e, _, h2⟩ := lies_cell h hk
  simp only [Option.some.injEq, Addr.mk.injEq] at e
  obtain ⟨rfl, rfl, _⟩ := e
  exact h2
set_option maxRecDepth 100000 in
set_option maxHeartbeats 16000000 in
theorem way_walk (g : Gr) (n1 n2 : Int) (hn1 : -9223372036854775808 ≤ n1 ∧ n1 < 9223372036854775808) (hn2 : -9223372036854775808 ≤ n2 ∧ n2 < 9223372036854775808) (w : World) (hg : Gr.At w g) (hin : Gr.In g) (hc : Capd g) : Calls Try.prog 7 #[g.val, .int .i64 n1, .int .i64 n2] w fun e w' => e = .returned (.bool true) ∧ Below w.heap.size w w' := by
  have HG := Lib.hid hg
  have SZ := Lib.hid (fun (w' : World) (b : Below w.heap.size w w') => size12_any g w' (hg.below b))
  have RI := Lib.hid (fun (w' : World) (b : Below w.heap.size w w') => right_all g w' (hg.below b) hin)
  have GY := Lib.hid (fun (hr : Right g) (w' : World) (b : Below w.heap.size w w') => graph_any g w' (hg.below b) hin hc hr)
  have TOX := Lib.hid (fun (i : Int) (hi : -9223372036854775808 ≤ i ∧ i < 9223372036854775808) (w' : World) (h : Gr.At w' g) => (to_any g i hi w' h hin hc).mono fun e w'' h => row_own h)
  have WAX := Lib.hid (fun (i k : Int) (hi : -9223372036854775808 ≤ i ∧ i < 9223372036854775808) (hk : -9223372036854775808 ≤ k ∧ k < 9223372036854775808) (w' : World) (h : Gr.At w' g) => (way_any g i k hi hk w' h hin hc).mono fun e w'' h => row_own h)
  have hnl := hg.nl
  have hrl := hg.rl
  clear hg hin hc
  show Calls Try.prog 7 #[.agg #[.slice g.RA g.rules.length g.rc, .slice g.NA g.nodes.length g.nc], .int .i64 n1, .int .i64 n2] w _
  go_enter Try.func7, Try.ntmps7
  go_wp2_with fail
  refine (lawake_any _).mono ?_
  rintro e w1 ⟨rfl, hb⟩
  have K1 := Lib.hid ((Blk.new w #[.slice g.RA g.rules.length g.rc, .slice g.NA g.nodes.length g.nc] 38).below' hb)
  have H1 := Lib.hid (bb (B1 w _) hb)
  have a0 := K1.out.cell 0
  have a1 := K1.out.cell 1
  simp only [List.getElem?_toArray, List.getElem?_cons_zero, List.getElem?_cons_succ] at a0 a1
  clear hb
  go_wp2_with fail
  refine (SZ.out _ H1.out).mono ?_
  rintro e w2 ⟨⟨z, rfl⟩, hb⟩
  have K2 := Lib.hid (K1.out.below' hb)
  have H2 := Lib.hid (bb H1.out hb)
  clear hb a0 a1
  by_cases hz : 300 < z
  · go_wp2_with fail
    go_ret
    exact ⟨rfl, H2.out⟩
  · have hz2 : ¬ 300 < z := hz
    have b0 := K2.out.cell 0
    have b1 := K2.out.cell 1
    simp only [List.getElem?_toArray, List.getElem?_cons_zero, List.getElem?_cons_succ] at b0 b1
    go_wp2_with fail
    refine (RI.out _ H2.out).mono ?_
    rintro e w3 ⟨rfl, hb⟩
    have K3 := Lib.hid (K2.out.below' hb)
    have H3 := Lib.hid (bb H2.out hb)
    clear hb b0 b1 K1 K2 H1 H2 SZ RI
    cases hr : rightB g with
    | false =>
      clear hr
      go_wp2_with fail
      go_ret
      exact ⟨rfl, H3.out⟩
    | true =>
      have hR := rightB_true.1 hr
      have G3 := Lib.hid (GY.out hR)
      have HR := Lib.hid hR
      have h32 := hR.rules.2
      have h1r := hR.rules.1
      clear GY hr hR
      obtain ⟨R, eR⟩ : ∃ R, R = g.rules.length := ⟨_, rfl⟩
      have ER := Lib.hid eR
      rw [← eR] at h32 h1r hrl ⊢
      have hp1 := Int.emod_nonneg n1 (show (R : Int) ≠ 0 by omega)
      have hp2 := Int.emod_lt_of_pos n1 (show (0 : Int) < R by omega)
      have hp3 := Int.emod_nonneg n2 (show (R : Int) ≠ 0 by omega)
      have hp4 := Int.emod_lt_of_pos n2 (show (0 : Int) < R by omega)
      obtain ⟨i, ei⟩ : ∃ i : Nat, n1 % (R : Int) = i := ⟨(n1 % (R : Int)).toNat, by omega⟩
      obtain ⟨k, ek⟩ : ∃ i : Nat, n2 % (R : Int) = i := ⟨(n2 % (R : Int)).toNat, by omega⟩
      have hi : i < R := by omega
      have hk : k < R := by omega
      have PK := Lib.hid (fun (e : Ext w3) (n : Int) (hn : -9223372036854775808 ≤ n ∧ n < 9223372036854775808) => show Calls Try.prog 36 #[.int .i64 n, .int .i64 R] e.val fun e' w' => e' = .returned (.int .i64 (n % (R : Int))) ∧ Below e.val.heap.size e.val w' from by
        have := pick_any n R hn (by omega) e.val
        exact this.mono fun _ _ h => ⟨h.1, by rw [← h.2]; exact Below.refl _ _⟩)
      have EI := Lib.hid ei
      have EK := Lib.hid ek
      have b0 := K3.out.cell 0
      simp only [List.getElem?_toArray, List.getElem?_cons_zero, List.getElem?_cons_succ] at b0
      rw [← eR] at b0
      have d0 := fun (e : Ext w3) => Ext.cell b0 e
      clear eR hp1 hp2 hp3 hp4 ei ek b0
      go_upto_region 5 with fail
      refine wp_region_ext (by kernel_rfl) (by kernel_rfl) ?_
      repeat (first | go_big_quiet_step (first | (go_at_call 36; exact Calls.ext_of (PK.out _ _ (by assumption)))) | quiet_step (first | (go_at_call 36; exact Calls.ext_of (PK.out _ _ (by assumption)))))
      refine wpQuiet_nil ?_
      intro w4 hw'
      obtain ⟨⟨_, hb4⟩, rfl⟩ := hw'
      have K4 := Lib.hid (K3.out.below' hb4)
      have H4 := Lib.hid (bb H3.out hb4)
      rw [EI.out, EK.out]
      clear hb4 d0 PK K3 H3 EI EK hn1 hn2
      have b0 := K4.out.cell 0
      have b1 := K4.out.cell 1
      simp only [List.getElem?_toArray, List.getElem?_cons_zero, List.getElem?_cons_succ] at b0 b1
      rw [← ER.out] at b0
      have WA : RowKit.Hid (∀ (i k : Nat), i < R → k < R → ∀ (w' : World), Gr.At w' g → Calls Try.prog 37 #[.agg #[.slice g.RA R g.rc, .slice g.NA g.nodes.length g.nc], .int .i64 i, .int .i64 k] w' fun e w'' => ∃ A c, e = .returned (.slice A (wayOf g i k).length c) ∧ Lies w'' A (ints (nums (wayOf g i k))) ∧ w''.ownsRow w'.heap.size 3 1 (.slice A (wayOf g i k).length c) (wayOf g i k).length (ints (nums (wayOf g i k))) ∧ Below w'.heap.size w' w'') := Lib.hid (fun i k hi hk w' h => by rw [ER.out]; exact WAX.out i k (by omega) (by omega) w' h)
      have TA : RowKit.Hid (∀ (w' : World), Gr.At w' g → Calls Try.prog 30 #[.agg #[.slice g.RA R g.rc, .slice g.NA g.nodes.length g.nc], .int .i64 i] w' fun e w'' => ∃ A c, e = .returned (.slice A (toOf g i).length c) ∧ Lies w'' A (ints (nums (toOf g i))) ∧ w''.ownsRow w'.heap.size 3 1 (.slice A (toOf g i).length c) (toOf g i).length (ints (nums (toOf g i))) ∧ Below w'.heap.size w' w'') := Lib.hid (fun w' h => by rw [ER.out]; exact TOX.out i (by omega) w' h)
      clear WAX TOX
      go_wp2_with fail
      refine (WA.out i k hi hk w4 (HG.out.below H4.out)).mono ?_
      rintro e w5 ⟨A, c, rfl, _, ho, hb⟩
      have O5 := Lib.hid (own_lower ho H4.out.size)
      have K5 := Lib.hid (K4.out.below' hb)
      have H5 := Lib.hid (bb H4.out hb)
      clear ho hb b0 b1 K4 H4
      have b0 := K5.out.cell 0
      have b1 := K5.out.cell 1
      simp only [List.getElem?_toArray, List.getElem?_cons_zero, List.getElem?_cons_succ] at b0 b1
      rw [← ER.out] at b0
      have hlen : decide (0 < (wayOf g i k).length) = tB g i k := way_len HR.out (by rw [← ER.out]; exact hi) (by rw [← ER.out]; exact hk)
      have HAS : RowKit.Hid (∀ (W' : World) (At : Option Addr) (ct : Nat), Lies W' At (ints (nums (toOf g i))) → Calls Try.prog 32 #[.slice At (toOf g i).length ct, .int .i64 k] W' fun e w' => e = .returned (.bool (tB g i k)) ∧ w' = W') := Lib.hid (fun W' At ct hl => by
        have h100 : (toOf g i).length ≤ 100 := Nat.le_trans (rowOf_len _ _) (by omega)
        have := lhas_any At ct (nums (toOf g i)) k (by rw [nums_len]; omega) W' hl
        rw [nums_len, show decide ((k : Int) ∈ nums (toOf g i)) = tB g i k from by
          have TM := toOf_mem HR.out (q := k) (show i < g.rules.length by rw [← ER.out]; exact hi)
          cases h : tB g i k with
          | true => exact decide_eq_true (mem_nums.2 (TM.2 h))
          | false => exact decide_eq_false (fun hc => by rw [TM.1 (mem_nums.1 hc)] at h; cases h)] at this
        exact this)
      obtain ⟨tl, etl⟩ : ∃ u, u = (toOf g i).length := ⟨_, rfl⟩
      have TA5 := Lib.hid (TA.out w5 (HG.out.below H5.out))
      rw [← etl] at HAS TA5
      clear TA etl
      cases ht : tB g i k with
      | false =>
        have e0 := way_none ht
        rw [ht] at HAS
        rw [e0] at O5 ⊢
        clear e0 hlen ht WA
        go_wp2_with fail
        refine TA5.out.mono ?_
        rintro e w6 ⟨At, ct, rfl, hl6, _, hb6⟩
        have H6 := Lib.hid (bb H5.out hb6)
        have HS := Lib.hid (HAS.out w6 At ct hl6)
        clear hl6 hb6 b0 b1
        go_wp2_with fail
        refine HS.out.mono ?_
        rintro e w7 ⟨rfl, rfl⟩
        go_wp2_with fail
        go_ret
        exact ⟨rfl, H6.out⟩
      | true =>
        obtain ⟨x, t, eL, hx, hlast, hrest, hfar⟩ := way_law HR.out (show i < g.rules.length by rw [← ER.out]; exact hi) (show k < g.rules.length by rw [← ER.out]; exact hk) ht
        rw [ht] at HAS
        have EL := Lib.hid eL
        obtain ⟨ll, ell⟩ : ∃ u, u = (wayOf g i k).length := ⟨_, rfl⟩
        have ELL := Lib.hid (show ll = t.length + 2 from by rw [ell, eL]; rfl)
        have hll2 : 2 ≤ ll := by rw [ELL.out]; omega
        have hll0 : (0 : Int) < ll := by omega
        have hlls : ll ≤ 34 := by rw [ell]; exact way_le g i k
        have hllN : 0 < ll := by omega
        rw [← ell] at O5 ⊢
        have HX := Lib.hid hx
        have HLAST := Lib.hid hlast
        have HREST := Lib.hid hrest
        have HFAR := Lib.hid hfar
        have hxR : x < R := by rw [ER.out]; exact lcal_lt hx
        clear hlen ht hx hlast hrest hfar eL ell
        go_wp2_with fail
        refine TA5.out.mono ?_
        rintro e w6 ⟨At, ct, rfl, hl6, _, hb6⟩
        have O6 := Lib.hid (own_below O5.out hb6)
        have K6 := Lib.hid (K5.out.below' hb6)
        have H6 := Lib.hid (bb H5.out hb6)
        have HS := Lib.hid (HAS.out w6 At ct hl6)
        clear hl6 hb6 b0 b1 O5 K5 H5 TA5 HAS
        go_wp2_with fail
        refine HS.out.mono ?_
        rintro e w7 ⟨rfl, rfl⟩
        have b0 := K6.out.cell 0
        have b1 := K6.out.cell 1
        simp only [List.getElem?_toArray, List.getElem?_cons_zero, List.getElem?_cons_succ] at b0 b1
        rw [← ER.out] at b0
        have hl0 : ¬ (ll : Int) = 0 := by omega
        have G6 : RowKit.Hid (Calls Try.prog 29 #[.agg #[.slice g.RA R g.rc, .slice g.NA g.nodes.length g.nc]] w7 fun e w' => ∃ gb vs, e = .returned (.slice (some ⟨gb, 0, none⟩) R R) ∧ Rows2 w7 w' gb vs (graphOf g)) := Lib.hid (by rw [ER.out]; exact G3.out w7 H6.out)
        clear HS G3
        go_wp2_with fail
        refine G6.out.mono ?_
        rintro e w8 ⟨gb, vs, rfl, hrw⟩
        have L8 := Lib.hid (show LB w w8 g gb vs from ⟨K6.out.below' hrw.low, HG.out.below (bb H6.out hrw.low), ⟨hrw.blk, Nat.le_trans H6.out.size hrw.new, hrw.len, fun i hi => own_lower (hrw.row i hi) H6.out.size, bb H6.out hrw.low⟩⟩)
        have O8 := Lib.hid (own_below O6.out hrw.low)
        clear hrw b0 b1 G6 O6 K6 H6
        have hir : i < g.rules.length := by rw [← ER.out]; exact hi
        have LEN := Lib.hid (show (nums (wayOf g i k)).length = ll from by rw [nums_len, EL.out, ELL.out]; rfl)
        obtain ⟨lp, elp⟩ : ∃ lp, ll = lp + 1 := ⟨ll - 1, by omega⟩
        have hlp1 : 1 ≤ lp := by omega
        have hlp2 : (1 : Int) ≤ lp := by omega
        have hwp : IntKind.wrap .i64 ((ll : Int) - 1) = lp := by rw [IntKind.wrap_i64]; omega
        have hlpl : lp < ll := by omega
        have hlpi : (lp : Int) < ll := by omega
        have hl1n : 1 < ll := by omega
        have hl1i : (1 : Int) < ll := by omega
        have ELP := Lib.hid elp
        clear elp
        obtain ⟨b2, o2, eA, _, _⟩ := lies_cell (own_lies1 O8.out) (k := 0) (by rw [LEN.out]; omega)
        subst eA
        have CC := Lib.hid (fun (W : World) (h : W.ownsRow w.heap.size 3 1 (.slice (some ⟨b2, o2, none⟩) ll c) ll (ints (nums (wayOf g i k)))) => (⟨by
            have := lies_at (own_lies1 h) (k := 0) (by rw [LEN.out]; omega)
            rw [nums_at, EL.out] at this
            exact this, by
            have := lies_at (own_lies1 h) (k := 1) (by rw [LEN.out]; omega)
            rw [nums_at, EL.out] at this
            exact this, by
            have := lies_at (own_lies1 h) (k := lp) (by rw [LEN.out]; exact hlpl)
            rw [nums_at, EL.out, show lp = t.length + 1 by have := ELL.out; have := ELP.out; omega, HLAST.out] at this
            rw [show lp = t.length + 1 by have := ELL.out; have := ELP.out; omega]
            exact this⟩ : W.cell? ⟨b2, o2, none⟩ = some (.int .i64 i) ∧ W.cell? ⟨b2, o2 + 1, none⟩ = some (.int .i64 x) ∧ W.cell? ⟨b2, o2 + lp, none⟩ = some (.int .i64 k)))
        obtain ⟨c0, c1, c2⟩ := CC.out _ O8.out
        obtain ⟨Ax, cx, ex⟩ := L8.out.slice hir
        have EX := Lib.hid ex
        have cg := L8.out.cell hir
        rw [ex] at cg
        obtain ⟨rl, erl⟩ : ∃ u, u = (lcal g i).length := ⟨_, rfl⟩
        have ERL := Lib.hid erl
        have hrl32 : rl ≤ 32 := by rw [erl]; exact Nat.le_trans (lcal_len g i) (by rw [← ER.out]; exact h32)
        have HE := Lib.hid (fun (e : Ext w8) => show Calls Try.prog 32 #[.slice Ax rl cx, .int .i64 x] e.val fun e' w' => e' = .returned (.bool true) ∧ Below e.val.heap.size e.val w' from by
          have := lhas_any Ax cx (nums (lcal g i)) x (by rw [nums_len, ← erl]; omega) e.val ((L8.out.lies hir ex).2.below e.grown)
          rw [nums_len, ← erl, decide_eq_true (mem_nums.2 HX.out)] at this
          exact this.mono fun _ _ h => ⟨h.1, by rw [h.2]; exact Below.refl _ _⟩)
        rw [← erl] at cg
        have d0 := fun (e : Ext w8) => Ext.cell c0 e
        have d1 := fun (e : Ext w8) => Ext.cell c1 e
        have d2 := fun (e : Ext w8) => Ext.cell c2 e
        have dg := fun (e : Ext w8) => Ext.cell cg e
        have hl2 : ¬ ll < 2 := by omega
        have hl2i : ¬ (ll : Int) < 2 := by omega
        have hi0 : ((i : Int) != (i : Int)) = false := by simp
        have hk0 : ((k : Int) != (k : Int)) = false := by simp
        have hi1 : (i != i) = false := by simp
        have hk1 : (k != k) = false := by simp
        clear c0 c1 c2 ex cg erl
        go_upto_region 12 with fail
        refine wp_region_ext (by kernel_rfl) (by kernel_rfl) ?_
        repeat (first | go_big_quiet_step (first | (go_at_call 32; exact Calls.ext_of (HE.out _))) | quiet_step (first | (go_at_call 32; exact Calls.ext_of (HE.out _))))
        refine wpQuiet_nil ?_
        intro w9 hw'
        obtain ⟨⟨_, hb9⟩, rfl⟩ := hw'
        have L9 := Lib.hid (L8.out.below hb9)
        have O9 := Lib.hid (own_below O8.out hb9)
        clear hb9 d0 d1 d2 dg HE L8 O8
        have WA9 : RowKit.Hid (∀ (q : Nat), q < R → ∀ (w' : World), Gr.At w' g → Calls Try.prog 37 #[.agg #[.slice g.RA R g.rc, .slice g.NA g.nodes.length g.nc], .int .i64 q, .int .i64 k] w' fun e w'' => ∃ A c, e = .returned (.slice A (wayOf g q k).length c) ∧ Lies w'' A (ints (nums (wayOf g q k))) ∧ Below w'.heap.size w' w'') := Lib.hid (fun q hq w' h => (WA.out q k hq hk w' h).mono fun _ _ ⟨A, c, h1, h2, _, h4⟩ => ⟨A, c, h1, h2, h4⟩)
        clear WA
        go_upto_region 14 with fail
        go_cut [98] from 84 to 97 (fun s98 wx => s98 = .bool false ∧ Below w9.heap.size w9 wx)
        case first =>
          obtain ⟨c0, c1, c2⟩ := CC.out _ O9.out
          have b0 := L9.out.ka.cell 0
          have b1 := L9.out.ka.cell 1
          simp only [List.getElem?_toArray, List.getElem?_cons_zero, List.getElem?_cons_succ] at b0 b1
          rw [← ER.out] at b0
          by_cases h2 : 2 ≤ lp
          · have h2i : (2 : Int) < ll := by omega
            have h2n : 2 < ll := by omega
            have h1n : 1 < lp := by omega
            have h1i : (1 : Int) < lp := by omega
            have ht : 0 < t.length := by have := ELL.out; have := ELP.out; omega
            have WX := Lib.hid (WA9.out x hxR)
            have e3 := HREST.out ht
            rw [e3] at WX
            have hlx : (x :: t).length = lp := by have := ELL.out; have := ELP.out; simp; omega
            rw [hlx] at WX
            have SM := Lib.hid (fun (W : World) (A' : Option Addr) (c' d' : Nat) (hb : Below w9.heap.size w9 W) (h : Lies W A' (ints (nums (x :: t)))) => show Calls Try.prog 38 #[.slice A' lp c', .slice (some ⟨b2, o2 + 1, none⟩) lp d'] W fun e w' => e = .returned (.bool true) ∧ Below W.heap.size W w' from by
              have hB : Lies W (some ⟨b2, o2 + 1, none⟩) (ints (nums (x :: t))) := by
                have := (own_lies1 (own_below O9.out hb))
                rw [EL.out] at this
                exact lies_snd (a := (i : Int)) this
              have := lsame_any A' (some ⟨b2, o2 + 1, none⟩) c' d' (nums (x :: t)) (nums (x :: t)) (by rw [nums_len]; omega) (by rw [nums_len]; omega) W h hB
              rw [nums_len, hlx, decide_eq_true rfl] at this
              exact this)
            have WX9 := Lib.hid (WX.out w9.drew (L9.out.gr.below (bdrew1 (Below.refl _ _))))
            clear e3 hlx ht c0 c2
            have SF := Lib.hid (fun (W' : World) (hb : Below w9.heap.size w9 W') => (⟨by have := (L9.out.ka.below' hb).cell 0; simp only [List.getElem?_toArray, List.getElem?_cons_zero, List.getElem?_cons_succ] at this; rw [← ER.out] at this; exact this, by have := (L9.out.ka.below' hb).cell 1; simp only [List.getElem?_toArray, List.getElem?_cons_zero, List.getElem?_cons_succ] at this; exact this, (CC.out _ (own_below O9.out hb)).2.1⟩ : W'.cell? ⟨w.heap.size, 0, none⟩ = some (.slice g.RA R g.rc) ∧ W'.cell? ⟨w.heap.size, 1, none⟩ = some (.slice g.NA g.nodes.length g.nc) ∧ W'.cell? ⟨b2, o2 + 1, none⟩ = some (.int .i64 x)))
            have hcap : ll ≤ c := own_cap O9.out
            have hcapi : (ll : Int) ≤ c := by omega
            have hc1 : ¬ c = 1 := by omega
            have hc1i : ¬ (c : Int) = 1 := by omega
            have hone : (1 : Int) ≤ ll := by omega
            have hsubn : ll - 1 = lp := by have := ELP.out; omega
            have hsubi : (ll : Int) - 1 = lp := by omega
            have hsubt : ((ll : Int) - 1).toNat = lp := by omega
            have WX2 := Lib.hid (fun (W' : World) (hb : Below w9.heap.size w9 W') => WX.out W' (L9.out.gr.below hb))
            clear WX WX9 b0 b1 c1
            go_region_held3 (fun W' => W'.cell? ⟨w.heap.size, 0, none⟩ = some (.slice g.RA R g.rc) ∧ W'.cell? ⟨w.heap.size, 1, none⟩ = some (.slice g.NA g.nodes.length g.nc) ∧ W'.cell? ⟨b2, o2 + 1, none⟩ = some (.int .i64 x)) (first | exact SF.out _ P2.out | exact SF.out _ P1.out | exact SF.out _ (bdrew1 (Below.refl _ _)) | exact SF.out _ (Below.refl _ _)) (first | (go_at_call 37; (refine (WX2.out _ (by first | exact Below.refl _ _ | exact bdrew1 (Below.refl _ _))).mono ?_); rintro e w10 ⟨A', c', rfl, hl', hb'⟩; have HL1 := Lib.hid hl'; have P1 := Lib.hid (show Below w9.heap.size w9 w10 from (by first | exact hb' | exact (bdrew1 (Below.refl _ _)).trans hb')); clear hl' hb') | (go_at_call 38; (refine (SM.out _ _ _ _ P1.out HL1.out).mono ?_); rintro e w11 ⟨rfl, hb'⟩; have P2 := Lib.hid (bb P1.out hb'); clear hb'))
            all_goals go_simp
            all_goals (first | go_meet | (go_wp2_with fail; go_meet) | skip)
            all_goals exact ⟨rfl, P2.out⟩
          · have h2i : ¬ (2 : Int) < ll := by have := ELP.out; omega
            have h2n : ¬ 2 < ll := by have := ELP.out; omega
            clear h2
            refine wp_region_ext (by kernel_rfl) (by kernel_rfl) ?_
            repeat (first | go_big_quiet_step (fail) | quiet_step (fail))
            refine wpQuiet_nil ?_
            intro w10 hw'
            obtain ⟨⟨_, hb⟩, rfl⟩ := hw'
            have P1 := Lib.hid hb
            clear hb
            first | (go_wp2_with fail; go_meet) | go_meet
            exact ⟨rfl, P1.out⟩
        case rest =>
        obtain ⟨rfl, hb10⟩ := hcut
        have L10 := Lib.hid (L9.out.below hb10)
        have O10 := Lib.hid (own_below O9.out hb10)
        clear hb10 L9 O9
        go_wp2_with fail
        go_loopw [11] (fun mx wr => ∃ m : Nat, m ≤ rl ∧ mx = .int .i64 m ∧ LB w wr g gb vs ∧ wr.ownsRow w.heap.size 3 1 (.slice (some ⟨b2, o2, none⟩) ll c) ll (ints (nums (wayOf g i k)))) (fun mx _ => rl - (intOf mx).toNat)
        case atStart => exact ⟨0, by omega, rfl, L10.out, O10.out⟩
        case round =>
          obtain ⟨m, hm, rfl, hlb, ho⟩ := hrel
          have cg := hlb.cell hir
          rw [EX.out, ← ERL.out] at cg
          have LX := Lib.hid hlb
          have OX := Lib.hid ho
          by_cases hlt : m < rl
          · have hlt2 : (m : Int) < rl := by omega
            have hlx := (hlb.lies hir EX.out).2
            have hml : m < (lcal g i).length := by rw [← ERL.out]; exact hlt
            obtain ⟨b3, o3, eA3, _, c3⟩ := lies_cell hlx (k := m) (by rw [nums_len]; exact hml)
            rw [nums_at] at c3
            have hmem : (lcal g i).getD m 0 ∈ lcal g i := by simp [List.getD, List.getElem?_eq_getElem hml]
            have FR := Lib.hid (HFAR.out _ hmem)
            have hnr : (lcal g i).getD m 0 < R := by rw [ER.out]; exact lcal_lt hmem
            generalize (lcal g i).getD m 0 = nx at c3 FR hnr
            rw [eA3] at cg
            have b0 := hlb.ka.cell 0
            have b1 := hlb.ka.cell 1
            simp only [List.getElem?_toArray, List.getElem?_cons_zero, List.getElem?_cons_succ] at b0 b1
            rw [← ER.out] at b0
            obtain ⟨c0, c1, c2⟩ := CC.out _ ho
            have WN := Lib.hid (WA9.out nx hnr wr hlb.gr)
            clear hlx hml hmem eA3 hlb ho
            go_upto_region 21 with fail
            by_cases en : nx = k
            · subst en
              have hnn : ((nx : Int) != (nx : Int)) = false := by simp
              have hf := Lib.hid (FR.out 1 (by rw [if_pos rfl]) (by omega))
              by_cases e1 : lp = 1
              · subst e1
                have hxn : ¬ nx < x := by have := hf.out; have := ELL.out; have := ELP.out; omega
                have hxi : ¬ (nx : Int) < x := by omega
                clear WN
                go_wp2_with fail
                go_roundw
                case rel => exact ⟨m + 1, by omega, by go_num, LX.out, OX.out⟩
                case measure => simp [intOf]; omega
              · have e2 : ¬ (1 : Int) = lp := by omega
                have e3 : ¬ (lp : Int) = 1 := by omega
                have e4 : ¬ 1 = lp := by omega
                have e5 : ¬ (1 : Int) < lp := by have := hf.out; have := ELL.out; have := ELP.out; omega
                have e6 : ¬ 1 < lp := by omega
                omega
            · have enn : ((nx : Int) != (k : Int)) = true := by simp; omega
              have FF := Lib.hid (fun far (h : far = (wayOf g nx k).length) => FR.out far (by rw [if_neg en]; exact h))
              clear FR
              go_wp2_with fail
              refine WN.out.mono ?_
              rintro e w12 ⟨A', c', rfl, _, hb12⟩
              have L12 := Lib.hid (LX.out.below hb12)
              have O12 := Lib.hid (own_below OX.out hb12)
              obtain ⟨c0', c1', c2'⟩ := CC.out _ O12.out
              obtain ⟨fl, efl⟩ : ∃ u, u = (wayOf g nx k).length := ⟨_, rfl⟩
              have hF := Lib.hid (FF.out fl efl)
              have hfl : fl ≤ 34 := by rw [efl]; exact way_le g nx k
              rw [← efl]
              clear hb12 efl FF b0 b1 c0 c1 c2 c3 cg WN
              by_cases f0 : fl = 0
              · subst f0
                clear hF
                go_wp2_with fail
                go_roundw
                case rel => exact ⟨m + 1, by omega, by go_num, L12.out, O12.out⟩
                case measure => simp [intOf]; omega
              · have hf := hF.out (by omega)
                have hll := ELL.out
                have hlp := ELP.out
                have f1 : 0 < fl := by omega
                have f2 : (0 : Int) < fl := by omega
                have f3 : ¬ fl < lp := by omega
                have f4 : ¬ (fl : Int) < lp := by omega
                by_cases e1 : fl = lp
                · have f5 : ((fl : Int) == (lp : Int)) = true := by simp; omega
                  have f6 : (fl : Int) = lp := by omega
                  have f7 : ¬ nx < x := by omega
                  have f8 : ¬ (nx : Int) < x := by omega
                  subst e1
                  clear hf hF hll hlp f6 f0
                  go_wp2_with fail
                  go_roundw
                  case rel => exact ⟨m + 1, by omega, by go_num, L12.out, O12.out⟩
                  case measure => simp [intOf]; omega
                · have f5 : ((fl : Int) == (lp : Int)) = false := by simp; omega
                  have f6 : ¬ (fl : Int) = lp := by omega
                  clear hf hF hll hlp f0
                  go_wp2_with fail
                  go_roundw
                  case rel => exact ⟨m + 1, by omega, by go_num, L12.out, O12.out⟩
                  case measure => simp [intOf]; omega
          · obtain rfl : m = rl := by omega
            have hlt2 : ¬ (m : Int) < m := by omega
            clear hlb ho
            go_wp2_with fail
            go_ret
            exact ⟨rfl, LX.out.low⟩
end Go.Proofs.Ytmfiedbnnonenaa

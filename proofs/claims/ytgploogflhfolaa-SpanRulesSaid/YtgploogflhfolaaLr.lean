/- Layer 3: the law SpanRules, walked. -/
import Derived.Test.YtgploogflhfolaaMr
import Derived.Test.YtgploogflhfolaaRy
import Derived.Test.YtgploogflhfolaaXn
import Derived.Test.YtgploogflhfolaaWi
import Derived.Deep.CutRange
namespace Go.Proofs.Ytgploogflhfolaa
open Go Go.Proofs Go.RowKit
/-- What stays over the law. -/
def RSt (w0 : World) (a1 a2 b1 b2 c1 c2 : Int) (A : Option Addr) (l : List Nat) (W : World) : Prop :=
  Below w0.heap.size w0 W ∧ Blk W w0.heap.size #[.int .i64 a1, .int .i64 a2] 23 ∧ Blk W (w0.heap.size + 1) #[.int .i64 b1, .int .i64 b2] 23 ∧ Blk W (w0.heap.size + 1 + 1) #[.int .i64 c1, .int .i64 c2] 23 ∧ Txt W A l
theorem RSt.below {w0 : World} {a1 a2 b1 b2 c1 c2 : Int} {A : Option Addr} {l : List Nat} {W W' : World} (h : RSt w0 a1 a2 b1 b2 c1 c2 A l W) (hb : Below W.heap.size W W') : RSt w0 a1 a2 b1 b2 c1 c2 A l W' :=
  ⟨bt h.1 hb h.1.size, h.2.1.below hb h.2.1.lt, h.2.2.1.below hb h.2.2.1.lt, h.2.2.2.1.below hb h.2.2.2.1.lt, h.2.2.2.2.below hb⟩
/-- A span's bytes, held by a row of one's own. -/
theorem text_of_own {w : World} {base n : Nat} {xs : List Nat} {v : Value} (h : w.ownsRow base 5 1 v n (xs.map natb)) (hn : xs.length = n) (hx : ∀ x ∈ xs, x < 256) :
    ∃ A c, v = .slice A n c ∧ Txt w A xs ∧ (A = none → c = 0) ∧ n ≤ c ∧ c ≤ 9223372036854775807 := by
  subst hn
  obtain ⟨A, c, rfl, h1, h2⟩ := txt_of_own h hx
  refine ⟨A, c, rfl, h1, h2, ?_⟩
  rcases h.2 with ⟨e, hn⟩ | ⟨g, cap, cur, e, hb, hh, h3, h4, _⟩
  · simp only [Value.slice.injEq] at e; obtain ⟨rfl, h, rfl⟩ := e; exact ⟨by omega, by omega⟩
  · simp only [Value.slice.injEq] at e; obtain ⟨rfl, _, rfl⟩ := e; exact ⟨h3, by unfold maxLen at h4; omega⟩
theorem cutL_cutL {l : List Nat} {p q p' q' : Nat} (h1 : p' ≤ p) (h2 : p ≤ q) (h3 : q ≤ q') : cutL (cutL l p' q') (p - p') (q - p') = cutL l p q := by
  simp only [cutL, List.drop_take, List.drop_drop, List.take_take]
  rw [show p' + (p - p') = p by omega, show min (q - p' - (p - p')) (q' - p' - (p - p')) = q - p by omega]
theorem sameb_cut {l : List Nat} {p q p' q' : Nat} (TA TB : Option Addr) (cA cB : Nat) (h1 : p' ≤ p) (h2 : p ≤ q) (h3 : q ≤ q') (h4 : q' ≤ l.length) (h5 : l.length ≤ 300) (w : World) (hA : Txt w TA (cutL l p q)) (hB : Txt w TB (cutL (cutL l p' q') (p - p') (q - p'))) :
    Calls Try.prog 27 #[.slice TA (q - p) cA, .slice TB (q - p' - (p - p')) cB] w fun e w' => e = .returned (.bool true) ∧ ∃ n, w' = w.drewN n := by
  have l1 := cutL_length (l := l) (show p' ≤ q' by omega) h4
  have l2 := cutL_length (l := cutL l p' q') (show p - p' ≤ q - p' by omega) (by omega)
  have l3 := cutL_length (l := l) h2 (by omega)
  have := sameb_any TA TB (cutL l p q) (cutL (cutL l p' q') (p - p') (q - p')) cA cB (by omega) (by omega) w hA hB
  rw [l2, l3, cutL_cutL h1 h2 h3] at this
  simpa using this
theorem in_v (a1 a2 b1 b2 : Int) (w : World) : Calls Try.prog 16 #[.agg #[.int .i64 a1, .int .i64 a2], .agg #[.int .i64 b1, .int .i64 b2]] w fun e w' => e = .returned (.bool (innv a1 a2 b1 b2)) ∧ Below w.heap.size w w' := by
  have h := in_raw a1 a2 b1 b2 w
  have e : innv a1 a2 b1 b2 = (rt a1 a2 && rt b1 b2 && decide (b1 ≤ a1) && decide (a2 ≤ b2)) := by unfold innv; rfl
  rw [e]; exact h
theorem less_v (a1 a2 b1 b2 : Int) (w : World) : Calls Try.prog 18 #[.agg #[.int .i64 a1, .int .i64 a2], .agg #[.int .i64 b1, .int .i64 b2]] w fun e w' => e = .returned (.bool (lesv a1 a2 b1 b2)) ∧ Below w.heap.size w w' := by
  have h := less_raw a1 a2 b1 b2 w
  have e : lesv a1 a2 b1 b2 = (rt a1 a2 && rt b1 b2 && (decide (a1 < b1) || decide (a1 = b1) && decide (b2 < a2))) := by unfold lesv; rfl
  rw [e]; exact h

set_option maxRecDepth 100000 in
set_option maxHeartbeats 2000000 in
theorem rules_long (a1 a2 b1 b2 c1 c2 : Int) (A : Option Addr) (n c : Nat) (hn : 300 < n) (hm : n ≤ 9223372036854775807) (w : World) :
    Calls Try.prog 7 #[.agg #[.int .i64 a1, .int .i64 a2], .agg #[.int .i64 b1, .int .i64 b2], .agg #[.int .i64 c1, .int .i64 c2], .slice A n c] w fun e w' => e = .returned (.bool true) ∧ Below w.heap.size w w' := by
  go_enter Try.func7, Try.ntmps7
  go_wp2_with fail
  refine (awake_any _).mono ?_
  rintro e w1 ⟨rfl, hb⟩
  go_wp2_with fail
  go_ret
  exact ⟨rfl, bt ((B2 _ _ _).alloc (by simp; omega) _) hb (by simp; omega)⟩

set_option maxRecDepth 100000 in
set_option maxHeartbeats 8000000 in
theorem rules_main (a1 a2 b1 b2 c1 c2 : Int) (ha : Inr (a1, a2)) (hb : Inr (b1, b2)) (A : Option Addr) (l : List Nat) (c : Nat) (hl : l.length ≤ 300) (hc : l.length ≤ c) (hc2 : c ≤ 9223372036854775807) (hnc : A = none → c = 0) (w : World) (h : Txt w A l) :
    Calls Try.prog 7 #[.agg #[.int .i64 a1, .int .i64 a2], .agg #[.int .i64 b1, .int .i64 b2], .agg #[.int .i64 c1, .int .i64 c2], .slice A l.length c] w fun e w' => e = .returned (.bool true) ∧ Below w.heap.size w w' := by
  have IN := Lib.hid in_v
  have LE := Lib.hid less_v
  have HT := Lib.hid h
  have HA := Lib.hid ha
  have HB := Lib.hid hb
  have HNC := Lib.hid hnc
  clear h ha hb hnc
  go_enter Try.func7, Try.ntmps7
  go_wp2_with fail
  refine (awake_any _).mono ?_
  rintro e w1 ⟨rfl, hb⟩
  have hB3 : Below w.heap.size w (((w.alloc (.cells #[.int .i64 a1, .int .i64 a2] 23)).alloc (.cells #[.int .i64 b1, .int .i64 b2] 23)).alloc (.cells #[.int .i64 c1, .int .i64 c2] 23)) := (B2 _ _ _).alloc (by simp; omega) _
  have h0 : RSt w a1 a2 b1 b2 c1 c2 A l (((w.alloc (.cells #[.int .i64 a1, .int .i64 a2] 23)).alloc (.cells #[.int .i64 b1, .int .i64 b2] 23)).alloc (.cells #[.int .i64 c1, .int .i64 c2] 23)) := by
    refine ⟨hB3, ((Blk.new w _ _).alloc _).alloc _, (Blk.new2 w _ _ _).alloc _, ?_, HT.out.below hB3⟩
    have := Blk.new2 (w.alloc (.cells #[.int .i64 a1, .int .i64 a2] 23)) (.cells #[.int .i64 b1, .int .i64 b2] 23) #[.int .i64 c1, .int .i64 c2] 23
    rw [World.size_alloc] at this
    exact this
  have HRS := Lib.hid (h0.below hb)
  clear hb hB3 h0
  go_upto_region 5 with fail
  go_cut [75] from 21 to 74 (fun s75 wx => s75 = .bool false ∧ RSt w a1 a2 b1 b2 c1 c2 A l wx)
  case first =>
    obtain ⟨a0, a1'⟩ := HRS.out.2.1.two
    obtain ⟨b0, b1'⟩ := HRS.out.2.2.1.two
    obtain ⟨g0, g1'⟩ := HRS.out.2.2.2.1.two
    have d0 := fun e => Ext.cell a0 e
    have d1 := fun e => Ext.cell a1' e
    have d2 := fun e => Ext.cell b0 e
    have d3 := fun e => Ext.cell b1' e
    have d4 := fun e => Ext.cell g0 e
    have d5 := fun e => Ext.cell g1' e
    cases e1 : innv a1 a2 b1 b2 with
    | false =>
      cases e5 : lesv a1 a2 b1 b2 with
      | false =>
        refine wp_region_ext_list ?_
        repeat (first | go_big_quiet_step (first | (go_at_call 16; exact Calls.ext_of (IN.out _ _ _ _ _)) | (go_at_call 18; exact Calls.ext_of (LE.out _ _ _ _ _))) | quiet_step (first | (go_at_call 16; exact Calls.ext_of (IN.out _ _ _ _ _)) | (go_at_call 18; exact Calls.ext_of (LE.out _ _ _ _ _))))
        refine wpQuiet_nil ?_
        intro _ hw'
        obtain ⟨⟨w9, hb9⟩, rfl⟩ := hw'
        have HR9 := Lib.hid (HRS.out.below hb9)
        go_wp2_with fail
        go_meet
        exact ⟨rfl, HR9.out⟩
      | true =>
        have e6 := lesv_asym e5
        cases e7 : lesv b1 b2 c1 c2 with
        | false =>
          refine wp_region_ext_list ?_
          repeat (first | go_big_quiet_step (first | (go_at_call 16; exact Calls.ext_of (IN.out _ _ _ _ _)) | (go_at_call 18; exact Calls.ext_of (LE.out _ _ _ _ _))) | quiet_step (first | (go_at_call 16; exact Calls.ext_of (IN.out _ _ _ _ _)) | (go_at_call 18; exact Calls.ext_of (LE.out _ _ _ _ _))))
          refine wpQuiet_nil ?_
          intro _ hw'
          obtain ⟨⟨w9, hb9⟩, rfl⟩ := hw'
          have HR9 := Lib.hid (HRS.out.below hb9)
          go_wp2_with fail
          go_meet
          exact ⟨rfl, HR9.out⟩
        | true =>
          have e8 := lesv_trans e5 e7
          refine wp_region_ext_list ?_
          repeat (first | go_big_quiet_step (first | (go_at_call 16; exact Calls.ext_of (IN.out _ _ _ _ _)) | (go_at_call 18; exact Calls.ext_of (LE.out _ _ _ _ _))) | quiet_step (first | (go_at_call 16; exact Calls.ext_of (IN.out _ _ _ _ _)) | (go_at_call 18; exact Calls.ext_of (LE.out _ _ _ _ _))))
          refine wpQuiet_nil ?_
          intro _ hw'
          obtain ⟨⟨w9, hb9⟩, rfl⟩ := hw'
          have HR9 := Lib.hid (HRS.out.below hb9)
          go_wp2_with fail
          go_meet
          exact ⟨rfl, HR9.out⟩
    | true =>
      cases e3 : innv b1 b2 a1 a2 with
      | true =>
        obtain ⟨rfl, rfl⟩ := innv_anti e1 e3
        have e5 := lesv_self a1 a2
        cases e2 : innv a1 a2 c1 c2 with
        | false =>
          refine wp_region_ext_list ?_
          repeat (first | go_big_quiet_step (first | (go_at_call 16; exact Calls.ext_of (IN.out _ _ _ _ _)) | (go_at_call 18; exact Calls.ext_of (LE.out _ _ _ _ _))) | quiet_step (first | (go_at_call 16; exact Calls.ext_of (IN.out _ _ _ _ _)) | (go_at_call 18; exact Calls.ext_of (LE.out _ _ _ _ _))))
          refine wpQuiet_nil ?_
          intro _ hw'
          obtain ⟨⟨w9, hb9⟩, rfl⟩ := hw'
          have HR9 := Lib.hid (HRS.out.below hb9)
          go_wp2_with fail
          go_meet
          exact ⟨rfl, HR9.out⟩
        | true =>
          refine wp_region_ext_list ?_
          repeat (first | go_big_quiet_step (first | (go_at_call 16; exact Calls.ext_of (IN.out _ _ _ _ _)) | (go_at_call 18; exact Calls.ext_of (LE.out _ _ _ _ _))) | quiet_step (first | (go_at_call 16; exact Calls.ext_of (IN.out _ _ _ _ _)) | (go_at_call 18; exact Calls.ext_of (LE.out _ _ _ _ _))))
          refine wpQuiet_nil ?_
          intro _ hw'
          obtain ⟨⟨w9, hb9⟩, rfl⟩ := hw'
          have HR9 := Lib.hid (HRS.out.below hb9)
          go_wp2_with fail
          go_meet
          exact ⟨rfl, HR9.out⟩
      | false =>
        cases e2 : innv b1 b2 c1 c2 with
        | false =>
          cases e5 : lesv a1 a2 b1 b2 with
          | false =>
            refine wp_region_ext_list ?_
            repeat (first | go_big_quiet_step (first | (go_at_call 16; exact Calls.ext_of (IN.out _ _ _ _ _)) | (go_at_call 18; exact Calls.ext_of (LE.out _ _ _ _ _))) | quiet_step (first | (go_at_call 16; exact Calls.ext_of (IN.out _ _ _ _ _)) | (go_at_call 18; exact Calls.ext_of (LE.out _ _ _ _ _))))
            refine wpQuiet_nil ?_
            intro _ hw'
            obtain ⟨⟨w9, hb9⟩, rfl⟩ := hw'
            have HR9 := Lib.hid (HRS.out.below hb9)
            go_wp2_with fail
            go_meet
            exact ⟨rfl, HR9.out⟩
          | true =>
            have e6 := lesv_asym e5
            cases e7 : lesv b1 b2 c1 c2 with
            | false =>
              refine wp_region_ext_list ?_
              repeat (first | go_big_quiet_step (first | (go_at_call 16; exact Calls.ext_of (IN.out _ _ _ _ _)) | (go_at_call 18; exact Calls.ext_of (LE.out _ _ _ _ _))) | quiet_step (first | (go_at_call 16; exact Calls.ext_of (IN.out _ _ _ _ _)) | (go_at_call 18; exact Calls.ext_of (LE.out _ _ _ _ _))))
              refine wpQuiet_nil ?_
              intro _ hw'
              obtain ⟨⟨w9, hb9⟩, rfl⟩ := hw'
              have HR9 := Lib.hid (HRS.out.below hb9)
              go_wp2_with fail
              go_meet
              exact ⟨rfl, HR9.out⟩
            | true =>
              have e8 := lesv_trans e5 e7
              refine wp_region_ext_list ?_
              repeat (first | go_big_quiet_step (first | (go_at_call 16; exact Calls.ext_of (IN.out _ _ _ _ _)) | (go_at_call 18; exact Calls.ext_of (LE.out _ _ _ _ _))) | quiet_step (first | (go_at_call 16; exact Calls.ext_of (IN.out _ _ _ _ _)) | (go_at_call 18; exact Calls.ext_of (LE.out _ _ _ _ _))))
              refine wpQuiet_nil ?_
              intro _ hw'
              obtain ⟨⟨w9, hb9⟩, rfl⟩ := hw'
              have HR9 := Lib.hid (HRS.out.below hb9)
              go_wp2_with fail
              go_meet
              exact ⟨rfl, HR9.out⟩
        | true =>
          have e4 := innv_trans e1 e2
          cases e5 : lesv a1 a2 b1 b2 with
          | false =>
            refine wp_region_ext_list ?_
            repeat (first | go_big_quiet_step (first | (go_at_call 16; exact Calls.ext_of (IN.out _ _ _ _ _)) | (go_at_call 18; exact Calls.ext_of (LE.out _ _ _ _ _))) | quiet_step (first | (go_at_call 16; exact Calls.ext_of (IN.out _ _ _ _ _)) | (go_at_call 18; exact Calls.ext_of (LE.out _ _ _ _ _))))
            refine wpQuiet_nil ?_
            intro _ hw'
            obtain ⟨⟨w9, hb9⟩, rfl⟩ := hw'
            have HR9 := Lib.hid (HRS.out.below hb9)
            go_wp2_with fail
            go_meet
            exact ⟨rfl, HR9.out⟩
          | true =>
            have e6 := lesv_asym e5
            cases e7 : lesv b1 b2 c1 c2 with
            | false =>
              refine wp_region_ext_list ?_
              repeat (first | go_big_quiet_step (first | (go_at_call 16; exact Calls.ext_of (IN.out _ _ _ _ _)) | (go_at_call 18; exact Calls.ext_of (LE.out _ _ _ _ _))) | quiet_step (first | (go_at_call 16; exact Calls.ext_of (IN.out _ _ _ _ _)) | (go_at_call 18; exact Calls.ext_of (LE.out _ _ _ _ _))))
              refine wpQuiet_nil ?_
              intro _ hw'
              obtain ⟨⟨w9, hb9⟩, rfl⟩ := hw'
              have HR9 := Lib.hid (HRS.out.below hb9)
              go_wp2_with fail
              go_meet
              exact ⟨rfl, HR9.out⟩
            | true =>
              have e8 := lesv_trans e5 e7
              refine wp_region_ext_list ?_
              repeat (first | go_big_quiet_step (first | (go_at_call 16; exact Calls.ext_of (IN.out _ _ _ _ _)) | (go_at_call 18; exact Calls.ext_of (LE.out _ _ _ _ _))) | quiet_step (first | (go_at_call 16; exact Calls.ext_of (IN.out _ _ _ _ _)) | (go_at_call 18; exact Calls.ext_of (LE.out _ _ _ _ _))))
              refine wpQuiet_nil ?_
              intro _ hw'
              obtain ⟨⟨w9, hb9⟩, rfl⟩ := hw'
              have HR9 := Lib.hid (HRS.out.below hb9)
              go_wp2_with fail
              go_meet
              exact ⟨rfl, HR9.out⟩
  case rest =>
  obtain ⟨rfl, hrs⟩ := hcut
  have HRS := Lib.hid hrs
  clear hrs
  have R0 := Lib.hid (fun x y w => right_any x y w)
  go_upto_region 7 with fail
  go_cut [81] from 76 to 80 (fun s81 wx => s81 = .bool (rt a1 a2 && rt b1 b2) ∧ RSt w a1 a2 b1 b2 c1 c2 A l wx)
  case first =>
    have RA := fun w => R0.out a1 a2 w
    have RB := fun w => R0.out b1 b2 w
    obtain ⟨a0, a1'⟩ := HRS.out.2.1.two
    obtain ⟨b0, b1'⟩ := HRS.out.2.2.1.two
    obtain ⟨g0, g1'⟩ := HRS.out.2.2.2.1.two
    have d0 := fun e => Ext.cell a0 e
    have d1 := fun e => Ext.cell a1' e
    have d2 := fun e => Ext.cell b0 e
    have d3 := fun e => Ext.cell b1' e
    have d4 := fun e => Ext.cell g0 e
    have d5 := fun e => Ext.cell g1' e
    obtain ⟨ra, era⟩ : ∃ r, r = rt a1 a2 := ⟨_, rfl⟩
    obtain ⟨rb, erb⟩ : ∃ r, r = rt b1 b2 := ⟨_, rfl⟩
    rw [← era] at RA
    rw [← erb] at RB
    have ERA := Lib.hid era
    have ERB := Lib.hid erb
    clear era erb
    have RA := Lib.hid RA
    have RB := Lib.hid RB
    have HRSa := HRS
    cases ra with
    | false =>
      go_wp2_with fail
      refine (RA.out _).mono ?_
      rintro e w2 ⟨rfl, hb2⟩
      have HR9 := Lib.hid (HRS.out.below hb2)
      clear hb2
      go_wp2_with fail
      go_meet
      exact ⟨by rw [← ERA.out]; rfl, HR9.out⟩
    | true =>
      go_wp2_with fail
      refine (RA.out _).mono ?_
      rintro e w2 ⟨rfl, hb2⟩
      have HR9 := Lib.hid (HRS.out.below hb2)
      clear hb2
      obtain ⟨x0, x1'⟩ := HR9.out.2.2.1.two
      go_wp2_with fail
      refine (RB.out _).mono ?_
      rintro e w3 ⟨rfl, hb3⟩
      have HR10 := Lib.hid (HR9.out.below hb3)
      clear hb3
      go_wp2_with fail
      go_meet
      exact ⟨by rw [← ERA.out, ← ERB.out]; rfl, HR10.out⟩
  case rest =>
  obtain ⟨rfl, hrs⟩ := hcut
  clear HRS
  have HRS := Lib.hid hrs
  clear hrs
  go_upto_if 81 with fail
  go_cut [9, 10, 11, 81] from 82 to 149 (fun s9 s10 s11 s81 wx => RSt w a1 a2 b1 b2 c1 c2 A l wx)
  case first =>
    cases okr : (rt a1 a2 && rt b1 b2) with
    | false =>
      clear okr
      go_wp2_with fail
      go_meet
      exact HRS.out
    | true =>
      obtain ⟨ha, hb⟩ : rt a1 a2 = true ∧ rt b1 b2 = true := by simpa using okr
      clear okr
      have HRA := Lib.hid ha
      have HRB := Lib.hid hb
      obtain ⟨a0, a1'⟩ := HRS.out.2.1.two
      obtain ⟨b0, b1'⟩ := HRS.out.2.2.1.two
      have JJ := fun w h => join_any (some ⟨wc.heap.size, 0, none⟩) [(a1, a2), (b1, b2)] 2 (by simp) w h
      rw [join_two (a1, a2) (b1, b2) ha hb] at JJ
      have JJ := Lib.hid JJ
      have MM := Lib.hid (fun w => meet_raw a1 a2 b1 b2 w)
      clear ha hb
      have hsp : Spn (wc.alloc (.cells #[.int .i64 a1, .int .i64 a2, .int .i64 b1, .int .i64 b2] 23)) (some ⟨wc.heap.size, 0, none⟩) [(a1, a2), (b1, b2)] := fun _ => ⟨_, 0, rfl, by simp, fun i hi => by
        have hi : i < 2 := hi
        rw [(Blk.new wc _ _).cell, (Blk.new wc _ _).cell]
        have : i = 0 ∨ i = 1 := by omega
        rcases this with rfl | rfl <;> exact ⟨rfl, rfl⟩⟩
      have HSP := Lib.hid hsp
      clear hsp
      go_wp2_with fail
      refine (JJ.out _ HSP.out).mono ?_
      rintro e w2 ⟨rfl, hb2⟩
      have HRS2 := Lib.hid (HRS.out.below ((B1 wc (.cells #[.int .i64 a1, .int .i64 a2, .int .i64 b1, .int .i64 b2] 23)).trans (hb2.mono (by simp))))
      clear hb2 a0 a1' b0 b1' JJ HSP
      dsimp only
      obtain ⟨q1, eq1⟩ : ∃ q, q = min a1 b1 := ⟨_, rfl⟩
      obtain ⟨q2, eq2⟩ : ∃ q, q = max a2 b2 := ⟨_, rfl⟩
      rw [← eq1, ← eq2]
      have EQ1 := Lib.hid eq1
      have EQ2 := Lib.hid eq2
      clear eq1 eq2
      have HRS3 := Lib.hid (HRS2.out.below (B1 w2 (.cells #[.int .i64 q1, .int .i64 q2] 23)))
      have BJ := Lib.hid (Blk.new w2 #[.int .i64 q1, .int .i64 q2] 23)
      obtain ⟨a0, a1'⟩ := HRS2.out.2.1.two
      obtain ⟨b0, b1'⟩ := HRS2.out.2.2.1.two
      have hz1 := HRS2.out.2.1.lt
      have hz2 := HRS2.out.2.2.1.lt
      go_wp2_with fail
      refine (MM.out _).mono ?_
      rintro e w3 ⟨rfl, hb3⟩
      have HRS4 := Lib.hid (HRS3.out.below hb3)
      have BJ4 := Lib.hid (BJ.out.below hb3 BJ.out.lt)
      obtain ⟨is, eis⟩ : ∃ is, is = ism (a1, a2) (b1, b2) := ⟨_, rfl⟩
      obtain ⟨m, em⟩ : ∃ m, m = mee (a1, a2) (b1, b2) := ⟨_, rfl⟩
      rw [← eis, ← em]
      have EIS := Lib.hid eis
      have EM := Lib.hid em
      clear eis em
      obtain ⟨m1, m2⟩ := m
      dsimp only
      have HRS5 := Lib.hid (HRS4.out.below (B1 w3 (.cells #[.int .i64 m1, .int .i64 m2] 23)))
      have BJ5 := Lib.hid (BJ4.out.alloc (.cells #[.int .i64 m1, .int .i64 m2] 23))
      have BM5 := Lib.hid (Blk.new w3 #[.int .i64 m1, .int .i64 m2] 23)
      obtain ⟨W6, eW6⟩ : ∃ W6, W6 = w3.alloc (.cells #[.int .i64 m1, .int .i64 m2] 23) := ⟨_, rfl⟩
      rw [← eW6] at HRS5 BJ5 BM5
      clear hb3 a0 a1' b0 b1' hz1 hz2 MM HRS2 HRS3 HRS4 BJ BJ4
      have HRS6 := HRS5
      go_wp2_with fail
      rw [← eW6]
      clear eW6
      obtain ⟨a0, a1'⟩ := HRS6.out.2.1.two
      obtain ⟨b0, b1'⟩ := HRS6.out.2.2.1.two
      obtain ⟨j0, j1'⟩ := BJ5.out.two
      obtain ⟨m0, m1'⟩ := BM5.out.two
      have d0 := fun e => Ext.cell a0 e
      have d1 := fun e => Ext.cell a1' e
      have d2 := fun e => Ext.cell b0 e
      have d3 := fun e => Ext.cell b1' e
      have d4 := fun e => Ext.cell j0 e
      have d5 := fun e => Ext.cell j1' e
      have d6 := fun e => Ext.cell m0 e
      have d7 := fun e => Ext.cell m1' e
      have ha := HRA.out
      have hb := HRB.out
      have f1 := innv_join1 ha hb
      have f2 := innv_join2 ha hb
      rw [← EQ1.out, ← EQ2.out] at f1 f2
      by_cases hab : a1 = b1 ∧ a2 = b2
      · obtain ⟨rfl, rfl⟩ := hab
        have hi : innv a1 a2 a1 a2 = true := by rw [innv_iff]; rw [rt_iff] at ha; omega
        obtain ⟨g1, g2, g3, g4⟩ := innv_ism ha hb hi
        obtain rfl : a1 = q1 := by rw [EQ1.out, g3]
        obtain rfl : a2 = q2 := by rw [EQ2.out, g4]
        obtain rfl : is = true := by rw [EIS.out, g1]
        have g5 := EM.out
        rw [g2] at g5
        obtain rfl : a1 = m1 := (Prod.mk.inj g5).1.symm
        obtain rfl : a2 = m2 := (Prod.mk.inj g5).2.symm
        clear g1 g2 g3 g4 ha hb
        refine wp_region_ext (by kernel_rfl) (by kernel_rfl) ?_
        repeat (first | go_big_quiet_step (first | (go_at_call 16; exact Calls.ext_of (IN.out _ _ _ _ _)) | (go_at_call 18; exact Calls.ext_of (LE.out _ _ _ _ _))) | quiet_step (first | (go_at_call 16; exact Calls.ext_of (IN.out _ _ _ _ _)) | (go_at_call 18; exact Calls.ext_of (LE.out _ _ _ _ _))))
        refine wpQuiet_nil ?_
        intro _ hw'
        obtain ⟨⟨w9, hb9⟩, rfl⟩ := hw'
        have HR9 := Lib.hid (HRS6.out.below hb9)
        clear d0 d1 d2 d3 d4 d5 d6 d7 a0 a1' b0 b1' j0 j1' m0 m1' hb9
        go_wp2_with fail
        go_meet
        exact HR9.out
      · have eqv : ∀ W : World, (Op.equalIn 10000 23 (.agg #[.int .i64 a1, .int .i64 a2]) (.agg #[.int .i64 b1, .int .i64 b2])).run Try.prog W = .ok false W := fun W => by
          rw [eq23]
          have : (a1 == b1 && a2 == b2) = false := by simpa using hab
          rw [this]
        cases e1 : innv a1 a2 b1 b2 with
        | true =>
          obtain ⟨g1, g2, g3, g4⟩ := innv_ism ha hb e1
          obtain rfl : is = true := by rw [EIS.out, g1]
          obtain rfl : b1 = q1 := by rw [EQ1.out, g3]
          obtain rfl : b2 = q2 := by rw [EQ2.out, g4]
          have g5 := EM.out
          rw [g2] at g5
          obtain rfl : a1 = m1 := (Prod.mk.inj g5).1.symm
          obtain rfl : a2 = m2 := (Prod.mk.inj g5).2.symm
          have h3 : innv a1 a2 a1 a2 = true := by rw [innv_iff]; rw [rt_iff] at ha; omega
          clear g1 g2 g3 g4
          have el := lesv_total ha hb hab
          cases e5 : lesv a1 a2 b1 b2 with
          | false =>
            rw [e5] at el
            refine wp_region_ext (by kernel_rfl) (by kernel_rfl) ?_
            repeat (first | go_big_quiet_step (first | (go_at_call 16; exact Calls.ext_of (IN.out _ _ _ _ _)) | (go_at_call 18; exact Calls.ext_of (LE.out _ _ _ _ _))) | quiet_step (first | (go_at_call 16; exact Calls.ext_of (IN.out _ _ _ _ _)) | (go_at_call 18; exact Calls.ext_of (LE.out _ _ _ _ _))))
            refine wpQuiet_nil ?_
            intro _ hw'
            obtain ⟨⟨w9, hb9⟩, rfl⟩ := hw'
            have HR9 := Lib.hid (HRS6.out.below hb9)
            clear d0 d1 d2 d3 d4 d5 d6 d7 a0 a1' b0 b1' j0 j1' m0 m1' hb9
            go_wp2_with fail
            go_meet
            exact HR9.out
          | true =>
            rw [e5] at el
            refine wp_region_ext (by kernel_rfl) (by kernel_rfl) ?_
            repeat (first | go_big_quiet_step (first | (go_at_call 16; exact Calls.ext_of (IN.out _ _ _ _ _)) | (go_at_call 18; exact Calls.ext_of (LE.out _ _ _ _ _))) | quiet_step (first | (go_at_call 16; exact Calls.ext_of (IN.out _ _ _ _ _)) | (go_at_call 18; exact Calls.ext_of (LE.out _ _ _ _ _))))
            refine wpQuiet_nil ?_
            intro _ hw'
            obtain ⟨⟨w9, hb9⟩, rfl⟩ := hw'
            have HR9 := Lib.hid (HRS6.out.below hb9)
            clear d0 d1 d2 d3 d4 d5 d6 d7 a0 a1' b0 b1' j0 j1' m0 m1' hb9
            go_wp2_with fail
            go_meet
            exact HR9.out
        | false =>
          cases is with
          | false =>
            have el := lesv_total ha hb hab
            cases e5 : lesv a1 a2 b1 b2 with
            | false =>
              rw [e5] at el
              refine wp_region_ext (by kernel_rfl) (by kernel_rfl) ?_
              repeat (first | go_big_quiet_step (first | (go_at_call 16; exact Calls.ext_of (IN.out _ _ _ _ _)) | (go_at_call 18; exact Calls.ext_of (LE.out _ _ _ _ _))) | quiet_step (first | (go_at_call 16; exact Calls.ext_of (IN.out _ _ _ _ _)) | (go_at_call 18; exact Calls.ext_of (LE.out _ _ _ _ _))))
              refine wpQuiet_nil ?_
              intro _ hw'
              obtain ⟨⟨w9, hb9⟩, rfl⟩ := hw'
              have HR9 := Lib.hid (HRS6.out.below hb9)
              clear d0 d1 d2 d3 d4 d5 d6 d7 a0 a1' b0 b1' j0 j1' m0 m1' hb9
              go_wp2_with fail
              go_meet
              exact HR9.out
            | true =>
              rw [e5] at el
              refine wp_region_ext (by kernel_rfl) (by kernel_rfl) ?_
              repeat (first | go_big_quiet_step (first | (go_at_call 16; exact Calls.ext_of (IN.out _ _ _ _ _)) | (go_at_call 18; exact Calls.ext_of (LE.out _ _ _ _ _))) | quiet_step (first | (go_at_call 16; exact Calls.ext_of (IN.out _ _ _ _ _)) | (go_at_call 18; exact Calls.ext_of (LE.out _ _ _ _ _))))
              refine wpQuiet_nil ?_
              intro _ hw'
              obtain ⟨⟨w9, hb9⟩, rfl⟩ := hw'
              have HR9 := Lib.hid (HRS6.out.below hb9)
              clear d0 d1 d2 d3 d4 d5 d6 d7 a0 a1' b0 b1' j0 j1' m0 m1' hb9
              go_wp2_with fail
              go_meet
              exact HR9.out
          | true =>
            have g1 := innv_mee1 ha hb EIS.out.symm
            have g2 := innv_mee2 ha hb EIS.out.symm
            rw [← EM.out] at g1 g2
            dsimp only at g1 g2
            have el := lesv_total ha hb hab
            cases e5 : lesv a1 a2 b1 b2 with
            | false =>
              rw [e5] at el
              refine wp_region_ext (by kernel_rfl) (by kernel_rfl) ?_
              repeat (first | go_big_quiet_step (first | (go_at_call 16; exact Calls.ext_of (IN.out _ _ _ _ _)) | (go_at_call 18; exact Calls.ext_of (LE.out _ _ _ _ _))) | quiet_step (first | (go_at_call 16; exact Calls.ext_of (IN.out _ _ _ _ _)) | (go_at_call 18; exact Calls.ext_of (LE.out _ _ _ _ _))))
              refine wpQuiet_nil ?_
              intro _ hw'
              obtain ⟨⟨w9, hb9⟩, rfl⟩ := hw'
              have HR9 := Lib.hid (HRS6.out.below hb9)
              clear d0 d1 d2 d3 d4 d5 d6 d7 a0 a1' b0 b1' j0 j1' m0 m1' hb9
              go_wp2_with fail
              go_meet
              exact HR9.out
            | true =>
              rw [e5] at el
              refine wp_region_ext (by kernel_rfl) (by kernel_rfl) ?_
              repeat (first | go_big_quiet_step (first | (go_at_call 16; exact Calls.ext_of (IN.out _ _ _ _ _)) | (go_at_call 18; exact Calls.ext_of (LE.out _ _ _ _ _))) | quiet_step (first | (go_at_call 16; exact Calls.ext_of (IN.out _ _ _ _ _)) | (go_at_call 18; exact Calls.ext_of (LE.out _ _ _ _ _))))
              refine wpQuiet_nil ?_
              intro _ hw'
              obtain ⟨⟨w9, hb9⟩, rfl⟩ := hw'
              have HR9 := Lib.hid (HRS6.out.below hb9)
              clear d0 d1 d2 d3 d4 d5 d6 d7 a0 a1' b0 b1' j0 j1' m0 m1' hb9
              go_wp2_with fail
              go_meet
              exact HR9.out
  case rest =>
  clear HRS
  have HRS := Lib.hid hcut
  clear hcut
  have LN := Lib.hid (fun x y hy w => len_any x y hy w)
  have R0 := Lib.hid (fun x y w => right_any x y w)
  have HL := Lib.hid hl
  obtain ⟨a0, a1'⟩ := HRS.out.2.1.two
  obtain ⟨b0, b1'⟩ := HRS.out.2.2.1.two
  by_cases okA : rt a1 a2 = true ∧ a2 ≤ l.length
  · obtain ⟨hA1, hA2⟩ := okA
    have hA3 := rt_iff.1 hA1
    obtain ⟨p, rfl⟩ : ∃ p : Nat, a1 = p := ⟨a1.toNat, by omega⟩
    obtain ⟨q, rfl⟩ : ∃ q : Nat, a2 = q := ⟨a2.toNat, by omega⟩
    have hpq : p ≤ q := by omega
    have hql : q ≤ l.length := by omega
    clear hA3
    have RA := fun w => R0.out (p : Int) (q : Int) w
    rw [hA1] at RA
    have LA := fun w => LN.out (p : Int) (q : Int) (by omega) w
    rw [show ln (p : Int) (q : Int) = ((q - p : Nat) : Int) by simp [ln, hA1]; omega] at LA
    have RA := Lib.hid RA
    have LA := Lib.hid LA
    have HA1 := Lib.hid hA1
    have HPQ := Lib.hid hpq
    have HQL := Lib.hid hql
    clear hA1 hA2 hpq hql
    go_wp2_with fail
    refine (cut_yes A l c p q (Nat.le_trans HL.out (by omega)) hc hc2 HNC.out HPQ.out HQL.out _ HRS.out.2.2.2.2).mono ?_
    rintro e w2 ⟨v, rfl, hown, hb2⟩
    obtain ⟨TA, cA, rfl, hTA, hnA⟩ := text_of_own hown (cutL_length HPQ.out HQL.out) (fun x hx => HRS.out.2.2.2.2.1 x (List.mem_of_mem_drop (List.mem_of_mem_take hx)))
    have HTA := Lib.hid hTA
    have HRS2 := Lib.hid (HRS.out.below hb2)
    clear hb2 hown hTA hnA a0 a1' b0 b1' HRS
    have hqp : ((q - p : Nat) : Int) ≤ 300 := by have := HL.out; have := HQL.out; omega
    obtain ⟨a0, a1'⟩ := HRS2.out.2.1.two
    obtain ⟨b0, b1'⟩ := HRS2.out.2.2.1.two
    by_cases okB : rt b1 b2 = true ∧ b2 ≤ l.length
    · obtain ⟨hB1, hB2⟩ := okB
      have hB3 := rt_iff.1 hB1
      obtain ⟨p', rfl⟩ : ∃ p : Nat, b1 = p := ⟨b1.toNat, by omega⟩
      obtain ⟨q', rfl⟩ : ∃ q : Nat, b2 = q := ⟨b2.toNat, by omega⟩
      have hpq : p' ≤ q' := by omega
      have hql : q' ≤ l.length := by omega
      clear hB3
      have LB := fun w => LN.out (p' : Int) (q' : Int) (by omega) w
      rw [show ln (p' : Int) (q' : Int) = ((q' - p' : Nat) : Int) by simp [ln, hB1]; omega] at LB
      have LB := Lib.hid LB
      have HB1 := Lib.hid hB1
      have HPQ' := Lib.hid hpq
      have HQL' := Lib.hid hql
      clear hB1 hB2 hpq hql
      go_wp2_with fail
      refine (cut_yes A l c p' q' (Nat.le_trans HL.out (by omega)) hc hc2 HNC.out HPQ'.out HQL'.out _ HRS2.out.2.2.2.2).mono ?_
      rintro e w3 ⟨v, rfl, hown, hb3⟩
      obtain ⟨TB, cB, rfl, hTB, hnB, hcB, hcB2⟩ := text_of_own hown (cutL_length HPQ'.out HQL'.out) (fun x hx => HRS2.out.2.2.2.2.1 x (List.mem_of_mem_drop (List.mem_of_mem_take hx)))
      have HTB := Lib.hid hTB
      have HTA3 := Lib.hid (HTA.out.below hb3)
      have HRS3 := Lib.hid (HRS2.out.below hb3)
      clear hb3 hown hTB a0 a1' b0 b1' HRS2 HTA
      obtain ⟨a0, a1'⟩ := HRS3.out.2.1.two
      go_wp2_with fail
      refine (LA.out _).mono ?_
      rintro e w4 ⟨rfl, hb4⟩
      have HTB4 := Lib.hid (HTB.out.below hb4)
      have HTA4 := Lib.hid (HTA3.out.below hb4)
      have HRS4 := Lib.hid (HRS3.out.below hb4)
      clear hb4 a0 a1' HRS3 HTA3 HTB
      obtain ⟨a0, a1'⟩ := HRS4.out.2.1.two
      go_wp2_with fail
      refine (RA.out _).mono ?_
      rintro e w5 ⟨rfl, hb5⟩
      have HTB5 := Lib.hid (HTB4.out.below hb5)
      have HTA5 := Lib.hid (HTA4.out.below hb5)
      have HRS5 := Lib.hid (HRS4.out.below hb5)
      clear hb5 a0 a1' HRS4 HTA4 HTB4
      obtain ⟨a0, a1'⟩ := HRS5.out.2.1.two
      obtain ⟨b0, b1'⟩ := HRS5.out.2.2.1.two
      have II := fun w => IN.out (p : Int) (q : Int) (p' : Int) (q' : Int) w
      cases ein : innv (p : Int) (q : Int) (p' : Int) (q' : Int) with
      | false =>
        rw [ein] at II
        have II := Lib.hid II
        clear ein
        go_wp2_with fail
        refine (II.out _).mono ?_
        rintro e w6 ⟨rfl, hb6⟩
        have HRS6 := Lib.hid (HRS5.out.below hb6)
        clear hb6
        go_wp2_with fail
        go_ret
        exact ⟨rfl, HRS6.out.1⟩
      | true =>
        rw [ein] at II
        have II := Lib.hid II
        have EIN := Lib.hid (innv_iff.1 ein)
        clear ein
        go_wp2_with fail
        refine (II.out _).mono ?_
        rintro e w6 ⟨rfl, hb6⟩
        have HTB6 := Lib.hid (HTB5.out.below hb6)
        have HTA6 := Lib.hid (HTA5.out.below hb6)
        have HRS6 := Lib.hid (HRS5.out.below hb6)
        clear hb6 a0 a1' b0 b1' HRS5 HTA5 HTB5
        obtain ⟨b0, b1'⟩ := HRS6.out.2.2.1.two
        have hqp' : ((q' - p' : Nat) : Int) ≤ 300 := by have := HL.out; have := HQL'.out; omega
        go_wp2_with fail
        refine (LB.out _).mono ?_
        rintro e w7 ⟨rfl, hb7⟩
        have HTB7 := Lib.hid (HTB6.out.below hb7)
        have HTA7 := Lib.hid (HTA6.out.below hb7)
        have HRS7 := Lib.hid (HRS6.out.below hb7)
        clear hb7 b0 b1' HRS6 HTA6 HTB6
        obtain ⟨a0, a1'⟩ := HRS7.out.2.1.two
        obtain ⟨b0, b1'⟩ := HRS7.out.2.2.1.two
        have g1 : p' ≤ p := by have := EIN.out; omega
        have g2 : q ≤ q' := by have := EIN.out; omega
        have g3 : p ≤ q := HPQ.out
        have g4 : q' ≤ 300 := by have := HL.out; have := HQL'.out; omega
        have G1 := Lib.hid g1
        have G2 := Lib.hid g2
        have G3 := Lib.hid g3
        cases TB with
        | none =>
          have hnB := hnB rfl
          subst hnB
          have h0 : cutL l p' q' = [] := List.eq_nil_of_length_eq_zero (by rw [cutL_length HPQ'.out HQL'.out]; omega)
          have CUTB : Hid (Txt w7 none (cutL (cutL l p' q') (p - p') (q - p'))) := Lib.hid (by rw [h0]; simpa [cutL] using txt_nil _ _)
          clear h0
          go_wp2_with fail
          refine (sameb_cut TA none _ _ G1.out G3.out G2.out HQL'.out HL.out w7 HTA7.out CUTB.out).mono ?_
          rintro e w8 ⟨rfl, n, rfl⟩
          have HRS8 := Lib.hid (bdrew (n := n) HRS7.out.1)
          clear a0 a1' b0 b1'
          go_wp2_with fail
          go_ret
          exact ⟨rfl, HRS8.out⟩
        | some ad =>
          clear hnB
          have CUTB : Hid (Txt w7 (some (ad.add (p - p'))) (cutL (cutL l p' q') (p - p') (q - p'))) := Lib.hid (HTB7.out.cut' _ _ (by omega) (by rw [cutL_length HPQ'.out HQL'.out]; omega))
          by_cases hcp : cB = p - p'
          · have h0 : cutL (cutL l p' q') (p - p') (q - p') = [] := List.eq_nil_of_length_eq_zero (by rw [cutL_length (by omega) (by rw [cutL_length HPQ'.out HQL'.out]; omega)]; omega)
            have CUTB : Hid (Txt w7 (some ad) (cutL (cutL l p' q') (p - p') (q - p'))) := Lib.hid (by rw [h0]; exact txt_nil _ _)
            clear h0
            go_wp2_with fail
            refine (sameb_cut TA (some ad) _ _ G1.out G3.out G2.out HQL'.out HL.out w7 HTA7.out CUTB.out).mono ?_
            rintro e w8 ⟨rfl, n, rfl⟩
            have HRS8 := Lib.hid (bdrew (n := n) HRS7.out.1)
            clear a0 a1' b0 b1'
            go_wp2_with fail
            go_ret
            exact ⟨rfl, HRS8.out⟩
          · go_wp2_with fail
            refine (sameb_cut TA (some (ad.add (p - p'))) _ _ G1.out G3.out G2.out HQL'.out HL.out w7 HTA7.out CUTB.out).mono ?_
            rintro e w8 ⟨rfl, n, rfl⟩
            have HRS8 := Lib.hid (bdrew (n := n) HRS7.out.1)
            clear a0 a1' b0 b1'
            go_wp2_with fail
            go_ret
            exact ⟨rfl, HRS8.out⟩
    · have hB : rt b1 b2 = false ∨ (l.length : Int) < b2 := by
        cases h : rt b1 b2 with
        | false => exact .inl rfl
        | true => exact .inr (by rw [h] at okB; simp at okB; omega)
      have HBN := Lib.hid hB
      clear okB hB
      go_wp2_with fail
      refine (cut_no A l.length c b1 b2 (Nat.le_trans HL.out (by omega)) HBN.out _).mono ?_
      rintro e w3 ⟨rfl, hb3⟩
      have HRS3 := Lib.hid (HRS2.out.below hb3)
      clear hb3 a0 a1' b0 b1' HRS2
      obtain ⟨a0, a1'⟩ := HRS3.out.2.1.two
      go_wp2_with fail
      refine (LA.out _).mono ?_
      rintro e w4 ⟨rfl, hb4⟩
      have HRS4 := Lib.hid (HRS3.out.below hb4)
      clear hb4 a0 a1' HRS3
      obtain ⟨a0, a1'⟩ := HRS4.out.2.1.two
      go_wp2_with fail
      refine (RA.out _).mono ?_
      rintro e w5 ⟨rfl, hb5⟩
      have HRS5 := Lib.hid (HRS4.out.below hb5)
      clear hb5
      go_wp2_with fail
      go_ret
      exact ⟨rfl, HRS5.out.1⟩
  · have hA : rt a1 a2 = false ∨ (l.length : Int) < a2 := by
      cases h : rt a1 a2 with
      | false => exact .inl rfl
      | true => exact .inr (by rw [h] at okA; simp at okA; omega)
    have HAN := Lib.hid hA
    clear okA hA
    go_wp2_with fail
    refine (cut_no A l.length c a1 a2 (Nat.le_trans HL.out (by omega)) HAN.out _).mono ?_
    rintro e w2 ⟨rfl, hb2⟩
    have HRS2 := Lib.hid (HRS.out.below hb2)
    clear hb2 a0 a1' b0 b1' HRS
    obtain ⟨b0, b1'⟩ := HRS2.out.2.2.1.two
    by_cases okB : rt b1 b2 = true ∧ b2 ≤ l.length
    · have hin : innv a1 a2 b1 b2 = false := by
        rw [Bool.eq_false_iff]; intro h
        have h2 := innv_iff.1 h
        rcases HAN.out with h3 | h3
        · have : rt a1 a2 = true := rt_iff.2 ⟨by omega, by omega⟩
          rw [h3] at this; cases this
        · omega
      have II := fun w => IN.out a1 a2 b1 b2 w
      rw [hin] at II
      have II := Lib.hid II
      obtain ⟨hB1, hB2⟩ := okB
      have hB3 := rt_iff.1 hB1
      obtain ⟨p', rfl⟩ : ∃ p : Nat, b1 = p := ⟨b1.toNat, by omega⟩
      obtain ⟨q', rfl⟩ : ∃ q : Nat, b2 = q := ⟨b2.toNat, by omega⟩
      have hpq : p' ≤ q' := by omega
      have hql : q' ≤ l.length := by omega
      have HPQ' := Lib.hid hpq
      have HQL' := Lib.hid hql
      clear hB1 hB2 hpq hql hB3 hin
      go_wp2_with fail
      refine (cut_yes A l c p' q' (Nat.le_trans HL.out (by omega)) hc hc2 HNC.out HPQ'.out HQL'.out _ HRS2.out.2.2.2.2).mono ?_
      rintro e w3 ⟨v, rfl, hown, hb3⟩
      obtain ⟨TB, cB, rfl, hTB, hnB, hcB, hcB2⟩ := text_of_own hown (cutL_length HPQ'.out HQL'.out) (fun x hx => HRS2.out.2.2.2.2.1 x (List.mem_of_mem_drop (List.mem_of_mem_take hx)))
      have HRS3 := Lib.hid (HRS2.out.below hb3)
      clear hb3 hown hTB b0 b1' HRS2 hnB hcB hcB2
      obtain ⟨a0, a1'⟩ := HRS3.out.2.1.two
      obtain ⟨b0, b1'⟩ := HRS3.out.2.2.1.two
      go_wp2_with fail
      refine (II.out _).mono ?_
      rintro e w4 ⟨rfl, hb4⟩
      have HRS4 := Lib.hid (HRS3.out.below hb4)
      clear hb4
      go_wp2_with fail
      go_ret
      exact ⟨rfl, HRS4.out.1⟩
    · have hB : rt b1 b2 = false ∨ (l.length : Int) < b2 := by
        cases h : rt b1 b2 with
        | false => exact .inl rfl
        | true => exact .inr (by rw [h] at okB; simp at okB; omega)
      have HBN := Lib.hid hB
      clear okB hB
      go_wp2_with fail
      refine (cut_no A l.length c b1 b2 (Nat.le_trans HL.out (by omega)) HBN.out _).mono ?_
      rintro e w3 ⟨rfl, hb3⟩
      have HRS3 := Lib.hid (HRS2.out.below hb3)
      clear hb3
      go_wp2_with fail
      go_ret
      exact ⟨rfl, HRS3.out.1⟩
end Go.Proofs.Ytgploogflhfolaa

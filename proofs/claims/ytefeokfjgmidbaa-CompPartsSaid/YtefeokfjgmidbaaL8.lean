/- CompLeads. -/
import Derived.Test.YtefeokfjgmidbaaL7
import Derived.Test.YtefeokfjgmidbaaL6
set_option linter.unusedSimpArgs false
set_option linter.unusedVariables false
namespace Go.Proofs.Ytefeokfjgmidbaa
open Go Go.Proofs Go.Shelf Go.RowKit Go.Lib Go.Maps
set_option maxRecDepth 100000 in
set_option maxHeartbeats 4000000 in
/-- Of a wrong graph, or one of nothing. -/
theorem cleads_no (A : Option Addr) (c m : Nat) (vs : List Value) (L : List (List Int)) (em : m = L.length) (rb : Bool) (er : rb = rightL L) (h0 : rb = false ∨ m = 0) (a b : Int) (w : World) (hA : Gph w A vs L) :
    Calls Try.prog 4 #[.slice A m c, .int .i64 a, .int .i64 b] w fun e w' => e = .returned (.bool true) ∧ Below w.heap.size w w' := by
  have HA := Lib.hid (GB.start hA)
  have AW := Lib.hid (awake_any w)
  have GR := Lib.hid (fun w' (h : GB w w' A vs L) => great_any A c vs L w' h.g)
  have RT := Lib.hid (fun w' (h : GB w w' A vs L) => Right_any A c vs L w' h.g)
  rw [← em] at GR
  rw [← em, ← er] at RT
  have LD : Hid (∀ w', GB w w' A vs L → Calls Try.prog 14 #[.slice A m c, .int .i64 a, .int .i64 b] w' fun e w'' => e = .returned (.bool false) ∧ Below w'.heap.size w' w'') := Lib.hid fun w' h => by
    cases er2 : rightL L with
    | false => rw [em]; exact (Leads_no A c vs L er2 a b w' h.g).mono fun _ _ ⟨h1, h2⟩ => ⟨h1, h2 ▸ Below.refl _ _⟩
    | true =>
      obtain ⟨G, hR, rfl⟩ := right_graph er2
      have hz : G.length = 0 := by rw [List.length_map] at em; rcases h0 with h0 | h0 <;> simp_all
      have := Leads_any A c vs G hR a b w' h.g
      rw [em, List.length_map]
      rwa [ldB_zero hz] at this
  have PT : Hid (∀ w', GB w w' A vs L → Calls Try.prog 12 #[.slice A m c, .int .i64 a] w' fun e w'' => e = .returned (.int .i64 (-1)) ∧ Below w'.heap.size w' w'') := Lib.hid fun w' h => by
    cases er2 : rightL L with
    | false => rw [em]; exact Part_no A c vs L er2 a w' h.g
    | true =>
      obtain ⟨G, hR, rfl⟩ := right_graph er2
      have hz : G.length = 0 := by rw [List.length_map] at em; rcases h0 with h0 | h0 <;> simp_all
      have := Part_any A c vs G hR a w' h.g
      rw [em, List.length_map]
      rwa [idxP_zero hz] at this
  have RI : Hid (∀ w', GB w w' A vs L → Calls Try.prog 15 #[.slice A m c, .int .i64 a] w' fun e w'' => e = .returned (.bool false) ∧ Below w'.heap.size w' w'') := Lib.hid fun w' h => by
    cases er2 : rightL L with
    | false => rw [em]; exact Ring_no A c vs L er2 a w' h.g
    | true =>
      obtain ⟨G, hR, rfl⟩ := right_graph er2
      have hz : G.length = 0 := by rw [List.length_map] at em; rcases h0 with h0 | h0 <;> simp_all
      have := Ring_any A c vs G hR a w' h.g
      rw [em, List.length_map]
      rwa [ringB_zero hz] at this
  have hm := hA.most
  rw [← em] at hm
  clear hA em er
  go_enter Try.func4, Try.ntmps4
  go_wp2_with fail
  refine AW.out.mono ?_
  rintro e w1 ⟨rfl, hb⟩
  have G1 := Lib.hid (HA.out.below hb)
  clear hb
  go_wp2_with fail
  refine (GR.out w1 G1.out).mono ?_
  rintro e w2 ⟨⟨gb, rfl⟩, hb⟩
  have G2 := Lib.hid (G1.out.below hb)
  clear hb
  cases gb with
  | true =>
    go_wp2_with fail
    go_ret
    exact ⟨rfl, G2.out.b⟩
  | false =>
    go_wp2_with fail
    refine (RT.out w2 G2.out).mono ?_
    rintro e w3 ⟨rfl, rfl⟩
    have hz : rb = false ∨ (rb = true ∧ m = 0) := by cases rb <;> simp_all
    clear h0
    rcases hz with rfl | ⟨rfl, rfl⟩
    all_goals go_wp2_with fail
    all_goals refine (LD.out _ G2.out).mono ?_
    all_goals rintro e w4 ⟨rfl, hb⟩
    all_goals have G4 := Lib.hid (G2.out.below hb)
    all_goals clear hb
    all_goals go_wp2_with fail
    all_goals refine (PT.out _ G4.out).mono ?_
    all_goals rintro e w5 ⟨rfl, hb⟩
    all_goals have G5 := Lib.hid (G4.out.below hb)
    all_goals clear hb
    all_goals go_wp2_with fail
    all_goals refine (RI.out _ G5.out).mono ?_
    all_goals rintro e w6 ⟨rfl, hb⟩
    all_goals go_wp2_with fail
    all_goals go_ret
    all_goals exact ⟨rfl, (G5.out.below hb).b⟩
end Go.Proofs.Ytefeokfjgmidbaa
namespace Go.Proofs.Ytefeokfjgmidbaa
open Go Go.Proofs Go.Shelf Go.RowKit Go.Lib Go.Maps
theorem any_take {l : List Nat} {f : Nat → Bool} {k : Nat} (h : k < l.length) : (l.take (k + 1)).any f = ((l.take k).any f || f (l.getD k 0)) := by
  rw [List.take_add_one, List.any_append]
  simp [List.getD, List.getElem?_eq_getElem h]
set_option maxRecDepth 100000 in
set_option maxHeartbeats 8000000 in
theorem cleads_any (A : Option Addr) (c n : Nat) (vs : List Value) (G : List (List Nat)) (en : n = G.length) (hR : RG G) (h0 : 0 < n) (a b : Int) (ha : -9223372036854775808 ≤ a ∧ a < 9223372036854775808) (hb : -9223372036854775808 ≤ b ∧ b < 9223372036854775808) (w : World) (hA : Gph w A vs (G.map nums)) :
    Calls Try.prog 4 #[.slice A n c, .int .i64 a, .int .i64 b] w fun e w' => e = .returned (.bool true) ∧ Below w.heap.size w w' := by
  have HA := Lib.hid (GB.start hA)
  have AW := Lib.hid (awake_any w)
  have GR := Lib.hid (fun w' (h : GB w w' A vs (G.map nums)) => great_any A c vs (G.map nums) w' h.g)
  have RT := Lib.hid (fun w' (h : GB w w' A vs (G.map nums)) => Right_any A c vs (G.map nums) w' h.g)
  have LD := Lib.hid (fun a b w' (h : GB w w' A vs (G.map nums)) => Leads_any A c vs G hR a b w' h.g)
  have RI := Lib.hid (fun a w' (h : GB w w' A vs (G.map nums)) => Ring_any A c vs G hR a w' h.g)
  rw [List.length_map, ← en] at GR RT
  rw [hR.right] at RT
  rw [← en] at LD RI
  have hm : n ≤ 64 := by rw [en]; exact hR.most
  have h1 := Int.emod_nonneg a (show (n : Int) ≠ 0 by omega)
  have h2 := Int.emod_lt_of_pos a (show 0 < (n : Int) by omega)
  have h3 := Int.emod_nonneg b (show (n : Int) ≠ 0 by omega)
  have h4 := Int.emod_lt_of_pos b (show 0 < (n : Int) by omega)
  have PA := Lib.hid (fun w' => pick_any a n ha (by omega) w')
  have PB := Lib.hid (fun w' => pick_any b n hb (by omega) w')
  obtain ⟨i, ei⟩ : ∃ i : Nat, a % (n : Int) = i := ⟨(a % (n : Int)).toNat, by omega⟩
  obtain ⟨k, ek⟩ : ∃ k : Nat, b % (n : Int) = k := ⟨(b % (n : Int)).toNat, by omega⟩
  rw [ei] at PA h1 h2
  rw [ek] at PB h3 h4
  clear ei ek ha hb
  have hi : i < n := by omega
  have FS := Lib.hid (show ldB G i k = (decide (i = k) || (adjG G i).any fun c => ldB G c k) from ldB_step hR (by omega))
  have FB := Lib.hid (show ringB G i = (adjG G i).any fun c => ldB G c i from ringB_step hR (by omega))
  have FI := Lib.hid (show ldB G i i = true from ldB_self (by omega))
  have EK := Lib.hid (show (((i : Int) == k) = decide (i = k)) ∧ ((k : Int) == k) = true by constructor <;> (rw [Bool.eq_iff_iff]; simp; try omega))
  obtain ⟨m, em⟩ : ∃ m, m = (adjG G i).length := ⟨_, rfl⟩
  have EM := Lib.hid em
  have hm2 : m ≤ 64 := by rw [em]; exact hR.len i
  have TA := Lib.hid (fun t (ht : t < m) (f : Nat → Bool) => any_take (l := adjG G i) (f := f) (k := t) (by omega))
  have TE := Lib.hid (show (adjG G i).take m = adjG G i from List.take_of_length_le (by omega))
  have ROW := Lib.hid (fun w' (h : GB w w' A vs (G.map nums)) => show ∃ b o B c, A = some ⟨b, o, none⟩ ∧ b < w'.heap.size ∧ w'.cell? ⟨b, o + i, none⟩ = some (.slice B m c) ∧ Lies w' B (ints (nums (adjG G i))) from by
    obtain ⟨b, o, B, c, e, h1, h2, h3⟩ := h.g.at_ (i := i) (by rw [List.length_map]; omega)
    rw [getD_map_nums] at h2 h3
    rw [nums_len] at h2
    exact ⟨b, o, B, c, e, h1, by rw [em]; exact h2, h3⟩)
  have CELL := Lib.hid (fun w' B (h : Lies w' B (ints (nums (adjG G i)))) t (ht : t < m) => show ∃ b o, B = some ⟨b, o, none⟩ ∧ b < w'.heap.size ∧ w'.cell? ⟨b, o + t, none⟩ = some (.int .i64 ((adjG G i).getD t 0 : Nat)) from by
    have := lies_cell h (k := t) (by rw [nums_len]; omega)
    rw [nums_at] at this
    exact this)
  clear hA en em
  go_enter Try.func4, Try.ntmps4
  go_wp2_with fail
  refine AW.out.mono ?_
  rintro e w1 ⟨rfl, hb⟩
  have G1 := Lib.hid (HA.out.below hb)
  clear hb
  go_wp2_with fail
  refine (GR.out w1 G1.out).mono ?_
  rintro e w2 ⟨⟨gb, rfl⟩, hb⟩
  have G2 := Lib.hid (G1.out.below hb)
  clear hb
  cases gb with
  | true =>
    go_wp2_with fail
    go_ret
    exact ⟨rfl, G2.out.b⟩
  | false =>
    go_wp2_with fail
    refine (RT.out w2 G2.out).mono ?_
    rintro e w3 ⟨rfl, rfl⟩
    have hn0 : ¬ (n : Int) = 0 := by omega
    go_wp2_with fail
    refine (PA.out _).mono ?_
    rintro e w4 ⟨rfl, rfl⟩
    go_wp2_with fail
    refine (PB.out _).mono ?_
    rintro e w4 ⟨rfl, rfl⟩
    go_wp2_with fail
    obtain ⟨b0, o0, B0, c0, rfl, hb0, hc0, hl0⟩ := ROW.out _ G2.out
    have R2 := Lib.hid (fun w' (h : GB w w' (some ⟨b0, o0, none⟩) vs (G.map nums)) => show ∃ B c, b0 < w'.heap.size ∧ w'.cell? ⟨b0, o0 + i, none⟩ = some (.slice B m c) ∧ Lies w' B (ints (nums (adjG G i))) from by
      obtain ⟨b, o, B, c, e, h1, h2, h3⟩ := ROW.out w' h
      simp only [Option.some.injEq, Addr.mk.injEq] at e
      obtain ⟨rfl, rfl, _⟩ := e
      exact ⟨B, c, h1, h2, h3⟩)
    clear ROW hb0 hc0 hl0 GR RT PA PB AW HA
    go_loopw [9, 10, 11] (fun lv bv mv wr => ∃ t : Nat, t ≤ m ∧ mv = .int .i64 t ∧ lv = .bool (decide (i = k) || ((adjG G i).take t).any fun c => ldB G c k) ∧ bv = .bool (((adjG G i).take t).any fun c => ldB G c i) ∧ GB w wr (some ⟨b0, o0, none⟩) vs (G.map nums)) (fun _ _ mv _ => m - (intOf mv).toNat)
    case atStart => exact ⟨0, by omega, rfl, by simp [EK.out.1], by simp, G2.out⟩
    case round =>
      obtain ⟨t, ht, rfl, el, eb, hg⟩ := hrel
      have GT := Lib.hid hg
      obtain ⟨lq, elq⟩ : ∃ q, q = (decide (i = k) || ((adjG G i).take t).any fun c => ldB G c k) := ⟨_, rfl⟩
      obtain ⟨bq, ebq⟩ : ∃ q, q = (((adjG G i).take t).any fun c => ldB G c i) := ⟨_, rfl⟩
      rw [← elq] at el
      rw [← ebq] at eb
      subst el eb
      have ELQ := Lib.hid elq
      have EBQ := Lib.hid ebq
      obtain ⟨B1, d1, hb1, hc1, hl1⟩ := R2.out wr hg
      clear elq ebq hg
      by_cases hlt : t < m
      · have hlt2 : (t : Int) < m := by omega
        have T1 := Lib.hid (TA.out t hlt fun c => ldB G c k)
        have T2 := Lib.hid (TA.out t hlt fun c => ldB G c i)
        -- what is asked first
        have S1 := Lib.hid (LD.out ((adjG G i).getD t 0 : Nat) k)
        have S2 := Lib.hid (LD.out ((adjG G i).getD t 0 : Nat) i)
        obtain ⟨x, ex⟩ : ∃ x, x = (adjG G i).getD t 0 := ⟨_, rfl⟩
        rw [← ex] at T1 T2 S1 S2
        have C2 := Lib.hid (fun w' (h : GB w w' (some ⟨b0, o0, none⟩) vs (G.map nums)) => show ∃ b o d, b0 < w'.heap.size ∧ w'.cell? ⟨b0, o0 + i, none⟩ = some (.slice (some ⟨b, o, none⟩) m d) ∧ b < w'.heap.size ∧ w'.cell? ⟨b, o + t, none⟩ = some (.int .i64 x) from by
          obtain ⟨B1, d1, hb1, hc1, hl1⟩ := R2.out w' h
          obtain ⟨b, o, rfl, h1, h2⟩ := CELL.out w' B1 hl1 t hlt
          rw [← ex] at h2
          exact ⟨b, o, d1, hb1, hc1, h1, h2⟩)
        obtain ⟨b1, o1, rfl, hx1, hx2⟩ := CELL.out wr B1 hl1 t hlt
        rw [← ex] at hx2
        clear ex hl1
        cases lq with
        | true =>
          cases bq with
          | true =>
            go_wp2_with fail
            go_roundw
            case rel => exact ⟨t + 1, by omega, by go_num, by rw [T1.out, ← Bool.or_assoc, ← ELQ.out]; rfl, by rw [T2.out, ← EBQ.out]; rfl, GT.out⟩
            case measure => simp [intOf]; omega
          | false =>
            go_wp2_with fail
            refine (S2.out _ GT.out).mono ?_
            rintro e w6 ⟨rfl, hb⟩
            have G6 := Lib.hid (GT.out.below hb)
            clear hb
            go_wp2_with fail
            go_roundw
            case rel => exact ⟨t + 1, by omega, by go_num, by rw [T1.out, ← Bool.or_assoc, ← ELQ.out]; rfl, by rw [T2.out, ← EBQ.out]; rfl, G6.out⟩
            case measure => simp [intOf]; omega
        | false =>
          go_wp2_with fail
          refine (S1.out _ GT.out).mono ?_
          rintro e w6 ⟨rfl, hb⟩
          have G6 := Lib.hid (GT.out.below hb)
          clear hb hb1 hc1 hx1 hx2
          obtain ⟨b3, o3, d3, h31, h32, h33, h34⟩ := C2.out w6 G6.out
          cases bq with
          | true =>
            go_wp2_with fail
            go_roundw
            case rel => exact ⟨t + 1, by omega, by go_num, by rw [T1.out, ← Bool.or_assoc, ← ELQ.out]; rfl, by rw [T2.out, ← EBQ.out]; rfl, G6.out⟩
            case measure => simp [intOf]; omega
          | false =>
            go_wp2_with fail
            refine (S2.out _ G6.out).mono ?_
            rintro e w7 ⟨rfl, hb⟩
            have G7 := Lib.hid (G6.out.below hb)
            clear hb
            go_wp2_with fail
            go_roundw
            case rel => exact ⟨t + 1, by omega, by go_num, by rw [T1.out, ← Bool.or_assoc, ← ELQ.out]; rfl, by rw [T2.out, ← EBQ.out]; rfl, G7.out⟩
            case measure => simp [intOf]; omega
      · obtain rfl : t = m := by omega
        have hlt2 : ¬ (t : Int) < t := by omega
        have E1 := Lib.hid (show lq = ldB G i k by rw [ELQ.out, FS.out, TE.out])
        have E2 := Lib.hid (show bq = ringB G i by rw [EBQ.out, FB.out, TE.out])
        go_wp2_with fail
        refine (LD.out _ _ _ GT.out).mono ?_
        rintro e w6 ⟨rfl, hb⟩
        have G6 := Lib.hid (GT.out.below hb)
        rw [← E1.out]
        clear hb
        go_wp2_with fail
        refine (LD.out _ _ _ G6.out).mono ?_
        rintro e w7 ⟨rfl, hb⟩
        have G7 := Lib.hid (G6.out.below hb)
        rw [FI.out]
        clear hb
        go_wp2_with fail
        refine (RI.out _ _ G7.out).mono ?_
        rintro e w8 ⟨rfl, hb⟩
        have G8 := Lib.hid (G7.out.below hb)
        rw [← E2.out]
        clear hb
        go_wp2_with fail
        go_ret
        exact ⟨by simp, G8.out.b⟩
end Go.Proofs.Ytefeokfjgmidbaa
namespace Go.Proofs.Ytefeokfjgmidbaa
open Go Go.Proofs Go.Shelf Go.RowKit Go.Lib Go.Maps
set_option maxRecDepth 100000 in
set_option maxHeartbeats 4000000 in
/-- Of a wrong graph. -/
theorem cturn_no (A : Option Addr) (c m : Nat) (vs : List Value) (L : List (List Int)) (em : m = L.length) (er : rightL L = false) (a b : Int) (w : World) (hA : Gph w A vs L) :
    Calls Try.prog 5 #[.slice A m c, .int .i64 a, .int .i64 b] w fun e w' => e = .returned (.bool true) ∧ Below w.heap.size w w' := by
  have HA := Lib.hid (GB.start hA)
  have AW := Lib.hid (awake_any w)
  have GR := Lib.hid (fun w' (h : GB w w' A vs L) => great_any A c vs L w' h.g)
  have RT := Lib.hid (fun w' (h : GB w w' A vs L) => Right_any A c vs L w' h.g)
  have TN := Lib.hid (fun w' (h : GB w w' A vs L) => Turn_no A c vs L er w' h.g)
  rw [← em] at GR TN
  rw [← em, er] at RT
  have hm := hA.most
  rw [← em] at hm
  clear hA em er
  go_enter Try.func5, Try.ntmps5
  go_wp2_with fail
  refine AW.out.mono ?_
  rintro e w1 ⟨rfl, hb⟩
  have G1 := Lib.hid (HA.out.below hb)
  clear hb
  go_wp2_with fail
  refine (GR.out w1 G1.out).mono ?_
  rintro e w2 ⟨⟨gb, rfl⟩, hb⟩
  have G2 := Lib.hid (G1.out.below hb)
  clear hb
  cases gb with
  | true =>
    go_wp2_with fail
    go_ret
    exact ⟨rfl, G2.out.b⟩
  | false =>
    go_wp2_with fail
    refine (TN.out w2 G2.out).mono ?_
    rintro e w3 ⟨rfl, rfl⟩
    go_wp2_with fail
    refine (RT.out _ G2.out).mono ?_
    rintro e w3 ⟨rfl, rfl⟩
    go_wp2_with fail
    go_ret
    exact ⟨rfl, G2.out.b⟩
theorem turned_gph {B : Nat} {w : World} {gb : Nat} {vs : List Value} {G : List (List Nat)} (hR : RG G) (hb : Blk w gb vs.toArray 26) (h : RowsO B w vs G) : Gph w (some ⟨gb, 0, none⟩) vs (G.map nums) :=
  h.gph (fun _ => ⟨gb, 0, rfl, hb.lt, fun i _ => by rw [Nat.zero_add, hb.cell, List.getElem?_toArray]⟩) (by have := hR.most; omega) (fun i _ => by have := hR.len i; unfold adjG at this; omega)
/-- The head of a part. -/
theorem part_head {w : World} {A : Option Addr} {vs : List Value} {G : List (List Nat)} (hR : RG G) (h : Gph w A vs ((pG G).map nums)) {j : Nat} (hj : j < (pG G).length) :
    ∃ b o B c b1 o1, A = some ⟨b, o, none⟩ ∧ B = some ⟨b1, o1, none⟩ ∧ w.cell? ⟨b, o + j, none⟩ = some (.slice B ((pG G).getD j []).length c) ∧ Lies w B (ints (nums ((pG G).getD j []))) ∧ w.cell? ⟨b1, o1, none⟩ = some (.int .i64 (((pG G).getD j []).getD 0 0 : Nat)) ∧ 0 < ((pG G).getD j []).length ∧ ((pG G).getD j []).length ≤ 64 := by
  obtain ⟨h0, h64⟩ := (pG_small hR).2 j hj
  have hp : 0 < ((pG G).getD j []).length := List.length_pos_iff.2 h0
  obtain ⟨b, o, B, c, e1, e2, e3, e4⟩ := h.at_ (i := j) (by simpa using hj)
  rw [getD_map_nums] at e3 e4
  rw [nums_len] at e3
  obtain ⟨b1, o1, e5, e6, e7⟩ := lies_cell e4 (k := 0) (by rw [nums_len]; exact hp)
  rw [nums_at] at e7
  exact ⟨b, o, B, c, b1, o1, e1, e5, e3, e4, e7, hp, h64⟩
set_option maxRecDepth 100000 in
set_option maxHeartbeats 8000000 in
theorem cturn_any (A : Option Addr) (c n : Nat) (vs : List Value) (G : List (List Nat)) (en : n = G.length) (hR : RG G) (a b : Int) (w : World) (hA : Gph w A vs (G.map nums)) :
    Calls Try.prog 5 #[.slice A n c, .int .i64 a, .int .i64 b] w fun e w' => e = .returned (.bool true) ∧ Below w.heap.size w w' := by
  have HA := Lib.hid (GB.start hA)
  have AW := Lib.hid (awake_any w)
  have GR := Lib.hid (fun w' (h : GB w w' A vs (G.map nums)) => great_any A c vs (G.map nums) w' h.g)
  have RT := Lib.hid (fun w' (h : GB w w' A vs (G.map nums)) => Right_any A c vs (G.map nums) w' h.g)
  have TN := Lib.hid (fun w' (h : GB w w' A vs (G.map nums)) => Turn_any A c vs G hR w' h.g)
  have LD := Lib.hid (fun a b w' (h : GB w w' A vs (G.map nums)) => Leads_any A c vs G hR a b w' h.g)
  have PP := Lib.hid (fun w' (h : GB w w' A vs (G.map nums)) => Parts_any A c vs G hR w' h.g)
  have RI := Lib.hid (fun a w' (h : GB w w' A vs (G.map nums)) => Ring_any A c vs G hR a w' h.g)
  rw [List.length_map, ← en] at GR RT
  rw [hR.right] at RT
  rw [← en] at LD RI TN PP
  obtain ⟨K, eK⟩ : ∃ K, K = trnG G := ⟨_, rfl⟩
  have hK : RG K := by rw [eK]; exact hR.turned
  have eKn : K.length = n := by rw [eK, en]; exact trn_len G
  have eKt : trnG K = G := by rw [eK]; exact hR.twice
  have eKd : ∀ a b, ldB K b a = ldB G a b := fun a b => by rw [eK]; exact ldB_turn hR a b
  have eKp : (pG K).length = (pG G).length := by rw [eK]; exact pG_turn_len hR
  have eKq : ∀ j, j < (pG G).length → ∃ k, k < (pG K).length ∧ idxP ((pG K).map nums) (((pG G).getD j []).getD 0 0 : Nat) = k ∧ (pG K).getD k [] = (pG G).getD j [] ∧ ringB K (((pG G).getD j []).getD 0 0 : Nat) = ringB G (((pG G).getD j []).getD 0 0 : Nat) := fun j hj => by
    obtain ⟨h1, k, h2, h3, h4⟩ := part_turn hR hj
    rw [eK]
    exact ⟨k, h2, h3, h4, ringB_turn hR h1⟩
  rw [← eK] at TN
  have RT2 := Lib.hid (fun A' c' vs' w' (h : Gph w' A' vs' (K.map nums)) => Right_any A' c' vs' (K.map nums) w' h)
  have TN2 := Lib.hid (fun A' c' vs' w' (h : Gph w' A' vs' (K.map nums)) => Turn_any A' c' vs' K hK w' h)
  have LD2 := Lib.hid (fun A' c' vs' a b w' (h : Gph w' A' vs' (K.map nums)) => Leads_any A' c' vs' K hK a b w' h)
  have PP2 := Lib.hid (fun A' c' vs' w' (h : Gph w' A' vs' (K.map nums)) => Parts_any A' c' vs' K hK w' h)
  have RI2 := Lib.hid (fun A' c' vs' a w' (h : Gph w' A' vs' (K.map nums)) => Ring_any A' c' vs' K hK a w' h)
  have PT2 := Lib.hid (fun A' c' vs' a w' (h : Gph w' A' vs' (K.map nums)) => Part_any A' c' vs' K hK a w' h)
  have SR := Lib.hid (fun (A' : Option Addr) c' vs' w' (h' : Gph w' A' vs' (G.map nums)) (h : GB w w' A vs (G.map nums)) => show Calls Try.prog 17 #[.slice A' n c', .slice A n c] w' fun e w'' => e = .returned (.bool true) ∧ Below w'.heap.size w' w'' from by
    have := rows_same A' A c' c vs' vs _ _ w' h' h.g
    simpa [← en] using this)
  rw [List.length_map, eKn, hK.right] at RT2
  rw [eKn] at LD2 RI2 PT2 TN2 PP2
  rw [eKt] at TN2
  have hm : n ≤ 64 := by rw [en]; exact hR.most
  have GPT := Lib.hid (fun B w' gb vs' (h1 : Blk w' gb vs'.toArray 26) (h2 : RowsO B w' vs' K) => turned_gph hK h1 h2)
  have GPG := Lib.hid (fun B w' gb vs' (h1 : Blk w' gb vs'.toArray 26) (h2 : RowsO B w' vs' G) => turned_gph hR h1 h2)
  have EN := Lib.hid (And.intro en (And.intro eKd (And.intro eKp eKq)))
  have RGs := Lib.hid (And.intro hR hK)
  clear hA en eK eKn eKt eKd eKp eKq hR hK
  go_enter Try.func5, Try.ntmps5
  go_wp2_with fail
  refine AW.out.mono ?_
  rintro e w1 ⟨rfl, hb⟩
  have G1 := Lib.hid (HA.out.below hb)
  clear hb
  go_wp2_with fail
  refine (GR.out w1 G1.out).mono ?_
  rintro e w2 ⟨⟨gb, rfl⟩, hb⟩
  have G2 := Lib.hid (G1.out.below hb)
  clear hb
  cases gb with
  | true =>
    go_wp2_with fail
    go_ret
    exact ⟨rfl, G2.out.b⟩
  | false =>
    go_wp2_with fail
    refine (TN.out w2 G2.out).mono ?_
    rintro e w3 ⟨gb, vst, rfl, hbk, hrw, _, hb⟩
    have G3 := Lib.hid (G2.out.below hb)
    have T3 := Lib.hid (GPT.out _ _ _ _ hbk hrw)
    clear hb hbk hrw
    go_wp2_with fail
    refine (RT.out _ G3.out).mono ?_
    rintro e w4 ⟨rfl, rfl⟩
    go_wp2_with fail
    refine (RT2.out _ _ _ _ T3.out).mono ?_
    rintro e w4 ⟨rfl, rfl⟩
    go_wp2_with fail
    refine (TN2.out _ _ _ _ T3.out).mono ?_
    rintro e w5 ⟨gb5, vst5, rfl, hbk, hrw, _, hb⟩
    have G5 := Lib.hid (G3.out.below hb)
    have T5 := Lib.hid (T3.out.below hb)
    have U5 := Lib.hid (GPG.out _ _ _ _ hbk hrw)
    clear hb hbk hrw
    go_wp2_with fail
    refine (SR.out _ _ _ _ U5.out G5.out).mono ?_
    rintro e w6 ⟨rfl, hb⟩
    have G6 := Lib.hid (G5.out.below hb)
    have T6 := Lib.hid (T5.out.below hb)
    clear hb
    go_wp2_with fail
    refine (LD.out _ _ _ G6.out).mono ?_
    rintro e w7 ⟨rfl, hb⟩
    have G7 := Lib.hid (G6.out.below hb)
    have T7 := Lib.hid (T6.out.below hb)
    clear hb
    go_wp2_with fail
    refine (LD2.out _ _ _ _ _ _ T7.out).mono ?_
    rintro e w8 ⟨rfl, hb⟩
    have G8 := Lib.hid (G7.out.below hb)
    have T8 := Lib.hid (T7.out.below hb)
    clear hb
    rw [EN.out.2.1]
    generalize ldB G a b = r
    have hrr : (r != r) = false := by cases r <;> rfl
    go_wp2_with fail
    refine (PP.out _ G8.out).mono ?_
    rintro e w9 ⟨vp, vsp, rfl, hop, hrp, hb⟩
    obtain ⟨Ap, cp, rfl, hgp⟩ := gph_parts hop hrp (pG_small RGs.out.1).1 (fun i hi => ((pG_small RGs.out.1).2 i hi).2)
    have G9 := Lib.hid (G8.out.below hb)
    have T9 := Lib.hid (T8.out.below hb)
    have P9 := Lib.hid hgp
    clear hb hop hrp hgp
    go_wp2_with fail
    refine (PP2.out _ _ _ _ T9.out).mono ?_
    rintro e w10 ⟨vq, vsq, rfl, hoq, hrq, hb⟩
    obtain ⟨Aq, cq, rfl, hgq⟩ := gph_parts hoq hrq (pG_small RGs.out.2).1 (fun i hi => ((pG_small RGs.out.2).2 i hi).2)
    have G10 := Lib.hid (G9.out.below hb)
    have T10 := Lib.hid (T9.out.below hb)
    have P10 := Lib.hid (P9.out.below hb)
    have Q10 := Lib.hid hgq
    clear hb hoq hrq hgq
    obtain ⟨np, enp⟩ : ∃ np, np = (pG G).length := ⟨_, rfl⟩
    have enq : (pG K).length = np := by rw [EN.out.2.2.1, enp]
    have hnp : np ≤ 64 := by rw [enp]; exact (pG_small RGs.out.1).1
    have ENP := Lib.hid (And.intro enp enq)
    rw [← enp, enq]
    clear enp enq
    go_wp2_with fail
    clear GR RT TN LD PP RT2 TN2 LD2 PP2 SR GPT GPG AW HA G1 G2 G3 G5 G6 G7 G8 G9 T3 T5 T6 T7 T8 T9 U5 P9
    go_loopw [10] (fun jv wr => ∃ j : Nat, j ≤ np ∧ jv = .int .i64 j ∧ GB w wr A vs (G.map nums) ∧ Gph wr (some ⟨gb, 0, none⟩) vst (K.map nums) ∧ Gph wr Ap vsp ((pG G).map nums) ∧ Gph wr Aq vsq ((pG K).map nums)) (fun jv _ => np - (intOf jv).toNat)
    case atStart => exact ⟨0, by omega, rfl, G10.out, T10.out, P10.out, Q10.out⟩
    case round =>
      obtain ⟨j, hj, rfl, g1, g2, g3, g4⟩ := hrel
      by_cases hlt : j < np
      · have hlt2 : (j : Int) < np := by omega
        obtain ⟨k, hk, ek1, ek2, ek3⟩ := EN.out.2.2.2 j (by rw [← ENP.out.1]; exact hlt)
        obtain ⟨b1, o1, B1, d1, b2, o2, eA, eB, hc1, hl1, hc2, hp1, hp2⟩ := part_head RGs.out.1 g3 (j := j) (by rw [← ENP.out.1]; exact hlt)
        obtain ⟨b3, o3, B3, d3, eA3, hb3, hc3, hl3⟩ := g4.at_ (i := k) (by rw [List.length_map]; exact hk)
        rw [getD_map_nums, ek2] at hl3
        have hc3 : wr.cell? ⟨b3, o3 + k, none⟩ = some (.slice B3 ((pG G).getD j []).length d3) := by rw [hc3, getD_map_nums, ek2, nums_len]
        subst eA eB eA3
        have SI := Lib.hid (fun W (eg : Below wr.heap.size wr W) => show Calls Try.prog 18 #[.slice (some ⟨b2, o2, none⟩) ((pG G).getD j []).length d1, .slice B3 ((pG G).getD j []).length d3] W fun x w' => x = .returned (.bool true) ∧ Below W.heap.size W w' from by
          have h := ints_same (some ⟨b2, o2, none⟩) B3 d1 d3 _ _ (by rw [nums_len]; omega) (by rw [nums_len]; omega) W (hl1.below eg) (hl3.below eg)
          rw [nums_len] at h
          exact h.mono fun _ _ ⟨h1, n, h2⟩ => ⟨by simpa using h1, by rw [h2]; exact bdrew (Below.refl _ _)⟩)
        have R1 := Lib.hid (fun W (eg : Below wr.heap.size wr W) => RI.out (((pG G).getD j []).getD 0 0 : Nat) W (g1.below eg))
        have R2 := Lib.hid (fun W (eg : Below wr.heap.size wr W) => RI2.out _ n vst (((pG G).getD j []).getD 0 0 : Nat) W (g2.below eg))
        have PTK := Lib.hid (PT2.out _ n vst (((pG G).getD j []).getD 0 0 : Nat) wr g2)
        rw [ek1] at PTK
        rw [ek3] at R2
        have NX := Lib.hid (And.intro g1 (And.intro g2 (And.intro g3 g4)))
        have hk2 : k < np := by rw [← ENP.out.2]; exact hk
        clear g1 g2 g3 g4 ek1 ek2 ek3 hk hl1 hl3 hb3
        generalize ((pG G).getD j []).getD 0 0 = hd at *
        generalize ((pG G).getD j []).length = x1 at *
        generalize ringB G hd = rr at *
        have hxr : (rr != rr) = false := by cases rr <;> rfl
        go_wp2_with fail
        refine PTK.out.mono ?_
        rintro e w12 ⟨rfl, hb⟩
        have HB := Lib.hid hb
        have BW := Lib.hid (fun (e : Ext w12) => HB.out.trans (e.grown.mono HB.out.size))
        have f1 := fun (e : Ext w12) => Ext.cell (hb.cell (p := ⟨b1, o1 + j, none⟩) (World.block_lt_of_cell? _ _ hc1) |>.trans hc1) e
        have f2 := fun (e : Ext w12) => Ext.cell (hb.cell (p := ⟨b2, o2, none⟩) (World.block_lt_of_cell? _ _ hc2) |>.trans hc2) e
        have f3 := fun (e : Ext w12) => Ext.cell (hb.cell (p := ⟨b3, o3 + k, none⟩) (World.block_lt_of_cell? _ _ hc3) |>.trans hc3) e
        have hk0 : ¬ (k : Int) < 0 := by omega
        have hk3 : ¬ (np : Int) ≤ k := by omega
        clear hb hc1 hc2 hc3
        go_wp2_with fail
        refine wp_region_ext (by kernel_rfl) (by kernel_rfl) ?_
        repeat (first
          | go_big_quiet_step (first | (go_at_call 18; with_reducible exact Calls.ext_of (SI.out _ (BW.out _))) | (go_at_call 15; with_reducible exact Calls.ext_of (R1.out _ (BW.out _))) | (go_at_call 15; with_reducible exact Calls.ext_of (R2.out _ (BW.out _))))
          | quiet_step (first | (go_at_call 18; with_reducible exact Calls.ext_of (SI.out _ (BW.out _))) | (go_at_call 15; with_reducible exact Calls.ext_of (R1.out _ (BW.out _))) | (go_at_call 15; with_reducible exact Calls.ext_of (R2.out _ (BW.out _)))))
        refine wpQuiet_nil ?_
        intro w13 hw'
        obtain ⟨⟨_, hb13⟩, rfl⟩ := hw'
        have H13 := Lib.hid (HB.out.trans (hb13.mono HB.out.size))
        clear hb13 f1 f2 f3
        go_wp2_with fail
        go_roundw
        case rel => exact ⟨j + 1, by omega, by go_num, NX.out.1.below H13.out, NX.out.2.1.below H13.out, NX.out.2.2.1.below H13.out, NX.out.2.2.2.below H13.out⟩
        case measure => simp [intOf]; omega
      · obtain rfl : j = np := by omega
        have hlt2 : ¬ (j : Int) < j := by omega
        have NX := Lib.hid g1
        clear g1 g2 g3 g4
        go_wp2_with fail
        go_ret
        exact ⟨rfl, NX.out.b⟩
end Go.Proofs.Ytefeokfjgmidbaa

/- Whether a rising row has a number: the law's own answer; rows that are told, as they lie. -/
import Derived.Test.YtmfhbajhbbonoaaGreatDoorD7
import Derived.Test.YtmfhbajhbbonoaaGreatDoorU2
import Derived.Deep.CutRange
set_option linter.unusedSimpArgs false
set_option linter.unusedVariables false
namespace Go.Proofs.YtmfhbajhbbonoaaGreatDoor.J
open Go Go.RowKit
theorem lies_num {w : World} {A : Option Addr} {L : List Nat} (h : Lies w A (ints (nums L))) {k : Nat} (hk : k < L.length) : ∃ b o, A = some ⟨b, o, none⟩ ∧ b < w.heap.size ∧ w.cell? ⟨b, o + k, none⟩ = some (.int .i64 (L.getD k 0 : Nat)) := by
  obtain ⟨b, o, e, hb, hc⟩ := lies_cell h (show k < (nums L).length by rw [nums_len]; exact hk)
  exact ⟨b, o, e, hb, by rw [hc, nums_at]⟩
/-- A row that is told, as it lies. -/
def RowL (L : List Nat) (q : Nat) (w : World) (e : Ending) (w' : World) : Prop := (∃ A c, e = .returned (.slice A q c) ∧ Lies w' A (ints (nums L))) ∧ Below w.heap.size w w'
theorem rowL_of {L : List Nat} {q : Nat} (hq : q = L.length) {w : World} {e : Ending} {w' : World} (h : Row w L e w') : RowL L q w e w' := by
  obtain ⟨⟨v, rfl, ho, _⟩, hb⟩ := h
  obtain ⟨A, c, rfl, _, _⟩ := own_slice ho
  subst hq
  have e1 : (ints (nums L)).length = L.length := by rw [ints_length, nums_len]
  refine ⟨⟨A, c, rfl, ?_⟩, hb⟩
  have ho' : w'.ownsRow w.heap.size 3 1 (.slice A (ints (nums L)).length c) (ints (nums L)).length (ints (nums L)) := by rw [e1]; exact ho
  exact own_lies ho'
theorem take_mem {L : List Nat} {k y : Nat} (hk : k < L.length) : y ∈ L.take (k + 1) ↔ y ∈ L.take k ∨ L.getD k 0 = y := by
  rw [List.take_add_one, List.getElem?_eq_getElem hk, Option.toList_some, List.mem_append, List.mem_singleton, show L.getD k 0 = L[k] by simp [List.getD, List.getElem?_eq_getElem hk]]
  exact or_congr Iff.rfl eq_comm
set_option maxRecDepth 100000 in
set_option maxHeartbeats 2000000 in
theorem has_any (A : Option Addr) (c q : Nat) (L : List Nat) (hq : q = L.length) (hq2 : q ≤ 32) (y : Nat) (w : World) (h : Lies w A (ints (nums L))) :
    Calls Tryz.prog 32 #[.slice A q c, .int .i64 y] w fun e w' => e = .returned (.bool (decide (y ∈ L))) ∧ Below w.heap.size w w' := by
  have H := Lib.hid h
  have HQ := Lib.hid hq
  clear h hq
  go_enter Tryz.func32, Tryz.ntmps32
  go_wp2_with fail
  go_loopw [5, 6] (fun t i wr => ∃ k : Nat, k ≤ q ∧ i = .int .i64 k ∧ t = .bool (decide (y ∈ L.take k)) ∧ Below w.heap.size w wr) (fun _ i _ => q - (intOf i).toNat)
  case atStart => exact ⟨0, by omega, by go_num, by simp, Below.refl _ _⟩
  case round =>
    obtain ⟨k, hk, rfl, rfl, hb⟩ := hrel
    have HB := Lib.hid hb
    by_cases hlt : k < q
    · have hlt2 : (k : Int) < q := by omega
      have hkl : k < L.length := by have := HQ.out; omega
      obtain ⟨b1, o1, rfl, hb1, c1⟩ := lies_num (H.out.below hb) hkl
      have TM := Lib.hid (@take_mem L k y hkl)
      clear hb
      by_cases hm : y ∈ L.take k
      · have e1 : decide (y ∈ L.take k) = true := by simpa using hm
        have E2 := Lib.hid (show decide (y ∈ L.take (k + 1)) = true by simpa using TM.out.2 (.inl hm))
        rw [e1]
        clear e1 hm
        go_wp2_with fail
        go_roundw
        case rel => exact ⟨k + 1, by omega, by go_num, by rw [E2.out], HB.out⟩
        case measure => simp [intOf]; omega
      · have e1 : decide (y ∈ L.take k) = false := by simpa using hm
        rw [e1]
        generalize L.getD k 0 = z at c1 TM
        by_cases hz : z = y
        · have ez : ((z : Int) == (y : Int)) = true := by simp; omega
          have E2 := Lib.hid (show decide (y ∈ L.take (k + 1)) = true by simpa using TM.out.2 (.inr hz))
          clear e1 hm
          go_wp2_with fail
          go_roundw
          case rel => exact ⟨k + 1, by omega, by go_num, by rw [E2.out], HB.out⟩
          case measure => simp [intOf]; omega
        · have ez : ((z : Int) == (y : Int)) = false := by simp; omega
          have E2 := Lib.hid (show decide (y ∈ L.take (k + 1)) = false by
            simp only [decide_eq_false_iff_not]
            intro h
            rcases TM.out.1 h with h | h
            · exact hm h
            · exact hz h)
          clear e1 hm
          go_wp2_with fail
          go_roundw
          case rel => exact ⟨k + 1, by omega, by go_num, by rw [E2.out], HB.out⟩
          case measure => simp [intOf]; omega
    · obtain rfl : k = q := by omega
      have E2 := Lib.hid (show decide (y ∈ L.take k) = decide (y ∈ L) by rw [HQ.out, List.take_length])
      have hneg : ¬ (k : Int) < k := by omega
      clear hb
      rw [E2.out]
      obtain ⟨d, ed⟩ : ∃ d, d = decide (y ∈ L) := ⟨_, rfl⟩
      rw [← ed]
      have DD := Lib.hid ed
      clear ed
      go_wp2_with fail
      go_ret
      exact ⟨by rw [← DD.out]; rfl, HB.out⟩
end Go.Proofs.YtmfhbajhbbonoaaGreatDoor.J
namespace Go.Proofs.YtmfhbajhbbonoaaGreatDoor.J
open Go Go.RowKit
theorem Ext.gcell {w : World} {b o : Nat} {v : Value} (h : w.cell? ⟨b, o, none⟩ = some v) (e : Ext w) : e.val.cell? ⟨b, o, none⟩ = some v := Ext.cell h e
noncomputable def inB (g : Gr) (x y : Nat) (l : List Nat) : Bool := by classical exact decide (y = x ∨ ∃ c ∈ l, Reach (cal g) c y)
theorem inB_iff {g : Gr} {x y : Nat} {l : List Nat} : inB g x y l = true ↔ (y = x ∨ ∃ c ∈ l, Reach (cal g) c y) := by unfold inB; simp
theorem inB_next {g : Gr} {x y : Nat} {l : List Nat} {k : Nat} (hk : k < l.length) (h : inB g x y (l.take k) = false) : inB g x y (l.take (k + 1)) = reachB g (l.getD k 0) y := by
  rw [Bool.eq_iff_iff, inB_iff, reachB_iff]
  have hn : ¬ (y = x ∨ ∃ c ∈ l.take k, Reach (cal g) c y) := fun h2 => by rw [inB_iff.2 h2] at h; cases h
  constructor
  · rintro (h1 | ⟨c, hc, hr⟩)
    · exact absurd (.inl h1) hn
    · rcases (take_mem hk).1 hc with h2 | h2
      · exact absurd (.inr ⟨c, h2, hr⟩) hn
      · rw [h2]; exact hr
  · intro hr
    exact .inr ⟨_, (take_mem hk).2 (.inr rfl), hr⟩
theorem inB_more {g : Gr} {x y : Nat} {l : List Nat} {k : Nat} (hk : k < l.length) (h : inB g x y (l.take k) = true) : inB g x y (l.take (k + 1)) = true := by
  rw [inB_iff] at h ⊢
  rcases h with h | ⟨c, hc, hr⟩
  · exact .inl h
  · exact .inr ⟨c, (take_mem hk).2 (.inl hc), hr⟩
set_option maxRecDepth 100000 in
set_option maxHeartbeats 8000000 in
theorem reach_law (g : Gr) (a b : Int) (ha : -9223372036854775808 ≤ a ∧ a < 9223372036854775808) (hb : -9223372036854775808 ≤ b ∧ b < 9223372036854775808) (w : World) (hg : Gr.At w g) (hin : Gr.In g) (hcap : g.nodes.length ≤ g.nc) (hT : Tab w) :
    Calls Tryz.prog 8 #[g.val, .int .i64 a, .int .i64 b] w fun e w' => e = .returned (.bool true) ∧ Below w.heap.size w w' := by
  obtain ⟨W1, eW1⟩ : ∃ u, u = w.alloc (.cells #[.slice g.RA g.rules.length g.rc, .slice g.NA g.nodes.length g.nc] 25) := ⟨_, rfl⟩
  have hb1 : Below w.heap.size w W1 := by rw [eW1]; exact B1 _ _
  have kg : Blk W1 w.heap.size #[.slice g.RA g.rules.length g.rc, .slice g.NA g.nodes.length g.nc] 25 := by rw [eW1]; exact Blk.new _ _ _
  have AW := Lib.hid (awake_any W1 (hT.below hb1))
  have HG := Lib.hid hg
  have HIN := Lib.hid hin
  have HC := Lib.hid hcap
  have KG := Lib.hid kg
  have HB1 := Lib.hid hb1
  have hrl := hg.rl
  clear hg hin hcap kg hb1 hT
  show Calls Tryz.prog 8 #[.agg #[.slice g.RA g.rules.length g.rc, .slice g.NA g.nodes.length g.nc], .int .i64 a, .int .i64 b] w _
  go_enter Tryz.func8, Tryz.ntmps8
  go_upto_region 1 with fail
  rw [← eW1]
  clear eW1
  go_upto_region 3 with (go_at_call 20; (with_reducible refine AW.out.mono ?_); rintro e w2 ⟨rfl, hb⟩; have B2' := Lib.hid (HB1.out.trans (hb.mono HB1.out.size)); have K2 := Lib.hid (KG.out.below' hb); clear hb)
  have SZ := Lib.hid (show Calls Tryz.prog 22 #[.agg #[.slice g.RA g.rules.length g.rc, .slice g.NA g.nodes.length g.nc]] w2 (fun e w' => (∃ z : Int, e = .returned (.int .i64 z)) ∧ Below w2.heap.size w2 w') from size_any g w2 (HG.out.below B2'.out))
  have c0 := K2.out.cell 0
  have c1 := K2.out.cell 1
  simp only [List.getElem?_toArray, List.getElem?_cons_zero, List.getElem?_cons_succ] at c0 c1
  go_upto_region 5 with (go_at_call 22; (with_reducible refine SZ.out.mono ?_); rintro e w3 ⟨⟨z, rfl⟩, hb⟩; have B3 := Lib.hid (B2'.out.trans (hb.mono B2'.out.size)); have K3 := Lib.hid (K2.out.below' hb); clear hb)
  · go_ret
    exact ⟨rfl, B3.out⟩
  · clear c0 c1
    have RA := Lib.hid (show Calls Tryz.prog 13 #[.agg #[.slice g.RA g.rules.length g.rc, .slice g.NA g.nodes.length g.nc]] w3 (fun e w' => e = .returned (.bool (rightB g)) ∧ Below w3.heap.size w3 w') from right_all g w3 (HG.out.below B3.out) HIN.out)
    have c0 := K3.out.cell 0
    have c1 := K3.out.cell 1
    simp only [List.getElem?_toArray, List.getElem?_cons_zero, List.getElem?_cons_succ] at c0 c1
    have CL := Lib.hid (fun (r : Int) (hr : -9223372036854775808 ≤ r ∧ r < 9223372036854775808) W (bl : Below w.heap.size w W) => (show Calls Tryz.prog 29 #[.agg #[.slice g.RA g.rules.length g.rc, .slice g.NA g.nodes.length g.nc], .int .i64 r] W (Row W (callersOf g r)) from callers_any g r hr W (HG.out.below bl) HIN.out HC.out))
    have CD := Lib.hid (fun (r : Int) (hr : -9223372036854775808 ≤ r ∧ r < 9223372036854775808) W (bl : Below w.heap.size w W) => (show Calls Tryz.prog 30 #[.agg #[.slice g.RA g.rules.length g.rc, .slice g.NA g.nodes.length g.nc], .int .i64 r] W (Row W (calledOf g r)) from called_any g r hr W (HG.out.below bl) HIN.out HC.out))
    have RE := Lib.hid (fun (r : Int) (hr : -9223372036854775808 ≤ r ∧ r < 9223372036854775808) W (bl : Below w.heap.size w W) => (show Calls Tryz.prog 31 #[.agg #[.slice g.RA g.rules.length g.rc, .slice g.NA g.nodes.length g.nc], .int .i64 r] W (Row W (reachedOf g r)) from reached_all g r hr W (HG.out.below bl) HIN.out HC.out))
    have AK := Lib.hid (fun r => @askB_iff g r)
    cases hr : rightB g with
    | false =>
      rw [hr] at RA
      have hno : ∀ r, askB g r = false := fun r => by
        cases h : askB g r with
        | false => rfl
        | true => have := ((AK.out _).1 h).2.2; rw [← rightB_true, hr] at this; cases this
      have L1 : callersOf g a = [] ∧ calledOf g a = [] ∧ reachedOf g a = [] := by unfold callersOf calledOf reachedOf; rw [hno]; exact ⟨rfl, rfl, rfl⟩
      have HL1 := Lib.hid L1
      clear L1 hno hr
      go_upto_region 6 with (go_at_call 13; (with_reducible refine RA.out.mono ?_); rintro e w4 ⟨rfl, hb⟩; have B4 := Lib.hid (B3.out.trans (hb.mono B3.out.size)); have K4 := Lib.hid (K3.out.below' hb); clear hb)
      have F1 : RowKit.Hid (∀ e : Ext w4, Calls Tryz.prog 29 #[.agg #[.slice g.RA g.rules.length g.rc, .slice g.NA g.nodes.length g.nc], .int .i64 a] e.val fun x w' => x = .returned (.slice none 0 0) ∧ Below e.val.heap.size e.val w') := Lib.hid (fun e => (CL.out a ha e.val (B4.out.trans (e.grown.mono B4.out.size))).mono fun x w' h => row0_of (by rw [HL1.out.1] at h; exact h))
      have F2 : RowKit.Hid (∀ e : Ext w4, Calls Tryz.prog 30 #[.agg #[.slice g.RA g.rules.length g.rc, .slice g.NA g.nodes.length g.nc], .int .i64 a] e.val fun x w' => x = .returned (.slice none 0 0) ∧ Below e.val.heap.size e.val w') := Lib.hid (fun e => (CD.out a ha e.val (B4.out.trans (e.grown.mono B4.out.size))).mono fun x w' h => row0_of (by rw [HL1.out.2.1] at h; exact h))
      have F3 : RowKit.Hid (∀ e : Ext w4, Calls Tryz.prog 31 #[.agg #[.slice g.RA g.rules.length g.rc, .slice g.NA g.nodes.length g.nc], .int .i64 a] e.val fun x w' => x = .returned (.slice none 0 0) ∧ Below e.val.heap.size e.val w') := Lib.hid (fun e => (RE.out a ha e.val (B4.out.trans (e.grown.mono B4.out.size))).mono fun x w' h => row0_of (by rw [HL1.out.2.2] at h; exact h))
      clear c0 c1
      have d0 : ∀ e : Ext w4, e.val.cell? ⟨w.heap.size, 0, none⟩ = some (.slice g.RA g.rules.length g.rc) := fun e => Ext.cell (w := w4) (K4.out.cell 0) e
      have d1 : ∀ e : Ext w4, e.val.cell? ⟨w.heap.size, 1, none⟩ = some (.slice g.NA g.nodes.length g.nc) := fun e => Ext.cell (w := w4) (K4.out.cell 1) e
      refine wp_region_ext (by kernel_rfl) (by kernel_rfl) ?_
      repeat (first | go_big_quiet_step (first | (go_at_call 29; with_reducible exact Calls.ext_of (F1.out _)) | (go_at_call 30; with_reducible exact Calls.ext_of (F2.out _)) | (go_at_call 31; with_reducible exact Calls.ext_of (F3.out _))) | quiet_step (first | (go_at_call 29; with_reducible exact Calls.ext_of (F1.out _)) | (go_at_call 30; with_reducible exact Calls.ext_of (F2.out _)) | (go_at_call 31; with_reducible exact Calls.ext_of (F3.out _))))
      refine wpQuiet_nil ?_
      intro wd hw'
      obtain ⟨⟨wd', hb9⟩, e9⟩ := hw'
      obtain rfl : wd = wd' := e9
      have B9 := Lib.hid hb9
      clear hb9 d0 d1
      go_wp2_with fail
      go_ret
      exact ⟨rfl, B4.out.trans (B9.out.mono B4.out.size)⟩
    | true =>
      rw [hr] at RA
      have hR := rightB_true.1 hr
      have hl := hR.lain
      have h32 := hl.n32
      obtain ⟨n, en⟩ : ∃ n, n = g.rules.length := ⟨_, rfl⟩
      obtain ⟨x, ex⟩ : ∃ x : Nat, (x : Int) = a % n := ⟨(a % n).toNat, by have := Int.emod_nonneg a (show (n : Int) ≠ 0 by omega); omega⟩
      obtain ⟨y, ey⟩ : ∃ y : Nat, (y : Int) = b % n := ⟨(b % n).toNat, by have := Int.emod_nonneg b (show (n : Int) ≠ 0 by omega); omega⟩
      have hx : x < n := by have := Int.emod_lt_of_pos a (show (0 : Int) < n by omega); omega
      have hy : y < n := by have := Int.emod_lt_of_pos b (show (0 : Int) < n by omega); omega
      have LN := Lib.hid (And.intro hR hl)
      have EN := Lib.hid en
      have PI := Lib.hid (fun (v : Int) (hv : -9223372036854775808 ≤ v ∧ v < 9223372036854775808) (W : World) => pick_any v n hv (by omega) W)
      have EX := Lib.hid ex
      have EY := Lib.hid ey
      clear hr hR hl en
      go_upto_region 7 with (go_at_call 13; (with_reducible refine RA.out.mono ?_); rintro e w4 ⟨rfl, hb⟩; have B4 := Lib.hid (B3.out.trans (hb.mono B3.out.size)); have K4 := Lib.hid (K3.out.below' hb); clear hb)
      have P1 : RowKit.Hid (∀ e : Ext w4, Calls Tryz.prog 24 #[.int .i64 a, .int .i64 n] e.val fun q w' => q = .returned (.int .i64 x) ∧ Below e.val.heap.size e.val w') := Lib.hid (fun e => (PI.out a ha e.val).mono fun q w' h => ⟨by rw [EX.out]; exact h.1, by rw [← h.2]; exact Below.refl _ _⟩)
      have P2 : RowKit.Hid (∀ e : Ext w4, Calls Tryz.prog 24 #[.int .i64 b, .int .i64 n] e.val fun q w' => q = .returned (.int .i64 y) ∧ Below e.val.heap.size e.val w') := Lib.hid (fun e => (PI.out b hb e.val).mono fun q w' h => ⟨by rw [EY.out]; exact h.1, by rw [← h.2]; exact Below.refl _ _⟩)
      clear c0 c1 ex ey
      have d0 : ∀ e : Ext w4, e.val.cell? ⟨w.heap.size, 0, none⟩ = some (.slice g.RA n g.rc) := fun e => by rw [EN.out]; exact Ext.cell (w := w4) (K4.out.cell 0) e
      refine wp_region_ext (by kernel_rfl) (by kernel_rfl) ?_
      repeat (first | go_big_quiet_step (first | (go_at_call 24; with_reducible exact Calls.ext_of (P1.out _)) | (go_at_call 24; with_reducible exact Calls.ext_of (P2.out _))) | quiet_step (first | (go_at_call 24; with_reducible exact Calls.ext_of (P1.out _)) | (go_at_call 24; with_reducible exact Calls.ext_of (P2.out _))))
      refine wpQuiet_nil ?_
      intro wd hw'
      obtain ⟨⟨wd', hb9⟩, e9⟩ := hw'
      obtain rfl : wd = wd' := e9
      have B5 := Lib.hid (B4.out.trans (hb9.mono B4.out.size))
      have K5 := Lib.hid (K4.out.below' hb9)
      clear hb9 d0 P1 P2
      obtain ⟨hR, hl⟩ := LN.out
      have ask : ∀ r : Nat, r < n → askB g r = true := fun r hr => (AK.out _).2 ⟨by omega, by rw [← EN.out]; omega, hR⟩
      have hcal : ∀ a b : Nat, b ∈ cal g a → b < n := fun a b h => by rw [EN.out]; exact hl.cal h
      have FC : ∀ c, c ∈ calledOf g x ↔ c ∈ cal g x := fun c => by
        unfold calledOf; rw [ask x hx, if_pos rfl, rowOf_mem, ← EN.out, Int.toNat_natCast]; unfold doesB
        exact ⟨fun h => by simpa using h.2, fun h => ⟨hcal _ _ h, by simpa using h⟩⟩
      have FL : x ∈ callersOf g y ↔ y ∈ cal g x := by
        unfold callersOf; rw [ask y hy, if_pos rfl, rowOf_mem, ← EN.out, Int.toNat_natCast]; unfold doesB
        exact ⟨fun h => by simpa using h.2, fun h => ⟨hx, by simpa using h⟩⟩
      have FR : ∀ c, c < n → ∀ r, r ∈ reachedOf g c ↔ Reach (cal g) c r := fun c hc r => by
        unfold reachedOf; rw [ask c hc, if_pos rfl, rowOf_mem, ← EN.out, Int.toNat_natCast, reachB_iff]
        exact ⟨fun h => h.2, fun h => ⟨Reach.lt hcal hc h, h⟩⟩
      have hn32 : n ≤ 32 := by rw [EN.out]; omega
      have ln : ∀ c, c < n → (calledOf g c).length ≤ 32 ∧ (reachedOf g c).length ≤ 32 ∧ (callersOf g c).length ≤ 32 := fun c hc => by
        unfold calledOf reachedOf callersOf; rw [ask c hc, if_pos rfl, if_pos rfl, if_pos rfl, ← EN.out]
        exact ⟨Nat.le_trans (rowOf_len _ _) hn32, Nat.le_trans (rowOf_len _ _) hn32, Nat.le_trans (rowOf_len _ _) hn32⟩
      have RISE : RowKit.Hid (∀ i, 1 ≤ i → i < (reachedOf g x).length → (reachedOf g x).getD (i - 1) 0 < (reachedOf g x).getD i 0) := Lib.hid (by
        unfold reachedOf; rw [ask x hx, if_pos rfl]; exact fun i h1 h2 => rowOf_next h1 h2)
      have hb64 : ∀ c : Nat, c < n → -9223372036854775808 ≤ (c : Int) ∧ (c : Int) < 9223372036854775808 := fun c hc => by omega
      have CDx := Lib.hid (fun q (hq : q = (calledOf g x).length) W (bl : Below w.heap.size w W) => (CD.out x (hb64 x hx) W bl).mono fun e w' h => rowL_of hq h)
      have REx := Lib.hid (fun c (hc : c < n) q (hq : q = (reachedOf g c).length) W (bl : Below w.heap.size w W) => (RE.out c (hb64 c hc) W bl).mono fun e w' h => rowL_of hq h)
      have CLy := Lib.hid (fun q (hq : q = (callersOf g y).length) W (bl : Below w.heap.size w W) => (CL.out y (hb64 y hy) W bl).mono fun e w' h => rowL_of hq h)
      have HFC := Lib.hid FC
      have HCN := Lib.hid (fun c (h : c ∈ calledOf g x) => hcal x c ((FC c).1 h))
      have HFL := Lib.hid FL
      have HFR := Lib.hid FR
      have HLN := Lib.hid ln
      clear hR hl ask hcal FC FL FR ln hb64 CL CD RE RA LN AK PI
      obtain ⟨q9, eq9⟩ : ∃ q, q = (calledOf g x).length := ⟨_, rfl⟩
      obtain ⟨q10, eq10⟩ : ∃ q, q = (reachedOf g x).length := ⟨_, rfl⟩
      have Q9 := Lib.hid eq9
      have Q10 := Lib.hid eq10
      have h9 : q9 ≤ 32 := by rw [eq9]; exact (HLN.out x hx).1
      have h10 : q10 ≤ 32 := by rw [eq10]; exact (HLN.out x hx).2.1
      have CD9 := Lib.hid (fun W bl => CDx.out q9 eq9 W bl)
      have RE10 := Lib.hid (fun W bl => REx.out x hx q10 eq10 W bl)
      clear eq9 eq10
      have e0 := K5.out.cell 0
      have e1 := K5.out.cell 1
      simp only [List.getElem?_toArray, List.getElem?_cons_zero, List.getElem?_cons_succ] at e0 e1
      go_upto_region 8 with fail
      go_region_with (first | (go_at_call 30; (refine (CD9.out _ (by first | exact B5.out | exact bdrew1 B5.out | exact bdrew1 (bdrew1 B5.out) | exact bdrew1 (bdrew1 (bdrew1 B5.out)))).mono ?_); rintro e w6 ⟨⟨A9, c9, rfl, hL⟩, hbb⟩; have L9 := Lib.hid hL; have B6 := Lib.hid hbb; have K6 := Lib.hid (Blk.below' (b := w.heap.size) (vs := #[.slice g.RA g.rules.length g.rc, .slice g.NA g.nodes.length g.nc]) (T := 25) (h := by exact K5.out) hbb); have f0 := K6.out.cell 0; have f1 := K6.out.cell 1; simp only [List.getElem?_toArray, List.getElem?_cons_zero, List.getElem?_cons_succ] at f0 f1; have BW6 := Lib.hid (show Below w.heap.size w w6 from by first | exact B5.out.trans (hbb.mono B5.out.size) | exact (bdrew1 B5.out).trans (hbb.mono B5.out.size) | exact (bdrew1 (bdrew1 B5.out)).trans (hbb.mono B5.out.size) | exact (bdrew1 (bdrew1 (bdrew1 B5.out))).trans (hbb.mono B5.out.size)); clear hL hbb) | (go_at_call 31; (refine (RE10.out _ (by first | exact BW6.out | exact bdrew1 BW6.out | exact bdrew1 (bdrew1 BW6.out) | exact bdrew1 (bdrew1 (bdrew1 BW6.out)))).mono ?_); rintro e w7 ⟨⟨A10, c10, rfl, hL⟩, hbb⟩; have L10 := Lib.hid hL; have B7 := Lib.hid hbb; clear hL hbb))
      all_goals (
        have S7 : Below w6.heap.size w6 w7 := by first | exact B7.out | exact bund B7.out | exact bund (bund B7.out) | exact bund (bund (bund B7.out))
        have BW7 := Lib.hid (BW6.out.trans (S7.mono BW6.out.size))
        have K7 := Lib.hid (K6.out.below' S7)
        have L9' := Lib.hid (L9.out.below S7)
        have L10' := Lib.hid L10.out
        clear S7 B7 B6 L9 e0 e1 f0 f1 K6 L10
        obtain ⟨q11, eq11⟩ : ∃ q, q = (callersOf g y).length := ⟨_, rfl⟩
        have h11 : q11 ≤ 32 := by rw [eq11]; exact (HLN.out y hy).2.2
        have CY := Lib.hid (fun W bl => CLy.out q11 eq11 W bl)
        have Q11 := Lib.hid eq11
        obtain ⟨d, ed⟩ : ∃ d, d = decide (y ∈ calledOf g x) := ⟨_, rfl⟩
        have D1 := Lib.hid ed
        have D2 := Lib.hid (show decide (x ∈ callersOf g y) = d by rw [ed]; exact decide_eq_decide.2 ((HFL.out).trans (HFC.out y).symm))
        have D3 := Lib.hid (show decide (x ∈ reachedOf g x) = true by simpa using (HFR.out x hx x).2 .base)
        clear eq11 ed
        have g0 := K7.out.cell 0
        have g1 := K7.out.cell 1
        simp only [List.getElem?_toArray, List.getElem?_cons_zero, List.getElem?_cons_succ] at g0 g1
        go_upto_region 11 with (first | (go_at_call 29; (with_reducible refine (CY.out _ BW7.out).mono ?_); rintro e w8 ⟨⟨A11, c11, rfl, hL⟩, hbb⟩; have L11 := Lib.hid hL; have BW8 := Lib.hid (BW7.out.trans (hbb.mono BW7.out.size)); have L9a := Lib.hid (L9'.out.below hbb); have L10a := Lib.hid (L10'.out.below hbb); have K8 := Lib.hid (K7.out.below' hbb); clear hL hbb) | (go_at_call 32; (with_reducible refine (has_any A11 c11 q11 (callersOf g y) Q11.out h11 x _ L11.out).mono ?_); rw [D2.out]; rintro e w9 ⟨rfl, hbb⟩; have BW9 := Lib.hid (BW8.out.trans (hbb.mono BW8.out.size)); have L9b := Lib.hid (L9a.out.below hbb); have L10b := Lib.hid (L10a.out.below hbb); have K9 := Lib.hid (K8.out.below' hbb); clear hbb L11) | (go_at_call 32; (with_reducible refine (has_any A9 c9 q9 (calledOf g x) Q9.out h9 y _ L9b.out).mono ?_); rw [← D1.out]; rintro e w10 ⟨rfl, hbb⟩; have BW10 := Lib.hid (BW9.out.trans (hbb.mono BW9.out.size)); have L9c := Lib.hid (L9b.out.below hbb); have L10c := Lib.hid (L10b.out.below hbb); have K10 := Lib.hid (K9.out.below' hbb); clear hbb) | (go_at_call 32; (with_reducible refine (has_any A10 c10 q10 (reachedOf g x) Q10.out h10 x _ L10c.out).mono ?_); rw [D3.out]; rintro e w11 ⟨rfl, hbb⟩; have BW11 := Lib.hid (BW10.out.trans (hbb.mono BW10.out.size)); have L9d := Lib.hid (L9c.out.below hbb); have L10d := Lib.hid (L10c.out.below hbb); have K11 := Lib.hid (K10.out.below' hbb); clear hbb))
        clear g0 g1
        have V0 := Lib.hid (show ((y : Int) == (x : Int)) = inB g x y ((calledOf g x).take 0) by rw [Bool.eq_iff_iff, inB_iff]; simp; omega)
        go_wp2_with fail
        rw [V0.out]
        clear V0
        go_loopw [11, 12] (fun t i wr => ∃ k : Nat, k ≤ q9 ∧ i = .int .i64 k ∧ t = .bool (inB g x y ((calledOf g x).take k)) ∧ Below w11.heap.size w11 wr) (fun _ i _ => q9 - (intOf i).toNat)
        case atStart => exact ⟨0, by omega, by go_num, rfl, Below.refl _ _⟩
        case round =>
          obtain ⟨k, hk, rfl, rfl, hb⟩ := hrel
          have HB := Lib.hid hb
          by_cases hlt : k < q9
          · have hlt2 : (k : Int) < q9 := by omega
            have hkl : k < (calledOf g x).length := by have := Q9.out; omega
            obtain ⟨b1, o1, e1, hb1, k1⟩ := lies_num (L9d.out.below hb) hkl
            subst e1
            cases hT : inB g x y ((calledOf g x).take k) with
            | true =>
              have E2 := Lib.hid (inB_more hkl hT)
              clear hb hT hkl
              go_wp2_with fail
              go_quiet (fail)
              go_wp2_with fail
              go_roundw
              case rel => exact ⟨k + 1, by omega, by go_num, by rw [E2.out], bdrewN HB.out⟩
              case measure => simp [intOf]; omega
            | false =>
              have E2 := Lib.hid (inB_next hkl hT)
              have hcn : (calledOf g x).getD k 0 < n := HCN.out _ (by rw [show (calledOf g x).getD k 0 = (calledOf g x)[k] by simp [List.getD, List.getElem?_eq_getElem hkl]]; exact List.getElem_mem hkl)
              generalize hcc : (calledOf g x).getD k 0 = c at E2 hcn k1
              clear hcc
              obtain ⟨q12, eq12⟩ : ∃ q, q = (reachedOf g c).length := ⟨_, rfl⟩
              have h12 : q12 ≤ 32 := by rw [eq12]; exact (HLN.out c hcn).2.1
              have RC := Lib.hid (fun W bl => REx.out c hcn q12 eq12 W bl)
              have Q12 := Lib.hid eq12
              have KW := Lib.hid (K11.out.below' hb)
              have BWW := Lib.hid (BW11.out.trans (hb.mono BW11.out.size))
              have D4 := Lib.hid (show decide (y ∈ reachedOf g c) = reachB g c y by rw [Bool.eq_iff_iff, reachB_iff]; simpa using HFR.out c hcn y)
              have g0 := KW.out.cell 0
              have g1 := KW.out.cell 1
              simp only [List.getElem?_toArray, List.getElem?_cons_zero, List.getElem?_cons_succ] at g0 g1
              clear hb hT hkl eq12
              go_wp2_with fail
              go_region_with (first | (go_at_call 31; (with_reducible refine (RC.out _ (by first | exact BWW.out | exact bdrew1 BWW.out | exact bdrew1 (bdrew1 BWW.out) | exact bdrew1 (bdrew1 (bdrew1 BWW.out)))).mono ?_); rintro e w12 ⟨⟨A12, c12, rfl, hL⟩, hbb⟩; have L12 := Lib.hid hL; have BX := Lib.hid (show Below w11.heap.size w11 w12 from by first | exact HB.out.trans (hbb.mono HB.out.size) | exact (bdrew1 HB.out).trans (hbb.mono HB.out.size) | exact (bdrew1 (bdrew1 HB.out)).trans (hbb.mono HB.out.size) | exact (bdrew1 (bdrew1 (bdrew1 HB.out))).trans (hbb.mono HB.out.size)); clear hL hbb) | (go_at_call 32; (with_reducible refine (has_any A12 c12 q12 (reachedOf g c) Q12.out h12 y _ L12.out).mono ?_); rw [D4.out]; rintro e w13 ⟨rfl, hbb⟩; have BY := Lib.hid (BX.out.trans (hbb.mono BX.out.size)); clear hbb))
              all_goals (
                have BZ : Below w11.heap.size w11 w13 := BY.out
                clear RC KW BWW D4 g0 g1
                go_wp2_with fail
                go_roundw
                case rel => (repeat apply Exists.intro); exact ⟨⟨k + 1, by omega, by go_num, by rw [E2.out], (by first | exact BZ | exact bdrew1 BZ | exact bdrew1 (bdrew1 BZ) | exact bdrew1 (bdrew1 (bdrew1 BZ)))⟩, rfl⟩
                case measure => simp [intOf]; omega)
          · obtain rfl : k = q9 := by omega
            have hneg : ¬ (k : Int) < k := by omega
            obtain ⟨dd, edd⟩ : ∃ dd, dd = decide (y ∈ reachedOf g x) := ⟨_, rfl⟩
            have DD := Lib.hid edd
            have IN : inB g x y ((calledOf g x).take k) = dd := by
              rw [edd, show (calledOf g x).take k = calledOf g x by rw [Q9.out, List.take_length], Bool.eq_iff_iff, inB_iff, decide_eq_true_iff, HFR.out x hx y, reach_iff]
              constructor
              · rintro (h | ⟨c, hc, hr⟩)
                · exact .inl h
                · exact .inr ⟨c, (HFC.out c).1 hc, hr⟩
              · rintro (h | ⟨c, hc, hr⟩)
                · exact .inl h
                · exact .inr ⟨c, (HFC.out c).2 hc, hr⟩
            rw [IN]
            clear IN edd hb
            go_wp2_with fail
            go_loopw [13] (fun i wr2 => ∃ j : Nat, (j + 1 ≤ q10 ∨ j = 0) ∧ i = .int .i64 ((j + 1 : Nat) : Int) ∧ Below w11.heap.size w11 wr2) (fun i _ => q10 + 1 - (intOf i).toNat)
            case atStart => exact ⟨0, by omega, by go_num, HB.out⟩
            case round =>
              obtain ⟨j, h2, rfl, hb2⟩ := hrel
              have HB2 := Lib.hid hb2
              by_cases hlt2 : j + 1 < q10
              · have hlt3 : ((j + 1 : Nat) : Int) < q10 := by omega
                have hj : ((j + 1 : Nat) : Int) - 1 = (j : Int) := by omega
                obtain ⟨b2, o2, e2, hb3, m1⟩ := lies_num (L10d.out.below hb2) (k := j + 1) (by have := Q10.out; omega)
                obtain ⟨b3, o3, e3, hb4, m0⟩ := lies_num (L10d.out.below hb2) (k := j) (by have := Q10.out; omega)
                rw [e2] at e3
                obtain ⟨rfl, rfl⟩ : b2 = b3 ∧ o2 = o3 := by simpa using e3
                subst e2
                have R := RISE.out (j + 1) (by omega) (by have := Q10.out; omega)
                rw [Nat.add_sub_cancel] at R
                generalize (reachedOf g x).getD (j + 1) 0 = u at m1 R
                generalize (reachedOf g x).getD j 0 = v at m0 R
                have neg : ¬ (u : Int) ≤ v := by omega
                clear hb2 e3
                go_wp2_with fail
                go_quiet (fail)
                go_wp2_with fail
                go_roundw
                case rel => exact ⟨j + 1, by omega, by go_num, bdrewN HB2.out⟩
                case measure => simp [intOf]; omega
              · have hlt3 : ¬ ((j + 1 : Nat) : Int) < q10 := by omega
                clear hb2
                go_wp2_with (go_at_call 32; (with_reducible refine (has_any A10 c10 q10 (reachedOf g x) Q10.out h10 y _ (L10d.out.below HB2.out)).mono ?_); rw [← DD.out]; rintro e w14 ⟨rfl, hbb⟩; have BZ := Lib.hid (BW11.out.trans ((HB2.out.trans (hbb.mono HB2.out.size)).mono BW11.out.size)); clear hbb)
                go_ret
                exact ⟨by simp, BZ.out⟩)
end Go.Proofs.YtmfhbajhbbonoaaGreatDoor.J

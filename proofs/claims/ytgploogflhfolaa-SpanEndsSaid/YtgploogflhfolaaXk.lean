/- The contract of Nested. -/
import Derived.Test.YtgploogflhfolaaMn
import Derived.Test.YtgploogflhfolaaXg
import Derived.Test.YtgploogflhfolaaKb
import Derived.Deep.QuietTactic
import Derived.BigQuiet
namespace Go.Proofs.Ytgploogflhfolaa
open Go Go.RowKit Go.Shelf
/-- Whether spans lie in each other or apart. -/
def nestP (l : List (Int × Int)) : Bool := l.all (fun x => rt x.1 x.2) && decide (l.Pairwise fun a b => ¬ crs a b)
theorem srt_ord (xs : List (Int × Int)) : (srt xs).Pairwise ord := (srt_pairwise xs).imp fun h => by
  rw [ltOrd] at h; simp at h; unfold ord; omega
theorem nest_parts {l : List (Int × Int)} (h : l.all (fun x => rt x.1 x.2) = true) : nestGo [] (srt (parts l)) = nestP l := by
  rw [Bool.eq_iff_iff, nestGo_all _ (srt_ord _), List.Perm.pairwise_iff (fun h h' => h (crs_symm h')) (srt_perm _)]
  unfold nestP
  rw [h, Bool.true_and, decide_eq_true_eq]
  unfold parts
  rw [List.pairwise_filter]
  constructor
  · intro hp
    refine hp.imp_of_mem fun {a b} ha hb hab hc => ?_
    have h1 := rt_iff.1 (List.all_eq_true.1 h a ha)
    have h2 := rt_iff.1 (List.all_eq_true.1 h b hb)
    refine hab ?_ ?_ hc
    · rw [decide_eq_true_eq, ln_pos h1.1]; unfold crs at hc; omega
    · rw [decide_eq_true_eq, ln_pos h2.1]; unfold crs at hc; omega
  · intro hp
    exact hp.imp fun hab _ _ => hab
def iv (x : Int) : Value := .int .i64 x
theorem own_pop {w : World} {base g cap n : Nat} {xs : List Value} {x : Value} (h : w.ownsRow base 3 1 (.slice (some ⟨g, 0, none⟩) (n + 1) cap) (n + 1) (xs ++ [x])) (hn : xs.length = n) : w.ownsRow base 3 1 (.slice (some ⟨g, 0, none⟩) n cap) n xs := by
  refine ⟨by omega, .inr ?_⟩
  rcases h.2 with ⟨e, hn⟩ | ⟨g', cap', cur, e, hb, hh, h1, h2, h3, h4⟩
  · omega
  · simp only [Value.slice.injEq, Option.some.injEq, Addr.mk.injEq] at e
    obtain ⟨⟨rfl, _⟩, _, rfl⟩ := e
    refine ⟨g, cap, cur, rfl, hb, hh, by omega, h2, h3, ?_⟩
    have := congrArg (List.take n) h4
    rw [List.take_take, show min n ((n + 1) * 1) = n * 1 by omega] at this
    rw [this, List.take_left' hn]
theorem Try.info3 : (Try.prog.info? 3).map (fun i => (i.zero, i.size, i.bytes)) = some (some (.int .i64 0), 1, 8) := by kernel_rfl
def lenOf : Value → Nat
  | .slice _ n _ => n
  | _ => 0
set_option maxRecDepth 100000 in
set_option maxHeartbeats 4000000 in
theorem nested_any (A : Option Addr) (l : List (Int × Int)) (c : Nat) (hl : l.length ≤ 65536) (hr : Inrs l) (w : World) (h : Spn w A l) :
    Calls Try.prog 30 #[.slice A l.length c] w fun e w' => e = .returned (.bool (nestP l)) ∧ Below w.heap.size w w' := by
  obtain ⟨i0, hi, hz0, hz1, hz2⟩ := info_parts Try.info3
  have HT := Lib.hid h
  have HRR := Lib.hid hr
  have R0 := Lib.hid (fun x y w => right_any x y w)
  have HV := Lib.hid (fun W h => inOrder_any sortNone A l c hl hr W h)
  obtain ⟨RR, eRR⟩ : ∃ r, r = nestP l := ⟨_, rfl⟩
  rw [← eRR]
  have ERR := Lib.hid eRR
  clear h hr eRR
  go_enter Try.func30, Try.ntmps30
  go_wp2_with fail
  go_loopw [10] (fun i wr => ∃ k : Nat, k ≤ l.length ∧ i = .int .i64 k ∧ (l.take k).all (fun x => rt x.1 x.2) = true ∧ Below w.heap.size w wr) (fun i _ => l.length - (intOf i).toNat)
  case atStart => exact ⟨0, by omega, rfl, by simp, Below.refl _ _⟩
  case round =>
    obtain ⟨k, hk, rfl, hall, hb⟩ := hrel
    by_cases hlt : k < l.length
    · obtain ⟨tb, to, rfl, htl, htc⟩ := (HT.out.below hb) (by omega)
      obtain ⟨hc0, hc1⟩ := htc k hlt
      obtain ⟨x, ex⟩ : ∃ x, x = l.getD k (0, 0) := ⟨_, rfl⟩
      have hst := take_succ_getD hlt
      rw [← ex] at hc0 hc1 hst
      have hxm : x ∈ l := by rw [ex, List.getD_eq_getElem?_getD, List.getElem?_eq_getElem hlt]; simp
      obtain ⟨x1, x2⟩ := x
      dsimp only at hc0 hc1
      have hlt2 : (k : Int) < l.length := by omega
      have R := fun w => R0.out x1 x2 w
      have HB := Lib.hid hb
      have HALL := Lib.hid hall
      have HST := Lib.hid hst
      have HM := Lib.hid hxm
      have hl3 : wr.heap.size < (wr.alloc (.cells #[.int .i64 x1, .int .i64 x2] 23)).heap.size := by simp
      clear htc ex hst hall hb hxm
      cases hrt : rt x1 x2 with
      | false =>
        rw [hrt] at R
        have R := Lib.hid R
        have HRT := Lib.hid hrt
        clear hrt
        go_wp2_with fail
        refine (R.out _).mono ?_
        rintro e w1 ⟨rfl, hb1⟩
        have HB1 := Lib.hid (bt HB.out ((B1 wr _).trans (hb1.mono (by simp))) HB.out.size)
        clear hb1
        go_wp2_with fail
        go_ret
        refine ⟨?_, HB1.out⟩
        have : l.all (fun x => rt x.1 x.2) = false := by
          rw [List.all_eq_false]; exact ⟨_, HM.out, by simp [HRT.out]⟩
        rw [ERR.out]; simp [nestP, this]
      | true =>
        rw [hrt] at R
        have R := Lib.hid R
        have HRT := Lib.hid hrt
        clear hrt
        go_wp2_with fail
        refine (R.out _).mono ?_
        rintro e w1 ⟨rfl, hb1⟩
        have HB1 := Lib.hid (bt HB.out ((B1 wr _).trans (hb1.mono (by simp))) HB.out.size)
        clear hb1
        go_wp2_with fail
        go_roundw
        case rel => exact ⟨k + 1, by omega, by go_num, by rw [HST.out, List.all_append, HALL.out]; simp [HRT.out], HB1.out⟩
        case measure => simp [intOf]; omega
    · obtain rfl : k = l.length := by omega
      rw [List.take_length] at hall
      obtain ⟨w1, rfl⟩ : ∃ u, u = wr := ⟨_, rfl⟩
      have hnp := nest_parts hall
      rw [← ERR.out] at hnp
      have hxl : (srt (parts l)).length ≤ 65536 := by rw [srt_length]; exact Nat.le_trans (parts_length l) hl
      have hxr : Inrs (srt (parts l)) := fun z hz => HRR.out z (List.mem_filter.1 ((srt_perm _).mem_iff.1 hz)).1
      have hv := HV.out w1 (HT.out.below hb)
      obtain ⟨S, eS⟩ : ∃ S, S = srt (parts l) := ⟨_, rfl⟩
      rw [← eS] at hnp hxl hxr hv
      have HV1 := Lib.hid hv
      have HNP := Lib.hid hnp
      have HXR := Lib.hid hxr
      have HB := Lib.hid hb
      clear eS hnp hxr hv hb hall HV
      go_wp2_with fail
      refine HV1.out.mono ?_
      rintro e w2 ⟨v, rfl, hown, hb2⟩
      have hb3 := bt HB.out hb2 HB.out.size
      rcases hown.2 with ⟨rfl, hn⟩ | ⟨g, cap, cur, rfl, hg, hh, hgc, hcm, hcs, htk⟩
      · obtain rfl : S = [] := List.eq_nil_of_length_eq_zero hn
        have HB3 := Lib.hid hb3
        have HR1 : RR = true := by rw [← HNP.out]; rfl
        clear hown hb2 hb3
        go_wp2_with fail
        go_loopw [21] (fun i wr => i = .int .i64 0 ∧ wr = w2) (fun _ _ => 0)
        case atStart => exact ⟨rfl, rfl⟩
        case round =>
          obtain ⟨rfl, rfl⟩ := hrel
          go_wp2_with fail
          go_ret
          exact ⟨by rw [HR1]; rfl, HB3.out⟩
      · have hgl : g < w2.heap.size := (Array.getElem?_eq_some_iff.1 hh).1
        have HCS : Hid (∀ i, i < S.length → w2.cell? ⟨g, 0 + i * 2, none⟩ = some (.int .i64 (S.getD i (0, 0)).1) ∧ w2.cell? ⟨g, 0 + i * 2 + 1, none⟩ = some (.int .i64 (S.getD i (0, 0)).2)) := Lib.hid (fun i hi => by
          rw [Nat.zero_add]
          have := scells_at hi
          exact ⟨(hown.cellAt (i * 2) (by omega)).trans this.1, (hown.cellAt (i * 2 + 1) (by omega)).trans this.2⟩)
        have HB3 := Lib.hid hb3
        have hz3 := hb3.size
        clear hown hb2 hb3 hg hh hcs htk cur HB HRR R0 HT
        go_wp2_with fail
        go_loopw [5, 21] (fun v i wr => ∃ (k : Nat) (st : List Int), k ≤ S.length ∧ i = .int .i64 k ∧ st.length ≤ k ∧ nestGo st (S.drop k) = RR ∧ wr.ownsRow w2.heap.size 3 1 v st.length (st.reverse.map iv) ∧ Below w2.heap.size w2 wr) (fun _ i _ => S.length - (intOf i).toNat)
        case atStart => exact ⟨0, [], by omega, rfl, by simp, HNP.out, World.ownsRow_nil _ _ _ _, Below.refl _ _⟩
        case round =>
          obtain ⟨k, st, hk, rfl, hsk, hgo, hst, hb⟩ := hrel
          obtain ⟨wa, rfl⟩ : ∃ u, u = wr := ⟨_, rfl⟩
          by_cases hlt : k < S.length
          · obtain ⟨hc0, hc1⟩ := HCS.out k hlt
            have hc0 := (hb.cell (p := ⟨g, 0 + k * 2, none⟩) hgl).trans hc0
            have hc1 := (hb.cell (p := ⟨g, 0 + k * 2 + 1, none⟩) hgl).trans hc1
            obtain ⟨x, ex⟩ : ∃ x, x = S.getD k (0, 0) := ⟨_, rfl⟩
            have hdr : S.drop k = x :: S.drop (k + 1) := by
              rw [ex, List.getD_eq_getElem?_getD, List.getElem?_eq_getElem hlt]
              exact List.drop_eq_getElem_cons hlt
            rw [← ex] at hc0 hc1
            rw [hdr] at hgo
            obtain ⟨x1, x2⟩ := x
            dsimp only at hc0 hc1
            have hlt2 : (k : Int) < S.length := by omega
            have HGO := Lib.hid hgo
            have HBA := Lib.hid hb
            have hza := hb.size
            have BX := Lib.hid (Blk.new wa #[.int .i64 x1, .int .i64 x2] 51)
            have HST := Lib.hid (hst.alloc (.cells #[.int .i64 x1, .int .i64 x2] 51))
            clear ex hdr hgo hb hst
            rw [Nat.zero_add] at hc0 hc1
            obtain ⟨wx, ewx⟩ : ∃ wx, wx = wa.alloc (.cells #[.int .i64 x1, .int .i64 x2] 51) := ⟨_, rfl⟩
            have hbx : Below wa.heap.size wa wx := by rw [ewx]; exact B1 _ _
            rw [← ewx] at BX HST
            have HBX := Lib.hid hbx
            have HBW := Lib.hid (bt HBA.out hbx HBA.out.size)
            have hzx := HBW.out.size
            clear hbx
            go_wp2_with fail
            rw [← ewx]
            clear ewx hc0 hc1
            go_loopw [5] (fun v wp => ∃ (st' : List Int) (n : Nat), wp = wx.drewN n ∧ st'.length ≤ st.length ∧ popS x1 st' = popS x1 st ∧ wx.ownsRow w2.heap.size 3 1 v st'.length (st'.reverse.map iv)) (fun v _ => lenOf v)
            case atStart => exact ⟨st, 0, rfl, Nat.le_refl _, rfl, HST.out⟩
            case round =>
              obtain ⟨st', n, rfl, hs', hpop, hown⟩ := hrel
              obtain ⟨d0, d1⟩ := BX.out.two
              cases st' with
              | nil =>
                obtain ⟨A', c', rfl⟩ : ∃ A' c', u5 = .slice A' 0 c' := by
                  rcases hown.2 with ⟨rfl, _⟩ | ⟨_, _, _, rfl, _⟩
                  · exact ⟨_, _, rfl⟩
                  · exact ⟨_, _, rfl⟩
                have hps : popS x1 st = [] := by rw [← hpop]; rfl
                have hgo := HGO.out
                unfold nestGo at hgo
                simp only [hps] at hgo
                have HGO1 := Lib.hid hgo
                have hownd : ∀ m, (wx.drewN m).ownsRow w2.heap.size 3 1 (.slice A' 0 c') 0 [] := fun m => hown
                clear hgo hown
                go_wp2_with fail
                go_quiet (fail)
                go_wp2_with fail
                go_quiet (fail)
                go_wp2_with (at_builtin; refine wpList_append_own _ rfl _ _ 48 rfl w2.heap.size 3 i0 (.int .i64 0) 1 8 Try.underlying48 hi hz0 hz1 hz2 rfl (by decide) _ _ _ rfl ((hownd _).alloc _) ⟨wx.heap.size, 0, none⟩ 1 1 [.int .i64 x2] rfl rfl (cell_one_new _ _ _) (by simp [Value.oneCell']) (by unfold maxLen; omega) (by omega) (by simp; omega) ?_; intro v' w7 hown' hgrow _)
                go_roundw
                case rel => exact ⟨k + 1, [x2], by omega, by go_num, by simp <;> omega, HGO1.out, by simpa [iv] using hown', ((bdrew HBW.out).alloc (by simp; omega) _).grown hgrow (by simp; omega) (fun g hg => ((hownd 0).lt g hg).1)⟩
                case measure => simp [intOf]; omega
              | cons t r =>
                obtain ⟨g', cap', rfl, hg', hgc', hcm', hgl'⟩ := own_shape hown (by simp)
                have hct : wx.cell? ⟨g', r.length, none⟩ = some (.int .i64 t) := by
                  have := hown.cellAt r.length (by simp)
                  simpa [iv] using this
                have hrl : r.length < 65536 := by simp at hs'; omega
                have hw1 : IntKind.i64.wrap (r.length : Int) = r.length := IntWalk.i64_in _ (by omega)
                have hi1 : (r.length : Int) < (r.length : Int) + 1 := by omega
                have hi0 : (0 : Int) < (r.length : Int) + 1 := by omega
                have hi2 : (0 : Int) ≤ (r.length : Int) := by omega
                have hi3 : (r.length : Int) ≤ (cap' : Int) := by simp at hgc'; omega
                by_cases htx : t ≤ x1
                · go_wp2_with fail
                  go_quiet (fail)
                  go_wp2_with fail
                  go_roundw
                  case rel => exact ⟨r, _, rfl, by simp at hs'; omega, by rw [← hpop]; conv => { rhs; unfold popS }; rw [if_pos htx], own_pop (by simpa [iv] using hown) (by simp)⟩
                  case measure => simp [lenOf]
                · have hps : popS x1 st = t :: r := by rw [← hpop]; unfold popS; rw [if_neg htx]
                  have hgo := HGO.out
                  unfold nestGo at hgo
                  simp only [hps] at hgo
                  have HGO1 := Lib.hid hgo
                  clear hgo
                  by_cases ht2 : t < x2
                  · go_wp2_with fail
                    go_quiet (fail)
                    go_wp2_with fail
                    go_quiet (fail)
                    go_wp2_with fail
                    go_ret
                    have : RR = false := by rw [← HGO1.out, if_pos ht2]
                    exact ⟨by rw [this]; rfl, bdrew (bdrew (bdrew (bt HB3.out HBW.out HB3.out.size)))⟩
                  · have hgo := HGO1.out
                    rw [if_neg ht2] at hgo
                    have HGO1 := Lib.hid hgo
                    have hownd : ∀ m, (wx.drewN m).ownsRow w2.heap.size 3 1 (.slice (some ⟨g', 0, none⟩) (r.length + 1) cap') (r.length + 1) (((t :: r).reverse).map iv) := fun m => hown
                    have hs2 : r.length + 1 ≤ st.length := by simpa using hs'
                    clear hgo hown
                    go_wp2_with fail
                    go_quiet (fail)
                    go_wp2_with fail
                    go_quiet (fail)
                    go_wp2_with (at_builtin; refine wpList_append_own _ rfl _ _ 48 rfl w2.heap.size 3 i0 (.int .i64 0) 1 8 Try.underlying48 hi hz0 hz1 hz2 rfl (by decide) _ _ _ rfl ((hownd _).alloc _) ⟨wx.heap.size, 0, none⟩ 1 1 [.int .i64 x2] rfl rfl (cell_one_new _ _ _) (by simp [Value.oneCell']) (by unfold maxLen; omega) (by omega) (by simp; omega) ?_; intro v' w7 hown' hgrow _)
                    go_roundw
                    case rel => exact ⟨k + 1, x2 :: t :: r, by omega, by go_num, by simp <;> omega, HGO1.out, by simpa [iv] using hown', ((bdrew HBW.out).alloc (by simp; omega) _).grown hgrow (by simp; omega) (fun g hg => ((hownd 0).lt g hg).1)⟩
                    case measure => simp [intOf]; omega
          · obtain rfl : k = S.length := by omega
            have hb4 := Lib.hid (bt HB3.out hb HB3.out.size)
            have HGO : Hid (true = RR) := Lib.hid (by rw [← hgo, List.drop_length]; unfold nestGo; rfl)
            clear hb hst
            go_wp2_with fail
            go_ret
            exact ⟨by rw [← HGO.out]; rfl, hb4.out⟩
end Go.Proofs.Ytgploogflhfolaa

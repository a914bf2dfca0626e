/- What the reference tells: Rank, Rule, Rules, Nodes. (Great seat.) -/
import Derived.Test.YtjelgmdjmjnnfaaGreatE2
import Derived.Test.YtjelgmdjmjnnfaaGreatE6
import Derived.Deep.RegionHeld3
set_option linter.unusedSimpArgs false
set_option linter.unusedVariables false
namespace Go.Proofs.YtjelgmdjmjnnfaaGreat
open Go Go.Proofs Go.RowKit Go.Lib Go.Maps
theorem low_top {g : Gr} {b : Int} (h : (g.rules.length : Int) < b) : lowB (ranks g) b = inB (ranks g) := by
  funext r
  unfold lowB
  rw [decide_eq_true (show (ranks g).getD r.toNat 0 < b by have := ranks_le g r.toNat; omega), Bool.and_true]
set_option maxRecDepth 100000 in
set_option maxHeartbeats 4000000 in
theorem r11Rank_any (g : Gr) (i : Int) (w : World) (hg : Gr.At w g) (hin : Gr.In g) : Calls Tryz.prog 38 #[g.val, .int .i64 i] w fun e w' => e = .returned (.int .i64 (rankOf g i)) ∧ Below w.heap.size w w' := by
  have RR := Lib.hid (fun (w' : World) (b : Below w.heap.size w w') => refRight_any g w' (hg.below b) hin)
  have RK := Lib.hid (fun (hR : Right g) (w' : World) (b : Below w.heap.size w w') => refRanks_any g hR w' (hg.below b))
  have EV := Lib.hid (show rankOf g i = if rightB g = true ∧ 0 ≤ i ∧ i < g.rules.length then (ranks g).getD i.toNat 0 else 0 from rfl)
  generalize rankOf g i = v at EV ⊢
  have LN := Lib.hid (ranks_length g)
  clear hg hin
  show Calls Tryz.prog 38 #[.agg #[.slice g.RA g.rules.length g.rc, .slice g.NA g.nodes.length g.nc], .int .i64 i] w _
  cases hr : rightB g with
  | false =>
    have hv : v = 0 := by rw [EV.out, if_neg (by rw [hr]; simp)]
    rw [hr] at RR
    have HV := Lib.hid hv
    clear hv EV RK hr
    go_enter Tryz.func38, Tryz.ntmps38
    go_wp2_with (go_at_call 81; with_reducible refine (RR.out _ (B1 _ _)).mono ?_; rintro e w1 ⟨rfl, hb⟩; have H1 := Lib.hid (bb (B1 w _) hb); clear hb)
    go_ret
    exact ⟨ret_int HV.out.symm, H1.out⟩
  | true =>
    rw [hr] at RR
    by_cases h0 : i < 0
    · have hv : v = 0 := by rw [EV.out, if_neg (by omega)]
      have HV := Lib.hid hv
      clear hv EV RK hr
      go_enter Tryz.func38, Tryz.ntmps38
      go_wp2_with (go_at_call 81; with_reducible refine (RR.out _ (B1 _ _)).mono ?_; rintro e w1 ⟨rfl, hb⟩; have H1 := Lib.hid (bb (B1 w _) hb); clear hb)
      go_ret
      exact ⟨ret_int HV.out.symm, H1.out⟩
    · by_cases h1 : (g.rules.length : Int) ≤ i
      · have hv : v = 0 := by rw [EV.out, if_neg (by omega)]
        have HV := Lib.hid hv
        clear hv EV RK hr
        go_enter Tryz.func38, Tryz.ntmps38
        go_wp2_with (go_at_call 81; with_reducible refine (RR.out _ (B1 _ _)).mono ?_; rintro e w1 ⟨rfl, hb⟩; have H1 := Lib.hid (bb (B1 w _) hb); have g0 := ((Blk.new w #[.slice g.RA g.rules.length g.rc, .slice g.NA g.nodes.length g.nc] 25).below' hb).cell 0; simp only [List.getElem?_toArray, List.getElem?_cons_zero, List.getElem?_cons_succ] at g0; clear hb)
        go_ret
        exact ⟨ret_int HV.out.symm, H1.out⟩
      · obtain ⟨k, rfl⟩ : ∃ k : Nat, i = k := ⟨i.toNat, by omega⟩
        have hk : k < g.rules.length := by omega
        have hv : v = (ranks g).getD k 0 := by rw [EV.out, if_pos ⟨hr, by omega, by omega⟩, Int.toNat_natCast]
        have RK2 := Lib.hid (RK.out (rightB_true.1 hr))
        have CL := Lib.hid (show ∀ (W : World) (B b : Nat), W.ownsRow B 3 1 (.slice (some ⟨b, 0, none⟩) g.rules.length g.rules.length) g.rules.length (ints (ranks g)) → W.cell? ⟨b, k, none⟩ = some (.int .i64 v) from fun W B b h => by rw [h.cellAt k (by omega), ints_at (by rw [LN.out]; exact hk), hv])
        clear hv EV RK hr
        go_enter Tryz.func38, Tryz.ntmps38
        go_wp2_with (first | (go_at_call 81; with_reducible refine (RR.out _ (B1 _ _)).mono ?_; rintro e w1 ⟨rfl, hb⟩; have H1 := Lib.hid (bb (B1 w _) hb); have KB := Lib.hid ((Blk.new w #[.slice g.RA g.rules.length g.rc, .slice g.NA g.nodes.length g.nc] 25).below' hb); have g0 := KB.out.cell 0; have g1 := KB.out.cell 1; simp only [List.getElem?_toArray, List.getElem?_cons_zero, List.getElem?_cons_succ] at g0 g1; clear hb) | (go_at_call 83; (with_reducible refine (RK2.out _ H1.out).mono ?_); rintro e w2 ⟨⟨b, rfl, ho⟩, hb⟩; have c9 := CL.out _ _ _ ho; have H2 := Lib.hid (bb H1.out hb); clear hb ho))
        go_ret
        exact ⟨rfl, H2.out⟩
theorem r11Rule_any (g : Gr) (i : Int) (w : World) (hg : Gr.At w g) (hin : Gr.In g) : Calls Tryz.prog 37 #[g.val, .int .i64 i] w fun e w' => e = .returned (.bool (decide (0 < rankOf g i))) ∧ Below w.heap.size w w' := by
  have R := Lib.hid (fun (w' : World) (b : Below w.heap.size w w') => r11Rank_any g i w' (hg.below b) hin)
  generalize rankOf g i = v at R ⊢
  clear hg hin
  show Calls Tryz.prog 37 #[.agg #[.slice g.RA g.rules.length g.rc, .slice g.NA g.nodes.length g.nc], .int .i64 i] w _
  have R2 : RowKit.Hid (∀ (w' : World), Below w.heap.size w w' → Calls Tryz.prog 38 #[.agg #[.slice g.RA g.rules.length g.rc, .slice g.NA g.nodes.length g.nc], .int .i64 i] w' fun e w'' => e = .returned (.int .i64 v) ∧ Below w'.heap.size w' w'') := Lib.hid R.out
  go_enter Tryz.func37, Tryz.ntmps37
  go_wp2_with (go_at_call 38; with_reducible refine (R2.out _ (B1 _ _)).mono ?_; rintro e w1 ⟨rfl, hb⟩; have H1 := Lib.hid (bb (B1 w _) hb); clear hb)
  go_ret
  exact ⟨rfl, H1.out⟩
end Go.Proofs.YtjelgmdjmjnnfaaGreat
namespace Go.Proofs.YtjelgmdjmjnnfaaGreat
open Go Go.Proofs Go.RowKit Go.Lib Go.Maps
def RowE (w : World) (B : Nat) (L : List Nat) (e : Ending) : Prop := ∃ v, e = .returned v ∧ w.ownsRow B 3 1 v L.length (ints (nums L))
theorem RowE.nil (w : World) (B : Nat) : RowE w B [] (.returned (.slice none 0 0)) := ⟨_, rfl, World.ownsRow_nil _ _ _ _⟩
set_option maxRecDepth 100000 in
set_option maxHeartbeats 8000000 in
theorem r11Rules_any (g : Gr) (w : World) (hg : Gr.At w g) (hin : Gr.In g) : Calls Tryz.prog 40 #[g.val] w fun e w' => RowE w' w.heap.size (rulesOf g) e ∧ Below w.heap.size w w' := by
  obtain ⟨i0, hi, hz0, hz1, hz2⟩ := info_parts Tryz.info3
  have RR := Lib.hid (fun (w' : World) (b : Below w.heap.size w w') => refRight_any g w' (hg.below b) hin)
  have RK := Lib.hid (fun (hR : Right g) (w' : World) (b : Below w.heap.size w w') => refRanks_any g hR w' (hg.below b))
  have MY := Lib.hid (fun (hR : Right g) W (eg : Below w.heap.size w W) A ra r (hr : g.rules.length = r.length) b n (hn : n < g.nodes.length) (hA : Lies W A (ints r)) => refMay_any g hR A ra r hr b g.nodes.length n hn (by omega) W (hg.below eg) hA)
  have EV := Lib.hid (show rulesOf g = if rightB g then rowOf' g.rules.length (fun (i : Nat) => inB (ranks g) (i : Int)) else [] from rfl)
  generalize rulesOf g = L at EV ⊢
  have LN := Lib.hid (ranks_length g)
  clear hg hin
  show Calls Tryz.prog 40 #[.agg #[.slice g.RA g.rules.length g.rc, .slice g.NA g.nodes.length g.nc]] w _
  cases hr : rightB g with
  | false =>
    have hv : L = [] := by rw [EV.out, hr]; rfl
    rw [hr] at RR
    have HV := Lib.hid hv
    clear hv EV RK MY hr
    go_enter Tryz.func40, Tryz.ntmps40
    go_wp2_with (go_at_call 81; with_reducible refine (RR.out _ (B1 _ _)).mono ?_; rintro e w1 ⟨rfl, hb⟩; have H1 := Lib.hid (bb (B1 w _) hb); have KB := Lib.hid ((Blk.new w #[.slice g.RA g.rules.length g.rc, .slice g.NA g.nodes.length g.nc] 25).below' hb); have g0 := KB.out.cell 0; have g1 := KB.out.cell 1; simp only [List.getElem?_toArray, List.getElem?_cons_zero, List.getElem?_cons_succ] at g0 g1; clear hb)
    go_ret
    rw [HV.out]
    exact ⟨RowE.nil _ _, H1.out⟩
  | true =>
    have hR := rightB_true.1 hr
    rw [hr] at RR
    have hv : L = rowOf' g.rules.length (fun (i : Nat) => inB (ranks g) (i : Int)) := by rw [EV.out, hr]; rfl
    have hrl := hR.rules.2
    have hnl := hR.nodes
    have RK2 := Lib.hid (RK.out hR)
    have MY2 := Lib.hid (MY.out hR)
    obtain ⟨q, eq⟩ : ∃ q : Nat → Bool, q = fun (i : Nat) => inB (ranks g) (i : Int) := ⟨_, rfl⟩
    rw [← eq] at hv
    have EQ := Lib.hid eq
    clear eq
    subst hv
    clear EV RK MY hr hR
    go_enter Tryz.func40, Tryz.ntmps40
    go_wp2_with (first | (go_at_call 81; with_reducible refine (RR.out _ (B1 _ _)).mono ?_; rintro e w1 ⟨rfl, hb⟩; have H1 := Lib.hid (bb (B1 w _) hb); have KB := Lib.hid ((Blk.new w #[.slice g.RA g.rules.length g.rc, .slice g.NA g.nodes.length g.nc] 25).below' hb); have g0 := KB.out.cell 0; have g1 := KB.out.cell 1; simp only [List.getElem?_toArray, List.getElem?_cons_zero, List.getElem?_cons_succ] at g0 g1; clear hb) | (go_at_call 83; (with_reducible refine (RK2.out _ H1.out).mono ?_); rintro e w2 ⟨⟨b, rfl, ho⟩, hb⟩; have HO2 := Lib.hid ho; have H2 := Lib.hid (bb H1.out hb); have KB2 := Lib.hid (KB.out.below' hb); have g00 := KB2.out.cell 0; have g11 := KB2.out.cell 1; simp only [List.getElem?_toArray, List.getElem?_cons_zero, List.getElem?_cons_succ] at g00 g11; clear hb ho g0 g1))
    clear g00 g11
    go_loopw [4, 5] (fun l i wr => ∃ k : Nat, k ≤ g.rules.length ∧ i = .int .i64 k ∧ wr.ownsRow w2.heap.size 3 1 l (rowOf' k q).length (ints (nums (rowOf' k q))) ∧ Below w2.heap.size w2 wr) (fun _ i _ => g.rules.length - (RowKit.intOf i).toNat)
    case atStart => exact ⟨0, by omega, by go_num, World.ownsRow_nil _ _ _ _, Below.refl _ _⟩
    case round =>
      obtain ⟨k, hk, rfl, hown, hb⟩ := hrel
      have HO := Lib.hid hown
      have HB := Lib.hid hb
      have RS := Lib.hid (rowOf_succ k q)
      have RL := Lib.hid (rowOf_len q k)
      have KW := Lib.hid (KB2.out.below' hb)
      have g0 := KW.out.cell 0
      have g1 := KW.out.cell 1
      simp only [List.getElem?_toArray, List.getElem?_cons_zero, List.getElem?_cons_succ] at g0 g1
      have RW := Lib.hid (own_below HO2.out hb)
      clear hown hb
      by_cases hlt : k < g.rules.length
      · have hlt2 : (k : Int) < g.rules.length := by omega
        have hq : q k = decide (0 < (ranks g).getD k 0) := by rw [EQ.out]; show decide (0 < (ranks g).getD ((k : Nat) : Int).toNat 0) = _; rw [Int.toNat_natCast]
        have c9 := RW.out.cellAt k (by omega)
        rw [ints_at (by rw [LN.out]; exact hlt)] at c9
        generalize (ranks g).getD k 0 = v at hq c9
        by_cases v0 : 0 < v
        · rw [decide_eq_true v0] at hq
          have QK := Lib.hid hq
          have O1 := HO
          have BW := HB
          clear hq
          go_wp2_with (at_builtin; refine wpList_append_own _ rfl _ _ 41 rfl w2.heap.size 3 i0 (.int .i64 0) 1 8 Tryz.underlying41 hi hz0 hz1 hz2 rfl (by decide) _ _ _ rfl (O1.out.alloc _) ⟨wr.heap.size, 0, none⟩ 1 1 [.int .i64 k] rfl rfl (cell_one_new _ _ _) (by simp [Value.oneCell']) (by unfold maxLen; have := RL.out; omega) (by have := RL.out; omega) (by have := BW.out.size; simp; omega) ?_; intro v' w9 hown' hgrow hnil'; have O9 := Lib.hid hown'; have G9 := Lib.hid hgrow; clear hown' hgrow hnil')
          go_roundw
          case rel =>
            refine ⟨k + 1, by omega, by go_num, ?_, ?_⟩
            · rw [RS.out, QK.out, if_pos rfl, List.length_append, nums_app]
              have := O9.out
              simpa [ints] using this
            · exact grown_below (w := wr.alloc _) (BW.out.trans ((B1 wr _).mono BW.out.size)) (by have := BW.out.size; simp; omega) G9.out (fun j e => (O1.out.lt j e).1)
          case measure => simp [RowKit.intOf]; omega
        · have hq2 : q k = false := by rw [hq, decide_eq_false v0]
          have QK := Lib.hid hq2
          clear hq hq2
          go_wp2_with fail
          go_roundw
          case rel => exact ⟨k + 1, by omega, by go_num, by rw [RS.out, QK.out]; exact HO.out, HB.out⟩
          case measure => simp [RowKit.intOf]; omega
      · obtain rfl : k = g.rules.length := by omega
        have hlt2 : ¬ (g.rules.length : Int) < g.rules.length := by omega
        go_wp2_with fail
        go_ret
        exact ⟨⟨_, rfl, own_lower HO.out H2.out.size⟩, H2.out.trans (HB.out.mono H2.out.size)⟩
set_option maxRecDepth 100000 in
set_option maxHeartbeats 8000000 in
theorem r11Nodes_any (g : Gr) (w : World) (hg : Gr.At w g) (hin : Gr.In g) : Calls Tryz.prog 41 #[g.val] w fun e w' => RowE w' w.heap.size (nodesOf g) e ∧ Below w.heap.size w w' := by
  obtain ⟨i0, hi, hz0, hz1, hz2⟩ := info_parts Tryz.info3
  have RR := Lib.hid (fun (w' : World) (b : Below w.heap.size w w') => refRight_any g w' (hg.below b) hin)
  have RK := Lib.hid (fun (hR : Right g) (w' : World) (b : Below w.heap.size w w') => refRanks_any g hR w' (hg.below b))
  have MY := Lib.hid (fun (hR : Right g) W (eg : Below w.heap.size w W) A ra r (hr : g.rules.length = r.length) b n (hn : n < g.nodes.length) (hA : Lies W A (ints r)) => refMay_any g hR A ra r hr b g.nodes.length n hn (by omega) W (hg.below eg) hA)
  have EV := Lib.hid (show nodesOf g = if rightB g then rowOf' g.nodes.length (fun (n : Nat) => mayN g.nodes (inB (ranks g)) (n : Int)) else [] from rfl)
  generalize nodesOf g = L at EV ⊢
  have LN := Lib.hid (ranks_length g)
  clear hg hin
  show Calls Tryz.prog 41 #[.agg #[.slice g.RA g.rules.length g.rc, .slice g.NA g.nodes.length g.nc]] w _
  cases hr : rightB g with
  | false =>
    have hv : L = [] := by rw [EV.out, hr]; rfl
    rw [hr] at RR
    have HV := Lib.hid hv
    clear hv EV RK MY hr
    go_enter Tryz.func41, Tryz.ntmps41
    go_wp2_with (go_at_call 81; with_reducible refine (RR.out _ (B1 _ _)).mono ?_; rintro e w1 ⟨rfl, hb⟩; have H1 := Lib.hid (bb (B1 w _) hb); have KB := Lib.hid ((Blk.new w #[.slice g.RA g.rules.length g.rc, .slice g.NA g.nodes.length g.nc] 25).below' hb); have g0 := KB.out.cell 0; have g1 := KB.out.cell 1; simp only [List.getElem?_toArray, List.getElem?_cons_zero, List.getElem?_cons_succ] at g0 g1; clear hb)
    go_ret
    rw [HV.out]
    exact ⟨RowE.nil _ _, H1.out⟩
  | true =>
    have hR := rightB_true.1 hr
    rw [hr] at RR
    have hv : L = rowOf' g.nodes.length (fun (n : Nat) => mayN g.nodes (inB (ranks g)) (n : Int)) := by rw [EV.out, hr]; rfl
    have hrl := hR.rules.2
    have hnl := hR.nodes
    have RK2 := Lib.hid (RK.out hR)
    have MY2 := Lib.hid (MY.out hR)
    obtain ⟨q, eq⟩ : ∃ q : Nat → Bool, q = fun (n : Nat) => mayN g.nodes (inB (ranks g)) (n : Int) := ⟨_, rfl⟩
    rw [← eq] at hv
    have EQ := Lib.hid eq
    clear eq
    subst hv
    clear EV RK MY hr hR
    go_enter Tryz.func41, Tryz.ntmps41
    go_wp2_with (first | (go_at_call 81; with_reducible refine (RR.out _ (B1 _ _)).mono ?_; rintro e w1 ⟨rfl, hb⟩; have H1 := Lib.hid (bb (B1 w _) hb); have KB := Lib.hid ((Blk.new w #[.slice g.RA g.rules.length g.rc, .slice g.NA g.nodes.length g.nc] 25).below' hb); have g0 := KB.out.cell 0; have g1 := KB.out.cell 1; simp only [List.getElem?_toArray, List.getElem?_cons_zero, List.getElem?_cons_succ] at g0 g1; clear hb) | (go_at_call 83; (with_reducible refine (RK2.out _ H1.out).mono ?_); rintro e w2 ⟨⟨b, rfl, ho⟩, hb⟩; have HO2 := Lib.hid ho; have H2 := Lib.hid (bb H1.out hb); have KB2 := Lib.hid (KB.out.below' hb); have g00 := KB2.out.cell 0; have g11 := KB2.out.cell 1; simp only [List.getElem?_toArray, List.getElem?_cons_zero, List.getElem?_cons_succ] at g00 g11; clear hb ho g0 g1))
    clear g00 g11
    go_loopw [4, 5] (fun l i wr => ∃ k : Nat, k ≤ g.nodes.length ∧ i = .int .i64 k ∧ wr.ownsRow w2.heap.size 3 1 l (rowOf' k q).length (ints (nums (rowOf' k q))) ∧ Below w2.heap.size w2 wr) (fun _ i _ => g.nodes.length - (RowKit.intOf i).toNat)
    case atStart => exact ⟨0, by omega, by go_num, World.ownsRow_nil _ _ _ _, Below.refl _ _⟩
    case round =>
      obtain ⟨k, hk, rfl, hown, hb⟩ := hrel
      have HO := Lib.hid hown
      have HB := Lib.hid hb
      have RS := Lib.hid (rowOf_succ k q)
      have RL := Lib.hid (rowOf_len q k)
      have KW := Lib.hid (KB2.out.below' hb)
      have g0 := KW.out.cell 0
      have g1 := KW.out.cell 1
      simp only [List.getElem?_toArray, List.getElem?_cons_zero, List.getElem?_cons_succ] at g0 g1
      have RW := Lib.hid (own_below HO2.out hb)
      clear hown hb
      by_cases hlt : k < g.nodes.length
      · have hlt2 : (k : Int) < g.nodes.length := by omega
        have T0 := MY2.out wr (H2.out.trans (HB.out.mono H2.out.size)) (some ⟨b, 0, none⟩) g.rules.length (ranks g) LN.out.symm 1073741824 k hlt (own_lies1 RW.out)
        rw [low_top (by omega)] at T0
        have hq : q k = mayN g.nodes (inB (ranks g)) k := by rw [EQ.out]
        have T := Lib.hid (show Calls Tryz.prog 82 #[.agg #[.slice g.RA g.rules.length g.rc, .slice g.NA g.nodes.length g.nc], .int .i64 k, .slice (some ⟨b, 0, none⟩) g.rules.length g.rules.length, .int .i64 1073741824] wr fun e w' => e = .returned (.bool (q k)) ∧ Below wr.heap.size wr w' from by rw [hq]; exact T0)
        clear T0 hq
        cases hp : q k with
        | false =>
          rw [hp] at T
          have QK := Lib.hid hp
          clear hp
          go_wp2_with (go_at_call 82; (with_reducible refine T.out.mono ?_); rintro e w3 ⟨rfl, hb3⟩; have B3 := Lib.hid hb3; have g000 := (KW.out.below' hb3).cell 0; have g111 := (KW.out.below' hb3).cell 1; simp only [List.getElem?_toArray, List.getElem?_cons_zero, List.getElem?_cons_succ] at g000 g111; clear hb3)
          go_roundw
          case rel => exact ⟨k + 1, by omega, by go_num, by rw [RS.out, QK.out]; exact own_below HO.out B3.out, HB.out.trans (B3.out.mono HB.out.size)⟩
          case measure => simp [RowKit.intOf]; omega
        | true =>
          rw [hp] at T
          have QK := Lib.hid hp
          clear hp
          go_wp2_with (first | (go_at_call 82; (with_reducible refine T.out.mono ?_); rintro e w3 ⟨rfl, hb3⟩; have O1 := Lib.hid (own_below HO.out hb3); have BW := Lib.hid (HB.out.trans (hb3.mono HB.out.size)); clear hb3) | (at_builtin; refine wpList_append_own _ rfl _ _ 41 rfl w2.heap.size 3 i0 (.int .i64 0) 1 8 Tryz.underlying41 hi hz0 hz1 hz2 rfl (by decide) _ _ _ rfl (O1.out.alloc _) ⟨w3.heap.size, 0, none⟩ 1 1 [.int .i64 k] rfl rfl (cell_one_new _ _ _) (by simp [Value.oneCell']) (by unfold maxLen; have := RL.out; omega) (by have := RL.out; omega) (by have := BW.out.size; simp; omega) ?_; intro v' w9 hown' hgrow hnil'; have O9 := Lib.hid hown'; have G9 := Lib.hid hgrow; clear hown' hgrow hnil'))
          go_roundw
          case rel =>
            refine ⟨k + 1, by omega, by go_num, ?_, ?_⟩
            · rw [RS.out, QK.out, if_pos rfl, List.length_append, nums_app]
              have := O9.out
              simpa [ints] using this
            · exact grown_below (w := w3.alloc _) (BW.out.trans ((B1 w3 _).mono BW.out.size)) (by have := BW.out.size; simp; omega) G9.out (fun j e => (O1.out.lt j e).1)
          case measure => simp [RowKit.intOf]; omega
      · obtain rfl : k = g.nodes.length := by omega
        have hlt2 : ¬ (g.nodes.length : Int) < g.nodes.length := by omega
        go_wp2_with fail
        go_ret
        exact ⟨⟨_, rfl, own_lower HO.out H2.out.size⟩, H2.out.trans (HB.out.mono H2.out.size)⟩
end Go.Proofs.YtjelgmdjmjnnfaaGreat
namespace Go.Proofs.YtjelgmdjmjnnfaaGreat
open Go Go.Proofs Go.RowKit Go.Lib Go.Maps
set_option maxRecDepth 100000 in
set_option maxHeartbeats 8000000 in
theorem r11Node_any (g : Gr) (n : Int) (w : World) (hg : Gr.At w g) (hin : Gr.In g) : Calls Tryz.prog 36 #[g.val, .int .i64 n] w fun e w' => e = .returned (.bool (nodeB g n)) ∧ Below w.heap.size w w' := by
  have RR := Lib.hid (fun (w' : World) (b : Below w.heap.size w w') => refRight_any g w' (hg.below b) hin)
  have RK := Lib.hid (fun (hR : Right g) (w' : World) (b : Below w.heap.size w w') => refRanks_any g hR w' (hg.below b))
  have MY := Lib.hid (fun (hR : Right g) W (eg : Below w.heap.size w W) A ra r (hr : g.rules.length = r.length) b n (hn : n < g.nodes.length) (hA : Lies W A (ints r)) => refMay_any g hR A ra r hr b g.nodes.length n hn (by omega) W (hg.below eg) hA)
  have EV := Lib.hid (show nodeB g n = (rightB g && (decide (0 ≤ n ∧ n < g.nodes.length) && mayN g.nodes (inB (ranks g)) n)) from rfl)
  generalize nodeB g n = v at EV ⊢
  have LN := Lib.hid (ranks_length g)
  clear hg hin
  show Calls Tryz.prog 36 #[.agg #[.slice g.RA g.rules.length g.rc, .slice g.NA g.nodes.length g.nc], .int .i64 n] w _
  cases hr : rightB g with
  | false =>
    have hv : v = false := by rw [EV.out, hr]; rfl
    rw [hr] at RR
    have HV := Lib.hid hv
    clear hv EV RK MY hr
    go_enter Tryz.func36, Tryz.ntmps36
    go_wp2_with fail
    obtain ⟨wb, ewb⟩ : ∃ u, u = w.alloc (.cells #[.slice g.RA g.rules.length g.rc, .slice g.NA g.nodes.length g.nc] 25) := ⟨_, rfl⟩
    have KB : Blk wb w.heap.size #[.slice g.RA g.rules.length g.rc, .slice g.NA g.nodes.length g.nc] 25 := by rw [ewb]; exact Blk.new _ _ _
    have BB : Below w.heap.size w wb := by rw [ewb]; exact B1 _ _
    rw [← ewb]
    clear ewb
    have g0 := KB.cell 0
    have g1 := KB.cell 1
    simp only [List.getElem?_toArray, List.getElem?_cons_zero, List.getElem?_cons_succ] at g0 g1
    have f0 := fun (e : Ext wb) => Ext.cell g0 e
    have f1 := fun (e : Ext wb) => Ext.cell g1 e
    have HB := Lib.hid BB
    have R2 := Lib.hid (fun (e : Ext wb) => RR.out e.val (bb BB e.grown))
    clear KB BB g0 g1
    refine wp_region_ext (by kernel_rfl) (by kernel_rfl) ?_
    repeat (first | go_big_quiet_step ((go_at_call 81; with_reducible exact Calls.ext_of (R2.out _))) | quiet_step ((go_at_call 81; with_reducible exact Calls.ext_of (R2.out _))))
    refine wpQuiet_nil ?_
    intro w13 hw'
    obtain ⟨⟨_, hb13⟩, rfl⟩ := hw'
    have H1 := Lib.hid (bb HB.out hb13)
    clear hb13 f0 f1
    go_wp2_with fail
    go_ret
    exact ⟨ret_bool HV.out.symm, H1.out⟩
  | true =>
    rw [hr] at RR
    have hR := rightB_true.1 hr
    have hrl := hR.rules.2
    have hnl := hR.nodes
    have RK2 := Lib.hid (RK.out hR)
    have MY1 := Lib.hid (MY.out hR)
    by_cases h0 : n < 0
    · have h0' : ¬ 0 ≤ n := by omega
      have hd : decide (0 ≤ n) = false := by simp; omega
      have hv : v = false := by rw [EV.out]; simp; omega
      have HV := Lib.hid hv
      clear hv EV RK MY MY1 hr hR
      go_enter Tryz.func36, Tryz.ntmps36
      go_wp2_with fail
      obtain ⟨wb, ewb⟩ : ∃ u, u = w.alloc (.cells #[.slice g.RA g.rules.length g.rc, .slice g.NA g.nodes.length g.nc] 25) := ⟨_, rfl⟩
      have KB : Blk wb w.heap.size #[.slice g.RA g.rules.length g.rc, .slice g.NA g.nodes.length g.nc] 25 := by rw [ewb]; exact Blk.new _ _ _
      have BB : Below w.heap.size w wb := by rw [ewb]; exact B1 _ _
      rw [← ewb]
      clear ewb
      have g0 := KB.cell 0
      have g1 := KB.cell 1
      simp only [List.getElem?_toArray, List.getElem?_cons_zero, List.getElem?_cons_succ] at g0 g1
      have f0 := fun (e : Ext wb) => Ext.cell g0 e
      have f1 := fun (e : Ext wb) => Ext.cell g1 e
      have HB := Lib.hid BB
      have R2 := Lib.hid (fun (e : Ext wb) => RR.out e.val (bb BB e.grown))
      clear KB BB g0 g1
      refine wp_region_ext (by kernel_rfl) (by kernel_rfl) ?_
      repeat (first | go_big_quiet_step ((go_at_call 81; with_reducible exact Calls.ext_of (R2.out _))) | quiet_step ((go_at_call 81; with_reducible exact Calls.ext_of (R2.out _))))
      refine wpQuiet_nil ?_
      intro w13 hw'
      obtain ⟨⟨_, hb13⟩, rfl⟩ := hw'
      have H1 := Lib.hid (bb HB.out hb13)
      clear hb13 f0 f1
      go_wp2_with fail
      go_ret
      exact ⟨ret_bool HV.out.symm, H1.out⟩
    · by_cases h1 : (g.nodes.length : Int) ≤ n
      · have h1' : ¬ n < (g.nodes.length : Int) := by omega
        have h0' : 0 ≤ n := by omega
        have hd : decide (0 ≤ n) = true := by simp; omega
        have hd2 : decide (n < (g.nodes.length : Int)) = false := by simp; omega
        have hv : v = false := by rw [EV.out]; simp; omega
        have HV := Lib.hid hv
        clear hv EV RK MY MY1 hr hR
        go_enter Tryz.func36, Tryz.ntmps36
        go_wp2_with fail
        obtain ⟨wb, ewb⟩ : ∃ u, u = w.alloc (.cells #[.slice g.RA g.rules.length g.rc, .slice g.NA g.nodes.length g.nc] 25) := ⟨_, rfl⟩
        have KB : Blk wb w.heap.size #[.slice g.RA g.rules.length g.rc, .slice g.NA g.nodes.length g.nc] 25 := by rw [ewb]; exact Blk.new _ _ _
        have BB : Below w.heap.size w wb := by rw [ewb]; exact B1 _ _
        rw [← ewb]
        clear ewb
        have g0 := KB.cell 0
        have g1 := KB.cell 1
        simp only [List.getElem?_toArray, List.getElem?_cons_zero, List.getElem?_cons_succ] at g0 g1
        have f0 := fun (e : Ext wb) => Ext.cell g0 e
        have f1 := fun (e : Ext wb) => Ext.cell g1 e
        have HB := Lib.hid BB
        have R2 := Lib.hid (fun (e : Ext wb) => RR.out e.val (bb BB e.grown))
        clear KB BB g0 g1
        refine wp_region_ext (by kernel_rfl) (by kernel_rfl) ?_
        repeat (first | go_big_quiet_step ((go_at_call 81; with_reducible exact Calls.ext_of (R2.out _))) | quiet_step ((go_at_call 81; with_reducible exact Calls.ext_of (R2.out _))))
        refine wpQuiet_nil ?_
        intro w13 hw'
        obtain ⟨⟨_, hb13⟩, rfl⟩ := hw'
        have H1 := Lib.hid (bb HB.out hb13)
        clear hb13 f0 f1
        go_wp2_with fail
        go_ret
        exact ⟨ret_bool HV.out.symm, H1.out⟩
      · obtain ⟨k, rfl⟩ : ∃ k : Nat, n = k := ⟨n.toNat, by omega⟩
        have hk : k < g.nodes.length := by omega
        have hk2 : (k : Int) < g.nodes.length := by omega
        have h0' : (0 : Int) ≤ k := by omega
        have hv : v = mayN g.nodes (inB (ranks g)) k := by rw [EV.out, hr]; simp [hk]
        have MY2 := Lib.hid (show ∀ W, Below w.heap.size w W → ∀ b : Nat, Lies W (some ⟨b, 0, none⟩) (ints (ranks g)) → Calls Tryz.prog 82 #[.agg #[.slice g.RA g.rules.length g.rc, .slice g.NA g.nodes.length g.nc], .int .i64 k, .slice (some ⟨b, 0, none⟩) g.rules.length g.rules.length, .int .i64 1073741824] W fun e w' => e = .returned (.bool v) ∧ Below W.heap.size W w' from fun W eg b hA => by
          have := MY1.out W eg (some ⟨b, 0, none⟩) g.rules.length (ranks g) LN.out.symm 1073741824 k hk hA
          rw [low_top (by omega), ← hv] at this
          exact this)
        clear hv EV RK MY MY1 hr hR
        have KB0 : RowKit.Hid (Blk (World.drew (w.alloc (.cells #[.slice g.RA g.rules.length g.rc, .slice g.NA g.nodes.length g.nc] 25))) w.heap.size #[.slice g.RA g.rules.length g.rc, .slice g.NA g.nodes.length g.nc] 25) := Lib.hid (by unfold Blk; exact Blk.new w #[.slice g.RA g.rules.length g.rc, .slice g.NA g.nodes.length g.nc] 25)
        have k0 := KB0.out.cell 0
        have k1 := KB0.out.cell 1
        simp only [List.getElem?_toArray, List.getElem?_cons_zero, List.getElem?_cons_succ] at k0 k1
        go_enter Tryz.func36, Tryz.ntmps36
        go_wp2_with fail
        go_region_held3 (fun W => W.cell? ⟨w.heap.size, 0, none⟩ = some (.slice g.RA g.rules.length g.rc) ∧ W.cell? ⟨w.heap.size, 1, none⟩ = some (.slice g.NA g.nodes.length g.nc) ∧ Below w.heap.size w W) (first | exact ⟨k0, k1, bdrew1 (B1 _ _)⟩ | exact ⟨m0, m1, M⟩ | exact ⟨g0, g1, H1⟩ | exact ⟨p0, p1, H3⟩) (first | (go_at_call 81; with_reducible refine (RR.out _ (by exact bdrew1 (B1 _ _))).mono ?_; rintro e w1 ⟨rfl, hb⟩; have H1 : Below w.heap.size w w1 := bb (bdrew1 (B1 w _)) hb; have KB := Lib.hid (Blk.below' KB0.out hb); have g0 := KB.out.cell 0; have g1 := KB.out.cell 1; simp only [List.getElem?_toArray, List.getElem?_cons_zero, List.getElem?_cons_succ] at g0 g1; clear hb) | (go_at_call 83; (with_reducible refine (RK2.out _ H1).mono ?_); rintro e w2 ⟨⟨b, rfl, ho⟩, hb⟩; have L2 := Lib.hid (own_lies1 ho); have M : Below w.heap.size w w2 := bb H1 hb; have KB2 := Lib.hid (KB.out.below' hb); have m0 := KB2.out.cell 0; have m1 := KB2.out.cell 1; simp only [List.getElem?_toArray, List.getElem?_cons_zero, List.getElem?_cons_succ] at m0 m1; clear hb ho) | (go_at_call 82; (with_reducible refine (MY2.out _ M _ L2.out).mono ?_); rintro e w3 ⟨rfl, hb⟩; have H3 : Below w.heap.size w w3 := bb M hb; have p0 := (KB2.out.below' hb).cell 0; have p1 := (KB2.out.below' hb).cell 1; simp only [List.getElem?_toArray, List.getElem?_cons_zero, List.getElem?_cons_succ] at p0 p1; clear hb))
        all_goals (go_wp2_with fail; go_ret; exact ⟨rfl, H3⟩)
end Go.Proofs.YtjelgmdjmjnnfaaGreat
namespace Go.Proofs.YtjelgmdjmjnnfaaGreat
open Go Go.RowKit Go.Maps
set_option maxRecDepth 100000 in
set_option maxHeartbeats 4000000 in
theorem put_ints (B bb : Nat) (c0 c1 lv : Value) (cs : List Value) (vs : List Value) (A : Option Addr) (n c : Nat) (w : World) (hB : B ≤ w.heap.size) (hb : Blk w bb (c0 :: c1 :: lv :: cs).toArray 101) (ho : w.ownsRow B 41 1 lv vs.length vs) (hn : vs.length ≤ 100000) :
    Calls Tryz.prog 86 #[.pointer (some ⟨bb, 0, none⟩), .slice A n c] w fun e w' => e = .returned (.tuple #[]) ∧ ∃ lv' w1, w1.ownsRow B 41 1 lv' (vs.length + 1) (vs ++ [.slice A n c]) ∧ (w.alloc (.cells #[.slice A n c] 41)).grownBy w1 lv.ownBlock ∧ Blk w1 bb (c0 :: c1 :: lv :: cs).toArray 101 ∧ w' = w1.setCell ⟨bb, 2, none⟩ lv' := by
  obtain ⟨i1, ji, jz0, jz1, jz2⟩ := info_parts Tryz.info_s
  obtain ⟨A0, d0, e0, _, _⟩ := own_slice ho
  subst e0
  have HBB := Lib.hid hb
  have k2 := hb.cell 2
  simp only [List.getElem?_toArray, List.getElem?_cons_zero, List.getElem?_cons_succ] at k2
  have B1' := Lib.hid (B1 w (.cells #[.slice A n c] 41))
  have O1 := Lib.hid (own_below ho B1'.out)
  have hHB := hB
  have HO := Lib.hid ho
  clear hb ho
  go_enter Tryz.func86, Tryz.ntmps86
  go_wp2_with (at_builtin; refine wpList_append_view rfl _ _ 54 rfl B 41 i1 (.slice none 0 0) 1 24 Tryz.underlying54 ji jz0 jz1 jz2 rfl (by decide) _ _ _ rfl O1.out ⟨w.heap.size, 0, none⟩ 1 1 [.slice A n c] rfl rfl (cell_one_new _ _ _) (by simp [Value.oneCell']) (by unfold maxLen; omega) (by omega) (by simp; omega) ?_; intro lv' w1 hown hview hgrow hcase; obtain ⟨Ag, cg, eg, _, _⟩ := own_slice hown; subst eg; have OW := Lib.hid hown; have GW := Lib.hid hgrow; have KB := Lib.hid ((HBB.out.below' B1'.out).grown hgrow (fun e => own_ne O1.out (HBB.out.below' B1'.out) (by decide) e.symm)); have ck := KB.out.cell 2; have fk := KB.out.frozen 2; simp only [List.getElem?_toArray, List.getElem?_cons_zero, List.getElem?_cons_succ] at ck; clear hown hview hgrow hcase)
  refine bodyPost_end (results_none rfl _ _ _) rfl ?_
  exact ⟨rfl, _, _, OW.out, GW.out, KB.out, rfl⟩
end Go.Proofs.YtjelgmdjmjnnfaaGreat

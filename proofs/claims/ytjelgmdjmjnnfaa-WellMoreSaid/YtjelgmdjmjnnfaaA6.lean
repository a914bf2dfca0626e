/- A grammar measured; whether it is right. -/
import Derived.Test.YtjelgmdjmjnnfaaA5
set_option linter.unusedSimpArgs false
set_option linter.unusedVariables false
namespace Go.Proofs.Ytjelgmdjmjnnfaa
open Go Go.RowKit
def MeasEnd (w : World) (g : Gr) (e : Ending) (w' : World) : Prop :=
  ∃ v, e = .returned (.tuple #[v, .bool (rightB g)]) ∧ Below w.heap.size w w' ∧ (rightB g = true → ∃ ms, Measured g.nodes ms 0 ∧ MeasAt w' v g.nodes.length ms) ∧ (rightB g = false → v = .slice none 0 0)
theorem measEnd_no {w w' : World} {g : Gr} (h : rightB g = false) (hb : Below w.heap.size w w') : MeasEnd w g (.returned (.tuple #[.slice none 0 0, .bool false])) w' :=
  ⟨_, by rw [h], hb, (fun e => by rw [h] at e; cases e), (fun _ => rfl)⟩
theorem namedB_iff {l : List Rl} : namedB l = true ↔ Named l := by unfold namedB; simp
theorem allB_iff {l : List Nd} {r : Int} : allB l r = true ↔ AllRight l r := by unfold allB; simp
theorem bodB_congr {l : List Nd} {ms ms' : Nat → Meas} {r : List Rl} (h : Measured l ms 0) (h' : Measured l ms' 0) : bodB l.length ms r = bodB l.length ms' r := by
  unfold bodB
  rw [bodies_congr (fun m hl => (h m (by omega) hl).1) (measured_eq h h') r 0 (by omega)]
set_option maxRecDepth 100000 in
set_option maxHeartbeats 4000000 in
theorem measured_any (g : Gr) (w : World) (hg : Gr.At w g) (hin : Gr.In g) : Calls Try.prog 30 #[g.val] w (MeasEnd w g) := by
  have hr := hg.rl
  have hn := hg.nl
  have NM := Lib.hid (fun (w' : World) (b : Below w.heap.size w w') => named_any g w' (hg.below b) hg.rl)
  have AL := Lib.hid (fun (w' : World) (b : Below w.heap.size w w') => allRight_any g w' (hg.below b) hin)
  by_cases h1 : 1 ≤ g.rules.length ∧ g.rules.length ≤ 32
  · have hd : decide ((1 : Int) ≤ g.rules.length ∧ (g.rules.length : Int) ≤ 32) = true := by simp; omega
    have W33 := Lib.hid (fun w => by have := within_any 1 g.rules.length 32 w; rw [hd] at this; exact this)
    by_cases h2 : g.nodes.length ≤ 2048
    · have h2' : ¬ (2048 : Int) < g.nodes.length := by omega
      have h2'' : (g.nodes.length : Int) ≤ 2048 := by omega
      have PR := Lib.hid (fun (w' : World) (b : Below w.heap.size w w') => pre_any g.NA g.nc g.nodes h2 w' (hg.below b).nodes (hg.below b).kids)
      have BO := Lib.hid (fun (gb : Nat) (ms : Nat → Meas) (hm : Measured g.nodes ms 0) (w' : World) (b : Below w.heap.size w w') (hM : MeasAt w' (.slice (some ⟨gb, 0, none⟩) g.nodes.length g.nodes.length) g.nodes.length ms) => bodied_any g.RA g.rc g.rules hg.rl gb g.nodes.length ms h2 (fun i hi => ⟨(hm i (by omega) hi).1, (hm i (by omega) hi).2.1, (hm i (by omega) hi).2.2.1⟩) w' (hg.below b).rules hM)
      have RI := Lib.hid (show rightB g = true ↔ (namedB g.rules = true ∧ allB g.nodes g.rules.length = true ∧ ∃ ms, Measured g.nodes ms 0 ∧ bodB g.nodes.length ms g.rules = true) from by
        rw [rightB_true, namedB_iff, allB_iff]
        unfold bodB
        simp only [decide_eq_true_eq]
        exact ⟨fun h => ⟨h.named, h.all, h.pre⟩, fun ⟨a, b, c⟩ => ⟨h1, h2, a, b, c⟩⟩)
      have PI := Lib.hid (preB_true (l := g.nodes))
      obtain ⟨nb, enb⟩ : ∃ b, b = namedB g.rules := ⟨_, rfl⟩
      obtain ⟨ab, eab⟩ : ∃ b, b = allB g.nodes g.rules.length := ⟨_, rfl⟩
      rw [← enb] at NM RI
      rw [← eab] at AL RI
      clear hd enb eab h1 h2 hg hin
      cases nb with
      | false =>
        have HF : RowKit.Hid (rightB g = false) := Lib.hid (by rw [Bool.eq_false_iff]; intro h; have := (RI.out.1 h).1; cases this)
        go_enter Try.func30, Try.ntmps30
        go_wp2_with (first | (go_at_call 53; refine (W33.out _).mono ?_; rintro e w1 ⟨rfl, rfl⟩) | (go_at_call 54; refine (NM.out _ (B1 _ _)).mono ?_; rintro e w1 ⟨rfl, hb⟩; have H1 := Lib.hid (bb (B1 w _) hb); clear hb))
        go_ret2
        exact measEnd_no HF.out H1.out
      | true =>
        cases ab with
        | false =>
          have HF : RowKit.Hid (rightB g = false) := Lib.hid (by rw [Bool.eq_false_iff]; intro h; have := (RI.out.1 h).2.1; cases this)
          go_enter Try.func30, Try.ntmps30
          go_wp2_with (first | (go_at_call 53; refine (W33.out _).mono ?_; rintro e w1 ⟨rfl, rfl⟩) | (go_at_call 54; refine (NM.out _ (B1 _ _)).mono ?_; rintro e w1 ⟨rfl, hb⟩; have H1 := Lib.hid (bb (B1 w _) hb); have d0 := ((Blk.new w _ _).below' hb).cell 0; have d1 := ((Blk.new w _ _).below' hb).cell 1; simp only [List.getElem?_toArray, List.getElem?_cons_zero, List.getElem?_cons_succ] at d0 d1; clear hb) | (go_at_call 55; refine (AL.out _ H1.out).mono ?_; rintro e w2 ⟨rfl, hb⟩; have H2 := Lib.hid (bb H1.out hb); clear hb))
          go_ret2
          exact measEnd_no HF.out H2.out
        | true =>
          cases hp : preB g.nodes with
          | false =>
            have HF : RowKit.Hid (rightB g = false) := Lib.hid (by rw [Bool.eq_false_iff]; intro h; obtain ⟨ms, h3, _⟩ := (RI.out.1 h).2.2; exact preB_false.1 hp ⟨ms, h3⟩)
            have HP := Lib.hid hp
            clear hp
            go_enter Try.func30, Try.ntmps30
            go_wp2_with (first | (go_at_call 53; refine (W33.out _).mono ?_; rintro e w1 ⟨rfl, rfl⟩) | (go_at_call 54; refine (NM.out _ (B1 _ _)).mono ?_; rintro e w1 ⟨rfl, hb⟩; have H1 := Lib.hid (bb (B1 w _) hb); have K1 := Lib.hid ((Blk.new w _ _).below' hb); have d0 := K1.out.cell 0; have d1 := K1.out.cell 1; simp only [List.getElem?_toArray, List.getElem?_cons_zero, List.getElem?_cons_succ] at d0 d1; clear hb) | (go_at_call 55; refine (AL.out _ H1.out).mono ?_; rintro e w2 ⟨rfl, hb⟩; have H2 := Lib.hid (bb H1.out hb); have e1 := (K1.out.below' hb).cell 1; simp only [List.getElem?_toArray, List.getElem?_cons_zero, List.getElem?_cons_succ] at e1; clear hb) | (go_at_call 56; refine (PR.out _ H2.out).mono ?_; rintro e w3 ⟨v, rfl, hb, _, hv⟩; obtain rfl := hv HP.out; have H3 := Lib.hid (bb H2.out hb); have hpf := HP.out; clear hb hv))
            go_ret2
            exact measEnd_no HF.out H3.out
          | true =>
            have HP := Lib.hid hp
            clear hp
            go_enter Try.func30, Try.ntmps30
            go_wp2_with (first | (go_at_call 53; refine (W33.out _).mono ?_; rintro e w1 ⟨rfl, rfl⟩) | (go_at_call 54; refine (NM.out _ (B1 _ _)).mono ?_; rintro e w1 ⟨rfl, hb⟩; have H1 := Lib.hid (bb (B1 w _) hb); have K1 := Lib.hid ((Blk.new w _ _).below' hb); have d0 := K1.out.cell 0; have d1 := K1.out.cell 1; simp only [List.getElem?_toArray, List.getElem?_cons_zero, List.getElem?_cons_succ] at d0 d1; clear hb) | (go_at_call 55; refine (AL.out _ H1.out).mono ?_; rintro e w2 ⟨rfl, hb⟩; have H2 := Lib.hid (bb H1.out hb); have K2 := Lib.hid (K1.out.below' hb); have e1 := K2.out.cell 1; simp only [List.getElem?_toArray, List.getElem?_cons_zero, List.getElem?_cons_succ] at e1; clear hb) | (go_at_call 56; refine (PR.out _ H2.out).mono ?_; rintro e w3 ⟨v, rfl, hb, hv, _⟩; obtain ⟨ms, hm, gb, rfl, hgl, hmc⟩ := hv HP.out; have HM := Lib.hid hm; have MA : RowKit.Hid (MeasAt w3 (.slice (some ⟨gb, 0, none⟩) g.nodes.length g.nodes.length) g.nodes.length ms) := Lib.hid ⟨gb, rfl, hgl, hmc⟩; have H3 := Lib.hid (bb H2.out hb); have f0 := (K2.out.below' hb).cell 0; simp only [List.getElem?_toArray, List.getElem?_cons_zero, List.getElem?_cons_succ] at f0; have hpf := HP.out; clear hb hv hm hmc) | (go_at_call 57; refine (BO.out gb ms HM.out _ H3.out MA.out).mono ?_; rintro e w4 ⟨rfl, hb⟩; have H4 := Lib.hid (bb H3.out hb); have M4 := Lib.hid (MA.out.below hb); clear hb f0 e1 d0 d1))
            all_goals go_ret2
            · have hbo : bodB g.nodes.length ms g.rules = false := by have h : (!bodB g.nodes.length ms g.rules) = true := (by assumption); simpa using h
              refine measEnd_no ?_ H4.out
              rw [Bool.eq_false_iff]
              intro h
              obtain ⟨ms', h3, h4⟩ := (RI.out.1 h).2.2
              rw [bodB_congr h3 HM.out, hbo] at h4
              cases h4
            · have hbo : bodB g.nodes.length ms g.rules = true := by have h : (!bodB g.nodes.length ms g.rules) = false := (by assumption); simpa using h
              have HR : rightB g = true := RI.out.2 ⟨by first | rfl | trivial, by first | rfl | trivial, ms, HM.out, hbo⟩
              refine ⟨.slice (some ⟨gb, 0, none⟩) g.nodes.length g.nodes.length, ?_, H4.out, (fun _ => ⟨ms, HM.out, M4.out⟩), (fun e => by rw [HR] at e; cases e)⟩
              rw [HR]
              rfl
    · have h2' : (2048 : Int) < g.nodes.length := by omega
      have HF : RowKit.Hid (rightB g = false) := Lib.hid (rightB_false.2 fun h => h2 h.nodes)
      clear h2 hd hg hin NM AL h1
      go_enter Try.func30, Try.ntmps30
      go_wp2_with (go_at_call 53; refine (W33.out _).mono ?_; rintro e w1 ⟨rfl, rfl⟩)
      go_ret2
      exact measEnd_no HF.out (B1 _ _)
  · have hd : decide ((1 : Int) ≤ g.rules.length ∧ (g.rules.length : Int) ≤ 32) = false := by simp; omega
    have W33 := Lib.hid (fun w => by have := within_any 1 g.rules.length 32 w; rw [hd] at this; exact this)
    have HF : RowKit.Hid (rightB g = false) := Lib.hid (rightB_false.2 fun h => h1 h.rules)
    clear h1 hd hg hin NM AL
    go_enter Try.func30, Try.ntmps30
    go_wp2_with (go_at_call 53; refine (W33.out _).mono ?_; rintro e w1 ⟨rfl, rfl⟩)
    go_ret2
    exact measEnd_no HF.out (B1 _ _)
theorem right_all (g : Gr) (w : World) (hg : Gr.At w g) (hin : Gr.In g) : Calls Try.prog 9 #[g.val] w fun e w' => e = .returned (.bool (rightB g)) ∧ Below w.heap.size w w' := by
  have M := Lib.hid (fun (w' : World) (b : Below w.heap.size w w') => measured_any g w' (hg.below b) hin)
  clear hg hin
  go_enter Try.func9, Try.ntmps9
  go_wp2_with (go_at_call 30; refine (M.out _ (B1 _ _)).mono ?_; rintro e w1 ⟨v, rfl, hb, _, _⟩; have H1 := Lib.hid (bb (B1 w _) hb); clear hb)
  go_ret
  exact ⟨rfl, H1.out⟩
/-- What is told of a node: how many nodes it has, its height. -/
noncomputable def measOf (g : Gr) (n : Int) : Meas := by
  classical exact if h : ∃ ms, Right g ∧ Measured g.nodes ms 0 ∧ 0 ≤ n ∧ n < g.nodes.length then (Classical.choose h) n.toNat else (0, 0)
theorem measOf_yes {g : Gr} {ms : Nat → Meas} (hr : Right g) (hm : Measured g.nodes ms 0) {n : Nat} (hn : n < g.nodes.length) : measOf g n = ms n := by
  have h : ∃ ms, Right g ∧ Measured g.nodes ms 0 ∧ (0 : Int) ≤ n ∧ (n : Int) < g.nodes.length := ⟨ms, hr, hm, by omega, by omega⟩
  unfold measOf
  rw [dif_pos h, Int.toNat_natCast]
  exact measured_eq (Classical.choose_spec h).2.1 hm n hn
theorem measOf_no {g : Gr} {n : Int} (h : ¬ (Right g ∧ 0 ≤ n ∧ n < g.nodes.length)) : measOf g n = (0, 0) := by
  unfold measOf
  rw [dif_neg (fun ⟨_, a, _, b, c⟩ => h ⟨a, b, c⟩)]
@[go_sem] theorem field76_0 (x y : Int) (w : World) : (Instr.field 86 (.agg #[.int .i64 x, .int .i64 y]) 0).run Try.prog w = .ok (.int .i64 x) w := by kernel_rfl
@[go_sem] theorem field76_1 (x y : Int) (w : World) : (Instr.field 86 (.agg #[.int .i64 x, .int .i64 y]) 1).run Try.prog w = .ok (.int .i64 y) w := by kernel_rfl
theorem res52 {tmps : Array Value} {w : World} {b : Nat} {x y : Value} (hp : tmps.getD 4 undef = .pointer (some ⟨b, 0, none⟩)) (hb : Blk w b #[x, y] 86) : (results Try.f44 tmps).run Try.prog w = .ok (.agg #[x, y]) w :=
  results_cell_row rfl tmps w b 86 #[x, y] (0, 0) _ hp hb Try.underlying86 rfl (by kernel_rfl)
set_option maxRecDepth 100000 in
set_option maxHeartbeats 2000000 in
theorem measureAt_any (g : Gr) (n : Int) (w : World) (hg : Gr.At w g) (hin : Gr.In g) : Calls Try.prog 44 #[g.val, .int .i64 n] w fun e w' => e = .returned (.agg #[.int .i64 (measOf g n).1, .int .i64 (measOf g n).2]) ∧ Below w.heap.size w w' := by
  have M := Lib.hid (fun (w' : World) (b : Below w.heap.size w w') => measured_any g w' (hg.below b) hin)
  have hnl := hg.nl
  clear hg hin
  by_cases hyes : Right g ∧ 0 ≤ n ∧ n < g.nodes.length
  · obtain ⟨hr, h0, h1⟩ := hyes
    obtain ⟨k, rfl⟩ : ∃ k : Nat, n = k := ⟨n.toNat, by omega⟩
    have hk : k < g.nodes.length := by omega
    have hkn : ¬ g.nodes.length ≤ k := by omega
    have HR := Lib.hid (rightB_true.2 hr)
    have MY := Lib.hid (fun ms (hm : Measured g.nodes ms 0) => measOf_yes hr hm hk)
    clear hr
    go_enter Try.func44, Try.ntmps44
    go_wp2_with (first | (go_at_call 30; refine (M.out _ (B2 _ _ _)).mono ?_; rintro e w1 ⟨v, rfl, hb, hv, _⟩; obtain ⟨ms, hm, gb, rfl, hgl, hmc⟩ := hv HR.out; obtain ⟨d1, d2⟩ := hmc k hk; have HE := Lib.hid (MY.out ms hm); have KB := Lib.hid (by have := (Blk.new (w.alloc _) _ _).below' hb; rw [World.size_alloc] at this; exact this); have H1 := Lib.hid (bb (B2 w _ _) hb); clear hb hv hm hmc) | (refine wpList_store_row rfl 86 (.tmp 4) (.tmp 24) rfl (w.heap.size + 1) _ rfl rfl 86 _ KB.out (by kernel_rfl) (by rfl) (by simp [Value.oneCell']) ?_))
    rw [HE.out]
    exact bodyPost_ret (res52 rfl KB.out.setRow) rfl ⟨rfl, bset H1.out (by omega)⟩
  · have HN := Lib.hid (measOf_no hyes)
    rw [HN.out]
    cases hr : rightB g with
    | true =>
      have HR := Lib.hid hr
      have hn : n < 0 ∨ (g.nodes.length : Int) ≤ n := by
        by_cases h : n < 0
        · exact .inl h
        · refine .inr ?_
          by_cases h2 : (g.nodes.length : Int) ≤ n
          · exact h2
          · exact absurd ⟨rightB_true.1 hr, by omega, by omega⟩ hyes
      clear hr hyes
      rcases hn with hn | hn
      · go_enter Try.func44, Try.ntmps44
        go_wp2_with (first | (go_at_call 30; refine (M.out _ (B2 _ _ _)).mono ?_; rintro e w1 ⟨v, rfl, hb, hv, _⟩; obtain ⟨ms, hm, gb, rfl, hgl, hmc⟩ := hv HR.out; have KB := Lib.hid (by have := (Blk.new (w.alloc _) _ _).below' hb; rw [World.size_alloc] at this; exact this); have H1 := Lib.hid (bb (B2 w _ _) hb); clear hb hv hm hmc) | (refine wpList_store_row rfl 86 (.tmp 4) (.tmp 20) rfl (w.heap.size + 1) _ rfl rfl 86 _ KB.out (by kernel_rfl) (by rfl) (by simp [Value.oneCell']) ?_))
        exact bodyPost_ret (res52 rfl KB.out.setRow) rfl ⟨rfl, bset H1.out (by omega)⟩
      · have hn0 : ¬ n < 0 := by omega
        go_enter Try.func44, Try.ntmps44
        go_wp2_with (first | (go_at_call 30; refine (M.out _ (B2 _ _ _)).mono ?_; rintro e w1 ⟨v, rfl, hb, hv, _⟩; obtain ⟨ms, hm, gb, rfl, hgl, hmc⟩ := hv HR.out; have KB := Lib.hid (by have := (Blk.new (w.alloc _) _ _).below' hb; rw [World.size_alloc] at this; exact this); have H1 := Lib.hid (bb (B2 w _ _) hb); clear hb hv hm hmc) | (refine wpList_store_row rfl 86 (.tmp 4) (.tmp 20) rfl (w.heap.size + 1) _ rfl rfl 86 _ KB.out (by kernel_rfl) (by rfl) (by simp [Value.oneCell']) ?_))
        exact bodyPost_ret (res52 rfl KB.out.setRow) rfl ⟨rfl, bset H1.out (by omega)⟩
    | false =>
      have HR := Lib.hid hr
      clear hr hyes
      by_cases hn : n < 0
      · go_enter Try.func44, Try.ntmps44
        go_wp2_with (first | (go_at_call 30; refine (M.out _ (B2 _ _ _)).mono ?_; rintro e w1 ⟨v, rfl, hb, _, hv⟩; obtain rfl := hv HR.out; have KB := Lib.hid (by have := (Blk.new (w.alloc _) _ _).below' hb; rw [World.size_alloc] at this; exact this); have H1 := Lib.hid (bb (B2 w _ _) hb); clear hb hv) | (refine wpList_store_row rfl 86 (.tmp 4) (.tmp 20) rfl (w.heap.size + 1) _ rfl rfl 86 _ KB.out (by kernel_rfl) (by rfl) (by simp [Value.oneCell']) ?_))
        exact bodyPost_ret (res52 rfl KB.out.setRow) rfl ⟨rfl, bset H1.out (by omega)⟩
      · have hn0 : (0 : Int) ≤ n := by omega
        go_enter Try.func44, Try.ntmps44
        go_wp2_with (first | (go_at_call 30; refine (M.out _ (B2 _ _ _)).mono ?_; rintro e w1 ⟨v, rfl, hb, _, hv⟩; obtain rfl := hv HR.out; have KB := Lib.hid (by have := (Blk.new (w.alloc _) _ _).below' hb; rw [World.size_alloc] at this; exact this); have H1 := Lib.hid (bb (B2 w _ _) hb); clear hb hv) | (refine wpList_store_row rfl 86 (.tmp 4) (.tmp 20) rfl (w.heap.size + 1) _ rfl rfl 86 _ KB.out (by kernel_rfl) (by rfl) (by simp [Value.oneCell']) ?_))
        exact bodyPost_ret (res52 rfl KB.out.setRow) rfl ⟨rfl, bset H1.out (by omega)⟩
set_option maxRecDepth 100000 in
theorem size_of (g : Gr) (n : Int) (w : World) (hg : Gr.At w g) (hin : Gr.In g) : Calls Try.prog 41 #[g.val, .int .i64 n] w fun e w' => e = .returned (.int .i64 (measOf g n).1) ∧ Below w.heap.size w w' := by
  have M := Lib.hid (fun (w' : World) (b : Below w.heap.size w w') => measureAt_any g n w' (hg.below b) hin)
  clear hg hin
  go_enter Try.func41, Try.ntmps41
  go_wp2_with (go_at_call 44; refine (M.out _ (B1 _ _)).mono ?_; rintro e w1 ⟨rfl, hb⟩; have H1 := Lib.hid (bb (B1 w _) hb); clear hb)
  go_ret
  exact ⟨rfl, H1.out⟩
set_option maxRecDepth 100000 in
theorem height_of (g : Gr) (n : Int) (w : World) (hg : Gr.At w g) (hin : Gr.In g) : Calls Try.prog 22 #[g.val, .int .i64 n] w fun e w' => e = .returned (.int .i64 (measOf g n).2) ∧ Below w.heap.size w w' := by
  have M := Lib.hid (fun (w' : World) (b : Below w.heap.size w w') => measureAt_any g n w' (hg.below b) hin)
  clear hg hin
  go_enter Try.func22, Try.ntmps22
  go_wp2_with (go_at_call 44; refine (M.out _ (B1 _ _)).mono ?_; rintro e w1 ⟨rfl, hb⟩; have H1 := Lib.hid (bb (B1 w _) hb); clear hb)
  go_ret
  exact ⟨rfl, H1.out⟩
end Go.Proofs.Ytjelgmdjmjnnfaa

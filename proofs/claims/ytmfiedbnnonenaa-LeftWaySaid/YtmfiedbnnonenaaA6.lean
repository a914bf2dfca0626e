/- A grammar measured; whether it is right. -/
import Derived.Test.YtmfiedbnnonenaaA5
set_option linter.unusedSimpArgs false
set_option linter.unusedVariables false
namespace Go.Proofs.Ytmfiedbnnonenaa
open Go Go.RowKit
def MeasEnd (w : World) (g : Gr) (e : Ending) (w' : World) : Prop :=
  ∃ v, e = .returned (.tuple #[v, .bool (rightB g)]) ∧ Below w.heap.size w w' ∧ (rightB g = true → ∃ ms, Measured g.nodes ms 0 ∧ MeasAt w' v g.nodes.length ms) ∧ (rightB g = false → v = .slice none 0 0)
theorem measEnd_no {w w' : World} {g : Gr} (h : rightB g = false) (hb : Below w.heap.size w w') : MeasEnd w g (.returned (.tuple #[.slice none 0 0, .bool false])) w' :=
  ⟨_, by rw [h], hb, (fun e => by rw [h] at e; cases e), (fun _ => rfl)⟩
theorem namedB_iff {l : List Rl} : namedB l = true ↔ Named l := by unfold namedB; simp
theorem allB_iff {l : List Nd} {r : Int} : allB l r = true ↔ AllRight l r := by unfold allB; simp
theorem bodB_congr {l : List Nd} {ms ms' : Nat → Meas} {r : List Rl} (h : Measured l ms 0) (h' : Measured l ms' 0) : bodB l.length ms r = bodB l.length ms' r := by
  unfold bodB
  rw [bodies_congr (fun m hl => (h m (by omega) hl).1) (measured_eq h h') r 0 (by omega)]
set_option maxRecDepth 100000 in
set_option maxHeartbeats 4000000 in
theorem measured_any (g : Gr) (w : World) (hg : Gr.At w g) (hin : Gr.In g) : Calls Try.prog 59 #[g.val] w (MeasEnd w g) := by
  have hr := hg.rl
  have hn := hg.nl
  have NM := Lib.hid (fun (w' : World) (b : Below w.heap.size w w') => named_any g w' (hg.below b) hg.rl)
  have AL := Lib.hid (fun (w' : World) (b : Below w.heap.size w w') => allRight_any g w' (hg.below b) hin)
  by_cases h1 : 1 ≤ g.rules.length ∧ g.rules.length ≤ 32
  · have hd : decide ((1 : Int) ≤ g.rules.length ∧ (g.rules.length : Int) ≤ 32) = true := by simp; omega
    have W33 := Lib.hid (fun w => by have := within_any 1 g.rules.length 32 w; rw [hd] at this; exact this)
    by_cases h2 : g.nodes.length ≤ 2048
    · have h2' : ¬ (2048 : Int) < g.nodes.length := by omega
      have h2'' : (g.nodes.length : Int) ≤ 2048 := by omega
      have PR := Lib.hid (fun (w' : World) (b : Below w.heap.size w w') => pre_any g.NA g.nc g.nodes h2 w' (hg.below b).nodes (hg.below b).kids)
      have BO := Lib.hid (fun (gb : Nat) (ms : Nat → Meas) (hm : Measured g.nodes ms 0) (w' : World) (b : Below w.heap.size w w') (hM : MeasAt w' (.slice (some ⟨gb, 0, none⟩) g.nodes.length g.nodes.length) g.nodes.length ms) => bodied_any g.RA g.rc g.rules hg.rl gb g.nodes.length ms h2 (fun i hi => ⟨(hm i (by omega) hi).1, (hm i (by omega) hi).2.1, (hm i (by omega) hi).2.2.1⟩) w' (hg.below b).rules hM)
      have RI := Lib.hid (show rightB g = true ↔ (namedB g.rules = true ∧ allB g.nodes g.rules.length = true ∧ ∃ ms, Measured g.nodes ms 0 ∧ bodB g.nodes.length ms g.rules = true) from by
        rw [rightB_true, namedB_iff, allB_iff]
        unfold bodB
        simp only [decide_eq_true_eq]
        exact ⟨fun h => ⟨h.named, h.all, h.pre⟩, fun ⟨a, b, c⟩ => ⟨h1, h2, a, b, c⟩⟩)
      have PI := Lib.hid (preB_true (l := g.nodes))
      obtain ⟨nb, enb⟩ : ∃ b, b = namedB g.rules := ⟨_, rfl⟩
      obtain ⟨ab, eab⟩ : ∃ b, b = allB g.nodes g.rules.length := ⟨_, rfl⟩
      rw [← enb] at NM RI
      rw [← eab] at AL RI
      clear hd enb eab h1 h2 hg hin
      cases nb with
      | false =>
        have HF : RowKit.Hid (rightB g = false) := Lib.hid (by rw [Bool.eq_false_iff]; intro h; have := (RI.out.1 h).1; cases this)
        go_enter Try.func59, Try.ntmps59
        go_wp2_with (first | (go_at_call 44; refine (W33.out _).mono ?_; rintro e w1 ⟨rfl, rfl⟩) | (go_at_call 100; refine (NM.out _ (B1 _ _)).mono ?_; rintro e w1 ⟨rfl, hb⟩; have H1 := Lib.hid (bb (B1 w _) hb); clear hb))
        go_ret2
        exact measEnd_no HF.out H1.out
      | true =>
        cases ab with
        | false =>
          have HF : RowKit.Hid (rightB g = false) := Lib.hid (by rw [Bool.eq_false_iff]; intro h; have := (RI.out.1 h).2.1; cases this)
          go_enter Try.func59, Try.ntmps59
          go_wp2_with (first | (go_at_call 44; refine (W33.out _).mono ?_; rintro e w1 ⟨rfl, rfl⟩) | (go_at_call 100; refine (NM.out _ (B1 _ _)).mono ?_; rintro e w1 ⟨rfl, hb⟩; have H1 := Lib.hid (bb (B1 w _) hb); have d0 := ((Blk.new w _ _).below' hb).cell 0; have d1 := ((Blk.new w _ _).below' hb).cell 1; simp only [List.getElem?_toArray, List.getElem?_cons_zero, List.getElem?_cons_succ] at d0 d1; clear hb) | (go_at_call 101; refine (AL.out _ H1.out).mono ?_; rintro e w2 ⟨rfl, hb⟩; have H2 := Lib.hid (bb H1.out hb); clear hb))
          go_ret2
          exact measEnd_no HF.out H2.out
        | true =>
          cases hp : preB g.nodes with
          | false =>
            have HF : RowKit.Hid (rightB g = false) := Lib.hid (by rw [Bool.eq_false_iff]; intro h; obtain ⟨ms, h3, _⟩ := (RI.out.1 h).2.2; exact preB_false.1 hp ⟨ms, h3⟩)
            have HP := Lib.hid hp
            clear hp
            go_enter Try.func59, Try.ntmps59
            go_wp2_with (first | (go_at_call 44; refine (W33.out _).mono ?_; rintro e w1 ⟨rfl, rfl⟩) | (go_at_call 100; refine (NM.out _ (B1 _ _)).mono ?_; rintro e w1 ⟨rfl, hb⟩; have H1 := Lib.hid (bb (B1 w _) hb); have K1 := Lib.hid ((Blk.new w _ _).below' hb); have d0 := K1.out.cell 0; have d1 := K1.out.cell 1; simp only [List.getElem?_toArray, List.getElem?_cons_zero, List.getElem?_cons_succ] at d0 d1; clear hb) | (go_at_call 101; refine (AL.out _ H1.out).mono ?_; rintro e w2 ⟨rfl, hb⟩; have H2 := Lib.hid (bb H1.out hb); have e1 := (K1.out.below' hb).cell 1; simp only [List.getElem?_toArray, List.getElem?_cons_zero, List.getElem?_cons_succ] at e1; clear hb) | (go_at_call 102; refine (PR.out _ H2.out).mono ?_; rintro e w3 ⟨v, rfl, hb, _, hv⟩; obtain rfl := hv HP.out; have H3 := Lib.hid (bb H2.out hb); have hpf := HP.out; clear hb hv))
            go_ret2
            exact measEnd_no HF.out H3.out
          | true =>
            have HP := Lib.hid hp
            clear hp
            go_enter Try.func59, Try.ntmps59
            go_wp2_with (first | (go_at_call 44; refine (W33.out _).mono ?_; rintro e w1 ⟨rfl, rfl⟩) | (go_at_call 100; refine (NM.out _ (B1 _ _)).mono ?_; rintro e w1 ⟨rfl, hb⟩; have H1 := Lib.hid (bb (B1 w _) hb); have K1 := Lib.hid ((Blk.new w _ _).below' hb); have d0 := K1.out.cell 0; have d1 := K1.out.cell 1; simp only [List.getElem?_toArray, List.getElem?_cons_zero, List.getElem?_cons_succ] at d0 d1; clear hb) | (go_at_call 101; refine (AL.out _ H1.out).mono ?_; rintro e w2 ⟨rfl, hb⟩; have H2 := Lib.hid (bb H1.out hb); have K2 := Lib.hid (K1.out.below' hb); have e1 := K2.out.cell 1; simp only [List.getElem?_toArray, List.getElem?_cons_zero, List.getElem?_cons_succ] at e1; clear hb) | (go_at_call 102; refine (PR.out _ H2.out).mono ?_; rintro e w3 ⟨v, rfl, hb, hv, _⟩; obtain ⟨ms, hm, gb, rfl, hgl, hmc⟩ := hv HP.out; have HM := Lib.hid hm; have MA : RowKit.Hid (MeasAt w3 (.slice (some ⟨gb, 0, none⟩) g.nodes.length g.nodes.length) g.nodes.length ms) := Lib.hid ⟨gb, rfl, hgl, hmc⟩; have H3 := Lib.hid (bb H2.out hb); have f0 := (K2.out.below' hb).cell 0; simp only [List.getElem?_toArray, List.getElem?_cons_zero, List.getElem?_cons_succ] at f0; have hpf := HP.out; clear hb hv hm hmc) | (go_at_call 103; refine (BO.out gb ms HM.out _ H3.out MA.out).mono ?_; rintro e w4 ⟨rfl, hb⟩; have H4 := Lib.hid (bb H3.out hb); have M4 := Lib.hid (MA.out.below hb); clear hb f0 e1 d0 d1))
            all_goals go_ret2
            · have hbo : bodB g.nodes.length ms g.rules = false := by have h : (!bodB g.nodes.length ms g.rules) = true := (by assumption); simpa using h
              refine measEnd_no ?_ H4.out
              rw [Bool.eq_false_iff]
              intro h
              obtain ⟨ms', h3, h4⟩ := (RI.out.1 h).2.2
              rw [bodB_congr h3 HM.out, hbo] at h4
              cases h4
            · have hbo : bodB g.nodes.length ms g.rules = true := by have h : (!bodB g.nodes.length ms g.rules) = false := (by assumption); simpa using h
              have HR : rightB g = true := RI.out.2 ⟨by first | rfl | trivial, by first | rfl | trivial, ms, HM.out, hbo⟩
              refine ⟨.slice (some ⟨gb, 0, none⟩) g.nodes.length g.nodes.length, ?_, H4.out, (fun _ => ⟨ms, HM.out, M4.out⟩), (fun e => by rw [HR] at e; cases e)⟩
              rw [HR]
              rfl
    · have h2' : (2048 : Int) < g.nodes.length := by omega
      have HF : RowKit.Hid (rightB g = false) := Lib.hid (rightB_false.2 fun h => h2 h.nodes)
      clear h2 hd hg hin NM AL h1
      go_enter Try.func59, Try.ntmps59
      go_wp2_with (go_at_call 44; refine (W33.out _).mono ?_; rintro e w1 ⟨rfl, rfl⟩)
      go_ret2
      exact measEnd_no HF.out (B1 _ _)
  · have hd : decide ((1 : Int) ≤ g.rules.length ∧ (g.rules.length : Int) ≤ 32) = false := by simp; omega
    have W33 := Lib.hid (fun w => by have := within_any 1 g.rules.length 32 w; rw [hd] at this; exact this)
    have HF : RowKit.Hid (rightB g = false) := Lib.hid (rightB_false.2 fun h => h1 h.rules)
    clear h1 hd hg hin NM AL
    go_enter Try.func59, Try.ntmps59
    go_wp2_with (go_at_call 44; refine (W33.out _).mono ?_; rintro e w1 ⟨rfl, rfl⟩)
    go_ret2
    exact measEnd_no HF.out (B1 _ _)
theorem right_all (g : Gr) (w : World) (hg : Gr.At w g) (hin : Gr.In g) : Calls Try.prog 17 #[g.val] w fun e w' => e = .returned (.bool (rightB g)) ∧ Below w.heap.size w w' := by
  have M := Lib.hid (fun (w' : World) (b : Below w.heap.size w w') => measured_any g w' (hg.below b) hin)
  clear hg hin
  go_enter Try.func17, Try.ntmps17
  go_wp2_with (go_at_call 59; refine (M.out _ (B1 _ _)).mono ?_; rintro e w1 ⟨v, rfl, hb, _, _⟩; have H1 := Lib.hid (bb (B1 w _) hb); clear hb)
  go_ret
  exact ⟨rfl, H1.out⟩
/-- What is told of a node: how many nodes it has, its height. -/
noncomputable def measOf (g : Gr) (n : Int) : Meas := by
  classical exact if h : ∃ ms, Right g ∧ Measured g.nodes ms 0 ∧ 0 ≤ n ∧ n < g.nodes.length then (Classical.choose h) n.toNat else (0, 0)
theorem measOf_yes {g : Gr} {ms : Nat → Meas} (hr : Right g) (hm : Measured g.nodes ms 0) {n : Nat} (hn : n < g.nodes.length) : measOf g n = ms n := by
  have h : ∃ ms, Right g ∧ Measured g.nodes ms 0 ∧ (0 : Int) ≤ n ∧ (n : Int) < g.nodes.length := ⟨ms, hr, hm, by omega, by omega⟩
  unfold measOf
  rw [dif_pos h, Int.toNat_natCast]
  exact measured_eq (Classical.choose_spec h).2.1 hm n hn
theorem measOf_no {g : Gr} {n : Int} (h : ¬ (Right g ∧ 0 ≤ n ∧ n < g.nodes.length)) : measOf g n = (0, 0) := by
  unfold measOf
  rw [dif_neg (fun ⟨_, a, _, b, c⟩ => h ⟨a, b, c⟩)]
@[go_sem] theorem field76_0 (x y : Int) (w : World) : (Instr.field 109 (.agg #[.int .i64 x, .int .i64 y]) 0).run Try.prog w = .ok (.int .i64 x) w := by kernel_rfl
@[go_sem] theorem field76_1 (x y : Int) (w : World) : (Instr.field 109 (.agg #[.int .i64 x, .int .i64 y]) 1).run Try.prog w = .ok (.int .i64 y) w := by kernel_rfl
theorem res52 {tmps : Array Value} {w : World} {b : Nat} {x y : Value} (hp : tmps.getD 4 undef = .pointer (some ⟨b, 0, none⟩)) (hb : Blk w b #[x, y] 109) : (results Try.f77 tmps).run Try.prog w = .ok (.agg #[x, y]) w :=
  results_cell_row rfl tmps w b 109 #[x, y] (0, 0) _ hp hb Try.underlying109 rfl (by kernel_rfl)
set_option maxRecDepth 100000 in
set_option maxHeartbeats 2000000 in
theorem measureAt_any (g : Gr) (n : Int) (w : World) (hg : Gr.At w g) (hin : Gr.In g) : Calls Try.prog 77 #[g.val, .int .i64 n] w fun e w' => e = .returned (.agg #[.int .i64 (measOf g n).1, .int .i64 (measOf g n).2]) ∧ Below w.heap.size w w' := by
  have M := Lib.hid (fun (w' : World) (b : Below w.heap.size w w') => measured_any g w' (hg.below b) hin)
  have hnl := hg.nl
  clear hg hin
  by_cases hyes : Right g ∧ 0 ≤ n ∧ n < g.nodes.length
  · obtain ⟨hr, h0, h1⟩ := hyes
    obtain ⟨k, rfl⟩ : ∃ k : Nat, n = k := ⟨n.toNat, by omega⟩
    have hk : k < g.nodes.length := by omega
    have hkn : ¬ g.nodes.length ≤ k := by omega
    have HR := Lib.hid (rightB_true.2 hr)
    have MY := Lib.hid (fun ms (hm : Measured g.nodes ms 0) => measOf_yes hr hm hk)
    clear hr
    go_enter Try.func77, Try.ntmps77
    go_wp2_with (first | (go_at_call 59; refine (M.out _ (B2 _ _ _)).mono ?_; rintro e w1 ⟨v, rfl, hb, hv, _⟩; obtain ⟨ms, hm, gb, rfl, hgl, hmc⟩ := hv HR.out; obtain ⟨d1, d2⟩ := hmc k hk; have HE := Lib.hid (MY.out ms hm); have KB := Lib.hid (by have := (Blk.new (w.alloc _) _ _).below' hb; rw [World.size_alloc] at this; exact this); have H1 := Lib.hid (bb (B2 w _ _) hb); clear hb hv hm hmc) | (refine wpList_store_row rfl 109 (.tmp 4) (.tmp 24) rfl (w.heap.size + 1) _ rfl rfl 109 _ KB.out (by kernel_rfl) (by rfl) (by simp [Value.oneCell']) ?_))
    rw [HE.out]
    exact bodyPost_ret (res52 rfl KB.out.setRow) rfl ⟨rfl, bset H1.out (by omega)⟩
  · have HN := Lib.hid (measOf_no hyes)
    rw [HN.out]
    cases hr : rightB g with
    | true =>
      have HR := Lib.hid hr
      have hn : n < 0 ∨ (g.nodes.length : Int) ≤ n := by
        by_cases h : n < 0
        · exact .inl h
        · refine .inr ?_
          by_cases h2 : (g.nodes.length : Int) ≤ n
          · exact h2
          · exact absurd ⟨rightB_true.1 hr, by omega, by omega⟩ hyes
      clear hr hyes
      rcases hn with hn | hn
      · go_enter Try.func77, Try.ntmps77
        go_wp2_with (first | (go_at_call 59; refine (M.out _ (B2 _ _ _)).mono ?_; rintro e w1 ⟨v, rfl, hb, hv, _⟩; obtain ⟨ms, hm, gb, rfl, hgl, hmc⟩ := hv HR.out; have KB := Lib.hid (by have := (Blk.new (w.alloc _) _ _).below' hb; rw [World.size_alloc] at this; exact this); have H1 := Lib.hid (bb (B2 w _ _) hb); clear hb hv hm hmc) | (refine wpList_store_row rfl 109 (.tmp 4) (.tmp 20) rfl (w.heap.size + 1) _ rfl rfl 109 _ KB.out (by kernel_rfl) (by rfl) (by simp [Value.oneCell']) ?_))
        exact bodyPost_ret (res52 rfl KB.out.setRow) rfl ⟨rfl, bset H1.out (by omega)⟩
      · have hn0 : ¬ n < 0 := by omega
        go_enter Try.func77, Try.ntmps77
        go_wp2_with (first | (go_at_call 59; refine (M.out _ (B2 _ _ _)).mono ?_; rintro e w1 ⟨v, rfl, hb, hv, _⟩; obtain ⟨ms, hm, gb, rfl, hgl, hmc⟩ := hv HR.out; have KB := Lib.hid (by have := (Blk.new (w.alloc _) _ _).below' hb; rw [World.size_alloc] at this; exact this); have H1 := Lib.hid (bb (B2 w _ _) hb); clear hb hv hm hmc) | (refine wpList_store_row rfl 109 (.tmp 4) (.tmp 20) rfl (w.heap.size + 1) _ rfl rfl 109 _ KB.out (by kernel_rfl) (by rfl) (by simp [Value.oneCell']) ?_))
        exact bodyPost_ret (res52 rfl KB.out.setRow) rfl ⟨rfl, bset H1.out (by omega)⟩
    | false =>
      have HR := Lib.hid hr
      clear hr hyes
      by_cases hn : n < 0
      · go_enter Try.func77, Try.ntmps77
        go_wp2_with (first | (go_at_call 59; refine (M.out _ (B2 _ _ _)).mono ?_; rintro e w1 ⟨v, rfl, hb, _, hv⟩; obtain rfl := hv HR.out; have KB := Lib.hid (by have := (Blk.new (w.alloc _) _ _).below' hb; rw [World.size_alloc] at this; exact this); have H1 := Lib.hid (bb (B2 w _ _) hb); clear hb hv) | (refine wpList_store_row rfl 109 (.tmp 4) (.tmp 20) rfl (w.heap.size + 1) _ rfl rfl 109 _ KB.out (by kernel_rfl) (by rfl) (by simp [Value.oneCell']) ?_))
        exact bodyPost_ret (res52 rfl KB.out.setRow) rfl ⟨rfl, bset H1.out (by omega)⟩
      · have hn0 : (0 : Int) ≤ n := by omega
        go_enter Try.func77, Try.ntmps77
        go_wp2_with (first | (go_at_call 59; refine (M.out _ (B2 _ _ _)).mono ?_; rintro e w1 ⟨v, rfl, hb, _, hv⟩; obtain rfl := hv HR.out; have KB := Lib.hid (by have := (Blk.new (w.alloc _) _ _).below' hb; rw [World.size_alloc] at this; exact this); have H1 := Lib.hid (bb (B2 w _ _) hb); clear hb hv) | (refine wpList_store_row rfl 109 (.tmp 4) (.tmp 20) rfl (w.heap.size + 1) _ rfl rfl 109 _ KB.out (by kernel_rfl) (by rfl) (by simp [Value.oneCell']) ?_))
        exact bodyPost_ret (res52 rfl KB.out.setRow) rfl ⟨rfl, bset H1.out (by omega)⟩
set_option maxRecDepth 100000 in
theorem size_of (g : Gr) (n : Int) (w : World) (hg : Gr.At w g) (hin : Gr.In g) : Calls Try.prog 35 #[g.val, .int .i64 n] w fun e w' => e = .returned (.int .i64 (measOf g n).1) ∧ Below w.heap.size w w' := by
  have M := Lib.hid (fun (w' : World) (b : Below w.heap.size w w') => measureAt_any g n w' (hg.below b) hin)
  clear hg hin
  go_enter Try.func35, Try.ntmps35
  go_wp2_with (go_at_call 77; refine (M.out _ (B1 _ _)).mono ?_; rintro e w1 ⟨rfl, hb⟩; have H1 := Lib.hid (bb (B1 w _) hb); clear hb)
  go_ret
  exact ⟨rfl, H1.out⟩
set_option maxRecDepth 100000 in
theorem height_of (g : Gr) (n : Int) (w : World) (hg : Gr.At w g) (hin : Gr.In g) : Calls Try.prog 51 #[g.val, .int .i64 n] w fun e w' => e = .returned (.int .i64 (measOf g n).2) ∧ Below w.heap.size w w' := by
  have M := Lib.hid (fun (w' : World) (b : Below w.heap.size w w') => measureAt_any g n w' (hg.below b) hin)
  clear hg hin
  go_enter Try.func51, Try.ntmps51
  go_wp2_with (go_at_call 77; refine (M.out _ (B1 _ _)).mono ?_; rintro e w1 ⟨rfl, hb⟩; have H1 := Lib.hid (bb (B1 w _) hb); clear hb)
  go_ret
  exact ⟨rfl, H1.out⟩
end Go.Proofs.Ytmfiedbnnonenaa
namespace Go.Proofs.Ytmfiedbnnonenaa
open Go Go.RowKit Go.Shelf
attribute [local go_sem] Oper.semAt_some
/-- The last rule whose body is not behind n. -/
def lastFrom (n : Int) : Nat → Int → List Rl → Int
  | _, acc, [] => acc
  | i, acc, r :: l => lastFrom n (i + 1) (if r.body ≤ n then (i : Int) else acc) l
def lastLe (l : List Rl) (n : Int) : Int := lastFrom n 0 (-1) l
theorem lastFrom_miss (n : Int) : ∀ (l : List Rl) (i : Nat) (acc : Int), (∀ j, j < l.length → n < (l.getD j Rl.zero).body) → lastFrom n i acc l = acc
  | [], _, _, _ => rfl
  | r :: l, i, acc, h => by
    have h0 : n < r.body := by have := h 0 (by simp); simpa using this
    rw [lastFrom, if_neg (by omega)]
    exact lastFrom_miss n l (i + 1) acc (fun j hj => by have := h (j + 1) (by simpa using hj); simpa using this)
theorem lastFrom_hit (n : Int) : ∀ (l : List Rl) (i k : Nat) (acc : Int), k < l.length → (l.getD k Rl.zero).body ≤ n → (∀ j, k < j → j < l.length → n < (l.getD j Rl.zero).body) → lastFrom n i acc l = (i + k : Nat)
  | [], _, _, _, h, _, _ => by simp at h
  | r :: l, i, 0, acc, _, h2, h3 => by
    have h0 : r.body ≤ n := by simpa using h2
    rw [lastFrom, if_pos h0, lastFrom_miss n l (i + 1) i (fun j hj => by have := h3 (j + 1) (by omega) (by simpa using hj); simpa using this)]
    simp
  | r :: l, i, k + 1, acc, h1, h2, h3 => by
    rw [lastFrom, lastFrom_hit n l (i + 1) k _ (by simpa using h1) (by simpa using h2) (fun j h4 h5 => by have := h3 (j + 1) (by omega) (by simpa using h5); simpa using this)]
    congr 1
    omega
theorem lastLe_hit {l : List Rl} {n : Int} (k : Nat) (h1 : k < l.length) (h2 : (l.getD k Rl.zero).body ≤ n) (h3 : ∀ j, k < j → j < l.length → n < (l.getD j Rl.zero).body) : lastLe l n = k := by
  have := lastFrom_hit n l 0 k (-1) h1 h2 h3
  rw [Nat.zero_add] at this
  exact this
theorem lastLe_miss {l : List Rl} {n : Int} (h : ∀ j, j < l.length → n < (l.getD j Rl.zero).body) : lastLe l n = -1 := lastFrom_miss n l 0 (-1) h
noncomputable def ownerOf (g : Gr) (n : Int) : Int := by classical exact if Right g ∧ 0 ≤ n ∧ n < g.nodes.length then lastLe g.rules n else -1
theorem ownerOf_yes {g : Gr} {n : Int} (h : Right g ∧ 0 ≤ n ∧ n < g.nodes.length) : ownerOf g n = lastLe g.rules n := by unfold ownerOf; rw [if_pos h]
theorem ownerOf_no {g : Gr} {n : Int} (h : ¬ (Right g ∧ 0 ≤ n ∧ n < g.nodes.length)) : ownerOf g n = -1 := by unfold ownerOf; rw [if_neg h]
theorem res27 {tmps : Array Value} {w : World} {b : Nat} {x : Value} (hp : tmps.getD 4 undef = .pointer (some ⟨b, 0, none⟩)) (c1 : w.cell? ⟨b, 0, none⟩ = some x) : (results Try.f52 tmps).run Try.prog w = .ok x w := by
  have hp' : tmps[4]?.getD undef = .pointer (some ⟨b, 0, none⟩) := by simpa using hp
  have a3 := Try.isAgg3
  simp [results, Try.results52, hp', go_sem, c1]
/-- What lies while rules are gone through from the last one on. -/
structure OSt (w : World) (rules : List Rl) (n : Int) (t3 t4 j : Nat) (W : World) : Prop where
  b3 : Blk W t3 #[.int .i64 n] 3
  b4 : Blk W t4 #[.int .i64 0] 3
  low : Below w.heap.size w W
  all : ∀ i, j ≤ i → i < rules.length → n < (rules.getD i Rl.zero).body
set_option maxRecDepth 100000 in
set_option maxHeartbeats 8000000 in
theorem owner_of (g : Gr) (n : Int) (w : World) (hg : Gr.At w g) (hin : Gr.In g) : Calls Try.prog 52 #[g.val, .int .i64 n] w fun e w' => e = .returned (.int .i64 (ownerOf g n)) ∧ Below w.heap.size w w' := by
  have M := Lib.hid (fun (w' : World) (b : Below w.heap.size w w') => size_of g n w' (hg.below b) hin)
  have hrl := hg.rl
  have HR := Lib.hid hg.rules
  have OY := Lib.hid (ownerOf_yes (g := g) (n := n))
  have ON := Lib.hid (ownerOf_no (g := g) (n := n))
  obtain ⟨ov, eov⟩ : ∃ ov, ov = ownerOf g n := ⟨_, rfl⟩
  rw [← eov] at OY ON ⊢
  by_cases hyes : Right g ∧ 0 ≤ n ∧ n < g.nodes.length
  · have HO := Lib.hid (OY.out hyes)
    obtain ⟨sz, esz⟩ : ∃ sz, sz = (measOf g n).1 := ⟨_, rfl⟩
    rw [← esz] at M
    have hsz : (sz == 0) = false := by
      obtain ⟨hr, h0, h1⟩ := hyes
      obtain ⟨ms, hm, _⟩ := hr.pre
      obtain ⟨k, rfl⟩ : ∃ k : Nat, n = k := ⟨n.toNat, by omega⟩
      rw [esz, measOf_yes hr hm (by omega)]
      have := (hm k (by omega) (by omega)).1
      simp; omega
    clear esz hyes OY ON eov hg hin
    obtain ⟨RA, rc, rules, NA, nc, nodes⟩ := g
    dsimp only at HR HO hrl
    obtain ⟨m, em⟩ : ∃ m, m = rules.length := ⟨_, rfl⟩
    obtain ⟨ln, eln⟩ : ∃ m, m = nodes.length := ⟨_, rfl⟩
    have M2 : RowKit.Hid (∀ (w' : World), Below w.heap.size w w' → Calls Try.prog 35 #[.agg #[.slice RA m rc, .slice NA ln nc], .int .i64 n] w' fun e w'' => e = .returned (.int .i64 sz) ∧ Below w'.heap.size w' w'') := Lib.hid (by rw [em, eln]; exact M.out)
    show Calls Try.prog 52 #[.agg #[.slice RA rules.length rc, .slice NA nodes.length nc], .int .i64 n] w _
    have EM := Lib.hid em
    rw [← em, ← eln]
    rw [← em] at hrl
    clear M em eln
    obtain ⟨W3, eW3⟩ : ∃ u, u = ((w.alloc (.cells #[.slice RA m rc, .slice NA ln nc] 38)).alloc (.cells #[.int .i64 n] 3)).alloc (.cells #[.int .i64 0] 3) := ⟨_, rfl⟩
    have hs3 : W3.heap.size = w.heap.size + 3 := by rw [eW3]; simp
    have b3 : Below w.heap.size w W3 := by rw [eW3]; exact (B2 _ _ _).alloc (by simp; omega) _
    have k1 : Blk W3 w.heap.size #[.slice RA m rc, .slice NA ln nc] 38 := by rw [eW3]; exact ((Blk.new w _ _).alloc _).alloc _
    have k2 : Blk W3 (w.heap.size + 1) #[.int .i64 n] 3 := by
      rw [eW3]; have := (Blk.new (w.alloc (.cells #[.slice RA m rc, .slice NA ln nc] 38)) #[.int .i64 n] 3).alloc (.cells #[.int .i64 0] 3); rw [World.size_alloc] at this; exact this
    have k3 : Blk W3 (w.heap.size + 1 + 1) #[.int .i64 0] 3 := by
      rw [eW3]; have := (Blk.new ((w.alloc (.cells #[.slice RA m rc, .slice NA ln nc] 38)).alloc (.cells #[.int .i64 n] 3)) #[.int .i64 0] 3); rw [World.size_alloc, World.size_alloc] at this; exact this
    have P3 := Lib.hid (And.intro hs3 (And.intro b3 (And.intro k1 (And.intro k2 k3))))
    have E3 := Lib.hid eW3
    clear eW3 hs3 b3 k1 k2 k3
    refine (callsIn_wide (n := 12)).1 ?_
    refine callsIn_of_wp_marks Try.func52 rfl trivial ?_ rfl
    simp only [Try.ntmps52, List.size_toArray, List.length_cons, List.length_nil, Nat.reduceAdd, Nat.reduceSub, Array.replicate_succ, Array.replicate_zero, List.push_toArray, List.append_toArray, List.nil_append, List.cons_append]
    refine wpIn_wide.2 ?_
    go_wp2_with (first | (go_at_call 35; rw [← E3.out]; refine (M2.out _ P3.out.2.1).mono ?_; rintro e w0 ⟨rfl, hb⟩; have H0 := Lib.hid hb; have d0 := (P3.out.2.2.1.below' hb).cell 0; simp only [List.getElem?_toArray, List.getElem?_cons_zero] at d0; clear hb) | (go_at_call 96; refine (back_rule_any _ _ _ _).mono ?_; rintro e w8 ⟨rfl, rfl⟩))
    clear d0
    obtain ⟨t2, et2⟩ : ∃ g, g = w.heap.size := ⟨_, rfl⟩
    obtain ⟨t3, et3⟩ : ∃ g, g = w.heap.size + 1 := ⟨_, rfl⟩
    obtain ⟨t4, et4⟩ : ∃ g, g = w.heap.size + 1 + 1 := ⟨_, rfl⟩
    obtain ⟨p, ep⟩ : ∃ g, g = w0.heap.size := ⟨_, rfl⟩
    obtain ⟨wl, ewl⟩ : ∃ u, u = w0.alloc (.cells #[.slice RA m rc] 35) := ⟨_, rfl⟩
    have hbl : Below w0.heap.size w0 wl := by rw [ewl]; exact B1 _ _
    have hz0' : w.heap.size + 3 ≤ w0.heap.size := by have := H0.out.size; have := P3.out.1; omega
    have F0 : RowKit.Hid (OSt w rules n t3 t4 m wl) := Lib.hid (by
      obtain ⟨q1, q2, q3, q4, q5⟩ := P3.out
      have hb3 : Below W3.heap.size W3 wl := H0.out.trans (hbl.mono H0.out.size)
      exact ⟨by rw [et3]; exact q4.below' hb3, by rw [et4]; exact q5.below' hb3, q2.trans (hb3.mono (by omega)), fun i h1 h2 => by have := EM.out; omega⟩)
    have BP : RowKit.Hid (Blk wl p #[.slice RA m rc] 35) := Lib.hid (by rw [ewl, ep]; exact Blk.new _ _ _)
    have NE : RowKit.Hid (t3 = w.heap.size + 1 ∧ t4 = w.heap.size + 2 ∧ wl.heap.size = p + 1 ∧ w.heap.size + 3 ≤ p) := Lib.hid ⟨by omega, by omega, by rw [ewl, ep]; simp, by omega⟩
    have AN : RowKit.Hid (∀ b o, RA = some ⟨b, o, none⟩ → 0 < rules.length → b < w.heap.size) := Lib.hid (fun b o e h0 => by
      obtain ⟨b', o', e', hb', _⟩ := HR.out h0
      rw [e] at e'
      cases e'
      exact hb')
    rw [← ewl, ← et4, ← et3, ← et2, ← ep]
    clear et2 et3 et4 ep ewl hbl hz0' P3 E3 H0
    refine (wpIn_wide (n := 12)).1 ?_
    refine wpIn_rangeFunc_x (n := 12) (by omega) (gf := 126) (lb := #[.pointer (some ⟨p, 0, none⟩)]) rfl (enters_of Try.func126 (by kernel_rfl) rfl)
      (G := fun k => k < wl.heap.size ∧ k ≠ t4) (by have := back_rule_seq 11 (by omega) p RA rc rules (by have := EM.out; omega) (fun k => k < wl.heap.size ∧ k ≠ t4) ⟨by have := NE.out; omega, by have := NE.out; omega⟩ (fun b o e h0 => ⟨by have := AN.out b o e h0; have := NE.out; omega, by have := AN.out b o e h0; have := NE.out; omega⟩) wl (by rw [← EM.out]; exact BP.out) (HR.out.below (F0.out.low)); rw [← EM.out] at this; exact this)
      (Below.refl _ _) (fun _ => rfl) (fun k h => h.1)
      (fun k W => OSt w rules n t3 t4 (m - k) W) (fun cd _ W => cd = .ret ∧ Blk W t4 #[.int .i64 ov] 3 ∧ Below w.heap.size w W)
      ?low ?lowx (by simpa using F0.out)
      (fun k b => { tmps := #[.agg #[.slice RA m rc, .slice NA ln nc], .int .i64 n, .pointer (some ⟨t2, 0, none⟩), .pointer (some ⟨t3, 0, none⟩), .pointer (some ⟨t4, 0, none⟩), .int .i64 ((m - 1 - k : Nat) : Int), .pointer (some ⟨b, 0, none⟩), .agg #[.slice RA m rc, .slice NA ln nc], .int .i64 n, .int .i64 sz, .bool false, .pointer (some ⟨t2, 0, none⟩), .slice RA m rc, .func (.func 126) #[] #[.pointer (some ⟨p, 0, none⟩)], .int .i64 ((m - 1 - k : Nat) : Int), .agg #[.string (rules.getD (m - 1 - k) Rl.zero).name, .int .i64 (rules.getD (m - 1 - k) Rl.zero).body], undef, undef, undef, undef, undef], defers := [] }) (fun k => .cells #[.string (rules.getD (m - 1 - k) Rl.zero).name, .int .i64 (rules.getD (m - 1 - k) Rl.zero).body] 70) ?assign ?body ?done ?stop
    case low =>
      intro s X X' h hb
      exact ⟨h.b3.below hb (by have := NE.out; omega), h.b4.below hb (by have := NE.out; omega), h.low.trans (hb.mono (by have := NE.out; omega)), h.all⟩
    case lowx =>
      rintro cd s X X' ⟨h1, h2, h3⟩ hb
      exact ⟨h1, h2.below hb (by have := NE.out; omega), h3.trans (hb.mono (by have := NE.out; omega))⟩
    case assign =>
      intro l2 k W K hK
      unfold Rl.val
      gi_wp2
      exact hK
    case body =>
      rintro l2 k b W hF hz hob hkm
      have hkm2 : k < m := hkm
      obtain ⟨i, hi⟩ : ∃ i : Nat, i = m - 1 - k := ⟨_, rfl⟩
      rw [← hi] at hob ⊢
      rw [show m - k = i + 1 by omega] at hF
      have HFIN := Lib.hid (show m - (k + 1) = i by omega)
      have him : i < m := by omega
      have HL := Lib.hid (lastLe_hit (l := rules) (n := n) i (by have := EM.out; omega))
      generalize hx : rules.getD i Rl.zero = x at hob HL ⊢
      have HX := Lib.hid hx
      have hob' : Blk W b #[.string x.name, .int .i64 x.body] 70 := hob
      have c1 : W.cell? ⟨b, 1, none⟩ = some (.int .i64 x.body) := hob'.cell 1
      have c3 : W.cell? ⟨t3, 0, none⟩ = some (.int .i64 n) := hF.b3.cell 0
      have c4 : W.cell? ⟨t4, 0, none⟩ = some (.int .i64 0) := hF.b4.cell 0
      have f4 := hF.b4.frozen 0
      have HF := Lib.hid hF
      clear hF hob hob' hx hi hz hkm
      by_cases hle : x.body ≤ n
      · have HV : RowKit.Hid (ov = i) := Lib.hid (by rw [HO.out]; exact HL.out hle (fun j h1 h2 => HF.out.all j (by omega) h2))
        have FIN : RowKit.Hid (Left (fun _ => False) wl.heap.size W (W.setCell ⟨t4, 0, none⟩ (.int .i64 i)) ∧ Blk (W.setCell ⟨t4, 0, none⟩ (.int .i64 i)) t4 #[.int .i64 i] 3 ∧ Below w.heap.size w (W.setCell ⟨t4, 0, none⟩ (.int .i64 i))) := Lib.hid ⟨Left.setCell _ t4 0 _ (fun h => h) (by have := NE.out; omega), heap_setCell_same W t4 0 #[.int .i64 0] 3 _ HF.out.b4, HF.out.low.setCell (p := ⟨t4, 0, none⟩) (show w.heap.size ≤ t4 by have := NE.out; omega) _⟩
        gi_wp2_with fail
        exact ⟨FIN.out.1, rfl, by rw [HV.out]; exact FIN.out.2.1, FIN.out.2.2⟩
      · have hle2 : n < x.body := by omega
        have FIN : RowKit.Hid (OSt w rules n t3 t4 i W) := Lib.hid ⟨HF.out.b3, HF.out.b4, HF.out.low, fun j h1 h2 => by
          by_cases hj : j = i
          · subst hj; rw [HX.out]; exact hle2
          · exact HF.out.all j (by omega) h2⟩
        clear hle
        gi_wp2_with fail
        exact ⟨Left.refl _ _ _, by dsimp only; rw [HFIN.out]; exact FIN.out⟩
    case done =>
      rintro D W hD hF hK
      rw [Nat.sub_self] at hF
      have c4 : W.cell? ⟨t4, 0, none⟩ = some (.int .i64 0) := hF.b4.cell 0
      have f4 := hF.b4.frozen 0
      have HV : RowKit.Hid (ov = -1) := Lib.hid (by rw [HO.out]; exact lastLe_miss (fun j hj => hF.all j (by omega) hj))
      have q4 : Blk (W.setCell ⟨t4, 0, none⟩ (.int .i64 (-1))) t4 #[.int .i64 (-1)] 3 := heap_setCell_same W t4 0 #[.int .i64 0] 3 _ hF.b4
      have n4 : t4 ≠ D ∧ w.heap.size ≤ D ∧ w.heap.size ≤ t4 := by have := NE.out; omega
      have qd : (W.setCell ⟨t4, 0, none⟩ (.int .i64 (-1))).heap[D]? = some (.deferred (some [])) := (heap_setCell_other W ⟨t4, 0, none⟩ D _ (fun e => n4.1 e.symm)).trans hK
      have ql : Below w.heap.size w (W.setCell ⟨t4, 0, none⟩ (.int .i64 (-1))) := hF.low.setCell (p := ⟨t4, 0, none⟩) n4.2.2 _
      have HC := Lib.hid (And.intro q4 (And.intro qd (And.intro ql n4)))
      clear hF hK q4 qd ql n4
      go_wp2_with fail
      obtain ⟨q4, qd, ql, n4⟩ := HC.out
      refine ⟨by simp, .inl ⟨_, _, rfl, run_takeDeferred qd, ?_⟩⟩
      have z4 : Blk ((W.setCell ⟨t4, 0, none⟩ (.int .i64 (-1))).putObj D (.deferred none)) t4 #[.int .i64 (-1)] 3 := (World.putObj_heap_other n4.1).trans q4
      exact ⟨_, res27 rfl (z4.cell 0), by rw [HV.out]; rfl, ql.trans (below_putObj _ D _ _ n4.2.1)⟩
    case stop =>
      rintro D cd k W hD hk ⟨rfl, h2, h3⟩ hK
      have n4 : t4 ≠ D ∧ w.heap.size ≤ D := by have := NE.out; omega
      have HC := Lib.hid (And.intro h2 (And.intro h3 (And.intro hK n4)))
      clear h2 h3 hK n4
      gi_wp2
      obtain ⟨q4, ql, qd, n4⟩ := HC.out
      refine ⟨by simp, .inl ⟨_, _, rfl, run_takeDeferred qd, ?_⟩⟩
      have z4 : Blk (W.putObj D (.deferred none)) t4 #[.int .i64 ov] 3 := (World.putObj_heap_other n4.1).trans q4
      exact ⟨_, res27 rfl (z4.cell 0), rfl, ql.trans (below_putObj _ D _ _ n4.2)⟩
  · have HV := Lib.hid (ON.out hyes)
    have hm := measOf_no hyes
    rw [hm] at M
    dsimp only at M
    have H3 := Lib.hid ((B2 w (.cells #[.slice g.RA g.rules.length g.rc, .slice g.NA g.nodes.length g.nc] 38) (.cells #[.int .i64 n] 3)).alloc (by simp; omega) (.cells #[.int .i64 0] 3))
    clear hm hyes OY ON eov hg hin HR
    refine (callsIn_wide (n := 12)).1 ?_
    refine callsIn_of_wp_marks Try.func52 rfl trivial ?_ rfl
    simp only [Try.ntmps52, List.size_toArray, List.length_cons, List.length_nil, Nat.reduceAdd, Nat.reduceSub, Array.replicate_succ, Array.replicate_zero, List.push_toArray, List.append_toArray, List.nil_append, List.cons_append]
    refine wpIn_wide.2 ?_
    go_wp2_with (go_at_call 35; refine (M.out _ H3.out).mono ?_; rintro e w0 ⟨rfl, hb⟩; have KB := Lib.hid (by have := (Blk.new ((w.alloc _).alloc _) _ _).below' hb; rw [World.size_alloc, World.size_alloc] at this; exact this); have c4 := KB.out.cell 0; have f4 := KB.out.frozen 0; simp only [List.getElem?_toArray, List.getElem?_cons_zero] at c4; have H0 := Lib.hid (H3.out.trans (hb.mono H3.out.size)); clear hb)
    have z4 : Blk (w0.setCell ⟨w.heap.size + 1 + 1, 0, none⟩ (.int .i64 (-1))) (w.heap.size + 1 + 1) #[.int .i64 (-1)] 3 := heap_setCell_same w0 _ 0 #[.int .i64 0] 3 _ KB.out
    exact ⟨_, res27 rfl (z4.cell 0), by rw [HV.out]; rfl, H0.out.setCell (p := ⟨w.heap.size + 1 + 1, 0, none⟩) (show w.heap.size ≤ w.heap.size + 1 + 1 by omega) _⟩
end Go.Proofs.Ytmfiedbnnonenaa

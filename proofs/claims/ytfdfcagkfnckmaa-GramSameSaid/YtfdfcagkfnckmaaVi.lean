/- Size, height, owner as the document tells them; how many rules, nodes, kids there are. -/
import Derived.Test.YtfdfcagkfnckmaaVh
import Derived.Test.YtfdfcagkfnckmaaVc
import Derived.Test.YtfdfcagkfnckmaaVg
namespace Go.Proofs.Ytfdfcagkfnckmaa
open Go Go.RowKit
theorem after_right {g : Gr} (hr : Right g) {k : Nat} (hk : k < g.nodes.length) : after g.nodes 16 k = some (k + (measOf g k).1, (measOf g k).2) ∧ 1 ≤ (measOf g k).1 ∧ (k : Int) + (measOf g k).1 ≤ g.nodes.length := by
  obtain ⟨ms, hm, _⟩ := hr.pre
  rw [measOf_yes hr hm hk]
  have h16 := after_measured hm 16 k hk
  obtain ⟨_, hc⟩ := march_cover g.rules 0 _ (by omega) (rightB_march.1 (rightB_true.2 hr)).2.2.2.2
  obtain ⟨r, hr2⟩ := hc k (by omega) (by omega)
  obtain ⟨m1, m2, m3, _⟩ := hm k (by omega) hk
  refine ⟨?_, m1, m3⟩
  rw [hr2] at h16
  split at h16
  · rw [hr2]; exact h16
  · cases h16
theorem lastFrom_acc (n : Int) (r : Rl) (l : List Rl) (h : r.body ≤ n) (a b : Int) : lastFrom n 0 a (r :: l) = lastFrom n 0 b (r :: l) := by
  rw [lastFrom, lastFrom, if_pos h]
  simp [if_pos h]
theorem last_right {g : Gr} (hr : Right g) {n : Int} (h0 : 0 ≤ n) (h1 : n < g.nodes.length) : ownerOf g n = lastFrom n 0 0 g.rules := by
  rw [ownerOf_yes ⟨hr, h0, h1⟩, lastLe]
  obtain ⟨ms, hm, hb⟩ := hr.pre
  have hl := hr.rules.1
  generalize g.rules = rs at hb hl
  cases rs with
  | nil => simp at hl
  | cons r l =>
    unfold bodies at hb
    split at hb
    · rename_i hc
      exact lastFrom_acc n r l (by omega) _ _
    · cases hb
set_option maxRecDepth 100000 in
set_option maxHeartbeats 4000000 in
theorem refSize_any (g : Gr) (n : Int) (w : World) (hg : Gr.At w g) (hin : Gr.In g) : Calls Try.prog 42 #[g.val, .int .i64 n] w fun e w' => e = .returned (.int .i64 (measOf g n).1) ∧ Below w.heap.size w w' := by
  have hnl := hg.nl
  have RR := Lib.hid (fun (w' : World) (b : Below w.heap.size w w') => refRight_any g w' (hg.below b) hin)
  by_cases hy : Right g ∧ 0 ≤ n ∧ n < g.nodes.length
  · obtain ⟨hr, h0, h1⟩ := hy
    have hrb : rightB g = true := rightB_true.2 hr
    obtain ⟨k, rfl⟩ : ∃ k : Nat, n = k := ⟨n.toNat, by omega⟩
    obtain ⟨ha, s1, s2⟩ := after_right hr (k := k) (by omega)
    have AF := Lib.hid (fun (w' : World) (b : Below w.heap.size w w') => by have := after_any g.RA g.rules.length g.rc g.NA g.nc g.nodes.length g.nodes rfl hnl 16 k w' (by omega) (by omega) (by omega) (hg.below b).nodes (hg.below b).kids; rw [ha] at this; exact this)
    rw [hrb] at RR
    generalize measOf g (k : Int) = ms at AF s1 s2 ⊢
    obtain ⟨s, h⟩ := ms
    unfold afterVal at AF
    dsimp only at AF s1 s2 ⊢
    have g1 : ¬ (k : Int) < 0 := by omega
    have g2 : ¬ (g.nodes.length : Int) ≤ k := by omega
    have hwr : IntKind.i64.wrap (((k : Int) + s) - k) = s := (IntWalk.i64_in _ (by omega)).trans (by omega)
    clear ha hr hrb h0 h1 hg hin
    show Calls Try.prog 42 #[.agg #[.slice g.RA g.rules.length g.rc, .slice g.NA g.nodes.length g.nc], .int .i64 k] w _
    go_enter Try.func42, Try.ntmps42
    go_wp2_with (first | (go_at_call 16; refine (RR.out _ (B1 _ _)).mono ?_; rintro e w1 ⟨rfl, hb⟩; have H1 := Lib.hid (bb (B1 w _) hb); have d0 := ((Blk.new w _ _).below' hb).cell 0; have d1 := ((Blk.new w _ _).below' hb).cell 1; simp only [List.getElem?_toArray, List.getElem?_cons_zero, List.getElem?_cons_succ] at d0 d1; clear hb) | (go_at_call 39; refine (AF.out _ H1.out).mono ?_; rintro e w2 ⟨rfl, hb⟩; have H2 := Lib.hid (bb H1.out hb); clear hb d0 d1))
    go_ret
    exact ⟨by first | rfl | trivial, H2.out⟩
  · rw [measOf_no hy]
    show Calls Try.prog 42 #[.agg #[.slice g.RA g.rules.length g.rc, .slice g.NA g.nodes.length g.nc], .int .i64 n] w _
    obtain ⟨rb, erb⟩ : ∃ rb, rb = rightB g := ⟨_, rfl⟩
    rw [← erb] at RR
    cases rb with
    | false =>
      clear erb hy hg hin hnl
      go_enter Try.func42, Try.ntmps42
      go_wp2_with (go_at_call 16; refine (RR.out _ (B1 _ _)).mono ?_; rintro e w1 ⟨rfl, hb⟩; have H1 := Lib.hid (bb (B1 w _) hb); have d0 := ((Blk.new w _ _).below' hb).cell 0; have d1 := ((Blk.new w _ _).below' hb).cell 1; simp only [List.getElem?_toArray, List.getElem?_cons_zero, List.getElem?_cons_succ] at d0 d1; clear hb)
      go_ret
      exact ⟨by first | rfl | trivial, H1.out⟩
    | true =>
      have hr := rightB_true.1 erb.symm
      by_cases h0 : n < 0
      · clear erb hy hg hin hnl hr
        go_enter Try.func42, Try.ntmps42
        go_wp2_with (go_at_call 16; refine (RR.out _ (B1 _ _)).mono ?_; rintro e w1 ⟨rfl, hb⟩; have H1 := Lib.hid (bb (B1 w _) hb); have d0 := ((Blk.new w _ _).below' hb).cell 0; have d1 := ((Blk.new w _ _).below' hb).cell 1; simp only [List.getElem?_toArray, List.getElem?_cons_zero, List.getElem?_cons_succ] at d0 d1; clear hb)
        go_ret
        exact ⟨by first | rfl | trivial, H1.out⟩
      · have h1 : (g.nodes.length : Int) ≤ n := by
          by_cases h : (g.nodes.length : Int) ≤ n
          · exact h
          · exact absurd ⟨hr, by omega, by omega⟩ hy
        clear erb hy hg hin hnl hr
        go_enter Try.func42, Try.ntmps42
        go_wp2_with (go_at_call 16; refine (RR.out _ (B1 _ _)).mono ?_; rintro e w1 ⟨rfl, hb⟩; have H1 := Lib.hid (bb (B1 w _) hb); have d0 := ((Blk.new w _ _).below' hb).cell 0; have d1 := ((Blk.new w _ _).below' hb).cell 1; simp only [List.getElem?_toArray, List.getElem?_cons_zero, List.getElem?_cons_succ] at d0 d1; clear hb)
        go_ret
        exact ⟨by first | rfl | trivial, H1.out⟩
set_option maxRecDepth 100000 in
set_option maxHeartbeats 4000000 in
theorem refHeight_any (g : Gr) (n : Int) (w : World) (hg : Gr.At w g) (hin : Gr.In g) : Calls Try.prog 43 #[g.val, .int .i64 n] w fun e w' => e = .returned (.int .i64 (measOf g n).2) ∧ Below w.heap.size w w' := by
  have hnl := hg.nl
  have RR := Lib.hid (fun (w' : World) (b : Below w.heap.size w w') => refRight_any g w' (hg.below b) hin)
  by_cases hy : Right g ∧ 0 ≤ n ∧ n < g.nodes.length
  · obtain ⟨hr, h0, h1⟩ := hy
    have hrb : rightB g = true := rightB_true.2 hr
    obtain ⟨k, rfl⟩ : ∃ k : Nat, n = k := ⟨n.toNat, by omega⟩
    obtain ⟨ha, s1, s2⟩ := after_right hr (k := k) (by omega)
    have AF := Lib.hid (fun (w' : World) (b : Below w.heap.size w w') => by have := after_any g.RA g.rules.length g.rc g.NA g.nc g.nodes.length g.nodes rfl hnl 16 k w' (by omega) (by omega) (by omega) (hg.below b).nodes (hg.below b).kids; rw [ha] at this; exact this)
    rw [hrb] at RR
    generalize measOf g (k : Int) = ms at AF s1 s2 ⊢
    obtain ⟨s, h⟩ := ms
    unfold afterVal at AF
    dsimp only at AF s1 s2 ⊢
    have g1 : ¬ (k : Int) < 0 := by omega
    have g2 : ¬ (g.nodes.length : Int) ≤ k := by omega
    clear ha hr hrb h0 h1 hg hin
    show Calls Try.prog 43 #[.agg #[.slice g.RA g.rules.length g.rc, .slice g.NA g.nodes.length g.nc], .int .i64 k] w _
    go_enter Try.func43, Try.ntmps43
    go_wp2_with (first | (go_at_call 16; refine (RR.out _ (B1 _ _)).mono ?_; rintro e w1 ⟨rfl, hb⟩; have H1 := Lib.hid (bb (B1 w _) hb); have d0 := ((Blk.new w _ _).below' hb).cell 0; have d1 := ((Blk.new w _ _).below' hb).cell 1; simp only [List.getElem?_toArray, List.getElem?_cons_zero, List.getElem?_cons_succ] at d0 d1; clear hb) | (go_at_call 39; refine (AF.out _ H1.out).mono ?_; rintro e w2 ⟨rfl, hb⟩; have H2 := Lib.hid (bb H1.out hb); clear hb d0 d1))
    go_ret
    exact ⟨by first | rfl | trivial, H2.out⟩
  · rw [measOf_no hy]
    show Calls Try.prog 43 #[.agg #[.slice g.RA g.rules.length g.rc, .slice g.NA g.nodes.length g.nc], .int .i64 n] w _
    obtain ⟨rb, erb⟩ : ∃ rb, rb = rightB g := ⟨_, rfl⟩
    rw [← erb] at RR
    cases rb with
    | false =>
      clear erb hy hg hin hnl
      go_enter Try.func43, Try.ntmps43
      go_wp2_with (go_at_call 16; refine (RR.out _ (B1 _ _)).mono ?_; rintro e w1 ⟨rfl, hb⟩; have H1 := Lib.hid (bb (B1 w _) hb); have d0 := ((Blk.new w _ _).below' hb).cell 0; have d1 := ((Blk.new w _ _).below' hb).cell 1; simp only [List.getElem?_toArray, List.getElem?_cons_zero, List.getElem?_cons_succ] at d0 d1; clear hb)
      go_ret
      exact ⟨by first | rfl | trivial, H1.out⟩
    | true =>
      have hr := rightB_true.1 erb.symm
      by_cases h0 : n < 0
      · clear erb hy hg hin hnl hr
        go_enter Try.func43, Try.ntmps43
        go_wp2_with (go_at_call 16; refine (RR.out _ (B1 _ _)).mono ?_; rintro e w1 ⟨rfl, hb⟩; have H1 := Lib.hid (bb (B1 w _) hb); have d0 := ((Blk.new w _ _).below' hb).cell 0; have d1 := ((Blk.new w _ _).below' hb).cell 1; simp only [List.getElem?_toArray, List.getElem?_cons_zero, List.getElem?_cons_succ] at d0 d1; clear hb)
        go_ret
        exact ⟨by first | rfl | trivial, H1.out⟩
      · have h1 : (g.nodes.length : Int) ≤ n := by
          by_cases h : (g.nodes.length : Int) ≤ n
          · exact h
          · exact absurd ⟨hr, by omega, by omega⟩ hy
        clear erb hy hg hin hnl hr
        go_enter Try.func43, Try.ntmps43
        go_wp2_with (go_at_call 16; refine (RR.out _ (B1 _ _)).mono ?_; rintro e w1 ⟨rfl, hb⟩; have H1 := Lib.hid (bb (B1 w _) hb); have d0 := ((Blk.new w _ _).below' hb).cell 0; have d1 := ((Blk.new w _ _).below' hb).cell 1; simp only [List.getElem?_toArray, List.getElem?_cons_zero, List.getElem?_cons_succ] at d0 d1; clear hb)
        go_ret
        exact ⟨by first | rfl | trivial, H1.out⟩
set_option maxRecDepth 100000 in
set_option maxHeartbeats 4000000 in
theorem refOwner_any (g : Gr) (n : Int) (w : World) (hg : Gr.At w g) (hin : Gr.In g) : Calls Try.prog 44 #[g.val, .int .i64 n] w fun e w' => e = .returned (.int .i64 (ownerOf g n)) ∧ Below w.heap.size w w' := by
  have hnl := hg.nl
  have hrl := hg.rl
  have RR := Lib.hid (fun (w' : World) (b : Below w.heap.size w w') => refRight_any g w' (hg.below b) hin)
  by_cases hy : Right g ∧ 0 ≤ n ∧ n < g.nodes.length
  · obtain ⟨hr, h0, h1⟩ := hy
    have hrb : rightB g = true := rightB_true.2 hr
    have LR := Lib.hid (last_right hr h0 h1)
    have HG := Lib.hid hg
    rw [hrb] at RR
    obtain ⟨ov, eov⟩ : ∃ ov, ov = ownerOf g n := ⟨_, rfl⟩
    rw [← eov] at LR ⊢
    have g1 : ¬ n < 0 := by omega
    have g2 : ¬ (g.nodes.length : Int) ≤ n := by omega
    clear hr hrb h0 h1 hg hin eov
    show Calls Try.prog 44 #[.agg #[.slice g.RA g.rules.length g.rc, .slice g.NA g.nodes.length g.nc], .int .i64 n] w _
    go_enter Try.func44, Try.ntmps44
    go_wp2_with (go_at_call 16; refine (RR.out _ (B1 _ _)).mono ?_; rintro e w1 ⟨rfl, hb⟩; have H1 := Lib.hid (bb (B1 w _) hb); have K1 := Lib.hid ((Blk.new w _ _).below' hb); have d0 := K1.out.cell 0; have d1 := K1.out.cell 1; simp only [List.getElem?_toArray, List.getElem?_cons_zero, List.getElem?_cons_succ] at d0 d1; clear hb)
    clear d0 d1
    go_loopw [6, 5] (fun i o wr => ∃ (k : Nat) (q : Int), k ≤ g.rules.length ∧ i = .int .i64 k ∧ o = .int .i64 q ∧ lastFrom n k q (g.rules.drop k) = ov ∧ wr = w1) (fun i _ _ => g.rules.length - (intOf i).toNat)
    case atStart => exact ⟨0, 0, by omega, rfl, rfl, LR.out.symm, rfl⟩
    case round =>
      obtain ⟨k, q, hk, rfl, rfl, hcl, rfl⟩ := hrel
      have c0 : wr.cell? ⟨w.heap.size, 0, none⟩ = some (.slice g.RA g.rules.length g.rc) := K1.out.cell 0
      by_cases hlt : k < g.rules.length
      · have hlt2 : (k : Int) < g.rules.length := by omega
        obtain ⟨b1, o1, eA, _, e0, e1⟩ := (HG.out.below H1.out).rules.two hlt
        rw [eA] at c0
        rw [List.drop_eq_getElem_cons hlt] at hcl
        have hgd : g.rules[k] = g.rules.getD k Rl.zero := by simp [List.getD, List.getElem?_eq_getElem hlt]
        rw [hgd, lastFrom] at hcl
        generalize g.rules.getD k Rl.zero = x at e0 e1 hcl
        clear hgd eA
        by_cases hx : x.body ≤ n
        · rw [if_pos hx] at hcl
          have HCL := Lib.hid hcl
          clear hcl
          go_wp2_with fail
          go_roundw
          case rel => exact ⟨k + 1, k, by omega, by go_num, rfl, HCL.out, by first | rfl | trivial⟩
          case measure => simp [intOf]; omega
        · rw [if_neg hx] at hcl
          have HCL := Lib.hid hcl
          clear hcl
          go_wp2_with fail
          go_roundw
          case rel => exact ⟨k + 1, q, by omega, by go_num, rfl, HCL.out, by first | rfl | trivial⟩
          case measure => simp [intOf]; omega
      · obtain rfl : k = g.rules.length := by omega
        have hlt2 : ¬ (g.rules.length : Int) < g.rules.length := by omega
        rw [List.drop_length, lastFrom] at hcl
        subst hcl
        go_wp2_with fail
        go_ret
        exact ⟨by first | rfl | trivial, H1.out⟩
  · rw [ownerOf_no hy]
    show Calls Try.prog 44 #[.agg #[.slice g.RA g.rules.length g.rc, .slice g.NA g.nodes.length g.nc], .int .i64 n] w _
    obtain ⟨rb, erb⟩ : ∃ rb, rb = rightB g := ⟨_, rfl⟩
    rw [← erb] at RR
    cases rb with
    | false =>
      clear erb hy hg hin hnl hrl
      go_enter Try.func44, Try.ntmps44
      go_wp2_with (go_at_call 16; refine (RR.out _ (B1 _ _)).mono ?_; rintro e w1 ⟨rfl, hb⟩; have H1 := Lib.hid (bb (B1 w _) hb); have d0 := ((Blk.new w _ _).below' hb).cell 0; have d1 := ((Blk.new w _ _).below' hb).cell 1; simp only [List.getElem?_toArray, List.getElem?_cons_zero, List.getElem?_cons_succ] at d0 d1; clear hb)
      go_ret
      exact ⟨by first | rfl | trivial, H1.out⟩
    | true =>
      have hr := rightB_true.1 erb.symm
      by_cases h0 : n < 0
      · clear erb hy hg hin hnl hrl hr
        go_enter Try.func44, Try.ntmps44
        go_wp2_with (go_at_call 16; refine (RR.out _ (B1 _ _)).mono ?_; rintro e w1 ⟨rfl, hb⟩; have H1 := Lib.hid (bb (B1 w _) hb); have d0 := ((Blk.new w _ _).below' hb).cell 0; have d1 := ((Blk.new w _ _).below' hb).cell 1; simp only [List.getElem?_toArray, List.getElem?_cons_zero, List.getElem?_cons_succ] at d0 d1; clear hb)
        go_ret
        exact ⟨by first | rfl | trivial, H1.out⟩
      · have h1 : (g.nodes.length : Int) ≤ n := by
          by_cases h : (g.nodes.length : Int) ≤ n
          · exact h
          · exact absurd ⟨hr, by omega, by omega⟩ hy
        clear erb hy hg hin hnl hrl hr
        go_enter Try.func44, Try.ntmps44
        go_wp2_with (go_at_call 16; refine (RR.out _ (B1 _ _)).mono ?_; rintro e w1 ⟨rfl, hb⟩; have H1 := Lib.hid (bb (B1 w _) hb); have d0 := ((Blk.new w _ _).below' hb).cell 0; have d1 := ((Blk.new w _ _).below' hb).cell 1; simp only [List.getElem?_toArray, List.getElem?_cons_zero, List.getElem?_cons_succ] at d0 d1; clear hb)
        go_ret
        exact ⟨by first | rfl | trivial, H1.out⟩
set_option maxRecDepth 100000 in
set_option maxHeartbeats 2000000 in
theorem size_all (g : Gr) (w : World) (hg : Gr.At w g) : Calls Try.prog 8 #[g.val] w fun e w' => (∃ z : Int, e = .returned (.int .i64 z) ∧ (z ≤ 300 → g.rules.length + g.nodes.length ≤ 300 ∧ ∀ x ∈ g.nodes, x.kids.length ≤ 300)) ∧ Below w.heap.size w w' := by
  have HG := Lib.hid hg
  have h1 := hg.rl
  have h2 := hg.nl
  obtain ⟨RA, rc, rules, NA, nc, nodes⟩ := g
  dsimp only at h1 h2
  obtain ⟨m, em⟩ : ∃ m, m = nodes.length := ⟨_, rfl⟩
  obtain ⟨r, er⟩ : ∃ m, m = rules.length := ⟨_, rfl⟩
  show Calls Try.prog 8 #[.agg #[.slice RA rules.length rc, .slice NA nodes.length nc]] w _
  have EM := Lib.hid em
  have ER := Lib.hid er
  rw [← em, ← er]
  rw [← em] at h2
  rw [← er] at h1
  clear hg em er
  go_enter Try.func8, Try.ntmps8
  go_wp2_with fail
  obtain ⟨wb, ewb⟩ : ∃ u, u = w.alloc (.cells #[.slice RA r rc, .slice NA m nc] 25) := ⟨_, rfl⟩
  have hb2 : Below w.heap.size w wb := by rw [ewb]; exact B1 _ _
  have c0 : wb.cell? ⟨w.heap.size, 0, none⟩ = some (.slice RA r rc) := by rw [ewb]; exact (Blk.new _ _ _).cell 0
  have c1 : wb.cell? ⟨w.heap.size, 1, none⟩ = some (.slice NA m nc) := by rw [ewb]; exact (Blk.new _ _ _).cell 1
  rw [← ewb]
  have BB := Lib.hid hb2
  clear ewb hb2
  go_loopw [3, 4] (fun s i wr => ∃ (k : Nat) (n : Int), k ≤ m ∧ s = .int .i64 n ∧ i = .int .i64 k ∧ n ≤ 500000000000000 ∧ (r + m : Nat) ≤ n ∧ (∀ j, j < k → ((nodes.getD j Nd.zero).kids.length : Int) ≤ n) ∧ wr = wb) (fun _ i _ => m - (intOf i).toNat)
  case atStart => exact ⟨0, r + m, by omega, rfl, rfl, by omega, by omega, fun j h => by omega, rfl⟩
  case round =>
    obtain ⟨k, n, hk, rfl, rfl, hn, hn0, hkk, rfl⟩ := hrel
    have HK := Lib.hid hkk
    clear hkk
    by_cases hlt : k < m
    · have hlt2 : (k : Int) < m := by omega
      by_cases hle : n ≤ 300
      · obtain ⟨b1, o1, eA, _, _, _, _, _, _, _, _, _, c9⟩ := (HG.out.below BB.out).nodes.nine (show k < nodes.length by have := EM.out; omega)
        have hx := ((HG.out.below BB.out).node (show k < nodes.length by have := EM.out; omega)).2.2
        dsimp only at eA c9 hx
        rw [eA] at c1
        generalize hxx : nodes.getD k Nd.zero = x at c9 hx
        have HX := Lib.hid hxx
        clear eA hxx
        go_wp2_with fail
        go_roundw
        case rel => exact ⟨k + 1, n + x.kids.length, by omega, by first | rfl | go_num, by go_num, by omega, by omega, fun j hj => (by
          by_cases ej : j = k
          · subst ej; rw [HX.out]; omega
          · have := HK.out j (by omega); omega), by first | trivial | rfl⟩
        case measure => simp [intOf]; omega
      · have hle2 : 300 < n := by omega
        go_wp2_with fail
        go_ret
        exact ⟨⟨n, rfl, fun h => absurd h (by omega)⟩, BB.out⟩
    · obtain rfl : k = m := by omega
      have hlt2 : ¬ (k : Int) < k := by omega
      go_wp2_with fail
      go_ret
      exact ⟨⟨n, rfl, fun h => ⟨by have := EM.out; have := ER.out; omega, fun x hx => by
        obtain ⟨j, hj, rfl⟩ := List.getElem_of_mem hx
        have := HK.out j (by have := EM.out; omega)
        simp only [List.getD, List.getElem?_eq_getElem hj, Option.getD_some] at this
        skip
        omega⟩⟩, BB.out⟩
end Go.Proofs.Ytfdfcagkfnckmaa

/- Names, nodes, bodies, all of a grammar: the program's answers. -/
import Derived.Test.YtfghfnpiaccfaaaGreatDoorJ2
import Derived.Test.YtfghfnpiaccfaaaGreatDoorJ4
set_option linter.unusedSimpArgs false
set_option linter.unusedVariables false
namespace Go.Proofs.YtfghfnpiaccfaaaGreatDoor.J
open Go Go.RowKit
/-- What a grammar that came in has besides: Kinds within their bounds. -/
def _root_.Go.Proofs.YtfghfnpiaccfaaaGreatDoor.Gr.In (g : Gr) : Prop := ∀ x ∈ g.nodes, Nd.In x
noncomputable def namedB (l : List Rl) : Bool := by classical exact decide (Named l)
theorem namedB_true {l : List Rl} (h : Named l) : namedB l = true := by unfold namedB; simp [h]
theorem namedB_name {l : List Rl} (i : Nat) (hi : i < l.length) (h : nameOk (l.getD i Rl.zero).name.data.toList = false) : namedB l = false := by
  unfold namedB; simp; intro hn; rw [(hn i hi).1] at h; cases h
theorem namedB_rule {l : List Rl} (i : Nat) (hi : i < l.length) (h : ruleAt l (l.getD i Rl.zero).name ≠ i) : namedB l = false := by
  unfold namedB; simp; intro hn; exact h (hn i hi).2
theorem ruleFrom_lo (s : ByteArray) : ∀ (l : List Rl) (i : Nat), -1 ≤ ruleFrom s i l ∧ ruleFrom s i l < (i + l.length : Nat)
  | [], i => by simp [ruleFrom]; omega
  | r :: l, i => by
    unfold ruleFrom
    have := ruleFrom_lo s l (i + 1)
    simp only [List.length_cons]
    split <;> omega
theorem ruleAt_lo (l : List Rl) (s : ByteArray) : -1 ≤ ruleAt l s ∧ ruleAt l s < l.length := by
  have := ruleFrom_lo s l 0
  rw [Nat.zero_add] at this
  exact this
set_option maxRecDepth 100000 in
set_option maxHeartbeats 4000000 in
theorem named_any (g : Gr) (w : World) (hg : Gr.At w g) (hr : g.rules.length ≤ 140737488351232) : Calls Tryz.prog 87 #[g.val] w fun e w' => e = .returned (.bool (namedB g.rules)) ∧ Below w.heap.size w w' := by
  have HG := Lib.hid hg
  have NT := Lib.hid (namedB_true (l := g.rules))
  have NN := Lib.hid (namedB_name (l := g.rules))
  have NR := Lib.hid (namedB_rule (l := g.rules))
  have RU := Lib.hid (fun (s : ByteArray) (w' : World) (b : Below w.heap.size w w') => rule_any g s w' (hg.below b))
  have LO := Lib.hid (ruleAt_lo g.rules)
  obtain ⟨v, ev⟩ : ∃ v, v = namedB g.rules := ⟨_, rfl⟩
  rw [← ev] at NT NN NR ⊢
  clear hg ev
  obtain ⟨m, em⟩ : ∃ m, m = g.rules.length := ⟨_, rfl⟩
  have EM := Lib.hid em
  show Calls Tryz.prog 87 #[.agg #[.slice g.RA g.rules.length g.rc, .slice g.NA g.nodes.length g.nc]] w _
  have RU2 : RowKit.Hid (∀ (s : ByteArray) (w' : World), Below w.heap.size w w' → Calls Tryz.prog 33 #[.agg #[.slice g.RA m g.rc, .slice g.NA g.nodes.length g.nc], .string s] w' fun e w'' => e = .returned (.int .i64 (ruleAt g.rules s)) ∧ Below w'.heap.size w' w'') := Lib.hid (by rw [em]; exact RU.out)
  rw [← em] at hr ⊢
  clear em RU
  go_enter Tryz.func87, Tryz.ntmps87
  go_wp2_with fail
  obtain ⟨wb, ewb⟩ : ∃ u, u = w.alloc (.cells #[.slice g.RA m g.rc, .slice g.NA g.nodes.length g.nc] 25) := ⟨_, rfl⟩
  have hb2 : Below w.heap.size w wb := by rw [ewb]; exact B1 _ _
  have KB : RowKit.Hid (Blk wb w.heap.size #[.slice g.RA m g.rc, .slice g.NA g.nodes.length g.nc] 25) := Lib.hid (by rw [ewb]; exact Blk.new _ _ _)
  rw [← ewb]
  have BB := Lib.hid hb2
  clear ewb hb2
  go_loopw [8, 3, 4] (fun i _ _ wr => ∃ k : Nat, k ≤ m ∧ i = .int .i64 k ∧ (∀ j, j < k → nameOk (g.rules.getD j Rl.zero).name.data.toList = true ∧ ruleAt g.rules (g.rules.getD j Rl.zero).name = j) ∧ Below wb.heap.size wb wr) (fun i _ _ _ => m - (intOf i).toNat)
  case atStart => exact ⟨0, by omega, rfl, fun j h => by omega, Below.refl _ _⟩
  case round =>
    obtain ⟨k, hk, rfl, ht, hbl⟩ := hrel
    have HT := Lib.hid ht
    have BL := Lib.hid (bb BB.out hbl)
    have HBL := Lib.hid hbl
    clear ht hbl
    by_cases hlt : k < m
    · have hlt2 : (k : Int) < m := by omega
      obtain ⟨b1, o1, eA, _, c1, c2⟩ := (HG.out.below BL.out).rules.two (show k < g.rules.length by have := EM.out; omega)
      have hsz := HG.out.names (g.rules.getD k Rl.zero) (getD_mem (by have := EM.out; omega))
      have HL := Lib.hid (LO.out (g.rules.getD k Rl.zero).name)
      have NK := Lib.hid (NN.out k (by have := EM.out; omega))
      have RK := Lib.hid (NR.out k (by have := EM.out; omega))
      generalize hx : g.rules.getD k Rl.zero = x at c1 c2 hsz HL NK RK
      have HX := Lib.hid hx
      have NM := Lib.hid (fun W => name_any x.name hsz W)
      have RR := Lib.hid (RU2.out x.name)
      obtain ⟨q, eq⟩ : ∃ q, q = ruleAt g.rules x.name := ⟨_, rfl⟩
      rw [← eq] at RR HL RK
      have EQ := Lib.hid eq
      rw [eA]
      clear hx eq eA
      have cx := fun o => (Below.cell (B1 wr o) (p := ⟨b1, o1 + k * 2, none⟩) (World.block_lt_of_cell? _ _ c1)).trans c1
      have cb : wr.cell? ⟨w.heap.size, 0, none⟩ = some (.slice g.RA m g.rc) := (KB.out.below' HBL.out).cell 0
      obtain ⟨no, en⟩ : ∃ no, no = nameOk x.name.data.toList := ⟨_, rfl⟩
      rw [← en] at NM NK
      have EN := Lib.hid en
      clear en
      cases no with
      | false =>
        go_wp2_with (go_at_call 96; refine (NM.out _).mono ?_; rintro e w1 ⟨rfl, hb⟩; have H1 := Lib.hid (bb (BL.out.alloc BL.out.size _) hb); clear hb)
        go_ret
        exact ⟨ret_bool (NK.out (by first | rfl | trivial)).symm, H1.out⟩
      | true =>
        by_cases hq : q = k
        · have hb : (q != (k : Int)) = false := by simpa using hq
          have HQ := Lib.hid hq
          clear hq
          go_wp2_with (first | (go_at_call 96; refine (NM.out _).mono ?_; rintro e w1 ⟨rfl, hb1⟩; have H1 := Lib.hid (bb (BL.out.alloc BL.out.size _) hb1); have H1' := Lib.hid (bb (HBL.out.alloc HBL.out.size _) hb1); have d0 := ((KB.out.below' HBL.out).alloc _ |>.below' hb1).cell 0; have d1 := ((KB.out.below' HBL.out).alloc _ |>.below' hb1).cell 1; have d2 := ((Blk.new wr _ _).below' hb1).cell 0; simp only [List.getElem?_toArray, List.getElem?_cons_zero, List.getElem?_cons_succ] at d0 d1 d2; clear hb1) | (go_at_call 33; refine (RR.out _ H1.out).mono ?_; rintro e w2 ⟨rfl, hb2⟩; have H2 := Lib.hid (bb H1'.out hb2); clear hb2))
          go_roundw
          case rel => exact ⟨k + 1, by omega, by go_num, fun j hj => by
              by_cases ej : j = k
              · subst ej; rw [HX.out]; exact ⟨EN.out.symm, EQ.out.symm.trans HQ.out⟩
              · exact HT.out j (by omega), H2.out⟩
          case measure => simp [intOf]; omega
        · have hb : (q != (k : Int)) = true := by simpa using hq
          have HQ := Lib.hid hq
          clear hq
          go_wp2_with (first | (go_at_call 96; refine (NM.out _).mono ?_; rintro e w1 ⟨rfl, hb1⟩; have H1 := Lib.hid (bb (BL.out.alloc BL.out.size _) hb1); have d0 := ((KB.out.below' HBL.out).alloc _ |>.below' hb1).cell 0; have d1 := ((KB.out.below' HBL.out).alloc _ |>.below' hb1).cell 1; have d2 := ((Blk.new wr _ _).below' hb1).cell 0; simp only [List.getElem?_toArray, List.getElem?_cons_zero, List.getElem?_cons_succ] at d0 d1 d2; clear hb1) | (go_at_call 33; refine (RR.out _ H1.out).mono ?_; rintro e w2 ⟨rfl, hb2⟩; have H2 := Lib.hid (bb H1.out hb2); clear hb2))
          go_ret
          exact ⟨ret_bool (RK.out HQ.out).symm, H2.out⟩
    · obtain rfl : k = m := by omega
      have hlt2 : ¬ (k : Int) < k := by omega
      go_wp2_with fail
      go_ret
      exact ⟨ret_bool (NT.out (fun i hi => HT.out i (by have := EM.out; omega))).symm, BL.out⟩
end Go.Proofs.YtfghfnpiaccfaaaGreatDoor.J
namespace Go.Proofs.YtfghfnpiaccfaaaGreatDoor.J
open Go Go.RowKit
noncomputable def allB (l : List Nd) (r : Int) : Bool := by classical exact decide (AllRight l r)
theorem allB_true {l : List Nd} {r : Int} (h : AllRight l r) : allB l r = true := by unfold allB; simp [h]
theorem allB_false {l : List Nd} {r : Int} (i : Nat) (hi : i < l.length) (h : nodeOk (l.getD i Nd.zero) r = false) : allB l r = false := by
  unfold allB; simp; intro hn; rw [hn i hi] at h; cases h
set_option maxRecDepth 100000 in
set_option maxHeartbeats 4000000 in
theorem allRight_any (g : Gr) (w : World) (hg : Gr.At w g) (hin : Gr.In g) : Calls Tryz.prog 88 #[g.val] w fun e w' => e = .returned (.bool (allB g.nodes g.rules.length)) ∧ Below w.heap.size w w' := by
  have HG := Lib.hid hg
  have HIN := Lib.hid hin
  have hr := hg.rl
  have hn := hg.nl
  obtain ⟨r, er⟩ : ∃ r, r = g.rules.length := ⟨_, rfl⟩
  have NT := Lib.hid (allB_true (l := g.nodes) (r := g.rules.length))
  have NN := Lib.hid (allB_false (l := g.nodes) (r := g.rules.length))
  obtain ⟨v, ev⟩ : ∃ v, v = allB g.nodes g.rules.length := ⟨_, rfl⟩
  rw [← ev] at NT NN ⊢
  show Calls Tryz.prog 88 #[.agg #[.slice g.RA g.rules.length g.rc, .slice g.NA g.nodes.length g.nc]] w _
  rw [← er] at NT NN hr ⊢
  obtain ⟨m, em⟩ : ∃ m, m = g.nodes.length := ⟨_, rfl⟩
  have EM := Lib.hid em
  rw [← em] at hn ⊢
  clear hg hin ev er em
  go_enter Tryz.func88, Tryz.ntmps88
  go_wp2_with (go_at_call 142; refine (takers_any _).mono ?_; rintro e w1 ⟨rfl, hT, hb⟩; have HT0 := Lib.hid hT; have HB0 := Lib.hid (bb (B1 w _) hb); have HZ := Lib.hid hb.size; have KB := Lib.hid ((Blk.new w _ _).below' hb); have d0 := KB.out.cell 0; have d1 := KB.out.cell 1; simp only [List.getElem?_toArray, List.getElem?_cons_zero, List.getElem?_cons_succ] at d0 d1; clear hT hb)
  clear d0 d1
  obtain ⟨tb, etb⟩ : ∃ tb, tb = w.heap.size + 1 := ⟨_, rfl⟩
  have HT : RowKit.Hid (Takers w1 tb) := Lib.hid (by rw [etb]; have := HT0.out; rw [World.size_alloc] at this; exact this)
  rw [← etb]
  clear HT0 etb
  go_loopw [10, 5] (fun i _ wr => ∃ k : Nat, k ≤ m ∧ i = .int .i64 k ∧ (∀ j, j < k → nodeOk (g.nodes.getD j Nd.zero) r = true) ∧ Below w1.heap.size w1 wr) (fun i _ _ => m - (intOf i).toNat)
  case atStart => exact ⟨0, by omega, rfl, fun j h => by omega, Below.refl _ _⟩
  case round =>
    obtain ⟨k, hk, rfl, ht, hbl⟩ := hrel
    have HTT := Lib.hid ht
    have BL := Lib.hid (bb HB0.out hbl)
    have HBL := Lib.hid hbl
    clear ht hbl
    by_cases hlt : k < m
    · have hlt2 : (k : Int) < m := by omega
      obtain ⟨b1, o1, eA, _, c1, c2, c3, c4, c5, c6, c7, c8, c9⟩ := (HG.out.below BL.out).nodes.nine (show k < g.nodes.length by have := EM.out; omega)
      have hat := Lib.hid ((HG.out.below BL.out).node (show k < g.nodes.length by have := EM.out; omega))
      have hin := Lib.hid (HIN.out (g.nodes.getD k Nd.zero) (getD_mem (by have := EM.out; omega)))
      have NK := Lib.hid (NN.out k (by have := EM.out; omega))
      generalize hx : g.nodes.getD k Nd.zero = x at c1 c2 c3 c4 c5 c6 c7 c8 c9 hat hin NK
      have HX := Lib.hid hx
      have RR := Lib.hid (fun (w' : World) (h : Below wr.heap.size wr w') => right_any x r tb w' (hat.out.below h) hin.out (HT.out.below (bb HBL.out h)))
      obtain ⟨no, en⟩ : ∃ no, no = nodeOk x r := ⟨_, rfl⟩
      rw [← en] at RR NK
      have EN := Lib.hid en
      rw [eA]
      clear en hx eA
      have cb : ∀ o, (wr.alloc o).cell? ⟨w.heap.size, 0, none⟩ = some (.slice g.RA r g.rc) := fun o => ((KB.out.below' HBL.out).alloc o).cell 0
      cases no with
      | false =>
        go_wp2_with (go_at_call 143; refine (RR.out _ (B1 _ _)).mono ?_; rintro e w2 ⟨rfl, hb⟩; have H1 := Lib.hid (bb (BL.out.alloc BL.out.size _) hb); clear hb)
        go_ret
        exact ⟨ret_bool (NK.out (by first | rfl | trivial)).symm, H1.out⟩
      | true =>
        go_wp2_with (go_at_call 143; refine (RR.out _ (B1 _ _)).mono ?_; rintro e w2 ⟨rfl, hb⟩; have H1 := Lib.hid (bb (HBL.out.alloc HBL.out.size _) hb); clear hb)
        go_roundw
        case rel => exact ⟨k + 1, by omega, by go_num, fun j hj => by
            by_cases ej : j = k
            · subst ej; rw [HX.out]; exact EN.out.symm
            · exact HTT.out j (by omega), H1.out⟩
        case measure => simp [intOf]; omega
    · obtain rfl : k = m := by omega
      have hlt2 : ¬ (k : Int) < k := by omega
      go_wp2_with fail
      go_ret
      exact ⟨ret_bool (NT.out (fun i hi => HTT.out i (by have := EM.out; omega))).symm, BL.out⟩
def bodB (m : Nat) (ms : Nat → Meas) (l : List Rl) : Bool := decide (bodies m ms l 0 = some (m : Int))
set_option maxRecDepth 100000 in
set_option maxHeartbeats 4000000 in
theorem bodied_any (A : Option Addr) (c : Nat) (l : List Rl) (hl : l.length ≤ 140737488351232) (gb m : Nat) (ms : Nat → Meas) (hm : m ≤ 2048) (hms : ∀ i, i < m → 1 ≤ (ms i).1 ∧ 1 ≤ (ms i).2 ∧ (i : Int) + (ms i).1 ≤ m) (w : World) (hA : Rules w A l) (hM : MeasAt w (.slice (some ⟨gb, 0, none⟩) m m) m ms) :
    Calls Tryz.prog 90 #[.slice A l.length c, .slice (some ⟨gb, 0, none⟩) m m] w fun e w' => e = .returned (.bool (bodB m ms l)) ∧ Below w.heap.size w w' := by
  have HA := Lib.hid hA
  have HM := Lib.hid hM
  have HS := Lib.hid hms
  obtain ⟨F, eF⟩ : ∃ F, F = bodies m ms l 0 := ⟨_, rfl⟩
  have HV := Lib.hid (show bodB m ms l = decide (F = some (m : Int)) by unfold bodB; rw [eF])
  obtain ⟨v, ev⟩ : ∃ v, v = bodB m ms l := ⟨_, rfl⟩
  rw [← ev] at HV ⊢
  obtain ⟨r, er⟩ : ∃ r, r = l.length := ⟨_, rfl⟩
  rw [← er] at hl ⊢
  have ER := Lib.hid er
  have EF := Lib.hid eF
  clear hA hM hms eF ev er
  go_enter Tryz.func90, Tryz.ntmps90
  go_wp2_with fail
  go_loopw [10, 5, 7] (fun i nx _ wr => ∃ (k n : Nat), k ≤ r ∧ i = .int .i64 k ∧ nx = .int .i64 n ∧ n ≤ m ∧ bodies m ms (l.drop k) n = F ∧ Below w.heap.size w wr) (fun i _ _ _ => r - (intOf i).toNat)
  case atStart => exact ⟨0, 0, by omega, rfl, rfl, by omega, by rw [EF.out]; simp, Below.refl _ _⟩
  case round =>
    obtain ⟨k, n, hk, rfl, rfl, hn, hcl, hbl⟩ := hrel
    have BL := Lib.hid hbl
    clear hbl
    by_cases hlt : k < r
    · have hlt2 : (k : Int) < r := by omega
      obtain ⟨b1, o1, rfl, _, c1, c2⟩ := (HA.out.below BL.out).two (show k < l.length by have := ER.out; omega)
      have hkl : k < l.length := by have := ER.out; omega
      rw [List.drop_eq_getElem_cons hkl] at hcl
      have hgd : l[k] = l.getD k Rl.zero := by simp [List.getD, List.getElem?_eq_getElem hkl]
      rw [hgd] at hcl
      generalize l.getD k Rl.zero = x at hcl c1 c2
      unfold bodies at hcl
      by_cases hok : x.body = n ∧ (n : Int) < m ∧ (ms (n : Int).toNat).2 ≤ 16
      · rw [if_pos hok] at hcl
        obtain ⟨h1, h2, h3⟩ := hok
        have hnm : n < m := by omega
        obtain ⟨gb', eg, _, hmc⟩ := HM.out.below BL.out
        cases eg
        obtain ⟨d1, d2⟩ := hmc n hnm
        obtain ⟨s1, s2, s3⟩ := HS.out n hnm
        rw [Int.toNat_natCast] at hcl h3
        have e1 := fun o => (Below.cell (B1 wr o) (p := ⟨gb, n * 2, none⟩) (World.block_lt_of_cell? _ _ d1)).trans d1
        have e2 := fun o => (Below.cell (B1 wr o) (p := ⟨gb, n * 2 + 1, none⟩) (World.block_lt_of_cell? _ _ d2)).trans d2
        generalize ms n = mn at s1 s2 s3 e1 e2 d1 d2 hcl h3
        obtain ⟨sz, ht⟩ := mn
        dsimp only at s1 s2 s3 e1 e2 d1 d2 hcl h3
        obtain ⟨n', hn'⟩ : ∃ n' : Nat, (n' : Int) = n + sz := ⟨(n + sz).toNat, by omega⟩
        rw [← hn'] at hcl
        have HCL := Lib.hid hcl
        have HN' := Lib.hid hn'
        have hb : (x.body != (n : Int)) = false := by simpa using h1
        clear hcl hgd hmc hn' h1
        go_wp2_with fail
        go_roundw
        case rel => exact ⟨k + 1, n', by omega, by go_num, by have := HN'.out; simp only [Value.int.injEq, true_and]; omega, by have := HN'.out; omega, HCL.out, BL.out.alloc BL.out.size _⟩
        case measure => simp [intOf]; omega
      · rw [if_neg hok] at hcl
        have HF := Lib.hid hcl
        clear hcl hgd
        have VF : RowKit.Hid (v = false) := Lib.hid (by rw [HV.out, ← HF.out]; rfl)
        by_cases h1 : x.body = n
        · have hb : (x.body != (n : Int)) = false := by simpa using h1
          by_cases h2 : n < m
          · have h2' : (n : Int) < m := by omega
            have h2'' : ¬ m ≤ n := by omega
            obtain ⟨gb', eg, _, hmc⟩ := HM.out.below BL.out
            cases eg
            obtain ⟨d1, d2⟩ := hmc n h2
            have h3 : 16 < (ms n).2 := by
              by_cases h : (ms n).2 ≤ 16
              · exact absurd ⟨h1, h2', by rw [Int.toNat_natCast]; exact h⟩ hok
              · omega
            have e2 := fun o => (Below.cell (B1 wr o) (p := ⟨gb, n * 2 + 1, none⟩) (World.block_lt_of_cell? _ _ d2)).trans d2
            generalize ms n = mn at d1 d2 h3 e2
            obtain ⟨sz, ht⟩ := mn
            dsimp only at d1 d2 h3 e2
            clear hok hmc h1
            go_wp2_with fail
            go_ret
            exact ⟨ret_bool VF.out.symm, BL.out.alloc BL.out.size _⟩
          · have h2' : ¬ (n : Int) < m := by omega
            have h2'' : m ≤ n := by omega
            have h2b : (m : Int) ≤ n := by omega
            clear hok h1
            go_wp2_with fail
            go_ret
            exact ⟨ret_bool VF.out.symm, BL.out.alloc BL.out.size _⟩
        · have hb : (x.body != (n : Int)) = true := by simpa using h1
          clear hok h1
          go_wp2_with fail
          go_ret
          exact ⟨ret_bool VF.out.symm, BL.out.alloc BL.out.size _⟩
    · obtain rfl : k = r := by omega
      have hlt2 : ¬ (k : Int) < k := by omega
      have hd : l.drop k = [] := List.drop_eq_nil_of_le (by have := ER.out; omega)
      rw [hd, bodies] at hcl
      have HCL := Lib.hid hcl
      clear hcl hd
      go_wp2_with fail
      go_ret
      exact ⟨ret_bool (by rw [HV.out, ← HCL.out, Bool.eq_iff_iff]; simp), BL.out⟩
end Go.Proofs.YtfghfnpiaccfaaaGreatDoor.J
namespace Go.Proofs.YtfghfnpiaccfaaaGreatDoor.J
open Go Go.RowKit
def MeasEnd (w : World) (g : Gr) (e : Ending) (w' : World) : Prop :=
  ∃ v, e = .returned (.tuple #[v, .bool (rightB g)]) ∧ Below w.heap.size w w' ∧ (rightB g = true → ∃ ms, Measured g.nodes ms 0 ∧ MeasAt w' v g.nodes.length ms) ∧ (rightB g = false → v = .slice none 0 0)
theorem measEnd_no {w w' : World} {g : Gr} (h : rightB g = false) (hb : Below w.heap.size w w') : MeasEnd w g (.returned (.tuple #[.slice none 0 0, .bool false])) w' :=
  ⟨_, by rw [h], hb, (fun e => by rw [h] at e; cases e), (fun _ => rfl)⟩
theorem namedB_iff {l : List Rl} : namedB l = true ↔ Named l := by unfold namedB; simp
theorem allB_iff {l : List Nd} {r : Int} : allB l r = true ↔ AllRight l r := by unfold allB; simp
theorem bodB_congr {l : List Nd} {ms ms' : Nat → Meas} {r : List Rl} (h : Measured l ms 0) (h' : Measured l ms' 0) : bodB l.length ms r = bodB l.length ms' r := by
  unfold bodB
  rw [bodies_congr (fun m hl => (h m (by omega) hl).1) (measured_eq h h') r 0 (by omega)]
set_option maxRecDepth 100000 in
set_option maxHeartbeats 4000000 in
theorem measured_any (g : Gr) (w : World) (hg : Gr.At w g) (hin : Gr.In g) : Calls Tryz.prog 38 #[g.val] w (MeasEnd w g) := by
  have hr := hg.rl
  have hn := hg.nl
  have NM := Lib.hid (fun (w' : World) (b : Below w.heap.size w w') => named_any g w' (hg.below b) hg.rl)
  have AL := Lib.hid (fun (w' : World) (b : Below w.heap.size w w') => allRight_any g w' (hg.below b) hin)
  by_cases h1 : 1 ≤ g.rules.length ∧ g.rules.length ≤ 32
  · have hd : decide ((1 : Int) ≤ g.rules.length ∧ (g.rules.length : Int) ≤ 32) = true := by simp; omega
    have W33 := Lib.hid (fun w => by have := within_any 1 g.rules.length 32 w; rw [hd] at this; exact this)
    by_cases h2 : g.nodes.length ≤ 2048
    · have h2' : ¬ (2048 : Int) < g.nodes.length := by omega
      have h2'' : (g.nodes.length : Int) ≤ 2048 := by omega
      have PR := Lib.hid (fun (w' : World) (b : Below w.heap.size w w') => pre_any g.NA g.nc g.nodes h2 w' (hg.below b).nodes (hg.below b).kids)
      have BO := Lib.hid (fun (gb : Nat) (ms : Nat → Meas) (hm : Measured g.nodes ms 0) (w' : World) (b : Below w.heap.size w w') (hM : MeasAt w' (.slice (some ⟨gb, 0, none⟩) g.nodes.length g.nodes.length) g.nodes.length ms) => bodied_any g.RA g.rc g.rules hg.rl gb g.nodes.length ms h2 (fun i hi => ⟨(hm i (by omega) hi).1, (hm i (by omega) hi).2.1, (hm i (by omega) hi).2.2.1⟩) w' (hg.below b).rules hM)
      have RI := Lib.hid (show rightB g = true ↔ (namedB g.rules = true ∧ allB g.nodes g.rules.length = true ∧ ∃ ms, Measured g.nodes ms 0 ∧ bodB g.nodes.length ms g.rules = true) from by
        rw [rightB_true, namedB_iff, allB_iff]
        unfold bodB
        simp only [decide_eq_true_eq]
        exact ⟨fun h => ⟨h.named, h.all, h.pre⟩, fun ⟨a, b, c⟩ => ⟨h1, h2, a, b, c⟩⟩)
      have PI := Lib.hid (preB_true (l := g.nodes))
      obtain ⟨nb, enb⟩ : ∃ b, b = namedB g.rules := ⟨_, rfl⟩
      obtain ⟨ab, eab⟩ : ∃ b, b = allB g.nodes g.rules.length := ⟨_, rfl⟩
      rw [← enb] at NM RI
      rw [← eab] at AL RI
      clear hd enb eab h1 h2 hg hin
      cases nb with
      | false =>
        have HF : RowKit.Hid (rightB g = false) := Lib.hid (by rw [Bool.eq_false_iff]; intro h; have := (RI.out.1 h).1; cases this)
        go_enter Tryz.func38, Tryz.ntmps38
        go_wp2_with (first | (go_at_call 86; refine (W33.out _).mono ?_; rintro e w1 ⟨rfl, rfl⟩) | (go_at_call 87; refine (NM.out _ (B1 _ _)).mono ?_; rintro e w1 ⟨rfl, hb⟩; have H1 := Lib.hid (bb (B1 w _) hb); clear hb))
        go_ret2
        exact measEnd_no HF.out H1.out
      | true =>
        cases ab with
        | false =>
          have HF : RowKit.Hid (rightB g = false) := Lib.hid (by rw [Bool.eq_false_iff]; intro h; have := (RI.out.1 h).2.1; cases this)
          go_enter Tryz.func38, Tryz.ntmps38
          go_wp2_with (first | (go_at_call 86; refine (W33.out _).mono ?_; rintro e w1 ⟨rfl, rfl⟩) | (go_at_call 87; refine (NM.out _ (B1 _ _)).mono ?_; rintro e w1 ⟨rfl, hb⟩; have H1 := Lib.hid (bb (B1 w _) hb); have d0 := ((Blk.new w _ _).below' hb).cell 0; have d1 := ((Blk.new w _ _).below' hb).cell 1; simp only [List.getElem?_toArray, List.getElem?_cons_zero, List.getElem?_cons_succ] at d0 d1; clear hb) | (go_at_call 88; refine (AL.out _ H1.out).mono ?_; rintro e w2 ⟨rfl, hb⟩; have H2 := Lib.hid (bb H1.out hb); clear hb))
          go_ret2
          exact measEnd_no HF.out H2.out
        | true =>
          cases hp : preB g.nodes with
          | false =>
            have HF : RowKit.Hid (rightB g = false) := Lib.hid (by rw [Bool.eq_false_iff]; intro h; obtain ⟨ms, h3, _⟩ := (RI.out.1 h).2.2; exact preB_false.1 hp ⟨ms, h3⟩)
            have HP := Lib.hid hp
            clear hp
            go_enter Tryz.func38, Tryz.ntmps38
            go_wp2_with (first | (go_at_call 86; refine (W33.out _).mono ?_; rintro e w1 ⟨rfl, rfl⟩) | (go_at_call 87; refine (NM.out _ (B1 _ _)).mono ?_; rintro e w1 ⟨rfl, hb⟩; have H1 := Lib.hid (bb (B1 w _) hb); have K1 := Lib.hid ((Blk.new w _ _).below' hb); have d0 := K1.out.cell 0; have d1 := K1.out.cell 1; simp only [List.getElem?_toArray, List.getElem?_cons_zero, List.getElem?_cons_succ] at d0 d1; clear hb) | (go_at_call 88; refine (AL.out _ H1.out).mono ?_; rintro e w2 ⟨rfl, hb⟩; have H2 := Lib.hid (bb H1.out hb); have e1 := (K1.out.below' hb).cell 1; simp only [List.getElem?_toArray, List.getElem?_cons_zero, List.getElem?_cons_succ] at e1; clear hb) | (go_at_call 89; refine (PR.out _ H2.out).mono ?_; rintro e w3 ⟨v, rfl, hb, _, hv⟩; obtain rfl := hv HP.out; have H3 := Lib.hid (bb H2.out hb); have hpf := HP.out; clear hb hv))
            go_ret2
            exact measEnd_no HF.out H3.out
          | true =>
            have HP := Lib.hid hp
            clear hp
            go_enter Tryz.func38, Tryz.ntmps38
            go_wp2_with (first | (go_at_call 86; refine (W33.out _).mono ?_; rintro e w1 ⟨rfl, rfl⟩) | (go_at_call 87; refine (NM.out _ (B1 _ _)).mono ?_; rintro e w1 ⟨rfl, hb⟩; have H1 := Lib.hid (bb (B1 w _) hb); have K1 := Lib.hid ((Blk.new w _ _).below' hb); have d0 := K1.out.cell 0; have d1 := K1.out.cell 1; simp only [List.getElem?_toArray, List.getElem?_cons_zero, List.getElem?_cons_succ] at d0 d1; clear hb) | (go_at_call 88; refine (AL.out _ H1.out).mono ?_; rintro e w2 ⟨rfl, hb⟩; have H2 := Lib.hid (bb H1.out hb); have K2 := Lib.hid (K1.out.below' hb); have e1 := K2.out.cell 1; simp only [List.getElem?_toArray, List.getElem?_cons_zero, List.getElem?_cons_succ] at e1; clear hb) | (go_at_call 89; refine (PR.out _ H2.out).mono ?_; rintro e w3 ⟨v, rfl, hb, hv, _⟩; obtain ⟨ms, hm, gb, rfl, hgl, hmc⟩ := hv HP.out; have HM := Lib.hid hm; have MA : RowKit.Hid (MeasAt w3 (.slice (some ⟨gb, 0, none⟩) g.nodes.length g.nodes.length) g.nodes.length ms) := Lib.hid ⟨gb, rfl, hgl, hmc⟩; have H3 := Lib.hid (bb H2.out hb); have f0 := (K2.out.below' hb).cell 0; simp only [List.getElem?_toArray, List.getElem?_cons_zero, List.getElem?_cons_succ] at f0; have hpf := HP.out; clear hb hv hm hmc) | (go_at_call 90; refine (BO.out gb ms HM.out _ H3.out MA.out).mono ?_; rintro e w4 ⟨rfl, hb⟩; have H4 := Lib.hid (bb H3.out hb); have M4 := Lib.hid (MA.out.below hb); clear hb f0 e1 d0 d1))
            all_goals go_ret2
            · have hbo : bodB g.nodes.length ms g.rules = false := by have h : (!bodB g.nodes.length ms g.rules) = true := (by assumption); simpa using h
              refine measEnd_no ?_ H4.out
              rw [Bool.eq_false_iff]
              intro h
              obtain ⟨ms', h3, h4⟩ := (RI.out.1 h).2.2
              rw [bodB_congr h3 HM.out, hbo] at h4
              cases h4
            · have hbo : bodB g.nodes.length ms g.rules = true := by have h : (!bodB g.nodes.length ms g.rules) = false := (by assumption); simpa using h
              have HR : rightB g = true := RI.out.2 ⟨by first | rfl | trivial, by first | rfl | trivial, ms, HM.out, hbo⟩
              refine ⟨.slice (some ⟨gb, 0, none⟩) g.nodes.length g.nodes.length, ?_, H4.out, (fun _ => ⟨ms, HM.out, M4.out⟩), (fun e => by rw [HR] at e; cases e)⟩
              rw [HR]
              rfl
    · have h2' : (2048 : Int) < g.nodes.length := by omega
      have HF : RowKit.Hid (rightB g = false) := Lib.hid (rightB_false.2 fun h => h2 h.nodes)
      clear h2 hd hg hin NM AL h1
      go_enter Tryz.func38, Tryz.ntmps38
      go_wp2_with (go_at_call 86; refine (W33.out _).mono ?_; rintro e w1 ⟨rfl, rfl⟩)
      go_ret2
      exact measEnd_no HF.out (B1 _ _)
  · have hd : decide ((1 : Int) ≤ g.rules.length ∧ (g.rules.length : Int) ≤ 32) = false := by simp; omega
    have W33 := Lib.hid (fun w => by have := within_any 1 g.rules.length 32 w; rw [hd] at this; exact this)
    have HF : RowKit.Hid (rightB g = false) := Lib.hid (rightB_false.2 fun h => h1 h.rules)
    clear h1 hd hg hin NM AL
    go_enter Tryz.func38, Tryz.ntmps38
    go_wp2_with (go_at_call 86; refine (W33.out _).mono ?_; rintro e w1 ⟨rfl, rfl⟩)
    go_ret2
    exact measEnd_no HF.out (B1 _ _)
theorem right_all (g : Gr) (w : World) (hg : Gr.At w g) (hin : Gr.In g) : Calls Tryz.prog 13 #[g.val] w fun e w' => e = .returned (.bool (rightB g)) ∧ Below w.heap.size w w' := by
  have M := Lib.hid (fun (w' : World) (b : Below w.heap.size w w') => measured_any g w' (hg.below b) hin)
  clear hg hin
  go_enter Tryz.func13, Tryz.ntmps13
  go_wp2_with (go_at_call 38; refine (M.out _ (B1 _ _)).mono ?_; rintro e w1 ⟨v, rfl, hb, _, _⟩; have H1 := Lib.hid (bb (B1 w _) hb); clear hb)
  go_ret
  exact ⟨rfl, H1.out⟩
end Go.Proofs.YtfghfnpiaccfaaaGreatDoor.J

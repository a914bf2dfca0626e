/- Names, nodes, bodies, all of a grammar: the program's answers. -/
import Derived.Test.YtlbjmkljmhfjdaaGreatA6
import Derived.Test.YtlbjmkljmhfjdaaGreatA8
set_option linter.unusedSimpArgs false
set_option linter.unusedVariables false
namespace Go.Proofs.YtlbjmkljmhfjdaaGreat
open Go Go.RowKit
/-- What a grammar that came in has besides: Kinds within their bounds. -/
def Gr.In (g : Gr) : Prop := ∀ x ∈ g.nodes, Nd.In x
noncomputable def namedB (l : List Rl) : Bool := by classical exact decide (Named l)
theorem namedB_true {l : List Rl} (h : Named l) : namedB l = true := by unfold namedB; simp [h]
theorem namedB_name {l : List Rl} (i : Nat) (hi : i < l.length) (h : nameOk (l.getD i Rl.zero).name.data.toList = false) : namedB l = false := by
  unfold namedB; simp; intro hn; rw [(hn i hi).1] at h; cases h
theorem namedB_rule {l : List Rl} (i : Nat) (hi : i < l.length) (h : ruleAt l (l.getD i Rl.zero).name ≠ i) : namedB l = false := by
  unfold namedB; simp; intro hn; exact h (hn i hi).2
theorem ruleFrom_lo (s : ByteArray) : ∀ (l : List Rl) (i : Nat), -1 ≤ ruleFrom s i l ∧ ruleFrom s i l < (i + l.length : Nat)
  | [], i => by simp [ruleFrom]; omega
  | r :: l, i => by
    unfold ruleFrom
    have := ruleFrom_lo s l (i + 1)
    simp only [List.length_cons]
    split <;> omega
theorem ruleAt_lo (l : List Rl) (s : ByteArray) : -1 ≤ ruleAt l s ∧ ruleAt l s < l.length := by
  have := ruleFrom_lo s l 0
  rw [Nat.zero_add] at this
  exact this
set_option maxRecDepth 100000 in
set_option maxHeartbeats 4000000 in
theorem named_any (g : Gr) (w : World) (hg : Gr.At w g) (hr : g.rules.length ≤ 140737488351232) : Calls Tryz.prog 234 #[g.val] w fun e w' => e = .returned (.bool (namedB g.rules)) ∧ Below w.heap.size w w' := by
  have HG := Lib.hid hg
  have NT := Lib.hid (namedB_true (l := g.rules))
  have NN := Lib.hid (namedB_name (l := g.rules))
  have NR := Lib.hid (namedB_rule (l := g.rules))
  have RU := Lib.hid (fun (s : ByteArray) (w' : World) (b : Below w.heap.size w w') => rule_any g s w' (hg.below b))
  have LO := Lib.hid (ruleAt_lo g.rules)
  obtain ⟨v, ev⟩ : ∃ v, v = namedB g.rules := ⟨_, rfl⟩
  rw [← ev] at NT NN NR ⊢
  clear hg ev
  obtain ⟨m, em⟩ : ∃ m, m = g.rules.length := ⟨_, rfl⟩
  have EM := Lib.hid em
  show Calls Tryz.prog 234 #[.agg #[.slice g.RA g.rules.length g.rc, .slice g.NA g.nodes.length g.nc]] w _
  have RU2 : RowKit.Hid (∀ (s : ByteArray) (w' : World), Below w.heap.size w w' → Calls Tryz.prog 260 #[.agg #[.slice g.RA m g.rc, .slice g.NA g.nodes.length g.nc], .string s] w' fun e w'' => e = .returned (.int .i64 (ruleAt g.rules s)) ∧ Below w'.heap.size w' w'') := Lib.hid (by rw [em]; exact RU.out)
  rw [← em] at hr ⊢
  clear em RU
  go_enter Tryz.func234, Tryz.ntmps234
  go_wp2_with fail
  obtain ⟨wb, ewb⟩ : ∃ u, u = w.alloc (.cells #[.slice g.RA m g.rc, .slice g.NA g.nodes.length g.nc] 25) := ⟨_, rfl⟩
  have hb2 : Below w.heap.size w wb := by rw [ewb]; exact B1 _ _
  have KB : RowKit.Hid (Blk wb w.heap.size #[.slice g.RA m g.rc, .slice g.NA g.nodes.length g.nc] 25) := Lib.hid (by rw [ewb]; exact Blk.new _ _ _)
  rw [← ewb]
  have BB := Lib.hid hb2
  clear ewb hb2
  go_loopw [8, 3, 4] (fun i _ _ wr => ∃ k : Nat, k ≤ m ∧ i = .int .i64 k ∧ (∀ j, j < k → nameOk (g.rules.getD j Rl.zero).name.data.toList = true ∧ ruleAt g.rules (g.rules.getD j Rl.zero).name = j) ∧ Below wb.heap.size wb wr) (fun i _ _ _ => m - (RowKit.intOf i).toNat)
  case atStart => exact ⟨0, by omega, rfl, fun j h => by omega, Below.refl _ _⟩
  case round =>
    obtain ⟨k, hk, rfl, ht, hbl⟩ := hrel
    have HT := Lib.hid ht
    have BL := Lib.hid (bb BB.out hbl)
    have HBL := Lib.hid hbl
    clear ht hbl
    by_cases hlt : k < m
    · have hlt2 : (k : Int) < m := by omega
      obtain ⟨b1, o1, eA, _, c1, c2⟩ := (HG.out.below BL.out).rules.two (show k < g.rules.length by have := EM.out; omega)
      have hsz := HG.out.names (g.rules.getD k Rl.zero) (getD_mem (by have := EM.out; omega))
      have HL := Lib.hid (LO.out (g.rules.getD k Rl.zero).name)
      have NK := Lib.hid (NN.out k (by have := EM.out; omega))
      have RK := Lib.hid (NR.out k (by have := EM.out; omega))
      generalize hx : g.rules.getD k Rl.zero = x at c1 c2 hsz HL NK RK
      have HX := Lib.hid hx
      have NM := Lib.hid (fun W => name_any x.name hsz W)
      have RR := Lib.hid (RU2.out x.name)
      obtain ⟨q, eq⟩ : ∃ q, q = ruleAt g.rules x.name := ⟨_, rfl⟩
      rw [← eq] at RR HL RK
      have EQ := Lib.hid eq
      rw [eA]
      clear hx eq eA
      have cx := fun o => (Below.cell (B1 wr o) (p := ⟨b1, o1 + k * 2, none⟩) (World.block_lt_of_cell? _ _ c1)).trans c1
      have cb : wr.cell? ⟨w.heap.size, 0, none⟩ = some (.slice g.RA m g.rc) := (KB.out.below' HBL.out).cell 0
      obtain ⟨no, en⟩ : ∃ no, no = nameOk x.name.data.toList := ⟨_, rfl⟩
      rw [← en] at NM NK
      have EN := Lib.hid en
      clear en
      cases no with
      | false =>
        go_wp2_with (go_at_call 259; refine (NM.out _).mono ?_; rintro e w1 ⟨rfl, hb⟩; have H1 := Lib.hid (bb (BL.out.alloc BL.out.size _) hb); clear hb)
        go_ret
        exact ⟨ret_bool (NK.out (by first | rfl | trivial)).symm, H1.out⟩
      | true =>
        by_cases hq : q = k
        · have hb : (q != (k : Int)) = false := by simpa using hq
          have HQ := Lib.hid hq
          clear hq
          go_wp2_with (first | (go_at_call 259; refine (NM.out _).mono ?_; rintro e w1 ⟨rfl, hb1⟩; have H1 := Lib.hid (bb (BL.out.alloc BL.out.size _) hb1); have H1' := Lib.hid (bb (HBL.out.alloc HBL.out.size _) hb1); have d0 := ((KB.out.below' HBL.out).alloc _ |>.below' hb1).cell 0; have d1 := ((KB.out.below' HBL.out).alloc _ |>.below' hb1).cell 1; have d2 := ((Blk.new wr _ _).below' hb1).cell 0; simp only [List.getElem?_toArray, List.getElem?_cons_zero, List.getElem?_cons_succ] at d0 d1 d2; clear hb1) | (go_at_call 260; refine (RR.out _ H1.out).mono ?_; rintro e w2 ⟨rfl, hb2⟩; have H2 := Lib.hid (bb H1'.out hb2); clear hb2))
          go_roundw
          case rel => exact ⟨k + 1, by omega, by go_num, fun j hj => by
              by_cases ej : j = k
              · subst ej; rw [HX.out]; exact ⟨EN.out.symm, EQ.out.symm.trans HQ.out⟩
              · exact HT.out j (by omega), H2.out⟩
          case measure => simp [RowKit.intOf]; omega
        · have hb : (q != (k : Int)) = true := by simpa using hq
          have HQ := Lib.hid hq
          clear hq
          go_wp2_with (first | (go_at_call 259; refine (NM.out _).mono ?_; rintro e w1 ⟨rfl, hb1⟩; have H1 := Lib.hid (bb (BL.out.alloc BL.out.size _) hb1); have d0 := ((KB.out.below' HBL.out).alloc _ |>.below' hb1).cell 0; have d1 := ((KB.out.below' HBL.out).alloc _ |>.below' hb1).cell 1; have d2 := ((Blk.new wr _ _).below' hb1).cell 0; simp only [List.getElem?_toArray, List.getElem?_cons_zero, List.getElem?_cons_succ] at d0 d1 d2; clear hb1) | (go_at_call 260; refine (RR.out _ H1.out).mono ?_; rintro e w2 ⟨rfl, hb2⟩; have H2 := Lib.hid (bb H1.out hb2); clear hb2))
          go_ret
          exact ⟨ret_bool (RK.out HQ.out).symm, H2.out⟩
    · obtain rfl : k = m := by omega
      have hlt2 : ¬ (k : Int) < k := by omega
      go_wp2_with fail
      go_ret
      exact ⟨ret_bool (NT.out (fun i hi => HT.out i (by have := EM.out; omega))).symm, BL.out⟩
end Go.Proofs.YtlbjmkljmhfjdaaGreat

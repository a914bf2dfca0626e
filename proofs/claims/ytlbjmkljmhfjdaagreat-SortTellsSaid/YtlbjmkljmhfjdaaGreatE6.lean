/- The document's way to say whether a grammar is right. -/
import Derived.Test.YtlbjmkljmhfjdaaGreatB2
import Derived.Test.YtlbjmkljmhfjdaaGreatC3
import Derived.Test.YtlbjmkljmhfjdaaGreatC4
import Derived.Test.YtlbjmkljmhfjdaaGreatC5
import Derived.Test.YtlbjmkljmhfjdaaGreatC6
import Derived.Deep.CutRange
set_option linter.unusedSimpArgs false
set_option linter.unusedVariables false
namespace Go.Proofs.YtlbjmkljmhfjdaaGreat
open Go Go.RowKit
theorem march_no {g : Gr} (h : march g.nodes g.rules 0 ≠ some (g.nodes.length : Int)) : rightB g = false := by
  rw [Bool.eq_false_iff]
  intro hr
  exact h (rightB_march.1 hr).2.2.2.2
theorem name_no {g : Gr} (i : Nat) (hi : i < g.rules.length) (h : ¬ (nameOk (g.rules.getD i Rl.zero).name.data.toList = true ∧ ruleAt g.rules (g.rules.getD i Rl.zero).name = i)) : rightB g = false := by
  rw [Bool.eq_false_iff]
  intro hr
  exact h ((rightB_march.1 hr).2.2.2.1 i hi)
theorem node_no {g : Gr} (i : Nat) (hi : i < g.nodes.length) (h : nodeOk (g.nodes.getD i Nd.zero) g.rules.length = false) : rightB g = false := by
  rw [Bool.eq_false_iff]
  intro hr
  have := (rightB_march.1 hr).2.2.1 i hi
  rw [h] at this
  cases this
set_option maxRecDepth 100000 in
set_option maxHeartbeats 8000000 in
theorem refRight_any (g : Gr) (w : World) (hg : Gr.At w g) (hin : Gr.In g) : Calls Tryz.prog 104 #[g.val] w fun e w' => e = .returned (.bool (rightB g)) ∧ Below w.heap.size w w' := by
  have hrl := hg.rl
  have hnl := hg.nl
  have HG := Lib.hid hg
  have HIN := Lib.hid hin
  have RM := Lib.hid (rightB_march (g := g))
  have MN := Lib.hid (march_no (g := g))
  have NN := Lib.hid (name_no (g := g))
  have XN := Lib.hid (node_no (g := g))
  obtain ⟨rb, erb⟩ : ∃ rb, rb = rightB g := ⟨_, rfl⟩
  rw [← erb] at RM MN NN XN ⊢
  clear erb hg hin
  show Calls Tryz.prog 104 #[.agg #[.slice g.RA g.rules.length g.rc, .slice g.NA g.nodes.length g.nc]] w _
  by_cases hA : (1 ≤ g.rules.length ∧ g.rules.length ≤ 32) ∧ g.nodes.length ≤ 2048
  case neg =>
    have RF : RowKit.Hid (rb = false) := Lib.hid (by rw [Bool.eq_false_iff]; intro h; have := RM.out.1 h; exact hA ⟨this.1, this.2.1⟩)
    by_cases h1 : g.rules.length < 1
    · have a1 : (g.rules.length : Int) < 1 := by omega
      clear hA h1
      go_enter Tryz.func104, Tryz.ntmps104
      go_wp2_with fail
      go_ret
      exact ⟨ret_bool RF.out.symm, B1 _ _⟩
    · have a1 : ¬ (g.rules.length : Int) < 1 := by omega
      by_cases h2 : 32 < g.rules.length
      · have a2 : (32 : Int) < g.rules.length := by omega
        clear hA h1 h2
        go_enter Tryz.func104, Tryz.ntmps104
        go_wp2_with fail
        go_ret
        exact ⟨ret_bool RF.out.symm, B1 _ _⟩
      · have a2 : ¬ (32 : Int) < g.rules.length := by omega
        have a3 : (2048 : Int) < g.nodes.length := by omega
        clear hA h1 h2
        go_enter Tryz.func104, Tryz.ntmps104
        go_wp2_with fail
        go_ret
        exact ⟨ret_bool RF.out.symm, B1 _ _⟩
  have a1 : ¬ (g.rules.length : Int) < 1 := by omega
  have a2 : ¬ (32 : Int) < g.rules.length := by omega
  have a3 : ¬ (2048 : Int) < g.nodes.length := by omega
  have HA := Lib.hid hA
  clear hA
  go_enter Tryz.func104, Tryz.ntmps104
  go_wp2_with fail
  obtain ⟨wb, ewb⟩ : ∃ u, u = w.alloc (.cells #[.slice g.RA g.rules.length g.rc, .slice g.NA g.nodes.length g.nc] 25) := ⟨_, rfl⟩
  have hb2 : Below w.heap.size w wb := by rw [ewb]; exact B1 _ _
  have KB : RowKit.Hid (Blk wb w.heap.size #[.slice g.RA g.rules.length g.rc, .slice g.NA g.nodes.length g.nc] 25) := Lib.hid (by rw [ewb]; exact Blk.new _ _ _)
  rw [← ewb]
  have BB := Lib.hid hb2
  clear ewb hb2 a1 a2 a3
  go_loopw [3] (fun i wr => ∃ k : Nat, k ≤ g.nodes.length ∧ i = .int .i64 k ∧ (∀ j, j < k → nodeOk (g.nodes.getD j Nd.zero) g.rules.length = true) ∧ Below wb.heap.size wb wr) (fun i _ => g.nodes.length - (RowKit.intOf i).toNat)
  case atStart => exact ⟨0, by omega, rfl, fun j h => by omega, Below.refl _ _⟩
  case round =>
    obtain ⟨k, hk, rfl, ht, hbl⟩ := hrel
    have HT := Lib.hid ht
    have HBL := Lib.hid hbl
    have BL := Lib.hid (bb BB.out hbl)
    clear ht hbl
    have c0 : wr.cell? ⟨w.heap.size, 0, none⟩ = some (.slice g.RA g.rules.length g.rc) := (KB.out.below' HBL.out).cell 0
    have c1 : wr.cell? ⟨w.heap.size, 1, none⟩ = some (.slice g.NA g.nodes.length g.nc) := (KB.out.below' HBL.out).cell 1
    by_cases hlt : k < g.nodes.length
    · have hlt2 : (k : Int) < g.nodes.length := by omega
      have hx := (HG.out.below BL.out).node hlt
      obtain ⟨b1, o1, eA, _, n1, n2, n3, n4, n5, n6, n7, n8, n9⟩ := (HG.out.below BL.out).nodes.nine hlt
      have XI : Nd.In (g.nodes.getD k Nd.zero) := HIN.out _ (getD_mem hlt)
      have XK := Lib.hid (XN.out k hlt)
      generalize hxx : g.nodes.getD k Nd.zero = x at hx n1 n2 n3 n4 n5 n6 n7 n8 n9 XI XK
      have HX := Lib.hid hxx
      have ND := Lib.hid (fun (e : Ext wr) => refNodeIs_any x g.rules.length e.val (hx.below e.grown) XI)
      obtain ⟨ok, eok⟩ : ∃ ok, ok = nodeOk x g.rules.length := ⟨_, rfl⟩
      rw [← eok] at ND XK
      have EOK := Lib.hid eok
      rw [eA] at c1
      have c0' := fun e => Ext.cell c0 e
      have c1' := fun e => Ext.cell c1 e
      have n1' := fun e => Ext.cell n1 e
      have n2' := fun e => Ext.cell n2 e
      have n3' := fun e => Ext.cell n3 e
      have n4' := fun e => Ext.cell n4 e
      have n5' := fun e => Ext.cell n5 e
      have n6' := fun e => Ext.cell n6 e
      have n7' := fun e => Ext.cell n7 e
      have n8' := fun e => Ext.cell n8 e
      have n9' := fun e => Ext.cell n9 e
      clear hxx eok hx XI eA n1 n2 n3 n4 n5 n6 n7 n8 n9
      go_upto_region 6 with fail
      clear c0 c1
      refine wp_region_ext (by kernel_rfl) (by kernel_rfl) ?_
      repeat (first | go_big_quiet_step (first | (go_at_call 154; exact Calls.ext_of (ND.out _))) | quiet_step (first | (go_at_call 154; exact Calls.ext_of (ND.out _))))
      refine wpQuiet_nil ?_
      intro w9 hw'
      obtain ⟨⟨_, hb9⟩, rfl⟩ := hw'
      have B9 := Lib.hid (bb HBL.out hb9)
      clear hb9 c0' c1' n1' n2' n3' n4' n5' n6' n7' n8' n9' ND
      cases ok with
      | true =>
        go_wp2_with fail
        go_roundw
        case rel => exact ⟨k + 1, by omega, by go_num, fun j hj => by
          by_cases ej : j = k
          · subst ej; rw [HX.out]; exact EOK.out.symm
          · exact HT.out j (by omega), B9.out⟩
        case measure => simp [RowKit.intOf]; omega
      | false =>
        go_wp2_with fail
        go_ret
        exact ⟨ret_bool (XK.out (by first | rfl | trivial)).symm, bb BB.out B9.out⟩
    · obtain rfl : k = g.nodes.length := by omega
      have hlt2 : ¬ (g.nodes.length : Int) < g.nodes.length := by omega
      obtain ⟨wa, rfl⟩ : ∃ u, u = wr := ⟨_, rfl⟩
      have AL : RowKit.Hid (AllRight g.nodes g.rules.length) := Lib.hid (fun i hi => HT.out i hi)
      clear HT XN
      go_wp2_with fail
      clear c0 c1
      go_loopw [5, 4] (fun i nx wr => ∃ (q n : Nat), q ≤ g.rules.length ∧ i = .int .i64 q ∧ nx = .int .i64 n ∧ n ≤ g.nodes.length ∧ (∀ j, j < q → nameOk (g.rules.getD j Rl.zero).name.data.toList = true ∧ ruleAt g.rules (g.rules.getD j Rl.zero).name = j) ∧ march g.nodes (g.rules.drop q) n = march g.nodes g.rules 0 ∧ Below wb.heap.size wb wr) (fun i _ _ => g.rules.length - (RowKit.intOf i).toNat)
      case atStart => exact ⟨0, 0, by omega, rfl, rfl, by omega, fun j h => by omega, rfl, HBL.out⟩
      case round =>
        obtain ⟨q, n, hq, rfl, rfl, hn, ht, hcl, hbl⟩ := hrel
        have HT := Lib.hid ht
        have HBR := Lib.hid hbl
        have BR := Lib.hid (bb BB.out hbl)
        have c0 : wr.cell? ⟨w.heap.size, 0, none⟩ = some (.slice g.RA g.rules.length g.rc) := (KB.out.below' hbl).cell 0
        have c1 : wr.cell? ⟨w.heap.size, 1, none⟩ = some (.slice g.NA g.nodes.length g.nc) := (KB.out.below' hbl).cell 1
        clear ht hbl
        by_cases hlt : q < g.rules.length
        · have hlt2 : (q : Int) < g.rules.length := by omega
          obtain ⟨b1, o1, eA, _, d0, d1⟩ := (HG.out.below BR.out).rules.two hlt
          have hsz := HG.out.names (g.rules.getD q Rl.zero) (getD_mem hlt)
          have NK := Lib.hid (NN.out q hlt)
          have ME := Lib.hid (fun (h : (g.rules.getD q Rl.zero).body = (n : Int)) => march_eq (l := g.nodes) hlt h)
          have MX := Lib.hid (fun (h : (g.rules.getD q Rl.zero).body ≠ (n : Int)) => march_ne (l := g.nodes) hlt h)
          generalize hxx : g.rules.getD q Rl.zero = x at d0 d1 hsz NK ME MX
          have HX := Lib.hid hxx
          have NM := Lib.hid (fun (e : Ext wr) => (refName_any x.name hsz e.val).mono fun _ w' ⟨h, he⟩ => And.intro h (show Below e.val.heap.size e.val w' by subst he; exact Below.refl _ _))
          have RU := Lib.hid (fun (e : Ext wr) => by have := refRule_any g x.name e.val ((HG.out.below BR.out).below e.grown); rw [show g.val = .agg #[.slice g.RA g.rules.length g.rc, .slice g.NA g.nodes.length g.nc] from rfl, eA] at this; exact this)
          have AF := Lib.hid (fun (w' : World) (b : Below w.heap.size w w') => by have := after_any g.RA g.rules.length g.rc g.NA g.nc g.nodes.length g.nodes rfl hnl 16 n w' (by omega) (by omega) (by omega) (HG.out.below b).nodes (HG.out.below b).kids; rw [eA] at this; exact this)
          obtain ⟨ok, eok⟩ : ∃ ok, ok = nameOk x.name.data.toList := ⟨_, rfl⟩
          obtain ⟨ru, eru⟩ : ∃ ru, ru = ruleAt g.rules x.name := ⟨_, rfl⟩
          rw [← eok] at NM NK
          rw [← eru] at RU NK
          have EOK := Lib.hid eok
          have ERU := Lib.hid eru
          have HCL := Lib.hid hcl
          have KB2 := Lib.hid (KB.out.below' HBR.out)
          rw [eA] at c0 KB2
          have c0' := fun e => Ext.cell c0 e
          have c1' := fun e => Ext.cell c1 e
          have d0' := fun e => Ext.cell d0 e
          have d1' := fun e => Ext.cell d1 e
          clear hxx eok eru eA hcl d0 d1 hsz
          cases ok with
          | false =>
            go_upto_region 12 with fail
            clear c0 c1
            refine wp_region_ext (by kernel_rfl) (by kernel_rfl) ?_
            repeat (first | go_big_quiet_step (first | (go_at_call 155; exact Calls.ext_of (NM.out _)) | (go_at_call 156; exact Calls.ext_of (RU.out _))) | quiet_step (first | (go_at_call 155; exact Calls.ext_of (NM.out _)) | (go_at_call 156; exact Calls.ext_of (RU.out _))))
            refine wpQuiet_nil ?_
            intro w9 hw'
            obtain ⟨⟨_, hb9⟩, rfl⟩ := hw'
            have B9 := Lib.hid (bb BR.out hb9)
            clear hb9 c0' c1' d0' d1' NM RU
            go_wp2_with fail
            go_ret
            exact ⟨ret_bool (NK.out (fun h => by cases h.1)).symm, B9.out⟩
          | true =>
            by_cases hru : ru = q
            case neg =>
              have hb : (ru != (q : Int)) = true := by simpa using hru
              have HRU := Lib.hid hru
              clear hru
              go_upto_region 12 with fail
              clear c0 c1
              refine wp_region_ext (by kernel_rfl) (by kernel_rfl) ?_
              repeat (first | go_big_quiet_step (first | (go_at_call 155; exact Calls.ext_of (NM.out _)) | (go_at_call 156; exact Calls.ext_of (RU.out _))) | quiet_step (first | (go_at_call 155; exact Calls.ext_of (NM.out _)) | (go_at_call 156; exact Calls.ext_of (RU.out _))))
              refine wpQuiet_nil ?_
              intro w9 hw'
              obtain ⟨⟨_, hb9⟩, rfl⟩ := hw'
              have B9 := Lib.hid (bb BR.out hb9)
              clear hb9 c0' c1' d0' d1' NM RU
              go_wp2_with fail
              go_ret
              exact ⟨ret_bool (NK.out (fun h => HRU.out h.2)).symm, B9.out⟩
            have hb : (ru != (q : Int)) = false := by simpa using hru
            have HRU := Lib.hid hru
            clear hru
            obtain ⟨bd, ebd⟩ : ∃ bd, bd = x.body := ⟨_, rfl⟩
            rw [← ebd] at d1' ME MX
            clear ebd
            by_cases hbd : bd = n
            case neg =>
              have hb2 : (bd != (n : Int)) = true := by simpa using hbd
              have HBD := Lib.hid hbd
              clear hbd
              go_upto_region 12 with fail
              clear c0 c1
              refine wp_region_ext (by kernel_rfl) (by kernel_rfl) ?_
              repeat (first | go_big_quiet_step (first | (go_at_call 155; exact Calls.ext_of (NM.out _)) | (go_at_call 156; exact Calls.ext_of (RU.out _))) | quiet_step (first | (go_at_call 155; exact Calls.ext_of (NM.out _)) | (go_at_call 156; exact Calls.ext_of (RU.out _))))
              refine wpQuiet_nil ?_
              intro w9 hw'
              obtain ⟨⟨_, hb9⟩, rfl⟩ := hw'
              have B9 := Lib.hid (bb BR.out hb9)
              clear hb9 c0' c1' d0' d1' NM RU
              go_wp2_with fail
              go_ret
              exact ⟨ret_bool (MN.out (by rw [← HCL.out, MX.out HBD.out]; simp)).symm, B9.out⟩
            have hb2 : (bd != (n : Int)) = false := by simpa using hbd
            have HBD := Lib.hid hbd
            clear hbd
            go_upto_region 12 with fail
            clear c0 c1
            refine wp_region_ext (by kernel_rfl) (by kernel_rfl) ?_
            repeat (first | go_big_quiet_step (first | (go_at_call 155; exact Calls.ext_of (NM.out _)) | (go_at_call 156; exact Calls.ext_of (RU.out _))) | quiet_step (first | (go_at_call 155; exact Calls.ext_of (NM.out _)) | (go_at_call 156; exact Calls.ext_of (RU.out _))))
            refine wpQuiet_nil ?_
            intro w9 hw'
            obtain ⟨⟨_, hb9⟩, rfl⟩ := hw'
            have B9 := Lib.hid (bb BR.out hb9)
            have HB9 := Lib.hid (bb HBR.out hb9)
            have f0 := (KB2.out.below' hb9).cell 0
            have f1 := (KB2.out.below' hb9).cell 1
            simp only [List.getElem?_toArray, List.getElem?_cons_zero, List.getElem?_cons_succ] at f0 f1
            clear hb9 c0' c1' d0' d1' NM RU
            have MM := Lib.hid (ME.out HBD.out)
            clear ME MX
            have CV := Lib.hid (fun (p h : Int) (e : after g.nodes 16 n = some (p, h)) => after_cover 16 n p h e)
            generalize hqq : after g.nodes 16 n = o at AF MM CV
            cases o with
            | none =>
              unfold afterVal at AF
              go_wp2_with (go_at_call 157; refine (AF.out _ B9.out).mono ?_; rintro e w2 ⟨rfl, hb⟩; have H1 := Lib.hid (bb B9.out hb); clear hb)
              go_ret
              exact ⟨ret_bool (MN.out (by rw [← HCL.out, MM.out]; simp)).symm, H1.out⟩
            | some r =>
              obtain ⟨p, h2⟩ := r
              obtain ⟨v1, v2, _⟩ := CV.out p h2 rfl
              unfold afterVal at AF
              dsimp only at AF MM
              obtain ⟨p', rfl⟩ : ∃ k : Nat, p = k := ⟨p.toNat, by omega⟩
              have hp0 : ¬ (p' : Int) < 0 := by omega
              clear CV
              go_wp2_with (go_at_call 157; refine (AF.out _ B9.out).mono ?_; rintro e w2 ⟨rfl, hb⟩; have H1 := Lib.hid (bb HB9.out hb); clear hb)
              go_roundw
              case rel => exact ⟨q + 1, p', by omega, by go_num, rfl, by omega, fun j hj => by
                by_cases ej : j = q
                · subst ej; rw [HX.out]; exact ⟨EOK.out.symm, ERU.out.symm.trans HRU.out⟩
                · exact HT.out j (by omega), by rw [← HCL.out, MM.out], H1.out⟩
              case measure => simp [RowKit.intOf]; omega
        · obtain rfl : q = g.rules.length := by omega
          have hlt2 : ¬ (g.rules.length : Int) < g.rules.length := by omega
          have HE : RowKit.Hid (rb = ((n : Int) == g.nodes.length)) := Lib.hid (by
            rw [List.drop_length, march] at hcl
            rw [Bool.eq_iff_iff, RM.out, ← hcl]
            simp only [beq_iff_eq, Option.some.injEq]
            exact ⟨fun h => h.2.2.2.2, fun h => ⟨HA.out.1, HA.out.2, AL.out, fun i hi => HT.out i hi, h⟩⟩)
          clear hcl
          go_wp2_with fail
          go_ret
          exact ⟨ret_bool HE.out.symm, BR.out⟩
end Go.Proofs.YtlbjmkljmhfjdaaGreat

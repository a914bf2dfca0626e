/- The document's way to say whether a grammar is right. -/
import Derived.Test.YtfdfcagkfnckmaaA5
import Derived.Test.YtfdfcagkfnckmaaA4
import Derived.Test.YtfdfcagkfnckmaaA6
import Derived.Test.YtfdfcagkfnckmaaAb
import Derived.Deep.CutRange
import Derived.Test.YtfdfcagkfnckmaaA7
set_option linter.unusedSimpArgs false
set_option linter.unusedVariables false
namespace Go.Proofs.Ytfdfcagkfnckmaa
open Go Go.RowKit
theorem march_no {g : Gr} (h : march g.nodes g.rules 0 ≠ some (g.nodes.length : Int)) : rightB g = false := by
  rw [Bool.eq_false_iff]
  intro hr
  exact h (rightB_march.1 hr).2.2.2.2
theorem name_no {g : Gr} (i : Nat) (hi : i < g.rules.length) (h : ¬ (nameOk (g.rules.getD i Rl.zero).name.data.toList = true ∧ ruleAt g.rules (g.rules.getD i Rl.zero).name = i)) : rightB g = false := by
  rw [Bool.eq_false_iff]
  intro hr
  exact h ((rightB_march.1 hr).2.2.2.1 i hi)
theorem node_no {g : Gr} (i : Nat) (hi : i < g.nodes.length) (h : nodeOk (g.nodes.getD i Nd.zero) g.rules.length = false) : rightB g = false := by
  rw [Bool.eq_false_iff]
  intro hr
  have := (rightB_march.1 hr).2.2.1 i hi
  rw [h] at this
  cases this
set_option maxRecDepth 100000 in
set_option maxHeartbeats 8000000 in
theorem refRight_any (g : Gr) (w : World) (hg : Gr.At w g) (hin : Gr.In g) : Calls Try.prog 16 #[g.val] w fun e w' => e = .returned (.bool (rightB g)) ∧ Below w.heap.size w w' := by
  have hrl := hg.rl
  have hnl := hg.nl
  have HG := Lib.hid hg
  have HIN := Lib.hid hin
  have RM := Lib.hid (rightB_march (g := g))
  have MN := Lib.hid (march_no (g := g))
  have NN := Lib.hid (name_no (g := g))
  have XN := Lib.hid (node_no (g := g))
  obtain ⟨rb, erb⟩ : ∃ rb, rb = rightB g := ⟨_, rfl⟩
  rw [← erb] at RM MN NN XN ⊢
  clear erb hg hin
  show Calls Try.prog 16 #[.agg #[.slice g.RA g.rules.length g.rc, .slice g.NA g.nodes.length g.nc]] w _
  by_cases hA : (1 ≤ g.rules.length ∧ g.rules.length ≤ 32) ∧ g.nodes.length ≤ 2048
  case neg =>
    have RF : RowKit.Hid (rb = false) := Lib.hid (by rw [Bool.eq_false_iff]; intro h; have := RM.out.1 h; exact hA ⟨this.1, this.2.1⟩)
    by_cases h1 : g.rules.length < 1
    · have a1 : (g.rules.length : Int) < 1 := by omega
      clear hA h1
      go_enter Try.func16, Try.ntmps16
      go_wp2_with fail
      go_ret
      exact ⟨ret_bool RF.out.symm, B1 _ _⟩
    · have a1 : ¬ (g.rules.length : Int) < 1 := by omega
      by_cases h2 : 32 < g.rules.length
      · have a2 : (32 : Int) < g.rules.length := by omega
        clear hA h1 h2
        go_enter Try.func16, Try.ntmps16
        go_wp2_with fail
        go_ret
        exact ⟨ret_bool RF.out.symm, B1 _ _⟩
      · have a2 : ¬ (32 : Int) < g.rules.length := by omega
        have a3 : (2048 : Int) < g.nodes.length := by omega
        clear hA h1 h2
        go_enter Try.func16, Try.ntmps16
        go_wp2_with fail
        go_ret
        exact ⟨ret_bool RF.out.symm, B1 _ _⟩
  have a1 : ¬ (g.rules.length : Int) < 1 := by omega
  have a2 : ¬ (32 : Int) < g.rules.length := by omega
  have a3 : ¬ (2048 : Int) < g.nodes.length := by omega
  have HA := Lib.hid hA
  clear hA
  go_enter Try.func16, Try.ntmps16
  go_wp2_with fail
  obtain ⟨wb, ewb⟩ : ∃ u, u = w.alloc (.cells #[.slice g.RA g.rules.length g.rc, .slice g.NA g.nodes.length g.nc] 25) := ⟨_, rfl⟩
  have hb2 : Below w.heap.size w wb := by rw [ewb]; exact B1 _ _
  have KB : RowKit.Hid (Blk wb w.heap.size #[.slice g.RA g.rules.length g.rc, .slice g.NA g.nodes.length g.nc] 25) := Lib.hid (by rw [ewb]; exact Blk.new _ _ _)
  rw [← ewb]
  have BB := Lib.hid hb2
  clear ewb hb2 a1 a2 a3
  go_loopw [3] (fun i wr => ∃ k : Nat, k ≤ g.nodes.length ∧ i = .int .i64 k ∧ (∀ j, j < k → nodeOk (g.nodes.getD j Nd.zero) g.rules.length = true) ∧ Below wb.heap.size wb wr) (fun i _ => g.nodes.length - (intOf i).toNat)
  case atStart => exact ⟨0, by omega, rfl, fun j h => by omega, Below.refl _ _⟩
  case round =>
    obtain ⟨k, hk, rfl, ht, hbl⟩ := hrel
    have HT := Lib.hid ht
    have HBL := Lib.hid hbl
    have BL := Lib.hid (bb BB.out hbl)
    clear ht hbl
    have c0 : wr.cell? ⟨w.heap.size, 0, none⟩ = some (.slice g.RA g.rules.length g.rc) := (KB.out.below' HBL.out).cell 0
    have c1 : wr.cell? ⟨w.heap.size, 1, none⟩ = some (.slice g.NA g.nodes.length g.nc) := (KB.out.below' HBL.out).cell 1
    by_cases hlt : k < g.nodes.length
    · have hlt2 : (k : Int) < g.nodes.length := by omega
      have hx := (HG.out.below BL.out).node hlt
      obtain ⟨b1, o1, eA, _, n1, n2, n3, n4, n5, n6, n7, n8, n9⟩ := (HG.out.below BL.out).nodes.nine hlt
      have XI : Nd.In (g.nodes.getD k Nd.zero) := HIN.out _ (getD_mem hlt)
      have XK := Lib.hid (XN.out k hlt)
      generalize hxx : g.nodes.getD k Nd.zero = x at hx n1 n2 n3 n4 n5 n6 n7 n8 n9 XI XK
      have HX := Lib.hid hxx
      have ND := Lib.hid (fun (e : Ext wr) => refNodeIs_any x g.rules.length e.val (hx.below e.grown) XI)
      obtain ⟨ok, eok⟩ : ∃ ok, ok = nodeOk x g.rules.length := ⟨_, rfl⟩
      rw [← eok] at ND XK
      have EOK := Lib.hid eok
      rw [eA] at c1
      have c0' := fun e => Ext.cell c0 e
      have c1' := fun e => Ext.cell c1 e
      have n1' := fun e => Ext.cell n1 e
      have n2' := fun e => Ext.cell n2 e
      have n3' := fun e => Ext.cell n3 e
      have n4' := fun e => Ext.cell n4 e
      have n5' := fun e => Ext.cell n5 e
      have n6' := fun e => Ext.cell n6 e
      have n7' := fun e => Ext.cell n7 e
      have n8' := fun e => Ext.cell n8 e
      have n9' := fun e => Ext.cell n9 e
      clear hxx eok hx XI eA n1 n2 n3 n4 n5 n6 n7 n8 n9
      go_upto_region 6 with fail
      clear c0 c1
      refine wp_region_ext (by kernel_rfl) (by kernel_rfl) ?_
      repeat (first | go_big_quiet_step (first | (go_at_call 14; exact Calls.ext_of (ND.out _))) | quiet_step (first | (go_at_call 14; exact Calls.ext_of (ND.out _))))
      refine wpQuiet_nil ?_
      intro w9 hw'
      obtain ⟨⟨_, hb9⟩, rfl⟩ := hw'
      have B9 := Lib.hid (bb HBL.out hb9)
      clear hb9 c0' c1' n1' n2' n3' n4' n5' n6' n7' n8' n9' ND
      cases ok with
      | true =>
        go_wp2_with fail
        go_roundw
        case rel => exact ⟨k + 1, by omega, by go_num, fun j hj => by
          by_cases ej : j = k
          · subst ej; rw [HX.out]; exact EOK.out.symm
          · exact HT.out j (by omega), B9.out⟩
        case measure => simp [intOf]; omega
      | false =>
        go_wp2_with fail
        go_ret
        exact ⟨ret_bool (XK.out (by first | rfl | trivial)).symm, bb BB.out B9.out⟩
    · obtain rfl : k = g.nodes.length := by omega
      have hlt2 : ¬ (g.nodes.length : Int) < g.nodes.length := by omega
      obtain ⟨wa, rfl⟩ : ∃ u, u = wr := ⟨_, rfl⟩
      have AL : RowKit.Hid (AllRight g.nodes g.rules.length) := Lib.hid (fun i hi => HT.out i hi)
      clear HT XN
      go_wp2_with fail
      clear c0 c1
      go_loopw [5, 4] (fun i nx wr => ∃ (q n : Nat), q ≤ g.rules.length ∧ i = .int .i64 q ∧ nx = .int .i64 n ∧ n ≤ g.nodes.length ∧ (∀ j, j < q → nameOk (g.rules.getD j Rl.zero).name.data.toList = true ∧ ruleAt g.rules (g.rules.getD j Rl.zero).name = j) ∧ march g.nodes (g.rules.drop q) n = march g.nodes g.rules 0 ∧ Below wb.heap.size wb wr) (fun i _ _ => g.rules.length - (intOf i).toNat)
      case atStart => exact ⟨0, 0, by omega, rfl, rfl, by omega, fun j h => by omega, rfl, HBL.out⟩
      case round =>
        obtain ⟨q, n, hq, rfl, rfl, hn, ht, hcl, hbl⟩ := hrel
        have HT := Lib.hid ht
        have HBR := Lib.hid hbl
        have BR := Lib.hid (bb BB.out hbl)
        have c0 : wr.cell? ⟨w.heap.size, 0, none⟩ = some (.slice g.RA g.rules.length g.rc) := (KB.out.below' hbl).cell 0
        have c1 : wr.cell? ⟨w.heap.size, 1, none⟩ = some (.slice g.NA g.nodes.length g.nc) := (KB.out.below' hbl).cell 1
        clear ht hbl
        by_cases hlt : q < g.rules.length
        · have hlt2 : (q : Int) < g.rules.length := by omega
          obtain ⟨b1, o1, eA, _, d0, d1⟩ := (HG.out.below BR.out).rules.two hlt
          have hsz := HG.out.names (g.rules.getD q Rl.zero) (getD_mem hlt)
          have NK := Lib.hid (NN.out q hlt)
          have ME := Lib.hid (fun (h : (g.rules.getD q Rl.zero).body = (n : Int)) => march_eq (l := g.nodes) hlt h)
          have MX := Lib.hid (fun (h : (g.rules.getD q Rl.zero).body ≠ (n : Int)) => march_ne (l := g.nodes) hlt h)
          generalize hxx : g.rules.getD q Rl.zero = x at d0 d1 hsz NK ME MX
          have HX := Lib.hid hxx
          have NM := Lib.hid (fun (e : Ext wr) => (refName_any x.name hsz e.val).mono fun _ w' ⟨h, he⟩ => And.intro h (show Below e.val.heap.size e.val w' by subst he; exact Below.refl _ _))
          have RU := Lib.hid (fun (e : Ext wr) => by have := refRule_any g x.name e.val ((HG.out.below BR.out).below e.grown); rw [show g.val = .agg #[.slice g.RA g.rules.length g.rc, .slice g.NA g.nodes.length g.nc] from rfl, eA] at this; exact this)
          have AF := Lib.hid (fun (w' : World) (b : Below w.heap.size w w') => by have := after_any g.RA g.rules.length g.rc g.NA g.nc g.nodes.length g.nodes rfl hnl 16 n w' (by omega) (by omega) (by omega) (HG.out.below b).nodes (HG.out.below b).kids; rw [eA] at this; exact this)
          obtain ⟨ok, eok⟩ : ∃ ok, ok = nameOk x.name.data.toList := ⟨_, rfl⟩
          obtain ⟨ru, eru⟩ : ∃ ru, ru = ruleAt g.rules x.name := ⟨_, rfl⟩
          rw [← eok] at NM NK
          rw [← eru] at RU NK
          have EOK := Lib.hid eok
          have ERU := Lib.hid eru
          have HCL := Lib.hid hcl
          have KB2 := Lib.hid (KB.out.below' HBR.out)
          rw [eA] at c0 KB2
          have c0' := fun e => Ext.cell c0 e
          have c1' := fun e => Ext.cell c1 e
          have d0' := fun e => Ext.cell d0 e
          have d1' := fun e => Ext.cell d1 e
          clear hxx eok eru eA hcl d0 d1 hsz
          cases ok with
          | false =>
            go_upto_region 12 with fail
            clear c0 c1
            refine wp_region_ext (by kernel_rfl) (by kernel_rfl) ?_
            repeat (first | go_big_quiet_step (first | (go_at_call 12; exact Calls.ext_of (NM.out _)) | (go_at_call 18; exact Calls.ext_of (RU.out _))) | quiet_step (first | (go_at_call 12; exact Calls.ext_of (NM.out _)) | (go_at_call 18; exact Calls.ext_of (RU.out _))))
            refine wpQuiet_nil ?_
            intro w9 hw'
            obtain ⟨⟨_, hb9⟩, rfl⟩ := hw'
            have B9 := Lib.hid (bb BR.out hb9)
            clear hb9 c0' c1' d0' d1' NM RU
            go_wp2_with fail
            go_ret
            exact ⟨ret_bool (NK.out (fun h => by cases h.1)).symm, B9.out⟩
          | true =>
            by_cases hru : ru = q
            case neg =>
              have hb : (ru != (q : Int)) = true := by simpa using hru
              have HRU := Lib.hid hru
              clear hru
              go_upto_region 12 with fail
              clear c0 c1
              refine wp_region_ext (by kernel_rfl) (by kernel_rfl) ?_
              repeat (first | go_big_quiet_step (first | (go_at_call 12; exact Calls.ext_of (NM.out _)) | (go_at_call 18; exact Calls.ext_of (RU.out _))) | quiet_step (first | (go_at_call 12; exact Calls.ext_of (NM.out _)) | (go_at_call 18; exact Calls.ext_of (RU.out _))))
              refine wpQuiet_nil ?_
              intro w9 hw'
              obtain ⟨⟨_, hb9⟩, rfl⟩ := hw'
              have B9 := Lib.hid (bb BR.out hb9)
              clear hb9 c0' c1' d0' d1' NM RU
              go_wp2_with fail
              go_ret
              exact ⟨ret_bool (NK.out (fun h => HRU.out h.2)).symm, B9.out⟩
            have hb : (ru != (q : Int)) = false := by simpa using hru
            have HRU := Lib.hid hru
            clear hru
            obtain ⟨bd, ebd⟩ : ∃ bd, bd = x.body := ⟨_, rfl⟩
            rw [← ebd] at d1' ME MX
            clear ebd
            by_cases hbd : bd = n
            case neg =>
              have hb2 : (bd != (n : Int)) = true := by simpa using hbd
              have HBD := Lib.hid hbd
              clear hbd
              go_upto_region 12 with fail
              clear c0 c1
              refine wp_region_ext (by kernel_rfl) (by kernel_rfl) ?_
              repeat (first | go_big_quiet_step (first | (go_at_call 12; exact Calls.ext_of (NM.out _)) | (go_at_call 18; exact Calls.ext_of (RU.out _))) | quiet_step (first | (go_at_call 12; exact Calls.ext_of (NM.out _)) | (go_at_call 18; exact Calls.ext_of (RU.out _))))
              refine wpQuiet_nil ?_
              intro w9 hw'
              obtain ⟨⟨_, hb9⟩, rfl⟩ := hw'
              have B9 := Lib.hid (bb BR.out hb9)
              clear hb9 c0' c1' d0' d1' NM RU
              go_wp2_with fail
              go_ret
              exact ⟨ret_bool (MN.out (by rw [← HCL.out, MX.out HBD.out]; simp)).symm, B9.out⟩
            have hb2 : (bd != (n : Int)) = false := by simpa using hbd
            have HBD := Lib.hid hbd
            clear hbd
            go_upto_region 12 with fail
            clear c0 c1
            refine wp_region_ext (by kernel_rfl) (by kernel_rfl) ?_
            repeat (first | go_big_quiet_step (first | (go_at_call 12; exact Calls.ext_of (NM.out _)) | (go_at_call 18; exact Calls.ext_of (RU.out _))) | quiet_step (first | (go_at_call 12; exact Calls.ext_of (NM.out _)) | (go_at_call 18; exact Calls.ext_of (RU.out _))))
            refine wpQuiet_nil ?_
            intro w9 hw'
            obtain ⟨⟨_, hb9⟩, rfl⟩ := hw'
            have B9 := Lib.hid (bb BR.out hb9)
            have HB9 := Lib.hid (bb HBR.out hb9)
            have f0 := (KB2.out.below' hb9).cell 0
            have f1 := (KB2.out.below' hb9).cell 1
            simp only [List.getElem?_toArray, List.getElem?_cons_zero, List.getElem?_cons_succ] at f0 f1
            clear hb9 c0' c1' d0' d1' NM RU
            have MM := Lib.hid (ME.out HBD.out)
            clear ME MX
            have CV := Lib.hid (fun (p h : Int) (e : after g.nodes 16 n = some (p, h)) => after_cover 16 n p h e)
            generalize hqq : after g.nodes 16 n = o at AF MM CV
            cases o with
            | none =>
              unfold afterVal at AF
              go_wp2_with (go_at_call 39; refine (AF.out _ B9.out).mono ?_; rintro e w2 ⟨rfl, hb⟩; have H1 := Lib.hid (bb B9.out hb); clear hb)
              go_ret
              exact ⟨ret_bool (MN.out (by rw [← HCL.out, MM.out]; simp)).symm, H1.out⟩
            | some r =>
              obtain ⟨p, h2⟩ := r
              obtain ⟨v1, v2, _⟩ := CV.out p h2 rfl
              unfold afterVal at AF
              dsimp only at AF MM
              obtain ⟨p', rfl⟩ : ∃ k : Nat, p = k := ⟨p.toNat, by omega⟩
              have hp0 : ¬ (p' : Int) < 0 := by omega
              clear CV
              go_wp2_with (go_at_call 39; refine (AF.out _ B9.out).mono ?_; rintro e w2 ⟨rfl, hb⟩; have H1 := Lib.hid (bb HB9.out hb); clear hb)
              go_roundw
              case rel => exact ⟨q + 1, p', by omega, by go_num, rfl, by omega, fun j hj => by
                by_cases ej : j = q
                · subst ej; rw [HX.out]; exact ⟨EOK.out.symm, ERU.out.symm.trans HRU.out⟩
                · exact HT.out j (by omega), by rw [← HCL.out, MM.out], H1.out⟩
              case measure => simp [intOf]; omega
        · obtain rfl : q = g.rules.length := by omega
          have hlt2 : ¬ (g.rules.length : Int) < g.rules.length := by omega
          have HE : RowKit.Hid (rb = ((n : Int) == g.nodes.length)) := Lib.hid (by
            rw [List.drop_length, march] at hcl
            rw [Bool.eq_iff_iff, RM.out, ← hcl]
            simp only [beq_iff_eq, Option.some.injEq]
            exact ⟨fun h => h.2.2.2.2, fun h => ⟨HA.out.1, HA.out.2, AL.out, fun i hi => HT.out i hi, h⟩⟩)
          clear hcl
          go_wp2_with fail
          go_ret
          exact ⟨ret_bool HE.out.symm, BR.out⟩
end Go.Proofs.Ytfdfcagkfnckmaa
namespace Go.Proofs.Ytfdfcagkfnckmaa
open Go Go.RowKit
theorem after_right {g : Gr} (hr : Right g) {k : Nat} (hk : k < g.nodes.length) : after g.nodes 16 k = some (k + (measOf g k).1, (measOf g k).2) ∧ 1 ≤ (measOf g k).1 ∧ (k : Int) + (measOf g k).1 ≤ g.nodes.length := by
  obtain ⟨ms, hm, _⟩ := hr.pre
  rw [measOf_yes hr hm hk]
  have h16 := after_measured hm 16 k hk
  obtain ⟨_, hc⟩ := march_cover g.rules 0 _ (by omega) (rightB_march.1 (rightB_true.2 hr)).2.2.2.2
  obtain ⟨r, hr2⟩ := hc k (by omega) (by omega)
  obtain ⟨m1, m2, m3, _⟩ := hm k (by omega) hk
  refine ⟨?_, m1, m3⟩
  rw [hr2] at h16
  split at h16
  · rw [hr2]; exact h16
  · cases h16
theorem lastFrom_acc (n : Int) (r : Rl) (l : List Rl) (h : r.body ≤ n) (a b : Int) : lastFrom n 0 a (r :: l) = lastFrom n 0 b (r :: l) := by
  rw [lastFrom, lastFrom, if_pos h]
  simp [if_pos h]
theorem last_right {g : Gr} (hr : Right g) {n : Int} (h0 : 0 ≤ n) (h1 : n < g.nodes.length) : ownerOf g n = lastFrom n 0 0 g.rules := by
  rw [ownerOf_yes ⟨hr, h0, h1⟩, lastLe]
  obtain ⟨ms, hm, hb⟩ := hr.pre
  have hl := hr.rules.1
  generalize g.rules = rs at hb hl
  cases rs with
  | nil => simp at hl
  | cons r l =>
    unfold bodies at hb
    split at hb
    · rename_i hc
      exact lastFrom_acc n r l (by omega) _ _
    · cases hb
set_option maxRecDepth 100000 in
set_option maxHeartbeats 4000000 in
theorem refSize_any (g : Gr) (n : Int) (w : World) (hg : Gr.At w g) (hin : Gr.In g) : Calls Try.prog 42 #[g.val, .int .i64 n] w fun e w' => e = .returned (.int .i64 (measOf g n).1) ∧ Below w.heap.size w w' := by
  have hnl := hg.nl
  have RR := Lib.hid (fun (w' : World) (b : Below w.heap.size w w') => refRight_any g w' (hg.below b) hin)
  by_cases hy : Right g ∧ 0 ≤ n ∧ n < g.nodes.length
  · obtain ⟨hr, h0, h1⟩ := hy
    have hrb : rightB g = true := rightB_true.2 hr
    obtain ⟨k, rfl⟩ : ∃ k : Nat, n = k := ⟨n.toNat, by omega⟩
    obtain ⟨ha, s1, s2⟩ := after_right hr (k := k) (by omega)
    have AF := Lib.hid (fun (w' : World) (b : Below w.heap.size w w') => by have := after_any g.RA g.rules.length g.rc g.NA g.nc g.nodes.length g.nodes rfl hnl 16 k w' (by omega) (by omega) (by omega) (hg.below b).nodes (hg.below b).kids; rw [ha] at this; exact this)
    rw [hrb] at RR
    generalize measOf g (k : Int) = ms at AF s1 s2 ⊢
    obtain ⟨s, h⟩ := ms
    unfold afterVal at AF
    dsimp only at AF s1 s2 ⊢
    have g1 : ¬ (k : Int) < 0 := by omega
    have g2 : ¬ (g.nodes.length : Int) ≤ k := by omega
    have hwr : IntKind.i64.wrap (((k : Int) + s) - k) = s := (IntWalk.i64_in _ (by omega)).trans (by omega)
    clear ha hr hrb h0 h1 hg hin
    show Calls Try.prog 42 #[.agg #[.slice g.RA g.rules.length g.rc, .slice g.NA g.nodes.length g.nc], .int .i64 k] w _
    go_enter Try.func42, Try.ntmps42
    go_wp2_with (first | (go_at_call 16; refine (RR.out _ (B1 _ _)).mono ?_; rintro e w1 ⟨rfl, hb⟩; have H1 := Lib.hid (bb (B1 w _) hb); have d0 := ((Blk.new w _ _).below' hb).cell 0; have d1 := ((Blk.new w _ _).below' hb).cell 1; simp only [List.getElem?_toArray, List.getElem?_cons_zero, List.getElem?_cons_succ] at d0 d1; clear hb) | (go_at_call 39; refine (AF.out _ H1.out).mono ?_; rintro e w2 ⟨rfl, hb⟩; have H2 := Lib.hid (bb H1.out hb); clear hb d0 d1))
    go_ret
    exact ⟨by first | rfl | trivial, H2.out⟩
  · rw [measOf_no hy]
    show Calls Try.prog 42 #[.agg #[.slice g.RA g.rules.length g.rc, .slice g.NA g.nodes.length g.nc], .int .i64 n] w _
    obtain ⟨rb, erb⟩ : ∃ rb, rb = rightB g := ⟨_, rfl⟩
    rw [← erb] at RR
    cases rb with
    | false =>
      clear erb hy hg hin hnl
      go_enter Try.func42, Try.ntmps42
      go_wp2_with (go_at_call 16; refine (RR.out _ (B1 _ _)).mono ?_; rintro e w1 ⟨rfl, hb⟩; have H1 := Lib.hid (bb (B1 w _) hb); have d0 := ((Blk.new w _ _).below' hb).cell 0; have d1 := ((Blk.new w _ _).below' hb).cell 1; simp only [List.getElem?_toArray, List.getElem?_cons_zero, List.getElem?_cons_succ] at d0 d1; clear hb)
      go_ret
      exact ⟨by first | rfl | trivial, H1.out⟩
    | true =>
      have hr := rightB_true.1 erb.symm
      by_cases h0 : n < 0
      · clear erb hy hg hin hnl hr
        go_enter Try.func42, Try.ntmps42
        go_wp2_with (go_at_call 16; refine (RR.out _ (B1 _ _)).mono ?_; rintro e w1 ⟨rfl, hb⟩; have H1 := Lib.hid (bb (B1 w _) hb); have d0 := ((Blk.new w _ _).below' hb).cell 0; have d1 := ((Blk.new w _ _).below' hb).cell 1; simp only [List.getElem?_toArray, List.getElem?_cons_zero, List.getElem?_cons_succ] at d0 d1; clear hb)
        go_ret
        exact ⟨by first | rfl | trivial, H1.out⟩
      · have h1 : (g.nodes.length : Int) ≤ n := by
          by_cases h : (g.nodes.length : Int) ≤ n
          · exact h
          · exact absurd ⟨hr, by omega, by omega⟩ hy
        clear erb hy hg hin hnl hr
        go_enter Try.func42, Try.ntmps42
        go_wp2_with (go_at_call 16; refine (RR.out _ (B1 _ _)).mono ?_; rintro e w1 ⟨rfl, hb⟩; have H1 := Lib.hid (bb (B1 w _) hb); have d0 := ((Blk.new w _ _).below' hb).cell 0; have d1 := ((Blk.new w _ _).below' hb).cell 1; simp only [List.getElem?_toArray, List.getElem?_cons_zero, List.getElem?_cons_succ] at d0 d1; clear hb)
        go_ret
        exact ⟨by first | rfl | trivial, H1.out⟩
set_option maxRecDepth 100000 in
set_option maxHeartbeats 4000000 in
theorem refHeight_any (g : Gr) (n : Int) (w : World) (hg : Gr.At w g) (hin : Gr.In g) : Calls Try.prog 43 #[g.val, .int .i64 n] w fun e w' => e = .returned (.int .i64 (measOf g n).2) ∧ Below w.heap.size w w' := by
  have hnl := hg.nl
  have RR := Lib.hid (fun (w' : World) (b : Below w.heap.size w w') => refRight_any g w' (hg.below b) hin)
  by_cases hy : Right g ∧ 0 ≤ n ∧ n < g.nodes.length
  · obtain ⟨hr, h0, h1⟩ := hy
    have hrb : rightB g = true := rightB_true.2 hr
    obtain ⟨k, rfl⟩ : ∃ k : Nat, n = k := ⟨n.toNat, by omega⟩
    obtain ⟨ha, s1, s2⟩ := after_right hr (k := k) (by omega)
    have AF := Lib.hid (fun (w' : World) (b : Below w.heap.size w w') => by have := after_any g.RA g.rules.length g.rc g.NA g.nc g.nodes.length g.nodes rfl hnl 16 k w' (by omega) (by omega) (by omega) (hg.below b).nodes (hg.below b).kids; rw [ha] at this; exact this)
    rw [hrb] at RR
    generalize measOf g (k : Int) = ms at AF s1 s2 ⊢
    obtain ⟨s, h⟩ := ms
    unfold afterVal at AF
    dsimp only at AF s1 s2 ⊢
    have g1 : ¬ (k : Int) < 0 := by omega
    have g2 : ¬ (g.nodes.length : Int) ≤ k := by omega
    clear ha hr hrb h0 h1 hg hin
    show Calls Try.prog 43 #[.agg #[.slice g.RA g.rules.length g.rc, .slice g.NA g.nodes.length g.nc], .int .i64 k] w _
    go_enter Try.func43, Try.ntmps43
    go_wp2_with (first | (go_at_call 16; refine (RR.out _ (B1 _ _)).mono ?_; rintro e w1 ⟨rfl, hb⟩; have H1 := Lib.hid (bb (B1 w _) hb); have d0 := ((Blk.new w _ _).below' hb).cell 0; have d1 := ((Blk.new w _ _).below' hb).cell 1; simp only [List.getElem?_toArray, List.getElem?_cons_zero, List.getElem?_cons_succ] at d0 d1; clear hb) | (go_at_call 39; refine (AF.out _ H1.out).mono ?_; rintro e w2 ⟨rfl, hb⟩; have H2 := Lib.hid (bb H1.out hb); clear hb d0 d1))
    go_ret
    exact ⟨by first | rfl | trivial, H2.out⟩
  · rw [measOf_no hy]
    show Calls Try.prog 43 #[.agg #[.slice g.RA g.rules.length g.rc, .slice g.NA g.nodes.length g.nc], .int .i64 n] w _
    obtain ⟨rb, erb⟩ : ∃ rb, rb = rightB g := ⟨_, rfl⟩
    rw [← erb] at RR
    cases rb with
    | false =>
      clear erb hy hg hin hnl
      go_enter Try.func43, Try.ntmps43
      go_wp2_with (go_at_call 16; refine (RR.out _ (B1 _ _)).mono ?_; rintro e w1 ⟨rfl, hb⟩; have H1 := Lib.hid (bb (B1 w _) hb); have d0 := ((Blk.new w _ _).below' hb).cell 0; have d1 := ((Blk.new w _ _).below' hb).cell 1; simp only [List.getElem?_toArray, List.getElem?_cons_zero, List.getElem?_cons_succ] at d0 d1; clear hb)
      go_ret
      exact ⟨by first | rfl | trivial, H1.out⟩
    | true =>
      have hr := rightB_true.1 erb.symm
      by_cases h0 : n < 0
      · clear erb hy hg hin hnl hr
        go_enter Try.func43, Try.ntmps43
        go_wp2_with (go_at_call 16; refine (RR.out _ (B1 _ _)).mono ?_; rintro e w1 ⟨rfl, hb⟩; have H1 := Lib.hid (bb (B1 w _) hb); have d0 := ((Blk.new w _ _).below' hb).cell 0; have d1 := ((Blk.new w _ _).below' hb).cell 1; simp only [List.getElem?_toArray, List.getElem?_cons_zero, List.getElem?_cons_succ] at d0 d1; clear hb)
        go_ret
        exact ⟨by first | rfl | trivial, H1.out⟩
      · have h1 : (g.nodes.length : Int) ≤ n := by
          by_cases h : (g.nodes.length : Int) ≤ n
          · exact h
          · exact absurd ⟨hr, by omega, by omega⟩ hy
        clear erb hy hg hin hnl hr
        go_enter Try.func43, Try.ntmps43
        go_wp2_with (go_at_call 16; refine (RR.out _ (B1 _ _)).mono ?_; rintro e w1 ⟨rfl, hb⟩; have H1 := Lib.hid (bb (B1 w _) hb); have d0 := ((Blk.new w _ _).below' hb).cell 0; have d1 := ((Blk.new w _ _).below' hb).cell 1; simp only [List.getElem?_toArray, List.getElem?_cons_zero, List.getElem?_cons_succ] at d0 d1; clear hb)
        go_ret
        exact ⟨by first | rfl | trivial, H1.out⟩
set_option maxRecDepth 100000 in
set_option maxHeartbeats 4000000 in
theorem refOwner_any (g : Gr) (n : Int) (w : World) (hg : Gr.At w g) (hin : Gr.In g) : Calls Try.prog 44 #[g.val, .int .i64 n] w fun e w' => e = .returned (.int .i64 (ownerOf g n)) ∧ Below w.heap.size w w' := by
  have hnl := hg.nl
  have hrl := hg.rl
  have RR := Lib.hid (fun (w' : World) (b : Below w.heap.size w w') => refRight_any g w' (hg.below b) hin)
  by_cases hy : Right g ∧ 0 ≤ n ∧ n < g.nodes.length
  · obtain ⟨hr, h0, h1⟩ := hy
    have hrb : rightB g = true := rightB_true.2 hr
    have LR := Lib.hid (last_right hr h0 h1)
    have HG := Lib.hid hg
    rw [hrb] at RR
    obtain ⟨ov, eov⟩ : ∃ ov, ov = ownerOf g n := ⟨_, rfl⟩
    rw [← eov] at LR ⊢
    have g1 : ¬ n < 0 := by omega
    have g2 : ¬ (g.nodes.length : Int) ≤ n := by omega
    clear hr hrb h0 h1 hg hin eov
    show Calls Try.prog 44 #[.agg #[.slice g.RA g.rules.length g.rc, .slice g.NA g.nodes.length g.nc], .int .i64 n] w _
    go_enter Try.func44, Try.ntmps44
    go_wp2_with (go_at_call 16; refine (RR.out _ (B1 _ _)).mono ?_; rintro e w1 ⟨rfl, hb⟩; have H1 := Lib.hid (bb (B1 w _) hb); have K1 := Lib.hid ((Blk.new w _ _).below' hb); have d0 := K1.out.cell 0; have d1 := K1.out.cell 1; simp only [List.getElem?_toArray, List.getElem?_cons_zero, List.getElem?_cons_succ] at d0 d1; clear hb)
    clear d0 d1
    go_loopw [6, 5] (fun i o wr => ∃ (k : Nat) (q : Int), k ≤ g.rules.length ∧ i = .int .i64 k ∧ o = .int .i64 q ∧ lastFrom n k q (g.rules.drop k) = ov ∧ wr = w1) (fun i _ _ => g.rules.length - (intOf i).toNat)
    case atStart => exact ⟨0, 0, by omega, rfl, rfl, LR.out.symm, rfl⟩
    case round =>
      obtain ⟨k, q, hk, rfl, rfl, hcl, rfl⟩ := hrel
      have c0 : wr.cell? ⟨w.heap.size, 0, none⟩ = some (.slice g.RA g.rules.length g.rc) := K1.out.cell 0
      by_cases hlt : k < g.rules.length
      · have hlt2 : (k : Int) < g.rules.length := by omega
        obtain ⟨b1, o1, eA, _, e0, e1⟩ := (HG.out.below H1.out).rules.two hlt
        rw [eA] at c0
        rw [List.drop_eq_getElem_cons hlt] at hcl
        have hgd : g.rules[k] = g.rules.getD k Rl.zero := by simp [List.getD, List.getElem?_eq_getElem hlt]
        rw [hgd, lastFrom] at hcl
        generalize g.rules.getD k Rl.zero = x at e0 e1 hcl
        clear hgd eA
        by_cases hx : x.body ≤ n
        · rw [if_pos hx] at hcl
          have HCL := Lib.hid hcl
          clear hcl
          go_wp2_with fail
          go_roundw
          case rel => exact ⟨k + 1, k, by omega, by go_num, rfl, HCL.out, by first | rfl | trivial⟩
          case measure => simp [intOf]; omega
        · rw [if_neg hx] at hcl
          have HCL := Lib.hid hcl
          clear hcl
          go_wp2_with fail
          go_roundw
          case rel => exact ⟨k + 1, q, by omega, by go_num, rfl, HCL.out, by first | rfl | trivial⟩
          case measure => simp [intOf]; omega
      · obtain rfl : k = g.rules.length := by omega
        have hlt2 : ¬ (g.rules.length : Int) < g.rules.length := by omega
        rw [List.drop_length, lastFrom] at hcl
        subst hcl
        go_wp2_with fail
        go_ret
        exact ⟨by first | rfl | trivial, H1.out⟩
  · rw [ownerOf_no hy]
    show Calls Try.prog 44 #[.agg #[.slice g.RA g.rules.length g.rc, .slice g.NA g.nodes.length g.nc], .int .i64 n] w _
    obtain ⟨rb, erb⟩ : ∃ rb, rb = rightB g := ⟨_, rfl⟩
    rw [← erb] at RR
    cases rb with
    | false =>
      clear erb hy hg hin hnl hrl
      go_enter Try.func44, Try.ntmps44
      go_wp2_with (go_at_call 16; refine (RR.out _ (B1 _ _)).mono ?_; rintro e w1 ⟨rfl, hb⟩; have H1 := Lib.hid (bb (B1 w _) hb); have d0 := ((Blk.new w _ _).below' hb).cell 0; have d1 := ((Blk.new w _ _).below' hb).cell 1; simp only [List.getElem?_toArray, List.getElem?_cons_zero, List.getElem?_cons_succ] at d0 d1; clear hb)
      go_ret
      exact ⟨by first | rfl | trivial, H1.out⟩
    | true =>
      have hr := rightB_true.1 erb.symm
      by_cases h0 : n < 0
      · clear erb hy hg hin hnl hrl hr
        go_enter Try.func44, Try.ntmps44
        go_wp2_with (go_at_call 16; refine (RR.out _ (B1 _ _)).mono ?_; rintro e w1 ⟨rfl, hb⟩; have H1 := Lib.hid (bb (B1 w _) hb); have d0 := ((Blk.new w _ _).below' hb).cell 0; have d1 := ((Blk.new w _ _).below' hb).cell 1; simp only [List.getElem?_toArray, List.getElem?_cons_zero, List.getElem?_cons_succ] at d0 d1; clear hb)
        go_ret
        exact ⟨by first | rfl | trivial, H1.out⟩
      · have h1 : (g.nodes.length : Int) ≤ n := by
          by_cases h : (g.nodes.length : Int) ≤ n
          · exact h
          · exact absurd ⟨hr, by omega, by omega⟩ hy
        clear erb hy hg hin hnl hrl hr
        go_enter Try.func44, Try.ntmps44
        go_wp2_with (go_at_call 16; refine (RR.out _ (B1 _ _)).mono ?_; rintro e w1 ⟨rfl, hb⟩; have H1 := Lib.hid (bb (B1 w _) hb); have d0 := ((Blk.new w _ _).below' hb).cell 0; have d1 := ((Blk.new w _ _).below' hb).cell 1; simp only [List.getElem?_toArray, List.getElem?_cons_zero, List.getElem?_cons_succ] at d0 d1; clear hb)
        go_ret
        exact ⟨by first | rfl | trivial, H1.out⟩
set_option maxRecDepth 100000 in
set_option maxHeartbeats 2000000 in
theorem size_all (g : Gr) (w : World) (hg : Gr.At w g) : Calls Try.prog 8 #[g.val] w fun e w' => (∃ z : Int, e = .returned (.int .i64 z) ∧ (z ≤ 300 → g.rules.length + g.nodes.length ≤ 300 ∧ ∀ x ∈ g.nodes, x.kids.length ≤ 300)) ∧ Below w.heap.size w w' := by
  have HG := Lib.hid hg
  have h1 := hg.rl
  have h2 := hg.nl
  obtain ⟨RA, rc, rules, NA, nc, nodes⟩ := g
  dsimp only at h1 h2
  obtain ⟨m, em⟩ : ∃ m, m = nodes.length := ⟨_, rfl⟩
  obtain ⟨r, er⟩ : ∃ m, m = rules.length := ⟨_, rfl⟩
  show Calls Try.prog 8 #[.agg #[.slice RA rules.length rc, .slice NA nodes.length nc]] w _
  have EM := Lib.hid em
  have ER := Lib.hid er
  rw [← em, ← er]
  rw [← em] at h2
  rw [← er] at h1
  clear hg em er
  go_enter Try.func8, Try.ntmps8
  go_wp2_with fail
  obtain ⟨wb, ewb⟩ : ∃ u, u = w.alloc (.cells #[.slice RA r rc, .slice NA m nc] 25) := ⟨_, rfl⟩
  have hb2 : Below w.heap.size w wb := by rw [ewb]; exact B1 _ _
  have c0 : wb.cell? ⟨w.heap.size, 0, none⟩ = some (.slice RA r rc) := by rw [ewb]; exact (Blk.new _ _ _).cell 0
  have c1 : wb.cell? ⟨w.heap.size, 1, none⟩ = some (.slice NA m nc) := by rw [ewb]; exact (Blk.new _ _ _).cell 1
  rw [← ewb]
  have BB := Lib.hid hb2
  clear ewb hb2
  go_loopw [3, 4] (fun s i wr => ∃ (k : Nat) (n : Int), k ≤ m ∧ s = .int .i64 n ∧ i = .int .i64 k ∧ n ≤ 500000000000000 ∧ (r + m : Nat) ≤ n ∧ (∀ j, j < k → ((nodes.getD j Nd.zero).kids.length : Int) ≤ n) ∧ wr = wb) (fun _ i _ => m - (intOf i).toNat)
  case atStart => exact ⟨0, r + m, by omega, rfl, rfl, by omega, by omega, fun j h => by omega, rfl⟩
  case round =>
    obtain ⟨k, n, hk, rfl, rfl, hn, hn0, hkk, rfl⟩ := hrel
    have HK := Lib.hid hkk
    clear hkk
    by_cases hlt : k < m
    · have hlt2 : (k : Int) < m := by omega
      by_cases hle : n ≤ 300
      · obtain ⟨b1, o1, eA, _, _, _, _, _, _, _, _, _, c9⟩ := (HG.out.below BB.out).nodes.nine (show k < nodes.length by have := EM.out; omega)
        have hx := ((HG.out.below BB.out).node (show k < nodes.length by have := EM.out; omega)).2.2
        dsimp only at eA c9 hx
        rw [eA] at c1
        generalize hxx : nodes.getD k Nd.zero = x at c9 hx
        have HX := Lib.hid hxx
        clear eA hxx
        go_wp2_with fail
        go_roundw
        case rel => exact ⟨k + 1, n + x.kids.length, by omega, by first | rfl | go_num, by go_num, by omega, by omega, fun j hj => (by
          by_cases ej : j = k
          · subst ej; rw [HX.out]; omega
          · have := HK.out j (by omega); omega), by first | trivial | rfl⟩
        case measure => simp [intOf]; omega
      · have hle2 : 300 < n := by omega
        go_wp2_with fail
        go_ret
        exact ⟨⟨n, rfl, fun h => absurd h (by omega)⟩, BB.out⟩
    · obtain rfl : k = m := by omega
      have hlt2 : ¬ (k : Int) < k := by omega
      go_wp2_with fail
      go_ret
      exact ⟨⟨n, rfl, fun h => ⟨by have := EM.out; have := ER.out; omega, fun x hx => by
        obtain ⟨j, hj, rfl⟩ := List.getElem_of_mem hx
        have := HK.out j (by have := EM.out; omega)
        simp only [List.getD, List.getElem?_eq_getElem hj, Option.getD_some] at this
        skip
        omega⟩⟩, BB.out⟩
end Go.Proofs.Ytfdfcagkfnckmaa
namespace Go.Proofs.Ytfdfcagkfnckmaa
open Go Go.RowKit
theorem nodeOk_at (x : Nd) (A : Option Addr) (c : Nat) (r : Int) : nodeOk (x.at_ A c) r = nodeOk x r := by
  rw [Bool.eq_iff_iff, nodeOk_iff, nodeOk_iff]
  exact Iff.rfl
theorem GTwin.ok {g h : Gr} (t : GTwin g h) (j : Nat) (hj : j < g.nodes.length) (r : Int) : nodeOk (h.nodes.getD j Nd.zero) r = nodeOk (g.nodes.getD j Nd.zero) r := by
  obtain ⟨A, c, e⟩ := t.node j hj
  rw [e, nodeOk_at]
theorem GTwin.kids {g h : Gr} (t : GTwin g h) (j : Nat) (hj : j < g.nodes.length) : kidsOf h.nodes j = kidsOf g.nodes j := by
  obtain ⟨A, c, e⟩ := t.node j hj
  unfold kidsOf
  rw [e]
theorem GTwin.meas {g h : Gr} (t : GTwin g h) (ms : Nat → Meas) : Measured h.nodes ms 0 ↔ Measured g.nodes ms 0 := by
  unfold Measured
  constructor
  · intro H m h0 hm
    have := H m h0 (by rw [t.len]; exact hm)
    rw [t.len, t.kids m hm] at this
    exact this
  · intro H m h0 hm
    rw [t.len] at hm
    have := H m h0 hm
    rw [t.len, t.kids m hm]
    exact this
theorem GTwin.right {g h : Gr} (t : GTwin g h) : Right h ↔ Right g := by
  constructor
  · intro H
    refine ⟨by have := H.rules; rwa [t.rules] at this, by have := H.nodes; rwa [t.len] at this, by have := H.named; rwa [t.rules] at this, fun j hj => ?_, ?_⟩
    · have := H.all j (by rw [t.len]; exact hj)
      rwa [t.ok j hj, t.rules] at this
    · obtain ⟨ms, h1, h2⟩ := H.pre
      exact ⟨ms, (t.meas ms).1 h1, by rwa [t.len, t.rules] at h2⟩
  · intro H
    refine ⟨by rw [t.rules]; exact H.rules, by rw [t.len]; exact H.nodes, by rw [t.rules]; exact H.named, fun j hj => ?_, ?_⟩
    · rw [t.len] at hj
      rw [t.ok j hj, t.rules]
      exact H.all j hj
    · obtain ⟨ms, h1, h2⟩ := H.pre
      exact ⟨ms, (t.meas ms).2 h1, by rw [t.len, t.rules]; exact h2⟩
theorem GTwin.rightB {g h : Gr} (t : GTwin g h) : rightB h = rightB g := by
  rw [Bool.eq_iff_iff, rightB_true, rightB_true]
  exact t.right
theorem GTwin.measOf {g h : Gr} (t : GTwin g h) (n : Int) : measOf h n = measOf g n := by
  by_cases hy : Right g ∧ 0 ≤ n ∧ n < g.nodes.length
  · obtain ⟨hr, h0, h1⟩ := hy
    obtain ⟨k, rfl⟩ : ∃ k : Nat, n = k := ⟨n.toNat, by omega⟩
    obtain ⟨ms, hm, _⟩ := hr.pre
    rw [measOf_yes hr hm (by omega), measOf_yes (t.right.2 hr) ((t.meas ms).2 hm) (by rw [t.len]; omega)]
  · rw [measOf_no hy, measOf_no (fun ⟨a, b, c⟩ => hy ⟨t.right.1 a, b, by rw [t.len] at c; exact c⟩)]
theorem GTwin.owner {g h : Gr} (t : GTwin g h) (n : Int) : ownerOf h n = ownerOf g n := by
  by_cases hy : Right g ∧ 0 ≤ n ∧ n < g.nodes.length
  · rw [ownerOf_yes hy, ownerOf_yes ⟨t.right.2 hy.1, hy.2.1, by rw [t.len]; exact hy.2.2⟩, t.rules]
  · rw [ownerOf_no hy, ownerOf_no (fun ⟨a, b, c⟩ => hy ⟨t.right.1 a, b, by rw [t.len] at c; exact c⟩)]
theorem GTwin.same {g h : Gr} (t : GTwin g h) : sameGr h g = true := by
  unfold sameGr
  rw [rowSame_true (by rw [t.rules]) (fun i _ => by rw [t.rules]; simp [sameRl]), rowSame_true t.len (fun i hi => by
    rw [t.len] at hi
    obtain ⟨A, c, e⟩ := t.node i hi
    rw [e]
    simp [sameNd])]
  rfl
set_option maxRecDepth 100000 in
set_option maxHeartbeats 8000000 in
theorem numbers_any (g h : Gr) (t : GTwin g h) (n : Int) (w : World) (hg : Gr.At w g) (hh : Gr.At w h) (hi : Gr.In g) : Calls Try.prog 19 #[h.val, g.val, .int .i64 n] w fun e w' => e = .returned (.bool true) ∧ Below w.heap.size w w' := by
  have ih := t.within hi
  obtain ⟨wb, ewb⟩ : ∃ u, u = (w.alloc (.cells #[.slice h.RA h.rules.length h.rc, .slice h.NA h.nodes.length h.nc] 25)).alloc (.cells #[.slice g.RA g.rules.length g.rc, .slice g.NA g.nodes.length g.nc] 25) := ⟨_, rfl⟩
  have hb2 : Below w.heap.size w wb := by rw [ewb]; exact B2 _ _ _
  have K1 : Blk wb w.heap.size #[.slice h.RA h.rules.length h.rc, .slice h.NA h.nodes.length h.nc] 25 := by rw [ewb]; exact (Blk.new _ _ _).alloc _
  have K2 : Blk wb (w.heap.size + 1) #[.slice g.RA g.rules.length g.rc, .slice g.NA g.nodes.length g.nc] 25 := by
    rw [ewb]; have := Blk.new (w.alloc (.cells #[.slice h.RA h.rules.length h.rc, .slice h.NA h.nodes.length h.nc] 25)) #[.slice g.RA g.rules.length g.rc, .slice g.NA g.nodes.length g.nc] 25; rw [World.size_alloc] at this; exact this
  have S1 := Lib.hid (fun (e : Ext wb) => by have := size_of h n e.val ((hh.below hb2).below e.grown) ih; rw [t.measOf n] at this; exact this)
  have S2 := Lib.hid (fun (e : Ext wb) => refSize_any g n e.val ((hg.below hb2).below e.grown) hi)
  have H1 := Lib.hid (fun (e : Ext wb) => by have := height_of h n e.val ((hh.below hb2).below e.grown) ih; rw [t.measOf n] at this; exact this)
  have H2 := Lib.hid (fun (e : Ext wb) => refHeight_any g n e.val ((hg.below hb2).below e.grown) hi)
  have O1 := Lib.hid (fun (e : Ext wb) => by have := owner_of h n e.val ((hh.below hb2).below e.grown) ih; rw [t.owner n] at this; exact this)
  have O2 := Lib.hid (fun (e : Ext wb) => refOwner_any g n e.val ((hg.below hb2).below e.grown) hi)
  obtain ⟨sz, esz⟩ : ∃ z, z = (measOf g n).1 := ⟨_, rfl⟩
  obtain ⟨ht, eht⟩ : ∃ z, z = (measOf g n).2 := ⟨_, rfl⟩
  obtain ⟨ow, eow⟩ : ∃ z, z = ownerOf g n := ⟨_, rfl⟩
  rw [← esz] at S1 S2
  rw [← eht] at H1 H2
  rw [← eow] at O1 O2
  have z1 : (sz == sz) = true := by simp
  have z2 : (ht == ht) = true := by simp
  have z3 : (ow == ow) = true := by simp
  have a0 := fun e => Ext.cell (w := wb) (K1.cell 0) e
  have a1 := fun e => Ext.cell (w := wb) (K1.cell 1) e
  have c0 := fun e => Ext.cell (w := wb) (K2.cell 0) e
  have c1 := fun e => Ext.cell (w := wb) (K2.cell 1) e
  have BB := Lib.hid hb2
  have EW := Lib.hid ewb
  clear esz eht eow hg hh hi ih hb2 K1 K2 ewb t
  show Calls Try.prog 19 #[.agg #[.slice h.RA h.rules.length h.rc, .slice h.NA h.nodes.length h.nc], .agg #[.slice g.RA g.rules.length g.rc, .slice g.NA g.nodes.length g.nc], .int .i64 n] w _
  go_enter Try.func19, Try.ntmps19
  go_upto_region 1 with fail
  rw [← EW.out]
  refine wp_region_ext (by kernel_rfl) (by kernel_rfl) ?_
  repeat (first | go_big_quiet_step (first | (go_at_call 25; exact Calls.ext_of (S1.out _)) | (go_at_call 42; exact Calls.ext_of (S2.out _)) | (go_at_call 26; exact Calls.ext_of (H1.out _)) | (go_at_call 43; exact Calls.ext_of (H2.out _)) | (go_at_call 27; exact Calls.ext_of (O1.out _)) | (go_at_call 44; exact Calls.ext_of (O2.out _))) | quiet_step (first | (go_at_call 25; exact Calls.ext_of (S1.out _)) | (go_at_call 42; exact Calls.ext_of (S2.out _)) | (go_at_call 26; exact Calls.ext_of (H1.out _)) | (go_at_call 43; exact Calls.ext_of (H2.out _)) | (go_at_call 27; exact Calls.ext_of (O1.out _)) | (go_at_call 44; exact Calls.ext_of (O2.out _))))
  refine wpQuiet_nil ?_
  intro w9 hw'
  obtain ⟨⟨_, hb9⟩, rfl⟩ := hw'
  have B9 := Lib.hid (bb BB.out hb9)
  clear hb9 a0 a1 c0 c1 S1 S2 H1 H2 O1 O2
  go_wp2_with fail
  go_ret
  exact ⟨rfl, B9.out⟩
end Go.Proofs.Ytfdfcagkfnckmaa
namespace Go.Proofs.Ytfdfcagkfnckmaa
theorem climb_last {len : Nat} {ms : Nat → Meas} (a b : Int) : ∀ (r : List Int) (n h : Int) (x y : Meas), climb len ms (r ++ [a]) n h = some x → climb len ms (r ++ [b]) n h = some y → a = b
  | [], n, h, x, y, h1, h2 => by
    simp only [List.nil_append, climb] at h1 h2
    split at h1
    · split at h2
      · rename_i p q; omega
      · cases h2
    · cases h1
  | k :: r, n, h, x, y, h1, h2 => by
    simp only [List.cons_append] at h1 h2
    unfold climb at h1 h2
    split at h1
    · rename_i p
      rw [if_pos p] at h2
      exact climb_last a b r _ _ x y h1 h2
    · cases h1
theorem measured_like {l l' : List Nd} {ms : Nat → Meas} {n : Nat} (hl : l'.length = l.length) (hk : ∀ j, n ≤ j → j < l.length → kidsOf l' j = kidsOf l j) (h : Measured l ms n) : Measured l' ms n := by
  intro m hm hml
  rw [hl] at hml
  have := h m hm hml
  rw [hl, hk m hm hml]
  exact this
theorem turned_not {l l' : List Nd} {ms ms' : Nat → Meas} (h : Measured l ms 0) (hl : l'.length = l.length) (m : Nat) (hm : m < l.length) (hk : ∀ j, j ≠ m → j < l.length → kidsOf l' j = kidsOf l j) (r : List Int) (a b : Int) (e1 : kidsOf l m = r ++ [a]) (e2 : kidsOf l' m = r ++ [b]) (hne : a ≠ b) : ¬ Measured l' ms' 0 := by
  intro h'
  have q : Measured l' ms (m + 1) := measured_like hl (fun j h1 h2 => hk j (by omega) h2) (fun k h1 h2 => h k (by omega) h2)
  have u := fun k (h1 : m + 1 ≤ k) (h2 : k < l'.length) => measured_unique q h' _ k (Nat.le_refl _) h1 (by omega) h2
  have c1 := (h m (by omega) hm).2.2.2
  have c2 := (h' m (by omega) (by omega)).2.2.2
  rw [e1] at c1
  rw [e2, hl, ← climb_congr (len := l.length) (ms := ms) (ms' := ms') (m + 1) (fun k h1 h2 => (h k (by omega) h2).1) (fun k h1 h2 => u k h1 (by omega)) _ _ _ (by omega)] at c2
  exact hne (climb_last a b r _ _ _ _ c1 c2)
theorem turned_unlike {g h : Gr} (hl : h.nodes.length = g.nodes.length) (m : Nat) (hm : m < g.nodes.length) (hne : (h.nodes.getD m Nd.zero).kids ≠ (g.nodes.getD m Nd.zero).kids) : sameGr h g = false := by
  unfold sameGr
  rw [rowSame_false (z := Nd.zero) m (by omega) (by unfold sameNd; rw [decide_eq_false_iff_not]; exact fun q => hne q.2.2.2.2.2), Bool.and_false]
end Go.Proofs.Ytfdfcagkfnckmaa

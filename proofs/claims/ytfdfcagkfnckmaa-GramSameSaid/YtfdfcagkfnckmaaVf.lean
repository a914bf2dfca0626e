/- The chapter's example, as the laws ask it. -/
import Derived.Test.YtfdfcagkfnckmaaVe
import Derived.Test.YtfdfcagkfnckmaaRy
import Derived.Deep.CutRange
namespace Go.Proofs.Ytfdfcagkfnckmaa
open Go Go.RowKit
set_option maxRecDepth 100000 in
set_option maxHeartbeats 4000000 in
theorem awake_any (w : World) : Calls Try.prog 9 #[] w fun e w' => e = .returned (.bool true) ∧ Below w.heap.size w w' := by
  go_enter Try.func9, Try.ntmps9
  go_upto_region 2 with (go_at_call 30; refine (example_any w).mono ?_; rintro e w1 ⟨⟨ra, na, k0, k1, rfl, hat⟩, hb⟩; have H1 := Lib.hid hb; have AT := Lib.hid hat; clear hb hat)
  obtain ⟨g, eg⟩ : ∃ g, g = exG ra na k0 k1 := ⟨_, rfl⟩
  have hin : Gr.In g := by rw [eg]; exact ex_in _ _ _ _
  have hr : rightB g = true := by rw [eg]; exact rightB_true.2 (ex_right _ _ _ _)
  have hm0 : measOf g 0 = (5, 3) := by rw [eg]; exact ex_meas0 _ _ _ _
  have hm1 : measOf g 1 = (3, 2) := by rw [eg]; exact ex_meas1 _ _ _ _
  have ho : ownerOf g 4 = 0 := by rw [eg]; exact ex_owner _ _ _ _
  have hA : ruleAt g.rules tA = 0 := by rw [eg]; exact ex_ruleA _ _ _ _
  have hB : ruleAt g.rules tB = -1 := by rw [eg]; exact ex_ruleB _ _ _ _
  rw [← eg] at AT ⊢
  clear eg
  obtain ⟨wx, ewx⟩ : ∃ u, u = w1.alloc (.cells #[.slice g.RA g.rules.length g.rc, .slice g.NA g.nodes.length g.nc] 25) := ⟨_, rfl⟩
  have hbx : Below w1.heap.size w1 wx := by rw [ewx]; exact B1 _ _
  have k : Blk wx w1.heap.size #[.slice g.RA g.rules.length g.rc, .slice g.NA g.nodes.length g.nc] 25 := by rw [ewx]; exact Blk.new _ _ _
  rw [← ewx]
  have hx := AT.out.below hbx
  have HX := Lib.hid (bb H1.out hbx)
  have RI := Lib.hid (fun (e : Ext wx) => by have := right_all g e.val (hx.below e.grown) hin; rw [hr] at this; exact this)
  have S0 := Lib.hid (fun (e : Ext wx) => by have := size_of g 0 e.val (hx.below e.grown) hin; rw [hm0] at this; exact this)
  have S1 := Lib.hid (fun (e : Ext wx) => by have := size_of g 1 e.val (hx.below e.grown) hin; rw [hm1] at this; exact this)
  have H0 := Lib.hid (fun (e : Ext wx) => by have := height_of g 0 e.val (hx.below e.grown) hin; rw [hm0] at this; exact this)
  have O4 := Lib.hid (fun (e : Ext wx) => by have := owner_of g 4 e.val (hx.below e.grown) hin; rw [ho] at this; exact this)
  have RA' := Lib.hid (fun (e : Ext wx) => by have := rule_any g tA e.val (hx.below e.grown); rw [hA] at this; exact this)
  have RB' := Lib.hid (fun (e : Ext wx) => by have := rule_any g tB e.val (hx.below e.grown); rw [hB] at this; exact this)
  have d0 := fun e => Ext.cell (w := wx) (k.cell 0) e
  have d1 := fun e => Ext.cell (w := wx) (k.cell 1) e
  clear hin hr hm0 hm1 ho hA hB ewx hbx k hx AT H1
  refine wp_region_ext_list ?_
  repeat (first | go_big_quiet_step (first | (go_at_call 15; exact Calls.ext_of (RI.out _)) | (go_at_call 25; first | exact Calls.ext_of (S0.out _) | exact Calls.ext_of (S1.out _)) | (go_at_call 26; exact Calls.ext_of (H0.out _)) | (go_at_call 27; exact Calls.ext_of (O4.out _)) | (go_at_call 17; first | exact Calls.ext_of (RA'.out _) | exact Calls.ext_of (RB'.out _))) | quiet_step (first | (go_at_call 15; exact Calls.ext_of (RI.out _)) | (go_at_call 25; first | exact Calls.ext_of (S0.out _) | exact Calls.ext_of (S1.out _)) | (go_at_call 26; exact Calls.ext_of (H0.out _)) | (go_at_call 27; exact Calls.ext_of (O4.out _)) | (go_at_call 17; first | exact Calls.ext_of (RA'.out _) | exact Calls.ext_of (RB'.out _))))
  refine wpQuiet_nil ?_
  intro _ hw'
  obtain ⟨⟨w9, hb9⟩, rfl⟩ := hw'
  have H9 := Lib.hid (bb HX.out hb9)
  clear hb9 d0 d1 RI S0 S1 H0 O4 RA' RB'
  go_wp2_with fail
  go_ret
  exact ⟨rfl, H9.out⟩
end Go.Proofs.Ytfdfcagkfnckmaa

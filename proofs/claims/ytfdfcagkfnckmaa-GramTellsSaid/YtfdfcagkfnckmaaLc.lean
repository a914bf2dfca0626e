/- The law GramTells, walked. -/
import Derived.Test.YtfdfcagkfnckmaaVm
import Derived.Test.YtfdfcagkfnckmaaVf
import Derived.Test.YtfdfcagkfnckmaaWn
import Derived.Test.YtfdfcagkfnckmaaWj
namespace Go.Proofs.Ytfdfcagkfnckmaa
open Go Go.RowKit
set_option maxRecDepth 100000 in
set_option maxHeartbeats 16000000 in
theorem tells_law (g : Gr) (s : ByteArray) (x : Nd) (r n : Int) (w : World) (hg : Gr.At w g) (hin : Gr.In g) (hs : s.size ≤ 281474976710656) (hx : Nd.At w x) (hxi : Nd.In x) (hn : -9223372036854775808 ≤ n ∧ n < 9223372036854775808) :
    Calls Try.prog 3 #[g.val, .string s, x.val, .int .i64 r, .int .i64 n] w fun e w' => e = .returned (.bool true) ∧ Below w.heap.size w w' := by
  have hkl := hx.2.2
  have SZ := Lib.hid (fun (w' : World) (b : Below w.heap.size w w') => size_all g w' (hg.below b))
  have HG := Lib.hid hg
  have HX := Lib.hid hx
  have HI := Lib.hid (And.intro hin hxi)
  have HN := Lib.hid hn
  have CG := Lib.hid (fun (w' : World) (b : Below w.heap.size w w') h1 h2 h3 => copyGram_any g w' (hg.below b) h1 h2 h3)
  clear hg hin hx hxi hn
  show Calls Try.prog 3 #[.agg #[.slice g.RA g.rules.length g.rc, .slice g.NA g.nodes.length g.nc], .string s, x.val, .int .i64 r, .int .i64 n] w _
  go_enter Try.func3, Try.ntmps3
  go_upto_region 4 with (first | (go_at_call 8; refine (SZ.out _ (B2 _ _ _)).mono ?_; rintro e w1 ⟨⟨z, rfl, hz⟩, hb⟩; have HZ := Lib.hid hz; have KG := Lib.hid (((Blk.new w _ _).alloc _).below' hb); have KX := Lib.hid (by have := (Blk.new (w.alloc _) _ _).below' hb; rw [World.size_alloc] at this; exact this); have H1 := Lib.hid (bb (B2 w _ _) hb); have a0 := KG.out.cell 0; have a1 := KG.out.cell 1; have x8 := KX.out.cell 8; simp only [List.getElem?_toArray, List.getElem?_cons_zero, List.getElem?_cons_succ] at a0 a1 x8; clear hz hb) | (go_at_call 9; refine (awake_any _).mono ?_; rintro e w2 ⟨rfl, hb⟩; have H2 := Lib.hid (bb H1.out hb); clear hb) | (go_at_call 10; have HQ := Lib.hid (HZ.out (by omega)); refine (CG.out _ H1.out (by have := HQ.out.1; omega) (by have := HQ.out.1; omega) (fun y hy => by have := HQ.out.2 y hy; omega)).mono ?_; rintro e w2 ⟨⟨h, rfl, hh, ht⟩, hb⟩; have HH := Lib.hid hh; have HT := Lib.hid ht; have KG2 := Lib.hid (KG.out.below' hb); have KX2 := Lib.hid (KX.out.below' hb); have H2 := Lib.hid (bb H1.out hb); clear hh ht hb a0 a1 x8) | (refine wpList_store_whole rfl 25 (.tmp 11) (.tmp 26) rfl w2.heap.size #[.slice h.RA h.rules.length h.rc, .slice h.NA h.nodes.length h.nc] rfl rfl 25 _ (Blk.new _ _ _) (by kernel_rfl) (by rfl) (by simp [Value.oneCell']) ?_; intro w3 hk hg; have H3' := Lib.hid (grown_below (B1 w2 _) (by simp) hg (fun k e => by cases e; exact Nat.le_refl _)); have KH := Lib.hid hk; clear hk hg))
  all_goals try (go_ret; exact ⟨rfl, H2.out⟩)
  have AG := Lib.hid ((HG.out.below H2.out).below H3'.out)
  have AH := Lib.hid (HH.out.below H3'.out)
  have AX := Lib.hid ((HX.out.below H2.out).below H3'.out)
  have HI2 := Lib.hid (HT.out.within HI.out.1)
  have N1 := Lib.hid (fun (e : Ext w3) => name_any s (by omega) e.val)
  have N2 := Lib.hid (fun (e : Ext w3) => (refName_any s (by omega) e.val).mono fun _ w' ⟨h, he⟩ => And.intro h (show Below e.val.heap.size e.val w' by subst he; exact Below.refl _ _))
  have X1 := Lib.hid (fun (e : Ext w3) => node_any x r e.val (AX.out.below e.grown) HI.out.2)
  have X2 := Lib.hid (fun (e : Ext w3) => refNodeIs_any x r e.val (AX.out.below e.grown) HI.out.2)
  have R1 := Lib.hid (fun (e : Ext w3) => by have := right_all h e.val (AH.out.below e.grown) HI2.out; rw [HT.out.rightB] at this; exact this)
  have R2 := Lib.hid (fun (e : Ext w3) => refRight_any g e.val (AG.out.below e.grown) HI.out.1)
  have U1 := Lib.hid (fun (e : Ext w3) => by have := rule_any h s e.val (AH.out.below e.grown); rw [HT.out.rules] at this; exact this)
  have U2 := Lib.hid (fun (e : Ext w3) => refRule_any g s e.val (AG.out.below e.grown))
  obtain ⟨nb, enb⟩ : ∃ b, b = nameOk s.data.toList := ⟨_, rfl⟩
  obtain ⟨xb, exb⟩ : ∃ b, b = nodeOk x r := ⟨_, rfl⟩
  obtain ⟨rb, erb⟩ : ∃ b, b = rightB g := ⟨_, rfl⟩
  obtain ⟨ra, era⟩ : ∃ b, b = ruleAt g.rules s := ⟨_, rfl⟩
  rw [← enb] at N1 N2
  rw [← exb] at X1 X2
  rw [← erb] at R1 R2
  rw [← era] at U1 U2
  have z1 : (nb != nb) = false := by simp
  have z2 : (xb != xb) = false := by simp
  have z3 : (rb != rb) = false := by simp
  have z4 : (ra != ra) = false := by simp
  have KG3 := Lib.hid (KG2.out.below' H3'.out)
  have KX3 := Lib.hid (KX2.out.below' H3'.out)
  have g0 := fun e => Ext.cell (w := w3) (KG3.out.cell 0) e
  have g1 := fun e => Ext.cell (w := w3) (KG3.out.cell 1) e
  have k0 := fun e => Ext.cell (w := w3) (KH.out.cell 0) e
  have k1 := fun e => Ext.cell (w := w3) (KH.out.cell 1) e
  have x0 := fun e => Ext.cell (w := w3) (KX3.out.cell 0) e
  have x1 := fun e => Ext.cell (w := w3) (KX3.out.cell 1) e
  have x2 := fun e => Ext.cell (w := w3) (KX3.out.cell 2) e
  have x3 := fun e => Ext.cell (w := w3) (KX3.out.cell 3) e
  have x4 := fun e => Ext.cell (w := w3) (KX3.out.cell 4) e
  have x5 := fun e => Ext.cell (w := w3) (KX3.out.cell 5) e
  have x6 := fun e => Ext.cell (w := w3) (KX3.out.cell 6) e
  have x7 := fun e => Ext.cell (w := w3) (KX3.out.cell 7) e
  have x8 := fun e => Ext.cell (w := w3) (KX3.out.cell 8) e
  clear enb exb erb era
  refine wp_region_ext (by kernel_rfl) (by kernel_rfl) ?_
  repeat (first | go_big_quiet_step (first | (go_at_call 11; exact Calls.ext_of (N1.out _)) | (go_at_call 12; exact Calls.ext_of (N2.out _)) | (go_at_call 13; exact Calls.ext_of (X1.out _)) | (go_at_call 14; exact Calls.ext_of (X2.out _)) | (go_at_call 15; exact Calls.ext_of (R1.out _)) | (go_at_call 16; exact Calls.ext_of (R2.out _)) | (go_at_call 17; exact Calls.ext_of (U1.out _)) | (go_at_call 18; exact Calls.ext_of (U2.out _))) | quiet_step (first | (go_at_call 11; exact Calls.ext_of (N1.out _)) | (go_at_call 12; exact Calls.ext_of (N2.out _)) | (go_at_call 13; exact Calls.ext_of (X1.out _)) | (go_at_call 14; exact Calls.ext_of (X2.out _)) | (go_at_call 15; exact Calls.ext_of (R1.out _)) | (go_at_call 16; exact Calls.ext_of (R2.out _)) | (go_at_call 17; exact Calls.ext_of (U1.out _)) | (go_at_call 18; exact Calls.ext_of (U2.out _))))
  refine wpQuiet_nil ?_
  intro w9 hw'
  obtain ⟨⟨_, hb9⟩, rfl⟩ := hw'
  have H9 := Lib.hid (bb (bb H2.out H3'.out) hb9)
  have KG9 := Lib.hid (KG3.out.below' hb9)
  have KH9 := Lib.hid (KH.out.below' hb9)
  have AG9 := Lib.hid (AG.out.below hb9)
  have AH9 := Lib.hid (AH.out.below hb9)
  clear hb9 g0 g1 k0 k1 x0 x1 x2 x3 x4 x5 x6 x7 x8 N1 N2 X1 X2 R1 R2 U1 U2 z1 z2 z3 z4
  go_upto_region 6 with fail
  have hnl : g.nodes.length ≤ 300 := by have := HQ.out.1; omega
  have hwr : IntKind.i64.wrap ((g.nodes.length : Int) + 1) = g.nodes.length + 1 := IntWalk.i64_in _ (by omega)
  have NU := Lib.hid (fun (n : Int) (e : Ext w9) => numbers_any g h HT.out n e.val (AG9.out.below e.grown) (AH9.out.below e.grown) HI.out.1)
  have PK := Lib.hid (fun (e : Ext w9) => (pick_any n (g.nodes.length + 1) HN.out (by omega) e.val).mono fun _ w' ⟨h, he⟩ => And.intro h (show Below e.val.heap.size e.val w' by subst he; exact Below.refl _ _))
  have SM := Lib.hid (fun (e : Ext w9) => by have := refSame_any h g e.val (AH9.out.below e.grown) (AG9.out.below e.grown); rw [HT.out.same] at this; exact this)
  have g0 := fun e => Ext.cell (w := w9) (KG9.out.cell 0) e
  have g1 := fun e => Ext.cell (w := w9) (KG9.out.cell 1) e
  have k0 := fun e => Ext.cell (w := w9) (KH9.out.cell 0) e
  have k1 := fun e => Ext.cell (w := w9) (KH9.out.cell 1) e
  clear hnl
  refine wp_region_ext (by kernel_rfl) (by kernel_rfl) ?_
  repeat (first | go_big_quiet_step (first | (go_at_call 19; exact Calls.ext_of (NU.out _ _)) | (go_at_call 20; exact Calls.ext_of (PK.out _)) | (go_at_call 21; exact Calls.ext_of (SM.out _)) | (go_at_call 9; exact Calls.ext_of (awake_any _))) | quiet_step (first | (go_at_call 19; exact Calls.ext_of (NU.out _ _)) | (go_at_call 20; exact Calls.ext_of (PK.out _)) | (go_at_call 21; exact Calls.ext_of (SM.out _)) | (go_at_call 9; exact Calls.ext_of (awake_any _))))
  refine wpQuiet_nil ?_
  intro w8 hw'
  obtain ⟨⟨_, hb9⟩, rfl⟩ := hw'
  have H8 := Lib.hid (bb H9.out hb9)
  clear hb9 g0 g1 k0 k1 NU PK SM hwr
  go_wp2_with fail
  go_ret
  exact ⟨rfl, H8.out⟩
end Go.Proofs.Ytfdfcagkfnckmaa

/- gram.Copy. -/
import Derived.Test.YtlbjmkljmhfjdaaGreatD7
import Derived.Deep.CutRange
set_option linter.unusedSimpArgs false
set_option linter.unusedVariables false
namespace Go.Proofs.YtlbjmkljmhfjdaaGreat
open Go Go.RowKit
/-- A grammar that lies in rows of the call's own. -/
structure Fresh (w : World) (B : Nat) (h : Gr) : Prop where
  rules : w.ownsRow B 124 2 (.slice h.RA h.rules.length h.rc) h.rules.length (rcells h.rules)
  nodes : w.ownsRow B 40 9 (.slice h.NA h.nodes.length h.nc) h.nodes.length (ncells h.nodes)
  kids : ∀ x ∈ h.nodes, w.ownsRow B 3 1 (.slice x.A x.kids.length x.cap) x.kids.length (ints x.kids) ∧ (x.A = none → x.cap = 0)
  rn : h.RA = none → h.rc = 0
  nn : h.NA = none → h.nc = 0
theorem Fresh.below {w w' : World} {B : Nat} {h : Gr} (f : Fresh w B h) (hb : Below w.heap.size w w') : Fresh w' B h :=
  ⟨own_below f.rules hb, own_below f.nodes hb, fun x hx => ⟨own_below (f.kids x hx).1 hb, (f.kids x hx).2⟩, f.rn, f.nn⟩
theorem Fresh.lies {w w' : World} {B : Nat} {g h : Gr} (f : Fresh w' B h) (t : GTwin g h) (hg : Gr.At w g) : Gr.At w' h :=
  t.lies hg (own_rules f.rules) (own_nodes f.nodes) (fun x hx => ⟨own_lies1 (f.kids x hx).1, (f.kids x hx).2⟩) f.rn f.nn
/-- What is wanted of a grammar that is to be copied. -/
structure Small (g : Gr) : Prop where
  rules : g.rules.length ≤ 1000000
  nodes : g.nodes.length ≤ 1000000
  kids : ∀ x ∈ g.nodes, x.kids.length ≤ 1000000 ∧ x.text.size ≤ 281474976710656
  names : ∀ r ∈ g.rules, r.name.size ≤ 281474976710656
theorem gcopy_done {w w4 : World} {B b : Nat} {RA NA : Option Addr} {rc nc m n : Nat} {xs : List Value} {cl : List Nd} (h1 : w4.ownsRow B 124 2 (.slice RA m rc) m xs) (h2 : w4.ownsRow B 40 9 (.slice NA n nc) n (ncells cl)) (h3 : ∀ x ∈ cl, Kid w4 B (.slice NA n nc) x)
    (hb : b < B) (kr : Blk w4 b #[.slice none 0 0, .slice none 0 0] 25) (hw : w.heap.size ≤ b) (h4 : Below w.heap.size w w4) (W5 : World) (eW : W5 = (w4.setCell ⟨b, 0, none⟩ (.slice RA m rc)).setCell ⟨b, 1, none⟩ (.slice NA n nc)) :
    Blk W5 b #[.slice RA m rc, .slice NA n nc] 25 ∧ W5.ownsRow B 124 2 (.slice RA m rc) m xs ∧ W5.ownsRow B 40 9 (.slice NA n nc) n (ncells cl) ∧ (∀ x ∈ cl, Kid W5 B (.slice NA n nc) x) ∧ Below w.heap.size w W5 := by
  have k1 : Blk (w4.setCell ⟨b, 0, none⟩ (.slice RA m rc)) b #[.slice RA m rc, .slice none 0 0] 25 := heap_setCell_same w4 b 0 #[.slice none 0 0, .slice none 0 0] 25 _ kr
  have k2 : Blk W5 b #[.slice RA m rc, .slice NA n nc] 25 := by rw [eW]; exact heap_setCell_same _ b 1 #[.slice RA m rc, .slice none 0 0] 25 _ k1
  have g : w4.grownBy W5 (some b) := by
    rw [eW]
    exact ⟨rfl, rfl, rfl, by simp, fun k hk hne => (heap_setCell_other _ ⟨b, 1, none⟩ k _ (fun e => hne (by rw [e]))).trans (heap_setCell_other w4 ⟨b, 0, none⟩ k _ (fun e => hne (by rw [e])))⟩
  exact ⟨k2, own_blk h1 hb g, own_blk h2 hb g, fun x hx => (h3 x hx).blk hb g, grown_below h4 h4.size g (fun k e => by cases e; exact hw)⟩
set_option maxRecDepth 100000 in
set_option maxHeartbeats 8000000 in
theorem gcopy_any (g : Gr) (w : World) (hg : Gr.At w g) (hs : Small g) :
    Calls Tryz.prog 136 #[g.val] w fun e w' => (∃ h : Gr, e = .returned h.val ∧ GTwin g h ∧ Fresh w' w.heap.size h) ∧ Below w.heap.size w w' := by
  have CR := Lib.hid (fun (w' : World) (b : Below w.heap.size w w') => gcopyRules_any g.RA g.rules g.rc hs.rules hg.rn hs.names w' (hg.below b).rules)
  have CNN := Lib.hid (fun (w' : World) (b : Below w.heap.size w w') => gcopyNodes_any g.NA g.nodes g.nc hs.nodes hg.nn w' (hg.below b).nodes (hg.below b).kids hs.kids)
  clear hg hs
  show Calls Tryz.prog 136 #[.agg #[.slice g.RA g.rules.length g.rc, .slice g.NA g.nodes.length g.nc]] w _
  go_enter Tryz.func136, Tryz.ntmps136
  go_upto_region 1 with fail
  obtain ⟨w2, ew2⟩ : ∃ u, u = (w.alloc (.cells #[.slice g.RA g.rules.length g.rc, .slice g.NA g.nodes.length g.nc] 25)).alloc (.cells #[.slice none 0 0, .slice none 0 0] 25) := ⟨_, rfl⟩
  obtain ⟨r, er⟩ : ∃ r, r = w.heap.size + 1 := ⟨_, rfl⟩
  obtain ⟨b, eb⟩ : ∃ r, r = w.heap.size := ⟨_, rfl⟩
  have hb2 : Below w.heap.size w w2 := by rw [ew2]; exact B2 _ _ _
  have hkb : Blk w2 b #[.slice g.RA g.rules.length g.rc, .slice g.NA g.nodes.length g.nc] 25 := by rw [ew2, eb]; exact (Blk.new _ _ _).alloc _
  have hkr : Blk w2 r #[.slice none 0 0, .slice none 0 0] 25 := by
    rw [ew2, er]; have := Blk.new (w.alloc (.cells #[.slice g.RA g.rules.length g.rc, .slice g.NA g.nodes.length g.nc] 25)) #[.slice none 0 0, .slice none 0 0] 25; rw [World.size_alloc] at this; exact this
  have hz : w2.heap.size = w.heap.size + 2 := by rw [ew2]; simp
  rw [← ew2, ← er, ← eb]
  have KB := Lib.hid hkb
  have KR := Lib.hid hkr
  have HB2 := Lib.hid hb2
  have NE := Lib.hid (And.intro er (And.intro eb hz))
  have a0 := hkb.cell 0
  have a1 := hkb.cell 1
  simp only [List.getElem?_toArray, List.getElem?_cons_zero, List.getElem?_cons_succ] at a0 a1
  clear ew2 er eb hb2 hkb hkr hz
  go_region_with (first | (go_at_call 196; refine (CR.out _ (by first | exact HB2.out | exact bdrew1 HB2.out | exact bdrew1 (bdrew1 HB2.out))).mono ?_; rintro e w3 ⟨A1, c1, rfl, ho, hnn, hb⟩; have KB3 := Lib.hid (Blk.below' (b := b) (vs := #[.slice g.RA g.rules.length g.rc, .slice g.NA g.nodes.length g.nc]) (T := 25) (h := by exact KB.out) hb); have KR3 := Lib.hid (Blk.below' (b := r) (vs := #[.slice none 0 0, .slice none 0 0]) (T := 25) (h := by exact KR.out) hb); have H3 := Lib.hid (show Below w.heap.size w w3 from by first | exact bb HB2.out hb | exact bb (bdrew1 HB2.out) hb | exact bb (bdrew1 (bdrew1 HB2.out)) hb); have HO := Lib.hid (own_lower (base' := r + 1) ho (by have := NE.out; first | (show r + 1 ≤ w2.heap.size; omega) | (simp; omega))); have HNN := Lib.hid hnn; have d0 := KB3.out.cell 0; have d1 := KB3.out.cell 1; simp only [List.getElem?_toArray, List.getElem?_cons_zero, List.getElem?_cons_succ] at d0 d1; clear ho hnn hb) | (go_at_call 197; refine (CNN.out _ (by first | exact H3.out | exact bdrew1 H3.out | exact bdrew1 (bdrew1 H3.out))).mono ?_; rintro e w4 ⟨A2, c2, rfl, cl, hcl, htw, hno, hki, hnn2, hb⟩; have HO4 := Lib.hid (show w4.ownsRow (r + 1) 124 2 _ _ _ from own_below (by exact HO.out) hb); have KR4 := Lib.hid (Blk.below' (b := r) (vs := #[.slice none 0 0, .slice none 0 0]) (T := 25) (h := by exact KR3.out) hb); have H4 := Lib.hid (show Below w.heap.size w w4 from by first | exact bb H3.out hb | exact bb (bdrew1 H3.out) hb | exact bb (bdrew1 (bdrew1 H3.out)) hb); have HCL := Lib.hid hcl; have HTW := Lib.hid htw; have R3 : r + 1 ≤ w3.heap.size := (by have := KR3.out.lt; omega); have HNO := Lib.hid (own_lower (base' := r + 1) hno R3); have HKI := Lib.hid (fun x hx => (show Kid w4 (r + 1) _ x from ⟨own_lower (hki x hx).1 R3, (hki x hx).2⟩)); have HNN2 := Lib.hid hnn2; have k0 := KR4.out.cell 0; have k1 := KR4.out.cell 1; have m0 := KR4.out.frozen 0; have m1 := KR4.out.frozen 1; simp only [List.getElem?_toArray, List.getElem?_cons_zero, List.getElem?_cons_succ] at k0 k1; clear hcl htw hno hki hnn2 hb d0 d1 R3))
  all_goals (
    generalize hW5 : (World.setCell _ _ _ : World) = W5
    have hr : w.heap.size ≤ r := by have := NE.out; omega
    obtain ⟨q1, q2, q3, q4, q5⟩ := gcopy_done HO4.out HNO.out HKI.out (Nat.lt_succ_self r) KR4.out hr H4.out W5 hW5.symm
    have hr2 : w.heap.size ≤ r + 1 := by omega
    have K5 := Lib.hid q1
    have T : RowKit.Hid (GTwin g ⟨A1, c1, g.rules, A2, c2, cl⟩) := Lib.hid ⟨rfl, HCL.out, HTW.out⟩
    have F : RowKit.Hid (Fresh W5 w.heap.size ⟨A1, c1, g.rules, A2, c2, cl⟩) := Lib.hid ⟨own_lower q2 hr2, by show W5.ownsRow w.heap.size 40 9 (.slice A2 cl.length c2) cl.length (ncells cl); rw [HCL.out]; exact own_lower q3 hr2, fun x hx => ⟨own_lower (q4 x hx).1 hr2, (q4 x hx).2.1⟩, HNN.out, HNN2.out⟩
    have H5 := Lib.hid q5
    clear hW5 q1 q2 q3 q4 q5 hr hr2 m0 m1 k0 k1 a0 a1
    go_wp2_with fail
    refine bodyPost_ret (results_cell_row rfl _ _ r 25 _ (0, 0) _ rfl K5.out Tryz.underlying25 rfl (by kernel_rfl)) rfl ⟨⟨⟨A1, c1, g.rules, A2, c2, cl⟩, ?_, T.out, F.out⟩, H5.out⟩
    show Ending.returned (.agg #[.slice A1 g.rules.length c1, .slice A2 g.nodes.length c2]) = .returned (.agg #[.slice A1 g.rules.length c1, .slice A2 cl.length c2])
    rw [HCL.out])
end Go.Proofs.YtlbjmkljmhfjdaaGreat

/- What was lent of nodes is as it was. (Great seat.) -/
import Derived.Test.YtlbjmkljmhfjdaaGreatE2
set_option linter.unusedSimpArgs false
set_option linter.unusedVariables false
namespace Go.Proofs.YtlbjmkljmhfjdaaGreat
open Go Go.Proofs Go.RowKit Go.Lib Go.Maps
theorem twin_same {x y : Nd} (t : Twin y x) : sameNd x y = true := by
  obtain ⟨A, c, rfl⟩ := t
  simp [sameNd]
theorem same_self (x : Nd) : sameNd x x = true := by simp [sameNd]
theorem lmkN_at (w : World) (i : Nat) : Nd.At w (lmkN i) := ⟨fun h => by simp [lmkN, Nd.zero, ints] at h, fun _ => rfl, by simp [lmkN, Nd.zero]⟩
/-- What is wanted of a lent node. -/
structure LAt (w : World) (x y : Nd) : Prop where
  twin : Twin y x
  kids : Lies w x.A (ints x.kids ++ marks 12)
  cap : x.kids.length + 12 ≤ x.cap
theorem LAt.below {w w' : World} {x y : Nd} (h : LAt w x y) (hb : Below w.heap.size w w') : LAt w' x y := ⟨h.twin, h.kids.below hb, h.cap⟩
theorem LAt.at_ {w : World} {x y : Nd} (h : LAt w x y) (hy : Nd.At w y) : Nd.At w x := by
  refine ⟨h.kids.front, fun e => ?_, ?_⟩
  · obtain ⟨b, o, e2, _⟩ := h.kids (by rw [List.length_append, marks_len]; omega)
    rw [e] at e2; cases e2
  · obtain ⟨A, c, e⟩ := h.twin
    rw [e]; exact hy.2.2
set_option maxRecDepth 100000 in
set_option maxHeartbeats 8000000 in
theorem keptNode_any (x y : Nd) (hl : y.kids.length ≤ 100000) (w : World) (h : LAt w x y) (hy : Nd.At w y) :
    Calls Tryz.prog 158 #[x.val, y.val] w fun e w' => e = .returned (.bool true) ∧ Below w.heap.size w w' := by
  have S := Lib.hid (fun W (eg : Below w.heap.size w W) => show Calls Tryz.prog 159 #[x.val, y.val] W fun e w' => e = .returned (.bool true) ∧ Below W.heap.size W w' from by
    have := kitSame_any x y W ((h.at_ hy).below eg) (hy.below eg)
    rw [twin_same h.twin] at this
    exact this)
  have ek : x.kids = y.kids := by obtain ⟨A, c, rfl⟩ := h.twin; rfl
  have K := Lib.hid (fun W (eg : Below w.heap.size w W) => show Calls Tryz.prog 126 #[.slice x.A x.kids.length x.cap, .slice y.A y.kids.length y.cap] W fun e w' => e = .returned (.bool true) ∧ Below W.heap.size W w' from by
    have hc := h.cap
    have h1 := h.kids.below eg
    rw [ek] at hc h1 ⊢
    exact keptints_any x.A y.A x.cap y.cap y.kids.length y.kids rfl hl hc W h1 (hy.below eg).1)
  clear ek h hl hy
  go_enter Tryz.func158, Tryz.ntmps158
  go_wp2_with (first | (go_at_call 159; (with_reducible refine (S.out _ (B2 _ _ _)).mono ?_); rintro e w1 ⟨rfl, hb1⟩; have H1 := Lib.hid (bb (B2 w _ _) hb1); have KB1 := Lib.hid (((Blk.new w _ _).alloc _).below' hb1); have KR1 := Lib.hid (by have := (Blk.new (w.alloc _) _ _).below' hb1; rw [World.size_alloc] at this; exact this); have d8 := KB1.out.cell 8; have e8 := KR1.out.cell 8; simp only [List.getElem?_toArray, List.getElem?_cons_zero, List.getElem?_cons_succ] at d8 e8; clear hb1) | (go_at_call 126; (with_reducible refine (K.out _ H1.out).mono ?_); rintro e w2 ⟨rfl, hb2⟩; have H2 := Lib.hid (bb H1.out hb2); clear hb2))
  go_ret
  exact ⟨rfl, H2.out⟩
set_option maxRecDepth 100000 in
set_option maxHeartbeats 8000000 in
theorem keptNodes_any (A' A : Option Addr) (c' c m : Nat) (cl l : List Nd) (em : m = l.length) (ec : cl.length = l.length) (hl : m ≤ 100000) (hc : m + 12 ≤ c') (w : World) (hA' : Nodes w A' (cl ++ marksN 12)) (hA : Nodes w A l)
    (hk : ∀ j, j < l.length → LAt w (cl.getD j Nd.zero) (l.getD j Nd.zero)) (hy : ∀ x ∈ l, Nd.At w x ∧ x.kids.length ≤ 100000) :
    Calls Tryz.prog 109 #[.slice A' m c', .slice A m c] w fun e w' => e = .returned (.bool true) ∧ Below w.heap.size w w' := by
  have C1 := Lib.hid (fun W (eg : Below w.heap.size w W) k (hk : k < m + 12) => (hA'.below eg).nine (i := k) (by rw [len_nodes]; omega))
  have C3 := Lib.hid (fun W (eg : Below w.heap.size w W) k (hk : k < m) => (hA.below eg).nine (i := k) (by omega))
  have G1 := Lib.hid (fun k (hk : k < m) => xgetD_left (b := marksN 12) (z := Nd.zero) (show k < cl.length by omega))
  have G2 := Lib.hid (fun k (hk : m ≤ k) (hk2 : k < m + 12) => (xgetD_right (b := marksN 12) (z := Nd.zero) (show cl.length ≤ k by omega)).trans (marksN_at (by omega)))
  have KN := Lib.hid (fun W (eg : Below w.heap.size w W) k (hk' : k < m) => show Calls Tryz.prog 158 #[(cl.getD k Nd.zero).val, (l.getD k Nd.zero).val] W fun e w' => e = .returned (.bool true) ∧ Below W.heap.size W w' from keptNode_any _ _ (hy _ (getD_mem (by omega))).2 W ((hk k (by omega)).below eg) ((hy _ (getD_mem (by omega))).1.below eg))
  have EM := Lib.hid (ec.trans em.symm)
  obtain ⟨b, o, rfl, _, _⟩ := hA' (by rw [len_nodes]; omega)
  have MK := Lib.hid (fun i (hi : i < 12) w' => markNode_any i hi w')
  have SM := Lib.hid (fun i W => show Calls Tryz.prog 159 #[(lmkN i).val, (lmkN i).val] W fun e w' => e = .returned (.bool true) ∧ Below W.heap.size W w' from by
    have := kitSame_any (lmkN i) (lmkN i) W (lmkN_at W i) (lmkN_at W i)
    rw [same_self] at this
    exact this)
  have hw12 : IntKind.i64.wrap ((m : Int) + 12) = (m : Int) + 12 := IntWalk.i64_in _ (by omega)
  have hci : (m : Int) + 12 ≤ c' := by omega
  have h012 : (0 : Int) ≤ (m : Int) + 12 := by omega
  have htn : ((m : Int) + 12).toNat = m + 12 := by omega
  clear hA' hA em hk hy ec
  go_enter Tryz.func109, Tryz.ntmps109
  go_wp2_with fail
  go_loopw [6] (fun iv wr => ∃ k : Nat, k ≤ m + 12 ∧ iv = .int .i64 k ∧ Below w.heap.size w wr) (fun iv _ => m + 12 - (RowKit.intOf iv).toNat)
  case atStart => exact ⟨0, by omega, rfl, Below.refl _ _⟩
  case round =>
    obtain ⟨k, hk, rfl, hb⟩ := hrel
    have HB := Lib.hid hb
    by_cases hlt : k < m + 12
    · have hlt2 : (k : Int) < (m : Int) + 12 := by omega
      have hlt3 : (k : Int) < ((m + 12 : Nat) : Int) := by omega
      obtain ⟨b1, o1, e1, _, c1, c2, c3, c4, c5, c6, c7, c8, c9⟩ := C1.out wr hb k hlt
      cases e1
      by_cases hkm : k < m
      · have hkm2 : (k : Int) < m := by omega
        have hkm3 : (m ≤ k) = False := by simp; omega
        obtain ⟨b2, o2, rfl, _, c10, c11, c12, c13, c14, c15, c16, c17, c18⟩ := C3.out wr hb k hkm
        rw [G1.out k hkm] at c1 c2 c3 c4 c5 c6 c7 c8 c9
        have T := Lib.hid (fun W (eg : Below wr.heap.size wr W) => KN.out W (bb hb eg) k hkm)
        generalize l.getD k Nd.zero = y at *
        generalize cl.getD k Nd.zero = x at *
        have d1 := fun (e : Ext wr) => Ext.cell c1 e
        have d2 := fun (e : Ext wr) => Ext.cell c2 e
        have d3 := fun (e : Ext wr) => Ext.cell c3 e
        have d4 := fun (e : Ext wr) => Ext.cell c4 e
        have d5 := fun (e : Ext wr) => Ext.cell c5 e
        have d6 := fun (e : Ext wr) => Ext.cell c6 e
        have d7 := fun (e : Ext wr) => Ext.cell c7 e
        have d8 := fun (e : Ext wr) => Ext.cell c8 e
        have d9 := fun (e : Ext wr) => Ext.cell c9 e
        have d10 := fun (e : Ext wr) => Ext.cell c10 e
        have d11 := fun (e : Ext wr) => Ext.cell c11 e
        have d12 := fun (e : Ext wr) => Ext.cell c12 e
        have d13 := fun (e : Ext wr) => Ext.cell c13 e
        have d14 := fun (e : Ext wr) => Ext.cell c14 e
        have d15 := fun (e : Ext wr) => Ext.cell c15 e
        have d16 := fun (e : Ext wr) => Ext.cell c16 e
        have d17 := fun (e : Ext wr) => Ext.cell c17 e
        have d18 := fun (e : Ext wr) => Ext.cell c18 e
        clear hb c1 c2 c3 c4 c5 c6 c7 c8 c9 c10 c11 c12 c13 c14 c15 c16 c17 c18
        go_wp2_with fail
        refine wp_region_ext (by kernel_rfl) (by kernel_rfl) ?_
        repeat (first | go_big_quiet_step ((go_at_call 158; exact Calls.ext_of (T.out _ (Ext.grown _)))) | quiet_step ((go_at_call 158; exact Calls.ext_of (T.out _ (Ext.grown _)))))
        refine wpQuiet_nil ?_
        intro w13 hw'
        obtain ⟨⟨_, hb13⟩, rfl⟩ := hw'
        have HB1 := Lib.hid (HB.out.trans (hb13.mono HB.out.size))
        clear hb13 d1 d2 d3 d4 d5 d6 d7 d8 d9 d10 d11 d12 d13 d14 d15 d16 d17 d18
        go_wp2_with fail
        go_roundw
        case rel => exact ⟨k + 1, by omega, by go_num, HB1.out⟩
        case measure => simp [RowKit.intOf]; omega
      · have hkm2 : ¬ (k : Int) < m := by omega
        have hkm3 : (m ≤ k) = True := by simp; omega
        have hkm4 : (k < m) = False := by simp; omega
        rw [G2.out k (by omega) hlt] at c1 c2 c3 c4 c5 c6 c7 c8 c9
        obtain ⟨i, ei⟩ : ∃ i, i = k - m := ⟨_, rfl⟩
        rw [EM.out, ← ei] at c1 c2 c3 c4 c5 c6 c7 c8 c9
        have hsub : IntKind.i64.wrap ((k : Int) - m) = (i : Int) := by rw [IntWalk.i64_in _ (by omega)]; omega
        have M1 := Lib.hid (fun W => MK.out i (by omega) W)
        have S1 := Lib.hid (SM.out i)
        generalize lmkN i = x at *
        have d1 := fun (e : Ext wr) => Ext.cell c1 e
        have d2 := fun (e : Ext wr) => Ext.cell c2 e
        have d3 := fun (e : Ext wr) => Ext.cell c3 e
        have d4 := fun (e : Ext wr) => Ext.cell c4 e
        have d5 := fun (e : Ext wr) => Ext.cell c5 e
        have d6 := fun (e : Ext wr) => Ext.cell c6 e
        have d7 := fun (e : Ext wr) => Ext.cell c7 e
        have d8 := fun (e : Ext wr) => Ext.cell c8 e
        have d9 := fun (e : Ext wr) => Ext.cell c9 e
        clear hb c1 c2 c3 c4 c5 c6 c7 c8 c9 ei
        go_wp2_with fail
        refine wp_region_ext (by kernel_rfl) (by kernel_rfl) ?_
        repeat (first | go_big_quiet_step (first | (go_at_call 150; with_reducible exact Calls.ext_of (M1.out _)) | (go_at_call 159; exact Calls.ext_of (S1.out _))) | quiet_step (first | (go_at_call 150; with_reducible exact Calls.ext_of (M1.out _)) | (go_at_call 159; exact Calls.ext_of (S1.out _))))
        refine wpQuiet_nil ?_
        intro w13 hw'
        obtain ⟨⟨_, hb13⟩, rfl⟩ := hw'
        have HB1 := Lib.hid (HB.out.trans (hb13.mono HB.out.size))
        clear hb13 d1 d2 d3 d4 d5 d6 d7 d8 d9
        go_wp2_with fail
        go_roundw
        case rel => exact ⟨k + 1, by omega, by go_num, HB1.out⟩
        case measure => simp [RowKit.intOf]; omega
    · obtain rfl : k = m + 12 := by omega
      have hlt2 : ¬ ((m + 12 : Nat) : Int) < (m : Int) + 12 := by omega
      clear hb
      go_wp2_with fail
      go_ret
      exact ⟨rfl, HB.out⟩
end Go.Proofs.YtlbjmkljmhfjdaaGreat
namespace Go.Proofs.YtlbjmkljmhfjdaaGreat
open Go Go.Proofs Go.RowKit Go.Lib Go.Maps
theorem twin_gram {g h : Gr} (t : GTwin g h) : sameGr h g = true := by
  unfold sameGr
  rw [rowSame_true (by rw [t.rules]) (fun i _ => by rw [t.rules]; simp [sameRl]), rowSame_true t.len (fun i hi => by
    rw [t.len] at hi
    obtain ⟨A, c, e⟩ := t.node i hi
    rw [e]
    simp [sameNd])]
  rfl
set_option maxRecDepth 100000 in
set_option maxHeartbeats 8000000 in
theorem keptGram_any (g h : Gr) (B : Nat) (w : World) (f : LGr w B g h) (hg : Gr.At w g) (h1 : g.rules.length ≤ 100000) (h2 : g.nodes.length ≤ 100000) (h3 : ∀ x ∈ g.nodes, x.kids.length ≤ 100000) :
    Calls Tryz.prog 33 #[h.val, g.val] w fun e w' => e = .returned (.bool true) ∧ Below w.heap.size w w' := by
  have S := Lib.hid (fun W (eg : Below w.heap.size w W) => show Calls Tryz.prog 84 #[h.val, g.val] W fun e w' => e = .returned (.bool true) ∧ Below W.heap.size W w' from by
    have := kitGram_any h g W (LGr.lies (f.below eg) hg) (hg.below eg)
    rw [twin_gram f.twin] at this
    exact this)
  have er : h.rules.length = g.rules.length := by rw [f.rules]
  have en : h.nodes.length = g.nodes.length := f.nodes.len
  have KR := Lib.hid (fun W (eg : Below w.heap.size w W) => show Calls Tryz.prog 108 #[.slice h.RA h.rules.length h.rc, .slice g.RA g.rules.length g.rc] W fun e w' => e = .returned (.bool true) ∧ Below W.heap.size W w' from by
    have hx := (f.below eg).rulesX
    have hc := (own_room2 f.rrow (by omega)).2
    rw [er] at hc ⊢
    rw [f.rules] at hx
    exact keptRules_any h.RA g.RA h.rc g.rc g.rules.length g.rules rfl h1 hc W hx (hg.below eg).rules)
  have KN := Lib.hid (fun W (eg : Below w.heap.size w W) => show Calls Tryz.prog 109 #[.slice h.NA h.nodes.length h.nc, .slice g.NA g.nodes.length g.nc] W fun e w' => e = .returned (.bool true) ∧ Below W.heap.size W w' from by
    have hx := (f.below eg).nodesX
    have hc := (own_room2 f.nodes.row (by omega)).2
    rw [en] at hc ⊢
    exact keptNodes_any h.NA g.NA h.nc g.nc g.nodes.length h.nodes g.nodes rfl en h2 hc W hx (hg.below eg).nodes (fun j hj => ⟨f.nodes.twin j hj, (f.below eg).kidsX _ (getD_mem (by rw [en]; exact hj)), (own_room2 ((f.below eg).nodes.kids _ (getD_mem (by rw [en]; exact hj))) (by omega)).2⟩) (fun x hx => ⟨(hg.below eg).kids x hx, h3 x hx⟩))
  clear f hg h1 h2 h3 er en
  go_enter Tryz.func33, Tryz.ntmps33
  go_wp2_with (first | (go_at_call 84; (with_reducible refine (S.out _ (B2 _ _ _)).mono ?_); rintro e w1 ⟨rfl, hb1⟩; have H1 := Lib.hid (bb (B2 w _ _) hb1); have KB1 := Lib.hid (((Blk.new w _ _).alloc _).below' hb1); have KR1 := Lib.hid (by have := (Blk.new (w.alloc _) _ _).below' hb1; rw [World.size_alloc] at this; exact this); have d0 := KB1.out.cell 0; have d1 := KB1.out.cell 1; have e0 := KR1.out.cell 0; have e1 := KR1.out.cell 1; simp only [List.getElem?_toArray, List.getElem?_cons_zero, List.getElem?_cons_succ] at d0 d1 e0 e1; clear hb1) | (go_at_call 108; (with_reducible refine (KR.out _ H1.out).mono ?_); rintro e w2 ⟨rfl, hb2⟩; have H2 := Lib.hid (bb H1.out hb2); have KB2 := Lib.hid (KB1.out.below' hb2); have KR2 := Lib.hid (KR1.out.below' hb2); have d10 := KB2.out.cell 0; have d11 := KB2.out.cell 1; have e10 := KR2.out.cell 0; have e11 := KR2.out.cell 1; simp only [List.getElem?_toArray, List.getElem?_cons_zero, List.getElem?_cons_succ] at d10 d11 e10 e11; clear hb2) | (go_at_call 109; (with_reducible refine (KN.out _ H2.out).mono ?_); rintro e w3 ⟨rfl, hb3⟩; have H3 := Lib.hid (bb H2.out hb3); clear hb3))
  go_ret
  exact ⟨rfl, H3.out⟩
end Go.Proofs.YtlbjmkljmhfjdaaGreat

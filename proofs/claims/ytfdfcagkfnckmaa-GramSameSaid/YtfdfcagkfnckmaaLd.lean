/- The law GramSame, walked. -/
import Derived.Test.YtfdfcagkfnckmaaSg
namespace Go.Proofs.Ytfdfcagkfnckmaa
open Go Go.RowKit
set_option maxRecDepth 100000 in
set_option maxHeartbeats 16000000 in
theorem same_law (a b : Gr) (w : World) (ha : Gr.At w a) (hb : Gr.At w b) (hia : Gr.In a) (hn : ∀ r ∈ a.rules, r.name.size ≤ 281474976710656) (ht : ∀ x ∈ a.nodes, x.text.size ≤ 281474976710656) :
    Calls Try.prog 4 #[a.val, b.val] w fun e w' => e = .returned (.bool true) ∧ Below w.heap.size w w' := by
  have SA := Lib.hid (fun (w' : World) (q : Below w.heap.size w w') => size_all a w' (ha.below q))
  have SB := Lib.hid (fun (w' : World) (q : Below w.heap.size w w') => size_all b w' (hb.below q))
  have HA := Lib.hid ha
  have HB := Lib.hid hb
  have HT := Lib.hid (And.intro hn ht)
  have CG := Lib.hid (fun (w' : World) (q : Below w.heap.size w w') h1 => gcopy_any a w' (ha.below q) h1)
  clear ha hb hn ht
  show Calls Try.prog 4 #[.agg #[.slice a.RA a.rules.length a.rc, .slice a.NA a.nodes.length a.nc], .agg #[.slice b.RA b.rules.length b.rc, .slice b.NA b.nodes.length b.nc]] w _
  go_enter Try.func4, Try.ntmps4
  go_upto_region 3 with (first | (go_at_call 8; first | (refine (SB.out _ H1.out).mono ?_; rintro e w2 ⟨⟨z2, rfl, hz2⟩, hb⟩; have HZ2 := Lib.hid hz2; have KA2 := Lib.hid (KA.out.below' hb); have KB2 := Lib.hid (KB.out.below' hb); have H2 := Lib.hid (bb H1.out hb); have c0 := KA2.out.cell 0; have c1 := KA2.out.cell 1; simp only [List.getElem?_toArray, List.getElem?_cons_zero, List.getElem?_cons_succ] at c0 c1; clear hz2 hb b0 b1) | (refine (SA.out _ (B2 _ _ _)).mono ?_; rintro e w1 ⟨⟨z, rfl, hz⟩, hb⟩; have HZ := Lib.hid hz; have KA := Lib.hid (((Blk.new w _ _).alloc _).below' hb); have KB := Lib.hid (by have := (Blk.new (w.alloc _) _ _).below' hb; rw [World.size_alloc] at this; exact this); have H1 := Lib.hid (bb (B2 w _ _) hb); have b0 := KB.out.cell 0; have b1 := KB.out.cell 1; simp only [List.getElem?_toArray, List.getElem?_cons_zero, List.getElem?_cons_succ] at b0 b1; clear hz hb)) | (go_at_call 9; refine (awake_any _).mono ?_; rintro e w3 ⟨rfl, hb⟩; have H3 := Lib.hid (by first | exact bb H2.out hb | exact bb H1.out hb); clear hb))
  all_goals try (go_ret; exact ⟨rfl, H3.out⟩)
  have SM : RowKit.Hid (Small a) := Lib.hid (by
    have q := HZ.out (by omega)
    exact ⟨by omega, by omega, fun x hx => ⟨by have := q.2 x hx; omega, HT.out.2 x hx⟩, HT.out.1⟩)
  have CG2 : RowKit.Hid (∀ (W' : World), Below w2.heap.size w2 W' → Calls Try.prog 22 #[.agg #[.slice a.RA a.rules.length a.rc, .slice a.NA a.nodes.length a.nc]] W' fun e w' => (∃ h : Gr, e = .returned (.agg #[.slice h.RA h.rules.length h.rc, .slice h.NA h.nodes.length h.nc]) ∧ GTwin a h ∧ Fresh w' W'.heap.size h) ∧ Below W'.heap.size W' w') := Lib.hid (fun W' q => CG.out W' (bb H2.out q) SM.out)
  clear CG
  go_cut [5, 6] from 19 to 22 (fun s5 s6 wx => TwoC a w2 w2.heap.size s5 s6 wx)
  case first =>
    go_region_held3 (fun W' => W'.cell? ⟨w.heap.size, 0, none⟩ = some (.slice a.RA a.rules.length a.rc) ∧ W'.cell? ⟨w.heap.size, 1, none⟩ = some (.slice a.NA a.nodes.length a.nc)) (first | (refine box2 (T := 25) ?_; repeat (first | with_reducible exact KA4.out | with_reducible exact KA3.out | with_reducible exact KA2.out | with_reducible refine blk_set ?_ (by have := KA2.out.lt; have := HH3.out.size; have := HH4.out.size; omega) | with_reducible refine Blk.alloc ?_ _ | with_reducible refine blk_drew ?_))) (first | (go_at_call 22; have := S3; refine (CG2.out _ (by repeat (first | exact HH3.out | refine bdrew1 ?_ | refine balloc ?_ _))).mono ?_; rintro e w4 ⟨⟨k, rfl, ht, hf⟩, hb⟩; have T2 := Lib.hid ht; have F4 := Lib.hid (hf.lower (B' := w3.heap.size) (by first | exact Nat.le_refl _ | (simp; done) | (simp; omega))); have F2 := Lib.hid (hf.lower (B' := w2.heap.size) (by have := HH3.out.size; simp; omega)); have HH4 := Lib.hid (show Below w2.heap.size w2 w4 from bb (by repeat (first | exact HH3.out | refine bdrew1 ?_ | refine balloc ?_ _)) hb); have F3 := Lib.hid (Fresh.below (h := h) (B := w2.heap.size) (f := by first | exact F1.out | exact F1.out.below (B1 _ _) | exact F1.out.below (B2 _ _ _)) hb); have KA4 := Lib.hid (Blk.below' (b := w.heap.size) (vs := #[.slice a.RA a.rules.length a.rc, .slice a.NA a.nodes.length a.nc]) (T := 25) (h := by first | exact KA3.out | exact KA3.out.alloc _ | exact (KA3.out.alloc _).alloc _) hb); have S4 := Lib.hid hb.size; (try (have X1 := Lib.hid (Blk.below' (b := w2.heap.size) (vs := zr) (T := 25) (h := by first | exact Z1.out | exact Z1.out.alloc _ | exact (Z1.out.alloc _).alloc _) hb); have p1 := X1.out.cell 0; have q1 := X1.out.cell 1; have r1 := X1.out.frozen 0; have t1 := X1.out.frozen 1; have pa1 := fun o => (X1.out.alloc o).cell 0; have qa1 := fun o => (X1.out.alloc o).cell 1; have ra1 := fun o => (X1.out.alloc o).frozen 0; have ta1 := fun o => (X1.out.alloc o).frozen 1; simp only [zr, List.getElem?_toArray, List.getElem?_cons_zero, List.getElem?_cons_succ] at p1 q1 pa1 qa1; have na10 : ¬ w4.heap.size = w2.heap.size := (by have := X1.out.lt; omega); have nb10 : ¬ w2.heap.size = w4.heap.size := (by have := X1.out.lt; omega))); (try (have X2 := Lib.hid (Blk.below' (b := w2.heap.size + 1) (vs := zr) (T := 25) (h := by first | exact Z2.out | exact Z2.out.alloc _ | exact (Z2.out.alloc _).alloc _) hb); have p2 := X2.out.cell 0; have q2 := X2.out.cell 1; have r2 := X2.out.frozen 0; have t2 := X2.out.frozen 1; have pa2 := fun o => (X2.out.alloc o).cell 0; have qa2 := fun o => (X2.out.alloc o).cell 1; have ra2 := fun o => (X2.out.alloc o).frozen 0; have ta2 := fun o => (X2.out.alloc o).frozen 1; simp only [zr, List.getElem?_toArray, List.getElem?_cons_zero, List.getElem?_cons_succ] at p2 q2 pa2 qa2; have na20 : ¬ w4.heap.size = w2.heap.size + 1 := (by have := X2.out.lt; omega); have nb20 : ¬ w2.heap.size + 1 = w4.heap.size := (by have := X2.out.lt; omega))); (try (have Y1 := Lib.hid (Blk.below' (b := w3.heap.size) (vs := zr) (T := 25) (h := by first | exact Blk.new w3 _ _ | exact (Blk.new w3 _ _).alloc _) hb); have p3 := Y1.out.cell 0; have q3 := Y1.out.cell 1; have r3 := Y1.out.frozen 0; have t3 := Y1.out.frozen 1; have pa3 := fun o => (Y1.out.alloc o).cell 0; have qa3 := fun o => (Y1.out.alloc o).cell 1; have ra3 := fun o => (Y1.out.alloc o).frozen 0; have ta3 := fun o => (Y1.out.alloc o).frozen 1; simp only [zr, List.getElem?_toArray, List.getElem?_cons_zero, List.getElem?_cons_succ] at p3 q3 pa3 qa3; have na30 : ¬ w4.heap.size = w3.heap.size := (by have := Y1.out.lt; omega); have nb30 : ¬ w3.heap.size = w4.heap.size := (by have := Y1.out.lt; omega))); (try (have Y2 := Lib.hid (Blk.below' (b := w3.heap.size + 1) (vs := zr) (T := 25) (h := by exact blk_two w3 _ _ _) hb); have p4 := Y2.out.cell 0; have q4 := Y2.out.cell 1; have r4 := Y2.out.frozen 0; have t4 := Y2.out.frozen 1; have pa4 := fun o => (Y2.out.alloc o).cell 0; have qa4 := fun o => (Y2.out.alloc o).cell 1; have ra4 := fun o => (Y2.out.alloc o).frozen 0; have ta4 := fun o => (Y2.out.alloc o).frozen 1; simp only [zr, List.getElem?_toArray, List.getElem?_cons_zero, List.getElem?_cons_succ] at p4 q4 pa4 qa4; have na40 : ¬ w4.heap.size = w3.heap.size + 1 := (by have := Y2.out.lt; omega); have nb40 : ¬ w3.heap.size + 1 = w4.heap.size := (by have := Y2.out.lt; omega))); (try (have nc1 : ¬ w3.heap.size = w2.heap.size := (by have := Z1.out.lt; omega); have nc2 : ¬ w2.heap.size = w3.heap.size := (by have := Z1.out.lt; omega))); clear ht hf hb) | (go_at_call 22; (refine (CG2.out _ (by repeat (first | exact Below.refl _ _ | refine bdrew1 ?_ | refine balloc ?_ _))).mono ?_; rintro e w3 ⟨⟨h, rfl, ht, hf⟩, hb⟩; have T1 := Lib.hid ht; have L3 := Lib.hid hf.lt; have F1 := Lib.hid (hf.lower (B' := w2.heap.size) (by first | (simp; done) | (simp; omega))); have S3 := Lib.hid hb.size; have HH3 := Lib.hid (show Below w2.heap.size w2 w3 from bb (by repeat (first | exact Below.refl _ _ | refine bdrew1 ?_ | refine balloc ?_ _)) hb); have KA3 := Lib.hid (Blk.below' (b := w.heap.size) (vs := #[.slice a.RA a.rules.length a.rc, .slice a.NA a.nodes.length a.nc]) (T := 25) (h := by first | exact KA2.out | exact KA2.out.alloc _ | exact (KA2.out.alloc _).alloc _) hb); have d0 := KA3.out.cell 0; have d1 := KA3.out.cell 1; simp only [List.getElem?_toArray, List.getElem?_cons_zero, List.getElem?_cons_succ] at d0 d1; first | (have Z2 := Lib.hid (Blk.below' (b := w2.heap.size + 1) (vs := zr) (T := 25) (h := by exact blk_two w2 _ _ _) hb); have Z1 := Lib.hid (Blk.below' (b := w2.heap.size) (vs := zr) (T := 25) (h := by exact (Blk.new w2 _ _).alloc _) hb); have y0 := Z1.out.cell 0; have y1 := Z1.out.cell 1; have x0 := Z2.out.cell 0; have x1 := Z2.out.cell 1; clear ht hf hb) | (have Z1 := Lib.hid (Blk.below' (b := w2.heap.size) (vs := zr) (T := 25) (h := by exact Blk.new w2 _ _) hb); clear ht hf hb) | (clear ht hf hb))))
    all_goals go_wp2_with fail
    all_goals go_meet
    all_goals try clear na10 nb10
    all_goals try clear na20 nb20
    all_goals try clear na30 nb30
    all_goals try clear na40 nb40
    all_goals try clear nc1 nc2
    all_goals have s3 := HH3.out.size
    all_goals have s4 := HH4.out.size
    all_goals try have l1 := X1.out.lt
    all_goals try have l2 := X2.out.lt
    all_goals try have l3 := Y1.out.lt
    all_goals try have l4 := Y2.out.lt
    all_goals try have l5 := Z1.out.lt
    all_goals try have l6 := Z2.out.lt
    all_goals try simp only [World.size_alloc] at *
    all_goals refine ⟨_, _, h, k, rfl, rfl, ?_, ?_, ?_, ?_, ?_, T1.out, T2.out, ?_, ?_, ?_, w3.heap.size, fun j hj => (L3.out j hj).2, ?_⟩
    all_goals first
      | ((repeat (first | with_reducible exact X1.out | with_reducible exact X2.out | with_reducible exact Y1.out | with_reducible exact Y2.out | with_reducible exact blk_two _ _ _ _ | with_reducible exact Blk.new _ _ _ | with_reducible refine blk_set2 (x := .slice none 0 0) (y := .slice none 0 0) ?_ | with_reducible refine blk_set ?_ (by omega) | with_reducible refine Blk.alloc ?_ _)); done)
      | ((repeat (first | with_reducible exact F3.out | with_reducible exact F2.out | with_reducible exact F4.out | with_reducible refine fresh_alloc ?_ _ | with_reducible refine fresh_set (x := .slice none 0 0) (y := .slice none 0 0) ?_ (by ((repeat (first | with_reducible exact X1.out | with_reducible exact X2.out | with_reducible exact Y1.out | with_reducible exact Y2.out | with_reducible exact blk_two _ _ _ _ | with_reducible exact Blk.new _ _ _ | with_reducible refine blk_set2 (x := .slice none 0 0) (y := .slice none 0 0) ?_ | with_reducible refine blk_set ?_ (by omega) | with_reducible refine Blk.alloc ?_ _)); done)))); done)
      | ((repeat (first | with_reducible exact HH4.out | with_reducible refine balloc ?_ _ | with_reducible refine bsc ?_ (by omega))); done)
      | omega
  obtain ⟨c5, c6, h, k, rfl, rfl, k5, k6, hne, b5, b6, t1, t2, f1, f2, hbc, m, hm, f3⟩ := hcut
  have K5 := Lib.hid k5
  have K6 := Lib.hid k6
  have HNE := Lib.hid (And.intro hne (And.intro b5 b6))
  have T1 := Lib.hid t1
  have T2 := Lib.hid t2
  have F1 := Lib.hid f1
  have F3 := Lib.hid f3
  have HM := Lib.hid hm
  have HC := Lib.hid hbc
  have KA3 := Lib.hid (KA2.out.below' hbc)
  have KB3 := Lib.hid (KB2.out.below' hbc)
  have HW := Lib.hid (bb H2.out hbc)
  have AA := Lib.hid (HA.out.below HW.out)
  have AB := Lib.hid (HB.out.below HW.out)
  have AH := Lib.hid (f1.lies t1 AA.out)
  clear c0 c1 k5 k6 hne b5 b6 t1 t2 f1 f2 f3 hm hbc
  have G1 := Lib.hid (fun (e : Ext wc) => sameGram_any a b e.val (AA.out.below e.grown) (AB.out.below e.grown))
  have G2 := Lib.hid (fun (e : Ext wc) => refSame_any a b e.val (AA.out.below e.grown) (AB.out.below e.grown))
  have G3 := Lib.hid (fun (e : Ext wc) => by have := refSame_any h a e.val (AH.out.below e.grown) (AA.out.below e.grown); rw [T1.out.same] at this; exact this)
  have G4 := Lib.hid (fun (e : Ext wc) => by have := sameGram_any a h e.val (AA.out.below e.grown) (AH.out.below e.grown); rw [T1.out.same'] at this; exact this)
  obtain ⟨sb, esb⟩ : ∃ x, x = sameGr a b := ⟨_, rfl⟩
  rw [← esb] at G1 G2
  have z1 : (sb != sb) = false := by simp
  have a0 := fun e => Ext.cell (w := wc) (v := .slice a.RA a.rules.length a.rc) (KA3.out.cell 0) e
  have a1 := fun e => Ext.cell (w := wc) (v := .slice a.NA a.nodes.length a.nc) (KA3.out.cell 1) e
  have b0 := fun e => Ext.cell (w := wc) (v := .slice b.RA b.rules.length b.rc) (KB3.out.cell 0) e
  have b1 := fun e => Ext.cell (w := wc) (v := .slice b.NA b.nodes.length b.nc) (KB3.out.cell 1) e
  have d0 := fun e => Ext.cell (w := wc) (v := .slice h.RA h.rules.length h.rc) (K5.out.cell 0) e
  have d1 := fun e => Ext.cell (w := wc) (v := .slice h.NA h.nodes.length h.nc) (K5.out.cell 1) e
  clear esb
  go_upto_region 4 with fail
  refine wp_region_ext (by kernel_rfl) (by kernel_rfl) ?_
  repeat (first | go_big_quiet_step (first | (go_at_call 23; with_reducible exact Calls.ext_of (G1.out _)) | (go_at_call 23; with_reducible exact Calls.ext_of (G4.out _)) | (go_at_call 21; with_reducible exact Calls.ext_of (G2.out _)) | (go_at_call 21; with_reducible exact Calls.ext_of (G3.out _))) | quiet_step (first | (go_at_call 23; with_reducible exact Calls.ext_of (G1.out _)) | (go_at_call 23; with_reducible exact Calls.ext_of (G4.out _)) | (go_at_call 21; with_reducible exact Calls.ext_of (G2.out _)) | (go_at_call 21; with_reducible exact Calls.ext_of (G3.out _))))
  refine wpQuiet_nil ?_
  intro wd hw'
  obtain ⟨⟨wd', hb9⟩, e9⟩ := hw'
  obtain rfl : wd = wd' := e9
  have FD := Lib.hid (F1.out.below hb9)
  have FK := Lib.hid (F3.out.below hb9)
  have KD5 := Lib.hid (K5.out.below' hb9)
  have KD6 := Lib.hid (K6.out.below' hb9)
  have KDA := Lib.hid (KA3.out.below' hb9)
  have HWD := Lib.hid (bb HC.out hb9)
  clear hb9 a0 a1 b0 b1 d0 d1 G1 G2 G3 G4 z1 F1 F3 K5 K6 KA3 KB3 AA AB AH
  have n1 : h.rules.length ≤ 1000000 := by rw [T1.out.rules]; exact SM.out.rules
  have n2 : h.nodes.length ≤ 1000000 := by rw [T1.out.len]; exact SM.out.nodes
  have N3 : RowKit.Hid (∀ q, q < h.nodes.length → (h.nodes.getD q Nd.zero).kids.length ≤ 1000000) := Lib.hid (fun q hq => by
    rw [T1.out.len] at hq
    obtain ⟨A, c, e⟩ := T1.out.node q hq
    rw [e]
    exact (SM.out.kids _ (getD_mem hq)).1)
  have SR : RowKit.Hid (∀ j, RulesOf h j → w2.heap.size ≤ j ∧ j < m) := Lib.hid (fun j hj => ⟨(FD.out.rules.lt j hj).1, HM.out j (.inl hj)⟩)
  have SN : RowKit.Hid (∀ j, NodesOf h j → w2.heap.size ≤ j ∧ j < m) := Lib.hid (fun j hj => ⟨by rcases hj with hj | ⟨x, hx, hj⟩; exact (FD.out.nodes.lt j hj).1; exact ((FD.out.kids x hx).1.lt j hj).1, HM.out j (.inr hj)⟩)
  go_wp2_with fail
  go_loopw [7] (fun s7 wr => ∃ i : Nat, i ≤ h.rules.length ∧ s7 = .int .i64 i ∧ Scr (RulesOf h) wd wr) (fun s7 _ => h.rules.length - (intOf s7).toNat)
  case atStart => exact ⟨0, by omega, rfl, Scr.refl _ _⟩
  case round =>
    obtain ⟨i, hi, rfl, hs⟩ := hrel
    have KR := Lib.hid (hs.blk KD5.out (rulesOf_not FD.out KD5.out (by decide)))
    have HS := Lib.hid hs
    have c0 : wr.cell? ⟨c5, 0, none⟩ = some (.slice h.RA h.rules.length h.rc) := KR.out.cell 0
    have c1 : wr.cell? ⟨c5, 1, none⟩ = some (.slice h.NA h.nodes.length h.nc) := KR.out.cell 1
    clear hs
    by_cases hlt : i < h.rules.length
    · obtain ⟨g, cap, e, _, _, _, _⟩ := own_shape FD.out.rules (by omega)
      obtain ⟨eA, eC⟩ : h.RA = some ⟨g, 0, none⟩ ∧ h.rc = cap := by simpa using e
      have ho := FD.out.rules
      rw [eA] at ho c0
      have TH := Lib.hid (HS.out.there (o := i * 2) (m := 2) ho (by omega))
      have OG : RowKit.Hid (RulesOf h g) := Lib.hid (by unfold RulesOf; rw [eA]; rfl)
      clear e eA eC ho c1
      go_wp2_with (refine wpList_store_mid rfl 45 (.tmp 53) (.tmp 52) rfl g (i * 2) #[.string ⟨#[63]⟩, .int .i64 (-9)] rfl rfl TH.out (by kernel_rfl) (by simp [Value.oneCell']) ?_)
      go_roundw
      case rel => exact ⟨i + 1, by omega, by go_num, HS.out.trans (Scr.sets _ g OG.out _ _ _)⟩
      case measure => simp [intOf]; omega
    · have hlt2 : ¬ (i : Int) < h.rules.length := by omega
      obtain ⟨wl, rfl⟩ : ∃ u, u = wr := ⟨_, rfl⟩
      have ND : RowKit.Hid (∀ g, h.NA = some ⟨g, 0, none⟩ → ∃ vs, Blk wd g vs 32) := Lib.hid (fun g e => by
        obtain ⟨vs, k1, _⟩ := own_blkT (b := g) FD.out.nodes (by rw [e]; rfl)
        exact ⟨vs, k1⟩)
      have HH0 := Lib.hid (HS.out.heads FD.out (fun g e => by
        obtain ⟨vs, k1⟩ := ND.out g e
        exact rulesOf_not FD.out k1 (by decide)))
      have KL := Lib.hid KR.out
      have NC5 := Lib.hid (nodesOf_not FD.out KD5.out ⟨by decide, by decide⟩)
      go_wp2_with fail
      clear c0 c1 hlt2 hlt
      go_loopw [8] (fun s8 wr => ∃ q : Nat, q ≤ h.nodes.length ∧ s8 = .int .i64 q ∧ Scr (NodesOf h) wl wr ∧ Heads h q wr) (fun s8 _ => h.nodes.length - (intOf s8).toNat)
      case atStart => exact ⟨0, by omega, rfl, Scr.refl _ _, HH0.out⟩
      case round =>
        obtain ⟨q, hq, rfl, hs2, hhd⟩ := hrel
        have c1 : wr.cell? ⟨c5, 1, none⟩ = some (.slice h.NA h.nodes.length h.nc) := (hs2.blk KL.out NC5.out).cell 1
        have HS2 := Lib.hid hs2
        have HD := Lib.hid hhd
        clear hs2 hhd
        by_cases hl2 : q < h.nodes.length
        · obtain ⟨g, cap, e, _, _, _, _⟩ := own_shape FD.out.nodes (by omega)
          obtain ⟨eA, eC⟩ : h.NA = some ⟨g, 0, none⟩ ∧ h.nc = cap := by simpa using e
          obtain ⟨x, ex⟩ : ∃ x, x = h.nodes.getD q Nd.zero := ⟨_, rfl⟩
          have XM : RowKit.Hid (x ∈ h.nodes) := Lib.hid (by rw [ex]; exact getD_mem hl2)
          have n4 : x.kids.length ≤ 1000000 := by rw [ex]; exact N3.out q hl2
          have EX := Lib.hid ex
          have EA := Lib.hid eA
          have ho := FD.out.nodes
          have HO : RowKit.Hid (wd.ownsRow w2.heap.size 32 9 (.slice (some ⟨g, 0, none⟩) h.nodes.length h.nc) h.nodes.length (ncells h.nodes)) := Lib.hid (by rw [← eA]; exact ho)
          have c8 : wr.cell? ⟨g, q * 9 + 8, none⟩ = some (.slice x.A x.kids.length x.cap) := by rw [ex]; exact HD.out g eA q (Nat.le_refl _) hl2
          rw [eA] at c1
          have OG : RowKit.Hid (NodesOf h g) := Lib.hid (.inl (by rw [eA]; rfl))
          clear e eA eC ho ex
          obtain ⟨w5, rfl⟩ : ∃ u, u = wr := ⟨_, rfl⟩
          go_wp2_with fail
          clear c1 c8
          go_loopw [9] (fun s9 wr => ∃ r : Nat, r ≤ x.kids.length ∧ s9 = .int .i64 r ∧ Scr (NodesOf h) wl wr ∧ Heads h q wr) (fun s9 _ => x.kids.length - (intOf s9).toNat)
          case atStart => exact ⟨0, by omega, rfl, HS2.out, HD.out⟩
          case round =>
            obtain ⟨r, hr, rfl, hs3, hd3⟩ := hrel
            have c1 : wr.cell? ⟨c5, 1, none⟩ = some (.slice (some ⟨g, 0, none⟩) h.nodes.length h.nc) := by rw [← EA.out]; exact (hs3.blk KL.out NC5.out).cell 1
            have c8 : wr.cell? ⟨g, q * 9 + 8, none⟩ = some (.slice x.A x.kids.length x.cap) := by rw [EX.out]; exact hd3 g EA.out q (Nat.le_refl _) hl2
            have HS3 := Lib.hid hs3
            have HD3 := Lib.hid hd3
            have SB : RowKit.Hid (Scr (fun j => RulesOf h j ∨ NodesOf h j) wd wr) := Lib.hid ((HS.out.mono (fun j hj => .inl hj)).trans (hs3.mono (fun j hj => .inr hj)))
            clear hs3 hd3
            by_cases hl3 : r < x.kids.length
            · obtain ⟨gx, capx, e, _, _, _, _⟩ := own_shape (FD.out.kids x XM.out).1 (by omega)
              obtain ⟨eA, eC⟩ : x.A = some ⟨gx, 0, none⟩ ∧ x.cap = capx := by simpa using e
              have ho := (FD.out.kids x XM.out).1
              rw [eA] at ho c8
              have th := SB.out.there (o := r) (m := 1) ho (by omega) 0 (by omega)
              obtain ⟨v, hv⟩ := Option.isSome_iff_exists.1 th.1
              have fz := th.2
              rw [Nat.add_zero] at hv fz
              have OGX : RowKit.Hid (NodesOf h gx) := Lib.hid (.inr ⟨x, XM.out, by rw [eA]; rfl⟩)
              have NG : RowKit.Hid (h.NA ≠ some ⟨gx, 0, none⟩) := Lib.hid (fun e2 => by
                obtain ⟨vs, k1⟩ := ND.out gx e2
                obtain ⟨vs2, k2, _⟩ := own_blkT (b := gx) (FD.out.kids x XM.out).1 (by rw [eA]; rfl)
                exact absurd (k1.same_T k2) (by decide))
              clear e eA eC ho th
              go_wp2_with fail
              go_roundw
              case rel => exact ⟨r + 1, by omega, by go_num, HS3.out.trans (Scr.set _ _ gx r _ OGX.out), HD3.out.kid NG.out⟩
              case measure => simp [intOf]; omega
            · have hl4 : ¬ (r : Int) < x.kids.length := by omega
              have TH := Lib.hid (SB.out.there (o := q * 9) (m := 9) HO.out (by omega))
              go_wp2_with (refine wpList_store_mid2 rfl 32 (.tmp 84) (.tmp 83) rfl g (q * 9) (Nd.cells { Nd.zero with kind := 99 }).toArray rfl rfl TH.out (by kernel_rfl) (by simp [Nd.cells, Nd.zero, Value.oneCell']) ?_; intro W8 e8; have E8 := Lib.hid e8; clear e8)
              go_roundw
              case rel => exact ⟨q + 1, by omega, by go_num, by rw [E8.out]; exact HS3.out.trans (Scr.sets _ g OG.out _ _ _), by rw [E8.out]; exact HD3.out.node rfl⟩
              case measure => simp [intOf]; omega
        · have hl3 : ¬ (q : Int) < h.nodes.length := by omega
          have b1 : Below w2.heap.size wd wl := HS.out.below (by have := HWD.out.size; omega) (fun j hj => (SR.out j hj).1)
          have b2 : Below w2.heap.size wl wr := HS2.out.below (by have := HWD.out.size; have := HS.out.size; omega) (fun j hj => (SN.out j hj).1)
          have HF := Lib.hid ((HWD.out.trans b1).trans b2)
          have AF := Lib.hid (HA.out.below (bb H2.out HF.out))
          have KF := Lib.hid (((HS2.out.fresh (HS.out.fresh FK.out (fun j hj => (SR.out j hj).2)) (fun j hj => (SN.out j hj).2))).lies T2.out AF.out)
          have B6 : Blk wr c6 #[.slice k.RA k.rules.length k.rc, .slice k.NA k.nodes.length k.nc] 25 := HS2.out.blk (HS.out.blk KD6.out (rulesOf_not FD.out KD6.out (by decide))) (nodesOf_not FD.out KD6.out ⟨by decide, by decide⟩)
          have BA : Blk wr w.heap.size #[.slice a.RA a.rules.length a.rc, .slice a.NA a.nodes.length a.nc] 25 := KA2.out.below' HF.out
          have e0 : wr.cell? ⟨c6, 0, none⟩ = some (.slice k.RA k.rules.length k.rc) := B6.cell 0
          have e1 : wr.cell? ⟨c6, 1, none⟩ = some (.slice k.NA k.nodes.length k.nc) := B6.cell 1
          have e2 : wr.cell? ⟨w.heap.size, 0, none⟩ = some (.slice a.RA a.rules.length a.rc) := BA.cell 0
          have e3 : wr.cell? ⟨w.heap.size, 1, none⟩ = some (.slice a.NA a.nodes.length a.nc) := BA.cell 1
          have RS : RowKit.Hid (∀ W, Below wr.heap.size wr W → Calls Try.prog 21 #[k.val, a.val] W fun e w' => e = .returned (.bool true) ∧ Below W.heap.size W w') := Lib.hid (fun W hb => by have := refSame_any k a W (KF.out.below hb) (AF.out.below hb); rw [T2.out.same] at this; exact this)
          clear b1 b2 B6 BA
          go_wp2_with (first | (go_at_call 21; refine (RS.out _ (Below.refl _ _)).mono ?_; rintro e w8 ⟨rfl, hb8⟩; have H8 := Lib.hid (bb (bb H2.out HF.out) hb8); clear hb8) | (go_at_call 9; refine (awake_any _).mono ?_; rintro e w9 ⟨rfl, hb9⟩; have H9 := Lib.hid (bb H8.out hb9); clear hb9))
          go_ret
          exact ⟨rfl, H9.out⟩
end Go.Proofs.Ytfdfcagkfnckmaa

/- What the law LeftOwn stands on: two rows of marks, two rows that were told. -/
import Derived.Test.YtmfiedbnnonenaaL8
import Derived.Test.YtmfiedbnnonenaaL7
import Derived.Deep.CutRange
set_option linter.unusedSimpArgs false
set_option linter.unusedVariables false
namespace Go.Proofs.Ytmfiedbnnonenaa
open Go Go.RowKit Go.Maps Go.Shelf
theorem Mk.other {W : World} {mb m b : Nat} {f : Nat → Bool} (h : Mk W mb m f) (hne : mb ≠ b) (k : Nat) (v : Value) : Mk (W.setCell ⟨b, k, none⟩ v) mb m f := by
  obtain ⟨ml, h1, h2, h3⟩ := h
  exact ⟨ml, (heap_setCell_other W ⟨b, k, none⟩ mb v hne).trans h1, h2, h3⟩
theorem blk_mark {W : World} {d mb : Nat} {us us' : Array Value} {T : TypeId} (hd : Blk W d us' T) (hT : T ≠ 4) (hm : Blk W mb us 4) (k : Nat) (v : Value) : Blk (W.setCell ⟨mb, k, none⟩ v) d us' T :=
  (heap_setCell_other W ⟨mb, k, none⟩ _ v (fun e => by
    have e2 : d = mb := e
    subst e2
    have := hd.symm.trans hm
    simp only [Option.some.injEq, Obj.cells.injEq] at this
    exact hT this.2.1)).trans hd
structure OB (w W : World) (g : Gr) (ib cb N R : Nat) (A : Option Addr) (c : Nat) (L : List Int) (B : Option Addr) (d : Nat) (M : List Int) (f h : Nat → Bool) : Prop where
  ka : Blk W w.heap.size #[.slice g.RA g.rules.length g.rc, .slice g.NA g.nodes.length g.nc] 38
  gr : Gr.At W g
  inn : Mk W ib N f
  cal : Mk W cb R h
  l : W.ownsRow w.heap.size 3 1 (.slice A L.length c) L.length (ints L)
  m : W.ownsRow w.heap.size 3 1 (.slice B M.length d) M.length (ints M)
  low : Below w.heap.size w W
  ne : ib ≠ cb
  lo : w.heap.size ≤ ib ∧ w.heap.size ≤ cb
section
variable {w W W' : World} {g : Gr} {ib cb N R : Nat} {A : Option Addr} {c : Nat} {L : List Int} {B : Option Addr} {d : Nat} {M : List Int} {f f' h h' : Nat → Bool}
theorem OB.below (o : OB w W g ib cb N R A c L B d M f h) (hb : Below W.heap.size W W') : OB w W' g ib cb N R A c L B d M f h :=
  ⟨o.ka.below' hb, o.gr.below hb, o.inn.below hb, o.cal.below hb, own_below o.l hb, own_below o.m hb, bb o.low hb, o.ne, o.lo⟩
theorem OB.congr (o : OB w W g ib cb N R A c L B d M f h) (h1 : ∀ q, q < N → f q = f' q) (h2 : ∀ q, q < R → h q = h' q) : OB w W g ib cb N R A c L B d M f' h' :=
  ⟨o.ka, o.gr, o.inn.congr h1, o.cal.congr h2, o.l, o.m, o.low, o.ne, o.lo⟩
theorem OB.mark (o : OB w W g ib cb N R A c L B d M f h) (hg : Gr.At w g) {k : Nat} (hk : k < N) (b : Bool) : OB w (W.setCell ⟨ib, k, none⟩ (.bool b)) g ib cb N R A c L B d M (fun q => if q = k then b else f q) h := by
  obtain ⟨us, hu⟩ := o.inn.blk
  have hl := o.low.setCell (p := ⟨ib, k, none⟩) o.lo.1 (.bool b)
  exact ⟨blk_mark o.ka (by decide) hu k _, hg.below hl, o.inn.put hk b, o.cal.other o.ne.symm k _, own_mark o.l hu k _, own_mark o.m hu k _, hl, o.ne, o.lo⟩
theorem OB.call (o : OB w W g ib cb N R A c L B d M f h) (hg : Gr.At w g) {k : Nat} (hk : k < R) (b : Bool) : OB w (W.setCell ⟨cb, k, none⟩ (.bool b)) g ib cb N R A c L B d M f (fun q => if q = k then b else h q) := by
  obtain ⟨us, hu⟩ := o.cal.blk
  have hl := o.low.setCell (p := ⟨cb, k, none⟩) o.lo.2 (.bool b)
  exact ⟨blk_mark o.ka (by decide) hu k _, hg.below hl, o.inn.other o.ne k _, o.cal.put hk b, own_mark o.l hu k _, own_mark o.m hu k _, hl, o.ne, o.lo⟩
end
theorem nodesAt_fact (g : Gr) (n : Int) : ((measOf g n).1 = 0 ∧ nodesAt g n = [] ∧ nums (callsAt g n) = []) ∨ (∃ k s : Nat, n = k ∧ (measOf g n).1 = s ∧ 1 ≤ s ∧ k + s ≤ g.nodes.length ∧ Right g ∧ (∃ ms, Measured g.nodes ms 0 ∧ (ms k).1 = s) ∧ nodesAt g n = ownN g.nodes (mayG g) k ∧ nums (callsAt g n) = nums (callsOf g k)) := by
  by_cases h : rightB g = true ∧ 0 ≤ n ∧ n < g.nodes.length
  · right
    obtain ⟨hr, h0, h1⟩ := h
    have hR := rightB_true.1 hr
    obtain ⟨k, rfl⟩ : ∃ k : Nat, n = k := ⟨n.toNat, by omega⟩
    obtain ⟨ms, hm, _⟩ := hR.pre
    have hk : k < g.nodes.length := by omega
    have h2 := hm k (by omega) hk
    rw [measOf_yes hR hm hk]
    refine ⟨k, (ms k).1.toNat, rfl, by omega, by omega, by omega, hR, ⟨ms, hm, by omega⟩, ?_, ?_⟩
    · unfold nodesAt; rw [if_pos ⟨hr, h0, h1⟩]
    · unfold callsAt; rw [if_pos ⟨hr, h0, h1⟩]
  · left
    refine ⟨by rw [measOf_no (fun hc => h ⟨rightB_true.2 hc.1, hc.2⟩)], ?_, ?_⟩
    · unfold nodesAt; rw [if_neg h]
    · unfold callsAt; rw [if_neg h]; rfl
end Go.Proofs.Ytmfiedbnnonenaa
namespace Go.Proofs.Ytmfiedbnnonenaa
open Go Go.RowKit Go.Maps Go.Shelf
set_option maxRecDepth 100000 in
set_option maxHeartbeats 16000000 in
theorem own_law (g : Gr) (n : Int) (hn : -9223372036854775808 ≤ n ∧ n < 9223372036854775808) (w : World) (hg : Gr.At w g) (hin : Gr.In g) (hc : Capd g) : Calls Try.prog 6 #[g.val, .int .i64 n] w fun e w' => e = .returned (.bool true) ∧ Below w.heap.size w w' := by
  obtain ⟨i1, ji, jz0, jz1, jz2⟩ := info_parts Try.info_b
  have HG := Lib.hid hg
  have SZ := Lib.hid (fun (w' : World) (b : Below w.heap.size w w') => size12_any g w' (hg.below b))
  have NX := Lib.hid (fun (w' : World) (b : Below w.heap.size w w') => lnodes_any g n hn w' (hg.below b) hin hc)
  have CX := Lib.hid (fun (w' : World) (b : Below w.heap.size w w') => (lcalls_any g n hn w' (hg.below b) hin hc).mono fun e w'' h => row_rowI h)
  have GS := Lib.hid (fun (w' : World) (b : Below w.heap.size w w') => size_of g n w' (hg.below b) hin)
  have NB := Lib.hid (fun (a : Nat) (ha : a ≤ 140737488351232) (w' : World) (h : Gr.At w' g) => node_of g a (by omega) w' h hin)
  have FACT := Lib.hid (nodesAt_fact g n)
  have hnl := hg.nl
  have hrl := hg.rl
  obtain ⟨LN, eLN⟩ : ∃ x, x = nodesAt g n := ⟨_, rfl⟩
  obtain ⟨MN, eMN⟩ : ∃ x, x = nums (callsAt g n) := ⟨_, rfl⟩
  obtain ⟨sz, esz⟩ : ∃ x, x = (measOf g n).1 := ⟨_, rfl⟩
  rw [← eLN] at NX FACT
  rw [← eMN] at CX FACT
  rw [← esz] at GS FACT
  clear hg hin hc eLN eMN esz
  show Calls Try.prog 6 #[.agg #[.slice g.RA g.rules.length g.rc, .slice g.NA g.nodes.length g.nc], .int .i64 n] w _
  go_enter Try.func6, Try.ntmps6
  go_wp2_with fail
  refine (lawake_any _).mono ?_
  rintro e w1 ⟨rfl, hb⟩
  have K1 := Lib.hid ((Blk.new w #[.slice g.RA g.rules.length g.rc, .slice g.NA g.nodes.length g.nc] 38).below' hb)
  have H1 := Lib.hid (bb (B1 w _) hb)
  have a0 := K1.out.cell 0
  have a1 := K1.out.cell 1
  simp only [List.getElem?_toArray, List.getElem?_cons_zero, List.getElem?_cons_succ] at a0 a1
  clear hb
  go_wp2_with fail
  refine (SZ.out _ H1.out).mono ?_
  rintro e w2 ⟨⟨z, rfl⟩, hb⟩
  have K2 := Lib.hid (K1.out.below' hb)
  have H2 := Lib.hid (bb H1.out hb)
  clear hb a0 a1
  by_cases hz : 300 < z
  · go_wp2_with fail
    go_ret
    exact ⟨rfl, H2.out⟩
  · have hz2 : ¬ 300 < z := hz
    have b0 := K2.out.cell 0
    have b1 := K2.out.cell 1
    simp only [List.getElem?_toArray, List.getElem?_cons_zero, List.getElem?_cons_succ] at b0 b1
    have CG := Lib.hid (fun (W' : World) (b : Below w2.heap.size w2 W') => (⟨(K2.out.below' b).cell 0, (K2.out.below' b).cell 1⟩ : W'.cell? ⟨w.heap.size, 0, none⟩ = some (.slice g.RA g.rules.length g.rc) ∧ W'.cell? ⟨w.heap.size, 1, none⟩ = some (.slice g.NA g.nodes.length g.nc)))
    go_upto_region 5 with fail
    go_cut [5, 6] from 22 to 27 (fun s5 s6 wx => ∃ A c B d, s5 = .slice A LN.length c ∧ s6 = .slice B MN.length d ∧ wx.ownsRow w.heap.size 3 1 (.slice A LN.length c) LN.length (ints LN) ∧ wx.ownsRow w.heap.size 3 1 (.slice B MN.length d) MN.length (ints MN) ∧ Below w2.heap.size w2 wx)
    case first =>
      go_region_with (first | (go_at_call 33; (with_reducible refine (NX.out _ (bdrew1 H2.out)).mono ?_); rintro e w3 ⟨⟨v1, rfl, ho1, _⟩, hb1⟩; obtain ⟨A1, c1, rfl, _, _⟩ := own_slice ho1; have OA := Lib.hid (own_lower ho1 H2.out.size); have P1 := Lib.hid (show Below w2.heap.size w2 w3 from (bdrew1 (Below.refl _ _)).trans hb1); obtain ⟨cb0, cb1⟩ := CG.out _ P1.out; clear ho1 hb1) | (go_at_call 34; (with_reducible refine (CX.out _ (bb H2.out P1.out)).mono ?_); rintro e w4 ⟨⟨v2, rfl, ho2, _⟩, hb2⟩; obtain ⟨A2, c2, rfl, _, _⟩ := own_slice ho2; have OB2 := Lib.hid (own_lower ho2 (bb H2.out P1.out).size); have OA2 := Lib.hid (own_below OA.out hb2); have P2 := Lib.hid (bb P1.out hb2); clear ho2 hb2) | (go_at_call 34; (with_reducible refine (CX.out _ (bdrew1 H2.out)).mono ?_); rintro e w5 ⟨⟨v3, rfl, ho3, _⟩, hb3⟩; obtain ⟨A3, c3, rfl, _, _⟩ := own_slice ho3; have OC := Lib.hid (own_lower ho3 H2.out.size); have P3 := Lib.hid (show Below w2.heap.size w2 w5 from (bdrew1 (Below.refl _ _)).trans hb3); obtain ⟨cc0, cc1⟩ := CG.out _ P3.out; clear ho3 hb3) | (go_at_call 33; (with_reducible refine (NX.out _ (bb H2.out P3.out)).mono ?_); rintro e w6 ⟨⟨v4, rfl, ho4, _⟩, hb4⟩; obtain ⟨A4, c4, rfl, _, _⟩ := own_slice ho4; have OD := Lib.hid (own_lower ho4 (bb H2.out P3.out).size); have OC2 := Lib.hid (own_below OC.out hb4); have P4 := Lib.hid (bb P3.out hb4); clear ho4 hb4))
      all_goals go_simp
      all_goals (first | go_meet | (go_wp2_with fail; go_meet) | skip)
      all_goals first
        | exact ⟨_, _, _, _, rfl, rfl, OA2.out, OB2.out, P2.out⟩
        | exact ⟨_, _, _, _, rfl, rfl, OD.out, OC2.out, P4.out⟩
    case rest =>
    obtain ⟨A, c, B, d, rfl, rfl, hoA, hoB, hb5⟩ := hcut
    obtain ⟨ll, ell⟩ : ∃ u, u = LN.length := ⟨_, rfl⟩
    obtain ⟨ml, eml⟩ : ∃ u, u = MN.length := ⟨_, rfl⟩
    have ELL := Lib.hid ell
    have EML := Lib.hid eml
    have OA := Lib.hid hoA
    have OM := Lib.hid hoB
    have H5 := Lib.hid (bb H2.out hb5)
    have K5 := Lib.hid (K2.out.below' hb5)
    rw [← ell, ← eml]
    clear hoA hoB hb5 ell eml b0 b1 CG NX CX SZ K1 K2 H1 H2
    have b0 := K5.out.cell 0
    have b1 := K5.out.cell 1
    simp only [List.getElem?_toArray, List.getElem?_cons_zero, List.getElem?_cons_succ] at b0 b1
    go_wp2_with fail
    refine (GS.out _ H5.out).mono ?_
    rintro e w6 ⟨rfl, hb⟩
    have OA6 := Lib.hid (own_below OA.out hb)
    have OM6 := Lib.hid (own_below OM.out hb)
    have H6 := Lib.hid (bb H5.out hb)
    have K6 := Lib.hid (K5.out.below' hb)
    clear hb b0 b1 OA OM H5 K5
    rcases FACT.out with ⟨hz0, hl0, hm0⟩ | ⟨k, sn, rfl, hsn, hs1, hs2, hR, hms, hl, hm⟩
    · have e1 : ll = 0 := by rw [ELL.out, hl0]; rfl
      have e2 : ml = 0 := by rw [EML.out, hm0]; rfl
      subst e1 e2 hz0
      clear FACT hl0 hm0
      go_wp2_with fail
      go_ret
      exact ⟨by first | rfl | simp, H6.out⟩
    · subst hsn
      have HR := Lib.hid hR
      have HMS := Lib.hid hms
      have HL := Lib.hid hl
      have HM := Lib.hid hm
      obtain ⟨N, eN⟩ : ∃ N, N = g.nodes.length := ⟨_, rfl⟩
      obtain ⟨R, eR⟩ : ∃ R, R = g.rules.length := ⟨_, rfl⟩
      have EN := Lib.hid eN
      have ER := Lib.hid eR
      have hnN : N ≤ 2048 := by rw [eN]; exact hR.nodes
      have hnR : R ≤ 32 := by rw [eR]; exact hR.rules.2
      have hk : k < N := by omega
      rw [← eN] at hs2
      have b0 := K6.out.cell 0
      have b1 := K6.out.cell 1
      simp only [List.getElem?_toArray, List.getElem?_cons_zero, List.getElem?_cons_succ] at b0 b1
      rw [← eR] at b0 ⊢
      rw [← eN] at b1 ⊢
      have hs0 : ¬ (sn : Int) = 0 := by omega
      have hkN : (k : Int) < N := by omega
      have hks : (k : Int) + sn ≤ N := by omega
      clear hR hms hl hm eN eR FACT hn hnl hrl
      go_upto_region 9 with (at_make; refine wpList_make_full _ rfl _ _ 54 rfl w6.heap.size 4 i1 (.bool false) 1 Try.underlying54 ji jz0 jz1 .i64 .i64 _ _ N rfl rfl rfl rfl (by rw [jz2]; omega) (by unfold maxLen; omega) (Nat.le_refl _) ?_; intro w7 hown hgrow; have H7 := Lib.hid (show Below w6.heap.size w6 w7 from (Below.refl w6.heap.size w6).grown hgrow (Nat.le_refl _) (fun k h => by cases h)); have I7 := Lib.hid (made_blk hown); clear hown hgrow)
      obtain ⟨ib, eib⟩ : ∃ u, u = w6.heap.size := ⟨_, rfl⟩
      rw [made_bools, ← eib] at I7
      rw [← eib]
      have LI := Lib.hid (show w.heap.size ≤ ib by rw [eib]; exact H6.out.size)
      have M7 := Lib.hid (Mk.zero I7.out)
      have K7 := Lib.hid (K6.out.below' H7.out)
      have OA7 := Lib.hid (own_below OA6.out H7.out)
      have OM7 := Lib.hid (own_below OM6.out H7.out)
      have B7 := Lib.hid (bb H6.out H7.out)
      have cm := M7.out.cell hk
      have fm := M7.out.frozen k
      clear b0 b1 OA6 OM6 K6 H6 H7 eib
      have b0 := K7.out.cell 0
      have b1 := K7.out.cell 1
      simp only [List.getElem?_toArray, List.getElem?_cons_zero, List.getElem?_cons_succ] at b0 b1
      go_upto_region 10 with fail
      obtain ⟨w8, ew8⟩ : ∃ u, u = w7.setCell ⟨ib, k, none⟩ (.bool true) := ⟨_, rfl⟩
      have M8 := Lib.hid (show Mk w8 ib N (fun q => if q = k then true else false) from by rw [ew8]; exact M7.out.put hk true)
      have K8 := Lib.hid (show Blk w8 w.heap.size #[.slice g.RA g.rules.length g.rc, .slice g.NA g.nodes.length g.nc] 38 from by rw [ew8]; exact blk_mark K7.out (by decide) I7.out k _)
      have OA8 := Lib.hid (show w8.ownsRow w.heap.size 3 1 (.slice A LN.length c) LN.length (ints LN) from by rw [ew8]; exact own_mark OA7.out I7.out k _)
      have OM8 := Lib.hid (show w8.ownsRow w.heap.size 3 1 (.slice B MN.length d) MN.length (ints MN) from by rw [ew8]; exact own_mark OM7.out I7.out k _)
      have B8 := Lib.hid (show Below w.heap.size w w8 from by rw [ew8]; exact B7.out.setCell (p := ⟨ib, k, none⟩) LI.out _)
      have LT := Lib.hid (show ib < w8.heap.size from by
        have h1 := I7.out.lt
        obtain ⟨_, h2, _⟩ := M8.out
        exact h2.lt)
      rw [← ew8]
      clear b0 b1 cm fm OA7 OM7 K7 B7 M7 I7 ew8
      have b0 := K8.out.cell 0
      have b1 := K8.out.cell 1
      simp only [List.getElem?_toArray, List.getElem?_cons_zero, List.getElem?_cons_succ] at b0 b1
      rw [← ER.out] at b0
      go_upto_region 11 with (at_make; refine wpList_make_full _ rfl _ _ 54 rfl w8.heap.size 4 i1 (.bool false) 1 Try.underlying54 ji jz0 jz1 .i64 .i64 _ _ R rfl rfl rfl rfl (by rw [jz2]; omega) (by unfold maxLen; omega) (Nat.le_refl _) ?_; intro w9 hown hgrow; have H9 := Lib.hid (show Below w8.heap.size w8 w9 from (Below.refl w8.heap.size w8).grown hgrow (Nat.le_refl _) (fun k h => by cases h)); have I9 := Lib.hid (made_blk hown); clear hown hgrow)
      obtain ⟨cb, ecb⟩ : ∃ u, u = w8.heap.size := ⟨_, rfl⟩
      rw [made_bools, ← ecb] at I9
      rw [← ecb]
      have O9 := Lib.hid (show OB w w9 g ib cb N R A c LN B d MN (inP g.nodes (mayG g) k k) (calP g.nodes (mayG g) k k) from by
        obtain ⟨ms, hm, _⟩ := HMS.out
        have hkl : k < g.nodes.length := by rw [← EN.out]; exact hk
        exact ⟨K8.out.below' H9.out, HG.out.below (bb B8.out H9.out), (M8.out.below H9.out).congr (fun q _ => by rw [inP_none hm _ hkl]; by_cases e : q = k <;> simp [e]), (Mk.zero I9.out).congr (fun q _ => (calP_none hm _ hkl q).symm), own_below OA8.out H9.out, own_below OM8.out H9.out, bb B8.out H9.out, by have := LT.out; omega, LI.out, by rw [ecb]; exact B8.out.size⟩)
      clear b0 b1 OA8 OM8 K8 B8 M8 I9 H9 ecb LT LI
      go_wp2_with fail
      go_loopw [9] (fun mx wr => ∃ m : Nat, k ≤ m ∧ m ≤ k + sn ∧ mx = .int .i64 m ∧ OB w wr g ib cb N R A c LN B d MN (inP g.nodes (mayG g) k m) (calP g.nodes (mayG g) k m)) (fun mx _ => k + sn - (intOf mx).toNat)
      case atStart => exact ⟨k, by omega, by omega, rfl, O9.out⟩
      case round =>
        obtain ⟨m, hkm, hms, rfl, ho⟩ := hrel
        have b0 := ho.ka.cell 0
        have b1 := ho.ka.cell 1
        simp only [List.getElem?_toArray, List.getElem?_cons_zero, List.getElem?_cons_succ] at b0 b1
        rw [← ER.out] at b0
        rw [← EN.out] at b1
        have GM : RowKit.Hid (Calls Try.prog 35 #[.agg #[.slice g.RA R g.rc, .slice g.NA N g.nc], .int .i64 k] wr fun e w' => e = .returned (.int .i64 sn) ∧ Below wr.heap.size wr w') := Lib.hid (by rw [ER.out, EN.out]; exact GS.out wr ho.low)
        have HO := Lib.hid ho
        clear ho
        go_wp2_with fail
        refine GM.out.mono ?_
        rintro e w10 ⟨rfl, hb⟩
        have OX := Lib.hid (HO.out.below hb)
        clear hb b0 b1 HO GM
        by_cases hlt : m < k + sn
        · have hlt2 : (m : Int) < k + sn := by omega
          have hmN : m < N := by omega
          have hmN2 : (m : Int) < N := by omega
          have hmg : m < g.nodes.length := by rw [← EN.out]; exact hmN
          have cm := OX.out.inn.cell hmN
          have hself : inP g.nodes (mayG g) k m m = decide ((m : Int) ∈ ownN g.nodes (mayG g) k) := by
            obtain ⟨ms, hm, _⟩ := HMS.out
            exact inP_self hm _ (by rw [← EN.out]; exact hk)
          rw [hself] at cm
          clear hself
          by_cases hown : (m : Int) ∈ ownN g.nodes (mayG g) k
          · rw [decide_eq_true hown] at cm
            have HOWN := Lib.hid hown
            clear hown
            have b0 := OX.out.ka.cell 0
            have b1 := OX.out.ka.cell 1
            simp only [List.getElem?_toArray, List.getElem?_cons_zero, List.getElem?_cons_succ] at b0 b1
            rw [← ER.out] at b0
            rw [← EN.out] at b1
            obtain ⟨nb1, no1, eA, hlt1, d0, d1, d2, d3, d4, d5, d6, d7, d8⟩ := OX.out.gr.nodes.nine hmg
            have KX := Lib.hid (fun (W' : World) (h : Gr.At W' g) => (h.node hmg).1)
            have hkl := (OX.out.gr.node hmg).2.2
            have KU := Lib.hid (fun i (hi : i < (g.nodes.getD m Nd.zero).kids.length) => show ∃ a : Nat, (g.nodes.getD m Nd.zero).kids.getD i 0 = a ∧ a < N from by
              have := HR.out.kidsUp m hmg _ (getD_mem (z := 0) hi)
              exact ⟨((g.nodes.getD m Nd.zero).kids.getD i 0).toNat, by omega, by rw [EN.out]; omega⟩)
            have CRU := Lib.hid (show (g.nodes.getD m Nd.zero).kind = 5 → ∃ r : Nat, (g.nodes.getD m Nd.zero).rule = r ∧ r < R from fun hk5 => by
              have h1 : 0 ≤ (g.nodes.getD m Nd.zero).rule ∧ (g.nodes.getD m Nd.zero).rule < g.rules.length := by
                have := HR.out.all m hmg
                rcases (nodeOk_iff _ _).1 this with h | h | h | h | h | h <;> omega
              exact ⟨(g.nodes.getD m Nd.zero).rule.toNat, by omega, by rw [ER.out]; omega⟩)
            have CS := Lib.hid (fun q => calP_step HOWN.out q)
            obtain ⟨F, eF⟩ : ∃ F, F = inQ g.nodes (mayG g) k m := ⟨_, rfl⟩
            have F0 := Lib.hid (fun q => show F 0 q = inP g.nodes (mayG g) k m q from by rw [eF]; exact inQ_zero _ _ _ _ _)
            have FN := Lib.hid (fun i a (hi : i < (g.nodes.getD m Nd.zero).kids.length) (ha : (g.nodes.getD m Nd.zero).kids.getD i 0 = (a : Nat)) q => show F (i + 1) q = if q = a then opn (g.nodes.getD m Nd.zero) (mayG g) i else F i q from by
              obtain ⟨ms, hm, _⟩ := HMS.out
              rw [eF]; exact inQ_next hm _ hmg hi ha q)
            have FA := Lib.hid (fun q => show F (g.nodes.getD m Nd.zero).kids.length q = inP g.nodes (mayG g) k (m + 1) q from by
              obtain ⟨ms, hm, _⟩ := HMS.out
              rw [eF]; exact inQ_all hm _ (by rw [← EN.out]; exact hk) HOWN.out q)
            have OPN := Lib.hid (fun i (hi : i < (g.nodes.getD m Nd.zero).kids.length) => opn_next (may := mayG g) hi)
            obtain ⟨op, eop⟩ : ∃ op, op = opn (g.nodes.getD m Nd.zero) (mayG g) := ⟨_, rfl⟩
            have OP0 := Lib.hid (show op 0 = true from by rw [eop]; exact opn_zero _ _)
            rw [← eop] at FN OPN
            clear eF eop
            generalize g.nodes.getD m Nd.zero = x at d0 d1 d2 d3 d4 d5 d6 d7 d8 KX hkl KU CRU CS FN FA OPN
            obtain ⟨kd, q0, q1, q2, q3, t, ru, lv, KA, cap, ks⟩ := x
            dsimp only at d0 d1 d2 d3 d4 d5 d6 d7 d8 KX hkl KU CRU CS FN FA OPN
            obtain ⟨kl, ekl⟩ : ∃ u, u = ks.length := ⟨_, rfl⟩
            have EKL := Lib.hid ekl
            rw [← ekl] at d8 hkl KU FN FA OPN
            rw [eA] at b1
            clear ekl hlt1 eA
            go_upto_region 16 with fail
            obtain ⟨w12, ew12⟩ : ∃ u, u = w10.alloc (.cells #[.int .i64 kd, .int .u64 q0, .int .u64 q1, .int .u64 q2, .int .u64 q3, .string t, .int .i64 ru, .int .i64 lv, .slice KA kl cap] 30) := ⟨_, rfl⟩
            obtain ⟨xb, exb⟩ : ∃ u, u = w10.heap.size := ⟨_, rfl⟩
            have XB := Lib.hid (show Blk w12 xb #[.int .i64 kd, .int .u64 q0, .int .u64 q1, .int .u64 q2, .int .u64 q3, .string t, .int .i64 ru, .int .i64 lv, .slice KA kl cap] 30 from by rw [ew12, exb]; exact Blk.new _ _ _)
            have OY := Lib.hid (show OB w w12 g ib cb N R A c LN B d MN (inP g.nodes (mayG g) k m) (calP g.nodes (mayG g) k m) from by rw [ew12]; exact OX.out.below (B1 _ _))
            have LXB := Lib.hid (show w.heap.size ≤ xb from by rw [exb]; exact OX.out.low.size)
            rw [← ew12, ← exb]
            clear ew12 exb b0 b1 d0 d1 d2 d3 d4 d5 d6 d7 d8 cm OX
            have e0 := XB.out.cell 0
            have e6 := XB.out.cell 6
            simp only [List.getElem?_toArray, List.getElem?_cons_zero, List.getElem?_cons_succ] at e0 e6
            go_upto_if 71 with fail
            go_cut [10] from 72 to 75 (fun s10 wx => s10 = .pointer (some ⟨xb, 0, none⟩) ∧ OB w wx g ib cb N R A c LN B d MN (inP g.nodes (mayG g) k m) (calP g.nodes (mayG g) k (m + 1)) ∧ Blk wx xb #[.int .i64 kd, .int .u64 q0, .int .u64 q1, .int .u64 q2, .int .u64 q3, .string t, .int .i64 ru, .int .i64 lv, .slice KA kl cap] 30)
            case first =>
              by_cases h5 : kd = 5
              · obtain ⟨r, er, hr⟩ := CRU.out h5
                have hr2 : (r : Int) < R := by omega
                have cr := OY.out.cal.cell hr
                have fr := OY.out.cal.frozen r
                have hb : (kd == 5) = true := by simpa using h5
                have CS2 := Lib.hid (show ∀ q, calP g.nodes (mayG g) k (m + 1) q = if q = r then true else calP g.nodes (mayG g) k m q from fun q => by
                  rw [CS.out, h5, er]
                  by_cases e : q = r
                  · subst e; simp
                  · have : ¬ (r : Int) = q := by omega
                    simp [e, this])
                obtain ⟨us, hus⟩ := OY.out.cal.blk
                have OC := Lib.hid (OY.out.call HG.out hr true)
                have XC := Lib.hid (blk_mark XB.out (by decide) hus r (.bool true))
                rw [er] at e6
                clear er h5 hus
                go_wp2_with fail
                go_meet
                exact ⟨rfl, OC.out.congr (fun _ _ => rfl) (fun q _ => (CS2.out q).symm), XC.out⟩
              · have hb : (kd == 5) = false := by simpa using h5
                have CS2 := Lib.hid (show ∀ q, calP g.nodes (mayG g) k (m + 1) q = calP g.nodes (mayG g) k m q from fun q => by
                  rw [CS.out]; simp [h5])
                clear h5
                go_wp2_with fail
                go_meet
                exact ⟨rfl, OY.out.congr (fun _ _ => rfl) (fun q _ => (CS2.out q).symm), XB.out⟩
            case rest =>
            obtain ⟨rfl, ow, xw⟩ := hcut
            have OW := Lib.hid ow
            have XW := Lib.hid xw
            clear ow xw e0 e6 XB OY CRU CS
            go_wp2_with fail
            go_loopw [11, 12] (fun ox ix wr => ∃ i : Nat, i ≤ kl ∧ ix = .int .i64 i ∧ ox = .bool (op i) ∧ OB w wr g ib cb N R A c LN B d MN (F i) (calP g.nodes (mayG g) k (m + 1)) ∧ Blk wr xb #[.int .i64 kd, .int .u64 q0, .int .u64 q1, .int .u64 q2, .int .u64 q3, .string t, .int .i64 ru, .int .i64 lv, .slice KA kl cap] 30) (fun _ ix _ => kl - (intOf ix).toNat)
            case atStart => exact ⟨0, by omega, rfl, by rw [OP0.out], OW.out.congr (fun q _ => (F0.out q).symm) (fun _ _ => rfl), XW.out⟩
            case round =>
              obtain ⟨i, hi, rfl, rfl, ho, hx⟩ := hrel
              have e0 := hx.cell 0
              have e8 := hx.cell 8
              simp only [List.getElem?_toArray, List.getElem?_cons_zero, List.getElem?_cons_succ] at e0 e8
              have HO := Lib.hid ho
              have HX := Lib.hid hx
              by_cases hlt5 : i < kl
              · have hlt6 : (i : Int) < kl := by omega
                have hik : i < ks.length := by rw [← EKL.out]; exact hlt5
                obtain ⟨b2, o2, eA2, _, c2⟩ := lies_cell (KX.out _ ho.gr) (k := i) hik
                obtain ⟨a, ea, haN⟩ := KU.out i hlt5
                have FI := Lib.hid (FN.out i a hlt5 ea)
                have OPI := Lib.hid (OPN.out i hlt5)
                rw [ea] at c2 OPI
                have EAA := Lib.hid ea
                have haN2 : (a : Int) < N := by omega
                have ca := ho.inn.cell haN
                have fa := ho.inn.frozen a
                obtain ⟨nb, enb⟩ : ∃ b, b = mayG g a := ⟨_, rfl⟩
                obtain ⟨o, eo⟩ : ∃ b, b = op i := ⟨_, rfl⟩
                rw [← enb, ← eo] at OPI
                rw [← eo] at FI ⊢
                obtain ⟨us, hus⟩ := ho.inn.blk
                have OC := Lib.hid (ho.mark HG.out haN o)
                have XC := Lib.hid (blk_mark hx (by decide) hus a (.bool o))
                rw [eA2] at e8
                clear eA2
                generalize F i a = ofa at ca
                have ENB := Lib.hid enb
                clear ho hx hus ea eo enb
                go_upto_region 23 with fail
                obtain ⟨w13, ew13⟩ : ∃ u, u = wr.setCell ⟨ib, a, none⟩ (.bool o) := ⟨_, rfl⟩
                rw [← ew13] at OC XC ⊢
                clear ew13
                have O13 := Lib.hid OC.out
                have X13 := Lib.hid XC.out
                have x0 := XC.out.cell 0
                have x8 := XC.out.cell 8
                have b0 := OC.out.ka.cell 0
                have b1 := OC.out.ka.cell 1
                simp only [List.getElem?_toArray, List.getElem?_cons_zero, List.getElem?_cons_succ] at x0 x8 b0 b1
                rw [← ER.out] at b0
                rw [← EN.out] at b1
                obtain ⟨b3, o3, eA3, _, c3⟩ := lies_cell (KX.out _ OC.out.gr) (k := i) hik
                obtain ⟨a', ea', haN'⟩ := KU.out i hlt5
                rw [eA3] at x8
                rw [ea'] at c3
                obtain rfl : a = a' := by have := ea'.symm.trans EAA.out; omega
                have dx0 := fun (e : Ext w13) => Ext.cell x0 e
                have dx8 := fun (e : Ext w13) => Ext.cell x8 e
                have dk := fun (e : Ext w13) => Ext.cell c3 e
                have db0 := fun (e : Ext w13) => Ext.cell b0 e
                have db1 := fun (e : Ext w13) => Ext.cell b1 e
                have NBE := Lib.hid (fun (e : Ext w13) => show Calls Try.prog 26 #[.agg #[.slice g.RA R g.rc, .slice g.NA N g.nc], .int .i64 a] e.val fun e' w' => e' = .returned (.bool nb) ∧ Below e.val.heap.size e.val w' from by
                  have := NB.out a (by omega) e.val (OC.out.gr.below e.grown)
                  rw [nodeB_of HR.out a (by rw [← EN.out]; exact haN)] at this
                  rw [ENB.out, ER.out, EN.out]
                  exact this)
                clear hik c2 e0 e8 ca fa x0 x8 b0 b1 c3 OC XC eA3 ea' haN' HO HX
                by_cases h6 : kd = 6
                · have hb : (kd == 6) = true := by simpa using h6
                  have hb2 : (kd != 6) = false := by simpa using h6
                  have H6D := Lib.hid (show decide (kd ≠ 6) = false from by simpa using h6)
                  clear h6
                  cases o
                  all_goals
                    refine wp_region_ext (by kernel_rfl) (by kernel_rfl) ?_
                    repeat (first | go_big_quiet_step (first | (go_at_call 26; exact Calls.ext_of (NBE.out _))) | quiet_step (first | (go_at_call 26; exact Calls.ext_of (NBE.out _))))
                    refine wpQuiet_nil ?_
                    intro w14 hw'
                    obtain ⟨⟨_, hb14⟩, rfl⟩ := hw'
                    have O14 := Lib.hid (O13.out.below hb14)
                    have X14 := Lib.hid (X13.out.below' hb14)
                    clear hb14 dx0 dx8 dk db0 db1 NBE O13 X13
                    go_wp2_with fail
                    go_roundw
                    case rel => exact ⟨i + 1, by omega, by go_num, by rw [OPI.out, H6D.out]; first | rfl | (cases nb <;> rfl), O14.out.congr (fun q _ => (FI.out q).symm) (fun _ _ => rfl), X14.out⟩
                    case measure => simp [intOf]; omega
                · have hb : (kd == 6) = false := by simpa using h6
                  have hb2 : (kd != 6) = true := by simpa using h6
                  have H6D := Lib.hid (show decide (kd ≠ 6) = true from by simpa using h6)
                  clear h6
                  cases o
                  all_goals
                    refine wp_region_ext (by kernel_rfl) (by kernel_rfl) ?_
                    repeat (first | go_big_quiet_step (first | (go_at_call 26; exact Calls.ext_of (NBE.out _))) | quiet_step (first | (go_at_call 26; exact Calls.ext_of (NBE.out _))))
                    refine wpQuiet_nil ?_
                    intro w14 hw'
                    obtain ⟨⟨_, hb14⟩, rfl⟩ := hw'
                    have O14 := Lib.hid (O13.out.below hb14)
                    have X14 := Lib.hid (X13.out.below' hb14)
                    clear hb14 dx0 dx8 dk db0 db1 NBE O13 X13
                    go_wp2_with fail
                    go_roundw
                    case rel => exact ⟨i + 1, by omega, by go_num, by rw [OPI.out, H6D.out]; first | rfl | (cases nb <;> rfl), O14.out.congr (fun q _ => (FI.out q).symm) (fun _ _ => rfl), X14.out⟩
                    case measure => simp [intOf]; omega
              · obtain rfl : i = kl := by omega
                have hlt6 : ¬ (i : Int) < i := by omega
                clear ho hx
                go_wp2_with fail
                go_roundw
                case rel => exact ⟨m + 1, by omega, by omega, by go_num, HO.out.congr (fun q _ => FA.out q) (fun _ _ => rfl)⟩
                case measure => simp [intOf]; omega
          · rw [decide_eq_false hown] at cm
            have HOWN := Lib.hid hown
            clear hown
            go_wp2_with fail
            go_roundw
            case rel => exact ⟨m + 1, by omega, by omega, by go_num, OX.out.congr (fun q _ => (inP_skip HOWN.out q).symm) (fun q _ => (calP_skip HOWN.out q).symm)⟩
            case measure => simp [intOf]; omega
        · have hlt2 : ¬ (m : Int) < k + sn := by omega
          have hnum : (m : Int) = k + sn := by omega
          have OZ := Lib.hid (show OB w w10 g ib cb N R A c LN B d MN (fun q => decide ((q : Int) ∈ LN)) (fun q => decide ((q : Int) ∈ MN)) from OX.out.congr (fun q hq => by
              obtain ⟨ms, hm, he⟩ := HMS.out
              rw [inP_all hm _ (by rw [← EN.out]; exact hk) (by rw [he]; omega), HL.out]) (fun q hq => by
              obtain ⟨ms, hm, he⟩ := HMS.out
              rw [calP_all hm _ (by rw [← EN.out]; exact hk) (by rw [he]; omega), HM.out, Bool.eq_iff_iff, decide_eq_true_eq]
              unfold callsOf
              rw [nums_row]
              exact ⟨fun h => ⟨by rw [← ER.out]; exact hq, h⟩, fun h => h.2⟩))
          have RL := Lib.hid (show LN.Pairwise (· < ·) ∧ ∀ x ∈ LN, 0 ≤ x ∧ x < (N : Int) from by
            obtain ⟨ms, hm, he⟩ := HMS.out
            have hr := own_rises hm (mayG g) _ k (by rw [← EN.out]; exact hk) (Nat.le_refl _)
            rw [HL.out]
            exact ⟨hr.rise, fun x hx => by have := hr.each x hx; rw [he] at this; omega⟩)
          have RM := Lib.hid (show MN.Pairwise (· < ·) ∧ ∀ x ∈ MN, 0 ≤ x ∧ x < (R : Int) from by
            rw [HM.out]
            refine ⟨nums_rise, fun x hx => ?_⟩
            unfold nums callsOf at hx
            obtain ⟨q, hq, rfl⟩ := List.mem_map.1 hx
            have := (rowOf_mem.1 hq).1
            rw [← ER.out] at this
            omega)
          have hll : ll ≤ 140737488351232 := by
            rw [ELL.out, HL.out]
            have := own_len HR.out k (by rw [← EN.out]; exact hk)
            omega
          have hml : ml ≤ 140737488351232 := by
            rw [EML.out, HM.out, nums_len]
            have := rowOf_len (callsB g.nodes (mayG g) k) g.rules.length
            rw [← ER.out] at this
            unfold callsOf
            rw [← ER.out]
            omega
          clear OX hnum
          go_wp2_with fail
          go_loopw [13, 15] (fun cx qx wr => ∃ q : Nat, q ≤ N ∧ qx = .int .i64 q ∧ cx = .int .i64 (cnt LN q : Nat) ∧ wr = w10) (fun _ qx _ => N - (intOf qx).toNat)
          case atStart => exact ⟨0, by omega, rfl, by rw [cnt_zero (fun x hx => (RL.out.2 x hx).1)]; rfl, rfl⟩
          case round =>
            obtain ⟨q, hq, rfl, rfl, rfl⟩ := hrel
            have hcl := cnt_le LN q
            by_cases hqN : q < N
            · have hqN2 : (q : Int) < N := by omega
              have cm := OZ.out.inn.cell hqN
              by_cases hin : (q : Int) ∈ LN
              · rw [decide_eq_true hin] at cm
                obtain ⟨h1, h2, h3⟩ := cnt_yes RL.out.1 hin
                obtain ⟨b2, o2, eA2, _, c2⟩ := lies_cell (own_lies1 OZ.out.l) (k := cnt LN q) h1
                rw [h2] at c2
                have H3 := Lib.hid h3
                rw [← ELL.out] at h1 hcl
                obtain ⟨ct, ect⟩ : ∃ u, u = cnt LN q := ⟨_, rfl⟩
                rw [← ect] at h1 c2 H3 hcl ⊢
                have h4 : ¬ (ll : Int) ≤ ct := by omega
                have h5 : (ct : Int) < ll := by omega
                have hne : ((q : Int) != (q : Int)) = false := by simp
                rw [eA2]
                clear hin h2 h3 ect
                go_wp2_with fail
                go_roundw
                case rel => exact ⟨q + 1, by omega, by go_num, by rw [H3.out]; go_num, by first | trivial | rfl⟩
                case measure => simp [intOf]; omega
              · rw [decide_eq_false hin] at cm
                have H3 := Lib.hid (cnt_no hin)
                clear hin
                rw [← ELL.out] at hcl
                go_wp2_with fail
                go_roundw
                case rel => exact ⟨q + 1, by omega, by go_num, by rw [H3.out], by first | trivial | rfl⟩
                case measure => simp [intOf]; omega
            · obtain rfl : q = N := by omega
              have hqN2 : ¬ (q : Int) < q := by omega
              have hal : cnt LN q = ll := by rw [cnt_all (fun x hx => (RL.out.2 x hx).2), ELL.out]
              rw [hal]
              clear hal hcl
              go_wp2_with fail
              obtain ⟨w11, e11⟩ : ∃ u, u = wr := ⟨_, rfl⟩
              rw [← e11] at OZ ⊢
              clear e11
              go_loopw [14, 16] (fun cx qx wr => ∃ q : Nat, q ≤ R ∧ qx = .int .i64 q ∧ cx = .int .i64 (cnt MN q : Nat) ∧ wr = w11) (fun _ qx _ => R - (intOf qx).toNat)
              case atStart => exact ⟨0, by omega, rfl, by rw [cnt_zero (fun x hx => (RM.out.2 x hx).1)]; rfl, rfl⟩
              case round =>
                obtain ⟨q, hq, rfl, rfl, rfl⟩ := hrel
                have hcl := cnt_le MN q
                by_cases hqR : q < R
                · have hqR2 : (q : Int) < R := by omega
                  have cm := OZ.out.cal.cell hqR
                  by_cases hin : (q : Int) ∈ MN
                  · rw [decide_eq_true hin] at cm
                    obtain ⟨h1, h2, h3⟩ := cnt_yes RM.out.1 hin
                    obtain ⟨b2, o2, eA2, _, c2⟩ := lies_cell (own_lies1 OZ.out.m) (k := cnt MN q) h1
                    rw [h2] at c2
                    have H3 := Lib.hid h3
                    rw [← EML.out] at h1 hcl
                    obtain ⟨ct, ect⟩ : ∃ u, u = cnt MN q := ⟨_, rfl⟩
                    rw [← ect] at h1 c2 H3 hcl ⊢
                    have h4 : ¬ (ml : Int) ≤ ct := by omega
                    have h5 : (ct : Int) < ml := by omega
                    have hne : ((q : Int) != (q : Int)) = false := by simp
                    rw [eA2]
                    clear hin h2 h3 ect
                    go_wp2_with fail
                    go_roundw
                    case rel => exact ⟨q + 1, by omega, by go_num, by rw [H3.out]; go_num, by first | trivial | rfl⟩
                    case measure => simp [intOf]; omega
                  · rw [decide_eq_false hin] at cm
                    have H3 := Lib.hid (cnt_no hin)
                    clear hin
                    rw [← EML.out] at hcl
                    go_wp2_with fail
                    go_roundw
                    case rel => exact ⟨q + 1, by omega, by go_num, by rw [H3.out], by first | trivial | rfl⟩
                    case measure => simp [intOf]; omega
                · obtain rfl : q = R := by omega
                  have hqR2 : ¬ (q : Int) < q := by omega
                  have hal : cnt MN q = ml := by rw [cnt_all (fun x hx => (RM.out.2 x hx).2), EML.out]
                  rw [hal]
                  have BZ := Lib.hid OZ.out.low
                  clear hal hcl
                  go_wp2_with fail
                  go_ret
                  exact ⟨by first | rfl | simp, BZ.out⟩
end Go.Proofs.Ytmfiedbnnonenaa

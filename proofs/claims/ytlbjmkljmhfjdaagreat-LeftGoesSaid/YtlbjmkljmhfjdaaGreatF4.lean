/- The law of left: nodes. (Great seat.) -/
import Derived.Test.YtlbjmkljmhfjdaaGreatF3
import Derived.Test.YtlbjmkljmhfjdaaGreatE8
import Derived.Test.YtlbjmkljmhfjdaaGreatD9
import Derived.Test.YtlbjmkljmhfjdaaGreatC3
import Derived.Test.YtlbjmkljmhfjdaaGreatE2
set_option linter.unusedSimpArgs false
set_option linter.unusedVariables false
namespace Go.Proofs.YtlbjmkljmhfjdaaGreat
open Go Go.Proofs Go.RowKit Go.Lib Go.Maps
theorem nodesAt_kz (g : Gr) (n : Int) : nodesAt g.kz n = nodesAt g n := by
  unfold nodesAt
  rw [rightB_kz, mayG_kz]
  show (if rightB g = true ∧ 0 ≤ n ∧ n < ((g.nodes.map Nd.kz).length : Int) then ownN (g.nodes.map Nd.kz) (mayG g) n else []) = _
  rw [ownN_kz, List.length_map]
theorem callsAt_kz (g : Gr) (n : Int) : callsAt g.kz n = callsAt g n := by
  unfold callsAt
  rw [rightB_kz, callsOf_kz]
  show (if rightB g = true ∧ 0 ≤ n ∧ n < ((g.nodes.map Nd.kz).length : Int) then callsOf g n else []) = _
  rw [List.length_map]
theorem twin_at {g h : Gr} (t : GTwin g h) (n : Int) : nodesAt h n = nodesAt g n ∧ callsAt h n = callsAt g n := by
  have e := twin_kz t
  exact ⟨by rw [← nodesAt_kz, e, nodesAt_kz], by rw [← callsAt_kz, e, callsAt_kz]⟩
theorem at_lens (g : Gr) (n : Int) : (nodesAt g n).length ≤ 2048 ∧ (callsAt g n).length ≤ 32 := by
  by_cases h : rightB g = true ∧ 0 ≤ n ∧ n < g.nodes.length
  · have hR := rightB_true.1 h.1
    have e : nodesAt g n = ownN g.nodes (mayG g) n := by unfold nodesAt; rw [if_pos h]
    have e2 : callsAt g n = callsOf g n := by unfold callsAt; rw [if_pos h]
    obtain ⟨k, rfl⟩ : ∃ k : Nat, n = k := ⟨n.toNat, by omega⟩
    have h1 := own_len hR k (by omega)
    have h2 := rowOf_len (callsB g.nodes (mayG g) k) g.rules.length
    have h3 := hR.rules.2
    refine ⟨by rw [e]; exact h1, ?_⟩
    rw [e2]
    unfold callsOf
    omega
  · have e : nodesAt g n = [] := by unfold nodesAt; rw [if_neg h]
    have e2 : callsAt g n = [] := by unfold callsAt; rw [if_neg h]
    rw [e, e2]; simp
theorem lsame_self (A B : Option Addr) (c d : Nat) (L : List Int) (hl : L.length ≤ 140737488351232) (w : World) (hA : Lies w A (ints L)) (hB : Lies w B (ints L)) :
    Calls Tryz.prog 24 #[.slice A L.length c, .slice B L.length d] w fun e w' => e = .returned (.bool true) ∧ Below w.heap.size w w' := by
  have := lsame_any A B c d L L hl hl w hA hB
  rwa [decide_eq_true rfl] at this
theorem lsame_row (A B : Option Addr) (c d : Nat) (L : List Nat) (hl : L.length ≤ 140737488351232) (w : World) (hA : Lies w A (ints (nums L))) (hB : Lies w B (ints (nums L))) :
    Calls Tryz.prog 24 #[.slice A L.length c, .slice B L.length d] w fun e w' => e = .returned (.bool true) ∧ Below w.heap.size w w' := by
  have := lsame_self A B c d (nums L) (by rw [nums_len]; exact hl) w hA hB
  rwa [nums_len] at this
/-- Four rows, each above the one before. -/
theorem four_apartI {w : World} {B : Nat} {L M : List Int} {a b c d : Value} {u1 u2 u3 : Nat}
    (ha : w.ownsRow B 3 1 a L.length (ints L)) (hb : w.ownsRow B 3 1 b M.length (ints M)) (hc : w.ownsRow B 3 1 c L.length (ints L)) (hd : w.ownsRow B 3 1 d M.length (ints M))
    (xa : ∀ q, a.ownBlock = some q → q < u1) (xb : ∀ q, b.ownBlock = some q → u1 ≤ q ∧ q < u2) (xc : ∀ q, c.ownBlock = some q → u2 ≤ q ∧ q < u3) (xd : ∀ q, d.ownBlock = some q → u3 ≤ q) (h12 : u1 ≤ u2) (h23 : u2 ≤ u3) :
    (∀ k, k < 4 → w.ownsRow B 3 1 ([a, b, c, d].getD k undef) ((if k % 2 = 0 then L else M)).length (ints (if k % 2 = 0 then L else M))) ∧
    (∀ j k q, j < 4 → k < 4 → j ≠ k → ([a, b, c, d].getD j undef).ownBlock = some q → ([a, b, c, d].getD k undef).ownBlock ≠ some q) := by
  constructor
  · intro k hk
    match k, hk with
    | 0, _ => simpa using ha
    | 1, _ => simpa using hb
    | 2, _ => simpa using hc
    | 3, _ => simpa using hd
  · intro j k q hj hk hne h1 h2
    match j, hj, k, hk with
    | 0, _, 0, _ => exact hne rfl
    | 1, _, 1, _ => exact hne rfl
    | 2, _, 2, _ => exact hne rfl
    | 3, _, 3, _ => exact hne rfl
    | 0, _, 1, _ => have := xa q h1; have := xb q h2; omega
    | 0, _, 2, _ => have := xa q h1; have := xc q h2; omega
    | 0, _, 3, _ => have := xa q h1; have := xd q h2; omega
    | 1, _, 0, _ => have := xb q h1; have := xa q h2; omega
    | 1, _, 2, _ => have := xb q h1; have := xc q h2; omega
    | 1, _, 3, _ => have := xb q h1; have := xd q h2; omega
    | 2, _, 0, _ => have := xc q h1; have := xa q h2; omega
    | 2, _, 1, _ => have := xc q h1; have := xb q h2; omega
    | 2, _, 3, _ => have := xc q h1; have := xd q h2; omega
    | 3, _, 0, _ => have := xd q h1; have := xa q h2; omega
    | 3, _, 1, _ => have := xd q h1; have := xb q h2; omega
    | 3, _, 2, _ => have := xd q h1; have := xc q h2; omega
theorem apart_fourI {W : World} {B : Nat} {L M : List Int} {a b c d : Value} {T : TypeId} (hB : B ≤ W.heap.size)
    (hr : ∀ k, k < 4 → W.ownsRow B 3 1 ([a, b, c, d].getD k undef) ((if k % 2 = 0 then L else M)).length (ints (if k % 2 = 0 then L else M)))
    (ha : ∀ j k q, j < 4 → k < 4 → j ≠ k → ([a, b, c, d].getD j undef).ownBlock = some q → ([a, b, c, d].getD k undef).ownBlock ≠ some q) (hl : L.length ≤ 100000 ∧ M.length ≤ 100000) :
    Calls Tryz.prog 34 #[.slice (some ⟨W.heap.size, 0, none⟩) 4 4] (W.alloc (.cells #[a, b, c, d] T)) fun e w' => e = .returned (.bool true) ∧ Below B W w' :=
  (apart_ints B W.heap.size 4 4 [a, b, c, d] (fun k => if k % 2 = 0 then L else M) (W.alloc (.cells #[a, b, c, d] T)) (by simp; omega) rfl (by simp) (fun k hk => by
    rw [(Blk.new W #[a, b, c, d] T).cell]
    match k, hk with
    | 0, _ => rfl
    | 1, _ => rfl
    | 2, _ => rfl
    | 3, _ => rfl) (fun k hk => own_below (hr k hk) (B1 _ _)) ha (by omega) (fun k hk => by
    show (if k % 2 = 0 then L else M).length ≤ 100000
    split <;> omega)).mono fun e w' ⟨h1, h2⟩ => ⟨h1, Below.trans (b := W.alloc (.cells #[a, b, c, d] T)) ((B1 W _).mono hB) h2⟩
set_option maxRecDepth 100000 in
set_option maxHeartbeats 16000000 in
theorem lnodes_part (g : Gr) (n : Int) (hn : -9223372036854775808 ≤ n ∧ n < 9223372036854775808) (w : World) (hg : Gr.At w g) (hin : Gr.In g) (h1 : g.rules.length ≤ 100000) (h2 : g.nodes.length ≤ 100000) (h3 : ∀ x ∈ g.nodes, x.kids.length ≤ 100000) :
    Calls Tryz.prog 10 #[g.val, .int .i64 n] w fun e w' => e = .returned (.bool true) ∧ Below w.heap.size w w' := by
  have LG := Lib.hid (fun (W : World) (b : Below w.heap.size w W) => lentGram_any g W (hg.below b) h1 h2 h3)
  have KG := Lib.hid (fun (W : World) (b : Below w.heap.size w W) (h : Gr) (B : Nat) (f : LGr W B g h) => keptGram_any g h B W f (hg.below b) h1 h2 h3)
  have HAT := Lib.hid (fun (W : World) (b : Below w.heap.size w W) (h : Gr) (B : Nat) (f : LGr W B g h) => show Gr.At W h ∧ Gr.In h ∧ Capd h from ⟨f.lies (hg.below b), f.twin.within hin, f.capd⟩)
  have RN := Lib.hid (fun (W : World) (b : Below w.heap.size w W) => r12Nodes_any g n hn W (hg.below b) hin)
  have RC := Lib.hid (fun (W : World) (b : Below w.heap.size w W) => r12Calls_any g n hn h1 W (hg.below b) hin)
  have NN := Lib.hid (fun (h : Gr) W (a : Gr.At W h) (b : Gr.In h) (c : Capd h) => lnodes_any h n hn W a b c)
  have NC := Lib.hid (fun (h : Gr) W (a : Gr.At W h) (b : Gr.In h) (c : Capd h) => lcalls_any h n hn W a b c)
  have NL := Lib.hid (at_lens g n)
  clear hg hin h1 h2 h3 hn
  show Calls Tryz.prog 10 #[.agg #[.slice g.RA g.rules.length g.rc, .slice g.NA g.nodes.length g.nc], .int .i64 n] w _
  go_enter Tryz.func10, Tryz.ntmps10
  go_upto_region 2 with (first | (go_at_call 28; (with_reducible refine (LG.out _ (B1 _ _)).mono ?_); rintro e w1 ⟨⟨h, rfl, hl⟩, hb⟩; have HL1 := Lib.hid hl; have KB1 := Lib.hid ((Blk.new w #[.slice g.RA g.rules.length g.rc, .slice g.NA g.nodes.length g.nc] 25).below' hb); have H1 := Lib.hid (bb (B1 w _) hb); have HS1 := Lib.hid hb.size; clear hl hb) | (refine wpList_store_whole rfl 25 (.tmp 5) (.tmp 11) rfl w1.heap.size #[.slice h.RA h.rules.length h.rc, .slice h.NA h.nodes.length h.nc] rfl rfl 25 _ (Blk.new _ _ _) (by kernel_rfl) (by rfl) (by simp [Value.oneCell']) ?_; intro w2 hk2 hg2; have B12 := Lib.hid (grown_below (B1 w1 _) (by simp) hg2 (fun k e => by cases e; exact Nat.le_refl _)); have H2 := Lib.hid (bb H1.out B12.out); have KP := Lib.hid hk2; have KB := Lib.hid (KB1.out.below' B12.out); have HL2 := Lib.hid (HL1.out.below B12.out); clear hk2 hg2))
  obtain ⟨pb, epb⟩ : ∃ pb, pb = w1.heap.size := ⟨_, rfl⟩
  rw [← epb]
  have KP2 : RowKit.Hid (Blk w2 pb #[.slice h.RA h.rules.length h.rc, .slice h.NA h.nodes.length h.nc] 25) := Lib.hid (by rw [epb]; exact KP.out)
  have TW := Lib.hid HL2.out.twin
  obtain ⟨t1, t2⟩ := twin_at TW.out n
  have CN : RowKit.Hid (∀ W, Below w2.heap.size w2 W → Calls Tryz.prog 29 #[.agg #[.slice h.RA h.rules.length h.rc, .slice h.NA h.nodes.length h.nc], .int .i64 n] W (RowI W (nodesAt g n))) := Lib.hid (fun W b => by
    obtain ⟨a1, a2, a3⟩ := HAT.out W (bb H2.out b) h _ (HL2.out.below b)
    have := NN.out h W a1 a2 a3
    rw [t1] at this
    exact this)
  have CC : RowKit.Hid (∀ W, Below w2.heap.size w2 W → Calls Tryz.prog 30 #[.agg #[.slice h.RA h.rules.length h.rc, .slice h.NA h.nodes.length h.nc], .int .i64 n] W (Row W (callsAt g n))) := Lib.hid (fun W b => by
    obtain ⟨a1, a2, a3⟩ := HAT.out W (bb H2.out b) h _ (HL2.out.below b)
    have := NC.out h W a1 a2 a3
    rw [t2] at this
    exact this)
  have KH := Lib.hid (fun W (b : Below w2.heap.size w2 W) => show Calls Tryz.prog 33 #[.agg #[.slice h.RA h.rules.length h.rc, .slice h.NA h.nodes.length h.nc], .agg #[.slice g.RA g.rules.length g.rc, .slice g.NA g.nodes.length g.nc]] W fun e w' => e = .returned (.bool true) ∧ Below W.heap.size W w' from KG.out W (bb H2.out b) h _ (HL2.out.below b))
  generalize nodesAt g n = L at CN RN NL
  generalize callsAt g n = M at CC RC NL
  clear t1 t2 epb KP LG KG HAT NN NC
  have k0 : (World.drew w2).cell? ⟨pb, 0, none⟩ = some (.slice h.RA h.rules.length h.rc) := KP2.out.cell 0
  have k1 : (World.drew w2).cell? ⟨pb, 1, none⟩ = some (.slice h.NA h.nodes.length h.nc) := KP2.out.cell 1
  go_region_held3 (fun W => W.cell? ⟨pb, 0, none⟩ = some (.slice h.RA h.rules.length h.rc) ∧ W.cell? ⟨pb, 1, none⟩ = some (.slice h.NA h.nodes.length h.nc) ∧ Below w2.heap.size w2 W) (first | exact ⟨k0, k1, bdrew1 (Below.refl _ _)⟩ | exact ⟨d0, d1, Hd⟩ | exact ⟨c0, c1, Hc⟩ | exact ⟨b0, b1, Hb⟩ | exact ⟨a0, a1, Ha⟩) (first | (go_at_call 30; (with_reducible refine (CC.out _ (by exact Hc)).mono ?_); rintro e wd ⟨⟨vd, rfl, hod, _⟩, hbd⟩; have Od := Lib.hid hod; have Ed := Lib.hid hbd; have Hd : Below w2.heap.size w2 wd := bb Hc hbd; have d0 := (KP2.out.below' Hd).cell 0; have d1 := (KP2.out.below' Hd).cell 1; simp only [List.getElem?_toArray, List.getElem?_cons_zero, List.getElem?_cons_succ] at d0 d1; clear hod hbd) | (go_at_call 29; (with_reducible refine (CN.out _ (by exact Hb)).mono ?_); rintro e wc ⟨⟨vc, rfl, hoc, _⟩, hbc⟩; have Oc := Lib.hid hoc; have Ec := Lib.hid hbc; have Hc : Below w2.heap.size w2 wc := bb Hb hbc; have c0 := (KP2.out.below' Hc).cell 0; have c1 := (KP2.out.below' Hc).cell 1; simp only [List.getElem?_toArray, List.getElem?_cons_zero, List.getElem?_cons_succ] at c0 c1; clear hoc hbc) | (go_at_call 30; (with_reducible refine (CC.out _ (by exact Ha)).mono ?_); rintro e wb ⟨⟨vb, rfl, hob, _⟩, hbb⟩; have Ob := Lib.hid hob; have Eb := Lib.hid hbb; have Hb : Below w2.heap.size w2 wb := bb Ha hbb; have b0 := (KP2.out.below' Hb).cell 0; have b1 := (KP2.out.below' Hb).cell 1; simp only [List.getElem?_toArray, List.getElem?_cons_zero, List.getElem?_cons_succ] at b0 b1; clear hob hbb) | (go_at_call 29; (with_reducible refine (CN.out _ (by exact (bdrew1 (Below.refl _ _)))).mono ?_); rintro e wa ⟨⟨va, rfl, hoa, _⟩, hba⟩; have Oa := Lib.hid hoa; have Ea := Lib.hid hba; have Ha : Below w2.heap.size w2 wa := bb (bdrew1 (Below.refl _ _)) hba; have a0 := (KP2.out.below' Ha).cell 0; have a1 := (KP2.out.below' Ha).cell 1; simp only [List.getElem?_toArray, List.getElem?_cons_zero, List.getElem?_cons_succ] at a0 a1; clear hoa hba))
  all_goals (
    clear k0 k1 a0 a1 b0 b1 c0 c1 d0 d1
    have Hab := Ea.out.size
    have Hbc := Eb.out.size
    have Hcd := Ec.out.size
    have Hde := Ed.out.size
    have hsz : w2.heap.size ≤ wa.heap.size := Hab
    obtain ⟨Aa, ca, rfl, _, _⟩ := own_slice Oa.out
    obtain ⟨Ab, cb, rfl, _, _⟩ := own_slice Ob.out
    obtain ⟨Ac, cc, rfl, _, _⟩ := own_slice Oc.out
    obtain ⟨Ad, cd, rfl, _, _⟩ := own_slice Od.out
    have oa := own_below (own_below (own_below Oa.out Eb.out) Ec.out) Ed.out
    have ob := own_lower (base' := w2.heap.size) (own_below (own_below Ob.out Ec.out) Ed.out) hsz
    have oc := own_lower (base' := w2.heap.size) (own_below Oc.out Ed.out) (by omega)
    have od := own_lower (base' := w2.heap.size) Od.out (by omega)
    have nlM : (nums M).length = M.length := nums_len M
    obtain ⟨fr, fa⟩ := four_apartI (L := L) (M := nums M) (B := w2.heap.size) oa (by rw [nlM]; exact ob) oc (by rw [nlM]; exact od) (fun q e => (Oa.out.lt q e).2) (fun q e => Ob.out.lt q e) (fun q e => Oc.out.lt q e) (fun q e => (Od.out.lt q e).1) Hbc Hcd
    have FR := Lib.hid fr
    have FA := Lib.hid fa
    have D2 := Lib.hid Hd
    have oa2 : wd.ownsRow w2.heap.size 3 1 _ _ _ := oa
    have OA := Lib.hid oa2
    have OB := Lib.hid ob
    have HSD := Lib.hid (show w2.heap.size ≤ wd.heap.size by omega)
    have NLM := Lib.hid nlM
    clear oa ob oc od fr fa Hab Hbc Hcd Hde hsz oa2 Oa Ob Oc Od Ea Eb Ec Ed Ha Hb Hc Hd CN CC nlM
    have tx0 := (KP2.out.below' D2.out).cell 0
    have tx1 := (KP2.out.below' D2.out).cell 1
    have ty0 := (KB.out.below' D2.out).cell 0
    have ty1 := (KB.out.below' D2.out).cell 1
    simp only [List.getElem?_toArray, List.getElem?_cons_zero, List.getElem?_cons_succ] at tx0 tx1 ty0 ty1
    go_wp2_with (first | (go_at_call 33; (with_reducible refine (KH.out _ H10).mono ?_); rintro e w11 ⟨rfl, hb11⟩; have H11 : Below w2.heap.size w2 w11 := bb H10 hb11; clear hb11; clear qx0 qx1 qy0 qy1) | (go_at_call 34; (with_reducible refine (apart_fourI (by exact H9.size) (fun k hk => own_below (FR.out k hk) D9) FA.out (by have := NL.out; rw [NLM.out]; omega)).mono ?_); rintro e w10 ⟨rfl, hb10⟩; have H10 : Below w2.heap.size w2 w10 := Below.trans H9 hb10; have qx0 := (KP2.out.below' H10).cell 0; have qx1 := (KP2.out.below' H10).cell 1; have qy0 := (KB.out.below' H10).cell 0; have qy1 := (KB.out.below' H10).cell 1; simp only [List.getElem?_toArray, List.getElem?_cons_zero, List.getElem?_cons_succ] at qx0 qx1 qy0 qy1; clear hb10) | (go_at_call 33; (with_reducible refine (KH.out _ H8).mono ?_); rintro e w9 ⟨rfl, hb9⟩; have D9 : Below wd.heap.size wd w9 := bb D8 hb9; have H9 : Below w2.heap.size w2 w9 := bb D2.out D9; clear hb9; clear rx0 rx1 ry0 ry1) | (go_at_call 24; (with_reducible refine S7.out.mono ?_); rintro e w8 ⟨rfl, hb8⟩; have D8 : Below wd.heap.size wd w8 := bb D7 hb8; have H8 : Below w2.heap.size w2 w8 := bb D2.out D8; have rx0 := (KP2.out.below' H8).cell 0; have rx1 := (KP2.out.below' H8).cell 1; have ry0 := (KB.out.below' H8).cell 0; have ry1 := (KB.out.below' H8).cell 1; simp only [List.getElem?_toArray, List.getElem?_cons_zero, List.getElem?_cons_succ] at rx0 rx1 ry0 ry1; clear hb8) | (go_at_call 32; (with_reducible refine (RC.out _ (bb H2.out H6)).mono ?_); rintro e w7 ⟨⟨v7, rfl, ho7⟩, hb7⟩; obtain ⟨A7, c7, rfl, _, _⟩ := own_slice ho7; have D7 : Below wd.heap.size wd w7 := bb D6 hb7; have H7 : Below w2.heap.size w2 w7 := bb D2.out D7; have S7 := Lib.hid (lsame_row Ab A7 cb c7 M (by have := NL.out; omega) w7 (own_lies1 (own_below OB.out D7)) (own_lies1 ho7)); clear ho7 hb7; clear sx0 sx1 sy0 sy1) | (go_at_call 24; (with_reducible refine S5.out.mono ?_); rintro e w6 ⟨rfl, hb6⟩; have D6 : Below wd.heap.size wd w6 := bb D5 hb6; have H6 : Below w2.heap.size w2 w6 := bb D2.out D6; have sx0 := (KP2.out.below' H6).cell 0; have sx1 := (KP2.out.below' H6).cell 1; have sy0 := (KB.out.below' H6).cell 0; have sy1 := (KB.out.below' H6).cell 1; simp only [List.getElem?_toArray, List.getElem?_cons_zero, List.getElem?_cons_succ] at sx0 sx1 sy0 sy1; clear hb6) | (go_at_call 31; (with_reducible refine (RN.out _ (bb H2.out D2.out)).mono ?_); rintro e w5 ⟨⟨A5, c5, rfl, ho5⟩, hb5⟩; have D5 : Below wd.heap.size wd w5 := hb5; have H5 : Below w2.heap.size w2 w5 := bb D2.out D5; have S5 := Lib.hid (lsame_self Aa A5 ca c5 L (by have := NL.out; omega) w5 (own_lies1 (own_below OA.out hb5)) (own_lies1 ho5)); clear ho5 hb5; clear tx0 tx1 ty0 ty1))
    go_ret
    exact ⟨rfl, bb H2.out H11⟩)
end Go.Proofs.YtlbjmkljmhfjdaaGreat
namespace Go.Proofs.YtlbjmkljmhfjdaaGreat
open Go Go.Proofs Go.RowKit Go.Lib Go.Maps
theorem own_high {w w' : World} {B0 B C e z n : Nat} {v : Value} {xs : List Value} (h : w.ownsRow B e z v n xs) (k : Kp B0 C w w') (hC : C ≤ B) : w'.ownsRow B e z v n xs :=
  own_kept h (fun q e => k.high q (by have := (h.lt q e).1; omega) (h.lt q e).2)
set_option maxRecDepth 100000 in
set_option maxHeartbeats 40000000 in
theorem lgoes_part (g : Gr) (i k : Int) (hi : -9223372036854775808 ≤ i ∧ i < 9223372036854775808) (hk : -9223372036854775808 ≤ k ∧ k < 9223372036854775808) (w : World) (hg : Gr.At w g) (hin : Gr.In g) (h1 : g.rules.length ≤ 100000) (h2 : g.nodes.length ≤ 100000) (h3 : ∀ x ∈ g.nodes, x.kids.length ≤ 100000) :
    Calls Tryz.prog 12 #[g.val, .int .i64 i, .int .i64 k] w fun e w' => e = .returned (.bool true) ∧ Below w.heap.size w w' := by
  have LG := Lib.hid (fun (W : World) (b : Below w.heap.size w W) => lentGram_any g W (hg.below b) h1 h2 h3)
  have KG := Lib.hid (fun (W : World) (b : Below w.heap.size w W) (h : Gr) (B : Nat) (f : LGr W B g h) => keptGram_any g h B W f (hg.below b) h1 h2 h3)
  have HAT := Lib.hid (fun (W : World) (b : Below w.heap.size w W) (h : Gr) (B : Nat) (f : LGr W B g h) => show Gr.At W h ∧ Gr.In h ∧ Capd h from ⟨f.lies (hg.below b), f.twin.within hin, f.capd⟩)
  have RG := Lib.hid (fun (W : World) (b : Below w.heap.size w W) => r12Graph_any g W (hg.below b) hin)
  have RT := Lib.hid (fun (W : World) (b : Below w.heap.size w W) => r12To_any g i hi W (hg.below b) hin)
  have RW := Lib.hid (fun (W : World) (b : Below w.heap.size w W) => r12Way_any g i k hi hk W (hg.below b) hin)
  have RO := Lib.hid (fun (W : World) (b : Below w.heap.size w W) => r12Goes_any g i hi W (hg.below b) hin)
  have NG := Lib.hid (fun (h : Gr) W (a : Gr.At W h) (b : Gr.In h) (c : Capd h) => graphX_any h W a b c)
  have NT := Lib.hid (fun (h : Gr) W (a : Gr.At W h) (b : Gr.In h) (c : Capd h) => to_any h i hi W a b c)
  have NW := Lib.hid (fun (h : Gr) W (a : Gr.At W h) (b : Gr.In h) (c : Capd h) => way_any h i k hi hk W a b c)
  have NO := Lib.hid (fun (h : Gr) W (a : Gr.At W h) (b : Gr.In h) (c : Capd h) => goes_any h i hi W a b c)
  have NL := Lib.hid (show (toOf g i).length ≤ 32 ∧ (wayOf g i k).length ≤ 2048 from ⟨toOf_len g i, by have := way_le g i k; omega⟩)
  have GL := Lib.hid (graphZ_lens g)
  clear hg hin h1 h2 h3 hi hk
  show Calls Tryz.prog 12 #[.agg #[.slice g.RA g.rules.length g.rc, .slice g.NA g.nodes.length g.nc], .int .i64 i, .int .i64 k] w _
  go_enter Tryz.func12, Tryz.ntmps12
  go_upto_region 2 with (first | (go_at_call 28; (with_reducible refine (LG.out _ (B1 _ _)).mono ?_); rintro e w1 ⟨⟨h, rfl, hl⟩, hb⟩; have HL1 := Lib.hid hl; have KB1 := Lib.hid ((Blk.new w #[.slice g.RA g.rules.length g.rc, .slice g.NA g.nodes.length g.nc] 25).below' hb); have H1 := Lib.hid (bb (B1 w _) hb); have HS1 := Lib.hid hb.size; clear hl hb) | (refine wpList_store_whole rfl 25 (.tmp 7) (.tmp 15) rfl w1.heap.size #[.slice h.RA h.rules.length h.rc, .slice h.NA h.nodes.length h.nc] rfl rfl 25 _ (Blk.new _ _ _) (by kernel_rfl) (by rfl) (by simp [Value.oneCell']) ?_; intro w2 hk2 hg2; have B12 := Lib.hid (grown_below (B1 w1 _) (by simp) hg2 (fun k e => by cases e; exact Nat.le_refl _)); have H2 := Lib.hid (bb H1.out B12.out); have KP := Lib.hid hk2; have KB := Lib.hid (KB1.out.below' B12.out); have HL2 := Lib.hid (HL1.out.below B12.out); clear hk2 hg2))
  obtain ⟨pb, epb⟩ : ∃ pb, pb = w1.heap.size := ⟨_, rfl⟩
  rw [← epb]
  have KP2 : RowKit.Hid (Blk w2 pb #[.slice h.RA h.rules.length h.rc, .slice h.NA h.nodes.length h.nc] 25) := Lib.hid (by rw [epb]; exact KP.out)
  have TW := Lib.hid HL2.out.twin
  obtain ⟨t1, t2, t3, t4⟩ := twin_left TW.out i k
  have CG : RowKit.Hid (∀ W, Below w2.heap.size w2 W → Calls Tryz.prog 23 #[.agg #[.slice h.RA h.rules.length h.rc, .slice h.NA h.nodes.length h.nc]] W (fun e w' => (∃ X, e = .returned (.slice X (graphZ g).length (graphZ g).length) ∧ GXP W w' X (graphZ g)) ∧ Below W.heap.size W w')) := Lib.hid (fun W b => by
    obtain ⟨a1, a2, a3⟩ := HAT.out W (bb H2.out b) h _ (HL2.out.below b)
    have := NG.out h W a1 a2 a3
    rw [t1] at this
    exact this)
  have CT : RowKit.Hid (∀ W, Below w2.heap.size w2 W → Calls Tryz.prog 25 #[.agg #[.slice h.RA h.rules.length h.rc, .slice h.NA h.nodes.length h.nc], .int .i64 i] W (Row W (toOf g i))) := Lib.hid (fun W b => by
    obtain ⟨a1, a2, a3⟩ := HAT.out W (bb H2.out b) h _ (HL2.out.below b)
    have := NT.out h W a1 a2 a3
    rw [t2] at this
    exact this)
  have CW : RowKit.Hid (∀ W, Below w2.heap.size w2 W → Calls Tryz.prog 27 #[.agg #[.slice h.RA h.rules.length h.rc, .slice h.NA h.nodes.length h.nc], .int .i64 i, .int .i64 k] W (Row W (wayOf g i k))) := Lib.hid (fun W b => by
    obtain ⟨a1, a2, a3⟩ := HAT.out W (bb H2.out b) h _ (HL2.out.below b)
    have := NW.out h W a1 a2 a3
    rw [t3] at this
    exact this)
  have CO : RowKit.Hid (∀ W, Below w2.heap.size w2 W → Calls Tryz.prog 26 #[.agg #[.slice h.RA h.rules.length h.rc, .slice h.NA h.nodes.length h.nc], .int .i64 i] W (fun e w' => e = .returned (.bool (goesB g i)) ∧ Below W.heap.size W w')) := Lib.hid (fun W b => by
    obtain ⟨a1, a2, a3⟩ := HAT.out W (bb H2.out b) h _ (HL2.out.below b)
    have := NO.out h W a1 a2 a3
    rw [t4] at this
    exact this)
  have KH := Lib.hid (fun W (b : Below w2.heap.size w2 W) => show Calls Tryz.prog 33 #[.agg #[.slice h.RA h.rules.length h.rc, .slice h.NA h.nodes.length h.nc], .agg #[.slice g.RA g.rules.length g.rc, .slice g.NA g.nodes.length g.nc]] W fun e w' => e = .returned (.bool true) ∧ Below W.heap.size W w' from KG.out W (bb H2.out b) h _ (HL2.out.below b))
  generalize graphZ g = G at CG RG GL
  generalize toOf g i = L at CT RT NL
  generalize wayOf g i k = M at CW RW NL
  generalize goesB g i = gb at CO RO
  clear t1 t2 t3 t4 epb KP LG KG HAT NG NT NW NO
  have k0 : (World.drew w2).cell? ⟨pb, 0, none⟩ = some (.slice h.RA h.rules.length h.rc) := KP2.out.cell 0
  have k1 : (World.drew w2).cell? ⟨pb, 1, none⟩ = some (.slice h.NA h.nodes.length h.nc) := KP2.out.cell 1
  go_region_held3 (fun W => W.cell? ⟨pb, 0, none⟩ = some (.slice h.RA h.rules.length h.rc) ∧ W.cell? ⟨pb, 1, none⟩ = some (.slice h.NA h.nodes.length h.nc) ∧ Below w2.heap.size w2 W) (first | exact ⟨k0, k1, bdrew1 (Below.refl _ _)⟩ | exact ⟨b0, b1, Hb⟩ | exact ⟨a0, a1, Ha⟩) (first | (go_at_call 23; (with_reducible refine (CG.out _ (by exact Ha)).mono ?_); rintro e wb ⟨⟨Xb, rfl, hxb⟩, hbb⟩; have Gb := Lib.hid hxb; have Eb := Lib.hid hbb; have Hb : Below w2.heap.size w2 wb := bb Ha hbb; have b0 := (KP2.out.below' Hb).cell 0; have b1 := (KP2.out.below' Hb).cell 1; simp only [List.getElem?_toArray, List.getElem?_cons_zero, List.getElem?_cons_succ] at b0 b1; clear hxb hbb) | (go_at_call 23; (with_reducible refine (CG.out _ (by exact (bdrew1 (Below.refl _ _)))).mono ?_); rintro e wa ⟨⟨Xa, rfl, hxa⟩, hba⟩; have Ga := Lib.hid hxa; have Ea := Lib.hid hba; have Ha : Below w2.heap.size w2 wa := bb (bdrew1 (Below.refl _ _)) hba; have a0 := (KP2.out.below' Ha).cell 0; have a1 := (KP2.out.below' Ha).cell 1; simp only [List.getElem?_toArray, List.getElem?_cons_zero, List.getElem?_cons_succ] at a0 a1; clear hxa hba))
  have D1 := Lib.hid Hb
  clear k0 k1 a0 a1 b0 b1 Ha Hb
  have k0 : (World.drew wb).cell? ⟨pb, 0, none⟩ = some (.slice h.RA h.rules.length h.rc) := (KP2.out.below' D1.out).cell 0
  have k1 : (World.drew wb).cell? ⟨pb, 1, none⟩ = some (.slice h.NA h.nodes.length h.nc) := (KP2.out.below' D1.out).cell 1
  go_upto_region 3 with fail
  go_region_held3 (fun W => W.cell? ⟨pb, 0, none⟩ = some (.slice h.RA h.rules.length h.rc) ∧ W.cell? ⟨pb, 1, none⟩ = some (.slice h.NA h.nodes.length h.nc) ∧ Below w2.heap.size w2 W) (first | exact ⟨k0, k1, bdrew1 D1.out⟩ | exact ⟨s0, s1, Hs⟩ | exact ⟨r0, r1, Hr⟩ | exact ⟨d0, d1, Hd⟩ | exact ⟨c0, c1, Hc⟩) (first | (go_at_call 27; (with_reducible refine (CW.out _ (by exact Hr)).mono ?_); rintro e ws ⟨⟨vs, rfl, hos, _⟩, hbs⟩; have Os := Lib.hid hos; have Es := Lib.hid hbs; have Hs : Below w2.heap.size w2 ws := bb Hr hbs; have s0 := (KP2.out.below' Hs).cell 0; have s1 := (KP2.out.below' Hs).cell 1; simp only [List.getElem?_toArray, List.getElem?_cons_zero, List.getElem?_cons_succ] at s0 s1; clear hos hbs) | (go_at_call 25; (with_reducible refine (CT.out _ (by exact Hd)).mono ?_); rintro e wr ⟨⟨vr, rfl, hor, _⟩, hbr⟩; have Or := Lib.hid hor; have Er := Lib.hid hbr; have Hr : Below w2.heap.size w2 wr := bb Hd hbr; have r0 := (KP2.out.below' Hr).cell 0; have r1 := (KP2.out.below' Hr).cell 1; simp only [List.getElem?_toArray, List.getElem?_cons_zero, List.getElem?_cons_succ] at r0 r1; clear hor hbr) | (go_at_call 27; (with_reducible refine (CW.out _ (by exact Hc)).mono ?_); rintro e wd ⟨⟨vd, rfl, hod, _⟩, hbd⟩; have Od := Lib.hid hod; have Ed := Lib.hid hbd; have Hd : Below w2.heap.size w2 wd := bb Hc hbd; have d0 := (KP2.out.below' Hd).cell 0; have d1 := (KP2.out.below' Hd).cell 1; simp only [List.getElem?_toArray, List.getElem?_cons_zero, List.getElem?_cons_succ] at d0 d1; clear hod hbd) | (go_at_call 25; (with_reducible refine (CT.out _ (by exact (bdrew1 D1.out))).mono ?_); rintro e wc ⟨⟨vc, rfl, hoc, _⟩, hbc⟩; have Oc := Lib.hid hoc; have Ec := Lib.hid hbc; have Hc : Below w2.heap.size w2 wc := bb (bdrew1 D1.out) hbc; have c0 := (KP2.out.below' Hc).cell 0; have c1 := (KP2.out.below' Hc).cell 1; simp only [List.getElem?_toArray, List.getElem?_cons_zero, List.getElem?_cons_succ] at c0 c1; clear hoc hbc))
  clear k0 k1 c0 c1 d0 d1 r0 r1 s0 s1
  have Hbc := Ec.out.size
  have Hcd := Ed.out.size
  have Hdr := Er.out.size
  have Hrs := Es.out.size
  have hsz : wb.heap.size ≤ wc.heap.size := Hbc
  obtain ⟨Ac, cc, rfl, _, _⟩ := own_slice Oc.out
  obtain ⟨Ad, cd, rfl, _, _⟩ := own_slice Od.out
  obtain ⟨Ar, cr, rfl, _, _⟩ := own_slice Or.out
  obtain ⟨As, cs, rfl, _, _⟩ := own_slice Os.out
  have oa : ws.ownsRow wb.heap.size 3 1 (.slice Ac L.length cc) L.length (ints (nums L)) := own_below (own_below (own_below Oc.out Ed.out) Er.out) Es.out
  have ob := own_lower (base' := wb.heap.size) (own_below (own_below Od.out Er.out) Es.out) hsz
  have oc := own_lower (base' := wb.heap.size) (own_below Or.out Es.out) (by omega)
  have od := own_lower (base' := wb.heap.size) Os.out (by omega)
  obtain ⟨fr, fa⟩ := four_apart (B := wb.heap.size) oa ob oc od (fun q e => (Oc.out.lt q e).2) (fun q e => Od.out.lt q e) (fun q e => Or.out.lt q e) (fun q e => (Os.out.lt q e).1) Hcd Hdr
  have FR := Lib.hid fr
  have FA := Lib.hid fa
  have D2 := Lib.hid Hs
  have OA := Lib.hid oa
  have OB := Lib.hid ob
  have HSD := Lib.hid (show wb.heap.size ≤ ws.heap.size by omega)
  have BS := Lib.hid (show Below wb.heap.size wb ws from (show Below wb.heap.size wb wc from (bdrew1 (Below.refl _ _)).trans Ec.out).trans ((Ed.out.trans ((Er.out.trans (Es.out.mono Hdr)).mono Hcd)).mono hsz))
  have GAH := Lib.hid Ga.out
  have GBH := Lib.hid Gb.out
  clear oa ob oc od fr fa Hbc Hcd Hdr Hrs hsz Oc Od Or Os Ec Ed Er Es Hc Hd Hr Hs CG CT CW
  have tx0 : (World.drew ws).cell? ⟨pb, 0, none⟩ = some (.slice h.RA h.rules.length h.rc) := (KP2.out.below' D2.out).cell 0
  have tx1 : (World.drew ws).cell? ⟨pb, 1, none⟩ = some (.slice h.NA h.nodes.length h.nc) := (KP2.out.below' D2.out).cell 1
  have ty0 : (World.drew ws).cell? ⟨w.heap.size, 0, none⟩ = some (.slice g.RA g.rules.length g.rc) := (KB.out.below' D2.out).cell 0
  have ty1 : (World.drew ws).cell? ⟨w.heap.size, 1, none⟩ = some (.slice g.NA g.nodes.length g.nc) := (KB.out.below' D2.out).cell 1
  have qb : (gb != gb) = false := by simp
  have hne1 : ¬ gb ≠ gb := by simp
  go_upto_region 4 with fail
  go_region_held3 (fun W => W.cell? ⟨pb, 0, none⟩ = some (.slice h.RA h.rules.length h.rc) ∧ W.cell? ⟨pb, 1, none⟩ = some (.slice h.NA h.nodes.length h.nc) ∧ W.cell? ⟨w.heap.size, 0, none⟩ = some (.slice g.RA g.rules.length g.rc) ∧ W.cell? ⟨w.heap.size, 1, none⟩ = some (.slice g.NA g.nodes.length g.nc) ∧ Below w2.heap.size w2 W) (first | exact ⟨tx0, tx1, ty0, ty1, bdrew1 D2.out⟩ | exact ⟨z9x0, z9x1, z9y0, z9y1, H9⟩ | exact ⟨z8x0, z8x1, z8y0, z8y1, H8⟩ | exact ⟨z7x0, z7x1, z7y0, z7y1, H7⟩ | exact ⟨z6x0, z6x1, z6y0, z6y1, H6⟩ | exact ⟨z5x0, z5x1, z5y0, z5y1, H5⟩ | exact ⟨z4x0, z4x1, z4y0, z4y1, H4⟩ | exact ⟨z3x0, z3x1, z3y0, z3y1, H3⟩ | exact ⟨z2x0, z2x1, z2y0, z2y1, H2z⟩ | exact ⟨z1x0, z1x1, z1y0, z1y1, H1z⟩) (first | (go_at_call 33; (with_reducible refine (KH.out _ H8).mono ?_); rintro e z9 ⟨rfl, hz9⟩; have J9 : Below ws.heap.size ws z9 := bb J8 hz9; have H9 : Below w2.heap.size w2 z9 := bb D2.out J9; have z9x0 := (KP2.out.below' H9).cell 0; have z9x1 := (KP2.out.below' H9).cell 1; have z9y0 := (KB.out.below' H9).cell 0; have z9y1 := (KB.out.below' H9).cell 1; simp only [List.getElem?_toArray, List.getElem?_cons_zero, List.getElem?_cons_succ] at z9x0 z9x1 z9y0 z9y1; clear hz9) | (go_at_call 24; (with_reducible refine (S8.out).mono ?_); rintro e z8 ⟨rfl, hz8⟩; have J8 : Below ws.heap.size ws z8 := bb J7 hz8; have H8 : Below w2.heap.size w2 z8 := bb D2.out J8; have z8x0 := (KP2.out.below' H8).cell 0; have z8x1 := (KP2.out.below' H8).cell 1; have z8y0 := (KB.out.below' H8).cell 0; have z8y1 := (KB.out.below' H8).cell 1; simp only [List.getElem?_toArray, List.getElem?_cons_zero, List.getElem?_cons_succ] at z8x0 z8x1 z8y0 z8y1; clear hz8) | (go_at_call 39; (with_reducible refine (RW.out _ (bb H2.out H6)).mono ?_); rintro e z7 ⟨⟨v7, rfl, ho7⟩, hz7⟩; have J7 : Below ws.heap.size ws z7 := bb J6 hz7; have H7 : Below w2.heap.size w2 z7 := bb D2.out J7; have z7x0 := (KP2.out.below' H7).cell 0; have z7x1 := (KP2.out.below' H7).cell 1; have z7y0 := (KB.out.below' H7).cell 0; have z7y1 := (KB.out.below' H7).cell 1; simp only [List.getElem?_toArray, List.getElem?_cons_zero, List.getElem?_cons_succ] at z7x0 z7x1 z7y0 z7y1; obtain ⟨A7, c7, rfl, _, _⟩ := own_slice ho7; have S8 := Lib.hid (lsame_row Ad A7 cd c7 M (by have := NL.out; omega) z7 (own_lies1 (own_below OB.out J7)) (own_lies1 ho7)); clear ho7; clear hz7) | (go_at_call 38; (with_reducible refine (RO.out _ (bb H2.out H5)).mono ?_); rintro e z6 ⟨rfl, hz6⟩; have J6 : Below ws.heap.size ws z6 := bb J5 hz6; have H6 : Below w2.heap.size w2 z6 := bb D2.out J6; have z6x0 := (KP2.out.below' H6).cell 0; have z6x1 := (KP2.out.below' H6).cell 1; have z6y0 := (KB.out.below' H6).cell 0; have z6y1 := (KB.out.below' H6).cell 1; simp only [List.getElem?_toArray, List.getElem?_cons_zero, List.getElem?_cons_succ] at z6x0 z6x1 z6y0 z6y1; clear hz6) | (go_at_call 26; (with_reducible refine (CO.out _ H4).mono ?_); rintro e z5 ⟨rfl, hz5⟩; have J5 : Below ws.heap.size ws z5 := bb J4 hz5; have H5 : Below w2.heap.size w2 z5 := bb D2.out J5; have z5x0 := (KP2.out.below' H5).cell 0; have z5x1 := (KP2.out.below' H5).cell 1; have z5y0 := (KB.out.below' H5).cell 0; have z5y1 := (KB.out.below' H5).cell 1; simp only [List.getElem?_toArray, List.getElem?_cons_zero, List.getElem?_cons_succ] at z5x0 z5x1 z5y0 z5y1; clear hz5) | (go_at_call 24; (with_reducible refine (S4.out).mono ?_); rintro e z4 ⟨rfl, hz4⟩; have J4 : Below ws.heap.size ws z4 := bb J3 hz4; have H4 : Below w2.heap.size w2 z4 := bb D2.out J4; have z4x0 := (KP2.out.below' H4).cell 0; have z4x1 := (KP2.out.below' H4).cell 1; have z4y0 := (KB.out.below' H4).cell 0; have z4y1 := (KB.out.below' H4).cell 1; simp only [List.getElem?_toArray, List.getElem?_cons_zero, List.getElem?_cons_succ] at z4x0 z4x1 z4y0 z4y1; clear hz4) | (go_at_call 37; (with_reducible refine (RT.out _ (bb H2.out H2z)).mono ?_); rintro e z3 ⟨⟨v3, rfl, ho3⟩, hz3⟩; have J3 : Below ws.heap.size ws z3 := bb J2 hz3; have H3 : Below w2.heap.size w2 z3 := bb D2.out J3; have z3x0 := (KP2.out.below' H3).cell 0; have z3x1 := (KP2.out.below' H3).cell 1; have z3y0 := (KB.out.below' H3).cell 0; have z3y1 := (KB.out.below' H3).cell 1; simp only [List.getElem?_toArray, List.getElem?_cons_zero, List.getElem?_cons_succ] at z3x0 z3x1 z3y0 z3y1; obtain ⟨A3, c3, rfl, _, _⟩ := own_slice ho3; have S4 := Lib.hid (lsame_row Ac A3 cc c3 L (by have := NL.out; omega) z3 (own_lies1 (own_below OA.out J3)) (own_lies1 ho3)); clear ho3; clear hz3) | (go_at_call 35; (with_reducible refine (S2.out).mono ?_); rintro e z2 ⟨rfl, hz2⟩; have J2 : Below ws.heap.size ws z2 := bb J1 hz2; have H2z : Below w2.heap.size w2 z2 := bb D2.out J2; have z2x0 := (KP2.out.below' H2z).cell 0; have z2x1 := (KP2.out.below' H2z).cell 1; have z2y0 := (KB.out.below' H2z).cell 0; have z2y1 := (KB.out.below' H2z).cell 1; simp only [List.getElem?_toArray, List.getElem?_cons_zero, List.getElem?_cons_succ] at z2x0 z2x1 z2y0 z2y1; clear hz2) | (go_at_call 36; (with_reducible refine (RG.out _ (bb H2.out (bdrew1 D2.out))).mono ?_); rintro e z1 ⟨⟨A1, c1, rfl, hx1⟩, hz1⟩; have J1 : Below ws.heap.size ws z1 := bb (bdrew1 (Below.refl _ _)) hz1; have H1z : Below w2.heap.size w2 z1 := bb D2.out J1; have z1x0 := (KP2.out.below' H1z).cell 0; have z1x1 := (KP2.out.below' H1z).cell 1; have z1y0 := (KB.out.below' H1z).cell 0; have z1y1 := (KB.out.below' H1z).cell 1; simp only [List.getElem?_toArray, List.getElem?_cons_zero, List.getElem?_cons_succ] at z1x0 z1x1 z1y0 z1y1; have S2 := Lib.hid (rr_same G GL.out.1 GL.out.2 Xa A1 G.length c1 z1 ((GAH.out.rr.below (bb (GBH.out.low) BS.out)).below J1) hx1); clear hx1; clear hz1))
  all_goals (
    clear tx0 tx1 ty0 ty1 z1x0 z1x1 z1y0 z1y1 z2x0 z2x1 z2y0 z2y1 z3x0 z3x1 z3y0 z3y1 z4x0 z4x1 z4y0 z4y1 z5x0 z5x1 z5y0 z5y1 z6x0 z6x1 z6y0 z6y1 z7x0 z7x1 z7y0 z7y1 z8x0 z8x1 z8y0 z8y1
    have BW9 := Lib.hid (BS.out.trans (J9.mono HSD.out))
    have HS9 := Lib.hid (show w2.heap.size ≤ wb.heap.size from D1.out.size)
    go_wp2_with (first | (go_at_call 33; (with_reducible refine (KH.out _ H11).mono ?_); rintro e z12 ⟨rfl, hz12⟩; have H12 : Below w2.heap.size w2 z12 := bb H11 hz12; clear hz12) | (go_at_call 34; (with_reducible refine (apart_four (by have h1 := BW9.out.size; have h2 := K10.out.low.size; omega) (fun j hj => own_high (own_below (FR.out j hj) J9) K10.out (Nat.le_refl _)) FA.out NL.out).mono ?_); rintro e z11 ⟨rfl, hz11⟩; have H11 : Below w2.heap.size w2 z11 := H10.trans (hz11.mono HS9.out); have ux0 := (KP2.out.below' H11).cell 0; have ux1 := (KP2.out.below' H11).cell 1; have uy0 := (KB.out.below' H11).cell 0; have uy1 := (KB.out.below' H11).cell 1; simp only [List.getElem?_toArray, List.getElem?_cons_zero, List.getElem?_cons_succ] at ux0 ux1 uy0 uy1; clear hz11) | (go_at_call 40; (with_reducible refine (apart_xy ⟨by decide, by decide⟩ GAH.out (Below.refl _ _) GBH.out BW9.out GL.out.1 GL.out.2).mono ?_); rintro e z10 ⟨rfl, hk10⟩; have K10 := Lib.hid hk10; have H10 : Below w2.heap.size w2 z10 := H9.trans hk10.low; have qx0 := (KP2.out.below' H10).cell 0; have qx1 := (KP2.out.below' H10).cell 1; have qy0 := (KB.out.below' H10).cell 0; have qy1 := (KB.out.below' H10).cell 1; simp only [List.getElem?_toArray, List.getElem?_cons_zero, List.getElem?_cons_succ] at qx0 qx1 qy0 qy1; clear hk10))
    go_ret
    exact ⟨rfl, bb H2.out H12⟩)
end Go.Proofs.YtlbjmkljmhfjdaaGreat
namespace Go.Proofs.YtlbjmkljmhfjdaaGreat
open Go Go.Proofs Go.RowKit Go.Lib Go.Maps
def pk (x n : Int) : Int := if n < 1 then 0 else x % n
theorem pk_in (x : Int) (n : Nat) (hn : n ≤ 1000000) : -9223372036854775808 ≤ pk x n ∧ pk x n < 9223372036854775808 := by
  unfold pk
  split
  · omega
  · have h1 := Int.emod_nonneg x (show (n : Int) ≠ 0 by omega)
    have h2 := Int.emod_lt_of_pos x (show (0 : Int) < n by omega)
    omega
theorem pk_any (x : Int) (hx : -9223372036854775808 ≤ x ∧ x < 9223372036854775808) (n : Nat) (hn : n ≤ 1000000) (w : World) :
    Calls Tryz.prog 11 #[.int .i64 x, .int .i64 n] w fun e w' => e = .returned (.int .i64 (pk x n)) ∧ Below w.heap.size w w' := by
  by_cases h : 1 ≤ n
  · refine (pick_any x n hx (by omega) w).mono ?_
    rintro e w' ⟨rfl, rfl⟩
    exact ⟨by unfold pk; rw [if_neg (by omega)], Below.refl _ _⟩
  · obtain rfl : n = 0 := by omega
    have e : pk x ((0 : Nat) : Int) = 0 := rfl
    rw [e]
    go_enter Tryz.func11, Tryz.ntmps11
    go_wp2_with fail
    go_ret
    exact ⟨rfl, Below.refl _ _⟩
end Go.Proofs.YtlbjmkljmhfjdaaGreat
namespace Go.Proofs.YtlbjmkljmhfjdaaGreat
open Go Go.Proofs Go.RowKit Go.Lib Go.Maps
set_option maxRecDepth 100000 in
set_option maxHeartbeats 8000000 in
theorem leftGoes_law (g : Gr) (n i : Int) (hn : -9223372036854775808 ≤ n ∧ n < 9223372036854775808) (hi : -9223372036854775808 ≤ i ∧ i < 9223372036854775808) (w : World) (hg : Gr.At w g) (hin : Gr.In g) :
    Calls Tryz.prog 4 #[g.val, .int .i64 n, .int .i64 i] w fun e w' => e = .returned (.bool true) ∧ Below w.heap.size w w' := by
  have SZ := Lib.hid (fun (W : World) (b : Below w.heap.size w W) => size12_all g W (hg.below b))
  have AWK := Lib.hid (fun W => lawake_any W)
  have TL := Lib.hid (fun (W : World) (b : Below w.heap.size w W) (a c : Int) ha hc h1 h2 h3 => lgoes_part g a c ha hc W (hg.below b) hin h1 h2 h3)
  have PN := Lib.hid (fun m hm W => pk_any n hn m hm W)
  have PI := Lib.hid (fun m hm W => pk_any i hi m hm W)
  have HN := Lib.hid hn
  have HI := Lib.hid hi
  clear hg hin hn hi
  show Calls Tryz.prog 4 #[.agg #[.slice g.RA g.rules.length g.rc, .slice g.NA g.nodes.length g.nc], .int .i64 n, .int .i64 i] w _
  go_enter Tryz.func4, Tryz.ntmps4
  go_wp2_with (first | (go_at_call 8; (with_reducible refine (SZ.out _ (B1 _ _)).mono ?_); rintro e w1 ⟨⟨z, rfl, hz⟩, hb⟩; have HZ := Lib.hid hz; have H1 := Lib.hid (bb (B1 w _) hb); have KB := Lib.hid ((Blk.new w #[.slice g.RA g.rules.length g.rc, .slice g.NA g.nodes.length g.nc] 25).below' hb); clear hb hz) | (go_at_call 9; (with_reducible refine (AWK.out _).mono ?_); rintro e w2 ⟨rfl, hb⟩; have H2 := Lib.hid (bb H1.out hb); clear hb))
  · go_ret
    exact ⟨rfl, H2.out⟩
  · have hz3 : z ≤ 300 := by assumption
    have HZ2 := Lib.hid (HZ.out hz3)
    have g0 := KB.out.cell 0
    have g1 := KB.out.cell 1
    simp only [List.getElem?_toArray, List.getElem?_cons_zero, List.getElem?_cons_succ] at g0 g1
    have f0 := fun (e : Ext w1) => Ext.cell g0 e
    have f1 := fun (e : Ext w1) => Ext.cell g1 e
    have hr : g.rules.length ≤ 1000 := by have := HZ2.out.1; omega
    have hnl : g.nodes.length ≤ 1000 := by have := HZ2.out.1; omega
    have hk : ∀ x ∈ g.nodes, x.kids.length ≤ 100000 := fun x hx => by have := HZ2.out.2 x hx; omega
    have P1 := Lib.hid (fun W => PN.out g.rules.length (by omega) W)
    have P2 := Lib.hid (fun W => PI.out g.rules.length (by omega) W)
    have T1 := Lib.hid (fun (e : Ext w1) => TL.out e.val (bb H1.out e.grown) n i HN.out HI.out (by omega) (by omega) hk)
    have T2 := Lib.hid (fun (e : Ext w1) => TL.out e.val (bb H1.out e.grown) (pk n g.rules.length) (pk i g.rules.length) (pk_in _ _ (by omega)) (pk_in _ _ (by omega)) (by omega) (by omega) hk)
    generalize pk n g.rules.length = pn at P1 T2
    generalize pk i g.rules.length = pi at P2 T2
    clear g0 g1 hr hnl hk
    go_wp2_with fail
    refine wp_region_ext (by kernel_rfl) (by kernel_rfl) ?_
    repeat (first | go_big_quiet_step ((first | (go_at_call 9; with_reducible exact Calls.ext_of (AWK.out _)) | (go_at_call 11; with_reducible exact Calls.ext_of (P1.out _)) | (go_at_call 11; with_reducible exact Calls.ext_of (P2.out _)) | (go_at_call 12; with_reducible exact Calls.ext_of (T1.out _)) | (go_at_call 12; with_reducible exact Calls.ext_of (T2.out _)))) | quiet_step ((first | (go_at_call 9; with_reducible exact Calls.ext_of (AWK.out _)) | (go_at_call 11; with_reducible exact Calls.ext_of (P1.out _)) | (go_at_call 11; with_reducible exact Calls.ext_of (P2.out _)) | (go_at_call 12; with_reducible exact Calls.ext_of (T1.out _)) | (go_at_call 12; with_reducible exact Calls.ext_of (T2.out _)))))
    refine wpQuiet_nil ?_
    intro w13 hw'
    obtain ⟨⟨_, hb13⟩, rfl⟩ := hw'
    have H13 := Lib.hid (bb H1.out hb13)
    clear hb13 f0 f1
    go_wp2_with fail
    go_ret
    exact ⟨rfl, H13.out⟩
end Go.Proofs.YtlbjmkljmhfjdaaGreat

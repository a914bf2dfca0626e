/- What is lent of a row of nodes. (Great seat.) -/
import Derived.Test.YtjelgmdjmjnnfaaGreatD5
import Derived.Test.YtjelgmdjmjnnfaaGreatD4
import Derived.Test.YtjelgmdjmjnnfaaGreatC3
set_option linter.unusedSimpArgs false
set_option linter.unusedVariables false
namespace Go.Proofs.YtjelgmdjmjnnfaaGreat
open Go Go.Proofs Go.RowKit Go.Lib Go.Maps
theorem ncells_apps : ∀ (a b : List Nd), ncells (a ++ b) = ncells a ++ ncells b
  | [], b => rfl
  | x :: a, b => by simp [ncells, ncells_apps a b]
/-- A lent node's kids: in a row of the call's own, marks behind them. -/
def LKid (w : World) (B : Nat) (x : Nd) : Prop := w.ownsRow B 3 1 (.slice x.A (x.kids.length + 12) x.cap) (x.kids.length + 12) (ints x.kids ++ marks 12)
theorem LKid.below {w w' : World} {B : Nat} {x : Nd} (h : LKid w B x) (hb : Below w.heap.size w w') : LKid w' B x := own_below h hb
theorem LKid.away {W W' : World} {B B' n' : Nat} {x : Nd} {v' : Value} {xs' : List Value} (h : LKid W B x) (h' : W.ownsRow B' 47 9 v' n' xs') (hg : W.grownBy W' v'.ownBlock) : LKid W' B x := own_awayX h h' (by decide) hg
/-- Lent nodes. -/
structure LNds (w : World) (B : Nat) (l cl : List Nd) (v : Value) (n : Nat) (more : List Nd) : Prop where
  len : cl.length = l.length
  twin : ∀ j, j < l.length → Twin (l.getD j Nd.zero) (cl.getD j Nd.zero)
  row : w.ownsRow B 47 9 v n (ncells cl ++ ncells more)
  kids : ∀ x ∈ cl, LKid w B x
def LentN (w : World) (B : Nat) (l : List Nd) (e : Ending) : Prop := ∃ A' c' cl, e = .returned (.slice A' l.length c') ∧ LNds w B l cl (.slice A' (l.length + 12) c') (l.length + 12) (marksN 12)
theorem LentN.mk {w : World} {B : Nat} {l : List Nd} {A' : Option Addr} {m c' : Nat} {cl : List Nd} (em : m = l.length) (h : LNds w B l cl (.slice A' (m + 12) c') (m + 12) (marksN 12)) : LentN w B l (.returned (.slice A' m c')) := by
  subst em
  exact ⟨A', c', cl, rfl, h⟩
set_option maxRecDepth 100000 in
set_option maxHeartbeats 8000000 in
theorem lentNodes_any (A : Option Addr) (l : List Nd) (c : Nat) (hl : l.length ≤ 100000) (w : World) (h : Nodes w A l) (hx : ∀ x ∈ l, Nd.At w x ∧ x.kids.length ≤ 100000) :
    Calls Tryz.prog 79 #[.slice A l.length c] w fun e w' => LentN w' w.heap.size l e ∧ Below w.heap.size w w' := by
  obtain ⟨i0, hi, hz0, hz1, hz2⟩ := info_parts Tryz.info47
  have HN := Lib.hid h
  have HX := Lib.hid hx
  obtain ⟨m, em⟩ : ∃ m, m = l.length := ⟨_, rfl⟩
  have EM := Lib.hid em
  rw [← em] at hl ⊢
  have MK := Lib.hid (fun i (hi : i < 12) w' => markNode_any i hi w')
  have hw12 : IntKind.i64.wrap ((m : Int) + 12) = (m : Int) + 12 := IntWalk.i64_in _ (by omega)
  have hmk : ∀ W : World, (Instr.makeSlice 23 (.int .i64 0) (.int .i64 ((m : Int) + 12))).run Tryz.prog W = .ok (.slice (some ⟨W.heap.size, 0, none⟩) 0 (m + 12)) (W.alloc (.cells (madeCells Nd.zero.val.cells ((m + 12) * 9)) 47)) := fun W => by
    have hr := run_make (P := Tryz.prog) W 23 47 i0 Nd.zero.val Tryz.underlying23 hi hz0 .i64 .i64 ((0 : Nat) : Int) ((m + 12 : Nat) : Int) (by omega) (by omega) (by rw [hz2]; omega) (by omega)
    rw [hz1, Int.toNat_natCast, Int.toNat_natCast, Int.natCast_add] at hr
    exact hr
  clear h hx em
  have hli : (m : Int) + 12 ≤ 100012 := by omega
  go_enter Tryz.func79, Tryz.ntmps79
  obtain ⟨ca, eca⟩ : ∃ ca, ca = madeCells Nd.zero.val.cells ((m + 12) * 9) := ⟨_, rfl⟩
  have hcs : ca.size = (m + 12) * 9 := by rw [eca]; simp [madeCells]
  rw [← eca] at hmk
  have OR := Lib.hid (own_roomT w 47 9 (m + 12) ca hcs (by unfold maxLen; omega))
  clear eca hcs
  go_wp2_with fail
  go_loopw [3, 4] (fun ov iv wr => ∃ (k : Nat) (cl : List Nd) (v : Value), k ≤ m ∧ iv = .int .i64 k ∧ ov = v ∧ cl.length = k ∧ (∀ j, j < k → Twin (l.getD j Nd.zero) (cl.getD j Nd.zero)) ∧ wr.ownsRow w.heap.size 47 9 v k (ncells cl) ∧ (∀ x ∈ cl, LKid wr w.heap.size x) ∧ Below w.heap.size w wr) (fun _ iv _ => m - (RowKit.intOf iv).toNat)
  case atStart => exact ⟨0, [], _, by omega, rfl, rfl, rfl, fun j hj => by omega, OR.out, by simp, B1 w _⟩
  case round =>
    clear OR hmk
    obtain ⟨k, cl, v, hk, rfl, rfl, hcl, htw, hown, hkid, hbl⟩ := hrel
    obtain ⟨O, oc, rfl, hOn, hoc⟩ := own_slice hown
    have HTW := Lib.hid htw
    have HOWN := Lib.hid hown
    have HKID := Lib.hid hkid
    have BL := Lib.hid hbl
    have HCL := Lib.hid hcl
    clear htw hown hkid hbl hcl hOn hoc
    by_cases hlt : k < m
    · have hlt2 : (k : Int) < m := by omega
      have hkl : k < l.length := by have := EM.out; omega
      obtain ⟨hat, hks⟩ := HX.out _ (getD_mem hkl)
      obtain ⟨b1, o1, eA, _, n1, n2, n3, n4, n5, n6, n7, n8, n9⟩ := (HN.out.below BL.out).nine hkl
      generalize hxx : l.getD k Nd.zero = x at hat hks n1 n2 n3 n4 n5 n6 n7 n8 n9
      have HXX := Lib.hid hxx
      have CN := Lib.hid (lentNode_any x hks wr (hat.below BL.out))
      subst eA
      clear hxx hat hks
      go_wp2_with (first | (go_at_call 116; (with_reducible refine CN.out.mono ?_); rintro e w1 ⟨A1, c1, rfl, ho, hb⟩; have HO := Lib.hid ho; have H1 := Lib.hid hb; clear ho hb n1 n2 n3 n4 n5 n6 n7 n8 n9) | (refine wpList_store_whole rfl 47 (.tmp 5) (.tmp 21) rfl w1.heap.size (x.at_ A1 c1).cells.toArray rfl rfl 47 _ (Blk.new _ _ _) (by kernel_rfl) (by rfl) (by simp [Nd.cells, Value.oneCell']) ?_; intro w2 hk2 hg; have H2 := Lib.hid (grown_below (B1 w1 _) (by simp) hg (fun k e => by cases e; exact Nat.le_refl _)); have d0 := hk2.cell 0; have d1 := hk2.cell 1; have d2 := hk2.cell 2; have d3 := hk2.cell 3; have d4 := hk2.cell 4; have d5 := hk2.cell 5; have d6 := hk2.cell 6; have d7 := hk2.cell 7; have d8 := hk2.cell 8; simp only [Nd.cells, List.getElem?_toArray, List.getElem?_cons_zero, List.getElem?_cons_succ] at d0 d1 d2 d3 d4 d5 d6 d7 d8; clear hk2 hg) | (at_builtin; refine wpList_append_onto _ rfl (.tmp 22) (.tmp 24) 23 rfl w.heap.size 47 i0 Nd.zero.val 9 96 Tryz.underlying23 hi hz0 hz1 hz2 rfl (by decide) (.slice O k oc) k (ncells cl) rfl (own_below (own_below (own_below HOWN.out H1.out) H2.out) (B1 w2 _)) (some ⟨w2.heap.size, 0, none⟩) 1 1 (x.at_ A1 c1).cells rfl rfl (new_news w2 (x.at_ A1 c1).cells 47) (fun h => nomatch h) (cells_one _) (by unfold maxLen; omega) (by omega) (by have := BL.out.size; have := H1.out.size; have := H2.out.size; simp; omega) ?_; intro v1 w4 ho hg hf; have HO4 := Lib.hid ho; have HG4 := Lib.hid hg; clear ho hg hf))
      have B4 : Below w.heap.size w (w2.alloc (.cells (x.at_ A1 c1).cells.toArray 47)) := bb (bb (bb BL.out H1.out) H2.out) (B1 w2 _)
      have hrow := own_below (own_below (own_below HOWN.out H1.out) H2.out) (B1 w2 (.cells (x.at_ A1 c1).cells.toArray 47))
      have tk : ∀ y, LKid w1 w.heap.size y → LKid w4 w.heap.size y := fun y hy => ((hy.below H2.out).below (B1 w2 _)).away hrow HG4.out
      go_roundw
      case rel =>
        refine ⟨k + 1, cl ++ [x.at_ A1 c1], v1, by omega, by go_num, rfl, by simp [HCL.out], fun j hj => ?_, by rw [ncells_app]; exact HO4.out, fun y hy => ?_, grown_below B4 B4.size HG4.out (fun q e => (HOWN.out.lt q e).1)⟩
        · by_cases ej : j = k
          · subst ej
            rw [HXX.out, List.getD, List.getElem?_append_right (by rw [HCL.out]; omega), HCL.out]
            simp
            exact ⟨A1, c1, rfl⟩
          · have := HTW.out j (by omega)
            rw [List.getD, List.getD] at this ⊢
            rw [List.getElem?_append_left (by rw [HCL.out]; omega)]
            exact this
        · rcases List.mem_append.1 hy with hy | hy
          · exact tk y ((HKID.out y hy).below H1.out)
          · simp at hy
            subst hy
            exact tk _ (own_lower HO.out BL.out.size)
      case measure => simp [RowKit.intOf]; omega
    · obtain rfl : k = m := by omega
      have hlt2 : ¬ (k : Int) < k := by omega
      go_wp2_with fail
      go_loopw [3, 6] (fun ov iv wr => ∃ (j : Nat) (v : Value), j ≤ 12 ∧ iv = .int .i64 j ∧ ov = v ∧ wr.ownsRow w.heap.size 47 9 v (k + j) (ncells cl ++ ncells (marksN j)) ∧ (∀ x ∈ cl, LKid wr w.heap.size x) ∧ Below w.heap.size w wr) (fun _ iv _ => 12 - (RowKit.intOf iv).toNat)
      case atStart => exact ⟨0, _, by omega, rfl, rfl, by simpa [marksN, ncells] using HOWN.out, HKID.out, BL.out⟩
      case round =>
        clear HOWN HKID BL
        obtain ⟨j, v, hj, rfl, rfl, ho, hki, hb⟩ := hrel
        have OW := Lib.hid ho
        have HK := Lib.hid hki
        have HB := Lib.hid hb
        obtain ⟨Av, cv, rfl, _, _⟩ := own_slice ho
        by_cases hltj : j < 12
        · have hlt3 : (j : Int) < 12 := by omega
          have M1 := Lib.hid (MK.out j hltj wr)
          clear ho hb hki
          go_wp2_with (first | (go_at_call 117; (with_reducible refine M1.out.mono ?_); rintro e w3 ⟨rfl, hb3⟩; have HB3 := Lib.hid hb3; clear hb3) | (at_builtin; refine wpList_append_onto _ rfl (.tmp 30) (.tmp 33) 23 rfl w.heap.size 47 i0 Nd.zero.val 9 96 Tryz.underlying23 hi hz0 hz1 hz2 rfl (by decide) _ _ _ rfl (own_below (own_below OW.out HB3.out) (B1 _ _)) (some ⟨w3.heap.size, 0, none⟩) 1 1 (lmkN j).cells rfl rfl (new_news w3 (lmkN j).cells 47) (fun h => nomatch h) (cells_one _) (by unfold maxLen; omega) (by omega) (by have h1 := HB.out.size; have h2 := HB3.out.size; simp; omega) ?_; intro v9 w9 hown9 hgrow9 hfr9; have O9 := Lib.hid hown9; have G9 := Lib.hid hgrow9; clear hown9 hgrow9 hfr9))
          have hrow := own_below (own_below OW.out HB3.out) (B1 w3 (.cells (lmkN j).cells.toArray 47))
          go_roundw
          case rel => exact ⟨j + 1, v9, by omega, by go_num, rfl, by rw [marksN_next, ncells_app, ← List.append_assoc]; exact O9.out, fun y hy => (((HK.out y hy).below HB3.out).below (B1 w3 _)).away hrow G9.out, grown_below ((HB.out.trans (HB3.out.mono HB.out.size)).trans ((B1 _ _).mono (by have := HB.out.size; have := HB3.out.size; omega))) (by have := HB.out.size; have := HB3.out.size; simp; omega) G9.out (fun q hq => (OW.out.lt q hq).1)⟩
          case measure => simp [RowKit.intOf]; omega
        · obtain rfl : j = 12 := by omega
          have hlt3 : ¬ ((12 : Nat) : Int) < 12 := by omega
          have hcv : k ≤ cv := by
            obtain ⟨A', c', e', _, h'⟩ := own_slice ho
            cases e'; omega
          have hcv2 : (k : Int) ≤ cv := by omega
          clear ho hb hki
          go_wp2_with fail
          go_ret
          exact ⟨LentN.mk EM.out ⟨by rw [HCL.out, EM.out], fun j hj => HTW.out j (by rw [EM.out]; exact hj), OW.out, HK.out⟩, HB.out⟩
end Go.Proofs.YtjelgmdjmjnnfaaGreat
namespace Go.Proofs.YtjelgmdjmjnnfaaGreat
open Go Go.Proofs Go.RowKit Go.Lib Go.Maps
theorem len_rules (l : List Rl) : (l ++ marksR 12).length = l.length + 12 := by rw [List.length_append, marksR_len]
theorem len_nodes (l : List Nd) : (l ++ marksN 12).length = l.length + 12 := by rw [List.length_append, marksN_len]
/-- A lent grammar. -/
structure LGr (w : World) (B : Nat) (g h : Gr) : Prop where
  rules : h.rules = g.rules
  rrow : w.ownsRow B 72 2 (.slice h.RA (h.rules.length + 12) h.rc) (h.rules.length + 12) (rcells h.rules ++ rcells (marksR 12))
  nodes : LNds w B g.nodes h.nodes (.slice h.NA (h.nodes.length + 12) h.nc) (h.nodes.length + 12) (marksN 12)
theorem LGr.twin {w : World} {B : Nat} {g h : Gr} (f : LGr w B g h) : GTwin g h := ⟨f.rules, f.nodes.len, f.nodes.twin⟩
theorem LKid.below' {w w' : World} {B : Nat} {x : Nd} (h : LKid w B x) (hb : Below w.heap.size w w') : LKid w' B x := own_below h hb
theorem LNds.below {w w' : World} {B n : Nat} {l cl more : List Nd} {v : Value} (h : LNds w B l cl v n more) (hb : Below w.heap.size w w') : LNds w' B l cl v n more :=
  ⟨h.len, h.twin, own_below h.row hb, fun x hx => (h.kids x hx).below hb⟩
theorem LNds.blk {w w' : World} {B n b : Nat} {l cl more : List Nd} {v : Value} (h : LNds w B l cl v n more) (hb : b < B) (hg : w.grownBy w' (some b)) : LNds w' B l cl v n more :=
  ⟨h.len, h.twin, own_blk h.row hb hg, fun x hx => own_blk (h.kids x hx) hb hg⟩
theorem LNds.lower {w : World} {B B' n : Nat} {l cl more : List Nd} {v : Value} (h : LNds w B l cl v n more) (hB : B' ≤ B) : LNds w B' l cl v n more :=
  ⟨h.len, h.twin, own_lower h.row hB, fun x hx => own_lower (h.kids x hx) hB⟩
theorem LGr.below {w w' : World} {B : Nat} {g h : Gr} (f : LGr w B g h) (hb : Below w.heap.size w w') : LGr w' B g h :=
  ⟨f.rules, own_below f.rrow hb, f.nodes.below hb⟩
theorem LGr.rulesX {w : World} {B : Nat} {g h : Gr} (f : LGr w B g h) : Rules w h.RA (h.rules ++ marksR 12) := by
  have := f.rrow
  rw [← rcells_apps, ← len_rules] at this
  exact own_rules this
theorem LGr.nodesX {w : World} {B : Nat} {g h : Gr} (f : LGr w B g h) : Nodes w h.NA (h.nodes ++ marksN 12) := by
  have := f.nodes.row
  rw [← ncells_apps, ← len_nodes] at this
  exact own_nodes this
theorem LGr.kidsX {w : World} {B : Nat} {g h : Gr} (f : LGr w B g h) (x : Nd) (hx : x ∈ h.nodes) : Lies w x.A (ints x.kids ++ marks 12) := own_lies1 (f.nodes.kids x hx)
theorem Rules.front {w : World} {A : Option Addr} {l m : List Rl} (h : Rules w A (l ++ m)) : Rules w A l := by
  intro h0
  obtain ⟨b, o, e, hb, hc⟩ := h (by rw [List.length_append]; omega)
  refine ⟨b, o, e, hb, fun i hi => ?_⟩
  have := hc i (by rw [List.length_append]; omega)
  rwa [List.getD, List.getElem?_append_left hi] at this
theorem Nodes.front {w : World} {A : Option Addr} {l m : List Nd} (h : Nodes w A (l ++ m)) : Nodes w A l := by
  intro h0
  obtain ⟨b, o, e, hb, hc⟩ := h (by rw [List.length_append]; omega)
  refine ⟨b, o, e, hb, fun i hi => ?_⟩
  have := hc i (by rw [List.length_append]; omega)
  rwa [List.getD, List.getElem?_append_left hi] at this
theorem Lies.front {w : World} {A : Option Addr} {l m : List Value} (h : Lies w A (l ++ m)) : Lies w A l := by
  intro h0
  obtain ⟨b, o, e, hb, hc⟩ := h (by rw [List.length_append]; omega)
  refine ⟨b, o, e, hb, fun i hi => ?_⟩
  rw [hc i (by rw [List.length_append]; omega), List.getElem?_append_left hi]
theorem own_room2 {w : World} {B e z n c m : Nat} {A : Option Addr} {xs : List Value} (h : w.ownsRow B e z (.slice A m c) n xs) (hn : 0 < n) : (∃ b, A = some ⟨b, 0, none⟩) ∧ n ≤ c := by
  rcases h.2 with ⟨h1, h2⟩ | ⟨g, cap, cur, h1, hbg, hgg, hnc, rest⟩
  · omega
  · simp only [Value.slice.injEq] at h1
    obtain ⟨rfl, _, rfl⟩ := h1
    exact ⟨⟨g, rfl⟩, hnc⟩
theorem LGr.lies {w w' : World} {B : Nat} {g h : Gr} (f : LGr w' B g h) (hg : Gr.At w g) : Gr.At w' h :=
  f.twin.lies hg f.rulesX.front f.nodesX.front (fun x hx => ⟨(f.kidsX x hx).front, fun e => by
    obtain ⟨⟨b, e2⟩, _⟩ := own_room2 (f.nodes.kids x hx) (by omega)
    rw [e] at e2; cases e2⟩) (fun e => by
    obtain ⟨⟨b, e2⟩, _⟩ := own_room2 f.rrow (by omega)
    rw [e] at e2; cases e2) (fun e => by
    obtain ⟨⟨b, e2⟩, _⟩ := own_room2 f.nodes.row (by omega)
    rw [e] at e2; cases e2)
def LentG (w : World) (B : Nat) (g : Gr) (e : Ending) : Prop := ∃ h : Gr, e = .returned h.val ∧ LGr w B g h
set_option maxRecDepth 100000 in
set_option maxHeartbeats 4000000 in
theorem lentGram_any (g : Gr) (w : World) (hg : Gr.At w g) (h1 : g.rules.length ≤ 100000) (h2 : g.nodes.length ≤ 100000) (h3 : ∀ x ∈ g.nodes, x.kids.length ≤ 100000) :
    Calls Tryz.prog 34 #[g.val] w fun e w' => LentG w' w.heap.size g e ∧ Below w.heap.size w w' := by
  have CR := Lib.hid (fun (w' : World) (b : Below w.heap.size w w') => lentRules_any g.RA g.rc g.rules.length g.rules rfl h1 (fun e => ⟨rules_none hg.rules e, hg.rn e⟩) w' (hg.below b).rules)
  have CN := Lib.hid (fun (w' : World) (b : Below w.heap.size w w') => lentNodes_any g.NA g.nodes g.nc h2 w' (hg.below b).nodes (fun x hx => ⟨(hg.below b).kids x hx, h3 x hx⟩))
  clear hg h1 h2 h3
  show Calls Tryz.prog 34 #[.agg #[.slice g.RA g.rules.length g.rc, .slice g.NA g.nodes.length g.nc]] w _
  go_enter Tryz.func34, Tryz.ntmps34
  go_wp2_with (first | (go_at_call 78; (with_reducible refine (CR.out _ (B2 _ _ _)).mono ?_); rintro e w1 ⟨A1, c1, rfl, ho, hb⟩; have HO := Lib.hid (own_lower (base' := w.heap.size + 2) ho (by simp)); have HLS := Lib.hid (show w.heap.size + 2 ≤ w1.heap.size by have := hb.size; simp at this; omega); have KB := Lib.hid (((Blk.new w _ _).alloc _).below' hb); have KR := Lib.hid (by have := (Blk.new (w.alloc _) _ _).below' hb; rw [World.size_alloc] at this; exact this); have H1 := Lib.hid (bb (B2 w _ _) hb); clear ho hb) | (refine wpList_store_blk rfl 22 (.tmp 6) (.tmp 5) rfl w.heap.size 0 _ rfl rfl rfl 25 _ KB.out (by first | simp | (show 0 < 2; omega)) (by kernel_rfl) #[.slice A1 g.rules.length c1, .slice g.NA g.nodes.length g.nc] rfl ?_; intro w2 hk hg; have KB2 := Lib.hid hk; have KR2 := Lib.hid (KR.out.grown hg (by intro e; have := Option.some.inj e; omega)); have HO2 := Lib.hid (own_blk HO.out (by omega) hg); have H2 := Lib.hid (grown_below H1.out H1.out.size hg (fun k e => by cases e; omega)); have HL2 := Lib.hid (show w.heap.size < w2.heap.size by have := HLS.out; have := hg.size; omega); have HL3 := Lib.hid (show w.heap.size + 1 < w2.heap.size by have := HLS.out; have := hg.size; omega); have d0 := hk.cell 0; have d1 := hk.cell 1; simp only [List.getElem?_toArray, List.getElem?_cons_zero, List.getElem?_cons_succ] at d0 d1; clear hk hg) | (go_at_call 79; (with_reducible refine (CN.out _ H2.out).mono ?_); rintro e w3 ⟨⟨A2, c2, cl, rfl, hno⟩, hb⟩; have HNO := Lib.hid hno; have KB3 := Lib.hid (KB2.out.below' hb); have KR3 := Lib.hid (KR2.out.below' hb); have HO3 := Lib.hid (own_below HO2.out hb); have H3 := Lib.hid (bb H2.out hb); clear hno hb d0 d1) | (refine wpList_store_blk rfl 23 (.tmp 10) (.tmp 9) rfl w.heap.size 1 _ rfl rfl rfl 25 _ KB3.out (by first | simp | (show 1 < 2; omega)) (by kernel_rfl) #[.slice A1 g.rules.length c1, .slice A2 g.nodes.length c2] rfl ?_; intro w4 hk hg; have KR4 := Lib.hid (KR3.out.grown hg (by intro e; have := Option.some.inj e; omega)); have HO4 := Lib.hid (own_blk HO3.out (by omega) hg); have HNO4 := Lib.hid (HNO.out.blk HL2.out hg); have H4 := Lib.hid (grown_below H3.out H3.out.size hg (fun k e => by cases e; omega)); have d0 := hk.cell 0; have d1 := hk.cell 1; simp only [List.getElem?_toArray, List.getElem?_cons_zero, List.getElem?_cons_succ] at d0 d1; clear hk hg) | (refine wpList_store_whole rfl 25 (.tmp 2) (.tmp 11) rfl (w.heap.size + 1) #[.slice A1 g.rules.length c1, .slice A2 g.nodes.length c2] rfl rfl 25 _ KR4.out (by kernel_rfl) (by rfl) (by simp [Value.oneCell']) ?_; intro w5 hk hg; have KR5 := Lib.hid hk; have HO5 := Lib.hid (own_blk HO4.out (by omega) hg); have HNO5 := Lib.hid (HNO4.out.blk HL3.out hg); have H5 := Lib.hid (grown_below H4.out H4.out.size hg (fun k e => by cases e; omega)); clear hk hg d0 d1))
  have en : cl.length = g.nodes.length := HNO5.out.len
  refine bodyPost_ret (results_cell_row rfl _ _ (w.heap.size + 1) 25 _ (0, 0) _ rfl KR5.out Tryz.underlying25 rfl (by kernel_rfl)) rfl ⟨⟨⟨A1, c1, g.rules, A2, c2, cl⟩, ?_, rfl, own_lower HO5.out (by omega), ?_⟩, H5.out⟩
  · show Ending.returned (.agg #[.slice A1 g.rules.length c1, .slice A2 g.nodes.length c2]) = .returned (.agg #[.slice A1 g.rules.length c1, .slice A2 cl.length c2])
    rw [en]
  · show LNds w5 w.heap.size g.nodes cl (.slice A2 (cl.length + 12) c2) (cl.length + 12) (marksN 12)
    rw [en]
    exact HNO5.out.lower H2.out.size
end Go.Proofs.YtjelgmdjmjnnfaaGreat
namespace Go.Proofs.YtjelgmdjmjnnfaaGreat
open Go Go.RowKit Go.Maps
set_option maxRecDepth 100000 in
set_option maxHeartbeats 2000000 in
theorem size11_any (g : Gr) (w : World) (hg : Gr.At w g) : Calls Tryz.prog 8 #[g.val] w fun e w' => (∃ z : Int, e = .returned (.int .i64 z)) ∧ Below w.heap.size w w' := by
  have HG := Lib.hid hg
  have h1 := hg.rl
  have h2 := hg.nl
  obtain ⟨RA, rc, rules, NA, nc, nodes⟩ := g
  dsimp only at h1 h2
  obtain ⟨m, em⟩ : ∃ m, m = nodes.length := ⟨_, rfl⟩
  obtain ⟨r, er⟩ : ∃ m, m = rules.length := ⟨_, rfl⟩
  show Calls Tryz.prog 8 #[.agg #[.slice RA rules.length rc, .slice NA nodes.length nc]] w _
  have EM := Lib.hid em
  rw [← em, ← er]
  rw [← em] at h2
  rw [← er] at h1
  clear hg em er
  go_enter Tryz.func8, Tryz.ntmps8
  go_wp2_with fail
  obtain ⟨wb, ewb⟩ : ∃ u, u = w.alloc (.cells #[.slice RA r rc, .slice NA m nc] 25) := ⟨_, rfl⟩
  have hb2 : Below w.heap.size w wb := by rw [ewb]; exact B1 _ _
  have c0 : wb.cell? ⟨w.heap.size, 0, none⟩ = some (.slice RA r rc) := by rw [ewb]; exact (Blk.new _ _ _).cell 0
  have c1 : wb.cell? ⟨w.heap.size, 1, none⟩ = some (.slice NA m nc) := by rw [ewb]; exact (Blk.new _ _ _).cell 1
  rw [← ewb]
  have BB := Lib.hid hb2
  clear ewb hb2
  go_loopw [3, 4] (fun s i wr => ∃ (k : Nat) (n : Int), k ≤ m ∧ s = .int .i64 n ∧ i = .int .i64 k ∧ n ≤ 500000000000000 ∧ 0 ≤ n ∧ wr = wb) (fun _ i _ => m - (intOf i).toNat)
  case atStart => exact ⟨0, r + m, by omega, rfl, rfl, by omega, by omega, rfl⟩
  case round =>
    obtain ⟨k, n, hk, rfl, rfl, hn, hn0, rfl⟩ := hrel
    by_cases hlt : k < m
    · have hlt2 : (k : Int) < m := by omega
      by_cases hle : n ≤ 300
      · obtain ⟨b1, o1, eA, _, _, _, _, _, _, _, _, _, c9⟩ := (HG.out.below BB.out).nodes.nine (show k < nodes.length by have := EM.out; omega)
        have hx := ((HG.out.below BB.out).node (show k < nodes.length by have := EM.out; omega)).2.2
        dsimp only at eA c9 hx
        rw [eA] at c1
        generalize nodes.getD k Nd.zero = x at c9 hx
        clear eA
        go_wp2_with fail
        go_roundw
        case rel => exact ⟨k + 1, n + x.kids.length, by omega, by first | rfl | go_num, by go_num, by omega, by omega, by first | trivial | rfl⟩
        case measure => simp [intOf]; omega
      · have hle2 : 300 < n := by omega
        go_wp2_with fail
        go_ret
        exact ⟨⟨n, rfl⟩, BB.out⟩
    · obtain rfl : k = m := by omega
      have hlt2 : ¬ (k : Int) < k := by omega
      go_wp2_with fail
      go_ret
      exact ⟨⟨n, rfl⟩, BB.out⟩
theorem rank_of {g : Gr} (hR : Right g) (i : Nat) (hi : i < g.rules.length) : rankOf g i = (ranks g).getD i 0 := by
  unfold rankOf
  rw [if_pos ⟨rightB_true.2 hR, by omega, by omega⟩, Int.toNat_natCast]
theorem nodeB_of {g : Gr} (hR : Right g) (n : Nat) (hn : n < g.nodes.length) : nodeB g n = mayN g.nodes (inB (ranks g)) n := by
  unfold nodeB
  rw [rightB_true.2 hR]
  have : (0 : Int) ≤ n ∧ (n : Int) < g.nodes.length := by omega
  simp [this.2]
theorem nodesOf_of {g : Gr} (hR : Right g) : nodesOf g = rowOf' g.nodes.length (fun n => mayN g.nodes (inB (ranks g)) n) := by
  unfold nodesOf
  rw [rightB_true.2 hR]
  rfl
theorem rows_no {g : Gr} (h : rightB g = false) : rulesOf g = [] ∧ nodesOf g = [] := by
  unfold rulesOf nodesOf
  rw [h]
  exact ⟨rfl, rfl⟩
theorem row_no {w w' : World} {e : Ending} {L : List Nat} (h : Row w L e w') (hL : L = []) : e = .returned (.slice none 0 0) ∧ Below w.heap.size w w' := by
  obtain ⟨⟨v, rfl, _, hn⟩, hb⟩ := h
  rw [hn.2 hL]
  exact ⟨rfl, hb⟩
/-- The row of what may, some of it stored. -/
structure MidM (w4 wr : World) (mb : Nat) (L : List Nat) (j : Nat) (ml : List Bool) (N : Nat) : Prop where
  row : Blk wr mb (bls ml).toArray 4
  len : ml.length = N
  val : ∀ q, q < N → ml.getD q false = decide (q ∈ L.take j)
  size : wr.heap.size = w4.heap.size
  other : ∀ b, b ≠ mb → wr.heap[b]? = w4.heap[b]?
theorem MidM.start {w4 : World} {mb N : Nat} {L : List Nat} (h : Blk w4 mb (bls (List.replicate N false)).toArray 4) : MidM w4 w4 mb L 0 (List.replicate N false) N :=
  ⟨h, by simp, fun q hq => by simp only [List.getD, List.getElem?_replicate]; rw [if_pos hq]; simp, rfl, fun _ _ => rfl⟩
theorem MidM.step {w4 wr : World} {mb N j : Nat} {L : List Nat} {ml : List Bool} (h : MidM w4 wr mb L j ml N) (hj : j < L.length) :
    MidM w4 (wr.setCell ⟨mb, L.getD j 0, none⟩ (.bool true)) mb L (j + 1) (ml.set (L.getD j 0) true) N := by
  have ht : L.take (j + 1) = L.take j ++ [L.getD j 0] := by
    rw [List.take_add_one]
    simp [List.getD, List.getElem?_eq_getElem hj]
  refine ⟨?_, by rw [List.length_set]; exact h.len, fun q hq => ?_, by rw [← h.size]; simp [World.setCell], fun b hb => (Below.heap_setCell _ _ _ b hb).trans (h.other b hb)⟩
  · have := h.row.put (k := L.getD j 0) (.bool true)
    rw [bls_set] at this
    exact this
  · rw [ht]
    generalize L.getD j 0 = e0
    by_cases e : q = e0
    · subst e
      simp only [List.getD]
      rw [List.getElem?_set_self (by rw [h.len]; exact hq)]
      simp
    · simp only [List.getD]
      rw [List.getElem?_set_ne (fun h => e h.symm)]
      have := h.val q hq
      simp only [List.getD] at this
      rw [this]
      simp [e]
theorem MidM.done {w4 wr : World} {mb : Nat} {g : Gr} {ml : List Bool} {f : Nat → Bool} (h : MidM w4 wr mb (rowOf' g.nodes.length f) (rowOf' g.nodes.length f).length ml g.nodes.length) (q : Nat) (hq : q < g.nodes.length) : ml.getD q false = f q := by
  rw [h.val q hq, List.take_length]
  cases hf : f q with
  | true => exact decide_eq_true (rowOf_mem.2 ⟨hq, hf⟩)
  | false => exact decide_eq_false (fun h => by have := (rowOf_mem.1 h).2; rw [hf] at this; cases this)
end Go.Proofs.YtjelgmdjmjnnfaaGreat
namespace Go.Proofs.YtjelgmdjmjnnfaaGreat
open Go Go.RowKit Go.Maps
end Go.Proofs.YtjelgmdjmjnnfaaGreat

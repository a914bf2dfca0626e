/- What is lent of rows of rules. (Great seat.) -/
import Derived.Test.YtlbjmkljmhfjdaaGreatD5
import Derived.Test.YtlbjmkljmhfjdaaGreatC7
import Derived.Test.YtlbjmkljmhfjdaaGreatC2
import Derived.Test.YtlbjmkljmhfjdaaGreatA3
set_option linter.unusedSimpArgs false
set_option linter.unusedVariables false
namespace Go.Proofs.YtlbjmkljmhfjdaaGreat
open Go Go.Proofs Go.RowKit Go.Lib Go.Maps
theorem own_roomT (w : World) (T size cap : Nat) (cs : Array Value) (hc : cs.size = cap * size) (hn : cap ≤ maxLen) : (w.alloc (.cells cs T)).ownsRow w.heap.size T size (.slice (some ⟨w.heap.size, 0, none⟩) 0 cap) 0 [] :=
  World.ownsRow_made w cs cap (Nat.le_refl _) hn hc
theorem rule_news (w : World) (x y : Value) (T : TypeId) : ∀ a, some (⟨w.heap.size, 0, none⟩ : Addr) = some a → ∀ j u, [x, y][j]? = some u → (w.alloc (.cells #[x, y] T)).cell? (a.add j) = some u := new_news w [x, y] T
set_option maxRecDepth 100000 in
set_option maxHeartbeats 4000000 in
theorem lentRules_any (A : Option Addr) (c m : Nat) (l : List Rl) (em : m = l.length) (hl : m ≤ 100000) (hc : A = none → m = 0 ∧ c = 0) (w : World) (hA : Rules w A l) :
    Calls Tryz.prog 98 #[.slice A m c] w fun e w' => ∃ A' c', e = .returned (.slice A' m c') ∧ w'.ownsRow w.heap.size 124 2 (.slice A' (m + 12) c') (m + 12) (rcells l ++ rcells (marksR 12)) ∧ Below w.heap.size w w' := by
  obtain ⟨i0, hi, hz0, hz1, hz2⟩ := info_parts Tryz.info124
  have NW := Lib.hid (show ∀ w', Below w.heap.size w w' → ∀ a, A = some a → ∀ j u, (rcells l)[j]? = some u → w'.cell? (a.add j) = some u from fun w' hb => (hA.below hb).news)
  have HC := Lib.hid hc
  have HL := Lib.hid (show (rcells l).length = m * 2 by rw [rcells_length]; omega)
  have H1 := Lib.hid (rcells_one l)
  have MK := Lib.hid (fun i (hi : i < 12) w' => markRule_any i hi w')
  have hw12 : IntKind.i64.wrap ((m : Int) + 12) = (m : Int) + 12 := IntWalk.i64_in _ (by omega)
  have hmk : ∀ W : World, (Instr.makeSlice 22 (.int .i64 0) (.int .i64 ((m : Int) + 12))).run Tryz.prog W = .ok (.slice (some ⟨W.heap.size, 0, none⟩) 0 (m + 12)) (W.alloc (.cells (madeCells (Value.agg #[.string ByteArray.empty, .int .i64 0]).cells ((m + 12) * 2)) 124)) := fun W => by
    have hr := run_make (P := Tryz.prog) W 22 124 i0 (.agg #[.string ByteArray.empty, .int .i64 0]) Tryz.underlying22 hi hz0 .i64 .i64 ((0 : Nat) : Int) ((m + 12 : Nat) : Int) (by omega) (by omega) (by rw [hz2]; omega) (by omega)
    rw [hz1, Int.toNat_natCast, Int.toNat_natCast, Int.natCast_add] at hr
    exact hr
  clear hA hc em
  have hli : (m : Int) + 12 ≤ 100012 := by omega
  go_enter Tryz.func98, Tryz.ntmps98
  obtain ⟨ca, eca⟩ : ∃ ca, ca = madeCells (Value.agg #[.string ByteArray.empty, .int .i64 0]).cells ((m + 12) * 2) := ⟨_, rfl⟩
  have hcs : ca.size = (m + 12) * 2 := by rw [eca]; simp [madeCells]
  rw [← eca] at hmk
  have OR := Lib.hid (own_roomT w 124 2 (m + 12) ca hcs (by unfold maxLen; omega))
  clear eca hcs
  go_wp2_with (at_builtin; refine wpList_append_onto _ rfl _ _ 22 rfl w.heap.size 124 i0 (.agg #[.string ByteArray.empty, .int .i64 0]) 2 24 Tryz.underlying22 hi hz0 hz1 hz2 rfl (by decide) _ _ _ rfl OR.out A m c (rcells l) rfl HL.out (NW.out _ (B1 w _)) HC.out H1.out (by unfold maxLen; omega) (by omega) (by simp) ?_; intro v9 w9 hown9 hgrow9 hfr9; have O9 := Lib.hid hown9; have G9 := Lib.hid hgrow9; clear hown9 hgrow9 hfr9)
  have HB9 := Lib.hid (grown_below (B1 w (.cells ca 124)) (by simp) G9.out (fun q hq => (OR.out.lt q hq).1))
  have O9' := O9.out
  rw [Nat.zero_add, List.nil_append] at O9'
  have O0 := Lib.hid O9'
  clear O9' hmk O9 G9 OR
  go_loopw [3, 4] (fun ov iv wr => ∃ (k : Nat) (v : Value), k ≤ 12 ∧ iv = .int .i64 k ∧ ov = v ∧ wr.ownsRow w.heap.size 124 2 v (m + k) (rcells l ++ rcells (marksR k)) ∧ Below w.heap.size w wr) (fun _ iv _ => 12 - (RowKit.intOf iv).toNat)
  case atStart => exact ⟨0, _, by omega, rfl, rfl, by simpa [marksR, rcells] using O0.out, HB9.out⟩
  case round =>
    clear O0 HB9
    obtain ⟨k, v, hk, rfl, rfl, ho, hb⟩ := hrel
    have OW := Lib.hid ho
    have HB := Lib.hid hb
    obtain ⟨Av, cv, rfl, _, _⟩ := own_slice ho
    by_cases hlt : k < 12
    · have hlt2 : (k : Int) < 12 := by omega
      have M1 := Lib.hid (MK.out k hlt wr)
      clear ho hb
      go_wp2_with (first | (go_at_call 148; (with_reducible refine M1.out.mono ?_); rintro e w3 ⟨rfl, hb3⟩; have HB3 := Lib.hid hb3; clear hb3) | (at_builtin; refine wpList_append_onto _ rfl _ _ 22 rfl w.heap.size 124 i0 (.agg #[.string ByteArray.empty, .int .i64 0]) 2 24 Tryz.underlying22 hi hz0 hz1 hz2 rfl (by decide) _ _ _ rfl (own_below (own_below OW.out HB3.out) (B1 _ _)) (some ⟨w3.heap.size, 0, none⟩) 1 1 [.string ByteArray.empty, .int .i64 (mrk 1 k)] rfl rfl (rule_news w3 _ _ _) (fun h => by cases h) (by simp [Value.oneCell']) (by unfold maxLen; omega) (by omega) (by have h1 := HB.out.size; have h2 := HB3.out.size; simp; omega) ?_; intro v9 w9 hown9 hgrow9 hfr9; have O9 := Lib.hid hown9; have G9 := Lib.hid hgrow9; clear hown9 hgrow9 hfr9))
      go_roundw
      case rel => exact ⟨k + 1, v9, by omega, by go_num, rfl, by rw [marksR_next, rcells_apps, ← List.append_assoc]; exact O9.out, grown_below ((HB.out.trans (HB3.out.mono HB.out.size)).trans ((B1 _ _).mono (by have := HB.out.size; have := HB3.out.size; omega))) (by have := HB.out.size; have := HB3.out.size; simp; omega) G9.out (fun q hq => (OW.out.lt q hq).1)⟩
      case measure => simp [RowKit.intOf]; omega
    · obtain rfl : k = 12 := by omega
      have hlt2 : ¬ ((12 : Nat) : Int) < 12 := by omega
      have hcv : m ≤ cv := by
        obtain ⟨A', c', e', _, h'⟩ := own_slice ho
        cases e'; omega
      have hcv2 : (m : Int) ≤ cv := by omega
      clear ho hb
      go_wp2_with fail
      go_ret
      exact ⟨_, _, rfl, OW.out, HB.out⟩
end Go.Proofs.YtlbjmkljmhfjdaaGreat
namespace Go.Proofs.YtlbjmkljmhfjdaaGreat
open Go Go.Proofs Go.RowKit Go.Lib Go.Maps
theorem ncells_apps : ∀ (a b : List Nd), ncells (a ++ b) = ncells a ++ ncells b
  | [], b => rfl
  | x :: a, b => by simp [ncells, ncells_apps a b]
/-- A lent node's kids: in a row of the call's own, marks behind them. -/
def LKid (w : World) (B : Nat) (x : Nd) : Prop := w.ownsRow B 3 1 (.slice x.A (x.kids.length + 12) x.cap) (x.kids.length + 12) (ints x.kids ++ marks 12)
theorem LKid.below {w w' : World} {B : Nat} {x : Nd} (h : LKid w B x) (hb : Below w.heap.size w w') : LKid w' B x := own_below h hb
theorem LKid.away {W W' : World} {B B' n' : Nat} {x : Nd} {v' : Value} {xs' : List Value} (h : LKid W B x) (h' : W.ownsRow B' 40 9 v' n' xs') (hg : W.grownBy W' v'.ownBlock) : LKid W' B x := own_awayX h h' (by decide) hg
/-- Lent nodes. -/
structure LNds (w : World) (B : Nat) (l cl : List Nd) (v : Value) (n : Nat) (more : List Nd) : Prop where
  len : cl.length = l.length
  twin : ∀ j, j < l.length → Twin (l.getD j Nd.zero) (cl.getD j Nd.zero)
  row : w.ownsRow B 40 9 v n (ncells cl ++ ncells more)
  kids : ∀ x ∈ cl, LKid w B x
def LentN (w : World) (B : Nat) (l : List Nd) (e : Ending) : Prop := ∃ A' c' cl, e = .returned (.slice A' l.length c') ∧ LNds w B l cl (.slice A' (l.length + 12) c') (l.length + 12) (marksN 12)
theorem LentN.mk {w : World} {B : Nat} {l : List Nd} {A' : Option Addr} {m c' : Nat} {cl : List Nd} (em : m = l.length) (h : LNds w B l cl (.slice A' (m + 12) c') (m + 12) (marksN 12)) : LentN w B l (.returned (.slice A' m c')) := by
  subst em
  exact ⟨A', c', cl, rfl, h⟩
set_option maxRecDepth 100000 in
set_option maxHeartbeats 8000000 in
theorem lentNodes_any (A : Option Addr) (l : List Nd) (c : Nat) (hl : l.length ≤ 100000) (w : World) (h : Nodes w A l) (hx : ∀ x ∈ l, Nd.At w x ∧ x.kids.length ≤ 100000) :
    Calls Tryz.prog 99 #[.slice A l.length c] w fun e w' => LentN w' w.heap.size l e ∧ Below w.heap.size w w' := by
  obtain ⟨i0, hi, hz0, hz1, hz2⟩ := info_parts Tryz.info40
  have HN := Lib.hid h
  have HX := Lib.hid hx
  obtain ⟨m, em⟩ : ∃ m, m = l.length := ⟨_, rfl⟩
  have EM := Lib.hid em
  rw [← em] at hl ⊢
  have MK := Lib.hid (fun i (hi : i < 12) w' => markNode_any i hi w')
  have hw12 : IntKind.i64.wrap ((m : Int) + 12) = (m : Int) + 12 := IntWalk.i64_in _ (by omega)
  have hmk : ∀ W : World, (Instr.makeSlice 23 (.int .i64 0) (.int .i64 ((m : Int) + 12))).run Tryz.prog W = .ok (.slice (some ⟨W.heap.size, 0, none⟩) 0 (m + 12)) (W.alloc (.cells (madeCells Nd.zero.val.cells ((m + 12) * 9)) 40)) := fun W => by
    have hr := run_make (P := Tryz.prog) W 23 40 i0 Nd.zero.val Tryz.underlying23 hi hz0 .i64 .i64 ((0 : Nat) : Int) ((m + 12 : Nat) : Int) (by omega) (by omega) (by rw [hz2]; omega) (by omega)
    rw [hz1, Int.toNat_natCast, Int.toNat_natCast, Int.natCast_add] at hr
    exact hr
  clear h hx em
  have hli : (m : Int) + 12 ≤ 100012 := by omega
  go_enter Tryz.func99, Tryz.ntmps99
  obtain ⟨ca, eca⟩ : ∃ ca, ca = madeCells Nd.zero.val.cells ((m + 12) * 9) := ⟨_, rfl⟩
  have hcs : ca.size = (m + 12) * 9 := by rw [eca]; simp [madeCells]
  rw [← eca] at hmk
  have OR := Lib.hid (own_roomT w 40 9 (m + 12) ca hcs (by unfold maxLen; omega))
  clear eca hcs
  go_wp2_with fail
  go_loopw [3, 4] (fun ov iv wr => ∃ (k : Nat) (cl : List Nd) (v : Value), k ≤ m ∧ iv = .int .i64 k ∧ ov = v ∧ cl.length = k ∧ (∀ j, j < k → Twin (l.getD j Nd.zero) (cl.getD j Nd.zero)) ∧ wr.ownsRow w.heap.size 40 9 v k (ncells cl) ∧ (∀ x ∈ cl, LKid wr w.heap.size x) ∧ Below w.heap.size w wr) (fun _ iv _ => m - (RowKit.intOf iv).toNat)
  case atStart => exact ⟨0, [], _, by omega, rfl, rfl, rfl, fun j hj => by omega, OR.out, by simp, B1 w _⟩
  case round =>
    clear OR hmk
    obtain ⟨k, cl, v, hk, rfl, rfl, hcl, htw, hown, hkid, hbl⟩ := hrel
    obtain ⟨O, oc, rfl, hOn, hoc⟩ := own_slice hown
    have HTW := Lib.hid htw
    have HOWN := Lib.hid hown
    have HKID := Lib.hid hkid
    have BL := Lib.hid hbl
    have HCL := Lib.hid hcl
    clear htw hown hkid hbl hcl hOn hoc
    by_cases hlt : k < m
    · have hlt2 : (k : Int) < m := by omega
      have hkl : k < l.length := by have := EM.out; omega
      obtain ⟨hat, hks⟩ := HX.out _ (getD_mem hkl)
      obtain ⟨b1, o1, eA, _, n1, n2, n3, n4, n5, n6, n7, n8, n9⟩ := (HN.out.below BL.out).nine hkl
      generalize hxx : l.getD k Nd.zero = x at hat hks n1 n2 n3 n4 n5 n6 n7 n8 n9
      have HXX := Lib.hid hxx
      have CN := Lib.hid (lentNode_any x hks wr (hat.below BL.out))
      subst eA
      clear hxx hat hks
      go_wp2_with (first | (go_at_call 149; (with_reducible refine CN.out.mono ?_); rintro e w1 ⟨A1, c1, rfl, ho, hb⟩; have HO := Lib.hid ho; have H1 := Lib.hid hb; clear ho hb n1 n2 n3 n4 n5 n6 n7 n8 n9) | (refine wpList_store_whole rfl 40 (.tmp 5) (.tmp 21) rfl w1.heap.size (x.at_ A1 c1).cells.toArray rfl rfl 40 _ (Blk.new _ _ _) (by kernel_rfl) (by rfl) (by simp [Nd.cells, Value.oneCell']) ?_; intro w2 hk2 hg; have H2 := Lib.hid (grown_below (B1 w1 _) (by simp) hg (fun k e => by cases e; exact Nat.le_refl _)); have d0 := hk2.cell 0; have d1 := hk2.cell 1; have d2 := hk2.cell 2; have d3 := hk2.cell 3; have d4 := hk2.cell 4; have d5 := hk2.cell 5; have d6 := hk2.cell 6; have d7 := hk2.cell 7; have d8 := hk2.cell 8; simp only [Nd.cells, List.getElem?_toArray, List.getElem?_cons_zero, List.getElem?_cons_succ] at d0 d1 d2 d3 d4 d5 d6 d7 d8; clear hk2 hg) | (at_builtin; refine wpList_append_onto _ rfl (.tmp 22) (.tmp 24) 23 rfl w.heap.size 40 i0 Nd.zero.val 9 96 Tryz.underlying23 hi hz0 hz1 hz2 rfl (by decide) (.slice O k oc) k (ncells cl) rfl (own_below (own_below (own_below HOWN.out H1.out) H2.out) (B1 w2 _)) (some ⟨w2.heap.size, 0, none⟩) 1 1 (x.at_ A1 c1).cells rfl rfl (new_news w2 (x.at_ A1 c1).cells 40) (fun h => nomatch h) (cells_one _) (by unfold maxLen; omega) (by omega) (by have := BL.out.size; have := H1.out.size; have := H2.out.size; simp; omega) ?_; intro v1 w4 ho hg hf; have HO4 := Lib.hid ho; have HG4 := Lib.hid hg; clear ho hg hf))
      have B4 : Below w.heap.size w (w2.alloc (.cells (x.at_ A1 c1).cells.toArray 40)) := bb (bb (bb BL.out H1.out) H2.out) (B1 w2 _)
      have hrow := own_below (own_below (own_below HOWN.out H1.out) H2.out) (B1 w2 (.cells (x.at_ A1 c1).cells.toArray 40))
      have tk : ∀ y, LKid w1 w.heap.size y → LKid w4 w.heap.size y := fun y hy => ((hy.below H2.out).below (B1 w2 _)).away hrow HG4.out
      go_roundw
      case rel =>
        refine ⟨k + 1, cl ++ [x.at_ A1 c1], v1, by omega, by go_num, rfl, by simp [HCL.out], fun j hj => ?_, by rw [ncells_app]; exact HO4.out, fun y hy => ?_, grown_below B4 B4.size HG4.out (fun q e => (HOWN.out.lt q e).1)⟩
        · by_cases ej : j = k
          · subst ej
            rw [HXX.out, List.getD, List.getElem?_append_right (by rw [HCL.out]; omega), HCL.out]
            simp
            exact ⟨A1, c1, rfl⟩
          · have := HTW.out j (by omega)
            rw [List.getD, List.getD] at this ⊢
            rw [List.getElem?_append_left (by rw [HCL.out]; omega)]
            exact this
        · rcases List.mem_append.1 hy with hy | hy
          · exact tk y ((HKID.out y hy).below H1.out)
          · simp at hy
            subst hy
            exact tk _ (own_lower HO.out BL.out.size)
      case measure => simp [RowKit.intOf]; omega
    · obtain rfl : k = m := by omega
      have hlt2 : ¬ (k : Int) < k := by omega
      go_wp2_with fail
      go_loopw [3, 6] (fun ov iv wr => ∃ (j : Nat) (v : Value), j ≤ 12 ∧ iv = .int .i64 j ∧ ov = v ∧ wr.ownsRow w.heap.size 40 9 v (k + j) (ncells cl ++ ncells (marksN j)) ∧ (∀ x ∈ cl, LKid wr w.heap.size x) ∧ Below w.heap.size w wr) (fun _ iv _ => 12 - (RowKit.intOf iv).toNat)
      case atStart => exact ⟨0, _, by omega, rfl, rfl, by simpa [marksN, ncells] using HOWN.out, HKID.out, BL.out⟩
      case round =>
        clear HOWN HKID BL
        obtain ⟨j, v, hj, rfl, rfl, ho, hki, hb⟩ := hrel
        have OW := Lib.hid ho
        have HK := Lib.hid hki
        have HB := Lib.hid hb
        obtain ⟨Av, cv, rfl, _, _⟩ := own_slice ho
        by_cases hltj : j < 12
        · have hlt3 : (j : Int) < 12 := by omega
          have M1 := Lib.hid (MK.out j hltj wr)
          clear ho hb hki
          go_wp2_with (first | (go_at_call 150; (with_reducible refine M1.out.mono ?_); rintro e w3 ⟨rfl, hb3⟩; have HB3 := Lib.hid hb3; clear hb3) | (at_builtin; refine wpList_append_onto _ rfl (.tmp 30) (.tmp 33) 23 rfl w.heap.size 40 i0 Nd.zero.val 9 96 Tryz.underlying23 hi hz0 hz1 hz2 rfl (by decide) _ _ _ rfl (own_below (own_below OW.out HB3.out) (B1 _ _)) (some ⟨w3.heap.size, 0, none⟩) 1 1 (lmkN j).cells rfl rfl (new_news w3 (lmkN j).cells 40) (fun h => nomatch h) (cells_one _) (by unfold maxLen; omega) (by omega) (by have h1 := HB.out.size; have h2 := HB3.out.size; simp; omega) ?_; intro v9 w9 hown9 hgrow9 hfr9; have O9 := Lib.hid hown9; have G9 := Lib.hid hgrow9; clear hown9 hgrow9 hfr9))
          have hrow := own_below (own_below OW.out HB3.out) (B1 w3 (.cells (lmkN j).cells.toArray 40))
          go_roundw
          case rel => exact ⟨j + 1, v9, by omega, by go_num, rfl, by rw [marksN_next, ncells_app, ← List.append_assoc]; exact O9.out, fun y hy => (((HK.out y hy).below HB3.out).below (B1 w3 _)).away hrow G9.out, grown_below ((HB.out.trans (HB3.out.mono HB.out.size)).trans ((B1 _ _).mono (by have := HB.out.size; have := HB3.out.size; omega))) (by have := HB.out.size; have := HB3.out.size; simp; omega) G9.out (fun q hq => (OW.out.lt q hq).1)⟩
          case measure => simp [RowKit.intOf]; omega
        · obtain rfl : j = 12 := by omega
          have hlt3 : ¬ ((12 : Nat) : Int) < 12 := by omega
          have hcv : k ≤ cv := by
            obtain ⟨A', c', e', _, h'⟩ := own_slice ho
            cases e'; omega
          have hcv2 : (k : Int) ≤ cv := by omega
          clear ho hb hki
          go_wp2_with fail
          go_ret
          exact ⟨LentN.mk EM.out ⟨by rw [HCL.out, EM.out], fun j hj => HTW.out j (by rw [EM.out]; exact hj), OW.out, HK.out⟩, HB.out⟩
end Go.Proofs.YtlbjmkljmhfjdaaGreat
namespace Go.Proofs.YtlbjmkljmhfjdaaGreat
open Go Go.Proofs Go.RowKit Go.Lib Go.Maps
theorem len_rules (l : List Rl) : (l ++ marksR 12).length = l.length + 12 := by rw [List.length_append, marksR_len]
theorem len_nodes (l : List Nd) : (l ++ marksN 12).length = l.length + 12 := by rw [List.length_append, marksN_len]
/-- A lent grammar. -/
structure LGr (w : World) (B : Nat) (g h : Gr) : Prop where
  rules : h.rules = g.rules
  rrow : w.ownsRow B 124 2 (.slice h.RA (h.rules.length + 12) h.rc) (h.rules.length + 12) (rcells h.rules ++ rcells (marksR 12))
  nodes : LNds w B g.nodes h.nodes (.slice h.NA (h.nodes.length + 12) h.nc) (h.nodes.length + 12) (marksN 12)
theorem LGr.twin {w : World} {B : Nat} {g h : Gr} (f : LGr w B g h) : GTwin g h := ⟨f.rules, f.nodes.len, f.nodes.twin⟩
theorem LKid.below' {w w' : World} {B : Nat} {x : Nd} (h : LKid w B x) (hb : Below w.heap.size w w') : LKid w' B x := own_below h hb
theorem LNds.below {w w' : World} {B n : Nat} {l cl more : List Nd} {v : Value} (h : LNds w B l cl v n more) (hb : Below w.heap.size w w') : LNds w' B l cl v n more :=
  ⟨h.len, h.twin, own_below h.row hb, fun x hx => (h.kids x hx).below hb⟩
theorem LNds.blk {w w' : World} {B n b : Nat} {l cl more : List Nd} {v : Value} (h : LNds w B l cl v n more) (hb : b < B) (hg : w.grownBy w' (some b)) : LNds w' B l cl v n more :=
  ⟨h.len, h.twin, own_blk h.row hb hg, fun x hx => own_blk (h.kids x hx) hb hg⟩
theorem LNds.lower {w : World} {B B' n : Nat} {l cl more : List Nd} {v : Value} (h : LNds w B l cl v n more) (hB : B' ≤ B) : LNds w B' l cl v n more :=
  ⟨h.len, h.twin, own_lower h.row hB, fun x hx => own_lower (h.kids x hx) hB⟩
theorem LGr.below {w w' : World} {B : Nat} {g h : Gr} (f : LGr w B g h) (hb : Below w.heap.size w w') : LGr w' B g h :=
  ⟨f.rules, own_below f.rrow hb, f.nodes.below hb⟩
theorem LGr.rulesX {w : World} {B : Nat} {g h : Gr} (f : LGr w B g h) : Rules w h.RA (h.rules ++ marksR 12) := by
  have := f.rrow
  rw [← rcells_apps, ← len_rules] at this
  exact own_rules this
theorem LGr.nodesX {w : World} {B : Nat} {g h : Gr} (f : LGr w B g h) : Nodes w h.NA (h.nodes ++ marksN 12) := by
  have := f.nodes.row
  rw [← ncells_apps, ← len_nodes] at this
  exact own_nodes this
theorem LGr.kidsX {w : World} {B : Nat} {g h : Gr} (f : LGr w B g h) (x : Nd) (hx : x ∈ h.nodes) : Lies w x.A (ints x.kids ++ marks 12) := own_lies1 (f.nodes.kids x hx)
theorem Rules.front {w : World} {A : Option Addr} {l m : List Rl} (h : Rules w A (l ++ m)) : Rules w A l := by
  intro h0
  obtain ⟨b, o, e, hb, hc⟩ := h (by rw [List.length_append]; omega)
  refine ⟨b, o, e, hb, fun i hi => ?_⟩
  have := hc i (by rw [List.length_append]; omega)
  rwa [List.getD, List.getElem?_append_left hi] at this
theorem Nodes.front {w : World} {A : Option Addr} {l m : List Nd} (h : Nodes w A (l ++ m)) : Nodes w A l := by
  intro h0
  obtain ⟨b, o, e, hb, hc⟩ := h (by rw [List.length_append]; omega)
  refine ⟨b, o, e, hb, fun i hi => ?_⟩
  have := hc i (by rw [List.length_append]; omega)
  rwa [List.getD, List.getElem?_append_left hi] at this
theorem Lies.front {w : World} {A : Option Addr} {l m : List Value} (h : Lies w A (l ++ m)) : Lies w A l := by
  intro h0
  obtain ⟨b, o, e, hb, hc⟩ := h (by rw [List.length_append]; omega)
  refine ⟨b, o, e, hb, fun i hi => ?_⟩
  rw [hc i (by rw [List.length_append]; omega), List.getElem?_append_left hi]
theorem own_room2 {w : World} {B e z n c m : Nat} {A : Option Addr} {xs : List Value} (h : w.ownsRow B e z (.slice A m c) n xs) (hn : 0 < n) : (∃ b, A = some ⟨b, 0, none⟩) ∧ n ≤ c := by
  rcases h.2 with ⟨h1, h2⟩ | ⟨g, cap, cur, h1, hbg, hgg, hnc, rest⟩
  · omega
  · simp only [Value.slice.injEq] at h1
    obtain ⟨rfl, _, rfl⟩ := h1
    exact ⟨⟨g, rfl⟩, hnc⟩
theorem LGr.lies {w w' : World} {B : Nat} {g h : Gr} (f : LGr w' B g h) (hg : Gr.At w g) : Gr.At w' h :=
  f.twin.lies hg f.rulesX.front f.nodesX.front (fun x hx => ⟨(f.kidsX x hx).front, fun e => by
    obtain ⟨⟨b, e2⟩, _⟩ := own_room2 (f.nodes.kids x hx) (by omega)
    rw [e] at e2; cases e2⟩) (fun e => by
    obtain ⟨⟨b, e2⟩, _⟩ := own_room2 f.rrow (by omega)
    rw [e] at e2; cases e2) (fun e => by
    obtain ⟨⟨b, e2⟩, _⟩ := own_room2 f.nodes.row (by omega)
    rw [e] at e2; cases e2)
def LentG (w : World) (B : Nat) (g : Gr) (e : Ending) : Prop := ∃ h : Gr, e = .returned h.val ∧ LGr w B g h
set_option maxRecDepth 100000 in
set_option maxHeartbeats 4000000 in
theorem lentGram_any (g : Gr) (w : World) (hg : Gr.At w g) (h1 : g.rules.length ≤ 100000) (h2 : g.nodes.length ≤ 100000) (h3 : ∀ x ∈ g.nodes, x.kids.length ≤ 100000) :
    Calls Tryz.prog 28 #[g.val] w fun e w' => LentG w' w.heap.size g e ∧ Below w.heap.size w w' := by
  have CR := Lib.hid (fun (w' : World) (b : Below w.heap.size w w') => lentRules_any g.RA g.rc g.rules.length g.rules rfl h1 (fun e => ⟨rules_none hg.rules e, hg.rn e⟩) w' (hg.below b).rules)
  have CN := Lib.hid (fun (w' : World) (b : Below w.heap.size w w') => lentNodes_any g.NA g.nodes g.nc h2 w' (hg.below b).nodes (fun x hx => ⟨(hg.below b).kids x hx, h3 x hx⟩))
  clear hg h1 h2 h3
  show Calls Tryz.prog 28 #[.agg #[.slice g.RA g.rules.length g.rc, .slice g.NA g.nodes.length g.nc]] w _
  go_enter Tryz.func28, Tryz.ntmps28
  go_wp2_with (first | (go_at_call 98; (with_reducible refine (CR.out _ (B2 _ _ _)).mono ?_); rintro e w1 ⟨A1, c1, rfl, ho, hb⟩; have HO := Lib.hid (own_lower (base' := w.heap.size + 2) ho (by simp)); have HLS := Lib.hid (show w.heap.size + 2 ≤ w1.heap.size by have := hb.size; simp at this; omega); have KB := Lib.hid (((Blk.new w _ _).alloc _).below' hb); have KR := Lib.hid (by have := (Blk.new (w.alloc _) _ _).below' hb; rw [World.size_alloc] at this; exact this); have H1 := Lib.hid (bb (B2 w _ _) hb); clear ho hb) | (refine wpList_store_blk rfl 22 (.tmp 6) (.tmp 5) rfl w.heap.size 0 _ rfl rfl rfl 25 _ KB.out (by first | simp | (show 0 < 2; omega)) (by kernel_rfl) #[.slice A1 g.rules.length c1, .slice g.NA g.nodes.length g.nc] rfl ?_; intro w2 hk hg; have KB2 := Lib.hid hk; have KR2 := Lib.hid (KR.out.grown hg (by intro e; have := Option.some.inj e; omega)); have HO2 := Lib.hid (own_blk HO.out (by omega) hg); have H2 := Lib.hid (grown_below H1.out H1.out.size hg (fun k e => by cases e; omega)); have HL2 := Lib.hid (show w.heap.size < w2.heap.size by have := HLS.out; have := hg.size; omega); have HL3 := Lib.hid (show w.heap.size + 1 < w2.heap.size by have := HLS.out; have := hg.size; omega); have d0 := hk.cell 0; have d1 := hk.cell 1; simp only [List.getElem?_toArray, List.getElem?_cons_zero, List.getElem?_cons_succ] at d0 d1; clear hk hg) | (go_at_call 99; (with_reducible refine (CN.out _ H2.out).mono ?_); rintro e w3 ⟨⟨A2, c2, cl, rfl, hno⟩, hb⟩; have HNO := Lib.hid hno; have KB3 := Lib.hid (KB2.out.below' hb); have KR3 := Lib.hid (KR2.out.below' hb); have HO3 := Lib.hid (own_below HO2.out hb); have H3 := Lib.hid (bb H2.out hb); clear hno hb d0 d1) | (refine wpList_store_blk rfl 23 (.tmp 10) (.tmp 9) rfl w.heap.size 1 _ rfl rfl rfl 25 _ KB3.out (by first | simp | (show 1 < 2; omega)) (by kernel_rfl) #[.slice A1 g.rules.length c1, .slice A2 g.nodes.length c2] rfl ?_; intro w4 hk hg; have KR4 := Lib.hid (KR3.out.grown hg (by intro e; have := Option.some.inj e; omega)); have HO4 := Lib.hid (own_blk HO3.out (by omega) hg); have HNO4 := Lib.hid (HNO.out.blk HL2.out hg); have H4 := Lib.hid (grown_below H3.out H3.out.size hg (fun k e => by cases e; omega)); have d0 := hk.cell 0; have d1 := hk.cell 1; simp only [List.getElem?_toArray, List.getElem?_cons_zero, List.getElem?_cons_succ] at d0 d1; clear hk hg) | (refine wpList_store_whole rfl 25 (.tmp 2) (.tmp 11) rfl (w.heap.size + 1) #[.slice A1 g.rules.length c1, .slice A2 g.nodes.length c2] rfl rfl 25 _ KR4.out (by kernel_rfl) (by rfl) (by simp [Value.oneCell']) ?_; intro w5 hk hg; have KR5 := Lib.hid hk; have HO5 := Lib.hid (own_blk HO4.out (by omega) hg); have HNO5 := Lib.hid (HNO4.out.blk HL3.out hg); have H5 := Lib.hid (grown_below H4.out H4.out.size hg (fun k e => by cases e; omega)); clear hk hg d0 d1))
  have en : cl.length = g.nodes.length := HNO5.out.len
  refine bodyPost_ret (results_cell_row rfl _ _ (w.heap.size + 1) 25 _ (0, 0) _ rfl KR5.out Tryz.underlying25 rfl (by kernel_rfl)) rfl ⟨⟨⟨A1, c1, g.rules, A2, c2, cl⟩, ?_, rfl, own_lower HO5.out (by omega), ?_⟩, H5.out⟩
  · show Ending.returned (.agg #[.slice A1 g.rules.length c1, .slice A2 g.nodes.length c2]) = .returned (.agg #[.slice A1 g.rules.length c1, .slice A2 cl.length c2])
    rw [en]
  · show LNds w5 w.heap.size g.nodes cl (.slice A2 (cl.length + 12) c2) (cl.length + 12) (marksN 12)
    rw [en]
    exact HNO5.out.lower H2.out.size
end Go.Proofs.YtlbjmkljmhfjdaaGreat
namespace Go.Proofs.YtlbjmkljmhfjdaaGreat
open Go Go.RowKit Go.Maps
theorem rank_of {g : Gr} (hR : Right g) (i : Nat) (hi : i < g.rules.length) : rankOf g i = (ranks g).getD i 0 := by
  unfold rankOf
  rw [if_pos ⟨rightB_true.2 hR, by omega, by omega⟩, Int.toNat_natCast]
theorem nodeB_of {g : Gr} (hR : Right g) (n : Nat) (hn : n < g.nodes.length) : nodeB g n = mayN g.nodes (inB (ranks g)) n := by
  unfold nodeB
  rw [rightB_true.2 hR]
  have : (0 : Int) ≤ n ∧ (n : Int) < g.nodes.length := by omega
  simp [this.2]
theorem nodesOf_of {g : Gr} (hR : Right g) : nodesOf g = rowOf' g.nodes.length (fun n => mayN g.nodes (inB (ranks g)) n) := by
  unfold nodesOf
  rw [rightB_true.2 hR]
  rfl
theorem rows_no {g : Gr} (h : rightB g = false) : rulesOf g = [] ∧ nodesOf g = [] := by
  unfold rulesOf nodesOf
  rw [h]
  exact ⟨rfl, rfl⟩
theorem row_no {w w' : World} {e : Ending} {L : List Nat} (h : Row w L e w') (hL : L = []) : e = .returned (.slice none 0 0) ∧ Below w.heap.size w w' := by
  obtain ⟨⟨v, rfl, _, hn⟩, hb⟩ := h
  rw [hn.2 hL]
  exact ⟨rfl, hb⟩
/-- The row of what may, some of it stored. -/
structure MidM (w4 wr : World) (mb : Nat) (L : List Nat) (j : Nat) (ml : List Bool) (N : Nat) : Prop where
  row : Blk wr mb (bls ml).toArray 4
  len : ml.length = N
  val : ∀ q, q < N → ml.getD q false = decide (q ∈ L.take j)
  size : wr.heap.size = w4.heap.size
  other : ∀ b, b ≠ mb → wr.heap[b]? = w4.heap[b]?
theorem MidM.start {w4 : World} {mb N : Nat} {L : List Nat} (h : Blk w4 mb (bls (List.replicate N false)).toArray 4) : MidM w4 w4 mb L 0 (List.replicate N false) N :=
  ⟨h, by simp, fun q hq => by simp only [List.getD, List.getElem?_replicate]; rw [if_pos hq]; simp, rfl, fun _ _ => rfl⟩
theorem MidM.step {w4 wr : World} {mb N j : Nat} {L : List Nat} {ml : List Bool} (h : MidM w4 wr mb L j ml N) (hj : j < L.length) :
    MidM w4 (wr.setCell ⟨mb, L.getD j 0, none⟩ (.bool true)) mb L (j + 1) (ml.set (L.getD j 0) true) N := by
  have ht : L.take (j + 1) = L.take j ++ [L.getD j 0] := by
    rw [List.take_add_one]
    simp [List.getD, List.getElem?_eq_getElem hj]
  refine ⟨?_, by rw [List.length_set]; exact h.len, fun q hq => ?_, by rw [← h.size]; simp [World.setCell], fun b hb => (Below.heap_setCell _ _ _ b hb).trans (h.other b hb)⟩
  · have := h.row.put (k := L.getD j 0) (.bool true)
    rw [bls_set] at this
    exact this
  · rw [ht]
    generalize L.getD j 0 = e0
    by_cases e : q = e0
    · subst e
      simp only [List.getD]
      rw [List.getElem?_set_self (by rw [h.len]; exact hq)]
      simp
    · simp only [List.getD]
      rw [List.getElem?_set_ne (fun h => e h.symm)]
      have := h.val q hq
      simp only [List.getD] at this
      rw [this]
      simp [e]
theorem MidM.done {w4 wr : World} {mb : Nat} {g : Gr} {ml : List Bool} {f : Nat → Bool} (h : MidM w4 wr mb (rowOf' g.nodes.length f) (rowOf' g.nodes.length f).length ml g.nodes.length) (q : Nat) (hq : q < g.nodes.length) : ml.getD q false = f q := by
  rw [h.val q hq, List.take_length]
  cases hf : f q with
  | true => exact decide_eq_true (rowOf_mem.2 ⟨hq, hf⟩)
  | false => exact decide_eq_false (fun h => by have := (rowOf_mem.1 h).2; rw [hf] at this; cases this)
end Go.Proofs.YtlbjmkljmhfjdaaGreat
namespace Go.Proofs.YtlbjmkljmhfjdaaGreat
open Go Go.RowKit Go.Maps
end Go.Proofs.YtlbjmkljmhfjdaaGreat
namespace Go.Proofs.YtlbjmkljmhfjdaaGreat
open Go Go.RowKit Go.Maps
theorem leaf_kids {x : Nd} {r : Int} (h : nodeOk x r = true) (hk : x.kind = 2 ∨ x.kind = 3 ∨ x.kind = 4 ∨ x.kind = 5) : x.kids = [] := by
  rcases hk with e | e | e | e
  · rw [nodeOk_of (n := 290) (by rw [e]; decide)] at h
    simp [tk, sameNd, bare] at h
    exact h.2.2.2.2
  · rw [nodeOk_of (n := 291) (by rw [e]; decide)] at h
    simp [tk, sameNd, bare] at h
    exact h.2.2.2.2
  · rw [nodeOk_of (n := 292) (by rw [e]; decide)] at h
    simp [tk, sameNd, bare] at h
    exact h.2.2.2.2
  · rw [nodeOk_of (n := 293) (by rw [e]; decide)] at h
    simp [tk, sameNd, bare] at h
    exact h.2.2.2
theorem k234 {k : Int} (h : k = 2 ∨ k = 3 ∨ k = 4) : k = 2 ∨ k = 3 ∨ k = 4 ∨ k = 5 := by omega
theorem bare_ok (k r : Int) (hk : k = 1 ∨ k = 2) : nodeOk (bare k) r = true := by
  rcases hk with rfl | rfl
  · rw [nodeOk_of (n := 290) (by decide)]
    simp [tk, sameNd, bare]
  · rw [nodeOk_of (n := 290) (by decide)]
    simp [tk, sameNd, bare]
theorem never {x : Nd} (hk : x.kind = 2 ∨ x.kind = 3 ∨ x.kind = 4) (f inn : Int → Bool) : stepMay x f inn = false := by
  unfold stepMay
  rcases hk with e | e | e <;> simp [e]
theorem bare1_may (f inn : Int → Bool) : stepMay (bare 1) f inn = true := by unfold stepMay; simp [bare]
theorem call_step {x : Nd} (hk : x.kind = 5) (f inn : Int → Bool) : stepMay x f inn = inn x.rule := by unfold stepMay; simp [hk]
theorem bare_in (k : Int) (hk : 1 ≤ k ∧ k ≤ 12) : Nd.In (bare k) := by
  refine ⟨by simp only [bare]; omega, by show (0 : Nat) ≤ _; omega⟩
theorem twin_kz {g h : Gr} (t : GTwin g h) : h.kz = g.kz := by
  unfold Gr.kz
  rw [t.rules]
  congr 1
  apply List.ext_getElem (by simp [t.len])
  intro i h1 h2
  simp only [List.length_map] at h1 h2
  have := t.node i h2
  simp only [List.getD, List.getElem?_eq_getElem h1, List.getElem?_eq_getElem h2, Option.getD_some] at this
  obtain ⟨A, c, e⟩ := this
  simp only [List.getElem_map]
  rw [e]
  rfl
theorem turn_kz {g h : Gr} (t : GTwin g h) (c : Nat) (y : Nd) : (h.turn c y).kz = (g.turn c y).kz := by
  have := twin_kz t
  unfold Gr.kz at this ⊢
  simp only [Gr.mk.injEq, true_and] at this
  simp only [Gr.turn, List.map_set]
  rw [this.1, this.2]
theorem rulesOf_kz (g : Gr) : rulesOf g.kz = rulesOf g := by
  unfold rulesOf
  rw [rightB_kz, ranks_kz]
  rfl
theorem rankOf_pos (g : Gr) (i : Int) : 0 ≤ rankOf g i := by
  unfold rankOf
  split
  · exact ranks_pos g _
  · omega
set_option maxHeartbeats 1000000 in
theorem ints_same (A B : Option Addr) (c d : Nat) (a b : List Int) (ha : a.length ≤ 140737488351232) (hb : b.length ≤ 140737488351232) (w : World) (hA : Lies w A (ints a)) (hB : Lies w B (ints b)) :
    Calls Tryz.prog 58 #[.slice A a.length c, .slice B b.length d] w fun e w' => e = .returned (.bool (decide (a = b))) ∧ ∃ n, w' = w.drewN n := by
  have HA := Lib.hid hA
  have HB := Lib.hid hB
  clear hA hB
  by_cases hl : a.length = b.length
  · have HL := Lib.hid hl
    obtain ⟨m, em⟩ : ∃ m, m = b.length := ⟨_, rfl⟩
    rw [← em] at hl hb ⊢
    rw [hl] at ha ⊢
    have EM := Lib.hid em
    clear em hl
    go_enter Tryz.func58, Tryz.ntmps58
    go_wp2_with fail
    go_loopw [5] (fun i wr => ∃ (k n : Nat), k ≤ m ∧ i = .int .i64 k ∧ a.take k = b.take k ∧ wr = w.drewN n) (fun i _ => m - (intOf i).toNat)
    case atStart => exact ⟨0, 0, by omega, rfl, by simp, rfl⟩
    case round =>
      obtain ⟨k, n, hk, rfl, ht, rfl⟩ := hrel
      have HT := Lib.hid ht
      clear ht
      by_cases hlt : k < m
      · have hlt2 : (k : Int) < m := by omega
        obtain ⟨b1, o1, rfl, _, c1⟩ := lies_cell HA.out (show k < a.length by have := HL.out; have := EM.out; omega)
        obtain ⟨b2, o2, rfl, _, c2⟩ := lies_cell HB.out (show k < b.length by have := EM.out; omega)
        have HS := Lib.hid (take_same (a := a) (b := b) (k := k) (by have := HL.out; have := EM.out; omega) HL.out HT.out)
        have HN := Lib.hid (@getD_ne a b k)
        generalize a.getD k 0 = x at c1 HS HN
        generalize b.getD k 0 = y at c2 HS HN
        by_cases hxy : x = y
        · have HK := Lib.hid (HS.out.2 hxy)
          have hb : (x == y) = true := by simpa using hxy
          have hb2 : (x != y) = false := by simpa using hxy
          clear HS HN hxy
          go_wp2_with fail
          go_quiet (fail)
          go_wp2_with fail
          go_roundw
          case rel => exact ⟨k + 1, n + nq, by omega, by go_num, HK.out, by first | rfl | exact World.drewN_drewN _ _ _⟩
          case measure => simp [intOf]; omega
        · have HK := Lib.hid (HN.out hxy)
          have hb : (x == y) = false := by simpa using hxy
          have hb2 : (x != y) = true := by simpa using hxy
          clear HS HN hxy
          go_wp2_with fail
          go_quiet (fail)
          go_wp2_with fail
          go_ret
          exact ⟨ret_bool (by simpa using HK.out), n + nq, by first | rfl | exact World.drewN_drewN _ _ _⟩
      · obtain rfl : k = m := by omega
        have hlt2 : ¬ (k : Int) < k := by omega
        go_wp2_with fail
        go_ret
        exact ⟨ret_bool (by have := HT.out; rw [List.take_of_length_le (by have := HL.out; have := EM.out; omega), List.take_of_length_le (by have := EM.out; omega)] at this; simp [this]), n, rfl⟩
  · have hne : ¬ (a.length : Int) = b.length := by omega
    have hv : decide (a = b) = false := by simp; intro e; rw [e] at hl; exact hl rfl
    rw [hv]
    clear hv hl
    go_enter Tryz.func58, Tryz.ntmps58
    go_wp2_with fail
    go_ret
    exact ⟨rfl, 0, rfl⟩
theorem rows_le (g : Gr) (hR : Right g) : (rulesOf g).length ≤ 140737488351232 ∧ (nodesOf g).length ≤ 140737488351232 := by
  have h1 := hR.rules.2
  have h2 := hR.nodes
  rw [nodesOf_of hR]
  unfold rulesOf
  rw [rightB_true.2 hR]
  have h3 := rowOf_len (fun i => inB (ranks g) i) g.rules.length
  have h4 := rowOf_len (fun n => mayN g.nodes (inB (ranks g)) n) g.nodes.length
  exact ⟨by simp only [if_true]; omega, by omega⟩
theorem same_row (A B : Option Addr) (c d : Nat) (L : List Nat) (hl : L.length ≤ 140737488351232) (w : World) (hA : Lies w A (ints (nums L))) (hB : Lies w B (ints (nums L))) :
    Calls Tryz.prog 58 #[.slice A L.length c, .slice B L.length d] w fun e w' => e = .returned (.bool true) ∧ Below w.heap.size w w' := by
  have := ints_same A B c d (nums L) (nums L) (by rw [nums_len]; exact hl) (by rw [nums_len]; exact hl) w hA hB
  rw [nums_len] at this
  refine this.mono ?_
  rintro e w' ⟨rfl, n, rfl⟩
  exact ⟨by rw [decide_eq_true rfl], bdrew (Below.refl _ _)⟩
theorem turn_in_ {g h : Gr} (t : GTwin g h) (hi : Gr.In g) (c : Nat) (k : Int) (hk : 1 ≤ k ∧ k ≤ 12) : Gr.In (h.turn c (bare k)) := by
  intro x hx
  rcases List.mem_or_eq_of_mem_set hx with hx | rfl
  · exact (t.within hi) x hx
  · exact bare_in k hk
/-- A Text, a Set, an Any made an Empty. -/
theorem more_empty {g h : Gr} {c : Nat} (hR : Right g) (t : GTwin g h) (hc : c < g.nodes.length) (hk : (g.nodes.getD c Nd.zero).kind = 2 ∨ (g.nodes.getD c Nd.zero).kind = 3 ∨ (g.nodes.getD c Nd.zero).kind = 4) :
    nodeB (h.turn c (bare 1)) c = true ∧ nodeB g c = false ∧ ∀ i, i < g.rules.length → 0 < (ranks g).getD i 0 → 0 < rankOf (h.turn c (bare 1)) i ∧ rankOf (h.turn c (bare 1)) i ≤ (ranks g).getD i 0 := by
  have hkids : (bare 1).kids = (g.nodes.getD c Nd.zero).kids := by
    rw [leaf_kids (hR.all c hc) (k234 hk)]; rfl
  have hR2 : Right (g.turn c (bare 1)) := turn_right hR hc hkids (bare_ok 1 _ (.inl rfl))
  refine ⟨?_, ?_, fun i hi h0 => ?_⟩
  · rw [← nodeB_kz, turn_kz t, nodeB_kz, nodeB_of hR2 c (by rw [turn_len]; exact hc), mayN_eq (turn_up_kids hR hc hkids) _ (by omega) (by rw [turn_len]; omega), Int.toNat_natCast, turn_at hc]
    exact bare1_may _ _
  · rw [nodeB_of hR c hc, mayN_eq hR.kidsUp _ (by omega) (by omega), Int.toNat_natCast]
    exact never hk _ _
  · rw [← rankOf_kz, turn_kz t, rankOf_kz, rank_of hR2 i hi]
    exact turn_rank hR hc hkids (fun f inn => never hk f inn) i h0
/-- A Call of a rule that may not made an Any. -/
theorem more_any {g h : Gr} {c : Nat} (hR : Right g) (t : GTwin g h) (hc : c < g.nodes.length) (hk : (g.nodes.getD c Nd.zero).kind = 5) (h0 : ¬ 0 < (ranks g).getD (g.nodes.getD c Nd.zero).rule.toNat 0) :
    rulesOf (h.turn c (bare 2)) = rulesOf g ∧ nodesOf (h.turn c (bare 2)) = nodesOf g := by
  have hkids : (bare 2).kids = (g.nodes.getD c Nd.zero).kids := by
    rw [leaf_kids (hR.all c hc) (.inr (.inr (.inr hk)))]; rfl
  have hR2 : Right (g.turn c (bare 2)) := turn_right hR hc hkids (bare_ok 2 _ (.inr rfl))
  have hn : ∀ f k, stepMay (g.nodes.getD c Nd.zero) f (inB (rk g k)) = false := fun f k => by
    rw [call_step hk]
    unfold inB
    apply decide_eq_false
    intro hp
    apply h0
    by_cases hkl : k ≤ g.rules.length
    · have := rk_keep g k _ hp (g.rules.length - k)
      rw [show k + (g.rules.length - k) = g.rules.length by omega] at this
      show 0 < (rk g g.rules.length).getD _ 0
      rw [this]; exact hp
    · have : rk g k = ranks g := by
        obtain ⟨N, n1, n2, _⟩ := rounds_end g
        have e := rk_stay g N n2 (k - N)
        rw [show N + (k - N) = k by omega] at e
        rw [e, ranks_fix g n1 n2]
      rw [this] at hp
      exact hp
  have hrk : ranks (g.turn c (bare 2)) = ranks g := turn_rk hR hc hkids hn (fun f inn => never (.inl rfl) f inn) _
  constructor
  · rw [← rulesOf_kz, turn_kz t, rulesOf_kz]
    unfold rulesOf
    rw [rightB_true.2 hR, rightB_true.2 hR2, hrk, turn_rules]
  · rw [← nodesOf_kz, turn_kz t, nodesOf_kz, nodesOf_of hR, nodesOf_of hR2, hrk, turn_len]
    apply rowOf_congr
    intro i hi
    exact turn_same hR hc hkids _ (fun f => hn f g.rules.length) (fun f => never (.inl rfl) f _) i (by omega) (by omega)
end Go.Proofs.YtlbjmkljmhfjdaaGreat
namespace Go.Proofs.YtlbjmkljmhfjdaaGreat
open Go Go.RowKit
@[go_sem] theorem eqClass (a b c d a' b' c' d' : Int) (w : World) : (Op.equalIn 10000 37 (.agg #[.int .u64 a, .int .u64 b, .int .u64 c, .int .u64 d]) (.agg #[.int .u64 a', .int .u64 b', .int .u64 c', .int .u64 d'])).run Tryz.prog w = .ok (a == a' && b == b' && c == c' && d == d') w := by
  have u3 := Tryz.underlying35
  have a3 := Tryz.isAgg35
  have z3 := Tryz.sizeOf35
  rw [show (10000 : Nat) = 9999 + 1 from rfl, Op.equalIn]
  simp only [Sem.run_bind, run_underlying Tryz.underlying37, Result.andThen_ok]
  simp only [Std.Legacy.Range.forIn_eq_forIn_range', Std.Legacy.Range.size, Nat.sub_zero, Nat.add_sub_cancel, Nat.div_one, List.range'_succ, List.range'_zero, List.forIn_cons, List.forIn_nil]
  go_simp
  by_cases h1 : a = a' <;> by_cases h2 : b = b' <;> by_cases h3 : c = c' <;> by_cases h4 : d = d' <;> simp [h1, h2, h3, h4]
theorem eqRule (a b : ByteArray) (c d : Int) (w : World) : (Op.equalIn 10000 124 (.agg #[.string a, .int .i64 c]) (.agg #[.string b, .int .i64 d])).run Tryz.prog w = .ok (decide (a.toList = b.toList) && c == d) w := by
  have u3 := Tryz.underlying3
  have a3 := Tryz.isAgg3
  have z3 := Tryz.sizeOf3
  have u9 := Tryz.underlying9
  have a9 := Tryz.isAgg9
  have z9 := Tryz.sizeOf9
  rw [show (10000 : Nat) = 9999 + 1 from rfl, Op.equalIn]
  simp only [Sem.run_bind, run_underlying Tryz.underlying124, Result.andThen_ok]
  go_simp
  by_cases h1 : a.toList = b.toList <;> by_cases h2 : c = d <;> simp [h1, h2]
set_option maxHeartbeats 1000000 in
theorem kitSame_any (x y : Nd) (w : World) (hx : Nd.At w x) (hy : Nd.At w y) : Calls Tryz.prog 159 #[x.val, y.val] w fun e w' => e = .returned (.bool (sameNd x y)) ∧ Below w.heap.size w w' := by
  have R := Lib.hid (fun (w' : World) (h : Below w.heap.size w w') => ints_same x.A y.A x.cap y.cap x.kids y.kids hx.2.2 hy.2.2 w' (hx.below h).1 (hy.below h).1)
  clear hx hy
  go_enter Tryz.func159, Tryz.ntmps159
  go_wp2_with (go_at_call 58; refine (R.out _ (B2 _ _ _)).mono ?_; rintro e w1 ⟨rfl, n, rfl⟩)
  all_goals go_ret
  all_goals refine ⟨ret_bool ?_, by first | exact B2 _ _ _ | exact bdrew (B2 _ _ _)⟩
  all_goals (unfold sameNd; rw [Bool.eq_iff_iff]; simp only [tl_inj, beq_iff_eq, Bool.and_eq_true, decide_eq_true_eq, Bool.false_eq_true] at *; simp_all)

set_option maxHeartbeats 2000000 in
theorem kitRules_any (A B : Option Addr) (c d : Nat) (a b : List Rl) (ha : a.length ≤ 140737488351232) (hb : b.length ≤ 140737488351232) (w : World) (hA : Rules w A a) (hB : Rules w B b) :
    Calls Tryz.prog 142 #[.slice A a.length c, .slice B b.length d] w fun e w' => e = .returned (.bool (rowSame Rl.zero sameRl a b)) ∧ ∃ n, w' = w.drewN n := by
  have HA := Lib.hid hA
  have HB := Lib.hid hB
  clear hA hB
  by_cases hl : a.length = b.length
  · have HL := Lib.hid hl
    have RT := Lib.hid (rowSame_true (z := Rl.zero) (f := sameRl) (a := a) (b := b))
    have RF := Lib.hid (rowSame_false (z := Rl.zero) (f := sameRl) (a := a) (b := b))
    obtain ⟨v, ev⟩ : ∃ v, v = rowSame Rl.zero sameRl a b := ⟨_, rfl⟩
    rw [← ev] at RT RF ⊢
    clear ev
    obtain ⟨m, em⟩ : ∃ m, m = b.length := ⟨_, rfl⟩
    rw [← em] at hl hb ⊢
    rw [hl] at ha ⊢
    have EM := Lib.hid em
    clear em hl
    go_enter Tryz.func142, Tryz.ntmps142
    go_wp2_with fail
    go_loopw [5] (fun i wr => ∃ (k n : Nat), k ≤ m ∧ i = .int .i64 k ∧ (∀ j, j < k → sameRl (a.getD j Rl.zero) (b.getD j Rl.zero) = true) ∧ wr = w.drewN n) (fun i _ => m - (intOf i).toNat)
    case atStart => exact ⟨0, 0, by omega, rfl, fun j h => by omega, rfl⟩
    case round =>
      obtain ⟨k, n, hk, rfl, ht, rfl⟩ := hrel
      have HT := Lib.hid ht
      clear ht
      by_cases hlt : k < m
      · have hlt2 : (k : Int) < m := by omega
        obtain ⟨b1, o1, rfl, _, c1, c2⟩ := HA.out.two (show k < a.length by have := HL.out; have := EM.out; omega)
        obtain ⟨b2, o2, rfl, _, c3, c4⟩ := HB.out.two (show k < b.length by have := EM.out; omega)
        generalize hx : a.getD k Rl.zero = x at *
        generalize hy : b.getD k Rl.zero = y at *
        have HX := Lib.hid hx
        have HY := Lib.hid hy
        clear hx hy
        obtain ⟨sv, es⟩ : ∃ sv, sv = sameRl x y := ⟨_, rfl⟩
        have q1 : (decide (x.name.toList = y.name.toList) && x.body == y.body) = sv := by rw [es, Bool.eq_iff_iff]; simp [sameRl, tl_inj]
        have ES := Lib.hid es
        have EQ : ∀ w', (Op.equalIn 10000 124 (.agg #[.string x.name, .int .i64 x.body]) (.agg #[.string y.name, .int .i64 y.body])).run Tryz.prog w' = .ok sv w' := fun w' => by rw [eqRule, q1]
        clear es q1
        generalize x.name = xn at *
        generalize y.name = yn at *
        generalize x.body = xb at *
        generalize y.body = yb at *
        cases sv with
        | true =>
          go_wp2_with fail
          go_quiet (fail)
          go_wp2_with fail
          go_roundw
          case rel => exact ⟨k + 1, n + nq, by omega, by go_num, fun j hj => by
              by_cases e : j = k
              · subst e; rw [HX.out, HY.out]; exact ES.out.symm
              · exact HT.out j (by omega), by first | rfl | exact World.drewN_drewN _ _ _⟩
          case measure => simp [intOf]; omega
        | false =>
          go_wp2_with fail
          go_quiet (fail)
          go_wp2_with fail
          go_ret
          exact ⟨ret_bool (RF.out k (by have := HL.out; have := EM.out; omega) (by rw [HX.out, HY.out]; exact ES.out.symm)).symm, n + nq, by first | rfl | exact World.drewN_drewN _ _ _⟩
      · obtain rfl : k = m := by omega
        have hlt2 : ¬ (k : Int) < k := by omega
        go_wp2_with fail
        go_ret
        exact ⟨ret_bool (RT.out HL.out (fun i hi => HT.out i (by have := HL.out; have := EM.out; omega))).symm, n, rfl⟩
  · have hne : ¬ (a.length : Int) = b.length := by omega
    rw [rowSame_len hl]
    clear hl
    go_enter Tryz.func142, Tryz.ntmps142
    go_wp2_with fail
    go_ret
    exact ⟨rfl, 0, rfl⟩
set_option maxRecDepth 100000 in
set_option maxHeartbeats 2000000 in
theorem kitNodes_any (A B : Option Addr) (c d : Nat) (a b : List Nd) (ha : a.length ≤ 140737488351232) (hb : b.length ≤ 140737488351232) (w : World) (hA : Nodes w A a) (hB : Nodes w B b) (hxa : ∀ x ∈ a, Nd.At w x) (hxb : ∀ x ∈ b, Nd.At w x) :
    Calls Tryz.prog 143 #[.slice A a.length c, .slice B b.length d] w fun e w' => e = .returned (.bool (rowSame Nd.zero sameNd a b)) ∧ Below w.heap.size w w' := by
  have HA := Lib.hid hA
  have HB := Lib.hid hB
  have XA := Lib.hid hxa
  have XB := Lib.hid hxb
  clear hxa hxb
  clear hA hB
  by_cases hl : a.length = b.length
  · have HL := Lib.hid hl
    have RT := Lib.hid (rowSame_true (z := Nd.zero) (f := sameNd) (a := a) (b := b))
    have RF := Lib.hid (rowSame_false (z := Nd.zero) (f := sameNd) (a := a) (b := b))
    obtain ⟨v, ev⟩ : ∃ v, v = rowSame Nd.zero sameNd a b := ⟨_, rfl⟩
    rw [← ev] at RT RF ⊢
    clear ev
    obtain ⟨m, em⟩ : ∃ m, m = b.length := ⟨_, rfl⟩
    rw [← em] at hl hb ⊢
    rw [hl] at ha ⊢
    have EM := Lib.hid em
    clear em hl
    go_enter Tryz.func143, Tryz.ntmps143
    go_wp2_with fail
    go_loopw [5] (fun i wr => ∃ (k : Nat), k ≤ m ∧ i = .int .i64 k ∧ (∀ j, j < k → sameNd (a.getD j Nd.zero) (b.getD j Nd.zero) = true) ∧ Below w.heap.size w wr) (fun i _ => m - (intOf i).toNat)
    case atStart => exact ⟨0, by omega, rfl, fun j h => by omega, Below.refl _ _⟩
    case round =>
      obtain ⟨k, hk, rfl, ht, hbl⟩ := hrel
      have HT := Lib.hid ht
      have BL := Lib.hid hbl
      clear ht hbl
      by_cases hlt : k < m
      · have hlt2 : (k : Int) < m := by omega
        obtain ⟨b1, o1, rfl, _, c1, c2, c3, c4, c5, c6, c7, c8, c9⟩ := (HA.out.below BL.out).nine (show k < a.length by have := HL.out; have := EM.out; omega)
        obtain ⟨b2, o2, rfl, _, c10, c11, c12, c13, c14, c15, c16, c17, c18⟩ := (HB.out.below BL.out).nine (show k < b.length by have := EM.out; omega)
        have T := Lib.hid (fun (w' : World) (h : Below wr.heap.size wr w') => kitSame_any (a.getD k Nd.zero) (b.getD k Nd.zero) w' (((XA.out _ (by exact getD_mem (by have := HL.out; have := EM.out; omega))).below BL.out).below h) (((XB.out _ (by exact getD_mem (by have := EM.out; omega))).below BL.out).below h))
        have SV := Lib.hid (show sameNd (a.getD k Nd.zero) (b.getD k Nd.zero) = sameNd (a.getD k Nd.zero) (b.getD k Nd.zero) from rfl)
        generalize hx : a.getD k Nd.zero = x at *
        generalize hy : b.getD k Nd.zero = y at *
        have HX := Lib.hid hx
        have HY := Lib.hid hy
        clear hx hy
        have d1 := fun e => Ext.cell c1 e
        have d2 := fun e => Ext.cell c2 e
        have d3 := fun e => Ext.cell c3 e
        have d4 := fun e => Ext.cell c4 e
        have d5 := fun e => Ext.cell c5 e
        have d6 := fun e => Ext.cell c6 e
        have d7 := fun e => Ext.cell c7 e
        have d8 := fun e => Ext.cell c8 e
        have d9 := fun e => Ext.cell c9 e
        have d10 := fun e => Ext.cell c10 e
        have d11 := fun e => Ext.cell c11 e
        have d12 := fun e => Ext.cell c12 e
        have d13 := fun e => Ext.cell c13 e
        have d14 := fun e => Ext.cell c14 e
        have d15 := fun e => Ext.cell c15 e
        have d16 := fun e => Ext.cell c16 e
        have d17 := fun e => Ext.cell c17 e
        have d18 := fun e => Ext.cell c18 e
        clear c1 c2 c3 c4 c5 c6 c7 c8 c9 c10 c11 c12 c13 c14 c15 c16 c17 c18
        obtain ⟨sv, es⟩ : ∃ sv, sv = sameNd x y := ⟨_, rfl⟩
        rw [← es] at T
        have ES := Lib.hid es
        clear es SV
        cases sv with
        | true =>
          go_wp2_with fail
          refine wp_region_ext (by kernel_rfl) (by kernel_rfl) ?_
          repeat (first | go_big_quiet_step ((go_at_call 159; exact Calls.ext_of (T.out _ (Ext.grown _)))) | quiet_step ((go_at_call 159; exact Calls.ext_of (T.out _ (Ext.grown _)))))
          refine wpQuiet_nil ?_
          intro _ hw'
          obtain ⟨⟨w1, hb1⟩, rfl⟩ := hw'
          have B1' := Lib.hid (bb BL.out hb1)
          clear hb1 d1 d2 d3 d4 d5 d6 d7 d8 d9 d10 d11 d12 d13 d14 d15 d16 d17 d18 T
          go_wp2_with fail
          go_roundw
          case rel => exact ⟨k + 1, by omega, by go_num, fun j hj => by
              by_cases e : j = k
              · subst e; rw [HX.out, HY.out]; exact ES.out.symm
              · exact HT.out j (by omega), B1'.out⟩
          case measure => simp [intOf]; omega
        | false =>
          go_wp2_with fail
          refine wp_region_ext (by kernel_rfl) (by kernel_rfl) ?_
          repeat (first | go_big_quiet_step ((go_at_call 159; exact Calls.ext_of (T.out _ (Ext.grown _)))) | quiet_step ((go_at_call 159; exact Calls.ext_of (T.out _ (Ext.grown _)))))
          refine wpQuiet_nil ?_
          intro _ hw'
          obtain ⟨⟨w1, hb1⟩, rfl⟩ := hw'
          have B1' := Lib.hid (bb BL.out hb1)
          clear hb1 d1 d2 d3 d4 d5 d6 d7 d8 d9 d10 d11 d12 d13 d14 d15 d16 d17 d18 T
          go_wp2_with fail
          go_ret
          exact ⟨ret_bool (RF.out k (by have := HL.out; have := EM.out; omega) (by rw [HX.out, HY.out]; exact ES.out.symm)).symm, B1'.out⟩
      · obtain rfl : k = m := by omega
        have hlt2 : ¬ (k : Int) < k := by omega
        go_wp2_with fail
        go_ret
        exact ⟨ret_bool (RT.out HL.out (fun i hi => HT.out i (by have := HL.out; have := EM.out; omega))).symm, BL.out⟩
  · have hne : ¬ (a.length : Int) = b.length := by omega
    rw [rowSame_len hl]
    clear hl
    go_enter Tryz.func143, Tryz.ntmps143
    go_wp2_with fail
    go_ret
    exact ⟨rfl, Below.refl _ _⟩

set_option maxHeartbeats 1000000 in
theorem kitGram_any (g h : Gr) (w : World) (hg : Gr.At w g) (hh : Gr.At w h) : Calls Tryz.prog 84 #[g.val, h.val] w fun e w' => e = .returned (.bool (sameGr g h)) ∧ Below w.heap.size w w' := by
  have R := Lib.hid (fun (w' : World) (b : Below w.heap.size w w') => kitRules_any g.RA h.RA g.rc h.rc g.rules h.rules hg.rl hh.rl w' (hg.below b).rules (hh.below b).rules)
  have N := Lib.hid (fun (w' : World) (b : Below w.heap.size w w') => kitNodes_any g.NA h.NA g.nc h.nc g.nodes h.nodes hg.nl hh.nl w' (hg.below b).nodes (hh.below b).nodes (hg.below b).kids (hh.below b).kids)
  clear hg hh
  have HV := Lib.hid (show sameGr g h = (rowSame Rl.zero sameRl g.rules h.rules && rowSame Nd.zero sameNd g.nodes h.nodes) from rfl)
  obtain ⟨x, ex⟩ : ∃ x, x = rowSame Rl.zero sameRl g.rules h.rules := ⟨_, rfl⟩
  obtain ⟨y, ey⟩ : ∃ y, y = rowSame Nd.zero sameNd g.nodes h.nodes := ⟨_, rfl⟩
  rw [← ex] at R HV
  rw [← ey] at N HV
  clear ex ey
  cases x with
  | true =>
    go_enter Tryz.func84, Tryz.ntmps84
    go_wp2_with (first | (go_at_call 142; refine (R.out _ (B2 _ _ _)).mono ?_; rintro e w1 ⟨rfl, nn, rfl⟩; have H1 := Lib.hid (bdrew (n := nn) (B2 w (.cells #[.slice g.RA g.rules.length g.rc, .slice g.NA g.nodes.length g.nc] 25) (.cells #[.slice h.RA h.rules.length h.rc, .slice h.NA h.nodes.length h.nc] 25)))) | (go_at_call 143; refine (N.out _ H1.out).mono ?_; rintro e w2 ⟨rfl, hb⟩; have H2 := Lib.hid (bb H1.out hb); clear hb))
    all_goals go_ret
    all_goals exact ⟨ret_bool (by rw [HV.out]; simp), H2.out⟩
  | false =>
    go_enter Tryz.func84, Tryz.ntmps84
    go_wp2_with (go_at_call 142; refine (R.out _ (B2 _ _ _)).mono ?_; rintro e w1 ⟨rfl, nn, rfl⟩)
    all_goals go_ret
    all_goals exact ⟨ret_bool (by rw [HV.out]; simp), bdrew (B2 _ _ _)⟩
end Go.Proofs.YtlbjmkljmhfjdaaGreat

/- A leaf turned into another leaf, plainly: what may match nothing then. -/
import Derived.Test.YtlbjmkljmhfjdaaGreatD1
import Derived.Test.YtlbjmkljmhfjdaaGreatE1
import Derived.Test.YtlbjmkljmhfjdaaGreatB6
import Derived.Deep.MidRow
import Derived.Test.YtlbjmkljmhfjdaaGreatD7
import Derived.Test.YtlbjmkljmhfjdaaGreatC2
import Derived.Test.YtlbjmkljmhfjdaaGreatA3
set_option linter.unusedSimpArgs false
set_option linter.unusedVariables false
namespace Go.Proofs.YtlbjmkljmhfjdaaGreat
open Go Go.RowKit Go.Maps
end Go.Proofs.YtlbjmkljmhfjdaaGreat
namespace Go.Proofs.YtlbjmkljmhfjdaaGreat
open Go Go.RowKit Go.Maps
theorem own_blkT {w : World} {B e size n b : Nat} {v : Value} {xs : List Value} (h : w.ownsRow B e size v n xs) (hv : v.ownBlock = some b) : ∃ vs, Blk w b vs e ∧ n * size ≤ vs.size := by
  rcases h.2 with ⟨rfl, _⟩ | ⟨g, cap, cur, rfl, hbg, hgg, hn, hc, hs, rest⟩
  · cases hv
  · simp only [Value.ownBlock, Option.some.injEq] at hv
    subst hv
    exact ⟨cur, hgg, by rw [hs]; exact Nat.mul_le_mul_right _ hn⟩
theorem Blk.same_T {w : World} {b : Nat} {vs vs' : Array Value} {T T' : TypeId} (h : Blk w b vs T) (h' : Blk w b vs' T') : T = T' := by
  have e : some (Obj.cells vs T (0, 0)) = some (Obj.cells vs' T' (0, 0)) := h.symm.trans h'
  simp only [Option.some.injEq, Obj.cells.injEq] at e
  exact e.2.1
end Go.Proofs.YtlbjmkljmhfjdaaGreat
namespace Go.Proofs.YtlbjmkljmhfjdaaGreat
open Go Go.Proofs Go.RowKit Go.Lib Go.Maps
theorem none_kids {w : World} {x : Nd} (h : Nd.At w x) (e : x.A = none) : x.kids.length = 0 := by
  by_cases h0 : 0 < (ints x.kids).length
  · obtain ⟨b, o, e2, _⟩ := h.1 h0
    rw [e] at e2; cases e2
  · rw [ints_length] at h0; omega
theorem own_awayX {W W' : World} {B B' e e' z z' n n' : Nat} {v v' : Value} {xs xs' : List Value} (h : W.ownsRow B e z v n xs) (h' : W.ownsRow B' e' z' v' n' xs') (hT : e ≠ e') (hg : W.grownBy W' v'.ownBlock) : W'.ownsRow B e z v n xs := by
  refine own_kept h (fun k hk => hg.block k (h.lt k hk).2 (fun e2 => ?_))
  obtain ⟨vs, k1, _⟩ := own_blkT h hk
  obtain ⟨vs2, k2, _⟩ := own_blkT h' (b := k) (by first | exact e2 | exact e2.symm)
  exact hT (k1.same_T k2)
set_option maxRecDepth 100000 in
set_option maxHeartbeats 4000000 in
theorem lentNode_any (x : Nd) (hl : x.kids.length ≤ 100000) (w : World) (h : Nd.At w x) :
    Calls Tryz.prog 149 #[x.val] w fun e w' => ∃ A' c', e = .returned (x.at_ A' c').val ∧ w'.ownsRow w.heap.size 3 1 (.slice A' (x.kids.length + 12) c') (x.kids.length + 12) (ints x.kids ++ marks 12) ∧ Below w.heap.size w w' := by
  have CI := Lib.hid (fun (w' : World) (b : Below w.heap.size w w') => lentints_any x.A x.cap x.kids.length x.kids rfl hl (fun e => ⟨none_kids h e, h.2.1 e⟩) w' (h.below b).1)
  clear h hl
  go_enter Tryz.func149, Tryz.ntmps149
  go_wp2_with (first | (go_at_call 121; refine (CI.out _ (B2 _ _ _)).mono ?_; rintro e w1 ⟨A1, c1, rfl, ho, hb⟩; have HO := Lib.hid (own_lower (base' := w.heap.size + 2) ho (by simp)); have KB := Lib.hid (((Blk.new w _ _).alloc _).below' hb); have KR := Lib.hid (by have := (Blk.new (w.alloc _) _ _).below' hb; rw [World.size_alloc] at this; exact this); have H1 := Lib.hid (bb (B2 w _ _) hb); clear ho hb) | (refine wpList_store_blk rfl 38 (.tmp 6) (.tmp 5) rfl w.heap.size 8 _ rfl rfl rfl 40 _ KB.out (by first | simp | (show 8 < 9; omega)) (by kernel_rfl) (x.at_ A1 c1).cells.toArray rfl ?_; intro w2 hk hg; have HO2 := Lib.hid (HO.out.kept hg (by have hlt := HO.out.lt; cases hv : Value.ownBlock (.slice A1 (x.kids.length + 12) c1) with | none => exact .inl rfl | some k => exact .inr (fun e => by have := (hlt k hv).1; cases e; omega))); have KR2 := Lib.hid (KR.out.grown hg (by intro e; have := Option.some.inj e; omega)); have H2 := Lib.hid (grown_below H1.out H1.out.size hg (fun k e => by cases e; omega)); have d0 := hk.cell 0; have d1 := hk.cell 1; have d2 := hk.cell 2; have d3 := hk.cell 3; have d4 := hk.cell 4; have d5 := hk.cell 5; have d6 := hk.cell 6; have d7 := hk.cell 7; have d8 := hk.cell 8; simp only [Nd.cells, List.getElem?_toArray, List.getElem?_cons_zero, List.getElem?_cons_succ] at d0 d1 d2 d3 d4 d5 d6 d7 d8; clear hk hg) | (refine wpList_store_whole rfl 40 (.tmp 2) (.tmp 7) rfl (w.heap.size + 1) (x.at_ A1 c1).cells.toArray rfl rfl 40 _ KR2.out (by kernel_rfl) (by rfl) (by simp [Nd.cells, Value.oneCell']) ?_; intro w3 hk hg; have K3 := Lib.hid hk; have HO3 := Lib.hid (HO2.out.kept hg (by have hlt := HO2.out.lt; cases hv : Value.ownBlock (.slice A1 (x.kids.length + 12) c1) with | none => exact .inl rfl | some k => exact .inr (fun e => by have := (hlt k hv).1; cases e; omega))); have H3 := Lib.hid (grown_below H2.out H2.out.size hg (fun k e => by cases e; omega)); clear hk hg d0 d1 d2 d3 d4 d5 d6 d7 d8))
  exact bodyPost_ret (results_cell_row rfl _ _ (w.heap.size + 1) 40 _ (0, 0) _ rfl K3.out Tryz.underlying40 rfl (by kernel_rfl)) rfl ⟨A1, c1, rfl, own_lower HO3.out (by omega), H3.out⟩
def mkR (i : Nat) : Rl := ⟨ByteArray.empty, mrk 1 i⟩
def marksR (j : Nat) : List Rl := (List.range j).map mkR
theorem marksR_next (j : Nat) : marksR (j + 1) = marksR j ++ [mkR j] := by simp [marksR, List.range_succ]
theorem marksR_len (j : Nat) : (marksR j).length = j := by simp [marksR]
def lmkN (i : Nat) : Nd := { Nd.zero with rule := mrk 1 i }
def marksN (j : Nat) : List Nd := (List.range j).map lmkN
theorem marksN_next (j : Nat) : marksN (j + 1) = marksN j ++ [lmkN j] := by simp [marksN, List.range_succ]
theorem marksN_len (j : Nat) : (marksN j).length = j := by simp [marksN]
theorem rcells_apps : ∀ (a b : List Rl), rcells (a ++ b) = rcells a ++ rcells b
  | [], b => rfl
  | x :: a, b => by simp [rcells, rcells_apps a b]
set_option maxRecDepth 100000 in
theorem markRule_any (i : Nat) (hi : i < 12) (w : World) : Calls Tryz.prog 148 #[.int .i64 1, .int .i64 i] w fun e w' => e = .returned (.agg #[.string ByteArray.empty, .int .i64 (mrk 1 i)]) ∧ Below w.heap.size w w' := by
  have MK := Lib.hid (fun w' => show Calls Tryz.prog 184 #[.int .i64 1, .int .i64 (i : Nat)] w' fun e w'' => e = .returned (.int .i64 (mrk 1 i)) ∧ w'' = w' from xmark_any 1 i (by omega) (by omega) w')
  clear hi
  go_enter Tryz.func148, Tryz.ntmps148
  go_wp2_with (first | (go_at_call 184; (with_reducible refine (MK.out _).mono ?_); rintro e w3 ⟨rfl, rfl⟩) | (refine wpList_store_whole rfl 124 (.tmp 4) (.tmp 8) rfl w.heap.size #[.string ByteArray.empty, .int .i64 (mrk 1 i)] rfl rfl 124 _ (Blk.new _ _ _) (by kernel_rfl) (by rfl) (by simp [Value.oneCell']) ?_; intro w2 hk hg; have K2 := Lib.hid hk; have H2 := Lib.hid (grown_below (B1 w _) (by simp) hg (fun k e => by cases e; exact Nat.le_refl _)); clear hk hg))
  exact bodyPost_ret (results_cell_row rfl _ _ w.heap.size 124 _ (0, 0) _ rfl K2.out Tryz.underlying124 rfl (by kernel_rfl)) rfl ⟨rfl, H2.out⟩
set_option maxRecDepth 100000 in
theorem markNode_any (i : Nat) (hi : i < 12) (w : World) : Calls Tryz.prog 150 #[.int .i64 1, .int .i64 i] w fun e w' => e = .returned (lmkN i).val ∧ Below w.heap.size w w' := by
  have MK := Lib.hid (fun w' => show Calls Tryz.prog 184 #[.int .i64 1, .int .i64 (i : Nat)] w' fun e w'' => e = .returned (.int .i64 (mrk 1 i)) ∧ w'' = w' from xmark_any 1 i (by omega) (by omega) w')
  clear hi
  go_enter Tryz.func150, Tryz.ntmps150
  go_wp2_with (first | (go_at_call 184; (with_reducible refine (MK.out _).mono ?_); rintro e w3 ⟨rfl, rfl⟩) | (refine wpList_store_whole rfl 40 (.tmp 4) (.tmp 8) rfl w.heap.size (lmkN i).cells.toArray rfl rfl 40 _ (Blk.new _ _ _) (by kernel_rfl) (by rfl) (by simp [Nd.cells, Value.oneCell']) ?_; intro w2 hk hg; have K2 := Lib.hid hk; have H2 := Lib.hid (grown_below (B1 w _) (by simp) hg (fun k e => by cases e; exact Nat.le_refl _)); clear hk hg))
  exact bodyPost_ret (results_cell_row rfl _ _ w.heap.size 40 _ (0, 0) _ rfl K2.out Tryz.underlying40 rfl (by kernel_rfl)) rfl ⟨rfl, H2.out⟩
end Go.Proofs.YtlbjmkljmhfjdaaGreat
namespace Go.Proofs.YtlbjmkljmhfjdaaGreat
open Go Go.Proofs Go.RowKit Go.Lib Go.Maps
theorem own_roomT (w : World) (T size cap : Nat) (cs : Array Value) (hc : cs.size = cap * size) (hn : cap ≤ maxLen) : (w.alloc (.cells cs T)).ownsRow w.heap.size T size (.slice (some ⟨w.heap.size, 0, none⟩) 0 cap) 0 [] :=
  World.ownsRow_made w cs cap (Nat.le_refl _) hn hc
theorem rule_news (w : World) (x y : Value) (T : TypeId) : ∀ a, some (⟨w.heap.size, 0, none⟩ : Addr) = some a → ∀ j u, [x, y][j]? = some u → (w.alloc (.cells #[x, y] T)).cell? (a.add j) = some u := new_news w [x, y] T
set_option maxRecDepth 100000 in
set_option maxHeartbeats 4000000 in
theorem lentRules_any (A : Option Addr) (c m : Nat) (l : List Rl) (em : m = l.length) (hl : m ≤ 100000) (hc : A = none → m = 0 ∧ c = 0) (w : World) (hA : Rules w A l) :
    Calls Tryz.prog 98 #[.slice A m c] w fun e w' => ∃ A' c', e = .returned (.slice A' m c') ∧ w'.ownsRow w.heap.size 124 2 (.slice A' (m + 12) c') (m + 12) (rcells l ++ rcells (marksR 12)) ∧ Below w.heap.size w w' := by
  obtain ⟨i0, hi, hz0, hz1, hz2⟩ := info_parts Tryz.info124
  have NW := Lib.hid (show ∀ w', Below w.heap.size w w' → ∀ a, A = some a → ∀ j u, (rcells l)[j]? = some u → w'.cell? (a.add j) = some u from fun w' hb => (hA.below hb).news)
  have HC := Lib.hid hc
  have HL := Lib.hid (show (rcells l).length = m * 2 by rw [rcells_length]; omega)
  have H1 := Lib.hid (rcells_one l)
  have MK := Lib.hid (fun i (hi : i < 12) w' => markRule_any i hi w')
  have hw12 : IntKind.i64.wrap ((m : Int) + 12) = (m : Int) + 12 := IntWalk.i64_in _ (by omega)
  have hmk : ∀ W : World, (Instr.makeSlice 22 (.int .i64 0) (.int .i64 ((m : Int) + 12))).run Tryz.prog W = .ok (.slice (some ⟨W.heap.size, 0, none⟩) 0 (m + 12)) (W.alloc (.cells (madeCells (Value.agg #[.string ByteArray.empty, .int .i64 0]).cells ((m + 12) * 2)) 124)) := fun W => by
    have hr := run_make (P := Tryz.prog) W 22 124 i0 (.agg #[.string ByteArray.empty, .int .i64 0]) Tryz.underlying22 hi hz0 .i64 .i64 ((0 : Nat) : Int) ((m + 12 : Nat) : Int) (by omega) (by omega) (by rw [hz2]; omega) (by omega)
    rw [hz1, Int.toNat_natCast, Int.toNat_natCast, Int.natCast_add] at hr
    exact hr
  clear hA hc em
  have hli : (m : Int) + 12 ≤ 100012 := by omega
  go_enter Tryz.func98, Tryz.ntmps98
  obtain ⟨ca, eca⟩ : ∃ ca, ca = madeCells (Value.agg #[.string ByteArray.empty, .int .i64 0]).cells ((m + 12) * 2) := ⟨_, rfl⟩
  have hcs : ca.size = (m + 12) * 2 := by rw [eca]; simp [madeCells]
  rw [← eca] at hmk
  have OR := Lib.hid (own_roomT w 124 2 (m + 12) ca hcs (by unfold maxLen; omega))
  clear eca hcs
  go_wp2_with (at_builtin; refine wpList_append_onto _ rfl _ _ 22 rfl w.heap.size 124 i0 (.agg #[.string ByteArray.empty, .int .i64 0]) 2 24 Tryz.underlying22 hi hz0 hz1 hz2 rfl (by decide) _ _ _ rfl OR.out A m c (rcells l) rfl HL.out (NW.out _ (B1 w _)) HC.out H1.out (by unfold maxLen; omega) (by omega) (by simp) ?_; intro v9 w9 hown9 hgrow9 hfr9; have O9 := Lib.hid hown9; have G9 := Lib.hid hgrow9; clear hown9 hgrow9 hfr9)
  have HB9 := Lib.hid (grown_below (B1 w (.cells ca 124)) (by simp) G9.out (fun q hq => (OR.out.lt q hq).1))
  have O9' := O9.out
  rw [Nat.zero_add, List.nil_append] at O9'
  have O0 := Lib.hid O9'
  clear O9' hmk O9 G9 OR
  go_loopw [3, 4] (fun ov iv wr => ∃ (k : Nat) (v : Value), k ≤ 12 ∧ iv = .int .i64 k ∧ ov = v ∧ wr.ownsRow w.heap.size 124 2 v (m + k) (rcells l ++ rcells (marksR k)) ∧ Below w.heap.size w wr) (fun _ iv _ => 12 - (RowKit.intOf iv).toNat)
  case atStart => exact ⟨0, _, by omega, rfl, rfl, by simpa [marksR, rcells] using O0.out, HB9.out⟩
  case round =>
    clear O0 HB9
    obtain ⟨k, v, hk, rfl, rfl, ho, hb⟩ := hrel
    have OW := Lib.hid ho
    have HB := Lib.hid hb
    obtain ⟨Av, cv, rfl, _, _⟩ := own_slice ho
    by_cases hlt : k < 12
    · have hlt2 : (k : Int) < 12 := by omega
      have M1 := Lib.hid (MK.out k hlt wr)
      clear ho hb
      go_wp2_with (first | (go_at_call 148; (with_reducible refine M1.out.mono ?_); rintro e w3 ⟨rfl, hb3⟩; have HB3 := Lib.hid hb3; clear hb3) | (at_builtin; refine wpList_append_onto _ rfl _ _ 22 rfl w.heap.size 124 i0 (.agg #[.string ByteArray.empty, .int .i64 0]) 2 24 Tryz.underlying22 hi hz0 hz1 hz2 rfl (by decide) _ _ _ rfl (own_below (own_below OW.out HB3.out) (B1 _ _)) (some ⟨w3.heap.size, 0, none⟩) 1 1 [.string ByteArray.empty, .int .i64 (mrk 1 k)] rfl rfl (rule_news w3 _ _ _) (fun h => by cases h) (by simp [Value.oneCell']) (by unfold maxLen; omega) (by omega) (by have h1 := HB.out.size; have h2 := HB3.out.size; simp; omega) ?_; intro v9 w9 hown9 hgrow9 hfr9; have O9 := Lib.hid hown9; have G9 := Lib.hid hgrow9; clear hown9 hgrow9 hfr9))
      go_roundw
      case rel => exact ⟨k + 1, v9, by omega, by go_num, rfl, by rw [marksR_next, rcells_apps, ← List.append_assoc]; exact O9.out, grown_below ((HB.out.trans (HB3.out.mono HB.out.size)).trans ((B1 _ _).mono (by have := HB.out.size; have := HB3.out.size; omega))) (by have := HB.out.size; have := HB3.out.size; simp; omega) G9.out (fun q hq => (OW.out.lt q hq).1)⟩
      case measure => simp [RowKit.intOf]; omega
    · obtain rfl : k = 12 := by omega
      have hlt2 : ¬ ((12 : Nat) : Int) < 12 := by omega
      have hcv : m ≤ cv := by
        obtain ⟨A', c', e', _, h'⟩ := own_slice ho
        cases e'; omega
      have hcv2 : (m : Int) ≤ cv := by omega
      clear ho hb
      go_wp2_with fail
      go_ret
      exact ⟨_, _, rfl, OW.out, HB.out⟩
end Go.Proofs.YtlbjmkljmhfjdaaGreat
namespace Go.Proofs.YtlbjmkljmhfjdaaGreat
open Go Go.Proofs Go.RowKit Go.Lib Go.Maps
theorem ncells_apps : ∀ (a b : List Nd), ncells (a ++ b) = ncells a ++ ncells b
  | [], b => rfl
  | x :: a, b => by simp [ncells, ncells_apps a b]
/-- A lent node's kids: in a row of the call's own, marks behind them. -/
def LKid (w : World) (B : Nat) (x : Nd) : Prop := w.ownsRow B 3 1 (.slice x.A (x.kids.length + 12) x.cap) (x.kids.length + 12) (ints x.kids ++ marks 12)
theorem LKid.below {w w' : World} {B : Nat} {x : Nd} (h : LKid w B x) (hb : Below w.heap.size w w') : LKid w' B x := own_below h hb
theorem LKid.away {W W' : World} {B B' n' : Nat} {x : Nd} {v' : Value} {xs' : List Value} (h : LKid W B x) (h' : W.ownsRow B' 40 9 v' n' xs') (hg : W.grownBy W' v'.ownBlock) : LKid W' B x := own_awayX h h' (by decide) hg
/-- Lent nodes. -/
structure LNds (w : World) (B : Nat) (l cl : List Nd) (v : Value) (n : Nat) (more : List Nd) : Prop where
  len : cl.length = l.length
  twin : ∀ j, j < l.length → Twin (l.getD j Nd.zero) (cl.getD j Nd.zero)
  row : w.ownsRow B 40 9 v n (ncells cl ++ ncells more)
  kids : ∀ x ∈ cl, LKid w B x
def LentN (w : World) (B : Nat) (l : List Nd) (e : Ending) : Prop := ∃ A' c' cl, e = .returned (.slice A' l.length c') ∧ LNds w B l cl (.slice A' (l.length + 12) c') (l.length + 12) (marksN 12)
theorem LentN.mk {w : World} {B : Nat} {l : List Nd} {A' : Option Addr} {m c' : Nat} {cl : List Nd} (em : m = l.length) (h : LNds w B l cl (.slice A' (m + 12) c') (m + 12) (marksN 12)) : LentN w B l (.returned (.slice A' m c')) := by
  subst em
  exact ⟨A', c', cl, rfl, h⟩
set_option maxRecDepth 100000 in
set_option maxHeartbeats 8000000 in
theorem lentNodes_any (A : Option Addr) (l : List Nd) (c : Nat) (hl : l.length ≤ 100000) (w : World) (h : Nodes w A l) (hx : ∀ x ∈ l, Nd.At w x ∧ x.kids.length ≤ 100000) :
    Calls Tryz.prog 99 #[.slice A l.length c] w fun e w' => LentN w' w.heap.size l e ∧ Below w.heap.size w w' := by
  obtain ⟨i0, hi, hz0, hz1, hz2⟩ := info_parts Tryz.info40
  have HN := Lib.hid h
  have HX := Lib.hid hx
  obtain ⟨m, em⟩ : ∃ m, m = l.length := ⟨_, rfl⟩
  have EM := Lib.hid em
  rw [← em] at hl ⊢
  have MK := Lib.hid (fun i (hi : i < 12) w' => markNode_any i hi w')
  have hw12 : IntKind.i64.wrap ((m : Int) + 12) = (m : Int) + 12 := IntWalk.i64_in _ (by omega)
  have hmk : ∀ W : World, (Instr.makeSlice 23 (.int .i64 0) (.int .i64 ((m : Int) + 12))).run Tryz.prog W = .ok (.slice (some ⟨W.heap.size, 0, none⟩) 0 (m + 12)) (W.alloc (.cells (madeCells Nd.zero.val.cells ((m + 12) * 9)) 40)) := fun W => by
    have hr := run_make (P := Tryz.prog) W 23 40 i0 Nd.zero.val Tryz.underlying23 hi hz0 .i64 .i64 ((0 : Nat) : Int) ((m + 12 : Nat) : Int) (by omega) (by omega) (by rw [hz2]; omega) (by omega)
    rw [hz1, Int.toNat_natCast, Int.toNat_natCast, Int.natCast_add] at hr
    exact hr
  clear h hx em
  have hli : (m : Int) + 12 ≤ 100012 := by omega
  go_enter Tryz.func99, Tryz.ntmps99
  obtain ⟨ca, eca⟩ : ∃ ca, ca = madeCells Nd.zero.val.cells ((m + 12) * 9) := ⟨_, rfl⟩
  have hcs : ca.size = (m + 12) * 9 := by rw [eca]; simp [madeCells]
  rw [← eca] at hmk
  have OR := Lib.hid (own_roomT w 40 9 (m + 12) ca hcs (by unfold maxLen; omega))
  clear eca hcs
  go_wp2_with fail
  go_loopw [3, 4] (fun ov iv wr => ∃ (k : Nat) (cl : List Nd) (v : Value), k ≤ m ∧ iv = .int .i64 k ∧ ov = v ∧ cl.length = k ∧ (∀ j, j < k → Twin (l.getD j Nd.zero) (cl.getD j Nd.zero)) ∧ wr.ownsRow w.heap.size 40 9 v k (ncells cl) ∧ (∀ x ∈ cl, LKid wr w.heap.size x) ∧ Below w.heap.size w wr) (fun _ iv _ => m - (RowKit.intOf iv).toNat)
  case atStart => exact ⟨0, [], _, by omega, rfl, rfl, rfl, fun j hj => by omega, OR.out, by simp, B1 w _⟩
  case round =>
    clear OR hmk
    obtain ⟨k, cl, v, hk, rfl, rfl, hcl, htw, hown, hkid, hbl⟩ := hrel
    obtain ⟨O, oc, rfl, hOn, hoc⟩ := own_slice hown
    have HTW := Lib.hid htw
    have HOWN := Lib.hid hown
    have HKID := Lib.hid hkid
    have BL := Lib.hid hbl
    have HCL := Lib.hid hcl
    clear htw hown hkid hbl hcl hOn hoc
    by_cases hlt : k < m
    · have hlt2 : (k : Int) < m := by omega
      have hkl : k < l.length := by have := EM.out; omega
      obtain ⟨hat, hks⟩ := HX.out _ (getD_mem hkl)
      obtain ⟨b1, o1, eA, _, n1, n2, n3, n4, n5, n6, n7, n8, n9⟩ := (HN.out.below BL.out).nine hkl
      generalize hxx : l.getD k Nd.zero = x at hat hks n1 n2 n3 n4 n5 n6 n7 n8 n9
      have HXX := Lib.hid hxx
      have CN := Lib.hid (lentNode_any x hks wr (hat.below BL.out))
      subst eA
      clear hxx hat hks
      go_wp2_with (first | (go_at_call 149; (with_reducible refine CN.out.mono ?_); rintro e w1 ⟨A1, c1, rfl, ho, hb⟩; have HO := Lib.hid ho; have H1 := Lib.hid hb; clear ho hb n1 n2 n3 n4 n5 n6 n7 n8 n9) | (refine wpList_store_whole rfl 40 (.tmp 5) (.tmp 21) rfl w1.heap.size (x.at_ A1 c1).cells.toArray rfl rfl 40 _ (Blk.new _ _ _) (by kernel_rfl) (by rfl) (by simp [Nd.cells, Value.oneCell']) ?_; intro w2 hk2 hg; have H2 := Lib.hid (grown_below (B1 w1 _) (by simp) hg (fun k e => by cases e; exact Nat.le_refl _)); have d0 := hk2.cell 0; have d1 := hk2.cell 1; have d2 := hk2.cell 2; have d3 := hk2.cell 3; have d4 := hk2.cell 4; have d5 := hk2.cell 5; have d6 := hk2.cell 6; have d7 := hk2.cell 7; have d8 := hk2.cell 8; simp only [Nd.cells, List.getElem?_toArray, List.getElem?_cons_zero, List.getElem?_cons_succ] at d0 d1 d2 d3 d4 d5 d6 d7 d8; clear hk2 hg) | (at_builtin; refine wpList_append_onto _ rfl (.tmp 22) (.tmp 24) 23 rfl w.heap.size 40 i0 Nd.zero.val 9 96 Tryz.underlying23 hi hz0 hz1 hz2 rfl (by decide) (.slice O k oc) k (ncells cl) rfl (own_below (own_below (own_below HOWN.out H1.out) H2.out) (B1 w2 _)) (some ⟨w2.heap.size, 0, none⟩) 1 1 (x.at_ A1 c1).cells rfl rfl (new_news w2 (x.at_ A1 c1).cells 40) (fun h => nomatch h) (cells_one _) (by unfold maxLen; omega) (by omega) (by have := BL.out.size; have := H1.out.size; have := H2.out.size; simp; omega) ?_; intro v1 w4 ho hg hf; have HO4 := Lib.hid ho; have HG4 := Lib.hid hg; clear ho hg hf))
      have B4 : Below w.heap.size w (w2.alloc (.cells (x.at_ A1 c1).cells.toArray 40)) := bb (bb (bb BL.out H1.out) H2.out) (B1 w2 _)
      have hrow := own_below (own_below (own_below HOWN.out H1.out) H2.out) (B1 w2 (.cells (x.at_ A1 c1).cells.toArray 40))
      have tk : ∀ y, LKid w1 w.heap.size y → LKid w4 w.heap.size y := fun y hy => ((hy.below H2.out).below (B1 w2 _)).away hrow HG4.out
      go_roundw
      case rel =>
        refine ⟨k + 1, cl ++ [x.at_ A1 c1], v1, by omega, by go_num, rfl, by simp [HCL.out], fun j hj => ?_, by rw [ncells_app]; exact HO4.out, fun y hy => ?_, grown_below B4 B4.size HG4.out (fun q e => (HOWN.out.lt q e).1)⟩
        · by_cases ej : j = k
          · subst ej
            rw [HXX.out, List.getD, List.getElem?_append_right (by rw [HCL.out]; omega), HCL.out]
            simp
            exact ⟨A1, c1, rfl⟩
          · have := HTW.out j (by omega)
            rw [List.getD, List.getD] at this ⊢
            rw [List.getElem?_append_left (by rw [HCL.out]; omega)]
            exact this
        · rcases List.mem_append.1 hy with hy | hy
          · exact tk y ((HKID.out y hy).below H1.out)
          · simp at hy
            subst hy
            exact tk _ (own_lower HO.out BL.out.size)
      case measure => simp [RowKit.intOf]; omega
    · obtain rfl : k = m := by omega
      have hlt2 : ¬ (k : Int) < k := by omega
      go_wp2_with fail
      go_loopw [3, 6] (fun ov iv wr => ∃ (j : Nat) (v : Value), j ≤ 12 ∧ iv = .int .i64 j ∧ ov = v ∧ wr.ownsRow w.heap.size 40 9 v (k + j) (ncells cl ++ ncells (marksN j)) ∧ (∀ x ∈ cl, LKid wr w.heap.size x) ∧ Below w.heap.size w wr) (fun _ iv _ => 12 - (RowKit.intOf iv).toNat)
      case atStart => exact ⟨0, _, by omega, rfl, rfl, by simpa [marksN, ncells] using HOWN.out, HKID.out, BL.out⟩
      case round =>
        clear HOWN HKID BL
        obtain ⟨j, v, hj, rfl, rfl, ho, hki, hb⟩ := hrel
        have OW := Lib.hid ho
        have HK := Lib.hid hki
        have HB := Lib.hid hb
        obtain ⟨Av, cv, rfl, _, _⟩ := own_slice ho
        by_cases hltj : j < 12
        · have hlt3 : (j : Int) < 12 := by omega
          have M1 := Lib.hid (MK.out j hltj wr)
          clear ho hb hki
          go_wp2_with (first | (go_at_call 150; (with_reducible refine M1.out.mono ?_); rintro e w3 ⟨rfl, hb3⟩; have HB3 := Lib.hid hb3; clear hb3) | (at_builtin; refine wpList_append_onto _ rfl (.tmp 30) (.tmp 33) 23 rfl w.heap.size 40 i0 Nd.zero.val 9 96 Tryz.underlying23 hi hz0 hz1 hz2 rfl (by decide) _ _ _ rfl (own_below (own_below OW.out HB3.out) (B1 _ _)) (some ⟨w3.heap.size, 0, none⟩) 1 1 (lmkN j).cells rfl rfl (new_news w3 (lmkN j).cells 40) (fun h => nomatch h) (cells_one _) (by unfold maxLen; omega) (by omega) (by have h1 := HB.out.size; have h2 := HB3.out.size; simp; omega) ?_; intro v9 w9 hown9 hgrow9 hfr9; have O9 := Lib.hid hown9; have G9 := Lib.hid hgrow9; clear hown9 hgrow9 hfr9))
          have hrow := own_below (own_below OW.out HB3.out) (B1 w3 (.cells (lmkN j).cells.toArray 40))
          go_roundw
          case rel => exact ⟨j + 1, v9, by omega, by go_num, rfl, by rw [marksN_next, ncells_app, ← List.append_assoc]; exact O9.out, fun y hy => (((HK.out y hy).below HB3.out).below (B1 w3 _)).away hrow G9.out, grown_below ((HB.out.trans (HB3.out.mono HB.out.size)).trans ((B1 _ _).mono (by have := HB.out.size; have := HB3.out.size; omega))) (by have := HB.out.size; have := HB3.out.size; simp; omega) G9.out (fun q hq => (OW.out.lt q hq).1)⟩
          case measure => simp [RowKit.intOf]; omega
        · obtain rfl : j = 12 := by omega
          have hlt3 : ¬ ((12 : Nat) : Int) < 12 := by omega
          have hcv : k ≤ cv := by
            obtain ⟨A', c', e', _, h'⟩ := own_slice ho
            cases e'; omega
          have hcv2 : (k : Int) ≤ cv := by omega
          clear ho hb hki
          go_wp2_with fail
          go_ret
          exact ⟨LentN.mk EM.out ⟨by rw [HCL.out, EM.out], fun j hj => HTW.out j (by rw [EM.out]; exact hj), OW.out, HK.out⟩, HB.out⟩
end Go.Proofs.YtlbjmkljmhfjdaaGreat
namespace Go.Proofs.YtlbjmkljmhfjdaaGreat
open Go Go.Proofs Go.RowKit Go.Lib Go.Maps
theorem len_rules (l : List Rl) : (l ++ marksR 12).length = l.length + 12 := by rw [List.length_append, marksR_len]
theorem len_nodes (l : List Nd) : (l ++ marksN 12).length = l.length + 12 := by rw [List.length_append, marksN_len]
/-- A lent grammar. -/
structure LGr (w : World) (B : Nat) (g h : Gr) : Prop where
  rules : h.rules = g.rules
  rrow : w.ownsRow B 124 2 (.slice h.RA (h.rules.length + 12) h.rc) (h.rules.length + 12) (rcells h.rules ++ rcells (marksR 12))
  nodes : LNds w B g.nodes h.nodes (.slice h.NA (h.nodes.length + 12) h.nc) (h.nodes.length + 12) (marksN 12)
theorem LGr.twin {w : World} {B : Nat} {g h : Gr} (f : LGr w B g h) : GTwin g h := ⟨f.rules, f.nodes.len, f.nodes.twin⟩
theorem LNds.below {w w' : World} {B n : Nat} {l cl more : List Nd} {v : Value} (h : LNds w B l cl v n more) (hb : Below w.heap.size w w') : LNds w' B l cl v n more :=
  ⟨h.len, h.twin, own_below h.row hb, fun x hx => (h.kids x hx).below hb⟩
theorem LNds.blk {w w' : World} {B n b : Nat} {l cl more : List Nd} {v : Value} (h : LNds w B l cl v n more) (hb : b < B) (hg : w.grownBy w' (some b)) : LNds w' B l cl v n more :=
  ⟨h.len, h.twin, own_blk h.row hb hg, fun x hx => own_blk (h.kids x hx) hb hg⟩
theorem LNds.lower {w : World} {B B' n : Nat} {l cl more : List Nd} {v : Value} (h : LNds w B l cl v n more) (hB : B' ≤ B) : LNds w B' l cl v n more :=
  ⟨h.len, h.twin, own_lower h.row hB, fun x hx => own_lower (h.kids x hx) hB⟩
theorem LGr.below {w w' : World} {B : Nat} {g h : Gr} (f : LGr w B g h) (hb : Below w.heap.size w w') : LGr w' B g h :=
  ⟨f.rules, own_below f.rrow hb, f.nodes.below hb⟩
theorem LGr.rulesX {w : World} {B : Nat} {g h : Gr} (f : LGr w B g h) : Rules w h.RA (h.rules ++ marksR 12) := by
  have := f.rrow
  rw [← rcells_apps, ← len_rules] at this
  exact own_rules this
theorem LGr.nodesX {w : World} {B : Nat} {g h : Gr} (f : LGr w B g h) : Nodes w h.NA (h.nodes ++ marksN 12) := by
  have := f.nodes.row
  rw [← ncells_apps, ← len_nodes] at this
  exact own_nodes this
theorem LGr.kidsX {w : World} {B : Nat} {g h : Gr} (f : LGr w B g h) (x : Nd) (hx : x ∈ h.nodes) : Lies w x.A (ints x.kids ++ marks 12) := own_lies1 (f.nodes.kids x hx)
theorem Rules.front {w : World} {A : Option Addr} {l m : List Rl} (h : Rules w A (l ++ m)) : Rules w A l := by
  intro h0
  obtain ⟨b, o, e, hb, hc⟩ := h (by rw [List.length_append]; omega)
  refine ⟨b, o, e, hb, fun i hi => ?_⟩
  have := hc i (by rw [List.length_append]; omega)
  rwa [List.getD, List.getElem?_append_left hi] at this
theorem Nodes.front {w : World} {A : Option Addr} {l m : List Nd} (h : Nodes w A (l ++ m)) : Nodes w A l := by
  intro h0
  obtain ⟨b, o, e, hb, hc⟩ := h (by rw [List.length_append]; omega)
  refine ⟨b, o, e, hb, fun i hi => ?_⟩
  have := hc i (by rw [List.length_append]; omega)
  rwa [List.getD, List.getElem?_append_left hi] at this
theorem Lies.front {w : World} {A : Option Addr} {l m : List Value} (h : Lies w A (l ++ m)) : Lies w A l := by
  intro h0
  obtain ⟨b, o, e, hb, hc⟩ := h (by rw [List.length_append]; omega)
  refine ⟨b, o, e, hb, fun i hi => ?_⟩
  rw [hc i (by rw [List.length_append]; omega), List.getElem?_append_left hi]
theorem own_room2 {w : World} {B e z n c m : Nat} {A : Option Addr} {xs : List Value} (h : w.ownsRow B e z (.slice A m c) n xs) (hn : 0 < n) : (∃ b, A = some ⟨b, 0, none⟩) ∧ n ≤ c := by
  rcases h.2 with ⟨h1, h2⟩ | ⟨g, cap, cur, h1, hbg, hgg, hnc, rest⟩
  · omega
  · simp only [Value.slice.injEq] at h1
    obtain ⟨rfl, _, rfl⟩ := h1
    exact ⟨⟨g, rfl⟩, hnc⟩
theorem LGr.lies {w w' : World} {B : Nat} {g h : Gr} (f : LGr w' B g h) (hg : Gr.At w g) : Gr.At w' h :=
  f.twin.lies hg f.rulesX.front f.nodesX.front (fun x hx => ⟨(f.kidsX x hx).front, fun e => by
    obtain ⟨⟨b, e2⟩, _⟩ := own_room2 (f.nodes.kids x hx) (by omega)
    rw [e] at e2; cases e2⟩) (fun e => by
    obtain ⟨⟨b, e2⟩, _⟩ := own_room2 f.rrow (by omega)
    rw [e] at e2; cases e2) (fun e => by
    obtain ⟨⟨b, e2⟩, _⟩ := own_room2 f.nodes.row (by omega)
    rw [e] at e2; cases e2)
def LentG (w : World) (B : Nat) (g : Gr) (e : Ending) : Prop := ∃ h : Gr, e = .returned h.val ∧ LGr w B g h
set_option maxRecDepth 100000 in
set_option maxHeartbeats 4000000 in
theorem lentGram_any (g : Gr) (w : World) (hg : Gr.At w g) (h1 : g.rules.length ≤ 100000) (h2 : g.nodes.length ≤ 100000) (h3 : ∀ x ∈ g.nodes, x.kids.length ≤ 100000) :
    Calls Tryz.prog 28 #[g.val] w fun e w' => LentG w' w.heap.size g e ∧ Below w.heap.size w w' := by
  have CR := Lib.hid (fun (w' : World) (b : Below w.heap.size w w') => lentRules_any g.RA g.rc g.rules.length g.rules rfl h1 (fun e => ⟨rules_none hg.rules e, hg.rn e⟩) w' (hg.below b).rules)
  have CN := Lib.hid (fun (w' : World) (b : Below w.heap.size w w') => lentNodes_any g.NA g.nodes g.nc h2 w' (hg.below b).nodes (fun x hx => ⟨(hg.below b).kids x hx, h3 x hx⟩))
  clear hg h1 h2 h3
  show Calls Tryz.prog 28 #[.agg #[.slice g.RA g.rules.length g.rc, .slice g.NA g.nodes.length g.nc]] w _
  go_enter Tryz.func28, Tryz.ntmps28
  go_wp2_with (first | (go_at_call 98; (with_reducible refine (CR.out _ (B2 _ _ _)).mono ?_); rintro e w1 ⟨A1, c1, rfl, ho, hb⟩; have HO := Lib.hid (own_lower (base' := w.heap.size + 2) ho (by simp)); have HLS := Lib.hid (show w.heap.size + 2 ≤ w1.heap.size by have := hb.size; simp at this; omega); have KB := Lib.hid (((Blk.new w _ _).alloc _).below' hb); have KR := Lib.hid (by have := (Blk.new (w.alloc _) _ _).below' hb; rw [World.size_alloc] at this; exact this); have H1 := Lib.hid (bb (B2 w _ _) hb); clear ho hb) | (refine wpList_store_blk rfl 22 (.tmp 6) (.tmp 5) rfl w.heap.size 0 _ rfl rfl rfl 25 _ KB.out (by first | simp | (show 0 < 2; omega)) (by kernel_rfl) #[.slice A1 g.rules.length c1, .slice g.NA g.nodes.length g.nc] rfl ?_; intro w2 hk hg; have KB2 := Lib.hid hk; have KR2 := Lib.hid (KR.out.grown hg (by intro e; have := Option.some.inj e; omega)); have HO2 := Lib.hid (own_blk HO.out (by omega) hg); have H2 := Lib.hid (grown_below H1.out H1.out.size hg (fun k e => by cases e; omega)); have HL2 := Lib.hid (show w.heap.size < w2.heap.size by have := HLS.out; have := hg.size; omega); have HL3 := Lib.hid (show w.heap.size + 1 < w2.heap.size by have := HLS.out; have := hg.size; omega); have d0 := hk.cell 0; have d1 := hk.cell 1; simp only [List.getElem?_toArray, List.getElem?_cons_zero, List.getElem?_cons_succ] at d0 d1; clear hk hg) | (go_at_call 99; (with_reducible refine (CN.out _ H2.out).mono ?_); rintro e w3 ⟨⟨A2, c2, cl, rfl, hno⟩, hb⟩; have HNO := Lib.hid hno; have KB3 := Lib.hid (KB2.out.below' hb); have KR3 := Lib.hid (KR2.out.below' hb); have HO3 := Lib.hid (own_below HO2.out hb); have H3 := Lib.hid (bb H2.out hb); clear hno hb d0 d1) | (refine wpList_store_blk rfl 23 (.tmp 10) (.tmp 9) rfl w.heap.size 1 _ rfl rfl rfl 25 _ KB3.out (by first | simp | (show 1 < 2; omega)) (by kernel_rfl) #[.slice A1 g.rules.length c1, .slice A2 g.nodes.length c2] rfl ?_; intro w4 hk hg; have KR4 := Lib.hid (KR3.out.grown hg (by intro e; have := Option.some.inj e; omega)); have HO4 := Lib.hid (own_blk HO3.out (by omega) hg); have HNO4 := Lib.hid (HNO.out.blk HL2.out hg); have H4 := Lib.hid (grown_below H3.out H3.out.size hg (fun k e => by cases e; omega)); have d0 := hk.cell 0; have d1 := hk.cell 1; simp only [List.getElem?_toArray, List.getElem?_cons_zero, List.getElem?_cons_succ] at d0 d1; clear hk hg) | (refine wpList_store_whole rfl 25 (.tmp 2) (.tmp 11) rfl (w.heap.size + 1) #[.slice A1 g.rules.length c1, .slice A2 g.nodes.length c2] rfl rfl 25 _ KR4.out (by kernel_rfl) (by rfl) (by simp [Value.oneCell']) ?_; intro w5 hk hg; have KR5 := Lib.hid hk; have HO5 := Lib.hid (own_blk HO4.out (by omega) hg); have HNO5 := Lib.hid (HNO4.out.blk HL3.out hg); have H5 := Lib.hid (grown_below H4.out H4.out.size hg (fun k e => by cases e; omega)); clear hk hg d0 d1))
  have en : cl.length = g.nodes.length := HNO5.out.len
  refine bodyPost_ret (results_cell_row rfl _ _ (w.heap.size + 1) 25 _ (0, 0) _ rfl KR5.out Tryz.underlying25 rfl (by kernel_rfl)) rfl ⟨⟨⟨A1, c1, g.rules, A2, c2, cl⟩, ?_, rfl, own_lower HO5.out (by omega), ?_⟩, H5.out⟩
  · show Ending.returned (.agg #[.slice A1 g.rules.length c1, .slice A2 g.nodes.length c2]) = .returned (.agg #[.slice A1 g.rules.length c1, .slice A2 cl.length c2])
    rw [en]
  · show LNds w5 w.heap.size g.nodes cl (.slice A2 (cl.length + 12) c2) (cl.length + 12) (marksN 12)
    rw [en]
    exact HNO5.out.lower H2.out.size
end Go.Proofs.YtlbjmkljmhfjdaaGreat
namespace Go.Proofs.YtlbjmkljmhfjdaaGreat
open Go Go.RowKit Go.Maps
end Go.Proofs.YtlbjmkljmhfjdaaGreat
namespace Go.Proofs.YtlbjmkljmhfjdaaGreat
open Go Go.RowKit Go.Maps
theorem twin_kz {g h : Gr} (t : GTwin g h) : h.kz = g.kz := by
  unfold Gr.kz
  rw [t.rules]
  congr 1
  apply List.ext_getElem (by simp [t.len])
  intro i h1 h2
  simp only [List.length_map] at h1 h2
  have := t.node i h2
  simp only [List.getD, List.getElem?_eq_getElem h1, List.getElem?_eq_getElem h2, Option.getD_some] at this
  obtain ⟨A, c, e⟩ := this
  simp only [List.getElem_map]
  rw [e]
  rfl
set_option maxHeartbeats 1000000 in
theorem ints_same (A B : Option Addr) (c d : Nat) (a b : List Int) (ha : a.length ≤ 140737488351232) (hb : b.length ≤ 140737488351232) (w : World) (hA : Lies w A (ints a)) (hB : Lies w B (ints b)) :
    Calls Tryz.prog 58 #[.slice A a.length c, .slice B b.length d] w fun e w' => e = .returned (.bool (decide (a = b))) ∧ ∃ n, w' = w.drewN n := by
  have HA := Lib.hid hA
  have HB := Lib.hid hB
  clear hA hB
  by_cases hl : a.length = b.length
  · have HL := Lib.hid hl
    obtain ⟨m, em⟩ : ∃ m, m = b.length := ⟨_, rfl⟩
    rw [← em] at hl hb ⊢
    rw [hl] at ha ⊢
    have EM := Lib.hid em
    clear em hl
    go_enter Tryz.func58, Tryz.ntmps58
    go_wp2_with fail
    go_loopw [5] (fun i wr => ∃ (k n : Nat), k ≤ m ∧ i = .int .i64 k ∧ a.take k = b.take k ∧ wr = w.drewN n) (fun i _ => m - (RowKit.intOf i).toNat)
    case atStart => exact ⟨0, 0, by omega, rfl, by simp, rfl⟩
    case round =>
      obtain ⟨k, n, hk, rfl, ht, rfl⟩ := hrel
      have HT := Lib.hid ht
      clear ht
      by_cases hlt : k < m
      · have hlt2 : (k : Int) < m := by omega
        obtain ⟨b1, o1, rfl, _, c1⟩ := lies_cell HA.out (show k < a.length by have := HL.out; have := EM.out; omega)
        obtain ⟨b2, o2, rfl, _, c2⟩ := lies_cell HB.out (show k < b.length by have := EM.out; omega)
        have HS := Lib.hid (take_same (a := a) (b := b) (k := k) (by have := HL.out; have := EM.out; omega) HL.out HT.out)
        have HN := Lib.hid (@getD_ne a b k)
        generalize a.getD k 0 = x at c1 HS HN
        generalize b.getD k 0 = y at c2 HS HN
        by_cases hxy : x = y
        · have HK := Lib.hid (HS.out.2 hxy)
          have hb : (x == y) = true := by simpa using hxy
          have hb2 : (x != y) = false := by simpa using hxy
          clear HS HN hxy
          go_wp2_with fail
          go_quiet (fail)
          go_wp2_with fail
          go_roundw
          case rel => exact ⟨k + 1, n + nq, by omega, by go_num, HK.out, by first | rfl | exact World.drewN_drewN _ _ _⟩
          case measure => simp [RowKit.intOf]; omega
        · have HK := Lib.hid (HN.out hxy)
          have hb : (x == y) = false := by simpa using hxy
          have hb2 : (x != y) = true := by simpa using hxy
          clear HS HN hxy
          go_wp2_with fail
          go_quiet (fail)
          go_wp2_with fail
          go_ret
          exact ⟨ret_bool (by simpa using HK.out), n + nq, by first | rfl | exact World.drewN_drewN _ _ _⟩
      · obtain rfl : k = m := by omega
        have hlt2 : ¬ (k : Int) < k := by omega
        go_wp2_with fail
        go_ret
        exact ⟨ret_bool (by have := HT.out; rw [List.take_of_length_le (by have := HL.out; have := EM.out; omega), List.take_of_length_le (by have := EM.out; omega)] at this; simp [this]), n, rfl⟩
  · have hne : ¬ (a.length : Int) = b.length := by omega
    have hv : decide (a = b) = false := by simp; intro e; rw [e] at hl; exact hl rfl
    rw [hv]
    clear hv hl
    go_enter Tryz.func58, Tryz.ntmps58
    go_wp2_with fail
    go_ret
    exact ⟨rfl, 0, rfl⟩
theorem same_row (A B : Option Addr) (c d : Nat) (L : List Nat) (hl : L.length ≤ 140737488351232) (w : World) (hA : Lies w A (ints (nums L))) (hB : Lies w B (ints (nums L))) :
    Calls Tryz.prog 58 #[.slice A L.length c, .slice B L.length d] w fun e w' => e = .returned (.bool true) ∧ Below w.heap.size w w' := by
  have := ints_same A B c d (nums L) (nums L) (by rw [nums_len]; exact hl) (by rw [nums_len]; exact hl) w hA hB
  rw [nums_len] at this
  refine this.mono ?_
  rintro e w' ⟨rfl, n, rfl⟩
  exact ⟨by rw [decide_eq_true rfl], bdrew (Below.refl _ _)⟩
end Go.Proofs.YtlbjmkljmhfjdaaGreat
namespace Go.Proofs.YtlbjmkljmhfjdaaGreat
open Go Go.RowKit
theorem eqRule (a b : ByteArray) (c d : Int) (w : World) : (Op.equalIn 10000 124 (.agg #[.string a, .int .i64 c]) (.agg #[.string b, .int .i64 d])).run Tryz.prog w = .ok (decide (a.toList = b.toList) && c == d) w := by
  have u3 := Tryz.underlying3
  have a3 := Tryz.isAgg3
  have z3 := Tryz.sizeOf3
  have u9 := Tryz.underlying9
  have a9 := Tryz.isAgg9
  have z9 := Tryz.sizeOf9
  rw [show (10000 : Nat) = 9999 + 1 from rfl, Op.equalIn]
  simp only [Sem.run_bind, run_underlying Tryz.underlying124, Result.andThen_ok]
  go_simp
  by_cases h1 : a.toList = b.toList <;> by_cases h2 : c = d <;> simp [h1, h2]
set_option maxHeartbeats 1000000 in
theorem kitSame_any (x y : Nd) (w : World) (hx : Nd.At w x) (hy : Nd.At w y) : Calls Tryz.prog 159 #[x.val, y.val] w fun e w' => e = .returned (.bool (sameNd x y)) ∧ Below w.heap.size w w' := by
  have R := Lib.hid (fun (w' : World) (h : Below w.heap.size w w') => ints_same x.A y.A x.cap y.cap x.kids y.kids hx.2.2 hy.2.2 w' (hx.below h).1 (hy.below h).1)
  clear hx hy
  go_enter Tryz.func159, Tryz.ntmps159
  go_wp2_with (go_at_call 58; refine (R.out _ (B2 _ _ _)).mono ?_; rintro e w1 ⟨rfl, n, rfl⟩)
  all_goals go_ret
  all_goals refine ⟨ret_bool ?_, by first | exact B2 _ _ _ | exact bdrew (B2 _ _ _)⟩
  all_goals (unfold sameNd; rw [Bool.eq_iff_iff]; simp only [tl_inj, beq_iff_eq, Bool.and_eq_true, decide_eq_true_eq, Bool.false_eq_true] at *; simp_all)

set_option maxHeartbeats 2000000 in
theorem kitRules_any (A B : Option Addr) (c d : Nat) (a b : List Rl) (ha : a.length ≤ 140737488351232) (hb : b.length ≤ 140737488351232) (w : World) (hA : Rules w A a) (hB : Rules w B b) :
    Calls Tryz.prog 142 #[.slice A a.length c, .slice B b.length d] w fun e w' => e = .returned (.bool (rowSame Rl.zero sameRl a b)) ∧ ∃ n, w' = w.drewN n := by
  have HA := Lib.hid hA
  have HB := Lib.hid hB
  clear hA hB
  by_cases hl : a.length = b.length
  · have HL := Lib.hid hl
    have RT := Lib.hid (rowSame_true (z := Rl.zero) (f := sameRl) (a := a) (b := b))
    have RF := Lib.hid (rowSame_false (z := Rl.zero) (f := sameRl) (a := a) (b := b))
    obtain ⟨v, ev⟩ : ∃ v, v = rowSame Rl.zero sameRl a b := ⟨_, rfl⟩
    rw [← ev] at RT RF ⊢
    clear ev
    obtain ⟨m, em⟩ : ∃ m, m = b.length := ⟨_, rfl⟩
    rw [← em] at hl hb ⊢
    rw [hl] at ha ⊢
    have EM := Lib.hid em
    clear em hl
    go_enter Tryz.func142, Tryz.ntmps142
    go_wp2_with fail
    go_loopw [5] (fun i wr => ∃ (k n : Nat), k ≤ m ∧ i = .int .i64 k ∧ (∀ j, j < k → sameRl (a.getD j Rl.zero) (b.getD j Rl.zero) = true) ∧ wr = w.drewN n) (fun i _ => m - (RowKit.intOf i).toNat)
    case atStart => exact ⟨0, 0, by omega, rfl, fun j h => by omega, rfl⟩
    case round =>
      obtain ⟨k, n, hk, rfl, ht, rfl⟩ := hrel
      have HT := Lib.hid ht
      clear ht
      by_cases hlt : k < m
      · have hlt2 : (k : Int) < m := by omega
        obtain ⟨b1, o1, rfl, _, c1, c2⟩ := HA.out.two (show k < a.length by have := HL.out; have := EM.out; omega)
        obtain ⟨b2, o2, rfl, _, c3, c4⟩ := HB.out.two (show k < b.length by have := EM.out; omega)
        generalize hx : a.getD k Rl.zero = x at *
        generalize hy : b.getD k Rl.zero = y at *
        have HX := Lib.hid hx
        have HY := Lib.hid hy
        clear hx hy
        obtain ⟨sv, es⟩ : ∃ sv, sv = sameRl x y := ⟨_, rfl⟩
        have q1 : (decide (x.name.toList = y.name.toList) && x.body == y.body) = sv := by rw [es, Bool.eq_iff_iff]; simp [sameRl, tl_inj]
        have ES := Lib.hid es
        have EQ : ∀ w', (Op.equalIn 10000 124 (.agg #[.string x.name, .int .i64 x.body]) (.agg #[.string y.name, .int .i64 y.body])).run Tryz.prog w' = .ok sv w' := fun w' => by rw [eqRule, q1]
        clear es q1
        generalize x.name = xn at *
        generalize y.name = yn at *
        generalize x.body = xb at *
        generalize y.body = yb at *
        cases sv with
        | true =>
          go_wp2_with fail
          go_quiet (fail)
          go_wp2_with fail
          go_roundw
          case rel => exact ⟨k + 1, n + nq, by omega, by go_num, fun j hj => by
              by_cases e : j = k
              · subst e; rw [HX.out, HY.out]; exact ES.out.symm
              · exact HT.out j (by omega), by first | rfl | exact World.drewN_drewN _ _ _⟩
          case measure => simp [RowKit.intOf]; omega
        | false =>
          go_wp2_with fail
          go_quiet (fail)
          go_wp2_with fail
          go_ret
          exact ⟨ret_bool (RF.out k (by have := HL.out; have := EM.out; omega) (by rw [HX.out, HY.out]; exact ES.out.symm)).symm, n + nq, by first | rfl | exact World.drewN_drewN _ _ _⟩
      · obtain rfl : k = m := by omega
        have hlt2 : ¬ (k : Int) < k := by omega
        go_wp2_with fail
        go_ret
        exact ⟨ret_bool (RT.out HL.out (fun i hi => HT.out i (by have := HL.out; have := EM.out; omega))).symm, n, rfl⟩
  · have hne : ¬ (a.length : Int) = b.length := by omega
    rw [rowSame_len hl]
    clear hl
    go_enter Tryz.func142, Tryz.ntmps142
    go_wp2_with fail
    go_ret
    exact ⟨rfl, 0, rfl⟩
set_option maxRecDepth 100000 in
set_option maxHeartbeats 2000000 in
theorem kitNodes_any (A B : Option Addr) (c d : Nat) (a b : List Nd) (ha : a.length ≤ 140737488351232) (hb : b.length ≤ 140737488351232) (w : World) (hA : Nodes w A a) (hB : Nodes w B b) (hxa : ∀ x ∈ a, Nd.At w x) (hxb : ∀ x ∈ b, Nd.At w x) :
    Calls Tryz.prog 143 #[.slice A a.length c, .slice B b.length d] w fun e w' => e = .returned (.bool (rowSame Nd.zero sameNd a b)) ∧ Below w.heap.size w w' := by
  have HA := Lib.hid hA
  have HB := Lib.hid hB
  have XA := Lib.hid hxa
  have XB := Lib.hid hxb
  clear hxa hxb
  clear hA hB
  by_cases hl : a.length = b.length
  · have HL := Lib.hid hl
    have RT := Lib.hid (rowSame_true (z := Nd.zero) (f := sameNd) (a := a) (b := b))
    have RF := Lib.hid (rowSame_false (z := Nd.zero) (f := sameNd) (a := a) (b := b))
    obtain ⟨v, ev⟩ : ∃ v, v = rowSame Nd.zero sameNd a b := ⟨_, rfl⟩
    rw [← ev] at RT RF ⊢
    clear ev
    obtain ⟨m, em⟩ : ∃ m, m = b.length := ⟨_, rfl⟩
    rw [← em] at hl hb ⊢
    rw [hl] at ha ⊢
    have EM := Lib.hid em
    clear em hl
    go_enter Tryz.func143, Tryz.ntmps143
    go_wp2_with fail
    go_loopw [5] (fun i wr => ∃ (k : Nat), k ≤ m ∧ i = .int .i64 k ∧ (∀ j, j < k → sameNd (a.getD j Nd.zero) (b.getD j Nd.zero) = true) ∧ Below w.heap.size w wr) (fun i _ => m - (RowKit.intOf i).toNat)
    case atStart => exact ⟨0, by omega, rfl, fun j h => by omega, Below.refl _ _⟩
    case round =>
      obtain ⟨k, hk, rfl, ht, hbl⟩ := hrel
      have HT := Lib.hid ht
      have BL := Lib.hid hbl
      clear ht hbl
      by_cases hlt : k < m
      · have hlt2 : (k : Int) < m := by omega
        obtain ⟨b1, o1, rfl, _, c1, c2, c3, c4, c5, c6, c7, c8, c9⟩ := (HA.out.below BL.out).nine (show k < a.length by have := HL.out; have := EM.out; omega)
        obtain ⟨b2, o2, rfl, _, c10, c11, c12, c13, c14, c15, c16, c17, c18⟩ := (HB.out.below BL.out).nine (show k < b.length by have := EM.out; omega)
        have T := Lib.hid (fun (w' : World) (h : Below wr.heap.size wr w') => kitSame_any (a.getD k Nd.zero) (b.getD k Nd.zero) w' (((XA.out _ (by exact getD_mem (by have := HL.out; have := EM.out; omega))).below BL.out).below h) (((XB.out _ (by exact getD_mem (by have := EM.out; omega))).below BL.out).below h))
        have SV := Lib.hid (show sameNd (a.getD k Nd.zero) (b.getD k Nd.zero) = sameNd (a.getD k Nd.zero) (b.getD k Nd.zero) from rfl)
        generalize hx : a.getD k Nd.zero = x at *
        generalize hy : b.getD k Nd.zero = y at *
        have HX := Lib.hid hx
        have HY := Lib.hid hy
        clear hx hy
        have d1 := fun e => Ext.cell c1 e
        have d2 := fun e => Ext.cell c2 e
        have d3 := fun e => Ext.cell c3 e
        have d4 := fun e => Ext.cell c4 e
        have d5 := fun e => Ext.cell c5 e
        have d6 := fun e => Ext.cell c6 e
        have d7 := fun e => Ext.cell c7 e
        have d8 := fun e => Ext.cell c8 e
        have d9 := fun e => Ext.cell c9 e
        have d10 := fun e => Ext.cell c10 e
        have d11 := fun e => Ext.cell c11 e
        have d12 := fun e => Ext.cell c12 e
        have d13 := fun e => Ext.cell c13 e
        have d14 := fun e => Ext.cell c14 e
        have d15 := fun e => Ext.cell c15 e
        have d16 := fun e => Ext.cell c16 e
        have d17 := fun e => Ext.cell c17 e
        have d18 := fun e => Ext.cell c18 e
        clear c1 c2 c3 c4 c5 c6 c7 c8 c9 c10 c11 c12 c13 c14 c15 c16 c17 c18
        obtain ⟨sv, es⟩ : ∃ sv, sv = sameNd x y := ⟨_, rfl⟩
        rw [← es] at T
        have ES := Lib.hid es
        clear es SV
        cases sv with
        | true =>
          go_wp2_with fail
          refine wp_region_ext (by kernel_rfl) (by kernel_rfl) ?_
          repeat (first | go_big_quiet_step ((go_at_call 159; exact Calls.ext_of (T.out _ (Ext.grown _)))) | quiet_step ((go_at_call 159; exact Calls.ext_of (T.out _ (Ext.grown _)))))
          refine wpQuiet_nil ?_
          intro _ hw'
          obtain ⟨⟨w1, hb1⟩, rfl⟩ := hw'
          have B1' := Lib.hid (bb BL.out hb1)
          clear hb1 d1 d2 d3 d4 d5 d6 d7 d8 d9 d10 d11 d12 d13 d14 d15 d16 d17 d18 T
          go_wp2_with fail
          go_roundw
          case rel => exact ⟨k + 1, by omega, by go_num, fun j hj => by
              by_cases e : j = k
              · subst e; rw [HX.out, HY.out]; exact ES.out.symm
              · exact HT.out j (by omega), B1'.out⟩
          case measure => simp [RowKit.intOf]; omega
        | false =>
          go_wp2_with fail
          refine wp_region_ext (by kernel_rfl) (by kernel_rfl) ?_
          repeat (first | go_big_quiet_step ((go_at_call 159; exact Calls.ext_of (T.out _ (Ext.grown _)))) | quiet_step ((go_at_call 159; exact Calls.ext_of (T.out _ (Ext.grown _)))))
          refine wpQuiet_nil ?_
          intro _ hw'
          obtain ⟨⟨w1, hb1⟩, rfl⟩ := hw'
          have B1' := Lib.hid (bb BL.out hb1)
          clear hb1 d1 d2 d3 d4 d5 d6 d7 d8 d9 d10 d11 d12 d13 d14 d15 d16 d17 d18 T
          go_wp2_with fail
          go_ret
          exact ⟨ret_bool (RF.out k (by have := HL.out; have := EM.out; omega) (by rw [HX.out, HY.out]; exact ES.out.symm)).symm, B1'.out⟩
      · obtain rfl : k = m := by omega
        have hlt2 : ¬ (k : Int) < k := by omega
        go_wp2_with fail
        go_ret
        exact ⟨ret_bool (RT.out HL.out (fun i hi => HT.out i (by have := HL.out; have := EM.out; omega))).symm, BL.out⟩
  · have hne : ¬ (a.length : Int) = b.length := by omega
    rw [rowSame_len hl]
    clear hl
    go_enter Tryz.func143, Tryz.ntmps143
    go_wp2_with fail
    go_ret
    exact ⟨rfl, Below.refl _ _⟩

set_option maxHeartbeats 1000000 in
theorem kitGram_any (g h : Gr) (w : World) (hg : Gr.At w g) (hh : Gr.At w h) : Calls Tryz.prog 84 #[g.val, h.val] w fun e w' => e = .returned (.bool (sameGr g h)) ∧ Below w.heap.size w w' := by
  have R := Lib.hid (fun (w' : World) (b : Below w.heap.size w w') => kitRules_any g.RA h.RA g.rc h.rc g.rules h.rules hg.rl hh.rl w' (hg.below b).rules (hh.below b).rules)
  have N := Lib.hid (fun (w' : World) (b : Below w.heap.size w w') => kitNodes_any g.NA h.NA g.nc h.nc g.nodes h.nodes hg.nl hh.nl w' (hg.below b).nodes (hh.below b).nodes (hg.below b).kids (hh.below b).kids)
  clear hg hh
  have HV := Lib.hid (show sameGr g h = (rowSame Rl.zero sameRl g.rules h.rules && rowSame Nd.zero sameNd g.nodes h.nodes) from rfl)
  obtain ⟨x, ex⟩ : ∃ x, x = rowSame Rl.zero sameRl g.rules h.rules := ⟨_, rfl⟩
  obtain ⟨y, ey⟩ : ∃ y, y = rowSame Nd.zero sameNd g.nodes h.nodes := ⟨_, rfl⟩
  rw [← ex] at R HV
  rw [← ey] at N HV
  clear ex ey
  cases x with
  | true =>
    go_enter Tryz.func84, Tryz.ntmps84
    go_wp2_with (first | (go_at_call 142; refine (R.out _ (B2 _ _ _)).mono ?_; rintro e w1 ⟨rfl, nn, rfl⟩; have H1 := Lib.hid (bdrew (n := nn) (B2 w (.cells #[.slice g.RA g.rules.length g.rc, .slice g.NA g.nodes.length g.nc] 25) (.cells #[.slice h.RA h.rules.length h.rc, .slice h.NA h.nodes.length h.nc] 25)))) | (go_at_call 143; refine (N.out _ H1.out).mono ?_; rintro e w2 ⟨rfl, hb⟩; have H2 := Lib.hid (bb H1.out hb); clear hb))
    all_goals go_ret
    all_goals exact ⟨ret_bool (by rw [HV.out]; simp), H2.out⟩
  | false =>
    go_enter Tryz.func84, Tryz.ntmps84
    go_wp2_with (go_at_call 142; refine (R.out _ (B2 _ _ _)).mono ?_; rintro e w1 ⟨rfl, nn, rfl⟩)
    all_goals go_ret
    all_goals exact ⟨ret_bool (by rw [HV.out]; simp), bdrew (B2 _ _ _)⟩
end Go.Proofs.YtlbjmkljmhfjdaaGreat
namespace Go.Proofs.YtlbjmkljmhfjdaaGreat
open Go Go.Proofs Go.RowKit Go.Lib Go.Maps
theorem marksR_at {i : Nat} (h : i < 12) : (marksR 12).getD i Rl.zero = mkR i := by simp [marksR, h]
theorem marksN_at {i : Nat} (h : i < 12) : (marksN 12).getD i Nd.zero = lmkN i := by simp [marksN, h]
theorem xgetD_left {α : Type} {a b : List α} {z : α} {k : Nat} (h : k < a.length) : (a ++ b).getD k z = a.getD k z := by
  rw [List.getD, List.getD, List.getElem?_append_left h]
theorem xgetD_right {α : Type} {a b : List α} {z : α} {k : Nat} (h : a.length ≤ k) : (a ++ b).getD k z = b.getD (k - a.length) z := by
  rw [List.getD, List.getD, List.getElem?_append_right h]
set_option maxRecDepth 100000 in
set_option maxHeartbeats 8000000 in
theorem keptRules_any (A' A : Option Addr) (c' c m : Nat) (l : List Rl) (em : m = l.length) (hl : m ≤ 100000) (hc : m + 12 ≤ c') (w : World) (hA' : Rules w A' (l ++ marksR 12)) (hA : Rules w A l) :
    Calls Tryz.prog 108 #[.slice A' m c', .slice A m c] w fun e w' => e = .returned (.bool true) ∧ Below w.heap.size w w' := by
  have C1 := Lib.hid (fun W (eg : Below w.heap.size w W) k (hk : k < m) => (hA'.below eg).two (i := k) (by rw [len_rules]; omega))
  have C2 := Lib.hid (fun W (eg : Below w.heap.size w W) k (hk : k < m + 12) => (hA'.below eg).two (i := k) (by rw [len_rules]; omega))
  have C3 := Lib.hid (fun W (eg : Below w.heap.size w W) k (hk : k < m) => (hA.below eg).two (i := k) (by omega))
  have G1 := Lib.hid (fun k (hk : k < m) => xgetD_left (b := marksR 12) (z := Rl.zero) (show k < l.length by omega))
  have G2 := Lib.hid (fun k (hk : m ≤ k) (hk2 : k < m + 12) => (xgetD_right (b := marksR 12) (z := Rl.zero) (show l.length ≤ k by omega)).trans (marksR_at (by omega)))
  have EM := Lib.hid em
  obtain ⟨b, o, rfl, _, _⟩ := hA' (by rw [len_rules]; omega)
  have MK := Lib.hid (fun i (hi : i < 12) w' => markRule_any i hi w')
  have hw12 : IntKind.i64.wrap ((m : Int) + 12) = (m : Int) + 12 := IntWalk.i64_in _ (by omega)
  have hci : (m : Int) + 12 ≤ c' := by omega
  have h012 : (0 : Int) ≤ (m : Int) + 12 := by omega
  have htn : ((m : Int) + 12).toNat = m + 12 := by omega
  clear hA' hA em
  go_enter Tryz.func108, Tryz.ntmps108
  go_wp2_with fail
  go_loopw [6] (fun iv wr => ∃ k : Nat, k ≤ m + 12 ∧ iv = .int .i64 k ∧ Below w.heap.size w wr) (fun iv _ => m + 12 - (RowKit.intOf iv).toNat)
  case atStart => exact ⟨0, by omega, rfl, Below.refl _ _⟩
  case round =>
    obtain ⟨k, hk, rfl, hb⟩ := hrel
    have HB := Lib.hid hb
    by_cases hlt : k < m + 12
    · have hlt2 : (k : Int) < (m : Int) + 12 := by omega
      have hlt3 : (k : Int) < ((m + 12 : Nat) : Int) := by omega
      by_cases hkm : k < m
      · have hkm2 : (k : Int) < m := by omega
        have hkm3 : (m ≤ k) = False := by simp; omega
        obtain ⟨b1, o1, e1, _, h1, h2⟩ := C1.out wr hb k hkm
        cases e1
        obtain ⟨b2, o2, rfl, _, h3, h4⟩ := C3.out wr hb k hkm
        rw [G1.out k hkm] at h1 h2
        generalize l.getD k Rl.zero = x at *
        generalize x.name = xn at *
        generalize x.body = xb at *
        have EQ : ∀ w', (Op.equalIn 10000 124 (.agg #[.string xn, .int .i64 xb]) (.agg #[.string xn, .int .i64 xb])).run Tryz.prog w' = .ok true w' := fun w' => by rw [eqRule]; simp
        have f1 := fun (e : Ext wr) => Ext.cell h1 e
        have f2 := fun (e : Ext wr) => Ext.cell h2 e
        have f3 := fun (e : Ext wr) => Ext.cell h3 e
        have f4 := fun (e : Ext wr) => Ext.cell h4 e
        clear hb h1 h2 h3 h4 x
        go_wp2_with fail
        refine wp_region_ext (by kernel_rfl) (by kernel_rfl) ?_
        repeat (first | go_big_quiet_step (fail) | quiet_step (fail))
        refine wpQuiet_nil ?_
        intro w13 hw'
        obtain ⟨⟨_, hb13⟩, rfl⟩ := hw'
        have HB1 := Lib.hid (HB.out.trans (hb13.mono HB.out.size))
        clear hb13 f1 f2 f3 f4
        go_wp2_with fail
        go_roundw
        case rel => exact ⟨k + 1, by omega, by go_num, HB1.out⟩
        case measure => simp [RowKit.intOf]; omega
      · have hkm2 : ¬ (k : Int) < m := by omega
        have hkm3 : (m ≤ k) = True := by simp; omega
        have hkm4 : (k < m) = False := by simp; omega
        obtain ⟨b1, o1, e1, _, h1, h2⟩ := C2.out wr hb k hlt
        cases e1
        rw [G2.out k (by omega) hlt] at h1 h2
        obtain ⟨i, ei⟩ : ∃ i, i = k - m := ⟨_, rfl⟩
        rw [← EM.out, ← ei] at h1 h2
        have hsub : IntKind.i64.wrap ((k : Int) - m) = (i : Int) := by rw [IntWalk.i64_in _ (by omega)]; omega
        have M1 := Lib.hid (fun W => MK.out i (by omega) W)
        simp only [mkR] at h1 h2
        generalize mrk 1 i = x at *
        have EQ : ∀ w', (Op.equalIn 10000 124 (.agg #[.string ByteArray.empty, .int .i64 x]) (.agg #[.string ByteArray.empty, .int .i64 x])).run Tryz.prog w' = .ok true w' := fun w' => by rw [eqRule]; simp
        have f1 := fun (e : Ext wr) => Ext.cell h1 e
        have f2 := fun (e : Ext wr) => Ext.cell h2 e
        clear hb h1 h2 ei
        go_wp2_with fail
        refine wp_region_ext (by kernel_rfl) (by kernel_rfl) ?_
        repeat (first | go_big_quiet_step (first | (go_at_call 148; with_reducible exact Calls.ext_of (M1.out _))) | quiet_step (first | (go_at_call 148; with_reducible exact Calls.ext_of (M1.out _))))
        refine wpQuiet_nil ?_
        intro w13 hw'
        obtain ⟨⟨_, hb13⟩, rfl⟩ := hw'
        have HB1 := Lib.hid (HB.out.trans (hb13.mono HB.out.size))
        clear hb13 f1 f2
        go_wp2_with fail
        go_roundw
        case rel => exact ⟨k + 1, by omega, by go_num, HB1.out⟩
        case measure => simp [RowKit.intOf]; omega
    · obtain rfl : k = m + 12 := by omega
      have hlt2 : ¬ ((m + 12 : Nat) : Int) < (m : Int) + 12 := by omega
      clear hb
      go_wp2_with fail
      go_ret
      exact ⟨rfl, HB.out⟩
end Go.Proofs.YtlbjmkljmhfjdaaGreat

/- A leaf turned into another leaf, plainly: what may match nothing then. -/
import Derived.Test.YtaphogjiioecmaaC1
import Derived.Test.YtaphogjiioecmaaA7
import Derived.Deep.MidRow
import Derived.Test.YtaphogjiioecmaaC2
import Derived.Test.YtaphogjiioecmaaA3
set_option linter.unusedSimpArgs false
set_option linter.unusedVariables false
namespace Go.Proofs.Ytaphogjiioecmaa
open Go Go.RowKit Go.Maps
/-- A grammar with one node turned into another. -/
def Gr.turn (g : Gr) (c : Nat) (y : Nd) : Gr := { g with nodes := g.nodes.set c y }
theorem turn_len (g : Gr) (c : Nat) (y : Nd) : (g.turn c y).nodes.length = g.nodes.length := by simp [Gr.turn]
theorem turn_at {g : Gr} {c : Nat} {y : Nd} (hc : c < g.nodes.length) : (g.turn c y).nodes.getD c Nd.zero = y := by
  simp only [Gr.turn, List.getD]
  rw [List.getElem?_set_self hc]; rfl
theorem turn_other {g : Gr} {c j : Nat} {y : Nd} (h : j ≠ c) : (g.turn c y).nodes.getD j Nd.zero = g.nodes.getD j Nd.zero := by
  simp only [Gr.turn, List.getD]
  rw [List.getElem?_set_ne (fun e => h e.symm)]
theorem turn_kids {g : Gr} {c : Nat} {y : Nd} (hc : c < g.nodes.length) (h : y.kids = (g.nodes.getD c Nd.zero).kids) (j : Nat) : kidsOf (g.turn c y).nodes j = kidsOf g.nodes j := by
  unfold kidsOf
  by_cases e : j = c
  · subst e; rw [turn_at hc, h]
  · rw [turn_other e]
theorem turn_meas {g : Gr} {c : Nat} {y : Nd} (hc : c < g.nodes.length) (h : y.kids = (g.nodes.getD c Nd.zero).kids) {ms : Nat → Meas} (hm : Measured g.nodes ms 0) : Measured (g.turn c y).nodes ms 0 := by
  intro m h1 h2
  rw [turn_len] at h2
  have := hm m h1 h2
  rw [turn_kids hc h, turn_len]
  exact this
theorem turn_right {g : Gr} {c : Nat} {y : Nd} (hR : Right g) (hc : c < g.nodes.length) (h : y.kids = (g.nodes.getD c Nd.zero).kids) (hy : nodeOk y g.rules.length = true) : Right (g.turn c y) := by
  obtain ⟨ms, hm, hb⟩ := hR.pre
  refine ⟨hR.rules, by rw [turn_len]; exact hR.nodes, hR.named, fun i hi => ?_, ms, turn_meas hc h hm, ?_⟩
  · rw [turn_len] at hi
    show nodeOk ((g.turn c y).nodes.getD i Nd.zero) g.rules.length = true
    by_cases e : i = c
    · subst e; rw [turn_at hc]; exact hy
    · rw [turn_other e]; exact hR.all i hi
  · rw [turn_len]
    exact hb
theorem turn_up_kids {g : Gr} {c : Nat} {y : Nd} (hR : Right g) (hc : c < g.nodes.length) (h : y.kids = (g.nodes.getD c Nd.zero).kids) : KidsUp (g.turn c y).nodes := by
  intro m hm2 k hk
  rw [turn_len] at hm2
  have := turn_kids hc h m
  unfold kidsOf at this
  rw [this] at hk
  have := hR.kidsUp m hm2 k hk
  rw [turn_len]
  exact this
/-- One that never may, turned: what may, may still. -/
theorem turn_up {g : Gr} {c : Nat} {y : Nd} (hR : Right g) (hc : c < g.nodes.length) (h : y.kids = (g.nodes.getD c Nd.zero).kids) (inn inn' : Int → Bool)
    (hy : ∀ f, stepMay (g.nodes.getD c Nd.zero) f inn = false) (hi : ∀ k, inn k = true → inn' k = true) :
    ∀ (d n : Nat), n < g.nodes.length → g.nodes.length - n ≤ d → mayN g.nodes inn n = true → mayN (g.turn c y).nodes inn' n = true
  | 0, n, hn, hd, _ => by omega
  | d + 1, n, hn, hd, hm => by
    rw [mayN_eq hR.kidsUp inn (n := n) (by omega) (by omega), Int.toNat_natCast] at hm
    rw [mayN_eq (turn_up_kids hR hc h) inn' (n := n) (by omega) (by rw [turn_len]; omega), Int.toNat_natCast]
    by_cases e : n = c
    · subst e
      rw [hy] at hm
      cases hm
    · rw [turn_other e]
      refine stepMay_mono (fun k hk hv => ?_) (hi _) hm
      have := hR.kidsUp n hn k hk
      obtain ⟨j, rfl⟩ : ∃ j : Nat, k = j := ⟨k.toNat, by omega⟩
      exact turn_up hR hc h inn inn' hy hi d j (by omega) (by omega) hv
/-- One that never may, turned into one that never may: nothing changes. -/
theorem turn_same {g : Gr} {c : Nat} {y : Nd} (hR : Right g) (hc : c < g.nodes.length) (h : y.kids = (g.nodes.getD c Nd.zero).kids) (inn : Int → Bool)
    (hy : ∀ f, stepMay (g.nodes.getD c Nd.zero) f inn = false) (hy2 : ∀ f, stepMay y f inn = false) (n : Int) (h0 : 0 ≤ n) (h1 : n < g.nodes.length) :
    mayN (g.turn c y).nodes inn n = mayN g.nodes inn n := by
  refine mayN_unique hR.kidsUp inn (mayN (g.turn c y).nodes inn) (lo := 0) (by omega) (fun m a b => ?_) (g.nodes.length) n h0 h1 (by omega)
  rw [mayN_eq (turn_up_kids hR hc h) inn a (by rw [turn_len]; exact b)]
  by_cases e : m.toNat = c
  · rw [e, turn_at hc, hy, hy2]
  · rw [turn_other e]
theorem turn_rules (g : Gr) (c : Nat) (y : Nd) : (g.turn c y).rules = g.rules := rfl
theorem rk_full (g : Gr) (k : Nat) : ∀ i, g.rules.length ≤ i → (rk g k).getD i 0 = 0 := fun i hi => by
  simp only [List.getD]
  rw [List.getElem?_eq_none (by rw [rk_length]; exact hi)]
  rfl
/-- Who is in is in, as soon, behind the turn. -/
theorem turn_in {g : Gr} {c : Nat} {y : Nd} (hR : Right g) (hc : c < g.nodes.length) (h : y.kids = (g.nodes.getD c Nd.zero).kids)
    (hy : ∀ f inn, stepMay (g.nodes.getD c Nd.zero) f inn = false) : ∀ (k i : Nat), 0 < (rk g k).getD i 0 → 0 < (rk (g.turn c y) k).getD i 0
  | 0, i, hi => by rw [rk_zero] at hi; omega
  | k + 1, i, hi => by
    by_cases hl : i < g.rules.length
    · have hb := in_body k i hl hi
      have hbd := hR.body i hl
      obtain ⟨q, hq⟩ : ∃ q : Nat, (g.rules.getD i Rl.zero).body = q := ⟨(g.rules.getD i Rl.zero).body.toNat, by omega⟩
      rw [hq] at hb
      have hu := turn_up hR hc h (inB (rk g k)) (inB (rk (g.turn c y) k)) (fun f => hy f _) (fun r hr => by
        simp only [inB, decide_eq_true_eq] at hr ⊢
        exact turn_in hR hc h hy k _ hr) g.nodes.length q (by omega) (by omega) hb
      have := body_in (g := g.turn c y) k i hl
      rw [turn_rules, hq, hu] at this
      simpa using this.symm
    · rw [rk_full g (k + 1) i (by omega)] at hi
      omega
/-- Ranks don't rise. -/
theorem turn_rank {g : Gr} {c : Nat} {y : Nd} (hR : Right g) (hc : c < g.nodes.length) (h : y.kids = (g.nodes.getD c Nd.zero).kids)
    (hy : ∀ f inn, stepMay (g.nodes.getD c Nd.zero) f inn = false) (i : Nat) (hi : 0 < (ranks g).getD i 0) : 0 < (ranks (g.turn c y)).getD i 0 ∧ (ranks (g.turn c y)).getD i 0 ≤ (ranks g).getD i 0 := by
  have hle := ranks_le g i
  obtain ⟨a, ha⟩ : ∃ a : Nat, (ranks g).getD i 0 = a := ⟨((ranks g).getD i 0).toNat, by omega⟩
  have h1 := rk_below g i (g.rules.length - a) a
  rw [show a + (g.rules.length - a) = g.rules.length by omega] at h1
  have h2 : (rk g a).getD i 0 = a := by
    rw [h1]
    show (if (ranks g).getD i 0 ≤ (a : Int) then (ranks g).getD i 0 else 0) = a
    rw [if_pos (by omega), ha]
  have h3 := turn_in hR hc h hy a i (by omega)
  have h4 := rk_keep (g.turn c y) a i h3 (g.rules.length - a)
  rw [show a + (g.rules.length - a) = (g.turn c y).rules.length by rw [turn_rules]; omega] at h4
  have h5 := (rk_bound (g.turn c y) a i).2
  have h6 : (ranks (g.turn c y)).getD i 0 = (rk (g.turn c y) a).getD i 0 := h4
  rw [h6, ha]
  exact ⟨h3, h5⟩
/-- A call of a rule that never comes in, turned into one that never may: the same rounds. -/
theorem turn_rk {g : Gr} {c : Nat} {y : Nd} (hR : Right g) (hc : c < g.nodes.length) (h : y.kids = (g.nodes.getD c Nd.zero).kids)
    (hy : ∀ f k, stepMay (g.nodes.getD c Nd.zero) f (inB (rk g k)) = false) (hy2 : ∀ f inn, stepMay y f inn = false) : ∀ k, rk (g.turn c y) k = rk g k
  | 0 => rfl
  | k + 1 => by
    have ih := turn_rk hR hc h hy hy2 k
    apply ext_getD
    · rw [rk_length, rk_length, turn_rules]
    · intro i hi
      rw [rk_length, turn_rules] at hi
      rw [rk_next _ k i (by rw [turn_rules]; exact hi), rk_next g k i hi]
      have hbd := hR.body i hi
      have : comB (g.turn c y) (rk (g.turn c y) k) i = comB g (rk g k) i := by
        unfold comB
        rw [ih, turn_rules, turn_same hR hc h (inB (rk g k)) (fun f => hy f k) (fun f => hy2 f _) _ hbd.1 hbd.2]
      rw [this, ih]
end Go.Proofs.Ytaphogjiioecmaa
namespace Go.Proofs.Ytaphogjiioecmaa
open Go Go.RowKit Go.Maps
structure Fresh (w : World) (B : Nat) (h : Gr) : Prop where
  rules : w.ownsRow B 46 2 (.slice h.RA h.rules.length h.rc) h.rules.length (rcells h.rules)
  nodes : w.ownsRow B 30 9 (.slice h.NA h.nodes.length h.nc) h.nodes.length (ncells h.nodes)
  kids : ∀ x ∈ h.nodes, w.ownsRow B 3 1 (.slice x.A x.kids.length x.cap) x.kids.length (ints x.kids) ∧ (x.A = none → x.cap = 0)
  rn : h.RA = none → h.rc = 0
  nn : h.NA = none → h.nc = 0
theorem Fresh.below {w w' : World} {B : Nat} {h : Gr} (f : Fresh w B h) (hb : Below w.heap.size w w') : Fresh w' B h :=
  ⟨own_below f.rules hb, own_below f.nodes hb, fun x hx => ⟨own_below (f.kids x hx).1 hb, (f.kids x hx).2⟩, f.rn, f.nn⟩
theorem Fresh.lies {w w' : World} {B : Nat} {g h : Gr} (f : Fresh w' B h) (t : GTwin g h) (hg : Gr.At w g) : Gr.At w' h :=
  t.lies hg (own_rules f.rules) (own_nodes f.nodes) (fun x hx => ⟨own_lies1 (f.kids x hx).1, (f.kids x hx).2⟩) f.rn f.nn
theorem own_set {w : World} {base e size n g cap : Nat} : ∀ (vs : List Value) (o : Nat) (w : World) (xs : List Value), w.ownsRow base e size (.slice (some ⟨g, 0, none⟩) n cap) n xs → o + vs.length ≤ xs.length →
    (w.setCells g o vs).ownsRow base e size (.slice (some ⟨g, 0, none⟩) n cap) n (xs.take o ++ vs ++ xs.drop (o + vs.length)) ∧ w.grownBy (w.setCells g o vs) (some g)
  | [], o, w, xs, h, _ => by
    simp only [World.setCells, List.append_nil, List.length_nil, Nat.add_zero, List.take_append_drop]
    exact ⟨h, World.grownBy.refl _ _⟩
  | v :: vs, o, w, xs, h, hl => by
    simp only [List.length_cons] at hl
    obtain ⟨h1, h2⟩ := h.stored o v
    obtain ⟨h3, h4⟩ := own_set (w := w) vs (o + 1) _ _ h1 (by rw [List.length_set]; omega)
    have e : (xs.set o v).take (o + 1) ++ vs ++ (xs.set o v).drop (o + 1 + vs.length) = xs.take o ++ (v :: vs) ++ xs.drop (o + (vs.length + 1)) := by
      rw [List.set_eq_take_append_cons_drop, if_pos (by omega)]
      rw [show xs.take o ++ v :: xs.drop (o + 1) = (xs.take o ++ [v]) ++ xs.drop (o + 1) by simp]
      rw [List.take_append_of_le_length (by simp; omega), List.drop_append]
      have l1 : (xs.take o ++ [v]).length = o + 1 := by simp; omega
      rw [List.take_of_length_le (by rw [l1]; omega), l1, List.drop_of_length_le (by rw [l1]; omega), List.drop_drop]
      simp only [List.nil_append, List.append_assoc, List.cons_append]
      congr 4
      omega
    refine ⟨by simp only [World.setCells, List.length_cons]; rw [← e]; exact h3, ?_⟩
    simp only [World.setCells]
    exact ⟨h4.os.trans h2.os, h4.tape.trans h2.tape, h4.output.trans h2.output, Nat.le_trans h2.size h4.size, fun k hk hne => (h4.block k (Nat.lt_of_lt_of_le hk h2.size) hne).trans (h2.block k hk hne)⟩
theorem own_there {w : World} {base e size n g cap o : Nat} {xs : List Value} (h : w.ownsRow base e size (.slice (some ⟨g, 0, none⟩) n cap) n xs) (m : Nat) (hm : o + m ≤ n * size) : w.there g o m := by
  intro j hj
  refine ⟨?_, h.frozenAt (o + j)⟩
  rw [h.cellAt (o + j) (by omega), List.getElem?_eq_getElem (by rw [h.1]; omega)]
  rfl
theorem own_blkT {w : World} {B e size n b : Nat} {v : Value} {xs : List Value} (h : w.ownsRow B e size v n xs) (hv : v.ownBlock = some b) : ∃ vs, Blk w b vs e ∧ n * size ≤ vs.size := by
  rcases h.2 with ⟨rfl, _⟩ | ⟨g, cap, cur, rfl, hbg, hgg, hn, hc, hs, rest⟩
  · cases hv
  · simp only [Value.ownBlock, Option.some.injEq] at hv
    subst hv
    exact ⟨cur, hgg, by rw [hs]; exact Nat.mul_le_mul_right _ hn⟩
theorem Blk.same_T {w : World} {b : Nat} {vs vs' : Array Value} {T T' : TypeId} (h : Blk w b vs T) (h' : Blk w b vs' T') : T = T' := by
  have e : some (Obj.cells vs T (0, 0)) = some (Obj.cells vs' T' (0, 0)) := h.symm.trans h'
  simp only [Option.some.injEq, Obj.cells.injEq] at e
  exact e.2.1
theorem wpList_store_mid2 {P : Program} {ops : Array Oper} {rest : List Oper} {op : Oper} {a : Act} {w : World} {Q : Exit → Act → World → Prop} (hgd : op.guard = none) (ty : TypeId) (x y : Operand) (ho : op.op = .store ty x y)
    (b o : Nat) (cells : Array Value) (hx : a.eval x = .pointer (some ⟨b, o, none⟩)) (hy : a.eval y = .agg cells)
    (ht : w.there b o cells.size) (hi : (P.info? ty).map (·.size) = some cells.size) (h1 : cells.all (·.oneCell') = true)
    (h : ∀ W, W = w.setCells b o cells.toList → wpList P ops Q rest (a.put op.dst undef) W) : wpList P ops Q (op :: rest) a w :=
  wpList_store_mid hgd ty x y ho b o cells hx hy ht hi h1 (h _ rfl)
set_option maxRecDepth 100000 in
set_option maxHeartbeats 4000000 in
theorem copyGram2_any (g : Gr) (w : World) (hg : Gr.At w g) (h1 : g.rules.length ≤ 1000000) (h2 : g.nodes.length ≤ 1000000) (h3 : ∀ x ∈ g.nodes, x.kids.length ≤ 1000000) :
    Calls Try.prog 24 #[g.val] w fun e w' => (∃ h : Gr, e = .returned h.val ∧ Fresh w' w.heap.size h ∧ GTwin g h) ∧ Below w.heap.size w w' := by
  have CR := Lib.hid (fun (w' : World) (b : Below w.heap.size w w') => copyRules_any g.RA g.rules g.rc h1 hg.rn w' (hg.below b).rules)
  have CN := Lib.hid (fun (w' : World) (b : Below w.heap.size w w') => copyNodes_any g.NA g.nodes g.nc h2 w' (hg.below b).nodes (fun x hx => ⟨(hg.below b).kids x hx, h3 x hx⟩))
  have HG := Lib.hid hg
  have HB := Lib.hid (And.intro h1 (And.intro h2 h3))
  clear hg h1 h2 h3
  show Calls Try.prog 24 #[.agg #[.slice g.RA g.rules.length g.rc, .slice g.NA g.nodes.length g.nc]] w _
  go_enter Try.func24, Try.ntmps24
  go_wp2_with (first | (go_at_call 52; refine (CR.out _ (B2 _ _ _)).mono ?_; rintro e w1 ⟨A1, c1, rfl, ho, hnn, hb⟩; have HO := Lib.hid (own_lower (base' := w.heap.size + 2) ho (by simp)); have HNN := Lib.hid hnn; have HLS := Lib.hid (show w.heap.size + 2 ≤ w1.heap.size by have := hb.size; simp at this; omega); have KB := Lib.hid (((Blk.new w _ _).alloc _).below' hb); have KR := Lib.hid (by have := (Blk.new (w.alloc _) _ _).below' hb; rw [World.size_alloc] at this; exact this); have H1 := Lib.hid (bb (B2 w _ _) hb); clear ho hnn hb) | (refine wpList_store_blk rfl 35 (.tmp 6) (.tmp 5) rfl w.heap.size 0 _ rfl rfl rfl 38 _ KB.out (by first | simp | (show 0 < 2; omega)) (by kernel_rfl) #[.slice A1 g.rules.length c1, .slice g.NA g.nodes.length g.nc] rfl ?_; intro w2 hk hg; have KB2 := Lib.hid hk; have KR2 := Lib.hid (KR.out.grown hg (by intro e; have := Option.some.inj e; omega)); have HO2 := Lib.hid (own_blk HO.out (by omega) hg); have H2 := Lib.hid (grown_below H1.out H1.out.size hg (fun k e => by cases e; omega)); have HL2 := Lib.hid (show w.heap.size < w2.heap.size by have := HLS.out; have := hg.size; omega); have HL3 := Lib.hid (show w.heap.size + 1 < w2.heap.size by have := HLS.out; have := hg.size; omega); have d0 := hk.cell 0; have d1 := hk.cell 1; simp only [List.getElem?_toArray, List.getElem?_cons_zero, List.getElem?_cons_succ] at d0 d1; clear hk hg) | (go_at_call 53; refine (CN.out _ H2.out).mono ?_; rintro e w3 ⟨A2, c2, rfl, cl, hcl, htw, hno, hki, hnn, hb⟩; have HCL := Lib.hid hcl; have HTW := Lib.hid htw; have HNO := Lib.hid hno; have HKI := Lib.hid hki; have HNN2 := Lib.hid hnn; have KB3 := Lib.hid (KB2.out.below' hb); have KR3 := Lib.hid (KR2.out.below' hb); have HO3 := Lib.hid (own_below HO2.out hb); have H3 := Lib.hid (bb H2.out hb); clear hcl htw hno hki hnn hb d0 d1) | (refine wpList_store_blk rfl 36 (.tmp 10) (.tmp 9) rfl w.heap.size 1 _ rfl rfl rfl 38 _ KB3.out (by first | simp | (show 1 < 2; omega)) (by kernel_rfl) #[.slice A1 g.rules.length c1, .slice A2 g.nodes.length c2] rfl ?_; intro w4 hk hg; have KR4 := Lib.hid (KR3.out.grown hg (by intro e; have := Option.some.inj e; omega)); have HO4 := Lib.hid (own_blk HO3.out (by omega) hg); have HNO4 := Lib.hid (own_blk HNO.out HL2.out hg); have HKI4 := Lib.hid (fun x hx => (HKI.out x hx).blk HL2.out hg); have H4 := Lib.hid (grown_below H3.out H3.out.size hg (fun k e => by cases e; omega)); have d0 := hk.cell 0; have d1 := hk.cell 1; simp only [List.getElem?_toArray, List.getElem?_cons_zero, List.getElem?_cons_succ] at d0 d1; clear hk hg) | (refine wpList_store_whole rfl 38 (.tmp 2) (.tmp 11) rfl (w.heap.size + 1) #[.slice A1 g.rules.length c1, .slice A2 g.nodes.length c2] rfl rfl 38 _ KR4.out (by kernel_rfl) (by rfl) (by simp [Value.oneCell']) ?_; intro w5 hk hg; have KR5 := Lib.hid hk; have HO5 := Lib.hid (own_blk HO4.out (by omega) hg); have HNO5 := Lib.hid (own_blk HNO4.out HL3.out hg); have HKI5 := Lib.hid (fun x hx => (HKI4.out x hx).blk HL3.out hg); have H5 := Lib.hid (grown_below H4.out H4.out.size hg (fun k e => by cases e; omega)); clear hk hg d0 d1))
  have T : GTwin g ⟨A1, c1, g.rules, A2, c2, cl⟩ := ⟨rfl, HCL.out, HTW.out⟩
  refine bodyPost_ret (results_cell_row rfl _ _ (w.heap.size + 1) 38 _ (0, 0) _ rfl KR5.out Try.underlying38 rfl (by kernel_rfl)) rfl ⟨⟨⟨A1, c1, g.rules, A2, c2, cl⟩, ?_, ⟨own_lower HO5.out (by omega), by rw [HCL.out]; exact own_lower HNO5.out H2.out.size, fun x hx => ⟨own_lower (HKI5.out x hx).1 H2.out.size, (HKI5.out x hx).2.1⟩, HNN.out, HNN2.out⟩, T⟩, H5.out⟩
  show Ending.returned (.agg #[.slice A1 g.rules.length c1, .slice A2 g.nodes.length c2]) = .returned (.agg #[.slice A1 g.rules.length c1, .slice A2 cl.length c2])
  rw [HCL.out]
theorem ncells_set : ∀ (l : List Nd) (c : Nat) (y : Nd), c < l.length → (ncells l).take (c * 9) ++ y.cells ++ (ncells l).drop (c * 9 + y.cells.length) = ncells (l.set c y)
  | [], c, y, h => by simp at h
  | x :: l, 0, y, _ => by
    simp only [ncells, Nat.zero_mul, List.take_zero, List.nil_append, List.set_cons_zero, Nat.zero_add]
    rw [show y.cells.length = x.cells.length from rfl, List.drop_left]
  | x :: l, c + 1, y, h => by
    have ih := ncells_set l c y (by simpa using h)
    simp only [ncells, List.set_cons_succ]
    rw [← ih]
    have hx : x.cells.length = 9 := rfl
    rw [List.take_append, List.drop_append, List.take_of_length_le (by rw [hx]; omega), List.drop_of_length_le (by rw [hx]; omega), hx]
    rw [show (c + 1) * 9 - 9 = c * 9 by omega, show (c + 1) * 9 + y.cells.length - 9 = c * 9 + y.cells.length by omega]
    simp [List.append_assoc]
/-- A node without kids stored into a grammar of one's own. -/
theorem Fresh.turn {w : World} {B g c : Nat} {h : Gr} {y : Nd} (f : Fresh w B h) (e : h.NA = some ⟨g, 0, none⟩) (hc : c < h.nodes.length) (hy : y.kids = []) (hy2 : y.A = none) (hy3 : y.cap = 0) :
    Fresh (w.setCells g (c * 9) y.cells) B (h.turn c y) ∧ Below B w (w.setCells g (c * 9) y.cells) ∧ w.grownBy (w.setCells g (c * 9) y.cells) (some g) := by
  have f2 := f.nodes
  rw [e] at f2
  obtain ⟨h1, h2⟩ := own_set (w := w) y.cells (c * 9) w _ f2 (by rw [ncells_length]; show c * 9 + 9 ≤ _; omega)
  rw [ncells_set _ _ _ hc] at h1
  obtain ⟨vs, k1, _⟩ := own_blkT (b := g) f.nodes (by rw [e]; rfl)
  have hgb : B ≤ g := (f.nodes.lt g (by rw [e]; rfl)).1
  refine ⟨⟨?_, ?_, fun x hx => ?_, f.rn, f.nn⟩, ?_, h2⟩
  · refine own_kept f.rules (fun k hk => h2.block k (f.rules.lt k hk).2 (fun e2 => ?_))
    simp only [Option.some.injEq] at e2
    subst e2
    obtain ⟨vs2, k2, _⟩ := own_blkT f.rules hk
    exact absurd (k1.same_T k2) (by decide)
  · show World.ownsRow _ B _ 9 (.slice h.NA (h.nodes.set c y).length h.nc) (h.nodes.set c y).length (ncells (h.nodes.set c y))
    rw [List.length_set, e]
    exact h1
  · rcases List.mem_or_eq_of_mem_set hx with hx | rfl
    · refine ⟨own_kept (f.kids x hx).1 (fun k hk => h2.block k ((f.kids x hx).1.lt k hk).2 (fun e2 => ?_)), (f.kids x hx).2⟩
      simp only [Option.some.injEq] at e2
      subst e2
      obtain ⟨vs2, k2, _⟩ := own_blkT (f.kids x hx).1 hk
      exact absurd (k1.same_T k2) (by decide)
    · rw [hy, hy2, hy3]
      exact ⟨World.ownsRow_nil _ _ _ _, fun _ => rfl⟩
  · exact (Below.refl B w).grown h2 (Nat.le_trans hgb (Nat.le_of_lt (f.nodes.lt g (by rw [e]; rfl)).2)) (fun k hk => by cases hk; exact hgb)
theorem Fresh.shape {w : World} {B : Nat} {h : Gr} (f : Fresh w B h) (h0 : 0 < h.nodes.length) : ∃ g, h.NA = some ⟨g, 0, none⟩ ∧ B ≤ g ∧ g < w.heap.size := by
  obtain ⟨g, cap, e, h1, _, _, h2⟩ := own_shape f.nodes h0
  simp only [Value.slice.injEq] at e
  exact ⟨g, e.1, h1, h2⟩
theorem Fresh.at_turn {w w' : World} {B c : Nat} {g h : Gr} {y : Nd} (f : Fresh w' B (h.turn c y)) (t : GTwin g h) (hg : Gr.At w g) (hy : y.kids = []) (hy2 : y.text.size ≤ 9223372036854775807) : Gr.At w' (h.turn c y) where
  rules := own_rules f.rules
  nodes := own_nodes f.nodes
  kids := fun x hx => by
    refine ⟨own_lies1 (f.kids x hx).1, (f.kids x hx).2, ?_⟩
    rcases List.mem_or_eq_of_mem_set hx with hx | rfl
    · obtain ⟨z, hz, A, c, rfl⟩ := t.mem hx
      exact (hg.kids z hz).2.2
    · rw [hy]; simp
  rl := by show h.rules.length ≤ _; rw [t.rules]; exact hg.rl
  nl := by rw [turn_len, t.len]; exact hg.nl
  rn := f.rn
  nn := f.nn
  texts := fun x hx => by
    rcases List.mem_or_eq_of_mem_set hx with hx | rfl
    · obtain ⟨z, hz, A, c, rfl⟩ := t.mem hx
      exact hg.texts z hz
    · exact hy2
  names := by show ∀ r ∈ h.rules, _; rw [t.rules]; exact hg.names
end Go.Proofs.Ytaphogjiioecmaa
namespace Go.Proofs.Ytaphogjiioecmaa
open Go Go.RowKit Go.Maps
theorem leaf_kids {x : Nd} {r : Int} (h : nodeOk x r = true) (hk : x.kind = 2 ∨ x.kind = 3 ∨ x.kind = 4 ∨ x.kind = 5) : x.kids = [] := by
  rcases hk with e | e | e | e
  · rw [nodeOk_of (n := 57) (by rw [e]; decide)] at h
    simp [tk, sameNd, bare] at h
    exact h.2.2.2.2
  · rw [nodeOk_of (n := 58) (by rw [e]; decide)] at h
    simp [tk, sameNd, bare] at h
    exact h.2.2.2.2
  · rw [nodeOk_of (n := 59) (by rw [e]; decide)] at h
    simp [tk, sameNd, bare] at h
    exact h.2.2.2.2
  · rw [nodeOk_of (n := 60) (by rw [e]; decide)] at h
    simp [tk, sameNd, bare] at h
    exact h.2.2.2
theorem k234 {k : Int} (h : k = 2 ∨ k = 3 ∨ k = 4) : k = 2 ∨ k = 3 ∨ k = 4 ∨ k = 5 := by omega
theorem bare_ok (k r : Int) (hk : k = 1 ∨ k = 2) : nodeOk (bare k) r = true := by
  rcases hk with rfl | rfl
  · rw [nodeOk_of (n := 57) (by decide)]
    simp [tk, sameNd, bare]
  · rw [nodeOk_of (n := 57) (by decide)]
    simp [tk, sameNd, bare]
theorem never {x : Nd} (hk : x.kind = 2 ∨ x.kind = 3 ∨ x.kind = 4) (f inn : Int → Bool) : stepMay x f inn = false := by
  unfold stepMay
  rcases hk with e | e | e <;> simp [e]
theorem bare1_may (f inn : Int → Bool) : stepMay (bare 1) f inn = true := by unfold stepMay; simp [bare]
theorem call_step {x : Nd} (hk : x.kind = 5) (f inn : Int → Bool) : stepMay x f inn = inn x.rule := by unfold stepMay; simp [hk]
theorem bare_in (k : Int) (hk : 1 ≤ k ∧ k ≤ 12) : Nd.In (bare k) := by
  refine ⟨by simp only [bare]; omega, by show (0 : Nat) ≤ _; omega⟩
theorem twin_kz {g h : Gr} (t : GTwin g h) : h.kz = g.kz := by
  unfold Gr.kz
  rw [t.rules]
  congr 1
  apply List.ext_getElem (by simp [t.len])
  intro i h1 h2
  simp only [List.length_map] at h1 h2
  have := t.node i h2
  simp only [List.getD, List.getElem?_eq_getElem h1, List.getElem?_eq_getElem h2, Option.getD_some] at this
  obtain ⟨A, c, e⟩ := this
  simp only [List.getElem_map]
  rw [e]
  rfl
theorem turn_kz {g h : Gr} (t : GTwin g h) (c : Nat) (y : Nd) : (h.turn c y).kz = (g.turn c y).kz := by
  have := twin_kz t
  unfold Gr.kz at this ⊢
  simp only [Gr.mk.injEq, true_and] at this
  simp only [Gr.turn, List.map_set]
  rw [this.1, this.2]
theorem rulesOf_kz (g : Gr) : rulesOf g.kz = rulesOf g := by
  unfold rulesOf
  rw [rightB_kz, ranks_kz]
  rfl
theorem rankOf_pos (g : Gr) (i : Int) : 0 ≤ rankOf g i := by
  unfold rankOf
  split
  · exact ranks_pos g _
  · omega
set_option maxHeartbeats 1000000 in
theorem ints_same (A B : Option Addr) (c d : Nat) (a b : List Int) (ha : a.length ≤ 140737488351232) (hb : b.length ≤ 140737488351232) (w : World) (hA : Lies w A (ints a)) (hB : Lies w B (ints b)) :
    Calls Try.prog 25 #[.slice A a.length c, .slice B b.length d] w fun e w' => e = .returned (.bool (decide (a = b))) ∧ ∃ n, w' = w.drewN n := by
  have HA := Lib.hid hA
  have HB := Lib.hid hB
  clear hA hB
  by_cases hl : a.length = b.length
  · have HL := Lib.hid hl
    obtain ⟨m, em⟩ : ∃ m, m = b.length := ⟨_, rfl⟩
    rw [← em] at hl hb ⊢
    rw [hl] at ha ⊢
    have EM := Lib.hid em
    clear em hl
    go_enter Try.func25, Try.ntmps25
    go_wp2_with fail
    go_loopw [5] (fun i wr => ∃ (k n : Nat), k ≤ m ∧ i = .int .i64 k ∧ a.take k = b.take k ∧ wr = w.drewN n) (fun i _ => m - (intOf i).toNat)
    case atStart => exact ⟨0, 0, by omega, rfl, by simp, rfl⟩
    case round =>
      obtain ⟨k, n, hk, rfl, ht, rfl⟩ := hrel
      have HT := Lib.hid ht
      clear ht
      by_cases hlt : k < m
      · have hlt2 : (k : Int) < m := by omega
        obtain ⟨b1, o1, rfl, _, c1⟩ := lies_cell HA.out (show k < a.length by have := HL.out; have := EM.out; omega)
        obtain ⟨b2, o2, rfl, _, c2⟩ := lies_cell HB.out (show k < b.length by have := EM.out; omega)
        have HS := Lib.hid (take_same (a := a) (b := b) (k := k) (by have := HL.out; have := EM.out; omega) HL.out HT.out)
        have HN := Lib.hid (@getD_ne a b k)
        generalize a.getD k 0 = x at c1 HS HN
        generalize b.getD k 0 = y at c2 HS HN
        by_cases hxy : x = y
        · have HK := Lib.hid (HS.out.2 hxy)
          have hb : (x == y) = true := by simpa using hxy
          have hb2 : (x != y) = false := by simpa using hxy
          clear HS HN hxy
          go_wp2_with fail
          go_quiet (fail)
          go_wp2_with fail
          go_roundw
          case rel => exact ⟨k + 1, n + nq, by omega, by go_num, HK.out, by first | rfl | exact World.drewN_drewN _ _ _⟩
          case measure => simp [intOf]; omega
        · have HK := Lib.hid (HN.out hxy)
          have hb : (x == y) = false := by simpa using hxy
          have hb2 : (x != y) = true := by simpa using hxy
          clear HS HN hxy
          go_wp2_with fail
          go_quiet (fail)
          go_wp2_with fail
          go_ret
          exact ⟨ret_bool (by simpa using HK.out), n + nq, by first | rfl | exact World.drewN_drewN _ _ _⟩
      · obtain rfl : k = m := by omega
        have hlt2 : ¬ (k : Int) < k := by omega
        go_wp2_with fail
        go_ret
        exact ⟨ret_bool (by have := HT.out; rw [List.take_of_length_le (by have := HL.out; have := EM.out; omega), List.take_of_length_le (by have := EM.out; omega)] at this; simp [this]), n, rfl⟩
  · have hne : ¬ (a.length : Int) = b.length := by omega
    have hv : decide (a = b) = false := by simp; intro e; rw [e] at hl; exact hl rfl
    rw [hv]
    clear hv hl
    go_enter Try.func25, Try.ntmps25
    go_wp2_with fail
    go_ret
    exact ⟨rfl, 0, rfl⟩
theorem rows_le (g : Gr) (hR : Right g) : (rulesOf g).length ≤ 140737488351232 ∧ (nodesOf g).length ≤ 140737488351232 := by
  have h1 := hR.rules.2
  have h2 := hR.nodes
  rw [nodesOf_of hR]
  unfold rulesOf
  rw [rightB_true.2 hR]
  have h3 := rowOf_len (fun i => inB (ranks g) i) g.rules.length
  have h4 := rowOf_len (fun n => mayN g.nodes (inB (ranks g)) n) g.nodes.length
  exact ⟨by simp only [if_true]; omega, by omega⟩
theorem same_row (A B : Option Addr) (c d : Nat) (L : List Nat) (hl : L.length ≤ 140737488351232) (w : World) (hA : Lies w A (ints (nums L))) (hB : Lies w B (ints (nums L))) :
    Calls Try.prog 25 #[.slice A L.length c, .slice B L.length d] w fun e w' => e = .returned (.bool true) ∧ Below w.heap.size w w' := by
  have := ints_same A B c d (nums L) (nums L) (by rw [nums_len]; exact hl) (by rw [nums_len]; exact hl) w hA hB
  rw [nums_len] at this
  refine this.mono ?_
  rintro e w' ⟨rfl, n, rfl⟩
  exact ⟨by rw [decide_eq_true rfl], bdrew (Below.refl _ _)⟩
theorem turn_in_ {g h : Gr} (t : GTwin g h) (hi : Gr.In g) (c : Nat) (k : Int) (hk : 1 ≤ k ∧ k ≤ 12) : Gr.In (h.turn c (bare k)) := by
  intro x hx
  rcases List.mem_or_eq_of_mem_set hx with hx | rfl
  · exact (t.within hi) x hx
  · exact bare_in k hk
/-- A Text, a Set, an Any made an Empty. -/
theorem more_empty {g h : Gr} {c : Nat} (hR : Right g) (t : GTwin g h) (hc : c < g.nodes.length) (hk : (g.nodes.getD c Nd.zero).kind = 2 ∨ (g.nodes.getD c Nd.zero).kind = 3 ∨ (g.nodes.getD c Nd.zero).kind = 4) :
    nodeB (h.turn c (bare 1)) c = true ∧ nodeB g c = false ∧ ∀ i, i < g.rules.length → 0 < (ranks g).getD i 0 → 0 < rankOf (h.turn c (bare 1)) i ∧ rankOf (h.turn c (bare 1)) i ≤ (ranks g).getD i 0 := by
  have hkids : (bare 1).kids = (g.nodes.getD c Nd.zero).kids := by
    rw [leaf_kids (hR.all c hc) (k234 hk)]; rfl
  have hR2 : Right (g.turn c (bare 1)) := turn_right hR hc hkids (bare_ok 1 _ (.inl rfl))
  refine ⟨?_, ?_, fun i hi h0 => ?_⟩
  · rw [← nodeB_kz, turn_kz t, nodeB_kz, nodeB_of hR2 c (by rw [turn_len]; exact hc), mayN_eq (turn_up_kids hR hc hkids) _ (by omega) (by rw [turn_len]; omega), Int.toNat_natCast, turn_at hc]
    exact bare1_may _ _
  · rw [nodeB_of hR c hc, mayN_eq hR.kidsUp _ (by omega) (by omega), Int.toNat_natCast]
    exact never hk _ _
  · rw [← rankOf_kz, turn_kz t, rankOf_kz, rank_of hR2 i hi]
    exact turn_rank hR hc hkids (fun f inn => never hk f inn) i h0
/-- A Call of a rule that may not made an Any. -/
theorem more_any {g h : Gr} {c : Nat} (hR : Right g) (t : GTwin g h) (hc : c < g.nodes.length) (hk : (g.nodes.getD c Nd.zero).kind = 5) (h0 : ¬ 0 < (ranks g).getD (g.nodes.getD c Nd.zero).rule.toNat 0) :
    rulesOf (h.turn c (bare 2)) = rulesOf g ∧ nodesOf (h.turn c (bare 2)) = nodesOf g := by
  have hkids : (bare 2).kids = (g.nodes.getD c Nd.zero).kids := by
    rw [leaf_kids (hR.all c hc) (.inr (.inr (.inr hk)))]; rfl
  have hR2 : Right (g.turn c (bare 2)) := turn_right hR hc hkids (bare_ok 2 _ (.inr rfl))
  have hn : ∀ f k, stepMay (g.nodes.getD c Nd.zero) f (inB (rk g k)) = false := fun f k => by
    rw [call_step hk]
    unfold inB
    apply decide_eq_false
    intro hp
    apply h0
    by_cases hkl : k ≤ g.rules.length
    · have := rk_keep g k _ hp (g.rules.length - k)
      rw [show k + (g.rules.length - k) = g.rules.length by omega] at this
      show 0 < (rk g g.rules.length).getD _ 0
      rw [this]; exact hp
    · have : rk g k = ranks g := by
        obtain ⟨N, n1, n2, _⟩ := rounds_end g
        have e := rk_stay g N n2 (k - N)
        rw [show N + (k - N) = k by omega] at e
        rw [e, ranks_fix g n1 n2]
      rw [this] at hp
      exact hp
  have hrk : ranks (g.turn c (bare 2)) = ranks g := turn_rk hR hc hkids hn (fun f inn => never (.inl rfl) f inn) _
  constructor
  · rw [← rulesOf_kz, turn_kz t, rulesOf_kz]
    unfold rulesOf
    rw [rightB_true.2 hR, rightB_true.2 hR2, hrk, turn_rules]
  · rw [← nodesOf_kz, turn_kz t, nodesOf_kz, nodesOf_of hR, nodesOf_of hR2, hrk, turn_len]
    apply rowOf_congr
    intro i hi
    exact turn_same hR hc hkids _ (fun f => hn f g.rules.length) (fun f => never (.inl rfl) f _) i (by omega) (by omega)
set_option maxRecDepth 100000 in
set_option maxHeartbeats 2000000 in
theorem size11_all (g : Gr) (w : World) (hg : Gr.At w g) : Calls Try.prog 14 #[g.val] w fun e w' => (∃ z : Int, e = .returned (.int .i64 z) ∧ (z ≤ 300 → g.rules.length + g.nodes.length ≤ 300 ∧ ∀ x ∈ g.nodes, x.kids.length ≤ 300)) ∧ Below w.heap.size w w' := by
  have HG := Lib.hid hg
  have h1 := hg.rl
  have h2 := hg.nl
  obtain ⟨RA, rc, rules, NA, nc, nodes⟩ := g
  dsimp only at h1 h2
  obtain ⟨m, em⟩ : ∃ m, m = nodes.length := ⟨_, rfl⟩
  obtain ⟨r, er⟩ : ∃ m, m = rules.length := ⟨_, rfl⟩
  show Calls Try.prog 14 #[.agg #[.slice RA rules.length rc, .slice NA nodes.length nc]] w _
  have EM := Lib.hid em
  have ER := Lib.hid er
  rw [← em, ← er]
  rw [← em] at h2
  rw [← er] at h1
  clear hg em er
  go_enter Try.func14, Try.ntmps14
  go_wp2_with fail
  obtain ⟨wb, ewb⟩ : ∃ u, u = w.alloc (.cells #[.slice RA r rc, .slice NA m nc] 38) := ⟨_, rfl⟩
  have hb2 : Below w.heap.size w wb := by rw [ewb]; exact B1 _ _
  have c0 : wb.cell? ⟨w.heap.size, 0, none⟩ = some (.slice RA r rc) := by rw [ewb]; exact (Blk.new _ _ _).cell 0
  have c1 : wb.cell? ⟨w.heap.size, 1, none⟩ = some (.slice NA m nc) := by rw [ewb]; exact (Blk.new _ _ _).cell 1
  rw [← ewb]
  have BB := Lib.hid hb2
  clear ewb hb2
  go_loopw [3, 4] (fun s i wr => ∃ (k : Nat) (n : Int), k ≤ m ∧ s = .int .i64 n ∧ i = .int .i64 k ∧ n ≤ 500000000000000 ∧ (r + m : Nat) ≤ n ∧ (∀ j, j < k → ((nodes.getD j Nd.zero).kids.length : Int) ≤ n) ∧ wr = wb) (fun _ i _ => m - (intOf i).toNat)
  case atStart => exact ⟨0, r + m, by omega, rfl, rfl, by omega, by omega, fun j h => by omega, rfl⟩
  case round =>
    obtain ⟨k, n, hk, rfl, rfl, hn, hn0, hkk, rfl⟩ := hrel
    have HK := Lib.hid hkk
    clear hkk
    by_cases hlt : k < m
    · have hlt2 : (k : Int) < m := by omega
      by_cases hle : n ≤ 300
      · obtain ⟨b1, o1, eA, _, _, _, _, _, _, _, _, _, c9⟩ := (HG.out.below BB.out).nodes.nine (show k < nodes.length by have := EM.out; omega)
        have hx := ((HG.out.below BB.out).node (show k < nodes.length by have := EM.out; omega)).2.2
        dsimp only at eA c9 hx
        rw [eA] at c1
        generalize hxx : nodes.getD k Nd.zero = x at c9 hx
        have HX := Lib.hid hxx
        clear eA hxx
        go_wp2_with fail
        go_roundw
        case rel => exact ⟨k + 1, n + x.kids.length, by omega, by first | rfl | go_num, by go_num, by omega, by omega, fun j hj => (by
          by_cases ej : j = k
          · subst ej; rw [HX.out]; omega
          · have := HK.out j (by omega); omega), by first | trivial | rfl⟩
        case measure => simp [intOf]; omega
      · have hle2 : 300 < n := by omega
        go_wp2_with fail
        go_ret
        exact ⟨⟨n, rfl, fun h => absurd h (by omega)⟩, BB.out⟩
    · obtain rfl : k = m := by omega
      have hlt2 : ¬ (k : Int) < k := by omega
      go_wp2_with fail
      go_ret
      exact ⟨⟨n, rfl, fun h => ⟨by have := EM.out; have := ER.out; omega, fun x hx => by
        obtain ⟨j, hj, rfl⟩ := List.getElem_of_mem hx
        have := HK.out j (by have := EM.out; omega)
        simp only [List.getD, List.getElem?_eq_getElem hj, Option.getD_some] at this
        skip
        omega⟩⟩, BB.out⟩
end Go.Proofs.Ytaphogjiioecmaa

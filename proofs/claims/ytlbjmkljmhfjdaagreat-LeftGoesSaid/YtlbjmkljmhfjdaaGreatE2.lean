/- What is lent of a grammar. (Great seat.) -/
import Derived.Test.YtlbjmkljmhfjdaaGreatE1
import Derived.Test.YtlbjmkljmhfjdaaGreatD9
import Derived.Test.YtlbjmkljmhfjdaaGreatC3
import Derived.Test.YtlbjmkljmhfjdaaGreatA3
set_option linter.unusedSimpArgs false
set_option linter.unusedVariables false
namespace Go.Proofs.YtlbjmkljmhfjdaaGreat
open Go Go.Proofs Go.RowKit Go.Lib Go.Maps
theorem len_rules (l : List Rl) : (l ++ marksR 12).length = l.length + 12 := by rw [List.length_append, marksR_len]
theorem len_nodes (l : List Nd) : (l ++ marksN 12).length = l.length + 12 := by rw [List.length_append, marksN_len]
/-- A lent grammar. -/
structure LGr (w : World) (B : Nat) (g h : Gr) : Prop where
  rules : h.rules = g.rules
  rrow : w.ownsRow B 124 2 (.slice h.RA (h.rules.length + 12) h.rc) (h.rules.length + 12) (rcells h.rules ++ rcells (marksR 12))
  nodes : LNds w B g.nodes h.nodes (.slice h.NA (h.nodes.length + 12) h.nc) (h.nodes.length + 12) (marksN 12)
theorem LGr.twin {w : World} {B : Nat} {g h : Gr} (f : LGr w B g h) : GTwin g h := ⟨f.rules, f.nodes.len, f.nodes.twin⟩
theorem LKid.below' {w w' : World} {B : Nat} {x : Nd} (h : LKid w B x) (hb : Below w.heap.size w w') : LKid w' B x := own_below h hb
theorem LNds.below {w w' : World} {B n : Nat} {l cl more : List Nd} {v : Value} (h : LNds w B l cl v n more) (hb : Below w.heap.size w w') : LNds w' B l cl v n more :=
  ⟨h.len, h.twin, own_below h.row hb, fun x hx => (h.kids x hx).below hb⟩
theorem LNds.blk {w w' : World} {B n b : Nat} {l cl more : List Nd} {v : Value} (h : LNds w B l cl v n more) (hb : b < B) (hg : w.grownBy w' (some b)) : LNds w' B l cl v n more :=
  ⟨h.len, h.twin, own_blk h.row hb hg, fun x hx => own_blk (h.kids x hx) hb hg⟩
theorem LNds.lower {w : World} {B B' n : Nat} {l cl more : List Nd} {v : Value} (h : LNds w B l cl v n more) (hB : B' ≤ B) : LNds w B' l cl v n more :=
  ⟨h.len, h.twin, own_lower h.row hB, fun x hx => own_lower (h.kids x hx) hB⟩
theorem LGr.below {w w' : World} {B : Nat} {g h : Gr} (f : LGr w B g h) (hb : Below w.heap.size w w') : LGr w' B g h :=
  ⟨f.rules, own_below f.rrow hb, f.nodes.below hb⟩
theorem LGr.rulesX {w : World} {B : Nat} {g h : Gr} (f : LGr w B g h) : Rules w h.RA (h.rules ++ marksR 12) := by
  have := f.rrow
  rw [← rcells_apps, ← len_rules] at this
  exact own_rules this
theorem LGr.nodesX {w : World} {B : Nat} {g h : Gr} (f : LGr w B g h) : Nodes w h.NA (h.nodes ++ marksN 12) := by
  have := f.nodes.row
  rw [← ncells_apps, ← len_nodes] at this
  exact own_nodes this
theorem LGr.kidsX {w : World} {B : Nat} {g h : Gr} (f : LGr w B g h) (x : Nd) (hx : x ∈ h.nodes) : Lies w x.A (ints x.kids ++ marks 12) := own_lies1 (f.nodes.kids x hx)
theorem Rules.front {w : World} {A : Option Addr} {l m : List Rl} (h : Rules w A (l ++ m)) : Rules w A l := by
  intro h0
  obtain ⟨b, o, e, hb, hc⟩ := h (by rw [List.length_append]; omega)
  refine ⟨b, o, e, hb, fun i hi => ?_⟩
  have := hc i (by rw [List.length_append]; omega)
  rwa [List.getD, List.getElem?_append_left hi] at this
theorem Nodes.front {w : World} {A : Option Addr} {l m : List Nd} (h : Nodes w A (l ++ m)) : Nodes w A l := by
  intro h0
  obtain ⟨b, o, e, hb, hc⟩ := h (by rw [List.length_append]; omega)
  refine ⟨b, o, e, hb, fun i hi => ?_⟩
  have := hc i (by rw [List.length_append]; omega)
  rwa [List.getD, List.getElem?_append_left hi] at this
theorem Lies.front {w : World} {A : Option Addr} {l m : List Value} (h : Lies w A (l ++ m)) : Lies w A l := by
  intro h0
  obtain ⟨b, o, e, hb, hc⟩ := h (by rw [List.length_append]; omega)
  refine ⟨b, o, e, hb, fun i hi => ?_⟩
  rw [hc i (by rw [List.length_append]; omega), List.getElem?_append_left hi]
theorem own_room2 {w : World} {B e z n c m : Nat} {A : Option Addr} {xs : List Value} (h : w.ownsRow B e z (.slice A m c) n xs) (hn : 0 < n) : (∃ b, A = some ⟨b, 0, none⟩) ∧ n ≤ c := by
  rcases h.2 with ⟨h1, h2⟩ | ⟨g, cap, cur, h1, hbg, hgg, hnc, rest⟩
  · omega
  · simp only [Value.slice.injEq] at h1
    obtain ⟨rfl, _, rfl⟩ := h1
    exact ⟨⟨g, rfl⟩, hnc⟩
theorem LGr.lies {w w' : World} {B : Nat} {g h : Gr} (f : LGr w' B g h) (hg : Gr.At w g) : Gr.At w' h :=
  f.twin.lies hg f.rulesX.front f.nodesX.front (fun x hx => ⟨(f.kidsX x hx).front, fun e => by
    obtain ⟨⟨b, e2⟩, _⟩ := own_room2 (f.nodes.kids x hx) (by omega)
    rw [e] at e2; cases e2⟩) (fun e => by
    obtain ⟨⟨b, e2⟩, _⟩ := own_room2 f.rrow (by omega)
    rw [e] at e2; cases e2) (fun e => by
    obtain ⟨⟨b, e2⟩, _⟩ := own_room2 f.nodes.row (by omega)
    rw [e] at e2; cases e2)
def LentG (w : World) (B : Nat) (g : Gr) (e : Ending) : Prop := ∃ h : Gr, e = .returned h.val ∧ LGr w B g h
set_option maxRecDepth 100000 in
set_option maxHeartbeats 4000000 in
theorem lentGram_any (g : Gr) (w : World) (hg : Gr.At w g) (h1 : g.rules.length ≤ 100000) (h2 : g.nodes.length ≤ 100000) (h3 : ∀ x ∈ g.nodes, x.kids.length ≤ 100000) :
    Calls Tryz.prog 28 #[g.val] w fun e w' => LentG w' w.heap.size g e ∧ Below w.heap.size w w' := by
  have CR := Lib.hid (fun (w' : World) (b : Below w.heap.size w w') => lentRules_any g.RA g.rc g.rules.length g.rules rfl h1 (fun e => ⟨rules_none hg.rules e, hg.rn e⟩) w' (hg.below b).rules)
  have CN := Lib.hid (fun (w' : World) (b : Below w.heap.size w w') => lentNodes_any g.NA g.nodes g.nc h2 w' (hg.below b).nodes (fun x hx => ⟨(hg.below b).kids x hx, h3 x hx⟩))
  clear hg h1 h2 h3
  show Calls Tryz.prog 28 #[.agg #[.slice g.RA g.rules.length g.rc, .slice g.NA g.nodes.length g.nc]] w _
  go_enter Tryz.func28, Tryz.ntmps28
  go_wp2_with (first | (go_at_call 98; (with_reducible refine (CR.out _ (B2 _ _ _)).mono ?_); rintro e w1 ⟨A1, c1, rfl, ho, hb⟩; have HO := Lib.hid (own_lower (base' := w.heap.size + 2) ho (by simp)); have HLS := Lib.hid (show w.heap.size + 2 ≤ w1.heap.size by have := hb.size; simp at this; omega); have KB := Lib.hid (((Blk.new w _ _).alloc _).below' hb); have KR := Lib.hid (by have := (Blk.new (w.alloc _) _ _).below' hb; rw [World.size_alloc] at this; exact this); have H1 := Lib.hid (bb (B2 w _ _) hb); clear ho hb) | (refine wpList_store_blk rfl 22 (.tmp 6) (.tmp 5) rfl w.heap.size 0 _ rfl rfl rfl 25 _ KB.out (by first | simp | (show 0 < 2; omega)) (by kernel_rfl) #[.slice A1 g.rules.length c1, .slice g.NA g.nodes.length g.nc] rfl ?_; intro w2 hk hg; have KB2 := Lib.hid hk; have KR2 := Lib.hid (KR.out.grown hg (by intro e; have := Option.some.inj e; omega)); have HO2 := Lib.hid (own_blk HO.out (by omega) hg); have H2 := Lib.hid (grown_below H1.out H1.out.size hg (fun k e => by cases e; omega)); have HL2 := Lib.hid (show w.heap.size < w2.heap.size by have := HLS.out; have := hg.size; omega); have HL3 := Lib.hid (show w.heap.size + 1 < w2.heap.size by have := HLS.out; have := hg.size; omega); have d0 := hk.cell 0; have d1 := hk.cell 1; simp only [List.getElem?_toArray, List.getElem?_cons_zero, List.getElem?_cons_succ] at d0 d1; clear hk hg) | (go_at_call 99; (with_reducible refine (CN.out _ H2.out).mono ?_); rintro e w3 ⟨⟨A2, c2, cl, rfl, hno⟩, hb⟩; have HNO := Lib.hid hno; have KB3 := Lib.hid (KB2.out.below' hb); have KR3 := Lib.hid (KR2.out.below' hb); have HO3 := Lib.hid (own_below HO2.out hb); have H3 := Lib.hid (bb H2.out hb); clear hno hb d0 d1) | (refine wpList_store_blk rfl 23 (.tmp 10) (.tmp 9) rfl w.heap.size 1 _ rfl rfl rfl 25 _ KB3.out (by first | simp | (show 1 < 2; omega)) (by kernel_rfl) #[.slice A1 g.rules.length c1, .slice A2 g.nodes.length c2] rfl ?_; intro w4 hk hg; have KR4 := Lib.hid (KR3.out.grown hg (by intro e; have := Option.some.inj e; omega)); have HO4 := Lib.hid (own_blk HO3.out (by omega) hg); have HNO4 := Lib.hid (HNO.out.blk HL2.out hg); have H4 := Lib.hid (grown_below H3.out H3.out.size hg (fun k e => by cases e; omega)); have d0 := hk.cell 0; have d1 := hk.cell 1; simp only [List.getElem?_toArray, List.getElem?_cons_zero, List.getElem?_cons_succ] at d0 d1; clear hk hg) | (refine wpList_store_whole rfl 25 (.tmp 2) (.tmp 11) rfl (w.heap.size + 1) #[.slice A1 g.rules.length c1, .slice A2 g.nodes.length c2] rfl rfl 25 _ KR4.out (by kernel_rfl) (by rfl) (by simp [Value.oneCell']) ?_; intro w5 hk hg; have KR5 := Lib.hid hk; have HO5 := Lib.hid (own_blk HO4.out (by omega) hg); have HNO5 := Lib.hid (HNO4.out.blk HL3.out hg); have H5 := Lib.hid (grown_below H4.out H4.out.size hg (fun k e => by cases e; omega)); clear hk hg d0 d1))
  have en : cl.length = g.nodes.length := HNO5.out.len
  refine bodyPost_ret (results_cell_row rfl _ _ (w.heap.size + 1) 25 _ (0, 0) _ rfl KR5.out Tryz.underlying25 rfl (by kernel_rfl)) rfl ⟨⟨⟨A1, c1, g.rules, A2, c2, cl⟩, ?_, rfl, own_lower HO5.out (by omega), ?_⟩, H5.out⟩
  · show Ending.returned (.agg #[.slice A1 g.rules.length c1, .slice A2 g.nodes.length c2]) = .returned (.agg #[.slice A1 g.rules.length c1, .slice A2 cl.length c2])
    rw [en]
  · show LNds w5 w.heap.size g.nodes cl (.slice A2 (cl.length + 12) c2) (cl.length + 12) (marksN 12)
    rw [en]
    exact HNO5.out.lower H2.out.size
end Go.Proofs.YtlbjmkljmhfjdaaGreat
namespace Go.Proofs.YtlbjmkljmhfjdaaGreat
open Go Go.RowKit
@[go_sem] theorem eqClass (a b c d a' b' c' d' : Int) (w : World) : (Op.equalIn 10000 37 (.agg #[.int .u64 a, .int .u64 b, .int .u64 c, .int .u64 d]) (.agg #[.int .u64 a', .int .u64 b', .int .u64 c', .int .u64 d'])).run Tryz.prog w = .ok (a == a' && b == b' && c == c' && d == d') w := by
  have u3 := Tryz.underlying35
  have a3 := Tryz.isAgg35
  have z3 := Tryz.sizeOf35
  rw [show (10000 : Nat) = 9999 + 1 from rfl, Op.equalIn]
  simp only [Sem.run_bind, run_underlying Tryz.underlying37, Result.andThen_ok]
  simp only [Std.Legacy.Range.forIn_eq_forIn_range', Std.Legacy.Range.size, Nat.sub_zero, Nat.add_sub_cancel, Nat.div_one, List.range'_succ, List.range'_zero, List.forIn_cons, List.forIn_nil]
  go_simp
  by_cases h1 : a = a' <;> by_cases h2 : b = b' <;> by_cases h3 : c = c' <;> by_cases h4 : d = d' <;> simp [h1, h2, h3, h4]
theorem eqRule (a b : ByteArray) (c d : Int) (w : World) : (Op.equalIn 10000 124 (.agg #[.string a, .int .i64 c]) (.agg #[.string b, .int .i64 d])).run Tryz.prog w = .ok (decide (a.toList = b.toList) && c == d) w := by
  have u3 := Tryz.underlying3
  have a3 := Tryz.isAgg3
  have z3 := Tryz.sizeOf3
  have u9 := Tryz.underlying9
  have a9 := Tryz.isAgg9
  have z9 := Tryz.sizeOf9
  rw [show (10000 : Nat) = 9999 + 1 from rfl, Op.equalIn]
  simp only [Sem.run_bind, run_underlying Tryz.underlying124, Result.andThen_ok]
  go_simp
  by_cases h1 : a.toList = b.toList <;> by_cases h2 : c = d <;> simp [h1, h2]
set_option maxHeartbeats 1000000 in
theorem kitSame_any (x y : Nd) (w : World) (hx : Nd.At w x) (hy : Nd.At w y) : Calls Tryz.prog 159 #[x.val, y.val] w fun e w' => e = .returned (.bool (sameNd x y)) ∧ Below w.heap.size w w' := by
  have R := Lib.hid (fun (w' : World) (h : Below w.heap.size w w') => ints_same x.A y.A x.cap y.cap x.kids y.kids hx.2.2 hy.2.2 w' (hx.below h).1 (hy.below h).1)
  clear hx hy
  go_enter Tryz.func159, Tryz.ntmps159
  go_wp2_with (go_at_call 58; refine (R.out _ (B2 _ _ _)).mono ?_; rintro e w1 ⟨rfl, n, rfl⟩)
  all_goals go_ret
  all_goals refine ⟨ret_bool ?_, by first | exact B2 _ _ _ | exact bdrew (B2 _ _ _)⟩
  all_goals (unfold sameNd; rw [Bool.eq_iff_iff]; simp only [tl_inj, beq_iff_eq, Bool.and_eq_true, decide_eq_true_eq, Bool.false_eq_true] at *; simp_all)

set_option maxHeartbeats 2000000 in
theorem kitRules_any (A B : Option Addr) (c d : Nat) (a b : List Rl) (ha : a.length ≤ 140737488351232) (hb : b.length ≤ 140737488351232) (w : World) (hA : Rules w A a) (hB : Rules w B b) :
    Calls Tryz.prog 142 #[.slice A a.length c, .slice B b.length d] w fun e w' => e = .returned (.bool (rowSame Rl.zero sameRl a b)) ∧ ∃ n, w' = w.drewN n := by
  have HA := Lib.hid hA
  have HB := Lib.hid hB
  clear hA hB
  by_cases hl : a.length = b.length
  · have HL := Lib.hid hl
    have RT := Lib.hid (rowSame_true (z := Rl.zero) (f := sameRl) (a := a) (b := b))
    have RF := Lib.hid (rowSame_false (z := Rl.zero) (f := sameRl) (a := a) (b := b))
    obtain ⟨v, ev⟩ : ∃ v, v = rowSame Rl.zero sameRl a b := ⟨_, rfl⟩
    rw [← ev] at RT RF ⊢
    clear ev
    obtain ⟨m, em⟩ : ∃ m, m = b.length := ⟨_, rfl⟩
    rw [← em] at hl hb ⊢
    rw [hl] at ha ⊢
    have EM := Lib.hid em
    clear em hl
    go_enter Tryz.func142, Tryz.ntmps142
    go_wp2_with fail
    go_loopw [5] (fun i wr => ∃ (k n : Nat), k ≤ m ∧ i = .int .i64 k ∧ (∀ j, j < k → sameRl (a.getD j Rl.zero) (b.getD j Rl.zero) = true) ∧ wr = w.drewN n) (fun i _ => m - (RowKit.intOf i).toNat)
    case atStart => exact ⟨0, 0, by omega, rfl, fun j h => by omega, rfl⟩
    case round =>
      obtain ⟨k, n, hk, rfl, ht, rfl⟩ := hrel
      have HT := Lib.hid ht
      clear ht
      by_cases hlt : k < m
      · have hlt2 : (k : Int) < m := by omega
        obtain ⟨b1, o1, rfl, _, c1, c2⟩ := HA.out.two (show k < a.length by have := HL.out; have := EM.out; omega)
        obtain ⟨b2, o2, rfl, _, c3, c4⟩ := HB.out.two (show k < b.length by have := EM.out; omega)
        generalize hx : a.getD k Rl.zero = x at *
        generalize hy : b.getD k Rl.zero = y at *
        have HX := Lib.hid hx
        have HY := Lib.hid hy
        clear hx hy
        obtain ⟨sv, es⟩ : ∃ sv, sv = sameRl x y := ⟨_, rfl⟩
        have q1 : (decide (x.name.toList = y.name.toList) && x.body == y.body) = sv := by rw [es, Bool.eq_iff_iff]; simp [sameRl, tl_inj]
        have ES := Lib.hid es
        have EQ : ∀ w', (Op.equalIn 10000 124 (.agg #[.string x.name, .int .i64 x.body]) (.agg #[.string y.name, .int .i64 y.body])).run Tryz.prog w' = .ok sv w' := fun w' => by rw [eqRule, q1]
        clear es q1
        generalize x.name = xn at *
        generalize y.name = yn at *
        generalize x.body = xb at *
        generalize y.body = yb at *
        cases sv with
        | true =>
          go_wp2_with fail
          go_quiet (fail)
          go_wp2_with fail
          go_roundw
          case rel => exact ⟨k + 1, n + nq, by omega, by go_num, fun j hj => by
              by_cases e : j = k
              · subst e; rw [HX.out, HY.out]; exact ES.out.symm
              · exact HT.out j (by omega), by first | rfl | exact World.drewN_drewN _ _ _⟩
          case measure => simp [RowKit.intOf]; omega
        | false =>
          go_wp2_with fail
          go_quiet (fail)
          go_wp2_with fail
          go_ret
          exact ⟨ret_bool (RF.out k (by have := HL.out; have := EM.out; omega) (by rw [HX.out, HY.out]; exact ES.out.symm)).symm, n + nq, by first | rfl | exact World.drewN_drewN _ _ _⟩
      · obtain rfl : k = m := by omega
        have hlt2 : ¬ (k : Int) < k := by omega
        go_wp2_with fail
        go_ret
        exact ⟨ret_bool (RT.out HL.out (fun i hi => HT.out i (by have := HL.out; have := EM.out; omega))).symm, n, rfl⟩
  · have hne : ¬ (a.length : Int) = b.length := by omega
    rw [rowSame_len hl]
    clear hl
    go_enter Tryz.func142, Tryz.ntmps142
    go_wp2_with fail
    go_ret
    exact ⟨rfl, 0, rfl⟩
set_option maxRecDepth 100000 in
set_option maxHeartbeats 2000000 in
theorem kitNodes_any (A B : Option Addr) (c d : Nat) (a b : List Nd) (ha : a.length ≤ 140737488351232) (hb : b.length ≤ 140737488351232) (w : World) (hA : Nodes w A a) (hB : Nodes w B b) (hxa : ∀ x ∈ a, Nd.At w x) (hxb : ∀ x ∈ b, Nd.At w x) :
    Calls Tryz.prog 143 #[.slice A a.length c, .slice B b.length d] w fun e w' => e = .returned (.bool (rowSame Nd.zero sameNd a b)) ∧ Below w.heap.size w w' := by
  have HA := Lib.hid hA
  have HB := Lib.hid hB
  have XA := Lib.hid hxa
  have XB := Lib.hid hxb
  clear hxa hxb
  clear hA hB
  by_cases hl : a.length = b.length
  · have HL := Lib.hid hl
    have RT := Lib.hid (rowSame_true (z := Nd.zero) (f := sameNd) (a := a) (b := b))
    have RF := Lib.hid (rowSame_false (z := Nd.zero) (f := sameNd) (a := a) (b := b))
    obtain ⟨v, ev⟩ : ∃ v, v = rowSame Nd.zero sameNd a b := ⟨_, rfl⟩
    rw [← ev] at RT RF ⊢
    clear ev
    obtain ⟨m, em⟩ : ∃ m, m = b.length := ⟨_, rfl⟩
    rw [← em] at hl hb ⊢
    rw [hl] at ha ⊢
    have EM := Lib.hid em
    clear em hl
    go_enter Tryz.func143, Tryz.ntmps143
    go_wp2_with fail
    go_loopw [5] (fun i wr => ∃ (k : Nat), k ≤ m ∧ i = .int .i64 k ∧ (∀ j, j < k → sameNd (a.getD j Nd.zero) (b.getD j Nd.zero) = true) ∧ Below w.heap.size w wr) (fun i _ => m - (RowKit.intOf i).toNat)
    case atStart => exact ⟨0, by omega, rfl, fun j h => by omega, Below.refl _ _⟩
    case round =>
      obtain ⟨k, hk, rfl, ht, hbl⟩ := hrel
      have HT := Lib.hid ht
      have BL := Lib.hid hbl
      clear ht hbl
      by_cases hlt : k < m
      · have hlt2 : (k : Int) < m := by omega
        obtain ⟨b1, o1, rfl, _, c1, c2, c3, c4, c5, c6, c7, c8, c9⟩ := (HA.out.below BL.out).nine (show k < a.length by have := HL.out; have := EM.out; omega)
        obtain ⟨b2, o2, rfl, _, c10, c11, c12, c13, c14, c15, c16, c17, c18⟩ := (HB.out.below BL.out).nine (show k < b.length by have := EM.out; omega)
        have T := Lib.hid (fun (w' : World) (h : Below wr.heap.size wr w') => kitSame_any (a.getD k Nd.zero) (b.getD k Nd.zero) w' (((XA.out _ (by exact getD_mem (by have := HL.out; have := EM.out; omega))).below BL.out).below h) (((XB.out _ (by exact getD_mem (by have := EM.out; omega))).below BL.out).below h))
        have SV := Lib.hid (show sameNd (a.getD k Nd.zero) (b.getD k Nd.zero) = sameNd (a.getD k Nd.zero) (b.getD k Nd.zero) from rfl)
        generalize hx : a.getD k Nd.zero = x at *
        generalize hy : b.getD k Nd.zero = y at *
        have HX := Lib.hid hx
        have HY := Lib.hid hy
        clear hx hy
        have d1 := fun e => Ext.cell c1 e
        have d2 := fun e => Ext.cell c2 e
        have d3 := fun e => Ext.cell c3 e
        have d4 := fun e => Ext.cell c4 e
        have d5 := fun e => Ext.cell c5 e
        have d6 := fun e => Ext.cell c6 e
        have d7 := fun e => Ext.cell c7 e
        have d8 := fun e => Ext.cell c8 e
        have d9 := fun e => Ext.cell c9 e
        have d10 := fun e => Ext.cell c10 e
        have d11 := fun e => Ext.cell c11 e
        have d12 := fun e => Ext.cell c12 e
        have d13 := fun e => Ext.cell c13 e
        have d14 := fun e => Ext.cell c14 e
        have d15 := fun e => Ext.cell c15 e
        have d16 := fun e => Ext.cell c16 e
        have d17 := fun e => Ext.cell c17 e
        have d18 := fun e => Ext.cell c18 e
        clear c1 c2 c3 c4 c5 c6 c7 c8 c9 c10 c11 c12 c13 c14 c15 c16 c17 c18
        obtain ⟨sv, es⟩ : ∃ sv, sv = sameNd x y := ⟨_, rfl⟩
        rw [← es] at T
        have ES := Lib.hid es
        clear es SV
        cases sv with
        | true =>
          go_wp2_with fail
          refine wp_region_ext (by kernel_rfl) (by kernel_rfl) ?_
          repeat (first | go_big_quiet_step ((go_at_call 159; exact Calls.ext_of (T.out _ (Ext.grown _)))) | quiet_step ((go_at_call 159; exact Calls.ext_of (T.out _ (Ext.grown _)))))
          refine wpQuiet_nil ?_
          intro _ hw'
          obtain ⟨⟨w1, hb1⟩, rfl⟩ := hw'
          have B1' := Lib.hid (bb BL.out hb1)
          clear hb1 d1 d2 d3 d4 d5 d6 d7 d8 d9 d10 d11 d12 d13 d14 d15 d16 d17 d18 T
          go_wp2_with fail
          go_roundw
          case rel => exact ⟨k + 1, by omega, by go_num, fun j hj => by
              by_cases e : j = k
              · subst e; rw [HX.out, HY.out]; exact ES.out.symm
              · exact HT.out j (by omega), B1'.out⟩
          case measure => simp [RowKit.intOf]; omega
        | false =>
          go_wp2_with fail
          refine wp_region_ext (by kernel_rfl) (by kernel_rfl) ?_
          repeat (first | go_big_quiet_step ((go_at_call 159; exact Calls.ext_of (T.out _ (Ext.grown _)))) | quiet_step ((go_at_call 159; exact Calls.ext_of (T.out _ (Ext.grown _)))))
          refine wpQuiet_nil ?_
          intro _ hw'
          obtain ⟨⟨w1, hb1⟩, rfl⟩ := hw'
          have B1' := Lib.hid (bb BL.out hb1)
          clear hb1 d1 d2 d3 d4 d5 d6 d7 d8 d9 d10 d11 d12 d13 d14 d15 d16 d17 d18 T
          go_wp2_with fail
          go_ret
          exact ⟨ret_bool (RF.out k (by have := HL.out; have := EM.out; omega) (by rw [HX.out, HY.out]; exact ES.out.symm)).symm, B1'.out⟩
      · obtain rfl : k = m := by omega
        have hlt2 : ¬ (k : Int) < k := by omega
        go_wp2_with fail
        go_ret
        exact ⟨ret_bool (RT.out HL.out (fun i hi => HT.out i (by have := HL.out; have := EM.out; omega))).symm, BL.out⟩
  · have hne : ¬ (a.length : Int) = b.length := by omega
    rw [rowSame_len hl]
    clear hl
    go_enter Tryz.func143, Tryz.ntmps143
    go_wp2_with fail
    go_ret
    exact ⟨rfl, Below.refl _ _⟩

set_option maxHeartbeats 1000000 in
theorem kitGram_any (g h : Gr) (w : World) (hg : Gr.At w g) (hh : Gr.At w h) : Calls Tryz.prog 84 #[g.val, h.val] w fun e w' => e = .returned (.bool (sameGr g h)) ∧ Below w.heap.size w w' := by
  have R := Lib.hid (fun (w' : World) (b : Below w.heap.size w w') => kitRules_any g.RA h.RA g.rc h.rc g.rules h.rules hg.rl hh.rl w' (hg.below b).rules (hh.below b).rules)
  have N := Lib.hid (fun (w' : World) (b : Below w.heap.size w w') => kitNodes_any g.NA h.NA g.nc h.nc g.nodes h.nodes hg.nl hh.nl w' (hg.below b).nodes (hh.below b).nodes (hg.below b).kids (hh.below b).kids)
  clear hg hh
  have HV := Lib.hid (show sameGr g h = (rowSame Rl.zero sameRl g.rules h.rules && rowSame Nd.zero sameNd g.nodes h.nodes) from rfl)
  obtain ⟨x, ex⟩ : ∃ x, x = rowSame Rl.zero sameRl g.rules h.rules := ⟨_, rfl⟩
  obtain ⟨y, ey⟩ : ∃ y, y = rowSame Nd.zero sameNd g.nodes h.nodes := ⟨_, rfl⟩
  rw [← ex] at R HV
  rw [← ey] at N HV
  clear ex ey
  cases x with
  | true =>
    go_enter Tryz.func84, Tryz.ntmps84
    go_wp2_with (first | (go_at_call 142; refine (R.out _ (B2 _ _ _)).mono ?_; rintro e w1 ⟨rfl, nn, rfl⟩; have H1 := Lib.hid (bdrew (n := nn) (B2 w (.cells #[.slice g.RA g.rules.length g.rc, .slice g.NA g.nodes.length g.nc] 25) (.cells #[.slice h.RA h.rules.length h.rc, .slice h.NA h.nodes.length h.nc] 25)))) | (go_at_call 143; refine (N.out _ H1.out).mono ?_; rintro e w2 ⟨rfl, hb⟩; have H2 := Lib.hid (bb H1.out hb); clear hb))
    all_goals go_ret
    all_goals exact ⟨ret_bool (by rw [HV.out]; simp), H2.out⟩
  | false =>
    go_enter Tryz.func84, Tryz.ntmps84
    go_wp2_with (go_at_call 142; refine (R.out _ (B2 _ _ _)).mono ?_; rintro e w1 ⟨rfl, nn, rfl⟩)
    all_goals go_ret
    all_goals exact ⟨ret_bool (by rw [HV.out]; simp), bdrew (B2 _ _ _)⟩
end Go.Proofs.YtlbjmkljmhfjdaaGreat
namespace Go.Proofs.YtlbjmkljmhfjdaaGreat
open Go Go.Proofs Go.RowKit Go.Lib Go.Maps
theorem marksR_at {i : Nat} (h : i < 12) : (marksR 12).getD i Rl.zero = mkR i := by simp [marksR, h]
theorem marksN_at {i : Nat} (h : i < 12) : (marksN 12).getD i Nd.zero = lmkN i := by simp [marksN, h]
theorem xgetD_left {α : Type} {a b : List α} {z : α} {k : Nat} (h : k < a.length) : (a ++ b).getD k z = a.getD k z := by
  rw [List.getD, List.getD, List.getElem?_append_left h]
theorem xgetD_right {α : Type} {a b : List α} {z : α} {k : Nat} (h : a.length ≤ k) : (a ++ b).getD k z = b.getD (k - a.length) z := by
  rw [List.getD, List.getD, List.getElem?_append_right h]
set_option maxRecDepth 100000 in
set_option maxHeartbeats 8000000 in
theorem keptRules_any (A' A : Option Addr) (c' c m : Nat) (l : List Rl) (em : m = l.length) (hl : m ≤ 100000) (hc : m + 12 ≤ c') (w : World) (hA' : Rules w A' (l ++ marksR 12)) (hA : Rules w A l) :
    Calls Tryz.prog 108 #[.slice A' m c', .slice A m c] w fun e w' => e = .returned (.bool true) ∧ Below w.heap.size w w' := by
  have C1 := Lib.hid (fun W (eg : Below w.heap.size w W) k (hk : k < m) => (hA'.below eg).two (i := k) (by rw [len_rules]; omega))
  have C2 := Lib.hid (fun W (eg : Below w.heap.size w W) k (hk : k < m + 12) => (hA'.below eg).two (i := k) (by rw [len_rules]; omega))
  have C3 := Lib.hid (fun W (eg : Below w.heap.size w W) k (hk : k < m) => (hA.below eg).two (i := k) (by omega))
  have G1 := Lib.hid (fun k (hk : k < m) => xgetD_left (b := marksR 12) (z := Rl.zero) (show k < l.length by omega))
  have G2 := Lib.hid (fun k (hk : m ≤ k) (hk2 : k < m + 12) => (xgetD_right (b := marksR 12) (z := Rl.zero) (show l.length ≤ k by omega)).trans (marksR_at (by omega)))
  have EM := Lib.hid em
  obtain ⟨b, o, rfl, _, _⟩ := hA' (by rw [len_rules]; omega)
  have MK := Lib.hid (fun i (hi : i < 12) w' => markRule_any i hi w')
  have hw12 : IntKind.i64.wrap ((m : Int) + 12) = (m : Int) + 12 := IntWalk.i64_in _ (by omega)
  have hci : (m : Int) + 12 ≤ c' := by omega
  have h012 : (0 : Int) ≤ (m : Int) + 12 := by omega
  have htn : ((m : Int) + 12).toNat = m + 12 := by omega
  clear hA' hA em
  go_enter Tryz.func108, Tryz.ntmps108
  go_wp2_with fail
  go_loopw [6] (fun iv wr => ∃ k : Nat, k ≤ m + 12 ∧ iv = .int .i64 k ∧ Below w.heap.size w wr) (fun iv _ => m + 12 - (RowKit.intOf iv).toNat)
  case atStart => exact ⟨0, by omega, rfl, Below.refl _ _⟩
  case round =>
    obtain ⟨k, hk, rfl, hb⟩ := hrel
    have HB := Lib.hid hb
    by_cases hlt : k < m + 12
    · have hlt2 : (k : Int) < (m : Int) + 12 := by omega
      have hlt3 : (k : Int) < ((m + 12 : Nat) : Int) := by omega
      by_cases hkm : k < m
      · have hkm2 : (k : Int) < m := by omega
        have hkm3 : (m ≤ k) = False := by simp; omega
        obtain ⟨b1, o1, e1, _, h1, h2⟩ := C1.out wr hb k hkm
        cases e1
        obtain ⟨b2, o2, rfl, _, h3, h4⟩ := C3.out wr hb k hkm
        rw [G1.out k hkm] at h1 h2
        generalize l.getD k Rl.zero = x at *
        generalize x.name = xn at *
        generalize x.body = xb at *
        have EQ : ∀ w', (Op.equalIn 10000 124 (.agg #[.string xn, .int .i64 xb]) (.agg #[.string xn, .int .i64 xb])).run Tryz.prog w' = .ok true w' := fun w' => by rw [eqRule]; simp
        have f1 := fun (e : Ext wr) => Ext.cell h1 e
        have f2 := fun (e : Ext wr) => Ext.cell h2 e
        have f3 := fun (e : Ext wr) => Ext.cell h3 e
        have f4 := fun (e : Ext wr) => Ext.cell h4 e
        clear hb h1 h2 h3 h4 x
        go_wp2_with fail
        refine wp_region_ext (by kernel_rfl) (by kernel_rfl) ?_
        repeat (first | go_big_quiet_step (fail) | quiet_step (fail))
        refine wpQuiet_nil ?_
        intro w13 hw'
        obtain ⟨⟨_, hb13⟩, rfl⟩ := hw'
        have HB1 := Lib.hid (HB.out.trans (hb13.mono HB.out.size))
        clear hb13 f1 f2 f3 f4
        go_wp2_with fail
        go_roundw
        case rel => exact ⟨k + 1, by omega, by go_num, HB1.out⟩
        case measure => simp [RowKit.intOf]; omega
      · have hkm2 : ¬ (k : Int) < m := by omega
        have hkm3 : (m ≤ k) = True := by simp; omega
        have hkm4 : (k < m) = False := by simp; omega
        obtain ⟨b1, o1, e1, _, h1, h2⟩ := C2.out wr hb k hlt
        cases e1
        rw [G2.out k (by omega) hlt] at h1 h2
        obtain ⟨i, ei⟩ : ∃ i, i = k - m := ⟨_, rfl⟩
        rw [← EM.out, ← ei] at h1 h2
        have hsub : IntKind.i64.wrap ((k : Int) - m) = (i : Int) := by rw [IntWalk.i64_in _ (by omega)]; omega
        have M1 := Lib.hid (fun W => MK.out i (by omega) W)
        simp only [mkR] at h1 h2
        generalize mrk 1 i = x at *
        have EQ : ∀ w', (Op.equalIn 10000 124 (.agg #[.string ByteArray.empty, .int .i64 x]) (.agg #[.string ByteArray.empty, .int .i64 x])).run Tryz.prog w' = .ok true w' := fun w' => by rw [eqRule]; simp
        have f1 := fun (e : Ext wr) => Ext.cell h1 e
        have f2 := fun (e : Ext wr) => Ext.cell h2 e
        clear hb h1 h2 ei
        go_wp2_with fail
        refine wp_region_ext (by kernel_rfl) (by kernel_rfl) ?_
        repeat (first | go_big_quiet_step (first | (go_at_call 148; with_reducible exact Calls.ext_of (M1.out _))) | quiet_step (first | (go_at_call 148; with_reducible exact Calls.ext_of (M1.out _))))
        refine wpQuiet_nil ?_
        intro w13 hw'
        obtain ⟨⟨_, hb13⟩, rfl⟩ := hw'
        have HB1 := Lib.hid (HB.out.trans (hb13.mono HB.out.size))
        clear hb13 f1 f2
        go_wp2_with fail
        go_roundw
        case rel => exact ⟨k + 1, by omega, by go_num, HB1.out⟩
        case measure => simp [RowKit.intOf]; omega
    · obtain rfl : k = m + 12 := by omega
      have hlt2 : ¬ ((m + 12 : Nat) : Int) < (m : Int) + 12 := by omega
      clear hb
      go_wp2_with fail
      go_ret
      exact ⟨rfl, HB.out⟩
end Go.Proofs.YtlbjmkljmhfjdaaGreat
namespace Go.Proofs.YtlbjmkljmhfjdaaGreat
open Go Go.Proofs Go.RowKit Go.Lib Go.Maps
theorem twin_same {x y : Nd} (t : Twin y x) : sameNd x y = true := by
  obtain ⟨A, c, rfl⟩ := t
  simp [sameNd]
theorem same_self (x : Nd) : sameNd x x = true := by simp [sameNd]
theorem empty_at (w : World) : Nd.At w Nd.zero := ⟨fun h => by simp [Nd.zero, ints] at h, fun _ => rfl, by simp [Nd.zero]⟩
theorem lmkN_at (w : World) (i : Nat) : Nd.At w (lmkN i) := ⟨fun h => by simp [lmkN, Nd.zero, ints] at h, fun _ => rfl, by simp [lmkN, Nd.zero]⟩
/-- What is wanted of a lent node. -/
structure LAt (w : World) (x y : Nd) : Prop where
  twin : Twin y x
  kids : Lies w x.A (ints x.kids ++ marks 12)
  cap : x.kids.length + 12 ≤ x.cap
theorem LAt.below {w w' : World} {x y : Nd} (h : LAt w x y) (hb : Below w.heap.size w w') : LAt w' x y := ⟨h.twin, h.kids.below hb, h.cap⟩
theorem LAt.at_ {w : World} {x y : Nd} (h : LAt w x y) (hy : Nd.At w y) : Nd.At w x := by
  refine ⟨h.kids.front, fun e => ?_, ?_⟩
  · obtain ⟨b, o, e2, _⟩ := h.kids (by rw [List.length_append, marks_len]; omega)
    rw [e] at e2; cases e2
  · obtain ⟨A, c, e⟩ := h.twin
    rw [e]; exact hy.2.2
set_option maxRecDepth 100000 in
set_option maxHeartbeats 8000000 in
theorem keptNode_any (x y : Nd) (hl : y.kids.length ≤ 100000) (w : World) (h : LAt w x y) (hy : Nd.At w y) :
    Calls Tryz.prog 158 #[x.val, y.val] w fun e w' => e = .returned (.bool true) ∧ Below w.heap.size w w' := by
  have S := Lib.hid (fun W (eg : Below w.heap.size w W) => show Calls Tryz.prog 159 #[x.val, y.val] W fun e w' => e = .returned (.bool true) ∧ Below W.heap.size W w' from by
    have := kitSame_any x y W ((h.at_ hy).below eg) (hy.below eg)
    rw [twin_same h.twin] at this
    exact this)
  have ek : x.kids = y.kids := by obtain ⟨A, c, rfl⟩ := h.twin; rfl
  have K := Lib.hid (fun W (eg : Below w.heap.size w W) => show Calls Tryz.prog 126 #[.slice x.A x.kids.length x.cap, .slice y.A y.kids.length y.cap] W fun e w' => e = .returned (.bool true) ∧ Below W.heap.size W w' from by
    have hc := h.cap
    have h1 := h.kids.below eg
    rw [ek] at hc h1 ⊢
    exact keptints_any x.A y.A x.cap y.cap y.kids.length y.kids rfl hl hc W h1 (hy.below eg).1)
  clear ek h hl hy
  go_enter Tryz.func158, Tryz.ntmps158
  go_wp2_with (first | (go_at_call 159; (with_reducible refine (S.out _ (B2 _ _ _)).mono ?_); rintro e w1 ⟨rfl, hb1⟩; have H1 := Lib.hid (bb (B2 w _ _) hb1); have KB1 := Lib.hid (((Blk.new w _ _).alloc _).below' hb1); have KR1 := Lib.hid (by have := (Blk.new (w.alloc _) _ _).below' hb1; rw [World.size_alloc] at this; exact this); have d8 := KB1.out.cell 8; have e8 := KR1.out.cell 8; simp only [List.getElem?_toArray, List.getElem?_cons_zero, List.getElem?_cons_succ] at d8 e8; clear hb1) | (go_at_call 126; (with_reducible refine (K.out _ H1.out).mono ?_); rintro e w2 ⟨rfl, hb2⟩; have H2 := Lib.hid (bb H1.out hb2); clear hb2))
  go_ret
  exact ⟨rfl, H2.out⟩
set_option maxRecDepth 100000 in
set_option maxHeartbeats 8000000 in
theorem keptNodes_any (A' A : Option Addr) (c' c m : Nat) (cl l : List Nd) (em : m = l.length) (ec : cl.length = l.length) (hl : m ≤ 100000) (hc : m + 12 ≤ c') (w : World) (hA' : Nodes w A' (cl ++ marksN 12)) (hA : Nodes w A l)
    (hk : ∀ j, j < l.length → LAt w (cl.getD j Nd.zero) (l.getD j Nd.zero)) (hy : ∀ x ∈ l, Nd.At w x ∧ x.kids.length ≤ 100000) :
    Calls Tryz.prog 109 #[.slice A' m c', .slice A m c] w fun e w' => e = .returned (.bool true) ∧ Below w.heap.size w w' := by
  have C1 := Lib.hid (fun W (eg : Below w.heap.size w W) k (hk : k < m + 12) => (hA'.below eg).nine (i := k) (by rw [len_nodes]; omega))
  have C3 := Lib.hid (fun W (eg : Below w.heap.size w W) k (hk : k < m) => (hA.below eg).nine (i := k) (by omega))
  have G1 := Lib.hid (fun k (hk : k < m) => xgetD_left (b := marksN 12) (z := Nd.zero) (show k < cl.length by omega))
  have G2 := Lib.hid (fun k (hk : m ≤ k) (hk2 : k < m + 12) => (xgetD_right (b := marksN 12) (z := Nd.zero) (show cl.length ≤ k by omega)).trans (marksN_at (by omega)))
  have KN := Lib.hid (fun W (eg : Below w.heap.size w W) k (hk' : k < m) => show Calls Tryz.prog 158 #[(cl.getD k Nd.zero).val, (l.getD k Nd.zero).val] W fun e w' => e = .returned (.bool true) ∧ Below W.heap.size W w' from keptNode_any _ _ (hy _ (getD_mem (by omega))).2 W ((hk k (by omega)).below eg) ((hy _ (getD_mem (by omega))).1.below eg))
  have EM := Lib.hid (ec.trans em.symm)
  obtain ⟨b, o, rfl, _, _⟩ := hA' (by rw [len_nodes]; omega)
  have MK := Lib.hid (fun i (hi : i < 12) w' => markNode_any i hi w')
  have SM := Lib.hid (fun i W => show Calls Tryz.prog 159 #[(lmkN i).val, (lmkN i).val] W fun e w' => e = .returned (.bool true) ∧ Below W.heap.size W w' from by
    have := kitSame_any (lmkN i) (lmkN i) W (lmkN_at W i) (lmkN_at W i)
    rw [same_self] at this
    exact this)
  have hw12 : IntKind.i64.wrap ((m : Int) + 12) = (m : Int) + 12 := IntWalk.i64_in _ (by omega)
  have hci : (m : Int) + 12 ≤ c' := by omega
  have h012 : (0 : Int) ≤ (m : Int) + 12 := by omega
  have htn : ((m : Int) + 12).toNat = m + 12 := by omega
  clear hA' hA em hk hy ec
  go_enter Tryz.func109, Tryz.ntmps109
  go_wp2_with fail
  go_loopw [6] (fun iv wr => ∃ k : Nat, k ≤ m + 12 ∧ iv = .int .i64 k ∧ Below w.heap.size w wr) (fun iv _ => m + 12 - (RowKit.intOf iv).toNat)
  case atStart => exact ⟨0, by omega, rfl, Below.refl _ _⟩
  case round =>
    obtain ⟨k, hk, rfl, hb⟩ := hrel
    have HB := Lib.hid hb
    by_cases hlt : k < m + 12
    · have hlt2 : (k : Int) < (m : Int) + 12 := by omega
      have hlt3 : (k : Int) < ((m + 12 : Nat) : Int) := by omega
      obtain ⟨b1, o1, e1, _, c1, c2, c3, c4, c5, c6, c7, c8, c9⟩ := C1.out wr hb k hlt
      cases e1
      by_cases hkm : k < m
      · have hkm2 : (k : Int) < m := by omega
        have hkm3 : (m ≤ k) = False := by simp; omega
        obtain ⟨b2, o2, rfl, _, c10, c11, c12, c13, c14, c15, c16, c17, c18⟩ := C3.out wr hb k hkm
        rw [G1.out k hkm] at c1 c2 c3 c4 c5 c6 c7 c8 c9
        have T := Lib.hid (fun W (eg : Below wr.heap.size wr W) => KN.out W (bb hb eg) k hkm)
        generalize l.getD k Nd.zero = y at *
        generalize cl.getD k Nd.zero = x at *
        have d1 := fun (e : Ext wr) => Ext.cell c1 e
        have d2 := fun (e : Ext wr) => Ext.cell c2 e
        have d3 := fun (e : Ext wr) => Ext.cell c3 e
        have d4 := fun (e : Ext wr) => Ext.cell c4 e
        have d5 := fun (e : Ext wr) => Ext.cell c5 e
        have d6 := fun (e : Ext wr) => Ext.cell c6 e
        have d7 := fun (e : Ext wr) => Ext.cell c7 e
        have d8 := fun (e : Ext wr) => Ext.cell c8 e
        have d9 := fun (e : Ext wr) => Ext.cell c9 e
        have d10 := fun (e : Ext wr) => Ext.cell c10 e
        have d11 := fun (e : Ext wr) => Ext.cell c11 e
        have d12 := fun (e : Ext wr) => Ext.cell c12 e
        have d13 := fun (e : Ext wr) => Ext.cell c13 e
        have d14 := fun (e : Ext wr) => Ext.cell c14 e
        have d15 := fun (e : Ext wr) => Ext.cell c15 e
        have d16 := fun (e : Ext wr) => Ext.cell c16 e
        have d17 := fun (e : Ext wr) => Ext.cell c17 e
        have d18 := fun (e : Ext wr) => Ext.cell c18 e
        clear hb c1 c2 c3 c4 c5 c6 c7 c8 c9 c10 c11 c12 c13 c14 c15 c16 c17 c18
        go_wp2_with fail
        refine wp_region_ext (by kernel_rfl) (by kernel_rfl) ?_
        repeat (first | go_big_quiet_step ((go_at_call 158; exact Calls.ext_of (T.out _ (Ext.grown _)))) | quiet_step ((go_at_call 158; exact Calls.ext_of (T.out _ (Ext.grown _)))))
        refine wpQuiet_nil ?_
        intro w13 hw'
        obtain ⟨⟨_, hb13⟩, rfl⟩ := hw'
        have HB1 := Lib.hid (HB.out.trans (hb13.mono HB.out.size))
        clear hb13 d1 d2 d3 d4 d5 d6 d7 d8 d9 d10 d11 d12 d13 d14 d15 d16 d17 d18
        go_wp2_with fail
        go_roundw
        case rel => exact ⟨k + 1, by omega, by go_num, HB1.out⟩
        case measure => simp [RowKit.intOf]; omega
      · have hkm2 : ¬ (k : Int) < m := by omega
        have hkm3 : (m ≤ k) = True := by simp; omega
        have hkm4 : (k < m) = False := by simp; omega
        rw [G2.out k (by omega) hlt] at c1 c2 c3 c4 c5 c6 c7 c8 c9
        obtain ⟨i, ei⟩ : ∃ i, i = k - m := ⟨_, rfl⟩
        rw [EM.out, ← ei] at c1 c2 c3 c4 c5 c6 c7 c8 c9
        have hsub : IntKind.i64.wrap ((k : Int) - m) = (i : Int) := by rw [IntWalk.i64_in _ (by omega)]; omega
        have M1 := Lib.hid (fun W => MK.out i (by omega) W)
        have S1 := Lib.hid (SM.out i)
        generalize lmkN i = x at *
        have d1 := fun (e : Ext wr) => Ext.cell c1 e
        have d2 := fun (e : Ext wr) => Ext.cell c2 e
        have d3 := fun (e : Ext wr) => Ext.cell c3 e
        have d4 := fun (e : Ext wr) => Ext.cell c4 e
        have d5 := fun (e : Ext wr) => Ext.cell c5 e
        have d6 := fun (e : Ext wr) => Ext.cell c6 e
        have d7 := fun (e : Ext wr) => Ext.cell c7 e
        have d8 := fun (e : Ext wr) => Ext.cell c8 e
        have d9 := fun (e : Ext wr) => Ext.cell c9 e
        clear hb c1 c2 c3 c4 c5 c6 c7 c8 c9 ei
        go_wp2_with fail
        refine wp_region_ext (by kernel_rfl) (by kernel_rfl) ?_
        repeat (first | go_big_quiet_step (first | (go_at_call 150; with_reducible exact Calls.ext_of (M1.out _)) | (go_at_call 159; exact Calls.ext_of (S1.out _))) | quiet_step (first | (go_at_call 150; with_reducible exact Calls.ext_of (M1.out _)) | (go_at_call 159; exact Calls.ext_of (S1.out _))))
        refine wpQuiet_nil ?_
        intro w13 hw'
        obtain ⟨⟨_, hb13⟩, rfl⟩ := hw'
        have HB1 := Lib.hid (HB.out.trans (hb13.mono HB.out.size))
        clear hb13 d1 d2 d3 d4 d5 d6 d7 d8 d9
        go_wp2_with fail
        go_roundw
        case rel => exact ⟨k + 1, by omega, by go_num, HB1.out⟩
        case measure => simp [RowKit.intOf]; omega
    · obtain rfl : k = m + 12 := by omega
      have hlt2 : ¬ ((m + 12 : Nat) : Int) < (m : Int) + 12 := by omega
      clear hb
      go_wp2_with fail
      go_ret
      exact ⟨rfl, HB.out⟩
end Go.Proofs.YtlbjmkljmhfjdaaGreat
namespace Go.Proofs.YtlbjmkljmhfjdaaGreat
open Go Go.Proofs Go.RowKit Go.Lib Go.Maps
theorem twin_gram {g h : Gr} (t : GTwin g h) : sameGr h g = true := by
  unfold sameGr
  rw [rowSame_true (by rw [t.rules]) (fun i _ => by rw [t.rules]; simp [sameRl]), rowSame_true t.len (fun i hi => by
    rw [t.len] at hi
    obtain ⟨A, c, e⟩ := t.node i hi
    rw [e]
    simp [sameNd])]
  rfl
set_option maxRecDepth 100000 in
set_option maxHeartbeats 8000000 in
theorem keptGram_any (g h : Gr) (B : Nat) (w : World) (f : LGr w B g h) (hg : Gr.At w g) (h1 : g.rules.length ≤ 100000) (h2 : g.nodes.length ≤ 100000) (h3 : ∀ x ∈ g.nodes, x.kids.length ≤ 100000) :
    Calls Tryz.prog 33 #[h.val, g.val] w fun e w' => e = .returned (.bool true) ∧ Below w.heap.size w w' := by
  have S := Lib.hid (fun W (eg : Below w.heap.size w W) => show Calls Tryz.prog 84 #[h.val, g.val] W fun e w' => e = .returned (.bool true) ∧ Below W.heap.size W w' from by
    have := kitGram_any h g W (LGr.lies (f.below eg) hg) (hg.below eg)
    rw [twin_gram f.twin] at this
    exact this)
  have er : h.rules.length = g.rules.length := by rw [f.rules]
  have en : h.nodes.length = g.nodes.length := f.nodes.len
  have KR := Lib.hid (fun W (eg : Below w.heap.size w W) => show Calls Tryz.prog 108 #[.slice h.RA h.rules.length h.rc, .slice g.RA g.rules.length g.rc] W fun e w' => e = .returned (.bool true) ∧ Below W.heap.size W w' from by
    have hx := (f.below eg).rulesX
    have hc := (own_room2 f.rrow (by omega)).2
    rw [er] at hc ⊢
    rw [f.rules] at hx
    exact keptRules_any h.RA g.RA h.rc g.rc g.rules.length g.rules rfl h1 hc W hx (hg.below eg).rules)
  have KN := Lib.hid (fun W (eg : Below w.heap.size w W) => show Calls Tryz.prog 109 #[.slice h.NA h.nodes.length h.nc, .slice g.NA g.nodes.length g.nc] W fun e w' => e = .returned (.bool true) ∧ Below W.heap.size W w' from by
    have hx := (f.below eg).nodesX
    have hc := (own_room2 f.nodes.row (by omega)).2
    rw [en] at hc ⊢
    exact keptNodes_any h.NA g.NA h.nc g.nc g.nodes.length h.nodes g.nodes rfl en h2 hc W hx (hg.below eg).nodes (fun j hj => ⟨f.nodes.twin j hj, (f.below eg).kidsX _ (getD_mem (by rw [en]; exact hj)), (own_room2 ((f.below eg).nodes.kids _ (getD_mem (by rw [en]; exact hj))) (by omega)).2⟩) (fun x hx => ⟨(hg.below eg).kids x hx, h3 x hx⟩))
  clear f hg h1 h2 h3 er en
  go_enter Tryz.func33, Tryz.ntmps33
  go_wp2_with (first | (go_at_call 84; (with_reducible refine (S.out _ (B2 _ _ _)).mono ?_); rintro e w1 ⟨rfl, hb1⟩; have H1 := Lib.hid (bb (B2 w _ _) hb1); have KB1 := Lib.hid (((Blk.new w _ _).alloc _).below' hb1); have KR1 := Lib.hid (by have := (Blk.new (w.alloc _) _ _).below' hb1; rw [World.size_alloc] at this; exact this); have d0 := KB1.out.cell 0; have d1 := KB1.out.cell 1; have e0 := KR1.out.cell 0; have e1 := KR1.out.cell 1; simp only [List.getElem?_toArray, List.getElem?_cons_zero, List.getElem?_cons_succ] at d0 d1 e0 e1; clear hb1) | (go_at_call 108; (with_reducible refine (KR.out _ H1.out).mono ?_); rintro e w2 ⟨rfl, hb2⟩; have H2 := Lib.hid (bb H1.out hb2); have KB2 := Lib.hid (KB1.out.below' hb2); have KR2 := Lib.hid (KR1.out.below' hb2); have d10 := KB2.out.cell 0; have d11 := KB2.out.cell 1; have e10 := KR2.out.cell 0; have e11 := KR2.out.cell 1; simp only [List.getElem?_toArray, List.getElem?_cons_zero, List.getElem?_cons_succ] at d10 d11 e10 e11; clear hb2) | (go_at_call 109; (with_reducible refine (KN.out _ H2.out).mono ?_); rintro e w3 ⟨rfl, hb3⟩; have H3 := Lib.hid (bb H2.out hb3); clear hb3))
  go_ret
  exact ⟨rfl, H3.out⟩
end Go.Proofs.YtlbjmkljmhfjdaaGreat

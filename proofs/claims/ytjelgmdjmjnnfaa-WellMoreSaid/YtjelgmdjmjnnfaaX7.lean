/- The kit's comparing of numbers, nodes. -/
import Derived.Test.YtjelgmdjmjnnfaaC3
import Derived.Test.YtjelgmdjmjnnfaaX6
import Derived.Test.YtjelgmdjmjnnfaaA1
import Derived.Test.YtjelgmdjmjnnfaaB7
import Derived.Deep.CutRange
set_option linter.unusedSimpArgs false
set_option linter.unusedVariables false
namespace Go.Proofs.Ytjelgmdjmjnnfaa
open Go Go.RowKit
@[go_sem] theorem eqClass (a b c d a' b' c' d' : Int) (w : World) : (Op.equalIn 10000 39 (.agg #[.int .u64 a, .int .u64 b, .int .u64 c, .int .u64 d]) (.agg #[.int .u64 a', .int .u64 b', .int .u64 c', .int .u64 d'])).run Try.prog w = .ok (a == a' && b == b' && c == c' && d == d') w := by
  have u3 := Try.underlying37
  have a3 := Try.isAgg37
  have z3 := Try.sizeOf37
  rw [show (10000 : Nat) = 9999 + 1 from rfl, Op.equalIn]
  simp only [Sem.run_bind, run_underlying Try.underlying39, Result.andThen_ok]
  simp only [Std.Legacy.Range.forIn_eq_forIn_range', Std.Legacy.Range.size, Nat.sub_zero, Nat.add_sub_cancel, Nat.div_one, List.range'_succ, List.range'_zero, List.forIn_cons, List.forIn_nil]
  go_simp
  by_cases h1 : a = a' <;> by_cases h2 : b = b' <;> by_cases h3 : c = c' <;> by_cases h4 : d = d' <;> simp [h1, h2, h3, h4]
theorem eqRule (a b : ByteArray) (c d : Int) (w : World) : (Op.equalIn 10000 47 (.agg #[.string a, .int .i64 c]) (.agg #[.string b, .int .i64 d])).run Try.prog w = .ok (decide (a.toList = b.toList) && c == d) w := by
  have u3 := Try.underlying3
  have a3 := Try.isAgg3
  have z3 := Try.sizeOf3
  have u9 := Try.underlying9
  have a9 := Try.isAgg9
  have z9 := Try.sizeOf9
  rw [show (10000 : Nat) = 9999 + 1 from rfl, Op.equalIn]
  simp only [Sem.run_bind, run_underlying Try.underlying47, Result.andThen_ok]
  go_simp
  by_cases h1 : a.toList = b.toList <;> by_cases h2 : c = d <;> simp [h1, h2]
set_option maxHeartbeats 1000000 in
theorem kitSame_any (x y : Nd) (w : World) (hx : Nd.At w x) (hy : Nd.At w y) : Calls Try.prog 61 #[x.val, y.val] w fun e w' => e = .returned (.bool (sameNd x y)) ∧ Below w.heap.size w w' := by
  have R := Lib.hid (fun (w' : World) (h : Below w.heap.size w w') => ints_same x.A y.A x.cap y.cap x.kids y.kids hx.2.2 hy.2.2 w' (hx.below h).1 (hy.below h).1)
  clear hx hy
  go_enter Try.func61, Try.ntmps61
  go_wp2_with (go_at_call 12; refine (R.out _ (B2 _ _ _)).mono ?_; rintro e w1 ⟨rfl, n, rfl⟩)
  all_goals go_ret
  all_goals refine ⟨ret_bool ?_, by first | exact B2 _ _ _ | exact bdrew (B2 _ _ _)⟩
  all_goals (unfold sameNd; rw [Bool.eq_iff_iff]; simp only [tl_inj, beq_iff_eq, Bool.and_eq_true, decide_eq_true_eq, Bool.false_eq_true] at *; simp_all)

set_option maxHeartbeats 2000000 in
theorem kitRules_any (A B : Option Addr) (c d : Nat) (a b : List Rl) (ha : a.length ≤ 140737488351232) (hb : b.length ≤ 140737488351232) (w : World) (hA : Rules w A a) (hB : Rules w B b) :
    Calls Try.prog 35 #[.slice A a.length c, .slice B b.length d] w fun e w' => e = .returned (.bool (rowSame Rl.zero sameRl a b)) ∧ ∃ n, w' = w.drewN n := by
  have HA := Lib.hid hA
  have HB := Lib.hid hB
  clear hA hB
  by_cases hl : a.length = b.length
  · have HL := Lib.hid hl
    have RT := Lib.hid (rowSame_true (z := Rl.zero) (f := sameRl) (a := a) (b := b))
    have RF := Lib.hid (rowSame_false (z := Rl.zero) (f := sameRl) (a := a) (b := b))
    obtain ⟨v, ev⟩ : ∃ v, v = rowSame Rl.zero sameRl a b := ⟨_, rfl⟩
    rw [← ev] at RT RF ⊢
    clear ev
    obtain ⟨m, em⟩ : ∃ m, m = b.length := ⟨_, rfl⟩
    rw [← em] at hl hb ⊢
    rw [hl] at ha ⊢
    have EM := Lib.hid em
    clear em hl
    go_enter Try.func35, Try.ntmps35
    go_wp2_with fail
    go_loopw [5] (fun i wr => ∃ (k n : Nat), k ≤ m ∧ i = .int .i64 k ∧ (∀ j, j < k → sameRl (a.getD j Rl.zero) (b.getD j Rl.zero) = true) ∧ wr = w.drewN n) (fun i _ => m - (intOf i).toNat)
    case atStart => exact ⟨0, 0, by omega, rfl, fun j h => by omega, rfl⟩
    case round =>
      obtain ⟨k, n, hk, rfl, ht, rfl⟩ := hrel
      have HT := Lib.hid ht
      clear ht
      by_cases hlt : k < m
      · have hlt2 : (k : Int) < m := by omega
        obtain ⟨b1, o1, rfl, _, c1, c2⟩ := HA.out.two (show k < a.length by have := HL.out; have := EM.out; omega)
        obtain ⟨b2, o2, rfl, _, c3, c4⟩ := HB.out.two (show k < b.length by have := EM.out; omega)
        generalize hx : a.getD k Rl.zero = x at *
        generalize hy : b.getD k Rl.zero = y at *
        have HX := Lib.hid hx
        have HY := Lib.hid hy
        clear hx hy
        obtain ⟨sv, es⟩ : ∃ sv, sv = sameRl x y := ⟨_, rfl⟩
        have q1 : (decide (x.name.toList = y.name.toList) && x.body == y.body) = sv := by rw [es, Bool.eq_iff_iff]; simp [sameRl, tl_inj]
        have ES := Lib.hid es
        have EQ : ∀ w', (Op.equalIn 10000 47 (.agg #[.string x.name, .int .i64 x.body]) (.agg #[.string y.name, .int .i64 y.body])).run Try.prog w' = .ok sv w' := fun w' => by rw [eqRule, q1]
        clear es q1
        generalize x.name = xn at *
        generalize y.name = yn at *
        generalize x.body = xb at *
        generalize y.body = yb at *
        cases sv with
        | true =>
          go_wp2_with fail
          go_quiet (fail)
          go_wp2_with fail
          go_roundw
          case rel => exact ⟨k + 1, n + nq, by omega, by go_num, fun j hj => by
              by_cases e : j = k
              · subst e; rw [HX.out, HY.out]; exact ES.out.symm
              · exact HT.out j (by omega), by first | rfl | exact World.drewN_drewN _ _ _⟩
          case measure => simp [intOf]; omega
        | false =>
          go_wp2_with fail
          go_quiet (fail)
          go_wp2_with fail
          go_ret
          exact ⟨ret_bool (RF.out k (by have := HL.out; have := EM.out; omega) (by rw [HX.out, HY.out]; exact ES.out.symm)).symm, n + nq, by first | rfl | exact World.drewN_drewN _ _ _⟩
      · obtain rfl : k = m := by omega
        have hlt2 : ¬ (k : Int) < k := by omega
        go_wp2_with fail
        go_ret
        exact ⟨ret_bool (RT.out HL.out (fun i hi => HT.out i (by have := HL.out; have := EM.out; omega))).symm, n, rfl⟩
  · have hne : ¬ (a.length : Int) = b.length := by omega
    rw [rowSame_len hl]
    clear hl
    go_enter Try.func35, Try.ntmps35
    go_wp2_with fail
    go_ret
    exact ⟨rfl, 0, rfl⟩
set_option maxRecDepth 100000 in
set_option maxHeartbeats 2000000 in
theorem kitNodes_any (A B : Option Addr) (c d : Nat) (a b : List Nd) (ha : a.length ≤ 140737488351232) (hb : b.length ≤ 140737488351232) (w : World) (hA : Nodes w A a) (hB : Nodes w B b) (hxa : ∀ x ∈ a, Nd.At w x) (hxb : ∀ x ∈ b, Nd.At w x) :
    Calls Try.prog 36 #[.slice A a.length c, .slice B b.length d] w fun e w' => e = .returned (.bool (rowSame Nd.zero sameNd a b)) ∧ Below w.heap.size w w' := by
  have HA := Lib.hid hA
  have HB := Lib.hid hB
  have XA := Lib.hid hxa
  have XB := Lib.hid hxb
  clear hxa hxb
  clear hA hB
  by_cases hl : a.length = b.length
  · have HL := Lib.hid hl
    have RT := Lib.hid (rowSame_true (z := Nd.zero) (f := sameNd) (a := a) (b := b))
    have RF := Lib.hid (rowSame_false (z := Nd.zero) (f := sameNd) (a := a) (b := b))
    obtain ⟨v, ev⟩ : ∃ v, v = rowSame Nd.zero sameNd a b := ⟨_, rfl⟩
    rw [← ev] at RT RF ⊢
    clear ev
    obtain ⟨m, em⟩ : ∃ m, m = b.length := ⟨_, rfl⟩
    rw [← em] at hl hb ⊢
    rw [hl] at ha ⊢
    have EM := Lib.hid em
    clear em hl
    go_enter Try.func36, Try.ntmps36
    go_wp2_with fail
    go_loopw [5] (fun i wr => ∃ (k : Nat), k ≤ m ∧ i = .int .i64 k ∧ (∀ j, j < k → sameNd (a.getD j Nd.zero) (b.getD j Nd.zero) = true) ∧ Below w.heap.size w wr) (fun i _ => m - (intOf i).toNat)
    case atStart => exact ⟨0, by omega, rfl, fun j h => by omega, Below.refl _ _⟩
    case round =>
      obtain ⟨k, hk, rfl, ht, hbl⟩ := hrel
      have HT := Lib.hid ht
      have BL := Lib.hid hbl
      clear ht hbl
      by_cases hlt : k < m
      · have hlt2 : (k : Int) < m := by omega
        obtain ⟨b1, o1, rfl, _, c1, c2, c3, c4, c5, c6, c7, c8, c9⟩ := (HA.out.below BL.out).nine (show k < a.length by have := HL.out; have := EM.out; omega)
        obtain ⟨b2, o2, rfl, _, c10, c11, c12, c13, c14, c15, c16, c17, c18⟩ := (HB.out.below BL.out).nine (show k < b.length by have := EM.out; omega)
        have T := Lib.hid (fun (w' : World) (h : Below wr.heap.size wr w') => kitSame_any (a.getD k Nd.zero) (b.getD k Nd.zero) w' (((XA.out _ (by exact getD_mem (by have := HL.out; have := EM.out; omega))).below BL.out).below h) (((XB.out _ (by exact getD_mem (by have := EM.out; omega))).below BL.out).below h))
        have SV := Lib.hid (show sameNd (a.getD k Nd.zero) (b.getD k Nd.zero) = sameNd (a.getD k Nd.zero) (b.getD k Nd.zero) from rfl)
        generalize hx : a.getD k Nd.zero = x at *
        generalize hy : b.getD k Nd.zero = y at *
        have HX := Lib.hid hx
        have HY := Lib.hid hy
        clear hx hy
        have d1 := fun e => Ext.cell c1 e
        have d2 := fun e => Ext.cell c2 e
        have d3 := fun e => Ext.cell c3 e
        have d4 := fun e => Ext.cell c4 e
        have d5 := fun e => Ext.cell c5 e
        have d6 := fun e => Ext.cell c6 e
        have d7 := fun e => Ext.cell c7 e
        have d8 := fun e => Ext.cell c8 e
        have d9 := fun e => Ext.cell c9 e
        have d10 := fun e => Ext.cell c10 e
        have d11 := fun e => Ext.cell c11 e
        have d12 := fun e => Ext.cell c12 e
        have d13 := fun e => Ext.cell c13 e
        have d14 := fun e => Ext.cell c14 e
        have d15 := fun e => Ext.cell c15 e
        have d16 := fun e => Ext.cell c16 e
        have d17 := fun e => Ext.cell c17 e
        have d18 := fun e => Ext.cell c18 e
        clear c1 c2 c3 c4 c5 c6 c7 c8 c9 c10 c11 c12 c13 c14 c15 c16 c17 c18
        obtain ⟨sv, es⟩ : ∃ sv, sv = sameNd x y := ⟨_, rfl⟩
        rw [← es] at T
        have ES := Lib.hid es
        clear es SV
        cases sv with
        | true =>
          go_wp2_with fail
          refine wp_region_ext (by kernel_rfl) (by kernel_rfl) ?_
          repeat (first | go_big_quiet_step ((go_at_call 61; exact Calls.ext_of (T.out _ (Ext.grown _)))) | quiet_step ((go_at_call 61; exact Calls.ext_of (T.out _ (Ext.grown _)))))
          refine wpQuiet_nil ?_
          intro _ hw'
          obtain ⟨⟨w1, hb1⟩, rfl⟩ := hw'
          have B1' := Lib.hid (bb BL.out hb1)
          clear hb1 d1 d2 d3 d4 d5 d6 d7 d8 d9 d10 d11 d12 d13 d14 d15 d16 d17 d18 T
          go_wp2_with fail
          go_roundw
          case rel => exact ⟨k + 1, by omega, by go_num, fun j hj => by
              by_cases e : j = k
              · subst e; rw [HX.out, HY.out]; exact ES.out.symm
              · exact HT.out j (by omega), B1'.out⟩
          case measure => simp [intOf]; omega
        | false =>
          go_wp2_with fail
          refine wp_region_ext (by kernel_rfl) (by kernel_rfl) ?_
          repeat (first | go_big_quiet_step ((go_at_call 61; exact Calls.ext_of (T.out _ (Ext.grown _)))) | quiet_step ((go_at_call 61; exact Calls.ext_of (T.out _ (Ext.grown _)))))
          refine wpQuiet_nil ?_
          intro _ hw'
          obtain ⟨⟨w1, hb1⟩, rfl⟩ := hw'
          have B1' := Lib.hid (bb BL.out hb1)
          clear hb1 d1 d2 d3 d4 d5 d6 d7 d8 d9 d10 d11 d12 d13 d14 d15 d16 d17 d18 T
          go_wp2_with fail
          go_ret
          exact ⟨ret_bool (RF.out k (by have := HL.out; have := EM.out; omega) (by rw [HX.out, HY.out]; exact ES.out.symm)).symm, B1'.out⟩
      · obtain rfl : k = m := by omega
        have hlt2 : ¬ (k : Int) < k := by omega
        go_wp2_with fail
        go_ret
        exact ⟨ret_bool (RT.out HL.out (fun i hi => HT.out i (by have := HL.out; have := EM.out; omega))).symm, BL.out⟩
  · have hne : ¬ (a.length : Int) = b.length := by omega
    rw [rowSame_len hl]
    clear hl
    go_enter Try.func36, Try.ntmps36
    go_wp2_with fail
    go_ret
    exact ⟨rfl, Below.refl _ _⟩

set_option maxHeartbeats 1000000 in
theorem kitGram_any (g h : Gr) (w : World) (hg : Gr.At w g) (hh : Gr.At w h) : Calls Try.prog 14 #[g.val, h.val] w fun e w' => e = .returned (.bool (sameGr g h)) ∧ Below w.heap.size w w' := by
  have R := Lib.hid (fun (w' : World) (b : Below w.heap.size w w') => kitRules_any g.RA h.RA g.rc h.rc g.rules h.rules hg.rl hh.rl w' (hg.below b).rules (hh.below b).rules)
  have N := Lib.hid (fun (w' : World) (b : Below w.heap.size w w') => kitNodes_any g.NA h.NA g.nc h.nc g.nodes h.nodes hg.nl hh.nl w' (hg.below b).nodes (hh.below b).nodes (hg.below b).kids (hh.below b).kids)
  clear hg hh
  have HV := Lib.hid (show sameGr g h = (rowSame Rl.zero sameRl g.rules h.rules && rowSame Nd.zero sameNd g.nodes h.nodes) from rfl)
  obtain ⟨x, ex⟩ : ∃ x, x = rowSame Rl.zero sameRl g.rules h.rules := ⟨_, rfl⟩
  obtain ⟨y, ey⟩ : ∃ y, y = rowSame Nd.zero sameNd g.nodes h.nodes := ⟨_, rfl⟩
  rw [← ex] at R HV
  rw [← ey] at N HV
  clear ex ey
  cases x with
  | true =>
    go_enter Try.func14, Try.ntmps14
    go_wp2_with (first | (go_at_call 35; refine (R.out _ (B2 _ _ _)).mono ?_; rintro e w1 ⟨rfl, nn, rfl⟩; have H1 := Lib.hid (bdrew (n := nn) (B2 w (.cells #[.slice g.RA g.rules.length g.rc, .slice g.NA g.nodes.length g.nc] 25) (.cells #[.slice h.RA h.rules.length h.rc, .slice h.NA h.nodes.length h.nc] 25)))) | (go_at_call 36; refine (N.out _ H1.out).mono ?_; rintro e w2 ⟨rfl, hb⟩; have H2 := Lib.hid (bb H1.out hb); clear hb))
    all_goals go_ret
    all_goals exact ⟨ret_bool (by rw [HV.out]; simp), H2.out⟩
  | false =>
    go_enter Try.func14, Try.ntmps14
    go_wp2_with (go_at_call 35; refine (R.out _ (B2 _ _ _)).mono ?_; rintro e w1 ⟨rfl, nn, rfl⟩)
    all_goals go_ret
    all_goals exact ⟨ret_bool (by rw [HV.out]; simp), bdrew (B2 _ _ _)⟩
end Go.Proofs.Ytjelgmdjmjnnfaa
namespace Go.Proofs.Ytjelgmdjmjnnfaa
open Go Go.RowKit Go.Maps
theorem kid0_kz (x : Nd) : kid0 x.kz = kid0 x := rfl
theorem idleN_kz (g : Gr) (n : Nat) : idleN g.kz n = idleN g n := by
  unfold idleN
  rw [ranks_kz]
  show (repB ((g.nodes.map Nd.kz).getD n Nd.zero).kind && mayN (g.nodes.map Nd.kz) _ (kid0 ((g.nodes.map Nd.kz).getD n Nd.zero))) = _
  rw [kz_getD, mayN_kz]
  rfl
theorem idles_kz (g : Gr) : idles g.kz = idles g := by
  unfold idles
  show rowOf' (g.nodes.map Nd.kz).length _ = _
  rw [List.length_map, show idleN g.kz = idleN g from funext (idleN_kz g)]
theorem idleRow_kz (g : Gr) : idleRow g.kz = idleRow g := by
  unfold idleRow
  rw [rightB_kz, idles_kz]
theorem GTwin.kz {g h : Gr} (t : GTwin g h) : h.kz = g.kz := by
  unfold Gr.kz
  have : h.nodes.map Nd.kz = g.nodes.map Nd.kz := by
    refine List.ext_getElem (by simp [t.len]) fun i h1 h2 => ?_
    rw [List.getElem_map, List.getElem_map]
    have hi : i < g.nodes.length := by simpa using h2
    have hi2 : i < h.nodes.length := by rw [t.len]; exact hi
    obtain ⟨A, c, e⟩ := t.node i hi
    rw [List.getD_eq_getElem?_getD, List.getD_eq_getElem?_getD, List.getElem?_eq_getElem hi, List.getElem?_eq_getElem hi2] at e
    simp only [Option.getD_some] at e
    rw [e]
    rfl
  rw [this, t.rules]
theorem GTwin.idles {g h : Gr} (t : GTwin g h) : idles h = Go.Proofs.Ytjelgmdjmjnnfaa.idles g := by
  rw [← idles_kz h, t.kz, idles_kz]
theorem idles_mem {g : Gr} {n : Nat} : n ∈ idles g ↔ n < g.nodes.length ∧ idleN g n = true := rowOf_mem
theorem opts_kids {l : List Nd} {L : List Nat} (n : Nat) : kidsOf (opts l L) n = kidsOf l n := by
  unfold kidsOf
  by_cases h : n < l.length
  · rw [opts_at L l n h]
    split <;> rfl
  · rw [List.getD_eq_getElem?_getD, List.getD_eq_getElem?_getD, List.getElem?_eq_none (by rw [opts_len]; omega), List.getElem?_eq_none (by omega)]
theorem opt_ok {x : Nd} {r : Int} (h : nodeOk x r = true) (hk : repB x.kind = true) : nodeOk x.opt r = true := by
  rw [nodeOk_iff] at h ⊢
  have hk := repB_true.1 hk
  unfold NodeIs at h ⊢
  rcases h with h | h | h | h | h | h
  · exact absurd h.1 (by omega)
  · exact absurd h.1 (by omega)
  · exact absurd h.1 (by omega)
  · exact absurd h.1 (by omega)
  · exact absurd h.1 (by omega)
  · exact .inr (.inr (.inr (.inr (.inr ⟨.inr (.inr (.inl rfl)), h.2.1, h.2.2.1, h.2.2.2.1, h.2.2.2.2⟩))))
theorem idle_kind {g : Gr} {n : Nat} (h : idleN g n = true) : repB (g.nodes.getD n Nd.zero).kind = true ∧ mayN g.nodes (inB (ranks g)) (kid0 (g.nodes.getD n Nd.zero)) = true := by
  unfold idleN at h
  simpa using h
/-- The grammar that is meant. -/
noncomputable def mended (g : Gr) : Gr := g.opts (idles g)
theorem mended_len (g : Gr) : (mended g).nodes.length = g.nodes.length := opts_len _ _
theorem mended_at (g : Gr) (j : Nat) (hj : j < g.nodes.length) : (mended g).nodes.getD j Nd.zero = if j ∈ idles g then (g.nodes.getD j Nd.zero).opt else g.nodes.getD j Nd.zero := opts_at _ _ _ hj
theorem mended_kids (g : Gr) (n : Nat) : ((mended g).nodes.getD n Nd.zero).kids = (g.nodes.getD n Nd.zero).kids := opts_kids n
theorem mended_right {g : Gr} (hR : Right g) : Right (mended g) := by
  obtain ⟨ms, hm, hb⟩ := hR.pre
  refine ⟨hR.rules, by rw [mended_len]; exact hR.nodes, hR.named, fun i hi => ?_, ms, fun m h1 h2 => ?_, ?_⟩
  · rw [mended_len] at hi
    show nodeOk ((mended g).nodes.getD i Nd.zero) g.rules.length = true
    rw [mended_at g i hi]
    split
    · rename_i h
      exact opt_ok (hR.all i hi) (idle_kind (idles_mem.1 h).2).1
    · exact hR.all i hi
  · rw [mended_len] at h2
    have := hm m h1 h2
    rw [show kidsOf (mended g).nodes m = kidsOf g.nodes m from opts_kids m, mended_len]
    exact this
  · rw [mended_len]; exact hb
theorem mended_up {g : Gr} (hR : Right g) (inn : Int → Bool) : ∀ (d n : Nat), n < g.nodes.length → g.nodes.length - n ≤ d → mayN g.nodes inn n = true → mayN (mended g).nodes inn n = true
  | 0, n, hn, hd, _ => by omega
  | d + 1, n, hn, hd, hm => by
    rw [mayN_eq hR.kidsUp inn (n := n) (by omega) (by omega), Int.toNat_natCast] at hm
    rw [mayN_eq (mended_right hR).kidsUp inn (n := n) (by omega) (by rw [mended_len]; omega), Int.toNat_natCast, mended_at g n hn]
    split
    · unfold stepMay
      rw [if_pos (.inr (.inr (.inl rfl)))]
    · refine stepMay_mono (fun k hk hv => ?_) id hm
      have := hR.kidsUp n hn k hk
      obtain ⟨j, rfl⟩ : ∃ j : Nat, k = j := ⟨k.toNat, by omega⟩
      exact mended_up hR inn d j (by omega) (by omega) hv
/-- By the rules that come in at last the same nodes may. -/
theorem mended_may {g : Gr} (hR : Right g) (n : Int) (h0 : 0 ≤ n) (h1 : n < g.nodes.length) : mayN (mended g).nodes (inB (ranks g)) n = mayN g.nodes (inB (ranks g)) n := by
  symm
  refine mayN_unique (mended_right hR).kidsUp (inB (ranks g)) (mayN g.nodes (inB (ranks g))) (lo := 0) (by omega) (fun m a b => ?_) g.nodes.length n h0 (by rw [mended_len]; exact h1) (by rw [mended_len]; omega)
  rw [mended_len] at b
  rw [mayN_eq hR.kidsUp _ a b, mended_at g m.toNat (by omega)]
  split
  · rename_i h
    obtain ⟨h2, h3⟩ := idle_kind (idles_mem.1 h).2
    have hl := one_kid (hR.all m.toNat (by omega)) h2
    have hk := repB_true.1 h2
    generalize g.nodes.getD m.toNat Nd.zero = x at h3 hl hk
    have e1 : stepMay x.opt (mayN g.nodes (inB (ranks g))) (inB (ranks g)) = true := by
      unfold stepMay
      rw [if_pos (.inr (.inr (.inl rfl)))]
    rw [e1]
    unfold stepMay
    rcases hk with e | e
    · rw [if_pos (.inr (.inl e))]
    · rw [if_neg (by omega), if_pos (.inr e)]
      match hx : x.kids with
      | [] => rw [hx] at hl; cases hl
      | [k] =>
        unfold kid0 at h3
        rw [hx] at h3
        simpa using h3
      | _ :: _ :: _ => rw [hx] at hl; simp at hl
  · rfl
theorem mended_rules (g : Gr) : (mended g).rules = g.rules := rfl
theorem mended_in_of {g : Gr} (hR : Right g) : ∀ (k i : Nat), 0 < (rk g k).getD i 0 → 0 < (ranks (mended g)).getD i 0
  | 0, i, hi => by rw [rk_zero] at hi; omega
  | k + 1, i, hi => by
    by_cases hl : i < g.rules.length
    · have hb := in_body k i hl hi
      have hbd := hR.body i hl
      obtain ⟨q, hq⟩ : ∃ q : Nat, (g.rules.getD i Rl.zero).body = q := ⟨(g.rules.getD i Rl.zero).body.toNat, by omega⟩
      rw [hq] at hb
      have h1 : mayN g.nodes (inB (ranks (mended g))) q = true := mayN_mono (fun r hr => by
        simp only [inB, decide_eq_true_eq] at hr ⊢
        exact mended_in_of hR k _ hr) hb
      have h2 := mended_up hR (inB (ranks (mended g))) g.nodes.length q (by omega) (by omega) h1
      have := body_ranks (g := mended g) i hl
      rw [mended_rules, hq, h2] at this
      simpa using this.symm
    · rw [rk_full g (k + 1) i (by omega)] at hi
      omega
theorem mended_of_in {g : Gr} (hR : Right g) : ∀ (k i : Nat), 0 < (rk (mended g) k).getD i 0 → 0 < (ranks g).getD i 0
  | 0, i, hi => by rw [rk_zero] at hi; omega
  | k + 1, i, hi => by
    by_cases hl : i < g.rules.length
    · have hb := in_body (g := mended g) k i hl hi
      have hbd := hR.body i hl
      rw [mended_rules] at hb
      obtain ⟨q, hq⟩ : ∃ q : Nat, (g.rules.getD i Rl.zero).body = q := ⟨(g.rules.getD i Rl.zero).body.toNat, by omega⟩
      rw [hq] at hb
      have h1 : mayN (mended g).nodes (inB (ranks g)) q = true := mayN_mono (fun r hr => by
        simp only [inB, decide_eq_true_eq] at hr ⊢
        exact mended_of_in hR k _ hr) hb
      rw [mended_may hR q (by omega) (by omega)] at h1
      have := body_ranks (g := g) i hl
      rw [hq, h1] at this
      simpa using this.symm
    · rw [rk_full (mended g) (k + 1) i (by rw [mended_rules]; omega)] at hi
      omega
/-- The same rules come in. -/
theorem mended_inB {g : Gr} (hR : Right g) : inB (ranks (mended g)) = inB (ranks g) := by
  funext i
  unfold inB
  rw [Bool.eq_iff_iff, decide_eq_true_eq, decide_eq_true_eq]
  exact ⟨fun h => mended_of_in hR _ _ h, fun h => mended_in_of hR _ _ h⟩
theorem mended_nodes {g : Gr} (hR : Right g) : nodesOf (mended g) = nodesOf g := by
  rw [nodesOf_of hR, nodesOf_of (mended_right hR), mended_len, mended_inB hR]
  exact rowOf_congr fun i hi => mended_may hR i (by omega) (by omega)
/-- None of it is idle. -/
theorem mended_idles {g : Gr} (hR : Right g) : idles (mended g) = [] := by
  apply List.eq_nil_iff_forall_not_mem.2
  intro n hn
  obtain ⟨h1, h2⟩ := idles_mem.1 hn
  rw [mended_len] at h1
  obtain ⟨h3, h4⟩ := idle_kind h2
  rw [mended_inB hR] at h4
  rw [mended_at g n h1] at h3 h4
  by_cases h : n ∈ idles g
  · rw [if_pos h] at h3
    have := repB_true.1 h3
    have e : (g.nodes.getD n Nd.zero).opt.kind = 10 := rfl
    omega
  · rw [if_neg h] at h3 h4
    have hk := kid0_in hR n h1 h3
    rw [mended_may hR _ (by omega) hk.2] at h4
    exact h (idles_mem.2 ⟨h1, by unfold idleN; rw [h3, h4]; rfl⟩)
theorem mended_row {g : Gr} (hR : Right g) : idleRow (mended g) = [] := by
  unfold idleRow
  rw [mended_idles hR]
  split <;> rfl
theorem opts_none (g : Gr) : g.opts [] = g := rfl
theorem idleRow_of {g : Gr} (hR : Right g) : idleRow g = idles g := by
  unfold idleRow
  rw [rightB_true.2 hR]
  rfl
/-- A grammar is the same as its mended twin just if none of it is idle. -/
theorem mended_same {g h : Gr} (hR : Right g) (t : GTwin g h) : sameGr (h.opts (idles g)) g = decide ((idleRow g).length = 0) := by
  rw [idleRow_of hR]
  match hL : idles g with
  | [] => rw [opts_none, t.same]; rfl
  | n :: L =>
    have hn : n ∈ idles g := by rw [hL]; exact List.mem_cons_self ..
    obtain ⟨h1, h2⟩ := idles_mem.1 hn
    have h3 := repB_true.1 (idle_kind h2).1
    have : rowSame Nd.zero sameNd (h.opts (n :: L)).nodes g.nodes = false := by
      refine rowSame_false n (by rw [show (h.opts (n :: L)).nodes.length = h.nodes.length from opts_len _ _, t.len]; exact h1) ?_
      rw [show (h.opts (n :: L)).nodes.getD n Nd.zero = _ from opts_at _ _ n (by rw [t.len]; exact h1), if_pos (List.mem_cons_self ..)]
      unfold sameNd
      refine decide_eq_false fun hh => ?_
      have e : (h.nodes.getD n Nd.zero).opt.kind = 10 := rfl
      have := hh.1
      omega
    unfold sameGr
    rw [this, Bool.and_false]
    simp
theorem opts_kz {g h : Gr} (t : GTwin g h) (L : List Nat) : (h.opts L).kz = (g.opts L).kz := by
  have key : ∀ (L : List Nat) (l : List Nd), (opts l L).map Nd.kz = opts (l.map Nd.kz) L := by
    intro L
    induction L with
    | nil => intro l; rfl
    | cons n L ih =>
      intro l
      show (opts (optAt l n) L).map Nd.kz = opts (optAt (l.map Nd.kz) n) L
      rw [ih]
      congr 1
      unfold optAt
      rw [List.map_set, kz_getD]
      rfl
  have e := t.kz
  unfold Gr.kz at e ⊢
  simp only [Gr.mk.injEq, true_and] at e
  show (⟨none, 0, h.rules, none, 0, (opts h.nodes L).map Nd.kz⟩ : Gr) = ⟨none, 0, g.rules, none, 0, (opts g.nodes L).map Nd.kz⟩
  rw [key, key, e.2, t.rules]
theorem in_opts {h : Gr} {L : List Nat} (hi : Gr.In h) : Gr.In (h.opts L) := by
  intro x hx
  obtain ⟨i, hl, rfl⟩ := List.mem_iff_getElem.1 hx
  have hl2 : i < h.nodes.length := by have := hl; rw [show (h.opts L).nodes.length = h.nodes.length from opts_len _ _] at this; exact this
  have e0 : (h.opts L).nodes[i] = (Go.Proofs.Ytjelgmdjmjnnfaa.opts h.nodes L).getD i Nd.zero := by
    rw [List.getD_eq_getElem?_getD, List.getElem?_eq_getElem (by rw [opts_len]; exact hl2)]; rfl
  have h0 := hi (h.nodes.getD i Nd.zero) (by rw [List.getD_eq_getElem?_getD, List.getElem?_eq_getElem hl2]; exact List.getElem_mem _)
  rw [e0, opts_at L h.nodes i hl2]
  split
  · exact ⟨by show (-9223372036854775808 : Int) ≤ 10 ∧ (10 : Int) < 9223372036854775808; decide, h0.text⟩
  · exact h0
end Go.Proofs.Ytjelgmdjmjnnfaa
namespace Go.Proofs.Ytjelgmdjmjnnfaa
open Go Go.RowKit Go.Maps
def wxBl : List (List Nd) := [ofL 6 [ofL 8 [[callN 1 0]], ofL 9 [[wordN ⟨#[97]⟩]]], ofL 6 [ofL 11 [[wordN ⟨#[97]⟩]], ofL 10 [[leafN 2]]]]
def wxN : List Nd := [⟨6, 0, 0, 0, 0, ⟨#[]⟩, 0, 0, none, 0, [1, 3]⟩, ⟨8, 0, 0, 0, 0, ⟨#[]⟩, 0, 0, none, 0, [2]⟩, ⟨5, 0, 0, 0, 0, ⟨#[]⟩, 1, 0, none, 0, []⟩, ⟨9, 0, 0, 0, 0, ⟨#[]⟩, 0, 0, none, 0, [4]⟩, ⟨4, 0, 0, 0, 0, ⟨#[97]⟩, 0, 0, none, 0, []⟩, ⟨6, 0, 0, 0, 0, ⟨#[]⟩, 0, 0, none, 0, [6, 8]⟩, ⟨11, 0, 0, 0, 0, ⟨#[]⟩, 0, 0, none, 0, [7]⟩, ⟨4, 0, 0, 0, 0, ⟨#[97]⟩, 0, 0, none, 0, []⟩, ⟨10, 0, 0, 0, 0, ⟨#[]⟩, 0, 0, none, 0, [9]⟩, ⟨2, 0, 0, 0, 0, ⟨#[]⟩, 0, 0, none, 0, []⟩]
def wxR : List Rl := [⟨⟨#[65]⟩, 0⟩, ⟨⟨#[66]⟩, 5⟩]
theorem wx_gram : gramL wxBl = (wxR, wxN) := by rfl
def wx0 : Gr := ⟨none, 0, wxR, none, 0, wxN⟩
def wxM : Nat → Meas
  | 0 => (5, 3) | 1 => (2, 2) | 3 => (2, 2) | 5 => (5, 3) | 6 => (2, 2) | 8 => (2, 2) | _ => (1, 1)
theorem wx0_right : Right wx0 where
  rules := by decide
  nodes := by decide
  named := by
    intro i hi
    have : i = 0 ∨ i = 1 := by simp [wx0, wxR] at hi; omega
    rcases this with rfl | rfl
    all_goals exact ⟨by simp [wx0, wxR, nameOk, byteOk, letter], by simp [wx0, wxR, ruleAt, ruleFrom]⟩
  all := by
    intro i hi
    have : i = 0 ∨ i = 1 ∨ i = 2 ∨ i = 3 ∨ i = 4 ∨ i = 5 ∨ i = 6 ∨ i = 7 ∨ i = 8 ∨ i = 9 := by simp [wx0, wxN] at hi; omega
    rw [nodeOk_iff]
    rcases this with rfl | rfl | rfl | rfl | rfl | rfl | rfl | rfl | rfl | rfl
    all_goals simp [wx0, wxN, wxR, NodeIs, ByteArray.toList_eq, ByteArray.size]
  pre := ⟨wxM, fun m _ hm => by
    have : m = 0 ∨ m = 1 ∨ m = 2 ∨ m = 3 ∨ m = 4 ∨ m = 5 ∨ m = 6 ∨ m = 7 ∨ m = 8 ∨ m = 9 := by simp [wx0, wxN] at hm; omega
    rcases this with rfl | rfl | rfl | rfl | rfl | rfl | rfl | rfl | rfl | rfl
    all_goals exact ⟨by decide, by decide, by decide, by rfl⟩, by rfl⟩
theorem wx0_in : Gr.In wx0 := by
  intro x hx
  simp only [wx0, wxN, List.mem_cons, List.not_mem_nil, or_false] at hx
  rcases hx with rfl | rfl | rfl | rfl | rfl | rfl | rfl | rfl | rfl | rfl
  all_goals exact ⟨by decide, by decide⟩
theorem wx_idles : idles wx0 = [1] := by kernel_rfl
def wyBl : List (List Nd) := [ofL 10 [ofL 10 [[wordN ⟨#[97]⟩]]]]
def wyN : List Nd := [⟨10, 0, 0, 0, 0, ⟨#[]⟩, 0, 0, none, 0, [1]⟩, ⟨10, 0, 0, 0, 0, ⟨#[]⟩, 0, 0, none, 0, [2]⟩, ⟨4, 0, 0, 0, 0, ⟨#[97]⟩, 0, 0, none, 0, []⟩]
def wyR : List Rl := [⟨⟨#[65]⟩, 0⟩]
theorem wy_gram : gramL wyBl = (wyR, wyN) := by rfl
def wy0 : Gr := ⟨none, 0, wyR, none, 0, wyN⟩
def wyM : Nat → Meas
  | 0 => (3, 3) | 1 => (2, 2) | _ => (1, 1)
theorem wy0_right : Right wy0 where
  rules := by decide
  nodes := by decide
  named := by
    intro i hi
    have : i = 0 := by simp [wy0, wyR] at hi; omega
    rcases this with rfl
    all_goals exact ⟨by simp [wy0, wyR, nameOk, byteOk, letter], by simp [wy0, wyR, ruleAt, ruleFrom]⟩
  all := by
    intro i hi
    have : i = 0 ∨ i = 1 ∨ i = 2 := by simp [wy0, wyN] at hi; omega
    rw [nodeOk_iff]
    rcases this with rfl | rfl | rfl
    all_goals simp [wy0, wyN, wyR, NodeIs, ByteArray.toList_eq, ByteArray.size]
  pre := ⟨wyM, fun m _ hm => by
    have : m = 0 ∨ m = 1 ∨ m = 2 := by simp [wy0, wyN] at hm; omega
    rcases this with rfl | rfl | rfl
    all_goals exact ⟨by decide, by decide, by decide, by rfl⟩, by rfl⟩
theorem wy0_in : Gr.In wy0 := by
  intro x hx
  simp only [wy0, wyN, List.mem_cons, List.not_mem_nil, or_false] at hx
  rcases hx with rfl | rfl | rfl
  all_goals exact ⟨by decide, by decide⟩
theorem wy_idles : idles wy0 = [] := by kernel_rfl
set_option maxRecDepth 100000 in
set_option maxHeartbeats 8000000 in
theorem wexample_any (w : World) : Calls Try.prog 23 #[] w fun e w' => ∃ g : Gr, e = .returned g.val ∧ Gr.At w' g ∧ g.kz = wx0 ∧ Below w.heap.size w w' := by
  go_enter Try.func23, Try.ntmps23
  go_upto_region 1 with fail
  obtain ⟨w0, ew0⟩ : ∃ u, u = w.alloc (.cells #[.slice none 0 0, .slice none 0 0] 25) := ⟨_, rfl⟩
  have HW0 := Lib.hid (show Below w.heap.size w w0 from by rw [ew0]; exact B1 _ _)
  have R_0 := Lib.hid (show Blk w0 w.heap.size #[.slice none 0 0, .slice none 0 0] 25 from by rw [ew0]; exact Blk.new _ _ _)
  rw [← ew0]
  clear ew0
  go_wp2_with fail
  refine (kcall_any 1 0 _).mono ?_
  rintro e w1 ⟨Aa, ca, La, rfl, sa, ba, na, hb⟩
  have Sa := Lib.hid sa
  have Na := Lib.hid na
  have Ba_1 := Lib.hid ba
  have HW1 := Lib.hid (HW0.out.trans (hb.mono HW0.out.size))
  have R_1 := Lib.hid (R_0.out.below' hb)
  clear sa ba na hb
  go_wp2_with fail
  refine (kin_any 8 Aa ca La 0 _ Ba_1.out Na.out (by have h := congrArg List.length Sa.out; simp only [List.length_map] at h; rw [h]; decide) (by decide)).mono ?_
  rintro e w2 ⟨Ab, cb, Lb, rfl, sb, bb, nb, hb⟩
  rw [Sa.out] at sb
  have Sb := Lib.hid sb
  have Nb := Lib.hid nb
  have Bb_2 := Lib.hid bb
  have Ba_2 := Lib.hid (Ba_1.out.below hb)
  have HW2 := Lib.hid (HW1.out.trans (hb.mono HW1.out.size))
  have R_2 := Lib.hid (R_1.out.below' hb)
  clear sb bb nb hb
  go_wp2_with fail
  refine (word_any ⟨#[97]⟩ (by decide) _).mono ?_
  rintro e w3 ⟨Ac, cc, Lc, rfl, sc, bc, nc, hb⟩
  have Sc := Lib.hid sc
  have Nc := Lib.hid nc
  have Bc_3 := Lib.hid bc
  have Ba_3 := Lib.hid (Ba_2.out.below hb)
  have Bb_3 := Lib.hid (Bb_2.out.below hb)
  have HW3 := Lib.hid (HW2.out.trans (hb.mono HW2.out.size))
  have R_3 := Lib.hid (R_2.out.below' hb)
  clear sc bc nc hb
  go_wp2_with fail
  refine (kin_any 9 Ac cc Lc 0 _ Bc_3.out Nc.out (by have h := congrArg List.length Sc.out; simp only [List.length_map] at h; rw [h]; decide) (by decide)).mono ?_
  rintro e w4 ⟨Ad, cd, Ld, rfl, sd, bd, nd, hb⟩
  rw [Sc.out] at sd
  have Sd := Lib.hid sd
  have Nd := Lib.hid nd
  have Bd_4 := Lib.hid bd
  have Ba_4 := Lib.hid (Ba_3.out.below hb)
  have Bb_4 := Lib.hid (Bb_3.out.below hb)
  have Bc_4 := Lib.hid (Bc_3.out.below hb)
  have HW4 := Lib.hid (HW3.out.trans (hb.mono HW3.out.size))
  have R_4 := Lib.hid (R_3.out.below' hb)
  clear sd bd nd hb
  go_wp2_with fail
  refine (chain_any Ab cb Lb Ad cd Ld 100000 _ (Bb_4.out.mono (K' := 100000) (by decide)) (Bd_4.out.mono (K' := 100000) (by decide)) Nb.out Nd.out (by have h := congrArg List.length Sb.out; simp only [List.length_map] at h; rw [h]; decide) (by have h := congrArg List.length Sd.out; simp only [List.length_map] at h; rw [h]; decide) (by decide)).mono ?_
  rintro e w5 ⟨Ag1, cg1, Lg1, rfl, sg1, bg1, ng1, hb⟩
  rw [Sb.out] at sg1
  rw [Sd.out] at sg1
  have Sg1 := Lib.hid sg1
  have Ng1 := Lib.hid ng1
  have Bg1_5 := Lib.hid bg1
  have Ba_5 := Lib.hid (Ba_4.out.below hb)
  have Bb_5 := Lib.hid (Bb_4.out.below hb)
  have Bc_5 := Lib.hid (Bc_4.out.below hb)
  have Bd_5 := Lib.hid (Bd_4.out.below hb)
  have HW5 := Lib.hid (HW4.out.trans (hb.mono HW4.out.size))
  have R_5 := Lib.hid (R_4.out.below' hb)
  clear sg1 bg1 ng1 hb
  go_wp2_with fail
  refine (word_any ⟨#[97]⟩ (by decide) _).mono ?_
  rintro e w6 ⟨Ah, ch, Lh, rfl, sh, bh, nh, hb⟩
  have Sh := Lib.hid sh
  have Nh := Lib.hid nh
  have Bh_6 := Lib.hid bh
  have Ba_6 := Lib.hid (Ba_5.out.below hb)
  have Bb_6 := Lib.hid (Bb_5.out.below hb)
  have Bc_6 := Lib.hid (Bc_5.out.below hb)
  have Bd_6 := Lib.hid (Bd_5.out.below hb)
  have Bg1_6 := Lib.hid (Bg1_5.out.below hb)
  have HW6 := Lib.hid (HW5.out.trans (hb.mono HW5.out.size))
  have R_6 := Lib.hid (R_5.out.below' hb)
  clear sh bh nh hb
  go_wp2_with fail
  refine (kin_any 11 Ah ch Lh 0 _ Bh_6.out Nh.out (by have h := congrArg List.length Sh.out; simp only [List.length_map] at h; rw [h]; decide) (by decide)).mono ?_
  rintro e w7 ⟨Ai, ci, Li, rfl, si, bi, ni, hb⟩
  rw [Sh.out] at si
  have Si := Lib.hid si
  have Ni := Lib.hid ni
  have Bi_7 := Lib.hid bi
  have Ba_7 := Lib.hid (Ba_6.out.below hb)
  have Bb_7 := Lib.hid (Bb_6.out.below hb)
  have Bc_7 := Lib.hid (Bc_6.out.below hb)
  have Bd_7 := Lib.hid (Bd_6.out.below hb)
  have Bg1_7 := Lib.hid (Bg1_6.out.below hb)
  have Bh_7 := Lib.hid (Bh_6.out.below hb)
  have HW7 := Lib.hid (HW6.out.trans (hb.mono HW6.out.size))
  have R_7 := Lib.hid (R_6.out.below' hb)
  clear si bi ni hb
  go_wp2_with fail
  refine (leaf_any 2 _).mono ?_
  rintro e w8 ⟨Aj, cj, Lj, rfl, sj, bj, nj, hb⟩
  have Sj := Lib.hid sj
  have Nj := Lib.hid nj
  have Bj_8 := Lib.hid bj
  have Ba_8 := Lib.hid (Ba_7.out.below hb)
  have Bb_8 := Lib.hid (Bb_7.out.below hb)
  have Bc_8 := Lib.hid (Bc_7.out.below hb)
  have Bd_8 := Lib.hid (Bd_7.out.below hb)
  have Bg1_8 := Lib.hid (Bg1_7.out.below hb)
  have Bh_8 := Lib.hid (Bh_7.out.below hb)
  have Bi_8 := Lib.hid (Bi_7.out.below hb)
  have HW8 := Lib.hid (HW7.out.trans (hb.mono HW7.out.size))
  have R_8 := Lib.hid (R_7.out.below' hb)
  clear sj bj nj hb
  go_wp2_with fail
  refine (kin_any 10 Aj cj Lj 0 _ Bj_8.out Nj.out (by have h := congrArg List.length Sj.out; simp only [List.length_map] at h; rw [h]; decide) (by decide)).mono ?_
  rintro e w9 ⟨Ak, ck, Lk, rfl, sk, bk, nk, hb⟩
  rw [Sj.out] at sk
  have Sk := Lib.hid sk
  have Nk := Lib.hid nk
  have Bk_9 := Lib.hid bk
  have Ba_9 := Lib.hid (Ba_8.out.below hb)
  have Bb_9 := Lib.hid (Bb_8.out.below hb)
  have Bc_9 := Lib.hid (Bc_8.out.below hb)
  have Bd_9 := Lib.hid (Bd_8.out.below hb)
  have Bg1_9 := Lib.hid (Bg1_8.out.below hb)
  have Bh_9 := Lib.hid (Bh_8.out.below hb)
  have Bi_9 := Lib.hid (Bi_8.out.below hb)
  have Bj_9 := Lib.hid (Bj_8.out.below hb)
  have HW9 := Lib.hid (HW8.out.trans (hb.mono HW8.out.size))
  have R_9 := Lib.hid (R_8.out.below' hb)
  clear sk bk nk hb
  go_wp2_with fail
  refine (chain_any Ai ci Li Ak ck Lk 100000 _ (Bi_9.out.mono (K' := 100000) (by decide)) (Bk_9.out.mono (K' := 100000) (by decide)) Ni.out Nk.out (by have h := congrArg List.length Si.out; simp only [List.length_map] at h; rw [h]; decide) (by have h := congrArg List.length Sk.out; simp only [List.length_map] at h; rw [h]; decide) (by decide)).mono ?_
  rintro e w10 ⟨Ag2, cg2, Lg2, rfl, sg2, bg2, ng2, hb⟩
  rw [Si.out] at sg2
  rw [Sk.out] at sg2
  have Sg2 := Lib.hid sg2
  have Ng2 := Lib.hid ng2
  have Bg2_10 := Lib.hid bg2
  have Ba_10 := Lib.hid (Ba_9.out.below hb)
  have Bb_10 := Lib.hid (Bb_9.out.below hb)
  have Bc_10 := Lib.hid (Bc_9.out.below hb)
  have Bd_10 := Lib.hid (Bd_9.out.below hb)
  have Bg1_10 := Lib.hid (Bg1_9.out.below hb)
  have Bh_10 := Lib.hid (Bh_9.out.below hb)
  have Bi_10 := Lib.hid (Bi_9.out.below hb)
  have Bj_10 := Lib.hid (Bj_9.out.below hb)
  have Bk_10 := Lib.hid (Bk_9.out.below hb)
  have HW10 := Lib.hid (HW9.out.trans (hb.mono HW9.out.size))
  have R_10 := Lib.hid (R_9.out.below' hb)
  clear sg2 bg2 ng2 hb
  have GR := Lib.hid (gram_any (some ⟨w10.heap.size, 0, none⟩) [(Ag1, cg1, Lg1), (Ag2, cg2, Lg2)] 2 200000 (w10.alloc (.cells #[.slice Ag1 Lg1.length cg1, .slice Ag2 Lg2.length cg2] 23)) ⟨lies_two' (Blk.new _ _ _), fun x hx => by
    simp only [List.mem_cons, List.not_mem_nil, or_false] at hx
    rcases hx with rfl | rfl
    · exact ⟨(Bg1_10.out.mono (by decide)).below (B1 _ _), (by have h := congrArg List.length Sg1.out; simp only [List.length_map] at h; rw [h]; decide), Ng1.out⟩
    · exact ⟨(Bg2_10.out.mono (by decide)).below (B1 _ _), (by have h := congrArg List.length Sg2.out; simp only [List.length_map] at h; rw [h]; decide), Ng2.out⟩
    ⟩ (by simp) (by decide))
  simp only [List.length_cons, List.length_nil, Nat.reduceAdd, List.map_cons, List.map_nil, Sg1.out, Sg2.out] at GR
  go_wp2_with fail
  refine GR.out.mono ?_
  rintro e wg ⟨g, rfl, hst, hsp, hkl, hcp, hb⟩
  have HST := Lib.hid hst
  have HSP := Lib.hid hsp
  have RG := Lib.hid (show Blk wg w.heap.size #[.slice none 0 0, .slice none 0 0] 25 from ((R_10.out.alloc _).below' hb))
  have HWG := Lib.hid (show Below w.heap.size w wg from (HW10.out.alloc HW10.out.size _).trans (hb.mono (by have := HW10.out.size; simp; omega)))
  have HLO := Lib.hid (show w.heap.size < w10.heap.size from R_10.out.lt)
  clear hst hsp hkl hcp hb GR
  go_wp2_with (refine wpList_store_whole rfl 25 (.tmp 0) (.tmp 12) rfl w.heap.size #[.slice g.RA g.rules.length g.rc, .slice g.NA g.nodes.length g.nc] rfl rfl 25 _ RG.out (by kernel_rfl) (by rfl) (by simp [Value.oneCell']) ?_; intro w5 hk5 hg5; have K5 := Lib.hid hk5; have G5 := Lib.hid hg5; clear hk5 hg5)
  refine bodyPost_ret (results_cell_row rfl _ _ w.heap.size 25 _ (0, 0) _ rfl K5.out Try.underlying25 rfl (by kernel_rfl)) rfl ?_
  exact ⟨g, rfl, HST.out w5 G5.out.size (fun b h1 h2 => G5.out.block b h2 (fun e => by have := HLO.out; cases e; simp at h1; omega)), kz_of (HSP.out.trans wx_gram), grown_below HWG.out HWG.out.size G5.out (fun k e => by cases e; exact Nat.le_refl _)⟩
end Go.Proofs.Ytjelgmdjmjnnfaa

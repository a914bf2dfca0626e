/- The kit's copy of a grammar is of its own; a node stored into it. -/
import Derived.Test.YtjelgmdjmjnnfaaX3
import Derived.Test.YtjelgmdjmjnnfaaC2
import Derived.Test.YtjelgmdjmjnnfaaA7
import Derived.Deep.MidRow
import Derived.Test.YtjelgmdjmjnnfaaA3
set_option linter.unusedSimpArgs false
set_option linter.unusedVariables false
namespace Go.Proofs.Ytjelgmdjmjnnfaa
open Go Go.RowKit Go.Maps
theorem own_blkT {w : World} {B e size n b : Nat} {v : Value} {xs : List Value} (h : w.ownsRow B e size v n xs) (hv : v.ownBlock = some b) : ∃ vs, Blk w b vs e ∧ n * size ≤ vs.size := by
  rcases h.2 with ⟨rfl, _⟩ | ⟨g, cap, cur, rfl, hbg, hgg, hn, hc, hs, rest⟩
  · cases hv
  · simp only [Value.ownBlock, Option.some.injEq] at hv
    subst hv
    exact ⟨cur, hgg, by rw [hs]; exact Nat.mul_le_mul_right _ hn⟩
theorem Blk.same_T {w : World} {b : Nat} {vs vs' : Array Value} {T T' : TypeId} (h : Blk w b vs T) (h' : Blk w b vs' T') : T = T' := by
  have e : some (Obj.cells vs T (0, 0)) = some (Obj.cells vs' T' (0, 0)) := h.symm.trans h'
  simp only [Option.some.injEq, Obj.cells.injEq] at e
  exact e.2.1
theorem wpList_store_mid2 {P : Program} {ops : Array Oper} {rest : List Oper} {op : Oper} {a : Act} {w : World} {Q : Exit → Act → World → Prop} (hgd : op.guard = none) (ty : TypeId) (x y : Operand) (ho : op.op = .store ty x y)
    (b o : Nat) (cells : Array Value) (hx : a.eval x = .pointer (some ⟨b, o, none⟩)) (hy : a.eval y = .agg cells)
    (ht : w.there b o cells.size) (hi : (P.info? ty).map (·.size) = some cells.size) (h1 : cells.all (·.oneCell') = true)
    (h : ∀ W, W = w.setCells b o cells.toList → wpList P ops Q rest (a.put op.dst undef) W) : wpList P ops Q (op :: rest) a w :=
  wpList_store_mid hgd ty x y ho b o cells hx hy ht hi h1 (h _ rfl)
set_option maxRecDepth 100000 in
set_option maxHeartbeats 4000000 in
theorem copyGram2_any (g : Gr) (w : World) (hg : Gr.At w g) (h1 : g.rules.length ≤ 1000000) (h2 : g.nodes.length ≤ 1000000) (h3 : ∀ x ∈ g.nodes, x.kids.length ≤ 1000000) :
    Calls Try.prog 19 #[g.val] w fun e w' => (∃ h : Gr, e = .returned h.val ∧ Fresh w' w.heap.size h ∧ GTwin g h) ∧ Below w.heap.size w w' := by
  have CR := Lib.hid (fun (w' : World) (b : Below w.heap.size w w') => copyRules_any g.RA g.rules g.rc h1 hg.rn w' (hg.below b).rules)
  have CN := Lib.hid (fun (w' : World) (b : Below w.heap.size w w') => copyNodes_any g.NA g.nodes g.nc h2 w' (hg.below b).nodes (fun x hx => ⟨(hg.below b).kids x hx, h3 x hx⟩))
  have HG := Lib.hid hg
  have HB := Lib.hid (And.intro h1 (And.intro h2 h3))
  clear hg h1 h2 h3
  show Calls Try.prog 19 #[.agg #[.slice g.RA g.rules.length g.rc, .slice g.NA g.nodes.length g.nc]] w _
  go_enter Try.func19, Try.ntmps19
  go_wp2_with (first | (go_at_call 39; refine (CR.out _ (B2 _ _ _)).mono ?_; rintro e w1 ⟨A1, c1, rfl, ho, hnn, hb⟩; have HO := Lib.hid (own_lower (base' := w.heap.size + 2) ho (by simp)); have HNN := Lib.hid hnn; have HLS := Lib.hid (show w.heap.size + 2 ≤ w1.heap.size by have := hb.size; simp at this; omega); have KB := Lib.hid (((Blk.new w _ _).alloc _).below' hb); have KR := Lib.hid (by have := (Blk.new (w.alloc _) _ _).below' hb; rw [World.size_alloc] at this; exact this); have H1 := Lib.hid (bb (B2 w _ _) hb); clear ho hnn hb) | (refine wpList_store_blk rfl 22 (.tmp 6) (.tmp 5) rfl w.heap.size 0 _ rfl rfl rfl 25 _ KB.out (by first | simp | (show 0 < 2; omega)) (by kernel_rfl) #[.slice A1 g.rules.length c1, .slice g.NA g.nodes.length g.nc] rfl ?_; intro w2 hk hg; have KB2 := Lib.hid hk; have KR2 := Lib.hid (KR.out.grown hg (by intro e; have := Option.some.inj e; omega)); have HO2 := Lib.hid (own_blk HO.out (by omega) hg); have H2 := Lib.hid (grown_below H1.out H1.out.size hg (fun k e => by cases e; omega)); have HL2 := Lib.hid (show w.heap.size < w2.heap.size by have := HLS.out; have := hg.size; omega); have HL3 := Lib.hid (show w.heap.size + 1 < w2.heap.size by have := HLS.out; have := hg.size; omega); have d0 := hk.cell 0; have d1 := hk.cell 1; simp only [List.getElem?_toArray, List.getElem?_cons_zero, List.getElem?_cons_succ] at d0 d1; clear hk hg) | (go_at_call 40; refine (CN.out _ H2.out).mono ?_; rintro e w3 ⟨A2, c2, rfl, cl, hcl, htw, hno, hki, hnn, hb⟩; have HCL := Lib.hid hcl; have HTW := Lib.hid htw; have HNO := Lib.hid hno; have HKI := Lib.hid hki; have HNN2 := Lib.hid hnn; have KB3 := Lib.hid (KB2.out.below' hb); have KR3 := Lib.hid (KR2.out.below' hb); have HO3 := Lib.hid (own_below HO2.out hb); have H3 := Lib.hid (bb H2.out hb); clear hcl htw hno hki hnn hb d0 d1) | (refine wpList_store_blk rfl 23 (.tmp 10) (.tmp 9) rfl w.heap.size 1 _ rfl rfl rfl 25 _ KB3.out (by first | simp | (show 1 < 2; omega)) (by kernel_rfl) #[.slice A1 g.rules.length c1, .slice A2 g.nodes.length c2] rfl ?_; intro w4 hk hg; have KR4 := Lib.hid (KR3.out.grown hg (by intro e; have := Option.some.inj e; omega)); have HO4 := Lib.hid (own_blk HO3.out (by omega) hg); have HNO4 := Lib.hid (own_blk HNO.out HL2.out hg); have HKI4 := Lib.hid (fun x hx => (HKI.out x hx).blk HL2.out hg); have H4 := Lib.hid (grown_below H3.out H3.out.size hg (fun k e => by cases e; omega)); have d0 := hk.cell 0; have d1 := hk.cell 1; simp only [List.getElem?_toArray, List.getElem?_cons_zero, List.getElem?_cons_succ] at d0 d1; clear hk hg) | (refine wpList_store_whole rfl 25 (.tmp 2) (.tmp 11) rfl (w.heap.size + 1) #[.slice A1 g.rules.length c1, .slice A2 g.nodes.length c2] rfl rfl 25 _ KR4.out (by kernel_rfl) (by rfl) (by simp [Value.oneCell']) ?_; intro w5 hk hg; have KR5 := Lib.hid hk; have HO5 := Lib.hid (own_blk HO4.out (by omega) hg); have HNO5 := Lib.hid (own_blk HNO4.out HL3.out hg); have HKI5 := Lib.hid (fun x hx => (HKI4.out x hx).blk HL3.out hg); have H5 := Lib.hid (grown_below H4.out H4.out.size hg (fun k e => by cases e; omega)); clear hk hg d0 d1))
  have T : GTwin g ⟨A1, c1, g.rules, A2, c2, cl⟩ := ⟨rfl, HCL.out, HTW.out⟩
  refine bodyPost_ret (results_cell_row rfl _ _ (w.heap.size + 1) 25 _ (0, 0) _ rfl KR5.out Try.underlying25 rfl (by kernel_rfl)) rfl ⟨⟨⟨A1, c1, g.rules, A2, c2, cl⟩, ?_, ⟨own_lower HO5.out (by omega), by rw [HCL.out]; exact own_lower HNO5.out H2.out.size, fun x hx => ⟨own_lower (HKI5.out x hx).1 H2.out.size, (HKI5.out x hx).2.1⟩, HNN.out, HNN2.out⟩, T⟩, H5.out⟩
  show Ending.returned (.agg #[.slice A1 g.rules.length c1, .slice A2 g.nodes.length c2]) = .returned (.agg #[.slice A1 g.rules.length c1, .slice A2 cl.length c2])
  rw [HCL.out]
theorem ncells_set : ∀ (l : List Nd) (c : Nat) (y : Nd), c < l.length → (ncells l).take (c * 9) ++ y.cells ++ (ncells l).drop (c * 9 + y.cells.length) = ncells (l.set c y)
  | [], c, y, h => by simp at h
  | x :: l, 0, y, _ => by
    simp only [ncells, Nat.zero_mul, List.take_zero, List.nil_append, List.set_cons_zero, Nat.zero_add]
    rw [show y.cells.length = x.cells.length from rfl, List.drop_left]
  | x :: l, c + 1, y, h => by
    have ih := ncells_set l c y (by simpa using h)
    simp only [ncells, List.set_cons_succ]
    rw [← ih]
    have hx : x.cells.length = 9 := rfl
    rw [List.take_append, List.drop_append, List.take_of_length_le (by rw [hx]; omega), List.drop_of_length_le (by rw [hx]; omega), hx]
    rw [show (c + 1) * 9 - 9 = c * 9 by omega, show (c + 1) * 9 + y.cells.length - 9 = c * 9 + y.cells.length by omega]
    simp [List.append_assoc]
/-- A node without kids stored into a grammar of one's own. -/
theorem Fresh.turn {w : World} {B g c : Nat} {h : Gr} {y : Nd} (f : Fresh w B h) (e : h.NA = some ⟨g, 0, none⟩) (hc : c < h.nodes.length) (hy : y.kids = []) (hy2 : y.A = none) (hy3 : y.cap = 0) :
    Fresh (w.setCells g (c * 9) y.cells) B (h.turn c y) ∧ Below B w (w.setCells g (c * 9) y.cells) ∧ w.grownBy (w.setCells g (c * 9) y.cells) (some g) := by
  have f2 := f.nodes
  rw [e] at f2
  obtain ⟨h1, h2⟩ := own_set (w := w) y.cells (c * 9) w _ f2 (by rw [ncells_length]; show c * 9 + 9 ≤ _; omega)
  rw [ncells_set _ _ _ hc] at h1
  obtain ⟨vs, k1, _⟩ := own_blkT (b := g) f.nodes (by rw [e]; rfl)
  have hgb : B ≤ g := (f.nodes.lt g (by rw [e]; rfl)).1
  refine ⟨⟨?_, ?_, fun x hx => ?_, f.rn, f.nn⟩, ?_, h2⟩
  · refine own_kept f.rules (fun k hk => h2.block k (f.rules.lt k hk).2 (fun e2 => ?_))
    simp only [Option.some.injEq] at e2
    subst e2
    obtain ⟨vs2, k2, _⟩ := own_blkT f.rules hk
    exact absurd (k1.same_T k2) (by decide)
  · show World.ownsRow _ B _ 9 (.slice h.NA (h.nodes.set c y).length h.nc) (h.nodes.set c y).length (ncells (h.nodes.set c y))
    rw [List.length_set, e]
    exact h1
  · rcases List.mem_or_eq_of_mem_set hx with hx | rfl
    · refine ⟨own_kept (f.kids x hx).1 (fun k hk => h2.block k ((f.kids x hx).1.lt k hk).2 (fun e2 => ?_)), (f.kids x hx).2⟩
      simp only [Option.some.injEq] at e2
      subst e2
      obtain ⟨vs2, k2, _⟩ := own_blkT (f.kids x hx).1 hk
      exact absurd (k1.same_T k2) (by decide)
    · rw [hy, hy2, hy3]
      exact ⟨World.ownsRow_nil _ _ _ _, fun _ => rfl⟩
  · exact (Below.refl B w).grown h2 (Nat.le_trans hgb (Nat.le_of_lt (f.nodes.lt g (by rw [e]; rfl)).2)) (fun k hk => by cases hk; exact hgb)
theorem Fresh.shape {w : World} {B : Nat} {h : Gr} (f : Fresh w B h) (h0 : 0 < h.nodes.length) : ∃ g, h.NA = some ⟨g, 0, none⟩ ∧ B ≤ g ∧ g < w.heap.size := by
  obtain ⟨g, cap, e, h1, _, _, h2⟩ := own_shape f.nodes h0
  simp only [Value.slice.injEq] at e
  exact ⟨g, e.1, h1, h2⟩
theorem Fresh.at_turn {w w' : World} {B c : Nat} {g h : Gr} {y : Nd} (f : Fresh w' B (h.turn c y)) (t : GTwin g h) (hg : Gr.At w g) (hy : y.kids = []) (hy2 : y.text.size ≤ 9223372036854775807) : Gr.At w' (h.turn c y) where
  rules := own_rules f.rules
  nodes := own_nodes f.nodes
  kids := fun x hx => by
    refine ⟨own_lies1 (f.kids x hx).1, (f.kids x hx).2, ?_⟩
    rcases List.mem_or_eq_of_mem_set hx with hx | rfl
    · obtain ⟨z, hz, A, c, rfl⟩ := t.mem hx
      exact (hg.kids z hz).2.2
    · rw [hy]; simp
  rl := by show h.rules.length ≤ _; rw [t.rules]; exact hg.rl
  nl := by rw [turn_len, t.len]; exact hg.nl
  rn := f.rn
  nn := f.nn
  texts := fun x hx => by
    rcases List.mem_or_eq_of_mem_set hx with hx | rfl
    · obtain ⟨z, hz, A, c, rfl⟩ := t.mem hx
      exact hg.texts z hz
    · exact hy2
  names := by show ∀ r ∈ h.rules, _; rw [t.rules]; exact hg.names
end Go.Proofs.Ytjelgmdjmjnnfaa
namespace Go.Proofs.Ytjelgmdjmjnnfaa
open Go Go.RowKit Go.Maps
end Go.Proofs.Ytjelgmdjmjnnfaa
namespace Go.Proofs.Ytjelgmdjmjnnfaa
open Go Go.RowKit
set_option maxHeartbeats 400000 in
theorem pick_any (x n : Int) (hx : -9223372036854775808 ≤ x ∧ x < 9223372036854775808) (hn : 1 ≤ n ∧ n < 9223372036854775808) (w : World) :
    Calls Try.prog 18 #[.int .i64 x, .int .i64 n] w fun e w' => e = .returned (.int .i64 (x % n)) ∧ w = w' := by
  have h1 := Int.emod_nonneg x (show n ≠ 0 by omega)
  have h2 := Int.emod_lt_of_pos x (show 0 < n by omega)
  have ht := Int.tmod_eq_emod (a := x) (b := n)
  have hd0 : n ≠ 0 := by omega
  have hd1 : (n == 0) = false := by simpa using hd0
  obtain ⟨y, ey⟩ : ∃ y, y = x.tmod n := ⟨_, rfl⟩
  rw [← ey] at ht
  obtain ⟨z, ez⟩ : ∃ z, z = x % n := ⟨_, rfl⟩
  rw [← ez] at ht h1 h2 ⊢
  have hcase : (0 ≤ y ∧ y = z) ∨ (y < 0 ∧ y + n = z) := by
    split at ht
    · left; omega
    · right; omega
  have hy : x.tmod n = y := ey.symm
  have hn1 : ¬ n < 1 := by omega
  have hwy : IntKind.i64.wrap y = y := IntWalk.i64_in _ (by omega)
  clear ht ez ey hx
  rcases hcase with ⟨h3, rfl⟩ | ⟨h3, h4⟩
  · go_enter Try.func18, Try.ntmps18
    go_wp2_with fail
    go_ret
    exact ⟨rfl, rfl⟩
  · have hwz : IntKind.i64.wrap (y + n) = z := (IntWalk.i64_in _ (by omega)).trans h4
    clear h4
    go_enter Try.func18, Try.ntmps18
    go_wp2_with fail
    go_ret
    exact ⟨rfl, rfl⟩
end Go.Proofs.Ytjelgmdjmjnnfaa
namespace Go.Proofs.Ytjelgmdjmjnnfaa
open Go Go.RowKit Go.Maps
theorem leaf_kids {x : Nd} {r : Int} (h : nodeOk x r = true) (hk : x.kind = 2 ∨ x.kind = 3 ∨ x.kind = 4 ∨ x.kind = 5) : x.kids = [] := by
  rcases hk with e | e | e | e
  · rw [nodeOk_of (n := 86) (by rw [e]; decide)] at h
    simp [tk, sameNd, bare] at h
    exact h.2.2.2.2
  · rw [nodeOk_of (n := 87) (by rw [e]; decide)] at h
    simp [tk, sameNd, bare] at h
    exact h.2.2.2.2
  · rw [nodeOk_of (n := 88) (by rw [e]; decide)] at h
    simp [tk, sameNd, bare] at h
    exact h.2.2.2.2
  · rw [nodeOk_of (n := 89) (by rw [e]; decide)] at h
    simp [tk, sameNd, bare] at h
    exact h.2.2.2
theorem k234 {k : Int} (h : k = 2 ∨ k = 3 ∨ k = 4) : k = 2 ∨ k = 3 ∨ k = 4 ∨ k = 5 := by omega
theorem bare_ok (k r : Int) (hk : k = 1 ∨ k = 2) : nodeOk (bare k) r = true := by
  rcases hk with rfl | rfl
  · rw [nodeOk_of (n := 86) (by decide)]
    simp [tk, sameNd, bare]
  · rw [nodeOk_of (n := 86) (by decide)]
    simp [tk, sameNd, bare]
theorem never {x : Nd} (hk : x.kind = 2 ∨ x.kind = 3 ∨ x.kind = 4) (f inn : Int → Bool) : stepMay x f inn = false := by
  unfold stepMay
  rcases hk with e | e | e <;> simp [e]
theorem bare1_may (f inn : Int → Bool) : stepMay (bare 1) f inn = true := by unfold stepMay; simp [bare]
theorem call_step {x : Nd} (hk : x.kind = 5) (f inn : Int → Bool) : stepMay x f inn = inn x.rule := by unfold stepMay; simp [hk]
theorem bare_in (k : Int) (hk : 1 ≤ k ∧ k ≤ 12) : Nd.In (bare k) := by
  refine ⟨by simp only [bare]; omega, by show (0 : Nat) ≤ _; omega⟩
theorem twin_kz {g h : Gr} (t : GTwin g h) : h.kz = g.kz := by
  unfold Gr.kz
  rw [t.rules]
  congr 1
  apply List.ext_getElem (by simp [t.len])
  intro i h1 h2
  simp only [List.length_map] at h1 h2
  have := t.node i h2
  simp only [List.getD, List.getElem?_eq_getElem h1, List.getElem?_eq_getElem h2, Option.getD_some] at this
  obtain ⟨A, c, e⟩ := this
  simp only [List.getElem_map]
  rw [e]
  rfl
theorem turn_kz {g h : Gr} (t : GTwin g h) (c : Nat) (y : Nd) : (h.turn c y).kz = (g.turn c y).kz := by
  have := twin_kz t
  unfold Gr.kz at this ⊢
  simp only [Gr.mk.injEq, true_and] at this
  simp only [Gr.turn, List.map_set]
  rw [this.1, this.2]
theorem rulesOf_kz (g : Gr) : rulesOf g.kz = rulesOf g := by
  unfold rulesOf
  rw [rightB_kz, ranks_kz]
  rfl
theorem rankOf_pos (g : Gr) (i : Int) : 0 ≤ rankOf g i := by
  unfold rankOf
  split
  · exact ranks_pos g _
  · omega
set_option maxHeartbeats 1000000 in
theorem ints_same (A B : Option Addr) (c d : Nat) (a b : List Int) (ha : a.length ≤ 140737488351232) (hb : b.length ≤ 140737488351232) (w : World) (hA : Lies w A (ints a)) (hB : Lies w B (ints b)) :
    Calls Try.prog 12 #[.slice A a.length c, .slice B b.length d] w fun e w' => e = .returned (.bool (decide (a = b))) ∧ ∃ n, w' = w.drewN n := by
  have HA := Lib.hid hA
  have HB := Lib.hid hB
  clear hA hB
  by_cases hl : a.length = b.length
  · have HL := Lib.hid hl
    obtain ⟨m, em⟩ : ∃ m, m = b.length := ⟨_, rfl⟩
    rw [← em] at hl hb ⊢
    rw [hl] at ha ⊢
    have EM := Lib.hid em
    clear em hl
    go_enter Try.func12, Try.ntmps12
    go_wp2_with fail
    go_loopw [5] (fun i wr => ∃ (k n : Nat), k ≤ m ∧ i = .int .i64 k ∧ a.take k = b.take k ∧ wr = w.drewN n) (fun i _ => m - (intOf i).toNat)
    case atStart => exact ⟨0, 0, by omega, rfl, by simp, rfl⟩
    case round =>
      obtain ⟨k, n, hk, rfl, ht, rfl⟩ := hrel
      have HT := Lib.hid ht
      clear ht
      by_cases hlt : k < m
      · have hlt2 : (k : Int) < m := by omega
        obtain ⟨b1, o1, rfl, _, c1⟩ := lies_cell HA.out (show k < a.length by have := HL.out; have := EM.out; omega)
        obtain ⟨b2, o2, rfl, _, c2⟩ := lies_cell HB.out (show k < b.length by have := EM.out; omega)
        have HS := Lib.hid (take_same (a := a) (b := b) (k := k) (by have := HL.out; have := EM.out; omega) HL.out HT.out)
        have HN := Lib.hid (@getD_ne a b k)
        generalize a.getD k 0 = x at c1 HS HN
        generalize b.getD k 0 = y at c2 HS HN
        by_cases hxy : x = y
        · have HK := Lib.hid (HS.out.2 hxy)
          have hb : (x == y) = true := by simpa using hxy
          have hb2 : (x != y) = false := by simpa using hxy
          clear HS HN hxy
          go_wp2_with fail
          go_quiet (fail)
          go_wp2_with fail
          go_roundw
          case rel => exact ⟨k + 1, n + nq, by omega, by go_num, HK.out, by first | rfl | exact World.drewN_drewN _ _ _⟩
          case measure => simp [intOf]; omega
        · have HK := Lib.hid (HN.out hxy)
          have hb : (x == y) = false := by simpa using hxy
          have hb2 : (x != y) = true := by simpa using hxy
          clear HS HN hxy
          go_wp2_with fail
          go_quiet (fail)
          go_wp2_with fail
          go_ret
          exact ⟨ret_bool (by simpa using HK.out), n + nq, by first | rfl | exact World.drewN_drewN _ _ _⟩
      · obtain rfl : k = m := by omega
        have hlt2 : ¬ (k : Int) < k := by omega
        go_wp2_with fail
        go_ret
        exact ⟨ret_bool (by have := HT.out; rw [List.take_of_length_le (by have := HL.out; have := EM.out; omega), List.take_of_length_le (by have := EM.out; omega)] at this; simp [this]), n, rfl⟩
  · have hne : ¬ (a.length : Int) = b.length := by omega
    have hv : decide (a = b) = false := by simp; intro e; rw [e] at hl; exact hl rfl
    rw [hv]
    clear hv hl
    go_enter Try.func12, Try.ntmps12
    go_wp2_with fail
    go_ret
    exact ⟨rfl, 0, rfl⟩
theorem rows_le (g : Gr) (hR : Right g) : (rulesOf g).length ≤ 140737488351232 ∧ (nodesOf g).length ≤ 140737488351232 := by
  have h1 := hR.rules.2
  have h2 := hR.nodes
  rw [nodesOf_of hR]
  unfold rulesOf
  rw [rightB_true.2 hR]
  have h3 := rowOf_len (fun i => inB (ranks g) i) g.rules.length
  have h4 := rowOf_len (fun n => mayN g.nodes (inB (ranks g)) n) g.nodes.length
  exact ⟨by simp only [if_true]; omega, by omega⟩
theorem same_row (A B : Option Addr) (c d : Nat) (L : List Nat) (hl : L.length ≤ 140737488351232) (w : World) (hA : Lies w A (ints (nums L))) (hB : Lies w B (ints (nums L))) :
    Calls Try.prog 12 #[.slice A L.length c, .slice B L.length d] w fun e w' => e = .returned (.bool true) ∧ Below w.heap.size w w' := by
  have := ints_same A B c d (nums L) (nums L) (by rw [nums_len]; exact hl) (by rw [nums_len]; exact hl) w hA hB
  rw [nums_len] at this
  refine this.mono ?_
  rintro e w' ⟨rfl, n, rfl⟩
  exact ⟨by rw [decide_eq_true rfl], bdrew (Below.refl _ _)⟩
theorem turn_in_ {g h : Gr} (t : GTwin g h) (hi : Gr.In g) (c : Nat) (k : Int) (hk : 1 ≤ k ∧ k ≤ 12) : Gr.In (h.turn c (bare k)) := by
  intro x hx
  rcases List.mem_or_eq_of_mem_set hx with hx | rfl
  · exact (t.within hi) x hx
  · exact bare_in k hk
/-- A Text, a Set, an Any made an Empty. -/
theorem more_empty {g h : Gr} {c : Nat} (hR : Right g) (t : GTwin g h) (hc : c < g.nodes.length) (hk : (g.nodes.getD c Nd.zero).kind = 2 ∨ (g.nodes.getD c Nd.zero).kind = 3 ∨ (g.nodes.getD c Nd.zero).kind = 4) :
    nodeB (h.turn c (bare 1)) c = true ∧ nodeB g c = false ∧ ∀ i, i < g.rules.length → 0 < (ranks g).getD i 0 → 0 < rankOf (h.turn c (bare 1)) i ∧ rankOf (h.turn c (bare 1)) i ≤ (ranks g).getD i 0 := by
  have hkids : (bare 1).kids = (g.nodes.getD c Nd.zero).kids := by
    rw [leaf_kids (hR.all c hc) (k234 hk)]; rfl
  have hR2 : Right (g.turn c (bare 1)) := turn_right hR hc hkids (bare_ok 1 _ (.inl rfl))
  refine ⟨?_, ?_, fun i hi h0 => ?_⟩
  · rw [← nodeB_kz, turn_kz t, nodeB_kz, nodeB_of hR2 c (by rw [turn_len]; exact hc), mayN_eq (turn_up_kids hR hc hkids) _ (by omega) (by rw [turn_len]; omega), Int.toNat_natCast, turn_at hc]
    exact bare1_may _ _
  · rw [nodeB_of hR c hc, mayN_eq hR.kidsUp _ (by omega) (by omega), Int.toNat_natCast]
    exact never hk _ _
  · rw [← rankOf_kz, turn_kz t, rankOf_kz, rank_of hR2 i hi]
    exact turn_rank hR hc hkids (fun f inn => never hk f inn) i h0
/-- A Call of a rule that may not made an Any. -/
theorem more_any {g h : Gr} {c : Nat} (hR : Right g) (t : GTwin g h) (hc : c < g.nodes.length) (hk : (g.nodes.getD c Nd.zero).kind = 5) (h0 : ¬ 0 < (ranks g).getD (g.nodes.getD c Nd.zero).rule.toNat 0) :
    rulesOf (h.turn c (bare 2)) = rulesOf g ∧ nodesOf (h.turn c (bare 2)) = nodesOf g := by
  have hkids : (bare 2).kids = (g.nodes.getD c Nd.zero).kids := by
    rw [leaf_kids (hR.all c hc) (.inr (.inr (.inr hk)))]; rfl
  have hR2 : Right (g.turn c (bare 2)) := turn_right hR hc hkids (bare_ok 2 _ (.inr rfl))
  have hn : ∀ f k, stepMay (g.nodes.getD c Nd.zero) f (inB (rk g k)) = false := fun f k => by
    rw [call_step hk]
    unfold inB
    apply decide_eq_false
    intro hp
    apply h0
    by_cases hkl : k ≤ g.rules.length
    · have := rk_keep g k _ hp (g.rules.length - k)
      rw [show k + (g.rules.length - k) = g.rules.length by omega] at this
      show 0 < (rk g g.rules.length).getD _ 0
      rw [this]; exact hp
    · have : rk g k = ranks g := by
        obtain ⟨N, n1, n2, _⟩ := rounds_end g
        have e := rk_stay g N n2 (k - N)
        rw [show N + (k - N) = k by omega] at e
        rw [e, ranks_fix g n1 n2]
      rw [this] at hp
      exact hp
  have hrk : ranks (g.turn c (bare 2)) = ranks g := turn_rk hR hc hkids hn (fun f inn => never (.inl rfl) f inn) _
  constructor
  · rw [← rulesOf_kz, turn_kz t, rulesOf_kz]
    unfold rulesOf
    rw [rightB_true.2 hR, rightB_true.2 hR2, hrk, turn_rules]
  · rw [← nodesOf_kz, turn_kz t, nodesOf_kz, nodesOf_of hR, nodesOf_of hR2, hrk, turn_len]
    apply rowOf_congr
    intro i hi
    exact turn_same hR hc hkids _ (fun f => hn f g.rules.length) (fun f => never (.inl rfl) f _) i (by omega) (by omega)
end Go.Proofs.Ytjelgmdjmjnnfaa
namespace Go.Proofs.Ytjelgmdjmjnnfaa
open Go Go.RowKit Go.Maps
set_option maxRecDepth 100000 in
set_option maxHeartbeats 2000000 in
theorem size15_all (g : Gr) (w : World) (hg : Gr.At w g) : Calls Try.prog 7 #[g.val] w fun e w' => (∃ z : Int, e = .returned (.int .i64 z) ∧ (z ≤ 300 → g.rules.length + g.nodes.length ≤ 300 ∧ ∀ x ∈ g.nodes, x.kids.length ≤ 300)) ∧ Below w.heap.size w w' := by
  have HG := Lib.hid hg
  have h1 := hg.rl
  have h2 := hg.nl
  obtain ⟨RA, rc, rules, NA, nc, nodes⟩ := g
  dsimp only at h1 h2
  obtain ⟨m, em⟩ : ∃ m, m = nodes.length := ⟨_, rfl⟩
  obtain ⟨r, er⟩ : ∃ m, m = rules.length := ⟨_, rfl⟩
  show Calls Try.prog 7 #[.agg #[.slice RA rules.length rc, .slice NA nodes.length nc]] w _
  have EM := Lib.hid em
  have ER := Lib.hid er
  rw [← em, ← er]
  rw [← em] at h2
  rw [← er] at h1
  clear hg em er
  go_enter Try.func7, Try.ntmps7
  go_wp2_with fail
  obtain ⟨wb, ewb⟩ : ∃ u, u = w.alloc (.cells #[.slice RA r rc, .slice NA m nc] 25) := ⟨_, rfl⟩
  have hb2 : Below w.heap.size w wb := by rw [ewb]; exact B1 _ _
  have c0 : wb.cell? ⟨w.heap.size, 0, none⟩ = some (.slice RA r rc) := by rw [ewb]; exact (Blk.new _ _ _).cell 0
  have c1 : wb.cell? ⟨w.heap.size, 1, none⟩ = some (.slice NA m nc) := by rw [ewb]; exact (Blk.new _ _ _).cell 1
  rw [← ewb]
  have BB := Lib.hid hb2
  clear ewb hb2
  go_loopw [3, 4] (fun s i wr => ∃ (k : Nat) (n : Int), k ≤ m ∧ s = .int .i64 n ∧ i = .int .i64 k ∧ n ≤ 500000000000000 ∧ (r + m : Nat) ≤ n ∧ (∀ j, j < k → ((nodes.getD j Nd.zero).kids.length : Int) ≤ n) ∧ wr = wb) (fun _ i _ => m - (intOf i).toNat)
  case atStart => exact ⟨0, r + m, by omega, rfl, rfl, by omega, by omega, fun j h => by omega, rfl⟩
  case round =>
    obtain ⟨k, n, hk, rfl, rfl, hn, hn0, hkk, rfl⟩ := hrel
    have HK := Lib.hid hkk
    clear hkk
    by_cases hlt : k < m
    · have hlt2 : (k : Int) < m := by omega
      by_cases hle : n ≤ 300
      · obtain ⟨b1, o1, eA, _, _, _, _, _, _, _, _, _, c9⟩ := (HG.out.below BB.out).nodes.nine (show k < nodes.length by have := EM.out; omega)
        have hx := ((HG.out.below BB.out).node (show k < nodes.length by have := EM.out; omega)).2.2
        dsimp only at eA c9 hx
        rw [eA] at c1
        generalize hxx : nodes.getD k Nd.zero = x at c9 hx
        have HX := Lib.hid hxx
        clear eA hxx
        go_wp2_with fail
        go_roundw
        case rel => exact ⟨k + 1, n + x.kids.length, by omega, by first | rfl | go_num, by go_num, by omega, by omega, fun j hj => (by
          by_cases ej : j = k
          · subst ej; rw [HX.out]; omega
          · have := HK.out j (by omega); omega), by first | trivial | rfl⟩
        case measure => simp [intOf]; omega
      · have hle2 : 300 < n := by omega
        go_wp2_with fail
        go_ret
        exact ⟨⟨n, rfl, fun h => absurd h (by omega)⟩, BB.out⟩
    · obtain rfl : k = m := by omega
      have hlt2 : ¬ (k : Int) < k := by omega
      go_wp2_with fail
      go_ret
      exact ⟨⟨n, rfl, fun h => ⟨by have := EM.out; have := ER.out; omega, fun x hx => by
        obtain ⟨j, hj, rfl⟩ := List.getElem_of_mem hx
        have := HK.out j (by have := EM.out; omega)
        simp only [List.getD, List.getElem?_eq_getElem hj, Option.getD_some] at this
        skip
        omega⟩⟩, BB.out⟩
end Go.Proofs.Ytjelgmdjmjnnfaa

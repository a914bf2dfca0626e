/- The kit's copies of numbers, rules, nodes, grammars. -/
import Derived.Test.YtlbjmkljmhfjdaaGreatB2
import Derived.Test.YtlbjmkljmhfjdaaGreatA9
set_option linter.unusedSimpArgs false
set_option linter.unusedVariables false
namespace Go.Proofs.YtlbjmkljmhfjdaaGreat
open Go Go.RowKit
theorem Tryz.info3 : (Tryz.prog.info? 3).map (fun i => (i.zero, i.size, i.bytes)) = some (some (.int .i64 0), 1, 8) := by kernel_rfl
theorem Tryz.info124 : (Tryz.prog.info? 124).map (fun i => (i.zero, i.size, i.bytes)) = some (some (.agg #[.string ByteArray.empty, .int .i64 0]), 2, 24) := by kernel_rfl
theorem Tryz.info40 : (Tryz.prog.info? 40).map (fun i => (i.zero, i.size, i.bytes)) = some (some Nd.zero.val, 9, 96) := by kernel_rfl
theorem none_len {w : World} {A : Option Addr} {l : List Value} (h : Lies w A l) (hA : A = none) : l.length = 0 := by
  by_cases h0 : 0 < l.length
  · obtain ⟨b, o, e, _⟩ := h h0; rw [hA] at e; cases e
  · omega
theorem lies_news {w : World} {A : Option Addr} {l : List Value} (h : Lies w A l) : ∀ a, A = some a → ∀ j u, l[j]? = some u → w.cell? (a.add j) = some u := by
  intro a ha j u hu
  have hj := (List.getElem?_eq_some_iff.1 hu).1
  obtain ⟨b, o, e, _, hc⟩ := h (by omega)
  rw [ha] at e
  obtain rfl := Option.some.inj e
  rw [Addr.add_lit, hc j hj, hu]
set_option maxHeartbeats 1000000 in
theorem copyInts_any (A : Option Addr) (l : List Int) (c : Nat) (hl : l.length ≤ 1000000) (hnc : A = none → c = 0) (w : World) (h : Lies w A (ints l)) :
    Calls Tryz.prog 258 #[.slice A l.length c] w fun e w' => ∃ A' c', e = .returned (.slice A' l.length c') ∧ w'.ownsRow w.heap.size 3 1 (.slice A' l.length c') l.length (ints l) ∧ (A' = none → c' = 0) ∧ Below w.heap.size w w' := by
  obtain ⟨i0, hi, hz0, hz1, hz2⟩ := info_parts Tryz.info3
  have HN := Lib.hid (lies_news h)
  have HE := Lib.hid (fun (hA : A = none) => And.intro (show l.length = 0 by have := none_len h hA; rwa [ints_length] at this) (hnc hA))
  have H6 := Lib.hid (show 0 + l.length ≤ maxLen by unfold maxLen; omega)
  have H8 := Lib.hid (show (0 + l.length) * 8 ≤ 140737488355328 by omega)
  have HL := Lib.hid (show (ints l).length = l.length * 1 by rw [ints_length, Nat.mul_one])
  clear h hnc hl
  go_enter Tryz.func258, Tryz.ntmps258
  go_wp2_with (at_builtin; refine wpList_append_onto _ rfl (.tmp 4) (.tmp 5) 38 rfl w.heap.size 3 i0 (.int .i64 0) 1 8 Tryz.underlying38 hi hz0 hz1 hz2 rfl (by decide) (.slice none 0 0) 0 [] rfl (World.ownsRow_nil _ _ _ _) A l.length c (ints l) rfl HL.out HN.out HE.out (ints_one l) H6.out H8.out (Nat.le_refl _) ?_; intro v1 w1 ho hg hf; rw [Nat.zero_add, List.nil_append] at ho; obtain ⟨A1, c1, rfl, hnn, _⟩ := own_slice ho; have HO := Lib.hid ho; have HNN := Lib.hid (fun h => (hnn h).2); have HB := Lib.hid (grown_below (Below.refl _ _) (Nat.le_refl _) hg (fun k e => by cases e)); clear ho hg hf hnn)
  go_ret
  exact ⟨_, _, rfl, HO.out, HNN.out, HB.out⟩
/-- Rules' cells. -/
def rcells : List Rl → List Value
  | [] => []
  | r :: l => .string r.name :: .int .i64 r.body :: rcells l
theorem rcells_length : ∀ l : List Rl, (rcells l).length = l.length * 2
  | [] => rfl
  | r :: l => by simp [rcells, rcells_length l]; omega
theorem rcells_one : ∀ (l : List Rl), ∀ u ∈ rcells l, u.oneCell' = true
  | [], u, h => by simp [rcells] at h
  | r :: l, u, h => by
    simp only [rcells, List.mem_cons] at h
    rcases h with rfl | rfl | h
    · rfl
    · rfl
    · exact rcells_one l u h
theorem rcells_at : ∀ (l : List Rl) (i : Nat), i < l.length → (rcells l)[i * 2]? = some (.string (l.getD i Rl.zero).name) ∧ (rcells l)[i * 2 + 1]? = some (.int .i64 (l.getD i Rl.zero).body)
  | [], i, h => by simp at h
  | r :: l, 0, h => by simp [rcells]
  | r :: l, i + 1, h => by
    have := rcells_at l i (by simpa using h)
    rw [show (i + 1) * 2 = i * 2 + 1 + 1 by omega]
    simpa [rcells] using this
theorem Rules.news {w : World} {A : Option Addr} {l : List Rl} (h : Rules w A l) : ∀ a, A = some a → ∀ j u, (rcells l)[j]? = some u → w.cell? (a.add j) = some u := by
  intro a ha j u hu
  have hj := (List.getElem?_eq_some_iff.1 hu).1
  rw [rcells_length] at hj
  obtain ⟨b, o, e, _, hc⟩ := h (by omega)
  rw [ha] at e
  obtain rfl := Option.some.inj e
  have h1 := hc (j / 2) (by omega)
  have h2 := rcells_at l (j / 2) (by omega)
  rw [Addr.add_lit, ← hu]
  rcases Nat.mod_two_eq_zero_or_one j with h | h
  · rw [show j / 2 * 2 = j by omega] at h1 h2
    rw [h1.1, h2.1]
  · rw [show j / 2 * 2 + 1 = j by omega] at h2
    rw [show o + j / 2 * 2 + 1 = o + j by omega] at h1
    rw [h1.2, h2.2]
theorem own_rules {w : World} {base e c : Nat} {A : Option Addr} {l : List Rl} (h : w.ownsRow base e 2 (.slice A l.length c) l.length (rcells l)) : Rules w A l := by
  intro h0
  rcases h.2 with ⟨h1, h2⟩ | ⟨g, cap, cur, h1, hbg, hgg, rest⟩
  · omega
  · simp only [Value.slice.injEq] at h1
    obtain ⟨rfl, _, rfl⟩ := h1
    refine ⟨g, 0, rfl, (Array.getElem?_eq_some_iff.1 hgg).1, fun i hi => ?_⟩
    have q := rcells_at l i hi
    have q0 := h.cells (g := g) rfl _ _ q.1
    have q1 := h.cells (g := g) rfl _ _ q.2
    rw [Addr.add_lit] at q0 q1
    exact ⟨q0, q1⟩
theorem rules_none {w : World} {A : Option Addr} {l : List Rl} (h : Rules w A l) (hA : A = none) : l.length = 0 := by
  by_cases h0 : 0 < l.length
  · obtain ⟨b, o, e, _⟩ := h h0; rw [hA] at e; cases e
  · omega
/-- A node whose kids lie elsewhere. -/
abbrev Nd.at_ (x : Nd) (A : Option Addr) (c : Nat) : Nd := { x with A := A, cap := c }
set_option maxRecDepth 100000 in
set_option maxHeartbeats 4000000 in
theorem copyNode_any (x : Nd) (hl : x.kids.length ≤ 1000000) (w : World) (h : Nd.At w x) :
    Calls Tryz.prog 232 #[x.val] w fun e w' => ∃ A' c', e = .returned (x.at_ A' c').val ∧ w'.ownsRow w.heap.size 3 1 (.slice A' x.kids.length c') x.kids.length (ints x.kids) ∧ (A' = none → c' = 0) ∧ Below w.heap.size w w' := by
  have CI := Lib.hid (fun (w' : World) (b : Below w.heap.size w w') => copyInts_any x.A x.kids x.cap hl h.2.1 w' (h.below b).1)
  clear h hl
  go_enter Tryz.func232, Tryz.ntmps232
  go_wp2_with (first | (go_at_call 258; refine (CI.out _ (B2 _ _ _)).mono ?_; rintro e w1 ⟨A1, c1, rfl, ho, hnn, hb⟩; have HO := Lib.hid (own_lower (base' := w.heap.size + 2) ho (by simp)); have HNN := Lib.hid hnn; have KB := Lib.hid (((Blk.new w _ _).alloc _).below' hb); have KR := Lib.hid (by have := (Blk.new (w.alloc _) _ _).below' hb; rw [World.size_alloc] at this; exact this); have H1 := Lib.hid (bb (B2 w _ _) hb); clear ho hnn hb) | (refine wpList_store_blk rfl 38 (.tmp 6) (.tmp 5) rfl w.heap.size 8 _ rfl rfl rfl 40 _ KB.out (by first | simp | (show 8 < 9; omega)) (by kernel_rfl) (x.at_ A1 c1).cells.toArray rfl ?_; intro w2 hk hg; have HO2 := Lib.hid (HO.out.kept hg (by have hlt := HO.out.lt; cases hv : Value.ownBlock (.slice A1 x.kids.length c1) with | none => exact .inl rfl | some k => exact .inr (fun e => by have := (hlt k hv).1; cases e; omega))); have KR2 := Lib.hid (KR.out.grown hg (by intro e; have := Option.some.inj e; omega)); have H2 := Lib.hid (grown_below H1.out H1.out.size hg (fun k e => by cases e; omega)); have d0 := hk.cell 0; have d1 := hk.cell 1; have d2 := hk.cell 2; have d3 := hk.cell 3; have d4 := hk.cell 4; have d5 := hk.cell 5; have d6 := hk.cell 6; have d7 := hk.cell 7; have d8 := hk.cell 8; simp only [Nd.cells, List.getElem?_toArray, List.getElem?_cons_zero, List.getElem?_cons_succ] at d0 d1 d2 d3 d4 d5 d6 d7 d8; clear hk hg) | (refine wpList_store_whole rfl 40 (.tmp 2) (.tmp 7) rfl (w.heap.size + 1) (x.at_ A1 c1).cells.toArray rfl rfl 40 _ KR2.out (by kernel_rfl) (by rfl) (by simp [Nd.cells, Value.oneCell']) ?_; intro w3 hk hg; have K3 := Lib.hid hk; have HO3 := Lib.hid (HO2.out.kept hg (by have hlt := HO2.out.lt; cases hv : Value.ownBlock (.slice A1 x.kids.length c1) with | none => exact .inl rfl | some k => exact .inr (fun e => by have := (hlt k hv).1; cases e; omega))); have H3 := Lib.hid (grown_below H2.out H2.out.size hg (fun k e => by cases e; omega)); clear hk hg d0 d1 d2 d3 d4 d5 d6 d7 d8))
  exact bodyPost_ret (results_cell_row rfl _ _ (w.heap.size + 1) 40 _ (0, 0) _ rfl K3.out Tryz.underlying40 rfl (by kernel_rfl)) rfl ⟨A1, c1, rfl, own_lower HO3.out (by omega), HNN.out, H3.out⟩
end Go.Proofs.YtlbjmkljmhfjdaaGreat

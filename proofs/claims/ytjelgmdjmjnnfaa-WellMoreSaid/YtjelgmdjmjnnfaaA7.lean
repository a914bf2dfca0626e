/- The kit's copies of numbers, rules, nodes, grammars. -/
import Derived.Test.YtjelgmdjmjnnfaaA3
import Derived.Test.YtjelgmdjmjnnfaaA5
set_option linter.unusedSimpArgs false
set_option linter.unusedVariables false
namespace Go.Proofs.Ytjelgmdjmjnnfaa
open Go Go.RowKit
theorem Try.info3 : (Try.prog.info? 3).map (fun i => (i.zero, i.size, i.bytes)) = some (some (.int .i64 0), 1, 8) := by kernel_rfl
theorem Try.info47 : (Try.prog.info? 47).map (fun i => (i.zero, i.size, i.bytes)) = some (some (.agg #[.string ByteArray.empty, .int .i64 0]), 2, 24) := by kernel_rfl
theorem Try.info41 : (Try.prog.info? 41).map (fun i => (i.zero, i.size, i.bytes)) = some (some Nd.zero.val, 9, 96) := by kernel_rfl
theorem none_len {w : World} {A : Option Addr} {l : List Value} (h : Lies w A l) (hA : A = none) : l.length = 0 := by
  by_cases h0 : 0 < l.length
  · obtain ⟨b, o, e, _⟩ := h h0; rw [hA] at e; cases e
  · omega
theorem lies_news {w : World} {A : Option Addr} {l : List Value} (h : Lies w A l) : ∀ a, A = some a → ∀ j u, l[j]? = some u → w.cell? (a.add j) = some u := by
  intro a ha j u hu
  have hj := (List.getElem?_eq_some_iff.1 hu).1
  obtain ⟨b, o, e, _, hc⟩ := h (by omega)
  rw [ha] at e
  obtain rfl := Option.some.inj e
  rw [Addr.add_lit, hc j hj, hu]
set_option maxHeartbeats 1000000 in
theorem copyInts_any (A : Option Addr) (l : List Int) (c : Nat) (hl : l.length ≤ 1000000) (hnc : A = none → c = 0) (w : World) (h : Lies w A (ints l)) :
    Calls Try.prog 80 #[.slice A l.length c] w fun e w' => ∃ A' c', e = .returned (.slice A' l.length c') ∧ w'.ownsRow w.heap.size 3 1 (.slice A' l.length c') l.length (ints l) ∧ (A' = none → c' = 0) ∧ Below w.heap.size w w' := by
  obtain ⟨i0, hi, hz0, hz1, hz2⟩ := info_parts Try.info3
  have HN := Lib.hid (lies_news h)
  have HE := Lib.hid (fun (hA : A = none) => And.intro (show l.length = 0 by have := none_len h hA; rwa [ints_length] at this) (hnc hA))
  have H6 := Lib.hid (show 0 + l.length ≤ maxLen by unfold maxLen; omega)
  have H8 := Lib.hid (show (0 + l.length) * 8 ≤ 140737488355328 by omega)
  have HL := Lib.hid (show (ints l).length = l.length * 1 by rw [ints_length, Nat.mul_one])
  clear h hnc hl
  go_enter Try.func80, Try.ntmps80
  go_wp2_with (at_builtin; refine wpList_append_onto _ rfl (.tmp 4) (.tmp 5) 31 rfl w.heap.size 3 i0 (.int .i64 0) 1 8 Try.underlying31 hi hz0 hz1 hz2 rfl (by decide) (.slice none 0 0) 0 [] rfl (World.ownsRow_nil _ _ _ _) A l.length c (ints l) rfl HL.out HN.out HE.out (ints_one l) H6.out H8.out (Nat.le_refl _) ?_; intro v1 w1 ho hg hf; rw [Nat.zero_add, List.nil_append] at ho; obtain ⟨A1, c1, rfl, hnn, _⟩ := own_slice ho; have HO := Lib.hid ho; have HNN := Lib.hid (fun h => (hnn h).2); have HB := Lib.hid (grown_below (Below.refl _ _) (Nat.le_refl _) hg (fun k e => by cases e)); clear ho hg hf hnn)
  go_ret
  exact ⟨_, _, rfl, HO.out, HNN.out, HB.out⟩
/-- Rules' cells. -/
def rcells : List Rl → List Value
  | [] => []
  | r :: l => .string r.name :: .int .i64 r.body :: rcells l
theorem rcells_length : ∀ l : List Rl, (rcells l).length = l.length * 2
  | [] => rfl
  | r :: l => by simp [rcells, rcells_length l]; omega
theorem rcells_one : ∀ (l : List Rl), ∀ u ∈ rcells l, u.oneCell' = true
  | [], u, h => by simp [rcells] at h
  | r :: l, u, h => by
    simp only [rcells, List.mem_cons] at h
    rcases h with rfl | rfl | h
    · rfl
    · rfl
    · exact rcells_one l u h
theorem rcells_at : ∀ (l : List Rl) (i : Nat), i < l.length → (rcells l)[i * 2]? = some (.string (l.getD i Rl.zero).name) ∧ (rcells l)[i * 2 + 1]? = some (.int .i64 (l.getD i Rl.zero).body)
  | [], i, h => by simp at h
  | r :: l, 0, h => by simp [rcells]
  | r :: l, i + 1, h => by
    have := rcells_at l i (by simpa using h)
    rw [show (i + 1) * 2 = i * 2 + 1 + 1 by omega]
    simpa [rcells] using this
theorem Rules.news {w : World} {A : Option Addr} {l : List Rl} (h : Rules w A l) : ∀ a, A = some a → ∀ j u, (rcells l)[j]? = some u → w.cell? (a.add j) = some u := by
  intro a ha j u hu
  have hj := (List.getElem?_eq_some_iff.1 hu).1
  rw [rcells_length] at hj
  obtain ⟨b, o, e, _, hc⟩ := h (by omega)
  rw [ha] at e
  obtain rfl := Option.some.inj e
  have h1 := hc (j / 2) (by omega)
  have h2 := rcells_at l (j / 2) (by omega)
  rw [Addr.add_lit, ← hu]
  rcases Nat.mod_two_eq_zero_or_one j with h | h
  · rw [show j / 2 * 2 = j by omega] at h1 h2
    rw [h1.1, h2.1]
  · rw [show j / 2 * 2 + 1 = j by omega] at h2
    rw [show o + j / 2 * 2 + 1 = o + j by omega] at h1
    rw [h1.2, h2.2]
theorem own_rules {w : World} {base e c : Nat} {A : Option Addr} {l : List Rl} (h : w.ownsRow base e 2 (.slice A l.length c) l.length (rcells l)) : Rules w A l := by
  intro h0
  rcases h.2 with ⟨h1, h2⟩ | ⟨g, cap, cur, h1, hbg, hgg, rest⟩
  · omega
  · simp only [Value.slice.injEq] at h1
    obtain ⟨rfl, _, rfl⟩ := h1
    refine ⟨g, 0, rfl, (Array.getElem?_eq_some_iff.1 hgg).1, fun i hi => ?_⟩
    have q := rcells_at l i hi
    have q0 := h.cells (g := g) rfl _ _ q.1
    have q1 := h.cells (g := g) rfl _ _ q.2
    rw [Addr.add_lit] at q0 q1
    exact ⟨q0, q1⟩
theorem rules_none {w : World} {A : Option Addr} {l : List Rl} (h : Rules w A l) (hA : A = none) : l.length = 0 := by
  by_cases h0 : 0 < l.length
  · obtain ⟨b, o, e, _⟩ := h h0; rw [hA] at e; cases e
  · omega
set_option maxHeartbeats 1000000 in
theorem copyRules_any (A : Option Addr) (l : List Rl) (c : Nat) (hl : l.length ≤ 1000000) (hnc : A = none → c = 0) (w : World) (h : Rules w A l) :
    Calls Try.prog 39 #[.slice A l.length c] w fun e w' => ∃ A' c', e = .returned (.slice A' l.length c') ∧ w'.ownsRow w.heap.size 47 2 (.slice A' l.length c') l.length (rcells l) ∧ (A' = none → c' = 0) ∧ Below w.heap.size w w' := by
  obtain ⟨i0, hi, hz0, hz1, hz2⟩ := info_parts Try.info47
  have HN := Lib.hid h.news
  have HE := Lib.hid (fun (hA : A = none) => And.intro (rules_none h hA) (hnc hA))
  have H6 := Lib.hid (show 0 + l.length ≤ maxLen by unfold maxLen; omega)
  have H8 := Lib.hid (show (0 + l.length) * 24 ≤ 140737488355328 by omega)
  have HL := Lib.hid (rcells_length l)
  clear h hnc hl
  go_enter Try.func39, Try.ntmps39
  go_wp2_with (at_builtin; refine wpList_append_onto _ rfl (.tmp 4) (.tmp 5) 22 rfl w.heap.size 47 i0 _ 2 24 Try.underlying22 hi hz0 hz1 hz2 rfl (by decide) (.slice none 0 0) 0 [] rfl (World.ownsRow_nil _ _ _ _) A l.length c (rcells l) rfl HL.out HN.out HE.out (rcells_one l) H6.out H8.out (Nat.le_refl _) ?_; intro v1 w1 ho hg hf; rw [Nat.zero_add, List.nil_append] at ho; obtain ⟨A1, c1, rfl, hnn, _⟩ := own_slice ho; have HO := Lib.hid ho; have HNN := Lib.hid (fun h => (hnn h).2); have HB := Lib.hid (grown_below (Below.refl _ _) (Nat.le_refl _) hg (fun k e => by cases e)); clear ho hg hf hnn)
  go_ret
  exact ⟨_, _, rfl, HO.out, HNN.out, HB.out⟩
/-- A node whose kids lie elsewhere. -/
abbrev Nd.at_ (x : Nd) (A : Option Addr) (c : Nat) : Nd := { x with A := A, cap := c }
set_option maxRecDepth 100000 in
set_option maxHeartbeats 4000000 in
theorem copyNode_any (x : Nd) (hl : x.kids.length ≤ 1000000) (w : World) (h : Nd.At w x) :
    Calls Try.prog 64 #[x.val] w fun e w' => ∃ A' c', e = .returned (x.at_ A' c').val ∧ w'.ownsRow w.heap.size 3 1 (.slice A' x.kids.length c') x.kids.length (ints x.kids) ∧ (A' = none → c' = 0) ∧ Below w.heap.size w w' := by
  have CI := Lib.hid (fun (w' : World) (b : Below w.heap.size w w') => copyInts_any x.A x.kids x.cap hl h.2.1 w' (h.below b).1)
  clear h hl
  go_enter Try.func64, Try.ntmps64
  go_wp2_with (first | (go_at_call 80; refine (CI.out _ (B2 _ _ _)).mono ?_; rintro e w1 ⟨A1, c1, rfl, ho, hnn, hb⟩; have HO := Lib.hid (own_lower (base' := w.heap.size + 2) ho (by simp)); have HNN := Lib.hid hnn; have KB := Lib.hid (((Blk.new w _ _).alloc _).below' hb); have KR := Lib.hid (by have := (Blk.new (w.alloc _) _ _).below' hb; rw [World.size_alloc] at this; exact this); have H1 := Lib.hid (bb (B2 w _ _) hb); clear ho hnn hb) | (refine wpList_store_blk rfl 31 (.tmp 6) (.tmp 5) rfl w.heap.size 8 _ rfl rfl rfl 41 _ KB.out (by first | simp | (show 8 < 9; omega)) (by kernel_rfl) (x.at_ A1 c1).cells.toArray rfl ?_; intro w2 hk hg; have HO2 := Lib.hid (HO.out.kept hg (by have hlt := HO.out.lt; cases hv : Value.ownBlock (.slice A1 x.kids.length c1) with | none => exact .inl rfl | some k => exact .inr (fun e => by have := (hlt k hv).1; cases e; omega))); have KR2 := Lib.hid (KR.out.grown hg (by intro e; have := Option.some.inj e; omega)); have H2 := Lib.hid (grown_below H1.out H1.out.size hg (fun k e => by cases e; omega)); have d0 := hk.cell 0; have d1 := hk.cell 1; have d2 := hk.cell 2; have d3 := hk.cell 3; have d4 := hk.cell 4; have d5 := hk.cell 5; have d6 := hk.cell 6; have d7 := hk.cell 7; have d8 := hk.cell 8; simp only [Nd.cells, List.getElem?_toArray, List.getElem?_cons_zero, List.getElem?_cons_succ] at d0 d1 d2 d3 d4 d5 d6 d7 d8; clear hk hg) | (refine wpList_store_whole rfl 41 (.tmp 2) (.tmp 7) rfl (w.heap.size + 1) (x.at_ A1 c1).cells.toArray rfl rfl 41 _ KR2.out (by kernel_rfl) (by rfl) (by simp [Nd.cells, Value.oneCell']) ?_; intro w3 hk hg; have K3 := Lib.hid hk; have HO3 := Lib.hid (HO2.out.kept hg (by have hlt := HO2.out.lt; cases hv : Value.ownBlock (.slice A1 x.kids.length c1) with | none => exact .inl rfl | some k => exact .inr (fun e => by have := (hlt k hv).1; cases e; omega))); have H3 := Lib.hid (grown_below H2.out H2.out.size hg (fun k e => by cases e; omega)); clear hk hg d0 d1 d2 d3 d4 d5 d6 d7 d8))
  exact bodyPost_ret (results_cell_row rfl _ _ (w.heap.size + 1) 41 _ (0, 0) _ rfl K3.out Try.underlying41 rfl (by kernel_rfl)) rfl ⟨A1, c1, rfl, own_lower HO3.out (by omega), HNN.out, H3.out⟩
end Go.Proofs.Ytjelgmdjmjnnfaa
namespace Go.Proofs.Ytjelgmdjmjnnfaa
open Go Go.RowKit
def ncells : List Nd → List Value
  | [] => []
  | x :: l => x.cells ++ ncells l
theorem ncells_length : ∀ l : List Nd, (ncells l).length = l.length * 9
  | [] => rfl
  | x :: l => by simp [ncells, ncells_length l, Nd.cells]; omega
theorem ncells_app : ∀ (l : List Nd) (x : Nd), ncells (l ++ [x]) = ncells l ++ x.cells
  | [], x => by simp [ncells]
  | y :: l, x => by simp [ncells, ncells_app l x]
theorem ncells_at : ∀ (l : List Nd) (i j : Nat), i < l.length → j < 9 → (ncells l)[i * 9 + j]? = (l.getD i Nd.zero).cells[j]?
  | [], i, j, h, _ => by simp at h
  | x :: l, 0, j, h, hj => by
    rw [ncells, List.getElem?_append_left (by simp [Nd.cells]; omega)]
    simp
  | x :: l, i + 1, j, h, hj => by
    have := ncells_at l i j (by simpa using h) hj
    rw [ncells, List.getElem?_append_right (by simp [Nd.cells]; omega)]
    rw [show (i + 1) * 9 + j - x.cells.length = i * 9 + j by simp [Nd.cells]; omega, this]
    simp
theorem own_nodes {w : World} {base e c : Nat} {A : Option Addr} {l : List Nd} (h : w.ownsRow base e 9 (.slice A l.length c) l.length (ncells l)) : Nodes w A l := by
  intro h0
  rcases h.2 with ⟨h1, h2⟩ | ⟨g, cap, cur, h1, hbg, hgg, rest⟩
  · omega
  · simp only [Value.slice.injEq] at h1
    obtain ⟨rfl, _, rfl⟩ := h1
    refine ⟨g, 0, rfl, (Array.getElem?_eq_some_iff.1 hgg).1, fun i hi j hj => ?_⟩
    have q := ncells_at l i j hi hj
    have hc : j < (l.getD i Nd.zero).cells.length := by simp [Nd.cells]; omega
    rw [List.getElem?_eq_getElem hc] at q ⊢
    have q0 := h.cells (g := g) rfl _ _ q
    rw [Addr.add_lit] at q0
    rw [← Nat.add_assoc] at q0
    exact q0
/-- The same node, but for where its kids lie. -/
def Twin (x y : Nd) : Prop := ∃ A c, y = x.at_ A c
/-- A node's kids lie in a row of the call's own. -/
def Kid (w : World) (B : Nat) (o : Value) (x : Nd) : Prop := w.ownsRow B 3 1 (.slice x.A x.kids.length x.cap) x.kids.length (ints x.kids) ∧ (x.A = none → x.cap = 0) ∧ ∀ a, x.A = some a → o.ownBlock ≠ some a.block
theorem Kid.below {w w' : World} {B : Nat} {o : Value} {x : Nd} (h : Kid w B o x) (hb : Below w.heap.size w w') : Kid w' B o x := ⟨own_below h.1 hb, h.2⟩
theorem Kid.grown {w w' : World} {B : Nat} {o o' : Value} {x : Nd} (h : Kid w B o x) (hg : w.grownBy w' o.ownBlock) (hf : ∀ k, o'.ownBlock = some k → o.ownBlock = some k ∨ w.heap.size ≤ k) : Kid w' B o' x := by
  obtain ⟨h1, h2, h3⟩ := h
  refine ⟨h1.kept hg ?_, h2, fun a ha e => ?_⟩
  · cases hA : x.A with
    | none => exact .inl rfl
    | some a => exact .inr (fun e => h3 a hA e.symm)
  · rcases hf _ e with e | e
    · exact h3 a ha e
    · have := (h1.lt a.block (by rw [ha]; rfl)).2
      omega
theorem cells_one (x : Nd) : ∀ u ∈ x.cells, u.oneCell' = true := by
  intro u hu
  simp only [Nd.cells, List.mem_cons, List.not_mem_nil, or_false] at hu
  rcases hu with rfl | rfl | rfl | rfl | rfl | rfl | rfl | rfl | rfl <;> rfl
theorem new_news (w : World) (vs : List Value) (T : TypeId) : ∀ a, some (⟨w.heap.size, 0, none⟩ : Addr) = some a → ∀ j u, vs[j]? = some u → (w.alloc (.cells vs.toArray T)).cell? (a.add j) = some u := by
  intro a ha j u hu
  obtain rfl := Option.some.inj ha
  rw [Addr.add_lit, Nat.zero_add, (Blk.new w _ _).cell]
  simpa using hu
set_option maxRecDepth 100000 in
set_option maxHeartbeats 4000000 in
theorem copyNodes_any (A : Option Addr) (l : List Nd) (c : Nat) (hl : l.length ≤ 1000000) (w : World) (h : Nodes w A l) (hx : ∀ x ∈ l, Nd.At w x ∧ x.kids.length ≤ 1000000) :
    Calls Try.prog 40 #[.slice A l.length c] w fun e w' => ∃ A' c', e = .returned (.slice A' l.length c') ∧ ∃ cl : List Nd, cl.length = l.length ∧ (∀ j, j < l.length → Twin (l.getD j Nd.zero) (cl.getD j Nd.zero)) ∧ w'.ownsRow w.heap.size 41 9 (.slice A' l.length c') l.length (ncells cl) ∧ (∀ x ∈ cl, Kid w' w.heap.size (.slice A' l.length c') x) ∧ (A' = none → c' = 0) ∧ Below w.heap.size w w' := by
  obtain ⟨i0, hi, hz0, hz1, hz2⟩ := info_parts Try.info41
  have HN := Lib.hid h
  have HX := Lib.hid hx
  obtain ⟨m, em⟩ : ∃ m, m = l.length := ⟨_, rfl⟩
  have EM := Lib.hid em
  rw [← em] at hl ⊢
  clear h hx em
  go_enter Try.func40, Try.ntmps40
  go_wp2_with fail
  go_loopw [4, 3] (fun i o wr => ∃ (k : Nat) (cl : List Nd), k ≤ m ∧ i = .int .i64 k ∧ cl.length = k ∧ (∀ j, j < k → Twin (l.getD j Nd.zero) (cl.getD j Nd.zero)) ∧ wr.ownsRow w.heap.size 41 9 o k (ncells cl) ∧ (∀ x ∈ cl, Kid wr w.heap.size o x) ∧ Below w.heap.size w wr) (fun i _ _ => m - (intOf i).toNat)
  case atStart => exact ⟨0, [], by omega, rfl, rfl, fun j hj => by omega, World.ownsRow_nil _ _ _ _, by simp, Below.refl _ _⟩
  case round =>
    obtain ⟨k, cl, hk, rfl, hcl, htw, hown, hkid, hbl⟩ := hrel
    obtain ⟨O, oc, rfl, hOn, _⟩ := own_slice hown
    have HTW := Lib.hid htw
    have HOWN := Lib.hid hown
    have HKID := Lib.hid hkid
    have BL := Lib.hid hbl
    have HCL := Lib.hid hcl
    have HON := Lib.hid hOn
    clear htw hown hkid hbl hcl hOn
    by_cases hlt : k < m
    · have hlt2 : (k : Int) < m := by omega
      have hkl : k < l.length := by have := EM.out; omega
      obtain ⟨hat, hks⟩ := HX.out _ (getD_mem hkl)
      obtain ⟨b1, o1, eA, _, n1, n2, n3, n4, n5, n6, n7, n8, n9⟩ := (HN.out.below BL.out).nine hkl
      generalize hxx : l.getD k Nd.zero = x at hat hks n1 n2 n3 n4 n5 n6 n7 n8 n9
      have HXX := Lib.hid hxx
      have CN := Lib.hid (copyNode_any x hks wr (hat.below BL.out))
      rw [eA]
      clear hxx hat hks eA
      go_wp2_with (first | (go_at_call 64; refine CN.out.mono ?_; rintro e w1 ⟨A1, c1, rfl, ho, hnn, hb⟩; have HO := Lib.hid ho; have HNN := Lib.hid hnn; have H1 := Lib.hid hb; clear ho hnn hb n1 n2 n3 n4 n5 n6 n7 n8 n9) | (refine wpList_store_whole rfl 41 (.tmp 5) (.tmp 16) rfl w1.heap.size (x.at_ A1 c1).cells.toArray rfl rfl 41 _ (Blk.new _ _ _) (by kernel_rfl) (by rfl) (by simp [Nd.cells, Value.oneCell']) ?_; intro w2 hk2 hg; have H2 := Lib.hid (grown_below (B1 w1 _) (by simp) hg (fun k e => by cases e; exact Nat.le_refl _)); have d0 := hk2.cell 0; have d1 := hk2.cell 1; have d2 := hk2.cell 2; have d3 := hk2.cell 3; have d4 := hk2.cell 4; have d5 := hk2.cell 5; have d6 := hk2.cell 6; have d7 := hk2.cell 7; have d8 := hk2.cell 8; simp only [Nd.cells, List.getElem?_toArray, List.getElem?_cons_zero, List.getElem?_cons_succ] at d0 d1 d2 d3 d4 d5 d6 d7 d8; clear hk2 hg) | (at_builtin; refine wpList_append_onto _ rfl (.tmp 17) (.tmp 19) 23 rfl w.heap.size 41 i0 Nd.zero.val 9 96 Try.underlying23 hi hz0 hz1 hz2 rfl (by decide) (.slice O k oc) k (ncells cl) rfl (own_below (own_below (own_below HOWN.out H1.out) H2.out) (B1 w2 _)) (some ⟨w2.heap.size, 0, none⟩) 1 1 (x.at_ A1 c1).cells rfl rfl (new_news w2 (x.at_ A1 c1).cells 41) (fun h => nomatch h) (cells_one _) (by unfold maxLen; omega) (by omega) (by have := BL.out.size; have := H1.out.size; have := H2.out.size; simp; omega) ?_; intro v1 w4 ho hg hf; have HO4 := Lib.hid ho; have HG4 := Lib.hid hg; have HF4 := Lib.hid hf; clear ho hg hf))
      have HK1 : Kid w1 w.heap.size (.slice O k oc) (x.at_ A1 c1) := ⟨own_lower HO.out BL.out.size, HNN.out, fun a ha e => by
        have q1 := (HOWN.out.lt _ e).2
        have q2 := (HO.out.lt a.block (by dsimp only [Nd.at_] at ha; rw [ha]; rfl)).1
        omega⟩
      have B4 : Below w.heap.size w (w2.alloc (.cells (x.at_ A1 c1).cells.toArray 41)) := bb (bb (bb BL.out H1.out) H2.out) (B1 w2 _)
      have tk : ∀ y, Kid w1 w.heap.size (.slice O k oc) y → Kid w4 w.heap.size v1 y := fun y hy => ((hy.below H2.out).below (B1 w2 _)).grown HG4.out HF4.out
      refine ⟨⟨k + 1, cl ++ [x.at_ A1 c1], by omega, by go_num, by simp [HCL.out], fun j hj => ?_, by rw [ncells_app]; exact HO4.out, fun y hy => ?_, grown_below B4 B4.size HG4.out (fun q e => (HOWN.out.lt q e).1)⟩, by simp [intOf]; omega⟩
      · by_cases ej : j = k
        · subst ej
          rw [HXX.out, List.getD, List.getElem?_append_right (by rw [HCL.out]; omega), HCL.out]
          simp
          exact ⟨A1, c1, rfl⟩
        · have := HTW.out j (by omega)
          rw [List.getD, List.getD] at this ⊢
          rw [List.getElem?_append_left (by rw [HCL.out]; omega)]
          exact this
      · rcases List.mem_append.1 hy with hy | hy
        · exact tk y ((HKID.out y hy).below H1.out)
        · simp at hy
          subst hy
          exact tk _ HK1
    · obtain rfl : k = m := by omega
      have hlt2 : ¬ (k : Int) < k := by omega
      go_wp2_with fail
      go_ret
      exact ⟨O, oc, rfl, cl, HCL.out, HTW.out, HOWN.out, HKID.out, (fun e => (HON.out e).2), BL.out⟩
theorem nodes_none {w : World} {A : Option Addr} {l : List Nd} (h : Nodes w A l) (hA : A = none) : l.length = 0 := by
  by_cases h0 : 0 < l.length
  · obtain ⟨b, o, e, _⟩ := h h0; rw [hA] at e; cases e
  · omega
/-- The same grammar, but for where it lies. -/
structure GTwin (g h : Gr) : Prop where
  rules : h.rules = g.rules
  len : h.nodes.length = g.nodes.length
  node : ∀ j, j < g.nodes.length → Twin (g.nodes.getD j Nd.zero) (h.nodes.getD j Nd.zero)
theorem own_blk {w w' : World} {B e size n b : Nat} {v : Value} {xs : List Value} (h : w.ownsRow B e size v n xs) (hb : b < B) (hg : w.grownBy w' (some b)) : w'.ownsRow B e size v n xs := by
  refine h.kept hg ?_
  cases hv : v.ownBlock with
  | none => exact .inl rfl
  | some k => exact .inr (fun e => by have := (h.lt k hv).1; cases e; omega)
theorem Kid.blk {w w' : World} {B b : Nat} {o : Value} {x : Nd} (h : Kid w B o x) (hb : b < B) (hg : w.grownBy w' (some b)) : Kid w' B o x := ⟨own_blk h.1 hb hg, h.2⟩
theorem GTwin.mem {g h : Gr} (t : GTwin g h) {x : Nd} (hx : x ∈ h.nodes) : ∃ y ∈ g.nodes, Twin y x := by
  obtain ⟨j, hj, rfl⟩ := List.getElem_of_mem hx
  have hj2 : j < g.nodes.length := by rw [← t.len]; exact hj
  refine ⟨g.nodes[j], List.getElem_mem hj2, ?_⟩
  have := t.node j hj2
  simpa [List.getD, List.getElem?_eq_getElem hj, List.getElem?_eq_getElem hj2] using this
theorem GTwin.within {g h : Gr} (t : GTwin g h) (hi : Gr.In g) : Gr.In h := by
  intro x hx
  obtain ⟨y, hy, A, c, rfl⟩ := t.mem hx
  exact ⟨(hi y hy).kind, (hi y hy).text⟩
theorem GTwin.lies {w w' : World} {g h : Gr} (t : GTwin g h) (hg : Gr.At w g) (h1 : Rules w' h.RA h.rules) (h2 : Nodes w' h.NA h.nodes) (h3 : ∀ x ∈ h.nodes, Lies w' x.A (ints x.kids) ∧ (x.A = none → x.cap = 0)) (h4 : h.RA = none → h.rc = 0) (h5 : h.NA = none → h.nc = 0) : Gr.At w' h where
  rules := h1
  nodes := h2
  kids := fun x hx => by
    refine ⟨(h3 x hx).1, (h3 x hx).2, ?_⟩
    obtain ⟨y, hy, A, c, rfl⟩ := t.mem hx
    exact (hg.kids y hy).2.2
  rl := by rw [t.rules]; exact hg.rl
  nl := by rw [t.len]; exact hg.nl
  rn := h4
  nn := h5
  texts := fun x hx => by
    obtain ⟨y, hy, A, c, rfl⟩ := t.mem hx
    exact hg.texts y hy
  names := by rw [t.rules]; exact hg.names
set_option maxRecDepth 100000 in
set_option maxHeartbeats 4000000 in
theorem copyGram_any (g : Gr) (w : World) (hg : Gr.At w g) (h1 : g.rules.length ≤ 1000000) (h2 : g.nodes.length ≤ 1000000) (h3 : ∀ x ∈ g.nodes, x.kids.length ≤ 1000000) :
    Calls Try.prog 19 #[g.val] w fun e w' => (∃ h : Gr, e = .returned h.val ∧ Gr.At w' h ∧ GTwin g h) ∧ Below w.heap.size w w' := by
  have CR := Lib.hid (fun (w' : World) (b : Below w.heap.size w w') => copyRules_any g.RA g.rules g.rc h1 hg.rn w' (hg.below b).rules)
  have CN := Lib.hid (fun (w' : World) (b : Below w.heap.size w w') => copyNodes_any g.NA g.nodes g.nc h2 w' (hg.below b).nodes (fun x hx => ⟨(hg.below b).kids x hx, h3 x hx⟩))
  have HG := Lib.hid hg
  have HB := Lib.hid (And.intro h1 (And.intro h2 h3))
  clear hg h1 h2 h3
  show Calls Try.prog 19 #[.agg #[.slice g.RA g.rules.length g.rc, .slice g.NA g.nodes.length g.nc]] w _
  go_enter Try.func19, Try.ntmps19
  go_wp2_with (first | (go_at_call 39; refine (CR.out _ (B2 _ _ _)).mono ?_; rintro e w1 ⟨A1, c1, rfl, ho, hnn, hb⟩; have HO := Lib.hid (own_lower (base' := w.heap.size + 2) ho (by simp)); have HNN := Lib.hid hnn; have HLS := Lib.hid (show w.heap.size + 2 ≤ w1.heap.size by have := hb.size; simp at this; omega); have KB := Lib.hid (((Blk.new w _ _).alloc _).below' hb); have KR := Lib.hid (by have := (Blk.new (w.alloc _) _ _).below' hb; rw [World.size_alloc] at this; exact this); have H1 := Lib.hid (bb (B2 w _ _) hb); clear ho hnn hb) | (refine wpList_store_blk rfl 22 (.tmp 6) (.tmp 5) rfl w.heap.size 0 _ rfl rfl rfl 25 _ KB.out (by first | simp | (show 0 < 2; omega)) (by kernel_rfl) #[.slice A1 g.rules.length c1, .slice g.NA g.nodes.length g.nc] rfl ?_; intro w2 hk hg; have KB2 := Lib.hid hk; have KR2 := Lib.hid (KR.out.grown hg (by intro e; have := Option.some.inj e; omega)); have HO2 := Lib.hid (own_blk HO.out (by omega) hg); have H2 := Lib.hid (grown_below H1.out H1.out.size hg (fun k e => by cases e; omega)); have HL2 := Lib.hid (show w.heap.size < w2.heap.size by have := HLS.out; have := hg.size; omega); have HL3 := Lib.hid (show w.heap.size + 1 < w2.heap.size by have := HLS.out; have := hg.size; omega); have d0 := hk.cell 0; have d1 := hk.cell 1; simp only [List.getElem?_toArray, List.getElem?_cons_zero, List.getElem?_cons_succ] at d0 d1; clear hk hg) | (go_at_call 40; refine (CN.out _ H2.out).mono ?_; rintro e w3 ⟨A2, c2, rfl, cl, hcl, htw, hno, hki, hnn, hb⟩; have HCL := Lib.hid hcl; have HTW := Lib.hid htw; have HNO := Lib.hid hno; have HKI := Lib.hid hki; have HNN2 := Lib.hid hnn; have KB3 := Lib.hid (KB2.out.below' hb); have KR3 := Lib.hid (KR2.out.below' hb); have HO3 := Lib.hid (own_below HO2.out hb); have H3 := Lib.hid (bb H2.out hb); clear hcl htw hno hki hnn hb d0 d1) | (refine wpList_store_blk rfl 23 (.tmp 10) (.tmp 9) rfl w.heap.size 1 _ rfl rfl rfl 25 _ KB3.out (by first | simp | (show 1 < 2; omega)) (by kernel_rfl) #[.slice A1 g.rules.length c1, .slice A2 g.nodes.length c2] rfl ?_; intro w4 hk hg; have KR4 := Lib.hid (KR3.out.grown hg (by intro e; have := Option.some.inj e; omega)); have HO4 := Lib.hid (own_blk HO3.out (by omega) hg); have HNO4 := Lib.hid (own_blk HNO.out HL2.out hg); have HKI4 := Lib.hid (fun x hx => (HKI.out x hx).blk HL2.out hg); have H4 := Lib.hid (grown_below H3.out H3.out.size hg (fun k e => by cases e; omega)); have d0 := hk.cell 0; have d1 := hk.cell 1; simp only [List.getElem?_toArray, List.getElem?_cons_zero, List.getElem?_cons_succ] at d0 d1; clear hk hg) | (refine wpList_store_whole rfl 25 (.tmp 2) (.tmp 11) rfl (w.heap.size + 1) #[.slice A1 g.rules.length c1, .slice A2 g.nodes.length c2] rfl rfl 25 _ KR4.out (by kernel_rfl) (by rfl) (by simp [Value.oneCell']) ?_; intro w5 hk hg; have KR5 := Lib.hid hk; have HO5 := Lib.hid (own_blk HO4.out (by omega) hg); have HNO5 := Lib.hid (own_blk HNO4.out HL3.out hg); have HKI5 := Lib.hid (fun x hx => (HKI4.out x hx).blk HL3.out hg); have H5 := Lib.hid (grown_below H4.out H4.out.size hg (fun k e => by cases e; omega)); clear hk hg d0 d1))
  have T : GTwin g ⟨A1, c1, g.rules, A2, c2, cl⟩ := ⟨rfl, HCL.out, HTW.out⟩
  have HR5 := own_rules HO5.out
  have HN5 : Nodes w5 A2 cl := own_nodes (by rw [HCL.out]; exact HNO5.out)
  refine bodyPost_ret (results_cell_row rfl _ _ (w.heap.size + 1) 25 _ (0, 0) _ rfl KR5.out Try.underlying25 rfl (by kernel_rfl)) rfl ⟨⟨⟨A1, c1, g.rules, A2, c2, cl⟩, ?_, T.lies HG.out HR5 HN5 (fun x hx => ⟨own_lies1 (HKI5.out x hx).1, (HKI5.out x hx).2.1⟩) HNN.out HNN2.out, T⟩, H5.out⟩
  show Ending.returned (.agg #[.slice A1 g.rules.length c1, .slice A2 g.nodes.length c2]) = .returned (.agg #[.slice A1 g.rules.length c1, .slice A2 cl.length c2])
  rw [HCL.out]
end Go.Proofs.Ytjelgmdjmjnnfaa

/- The kit's copies of numbers, rules, nodes, grammars. -/
import Derived.Test.YtfdfcagkfnckmaaAb
import Derived.Test.YtfdfcagkfnckmaaA5
import Derived.Test.YtfdfcagkfnckmaaA3
import Derived.Deep.CutRange
set_option linter.unusedSimpArgs false
set_option linter.unusedVariables false
namespace Go.Proofs.Ytfdfcagkfnckmaa
open Go Go.RowKit
theorem Try.info3 : (Try.prog.info? 3).map (fun i => (i.zero, i.size, i.bytes)) = some (some (.int .i64 0), 1, 8) := by kernel_rfl
theorem Try.info45 : (Try.prog.info? 45).map (fun i => (i.zero, i.size, i.bytes)) = some (some (.agg #[.string ByteArray.empty, .int .i64 0]), 2, 24) := by kernel_rfl
theorem Try.info32 : (Try.prog.info? 32).map (fun i => (i.zero, i.size, i.bytes)) = some (some Nd.zero.val, 9, 96) := by kernel_rfl
theorem none_len {w : World} {A : Option Addr} {l : List Value} (h : Lies w A l) (hA : A = none) : l.length = 0 := by
  by_cases h0 : 0 < l.length
  · obtain ⟨b, o, e, _⟩ := h h0; rw [hA] at e; cases e
  · omega
theorem lies_news {w : World} {A : Option Addr} {l : List Value} (h : Lies w A l) : ∀ a, A = some a → ∀ j u, l[j]? = some u → w.cell? (a.add j) = some u := by
  intro a ha j u hu
  have hj := (List.getElem?_eq_some_iff.1 hu).1
  obtain ⟨b, o, e, _, hc⟩ := h (by omega)
  rw [ha] at e
  obtain rfl := Option.some.inj e
  rw [Addr.add_lit, hc j hj, hu]
set_option maxHeartbeats 1000000 in
theorem copyInts_any (A : Option Addr) (l : List Int) (c : Nat) (hl : l.length ≤ 1000000) (hnc : A = none → c = 0) (w : World) (h : Lies w A (ints l)) :
    Calls Try.prog 74 #[.slice A l.length c] w fun e w' => ∃ A' c', e = .returned (.slice A' l.length c') ∧ w'.ownsRow w.heap.size 3 1 (.slice A' l.length c') l.length (ints l) ∧ (A' = none → c' = 0) ∧ Below w.heap.size w w' := by
  obtain ⟨i0, hi, hz0, hz1, hz2⟩ := info_parts Try.info3
  have HN := Lib.hid (lies_news h)
  have HE := Lib.hid (fun (hA : A = none) => And.intro (show l.length = 0 by have := none_len h hA; rwa [ints_length] at this) (hnc hA))
  have H6 := Lib.hid (show 0 + l.length ≤ maxLen by unfold maxLen; omega)
  have H8 := Lib.hid (show (0 + l.length) * 8 ≤ 140737488355328 by omega)
  have HL := Lib.hid (show (ints l).length = l.length * 1 by rw [ints_length, Nat.mul_one])
  clear h hnc hl
  go_enter Try.func74, Try.ntmps74
  go_wp2_with (at_builtin; refine wpList_append_onto _ rfl (.tmp 4) (.tmp 5) 30 rfl w.heap.size 3 i0 (.int .i64 0) 1 8 Try.underlying30 hi hz0 hz1 hz2 rfl (by decide) (.slice none 0 0) 0 [] rfl (World.ownsRow_nil _ _ _ _) A l.length c (ints l) rfl HL.out HN.out HE.out (ints_one l) H6.out H8.out (Nat.le_refl _) ?_; intro v1 w1 ho hg hf; rw [Nat.zero_add, List.nil_append] at ho; obtain ⟨A1, c1, rfl, hnn, _⟩ := own_slice ho; have HO := Lib.hid ho; have HNN := Lib.hid (fun h => (hnn h).2); have HB := Lib.hid (grown_below (Below.refl _ _) (Nat.le_refl _) hg (fun k e => by cases e)); clear ho hg hf hnn)
  go_ret
  exact ⟨_, _, rfl, HO.out, HNN.out, HB.out⟩
/-- Rules' cells. -/
def rcells : List Rl → List Value
  | [] => []
  | r :: l => .string r.name :: .int .i64 r.body :: rcells l
theorem rcells_length : ∀ l : List Rl, (rcells l).length = l.length * 2
  | [] => rfl
  | r :: l => by simp [rcells, rcells_length l]; omega
theorem rcells_one : ∀ (l : List Rl), ∀ u ∈ rcells l, u.oneCell' = true
  | [], u, h => by simp [rcells] at h
  | r :: l, u, h => by
    simp only [rcells, List.mem_cons] at h
    rcases h with rfl | rfl | h
    · rfl
    · rfl
    · exact rcells_one l u h
theorem rcells_at : ∀ (l : List Rl) (i : Nat), i < l.length → (rcells l)[i * 2]? = some (.string (l.getD i Rl.zero).name) ∧ (rcells l)[i * 2 + 1]? = some (.int .i64 (l.getD i Rl.zero).body)
  | [], i, h => by simp at h
  | r :: l, 0, h => by simp [rcells]
  | r :: l, i + 1, h => by
    have := rcells_at l i (by simpa using h)
    rw [show (i + 1) * 2 = i * 2 + 1 + 1 by omega]
    simpa [rcells] using this
theorem Rules.news {w : World} {A : Option Addr} {l : List Rl} (h : Rules w A l) : ∀ a, A = some a → ∀ j u, (rcells l)[j]? = some u → w.cell? (a.add j) = some u := by
  intro a ha j u hu
  have hj := (List.getElem?_eq_some_iff.1 hu).1
  rw [rcells_length] at hj
  obtain ⟨b, o, e, _, hc⟩ := h (by omega)
  rw [ha] at e
  obtain rfl := Option.some.inj e
  have h1 := hc (j / 2) (by omega)
  have h2 := rcells_at l (j / 2) (by omega)
  rw [Addr.add_lit, ← hu]
  rcases Nat.mod_two_eq_zero_or_one j with h | h
  · rw [show j / 2 * 2 = j by omega] at h1 h2
    rw [h1.1, h2.1]
  · rw [show j / 2 * 2 + 1 = j by omega] at h2
    rw [show o + j / 2 * 2 + 1 = o + j by omega] at h1
    rw [h1.2, h2.2]
theorem own_rules {w : World} {base e c : Nat} {A : Option Addr} {l : List Rl} (h : w.ownsRow base e 2 (.slice A l.length c) l.length (rcells l)) : Rules w A l := by
  intro h0
  rcases h.2 with ⟨h1, h2⟩ | ⟨g, cap, cur, h1, hbg, hgg, rest⟩
  · omega
  · simp only [Value.slice.injEq] at h1
    obtain ⟨rfl, _, rfl⟩ := h1
    refine ⟨g, 0, rfl, (Array.getElem?_eq_some_iff.1 hgg).1, fun i hi => ?_⟩
    have q := rcells_at l i hi
    have q0 := h.cells (g := g) rfl _ _ q.1
    have q1 := h.cells (g := g) rfl _ _ q.2
    rw [Addr.add_lit] at q0 q1
    exact ⟨q0, q1⟩
theorem rules_none {w : World} {A : Option Addr} {l : List Rl} (h : Rules w A l) (hA : A = none) : l.length = 0 := by
  by_cases h0 : 0 < l.length
  · obtain ⟨b, o, e, _⟩ := h h0; rw [hA] at e; cases e
  · omega
set_option maxHeartbeats 1000000 in
theorem copyRules_any (A : Option Addr) (l : List Rl) (c : Nat) (hl : l.length ≤ 1000000) (hnc : A = none → c = 0) (w : World) (h : Rules w A l) :
    Calls Try.prog 31 #[.slice A l.length c] w fun e w' => ∃ A' c', e = .returned (.slice A' l.length c') ∧ w'.ownsRow w.heap.size 45 2 (.slice A' l.length c') l.length (rcells l) ∧ (A' = none → c' = 0) ∧ Below w.heap.size w w' := by
  obtain ⟨i0, hi, hz0, hz1, hz2⟩ := info_parts Try.info45
  have HN := Lib.hid h.news
  have HE := Lib.hid (fun (hA : A = none) => And.intro (rules_none h hA) (hnc hA))
  have H6 := Lib.hid (show 0 + l.length ≤ maxLen by unfold maxLen; omega)
  have H8 := Lib.hid (show (0 + l.length) * 24 ≤ 140737488355328 by omega)
  have HL := Lib.hid (rcells_length l)
  clear h hnc hl
  go_enter Try.func31, Try.ntmps31
  go_wp2_with (at_builtin; refine wpList_append_onto _ rfl (.tmp 4) (.tmp 5) 22 rfl w.heap.size 45 i0 _ 2 24 Try.underlying22 hi hz0 hz1 hz2 rfl (by decide) (.slice none 0 0) 0 [] rfl (World.ownsRow_nil _ _ _ _) A l.length c (rcells l) rfl HL.out HN.out HE.out (rcells_one l) H6.out H8.out (Nat.le_refl _) ?_; intro v1 w1 ho hg hf; rw [Nat.zero_add, List.nil_append] at ho; obtain ⟨A1, c1, rfl, hnn, _⟩ := own_slice ho; have HO := Lib.hid ho; have HNN := Lib.hid (fun h => (hnn h).2); have HB := Lib.hid (grown_below (Below.refl _ _) (Nat.le_refl _) hg (fun k e => by cases e)); clear ho hg hf hnn)
  go_ret
  exact ⟨_, _, rfl, HO.out, HNN.out, HB.out⟩
/-- A node whose kids lie elsewhere. -/
abbrev Nd.at_ (x : Nd) (A : Option Addr) (c : Nat) : Nd := { x with A := A, cap := c }
set_option maxRecDepth 100000 in
set_option maxHeartbeats 4000000 in
theorem copyNode_any (x : Nd) (hl : x.kids.length ≤ 1000000) (w : World) (h : Nd.At w x) :
    Calls Try.prog 56 #[x.val] w fun e w' => ∃ A' c', e = .returned (x.at_ A' c').val ∧ w'.ownsRow w.heap.size 3 1 (.slice A' x.kids.length c') x.kids.length (ints x.kids) ∧ (A' = none → c' = 0) ∧ Below w.heap.size w w' := by
  have CI := Lib.hid (fun (w' : World) (b : Below w.heap.size w w') => copyInts_any x.A x.kids x.cap hl h.2.1 w' (h.below b).1)
  clear h hl
  go_enter Try.func56, Try.ntmps56
  go_wp2_with (first | (go_at_call 74; refine (CI.out _ (B2 _ _ _)).mono ?_; rintro e w1 ⟨A1, c1, rfl, ho, hnn, hb⟩; have HO := Lib.hid (own_lower (base' := w.heap.size + 2) ho (by simp)); have HNN := Lib.hid hnn; have KB := Lib.hid (((Blk.new w _ _).alloc _).below' hb); have KR := Lib.hid (by have := (Blk.new (w.alloc _) _ _).below' hb; rw [World.size_alloc] at this; exact this); have H1 := Lib.hid (bb (B2 w _ _) hb); clear ho hnn hb) | (refine wpList_store_blk rfl 30 (.tmp 6) (.tmp 5) rfl w.heap.size 8 _ rfl rfl rfl 32 _ KB.out (by first | simp | (show 8 < 9; omega)) (by kernel_rfl) (x.at_ A1 c1).cells.toArray rfl ?_; intro w2 hk hg; have HO2 := Lib.hid (HO.out.kept hg (by have hlt := HO.out.lt; cases hv : Value.ownBlock (.slice A1 x.kids.length c1) with | none => exact .inl rfl | some k => exact .inr (fun e => by have := (hlt k hv).1; cases e; omega))); have KR2 := Lib.hid (KR.out.grown hg (by intro e; have := Option.some.inj e; omega)); have H2 := Lib.hid (grown_below H1.out H1.out.size hg (fun k e => by cases e; omega)); have d0 := hk.cell 0; have d1 := hk.cell 1; have d2 := hk.cell 2; have d3 := hk.cell 3; have d4 := hk.cell 4; have d5 := hk.cell 5; have d6 := hk.cell 6; have d7 := hk.cell 7; have d8 := hk.cell 8; simp only [Nd.cells, List.getElem?_toArray, List.getElem?_cons_zero, List.getElem?_cons_succ] at d0 d1 d2 d3 d4 d5 d6 d7 d8; clear hk hg) | (refine wpList_store_whole rfl 32 (.tmp 2) (.tmp 7) rfl (w.heap.size + 1) (x.at_ A1 c1).cells.toArray rfl rfl 32 _ KR2.out (by kernel_rfl) (by rfl) (by simp [Nd.cells, Value.oneCell']) ?_; intro w3 hk hg; have K3 := Lib.hid hk; have HO3 := Lib.hid (HO2.out.kept hg (by have hlt := HO2.out.lt; cases hv : Value.ownBlock (.slice A1 x.kids.length c1) with | none => exact .inl rfl | some k => exact .inr (fun e => by have := (hlt k hv).1; cases e; omega))); have H3 := Lib.hid (grown_below H2.out H2.out.size hg (fun k e => by cases e; omega)); clear hk hg d0 d1 d2 d3 d4 d5 d6 d7 d8))
  exact bodyPost_ret (results_cell_row rfl _ _ (w.heap.size + 1) 32 _ (0, 0) _ rfl K3.out Try.underlying32 rfl (by kernel_rfl)) rfl ⟨A1, c1, rfl, own_lower HO3.out (by omega), HNN.out, H3.out⟩
end Go.Proofs.Ytfdfcagkfnckmaa
namespace Go.Proofs.Ytfdfcagkfnckmaa
open Go Go.RowKit
def ncells : List Nd → List Value
  | [] => []
  | x :: l => x.cells ++ ncells l
theorem ncells_length : ∀ l : List Nd, (ncells l).length = l.length * 9
  | [] => rfl
  | x :: l => by simp [ncells, ncells_length l, Nd.cells]; omega
theorem ncells_app : ∀ (l : List Nd) (x : Nd), ncells (l ++ [x]) = ncells l ++ x.cells
  | [], x => by simp [ncells]
  | y :: l, x => by simp [ncells, ncells_app l x]
theorem ncells_at : ∀ (l : List Nd) (i j : Nat), i < l.length → j < 9 → (ncells l)[i * 9 + j]? = (l.getD i Nd.zero).cells[j]?
  | [], i, j, h, _ => by simp at h
  | x :: l, 0, j, h, hj => by
    rw [ncells, List.getElem?_append_left (by simp [Nd.cells]; omega)]
    simp
  | x :: l, i + 1, j, h, hj => by
    have := ncells_at l i j (by simpa using h) hj
    rw [ncells, List.getElem?_append_right (by simp [Nd.cells]; omega)]
    rw [show (i + 1) * 9 + j - x.cells.length = i * 9 + j by simp [Nd.cells]; omega, this]
    simp
theorem own_nodes {w : World} {base e c : Nat} {A : Option Addr} {l : List Nd} (h : w.ownsRow base e 9 (.slice A l.length c) l.length (ncells l)) : Nodes w A l := by
  intro h0
  rcases h.2 with ⟨h1, h2⟩ | ⟨g, cap, cur, h1, hbg, hgg, rest⟩
  · omega
  · simp only [Value.slice.injEq] at h1
    obtain ⟨rfl, _, rfl⟩ := h1
    refine ⟨g, 0, rfl, (Array.getElem?_eq_some_iff.1 hgg).1, fun i hi j hj => ?_⟩
    have q := ncells_at l i j hi hj
    have hc : j < (l.getD i Nd.zero).cells.length := by simp [Nd.cells]; omega
    rw [List.getElem?_eq_getElem hc] at q ⊢
    have q0 := h.cells (g := g) rfl _ _ q
    rw [Addr.add_lit] at q0
    rw [← Nat.add_assoc] at q0
    exact q0
/-- The same node, but for where its kids lie. -/
def Twin (x y : Nd) : Prop := ∃ A c, y = x.at_ A c
/-- A node's kids lie in a row of the call's own. -/
def Kid (w : World) (B : Nat) (o : Value) (x : Nd) : Prop := w.ownsRow B 3 1 (.slice x.A x.kids.length x.cap) x.kids.length (ints x.kids) ∧ (x.A = none → x.cap = 0) ∧ ∀ a, x.A = some a → o.ownBlock ≠ some a.block
theorem Kid.below {w w' : World} {B : Nat} {o : Value} {x : Nd} (h : Kid w B o x) (hb : Below w.heap.size w w') : Kid w' B o x := ⟨own_below h.1 hb, h.2⟩
theorem Kid.grown {w w' : World} {B : Nat} {o o' : Value} {x : Nd} (h : Kid w B o x) (hg : w.grownBy w' o.ownBlock) (hf : ∀ k, o'.ownBlock = some k → o.ownBlock = some k ∨ w.heap.size ≤ k) : Kid w' B o' x := by
  obtain ⟨h1, h2, h3⟩ := h
  refine ⟨h1.kept hg ?_, h2, fun a ha e => ?_⟩
  · cases hA : x.A with
    | none => exact .inl rfl
    | some a => exact .inr (fun e => h3 a hA e.symm)
  · rcases hf _ e with e | e
    · exact h3 a ha e
    · have := (h1.lt a.block (by rw [ha]; rfl)).2
      omega
theorem cells_one (x : Nd) : ∀ u ∈ x.cells, u.oneCell' = true := by
  intro u hu
  simp only [Nd.cells, List.mem_cons, List.not_mem_nil, or_false] at hu
  rcases hu with rfl | rfl | rfl | rfl | rfl | rfl | rfl | rfl | rfl <;> rfl
theorem new_news (w : World) (vs : List Value) (T : TypeId) : ∀ a, some (⟨w.heap.size, 0, none⟩ : Addr) = some a → ∀ j u, vs[j]? = some u → (w.alloc (.cells vs.toArray T)).cell? (a.add j) = some u := by
  intro a ha j u hu
  obtain rfl := Option.some.inj ha
  rw [Addr.add_lit, Nat.zero_add, (Blk.new w _ _).cell]
  simpa using hu
set_option maxRecDepth 100000 in
set_option maxHeartbeats 4000000 in
theorem copyNodes_any (A : Option Addr) (l : List Nd) (c : Nat) (hl : l.length ≤ 1000000) (w : World) (h : Nodes w A l) (hx : ∀ x ∈ l, Nd.At w x ∧ x.kids.length ≤ 1000000) :
    Calls Try.prog 32 #[.slice A l.length c] w fun e w' => ∃ A' c', e = .returned (.slice A' l.length c') ∧ ∃ cl : List Nd, cl.length = l.length ∧ (∀ j, j < l.length → Twin (l.getD j Nd.zero) (cl.getD j Nd.zero)) ∧ w'.ownsRow w.heap.size 32 9 (.slice A' l.length c') l.length (ncells cl) ∧ (∀ x ∈ cl, Kid w' w.heap.size (.slice A' l.length c') x) ∧ (A' = none → c' = 0) ∧ Below w.heap.size w w' := by
  obtain ⟨i0, hi, hz0, hz1, hz2⟩ := info_parts Try.info32
  have HN := Lib.hid h
  have HX := Lib.hid hx
  obtain ⟨m, em⟩ : ∃ m, m = l.length := ⟨_, rfl⟩
  have EM := Lib.hid em
  rw [← em] at hl ⊢
  clear h hx em
  go_enter Try.func32, Try.ntmps32
  go_wp2_with fail
  go_loopw [4, 3] (fun i o wr => ∃ (k : Nat) (cl : List Nd), k ≤ m ∧ i = .int .i64 k ∧ cl.length = k ∧ (∀ j, j < k → Twin (l.getD j Nd.zero) (cl.getD j Nd.zero)) ∧ wr.ownsRow w.heap.size 32 9 o k (ncells cl) ∧ (∀ x ∈ cl, Kid wr w.heap.size o x) ∧ Below w.heap.size w wr) (fun i _ _ => m - (intOf i).toNat)
  case atStart => exact ⟨0, [], by omega, rfl, rfl, fun j hj => by omega, World.ownsRow_nil _ _ _ _, by simp, Below.refl _ _⟩
  case round =>
    obtain ⟨k, cl, hk, rfl, hcl, htw, hown, hkid, hbl⟩ := hrel
    obtain ⟨O, oc, rfl, hOn, _⟩ := own_slice hown
    have HTW := Lib.hid htw
    have HOWN := Lib.hid hown
    have HKID := Lib.hid hkid
    have BL := Lib.hid hbl
    have HCL := Lib.hid hcl
    have HON := Lib.hid hOn
    clear htw hown hkid hbl hcl hOn
    by_cases hlt : k < m
    · have hlt2 : (k : Int) < m := by omega
      have hkl : k < l.length := by have := EM.out; omega
      obtain ⟨hat, hks⟩ := HX.out _ (getD_mem hkl)
      obtain ⟨b1, o1, eA, _, n1, n2, n3, n4, n5, n6, n7, n8, n9⟩ := (HN.out.below BL.out).nine hkl
      generalize hxx : l.getD k Nd.zero = x at hat hks n1 n2 n3 n4 n5 n6 n7 n8 n9
      have HXX := Lib.hid hxx
      have CN := Lib.hid (copyNode_any x hks wr (hat.below BL.out))
      rw [eA]
      clear hxx hat hks eA
      go_wp2_with (first | (go_at_call 56; refine CN.out.mono ?_; rintro e w1 ⟨A1, c1, rfl, ho, hnn, hb⟩; have HO := Lib.hid ho; have HNN := Lib.hid hnn; have H1 := Lib.hid hb; clear ho hnn hb n1 n2 n3 n4 n5 n6 n7 n8 n9) | (refine wpList_store_whole rfl 32 (.tmp 5) (.tmp 16) rfl w1.heap.size (x.at_ A1 c1).cells.toArray rfl rfl 32 _ (Blk.new _ _ _) (by kernel_rfl) (by rfl) (by simp [Nd.cells, Value.oneCell']) ?_; intro w2 hk2 hg; have H2 := Lib.hid (grown_below (B1 w1 _) (by simp) hg (fun k e => by cases e; exact Nat.le_refl _)); have d0 := hk2.cell 0; have d1 := hk2.cell 1; have d2 := hk2.cell 2; have d3 := hk2.cell 3; have d4 := hk2.cell 4; have d5 := hk2.cell 5; have d6 := hk2.cell 6; have d7 := hk2.cell 7; have d8 := hk2.cell 8; simp only [Nd.cells, List.getElem?_toArray, List.getElem?_cons_zero, List.getElem?_cons_succ] at d0 d1 d2 d3 d4 d5 d6 d7 d8; clear hk2 hg) | (at_builtin; refine wpList_append_onto _ rfl (.tmp 17) (.tmp 19) 23 rfl w.heap.size 32 i0 Nd.zero.val 9 96 Try.underlying23 hi hz0 hz1 hz2 rfl (by decide) (.slice O k oc) k (ncells cl) rfl (own_below (own_below (own_below HOWN.out H1.out) H2.out) (B1 w2 _)) (some ⟨w2.heap.size, 0, none⟩) 1 1 (x.at_ A1 c1).cells rfl rfl (new_news w2 (x.at_ A1 c1).cells 32) (fun h => nomatch h) (cells_one _) (by unfold maxLen; omega) (by omega) (by have := BL.out.size; have := H1.out.size; have := H2.out.size; simp; omega) ?_; intro v1 w4 ho hg hf; have HO4 := Lib.hid ho; have HG4 := Lib.hid hg; have HF4 := Lib.hid hf; clear ho hg hf))
      have HK1 : Kid w1 w.heap.size (.slice O k oc) (x.at_ A1 c1) := ⟨own_lower HO.out BL.out.size, HNN.out, fun a ha e => by
        have q1 := (HOWN.out.lt _ e).2
        have q2 := (HO.out.lt a.block (by dsimp only [Nd.at_] at ha; rw [ha]; rfl)).1
        omega⟩
      have B4 : Below w.heap.size w (w2.alloc (.cells (x.at_ A1 c1).cells.toArray 32)) := bb (bb (bb BL.out H1.out) H2.out) (B1 w2 _)
      have tk : ∀ y, Kid w1 w.heap.size (.slice O k oc) y → Kid w4 w.heap.size v1 y := fun y hy => ((hy.below H2.out).below (B1 w2 _)).grown HG4.out HF4.out
      refine ⟨⟨k + 1, cl ++ [x.at_ A1 c1], by omega, by go_num, by simp [HCL.out], fun j hj => ?_, by rw [ncells_app]; exact HO4.out, fun y hy => ?_, grown_below B4 B4.size HG4.out (fun q e => (HOWN.out.lt q e).1)⟩, by simp [intOf]; omega⟩
      · by_cases ej : j = k
        · subst ej
          rw [HXX.out, List.getD, List.getElem?_append_right (by rw [HCL.out]; omega), HCL.out]
          simp
          exact ⟨A1, c1, rfl⟩
        · have := HTW.out j (by omega)
          rw [List.getD, List.getD] at this ⊢
          rw [List.getElem?_append_left (by rw [HCL.out]; omega)]
          exact this
      · rcases List.mem_append.1 hy with hy | hy
        · exact tk y ((HKID.out y hy).below H1.out)
        · simp at hy
          subst hy
          exact tk _ HK1
    · obtain rfl : k = m := by omega
      have hlt2 : ¬ (k : Int) < k := by omega
      go_wp2_with fail
      go_ret
      exact ⟨O, oc, rfl, cl, HCL.out, HTW.out, HOWN.out, HKID.out, (fun e => (HON.out e).2), BL.out⟩
theorem nodes_none {w : World} {A : Option Addr} {l : List Nd} (h : Nodes w A l) (hA : A = none) : l.length = 0 := by
  by_cases h0 : 0 < l.length
  · obtain ⟨b, o, e, _⟩ := h h0; rw [hA] at e; cases e
  · omega
/-- The same grammar, but for where it lies. -/
structure GTwin (g h : Gr) : Prop where
  rules : h.rules = g.rules
  len : h.nodes.length = g.nodes.length
  node : ∀ j, j < g.nodes.length → Twin (g.nodes.getD j Nd.zero) (h.nodes.getD j Nd.zero)
theorem own_blk {w w' : World} {B e size n b : Nat} {v : Value} {xs : List Value} (h : w.ownsRow B e size v n xs) (hb : b < B) (hg : w.grownBy w' (some b)) : w'.ownsRow B e size v n xs := by
  refine h.kept hg ?_
  cases hv : v.ownBlock with
  | none => exact .inl rfl
  | some k => exact .inr (fun e => by have := (h.lt k hv).1; cases e; omega)
theorem Kid.blk {w w' : World} {B b : Nat} {o : Value} {x : Nd} (h : Kid w B o x) (hb : b < B) (hg : w.grownBy w' (some b)) : Kid w' B o x := ⟨own_blk h.1 hb hg, h.2⟩
theorem GTwin.mem {g h : Gr} (t : GTwin g h) {x : Nd} (hx : x ∈ h.nodes) : ∃ y ∈ g.nodes, Twin y x := by
  obtain ⟨j, hj, rfl⟩ := List.getElem_of_mem hx
  have hj2 : j < g.nodes.length := by rw [← t.len]; exact hj
  refine ⟨g.nodes[j], List.getElem_mem hj2, ?_⟩
  have := t.node j hj2
  simpa [List.getD, List.getElem?_eq_getElem hj, List.getElem?_eq_getElem hj2] using this
theorem GTwin.within {g h : Gr} (t : GTwin g h) (hi : Gr.In g) : Gr.In h := by
  intro x hx
  obtain ⟨y, hy, A, c, rfl⟩ := t.mem hx
  exact ⟨(hi y hy).kind, (hi y hy).text⟩
theorem GTwin.lies {w w' : World} {g h : Gr} (t : GTwin g h) (hg : Gr.At w g) (h1 : Rules w' h.RA h.rules) (h2 : Nodes w' h.NA h.nodes) (h3 : ∀ x ∈ h.nodes, Lies w' x.A (ints x.kids) ∧ (x.A = none → x.cap = 0)) (h4 : h.RA = none → h.rc = 0) (h5 : h.NA = none → h.nc = 0) : Gr.At w' h where
  rules := h1
  nodes := h2
  kids := fun x hx => by
    refine ⟨(h3 x hx).1, (h3 x hx).2, ?_⟩
    obtain ⟨y, hy, A, c, rfl⟩ := t.mem hx
    exact (hg.kids y hy).2.2
  rl := by rw [t.rules]; exact hg.rl
  nl := by rw [t.len]; exact hg.nl
  rn := h4
  nn := h5
  texts := fun x hx => by
    obtain ⟨y, hy, A, c, rfl⟩ := t.mem hx
    exact hg.texts y hy
  names := by rw [t.rules]; exact hg.names
set_option maxRecDepth 100000 in
set_option maxHeartbeats 4000000 in
theorem copyGram_any (g : Gr) (w : World) (hg : Gr.At w g) (h1 : g.rules.length ≤ 1000000) (h2 : g.nodes.length ≤ 1000000) (h3 : ∀ x ∈ g.nodes, x.kids.length ≤ 1000000) :
    Calls Try.prog 10 #[g.val] w fun e w' => (∃ h : Gr, e = .returned h.val ∧ Gr.At w' h ∧ GTwin g h) ∧ Below w.heap.size w w' := by
  have CR := Lib.hid (fun (w' : World) (b : Below w.heap.size w w') => copyRules_any g.RA g.rules g.rc h1 hg.rn w' (hg.below b).rules)
  have CN := Lib.hid (fun (w' : World) (b : Below w.heap.size w w') => copyNodes_any g.NA g.nodes g.nc h2 w' (hg.below b).nodes (fun x hx => ⟨(hg.below b).kids x hx, h3 x hx⟩))
  have HG := Lib.hid hg
  have HB := Lib.hid (And.intro h1 (And.intro h2 h3))
  clear hg h1 h2 h3
  show Calls Try.prog 10 #[.agg #[.slice g.RA g.rules.length g.rc, .slice g.NA g.nodes.length g.nc]] w _
  go_enter Try.func10, Try.ntmps10
  go_wp2_with (first | (go_at_call 31; refine (CR.out _ (B2 _ _ _)).mono ?_; rintro e w1 ⟨A1, c1, rfl, ho, hnn, hb⟩; have HO := Lib.hid (own_lower (base' := w.heap.size + 2) ho (by simp)); have HNN := Lib.hid hnn; have HLS := Lib.hid (show w.heap.size + 2 ≤ w1.heap.size by have := hb.size; simp at this; omega); have KB := Lib.hid (((Blk.new w _ _).alloc _).below' hb); have KR := Lib.hid (by have := (Blk.new (w.alloc _) _ _).below' hb; rw [World.size_alloc] at this; exact this); have H1 := Lib.hid (bb (B2 w _ _) hb); clear ho hnn hb) | (refine wpList_store_blk rfl 22 (.tmp 6) (.tmp 5) rfl w.heap.size 0 _ rfl rfl rfl 25 _ KB.out (by first | simp | (show 0 < 2; omega)) (by kernel_rfl) #[.slice A1 g.rules.length c1, .slice g.NA g.nodes.length g.nc] rfl ?_; intro w2 hk hg; have KB2 := Lib.hid hk; have KR2 := Lib.hid (KR.out.grown hg (by intro e; have := Option.some.inj e; omega)); have HO2 := Lib.hid (own_blk HO.out (by omega) hg); have H2 := Lib.hid (grown_below H1.out H1.out.size hg (fun k e => by cases e; omega)); have HL2 := Lib.hid (show w.heap.size < w2.heap.size by have := HLS.out; have := hg.size; omega); have HL3 := Lib.hid (show w.heap.size + 1 < w2.heap.size by have := HLS.out; have := hg.size; omega); have d0 := hk.cell 0; have d1 := hk.cell 1; simp only [List.getElem?_toArray, List.getElem?_cons_zero, List.getElem?_cons_succ] at d0 d1; clear hk hg) | (go_at_call 32; refine (CN.out _ H2.out).mono ?_; rintro e w3 ⟨A2, c2, rfl, cl, hcl, htw, hno, hki, hnn, hb⟩; have HCL := Lib.hid hcl; have HTW := Lib.hid htw; have HNO := Lib.hid hno; have HKI := Lib.hid hki; have HNN2 := Lib.hid hnn; have KB3 := Lib.hid (KB2.out.below' hb); have KR3 := Lib.hid (KR2.out.below' hb); have HO3 := Lib.hid (own_below HO2.out hb); have H3 := Lib.hid (bb H2.out hb); clear hcl htw hno hki hnn hb d0 d1) | (refine wpList_store_blk rfl 23 (.tmp 10) (.tmp 9) rfl w.heap.size 1 _ rfl rfl rfl 25 _ KB3.out (by first | simp | (show 1 < 2; omega)) (by kernel_rfl) #[.slice A1 g.rules.length c1, .slice A2 g.nodes.length c2] rfl ?_; intro w4 hk hg; have KR4 := Lib.hid (KR3.out.grown hg (by intro e; have := Option.some.inj e; omega)); have HO4 := Lib.hid (own_blk HO3.out (by omega) hg); have HNO4 := Lib.hid (own_blk HNO.out HL2.out hg); have HKI4 := Lib.hid (fun x hx => (HKI.out x hx).blk HL2.out hg); have H4 := Lib.hid (grown_below H3.out H3.out.size hg (fun k e => by cases e; omega)); have d0 := hk.cell 0; have d1 := hk.cell 1; simp only [List.getElem?_toArray, List.getElem?_cons_zero, List.getElem?_cons_succ] at d0 d1; clear hk hg) | (refine wpList_store_whole rfl 25 (.tmp 2) (.tmp 11) rfl (w.heap.size + 1) #[.slice A1 g.rules.length c1, .slice A2 g.nodes.length c2] rfl rfl 25 _ KR4.out (by kernel_rfl) (by rfl) (by simp [Value.oneCell']) ?_; intro w5 hk hg; have KR5 := Lib.hid hk; have HO5 := Lib.hid (own_blk HO4.out (by omega) hg); have HNO5 := Lib.hid (own_blk HNO4.out HL3.out hg); have HKI5 := Lib.hid (fun x hx => (HKI4.out x hx).blk HL3.out hg); have H5 := Lib.hid (grown_below H4.out H4.out.size hg (fun k e => by cases e; omega)); clear hk hg d0 d1))
  have T : GTwin g ⟨A1, c1, g.rules, A2, c2, cl⟩ := ⟨rfl, HCL.out, HTW.out⟩
  have HR5 := own_rules HO5.out
  have HN5 : Nodes w5 A2 cl := own_nodes (by rw [HCL.out]; exact HNO5.out)
  refine bodyPost_ret (results_cell_row rfl _ _ (w.heap.size + 1) 25 _ (0, 0) _ rfl KR5.out Try.underlying25 rfl (by kernel_rfl)) rfl ⟨⟨⟨A1, c1, g.rules, A2, c2, cl⟩, ?_, T.lies HG.out HR5 HN5 (fun x hx => ⟨own_lies1 (HKI5.out x hx).1, (HKI5.out x hx).2.1⟩) HNN.out HNN2.out, T⟩, H5.out⟩
  show Ending.returned (.agg #[.slice A1 g.rules.length c1, .slice A2 g.nodes.length c2]) = .returned (.agg #[.slice A1 g.rules.length c1, .slice A2 cl.length c2])
  rw [HCL.out]
end Go.Proofs.Ytfdfcagkfnckmaa
namespace Go.Proofs.Ytfdfcagkfnckmaa
open Go Go.RowKit
@[go_sem] theorem eqn30 (w : World) : (binOp .eql 30 (.slice none 0 0) (.slice none 0 0)).run Try.prog w = .ok (.bool true) w := by kernel_rfl
@[go_sem] theorem eqs30 (a : Addr) (n c : Nat) (w : World) : (binOp .eql 30 (.slice (some a) n c) (.slice none 0 0)).run Try.prog w = .ok (.bool false) w := by kernel_rfl
@[go_sem] theorem eqn22 (w : World) : (binOp .eql 22 (.slice none 0 0) (.slice none 0 0)).run Try.prog w = .ok (.bool true) w := by kernel_rfl
@[go_sem] theorem eqs22 (a : Addr) (n c : Nat) (w : World) : (binOp .eql 22 (.slice (some a) n c) (.slice none 0 0)).run Try.prog w = .ok (.bool false) w := by kernel_rfl
@[go_sem] theorem eqn23 (w : World) : (binOp .eql 23 (.slice none 0 0) (.slice none 0 0)).run Try.prog w = .ok (.bool true) w := by kernel_rfl
@[go_sem] theorem eqs23 (a : Addr) (n c : Nat) (w : World) : (binOp .eql 23 (.slice (some a) n c) (.slice none 0 0)).run Try.prog w = .ok (.bool false) w := by kernel_rfl
set_option maxRecDepth 100000 in
set_option maxHeartbeats 1000000 in
theorem cloneInts_any (A : Option Addr) (l : List Int) (c : Nat) (hl : l.length ≤ 1000000) (hnc : A = none → c = 0) (w : World) (h : Lies w A (ints l)) :
    Calls Try.prog 73 #[.slice A l.length c] w fun e w' => ∃ A' c', e = .returned (.slice A' l.length c') ∧ w'.ownsRow w.heap.size 3 1 (.slice A' l.length c') l.length (ints l) ∧ (A' = none → c' = 0) ∧ Below w.heap.size w w' := by
  cases hA : A with
  | none =>
    have h0 : l = [] := List.eq_nil_of_length_eq_zero (by have := none_len h hA; rwa [ints_length] at this)
    subst h0
    obtain rfl := hnc hA
    subst hA
    clear h hnc hl
    go_enter Try.func73, Try.ntmps73
    go_wp2_with fail
    go_ret
    exact ⟨none, 0, rfl, World.ownsRow_nil _ _ _ _, fun _ => rfl, Below.refl _ _⟩
  | some a =>
    obtain ⟨i0, hi, hz0, hz1, hz2⟩ := info_parts Try.info3
    subst hA
    have HN := Lib.hid (lies_news h)
    have H6 := Lib.hid (show 0 + l.length ≤ maxLen by unfold maxLen; omega)
    have H8 := Lib.hid (show (0 + l.length) * 8 ≤ 140737488355328 by omega)
    have HL := Lib.hid (show (ints l).length = l.length * 1 by rw [ints_length, Nat.mul_one])
    clear h hnc hl
    go_enter Try.func73, Try.ntmps73
    go_wp2_with (at_builtin; refine wpList_append_onto _ rfl (.tmp 5) (.tmp 6) 30 rfl w.heap.size 3 i0 (.int .i64 0) 1 8 Try.underlying30 hi hz0 hz1 hz2 rfl (by decide) (.slice (some ⟨w.heap.size, 0, none⟩) 0 0) 0 [] rfl (World.ownsRow_made w #[] 0 (Nat.le_refl _) (by unfold maxLen; omega) rfl) (some a) l.length c (ints l) rfl HL.out (fun a' ha j u hu => by have := HN.out a' ha j u hu; exact ((B1 w _).cell (World.block_lt_of_cell? _ _ this)).trans this) (fun h => nomatch h) (ints_one l) H6.out H8.out (by simp) ?_; intro v1 w1 ho hg hf; rw [Nat.zero_add, List.nil_append] at ho; obtain ⟨A1, c1, rfl, hnn, _⟩ := own_slice ho; have HO := Lib.hid ho; have HNN := Lib.hid (fun h => (hnn h).2); have HB := Lib.hid (grown_below (B1 w _) (by simp) hg (fun k e => by cases e; exact Nat.le_refl _)); clear ho hg hf hnn)
    go_ret
    exact ⟨_, _, rfl, HO.out, HNN.out, HB.out⟩
set_option maxRecDepth 100000 in
set_option maxHeartbeats 1000000 in
theorem cloneRules_any (A : Option Addr) (l : List Rl) (c : Nat) (hl : l.length ≤ 1000000) (hnc : A = none → c = 0) (w : World) (h : Rules w A l) :
    Calls Try.prog 68 #[.slice A l.length c] w fun e w' => ∃ A' c', e = .returned (.slice A' l.length c') ∧ w'.ownsRow w.heap.size 45 2 (.slice A' l.length c') l.length (rcells l) ∧ (A' = none → c' = 0) ∧ Below w.heap.size w w' := by
  cases hA : A with
  | none =>
    have h0 : l = [] := List.eq_nil_of_length_eq_zero (rules_none h hA)
    subst h0
    obtain rfl := hnc hA
    subst hA
    clear h hnc hl
    go_enter Try.func68, Try.ntmps68
    go_wp2_with fail
    go_ret
    exact ⟨none, 0, rfl, World.ownsRow_nil _ _ _ _, fun _ => rfl, Below.refl _ _⟩
  | some a =>
    obtain ⟨i0, hi, hz0, hz1, hz2⟩ := info_parts Try.info45
    subst hA
    have HN := Lib.hid (h.news)
    have H6 := Lib.hid (show 0 + l.length ≤ maxLen by unfold maxLen; omega)
    have H8 := Lib.hid (show (0 + l.length) * 24 ≤ 140737488355328 by omega)
    have HL := Lib.hid (rcells_length l)
    clear h hnc hl
    go_enter Try.func68, Try.ntmps68
    go_wp2_with (at_builtin; refine wpList_append_onto _ rfl (.tmp 5) (.tmp 6) 22 rfl w.heap.size 45 i0 _ 2 24 Try.underlying22 hi hz0 hz1 hz2 rfl (by decide) (.slice (some ⟨w.heap.size, 0, none⟩) 0 0) 0 [] rfl (World.ownsRow_made w #[] 0 (Nat.le_refl _) (by unfold maxLen; omega) rfl) (some a) l.length c (rcells l) rfl HL.out (fun a' ha j u hu => by have := HN.out a' ha j u hu; exact ((B1 w _).cell (World.block_lt_of_cell? _ _ this)).trans this) (fun h => nomatch h) (rcells_one l) H6.out H8.out (by simp) ?_; intro v1 w1 ho hg hf; rw [Nat.zero_add, List.nil_append] at ho; obtain ⟨A1, c1, rfl, hnn, _⟩ := own_slice ho; have HO := Lib.hid ho; have HNN := Lib.hid (fun h => (hnn h).2); have HB := Lib.hid (grown_below (B1 w _) (by simp) hg (fun k e => by cases e; exact Nat.le_refl _)); clear ho hg hf hnn)
    go_ret
    exact ⟨_, _, rfl, HO.out, HNN.out, HB.out⟩
theorem ncells_one : ∀ (l : List Nd), ∀ u ∈ ncells l, u.oneCell' = true
  | [], u, h => by simp [ncells] at h
  | x :: l, u, h => by
    rw [ncells, List.mem_append] at h
    rcases h with h | h
    · exact cells_one x u h
    · exact ncells_one l u h
theorem Nodes.news {w : World} {A : Option Addr} {l : List Nd} (h : Nodes w A l) : ∀ a, A = some a → ∀ j u, (ncells l)[j]? = some u → w.cell? (a.add j) = some u := by
  intro a ha j u hu
  have hj := (List.getElem?_eq_some_iff.1 hu).1
  rw [ncells_length] at hj
  obtain ⟨b, o, e, _, hc⟩ := h (by omega)
  rw [ha] at e
  obtain rfl := Option.some.inj e
  have hm := Nat.mod_lt j (show 0 < 9 by omega)
  have h1 := hc (j / 9) (by omega) (j % 9) hm
  have h2 := ncells_at l (j / 9) (j % 9) (by omega) hm
  have ej : j / 9 * 9 + j % 9 = j := by omega
  rw [ej] at h2
  rw [Nat.add_assoc, ej] at h1
  rw [Addr.add_lit, h1, ← h2, hu]
set_option maxRecDepth 100000 in
set_option maxHeartbeats 1000000 in
theorem cloneNodes_any (A : Option Addr) (l : List Nd) (c : Nat) (hl : l.length ≤ 1000000) (hnc : A = none → c = 0) (w : World) (h : Nodes w A l) :
    Calls Try.prog 70 #[.slice A l.length c] w fun e w' => ∃ A' c', e = .returned (.slice A' l.length c') ∧ w'.ownsRow w.heap.size 32 9 (.slice A' l.length c') l.length (ncells l) ∧ (A' = none → c' = 0) ∧ Below w.heap.size w w' := by
  cases hA : A with
  | none =>
    have h0 : l = [] := List.eq_nil_of_length_eq_zero (nodes_none h hA)
    subst h0
    obtain rfl := hnc hA
    subst hA
    clear h hnc hl
    go_enter Try.func70, Try.ntmps70
    go_wp2_with fail
    go_ret
    exact ⟨none, 0, rfl, World.ownsRow_nil _ _ _ _, fun _ => rfl, Below.refl _ _⟩
  | some a =>
    obtain ⟨i0, hi, hz0, hz1, hz2⟩ := info_parts Try.info32
    subst hA
    have HN := Lib.hid (h.news)
    have H6 := Lib.hid (show 0 + l.length ≤ maxLen by unfold maxLen; omega)
    have H8 := Lib.hid (show (0 + l.length) * 96 ≤ 140737488355328 by omega)
    have HL := Lib.hid (ncells_length l)
    clear h hnc hl
    go_enter Try.func70, Try.ntmps70
    go_wp2_with (at_builtin; refine wpList_append_onto _ rfl (.tmp 5) (.tmp 6) 23 rfl w.heap.size 32 i0 _ 9 96 Try.underlying23 hi hz0 hz1 hz2 rfl (by decide) (.slice (some ⟨w.heap.size, 0, none⟩) 0 0) 0 [] rfl (World.ownsRow_made w #[] 0 (Nat.le_refl _) (by unfold maxLen; omega) rfl) (some a) l.length c (ncells l) rfl HL.out (fun a' ha j u hu => by have := HN.out a' ha j u hu; exact ((B1 w _).cell (World.block_lt_of_cell? _ _ this)).trans this) (fun h => nomatch h) (ncells_one l) H6.out H8.out (by simp) ?_; intro v1 w1 ho hg hf; rw [Nat.zero_add, List.nil_append] at ho; obtain ⟨A1, c1, rfl, hnn, _⟩ := own_slice ho; have HO := Lib.hid ho; have HNN := Lib.hid (fun h => (hnn h).2); have HB := Lib.hid (grown_below (B1 w _) (by simp) hg (fun k e => by cases e; exact Nat.le_refl _)); clear ho hg hf hnn)
    go_ret
    exact ⟨_, _, rfl, HO.out, HNN.out, HB.out⟩
end Go.Proofs.Ytfdfcagkfnckmaa
namespace Go.Proofs.Ytfdfcagkfnckmaa
open Go Go.RowKit
set_option maxRecDepth 100000 in
set_option maxHeartbeats 4000000 in
theorem gcopyRules_any (A : Option Addr) (l : List Rl) (c : Nat) (hl : l.length ≤ 1000000) (hnc : A = none → c = 0) (hs : ∀ r ∈ l, r.name.size ≤ 281474976710656) (w : World) (h : Rules w A l) :
    Calls Try.prog 46 #[.slice A l.length c] w fun e w' => ∃ A' c', e = .returned (.slice A' l.length c') ∧ w'.ownsRow w.heap.size 45 2 (.slice A' l.length c') l.length (rcells l) ∧ (A' = none → c' = 0) ∧ Below w.heap.size w w' := by
  have CL := Lib.hid (cloneRules_any A l c hl hnc w h)
  have HS := Lib.hid hs
  obtain ⟨m, em⟩ : ∃ m, m = l.length := ⟨_, rfl⟩
  have EM := Lib.hid em
  rw [← em] at hl CL ⊢
  clear h hs em hnc
  go_enter Try.func46, Try.ntmps46
  go_wp2_with (go_at_call 68; refine CL.out.mono ?_; rintro e w1 ⟨A1, c1, rfl, ho, hnn, hb⟩; have HO := Lib.hid ho; have HNN := Lib.hid hnn; have H1 := Lib.hid hb; clear ho hnn hb)
  go_loopw [10] (fun i wr => ∃ k : Nat, k ≤ m ∧ i = .int .i64 k ∧ wr.ownsRow w.heap.size 45 2 (.slice A1 m c1) m (rcells l) ∧ Below w.heap.size w wr) (fun i _ => m - (intOf i).toNat)
  case atStart => exact ⟨0, by omega, rfl, HO.out, H1.out⟩
  case round =>
    obtain ⟨k, hk, rfl, ho, hb⟩ := hrel
    by_cases hlt : k < m
    · have hlt2 : (k : Int) < m := by omega
      obtain ⟨d0, d1⟩ := rcells_at l k (by have := EM.out; omega)
      have hsz := HS.out (l.getD k Rl.zero) (getD_mem (by have := EM.out; omega))
      generalize l.getD k Rl.zero = x at d0 d1 hsz
      obtain ⟨g, rfl⟩ : ∃ g, A1 = some ⟨g, 0, none⟩ := by
        rcases ho.2 with ⟨_, h2⟩ | ⟨g, cap, cur, h1, _⟩
        · omega
        · simp only [Value.slice.injEq] at h1
          exact ⟨g, h1.1⟩
      have c0 := (ho.cellAt (k * 2) (by omega)).trans d0
      have c1' := (ho.cellAt (k * 2 + 1) (by omega)).trans d1
      have CS := Lib.hid (fun w => cloneStr_any x.name hsz w)
      have OB := Lib.hid ho
      have BB := Lib.hid hb
      have D0 := Lib.hid d0
      clear ho hb d0 d1 hsz
      go_wp2_with (first | (refine wpList_store_whole rfl 45 (.tmp 5) (.tmp 14) rfl wr.heap.size #[.string x.name, .int .i64 x.body] rfl rfl 45 _ (Blk.new _ _ _) (by kernel_rfl) (by rfl) (by simp [Value.oneCell']) ?_; intro w2 hk2 hg; have H2 := Lib.hid (grown_below (B1 wr _) (by simp) hg (fun k e => by cases e; exact Nat.le_refl _)); have e0 := hk2.cell 0; simp only [List.getElem?_toArray, List.getElem?_cons_zero, List.getElem?_cons_succ] at e0; clear hk2 hg c0 c1') | (go_at_call 69; refine (CS.out _).mono ?_; rintro e w3 ⟨rfl, hb⟩; have H3 := Lib.hid (bb H2.out hb); have O3 := Lib.hid (own_below OB.out H3.out); have cc := (O3.out.cellAt (k * 2) (by omega)).trans D0.out; have ff := O3.out.frozenAt (k * 2); clear hb e0))
      go_roundw
      case rel =>
        obtain ⟨q1, q2⟩ := O3.out.stored (k * 2) (.string x.name)
        have e : (rcells l).set (k * 2) (.string x.name) = rcells l := by
          apply List.ext_getElem?
          intro j
          rw [List.getElem?_set]
          split
          · rename_i e; subst e; split
            · exact D0.out.symm
            · rw [List.getElem?_eq_none (by omega)]
          · rfl
        rw [e] at q1
        exact ⟨k + 1, by omega, by go_num, q1, grown_below (bb BB.out H3.out) (bb BB.out H3.out).size q2 (fun k e => by cases e; exact (O3.out.lt _ rfl).1)⟩
      case measure => simp [intOf]; omega
    · obtain rfl : k = m := by omega
      have hlt2 : ¬ (k : Int) < k := by omega
      have OB := Lib.hid ho
      have BB := Lib.hid hb
      clear ho hb
      go_wp2_with fail
      go_ret
      exact ⟨_, _, rfl, OB.out, HNN.out, BB.out⟩
end Go.Proofs.Ytfdfcagkfnckmaa
namespace Go.Proofs.Ytfdfcagkfnckmaa
open Go Go.RowKit Go.Shelf
attribute [local go_sem] Oper.semAt_some
/-- What is known of the k-th copy. -/
def CopyIs (B : Nat) (l : List Nd) (k : Nat) (x : Option Addr × Nat) (W : World) : Prop :=
  W.ownsRow B 3 1 (.slice x.1 (l.getD k Nd.zero).kids.length x.2) (l.getD k Nd.zero).kids.length (ints (l.getD k Nd.zero).kids) ∧ (x.1 = none → x.2 = 0)
theorem copy_done {wr w4 : World} {b5 D c1 : Nat} {x : Nd} {A1 : Option Addr} (h : Blk w4 b5 x.cells.toArray 32) (ho : w4.ownsRow D 3 1 (.slice A1 x.kids.length c1) x.kids.length (ints x.kids)) (hD : b5 < D) (h4 : Below wr.heap.size wr w4) (e : b5 = wr.heap.size) (W5 : World)
    (eW : W5 = (w4.setCell ⟨b5, 5, none⟩ (.string x.text)).setCell ⟨b5, 8, none⟩ (.slice A1 x.kids.length c1)) :
    Blk W5 b5 (x.at_ A1 c1).cells.toArray 32 ∧ W5.ownsRow wr.heap.size 3 1 (.slice A1 x.kids.length c1) x.kids.length (ints x.kids) ∧ Below wr.heap.size wr W5 := by
  have k1 : Blk (w4.setCell ⟨b5, 5, none⟩ (.string x.text)) b5 x.cells.toArray 32 := heap_setCell_same w4 b5 5 x.cells.toArray 32 (.string x.text) h
  have k2 : Blk W5 b5 (x.at_ A1 c1).cells.toArray 32 := by rw [eW]; exact heap_setCell_same _ b5 8 x.cells.toArray 32 (.slice A1 x.kids.length c1) k1
  have g : w4.grownBy W5 (some b5) := by
    rw [eW]
    exact ⟨rfl, rfl, rfl, by simp, fun k hk hne => (heap_setCell_other _ ⟨b5, 8, none⟩ k _ (fun e => hne (by rw [e]))).trans (heap_setCell_other w4 ⟨b5, 5, none⟩ k _ (fun e => hne (by rw [e])))⟩
  exact ⟨k2, own_lower (own_blk ho hD g) (by omega), grown_below h4 h4.size g (fun k e' => by cases e'; omega)⟩
theorem Nd.At.left {w w' : World} {G : Nat → Prop} {B : Nat} {x : Nd} (h : Nd.At w x) (hl : Left G B w w') (hg : ∀ b o, x.A = some ⟨b, o, none⟩ → 0 < x.kids.length → G b) : Nd.At w' x := by
  refine ⟨fun h0 => ?_, h.2⟩
  obtain ⟨b, o, e, hb, hc⟩ := h.1 h0
  exact ⟨b, o, e, Nat.lt_of_lt_of_le hb hl.size, fun i hi => (World.cell?_of_block (a := ⟨b, o + i, none⟩) (hl.block b hb (.inl (hg b o e (by rwa [ints_length] at h0))))).trans (hc i hi)⟩
set_option maxRecDepth 100000 in
set_option maxHeartbeats 8000000 in
theorem copies_in (n : Nat) (hn : 6 ≤ n) (l p q : Nat) (A : Option Addr) (c : Nat) (first : Nat) (a : List Nd) (ha : a.length ≤ 1000000) (hf : first ≤ 1000000) (hks : ∀ x ∈ a, x.kids.length ≤ 1000000 ∧ x.text.size ≤ 281474976710656) (G : Nat → Prop) (hp : G p) (hq : G q) (hG : ∀ b o, A = some ⟨b, o, none⟩ → 0 < a.length → G b) (hGk : ∀ x ∈ a, ∀ b o, x.A = some ⟨b, o, none⟩ → 0 < x.kids.length → G b) (J Jx : Nat → World → Prop) (hJ : Grw J) (hJx : Grw Jx)
    (B : Nat) (hY : ∀ k x W1, J k W1 → CopyIs B a k x W1 → B ≤ W1.heap.size → k < a.length → YieldAt Fence.wide (n - 1) Try.prog l #[.int .i64 ((first + k : Nat) : Int), ((a.getD k Nd.zero).at_ x.1 x.2).val] W1 fun e W' =>
      (e = .returned (.bool true) ∧ J (k + 1) W' ∧ Left G B W1 W') ∨ (e = .returned (.bool false) ∧ Jx (k + 1) W' ∧ Left (fun _ => False) B W1 W'))
    (W : World) (hB : B ≤ W.heap.size) (hbox : Blk W p #[.slice A a.length c] 23) (hbox2 : Blk W q #[.int .i64 (first : Int)] 3) (hx : Nodes W A a) (hk : ∀ x ∈ a, Nd.At W x) (h0 : J 0 W) :
    CallsIn Fence.wide n Try.prog 72 #[.func (.yield l) #[] #[], .pointer (some ⟨p, 0, none⟩), .pointer (some ⟨q, 0, none⟩)] W fun e W' => (∃ v, e = .returned v) ∧ (J a.length W' ∨ ∃ k, k ≤ a.length ∧ Jx k W') := by
  have HX := Lib.hid hx
  have HK := Lib.hid hk
  have HY := Lib.hid hY
  have H0 := Lib.hid h0
  have HGG := Lib.hid hG
  have HGK := Lib.hid hGk
  have HB := Lib.hid hbox
  have HB2 := Lib.hid hbox2
  have HSZ := Lib.hid hB
  have HKS := Lib.hid hks
  have HJ := Lib.hid hJ
  have HJX := Lib.hid hJx
  have c0 := hbox.cell 0
  have HP := Lib.hid hp
  have HQ := Lib.hid hq
  simp only [List.getElem?_toArray, List.getElem?_cons_zero] at c0
  obtain ⟨m, em⟩ : ∃ m, m = a.length := ⟨_, rfl⟩
  rw [← em] at HY HB c0 ha ⊢
  have EM := Lib.hid em
  clear hx hk hY h0 hG hGk hbox hbox2 hp hq hB em hks hJ hJx
  refine callsIn_of_wp Try.func72 rfl trivial ?_ rfl
  simp only [Try.ntmps72, List.size_toArray, List.length_cons, List.length_nil, Nat.reduceAdd, Nat.reduceSub, Array.replicate_succ, Array.replicate_zero, List.push_toArray, List.append_toArray, List.nil_append, List.cons_append]
  gi_wp2_with (fail)
  clear c0
  gi_loopw [8] (fun i wr => ∃ k : Nat, k ≤ m ∧ i = .int .i64 k ∧ J k wr ∧ Blk wr p #[.slice A m c] 23 ∧ Blk wr q #[.int .i64 (first : Int)] 3 ∧ Nodes wr A a ∧ (∀ x ∈ a, Nd.At wr x) ∧ B ≤ wr.heap.size)
    (fun i _ => m - (intOf i).toNat)
  case atStart => exact ⟨0, by omega, by go_num, H0.out, HB.out, HB2.out, HX.out, HK.out, HSZ.out⟩
  case round =>
    obtain ⟨k, hk, rfl, hJ, hbx, hbx2, hx, hka, hz⟩ := hrel
    by_cases hlt : k < m
    · have hlt2 : (k : Int) < m := by omega
      have hkl : k < a.length := by have := EM.out; omega
      have HYK := Lib.hid (fun x W1 h1 h2 h3 => HY.out k x W1 h1 h2 h3 hlt)
      obtain ⟨b1, o1, eA, _, n1, n2, n3, n4, n5, n6, n7, n8, n9⟩ := hx.nine hkl
      obtain ⟨s1, s2⟩ := HKS.out (a.getD k Nd.zero) (getD_mem hkl)
      have hat := hka (a.getD k Nd.zero) (getD_mem hkl)
      have HHJ := Lib.hid hJ
      have BX := Lib.hid hbx
      have BX2 := Lib.hid hbx2
      have HXX := Lib.hid hx
      have HKA := Lib.hid hka
      have HZ := Lib.hid hz
      unfold CopyIs at HYK
      generalize hxx : a.getD k Nd.zero = x at HYK n1 n2 n3 n4 n5 n6 n7 n8 n9 s1 s2 hat
      have HXE := Lib.hid hxx
      have EA := Lib.hid eA
      rw [eA]
      clear hJ hbx hbx2 hx hka hz hxx eA
      gi_wp2_with fail
      obtain ⟨w2, ew2⟩ : ∃ u, u = wr.alloc (.cells #[.int .i64 x.kind, .int .u64 x.c0, .int .u64 x.c1, .int .u64 x.c2, .int .u64 x.c3, .string x.text, .int .i64 x.rule, .int .i64 x.level, .slice x.A x.kids.length x.cap] 32) := ⟨_, rfl⟩
      obtain ⟨b5, eb5⟩ : ∃ u, u = wr.heap.size := ⟨_, rfl⟩
      rw [← ew2, ← eb5]
      have hk2 : Blk w2 b5 x.cells.toArray 32 := by rw [ew2, eb5]; exact Blk.new _ _ _
      have K2 := Lib.hid hk2
      have c5 := hk2.cell 5
      have f5 := hk2.frozen 5
      have c8 := hk2.cell 8
      have f8 := hk2.frozen 8
      simp only [Nd.cells, List.getElem?_toArray, List.getElem?_cons_zero, List.getElem?_cons_succ] at c5 c8
      have CS := Lib.hid (fun w => cloneStr_any x.text s2 w)
      have CK := Lib.hid (fun (W' : World) (b : Below wr.heap.size wr W') => cloneInts_any x.A x.kids x.cap s1 hat.2.1 W' (hat.below b).1)
      clear n1 n2 n3 n4 n5 n6 n7 n8 n9 hk2 s1 s2 hat
      have EB := Lib.hid eb5
      have HW2 : RowKit.Hid (Below wr.heap.size wr w2) := Lib.hid (by rw [ew2]; exact B1 _ _)
      clear ew2 eb5
      refine wpIn_wide.2 ?_
      go_region_with (first | (go_at_call 69; refine (CS.out _).mono ?_; rintro e w3 ⟨rfl, hb⟩; have K3 := Lib.hid (Blk.below' (b := b5) (vs := x.cells.toArray) (T := 32) (h := by exact K2.out) hb); have d5 := K3.out.cell 5; have g5 := K3.out.frozen 5; have d8 := K3.out.cell 8; have g8 := K3.out.frozen 8; simp only [Nd.cells, List.getElem?_toArray, List.getElem?_cons_zero, List.getElem?_cons_succ] at d5 d8; have H3 := Lib.hid (show Below wr.heap.size wr w3 from by first | exact bb HW2.out hb | exact bb (bdrew1 HW2.out) hb | exact bb (bdrew1 (bdrew1 HW2.out)) hb | exact bb (bdrew1 (bdrew1 (bdrew1 HW2.out))) hb); clear hb) | (go_at_call 73; first | (refine (CK.out _ (by first | exact H3.out | exact bdrew1 H3.out | exact bdrew1 (bdrew1 H3.out))).mono ?_; rintro e w4 ⟨A1, c1, rfl, ho, hnn, hb⟩; have K4 := Lib.hid (Blk.below' (b := b5) (vs := x.cells.toArray) (T := 32) (h := by exact K3.out) hb); have H4 := Lib.hid (show Below wr.heap.size wr w4 from by first | exact bb H3.out hb | exact bb (bdrew1 H3.out) hb | exact bb (bdrew1 (bdrew1 H3.out)) hb); have HO := Lib.hid ho; have HNN := Lib.hid hnn; have k5 := K4.out.cell 5; have m5 := K4.out.frozen 5; have k8 := K4.out.cell 8; have m8 := K4.out.frozen 8; simp only [Nd.cells, List.getElem?_toArray, List.getElem?_cons_zero, List.getElem?_cons_succ] at k5 k8; clear ho hnn hb d5 g5 d8 g8) | (refine (CK.out _ (by first | exact (H3.out.setCell (p := ⟨b5, 5, none⟩) (by rw [EB.out]; exact Nat.le_refl _) _) | exact bdrew1 (H3.out.setCell (p := ⟨b5, 5, none⟩) (by rw [EB.out]; exact Nat.le_refl _) _))).mono ?_; rintro e w4 ⟨A1, c1, rfl, ho, hnn, hb⟩; fail)))
      all_goals (
        have HOB := Lib.hid (own_lower (base' := b5 + 1) HO.out (by have := K3.out.lt; first | exact this | (simp; omega)))
        generalize hW5 : (World.setCell _ _ _ : World) = W5
        obtain ⟨q1, q2, q3⟩ := copy_done K4.out HOB.out (by omega) H4.out EB.out W5 hW5.symm
        have K5 := Lib.hid q1
        have Q2 := Lib.hid q2
        have H5 := Lib.hid q3
        have e0 := q1.cell 0; have e1 := q1.cell 1; have e2 := q1.cell 2; have e3 := q1.cell 3; have e4 := q1.cell 4; have e5 := q1.cell 5; have e6 := q1.cell 6; have e7 := q1.cell 7; have e8 := q1.cell 8
        simp only [Nd.cells, List.getElem?_toArray, List.getElem?_cons_zero, List.getElem?_cons_succ] at e0 e1 e2 e3 e4 e5 e6 e7 e8
        have cq := (BX2.out.below' q3).cell 0
        simp only [List.getElem?_toArray, List.getElem?_cons_zero] at cq
        have h5 := HYK.out (A1, c1) W5 (HJ.out k _ _ HHJ.out q3) ⟨own_lower q2 HZ.out, HNN.out⟩ (Nat.le_trans HZ.out q3.size)
        have hwf : IntKind.i64.wrap ((first : Int) + k) = ((first + k : Nat) : Int) := (IntWalk.i64_in _ (by omega)).trans (by omega)
        obtain ⟨fk, efk⟩ : ∃ fk : Nat, fk = first + k := ⟨_, rfl⟩
        rw [← efk] at h5 hwf
        obtain ⟨fn, tmps, assign, body, hy, hR⟩ := h5
        have HR := Lib.hid hR
        clear hW5 q1 q2 q3 hR k5 m5 k8 m8 c5 f5 c8 f8
        clear efk
        dsimp only [Nd.at_, Nd.val] at hy
        gi_wp2_with fail
        refine ⟨fun _ => by omega, HR.out.mono ?_⟩
        clear hy e0 e1 e2 e3 e4 e5 e6 e7 e8 cq hwf
        rintro e W3 (⟨rfl, hJ3, hl3⟩ | ⟨rfl, hJx3, hz3⟩)
        · have B3 := Lib.hid ((hl3.block p (BX.out.below' H5.out).lt (.inl HP.out)).trans (BX.out.below' H5.out))
          have B4 := Lib.hid ((hl3.block q (BX2.out.below' H5.out).lt (.inl HQ.out)).trans (BX2.out.below' H5.out))
          have HX3 := Lib.hid ((HXX.out.below H5.out).left hl3 HGG.out)
          have HK3 := Lib.hid (fun y (hy : y ∈ a) => ((HKA.out y hy).below H5.out).left hl3 (HGK.out y hy))
          have HJ3 := Lib.hid hJ3
          have HZ3 : RowKit.Hid (B ≤ W3.heap.size) := Lib.hid (Nat.le_trans (Nat.le_trans HZ.out H5.out.size) hl3.size)
          clear hJ3 hl3
          gi_wp2_with fail
          go_roundw
          case rel => exact ⟨k + 1, by omega, by go_num, HJ3.out, by rw [← EA.out]; exact B3.out, B4.out, by rw [← EA.out]; exact HX3.out, HK3.out, HZ3.out⟩
          case measure => simp [intOf]; omega
        · have HJ3 := Lib.hid hJx3
          clear hJx3 hz3
          gi_wp2_with fail
          refine bodyPost_ret (results_none rfl _ _ _) rfl ?_
          exact ⟨⟨_, rfl⟩, .inr ⟨k + 1, by omega, HJ3.out⟩⟩)
    · obtain rfl : k = m := by omega
      have HJ3 := Lib.hid hJ
      have hneg : ¬ (k : Int) < k := by omega
      clear hJ hbx hx hka hbx2 hz
      gi_wp2_with fail
      go_end0
      exact ⟨⟨_, rfl⟩, .inl HJ3.out⟩
theorem copies_seq (n : Nat) (hn : 6 ≤ n) (p q : Nat) (A : Option Addr) (c first : Nat) (a : List Nd) (ha : a.length ≤ 1000000) (hf : first ≤ 1000000) (hks : ∀ x ∈ a, x.kids.length ≤ 1000000 ∧ x.text.size ≤ 281474976710656) (G : Nat → Prop) (hp : G p) (hq : G q) (hG : ∀ b o, A = some ⟨b, o, none⟩ → 0 < a.length → G b) (hGk : ∀ x ∈ a, ∀ b o, x.A = some ⟨b, o, none⟩ → 0 < x.kids.length → G b)
    (w : World) (hbox : Blk w p #[.slice A a.length c] 23) (hbox2 : Blk w q #[.int .i64 (first : Int)] 3) (hx : Nodes w A a) (hk : ∀ x ∈ a, Nd.At w x) :
    SeqE n Try.prog 72 #[.pointer (some ⟨p, 0, none⟩), .pointer (some ⟨q, 0, none⟩)] (fun k x => #[.int .i64 ((first + k : Nat) : Int), ((a.getD k Nd.zero).at_ x.1 x.2).val]) (CopyIs w.heap.size a) a.length G w :=
  fun l J Jx W hW hJ hJx hY h0 => copies_in n hn l p q A c first a ha hf hks G hp hq hG hGk J Jx hJ hJx W.heap.size (fun k x W1 h1 h2 h3 h4 => hY k x W1 h1 ⟨own_lower h2.1 hW.size, h2.2⟩ h3 h4) W (Nat.le_refl _) (hbox.below' hW) (hbox2.below' hW) (hx.below hW) (fun x hx => (hk x hx).below hW) h0
theorem copies_any (A : Option Addr) (m c : Nat) (first : Int) (w : World) : Calls Try.prog 54 #[.slice A m c, .int .i64 first] w fun e w' => e = .returned (.func (.func 72) #[] #[.pointer (some ⟨w.heap.size, 0, none⟩), .pointer (some ⟨w.heap.size + 1, 0, none⟩)]) ∧ w' = (w.alloc (.cells #[.slice A m c] 23)).alloc (.cells #[.int .i64 first] 3) := by
  go_enter Try.func54, Try.ntmps54
  go_wp2_with fail
  go_ret
  exact ⟨rfl, rfl⟩
end Go.Proofs.Ytfdfcagkfnckmaa
namespace Go.Proofs.Ytfdfcagkfnckmaa
open Go Go.RowKit Go.Shelf
attribute [local go_sem] Oper.semAt_some
theorem own_put {w : World} {base e size n b : Nat} {v : Value} {xs : List Value} {lp : Loop} (h : w.ownsRow base e size v n xs) (hl : w.heap[b]? = some (.loop lp)) (o : Obj) : (w.putObj b o).ownsRow base e size v n xs := by
  refine ⟨h.1, ?_⟩
  rcases h.2 with hn | ⟨g, cap, cur, rfl, hbg, hgg, rest⟩
  · exact .inl hn
  · exact .inr ⟨g, cap, cur, rfl, hbg, (World.putObj_heap_other (by intro e; subst e; rw [hl] at hgg; cases hgg)).trans hgg, rest⟩
theorem own_putD {w : World} {base e size n b : Nat} {v : Value} {xs : List Value} {d : Option (List Deferred)} (h : w.ownsRow base e size v n xs) (hl : w.heap[b]? = some (.deferred d)) (o : Obj) : (w.putObj b o).ownsRow base e size v n xs := by
  refine ⟨h.1, ?_⟩
  rcases h.2 with hn | ⟨g, cap, cur, rfl, hbg, hgg, rest⟩
  · exact .inl hn
  · exact .inr ⟨g, cap, cur, rfl, hbg, (World.putObj_heap_other (by intro e; subst e; rw [hl] at hgg; cases hgg)).trans hgg, rest⟩
theorem Blk.put {w : World} {b d : Nat} {vs : Array Value} {T : TypeId} {lp : Loop} (h : Blk w d vs T) (hl : w.heap[b]? = some (.loop lp)) (o : Obj) : Blk (w.putObj b o) d vs T :=
  (World.putObj_heap_other (by intro e; subst e; have h' : w.heap[d]? = some (.cells vs T (0, 0)) := h; rw [hl] at h'; cases h')).trans h
theorem below_put {B b : Nat} {w0 w : World} (h : Below B w0 w) (hb : B ≤ b) (o : Obj) : Below B w0 (w.putObj b o) := h.trans (below_putObj w b B o hb)
/-- What lies as copies are laid into a row. -/
structure CN (w : World) (l : List Nd) (t3 : Nat) (v : Value) (m k : Nat) (W : World) : Prop where
  row : ∃ cl : List Nd, cl.length = k ∧ (∀ j, j < k → Twin (l.getD j Nd.zero) (cl.getD j Nd.zero)) ∧ W.ownsRow w.heap.size 32 9 v m (ncells (cl ++ l.drop k)) ∧ (∀ x ∈ cl, Kid W w.heap.size v x)
  box : Blk W t3 #[v] 23
  low : Below w.heap.size w W
theorem CN.grow {w W W' : World} {l : List Nd} {t3 m k : Nat} {v : Value} (h : CN w l t3 v m k W) (hb : Below W.heap.size W W') : CN w l t3 v m k W' := by
  obtain ⟨⟨cl, h1, h2, h3, h4⟩, h5, h6⟩ := h
  exact ⟨⟨cl, h1, h2, own_below h3 hb, fun x hx => (h4 x hx).below hb⟩, h5.below' hb, bb h6 hb⟩
theorem CN.put {w W : World} {l : List Nd} {t3 m k b : Nat} {v : Value} {lp : Loop} (h : CN w l t3 v m k W) (hl : W.heap[b]? = some (.loop lp)) (hb : w.heap.size ≤ b) (o : Obj) : CN w l t3 v m k (W.putObj b o) := by
  obtain ⟨⟨cl, h1, h2, h3, h4⟩, h5, h6⟩ := h
  exact ⟨⟨cl, h1, h2, own_put h3 hl o, fun x hx => ⟨own_put (h4 x hx).1 hl o, (h4 x hx).2⟩⟩, h5.put hl o, below_put h6 hb o⟩
theorem ncells_more : ∀ (a b : List Nd), ncells (a ++ b) = ncells a ++ ncells b
  | [], b => rfl
  | x :: a, b => by simp [ncells, ncells_more a b]
/-- One copy more. -/
theorem CN.next {w W : World} {l : List Nd} {t3 g rc m k : Nat} {A1 : Option Addr} {c1 B : Nat} (h : CN w l t3 (.slice (some ⟨g, 0, none⟩) m rc) m k W) (hk : k < l.length) (hm : m = l.length) (hB : g < B) (ht : t3 < B ∧ t3 ≠ g) (hg : w.heap.size ≤ g)
    (hc : CopyIs B l k (A1, c1) W) (hwB : w.heap.size ≤ B) : CN w l t3 (.slice (some ⟨g, 0, none⟩) m rc) m (k + 1) (W.setCells g (k * 9) ((l.getD k Nd.zero).at_ A1 c1).cells) := by
  obtain ⟨⟨cl, h1, h2, h3, h4⟩, h5, h6⟩ := h
  obtain ⟨c2, c3⟩ := hc
  have hlen : (ncells (cl ++ l.drop k)).length = l.length * 9 := by rw [ncells_length]; simp; omega
  obtain ⟨o1, o2⟩ := own_set (w := W) ((l.getD k Nd.zero).at_ A1 c1).cells (k * 9) W _ h3 (by rw [hlen]; simp [Nd.cells]; omega)
  have hcat : (ncells (cl ++ l.drop k)).take (k * 9) ++ ((l.getD k Nd.zero).at_ A1 c1).cells ++ (ncells (cl ++ l.drop k)).drop (k * 9 + ((l.getD k Nd.zero).at_ A1 c1).cells.length) = ncells ((cl ++ [(l.getD k Nd.zero).at_ A1 c1]) ++ l.drop (k + 1)) := by
    have hl9 : (ncells cl).length = k * 9 := by rw [ncells_length, h1]
    have hx9 : ∀ x : Nd, x.cells.length = 9 := fun x => rfl
    rw [List.drop_eq_getElem_cons hk, ncells_more, ncells, List.take_append_of_le_length (by omega), List.take_of_length_le (by omega), hx9, List.drop_append, List.drop_of_length_le (by omega), hl9, List.nil_append, show k * 9 + 9 - k * 9 = 9 by omega, List.drop_append_of_le_length (by rw [hx9]; omega), List.drop_of_length_le (by rw [hx9]; omega), List.nil_append, ncells_more, ncells_app]
  rw [hcat] at o1
  have hgk : ∀ x : Nd, Kid W w.heap.size (.slice (some ⟨g, 0, none⟩) m rc) x → Kid (W.setCells g (k * 9) ((l.getD k Nd.zero).at_ A1 c1).cells) w.heap.size (.slice (some ⟨g, 0, none⟩) m rc) x := fun x hx => hx.grown (by simpa [Value.ownBlock] using o2) (fun k e => .inl e)
  refine ⟨⟨cl ++ [(l.getD k Nd.zero).at_ A1 c1], by simp [h1], fun j hj => ?_, o1, fun x hx => ?_⟩, h5.grown o2 (fun e => ht.2 (by simpa using e)), grown_below h6 h6.size o2 (fun q e => by cases e; exact hg)⟩
  · by_cases ej : j = k
    · have e : (cl ++ [(l.getD k Nd.zero).at_ A1 c1]).getD k Nd.zero = (l.getD k Nd.zero).at_ A1 c1 := by
        rw [List.getD_eq_getElem?_getD, List.getElem?_append_right (by omega), h1]
        simp
      rw [ej, e]
      exact ⟨A1, c1, rfl⟩
    · have e : (cl ++ [(l.getD k Nd.zero).at_ A1 c1]).getD j Nd.zero = cl.getD j Nd.zero := by
        rw [List.getD_eq_getElem?_getD, List.getElem?_append_left (by omega), List.getD_eq_getElem?_getD]
      rw [e]
      exact h2 j (by omega)
  · rcases List.mem_append.1 hx with hx | hx
    · exact hgk x (h4 x hx)
    · simp at hx
      subst hx
      refine hgk _ ⟨own_lower c2 hwB, c3, fun a ha e => ?_⟩
      have q2 := (c2.lt a.block (by dsimp only [Nd.at_] at ha; dsimp only; rw [ha]; rfl)).1
      simp only [Value.ownBlock, Option.some.injEq] at e
      omega
set_option maxRecDepth 100000 in
set_option maxHeartbeats 8000000 in
theorem gcopyNodes_any (A : Option Addr) (l : List Nd) (c : Nat) (hl : l.length ≤ 1000000) (hnc : A = none → c = 0) (w : World) (h : Nodes w A l) (hx : ∀ x ∈ l, Nd.At w x) (hks : ∀ x ∈ l, x.kids.length ≤ 1000000 ∧ x.text.size ≤ 281474976710656) :
    Calls Try.prog 47 #[.slice A l.length c] w fun e w' => ∃ A' c', e = .returned (.slice A' l.length c') ∧ ∃ cl : List Nd, cl.length = l.length ∧ (∀ j, j < l.length → Twin (l.getD j Nd.zero) (cl.getD j Nd.zero)) ∧ w'.ownsRow w.heap.size 32 9 (.slice A' l.length c') l.length (ncells cl) ∧ (∀ x ∈ cl, Kid w' w.heap.size (.slice A' l.length c') x) ∧ (A' = none → c' = 0) ∧ Below w.heap.size w w' := by
  have CL := Lib.hid (cloneNodes_any A l c hl hnc w h)
  have HN := Lib.hid h
  have HX := Lib.hid hx
  have HKS := Lib.hid hks
  obtain ⟨m, em⟩ : ∃ m, m = l.length := ⟨_, rfl⟩
  have EM := Lib.hid em
  rw [← em] at hl CL ⊢
  clear h hx hks em hnc
  refine (callsIn_wide (n := 12)).1 ?_
  refine callsIn_of_wp_marks Try.func47 rfl trivial ?_ rfl
  simp only [Try.ntmps47, List.size_toArray, List.length_cons, List.length_nil, Nat.reduceAdd, Nat.reduceSub, Array.replicate_succ, Array.replicate_zero, List.push_toArray, List.append_toArray, List.nil_append, List.cons_append]
  refine wpIn_wide.2 ?_
  go_wp2_with (first | (go_at_call 70; refine CL.out.mono ?_; rintro e w1 ⟨RA, rc, rfl, ho, hnn, hb⟩; have HO := Lib.hid ho; have HNN := Lib.hid hnn; have H1 := Lib.hid hb; clear ho hnn hb) | (go_at_call 54; refine (copies_any _ _ _ _ _).mono ?_; rintro e w8 ⟨rfl, rfl⟩))
  obtain ⟨wl, ewl⟩ : ∃ u, u = ((w1.alloc (.cells #[.slice RA m rc] 23)).alloc (.cells #[.slice A m c] 23)).alloc (.cells #[.int .i64 0] 3) := ⟨_, rfl⟩
  obtain ⟨t3, et3⟩ : ∃ g, g = w1.heap.size := ⟨_, rfl⟩
  obtain ⟨p, ep⟩ : ∃ g, g = w1.heap.size + 1 := ⟨_, rfl⟩
  obtain ⟨q, eq⟩ : ∃ g, g = w1.heap.size + 1 + 1 := ⟨_, rfl⟩
  have hbl : Below w1.heap.size w1 wl := by rw [ewl]; exact (B2 _ _ _).alloc (by simp; omega) _
  have k3 : Blk wl t3 #[.slice RA m rc] 23 := by rw [ewl, et3]; exact ((Blk.new _ _ _).alloc _).alloc _
  have kp : Blk wl p #[.slice A m c] 23 := by
    rw [ewl, ep]; have := (Blk.new (w1.alloc (.cells #[.slice RA m rc] 23)) #[.slice A m c] 23).alloc (.cells #[.int .i64 0] 3); rw [World.size_alloc] at this; exact this
  have kq : Blk wl q #[.int .i64 ((0 : Nat) : Int)] 3 := by
    rw [ewl, eq]; have := Blk.new ((w1.alloc (.cells #[.slice RA m rc] 23)).alloc (.cells #[.slice A m c] 23)) #[.int .i64 0] 3; rw [World.size_alloc, World.size_alloc] at this; exact this
  have hz : wl.heap.size = w1.heap.size + 3 := by rw [ewl]; simp
  have F0 : RowKit.Hid (CN w l t3 (.slice RA m rc) m 0 wl) := Lib.hid ⟨⟨[], rfl, fun j hj => by omega, by simpa using own_below HO.out hbl, by simp⟩, k3, bb H1.out hbl⟩
  have BP := Lib.hid kp
  have BQ := Lib.hid kq
  have NE : RowKit.Hid (t3 = w1.heap.size ∧ p = w1.heap.size + 1 ∧ q = w1.heap.size + 2 ∧ wl.heap.size = w1.heap.size + 3 ∧ w.heap.size ≤ w1.heap.size) := Lib.hid ⟨et3, ep, by omega, hz, H1.out.size⟩
  have RG : RowKit.Hid (∀ g, RA = some ⟨g, 0, none⟩ → w.heap.size ≤ g ∧ g < w1.heap.size) := Lib.hid (fun g e => HO.out.lt g (by rw [e]; rfl))
  have NL := Lib.hid (HN.out.below (bb H1.out hbl))
  have XL := Lib.hid (fun x hx => (HX.out x hx).below (bb H1.out hbl))
  rw [← ewl, ← eq, ← ep, ← et3]
  clear ewl et3 ep eq hbl k3 kp kq hz
  have GN : RowKit.Hid (∀ b o, A = some ⟨b, o, none⟩ → 0 < l.length → b < w.heap.size) := Lib.hid (fun b o e h0 => by
    obtain ⟨b', o', e', hb', _⟩ := HN.out h0
    rw [e] at e'
    cases e'
    exact hb')
  have GK : RowKit.Hid (∀ x ∈ l, ∀ b o, x.A = some ⟨b, o, none⟩ → 0 < x.kids.length → b < w.heap.size) := Lib.hid (fun x hx b o e h0 => by
    obtain ⟨b', o', e', hb', _⟩ := (HX.out x hx).1 (by rwa [ints_length])
    rw [e] at e'
    cases e'
    exact hb')
  refine (wpIn_wide (n := 12)).1 ?_
  refine wpIn_rangeFunc_e (ε := Option Addr × Nat) (encs := fun k x => #[.int .i64 ((0 + k : Nat) : Int), ((l.getD k Nd.zero).at_ x.1 x.2).val]) (R := CopyIs wl.heap.size l) (n := 12) (by omega) (gf := 72) (lb := #[.pointer (some ⟨p, 0, none⟩), .pointer (some ⟨q, 0, none⟩)]) rfl (enters_of Try.func72 (by kernel_rfl) rfl)
    (G := fun k => k < wl.heap.size ∧ RA ≠ some ⟨k, 0, none⟩)
    (by
      have hne : ∀ b, (b < w.heap.size ∨ w1.heap.size ≤ b) → b < wl.heap.size → (b < wl.heap.size ∧ RA ≠ some ⟨b, 0, none⟩) := fun b h1 h2 => ⟨h2, fun e => by have := RG.out b e; omega⟩
      have := copies_seq 11 (by omega) p q A c 0 l (by have := EM.out; omega) (by omega) HKS.out (fun k => k < wl.heap.size ∧ RA ≠ some ⟨k, 0, none⟩) (hne p (by have := NE.out; omega) (by have := NE.out; omega)) (hne q (by have := NE.out; omega) (by have := NE.out; omega))
        (fun b o e h0 => hne b (.inl (GN.out b o e h0)) (by have := GN.out b o e h0; have := NE.out; omega)) (fun x hx b o e h0 => hne b (.inl (GK.out x hx b o e h0)) (by have := GK.out x hx b o e h0; have := NE.out; omega)) wl (by rw [← EM.out]; exact BP.out) BQ.out NL.out XL.out
      rw [← EM.out] at this
      exact this)
    (Below.refl _ _) (fun _ _ => rfl) (fun k h => h.1)
    (fun k W => CN w l t3 (.slice RA m rc) m k W) (fun _ _ _ => False)
    (fun k W W' h hb => h.grow hb) (fun _ _ _ _ h _ => h) (fun k b W lp o hb h hl => h.put hl (by have := NE.out; omega) o) (fun _ _ _ _ _ _ _ h _ => h)
    (fun x k W W' h hb => ⟨own_below h.1 hb, h.2⟩) (fun x k b W lp o hb h hl => ⟨own_put h.1 hl o, h.2⟩) F0.out
    (fun k x b => { tmps := #[.slice A m c, undef, .slice none 0 0, .pointer (some ⟨t3, 0, none⟩), .int .i64 (k : Int), .pointer (some ⟨b, 0, none⟩), .slice A m c, .slice RA m rc, .slice A m c, .func (.func 72) #[] #[.pointer (some ⟨p, 0, none⟩), .pointer (some ⟨q, 0, none⟩)], .int .i64 (k : Int), ((l.getD k Nd.zero).at_ x.1 x.2).val, undef, undef, undef, undef, undef], defers := [] })
    (fun k x => .cells ((l.getD k Nd.zero).at_ x.1 x.2).cells.toArray 32) ?assign ?body ?done ?stop
  case assign =>
    intro l2 k x W K hK
    unfold Nd.val
    gi_wp2
    exact hK
  case stop =>
    rintro D cd k W hD hk h hK
    exact h.elim
  case done =>
    rintro D W hD hF hK
    have c3 := hF.box.cell 0
    simp only [List.getElem?_toArray, List.getElem?_cons_zero] at c3
    have HF := Lib.hid hF
    have HC := Lib.hid (And.intro hK hD)
    clear hF hK hD
    go_wp2_with fail
    obtain ⟨hK, hD⟩ := HC.out
    obtain ⟨cl, q1, q2, q3, q4⟩ := HF.out.row
    rw [List.drop_of_length_le (by have := EM.out; omega), List.append_nil] at q3
    refine ⟨by simp, .inl ⟨_, _, rfl, run_takeDeferred hK, ?_⟩⟩
    exact ⟨_, results_tmp rfl _ _ _, RA, rc, rfl, cl, q1, q2, own_putD q3 hK _, fun x hx => ⟨own_putD (q4 x hx).1 hK _, (q4 x hx).2⟩, HNN.out, below_put HF.out.low (by have := NE.out; omega) _⟩
  case body =>
    rintro l2 k b ⟨A1, c1⟩ W hF hR hz hob hkm
    have hk2 : k < m := hkm
    obtain ⟨g, eg⟩ : ∃ g, RA = some ⟨g, 0, none⟩ := by
      rcases HO.out.2 with ⟨_, h2⟩ | ⟨g, cap, cur, h1, _⟩
      · omega
      · simp only [Value.slice.injEq] at h1
        exact ⟨g, h1.1⟩
    have hgb := RG.out g eg
    have hob' : Blk W b ((l.getD k Nd.zero).at_ A1 c1).cells.toArray 32 := hob
    rw [eg] at hF
    have FIN := Lib.hid (CN.next hF (by have := EM.out; omega) EM.out (B := wl.heap.size) (by have := NE.out; omega) ⟨by have := NE.out; omega, by have := NE.out; omega⟩ hgb.1 hR (by have := NE.out; omega))
    obtain ⟨cl, q1, q2, q3, q4⟩ := hF.row
    have TH := Lib.hid (own_there q3 (o := k * 9) 9 (by omega))
    have GB := Lib.hid (own_set (w := W) ((l.getD k Nd.zero).at_ A1 c1).cells (k * 9) W _ q3 (by rw [q3.1]; simp [Nd.cells]; omega)).2
    have c3 := hF.box.cell 0
    simp only [List.getElem?_toArray, List.getElem?_cons_zero] at c3
    generalize l.getD k Nd.zero = x at hob' FIN GB ⊢
    have e0 := hob'.cell 0; have e1 := hob'.cell 1; have e2 := hob'.cell 2; have e3 := hob'.cell 3; have e4 := hob'.cell 4; have e5 := hob'.cell 5; have e6 := hob'.cell 6; have e7 := hob'.cell 7; have e8 := hob'.cell 8
    simp only [Nd.cells, List.getElem?_toArray, List.getElem?_cons_zero, List.getElem?_cons_succ] at e0 e1 e2 e3 e4 e5 e6 e7 e8
    rw [eg]
    simp only [Nat.zero_add]
    have hkm3 : (k : Int) < m := by omega
    have EGG := Lib.hid eg
    have HGB := Lib.hid hgb
    clear hF hR hz hob hob' q1 q2 q3 q4 eg hgb hkm
    gi_wp2_with (refine wpListIn_store_mid rfl 32 (.tmp 15) (.tmp 14) rfl g (k * 9) (x.at_ A1 c1).cells.toArray rfl rfl TH.out (by kernel_rfl) (by simp [Nd.cells, Value.oneCell']) ?_)
    exact ⟨⟨GB.out.size, fun j hj hgj => GB.out.block j hj (fun e => by
      have e' := Option.some.inj e
      subst e'
      rcases hgj with h | h
      · exact h.2 rfl
      · have := HGB.out; have := NE.out; omega)⟩, FIN.out⟩
end Go.Proofs.Ytfdfcagkfnckmaa
namespace Go.Proofs.Ytfdfcagkfnckmaa
open Go Go.RowKit
/-- A grammar that lies in rows of the call's own. -/
structure Fresh (w : World) (B : Nat) (h : Gr) : Prop where
  rules : w.ownsRow B 45 2 (.slice h.RA h.rules.length h.rc) h.rules.length (rcells h.rules)
  nodes : w.ownsRow B 32 9 (.slice h.NA h.nodes.length h.nc) h.nodes.length (ncells h.nodes)
  kids : ∀ x ∈ h.nodes, w.ownsRow B 3 1 (.slice x.A x.kids.length x.cap) x.kids.length (ints x.kids) ∧ (x.A = none → x.cap = 0)
  rn : h.RA = none → h.rc = 0
  nn : h.NA = none → h.nc = 0
theorem Fresh.below {w w' : World} {B : Nat} {h : Gr} (f : Fresh w B h) (hb : Below w.heap.size w w') : Fresh w' B h :=
  ⟨own_below f.rules hb, own_below f.nodes hb, fun x hx => ⟨own_below (f.kids x hx).1 hb, (f.kids x hx).2⟩, f.rn, f.nn⟩
theorem Fresh.lies {w w' : World} {B : Nat} {g h : Gr} (f : Fresh w' B h) (t : GTwin g h) (hg : Gr.At w g) : Gr.At w' h :=
  t.lies hg (own_rules f.rules) (own_nodes f.nodes) (fun x hx => ⟨own_lies1 (f.kids x hx).1, (f.kids x hx).2⟩) f.rn f.nn
/-- What is wanted of a grammar that is to be copied. -/
structure Small (g : Gr) : Prop where
  rules : g.rules.length ≤ 1000000
  nodes : g.nodes.length ≤ 1000000
  kids : ∀ x ∈ g.nodes, x.kids.length ≤ 1000000 ∧ x.text.size ≤ 281474976710656
  names : ∀ r ∈ g.rules, r.name.size ≤ 281474976710656
theorem gcopy_done {w w4 : World} {B b : Nat} {RA NA : Option Addr} {rc nc m n : Nat} {xs : List Value} {cl : List Nd} (h1 : w4.ownsRow B 45 2 (.slice RA m rc) m xs) (h2 : w4.ownsRow B 32 9 (.slice NA n nc) n (ncells cl)) (h3 : ∀ x ∈ cl, Kid w4 B (.slice NA n nc) x)
    (hb : b < B) (kr : Blk w4 b #[.slice none 0 0, .slice none 0 0] 25) (hw : w.heap.size ≤ b) (h4 : Below w.heap.size w w4) (W5 : World) (eW : W5 = (w4.setCell ⟨b, 0, none⟩ (.slice RA m rc)).setCell ⟨b, 1, none⟩ (.slice NA n nc)) :
    Blk W5 b #[.slice RA m rc, .slice NA n nc] 25 ∧ W5.ownsRow B 45 2 (.slice RA m rc) m xs ∧ W5.ownsRow B 32 9 (.slice NA n nc) n (ncells cl) ∧ (∀ x ∈ cl, Kid W5 B (.slice NA n nc) x) ∧ Below w.heap.size w W5 := by
  have k1 : Blk (w4.setCell ⟨b, 0, none⟩ (.slice RA m rc)) b #[.slice RA m rc, .slice none 0 0] 25 := heap_setCell_same w4 b 0 #[.slice none 0 0, .slice none 0 0] 25 _ kr
  have k2 : Blk W5 b #[.slice RA m rc, .slice NA n nc] 25 := by rw [eW]; exact heap_setCell_same _ b 1 #[.slice RA m rc, .slice none 0 0] 25 _ k1
  have g : w4.grownBy W5 (some b) := by
    rw [eW]
    exact ⟨rfl, rfl, rfl, by simp, fun k hk hne => (heap_setCell_other _ ⟨b, 1, none⟩ k _ (fun e => hne (by rw [e]))).trans (heap_setCell_other w4 ⟨b, 0, none⟩ k _ (fun e => hne (by rw [e])))⟩
  exact ⟨k2, own_blk h1 hb g, own_blk h2 hb g, fun x hx => (h3 x hx).blk hb g, grown_below h4 h4.size g (fun k e => by cases e; exact hw)⟩
set_option maxRecDepth 100000 in
set_option maxHeartbeats 8000000 in
theorem gcopy_any (g : Gr) (w : World) (hg : Gr.At w g) (hs : Small g) :
    Calls Try.prog 22 #[g.val] w fun e w' => (∃ h : Gr, e = .returned h.val ∧ GTwin g h ∧ Fresh w' w.heap.size h) ∧ Below w.heap.size w w' := by
  have CR := Lib.hid (fun (w' : World) (b : Below w.heap.size w w') => gcopyRules_any g.RA g.rules g.rc hs.rules hg.rn hs.names w' (hg.below b).rules)
  have CNN := Lib.hid (fun (w' : World) (b : Below w.heap.size w w') => gcopyNodes_any g.NA g.nodes g.nc hs.nodes hg.nn w' (hg.below b).nodes (hg.below b).kids hs.kids)
  clear hg hs
  show Calls Try.prog 22 #[.agg #[.slice g.RA g.rules.length g.rc, .slice g.NA g.nodes.length g.nc]] w _
  go_enter Try.func22, Try.ntmps22
  go_upto_region 1 with fail
  obtain ⟨w2, ew2⟩ : ∃ u, u = (w.alloc (.cells #[.slice g.RA g.rules.length g.rc, .slice g.NA g.nodes.length g.nc] 25)).alloc (.cells #[.slice none 0 0, .slice none 0 0] 25) := ⟨_, rfl⟩
  obtain ⟨r, er⟩ : ∃ r, r = w.heap.size + 1 := ⟨_, rfl⟩
  obtain ⟨b, eb⟩ : ∃ r, r = w.heap.size := ⟨_, rfl⟩
  have hb2 : Below w.heap.size w w2 := by rw [ew2]; exact B2 _ _ _
  have hkb : Blk w2 b #[.slice g.RA g.rules.length g.rc, .slice g.NA g.nodes.length g.nc] 25 := by rw [ew2, eb]; exact (Blk.new _ _ _).alloc _
  have hkr : Blk w2 r #[.slice none 0 0, .slice none 0 0] 25 := by
    rw [ew2, er]; have := Blk.new (w.alloc (.cells #[.slice g.RA g.rules.length g.rc, .slice g.NA g.nodes.length g.nc] 25)) #[.slice none 0 0, .slice none 0 0] 25; rw [World.size_alloc] at this; exact this
  have hz : w2.heap.size = w.heap.size + 2 := by rw [ew2]; simp
  rw [← ew2, ← er, ← eb]
  have KB := Lib.hid hkb
  have KR := Lib.hid hkr
  have HB2 := Lib.hid hb2
  have NE := Lib.hid (And.intro er (And.intro eb hz))
  have a0 := hkb.cell 0
  have a1 := hkb.cell 1
  simp only [List.getElem?_toArray, List.getElem?_cons_zero, List.getElem?_cons_succ] at a0 a1
  clear ew2 er eb hb2 hkb hkr hz
  go_region_with (first | (go_at_call 46; refine (CR.out _ (by first | exact HB2.out | exact bdrew1 HB2.out | exact bdrew1 (bdrew1 HB2.out))).mono ?_; rintro e w3 ⟨A1, c1, rfl, ho, hnn, hb⟩; have KB3 := Lib.hid (Blk.below' (b := b) (vs := #[.slice g.RA g.rules.length g.rc, .slice g.NA g.nodes.length g.nc]) (T := 25) (h := by exact KB.out) hb); have KR3 := Lib.hid (Blk.below' (b := r) (vs := #[.slice none 0 0, .slice none 0 0]) (T := 25) (h := by exact KR.out) hb); have H3 := Lib.hid (show Below w.heap.size w w3 from by first | exact bb HB2.out hb | exact bb (bdrew1 HB2.out) hb | exact bb (bdrew1 (bdrew1 HB2.out)) hb); have HO := Lib.hid (own_lower (base' := r + 1) ho (by have := NE.out; first | (show r + 1 ≤ w2.heap.size; omega) | (simp; omega))); have HNN := Lib.hid hnn; have d0 := KB3.out.cell 0; have d1 := KB3.out.cell 1; simp only [List.getElem?_toArray, List.getElem?_cons_zero, List.getElem?_cons_succ] at d0 d1; clear ho hnn hb) | (go_at_call 47; refine (CNN.out _ (by first | exact H3.out | exact bdrew1 H3.out | exact bdrew1 (bdrew1 H3.out))).mono ?_; rintro e w4 ⟨A2, c2, rfl, cl, hcl, htw, hno, hki, hnn2, hb⟩; have HO4 := Lib.hid (show w4.ownsRow (r + 1) 45 2 _ _ _ from own_below (by exact HO.out) hb); have KR4 := Lib.hid (Blk.below' (b := r) (vs := #[.slice none 0 0, .slice none 0 0]) (T := 25) (h := by exact KR3.out) hb); have H4 := Lib.hid (show Below w.heap.size w w4 from by first | exact bb H3.out hb | exact bb (bdrew1 H3.out) hb | exact bb (bdrew1 (bdrew1 H3.out)) hb); have HCL := Lib.hid hcl; have HTW := Lib.hid htw; have R3 : r + 1 ≤ w3.heap.size := (by have := KR3.out.lt; omega); have HNO := Lib.hid (own_lower (base' := r + 1) hno R3); have HKI := Lib.hid (fun x hx => (show Kid w4 (r + 1) _ x from ⟨own_lower (hki x hx).1 R3, (hki x hx).2⟩)); have HNN2 := Lib.hid hnn2; have k0 := KR4.out.cell 0; have k1 := KR4.out.cell 1; have m0 := KR4.out.frozen 0; have m1 := KR4.out.frozen 1; simp only [List.getElem?_toArray, List.getElem?_cons_zero, List.getElem?_cons_succ] at k0 k1; clear hcl htw hno hki hnn2 hb d0 d1 R3))
  all_goals (
    generalize hW5 : (World.setCell _ _ _ : World) = W5
    have hr : w.heap.size ≤ r := by have := NE.out; omega
    obtain ⟨q1, q2, q3, q4, q5⟩ := gcopy_done HO4.out HNO.out HKI.out (Nat.lt_succ_self r) KR4.out hr H4.out W5 hW5.symm
    have hr2 : w.heap.size ≤ r + 1 := by omega
    have K5 := Lib.hid q1
    have T : RowKit.Hid (GTwin g ⟨A1, c1, g.rules, A2, c2, cl⟩) := Lib.hid ⟨rfl, HCL.out, HTW.out⟩
    have F : RowKit.Hid (Fresh W5 w.heap.size ⟨A1, c1, g.rules, A2, c2, cl⟩) := Lib.hid ⟨own_lower q2 hr2, by show W5.ownsRow w.heap.size 32 9 (.slice A2 cl.length c2) cl.length (ncells cl); rw [HCL.out]; exact own_lower q3 hr2, fun x hx => ⟨own_lower (q4 x hx).1 hr2, (q4 x hx).2.1⟩, HNN.out, HNN2.out⟩
    have H5 := Lib.hid q5
    clear hW5 q1 q2 q3 q4 q5 hr hr2 m0 m1 k0 k1 a0 a1
    go_wp2_with fail
    refine bodyPost_ret (results_cell_row rfl _ _ r 25 _ (0, 0) _ rfl K5.out Try.underlying25 rfl (by kernel_rfl)) rfl ⟨⟨⟨A1, c1, g.rules, A2, c2, cl⟩, ?_, T.out, F.out⟩, H5.out⟩
    show Ending.returned (.agg #[.slice A1 g.rules.length c1, .slice A2 g.nodes.length c2]) = .returned (.agg #[.slice A1 g.rules.length c1, .slice A2 cl.length c2])
    rw [HCL.out])
end Go.Proofs.Ytfdfcagkfnckmaa

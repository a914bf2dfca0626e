/- What was lent is as it was. (Great seat.) -/
import Derived.Test.YtjelgmdjmjnnfaaGreatC3
import Derived.Test.YtjelgmdjmjnnfaaGreatA3
import Derived.Test.YtjelgmdjmjnnfaaGreatB7
set_option linter.unusedSimpArgs false
set_option linter.unusedVariables false
namespace Go.Proofs.YtjelgmdjmjnnfaaGreat
open Go Go.Proofs Go.RowKit Go.Lib Go.Maps
theorem marks_at {i : Nat} (h : i < 12) : (marks 12)[i]? = some (.int .i64 (mrk 1 i)) := by simp [marks, h]
set_option maxRecDepth 100000 in
set_option maxHeartbeats 4000000 in
theorem keptints_any (A' A : Option Addr) (c' c m : Nat) (l : List Int) (em : m = l.length) (hl : m ≤ 100000) (hc : m + 12 ≤ c') (w : World) (hA' : Lies w A' (ints l ++ marks 12)) (hA : Lies w A (ints l)) :
    Calls Tryz.prog 160 #[.slice A' m c', .slice A m c] w fun e w' => e = .returned (.bool true) ∧ Below w.heap.size w w' := by
  obtain ⟨b, o, rfl, hb, hcell⟩ := hA' (by rw [List.length_append, marks_len]; omega)
  have C1 := Lib.hid (fun W (eg : Below w.heap.size w W) k (hk : k < m) => show W.cell? ⟨b, o + k, none⟩ = some (.int .i64 (l.getD k 0)) ∧ ∃ b2 o2, A = some ⟨b2, o2, none⟩ ∧ W.cell? ⟨b2, o2 + k, none⟩ = some (.int .i64 (l.getD k 0)) from by
    have h1 := hcell k (by rw [List.length_append, ints_length]; omega)
    rw [List.getElem?_append_left (by rw [ints_length]; omega), ints_at (by omega)] at h1
    obtain ⟨b2, o2, e, _, h2⟩ := lies_cell (hA.below eg) (k := k) (by omega)
    exact ⟨(eg.cell (p := ⟨b, o + k, none⟩) (World.block_lt_of_cell? _ _ h1)).trans h1, b2, o2, e, h2⟩)
  have C2 := Lib.hid (fun W (eg : Below w.heap.size w W) k (hk : m ≤ k) (hk2 : k < m + 12) => show W.cell? ⟨b, o + k, none⟩ = some (.int .i64 (mrk 1 (k - m))) from by
    have h1 := hcell k (by rw [List.length_append, ints_length, marks_len]; omega)
    rw [List.getElem?_append_right (by rw [ints_length]; omega), ints_length, ← em, marks_at (by omega)] at h1
    exact (eg.cell (p := ⟨b, o + k, none⟩) (World.block_lt_of_cell? _ _ h1)).trans h1)
  have MK := Lib.hid (fun i (hi : i < 12) w' => show Calls Tryz.prog 158 #[.int .i64 1, .int .i64 (i : Nat)] w' fun e w'' => e = .returned (.int .i64 (mrk 1 i)) ∧ Below w'.heap.size w' w'' from (xmark_any 1 i (by omega) (by omega) w').mono fun _ _ ⟨h1, h2⟩ => ⟨h1, h2 ▸ Below.refl _ _⟩)
  have hw12 : IntKind.i64.wrap ((m : Int) + 12) = (m : Int) + 12 := IntWalk.i64_in _ (by omega)
  have hci : (m : Int) + 12 ≤ c' := by omega
  have h012 : (0 : Int) ≤ (m : Int) + 12 := by omega
  have htn : ((m : Int) + 12).toNat = m + 12 := by omega
  clear hcell hA em
  go_enter Tryz.func160, Tryz.ntmps160
  go_wp2_with fail
  go_loopw [6] (fun iv wr => ∃ k : Nat, k ≤ m + 12 ∧ iv = .int .i64 k ∧ Below w.heap.size w wr) (fun iv _ => m + 12 - (intOf iv).toNat)
  case atStart => exact ⟨0, by omega, rfl, Below.refl _ _⟩
  case round =>
    obtain ⟨k, hk, rfl, hb⟩ := hrel
    have HB := Lib.hid hb
    by_cases hlt : k < m + 12
    · have hlt2 : (k : Int) < (m : Int) + 12 := by omega
      have hlt3 : (k : Int) < ((m + 12 : Nat) : Int) := by omega
      by_cases hkm : k < m
      · have hkm2 : (k : Int) < m := by omega
        have hkm3 : (m ≤ k) = False := by simp; omega
        obtain ⟨h1, b2, o2, rfl, h2⟩ := C1.out wr hb k hkm
        generalize l.getD k 0 = x at *
        have hxx : (x == x) = true := by simp
        have f1 := fun (e : Ext wr) => Ext.cell h1 e
        have f2 := fun (e : Ext wr) => Ext.cell h2 e
        clear hb h1 h2
        go_wp2_with fail
        refine wp_region_ext (by kernel_rfl) (by kernel_rfl) ?_
        repeat (first | go_big_quiet_step (fail) | quiet_step (fail))
        refine wpQuiet_nil ?_
        intro w13 hw'
        obtain ⟨⟨_, hb13⟩, rfl⟩ := hw'
        have HB1 := Lib.hid (HB.out.trans (hb13.mono HB.out.size))
        clear hb13 f1 f2
        go_wp2_with fail
        go_roundw
        case rel => exact ⟨k + 1, by omega, by go_num, HB1.out⟩
        case measure => simp [intOf]; omega
      · have hkm2 : ¬ (k : Int) < m := by omega
        have hkm3 : (m ≤ k) = True := by simp; omega
        have hkm4 : (k < m) = False := by simp; omega
        obtain ⟨i, ei⟩ : ∃ i, i = k - m := ⟨_, rfl⟩
        have h1 := C2.out wr hb k (by omega) hlt
        rw [← ei] at h1
        have hsub : IntKind.i64.wrap ((k : Int) - m) = (i : Int) := by rw [IntWalk.i64_in _ (by omega)]; omega
        have M1 := Lib.hid (fun W => MK.out i (by omega) W)
        generalize mrk 1 i = x at *
        have hxx : (x == x) = true := by simp
        have f1 := fun (e : Ext wr) => Ext.cell h1 e
        clear hb h1 ei
        go_wp2_with fail
        refine wp_region_ext (by kernel_rfl) (by kernel_rfl) ?_
        repeat (first | go_big_quiet_step (first | (go_at_call 158; with_reducible exact Calls.ext_of (M1.out _))) | quiet_step (first | (go_at_call 158; with_reducible exact Calls.ext_of (M1.out _))))
        refine wpQuiet_nil ?_
        intro w13 hw'
        obtain ⟨⟨_, hb13⟩, rfl⟩ := hw'
        have HB1 := Lib.hid (HB.out.trans (hb13.mono HB.out.size))
        clear hb13 f1
        go_wp2_with fail
        go_roundw
        case rel => exact ⟨k + 1, by omega, by go_num, HB1.out⟩
        case measure => simp [intOf]; omega
    · obtain rfl : k = m + 12 := by omega
      have hlt2 : ¬ ((m + 12 : Nat) : Int) < (m : Int) + 12 := by omega
      clear hb
      go_wp2_with fail
      go_ret
      exact ⟨rfl, HB.out⟩
end Go.Proofs.YtjelgmdjmjnnfaaGreat
namespace Go.Proofs.YtjelgmdjmjnnfaaGreat
open Go Go.RowKit
def ncells : List Nd → List Value
  | [] => []
  | x :: l => x.cells ++ ncells l
theorem ncells_length : ∀ l : List Nd, (ncells l).length = l.length * 9
  | [] => rfl
  | x :: l => by simp [ncells, ncells_length l, Nd.cells]; omega
theorem ncells_app : ∀ (l : List Nd) (x : Nd), ncells (l ++ [x]) = ncells l ++ x.cells
  | [], x => by simp [ncells]
  | y :: l, x => by simp [ncells, ncells_app l x]
theorem ncells_at : ∀ (l : List Nd) (i j : Nat), i < l.length → j < 9 → (ncells l)[i * 9 + j]? = (l.getD i Nd.zero).cells[j]?
  | [], i, j, h, _ => by simp at h
  | x :: l, 0, j, h, hj => by
    rw [ncells, List.getElem?_append_left (by simp [Nd.cells]; omega)]
    simp
  | x :: l, i + 1, j, h, hj => by
    have := ncells_at l i j (by simpa using h) hj
    rw [ncells, List.getElem?_append_right (by simp [Nd.cells]; omega)]
    rw [show (i + 1) * 9 + j - x.cells.length = i * 9 + j by simp [Nd.cells]; omega, this]
    simp
theorem own_nodes {w : World} {base e c : Nat} {A : Option Addr} {l : List Nd} (h : w.ownsRow base e 9 (.slice A l.length c) l.length (ncells l)) : Nodes w A l := by
  intro h0
  rcases h.2 with ⟨h1, h2⟩ | ⟨g, cap, cur, h1, hbg, hgg, rest⟩
  · omega
  · simp only [Value.slice.injEq] at h1
    obtain ⟨rfl, _, rfl⟩ := h1
    refine ⟨g, 0, rfl, (Array.getElem?_eq_some_iff.1 hgg).1, fun i hi j hj => ?_⟩
    have q := ncells_at l i j hi hj
    have hc : j < (l.getD i Nd.zero).cells.length := by simp [Nd.cells]; omega
    rw [List.getElem?_eq_getElem hc] at q ⊢
    have q0 := h.cells (g := g) rfl _ _ q
    rw [Addr.add_lit] at q0
    rw [← Nat.add_assoc] at q0
    exact q0
/-- The same node, but for where its kids lie. -/
def Twin (x y : Nd) : Prop := ∃ A c, y = x.at_ A c
/-- A node's kids lie in a row of the call's own. -/
def Kid (w : World) (B : Nat) (o : Value) (x : Nd) : Prop := w.ownsRow B 3 1 (.slice x.A x.kids.length x.cap) x.kids.length (ints x.kids) ∧ (x.A = none → x.cap = 0) ∧ ∀ a, x.A = some a → o.ownBlock ≠ some a.block
theorem Kid.below {w w' : World} {B : Nat} {o : Value} {x : Nd} (h : Kid w B o x) (hb : Below w.heap.size w w') : Kid w' B o x := ⟨own_below h.1 hb, h.2⟩
theorem Kid.grown {w w' : World} {B : Nat} {o o' : Value} {x : Nd} (h : Kid w B o x) (hg : w.grownBy w' o.ownBlock) (hf : ∀ k, o'.ownBlock = some k → o.ownBlock = some k ∨ w.heap.size ≤ k) : Kid w' B o' x := by
  obtain ⟨h1, h2, h3⟩ := h
  refine ⟨h1.kept hg ?_, h2, fun a ha e => ?_⟩
  · cases hA : x.A with
    | none => exact .inl rfl
    | some a => exact .inr (fun e => h3 a hA e.symm)
  · rcases hf _ e with e | e
    · exact h3 a ha e
    · have := (h1.lt a.block (by rw [ha]; rfl)).2
      omega
theorem cells_one (x : Nd) : ∀ u ∈ x.cells, u.oneCell' = true := by
  intro u hu
  simp only [Nd.cells, List.mem_cons, List.not_mem_nil, or_false] at hu
  rcases hu with rfl | rfl | rfl | rfl | rfl | rfl | rfl | rfl | rfl <;> rfl
theorem new_news (w : World) (vs : List Value) (T : TypeId) : ∀ a, some (⟨w.heap.size, 0, none⟩ : Addr) = some a → ∀ j u, vs[j]? = some u → (w.alloc (.cells vs.toArray T)).cell? (a.add j) = some u := by
  intro a ha j u hu
  obtain rfl := Option.some.inj ha
  rw [Addr.add_lit, Nat.zero_add, (Blk.new w _ _).cell]
  simpa using hu
set_option maxRecDepth 100000 in
set_option maxHeartbeats 4000000 in
theorem copyNodes_any (A : Option Addr) (l : List Nd) (c : Nat) (hl : l.length ≤ 1000000) (w : World) (h : Nodes w A l) (hx : ∀ x ∈ l, Nd.At w x ∧ x.kids.length ≤ 1000000) :
    Calls Tryz.prog 112 #[.slice A l.length c] w fun e w' => ∃ A' c', e = .returned (.slice A' l.length c') ∧ ∃ cl : List Nd, cl.length = l.length ∧ (∀ j, j < l.length → Twin (l.getD j Nd.zero) (cl.getD j Nd.zero)) ∧ w'.ownsRow w.heap.size 47 9 (.slice A' l.length c') l.length (ncells cl) ∧ (∀ x ∈ cl, Kid w' w.heap.size (.slice A' l.length c') x) ∧ (A' = none → c' = 0) ∧ Below w.heap.size w w' := by
  obtain ⟨i0, hi, hz0, hz1, hz2⟩ := info_parts Tryz.info47
  have HN := Lib.hid h
  have HX := Lib.hid hx
  obtain ⟨m, em⟩ : ∃ m, m = l.length := ⟨_, rfl⟩
  have EM := Lib.hid em
  rw [← em] at hl ⊢
  clear h hx em
  go_enter Tryz.func112, Tryz.ntmps112
  go_wp2_with fail
  go_loopw [4, 3] (fun i o wr => ∃ (k : Nat) (cl : List Nd), k ≤ m ∧ i = .int .i64 k ∧ cl.length = k ∧ (∀ j, j < k → Twin (l.getD j Nd.zero) (cl.getD j Nd.zero)) ∧ wr.ownsRow w.heap.size 47 9 o k (ncells cl) ∧ (∀ x ∈ cl, Kid wr w.heap.size o x) ∧ Below w.heap.size w wr) (fun i _ _ => m - (intOf i).toNat)
  case atStart => exact ⟨0, [], by omega, rfl, rfl, fun j hj => by omega, World.ownsRow_nil _ _ _ _, by simp, Below.refl _ _⟩
  case round =>
    obtain ⟨k, cl, hk, rfl, hcl, htw, hown, hkid, hbl⟩ := hrel
    obtain ⟨O, oc, rfl, hOn, _⟩ := own_slice hown
    have HTW := Lib.hid htw
    have HOWN := Lib.hid hown
    have HKID := Lib.hid hkid
    have BL := Lib.hid hbl
    have HCL := Lib.hid hcl
    have HON := Lib.hid hOn
    clear htw hown hkid hbl hcl hOn
    by_cases hlt : k < m
    · have hlt2 : (k : Int) < m := by omega
      have hkl : k < l.length := by have := EM.out; omega
      obtain ⟨hat, hks⟩ := HX.out _ (getD_mem hkl)
      obtain ⟨b1, o1, eA, _, n1, n2, n3, n4, n5, n6, n7, n8, n9⟩ := (HN.out.below BL.out).nine hkl
      generalize hxx : l.getD k Nd.zero = x at hat hks n1 n2 n3 n4 n5 n6 n7 n8 n9
      have HXX := Lib.hid hxx
      have CN := Lib.hid (copyNode_any x hks wr (hat.below BL.out))
      rw [eA]
      clear hxx hat hks eA
      go_wp2_with (first | (go_at_call 150; refine CN.out.mono ?_; rintro e w1 ⟨A1, c1, rfl, ho, hnn, hb⟩; have HO := Lib.hid ho; have HNN := Lib.hid hnn; have H1 := Lib.hid hb; clear ho hnn hb n1 n2 n3 n4 n5 n6 n7 n8 n9) | (refine wpList_store_whole rfl 47 (.tmp 5) (.tmp 16) rfl w1.heap.size (x.at_ A1 c1).cells.toArray rfl rfl 47 _ (Blk.new _ _ _) (by kernel_rfl) (by rfl) (by simp [Nd.cells, Value.oneCell']) ?_; intro w2 hk2 hg; have H2 := Lib.hid (grown_below (B1 w1 _) (by simp) hg (fun k e => by cases e; exact Nat.le_refl _)); have d0 := hk2.cell 0; have d1 := hk2.cell 1; have d2 := hk2.cell 2; have d3 := hk2.cell 3; have d4 := hk2.cell 4; have d5 := hk2.cell 5; have d6 := hk2.cell 6; have d7 := hk2.cell 7; have d8 := hk2.cell 8; simp only [Nd.cells, List.getElem?_toArray, List.getElem?_cons_zero, List.getElem?_cons_succ] at d0 d1 d2 d3 d4 d5 d6 d7 d8; clear hk2 hg) | (at_builtin; refine wpList_append_onto _ rfl (.tmp 17) (.tmp 19) 23 rfl w.heap.size 47 i0 Nd.zero.val 9 96 Tryz.underlying23 hi hz0 hz1 hz2 rfl (by decide) (.slice O k oc) k (ncells cl) rfl (own_below (own_below (own_below HOWN.out H1.out) H2.out) (B1 w2 _)) (some ⟨w2.heap.size, 0, none⟩) 1 1 (x.at_ A1 c1).cells rfl rfl (new_news w2 (x.at_ A1 c1).cells 47) (fun h => nomatch h) (cells_one _) (by unfold maxLen; omega) (by omega) (by have := BL.out.size; have := H1.out.size; have := H2.out.size; simp; omega) ?_; intro v1 w4 ho hg hf; have HO4 := Lib.hid ho; have HG4 := Lib.hid hg; have HF4 := Lib.hid hf; clear ho hg hf))
      have HK1 : Kid w1 w.heap.size (.slice O k oc) (x.at_ A1 c1) := ⟨own_lower HO.out BL.out.size, HNN.out, fun a ha e => by
        have q1 := (HOWN.out.lt _ e).2
        have q2 := (HO.out.lt a.block (by dsimp only [Nd.at_] at ha; rw [ha]; rfl)).1
        omega⟩
      have B4 : Below w.heap.size w (w2.alloc (.cells (x.at_ A1 c1).cells.toArray 47)) := bb (bb (bb BL.out H1.out) H2.out) (B1 w2 _)
      have tk : ∀ y, Kid w1 w.heap.size (.slice O k oc) y → Kid w4 w.heap.size v1 y := fun y hy => ((hy.below H2.out).below (B1 w2 _)).grown HG4.out HF4.out
      refine ⟨⟨k + 1, cl ++ [x.at_ A1 c1], by omega, by go_num, by simp [HCL.out], fun j hj => ?_, by rw [ncells_app]; exact HO4.out, fun y hy => ?_, grown_below B4 B4.size HG4.out (fun q e => (HOWN.out.lt q e).1)⟩, by simp [intOf]; omega⟩
      · by_cases ej : j = k
        · subst ej
          rw [HXX.out, List.getD, List.getElem?_append_right (by rw [HCL.out]; omega), HCL.out]
          simp
          exact ⟨A1, c1, rfl⟩
        · have := HTW.out j (by omega)
          rw [List.getD, List.getD] at this ⊢
          rw [List.getElem?_append_left (by rw [HCL.out]; omega)]
          exact this
      · rcases List.mem_append.1 hy with hy | hy
        · exact tk y ((HKID.out y hy).below H1.out)
        · simp at hy
          subst hy
          exact tk _ HK1
    · obtain rfl : k = m := by omega
      have hlt2 : ¬ (k : Int) < k := by omega
      go_wp2_with fail
      go_ret
      exact ⟨O, oc, rfl, cl, HCL.out, HTW.out, HOWN.out, HKID.out, (fun e => (HON.out e).2), BL.out⟩
theorem nodes_none {w : World} {A : Option Addr} {l : List Nd} (h : Nodes w A l) (hA : A = none) : l.length = 0 := by
  by_cases h0 : 0 < l.length
  · obtain ⟨b, o, e, _⟩ := h h0; rw [hA] at e; cases e
  · omega
/-- The same grammar, but for where it lies. -/
structure GTwin (g h : Gr) : Prop where
  rules : h.rules = g.rules
  len : h.nodes.length = g.nodes.length
  node : ∀ j, j < g.nodes.length → Twin (g.nodes.getD j Nd.zero) (h.nodes.getD j Nd.zero)
theorem own_blk {w w' : World} {B e size n b : Nat} {v : Value} {xs : List Value} (h : w.ownsRow B e size v n xs) (hb : b < B) (hg : w.grownBy w' (some b)) : w'.ownsRow B e size v n xs := by
  refine h.kept hg ?_
  cases hv : v.ownBlock with
  | none => exact .inl rfl
  | some k => exact .inr (fun e => by have := (h.lt k hv).1; cases e; omega)
theorem Kid.blk {w w' : World} {B b : Nat} {o : Value} {x : Nd} (h : Kid w B o x) (hb : b < B) (hg : w.grownBy w' (some b)) : Kid w' B o x := ⟨own_blk h.1 hb hg, h.2⟩
theorem GTwin.mem {g h : Gr} (t : GTwin g h) {x : Nd} (hx : x ∈ h.nodes) : ∃ y ∈ g.nodes, Twin y x := by
  obtain ⟨j, hj, rfl⟩ := List.getElem_of_mem hx
  have hj2 : j < g.nodes.length := by rw [← t.len]; exact hj
  refine ⟨g.nodes[j], List.getElem_mem hj2, ?_⟩
  have := t.node j hj2
  simpa [List.getD, List.getElem?_eq_getElem hj, List.getElem?_eq_getElem hj2] using this
theorem GTwin.within {g h : Gr} (t : GTwin g h) (hi : Gr.In g) : Gr.In h := by
  intro x hx
  obtain ⟨y, hy, A, c, rfl⟩ := t.mem hx
  exact ⟨(hi y hy).kind, (hi y hy).text⟩
theorem GTwin.lies {w w' : World} {g h : Gr} (t : GTwin g h) (hg : Gr.At w g) (h1 : Rules w' h.RA h.rules) (h2 : Nodes w' h.NA h.nodes) (h3 : ∀ x ∈ h.nodes, Lies w' x.A (ints x.kids) ∧ (x.A = none → x.cap = 0)) (h4 : h.RA = none → h.rc = 0) (h5 : h.NA = none → h.nc = 0) : Gr.At w' h where
  rules := h1
  nodes := h2
  kids := fun x hx => by
    refine ⟨(h3 x hx).1, (h3 x hx).2, ?_⟩
    obtain ⟨y, hy, A, c, rfl⟩ := t.mem hx
    exact (hg.kids y hy).2.2
  rl := by rw [t.rules]; exact hg.rl
  nl := by rw [t.len]; exact hg.nl
  rn := h4
  nn := h5
  texts := fun x hx => by
    obtain ⟨y, hy, A, c, rfl⟩ := t.mem hx
    exact hg.texts y hy
  names := by rw [t.rules]; exact hg.names
end Go.Proofs.YtjelgmdjmjnnfaaGreat

/- The kit's bodies by hand: copies with their kids apart; nodes moved on. -/
import Derived.Test.YtlbjmkljmhfjdaaGreatB5
import Derived.Test.YtlbjmkljmhfjdaaGreatB6
set_option linter.unusedSimpArgs false
set_option linter.unusedVariables false
namespace Go.Proofs.YtlbjmkljmhfjdaaGreat
open Go Go.RowKit
set_option maxRecDepth 100000 in
set_option maxHeartbeats 4000000 in
theorem copyNodes2_any (A : Option Addr) (l : List Nd) (c : Nat) (hl : l.length ≤ 1000000) (w : World) (h : Nodes w A l) (hx : ∀ x ∈ l, Nd.At w x ∧ x.kids.length ≤ 1000000) :
    Calls Tryz.prog 198 #[.slice A l.length c] w fun e w' => ∃ A' c', e = .returned (.slice A' l.length c') ∧ ∃ cl : List Nd, cl.length = l.length ∧ (∀ j, j < l.length → Twin (l.getD j Nd.zero) (cl.getD j Nd.zero)) ∧ w'.ownsRow w.heap.size 40 9 (.slice A' l.length c') l.length (ncells cl) ∧ (∀ x ∈ cl, Kid w' w.heap.size (.slice A' l.length c') x) ∧ (∀ i j, i < j → j < cl.length → ∀ a b, (cl.getD i Nd.zero).A = some a → (cl.getD j Nd.zero).A = some b → a.block ≠ b.block) ∧ (A' = none → c' = 0) ∧ Below w.heap.size w w' := by
  obtain ⟨i0, hi, hz0, hz1, hz2⟩ := info_parts Tryz.info40
  have HN := Lib.hid h
  have HX := Lib.hid hx
  obtain ⟨m, em⟩ : ∃ m, m = l.length := ⟨_, rfl⟩
  have EM := Lib.hid em
  rw [← em] at hl ⊢
  clear h hx em
  go_enter Tryz.func198, Tryz.ntmps198
  go_wp2_with fail
  go_loopw [4, 3] (fun i o wr => ∃ (k : Nat) (cl : List Nd), k ≤ m ∧ i = .int .i64 k ∧ cl.length = k ∧ (∀ j, j < k → Twin (l.getD j Nd.zero) (cl.getD j Nd.zero)) ∧ wr.ownsRow w.heap.size 40 9 o k (ncells cl) ∧ (∀ x ∈ cl, Kid wr w.heap.size o x) ∧ (∀ i j, i < j → j < cl.length → ∀ a b, (cl.getD i Nd.zero).A = some a → (cl.getD j Nd.zero).A = some b → a.block ≠ b.block) ∧ Below w.heap.size w wr) (fun i _ _ => m - (RowKit.intOf i).toNat)
  case atStart => exact ⟨0, [], by omega, rfl, rfl, fun j hj => by omega, World.ownsRow_nil _ _ _ _, by simp, by simp, Below.refl _ _⟩
  case round =>
    obtain ⟨k, cl, hk, rfl, hcl, htw, hown, hkid, hap, hbl⟩ := hrel
    obtain ⟨O, oc, rfl, hOn, _⟩ := own_slice hown
    have HTW := Lib.hid htw
    have HOWN := Lib.hid hown
    have HKID := Lib.hid hkid
    have HAP := Lib.hid hap
    have BL := Lib.hid hbl
    have HCL := Lib.hid hcl
    have HON := Lib.hid hOn
    clear htw hown hkid hap hbl hcl hOn
    by_cases hlt : k < m
    · have hlt2 : (k : Int) < m := by omega
      have hkl : k < l.length := by have := EM.out; omega
      obtain ⟨hat, hks⟩ := HX.out _ (getD_mem hkl)
      obtain ⟨b1, o1, eA, _, n1, n2, n3, n4, n5, n6, n7, n8, n9⟩ := (HN.out.below BL.out).nine hkl
      generalize hxx : l.getD k Nd.zero = x at hat hks n1 n2 n3 n4 n5 n6 n7 n8 n9
      have HXX := Lib.hid hxx
      have CN := Lib.hid (copyNode_any x hks wr (hat.below BL.out))
      rw [eA]
      clear hxx hat hks eA
      go_wp2_with (first | (go_at_call 232; refine CN.out.mono ?_; rintro e w1 ⟨A1, c1, rfl, ho, hnn, hb⟩; have HO := Lib.hid ho; have HNN := Lib.hid hnn; have H1 := Lib.hid hb; clear ho hnn hb n1 n2 n3 n4 n5 n6 n7 n8 n9) | (refine wpList_store_whole rfl 40 (.tmp 5) (.tmp 16) rfl w1.heap.size (x.at_ A1 c1).cells.toArray rfl rfl 40 _ (Blk.new _ _ _) (by kernel_rfl) (by rfl) (by simp [Nd.cells, Value.oneCell']) ?_; intro w2 hk2 hg; have H2 := Lib.hid (grown_below (B1 w1 _) (by simp) hg (fun k e => by cases e; exact Nat.le_refl _)); have d0 := hk2.cell 0; have d1 := hk2.cell 1; have d2 := hk2.cell 2; have d3 := hk2.cell 3; have d4 := hk2.cell 4; have d5 := hk2.cell 5; have d6 := hk2.cell 6; have d7 := hk2.cell 7; have d8 := hk2.cell 8; simp only [Nd.cells, List.getElem?_toArray, List.getElem?_cons_zero, List.getElem?_cons_succ] at d0 d1 d2 d3 d4 d5 d6 d7 d8; clear hk2 hg) | (at_builtin; refine wpList_append_onto _ rfl (.tmp 17) (.tmp 19) 23 rfl w.heap.size 40 i0 Nd.zero.val 9 96 Tryz.underlying23 hi hz0 hz1 hz2 rfl (by decide) (.slice O k oc) k (ncells cl) rfl (own_below (own_below (own_below HOWN.out H1.out) H2.out) (B1 w2 _)) (some ⟨w2.heap.size, 0, none⟩) 1 1 (x.at_ A1 c1).cells rfl rfl (new_news w2 (x.at_ A1 c1).cells 40) (fun h => nomatch h) (cells_one _) (by unfold maxLen; omega) (by omega) (by have := BL.out.size; have := H1.out.size; have := H2.out.size; simp; omega) ?_; intro v1 w4 ho hg hf; have HO4 := Lib.hid ho; have HG4 := Lib.hid hg; have HF4 := Lib.hid hf; clear ho hg hf))
      have HK1 : Kid w1 w.heap.size (.slice O k oc) (x.at_ A1 c1) := ⟨own_lower HO.out BL.out.size, HNN.out, fun a ha e => by
        have q1 := (HOWN.out.lt _ e).2
        have q2 := (HO.out.lt a.block (by dsimp only [Nd.at_] at ha; rw [ha]; rfl)).1
        omega⟩
      have B4 : Below w.heap.size w (w2.alloc (.cells (x.at_ A1 c1).cells.toArray 40)) := bb (bb (bb BL.out H1.out) H2.out) (B1 w2 _)
      have tk : ∀ y, Kid w1 w.heap.size (.slice O k oc) y → Kid w4 w.heap.size v1 y := fun y hy => ((hy.below H2.out).below (B1 w2 _)).grown HG4.out HF4.out
      have ap : ∀ i j, i < j → j < (cl ++ [x.at_ A1 c1]).length → ∀ a b, ((cl ++ [x.at_ A1 c1]).getD i Nd.zero).A = some a → ((cl ++ [x.at_ A1 c1]).getD j Nd.zero).A = some b → a.block ≠ b.block := by
        intro i j hij hj a b ha hb
        rw [List.length_append, List.length_singleton] at hj
        have hi : i < cl.length := by omega
        have e1 : (cl ++ [x.at_ A1 c1]).getD i Nd.zero = cl.getD i Nd.zero := by simp only [List.getD, List.getElem?_append_left hi]
        rw [e1] at ha
        by_cases hj2 : j < cl.length
        · have e2 : (cl ++ [x.at_ A1 c1]).getD j Nd.zero = cl.getD j Nd.zero := by simp only [List.getD, List.getElem?_append_left hj2]
          rw [e2] at hb
          exact HAP.out i j hij hj2 a b ha hb
        · obtain rfl : j = cl.length := by omega
          have e2 : (cl ++ [x.at_ A1 c1]).getD cl.length Nd.zero = x.at_ A1 c1 := by simp [List.getD]
          rw [e2] at hb
          have q1 := ((HKID.out _ (getD_mem hi)).1.lt a.block (by rw [ha]; rfl)).2
          have q2 := (HO.out.lt b.block (by dsimp only [Nd.at_] at hb; rw [hb]; rfl)).1
          omega
      refine ⟨⟨k + 1, cl ++ [x.at_ A1 c1], by omega, by go_num, by simp [HCL.out], fun j hj => ?_, by rw [ncells_app]; exact HO4.out, fun y hy => ?_, ap, grown_below B4 B4.size HG4.out (fun q e => (HOWN.out.lt q e).1)⟩, by simp [RowKit.intOf]; omega⟩
      · by_cases ej : j = k
        · subst ej
          rw [HXX.out, List.getD, List.getElem?_append_right (by rw [HCL.out]; omega), HCL.out]
          simp
          exact ⟨A1, c1, rfl⟩
        · have := HTW.out j (by omega)
          rw [List.getD, List.getD] at this ⊢
          rw [List.getElem?_append_left (by rw [HCL.out]; omega)]
          exact this
      · rcases List.mem_append.1 hy with hy | hy
        · exact tk y ((HKID.out y hy).below H1.out)
        · simp at hy
          subst hy
          exact tk _ HK1
    · obtain rfl : k = m := by omega
      have hlt2 : ¬ (k : Int) < k := by omega
      go_wp2_with fail
      go_ret
      exact ⟨O, oc, rfl, cl, HCL.out, HTW.out, HOWN.out, HKID.out, HAP.out, (fun e => (HON.out e).2), BL.out⟩
theorem own_same {w : World} {B B' e e' z z' n n' b : Nat} {v v' : Value} {xs xs' : List Value} (h : w.ownsRow B e z v n xs) (h' : w.ownsRow B' e' z' v' n' xs') (hb : v.ownBlock = some b) (hb' : v'.ownBlock = some b) : e = e' := by
  rcases h.2 with ⟨rfl, _⟩ | ⟨g, cap, cur, rfl, _, hg, _⟩
  · simp [Value.ownBlock] at hb
  · rcases h'.2 with ⟨rfl, _⟩ | ⟨g', cap', cur', rfl, _, hg', _⟩
    · simp [Value.ownBlock] at hb'
    · simp only [Value.ownBlock, Option.some.injEq] at hb hb'
      subst hb; subst hb'
      rw [hg] at hg'
      simp only [Option.some.injEq, Obj.cells.injEq] at hg'
      exact hg'.2.1
/-- The kids of node j, while node i's first k are moved. -/
def mst (cl : List Nd) (n : Int) (i k j : Nat) : List Int :=
  let ks := (cl.getD j Nd.zero).kids
  if j < i then ks.map (· + n) else if j = i then (ks.take k).map (· + n) ++ ks.drop k else ks
theorem mst_length (cl : List Nd) (n : Int) (i k j : Nat) : (mst cl n i k j).length = (cl.getD j Nd.zero).kids.length := by
  unfold mst
  dsimp only
  split
  · simp
  · split
    · simp; omega
    · rfl
theorem mst_zero (cl : List Nd) (n : Int) (j : Nat) : mst cl n 0 0 j = (cl.getD j Nd.zero).kids := by
  unfold mst
  simp
theorem mst_next (cl : List Nd) (n : Int) (i j : Nat) : mst cl n i (cl.getD i Nd.zero).kids.length j = mst cl n (i + 1) 0 j := by
  unfold mst
  by_cases h1 : j < i
  · simp [h1, show j < i + 1 by omega]
  · by_cases h2 : j = i
    · subst h2; simp
    · simp [h1, h2, show ¬ j < i + 1 by omega]
theorem mst_all (cl : List Nd) (n : Int) (i j : Nat) (h : j < i) : mst cl n i 0 j = (cl.getD j Nd.zero).kids.map (· + n) := by
  unfold mst
  simp [h]
theorem mst_set (cl : List Nd) (n : Int) (i k : Nat) (hk : k < (cl.getD i Nd.zero).kids.length) : (mst cl n i k i).getD k 0 = (cl.getD i Nd.zero).kids.getD k 0 ∧ (mst cl n i k i).set k ((cl.getD i Nd.zero).kids.getD k 0 + n) = mst cl n i (k + 1) i := by
  unfold mst
  simp only [Nat.lt_irrefl, if_false, if_true]
  generalize (cl.getD i Nd.zero).kids = ks at hk
  have l1 : ((ks.take k).map (· + n)).length = k := by simp; omega
  constructor
  · simp only [List.getD, List.getElem?_append_right (show ((ks.take k).map (· + n)).length ≤ k by omega), l1, Nat.sub_self, List.getElem?_drop, Nat.add_zero]
  · rw [List.set_append_right _ _ (by omega), l1, Nat.sub_self]
    rw [List.take_add_one, List.map_append, List.append_assoc]
    congr 1
    rw [List.drop_eq_getElem_cons hk]
    simp [List.getD, List.getElem?_eq_getElem hk]
    rw [List.drop_eq_getElem_cons hk]
    rfl
structure Mvd (w W : World) (cl : List Nd) (n : Int) (v : Value) (m i k : Nat) : Prop where
  row : W.ownsRow w.heap.size 40 9 v m (ncells cl)
  kids : ∀ j, j < m → W.ownsRow w.heap.size 3 1 (.slice (cl.getD j Nd.zero).A (cl.getD j Nd.zero).kids.length (cl.getD j Nd.zero).cap) (cl.getD j Nd.zero).kids.length (ints (mst cl n i k j))
  low : Below w.heap.size w W
theorem Mvd.below {w W W' : World} {cl : List Nd} {n : Int} {v : Value} {m i k : Nat} (h : Mvd w W cl n v m i k) (hb : Below W.heap.size W W') : Mvd w W' cl n v m i k :=
  ⟨own_below h.row hb, fun j hj => own_below (h.kids j hj) hb, h.low.trans (hb.mono h.low.size)⟩
theorem Mvd.next {w W : World} {cl : List Nd} {n : Int} {v : Value} {m i : Nat} (h : Mvd w W cl n v m i (cl.getD i Nd.zero).kids.length) : Mvd w W cl n v m (i + 1) 0 :=
  ⟨h.row, fun j hj => by rw [← mst_next]; exact h.kids j hj, h.low⟩
theorem Mvd.step {w W : World} {cl : List Nd} {n : Int} {v : Value} {m i k g : Nat} (h : Mvd w W cl n v m i k) (hi : i < m) (hm : m ≤ cl.length) (hk : k < (cl.getD i Nd.zero).kids.length) (hg : (cl.getD i Nd.zero).A = some ⟨g, 0, none⟩)
    (hap : ∀ i j, i < j → j < cl.length → ∀ a b, (cl.getD i Nd.zero).A = some a → (cl.getD j Nd.zero).A = some b → a.block ≠ b.block) :
    Mvd w (W.setCell ⟨g, k, none⟩ (.int .i64 ((cl.getD i Nd.zero).kids.getD k 0 + n))) cl n v m i (k + 1) := by
  have hk0 := h.kids i hi
  rw [hg] at hk0
  obtain ⟨s1, s2⟩ := hk0.stored k (.int .i64 ((cl.getD i Nd.zero).kids.getD k 0 + n))
  have hgb : w.heap.size ≤ g := (hk0.lt g rfl).1
  have hne : v.ownBlock ≠ some g := fun e => by
    have := own_same h.row hk0 e rfl
    revert this
    decide
  refine ⟨h.row.kept s2 (.inr (fun e => hne e)), fun j hj => ?_, h.low.setCell hgb _⟩
  by_cases e : j = i
  · subst e
    rw [hg]
    have : ints (mst cl n j (k + 1) j) = (ints (mst cl n j k j)).set k (.int .i64 ((cl.getD j Nd.zero).kids.getD k 0 + n)) := by
      rw [← (mst_set cl n j k hk).2]
      simp [ints, List.map_set]
    rw [this]
    exact s1
  · have e2 : mst cl n i (k + 1) j = mst cl n i k j := by
      unfold mst
      simp [e]
    rw [e2]
    refine (h.kids j hj).kept s2 (.inr (fun e' => ?_))
    cases hA : (cl.getD j Nd.zero).A with
    | none => rw [hA] at e'; cases e'
    | some a =>
      rw [hA] at e'
      simp only [Value.ownBlock, Option.some.injEq] at e'
      rcases Nat.lt_or_gt_of_ne e with hlt | hlt
      · exact hap j i hlt (by omega) a _ hA hg e'
      · exact hap i j hlt (by omega) _ a hg hA e'.symm
theorem getD_mem_int {l : List Int} {k : Nat} (h : k < l.length) : l.getD k 0 ∈ l := by simp [List.getD, List.getElem?_eq_getElem h]
/-- Nodes that can be read, small ones. -/
structure Bod (w : World) (A : Option Addr) (l : List Nd) (K : Int) : Prop where
  nodes : Nodes w A l
  kids : ∀ x ∈ l, Nd.At w x ∧ x.kids.length ≤ 1000 ∧ ∀ k ∈ x.kids, 0 ≤ k ∧ k < K
  texts : ∀ x ∈ l, x.text.size ≤ 9223372036854775807
  small : l.length ≤ 100000
theorem Bod.below {w w' : World} {A : Option Addr} {l : List Nd} {K : Int} (h : Bod w A l K) (hb : Below w.heap.size w w') : Bod w' A l K :=
  ⟨h.nodes.below hb, fun x hx => ⟨(h.kids x hx).1.below hb, (h.kids x hx).2⟩, h.texts, h.small⟩
/-- A node moved on. -/
def Nd.mv (x : Nd) (n : Int) (A : Option Addr) (c : Nat) : Nd := { x with kids := x.kids.map (· + n), A := A, cap := c }
/-- Nodes moved on, wherever their kids lie. -/
def Moved (n : Int) (l l' : List Nd) : Prop := l'.length = l.length ∧ ∀ j, j < l.length → ∃ A c, l'.getD j Nd.zero = (l.getD j Nd.zero).mv n A c
theorem Mvd.fin {w W : World} {l cl : List Nd} {n K : Int} {A : Option Addr} {c m : Nat} (h : Mvd w W cl n (.slice A m c) m m 0) (hm : m = cl.length) (hl : cl.length = l.length) (ht : ∀ j, j < l.length → Twin (l.getD j Nd.zero) (cl.getD j Nd.zero)) (hk : ∀ x ∈ cl, x.A = none → x.cap = 0)
    (hb : ∀ x ∈ l, x.kids.length ≤ 1000 ∧ ∀ k ∈ x.kids, 0 ≤ k ∧ k < K) (hn : 0 ≤ n) (hx : ∀ x ∈ l, x.text.size ≤ 9223372036854775807) (hs : l.length ≤ 100000) :
    ∃ l', Moved n l l' ∧ Bod W A l' (K + n) ∧ W.ownsRow w.heap.size 40 9 (.slice A l'.length c) l'.length (ncells l') ∧ (∀ x ∈ l', W.ownsRow w.heap.size 3 1 (.slice x.A x.kids.length x.cap) x.kids.length (ints x.kids)) := by
  let f : Nd → Nd := fun x => { x with kids := x.kids.map (· + n) }
  have fc : ∀ x : Nd, (f x).cells = x.cells := fun x => by simp [f, Nd.cells]
  have fl : ∀ l : List Nd, ncells (l.map f) = ncells l := fun l => by
    induction l with
    | nil => rfl
    | cons x l ih => simp only [List.map_cons, ncells, fc, ih]
  have hlen : (cl.map f).length = m := by rw [List.length_map, hm]
  have hfj : ∀ j, j < cl.length → (cl.map f).getD j Nd.zero = f (cl.getD j Nd.zero) := fun j hj => by simp [List.getD, hj]
  have hrow : W.ownsRow w.heap.size 40 9 (.slice A (cl.map f).length c) (cl.map f).length (ncells (cl.map f)) := by
    rw [hlen, fl]; exact h.row
  have hkid : ∀ x ∈ cl.map f, W.ownsRow w.heap.size 3 1 (.slice x.A x.kids.length x.cap) x.kids.length (ints x.kids) := by
    intro x hx'
    obtain ⟨y, hy, rfl⟩ := List.mem_map.1 hx'
    obtain ⟨j, hj, rfl⟩ := List.getElem_of_mem hy
    have := h.kids j (by omega)
    rw [mst_all cl n m j (by omega)] at this
    have e : cl.getD j Nd.zero = cl[j] := by simp [List.getD, hj]
    rw [e] at this
    simpa [f] using this
  have htw : ∀ j, j < l.length → ∃ A' c', cl.getD j Nd.zero = (l.getD j Nd.zero).at_ A' c' := ht
  refine ⟨cl.map f, ⟨by rw [hlen, hm, hl], fun j hj => ?_⟩, ⟨own_nodes hrow, fun x hx' => ?_, fun x hx' => ?_, by rw [hlen, hm, hl]; exact hs⟩, hrow, hkid⟩
  · obtain ⟨A', c', e⟩ := htw j hj
    refine ⟨A', c', ?_⟩
    rw [hfj j (by omega), e]
    rfl
  · have hk1 := hkid x hx'
    obtain ⟨y, hy, rfl⟩ := List.mem_map.1 hx'
    obtain ⟨j, hj, rfl⟩ := List.getElem_of_mem hy
    obtain ⟨A', c', e⟩ := htw j (by omega)
    have e0 : cl.getD j Nd.zero = cl[j] := by simp [List.getD, hj]
    have hmem : l.getD j Nd.zero ∈ l := getD_mem (by omega)
    have hks : cl[j].kids = (l.getD j Nd.zero).kids := by rw [← e0, e]; first | done | rfl
    obtain ⟨b1, b2⟩ := hb _ hmem
    rw [← hks] at b1 b2
    refine ⟨⟨own_lies1 hk1, fun hA => hk cl[j] (List.getElem_mem hj) hA, ?_⟩, ?_, fun k hk' => ?_⟩
    · simp only [f, List.length_map]; omega
    · simp only [f, List.length_map]; exact b1
    · obtain ⟨z, hz, rfl⟩ := List.mem_map.1 (show k ∈ cl[j].kids.map (· + n) from hk')
      have := b2 z hz
      show 0 ≤ z + n ∧ z + n < K + n
      omega
  · obtain ⟨y, hy, rfl⟩ := List.mem_map.1 hx'
    obtain ⟨j, hj, rfl⟩ := List.getElem_of_mem hy
    obtain ⟨A', c', e⟩ := htw j (by omega)
    have e0 : cl.getD j Nd.zero = cl[j] := by simp [List.getD, hj]
    have : cl[j].text = (l.getD j Nd.zero).text := by rw [← e0, e]; first | done | rfl
    show cl[j].text.size ≤ _
    rw [this]
    exact hx _ (getD_mem (by omega))
set_option maxRecDepth 100000 in
set_option maxHeartbeats 4000000 in
theorem moved_any (A : Option Addr) (l : List Nd) (c : Nat) (n K : Int) (w : World) (h : Bod w A l K) (hl : l.length ≤ 100000) (hn : 0 ≤ n ∧ n ≤ 1000000000) (hK : K ≤ 1000000000) :
    Calls Tryz.prog 137 #[.slice A l.length c, .int .i64 n] w fun e w' => ∃ A' c' l', e = .returned (.slice A' l'.length c') ∧ Moved n l l' ∧ Bod w' A' l' (K + n) ∧ w'.ownsRow w.heap.size 40 9 (.slice A' l'.length c') l'.length (ncells l') ∧ (∀ x ∈ l', w'.ownsRow w.heap.size 3 1 (.slice x.A x.kids.length x.cap) x.kids.length (ints x.kids)) ∧ (A' = none → c' = 0) ∧ Below w.heap.size w w' := by
  have CN := Lib.hid (copyNodes2_any A l c (by omega) w h.nodes (fun x hx => ⟨(h.kids x hx).1, by have := (h.kids x hx).2.1; omega⟩))
  have HH := Lib.hid h
  have HB := Lib.hid (fun x hx => (h.kids x hx).2.2)
  obtain ⟨m, em⟩ : ∃ m, m = l.length := ⟨_, rfl⟩
  rw [← em] at CN hl ⊢
  have EM := Lib.hid em
  clear h em
  go_enter Tryz.func137, Tryz.ntmps137
  go_wp2_with (go_at_call 198; with_reducible refine CN.out.mono ?_; rintro e w1 ⟨A1, c1, rfl, cl, h1, h2, h3, h4, h5, h6, h7⟩; have C1 := Lib.hid h1; have C2 := Lib.hid h2; have C3 := Lib.hid h3; have C4 := Lib.hid h4; have C5 := Lib.hid h5; have C6 := Lib.hid h6; have C7 := Lib.hid h7; clear h1 h2 h3 h4 h5 h6 h7)
  have M0 : RowKit.Hid (Mvd w w1 cl n (.slice A1 m c1) m 0 0) := Lib.hid ⟨C3.out, fun j hj => by
    rw [mst_zero]
    exact (C4.out _ (getD_mem (by have := C1.out; omega))).1, C7.out⟩
  have hcl : cl.length = m := C1.out
  have HKB := Lib.hid (fun i (hi : i < m) => show (cl.getD i Nd.zero).kids.length ≤ 1000 ∧ ∀ k, k < (cl.getD i Nd.zero).kids.length → 0 ≤ (cl.getD i Nd.zero).kids.getD k 0 ∧ (cl.getD i Nd.zero).kids.getD k 0 < K from by
    obtain ⟨A', c', e⟩ := C2.out i hi
    have hm : l.getD i Nd.zero ∈ l := getD_mem (by have := EM.out; omega)
    rw [e]
    refine ⟨(HH.out.kids _ hm).2.1, fun k hk => HB.out _ hm _ ?_⟩
    exact getD_mem_int hk)
  go_loopw [6] (fun i wr => ∃ k : Nat, k ≤ m ∧ i = .int .i64 k ∧ Mvd w wr cl n (.slice A1 m c1) m k 0) (fun i _ => m - (RowKit.intOf i).toNat)
  case atStart => exact ⟨0, by omega, by go_num, M0.out⟩
  case round =>
    obtain ⟨i, hi, rfl, hM⟩ := hrel
    by_cases hlt : i < m
    · have hlt2 : (i : Int) < m := by omega
      have hM0 := Lib.hid hM
      obtain ⟨hk1, hk2⟩ := HKB.out i hlt
      have HK2 := Lib.hid hk2
      clear hM hk2
      obtain ⟨kl, ekl⟩ : ∃ kl, kl = (cl.getD i Nd.zero).kids.length := ⟨_, rfl⟩
      have EKL := Lib.hid ekl
      rw [← ekl] at hk1
      clear ekl
      go_wp2_with fail
      go_loopw [7] (fun q wr => ∃ k : Nat, k ≤ kl ∧ q = .int .i64 k ∧ Mvd w wr cl n (.slice A1 m c1) m i k) (fun q _ => kl - (RowKit.intOf q).toNat)
      case atStart => exact ⟨0, by omega, by go_num, hM0.out⟩
      case round =>
        obtain ⟨k, hk, rfl, hM⟩ := hrel
        obtain ⟨g0, cap0, e0, _, _, _, _⟩ := own_shape hM.row (by omega)
        simp only [Value.slice.injEq, true_and] at e0
        obtain ⟨eA, eC⟩ := e0
        have hN : Nodes wr A1 cl := own_nodes (by rw [C1.out]; exact hM.row)
        obtain ⟨b1, o1, eA1, hb1, _, _, _, _, _, _, _, _, c9⟩ := hN.nine (show i < cl.length by omega)
        rw [← EKL.out] at c9
        by_cases hltk : k < kl
        · have hltk2 : (k : Int) < kl := by omega
          have hrow := hM.kids i hlt
          obtain ⟨gk, capk, ek, _, _, _, _⟩ := own_shape hrow (by have := EKL.out; omega)
          simp only [Value.slice.injEq, true_and] at ek
          obtain ⟨eKA, eKC⟩ := ek
          rw [eKA] at hrow c9
          obtain ⟨s1, s2⟩ := mst_set cl n i k (by have := EKL.out; omega)
          have ck : wr.cell? ⟨gk, k, none⟩ = some (.int .i64 ((cl.getD i Nd.zero).kids.getD k 0)) := by
            rw [hrow.cellAt k (by have := EKL.out; omega), ← s1]
            exact ints_at (by rw [mst_length]; have := EKL.out; omega)
          have fk := hrow.frozenAt k
          obtain ⟨v1, v2⟩ := HK2.out k (by have := EKL.out; omega)
          have ST := Lib.hid (eA1 ▸ hM.step hlt (by omega) (by have := EKL.out; omega) eKA C5.out)
          generalize (cl.getD i Nd.zero).kids.getD k 0 = xv at ck v1 v2 ST
          have hw : IntKind.wrap .i64 (xv + n) = xv + n := by rw [IntKind.wrap_i64]; omega
          generalize (cl.getD i Nd.zero).cap = capq at c9
          rw [eA1]
          clear hM hN hrow s1 s2 eKA eKC eA eC
          go_wp2_with fail
          go_region_with (fail)
          all_goals (
            go_wp2_with fail
            go_roundw
            case rel => exact ⟨k + 1, by omega, by go_num, (by first | exact ST.out | exact ST.out.below (bdrew1 (Below.refl _ _)) | exact ST.out.below (bdrew1 (bdrew1 (Below.refl _ _))) | exact ST.out.below (bdrew (Below.refl _ _)))⟩
            case measure => simp [RowKit.intOf]; omega)
        · obtain rfl : k = kl := by omega
          have hneg : ¬ (k : Int) < k := by omega
          have hM1 := Lib.hid hM
          generalize (cl.getD i Nd.zero).cap = capq at c9
          generalize (cl.getD i Nd.zero).A = Aq at c9
          rw [eA1]
          clear hM hN eA eC
          go_wp2_with fail
          go_roundw
          case rel => exact ⟨i + 1, by omega, by go_num, by have := hM1.out; rw [EKL.out, eA1] at this; exact this.next⟩
          case measure => simp [RowKit.intOf]; omega
    · obtain rfl : i = m := by omega
      have hneg : ¬ (i : Int) < i := by omega
      have hM0 := Lib.hid hM
      clear hM
      go_wp2_with fail
      go_ret
      obtain ⟨l', q1, q2, q3, q4⟩ := hM0.out.fin C1.out.symm (by have := C1.out; have := EM.out; omega) (fun j hj => C2.out j (by have := EM.out; omega)) (fun x hx => (C4.out x hx).2.1) (fun x hx => ⟨(HH.out.kids x hx).2.1, HB.out x hx⟩) hn.1 HH.out.texts HH.out.small
      have e : i = l'.length := by have := q1.1; have := EM.out; omega
      rw [e]
      exact ⟨A1, c1, l', rfl, q1, q2, by rw [← e]; rw [← e] at q3; exact q3, q4, C6.out, hM0.out.low⟩
end Go.Proofs.YtlbjmkljmhfjdaaGreat

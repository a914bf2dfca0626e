/- The kit's bodies by hand: copies with their kids apart; nodes moved on. -/
import Derived.Test.YtjelgmdjmjnnfaaB1
import Derived.Test.YtjelgmdjmjnnfaaA7
import Derived.Deep.CutRange
set_option linter.unusedSimpArgs false
set_option linter.unusedVariables false
namespace Go.Proofs.Ytjelgmdjmjnnfaa
open Go Go.RowKit
set_option maxRecDepth 100000 in
set_option maxHeartbeats 4000000 in
theorem copyNodes2_any (A : Option Addr) (l : List Nd) (c : Nat) (hl : l.length ≤ 1000000) (w : World) (h : Nodes w A l) (hx : ∀ x ∈ l, Nd.At w x ∧ x.kids.length ≤ 1000000) :
    Calls Try.prog 40 #[.slice A l.length c] w fun e w' => ∃ A' c', e = .returned (.slice A' l.length c') ∧ ∃ cl : List Nd, cl.length = l.length ∧ (∀ j, j < l.length → Twin (l.getD j Nd.zero) (cl.getD j Nd.zero)) ∧ w'.ownsRow w.heap.size 41 9 (.slice A' l.length c') l.length (ncells cl) ∧ (∀ x ∈ cl, Kid w' w.heap.size (.slice A' l.length c') x) ∧ (∀ i j, i < j → j < cl.length → ∀ a b, (cl.getD i Nd.zero).A = some a → (cl.getD j Nd.zero).A = some b → a.block ≠ b.block) ∧ (A' = none → c' = 0) ∧ Below w.heap.size w w' := by
  obtain ⟨i0, hi, hz0, hz1, hz2⟩ := info_parts Try.info41
  have HN := Lib.hid h
  have HX := Lib.hid hx
  obtain ⟨m, em⟩ : ∃ m, m = l.length := ⟨_, rfl⟩
  have EM := Lib.hid em
  rw [← em] at hl ⊢
  clear h hx em
  go_enter Try.func40, Try.ntmps40
  go_wp2_with fail
  go_loopw [4, 3] (fun i o wr => ∃ (k : Nat) (cl : List Nd), k ≤ m ∧ i = .int .i64 k ∧ cl.length = k ∧ (∀ j, j < k → Twin (l.getD j Nd.zero) (cl.getD j Nd.zero)) ∧ wr.ownsRow w.heap.size 41 9 o k (ncells cl) ∧ (∀ x ∈ cl, Kid wr w.heap.size o x) ∧ (∀ i j, i < j → j < cl.length → ∀ a b, (cl.getD i Nd.zero).A = some a → (cl.getD j Nd.zero).A = some b → a.block ≠ b.block) ∧ Below w.heap.size w wr) (fun i _ _ => m - (intOf i).toNat)
  case atStart => exact ⟨0, [], by omega, rfl, rfl, fun j hj => by omega, World.ownsRow_nil _ _ _ _, by simp, by simp, Below.refl _ _⟩
  case round =>
    obtain ⟨k, cl, hk, rfl, hcl, htw, hown, hkid, hap, hbl⟩ := hrel
    obtain ⟨O, oc, rfl, hOn, _⟩ := own_slice hown
    have HTW := Lib.hid htw
    have HOWN := Lib.hid hown
    have HKID := Lib.hid hkid
    have HAP := Lib.hid hap
    have BL := Lib.hid hbl
    have HCL := Lib.hid hcl
    have HON := Lib.hid hOn
    clear htw hown hkid hap hbl hcl hOn
    by_cases hlt : k < m
    · have hlt2 : (k : Int) < m := by omega
      have hkl : k < l.length := by have := EM.out; omega
      obtain ⟨hat, hks⟩ := HX.out _ (getD_mem hkl)
      obtain ⟨b1, o1, eA, _, n1, n2, n3, n4, n5, n6, n7, n8, n9⟩ := (HN.out.below BL.out).nine hkl
      generalize hxx : l.getD k Nd.zero = x at hat hks n1 n2 n3 n4 n5 n6 n7 n8 n9
      have HXX := Lib.hid hxx
      have CN := Lib.hid (copyNode_any x hks wr (hat.below BL.out))
      rw [eA]
      clear hxx hat hks eA
      go_wp2_with (first | (go_at_call 64; refine CN.out.mono ?_; rintro e w1 ⟨A1, c1, rfl, ho, hnn, hb⟩; have HO := Lib.hid ho; have HNN := Lib.hid hnn; have H1 := Lib.hid hb; clear ho hnn hb n1 n2 n3 n4 n5 n6 n7 n8 n9) | (refine wpList_store_whole rfl 41 (.tmp 5) (.tmp 16) rfl w1.heap.size (x.at_ A1 c1).cells.toArray rfl rfl 41 _ (Blk.new _ _ _) (by kernel_rfl) (by rfl) (by simp [Nd.cells, Value.oneCell']) ?_; intro w2 hk2 hg; have H2 := Lib.hid (grown_below (B1 w1 _) (by simp) hg (fun k e => by cases e; exact Nat.le_refl _)); have d0 := hk2.cell 0; have d1 := hk2.cell 1; have d2 := hk2.cell 2; have d3 := hk2.cell 3; have d4 := hk2.cell 4; have d5 := hk2.cell 5; have d6 := hk2.cell 6; have d7 := hk2.cell 7; have d8 := hk2.cell 8; simp only [Nd.cells, List.getElem?_toArray, List.getElem?_cons_zero, List.getElem?_cons_succ] at d0 d1 d2 d3 d4 d5 d6 d7 d8; clear hk2 hg) | (at_builtin; refine wpList_append_onto _ rfl (.tmp 17) (.tmp 19) 23 rfl w.heap.size 41 i0 Nd.zero.val 9 96 Try.underlying23 hi hz0 hz1 hz2 rfl (by decide) (.slice O k oc) k (ncells cl) rfl (own_below (own_below (own_below HOWN.out H1.out) H2.out) (B1 w2 _)) (some ⟨w2.heap.size, 0, none⟩) 1 1 (x.at_ A1 c1).cells rfl rfl (new_news w2 (x.at_ A1 c1).cells 41) (fun h => nomatch h) (cells_one _) (by unfold maxLen; omega) (by omega) (by have := BL.out.size; have := H1.out.size; have := H2.out.size; simp; omega) ?_; intro v1 w4 ho hg hf; have HO4 := Lib.hid ho; have HG4 := Lib.hid hg; have HF4 := Lib.hid hf; clear ho hg hf))
      have HK1 : Kid w1 w.heap.size (.slice O k oc) (x.at_ A1 c1) := ⟨own_lower HO.out BL.out.size, HNN.out, fun a ha e => by
        have q1 := (HOWN.out.lt _ e).2
        have q2 := (HO.out.lt a.block (by dsimp only [Nd.at_] at ha; rw [ha]; rfl)).1
        omega⟩
      have B4 : Below w.heap.size w (w2.alloc (.cells (x.at_ A1 c1).cells.toArray 41)) := bb (bb (bb BL.out H1.out) H2.out) (B1 w2 _)
      have tk : ∀ y, Kid w1 w.heap.size (.slice O k oc) y → Kid w4 w.heap.size v1 y := fun y hy => ((hy.below H2.out).below (B1 w2 _)).grown HG4.out HF4.out
      have ap : ∀ i j, i < j → j < (cl ++ [x.at_ A1 c1]).length → ∀ a b, ((cl ++ [x.at_ A1 c1]).getD i Nd.zero).A = some a → ((cl ++ [x.at_ A1 c1]).getD j Nd.zero).A = some b → a.block ≠ b.block := by
        intro i j hij hj a b ha hb
        rw [List.length_append, List.length_singleton] at hj
        have hi : i < cl.length := by omega
        have e1 : (cl ++ [x.at_ A1 c1]).getD i Nd.zero = cl.getD i Nd.zero := by simp only [List.getD, List.getElem?_append_left hi]
        rw [e1] at ha
        by_cases hj2 : j < cl.length
        · have e2 : (cl ++ [x.at_ A1 c1]).getD j Nd.zero = cl.getD j Nd.zero := by simp only [List.getD, List.getElem?_append_left hj2]
          rw [e2] at hb
          exact HAP.out i j hij hj2 a b ha hb
        · obtain rfl : j = cl.length := by omega
          have e2 : (cl ++ [x.at_ A1 c1]).getD cl.length Nd.zero = x.at_ A1 c1 := by simp [List.getD]
          rw [e2] at hb
          have q1 := ((HKID.out _ (getD_mem hi)).1.lt a.block (by rw [ha]; rfl)).2
          have q2 := (HO.out.lt b.block (by dsimp only [Nd.at_] at hb; rw [hb]; rfl)).1
          omega
      refine ⟨⟨k + 1, cl ++ [x.at_ A1 c1], by omega, by go_num, by simp [HCL.out], fun j hj => ?_, by rw [ncells_app]; exact HO4.out, fun y hy => ?_, ap, grown_below B4 B4.size HG4.out (fun q e => (HOWN.out.lt q e).1)⟩, by simp [intOf]; omega⟩
      · by_cases ej : j = k
        · subst ej
          rw [HXX.out, List.getD, List.getElem?_append_right (by rw [HCL.out]; omega), HCL.out]
          simp
          exact ⟨A1, c1, rfl⟩
        · have := HTW.out j (by omega)
          rw [List.getD, List.getD] at this ⊢
          rw [List.getElem?_append_left (by rw [HCL.out]; omega)]
          exact this
      · rcases List.mem_append.1 hy with hy | hy
        · exact tk y ((HKID.out y hy).below H1.out)
        · simp at hy
          subst hy
          exact tk _ HK1
    · obtain rfl : k = m := by omega
      have hlt2 : ¬ (k : Int) < k := by omega
      go_wp2_with fail
      go_ret
      exact ⟨O, oc, rfl, cl, HCL.out, HTW.out, HOWN.out, HKID.out, HAP.out, (fun e => (HON.out e).2), BL.out⟩
theorem own_same {w : World} {B B' e e' z z' n n' b : Nat} {v v' : Value} {xs xs' : List Value} (h : w.ownsRow B e z v n xs) (h' : w.ownsRow B' e' z' v' n' xs') (hb : v.ownBlock = some b) (hb' : v'.ownBlock = some b) : e = e' := by
  rcases h.2 with ⟨rfl, _⟩ | ⟨g, cap, cur, rfl, _, hg, _⟩
  · simp [Value.ownBlock] at hb
  · rcases h'.2 with ⟨rfl, _⟩ | ⟨g', cap', cur', rfl, _, hg', _⟩
    · simp [Value.ownBlock] at hb'
    · simp only [Value.ownBlock, Option.some.injEq] at hb hb'
      subst hb; subst hb'
      rw [hg] at hg'
      simp only [Option.some.injEq, Obj.cells.injEq] at hg'
      exact hg'.2.1
/-- The kids of node j, while node i's first k are moved. -/
def mst (cl : List Nd) (n : Int) (i k j : Nat) : List Int :=
  let ks := (cl.getD j Nd.zero).kids
  if j < i then ks.map (· + n) else if j = i then (ks.take k).map (· + n) ++ ks.drop k else ks
theorem mst_length (cl : List Nd) (n : Int) (i k j : Nat) : (mst cl n i k j).length = (cl.getD j Nd.zero).kids.length := by
  unfold mst
  dsimp only
  split
  · simp
  · split
    · simp; omega
    · rfl
theorem mst_zero (cl : List Nd) (n : Int) (j : Nat) : mst cl n 0 0 j = (cl.getD j Nd.zero).kids := by
  unfold mst
  simp
theorem mst_next (cl : List Nd) (n : Int) (i j : Nat) : mst cl n i (cl.getD i Nd.zero).kids.length j = mst cl n (i + 1) 0 j := by
  unfold mst
  by_cases h1 : j < i
  · simp [h1, show j < i + 1 by omega]
  · by_cases h2 : j = i
    · subst h2; simp
    · simp [h1, h2, show ¬ j < i + 1 by omega]
theorem mst_all (cl : List Nd) (n : Int) (i j : Nat) (h : j < i) : mst cl n i 0 j = (cl.getD j Nd.zero).kids.map (· + n) := by
  unfold mst
  simp [h]
theorem mst_set (cl : List Nd) (n : Int) (i k : Nat) (hk : k < (cl.getD i Nd.zero).kids.length) : (mst cl n i k i).getD k 0 = (cl.getD i Nd.zero).kids.getD k 0 ∧ (mst cl n i k i).set k ((cl.getD i Nd.zero).kids.getD k 0 + n) = mst cl n i (k + 1) i := by
  unfold mst
  simp only [Nat.lt_irrefl, if_false, if_true]
  generalize (cl.getD i Nd.zero).kids = ks at hk
  have l1 : ((ks.take k).map (· + n)).length = k := by simp; omega
  constructor
  · simp only [List.getD, List.getElem?_append_right (show ((ks.take k).map (· + n)).length ≤ k by omega), l1, Nat.sub_self, List.getElem?_drop, Nat.add_zero]
  · rw [List.set_append_right _ _ (by omega), l1, Nat.sub_self]
    rw [List.take_add_one, List.map_append, List.append_assoc]
    congr 1
    rw [List.drop_eq_getElem_cons hk]
    simp [List.getD, List.getElem?_eq_getElem hk]
    rw [List.drop_eq_getElem_cons hk]
    rfl
structure Mvd (w W : World) (cl : List Nd) (n : Int) (v : Value) (m i k : Nat) : Prop where
  row : W.ownsRow w.heap.size 41 9 v m (ncells cl)
  kids : ∀ j, j < m → W.ownsRow w.heap.size 3 1 (.slice (cl.getD j Nd.zero).A (cl.getD j Nd.zero).kids.length (cl.getD j Nd.zero).cap) (cl.getD j Nd.zero).kids.length (ints (mst cl n i k j))
  low : Below w.heap.size w W
theorem Mvd.below {w W W' : World} {cl : List Nd} {n : Int} {v : Value} {m i k : Nat} (h : Mvd w W cl n v m i k) (hb : Below W.heap.size W W') : Mvd w W' cl n v m i k :=
  ⟨own_below h.row hb, fun j hj => own_below (h.kids j hj) hb, h.low.trans (hb.mono h.low.size)⟩
theorem Mvd.next {w W : World} {cl : List Nd} {n : Int} {v : Value} {m i : Nat} (h : Mvd w W cl n v m i (cl.getD i Nd.zero).kids.length) : Mvd w W cl n v m (i + 1) 0 :=
  ⟨h.row, fun j hj => by rw [← mst_next]; exact h.kids j hj, h.low⟩
theorem Mvd.step {w W : World} {cl : List Nd} {n : Int} {v : Value} {m i k g : Nat} (h : Mvd w W cl n v m i k) (hi : i < m) (hm : m ≤ cl.length) (hk : k < (cl.getD i Nd.zero).kids.length) (hg : (cl.getD i Nd.zero).A = some ⟨g, 0, none⟩)
    (hap : ∀ i j, i < j → j < cl.length → ∀ a b, (cl.getD i Nd.zero).A = some a → (cl.getD j Nd.zero).A = some b → a.block ≠ b.block) :
    Mvd w (W.setCell ⟨g, k, none⟩ (.int .i64 ((cl.getD i Nd.zero).kids.getD k 0 + n))) cl n v m i (k + 1) := by
  have hk0 := h.kids i hi
  rw [hg] at hk0
  obtain ⟨s1, s2⟩ := hk0.stored k (.int .i64 ((cl.getD i Nd.zero).kids.getD k 0 + n))
  have hgb : w.heap.size ≤ g := (hk0.lt g rfl).1
  have hne : v.ownBlock ≠ some g := fun e => by
    have := own_same h.row hk0 e rfl
    revert this
    decide
  refine ⟨h.row.kept s2 (.inr (fun e => hne e)), fun j hj => ?_, h.low.setCell hgb _⟩
  by_cases e : j = i
  · subst e
    rw [hg]
    have : ints (mst cl n j (k + 1) j) = (ints (mst cl n j k j)).set k (.int .i64 ((cl.getD j Nd.zero).kids.getD k 0 + n)) := by
      rw [← (mst_set cl n j k hk).2]
      simp [ints, List.map_set]
    rw [this]
    exact s1
  · have e2 : mst cl n i (k + 1) j = mst cl n i k j := by
      unfold mst
      simp [e]
    rw [e2]
    refine (h.kids j hj).kept s2 (.inr (fun e' => ?_))
    cases hA : (cl.getD j Nd.zero).A with
    | none => rw [hA] at e'; cases e'
    | some a =>
      rw [hA] at e'
      simp only [Value.ownBlock, Option.some.injEq] at e'
      rcases Nat.lt_or_gt_of_ne e with hlt | hlt
      · exact hap j i hlt (by omega) a _ hA hg e'
      · exact hap i j hlt (by omega) _ a hg hA e'.symm
theorem getD_mem_int {l : List Int} {k : Nat} (h : k < l.length) : l.getD k 0 ∈ l := by simp [List.getD, List.getElem?_eq_getElem h]
/-- Nodes that can be read, small ones. -/
structure Bod (w : World) (A : Option Addr) (l : List Nd) (K : Int) : Prop where
  nodes : Nodes w A l
  kids : ∀ x ∈ l, Nd.At w x ∧ x.kids.length ≤ 1000 ∧ ∀ k ∈ x.kids, 0 ≤ k ∧ k < K
  texts : ∀ x ∈ l, x.text.size ≤ 9223372036854775807
  small : l.length ≤ 100000
theorem Bod.below {w w' : World} {A : Option Addr} {l : List Nd} {K : Int} (h : Bod w A l K) (hb : Below w.heap.size w w') : Bod w' A l K :=
  ⟨h.nodes.below hb, fun x hx => ⟨(h.kids x hx).1.below hb, (h.kids x hx).2⟩, h.texts, h.small⟩
/-- A node moved on. -/
def Nd.mv (x : Nd) (n : Int) (A : Option Addr) (c : Nat) : Nd := { x with kids := x.kids.map (· + n), A := A, cap := c }
/-- Nodes moved on, wherever their kids lie. -/
def Moved (n : Int) (l l' : List Nd) : Prop := l'.length = l.length ∧ ∀ j, j < l.length → ∃ A c, l'.getD j Nd.zero = (l.getD j Nd.zero).mv n A c
theorem Mvd.fin {w W : World} {l cl : List Nd} {n K : Int} {A : Option Addr} {c m : Nat} (h : Mvd w W cl n (.slice A m c) m m 0) (hm : m = cl.length) (hl : cl.length = l.length) (ht : ∀ j, j < l.length → Twin (l.getD j Nd.zero) (cl.getD j Nd.zero)) (hk : ∀ x ∈ cl, x.A = none → x.cap = 0)
    (hb : ∀ x ∈ l, x.kids.length ≤ 1000 ∧ ∀ k ∈ x.kids, 0 ≤ k ∧ k < K) (hn : 0 ≤ n) (hx : ∀ x ∈ l, x.text.size ≤ 9223372036854775807) (hs : l.length ≤ 100000) :
    ∃ l', Moved n l l' ∧ Bod W A l' (K + n) ∧ W.ownsRow w.heap.size 41 9 (.slice A l'.length c) l'.length (ncells l') ∧ (∀ x ∈ l', W.ownsRow w.heap.size 3 1 (.slice x.A x.kids.length x.cap) x.kids.length (ints x.kids)) := by
  let f : Nd → Nd := fun x => { x with kids := x.kids.map (· + n) }
  have fc : ∀ x : Nd, (f x).cells = x.cells := fun x => by simp [f, Nd.cells]
  have fl : ∀ l : List Nd, ncells (l.map f) = ncells l := fun l => by
    induction l with
    | nil => rfl
    | cons x l ih => simp only [List.map_cons, ncells, fc, ih]
  have hlen : (cl.map f).length = m := by rw [List.length_map, hm]
  have hfj : ∀ j, j < cl.length → (cl.map f).getD j Nd.zero = f (cl.getD j Nd.zero) := fun j hj => by simp [List.getD, hj]
  have hrow : W.ownsRow w.heap.size 41 9 (.slice A (cl.map f).length c) (cl.map f).length (ncells (cl.map f)) := by
    rw [hlen, fl]; exact h.row
  have hkid : ∀ x ∈ cl.map f, W.ownsRow w.heap.size 3 1 (.slice x.A x.kids.length x.cap) x.kids.length (ints x.kids) := by
    intro x hx'
    obtain ⟨y, hy, rfl⟩ := List.mem_map.1 hx'
    obtain ⟨j, hj, rfl⟩ := List.getElem_of_mem hy
    have := h.kids j (by omega)
    rw [mst_all cl n m j (by omega)] at this
    have e : cl.getD j Nd.zero = cl[j] := by simp [List.getD, hj]
    rw [e] at this
    simpa [f] using this
  have htw : ∀ j, j < l.length → ∃ A' c', cl.getD j Nd.zero = (l.getD j Nd.zero).at_ A' c' := ht
  refine ⟨cl.map f, ⟨by rw [hlen, hm, hl], fun j hj => ?_⟩, ⟨own_nodes hrow, fun x hx' => ?_, fun x hx' => ?_, by rw [hlen, hm, hl]; exact hs⟩, hrow, hkid⟩
  · obtain ⟨A', c', e⟩ := htw j hj
    refine ⟨A', c', ?_⟩
    rw [hfj j (by omega), e]
    rfl
  · have hk1 := hkid x hx'
    obtain ⟨y, hy, rfl⟩ := List.mem_map.1 hx'
    obtain ⟨j, hj, rfl⟩ := List.getElem_of_mem hy
    obtain ⟨A', c', e⟩ := htw j (by omega)
    have e0 : cl.getD j Nd.zero = cl[j] := by simp [List.getD, hj]
    have hmem : l.getD j Nd.zero ∈ l := getD_mem (by omega)
    have hks : cl[j].kids = (l.getD j Nd.zero).kids := by rw [← e0, e]; first | done | rfl
    obtain ⟨b1, b2⟩ := hb _ hmem
    rw [← hks] at b1 b2
    refine ⟨⟨own_lies1 hk1, fun hA => hk cl[j] (List.getElem_mem hj) hA, ?_⟩, ?_, fun k hk' => ?_⟩
    · simp only [f, List.length_map]; omega
    · simp only [f, List.length_map]; exact b1
    · obtain ⟨z, hz, rfl⟩ := List.mem_map.1 (show k ∈ cl[j].kids.map (· + n) from hk')
      have := b2 z hz
      show 0 ≤ z + n ∧ z + n < K + n
      omega
  · obtain ⟨y, hy, rfl⟩ := List.mem_map.1 hx'
    obtain ⟨j, hj, rfl⟩ := List.getElem_of_mem hy
    obtain ⟨A', c', e⟩ := htw j (by omega)
    have e0 : cl.getD j Nd.zero = cl[j] := by simp [List.getD, hj]
    have : cl[j].text = (l.getD j Nd.zero).text := by rw [← e0, e]; first | done | rfl
    show cl[j].text.size ≤ _
    rw [this]
    exact hx _ (getD_mem (by omega))
set_option maxRecDepth 100000 in
set_option maxHeartbeats 4000000 in
theorem moved_any (A : Option Addr) (l : List Nd) (c : Nat) (n K : Int) (w : World) (h : Bod w A l K) (hl : l.length ≤ 100000) (hn : 0 ≤ n ∧ n ≤ 1000000000) (hK : K ≤ 1000000000) :
    Calls Try.prog 48 #[.slice A l.length c, .int .i64 n] w fun e w' => ∃ A' c' l', e = .returned (.slice A' l'.length c') ∧ Moved n l l' ∧ Bod w' A' l' (K + n) ∧ w'.ownsRow w.heap.size 41 9 (.slice A' l'.length c') l'.length (ncells l') ∧ (∀ x ∈ l', w'.ownsRow w.heap.size 3 1 (.slice x.A x.kids.length x.cap) x.kids.length (ints x.kids)) ∧ (A' = none → c' = 0) ∧ Below w.heap.size w w' := by
  have CN := Lib.hid (copyNodes2_any A l c (by omega) w h.nodes (fun x hx => ⟨(h.kids x hx).1, by have := (h.kids x hx).2.1; omega⟩))
  have HH := Lib.hid h
  have HB := Lib.hid (fun x hx => (h.kids x hx).2.2)
  obtain ⟨m, em⟩ : ∃ m, m = l.length := ⟨_, rfl⟩
  rw [← em] at CN hl ⊢
  have EM := Lib.hid em
  clear h em
  go_enter Try.func48, Try.ntmps48
  go_wp2_with (go_at_call 40; with_reducible refine CN.out.mono ?_; rintro e w1 ⟨A1, c1, rfl, cl, h1, h2, h3, h4, h5, h6, h7⟩; have C1 := Lib.hid h1; have C2 := Lib.hid h2; have C3 := Lib.hid h3; have C4 := Lib.hid h4; have C5 := Lib.hid h5; have C6 := Lib.hid h6; have C7 := Lib.hid h7; clear h1 h2 h3 h4 h5 h6 h7)
  have M0 : RowKit.Hid (Mvd w w1 cl n (.slice A1 m c1) m 0 0) := Lib.hid ⟨C3.out, fun j hj => by
    rw [mst_zero]
    exact (C4.out _ (getD_mem (by have := C1.out; omega))).1, C7.out⟩
  have hcl : cl.length = m := C1.out
  have HKB := Lib.hid (fun i (hi : i < m) => show (cl.getD i Nd.zero).kids.length ≤ 1000 ∧ ∀ k, k < (cl.getD i Nd.zero).kids.length → 0 ≤ (cl.getD i Nd.zero).kids.getD k 0 ∧ (cl.getD i Nd.zero).kids.getD k 0 < K from by
    obtain ⟨A', c', e⟩ := C2.out i hi
    have hm : l.getD i Nd.zero ∈ l := getD_mem (by have := EM.out; omega)
    rw [e]
    refine ⟨(HH.out.kids _ hm).2.1, fun k hk => HB.out _ hm _ ?_⟩
    exact getD_mem_int hk)
  go_loopw [6] (fun i wr => ∃ k : Nat, k ≤ m ∧ i = .int .i64 k ∧ Mvd w wr cl n (.slice A1 m c1) m k 0) (fun i _ => m - (intOf i).toNat)
  case atStart => exact ⟨0, by omega, by go_num, M0.out⟩
  case round =>
    obtain ⟨i, hi, rfl, hM⟩ := hrel
    by_cases hlt : i < m
    · have hlt2 : (i : Int) < m := by omega
      have hM0 := Lib.hid hM
      obtain ⟨hk1, hk2⟩ := HKB.out i hlt
      have HK2 := Lib.hid hk2
      clear hM hk2
      obtain ⟨kl, ekl⟩ : ∃ kl, kl = (cl.getD i Nd.zero).kids.length := ⟨_, rfl⟩
      have EKL := Lib.hid ekl
      rw [← ekl] at hk1
      clear ekl
      go_wp2_with fail
      go_loopw [7] (fun q wr => ∃ k : Nat, k ≤ kl ∧ q = .int .i64 k ∧ Mvd w wr cl n (.slice A1 m c1) m i k) (fun q _ => kl - (intOf q).toNat)
      case atStart => exact ⟨0, by omega, by go_num, hM0.out⟩
      case round =>
        obtain ⟨k, hk, rfl, hM⟩ := hrel
        obtain ⟨g0, cap0, e0, _, _, _, _⟩ := own_shape hM.row (by omega)
        simp only [Value.slice.injEq, true_and] at e0
        obtain ⟨eA, eC⟩ := e0
        have hN : Nodes wr A1 cl := own_nodes (by rw [C1.out]; exact hM.row)
        obtain ⟨b1, o1, eA1, hb1, _, _, _, _, _, _, _, _, c9⟩ := hN.nine (show i < cl.length by omega)
        rw [← EKL.out] at c9
        by_cases hltk : k < kl
        · have hltk2 : (k : Int) < kl := by omega
          have hrow := hM.kids i hlt
          obtain ⟨gk, capk, ek, _, _, _, _⟩ := own_shape hrow (by have := EKL.out; omega)
          simp only [Value.slice.injEq, true_and] at ek
          obtain ⟨eKA, eKC⟩ := ek
          rw [eKA] at hrow c9
          obtain ⟨s1, s2⟩ := mst_set cl n i k (by have := EKL.out; omega)
          have ck : wr.cell? ⟨gk, k, none⟩ = some (.int .i64 ((cl.getD i Nd.zero).kids.getD k 0)) := by
            rw [hrow.cellAt k (by have := EKL.out; omega), ← s1]
            exact ints_at (by rw [mst_length]; have := EKL.out; omega)
          have fk := hrow.frozenAt k
          obtain ⟨v1, v2⟩ := HK2.out k (by have := EKL.out; omega)
          have ST := Lib.hid (eA1 ▸ hM.step hlt (by omega) (by have := EKL.out; omega) eKA C5.out)
          generalize (cl.getD i Nd.zero).kids.getD k 0 = xv at ck v1 v2 ST
          have hw : IntKind.wrap .i64 (xv + n) = xv + n := by rw [IntKind.wrap_i64]; omega
          generalize (cl.getD i Nd.zero).cap = capq at c9
          rw [eA1]
          clear hM hN hrow s1 s2 eKA eKC eA eC
          go_wp2_with fail
          go_region_with (fail)
          all_goals (
            go_wp2_with fail
            go_roundw
            case rel => exact ⟨k + 1, by omega, by go_num, (by first | exact ST.out | exact ST.out.below (bdrew1 (Below.refl _ _)) | exact ST.out.below (bdrew1 (bdrew1 (Below.refl _ _))) | exact ST.out.below (bdrew (Below.refl _ _)))⟩
            case measure => simp [intOf]; omega)
        · obtain rfl : k = kl := by omega
          have hneg : ¬ (k : Int) < k := by omega
          have hM1 := Lib.hid hM
          generalize (cl.getD i Nd.zero).cap = capq at c9
          generalize (cl.getD i Nd.zero).A = Aq at c9
          rw [eA1]
          clear hM hN eA eC
          go_wp2_with fail
          go_roundw
          case rel => exact ⟨i + 1, by omega, by go_num, by have := hM1.out; rw [EKL.out, eA1] at this; exact this.next⟩
          case measure => simp [intOf]; omega
    · obtain rfl : i = m := by omega
      have hneg : ¬ (i : Int) < i := by omega
      have hM0 := Lib.hid hM
      clear hM
      go_wp2_with fail
      go_ret
      obtain ⟨l', q1, q2, q3, q4⟩ := hM0.out.fin C1.out.symm (by have := C1.out; have := EM.out; omega) (fun j hj => C2.out j (by have := EM.out; omega)) (fun x hx => (C4.out x hx).2.1) (fun x hx => ⟨(HH.out.kids x hx).2.1, HB.out x hx⟩) hn.1 HH.out.texts HH.out.small
      have e : i = l'.length := by have := q1.1; have := EM.out; omega
      rw [e]
      exact ⟨A1, c1, l', rfl, q1, q2, by rw [← e]; rw [← e] at q3; exact q3, q4, C6.out, hM0.out.low⟩
end Go.Proofs.Ytjelgmdjmjnnfaa
namespace Go.Proofs.Ytjelgmdjmjnnfaa
open Go Go.RowKit
abbrev Nd.sl (x : Nd) : Value := .slice x.A x.kids.length x.cap
/-- A node wherever its kids lie. -/
def Nd.kz (x : Nd) : Nd := { x with A := none, cap := 0 }
def mvk (n : Int) (x : Nd) : Nd := { x with kids := x.kids.map (· + n) }
theorem Moved.kz {n : Int} {l l' : List Nd} (h : Moved n l l') : l'.map Nd.kz = (l.map Nd.kz).map (mvk n) := by
  apply List.ext_getElem
  · simp [h.1]
  · intro i h1 h2
    have hi : i < l.length := by simpa using h2
    have hi' : i < l'.length := by simpa using h1
    obtain ⟨A, c, e⟩ := h.2 i hi
    have e1 : l'.getD i Nd.zero = l'[i] := by simp [List.getD, hi']
    have e2 : l.getD i Nd.zero = l[i] := by simp [List.getD, hi]
    rw [e1, e2] at e
    simp [e, Nd.kz, mvk, Nd.mv]
structure Owd (w W : World) (v : Value) (L : List Nd) (K : Int) : Prop where
  row : W.ownsRow w.heap.size 41 9 v L.length (ncells L)
  kids : ∀ x ∈ L, W.ownsRow w.heap.size 3 1 x.sl x.kids.length (ints x.kids) ∧ (x.A = none → x.cap = 0)
  bnd : ∀ x ∈ L, x.kids.length ≤ 1000 ∧ (∀ k ∈ x.kids, 0 ≤ k ∧ k < K) ∧ x.text.size ≤ 9223372036854775807
  low : Below w.heap.size w W
theorem Owd.below {w W W' : World} {v : Value} {L : List Nd} {K : Int} (h : Owd w W v L K) (hb : Below W.heap.size W W') : Owd w W' v L K :=
  ⟨own_below h.row hb, fun x hx => ⟨own_below (h.kids x hx).1 hb, (h.kids x hx).2⟩, h.bnd, h.low.trans (hb.mono h.low.size)⟩
theorem Owd.bod {w W : World} {A : Option Addr} {c : Nat} {L : List Nd} {K : Int} (h : Owd w W (.slice A L.length c) L K) (hl : L.length ≤ 100000) : Bod W A L K :=
  ⟨own_nodes h.row, fun x hx => ⟨⟨own_lies1 (h.kids x hx).1, (h.kids x hx).2, by have := (h.bnd x hx).1; omega⟩, (h.bnd x hx).1, (h.bnd x hx).2.1⟩, fun x hx => (h.bnd x hx).2.2, hl⟩
/-- The first one's kids lie apart from the others'. -/
def Ap (x : Nd) (t : List Nd) : Prop := ∀ y ∈ t, ∀ a b, y.A = some a → x.A = some b → a.block ≠ b.block
theorem own_apart {w : World} {B B' z z' n n' : Nat} {v v' : Value} {xs xs' : List Value} (h : w.ownsRow B 41 z v n xs) (h' : w.ownsRow B' 3 z' v' n' xs') : v'.ownBlock = none ∨ v'.ownBlock ≠ v.ownBlock := by
  cases e : v'.ownBlock with
  | none => exact .inl rfl
  | some b =>
    refine .inr fun e' => ?_
    have := own_same h h' e'.symm e
    revert this
    decide
theorem own_apart' {w : World} {B B' z z' n n' : Nat} {v v' : Value} {xs xs' : List Value} (h : w.ownsRow B 41 z v n xs) (h' : w.ownsRow B' 3 z' v' n' xs') : v.ownBlock = none ∨ v.ownBlock ≠ v'.ownBlock := by
  cases e : v.ownBlock with
  | none => exact .inl rfl
  | some b =>
    refine .inr fun e' => ?_
    have := own_same h h' e e'.symm
    revert this
    decide
/-- The first one has a kid more. -/
theorem Owd.kid {w W Wa W1 : World} {x0 : Nd} {t : List Nd} {K K' n : Int} {g0 m cap0 c1 : Nat} {A1 : Option Addr} (h : Owd w W (.slice (some ⟨g0, 0, none⟩) m cap0) (x0 :: t) K) (ap : Ap x0 t) (hm : (x0 :: t).length = m) (hb : Below W.heap.size W Wa)
    (hg : Wa.grownBy W1 x0.sl.ownBlock) (ho : W1.ownsRow w.heap.size 3 1 (.slice A1 (x0.kids.length + 1) c1) (x0.kids.length + 1) (ints x0.kids ++ [.int .i64 n])) (hf : ∀ k, (Value.slice A1 (x0.kids.length + 1) c1).ownBlock = some k → x0.sl.ownBlock = some k ∨ Wa.heap.size ≤ k)
    (hn : 0 ≤ n ∧ n < K') (hK : K ≤ K') (hl : x0.kids.length + 1 ≤ 1000) :
    Owd w (W1.setCell ⟨g0, 8, none⟩ (.slice A1 (x0.kids.length + 1) c1)) (.slice (some ⟨g0, 0, none⟩) m cap0) ({ x0 with kids := x0.kids ++ [n], A := A1, cap := c1 } :: t) K' ∧ Ap { x0 with kids := x0.kids ++ [n], A := A1, cap := c1 } t ∧ W1.cell? ⟨g0, 8, none⟩ = some x0.sl ∧ W1.frozen? ⟨g0, 8, none⟩ = false := by
  have hx0 := (h.kids x0 (List.mem_cons_self ..)).1
  have rowa := own_below h.row hb
  rw [hm] at rowa
  have hx0a := own_below hx0 hb
  have row1 := rowa.kept hg (own_apart' rowa hx0a)
  obtain ⟨s1, s2⟩ := row1.stored 8 (.slice A1 (x0.kids.length + 1) c1)
  have hgb := (row1.lt g0 rfl).1
  have ec : ncells ({ x0 with kids := x0.kids ++ [n], A := A1, cap := c1 } :: t) = (ncells (x0 :: t)).set 8 (.slice A1 (x0.kids.length + 1) c1) := by
    simp [ncells, Nd.cells]
  have hx0lt : ∀ k, x0.sl.ownBlock = some k → w.heap.size ≤ k := fun k e => (hx0.lt k e).1
  have hlow1 : Below w.heap.size w W1 := grown_below (h.low.trans (hb.mono h.low.size)) (Nat.le_trans h.low.size hb.size) hg hx0lt
  have hts : ∀ y ∈ t, (W1.setCell ⟨g0, 8, none⟩ (.slice A1 (x0.kids.length + 1) c1)).ownsRow w.heap.size 3 1 y.sl y.kids.length (ints y.kids) := fun y hy => by
    have k1 := own_below (h.kids y (List.mem_cons_of_mem _ hy)).1 hb
    have k2 := k1.kept hg (by
      cases hA : y.A with
      | none => exact .inl (by unfold Nd.sl; rw [hA]; rfl)
      | some a =>
        refine .inr fun e => ?_
        unfold Nd.sl at e
        cases hB : x0.A with
        | none => rw [hA, hB] at e; cases e
        | some b =>
          rw [hA, hB] at e
          simp only [Value.ownBlock, Option.some.injEq] at e
          exact ap y hy a b hA hB e)
    exact k2.kept s2 (own_apart row1 k2)
  refine ⟨⟨?_, fun y hy => ?_, fun y hy => ?_, hlow1.setCell hgb _⟩, fun y hy a b ha hb' => ?_, ?_, row1.frozenAt 8⟩
  · rw [ec, show ({ x0 with kids := x0.kids ++ [n], A := A1, cap := c1 } :: t : List Nd).length = m from hm]; exact s1
  · rcases List.mem_cons.1 hy with rfl | hy
    · refine ⟨?_, fun hA => ?_⟩
      · have := ho.kept s2 (own_apart row1 ho)
        simpa [Nd.sl, ints] using this
      · obtain ⟨A', c', e, hnn, _⟩ := own_slice ho
        simp only [Value.slice.injEq] at e
        have hA' : A1 = none := hA
        have := (hnn (by rw [← e.1]; exact hA')).1
        omega
    · exact ⟨hts y hy, (h.kids y (List.mem_cons_of_mem _ hy)).2⟩
  · rcases List.mem_cons.1 hy with rfl | hy
    · obtain ⟨b1, b2, b3⟩ := h.bnd x0 (List.mem_cons_self ..)
      refine ⟨by simp; omega, fun k hk => ?_, b3⟩
      rcases List.mem_append.1 hk with hk | hk
      · have := b2 k hk; omega
      · simp at hk; omega
    · obtain ⟨b1, b2, b3⟩ := h.bnd y (List.mem_cons_of_mem _ hy)
      exact ⟨b1, fun k hk => by have := b2 k hk; omega, b3⟩
  · have ky := ((h.kids y (List.mem_cons_of_mem _ hy)).1.lt a.block (by rw [Nd.sl, ha]; rfl)).2
    have hb2 : A1 = some b := hb'
    rcases hf b.block (by rw [hb2]; rfl) with e | e
    · cases hB : x0.A with
      | none => rw [Nd.sl, hB] at e; cases e
      | some b0 =>
        rw [Nd.sl, hB] at e
        simp only [Value.ownBlock, Option.some.injEq] at e
        rw [← e]
        exact ap y hy a b0 ha hB
    · have := hb.size; omega
  · rw [row1.cellAt 8 (by simp at hm; omega)]
    simp [ncells, Nd.cells]
/-- More nodes behind. -/
theorem Owd.app {w W W3 W4 : World} {v v4 : Value} {L l' : List Nd} {K K' : Int} (h : Owd w W v L K) (hb : Below W.heap.size W W3) (hk : ∀ x ∈ l', W3.ownsRow W.heap.size 3 1 (.slice x.A x.kids.length x.cap) x.kids.length (ints x.kids)) {A' : Option Addr} (hB : Bod W3 A' l' K') (hK : K ≤ K')
    (hg : W3.grownBy W4 v.ownBlock) (ho : W4.ownsRow w.heap.size 41 9 v4 (L.length + l'.length) (ncells L ++ ncells l')) : Owd w W4 v4 (L ++ l') K' := by
  have ea : ∀ a b : List Nd, ncells (a ++ b) = ncells a ++ ncells b := fun a b => by
    induction a with
    | nil => rfl
    | cons x a ih => simp only [List.cons_append, ncells, ih, List.append_assoc]
  have row3 := own_below h.row hb
  have hl3 : Below w.heap.size w W3 := h.low.trans (hb.mono h.low.size)
  refine ⟨by rw [List.length_append, ea]; exact ho, fun x hx => ?_, fun x hx => ?_, grown_below hl3 hl3.size hg (fun k e => (h.row.lt k e).1)⟩
  · rcases List.mem_append.1 hx with hx | hx
    · have k1 := own_below (h.kids x hx).1 hb
      exact ⟨k1.kept hg (own_apart row3 k1), (h.kids x hx).2⟩
    · have k1 := own_lower (hk x hx) h.low.size
      exact ⟨k1.kept hg (own_apart row3 k1), (hB.kids x hx).1.2.1⟩
  · rcases List.mem_append.1 hx with hx | hx
    · obtain ⟨b1, b2, b3⟩ := h.bnd x hx
      exact ⟨b1, fun k hk => by have := b2 k hk; omega, b3⟩
    · exact ⟨(hB.kids x hx).2.1, (hB.kids x hx).2.2, hB.texts x hx⟩
theorem Ap.app {w W W3 : World} {v : Value} {x0 : Nd} {t l' : List Nd} {K : Int} (ap : Ap x0 t) (h : Owd w W v (x0 :: t) K) (hk : ∀ x ∈ l', W3.ownsRow W.heap.size 3 1 (.slice x.A x.kids.length x.cap) x.kids.length (ints x.kids)) : Ap x0 (t ++ l') := by
  intro y hy a b ha hb
  rcases List.mem_append.1 hy with hy | hy
  · exact ap y hy a b ha hb
  · have k1 := ((hk y hy).lt a.block (by rw [ha]; rfl)).1
    have k2 := ((h.kids x0 (List.mem_cons_self ..)).1.lt b.block (by rw [Nd.sl, hb]; rfl)).2
    omega
def leafN (k : Int) : Nd := { Nd.zero with kind := k }
def ofN : List Nd → List Nd → List Nd
  | [], _ => []
  | x :: t, b => { x with kids := x.kids ++ [((x :: t).length : Int)] } :: (t ++ b.map (mvk (x :: t).length))
def ofL (k : Int) (bl : List (List Nd)) : List Nd := bl.foldl ofN [leafN k]
abbrev Bdy := Option Addr × Nat × List Nd
theorem Bod.mono {w : World} {A : Option Addr} {l : List Nd} {K K' : Int} (h : Bod w A l K) (hK : K ≤ K') : Bod w A l K' :=
  ⟨h.nodes, fun x hx => ⟨(h.kids x hx).1, (h.kids x hx).2.1, fun k hk => by have := (h.kids x hx).2.2 k hk; omega⟩, h.texts, h.small⟩
/-- Bodies in memory. -/
structure Bds (w : World) (A : Option Addr) (bl : List Bdy) (K : Int) : Prop where
  lies : Lies w A (bl.map fun b => Value.slice b.1 b.2.2.length b.2.1)
  bod : ∀ b ∈ bl, Bod w b.1 b.2.2 K ∧ b.2.2.length ≤ 1000 ∧ (b.1 = none → b.2.1 = 0)
theorem Bds.below {w w' : World} {A : Option Addr} {bl : List Bdy} {K : Int} (h : Bds w A bl K) (hb : Below w.heap.size w w') : Bds w' A bl K :=
  ⟨h.lies.below hb, fun b hx => ⟨(h.bod b hx).1.below hb, (h.bod b hx).2⟩⟩
end Go.Proofs.Ytjelgmdjmjnnfaa
namespace Go.Proofs.Ytjelgmdjmjnnfaa
open Go Go.RowKit
theorem own_built (w : World) (T n size : Nat) (xs : List Value) (hx : xs.length = n * size) (hn : n ≤ maxLen) : (w.alloc (.cells xs.toArray T)).ownsRow w.heap.size T size (.slice (some ⟨w.heap.size, 0, none⟩) n n) n xs :=
  ⟨hx, .inr ⟨w.heap.size, n, xs.toArray, rfl, Nat.le_refl _, Blk.new _ _ _, Nat.le_refl _, hn, by simpa using hx, by simp [← hx]⟩⟩
theorem own_news {w : World} {B e z n c : Nat} {A : Option Addr} {xs : List Value} (h : w.ownsRow B e z (.slice A n c) n xs) : (∀ a, A = some a → ∀ j u, xs[j]? = some u → w.cell? (a.add j) = some u) ∧ (A = none → n = 0 ∧ c = 0) := by
  refine ⟨fun a ha => ?_, fun hA => ?_⟩
  · rcases h.2 with ⟨h1, _⟩ | ⟨g, cap, cur, h1, _⟩
    · simp only [Value.slice.injEq] at h1; rw [h1.1] at ha; cases ha
    · simp only [Value.slice.injEq] at h1
      obtain ⟨e1, _, _⟩ := h1
      rw [e1] at ha h
      cases ha
      exact h.cells (g := g) rfl
  · obtain ⟨A', c', e, h1, _⟩ := own_slice h
    simp only [Value.slice.injEq] at e
    rw [e.2.2]
    exact h1 (by rw [← e.1]; exact hA)
theorem ncells_one : ∀ l : List Nd, ∀ u ∈ ncells l, u.oneCell' = true
  | [], u, hu => by simp [ncells] at hu
  | x :: l, u, hu => by
    simp only [ncells] at hu
    rcases List.mem_append.1 hu with hu | hu
    · exact cells_one x u hu
    · exact ncells_one l u hu
theorem of_step {x0 : Nd} {t l' b : List Nd} {k : Int} {bls : List (List Nd)} {i : Nat} {A1 : Option Addr} {c1 : Nat} (h : (x0 :: t).map Nd.kz = (bls.take i).foldl ofN [leafN k]) (hi : bls[i]? = some (b.map Nd.kz)) (hm : Moved ((x0 :: t).length : Nat) b l') :
    (({ x0 with kids := x0.kids ++ [((x0 :: t).length : Int)], A := A1, cap := c1 } : Nd) :: (t ++ l')).map Nd.kz = (bls.take (i + 1)).foldl ofN [leafN k] := by
  rw [List.take_add_one, hi, Option.toList_some, List.foldl_append, ← h]
  simp only [List.map_cons, List.foldl_cons, List.foldl_nil, ofN, List.map_append, hm.kz, List.length_cons, List.length_map]
  rfl
set_option maxRecDepth 100000 in
set_option maxHeartbeats 8000000 in
theorem of_any (kd : Int) (A : Option Addr) (bl : List Bdy) (c : Nat) (K : Int) (w : World) (h : Bds w A bl K) (hl : bl.length ≤ 50) (hK : 0 ≤ K ∧ K ≤ 100000000) :
    Calls Try.prog 49 #[.int .i64 kd, .slice A bl.length c] w fun e w' => ∃ A' c' L, e = .returned (.slice A' L.length c') ∧ L.map Nd.kz = ofL kd (bl.map fun b => b.2.2.map Nd.kz) ∧ Bod w' A' L (K + 100000) ∧ (A' = none → c' = 0) ∧ L.length ≤ 1 + 1000 * bl.length ∧ Below w.heap.size w w' := by
  obtain ⟨i0, hi, hz0, hz1, hz2⟩ := info_parts Try.info3
  obtain ⟨i1, ji, jz0, jz1, jz2⟩ := info_parts Try.info41
  have HH := Lib.hid h
  obtain ⟨m, em⟩ : ∃ m, m = bl.length := ⟨_, rfl⟩
  have EM := Lib.hid em
  rw [← em] at hl ⊢
  clear h em
  go_enter Try.func49, Try.ntmps49
  go_wp2_with fail
  have OW0 : RowKit.Hid (Owd w (w.alloc (.cells (leafN kd).cells.toArray 41)) (.slice (some ⟨w.heap.size, 0, none⟩) 1 1) [leafN kd] (K + 100000)) := Lib.hid ⟨by
      have := own_built w 41 1 9 (ncells [leafN kd]) (by simp [ncells, Nd.cells]) (by unfold maxLen; omega)
      simpa [ncells] using this,
    fun x hx => by simp at hx; subst hx; exact ⟨World.ownsRow_nil _ _ _ _, fun _ => rfl⟩,
    fun x hx => by simp at hx; subst hx; exact ⟨by simp [leafN, Nd.zero], by simp [leafN, Nd.zero], by simp [leafN, Nd.zero]⟩, B1 _ _⟩
  go_loopw [5, 6] (fun v i wr => ∃ (k : Nat) (x0 : Nd) (t : List Nd), k ≤ m ∧ i = .int .i64 k ∧ Owd w wr v (x0 :: t) (K + 100000) ∧ Ap x0 t ∧ (x0 :: t).map Nd.kz = ((bl.map fun b => b.2.2.map Nd.kz).take k).foldl ofN [leafN kd] ∧ (x0 :: t).length ≤ 1 + 1000 * k ∧ x0.kids.length = k) (fun _ i _ => m - (intOf i).toNat)
  case atStart => exact ⟨0, leafN kd, [], by omega, by go_num, OW0.out, fun y hy => by simp at hy, by simp [leafN, Nd.kz, Nd.zero], by simp, rfl⟩
  case round =>
    obtain ⟨k, x0, t, hk, rfl, hO, hAp, hsp, hln, hkl⟩ := hrel
    obtain ⟨g0, cap0, rfl, hg0, hgc, hgm, hglt⟩ := own_shape hO.row (by simp)
    have c8 : wr.cell? ⟨g0, 8, none⟩ = some (.slice x0.A x0.kids.length x0.cap) := by
      rw [hO.row.cellAt 8 (by simp; omega)]
      simp [ncells, Nd.cells]
    have HAp := Lib.hid hAp
    have HSP := Lib.hid hsp
    obtain ⟨n, en⟩ : ∃ n, n = (x0 :: t).length := ⟨_, rfl⟩
    have EN := Lib.hid en
    rw [← en] at hln hgc ⊢
    have hn1 : 1 ≤ n := by rw [en]; simp
    have HO := Lib.hid (show Owd w wr (.slice (some ⟨g0, 0, none⟩) n cap0) (x0 :: t) (K + 100000) from by rw [en]; exact hO)
    clear hO hAp hsp en
    by_cases hlt : k < m
    · have hlt2 : (k : Int) < m := by omega
      have hkb : k < bl.length := by have := EM.out; omega
      obtain ⟨b1, o1, eA, hb1, hcells⟩ := HH.out.lies (by simp; omega)
      have cb := hcells k (by simpa using hkb)
      obtain ⟨q0, q1, q2⟩ := HH.out.bod _ (show bl.getD k (none, 0, []) ∈ bl by simp [List.getD, List.getElem?_eq_getElem hkb])
      have eb : (bl.map fun b => Value.slice b.1 b.2.2.length b.2.1)[k]? = some (Value.slice (bl.getD k (none, 0, [])).1 (bl.getD k (none, 0, [])).2.2.length (bl.getD k (none, 0, [])).2.1) := by simp [List.getElem?_map, List.getElem?_eq_getElem hkb, List.getD]
      have es : (bl.map fun b => b.2.2.map Nd.kz)[k]? = some ((bl.getD k (none, 0, [])).2.2.map Nd.kz) := by simp [List.getElem?_map, List.getElem?_eq_getElem hkb, List.getD]
      rw [eb] at cb
      obtain ⟨⟨BA, bc, B⟩, eB⟩ : ∃ q, q = bl.getD k (none, 0, []) := ⟨_, rfl⟩
      rw [← eB] at cb q0 q1 q2 es
      dsimp only at cb q0 q1 q2 es
      have cbA := fun (W : World) (b : Below w.heap.size w W) => (b.cell (p := ⟨b1, o1 + k, none⟩) hb1).trans cb
      have CB := Lib.hid cbA
      have Q0 := Lib.hid q0
      have ES := Lib.hid es
      rw [eA]
      have hks : x0.kids.length ≤ 50 := by omega
      have HKL := Lib.hid hkl
      clear hkl
      clear eb eB hcells cbA q0 es eA cb
      go_upto_region 7 with (at_builtin; refine wpList_append_onto _ rfl (.tmp 23) (.tmp 25) 31 rfl w.heap.size 3 i0 (.int .i64 0) 1 8 Try.underlying31 hi hz0 hz1 hz2 rfl (by decide) (.slice x0.A x0.kids.length x0.cap) x0.kids.length (ints x0.kids) rfl (own_below (HO.out.kids x0 (List.mem_cons_self ..)).1 (B1 wr _)) (some ⟨wr.heap.size, 0, none⟩) 1 1 [.int .i64 n] rfl rfl (new_news wr [.int .i64 n] 3) (fun h => nomatch h) (by simp [Value.oneCell']) (by unfold maxLen; omega) (by omega) (by have := HO.out.low.size; simp; omega) ?_; intro v1 w9 ho hg hf; obtain ⟨A1, c1, rfl, _, _⟩ := own_slice ho; have KD := Lib.hid (HO.out.kid (K' := K + 100000) HAp.out EN.out.symm (B1 wr _) hg ho hf ⟨by omega, by omega⟩ (Int.le_refl _) (by omega)); have c8' := KD.out.2.2.1; have f8' := KD.out.2.2.2; clear ho hg hf)
      obtain ⟨W2, eW2⟩ : ∃ W, W = w9.setCell ⟨g0, 8, none⟩ (.slice A1 (x0.kids.length + 1) c1) := ⟨_, rfl⟩
      have OW := Lib.hid (show Owd w W2 (.slice (some ⟨g0, 0, none⟩) n cap0) (({ x0 with kids := x0.kids ++ [(n : Int)], A := A1, cap := c1 } : Nd) :: t) (K + 100000) from by rw [eW2]; exact KD.out.1)
      have AP := Lib.hid KD.out.2.1
      rw [← eW2]
      have cb := CB.out W2 OW.out.low
      have MV := Lib.hid (moved_any BA B bc n K W2 (Q0.out.below OW.out.low) (by omega) ⟨by omega, by omega⟩ (by omega))
      have ELL : RowKit.Hid ((({ x0 with kids := x0.kids ++ [(n : Int)], A := A1, cap := c1 } : Nd) :: t).length = n) := Lib.hid (by rw [EN.out]; rfl)
      clear eW2 KD c8 c8' f8'
      go_wp2_with fail
      with_reducible refine MV.out.mono ?_
      rintro e w3 ⟨A', c', l', rfl, hm, hB, hrw, hkr, hnn, hb3⟩
      have HM := Lib.hid hm
      have HBo := Lib.hid (hB.mono (K' := K + 100000) (by omega))
      have HKR := Lib.hid hkr
      have HB3 := Lib.hid hb3
      have NEWS := Lib.hid (own_news hrw)
      have ROW3 := Lib.hid (show w3.ownsRow w.heap.size 41 9 (.slice (some ⟨g0, 0, none⟩) n cap0) n (ncells (({ x0 with kids := x0.kids ++ [(n : Int)], A := A1, cap := c1 } : Nd) :: t)) from by
        have q := own_below OW.out.row hb3
        rw [ELL.out] at q
        exact q)
      have hl' : l'.length ≤ 1000 := by rw [hm.1]; exact q1
      clear hm hB hkr hb3 hrw hnn
      go_wp2_with (at_builtin; refine wpList_append_onto _ rfl (.tmp 29) (.tmp 35) 23 rfl w.heap.size 41 i1 Nd.zero.val 9 96 Try.underlying23 ji jz0 jz1 jz2 rfl (by decide) (.slice (some ⟨g0, 0, none⟩) n cap0) n (ncells (({ x0 with kids := x0.kids ++ [(n : Int)], A := A1, cap := c1 } : Nd) :: t)) rfl ROW3.out A' l'.length c' (ncells l') rfl (ncells_length l') NEWS.out.1 NEWS.out.2 (ncells_one l') (by unfold maxLen; omega) (by omega) (by have := OW.out.low.size; have := HB3.out.size; omega) ?_; intro v4 w4 ho hg hf; have HO4 := Lib.hid ho; have HG4 := Lib.hid hg; clear ho hg hf)
      go_roundw
      case rel =>
        have HMn : Moved ((x0 :: t).length : Nat) B l' := by have h := HM.out; rw [EN.out] at h; exact h
        refine ⟨k + 1, ({ x0 with kids := x0.kids ++ [(n : Int)], A := A1, cap := c1 } : Nd), t ++ l', by omega, by go_num, OW.out.app HB3.out HKR.out HBo.out (Int.le_refl _) HG4.out (by rw [ELL.out]; exact HO4.out), AP.out.app OW.out HKR.out, ?_, ?_, ?_⟩
        · have h := of_step (A1 := A1) (c1 := c1) HSP.out ES.out HMn
          rw [← EN.out] at h
          exact h
        · have h1 : (({ x0 with kids := x0.kids ++ [(n : Int)], A := A1, cap := c1 } : Nd) :: (t ++ l')).length = n + l'.length := by rw [← ELL.out]; simp; omega
          rw [h1]; omega
        · show (x0.kids ++ [(n : Int)]).length = k + 1
          rw [List.length_append, HKL.out]; rfl
      case measure => simp [intOf]; omega
    · obtain rfl : k = m := by omega
      have hneg : ¬ (k : Int) < k := by omega
      go_wp2_with fail
      go_ret
      refine ⟨_, _, x0 :: t, by rw [EN.out]; rfl, ?_, (show Owd w wr (.slice (some ⟨g0, 0, none⟩) (x0 :: t).length cap0) (x0 :: t) (K + 100000) from by have h := HO.out; rw [EN.out] at h; exact h).bod (by have := EN.out; omega), (fun h => nomatch h), by rw [← EN.out]; exact hln, HO.out.low⟩
      rw [HSP.out, EM.out]
      unfold ofL
      rw [List.take_of_length_le (by simp)]
end Go.Proofs.Ytjelgmdjmjnnfaa
namespace Go.Proofs.Ytjelgmdjmjnnfaa
open Go Go.RowKit
/-- A body that is told. -/
def Body (w : World) (spec : List Nd) (K : Int) (e : Ending) (w' : World) : Prop := ∃ A' c' L, e = .returned (.slice A' L.length c') ∧ L.map Nd.kz = spec ∧ Bod w' A' L K ∧ (A' = none → c' = 0) ∧ Below w.heap.size w w'
theorem body_one (w : World) (x : Nd) (hA : x.A = none) (hc : x.cap = 0) (hk : x.kids = []) (ht : x.text.size ≤ 9223372036854775807) : Body w [x] 0 (.returned (.slice (some ⟨w.heap.size, 0, none⟩) 1 1)) (w.alloc (.cells x.cells.toArray 41)) := by
  refine ⟨some ⟨w.heap.size, 0, none⟩, 1, [x], rfl, by simp [Nd.kz, ← hA, ← hc], ⟨?_, fun y hy => ?_, fun y hy => ?_, by simp⟩, (fun h => nomatch h), B1 _ _⟩
  · have := own_built w 41 1 9 (ncells [x]) (by simp [ncells, Nd.cells]) (by unfold maxLen; omega)
    simp only [ncells, List.append_nil] at this
    exact own_nodes (l := [x]) (by simpa [ncells] using this)
  · simp at hy; subst hy
    exact ⟨⟨fun h => by rw [hk] at h; simp [ints] at h, fun _ => hc, by rw [hk]; simp⟩, by rw [hk]; simp, fun k hk' => by rw [hk] at hk'; simp at hk'⟩
  · simp at hy; subst hy; exact ht
def wordN (s : ByteArray) : Nd := { Nd.zero with kind := 4, text := s }
def callN (r l : Int) : Nd := { Nd.zero with kind := 5, rule := r, level := l }
theorem leaf_any (kd : Int) (w : World) : Calls Try.prog 47 #[.int .i64 kd] w (Body w [leafN kd] 0) := by
  have B := Lib.hid (body_one w (leafN kd) rfl rfl rfl (by simp [leafN, Nd.zero]))
  go_enter Try.func47, Try.ntmps47
  go_wp2_with fail
  go_ret
  exact B.out
theorem word_any (s : ByteArray) (hs : s.size ≤ 9223372036854775807) (w : World) : Calls Try.prog 26 #[.string s] w (Body w [wordN s] 0) := by
  have B := Lib.hid (body_one w (wordN s) rfl rfl rfl hs)
  go_enter Try.func26, Try.ntmps26
  go_wp2_with fail
  go_ret
  exact B.out
theorem kcall_any (r l : Int) (w : World) : Calls Try.prog 46 #[.int .i64 r, .int .i64 l] w (Body w [callN r l] 0) := by
  have B := Lib.hid (body_one w (callN r l) rfl rfl rfl (by simp [callN, Nd.zero]))
  go_enter Try.func46, Try.ntmps46
  go_wp2_with fail
  go_ret
  exact B.out
theorem lies_one {w : World} {b : Nat} {x : Value} {T : TypeId} (h : Blk w b #[x] T) : Lies w (some ⟨b, 0, none⟩) [x] := fun _ => ⟨b, 0, rfl, h.lt, fun i hi => by
  obtain rfl : i = 0 := by simp at hi; omega
  rw [Nat.zero_add, h.cell]; rfl⟩
theorem lies_two' {w : World} {b : Nat} {x y : Value} {T : TypeId} (h : Blk w b #[x, y] T) : Lies w (some ⟨b, 0, none⟩) [x, y] := fun _ => ⟨b, 0, rfl, h.lt, fun i hi => by
  have : i = 0 ∨ i = 1 := by simp at hi; omega
  rcases this with rfl | rfl <;> (rw [Nat.zero_add, h.cell]; rfl)⟩
theorem kin_any (kd : Int) (A : Option Addr) (c : Nat) (l : List Nd) (K : Int) (w : World) (h : Bod w A l K) (hn : A = none → c = 0) (hl : l.length ≤ 1000) (hK : 0 ≤ K ∧ K ≤ 100000000) :
    Calls Try.prog 25 #[.int .i64 kd, .slice A l.length c] w (Body w (ofL kd [l.map Nd.kz]) (K + 100000)) := by
  have OF := Lib.hid (of_any kd (some ⟨w.heap.size, 0, none⟩) [(A, c, l)] 1 K (w.alloc (.cells #[.slice A l.length c] 23)) ⟨lies_one (Blk.new _ _ _), fun b hb => by
    simp at hb; subst hb; exact ⟨h.below (B1 _ _), hl, hn⟩⟩ (by simp) hK)
  clear h
  obtain ⟨m, em⟩ : ∃ m, m = l.length := ⟨_, rfl⟩
  simp only [List.length_singleton] at OF
  rw [← em] at OF ⊢
  have HL := Lib.hid hl
  clear em hl
  go_enter Try.func25, Try.ntmps25
  go_wp2_with fail
  refine OF.out.mono ?_
  rintro e w1 ⟨A1, c1, L, rfl, h1, h2, h3, _, h4⟩
  have R := Lib.hid (show Body w (ofL kd [l.map Nd.kz]) (K + 100000) (.returned (.slice A1 L.length c1)) w1 from ⟨A1, c1, L, rfl, h1, h2, h3, bb (B1 w _) h4⟩)
  clear h1 h2 h3 h4
  go_wp2_with fail
  go_ret
  exact R.out
theorem chain_any (A : Option Addr) (c : Nat) (l : List Nd) (A2 : Option Addr) (c2 : Nat) (l2 : List Nd) (K : Int) (w : World) (h : Bod w A l K) (h2 : Bod w A2 l2 K) (hn : A = none → c = 0) (hn2 : A2 = none → c2 = 0) (hl : l.length ≤ 1000) (hl2 : l2.length ≤ 1000) (hK : 0 ≤ K ∧ K ≤ 100000000) :
    Calls Try.prog 45 #[.slice A l.length c, .slice A2 l2.length c2] w (Body w (ofL 6 [l.map Nd.kz, l2.map Nd.kz]) (K + 100000)) := by
  have OF := Lib.hid (of_any 6 (some ⟨w.heap.size, 0, none⟩) [(A, c, l), (A2, c2, l2)] 2 K (w.alloc (.cells #[.slice A l.length c, .slice A2 l2.length c2] 23)) ⟨lies_two' (Blk.new _ _ _), fun b hb => by
    simp at hb
    rcases hb with rfl | rfl
    · exact ⟨h.below (B1 _ _), hl, hn⟩
    · exact ⟨h2.below (B1 _ _), hl2, hn2⟩⟩ (by simp) hK)
  clear h h2
  have E2 : ([(A, c, l), (A2, c2, l2)] : List Bdy).length = 2 := rfl
  rw [E2] at OF
  have HL := Lib.hid (And.intro hl hl2)
  clear hl hl2 E2
  go_enter Try.func45, Try.ntmps45
  go_wp2_with fail
  refine OF.out.mono ?_
  rintro e w1 ⟨A1, c1, L, rfl, h1, h2, h3, _, h4⟩
  have R := Lib.hid (show Body w (ofL 6 [l.map Nd.kz, l2.map Nd.kz]) (K + 100000) (.returned (.slice A1 L.length c1)) w1 from ⟨A1, c1, L, rfl, h1, h2, h3, bb (B1 w _) h4⟩)
  clear h1 h2 h3 h4
  go_wp2_with fail
  go_ret
  exact R.out
end Go.Proofs.Ytjelgmdjmjnnfaa
namespace Go.Proofs.Ytjelgmdjmjnnfaa
open Go Go.RowKit
def nameB (i : Nat) : ByteArray := ⟨#[UInt8.ofNat (65 + i)]⟩
def gramN (a : List Rl × List Nd) (b : List Nd) : List Rl × List Nd := (a.1 ++ [⟨nameB a.1.length, (a.2.length : Int)⟩], a.2 ++ b.map (mvk a.2.length))
def gramL (bl : List (List Nd)) : List Rl × List Nd := bl.foldl gramN ([], [])
theorem rcells_app : ∀ (l : List Rl) (r : Rl), rcells (l ++ [r]) = rcells l ++ [.string r.name, .int .i64 r.body]
  | [], r => rfl
  | x :: l, r => by simp [rcells, rcells_app l r]
structure GrS (w W : World) (gb : Nat) (R : List Rl) (L : List Nd) (rv nv : Value) (K : Int) : Prop where
  blk : Blk W gb #[rv, nv] 25
  lo : w.heap.size ≤ gb
  rules : W.ownsRow w.heap.size 47 2 rv R.length (rcells R)
  nodes : Owd w W nv L K
theorem gram_step {R : List Rl} {L l' b : List Nd} {bls : List (List Nd)} {i : Nat} (h : (R, L.map Nd.kz) = (bls.take i).foldl gramN ([], [])) (hi : bls[i]? = some (b.map Nd.kz)) (hm : Moved (L.length : Nat) b l') :
    (R ++ [⟨nameB R.length, (L.length : Int)⟩], (L ++ l').map Nd.kz) = (bls.take (i + 1)).foldl gramN ([], []) := by
  rw [List.take_add_one, hi, Option.toList_some, List.foldl_append, ← h]
  simp only [List.foldl_cons, List.foldl_nil, gramN, List.map_append, hm.kz, List.length_map]
/-- A row that is stored into, in a block that is no row of one's own. -/
theorem own_off {W W' : World} {B e z n gb : Nat} {v : Value} {xs : List Value} {vs : Array Value} {T : TypeId} (h : W.ownsRow B e z v n xs) (hb : Blk W gb vs T) (hT : T ≠ e) (hg : W.grownBy W' (some gb)) : W'.ownsRow B e z v n xs :=
  h.kept hg (by
    cases ho : v.ownBlock with
    | none => exact .inl rfl
    | some b => exact .inr fun e' => own_ne h hb hT (by rw [ho]; exact e'))
theorem setCell_grown (W : World) (b o : Nat) (v : Value) : W.grownBy (W.setCell ⟨b, o, none⟩ v) (some b) := by
  have h := Below.setCell (Below.refl b W) (p := ⟨b, o, none⟩) (Nat.le_refl _) v
  exact ⟨h.os, h.tape, h.output, h.size, fun k hk hne => Below.heap_setCell _ _ _ k (fun e => hne (by rw [show k = b from e]))⟩
theorem Owd.off {w W W' : World} {v : Value} {L : List Nd} {K : Int} {gb : Nat} {vs : Array Value} {T : TypeId} (h : Owd w W v L K) (hb : Blk W gb vs T) (hT : T ≠ 41 ∧ T ≠ 3) (hlo : w.heap.size ≤ gb) (hg : W.grownBy W' (some gb)) : Owd w W' v L K :=
  ⟨own_off h.row hb hT.1 hg, fun x hx => ⟨own_off (h.kids x hx).1 hb hT.2 hg, (h.kids x hx).2⟩, h.bnd, grown_below h.low h.low.size hg (fun k e => by cases e; exact hlo)⟩
theorem Owd.apart {w W : World} {v rv : Value} {L : List Nd} {K : Int} {R : List Rl} {B : Nat} (h : Owd w W v L K) (hr : W.ownsRow B 47 2 rv R.length (rcells R)) {W' : World} (hg : W.grownBy W' rv.ownBlock) (hlo : ∀ k, rv.ownBlock = some k → w.heap.size ≤ k) : Owd w W' v L K := by
  have key : ∀ {B' e z n : Nat} {v' : Value} {xs : List Value}, W.ownsRow B' e z v' n xs → e ≠ 47 → W'.ownsRow B' e z v' n xs := fun {B' e z n v' xs} h' he => h'.kept hg (by
    cases ho : v'.ownBlock with
    | none => exact .inl rfl
    | some b => exact .inr fun e' => he (own_same h' hr ho e'.symm))
  exact ⟨key h.row (by decide), fun x hx => ⟨key (h.kids x hx).1 (by decide), (h.kids x hx).2⟩, h.bnd, grown_below h.low h.low.size hg hlo⟩
theorem GrS.rule_more {w W Wa W9 : World} {gb : Nat} {R : List Rl} {L : List Nd} {rv nv v1 : Value} {K : Int} {r : Rl} (h : GrS w W gb R L rv nv K) (hb : Below W.heap.size W Wa) (hg : Wa.grownBy W9 rv.ownBlock)
    (ho : W9.ownsRow w.heap.size 47 2 v1 (R.length + 1) (rcells R ++ [.string r.name, .int .i64 r.body])) :
    GrS w (W9.setCell ⟨gb, 0, none⟩ v1) gb (R ++ [r]) L v1 nv K ∧ W9.cell? ⟨gb, 0, none⟩ = some rv ∧ W9.frozen? ⟨gb, 0, none⟩ = false := by
  have ra := own_below h.rules hb
  have na := h.nodes.below hb
  have n9 := na.apart ra hg (fun k e => (ra.lt k e).1)
  have b9 : Blk W9 gb #[rv, nv] 25 := (h.blk.below' hb).grown hg (fun e => own_ne ra (h.blk.below' hb) (by decide) e.symm)
  have hs := setCell_grown W9 gb 0 v1
  refine ⟨⟨heap_setCell_same W9 gb 0 #[rv, nv] 25 v1 b9, h.lo, ?_, n9.off b9 ⟨by decide, by decide⟩ h.lo hs⟩, b9.cell 0, b9.frozen 0⟩
  rw [List.length_append, rcells_app]
  exact own_off ho b9 (by decide) hs
theorem GrS.nodes_more {w W W3 W4 : World} {gb : Nat} {R : List Rl} {L l' : List Nd} {rv nv v4 : Value} {K K' : Int} (h : GrS w W gb R L rv nv K) (hb : Below W.heap.size W W3) (hk : ∀ x ∈ l', W3.ownsRow W.heap.size 3 1 (.slice x.A x.kids.length x.cap) x.kids.length (ints x.kids)) {A' : Option Addr} (hB : Bod W3 A' l' K') (hK : K ≤ K')
    (hg : W3.grownBy W4 nv.ownBlock) (ho : W4.ownsRow w.heap.size 41 9 v4 (L.length + l'.length) (ncells L ++ ncells l')) :
    GrS w (W4.setCell ⟨gb, 1, none⟩ v4) gb R (L ++ l') rv v4 K' ∧ W4.cell? ⟨gb, 1, none⟩ = some nv ∧ W4.frozen? ⟨gb, 1, none⟩ = false := by
  have n4 := h.nodes.app hb hk hB hK hg ho
  have r3 := own_below h.rules hb
  have row3 := own_below h.nodes.row hb
  have b3 := h.blk.below' hb
  have r4 := r3.kept hg (by
    cases ho : rv.ownBlock with
    | none => exact .inl rfl
    | some b =>
      refine .inr fun e' => ?_
      have := own_same r3 row3 ho e'.symm
      revert this
      decide)
  have b4 : Blk W4 gb #[rv, nv] 25 := b3.grown hg (fun e => own_ne row3 b3 (by decide) e.symm)
  have hs := setCell_grown W4 gb 1 v4
  exact ⟨⟨heap_setCell_same W4 gb 1 #[rv, nv] 25 v4 b4, h.lo, own_off r4 b4 (by decide) hs, n4.off b4 ⟨by decide, by decide⟩ h.lo hs⟩, b4.cell 1, b4.frozen 1⟩
end Go.Proofs.Ytjelgmdjmjnnfaa

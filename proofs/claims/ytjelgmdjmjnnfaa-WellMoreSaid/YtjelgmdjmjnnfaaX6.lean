/- Nodes that are made to match their kid once at most: plainly, and in memory. -/
import Derived.Test.YtjelgmdjmjnnfaaX5
import Derived.Test.YtjelgmdjmjnnfaaC3
import Derived.Test.YtjelgmdjmjnnfaaA5
import Derived.Test.YtjelgmdjmjnnfaaA2
import Derived.Test.YtjelgmdjmjnnfaaA1
import Derived.WalkKit
import Derived.Test.YtjelgmdjmjnnfaaA6
import Derived.Deep.CutRange
import Derived.Test.YtjelgmdjmjnnfaaA3
import Derived.Test.YtjelgmdjmjnnfaaA7
set_option linter.unusedSimpArgs false
set_option linter.unusedVariables false
namespace Go.Proofs.Ytjelgmdjmjnnfaa
open Go Go.RowKit Go.Maps
theorem right_small {g : Gr} (hR : Right g) : Small g := by
  have key : ∀ x ∈ g.nodes, x.kids.length ≤ 64 ∧ x.text.size ≤ 64 := by
    intro x hx
    obtain ⟨i, hi, rfl⟩ := List.mem_iff_getElem.1 hx
    have h := (nodeOk_iff _ _).1 (hR.all i hi)
    rw [List.getD_eq_getElem?_getD, List.getElem?_eq_getElem hi] at h
    simp only [Option.getD_some] at h
    have ht := text_size (t := g.nodes[i].text)
    unfold NodeIs at h
    rw [ht] at h
    omega
  refine ⟨by have := hR.rules; omega, by have := hR.nodes; omega, fun x hx => by have := key x hx; omega, fun r hr => ?_⟩
  obtain ⟨i, hi, rfl⟩ := List.mem_iff_getElem.1 hr
  have h := (hR.named i hi).1
  rw [List.getD_eq_getElem?_getD, List.getElem?_eq_getElem hi] at h
  simp only [Option.getD_some, nameOk, decide_eq_true_eq] at h
  have e : g.rules[i].name.size = g.rules[i].name.data.toList.length := (Array.length_toList ..).symm
  omega
/-- A node that matches its kid once at most. -/
def Nd.opt (x : Nd) : Nd := { x with kind := 10 }
def optAt (l : List Nd) (n : Nat) : List Nd := l.set n (l.getD n Nd.zero).opt
/-- Some nodes made so. -/
def opts (l : List Nd) (L : List Nat) : List Nd := L.foldl optAt l
def Gr.opts (g : Gr) (L : List Nat) : Gr := { g with nodes := Go.Proofs.Ytjelgmdjmjnnfaa.opts g.nodes L }
theorem optAt_len (l : List Nd) (n : Nat) : (optAt l n).length = l.length := by simp [optAt]
theorem opts_len (L : List Nat) : ∀ l : List Nd, (opts l L).length = l.length := by
  induction L with
  | nil => intro l; rfl
  | cons n L ih => intro l; exact (ih (optAt l n)).trans (optAt_len l n)
theorem opt_opt (x : Nd) : x.opt.opt = x.opt := rfl
theorem optAt_at (l : List Nd) (n j : Nat) (hj : j < l.length) : (optAt l n).getD j Nd.zero = if j = n then (l.getD j Nd.zero).opt else l.getD j Nd.zero := by
  unfold optAt
  simp only [List.getD_eq_getElem?_getD]
  by_cases e : j = n
  · subst e
    rw [List.getElem?_set_self hj, if_pos rfl]
    rfl
  · rw [List.getElem?_set_ne (fun h => e h.symm), if_neg e]
theorem opts_at (L : List Nat) : ∀ (l : List Nd) (j : Nat), j < l.length → (opts l L).getD j Nd.zero = if j ∈ L then (l.getD j Nd.zero).opt else l.getD j Nd.zero := by
  induction L with
  | nil => intro l j _; simp [opts]
  | cons n L ih =>
    intro l j hj
    have := ih (optAt l n) j (by rw [optAt_len]; exact hj)
    rw [optAt_at l n j hj] at this
    refine Eq.trans this ?_
    by_cases e : j = n <;> by_cases h : j ∈ L <;> simp [e, h, opt_opt]
theorem opts_snoc (l : List Nd) (L : List Nat) (n : Nat) : opts l (L ++ [n]) = optAt (opts l L) n := by
  unfold opts
  rw [List.foldl_append]
  rfl
/-- The Kind of one of a row's nodes. -/
def kindAt (l : List Nd) (n : Nat) (v : Int) : List Nd := l.set n { l.getD n Nd.zero with kind := v }
theorem ncells_kind (v : Int) : ∀ (l : List Nd) (c : Nat), c < l.length → (ncells l).set (c * 9) (.int .i64 v) = ncells (kindAt l c v)
  | [], c, h => by simp at h
  | x :: l, 0, _ => rfl
  | x :: l, c + 1, h => by
    have ih := ncells_kind v l c (by simpa using h)
    have e : kindAt (x :: l) (c + 1) v = x :: kindAt l c v := by simp [kindAt]
    rw [e]
    simp only [ncells]
    rw [← ih, List.set_append_right _ _ (by simp [Nd.cells]; omega)]
    congr 1
    congr 1
    simp [Nd.cells]
    omega
/-- The Kind of one of its nodes stored. -/
theorem Fresh.kindv (v : Int) {w : World} {B g c : Nat} {h : Gr} (f : Fresh w B h) (e : h.NA = some ⟨g, 0, none⟩) (hc : c < h.nodes.length) :
    Fresh (w.setCell ⟨g, c * 9, none⟩ (.int .i64 v)) B { h with nodes := kindAt h.nodes c v } ∧ Below B w (w.setCell ⟨g, c * 9, none⟩ (.int .i64 v)) ∧ w.grownBy (w.setCell ⟨g, c * 9, none⟩ (.int .i64 v)) (some g) := by
  have f2 := f.nodes
  rw [e] at f2
  obtain ⟨h1, h2⟩ := f2.stored (c * 9) (.int .i64 v)
  rw [ncells_kind v _ _ hc] at h1
  obtain ⟨vs, k1, _⟩ := own_blkT (b := g) f.nodes (by rw [e]; rfl)
  have hgb : B ≤ g := (f.nodes.lt g (by rw [e]; rfl)).1
  refine ⟨⟨?_, ?_, fun x hx => ?_, f.rn, f.nn⟩, ?_, h2⟩
  · refine own_kept f.rules (fun k hk => h2.block k (f.rules.lt k hk).2 (fun e2 => ?_))
    simp only [Option.some.injEq] at e2
    subst e2
    obtain ⟨vs2, k2, _⟩ := own_blkT f.rules hk
    exact absurd (k1.same_T k2) (by decide)
  · show World.ownsRow _ B _ 9 (.slice h.NA (kindAt h.nodes c v).length h.nc) (kindAt h.nodes c v).length (ncells (kindAt h.nodes c v))
    rw [show (kindAt h.nodes c v).length = h.nodes.length by simp [kindAt], e]
    exact h1
  · have hx2 : ∃ z ∈ h.nodes, z.A = x.A ∧ z.cap = x.cap ∧ z.kids = x.kids := by
      rcases List.mem_or_eq_of_mem_set hx with hx | rfl
      · exact ⟨x, hx, rfl, rfl, rfl⟩
      · exact ⟨h.nodes.getD c Nd.zero, by rw [List.getD_eq_getElem?_getD, List.getElem?_eq_getElem hc]; exact List.getElem_mem _, rfl, rfl, rfl⟩
    obtain ⟨z, hz, e1, e2, e3⟩ := hx2
    have q := f.kids z hz
    rw [e1, e2, e3] at q
    refine ⟨own_kept q.1 (fun k hk => h2.block k (q.1.lt k hk).2 (fun e4 => ?_)), q.2⟩
    simp only [Option.some.injEq] at e4
    subst e4
    obtain ⟨vs2, k2, _⟩ := own_blkT q.1 hk
    exact absurd (k1.same_T k2) (by decide)
  · exact (Below.refl B w).grown h2 (Nat.le_trans hgb (Nat.le_of_lt (f.nodes.lt g (by rw [e]; rfl)).2)) (fun k hk => by cases hk; exact hgb)
theorem Fresh.kind {w : World} {B g c : Nat} {h : Gr} (f : Fresh w B h) (e : h.NA = some ⟨g, 0, none⟩) (hc : c < h.nodes.length) :
    Fresh (w.setCell ⟨g, c * 9, none⟩ (.int .i64 10)) B { h with nodes := optAt h.nodes c } ∧ Below B w (w.setCell ⟨g, c * 9, none⟩ (.int .i64 10)) ∧ w.grownBy (w.setCell ⟨g, c * 9, none⟩ (.int .i64 10)) (some g) := Fresh.kindv 10 f e hc
/-- A grammar mended, in rows of its own. -/
theorem Fresh.at_opts {w w' : World} {B : Nat} {L : List Nat} {g h : Gr} (f : Fresh w' B (h.opts L)) (t : GTwin g h) (hg : Gr.At w g) : Gr.At w' (h.opts L) where
  rules := own_rules f.rules
  nodes := own_nodes f.nodes
  kids := fun x hx => by
    refine ⟨own_lies1 (f.kids x hx).1, (f.kids x hx).2, ?_⟩
    obtain ⟨i, hi, rfl⟩ := List.mem_iff_getElem.1 hx
    have hi2 : i < h.nodes.length := by have := hi; rw [show (h.opts L).nodes = opts h.nodes L from rfl, opts_len] at this; exact this
    have e0 : (h.opts L).nodes[i] = (Go.Proofs.Ytjelgmdjmjnnfaa.opts h.nodes L).getD i Nd.zero := by
      rw [List.getD_eq_getElem?_getD, List.getElem?_eq_getElem (by rw [opts_len]; exact hi2)]; rfl
    have hk : ((h.opts L).nodes[i]).kids = (h.nodes.getD i Nd.zero).kids := by
      rw [e0, opts_at L h.nodes i hi2]; split <;> rfl
    rw [hk]
    obtain ⟨z, hz, A, c, e⟩ := t.mem (x := h.nodes.getD i Nd.zero) (by rw [List.getD_eq_getElem?_getD, List.getElem?_eq_getElem hi2]; exact List.getElem_mem _)
    rw [e]
    exact (hg.kids z hz).2.2
  rl := by show h.rules.length ≤ _; rw [t.rules]; exact hg.rl
  nl := by show (opts h.nodes L).length ≤ _; rw [opts_len, t.len]; exact hg.nl
  rn := f.rn
  nn := f.nn
  texts := fun x hx => by
    obtain ⟨i, hi, rfl⟩ := List.mem_iff_getElem.1 hx
    have hi2 : i < h.nodes.length := by have := hi; rw [show (h.opts L).nodes = opts h.nodes L from rfl, opts_len] at this; exact this
    have e0 : (h.opts L).nodes[i] = (Go.Proofs.Ytjelgmdjmjnnfaa.opts h.nodes L).getD i Nd.zero := by
      rw [List.getD_eq_getElem?_getD, List.getElem?_eq_getElem (by rw [opts_len]; exact hi2)]; rfl
    have hk : ((h.opts L).nodes[i]).text = (h.nodes.getD i Nd.zero).text := by
      rw [e0, opts_at L h.nodes i hi2]; split <;> rfl
    rw [hk]
    obtain ⟨z, hz, A, c, e⟩ := t.mem (x := h.nodes.getD i Nd.zero) (by rw [List.getD_eq_getElem?_getD, List.getElem?_eq_getElem hi2]; exact List.getElem_mem _)
    rw [e]
    exact hg.texts z hz
  names := by show ∀ r ∈ h.rules, _; rw [t.rules]; exact hg.names
end Go.Proofs.Ytjelgmdjmjnnfaa
namespace Go.Proofs.Ytjelgmdjmjnnfaa
open Go Go.RowKit
/-- What the document's 'after' answers. -/
def afterVal (o : Option Meas) : Value := match o with
  | some (p, h) => .tuple #[.int .i64 p, .int .i64 h]
  | none => .tuple #[.int .i64 (-1), .int .i64 0]
theorem after_hi {l : List Nd} {f : Nat} {n : Int} (h : (l.length : Int) ≤ n) : after l f n = none := by
  cases f with
  | zero => rfl
  | succ f => rw [after, if_neg (by omega)]
end Go.Proofs.Ytjelgmdjmjnnfaa
namespace Go.Proofs.Ytjelgmdjmjnnfaa
open Go Go.RowKit
theorem ok_iff {b : Bool} {x : Nd} {r : Int} (h : b = true ↔ NodeIs x r) : b = nodeOk x r := by rw [Bool.eq_iff_iff, h, nodeOk_iff]
end Go.Proofs.Ytjelgmdjmjnnfaa
namespace Go.Proofs.Ytjelgmdjmjnnfaa
open Go Go.RowKit
theorem nameOk_all {s : List UInt8} (h : ∀ i, i < s.length → byteOk i (s.getD i 0).toNat = true) : nameOk s = decide (1 ≤ s.length ∧ s.length ≤ 32) := by
  unfold nameOk
  rw [Bool.eq_iff_iff]
  simp only [decide_eq_true_eq]
  exact ⟨fun ⟨a, b, _⟩ => ⟨a, b⟩, fun ⟨a, b⟩ => ⟨a, b, h⟩⟩
end Go.Proofs.Ytjelgmdjmjnnfaa
namespace Go.Proofs.Ytjelgmdjmjnnfaa
open Go Go.RowKit
theorem wpList_of_quiet {P : Program} {ops : Array Oper} {C : World → Prop} {Q : Exit → Act → World → Prop} : ∀ (l : List Oper) (a : Act) (w : World), C w → wpQuiet P ops C (fun a' => ∀ w', C w' → Q .normal a' w') l a → wpList P ops Q l a w
  | [], _, w, hw, h => h w hw
  | o :: rest, a, w, hw, h => by
    unfold wpQuiet at h
    unfold wpList
    split
    · rename_i hg
      rw [if_pos hg] at h
      exact .inl (Oper.wp_of_quiet hw (fun a' w' hw' h' => wpList_of_quiet rest a' w' hw' h') h)
    · rename_i hg
      rw [if_neg hg] at h
      exact wpList_of_quiet rest _ w hw h
theorem wp_region_ext_list {P : Program} {id : Nat} {Q : Exit → Act → World → Prop} {a : Act} {w : World} {l : List Oper}
    (h : wpQuiet P l.toArray (fun w' => ∃ e : Ext w, w' = e.val) (fun a' => ∀ w', (∃ e : Ext w, w' = e.val) → Q .normal a' w') l a) : (Code.region id l.toArray false).wp P Q a w :=
  wp_region_lit (wpList_of_quiet l a w ⟨⟨w, Below.refl _ _⟩, rfl⟩ h)
end Go.Proofs.Ytjelgmdjmjnnfaa
namespace Go.Proofs.Ytjelgmdjmjnnfaa
open Go Go.RowKit
theorem march_no {g : Gr} (h : march g.nodes g.rules 0 ≠ some (g.nodes.length : Int)) : rightB g = false := by
  rw [Bool.eq_false_iff]
  intro hr
  exact h (rightB_march.1 hr).2.2.2.2
theorem name_no {g : Gr} (i : Nat) (hi : i < g.rules.length) (h : ¬ (nameOk (g.rules.getD i Rl.zero).name.data.toList = true ∧ ruleAt g.rules (g.rules.getD i Rl.zero).name = i)) : rightB g = false := by
  rw [Bool.eq_false_iff]
  intro hr
  exact h ((rightB_march.1 hr).2.2.2.1 i hi)
theorem node_no {g : Gr} (i : Nat) (hi : i < g.nodes.length) (h : nodeOk (g.nodes.getD i Nd.zero) g.rules.length = false) : rightB g = false := by
  rw [Bool.eq_false_iff]
  intro hr
  have := (rightB_march.1 hr).2.2.1 i hi
  rw [h] at this
  cases this
end Go.Proofs.Ytjelgmdjmjnnfaa
namespace Go.Proofs.Ytjelgmdjmjnnfaa
open Go Go.RowKit Go.Shelf
attribute [local go_sem] Oper.semAt_some
/-- The last rule whose body is not behind n. -/
def lastFrom (n : Int) : Nat → Int → List Rl → Int
  | _, acc, [] => acc
  | i, acc, r :: l => lastFrom n (i + 1) (if r.body ≤ n then (i : Int) else acc) l
def lastLe (l : List Rl) (n : Int) : Int := lastFrom n 0 (-1) l
theorem lastFrom_miss (n : Int) : ∀ (l : List Rl) (i : Nat) (acc : Int), (∀ j, j < l.length → n < (l.getD j Rl.zero).body) → lastFrom n i acc l = acc
  | [], _, _, _ => rfl
  | r :: l, i, acc, h => by
    have h0 : n < r.body := by have := h 0 (by simp); simpa using this
    rw [lastFrom, if_neg (by omega)]
    exact lastFrom_miss n l (i + 1) acc (fun j hj => by have := h (j + 1) (by simpa using hj); simpa using this)
theorem lastFrom_hit (n : Int) : ∀ (l : List Rl) (i k : Nat) (acc : Int), k < l.length → (l.getD k Rl.zero).body ≤ n → (∀ j, k < j → j < l.length → n < (l.getD j Rl.zero).body) → lastFrom n i acc l = (i + k : Nat)
  | [], _, _, _, h, _, _ => by simp at h
  | r :: l, i, 0, acc, _, h2, h3 => by
    have h0 : r.body ≤ n := by simpa using h2
    rw [lastFrom, if_pos h0, lastFrom_miss n l (i + 1) i (fun j hj => by have := h3 (j + 1) (by omega) (by simpa using hj); simpa using this)]
    simp
  | r :: l, i, k + 1, acc, h1, h2, h3 => by
    rw [lastFrom, lastFrom_hit n l (i + 1) k _ (by simpa using h1) (by simpa using h2) (fun j h4 h5 => by have := h3 (j + 1) (by omega) (by simpa using h5); simpa using this)]
    congr 1
    omega
theorem lastLe_hit {l : List Rl} {n : Int} (k : Nat) (h1 : k < l.length) (h2 : (l.getD k Rl.zero).body ≤ n) (h3 : ∀ j, k < j → j < l.length → n < (l.getD j Rl.zero).body) : lastLe l n = k := by
  have := lastFrom_hit n l 0 k (-1) h1 h2 h3
  rw [Nat.zero_add] at this
  exact this
theorem lastLe_miss {l : List Rl} {n : Int} (h : ∀ j, j < l.length → n < (l.getD j Rl.zero).body) : lastLe l n = -1 := lastFrom_miss n l 0 (-1) h
noncomputable def ownerOf (g : Gr) (n : Int) : Int := by classical exact if Right g ∧ 0 ≤ n ∧ n < g.nodes.length then lastLe g.rules n else -1
theorem ownerOf_yes {g : Gr} {n : Int} (h : Right g ∧ 0 ≤ n ∧ n < g.nodes.length) : ownerOf g n = lastLe g.rules n := by unfold ownerOf; rw [if_pos h]
theorem ownerOf_no {g : Gr} {n : Int} (h : ¬ (Right g ∧ 0 ≤ n ∧ n < g.nodes.length)) : ownerOf g n = -1 := by unfold ownerOf; rw [if_neg h]
/-- What lies while rules are gone through from the last one on. -/
structure OSt (w : World) (rules : List Rl) (n : Int) (t3 t4 j : Nat) (W : World) : Prop where
  b3 : Blk W t3 #[.int .i64 n] 3
  b4 : Blk W t4 #[.int .i64 0] 3
  low : Below w.heap.size w W
  all : ∀ i, j ≤ i → i < rules.length → n < (rules.getD i Rl.zero).body
end Go.Proofs.Ytjelgmdjmjnnfaa
namespace Go.Proofs.Ytjelgmdjmjnnfaa
open Go Go.RowKit
theorem after_right {g : Gr} (hr : Right g) {k : Nat} (hk : k < g.nodes.length) : after g.nodes 16 k = some (k + (measOf g k).1, (measOf g k).2) ∧ 1 ≤ (measOf g k).1 ∧ (k : Int) + (measOf g k).1 ≤ g.nodes.length := by
  obtain ⟨ms, hm, _⟩ := hr.pre
  rw [measOf_yes hr hm hk]
  have h16 := after_measured hm 16 k hk
  obtain ⟨_, hc⟩ := march_cover g.rules 0 _ (by omega) (rightB_march.1 (rightB_true.2 hr)).2.2.2.2
  obtain ⟨r, hr2⟩ := hc k (by omega) (by omega)
  obtain ⟨m1, m2, m3, _⟩ := hm k (by omega) hk
  refine ⟨?_, m1, m3⟩
  rw [hr2] at h16
  split at h16
  · rw [hr2]; exact h16
  · cases h16
theorem lastFrom_acc (n : Int) (r : Rl) (l : List Rl) (h : r.body ≤ n) (a b : Int) : lastFrom n 0 a (r :: l) = lastFrom n 0 b (r :: l) := by
  rw [lastFrom, lastFrom, if_pos h]
  simp [if_pos h]
theorem last_right {g : Gr} (hr : Right g) {n : Int} (h0 : 0 ≤ n) (h1 : n < g.nodes.length) : ownerOf g n = lastFrom n 0 0 g.rules := by
  rw [ownerOf_yes ⟨hr, h0, h1⟩, lastLe]
  obtain ⟨ms, hm, hb⟩ := hr.pre
  have hl := hr.rules.1
  generalize g.rules = rs at hb hl
  cases rs with
  | nil => simp at hl
  | cons r l =>
    unfold bodies at hb
    split at hb
    · rename_i hc
      exact lastFrom_acc n r l (by omega) _ _
    · cases hb
end Go.Proofs.Ytjelgmdjmjnnfaa
namespace Go.Proofs.Ytjelgmdjmjnnfaa
open Go Go.RowKit
end Go.Proofs.Ytjelgmdjmjnnfaa
namespace Go.Proofs.Ytjelgmdjmjnnfaa
open Go Go.RowKit
/-- Two grammars are the same, part by part. -/
def sameGr (g h : Gr) : Bool := rowSame Rl.zero sameRl g.rules h.rules && rowSame Nd.zero sameNd g.nodes h.nodes
theorem bel {w w1 w2 : World} (h1 : Below w.heap.size w w1) (h2 : Below w1.heap.size w1 w2) : Below w.heap.size w w2 := bb h1 h2
end Go.Proofs.Ytjelgmdjmjnnfaa
namespace Go.Proofs.Ytjelgmdjmjnnfaa
open Go Go.RowKit
theorem nodeOk_at (x : Nd) (A : Option Addr) (c : Nat) (r : Int) : nodeOk (x.at_ A c) r = nodeOk x r := by
  rw [Bool.eq_iff_iff, nodeOk_iff, nodeOk_iff]
  exact Iff.rfl
theorem GTwin.ok {g h : Gr} (t : GTwin g h) (j : Nat) (hj : j < g.nodes.length) (r : Int) : nodeOk (h.nodes.getD j Nd.zero) r = nodeOk (g.nodes.getD j Nd.zero) r := by
  obtain ⟨A, c, e⟩ := t.node j hj
  rw [e, nodeOk_at]
theorem GTwin.kids {g h : Gr} (t : GTwin g h) (j : Nat) (hj : j < g.nodes.length) : kidsOf h.nodes j = kidsOf g.nodes j := by
  obtain ⟨A, c, e⟩ := t.node j hj
  unfold kidsOf
  rw [e]
theorem GTwin.meas {g h : Gr} (t : GTwin g h) (ms : Nat → Meas) : Measured h.nodes ms 0 ↔ Measured g.nodes ms 0 := by
  unfold Measured
  constructor
  · intro H m h0 hm
    have := H m h0 (by rw [t.len]; exact hm)
    rw [t.len, t.kids m hm] at this
    exact this
  · intro H m h0 hm
    rw [t.len] at hm
    have := H m h0 hm
    rw [t.len, t.kids m hm]
    exact this
theorem GTwin.right {g h : Gr} (t : GTwin g h) : Right h ↔ Right g := by
  constructor
  · intro H
    refine ⟨by have := H.rules; rwa [t.rules] at this, by have := H.nodes; rwa [t.len] at this, by have := H.named; rwa [t.rules] at this, fun j hj => ?_, ?_⟩
    · have := H.all j (by rw [t.len]; exact hj)
      rwa [t.ok j hj, t.rules] at this
    · obtain ⟨ms, h1, h2⟩ := H.pre
      exact ⟨ms, (t.meas ms).1 h1, by rwa [t.len, t.rules] at h2⟩
  · intro H
    refine ⟨by rw [t.rules]; exact H.rules, by rw [t.len]; exact H.nodes, by rw [t.rules]; exact H.named, fun j hj => ?_, ?_⟩
    · rw [t.len] at hj
      rw [t.ok j hj, t.rules]
      exact H.all j hj
    · obtain ⟨ms, h1, h2⟩ := H.pre
      exact ⟨ms, (t.meas ms).2 h1, by rw [t.len, t.rules]; exact h2⟩
theorem GTwin.rightB {g h : Gr} (t : GTwin g h) : rightB h = rightB g := by
  rw [Bool.eq_iff_iff, rightB_true, rightB_true]
  exact t.right
theorem GTwin.measOf {g h : Gr} (t : GTwin g h) (n : Int) : measOf h n = measOf g n := by
  by_cases hy : Right g ∧ 0 ≤ n ∧ n < g.nodes.length
  · obtain ⟨hr, h0, h1⟩ := hy
    obtain ⟨k, rfl⟩ : ∃ k : Nat, n = k := ⟨n.toNat, by omega⟩
    obtain ⟨ms, hm, _⟩ := hr.pre
    rw [measOf_yes hr hm (by omega), measOf_yes (t.right.2 hr) ((t.meas ms).2 hm) (by rw [t.len]; omega)]
  · rw [measOf_no hy, measOf_no (fun ⟨a, b, c⟩ => hy ⟨t.right.1 a, b, by rw [t.len] at c; exact c⟩)]
theorem GTwin.owner {g h : Gr} (t : GTwin g h) (n : Int) : ownerOf h n = ownerOf g n := by
  by_cases hy : Right g ∧ 0 ≤ n ∧ n < g.nodes.length
  · rw [ownerOf_yes hy, ownerOf_yes ⟨t.right.2 hy.1, hy.2.1, by rw [t.len]; exact hy.2.2⟩, t.rules]
  · rw [ownerOf_no hy, ownerOf_no (fun ⟨a, b, c⟩ => hy ⟨t.right.1 a, b, by rw [t.len] at c; exact c⟩)]
theorem GTwin.same {g h : Gr} (t : GTwin g h) : sameGr h g = true := by
  unfold sameGr
  rw [rowSame_true (by rw [t.rules]) (fun i _ => by rw [t.rules]; simp [sameRl]), rowSame_true t.len (fun i hi => by
    rw [t.len] at hi
    obtain ⟨A, c, e⟩ := t.node i hi
    rw [e]
    simp [sameNd])]
  rfl
end Go.Proofs.Ytjelgmdjmjnnfaa

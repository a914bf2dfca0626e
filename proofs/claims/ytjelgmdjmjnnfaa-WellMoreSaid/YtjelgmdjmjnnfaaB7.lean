/- A grammar wherever it lies: what null tells of it is the same. Nothing here walks the program. -/
import Derived.Test.YtjelgmdjmjnnfaaB5
import Derived.Test.YtjelgmdjmjnnfaaB6
import Derived.KernelRfl
import Derived.Deep.CutRange
set_option linter.unusedSimpArgs false
set_option linter.unusedVariables false
namespace Go.Proofs.Ytjelgmdjmjnnfaa
open Go Go.RowKit
def Gr.kz (g : Gr) : Gr := ⟨none, 0, g.rules, none, 0, g.nodes.map Nd.kz⟩
theorem kz_getD (l : List Nd) (n : Nat) : (l.map Nd.kz).getD n Nd.zero = (l.getD n Nd.zero).kz := by
  simp only [List.getD, List.getElem?_map]
  cases l[n]? <;> rfl
theorem mayF_kz (l : List Nd) (inn : Int → Bool) : ∀ (f : Nat) (n : Int), mayF (l.map Nd.kz) inn f n = mayF l inn f n
  | 0, _ => rfl
  | f + 1, n => by
    unfold mayF
    rw [kz_getD, show mayF (l.map Nd.kz) inn f = mayF l inn f from funext (mayF_kz l inn f)]
    rfl
theorem mayN_kz (l : List Nd) (inn : Int → Bool) (n : Int) : mayN (l.map Nd.kz) inn n = mayN l inn n := by
  unfold mayN
  rw [List.length_map, mayF_kz]
theorem rk_kz (g : Gr) : ∀ k, rk g.kz k = rk g k
  | 0 => rfl
  | k + 1 => by
    unfold rk
    rw [rk_kz g k]
    have e : comB g.kz (rk g k) = comB g (rk g k) := by
      funext i
      unfold comB
      show (!inB (rk g k) i && mayN (g.nodes.map Nd.kz) (inB (rk g k)) _) = _
      rw [mayN_kz]
      rfl
    rw [e]
    rfl
theorem ranks_kz (g : Gr) : ranks g.kz = ranks g := rk_kz g _
theorem climb_kz (l : List Nd) (n : Nat) : kidsOf (l.map Nd.kz) n = kidsOf l n := by
  unfold kidsOf
  rw [kz_getD]
  rfl
theorem right_kz (g : Gr) : Right g.kz ↔ Right g := by
  have hl : g.kz.nodes.length = g.nodes.length := List.length_map _
  have hA : AllRight g.kz.nodes g.kz.rules.length ↔ AllRight g.nodes g.rules.length := by
    unfold AllRight
    rw [hl]
    refine forall_congr' fun i => ?_
    refine imp_congr_right fun hi => ?_
    show nodeOk ((g.nodes.map Nd.kz).getD i Nd.zero) g.rules.length = true ↔ _
    rw [kz_getD, nodeOk_iff, nodeOk_iff]
    exact Iff.rfl
  have hM : ∀ ms, Measured g.kz.nodes ms 0 ↔ Measured g.nodes ms 0 := fun ms => by
    unfold Measured
    rw [hl]
    refine forall_congr' fun m => ?_
    show (_ → _ → _ ∧ _ ∧ _ ∧ climb _ ms (kidsOf (g.nodes.map Nd.kz) m) _ _ = _) ↔ _
    rw [climb_kz]
  constructor
  · intro h
    exact ⟨h.rules, by rw [← hl]; exact h.nodes, h.named, hA.1 h.all, by
      obtain ⟨ms, a, b⟩ := h.pre
      exact ⟨ms, (hM ms).1 a, by rw [hl] at b; exact b⟩⟩
  · intro h
    exact ⟨h.rules, by rw [hl]; exact h.nodes, h.named, hA.2 h.all, by
      obtain ⟨ms, a, b⟩ := h.pre
      exact ⟨ms, (hM ms).2 a, by rw [hl]; exact b⟩⟩
theorem rightB_kz (g : Gr) : rightB g.kz = rightB g := by
  rw [Bool.eq_iff_iff, rightB_true, rightB_true, right_kz]
theorem rankOf_kz (g : Gr) (i : Int) : rankOf g.kz i = rankOf g i := by
  unfold rankOf
  rw [rightB_kz, ranks_kz]
  rfl
theorem nodeB_kz (g : Gr) (n : Int) : nodeB g.kz n = nodeB g n := by
  unfold nodeB
  rw [rightB_kz, ranks_kz]
  show (_ && (decide (0 ≤ n ∧ n < ((g.nodes.map Nd.kz).length : Int)) && mayN (g.nodes.map Nd.kz) _ n)) = _
  rw [List.length_map, mayN_kz]
theorem nodesOf_kz (g : Gr) : nodesOf g.kz = nodesOf g := by
  unfold nodesOf
  rw [rightB_kz, ranks_kz]
  show (if _ then rowOf' (g.nodes.map Nd.kz).length (fun n => mayN (g.nodes.map Nd.kz) _ n) else _) = _
  rw [List.length_map]
  have : (fun n : Nat => mayN (g.nodes.map Nd.kz) (inB (ranks g)) n) = fun n : Nat => mayN g.nodes (inB (ranks g)) n := funext fun n => mayN_kz _ _ _
  rw [this]
/-- By its rules and its nodes, wherever they lie. -/
theorem kz_of {g : Gr} {R : List Rl} {N : List Nd} (h : (g.rules, g.nodes.map Nd.kz) = (R, N)) : g.kz = ⟨none, 0, R, none, 0, N⟩ := by
  simp only [Prod.mk.injEq] at h
  unfold Gr.kz
  rw [h.1, h.2]
/-- The law's example. -/
def exBl : List (List Nd) := [ofL 7 [ofL 6 [[callN 1 0], [callN 2 0]], [wordN ⟨#[97]⟩]], ofL 10 [[wordN ⟨#[98]⟩]], ofL 6 [ofL 8 [[callN 1 0]], ofL 9 [[callN 3 0]]], ofL 7 [ofL 11 [[callN 0 0]], [leafN 2]]]
def exN : List Nd := [⟨7, 0, 0, 0, 0, ⟨#[]⟩, 0, 0, none, 0, [1, 4]⟩, ⟨6, 0, 0, 0, 0, ⟨#[]⟩, 0, 0, none, 0, [2, 3]⟩, ⟨5, 0, 0, 0, 0, ⟨#[]⟩, 1, 0, none, 0, []⟩, ⟨5, 0, 0, 0, 0, ⟨#[]⟩, 2, 0, none, 0, []⟩, ⟨4, 0, 0, 0, 0, ⟨#[97]⟩, 0, 0, none, 0, []⟩,
  ⟨10, 0, 0, 0, 0, ⟨#[]⟩, 0, 0, none, 0, [6]⟩, ⟨4, 0, 0, 0, 0, ⟨#[98]⟩, 0, 0, none, 0, []⟩,
  ⟨6, 0, 0, 0, 0, ⟨#[]⟩, 0, 0, none, 0, [8, 10]⟩, ⟨8, 0, 0, 0, 0, ⟨#[]⟩, 0, 0, none, 0, [9]⟩, ⟨5, 0, 0, 0, 0, ⟨#[]⟩, 1, 0, none, 0, []⟩, ⟨9, 0, 0, 0, 0, ⟨#[]⟩, 0, 0, none, 0, [11]⟩, ⟨5, 0, 0, 0, 0, ⟨#[]⟩, 3, 0, none, 0, []⟩,
  ⟨7, 0, 0, 0, 0, ⟨#[]⟩, 0, 0, none, 0, [13, 15]⟩, ⟨11, 0, 0, 0, 0, ⟨#[]⟩, 0, 0, none, 0, [14]⟩, ⟨5, 0, 0, 0, 0, ⟨#[]⟩, 0, 0, none, 0, []⟩, ⟨2, 0, 0, 0, 0, ⟨#[]⟩, 0, 0, none, 0, []⟩]
def exR : List Rl := [⟨⟨#[65]⟩, 0⟩, ⟨⟨#[66]⟩, 5⟩, ⟨⟨#[67]⟩, 7⟩, ⟨⟨#[68]⟩, 12⟩]
theorem ex_gram : gramL exBl = (exR, exN) := by rfl
def ex0 : Gr := ⟨none, 0, exR, none, 0, exN⟩
def exM : Nat → Meas
  | 0 => (5, 3) | 1 => (3, 2) | 5 => (2, 2) | 7 => (5, 3) | 8 => (2, 2) | 10 => (2, 2) | 12 => (4, 3) | 13 => (2, 2) | _ => (1, 1)
theorem ex_right : Right ex0 where
  rules := by decide
  nodes := by decide
  named := by
    intro i hi
    have : i = 0 ∨ i = 1 ∨ i = 2 ∨ i = 3 := by simp [ex0, exR] at hi; omega
    rcases this with rfl | rfl | rfl | rfl
    all_goals exact ⟨by simp [ex0, exR, nameOk, byteOk, letter], by simp [ex0, exR, ruleAt, ruleFrom]⟩
  all := by
    intro i hi
    have : i = 0 ∨ i = 1 ∨ i = 2 ∨ i = 3 ∨ i = 4 ∨ i = 5 ∨ i = 6 ∨ i = 7 ∨ i = 8 ∨ i = 9 ∨ i = 10 ∨ i = 11 ∨ i = 12 ∨ i = 13 ∨ i = 14 ∨ i = 15 := by simp [ex0, exN] at hi; omega
    rw [nodeOk_iff]
    rcases this with rfl | rfl | rfl | rfl | rfl | rfl | rfl | rfl | rfl | rfl | rfl | rfl | rfl | rfl | rfl | rfl
    all_goals simp [ex0, exN, exR, NodeIs, ByteArray.toList_eq, ByteArray.size]
  pre := ⟨exM, fun m _ hm => by
    have : m = 0 ∨ m = 1 ∨ m = 2 ∨ m = 3 ∨ m = 4 ∨ m = 5 ∨ m = 6 ∨ m = 7 ∨ m = 8 ∨ m = 9 ∨ m = 10 ∨ m = 11 ∨ m = 12 ∨ m = 13 ∨ m = 14 ∨ m = 15 := by simp [ex0, exN] at hm; omega
    rcases this with rfl | rfl | rfl | rfl | rfl | rfl | rfl | rfl | rfl | rfl | rfl | rfl | rfl | rfl | rfl | rfl
    all_goals exact ⟨by decide, by decide, by decide, by rfl⟩, by rfl⟩
theorem ex_ranks : ranks ex0 = [3, 1, 2, 1] := by kernel_rfl
theorem ex_rank : rankOf ex0 0 = 3 ∧ rankOf ex0 1 = 1 ∧ rankOf ex0 2 = 2 ∧ rankOf ex0 3 = 1 := by
  have h := rightB_true.2 ex_right
  unfold rankOf
  rw [h, ex_ranks]
  exact ⟨by rfl, by rfl, by rfl, by rfl⟩
/-- A rule that calls itself alone; that, or nothing. -/
def al0 : Gr := ⟨none, 0, [⟨⟨#[65]⟩, 0⟩], none, 0, [callN 0 0]⟩
def al1 : Gr := ⟨none, 0, [⟨⟨#[65]⟩, 0⟩], none, 0, [⟨7, 0, 0, 0, 0, ⟨#[]⟩, 0, 0, none, 0, [1, 2]⟩, callN 0 0, leafN 1]⟩
theorem al0_gram : gramL [[callN 0 0]] = (al0.rules, al0.nodes) := by rfl
theorem al1_gram : gramL [ofL 7 [[callN 0 0], [leafN 1]]] = (al1.rules, al1.nodes) := by rfl
theorem al0_right : Right al0 where
  rules := by decide
  nodes := by decide
  named := by
    intro i hi
    have : i = 0 := by simp [al0] at hi; omega
    subst this
    exact ⟨by simp [al0, nameOk, byteOk, letter], by simp [al0, ruleAt, ruleFrom]⟩
  all := by
    intro i hi
    have : i = 0 := by simp [al0] at hi; omega
    subst this
    rw [nodeOk_iff]
    simp [al0, callN, Nd.zero, NodeIs, ByteArray.toList_eq, ByteArray.size]
  pre := ⟨fun _ => (1, 1), fun m _ hm => by
    have : m = 0 := by simp [al0] at hm; omega
    subst this
    exact ⟨by decide, by decide, by decide, by rfl⟩, by rfl⟩
theorem al1_right : Right al1 where
  rules := by decide
  nodes := by decide
  named := by
    intro i hi
    have : i = 0 := by simp [al1] at hi; omega
    subst this
    exact ⟨by simp [al1, nameOk, byteOk, letter], by simp [al1, ruleAt, ruleFrom]⟩
  all := by
    intro i hi
    have : i = 0 ∨ i = 1 ∨ i = 2 := by simp [al1] at hi; omega
    rw [nodeOk_iff]
    rcases this with rfl | rfl | rfl
    all_goals simp [al1, callN, leafN, Nd.zero, NodeIs, ByteArray.toList_eq, ByteArray.size]
  pre := ⟨fun m => if m = 0 then (3, 2) else (1, 1), fun m _ hm => by
    have : m = 0 ∨ m = 1 ∨ m = 2 := by simp [al1] at hm; omega
    rcases this with rfl | rfl | rfl
    all_goals exact ⟨by decide, by decide, by decide, by rfl⟩, by rfl⟩
theorem al0_tells : rankOf al0 0 = 0 ∧ nodesOf al0 = [] := by
  have h := rightB_true.2 al0_right
  have e : ranks al0 = [0] := by kernel_rfl
  unfold rankOf nodesOf
  rw [h, e]
  exact ⟨by rfl, by kernel_rfl⟩
theorem al1_tells : rankOf al1 0 = 1 ∧ nodeB al1 2 = true := by
  have h := rightB_true.2 al1_right
  have e : ranks al1 = [1] := by kernel_rfl
  unfold rankOf nodeB
  rw [h, e]
  exact ⟨by rfl, by kernel_rfl⟩
end Go.Proofs.Ytjelgmdjmjnnfaa
namespace Go.Proofs.Ytjelgmdjmjnnfaa
open Go Go.RowKit
theorem lies_four {w : World} {b : Nat} {x y z u : Value} {T : TypeId} (h : Blk w b #[x, y, z, u] T) : Lies w (some ⟨b, 0, none⟩) [x, y, z, u] := fun _ => ⟨b, 0, rfl, h.lt, fun i hi => by
  have : i = 0 ∨ i = 1 ∨ i = 2 ∨ i = 3 := by simp at hi; omega
  rcases this with rfl | rfl | rfl | rfl <;> (rw [Nat.zero_add, h.cell]; rfl)⟩
/-- What comes in, of a grammar by hand. -/
theorem in_of {g g0 : Gr} (h : g.kz = g0) (h0 : Gr.In g0) : Gr.In g := by
  intro x hx
  have hm : x.kz ∈ g0.nodes := by rw [← h]; exact List.mem_map_of_mem hx
  have := h0 _ hm
  exact ⟨this.kind, this.text⟩
theorem ex_in : Gr.In ex0 := by
  intro x hx
  simp only [ex0, exN, List.mem_cons, List.not_mem_nil, or_false] at hx
  rcases hx with rfl | rfl | rfl | rfl | rfl | rfl | rfl | rfl | rfl | rfl | rfl | rfl | rfl | rfl | rfl | rfl
  all_goals exact ⟨by decide, by decide⟩
theorem al0_in : Gr.In al0 := by
  intro x hx
  simp only [al0, List.mem_cons, List.not_mem_nil, or_false] at hx
  subst hx
  exact ⟨by decide, by decide⟩
theorem al1_in : Gr.In al1 := by
  intro x hx
  simp only [al1, List.mem_cons, List.not_mem_nil, or_false] at hx
  rcases hx with rfl | rfl | rfl
  all_goals exact ⟨by decide, by decide⟩
end Go.Proofs.Ytjelgmdjmjnnfaa

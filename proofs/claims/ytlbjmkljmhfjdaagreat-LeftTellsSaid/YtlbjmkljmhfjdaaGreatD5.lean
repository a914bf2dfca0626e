/- A grammar wherever it lies: what null tells of it is the same. Nothing here walks the program. -/
import Derived.Test.YtlbjmkljmhfjdaaGreatD4
import Derived.Test.YtlbjmkljmhfjdaaGreatC7
import Derived.KernelRfl
import Derived.Deep.CutRange
import Derived.Test.YtlbjmkljmhfjdaaGreatB3
import Derived.Test.YtlbjmkljmhfjdaaGreatD2
import Derived.Test.YtlbjmkljmhfjdaaGreatB9
import Derived.Deep.MidRow
set_option linter.unusedSimpArgs false
set_option linter.unusedVariables false
namespace Go.Proofs.YtlbjmkljmhfjdaaGreat
open Go Go.RowKit
def Gr.kz (g : Gr) : Gr := ⟨none, 0, g.rules, none, 0, g.nodes.map Nd.kz⟩
theorem kz_getD (l : List Nd) (n : Nat) : (l.map Nd.kz).getD n Nd.zero = (l.getD n Nd.zero).kz := by
  simp only [List.getD, List.getElem?_map]
  cases l[n]? <;> rfl
theorem mayF_kz (l : List Nd) (inn : Int → Bool) : ∀ (f : Nat) (n : Int), mayF (l.map Nd.kz) inn f n = mayF l inn f n
  | 0, _ => rfl
  | f + 1, n => by
    unfold mayF
    rw [kz_getD, show mayF (l.map Nd.kz) inn f = mayF l inn f from funext (mayF_kz l inn f)]
    rfl
theorem mayN_kz (l : List Nd) (inn : Int → Bool) (n : Int) : mayN (l.map Nd.kz) inn n = mayN l inn n := by
  unfold mayN
  rw [List.length_map, mayF_kz]
theorem rk_kz (g : Gr) : ∀ k, rk g.kz k = rk g k
  | 0 => rfl
  | k + 1 => by
    unfold rk
    rw [rk_kz g k]
    have e : comB g.kz (rk g k) = comB g (rk g k) := by
      funext i
      unfold comB
      show (!inB (rk g k) i && mayN (g.nodes.map Nd.kz) (inB (rk g k)) _) = _
      rw [mayN_kz]
      rfl
    rw [e]
    rfl
theorem ranks_kz (g : Gr) : ranks g.kz = ranks g := rk_kz g _
theorem climb_kz (l : List Nd) (n : Nat) : kidsOf (l.map Nd.kz) n = kidsOf l n := by
  unfold kidsOf
  rw [kz_getD]
  rfl
theorem right_kz (g : Gr) : Right g.kz ↔ Right g := by
  have hl : g.kz.nodes.length = g.nodes.length := List.length_map _
  have hA : AllRight g.kz.nodes g.kz.rules.length ↔ AllRight g.nodes g.rules.length := by
    unfold AllRight
    rw [hl]
    refine forall_congr' fun i => ?_
    refine imp_congr_right fun hi => ?_
    show nodeOk ((g.nodes.map Nd.kz).getD i Nd.zero) g.rules.length = true ↔ _
    rw [kz_getD, nodeOk_iff, nodeOk_iff]
    exact Iff.rfl
  have hM : ∀ ms, Measured g.kz.nodes ms 0 ↔ Measured g.nodes ms 0 := fun ms => by
    unfold Measured
    rw [hl]
    refine forall_congr' fun m => ?_
    show (_ → _ → _ ∧ _ ∧ _ ∧ climb _ ms (kidsOf (g.nodes.map Nd.kz) m) _ _ = _) ↔ _
    rw [climb_kz]
  constructor
  · intro h
    exact ⟨h.rules, by rw [← hl]; exact h.nodes, h.named, hA.1 h.all, by
      obtain ⟨ms, a, b⟩ := h.pre
      exact ⟨ms, (hM ms).1 a, by rw [hl] at b; exact b⟩⟩
  · intro h
    exact ⟨h.rules, by rw [hl]; exact h.nodes, h.named, hA.2 h.all, by
      obtain ⟨ms, a, b⟩ := h.pre
      exact ⟨ms, (hM ms).2 a, by rw [hl]; exact b⟩⟩
theorem rightB_kz (g : Gr) : rightB g.kz = rightB g := by
  rw [Bool.eq_iff_iff, rightB_true, rightB_true, right_kz]
theorem rankOf_kz (g : Gr) (i : Int) : rankOf g.kz i = rankOf g i := by
  unfold rankOf
  rw [rightB_kz, ranks_kz]
  rfl
theorem nodeB_kz (g : Gr) (n : Int) : nodeB g.kz n = nodeB g n := by
  unfold nodeB
  rw [rightB_kz, ranks_kz]
  show (_ && (decide (0 ≤ n ∧ n < ((g.nodes.map Nd.kz).length : Int)) && mayN (g.nodes.map Nd.kz) _ n)) = _
  rw [List.length_map, mayN_kz]
theorem nodesOf_kz (g : Gr) : nodesOf g.kz = nodesOf g := by
  unfold nodesOf
  rw [rightB_kz, ranks_kz]
  show (if _ then rowOf' (g.nodes.map Nd.kz).length (fun n => mayN (g.nodes.map Nd.kz) _ n) else _) = _
  rw [List.length_map]
  have : (fun n : Nat => mayN (g.nodes.map Nd.kz) (inB (ranks g)) n) = fun n : Nat => mayN g.nodes (inB (ranks g)) n := funext fun n => mayN_kz _ _ _
  rw [this]
/-- By its rules and its nodes, wherever they lie. -/
theorem kz_of {g : Gr} {R : List Rl} {N : List Nd} (h : (g.rules, g.nodes.map Nd.kz) = (R, N)) : g.kz = ⟨none, 0, R, none, 0, N⟩ := by
  simp only [Prod.mk.injEq] at h
  unfold Gr.kz
  rw [h.1, h.2]
/-- The law's example. -/
def exBl : List (List Nd) := [ofL 7 [ofL 6 [[callN 1 0], [callN 2 0]], [wordN ⟨#[97]⟩]], ofL 10 [[wordN ⟨#[98]⟩]], ofL 6 [ofL 8 [[callN 1 0]], ofL 9 [[callN 3 0]]], ofL 7 [ofL 11 [[callN 0 0]], [leafN 2]]]
def exN : List Nd := [⟨7, 0, 0, 0, 0, ⟨#[]⟩, 0, 0, none, 0, [1, 4]⟩, ⟨6, 0, 0, 0, 0, ⟨#[]⟩, 0, 0, none, 0, [2, 3]⟩, ⟨5, 0, 0, 0, 0, ⟨#[]⟩, 1, 0, none, 0, []⟩, ⟨5, 0, 0, 0, 0, ⟨#[]⟩, 2, 0, none, 0, []⟩, ⟨4, 0, 0, 0, 0, ⟨#[97]⟩, 0, 0, none, 0, []⟩,
  ⟨10, 0, 0, 0, 0, ⟨#[]⟩, 0, 0, none, 0, [6]⟩, ⟨4, 0, 0, 0, 0, ⟨#[98]⟩, 0, 0, none, 0, []⟩,
  ⟨6, 0, 0, 0, 0, ⟨#[]⟩, 0, 0, none, 0, [8, 10]⟩, ⟨8, 0, 0, 0, 0, ⟨#[]⟩, 0, 0, none, 0, [9]⟩, ⟨5, 0, 0, 0, 0, ⟨#[]⟩, 1, 0, none, 0, []⟩, ⟨9, 0, 0, 0, 0, ⟨#[]⟩, 0, 0, none, 0, [11]⟩, ⟨5, 0, 0, 0, 0, ⟨#[]⟩, 3, 0, none, 0, []⟩,
  ⟨7, 0, 0, 0, 0, ⟨#[]⟩, 0, 0, none, 0, [13, 15]⟩, ⟨11, 0, 0, 0, 0, ⟨#[]⟩, 0, 0, none, 0, [14]⟩, ⟨5, 0, 0, 0, 0, ⟨#[]⟩, 0, 0, none, 0, []⟩, ⟨2, 0, 0, 0, 0, ⟨#[]⟩, 0, 0, none, 0, []⟩]
def exR : List Rl := [⟨⟨#[65]⟩, 0⟩, ⟨⟨#[66]⟩, 5⟩, ⟨⟨#[67]⟩, 7⟩, ⟨⟨#[68]⟩, 12⟩]
theorem ex_gram : gramL exBl = (exR, exN) := by rfl
def ex0 : Gr := ⟨none, 0, exR, none, 0, exN⟩
def exM : Nat → Meas
  | 0 => (5, 3) | 1 => (3, 2) | 5 => (2, 2) | 7 => (5, 3) | 8 => (2, 2) | 10 => (2, 2) | 12 => (4, 3) | 13 => (2, 2) | _ => (1, 1)
theorem ex_right : Right ex0 where
  rules := by decide
  nodes := by decide
  named := by
    intro i hi
    have : i = 0 ∨ i = 1 ∨ i = 2 ∨ i = 3 := by simp [ex0, exR] at hi; omega
    rcases this with rfl | rfl | rfl | rfl
    all_goals exact ⟨by simp [ex0, exR, nameOk, byteOk, letter], by simp [ex0, exR, ruleAt, ruleFrom]⟩
  all := by
    intro i hi
    have : i = 0 ∨ i = 1 ∨ i = 2 ∨ i = 3 ∨ i = 4 ∨ i = 5 ∨ i = 6 ∨ i = 7 ∨ i = 8 ∨ i = 9 ∨ i = 10 ∨ i = 11 ∨ i = 12 ∨ i = 13 ∨ i = 14 ∨ i = 15 := by simp [ex0, exN] at hi; omega
    rw [nodeOk_iff]
    rcases this with rfl | rfl | rfl | rfl | rfl | rfl | rfl | rfl | rfl | rfl | rfl | rfl | rfl | rfl | rfl | rfl
    all_goals simp [ex0, exN, exR, NodeIs, ByteArray.toList_eq, ByteArray.size]
  pre := ⟨exM, fun m _ hm => by
    have : m = 0 ∨ m = 1 ∨ m = 2 ∨ m = 3 ∨ m = 4 ∨ m = 5 ∨ m = 6 ∨ m = 7 ∨ m = 8 ∨ m = 9 ∨ m = 10 ∨ m = 11 ∨ m = 12 ∨ m = 13 ∨ m = 14 ∨ m = 15 := by simp [ex0, exN] at hm; omega
    rcases this with rfl | rfl | rfl | rfl | rfl | rfl | rfl | rfl | rfl | rfl | rfl | rfl | rfl | rfl | rfl | rfl
    all_goals exact ⟨by decide, by decide, by decide, by rfl⟩, by rfl⟩
theorem ex_ranks : ranks ex0 = [3, 1, 2, 1] := by kernel_rfl
theorem ex_rank : rankOf ex0 0 = 3 ∧ rankOf ex0 1 = 1 ∧ rankOf ex0 2 = 2 ∧ rankOf ex0 3 = 1 := by
  have h := rightB_true.2 ex_right
  unfold rankOf
  rw [h, ex_ranks]
  exact ⟨by rfl, by rfl, by rfl, by rfl⟩
/-- A rule that calls itself alone; that, or nothing. -/
def al0 : Gr := ⟨none, 0, [⟨⟨#[65]⟩, 0⟩], none, 0, [callN 0 0]⟩
def al1 : Gr := ⟨none, 0, [⟨⟨#[65]⟩, 0⟩], none, 0, [⟨7, 0, 0, 0, 0, ⟨#[]⟩, 0, 0, none, 0, [1, 2]⟩, callN 0 0, leafN 1]⟩
theorem al0_gram : gramL [[callN 0 0]] = (al0.rules, al0.nodes) := by rfl
theorem al1_gram : gramL [ofL 7 [[callN 0 0], [leafN 1]]] = (al1.rules, al1.nodes) := by rfl
theorem al0_right : Right al0 where
  rules := by decide
  nodes := by decide
  named := by
    intro i hi
    have : i = 0 := by simp [al0] at hi; omega
    subst this
    exact ⟨by simp [al0, nameOk, byteOk, letter], by simp [al0, ruleAt, ruleFrom]⟩
  all := by
    intro i hi
    have : i = 0 := by simp [al0] at hi; omega
    subst this
    rw [nodeOk_iff]
    simp [al0, callN, Nd.zero, NodeIs, ByteArray.toList_eq, ByteArray.size]
  pre := ⟨fun _ => (1, 1), fun m _ hm => by
    have : m = 0 := by simp [al0] at hm; omega
    subst this
    exact ⟨by decide, by decide, by decide, by rfl⟩, by rfl⟩
theorem al1_right : Right al1 where
  rules := by decide
  nodes := by decide
  named := by
    intro i hi
    have : i = 0 := by simp [al1] at hi; omega
    subst this
    exact ⟨by simp [al1, nameOk, byteOk, letter], by simp [al1, ruleAt, ruleFrom]⟩
  all := by
    intro i hi
    have : i = 0 ∨ i = 1 ∨ i = 2 := by simp [al1] at hi; omega
    rw [nodeOk_iff]
    rcases this with rfl | rfl | rfl
    all_goals simp [al1, callN, leafN, Nd.zero, NodeIs, ByteArray.toList_eq, ByteArray.size]
  pre := ⟨fun m => if m = 0 then (3, 2) else (1, 1), fun m _ hm => by
    have : m = 0 ∨ m = 1 ∨ m = 2 := by simp [al1] at hm; omega
    rcases this with rfl | rfl | rfl
    all_goals exact ⟨by decide, by decide, by decide, by rfl⟩, by rfl⟩
theorem al0_tells : rankOf al0 0 = 0 ∧ nodesOf al0 = [] := by
  have h := rightB_true.2 al0_right
  have e : ranks al0 = [0] := by kernel_rfl
  unfold rankOf nodesOf
  rw [h, e]
  exact ⟨by rfl, by kernel_rfl⟩
theorem al1_tells : rankOf al1 0 = 1 ∧ nodeB al1 2 = true := by
  have h := rightB_true.2 al1_right
  have e : ranks al1 = [1] := by kernel_rfl
  unfold rankOf nodeB
  rw [h, e]
  exact ⟨by rfl, by kernel_rfl⟩
end Go.Proofs.YtlbjmkljmhfjdaaGreat
namespace Go.Proofs.YtlbjmkljmhfjdaaGreat
open Go Go.RowKit
theorem lies_four {w : World} {b : Nat} {x y z u : Value} {T : TypeId} (h : Blk w b #[x, y, z, u] T) : Lies w (some ⟨b, 0, none⟩) [x, y, z, u] := fun _ => ⟨b, 0, rfl, h.lt, fun i hi => by
  have : i = 0 ∨ i = 1 ∨ i = 2 ∨ i = 3 := by simp at hi; omega
  rcases this with rfl | rfl | rfl | rfl <;> (rw [Nat.zero_add, h.cell]; rfl)⟩
/-- What comes in, of a grammar by hand. -/
theorem in_of {g g0 : Gr} (h : g.kz = g0) (h0 : Gr.In g0) : Gr.In g := by
  intro x hx
  have hm : x.kz ∈ g0.nodes := by rw [← h]; exact List.mem_map_of_mem hx
  have := h0 _ hm
  exact ⟨this.kind, this.text⟩
theorem ex_in : Gr.In ex0 := by
  intro x hx
  simp only [ex0, exN, List.mem_cons, List.not_mem_nil, or_false] at hx
  rcases hx with rfl | rfl | rfl | rfl | rfl | rfl | rfl | rfl | rfl | rfl | rfl | rfl | rfl | rfl | rfl | rfl
  all_goals exact ⟨by decide, by decide⟩
theorem al0_in : Gr.In al0 := by
  intro x hx
  simp only [al0, List.mem_cons, List.not_mem_nil, or_false] at hx
  subst hx
  exact ⟨by decide, by decide⟩
theorem al1_in : Gr.In al1 := by
  intro x hx
  simp only [al1, List.mem_cons, List.not_mem_nil, or_false] at hx
  rcases hx with rfl | rfl | rfl
  all_goals exact ⟨by decide, by decide⟩
end Go.Proofs.YtlbjmkljmhfjdaaGreat
namespace Go.Proofs.YtlbjmkljmhfjdaaGreat
open Go Go.RowKit Go.Maps
def bls (l : List Bool) : List Value := l.map Value.bool
theorem bls_length (l : List Bool) : (bls l).length = l.length := by simp [bls]
theorem bls_at {l : List Bool} {k : Nat} (h : k < l.length) : (bls l)[k]? = some (.bool (l.getD k false)) := by
  simp [bls, List.getD, List.getElem?_eq_getElem h]
theorem bls_set (l : List Bool) (k : Nat) (b : Bool) : (bls l).set k (.bool b) = bls (l.set k b) := by simp [bls, List.map_set]
theorem ints_set (l : List Int) (k : Nat) (b : Int) : (ints l).set k (.int .i64 b) = ints (l.set k b) := by simp [ints, List.map_set]
theorem Blk.put {w : World} {b k : Nat} {l : List Value} {T : TypeId} (h : Blk w b l.toArray T) (v : Value) : Blk (w.setCell ⟨b, k, none⟩ v) b (l.set k v).toArray T := by
  have := heap_setCell_same w b k l.toArray T v h
  unfold Blk
  rw [this]
  simp
theorem made_blk {w : World} {base b n : Nat} {e : TypeId} {xs : List Value} (h : w.ownsRow base e 1 (.slice (some ⟨b, 0, none⟩) n n) n xs) : Blk w b xs.toArray e := by
  have h1 := h.1
  rcases h.2 with ⟨hn, _⟩ | ⟨g', cap', cur, hv, hbg, hgh, hnc, hcm, hcs, htake⟩
  · cases hn
  · simp only [Value.slice.injEq, Option.some.injEq, Addr.mk.injEq, and_true, true_and] at hv
    obtain ⟨rfl, rfl⟩ := hv
    have : cur.toList = xs := by
      rw [List.take_of_length_le (by simp; omega)] at htake
      exact htake
    unfold Blk
    rw [hgh, ← this]
theorem all_take {p : Int → Bool} {l : List Int} {k : Nat} (h : k < l.length) : (l.take (k + 1)).all p = ((l.take k).all p && p (l.getD k 0)) := by
  rw [List.take_add_one, List.all_append, List.getElem?_eq_getElem h]
  simp [List.getD, List.getElem?_eq_getElem h]
theorem any_take {p : Int → Bool} {l : List Int} {k : Nat} (h : k < l.length) : (l.take (k + 1)).any p = ((l.take k).any p || p (l.getD k 0)) := by
  rw [List.take_add_one, List.any_append, List.getElem?_eq_getElem h]
  simp [List.getD, List.getElem?_eq_getElem h]
theorem and_eq {a b c : Bool} (h : a = (b && c)) : a = if b = true then c else false := by subst h; cases b <;> rfl
end Go.Proofs.YtlbjmkljmhfjdaaGreat
namespace Go.Proofs.YtlbjmkljmhfjdaaGreat
open Go Go.RowKit Go.Maps
theorem in_later {g : Gr} {k i : Nat} (h : inB (rk g k) i = true) : inB (rk g (k + 1)) i = true := by
  simp only [inB, Int.toNat_natCast, decide_eq_true_eq] at h ⊢
  rw [rk_keeps g k i h]; exact h
/-- A rule that is in is in with its body. -/
theorem in_body {g : Gr} : ∀ (k i : Nat), i < g.rules.length → 0 < (rk g (k + 1)).getD i 0 → mayN g.nodes (inB (rk g k)) (g.rules.getD i Rl.zero).body = true
  | k, i, hi, h => by
    rw [rk_next g k i hi] at h
    by_cases hc : comB g (rk g k) i = true
    · unfold comB at hc
      simp only [Bool.and_eq_true] at hc
      exact hc.2
    · rw [if_neg hc] at h
      cases k with
      | zero => rw [rk_zero] at h; omega
      | succ k =>
        refine mayN_mono (i := inB (rk g k)) (fun q hq => ?_) (in_body k i hi h)
        simp only [inB, decide_eq_true_eq] at hq ⊢
        rw [rk_keeps g k _ hq]; exact hq
theorem body_in {g : Gr} (k i : Nat) (hi : i < g.rules.length) : mayN g.nodes (inB (rk g k)) (g.rules.getD i Rl.zero).body = decide (0 < (rk g (k + 1)).getD i 0) := by
  by_cases h : 0 < (rk g (k + 1)).getD i 0
  · rw [in_body k i hi h, decide_eq_true h]
  · rw [decide_eq_false h]
    cases hm : mayN g.nodes (inB (rk g k)) (g.rules.getD i Rl.zero).body with
    | false => rfl
    | true =>
      exfalso
      apply h
      by_cases h0 : inB (rk g k) i = true
      · have := in_later h0
        simpa [inB] using this
      · rw [rk_next g k i hi, if_pos (by unfold comB; rw [hm]; simpa using h0)]
        omega
theorem rk_past (g : Gr) : rk g (g.rules.length + 1) = ranks g := by
  obtain ⟨N, h1, h2, _⟩ := rounds_end g
  have := rk_stay g N h2 (g.rules.length + 1 - N)
  rw [show N + (g.rules.length + 1 - N) = g.rules.length + 1 by omega] at this
  rw [this, ranks_fix g h1 h2]
theorem ranks_length (g : Gr) : (ranks g).length = g.rules.length := rk_length g _
theorem ranks_pos (g : Gr) (i : Nat) : 0 ≤ (ranks g).getD i 0 := (rk_bound g _ i).1
theorem ranks_le (g : Gr) (i : Nat) : (ranks g).getD i 0 ≤ g.rules.length := (rk_bound g _ i).2
/-- A rule is in just as its body may. -/
theorem body_ranks {g : Gr} (i : Nat) (hi : i < g.rules.length) : mayN g.nodes (inB (ranks g)) (g.rules.getD i Rl.zero).body = decide (0 < (ranks g).getD i 0) := by
  have := body_in (g := g) g.rules.length i hi
  rw [rk_past] at this
  exact this
/-- The ranks below a number. -/
def low (r : List Int) (k : Nat) : List Int := r.map fun x => if x < (k : Int) + 1 then x else 0
theorem low_length (r : List Int) (k : Nat) : (low r k).length = r.length := by simp [low]
theorem low_at {r : List Int} {k i : Nat} (h : i < r.length) : (low r k).getD i 0 = if r.getD i 0 < (k : Int) + 1 then r.getD i 0 else 0 := by
  simp [low, List.getD, List.getElem?_eq_getElem h]
theorem ext_getD {a b : List Int} (h : a.length = b.length) (h2 : ∀ i, i < a.length → a.getD i 0 = b.getD i 0) : a = b := by
  apply List.ext_getElem h
  intro i h3 h4
  have := h2 i h3
  simpa [List.getD, List.getElem?_eq_getElem h3, List.getElem?_eq_getElem h4] using this
theorem low_ranks (g : Gr) (k : Nat) (hk : k ≤ g.rules.length) : low (ranks g) k = rk g k := by
  apply ext_getD
  · rw [low_length, rk_length, ranks_length]
  · intro i hi
    rw [low_length] at hi
    rw [low_at hi]
    have := rk_below g i (g.rules.length - k) k
    rw [show k + (g.rules.length - k) = g.rules.length by omega] at this
    rw [this]
    show (if (ranks g).getD i 0 < (k : Int) + 1 then (ranks g).getD i 0 else 0) = if (ranks g).getD i 0 ≤ k then (ranks g).getD i 0 else 0
    by_cases h : (ranks g).getD i 0 ≤ k
    · rw [if_pos h, if_pos (by omega)]
    · rw [if_neg h, if_neg (by omega)]
theorem rk_upto (g : Gr) (k i : Nat) (hk : k ≤ g.rules.length) : decide (0 < (rk g (k + 1)).getD i 0) = decide (0 < (ranks g).getD i 0 ∧ (ranks g).getD i 0 ≤ (k : Int) + 1) := by
  by_cases h : k = g.rules.length
  · subst h
    rw [rk_past]
    have := ranks_le g i
    have h2 : (ranks g).getD i 0 ≤ (g.rules.length : Int) + 1 := by omega
    exact decide_eq_decide.2 ⟨fun h => ⟨h, h2⟩, fun h => h.1⟩
  · have := rk_below g i (g.rules.length - (k + 1)) (k + 1)
    rw [show (k + 1) + (g.rules.length - (k + 1)) = g.rules.length by omega] at this
    rw [this]
    show decide (0 < if (ranks g).getD i 0 ≤ ((k + 1 : Nat) : Int) then (ranks g).getD i 0 else 0) = _
    by_cases h : (ranks g).getD i 0 ≤ ((k + 1 : Nat) : Int)
    · rw [if_pos h]
      have h2 : (ranks g).getD i 0 ≤ (k : Int) + 1 := by omega
      exact decide_eq_decide.2 ⟨fun h => ⟨h, h2⟩, fun h => h.1⟩
    · rw [if_neg h]
      have h2 : ¬ (ranks g).getD i 0 ≤ (k : Int) + 1 := by omega
      exact decide_eq_decide.2 ⟨fun h => absurd h (by omega), fun h => absurd h.2 h2⟩
theorem body_low {g : Gr} (k i : Nat) (hi : i < g.rules.length) (hk : k ≤ g.rules.length) : mayN g.nodes (inB (low (ranks g) k)) (g.rules.getD i Rl.zero).body = decide (0 < (ranks g).getD i 0 ∧ (ranks g).getD i 0 ≤ (k : Int) + 1) := by
  rw [low_ranks g k hk, body_in k i hi, rk_upto g k i hk]
/-- What a node may, by what its kids may. -/
theorem may_step {g : Gr} (hR : Right g) (inn : Int → Bool) (l : List Bool) (n : Nat) (hn : n < g.nodes.length) (h : ∀ j, n < j → j < g.nodes.length → l.getD j false = mayN g.nodes inn j) :
    stepMay (g.nodes.getD n Nd.zero) (fun k => l.getD k.toNat false) inn = mayN g.nodes inn n := by
  rw [mayN_eq hR.kidsUp inn (n := n) (by omega) (by omega), Int.toNat_natCast]
  refine stepMay_congr (fun k hk => ?_) (fun _ => rfl)
  have := hR.kidsUp n hn k hk
  obtain ⟨j, rfl⟩ : ∃ j : Nat, k = j := ⟨k.toNat, by omega⟩
  simpa using h j (by omega) (by omega)
theorem made_ints (n : Nat) : (madeCells (Value.int .i64 0).cells (n * 1)).toList.toArray = (ints (List.replicate n 0)).toArray := by
  rw [made_int]; simp [ints]
theorem made_bools (n : Nat) : (madeCells (Value.bool false).cells (n * 1)).toList.toArray = (bls (List.replicate n false)).toArray := by
  have : madeCells (Value.bool false).cells (n * 1) = (List.replicate n (Value.bool false)).toArray := by
    apply Array.ext
    · simp [madeCells]
    · intro k h1 h2
      simp [madeCells, Value.cells, Nat.mod_one]
  rw [this]; simp [bls]
end Go.Proofs.YtlbjmkljmhfjdaaGreat
namespace Go.Proofs.YtlbjmkljmhfjdaaGreat
open Go Go.RowKit Go.Maps
/-- A grammar with one node turned into another. -/
def Gr.turn (g : Gr) (c : Nat) (y : Nd) : Gr := { g with nodes := g.nodes.set c y }
theorem turn_len (g : Gr) (c : Nat) (y : Nd) : (g.turn c y).nodes.length = g.nodes.length := by simp [Gr.turn]
theorem turn_at {g : Gr} {c : Nat} {y : Nd} (hc : c < g.nodes.length) : (g.turn c y).nodes.getD c Nd.zero = y := by
  simp only [Gr.turn, List.getD]
  rw [List.getElem?_set_self hc]; rfl
theorem turn_other {g : Gr} {c j : Nat} {y : Nd} (h : j ≠ c) : (g.turn c y).nodes.getD j Nd.zero = g.nodes.getD j Nd.zero := by
  simp only [Gr.turn, List.getD]
  rw [List.getElem?_set_ne (fun e => h e.symm)]
theorem turn_kids {g : Gr} {c : Nat} {y : Nd} (hc : c < g.nodes.length) (h : y.kids = (g.nodes.getD c Nd.zero).kids) (j : Nat) : kidsOf (g.turn c y).nodes j = kidsOf g.nodes j := by
  unfold kidsOf
  by_cases e : j = c
  · subst e; rw [turn_at hc, h]
  · rw [turn_other e]
theorem turn_meas {g : Gr} {c : Nat} {y : Nd} (hc : c < g.nodes.length) (h : y.kids = (g.nodes.getD c Nd.zero).kids) {ms : Nat → Meas} (hm : Measured g.nodes ms 0) : Measured (g.turn c y).nodes ms 0 := by
  intro m h1 h2
  rw [turn_len] at h2
  have := hm m h1 h2
  rw [turn_kids hc h, turn_len]
  exact this
theorem turn_right {g : Gr} {c : Nat} {y : Nd} (hR : Right g) (hc : c < g.nodes.length) (h : y.kids = (g.nodes.getD c Nd.zero).kids) (hy : nodeOk y g.rules.length = true) : Right (g.turn c y) := by
  obtain ⟨ms, hm, hb⟩ := hR.pre
  refine ⟨hR.rules, by rw [turn_len]; exact hR.nodes, hR.named, fun i hi => ?_, ms, turn_meas hc h hm, ?_⟩
  · rw [turn_len] at hi
    show nodeOk ((g.turn c y).nodes.getD i Nd.zero) g.rules.length = true
    by_cases e : i = c
    · subst e; rw [turn_at hc]; exact hy
    · rw [turn_other e]; exact hR.all i hi
  · rw [turn_len]
    exact hb
theorem turn_up_kids {g : Gr} {c : Nat} {y : Nd} (hR : Right g) (hc : c < g.nodes.length) (h : y.kids = (g.nodes.getD c Nd.zero).kids) : KidsUp (g.turn c y).nodes := by
  intro m hm2 k hk
  rw [turn_len] at hm2
  have := turn_kids hc h m
  unfold kidsOf at this
  rw [this] at hk
  have := hR.kidsUp m hm2 k hk
  rw [turn_len]
  exact this
/-- One that never may, turned: what may, may still. -/
theorem turn_up {g : Gr} {c : Nat} {y : Nd} (hR : Right g) (hc : c < g.nodes.length) (h : y.kids = (g.nodes.getD c Nd.zero).kids) (inn inn' : Int → Bool)
    (hy : ∀ f, stepMay (g.nodes.getD c Nd.zero) f inn = false) (hi : ∀ k, inn k = true → inn' k = true) :
    ∀ (d n : Nat), n < g.nodes.length → g.nodes.length - n ≤ d → mayN g.nodes inn n = true → mayN (g.turn c y).nodes inn' n = true
  | 0, n, hn, hd, _ => by omega
  | d + 1, n, hn, hd, hm => by
    rw [mayN_eq hR.kidsUp inn (n := n) (by omega) (by omega), Int.toNat_natCast] at hm
    rw [mayN_eq (turn_up_kids hR hc h) inn' (n := n) (by omega) (by rw [turn_len]; omega), Int.toNat_natCast]
    by_cases e : n = c
    · subst e
      rw [hy] at hm
      cases hm
    · rw [turn_other e]
      refine stepMay_mono (fun k hk hv => ?_) (hi _) hm
      have := hR.kidsUp n hn k hk
      obtain ⟨j, rfl⟩ : ∃ j : Nat, k = j := ⟨k.toNat, by omega⟩
      exact turn_up hR hc h inn inn' hy hi d j (by omega) (by omega) hv
/-- One that never may, turned into one that never may: nothing changes. -/
theorem turn_same {g : Gr} {c : Nat} {y : Nd} (hR : Right g) (hc : c < g.nodes.length) (h : y.kids = (g.nodes.getD c Nd.zero).kids) (inn : Int → Bool)
    (hy : ∀ f, stepMay (g.nodes.getD c Nd.zero) f inn = false) (hy2 : ∀ f, stepMay y f inn = false) (n : Int) (h0 : 0 ≤ n) (h1 : n < g.nodes.length) :
    mayN (g.turn c y).nodes inn n = mayN g.nodes inn n := by
  refine mayN_unique hR.kidsUp inn (mayN (g.turn c y).nodes inn) (lo := 0) (by omega) (fun m a b => ?_) (g.nodes.length) n h0 h1 (by omega)
  rw [mayN_eq (turn_up_kids hR hc h) inn a (by rw [turn_len]; exact b)]
  by_cases e : m.toNat = c
  · rw [e, turn_at hc, hy, hy2]
  · rw [turn_other e]
theorem turn_rules (g : Gr) (c : Nat) (y : Nd) : (g.turn c y).rules = g.rules := rfl
theorem rk_full (g : Gr) (k : Nat) : ∀ i, g.rules.length ≤ i → (rk g k).getD i 0 = 0 := fun i hi => by
  simp only [List.getD]
  rw [List.getElem?_eq_none (by rw [rk_length]; exact hi)]
  rfl
/-- Who is in is in, as soon, behind the turn. -/
theorem turn_in {g : Gr} {c : Nat} {y : Nd} (hR : Right g) (hc : c < g.nodes.length) (h : y.kids = (g.nodes.getD c Nd.zero).kids)
    (hy : ∀ f inn, stepMay (g.nodes.getD c Nd.zero) f inn = false) : ∀ (k i : Nat), 0 < (rk g k).getD i 0 → 0 < (rk (g.turn c y) k).getD i 0
  | 0, i, hi => by rw [rk_zero] at hi; omega
  | k + 1, i, hi => by
    by_cases hl : i < g.rules.length
    · have hb := in_body k i hl hi
      have hbd := hR.body i hl
      obtain ⟨q, hq⟩ : ∃ q : Nat, (g.rules.getD i Rl.zero).body = q := ⟨(g.rules.getD i Rl.zero).body.toNat, by omega⟩
      rw [hq] at hb
      have hu := turn_up hR hc h (inB (rk g k)) (inB (rk (g.turn c y) k)) (fun f => hy f _) (fun r hr => by
        simp only [inB, decide_eq_true_eq] at hr ⊢
        exact turn_in hR hc h hy k _ hr) g.nodes.length q (by omega) (by omega) hb
      have := body_in (g := g.turn c y) k i hl
      rw [turn_rules, hq, hu] at this
      simpa using this.symm
    · rw [rk_full g (k + 1) i (by omega)] at hi
      omega
/-- Ranks don't rise. -/
theorem turn_rank {g : Gr} {c : Nat} {y : Nd} (hR : Right g) (hc : c < g.nodes.length) (h : y.kids = (g.nodes.getD c Nd.zero).kids)
    (hy : ∀ f inn, stepMay (g.nodes.getD c Nd.zero) f inn = false) (i : Nat) (hi : 0 < (ranks g).getD i 0) : 0 < (ranks (g.turn c y)).getD i 0 ∧ (ranks (g.turn c y)).getD i 0 ≤ (ranks g).getD i 0 := by
  have hle := ranks_le g i
  obtain ⟨a, ha⟩ : ∃ a : Nat, (ranks g).getD i 0 = a := ⟨((ranks g).getD i 0).toNat, by omega⟩
  have h1 := rk_below g i (g.rules.length - a) a
  rw [show a + (g.rules.length - a) = g.rules.length by omega] at h1
  have h2 : (rk g a).getD i 0 = a := by
    rw [h1]
    show (if (ranks g).getD i 0 ≤ (a : Int) then (ranks g).getD i 0 else 0) = a
    rw [if_pos (by omega), ha]
  have h3 := turn_in hR hc h hy a i (by omega)
  have h4 := rk_keep (g.turn c y) a i h3 (g.rules.length - a)
  rw [show a + (g.rules.length - a) = (g.turn c y).rules.length by rw [turn_rules]; omega] at h4
  have h5 := (rk_bound (g.turn c y) a i).2
  have h6 : (ranks (g.turn c y)).getD i 0 = (rk (g.turn c y) a).getD i 0 := h4
  rw [h6, ha]
  exact ⟨h3, h5⟩
/-- A call of a rule that never comes in, turned into one that never may: the same rounds. -/
theorem turn_rk {g : Gr} {c : Nat} {y : Nd} (hR : Right g) (hc : c < g.nodes.length) (h : y.kids = (g.nodes.getD c Nd.zero).kids)
    (hy : ∀ f k, stepMay (g.nodes.getD c Nd.zero) f (inB (rk g k)) = false) (hy2 : ∀ f inn, stepMay y f inn = false) : ∀ k, rk (g.turn c y) k = rk g k
  | 0 => rfl
  | k + 1 => by
    have ih := turn_rk hR hc h hy hy2 k
    apply ext_getD
    · rw [rk_length, rk_length, turn_rules]
    · intro i hi
      rw [rk_length, turn_rules] at hi
      rw [rk_next _ k i (by rw [turn_rules]; exact hi), rk_next g k i hi]
      have hbd := hR.body i hi
      have : comB (g.turn c y) (rk (g.turn c y) k) i = comB g (rk g k) i := by
        unfold comB
        rw [ih, turn_rules, turn_same hR hc h (inB (rk g k)) (fun f => hy f k) (fun f => hy2 f _) _ hbd.1 hbd.2]
      rw [this, ih]
end Go.Proofs.YtlbjmkljmhfjdaaGreat
namespace Go.Proofs.YtlbjmkljmhfjdaaGreat
open Go Go.RowKit Go.Maps
theorem own_blkT {w : World} {B e size n b : Nat} {v : Value} {xs : List Value} (h : w.ownsRow B e size v n xs) (hv : v.ownBlock = some b) : ∃ vs, Blk w b vs e ∧ n * size ≤ vs.size := by
  rcases h.2 with ⟨rfl, _⟩ | ⟨g, cap, cur, rfl, hbg, hgg, hn, hc, hs, rest⟩
  · cases hv
  · simp only [Value.ownBlock, Option.some.injEq] at hv
    subst hv
    exact ⟨cur, hgg, by rw [hs]; exact Nat.mul_le_mul_right _ hn⟩
theorem Blk.same_T {w : World} {b : Nat} {vs vs' : Array Value} {T T' : TypeId} (h : Blk w b vs T) (h' : Blk w b vs' T') : T = T' := by
  have e : some (Obj.cells vs T (0, 0)) = some (Obj.cells vs' T' (0, 0)) := h.symm.trans h'
  simp only [Option.some.injEq, Obj.cells.injEq] at e
  exact e.2.1
theorem wpList_store_mid2 {P : Program} {ops : Array Oper} {rest : List Oper} {op : Oper} {a : Act} {w : World} {Q : Exit → Act → World → Prop} (hgd : op.guard = none) (ty : TypeId) (x y : Operand) (ho : op.op = .store ty x y)
    (b o : Nat) (cells : Array Value) (hx : a.eval x = .pointer (some ⟨b, o, none⟩)) (hy : a.eval y = .agg cells)
    (ht : w.there b o cells.size) (hi : (P.info? ty).map (·.size) = some cells.size) (h1 : cells.all (·.oneCell') = true)
    (h : ∀ W, W = w.setCells b o cells.toList → wpList P ops Q rest (a.put op.dst undef) W) : wpList P ops Q (op :: rest) a w :=
  wpList_store_mid hgd ty x y ho b o cells hx hy ht hi h1 (h _ rfl)
theorem ncells_set : ∀ (l : List Nd) (c : Nat) (y : Nd), c < l.length → (ncells l).take (c * 9) ++ y.cells ++ (ncells l).drop (c * 9 + y.cells.length) = ncells (l.set c y)
  | [], c, y, h => by simp at h
  | x :: l, 0, y, _ => by
    simp only [ncells, Nat.zero_mul, List.take_zero, List.nil_append, List.set_cons_zero, Nat.zero_add]
    rw [show y.cells.length = x.cells.length from rfl, List.drop_left]
  | x :: l, c + 1, y, h => by
    have ih := ncells_set l c y (by simpa using h)
    simp only [ncells, List.set_cons_succ]
    rw [← ih]
    have hx : x.cells.length = 9 := rfl
    rw [List.take_append, List.drop_append, List.take_of_length_le (by rw [hx]; omega), List.drop_of_length_le (by rw [hx]; omega), hx]
    rw [show (c + 1) * 9 - 9 = c * 9 by omega, show (c + 1) * 9 + y.cells.length - 9 = c * 9 + y.cells.length by omega]
    simp [List.append_assoc]
/-- A node without kids stored into a grammar of one's own. -/
theorem Fresh.turn {w : World} {B g c : Nat} {h : Gr} {y : Nd} (f : Fresh w B h) (e : h.NA = some ⟨g, 0, none⟩) (hc : c < h.nodes.length) (hy : y.kids = []) (hy2 : y.A = none) (hy3 : y.cap = 0) :
    Fresh (w.setCells g (c * 9) y.cells) B (h.turn c y) ∧ Below B w (w.setCells g (c * 9) y.cells) ∧ w.grownBy (w.setCells g (c * 9) y.cells) (some g) := by
  have f2 := f.nodes
  rw [e] at f2
  obtain ⟨h1, h2⟩ := own_set (w := w) y.cells (c * 9) w _ f2 (by rw [ncells_length]; show c * 9 + 9 ≤ _; omega)
  rw [ncells_set _ _ _ hc] at h1
  obtain ⟨vs, k1, _⟩ := own_blkT (b := g) f.nodes (by rw [e]; rfl)
  have hgb : B ≤ g := (f.nodes.lt g (by rw [e]; rfl)).1
  refine ⟨⟨?_, ?_, fun x hx => ?_, f.rn, f.nn⟩, ?_, h2⟩
  · refine own_kept f.rules (fun k hk => h2.block k (f.rules.lt k hk).2 (fun e2 => ?_))
    simp only [Option.some.injEq] at e2
    subst e2
    obtain ⟨vs2, k2, _⟩ := own_blkT f.rules hk
    exact absurd (k1.same_T k2) (by decide)
  · show World.ownsRow _ B _ 9 (.slice h.NA (h.nodes.set c y).length h.nc) (h.nodes.set c y).length (ncells (h.nodes.set c y))
    rw [List.length_set, e]
    exact h1
  · rcases List.mem_or_eq_of_mem_set hx with hx | rfl
    · refine ⟨own_kept (f.kids x hx).1 (fun k hk => h2.block k ((f.kids x hx).1.lt k hk).2 (fun e2 => ?_)), (f.kids x hx).2⟩
      simp only [Option.some.injEq] at e2
      subst e2
      obtain ⟨vs2, k2, _⟩ := own_blkT (f.kids x hx).1 hk
      exact absurd (k1.same_T k2) (by decide)
    · rw [hy, hy2, hy3]
      exact ⟨World.ownsRow_nil _ _ _ _, fun _ => rfl⟩
  · exact (Below.refl B w).grown h2 (Nat.le_trans hgb (Nat.le_of_lt (f.nodes.lt g (by rw [e]; rfl)).2)) (fun k hk => by cases hk; exact hgb)
theorem Fresh.shape {w : World} {B : Nat} {h : Gr} (f : Fresh w B h) (h0 : 0 < h.nodes.length) : ∃ g, h.NA = some ⟨g, 0, none⟩ ∧ B ≤ g ∧ g < w.heap.size := by
  obtain ⟨g, cap, e, h1, _, _, h2⟩ := own_shape f.nodes h0
  simp only [Value.slice.injEq] at e
  exact ⟨g, e.1, h1, h2⟩
theorem Fresh.at_turn {w w' : World} {B c : Nat} {g h : Gr} {y : Nd} (f : Fresh w' B (h.turn c y)) (t : GTwin g h) (hg : Gr.At w g) (hy : y.kids = []) (hy2 : y.text.size ≤ 9223372036854775807) : Gr.At w' (h.turn c y) where
  rules := own_rules f.rules
  nodes := own_nodes f.nodes
  kids := fun x hx => by
    refine ⟨own_lies1 (f.kids x hx).1, (f.kids x hx).2, ?_⟩
    rcases List.mem_or_eq_of_mem_set hx with hx | rfl
    · obtain ⟨z, hz, A, c, rfl⟩ := t.mem hx
      exact (hg.kids z hz).2.2
    · rw [hy]; simp
  rl := by show h.rules.length ≤ _; rw [t.rules]; exact hg.rl
  nl := by rw [turn_len, t.len]; exact hg.nl
  rn := f.rn
  nn := f.nn
  texts := fun x hx => by
    rcases List.mem_or_eq_of_mem_set hx with hx | rfl
    · obtain ⟨z, hz, A, c, rfl⟩ := t.mem hx
      exact hg.texts z hz
    · exact hy2
  names := by show ∀ r ∈ h.rules, _; rw [t.rules]; exact hg.names
end Go.Proofs.YtlbjmkljmhfjdaaGreat
namespace Go.Proofs.YtlbjmkljmhfjdaaGreat
open Go Go.Proofs Go.RowKit Go.Lib Go.Maps
theorem none_kids {w : World} {x : Nd} (h : Nd.At w x) (e : x.A = none) : x.kids.length = 0 := by
  by_cases h0 : 0 < (ints x.kids).length
  · obtain ⟨b, o, e2, _⟩ := h.1 h0
    rw [e] at e2; cases e2
  · rw [ints_length] at h0; omega
theorem own_awayX {W W' : World} {B B' e e' z z' n n' : Nat} {v v' : Value} {xs xs' : List Value} (h : W.ownsRow B e z v n xs) (h' : W.ownsRow B' e' z' v' n' xs') (hT : e ≠ e') (hg : W.grownBy W' v'.ownBlock) : W'.ownsRow B e z v n xs := by
  refine own_kept h (fun k hk => hg.block k (h.lt k hk).2 (fun e2 => ?_))
  obtain ⟨vs, k1, _⟩ := own_blkT h hk
  obtain ⟨vs2, k2, _⟩ := own_blkT h' (b := k) (by first | exact e2 | exact e2.symm)
  exact hT (k1.same_T k2)
set_option maxRecDepth 100000 in
set_option maxHeartbeats 4000000 in
theorem lentNode_any (x : Nd) (hl : x.kids.length ≤ 100000) (w : World) (h : Nd.At w x) :
    Calls Tryz.prog 149 #[x.val] w fun e w' => ∃ A' c', e = .returned (x.at_ A' c').val ∧ w'.ownsRow w.heap.size 3 1 (.slice A' (x.kids.length + 12) c') (x.kids.length + 12) (ints x.kids ++ marks 12) ∧ Below w.heap.size w w' := by
  have CI := Lib.hid (fun (w' : World) (b : Below w.heap.size w w') => lentints_any x.A x.cap x.kids.length x.kids rfl hl (fun e => ⟨none_kids h e, h.2.1 e⟩) w' (h.below b).1)
  clear h hl
  go_enter Tryz.func149, Tryz.ntmps149
  go_wp2_with (first | (go_at_call 121; refine (CI.out _ (B2 _ _ _)).mono ?_; rintro e w1 ⟨A1, c1, rfl, ho, hb⟩; have HO := Lib.hid (own_lower (base' := w.heap.size + 2) ho (by simp)); have KB := Lib.hid (((Blk.new w _ _).alloc _).below' hb); have KR := Lib.hid (by have := (Blk.new (w.alloc _) _ _).below' hb; rw [World.size_alloc] at this; exact this); have H1 := Lib.hid (bb (B2 w _ _) hb); clear ho hb) | (refine wpList_store_blk rfl 38 (.tmp 6) (.tmp 5) rfl w.heap.size 8 _ rfl rfl rfl 40 _ KB.out (by first | simp | (show 8 < 9; omega)) (by kernel_rfl) (x.at_ A1 c1).cells.toArray rfl ?_; intro w2 hk hg; have HO2 := Lib.hid (HO.out.kept hg (by have hlt := HO.out.lt; cases hv : Value.ownBlock (.slice A1 (x.kids.length + 12) c1) with | none => exact .inl rfl | some k => exact .inr (fun e => by have := (hlt k hv).1; cases e; omega))); have KR2 := Lib.hid (KR.out.grown hg (by intro e; have := Option.some.inj e; omega)); have H2 := Lib.hid (grown_below H1.out H1.out.size hg (fun k e => by cases e; omega)); have d0 := hk.cell 0; have d1 := hk.cell 1; have d2 := hk.cell 2; have d3 := hk.cell 3; have d4 := hk.cell 4; have d5 := hk.cell 5; have d6 := hk.cell 6; have d7 := hk.cell 7; have d8 := hk.cell 8; simp only [Nd.cells, List.getElem?_toArray, List.getElem?_cons_zero, List.getElem?_cons_succ] at d0 d1 d2 d3 d4 d5 d6 d7 d8; clear hk hg) | (refine wpList_store_whole rfl 40 (.tmp 2) (.tmp 7) rfl (w.heap.size + 1) (x.at_ A1 c1).cells.toArray rfl rfl 40 _ KR2.out (by kernel_rfl) (by rfl) (by simp [Nd.cells, Value.oneCell']) ?_; intro w3 hk hg; have K3 := Lib.hid hk; have HO3 := Lib.hid (HO2.out.kept hg (by have hlt := HO2.out.lt; cases hv : Value.ownBlock (.slice A1 (x.kids.length + 12) c1) with | none => exact .inl rfl | some k => exact .inr (fun e => by have := (hlt k hv).1; cases e; omega))); have H3 := Lib.hid (grown_below H2.out H2.out.size hg (fun k e => by cases e; omega)); clear hk hg d0 d1 d2 d3 d4 d5 d6 d7 d8))
  exact bodyPost_ret (results_cell_row rfl _ _ (w.heap.size + 1) 40 _ (0, 0) _ rfl K3.out Tryz.underlying40 rfl (by kernel_rfl)) rfl ⟨A1, c1, rfl, own_lower HO3.out (by omega), H3.out⟩
def mkR (i : Nat) : Rl := ⟨ByteArray.empty, mrk 1 i⟩
def marksR (j : Nat) : List Rl := (List.range j).map mkR
theorem marksR_next (j : Nat) : marksR (j + 1) = marksR j ++ [mkR j] := by simp [marksR, List.range_succ]
theorem marksR_len (j : Nat) : (marksR j).length = j := by simp [marksR]
def lmkN (i : Nat) : Nd := { Nd.zero with rule := mrk 1 i }
def marksN (j : Nat) : List Nd := (List.range j).map lmkN
theorem marksN_next (j : Nat) : marksN (j + 1) = marksN j ++ [lmkN j] := by simp [marksN, List.range_succ]
theorem marksN_len (j : Nat) : (marksN j).length = j := by simp [marksN]
theorem rcells_apps : ∀ (a b : List Rl), rcells (a ++ b) = rcells a ++ rcells b
  | [], b => rfl
  | x :: a, b => by simp [rcells, rcells_apps a b]
set_option maxRecDepth 100000 in
theorem markRule_any (i : Nat) (hi : i < 12) (w : World) : Calls Tryz.prog 148 #[.int .i64 1, .int .i64 i] w fun e w' => e = .returned (.agg #[.string ByteArray.empty, .int .i64 (mrk 1 i)]) ∧ Below w.heap.size w w' := by
  have MK := Lib.hid (fun w' => show Calls Tryz.prog 184 #[.int .i64 1, .int .i64 (i : Nat)] w' fun e w'' => e = .returned (.int .i64 (mrk 1 i)) ∧ w'' = w' from xmark_any 1 i (by omega) (by omega) w')
  clear hi
  go_enter Tryz.func148, Tryz.ntmps148
  go_wp2_with (first | (go_at_call 184; (with_reducible refine (MK.out _).mono ?_); rintro e w3 ⟨rfl, rfl⟩) | (refine wpList_store_whole rfl 124 (.tmp 4) (.tmp 8) rfl w.heap.size #[.string ByteArray.empty, .int .i64 (mrk 1 i)] rfl rfl 124 _ (Blk.new _ _ _) (by kernel_rfl) (by rfl) (by simp [Value.oneCell']) ?_; intro w2 hk hg; have K2 := Lib.hid hk; have H2 := Lib.hid (grown_below (B1 w _) (by simp) hg (fun k e => by cases e; exact Nat.le_refl _)); clear hk hg))
  exact bodyPost_ret (results_cell_row rfl _ _ w.heap.size 124 _ (0, 0) _ rfl K2.out Tryz.underlying124 rfl (by kernel_rfl)) rfl ⟨rfl, H2.out⟩
set_option maxRecDepth 100000 in
theorem markNode_any (i : Nat) (hi : i < 12) (w : World) : Calls Tryz.prog 150 #[.int .i64 1, .int .i64 i] w fun e w' => e = .returned (lmkN i).val ∧ Below w.heap.size w w' := by
  have MK := Lib.hid (fun w' => show Calls Tryz.prog 184 #[.int .i64 1, .int .i64 (i : Nat)] w' fun e w'' => e = .returned (.int .i64 (mrk 1 i)) ∧ w'' = w' from xmark_any 1 i (by omega) (by omega) w')
  clear hi
  go_enter Tryz.func150, Tryz.ntmps150
  go_wp2_with (first | (go_at_call 184; (with_reducible refine (MK.out _).mono ?_); rintro e w3 ⟨rfl, rfl⟩) | (refine wpList_store_whole rfl 40 (.tmp 4) (.tmp 8) rfl w.heap.size (lmkN i).cells.toArray rfl rfl 40 _ (Blk.new _ _ _) (by kernel_rfl) (by rfl) (by simp [Nd.cells, Value.oneCell']) ?_; intro w2 hk hg; have K2 := Lib.hid hk; have H2 := Lib.hid (grown_below (B1 w _) (by simp) hg (fun k e => by cases e; exact Nat.le_refl _)); clear hk hg))
  exact bodyPost_ret (results_cell_row rfl _ _ w.heap.size 40 _ (0, 0) _ rfl K2.out Tryz.underlying40 rfl (by kernel_rfl)) rfl ⟨rfl, H2.out⟩
end Go.Proofs.YtlbjmkljmhfjdaaGreat

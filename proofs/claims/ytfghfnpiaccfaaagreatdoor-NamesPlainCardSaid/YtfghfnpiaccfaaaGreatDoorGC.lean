/- append onto a row of the call's own, as one step of a region that draws its order. Nothing here speaks of one program. -/
import Derived.Test.YtfghfnpiaccfaaaGreatDoorGB
import Derived.Deep.RegionLaw
import Derived.Laws.OwnMore
import Derived.OwnWalk
import Derived.OrdersHeld
import Derived.Deep.RegionHeldLaw
import Derived.Deep.CutRange
set_option linter.unusedSimpArgs false
set_option linter.unusedVariables false
namespace Go.Proofs.YtfghfnpiaccfaaaGreatDoor
open Go
theorem step_append_own {P : Program} {ops : Array Oper} {o : Oper} {a : Act} {w : World} {K : Act → World → Prop} {Q : Exit → Act → World → Prop} {E : Prop}
    (hg : o.guard = none) (s x : Operand) (t : TypeId) (hop : o.op = Op.call { callee := Callee.builtin Builtin.append, args := #[s, x], argTypes := #[t, t] })
    (base : Nat) (e : TypeId) (i : TypeInfo) (z : Value) (size bytes : Nat) (h1 : P.underlying t = some (.slice e)) (h2 : P.info? e = some i) (h3 : i.zero = some z) (h4 : i.size = size) (h5 : i.bytes = bytes) (h6 : z.cells.size = size) (h7 : 0 < size)
    (v : Value) (n : Nat) (xs : List Value) (hs : a.eval s = v) (hown : w.ownsRow base e size v n xs)
    (ad : Addr) (m c : Nat) (news : List Value) (hx : a.eval x = .slice (some ad) m c) (hn : news.length = m * size) (hc : ∀ j u, news[j]? = some u → w.cell? (ad.add j) = some u) (h1c : ∀ u ∈ news, u.oneCell' = true)
    (b1 : n + m ≤ maxLen) (b2 : (n + m) * bytes ≤ 140737488355328) (hbase : base ≤ w.heap.size)
    (hK : ∀ v' w', w'.ownsRow base e size v' (n + m) (xs ++ news) → w.grownBy w' v.ownBlock → (∀ k, v'.ownBlock = some k → v.ownBlock = some k ∨ w.heap.size ≤ k) → K (a.put o.dst v') w') :
    if Region.wanted o (yielded ops a.tmps) = true then Oper.wp P o a w K Q else E := by
  have hw : Region.wanted o (yielded ops a.tmps) = true := by simp [Region.wanted, hg]
  rw [if_pos hw]
  obtain ⟨v', w', hrun, r1, r2, r3⟩ := run_append_onto (P := P) w base t o.type e i z size bytes h1 h2 h3 h4 h5 h6 h7 v n xs hown (some ad) m c news hn (fun a ha => by cases ha; exact hc) (fun h => by cases h) h1c b1 b2 hbase
  unfold Oper.wp
  simp [execOp, hop, resolve, invoke, builtin, hs, hx, hrun, Result.andThen]
  exact hK v' w' r1 r2 r3
theorem step_append_blk {P : Program} {ops : Array Oper} {o : Oper} {a : Act} {w : World} {K : Act → World → Prop} {Q : Exit → Act → World → Prop} {E : Prop}
    (hg : o.guard = none) (s x : Operand) (t : TypeId) (hop : o.op = Op.call { callee := Callee.builtin Builtin.append, args := #[s, x], argTypes := #[t, t] })
    (base : Nat) (e : TypeId) (i : TypeInfo) (z : Value) (size bytes : Nat) (h1 : P.underlying t = some (.slice e)) (h2 : P.info? e = some i) (h3 : i.zero = some z) (h4 : i.size = size) (h5 : i.bytes = bytes) (h6 : z.cells.size = size) (h7 : 0 < size)
    (v : Value) (n : Nat) (xs : List Value) (hs : a.eval s = v) (hown : w.ownsRow base e size v n xs)
    (B m c : Nat) (hx : a.eval x = .slice (some ⟨B, 0, none⟩) m c) (vs : Array Value) (hB : w.heap[B]? = some (.cells vs e (0, 0))) (hn : vs.size = m * size) (h1c : vs.all (·.oneCell') = true)
    (b1 : n + m ≤ maxLen) (b2 : (n + m) * bytes ≤ 140737488355328) (hbase : base ≤ w.heap.size)
    (hK : ∀ v' w', w'.ownsRow base e size v' (n + m) (xs ++ vs.toList) → w.grownBy w' v.ownBlock → (∀ k, v'.ownBlock = some k → v.ownBlock = some k ∨ w.heap.size ≤ k) → K (a.put o.dst v') w') :
    if Region.wanted o (yielded ops a.tmps) = true then Oper.wp P o a w K Q else E := by
  refine step_append_own hg s x t hop base e i z size bytes h1 h2 h3 h4 h5 h6 h7 v n xs hs hown ⟨B, 0, none⟩ m c vs.toList hx (by simpa using hn) (fun j u hu => ?_) (fun u hu => ?_) b1 b2 hbase hK
  · rw [Addr.add_lit, Nat.zero_add]
    simp only [World.cell?, hB]
    simpa using hu
  · have := Array.all_eq_true'.1 h1c u (by simpa using hu)
    exact this
end Go.Proofs.YtfghfnpiaccfaaaGreatDoor
namespace Go.Proofs.YtfghfnpiaccfaaaGreatDoor
open Go Go.RowKit Go.Maps
/-- A row: what its things are, how many cells each has, where it lies, how many they are, their cells. -/
structure Rw where
  e : Nat
  size : Nat
  v : Value
  n : Nat
  xs : List Value
structure Rws (w : World) (base tb : Nat) (rs : List Rw) : Prop where
  own : ∀ r ∈ rs, w.ownsRow base r.e r.size r.v r.n r.xs
  sep : rs.Pairwise fun a b => ∀ k, a.v.ownBlock = some k → b.v.ownBlock ≠ some k
  ntb : ∀ r ∈ rs, r.v.ownBlock ≠ some tb
  tl : tb < w.heap.size
theorem Rws.below {w w' : World} {base tb : Nat} {rs : List Rw} (h : Rws w base tb rs) (hb : Below w.heap.size w w') : Rws w' base tb rs :=
  ⟨fun r hr => own_below (h.own r hr) hb, h.sep, h.ntb, Nat.lt_of_lt_of_le h.tl hb.size⟩
theorem Rws.tbset {w : World} {base tb : Nat} {rs : List Rw} (h : Rws w base tb rs) (j : Nat) (v : Value) : Rws (w.setCell ⟨tb, j, none⟩ v) base tb rs :=
  ⟨fun r hr => own_kept (h.own r hr) (fun k hk => heap_setCell_other w ⟨tb, j, none⟩ k v (fun e => h.ntb r hr (by rw [hk, e]))), h.sep, h.ntb, by have := h.tl; simpa using this⟩
theorem Rws.upd {w w' : World} {base tb : Nat} {A B : List Rw} {r r' : Rw} (h : Rws w base tb (A ++ r :: B)) (hg : w.grownBy w' r.v.ownBlock) (ho : w'.ownsRow base r'.e r'.size r'.v r'.n r'.xs) (hv : ∀ k, r'.v.ownBlock = some k → r.v.ownBlock = some k ∨ w.heap.size ≤ k) : Rws w' base tb (A ++ r' :: B) := by
  obtain ⟨h1, h2, h3, h4⟩ := h
  obtain ⟨s1, s2, s3⟩ := List.pairwise_append.1 h2
  obtain ⟨s4, s5⟩ := List.pairwise_cons.1 s2
  have lt : ∀ s ∈ A ++ r :: B, ∀ k, s.v.ownBlock = some k → k < w.heap.size := fun s hs k e => ((h1 s hs).lt k e).2
  have hr : r ∈ A ++ r :: B := by simp
  refine ⟨fun s hs => ?_, List.pairwise_append.2 ⟨s1, List.pairwise_cons.2 ⟨fun b hb k e => ?_, s5⟩, fun a ha b hb k e => ?_⟩, fun s hs => ?_, Nat.lt_of_lt_of_le h4 hg.size⟩
  · rcases List.mem_append.1 hs with hs | hs
    · refine own_kept (h1 s (by simp [hs])) (fun k hk => hg.block k (lt s (by simp [hs]) k hk) (fun e => s3 s hs r (by simp) k hk e.symm))
    · rcases List.mem_cons.1 hs with rfl | hs
      · exact ho
      · exact own_kept (h1 s (by simp [hs])) (fun k hk => hg.block k (lt s (by simp [hs]) k hk) (fun e => s4 s hs k e.symm hk))
  · rcases hv k e with e' | e'
    · exact s4 b hb k e'
    · intro e2; have := lt b (by simp [hb]) k e2; omega
  · rcases List.mem_cons.1 hb with rfl | hb
    · intro e2
      rcases hv k e2 with e' | e'
      · exact s3 a ha r (by simp) k e e'
      · have := lt a (by simp [ha]) k e; omega
    · exact s3 a ha b (by simp [hb]) k e
  · rcases List.mem_append.1 hs with hs | hs
    · exact h3 s (by simp [hs])
    · rcases List.mem_cons.1 hs with rfl | hs
      · intro e2
        rcases hv tb e2 with e' | e'
        · exact h3 r hr e'
        · omega
      · exact h3 s (by simp [hs])
theorem Rws.push {w : World} {base tb : Nat} {rs : List Rw} (h : Rws w base tb rs) (e size : Nat) : Rws w base tb (rs ++ [⟨e, size, .slice none 0 0, 0, []⟩]) := by
  refine ⟨fun r hr => ?_, List.pairwise_append.2 ⟨h.sep, by simp, fun a ha b hb k _ => ?_⟩, fun r hr => ?_, h.tl⟩
  · rcases List.mem_append.1 hr with hr | hr
    · exact h.own r hr
    · obtain rfl := List.mem_singleton.1 hr
      exact World.ownsRow_nil _ _ _ _
  · obtain rfl := List.mem_singleton.1 hb
    simp [Value.ownBlock]
  · rcases List.mem_append.1 hr with hr | hr
    · exact h.ntb r hr
    · obtain rfl := List.mem_singleton.1 hr
      simp [Value.ownBlock]
/-- A store into a cell of a row. -/
theorem Rws.cell {w : World} {base tb : Nat} {A B : List Rw} {r : Rw} {g : Nat} (h : Rws w base tb (A ++ r :: B)) (hg : r.v.ownBlock = some g) (o : Nat) (u : Value) :
    Rws (w.setCell ⟨g, o, none⟩ u) base tb (A ++ { r with xs := r.xs.set o u } :: B) := by
  have ho := h.own r (by simp)
  obtain ⟨Ar, c, e, _, _⟩ := own_slice ho
  obtain ⟨g', hA⟩ : ∃ g', Ar = some ⟨g', 0, none⟩ := by
    rcases ho.2 with ⟨h1, _⟩ | ⟨g', cap, cur, h1, _⟩
    · rw [h1] at hg; cases hg
    · rw [e] at h1; simp only [Value.slice.injEq] at h1; exact ⟨g', h1.1⟩
  subst hA
  rw [e] at ho hg
  simp only [Value.ownBlock, Option.some.injEq] at hg
  subst hg
  obtain ⟨q1, q2⟩ := ho.stored o u
  refine h.upd (by rw [e]; exact q2) (by show World.ownsRow _ _ _ _ r.v _ _; rw [e]; exact q1) (fun k hk => .inl hk)
/-- A node that was laid: what it says, its kids and where they lie. -/
structure Nw where
  x : Px
  kids : List Nat
  A : Option Addr
  cap : Nat
def numv (l : List Nat) : List Value := l.map fun (k : Nat) => Value.int .i64 ((k : Nat) : Int)
abbrev Nw.kv (y : Nw) : Value := .slice y.A y.kids.length y.cap
def Nw.cells (y : Nw) : List Value := [.int .i64 y.x.kind, .int .u64 (cw y.x.cls 0), .int .u64 (cw y.x.cls 1), .int .u64 (cw y.x.cls 2), .int .u64 (cw y.x.cls 3), .string (bsv y.x.text), .int .i64 0, .int .i64 y.x.lev, y.kv]
def ncl (NL : List Nw) : List Value := NL.flatMap Nw.cells
def krow (y : Nw) : Rw := ⟨3, 1, y.kv, y.kids.length, numv y.kids⟩
theorem ncl_length (NL : List Nw) : (ncl NL).length = NL.length * 9 := by
  induction NL with
  | nil => rfl
  | cons y NL ih => unfold ncl at ih ⊢; rw [List.flatMap_cons, List.length_append, ih]; simp [Nw.cells]; omega
theorem ncl_app (a b : List Nw) : ncl (a ++ b) = ncl a ++ ncl b := by unfold ncl; simp
/-- Where each part of a row of them comes to stand, if the first stands at n; what stands from there on. -/
def roots (n : Nat) : Fr → List Nat
  | .nil => []
  | .cons _ ks r => n :: roots (n + 1 + ks.nodes) r
def flat (n : Nat) : Fr → List (Px × List Nat)
  | .nil => []
  | .cons x ks r => (x, roots (n + 1) ks) :: (flat (n + 1) ks ++ flat (n + 1 + ks.nodes) r)
theorem flat_length : ∀ (F : Fr) (n : Nat), (flat n F).length = F.nodes
  | .nil, _ => rfl
  | .cons x ks r, n => by simp only [flat, Fr.nodes, List.length_cons, List.length_append, flat_length ks, flat_length r]; omega
def said (NL : List Nw) : List (Px × List Nat) := NL.map fun y => (y.x, y.kids)
theorem said_app (a b : List Nw) : said (a ++ b) = said a ++ said b := by unfold said; simp
end Go.Proofs.YtfghfnpiaccfaaaGreatDoor
namespace Go.Proofs.YtfghfnpiaccfaaaGreatDoor
open Go
section
variable {P : Program} {ops : Array Oper} {Q : Exit → Act → World → Prop} {md : Region.Mode} {S : World → Prop} {stop : List Nat}
/-- Has one of these come up? -/
def late (stop : List Nat) (ls : Array Bool) : Bool := stop.any fun j => ls.getD j false
def wpUntil (P : Program) (md : Region.Mode) (ops : Array Oper) (Q : Exit → Act → World → Prop) (S : World → Prop) (stop : List Nat) : Nat → Array Bool → Act → World → Prop
  | 0, ls, a, w => Region.ready md ops ls = [] ∧ Q .normal a w
  | n + 1, ls, a, w => (Region.ready md ops ls = [] → Q .normal a w) ∧ ∀ i, i ∈ Region.ready md ops ls → wpOp P ops Q i (fun b u => (S u ∨ late stop (ls.setIfInBounds i true) = true) ∧ wpUntil P md ops Q S stop n (ls.setIfInBounds i true) b u) a w
theorem until_any : ∀ (n : Nat) (ls : Array Bool) (a : Act) (w : World), wpUntil P md ops Q S stop n ls a w → wpAny P md ops Q n ls a w
  | 0, _, _, _, h => h
  | n + 1, _, _, _, h => ⟨h.1, fun i hi => wpOp_mono (fun _ _ k => until_any n _ _ _ k.2) (h.2 i hi)⟩
theorem late_set {ls : Array Bool} (i : Nat) (h : late stop ls = true) : late stop (ls.setIfInBounds i true) = true := by
  unfold late at *
  obtain ⟨j, hj, hl⟩ := List.any_eq_true.1 h
  exact List.any_eq_true.2 ⟨j, hj, getD_set_true hl⟩
theorem late_other {ls : Array Bool} {i : Nat} (hi : i ∉ stop) (h : late stop ls = false) : late stop (ls.setIfInBounds i true) = false := by
  unfold late at *
  rw [List.any_eq_false] at h ⊢
  intro j hj
  have : i ≠ j := fun e => hi (e ▸ hj)
  rw [getD_set_ne false this]
  exact h j hj
/-- Does each of these wait for operation i? -/
def waitB (md : Region.Mode) (ops : Array Oper) (stop : List Nat) (i : Nat) : Bool := stop.all fun j => match ops[j]? with | some o => o.after.any fun e => Region.binds md e && e.on == i | none => true
theorem until_first {T : World → Prop} {i : Nat} {oi : Oper} {v : Value} (hi : ops[i]? = some oi) (hns : Region.noSelect ops = true) (hQ : ∀ c a w, Q (.panic c) (a.put oi.dst v) w → Q (.panic c) a w)
    (hST : ∀ u, S u → T u) (his : i ∉ stop) : ∀ (n : Nat) (ls : Array Bool) (a : Act) (w : World),
    (∀ j oj, ops[j]? = some oj → j ≠ i → ls.getD j true = false → (∀ e ∈ oj.after, Region.binds md e = true → e.on ≠ i) → oi.apart ops oj = true) → i ∈ Region.ready md ops ls → YieldsIf P ops T oi v a →
    ((∀ u, T u) ∨ (waitB md ops stop i = true ∧ late stop ls = false)) → (S w ∨ late stop ls = true) → T w →
    wpUntil P md ops Q S stop n (ls.setIfInBounds i true) (a.put oi.dst v) w → wpUntil P md ops Q S stop (n + 1) ls a w := by
  intro n
  induction n with
  | zero =>
    intro ls a w hf hr hy hA hS hTw H
    constructor
    · intro h; rw [h] at hr; cases hr
    · intro j hj
      by_cases e : j = i
      · subst e; exact hy.wpOp hi hTw ⟨hS.imp id (late_set j), H⟩
      · have := ready_mono hj e
        rw [H.1] at this; cases this
  | succ n ih =>
    intro ls a w hf hr hy hA hS hTw H
    constructor
    · intro h; rw [h] at hr; cases hr
    · intro j hj
      by_cases e : j = i
      · subst e; exact hy.wpOp hi hTw ⟨hS.imp id (late_set j), H⟩
      · obtain ⟨hun, oj, hoj, hall⟩ := mem_ready.1 hj
        have hi0 := (mem_ready.1 hr).1
        have hno : ∀ ed ∈ oj.after, Region.binds md ed = true → ed.on ≠ i := by
          intro ed he hb hon
          have h1 := hall ed he hb
          rw [hon] at h1
          rcases Nat.lt_or_ge i ls.size with h' | h'
          · simp [h'] at hi0 h1; rw [hi0] at h1; cases h1
          · simp [Array.getElem?_eq_none h'] at h1
        have hjs : waitB md ops stop i = true → j ∉ stop := by
          intro h' h
          have := List.all_eq_true.1 h' j h
          rw [hoj] at this
          simp only [Array.any_eq_true', Bool.and_eq_true, beq_iff_eq] at this
          obtain ⟨ed, he, hb, hon⟩ := this
          exact hno ed he hb hon
        have key := wpOp_putIf hoj (hf j oj hoj e hun hno) (fun cs b => Region.noSelect_spec hns i oi cs b hi) (fun cs b => Region.noSelect_spec hns j oj cs b hoj) hQ hy (H.2 j (ready_mono hj e))
        refine wpOp_mono (fun b u hk => ?_) key
        obtain ⟨hy', hS', hrest⟩ := hk
        have hls : ∀ k, (ls.setIfInBounds j true).getD k true = false → ls.getD k true = false := fun k hk => by
          by_cases ejk : j = k
          · subst ejk; exact hun
          · rwa [getD_set_ne true ejk] at hk
        have hS2 : S u ∨ late stop (ls.setIfInBounds j true) = true := by
          rcases hS' with h | h
          · exact .inl h
          · rw [Array.setIfInBounds_comm _ _ (Ne.symm e)] at h
            refine .inr ?_
            cases hq : late stop (ls.setIfInBounds j true) with
            | true => rfl
            | false => rw [late_other his hq] at h; cases h
        rw [Array.setIfInBounds_comm _ _ (Ne.symm e)] at hrest
        refine ⟨hS2, ih _ b u (fun k ok hk hki hun' hno' => hf k ok hk hki (hls k hun') hno') (ready_mono hr (Ne.symm e)) hy' ?_ hS2 ?_ hrest⟩
        · exact hA.imp id fun ⟨hw, hl⟩ => ⟨hw, late_other (hjs hw) hl⟩
        · rcases hA with hA | ⟨hw, hl⟩
          · exact hA u
          · rcases hS2 with h | h
            · exact hST u h
            · rw [late_other (hjs hw) hl] at h; cases h
theorem until_take {i : Nat} {oi : Oper} {v : Value} {n : Nat} {ls : Array Bool} {a : Act} {w : World} (d : Option Tmp) (hi : ops[i]? = some oi) (hd : oi.dst = d) (hns : Region.noSelect ops = true) (hf : Region.free md ops ls i = true) (hr : (Region.ready md ops ls).contains i = true)
    (his : stop.contains i = false) (hA : (waitB md ops stop i && !late stop ls) = true) (hQ : ∀ c a w, Q (.panic c) (a.put oi.dst v) w → Q (.panic c) a w) (hy : YieldsIf P ops S oi v a) (hS : S w)
    (h : wpUntil P md ops Q S stop n (ls.setIfInBounds i true) (a.put d v) w) : wpUntil P md ops Q S stop (n + 1) ls a w := by
  subst hd
  simp only [Bool.and_eq_true, Bool.not_eq_true'] at hA
  exact until_first (T := S) hi hns hQ (fun _ h => h) (by simpa using his) n ls a w (Region.free_spec hi hf) (by simpa using hr) hy (.inr hA) (.inl hS) hS h
theorem until_pure {i : Nat} {oi : Oper} {v : Value} {n : Nat} {ls : Array Bool} {a : Act} {w : World} (d : Option Tmp) (hi : ops[i]? = some oi) (hd : oi.dst = d) (hns : Region.noSelect ops = true) (hf : Region.free md ops ls i = true) (hr : (Region.ready md ops ls).contains i = true)
    (his : stop.contains i = false) (hQ : ∀ c a w, Q (.panic c) (a.put oi.dst v) w → Q (.panic c) a w) (hg : oi.guard = none) (hy : ∀ u, (execOp a.eval oi).run P u = .ok (.value v) u) (hS : S w ∨ late stop ls = true)
    (h : wpUntil P md ops Q S stop n (ls.setIfInBounds i true) (a.put d v) w) : wpUntil P md ops Q S stop (n + 1) ls a w := by
  subst hd
  exact until_first (T := fun _ => True) hi hns hQ (fun _ _ => trivial) (by simpa using his) n ls a w (Region.free_spec hi hf) (by simpa using hr) (.inl ⟨by simp [Region.wanted, hg], fun u _ => hy u⟩) (.inl fun _ => trivial) hS trivial h
theorem until_step {rs : List Nat} {n : Nat} {ls : Array Bool} {a : Act} {w : World} (hr : Region.ready md ops ls = rs) (hne : rs ≠ [])
    (h : ∀ i, i ∈ rs → wpOp P ops Q i (fun b u => (S u ∨ late stop (ls.setIfInBounds i true) = true) ∧ wpUntil P md ops Q S stop n (ls.setIfInBounds i true) b u) a w) : wpUntil P md ops Q S stop (n + 1) ls a w :=
  ⟨fun h0 => absurd (hr ▸ h0) hne, hr ▸ h⟩
theorem until_done {ls : Array Bool} {a : Act} {w : World} (hr : Region.ready md ops ls = []) (h : Q .normal a w) : ∀ n, wpUntil P md ops Q S stop n ls a w
  | 0 => ⟨hr, h⟩
  | _ + 1 => ⟨fun _ => h, by rw [hr]; simp⟩
/-- The beginning: the cells stand in the world behind the draw. -/
theorem until_start {id : Nat} {a : Act} {w : World} (hm : P.follows .mixedOrders = true) (h : wpUntil P .any ops Q S stop ops.size (Array.replicate ops.size false) a w.drew) : (Code.region id ops true).wp P Q a w :=
  wp_region_any hm (until_any _ _ _ _ h)
/-- An operation that is carried out, by its own law. -/
theorem until_op {i : Nat} {o : Oper} {K : Act → World → Prop} {a : Act} {w : World} (hi : ops[i]? = some o) (hw : (if Region.wanted o (yielded ops a.tmps) = true then Oper.wp P o a w K Q else True) ) (hg : o.guard = none) : wpOp P ops Q i K a w := by
  unfold wpOp
  simp only [hi]
  have : Region.wanted o (yielded ops a.tmps) = true := by simp [Region.wanted, hg]
  rw [if_pos this] at hw
  rw [if_pos this]
  exact .inl hw
theorem until_run (i : Nat) {o : Oper} {K : Act → World → Prop} {a : Act} {w : World} (hi : ops[i]? = some o) (hg : o.guard = none) (h : ∀ K' : Act → World → Prop, (∀ b u, K b u → K' b u) → (if Region.wanted o (yielded ops a.tmps) = true then Oper.wp P o a w K' Q else True)) : wpOp P ops Q i K a w :=
  until_op hi (h K fun _ _ k => k) hg
end
end Go.Proofs.YtfghfnpiaccfaaaGreatDoor
namespace Go.Proofs.YtfghfnpiaccfaaaGreatDoor
open Go Go.RowKit Go.Maps
abbrev nzero : Array Value := #[.int .i64 0, .int .u64 0, .int .u64 0, .int .u64 0, .int .u64 0, .string ⟨#[]⟩, .int .i64 0, .int .i64 0, .slice none 0 0]
theorem Tryz.infoNode : (Tryz.prog.info? 48).map (fun i => (i.zero, i.size, i.bytes)) = some (some (.agg nzero), 9, 96) := by kernel_rfl
theorem Tryz.infoInt3 : (Tryz.prog.info? 3).map (fun i => (i.zero, i.size, i.bytes)) = some (some (.int .i64 0), 1, 8) := by kernel_rfl
theorem Tryz.infoStr9 : (Tryz.prog.info? 9).map (fun i => (i.zero, i.size, i.bytes)) = some (some (.string ⟨#[]⟩), 1, 16) := by kernel_rfl
theorem blk_new' (W : World) (vs : Array Value) (T B : Nat) (h : B = W.heap.size) : (W.alloc (.cells vs T)).heap[B]? = some (.cells vs T (0, 0)) := by subst h; exact Blk.new W vs T
def plv (l : List Nat) (NL : List Nw) : List Value := NL.map fun y => .int .i64 (beg l y.x.at_ : Nat)
def nmv (NL : List Nw) : List Value := NL.map fun y => .string (bsv y.x.name)
/-- The rows of a tree: those of its rules, and those of its nodes. -/
def trows (F : List Rw) (vn : Value) (n : Nat) (xn : List Value) (vp : Value) (mp : Nat) (xp : List Value) (vm : Value) (mm : Nat) (xm : List Value) (K : List Nw) : List Rw :=
  F ++ ⟨48, 9, vn, n, xn⟩ :: ⟨3, 1, vp, mp, xp⟩ :: ⟨9, 1, vm, mm, xm⟩ :: K.map krow
structure TrAt (l : List Nat) (w : World) (base tb : Nat) (vr vrp : Value) (F : List Rw) (vn vp vm : Value) (NL : List Nw) : Prop where
  lo : base ≤ tb
  blk : Blk w tb #[vr, vn, vrp, vp, vm] 36
  rows : Rws w base tb (trows F vn NL.length (ncl NL) vp NL.length (plv l NL) vm NL.length (nmv NL) NL)
/-- As a node is in its row, its place and its name not yet in theirs. -/
structure TrM (l : List Nat) (w : World) (base tb : Nat) (vr vrp : Value) (F : List Rw) (vn vp vm : Value) (NL : List Nw) (y : Nw) : Prop where
  lo : base ≤ tb
  blk : Blk w tb #[vr, vn, vrp, vp, vm] 36
  rows : Rws w base tb (trows F vn (NL.length + 1) (ncl (NL ++ [y])) vp NL.length (plv l NL) vm NL.length (nmv NL) (NL ++ [y]))
theorem TrAt.own_n {l : List Nat} {w : World} {base tb : Nat} {vr vrp : Value} {F : List Rw} {vn vp vm : Value} {NL : List Nw} (h : TrAt l w base tb vr vrp F vn vp vm NL) : w.ownsRow base 48 9 vn NL.length (ncl NL) := h.rows.own ⟨48, 9, vn, NL.length, ncl NL⟩ (by simp [trows])
theorem below_row {B : Nat} {w w' : World} {row : Option Nat} (hb : B ≤ w.heap.size) (hg : w.grownBy w' row) (hr : ∀ k, row = some k → B ≤ k) : Below B w w' :=
  ⟨hg.os, hg.tape, hg.output, hg.size, fun k hk => hg.block k (by omega) (fun e => by have := hr k e.symm; omega)⟩
theorem TrAt.node1 {l : List Nat} {w w' : World} {base tb : Nat} {vr vrp : Value} {F : List Rw} {vn vp vm v' : Value} {NL : List Nw} {o : Obj} (x : Px) (hB : base ≤ w.heap.size) (h : TrAt l w base tb vr vrp F vn vp vm NL) (hg : (w.alloc o).grownBy w' vn.ownBlock)
    (ho : w'.ownsRow base 48 9 v' (NL.length + 1) (ncl NL ++ Nw.cells ⟨x, [], none, 0⟩)) (hv : ∀ k, v'.ownBlock = some k → vn.ownBlock = some k ∨ (w.alloc o).heap.size ≤ k) :
    TrM l (w'.setCell ⟨tb, 1, none⟩ v') base tb vr vrp F v' vp vm NL ⟨x, [], none, 0⟩ ∧ Below base w (w'.setCell ⟨tb, 1, none⟩ v') := by
  have hn : vn.ownBlock ≠ some tb := h.rows.ntb ⟨48, 9, vn, NL.length, ncl NL⟩ (by simp [trows])
  have hk : Blk w' tb #[vr, vn, vrp, vp, vm] 36 := (h.blk.alloc o).grown hg (fun e => hn e.symm)
  have r1 := (h.rows.below (B1 w o)).upd (A := F) (r' := ⟨48, 9, v', NL.length + 1, ncl NL ++ Nw.cells ⟨x, [], none, 0⟩⟩) hg ho hv
  have r2 := (r1.tbset 1 v').push 3 1
  refine ⟨⟨h.lo, heap_setCell_same w' tb 1 _ 36 v' hk, ?_⟩, ?_⟩
  · have e : trows F v' (NL.length + 1) (ncl (NL ++ [⟨x, [], none, 0⟩])) vp NL.length (plv l NL) vm NL.length (nmv NL) (NL ++ [⟨x, [], none, 0⟩]) = (F ++ ⟨48, 9, v', NL.length + 1, ncl NL ++ Nw.cells ⟨x, [], none, 0⟩⟩ :: ⟨3, 1, vp, NL.length, plv l NL⟩ :: ⟨9, 1, vm, NL.length, nmv NL⟩ :: NL.map krow) ++ [⟨3, 1, .slice none 0 0, 0, []⟩] := by
      simp [trows, ncl_app, krow, numv, ncl, Nw.kv]
    rw [e]; exact r2
  · exact ((B1 w o).mono hB |>.trans (below_row (by simp; omega) hg (fun k e => by have := (h.own_n.lt k e).1; exact this))).setCell (p := ⟨tb, 1, none⟩) h.lo _
theorem TrAt.own_p {l : List Nat} {w : World} {base tb : Nat} {vr vrp : Value} {F : List Rw} {vn vp vm : Value} {NL : List Nw} (h : TrAt l w base tb vr vrp F vn vp vm NL) : w.ownsRow base 3 1 vp NL.length (plv l NL) := h.rows.own ⟨3, 1, vp, NL.length, plv l NL⟩ (by simp [trows])
theorem TrAt.own_m {l : List Nat} {w : World} {base tb : Nat} {vr vrp : Value} {F : List Rw} {vn vp vm : Value} {NL : List Nw} (h : TrAt l w base tb vr vrp F vn vp vm NL) : w.ownsRow base 9 1 vm NL.length (nmv NL) := h.rows.own ⟨9, 1, vm, NL.length, nmv NL⟩ (by simp [trows])
theorem app_keep {W W' : World} {row : Value} {base e e' size n b : Nat} {xs : List Value} {vs : Array Value} (ho : W.ownsRow base e size row n xs) (hg : W.grownBy W' row.ownBlock) (hne : e ≠ e') (hk : W.heap[b]? = some (.cells vs e' (0, 0))) : W'.heap[b]? = some (.cells vs e' (0, 0)) := by
  refine (hg.block b (Array.getElem?_eq_some_iff.1 hk).1 (fun h => ?_)).trans hk
  rcases ho.2 with ⟨h1, _⟩ | ⟨g, cap, cur, rfl, _, hgg, _⟩
  · subst h1; cases h
  · simp only [Value.ownBlock, Option.some.injEq] at h
    subst h
    rw [hk] at hgg
    simp only [Option.some.injEq, Obj.cells.injEq] at hgg
    exact hne hgg.2.1.symm
theorem bdr (w : World) : Below w.heap.size w w.drew := ⟨rfl, rfl, rfl, Nat.le_refl _, fun _ _ => rfl⟩
theorem bnext {w0 w : World} (h : Below w0.heap.size w0 w) (o : Obj) : Below w0.heap.size w0 (w.alloc o) := h.alloc h.size o
theorem bdrew' {w0 w : World} (h : Below w0.heap.size w0 w) : Below w0.heap.size w0 w.drew := bdrew1 h
theorem undrew {w w' : World} {r : Option Nat} (h : w.drew.grownBy w' r) : w.grownBy w' r := ⟨h.os, h.tape, h.output, h.size, h.block⟩
/-- The rows as places and names come to them. -/
abbrev PMr (F : List Rw) (vn : Value) (NL : List Nw) (y : Nw) (vp : Value) (mp : Nat) (xp : List Value) (vm : Value) (mm : Nat) (xm : List Value) : List Rw :=
  trows F vn (NL.length + 1) (ncl (NL ++ [y])) vp mp xp vm mm xm (NL ++ [y])
theorem updP {w w' : World} {base tb : Nat} {F : List Rw} {vn : Value} {NL : List Nw} {y : Nw} {vp vp' : Value} {mp mp' : Nat} {xp xp' : List Value} {vm : Value} {mm : Nat} {xm : List Value} (h : Rws w base tb (PMr F vn NL y vp mp xp vm mm xm)) (hg : w.grownBy w' vp.ownBlock) (ho : w'.ownsRow base 3 1 vp' mp' xp') (hv : ∀ k, vp'.ownBlock = some k → vp.ownBlock = some k ∨ w.heap.size ≤ k) :
    Rws w' base tb (PMr F vn NL y vp' mp' xp' vm mm xm) := by
  have := Rws.upd (A := F ++ [⟨48, 9, vn, NL.length + 1, ncl (NL ++ [y])⟩]) (r := ⟨3, 1, vp, mp, xp⟩) (r' := ⟨3, 1, vp', mp', xp'⟩) (B := ⟨9, 1, vm, mm, xm⟩ :: (NL ++ [y]).map krow) (by simpa [PMr, trows] using h) hg ho hv
  simpa [PMr, trows] using this
theorem updM {w w' : World} {base tb : Nat} {F : List Rw} {vn : Value} {NL : List Nw} {y : Nw} {vp : Value} {mp : Nat} {xp : List Value} {vm vm' : Value} {mm mm' : Nat} {xm xm' : List Value} (h : Rws w base tb (PMr F vn NL y vp mp xp vm mm xm)) (hg : w.grownBy w' vm.ownBlock) (ho : w'.ownsRow base 9 1 vm' mm' xm') (hv : ∀ k, vm'.ownBlock = some k → vm.ownBlock = some k ∨ w.heap.size ≤ k) :
    Rws w' base tb (PMr F vn NL y vp mp xp vm' mm' xm') := by
  have := Rws.upd (A := F ++ [⟨48, 9, vn, NL.length + 1, ncl (NL ++ [y])⟩, ⟨3, 1, vp, mp, xp⟩]) (r := ⟨9, 1, vm, mm, xm⟩) (r' := ⟨9, 1, vm', mm', xm'⟩) (B := (NL ++ [y]).map krow) (by simpa [PMr, trows] using h) hg ho hv
  simpa [PMr, trows] using this
theorem PMr.ownP {w : World} {base tb : Nat} {F : List Rw} {vn : Value} {NL : List Nw} {y : Nw} {vp : Value} {mp : Nat} {xp : List Value} {vm : Value} {mm : Nat} {xm : List Value} (h : Rws w base tb (PMr F vn NL y vp mp xp vm mm xm)) : w.ownsRow base 3 1 vp mp xp := h.own ⟨3, 1, vp, mp, xp⟩ (by simp [PMr, trows])
theorem PMr.ownM {w : World} {base tb : Nat} {F : List Rw} {vn : Value} {NL : List Nw} {y : Nw} {vp : Value} {mp : Nat} {xp : List Value} {vm : Value} {mm : Nat} {xm : List Value} (h : Rws w base tb (PMr F vn NL y vp mp xp vm mm xm)) : w.ownsRow base 9 1 vm mm xm := h.own ⟨9, 1, vm, mm, xm⟩ (by simp [PMr, trows])
theorem PMr.tbP {w w' : World} {base tb : Nat} {F : List Rw} {vn : Value} {NL : List Nw} {y : Nw} {vp : Value} {mp : Nat} {xp : List Value} {vm : Value} {mm : Nat} {xm : List Value} {vs : Array Value} {T : TypeId} (h : Rws w base tb (PMr F vn NL y vp mp xp vm mm xm)) (hg : w.grownBy w' vp.ownBlock) (hk : Blk w tb vs T) : Blk w' tb vs T :=
  hk.grown hg (fun e => h.ntb ⟨3, 1, vp, mp, xp⟩ (by simp [PMr, trows]) e.symm)
theorem PMr.tbM {w w' : World} {base tb : Nat} {F : List Rw} {vn : Value} {NL : List Nw} {y : Nw} {vp : Value} {mp : Nat} {xp : List Value} {vm : Value} {mm : Nat} {xm : List Value} {vs : Array Value} {T : TypeId} (h : Rws w base tb (PMr F vn NL y vp mp xp vm mm xm)) (hg : w.grownBy w' vm.ownBlock) (hk : Blk w tb vs T) : Blk w' tb vs T :=
  hk.grown hg (fun e => h.ntb ⟨9, 1, vm, mm, xm⟩ (by simp [PMr, trows]) e.symm)
def calm (Q : Exit → Act → World → Prop) : Exit → Act → World → Prop
  | .normal, a, w => Q .normal a w
  | _, _, _ => False
theorem calm_le (Q : Exit → Act → World → Prop) : ∀ e a w, calm Q e a w → Q e a w := by
  intro e a w h
  cases e <;> first | exact h | exact h.elim
theorem keepq {w W : World} {q : Nat} {u v : Value} (h1 : w.cell? ⟨q, 9, none⟩ = some u) (h2 : w.cell? ⟨q, 10, none⟩ = some v) (h : W.heap[q]? = w.heap[q]?) : W.cell? ⟨q, 9, none⟩ = some u ∧ W.cell? ⟨q, 10, none⟩ = some v :=
  ⟨by rw [← h1]; simp only [World.cell?, h], by rw [← h2]; simp only [World.cell?, h]⟩
theorem fin_rows {l : List Nat} {w : World} {base tb : Nat} {vr vrp : Value} {F : List Rw} {vn vP vM a3 a4 : Value} {NL : List Nw} {y : Nw} (hlo : base ≤ tb) (hk : Blk w tb #[vr, vn, vrp, a3, a4] 36)
    (h : Rws w base tb (PMr F vn NL y vP (NL.length + 1) (plv l NL ++ [.int .i64 (beg l y.x.at_ : Nat)]) vM (NL.length + 1) (nmv NL ++ [.string (bsv y.x.name)]))) :
    TrAt l ((w.setCell ⟨tb, 3, none⟩ vP).setCell ⟨tb, 4, none⟩ vM) base tb vr vrp F vn vP vM (NL ++ [y]) ∧ TrAt l ((w.setCell ⟨tb, 4, none⟩ vM).setCell ⟨tb, 3, none⟩ vP) base tb vr vrp F vn vP vM (NL ++ [y]) := by
  have e : trows F vn (NL ++ [y]).length (ncl (NL ++ [y])) vP (NL ++ [y]).length (plv l (NL ++ [y])) vM (NL ++ [y]).length (nmv (NL ++ [y])) (NL ++ [y]) = PMr F vn NL y vP (NL.length + 1) (plv l NL ++ [.int .i64 (beg l y.x.at_ : Nat)]) vM (NL.length + 1) (nmv NL ++ [.string (bsv y.x.name)]) := by
    simp [PMr, trows, plv, nmv]
  refine ⟨⟨hlo, heap_setCell_same _ tb 4 _ 36 vM (heap_setCell_same w tb 3 _ 36 vP hk), ?_⟩, ⟨hlo, heap_setCell_same _ tb 3 _ 36 vP (heap_setCell_same w tb 4 _ 36 vM hk), ?_⟩⟩
  · rw [e]; exact (h.tbset 3 vP).tbset 4 vM
  · rw [e]; exact (h.tbset 4 vM).tbset 3 vP
theorem laP {l : List Nat} {wc W w' : World} {base tb : Nat} {vr vrp : Value} {F : List Rw} {vn : Value} {NL : List Nw} {y : Nw} {vp v' : Value} {n n' : Nat} {xp xs : List Value} {vm : Value} {m : Nat} {xm : List Value} {vs : Array Value} (RW0 : Rws wc base tb (PMr F vn NL y vp n xp vm m xm)) (TB0 : Blk wc tb vs 36) (hbase : base ≤ wc.heap.size)
    (hb : Below wc.heap.size wc W) (hg : W.grownBy w' vp.ownBlock) (ho : w'.ownsRow base 3 1 v' n' xs) (hv : ∀ k, v'.ownBlock = some k → vp.ownBlock = some k ∨ W.heap.size ≤ k) : Rws w' base tb (PMr F vn NL y v' n' xs vm m xm) ∧ Blk w' tb vs 36 ∧ Below base wc w' ∧ base ≤ w'.heap.size :=
  ⟨updP (RW0.below hb) hg ho hv, PMr.tbP (RW0.below hb) hg (TB0.below' hb), (hb.mono hbase).trans (below_row (Nat.le_trans hbase hb.size) hg (fun k e => ((PMr.ownP RW0).lt k e).1)), Nat.le_trans hbase (Nat.le_trans hb.size hg.size)⟩
theorem laM {l : List Nat} {wc W w' : World} {base tb : Nat} {vr vrp : Value} {F : List Rw} {vn : Value} {NL : List Nw} {y : Nw} {vp : Value} {n : Nat} {xp : List Value} {vm v' : Value} {m n' : Nat} {xm xs : List Value} {vs : Array Value} (RW0 : Rws wc base tb (PMr F vn NL y vp n xp vm m xm)) (TB0 : Blk wc tb vs 36) (hbase : base ≤ wc.heap.size)
    (hb : Below wc.heap.size wc W) (hg : W.grownBy w' vm.ownBlock) (ho : w'.ownsRow base 9 1 v' n' xs) (hv : ∀ k, v'.ownBlock = some k → vm.ownBlock = some k ∨ W.heap.size ≤ k) : Rws w' base tb (PMr F vn NL y vp n xp v' n' xs) ∧ Blk w' tb vs 36 ∧ Below base wc w' ∧ base ≤ w'.heap.size :=
  ⟨updM (RW0.below hb) hg ho hv, PMr.tbM (RW0.below hb) hg (TB0.below' hb), (hb.mono hbase).trans (below_row (Nat.le_trans hbase hb.size) hg (fun k e => ((PMr.ownM RW0).lt k e).1)), Nat.le_trans hbase (Nat.le_trans hb.size hg.size)⟩
/-- What the region's loads read. -/
def Rd4 (tb q : Nat) (vp vm x9 x10 : Value) (w : World) : Prop := w.cell? ⟨tb, 3, none⟩ = some vp ∧ w.cell? ⟨tb, 4, none⟩ = some vm ∧ w.cell? ⟨q, 9, none⟩ = some x9 ∧ w.cell? ⟨q, 10, none⟩ = some x10
theorem Rd4.of {wc w : World} {base tb q : Nat} {a b c vp vm x9 x10 : Value} (hk : Blk w tb #[a, b, c, vp, vm] 36) (hb : Below base wc w) (hq : q < base) (hs : base ≤ wc.heap.size) (h : wc.cell? ⟨q, 9, none⟩ = some x9 ∧ wc.cell? ⟨q, 10, none⟩ = some x10) : Rd4 tb q vp vm x9 x10 w := by
  have e := hb.block q hq
  exact ⟨hk.cell 3, hk.cell 4, by rw [← h.1]; simp only [World.cell?, e], by rw [← h.2]; simp only [World.cell?, e]⟩
theorem set_below {B tb : Nat} {w0 w : World} (h : Below B w0 w) (hB : B ≤ tb) (j : Nat) (v : Value) : Below B w0 (w.setCell ⟨tb, j, none⟩ v) := h.setCell (p := ⟨tb, j, none⟩) hB _
theorem ncl_at (P E : List Nw) (y : Nw) : (ncl (P ++ y :: E))[P.length * 9 + 8]? = some y.kv := by
  have h := ncl_length P
  unfold ncl at h ⊢
  rw [List.flatMap_append, List.flatMap_cons, List.getElem?_append_right (by omega), h, List.getElem?_append_left (by simp [Nw.cells])]
  rw [show P.length * 9 + 8 - P.length * 9 = 8 by omega]
  rfl
theorem ncl_set (P E : List Nw) (y y' : Nw) (hx : y'.x = y.x) : (ncl (P ++ y :: E)).set (P.length * 9 + 8) y'.kv = ncl (P ++ y' :: E) := by
  have h := ncl_length P
  unfold ncl at h ⊢
  rw [List.flatMap_append, List.flatMap_cons, List.flatMap_append, List.flatMap_cons, List.set_append_right _ _ (by omega), h, show P.length * 9 + 8 - P.length * 9 = 8 by omega, List.set_append_left _ _ (by simp [Nw.cells])]
  simp [Nw.cells, hx]
theorem TrAt.nodesAt {l : List Nat} {w : World} {base tb : Nat} {vr vrp : Value} {F : List Rw} {vn vp vm : Value} {P E : List Nw} {y : Nw} (h : TrAt l w base tb vr vrp F vn vp vm (P ++ y :: E)) :
    ∃ g cap, vn = .slice (some ⟨g, 0, none⟩) (P ++ y :: E).length cap ∧ w.cell? ⟨g, P.length * 9 + 8, none⟩ = some y.kv ∧ w.frozen? ⟨g, P.length * 9 + 8, none⟩ = false ∧ w.ownsRow base 3 1 y.kv y.kids.length (numv y.kids) ∧ base ≤ g := by
  have ho := h.own_n
  rcases ho.2 with ⟨_, h2⟩ | ⟨g, cap, cur, h1, hb, hh, _⟩
  · simp at h2
  · subst h1
    refine ⟨g, cap, rfl, ?_, ?_, h.rows.own (krow y) (by simp [trows]), hb⟩
    · rw [ho.cellAt (P.length * 9 + 8) (by simp; omega), ncl_at]
    · simp only [World.frozen?, hh]; simp
/-- A kid more. -/
theorem TrAt.kid {l : List Nat} {w w' : World} {base tb g n cap m : Nat} {vr vrp : Value} {F : List Rw} {vp vm : Value} {P E : List Nw} {y : Nw} {A' : Option Addr} {c' : Nat} {o : Obj} (hnn : n = (P ++ y :: E).length) (h : TrAt l w base tb vr vrp F (.slice (some ⟨g, 0, none⟩) n cap) vp vm (P ++ y :: E)) (hB : base ≤ w.heap.size)
    (hg : (w.alloc o).grownBy w' y.kv.ownBlock) (ho : w'.ownsRow base 3 1 (.slice A' (y.kids.length + 1) c') (y.kids.length + 1) (numv y.kids ++ [.int .i64 (m : Int)])) (hv : ∀ k, (Value.slice A' (y.kids.length + 1) c').ownBlock = some k → y.kv.ownBlock = some k ∨ (w.alloc o).heap.size ≤ k) :
    TrAt l (w'.setCell ⟨g, P.length * 9 + 8, none⟩ (.slice A' (y.kids.length + 1) c')) base tb vr vrp F (.slice (some ⟨g, 0, none⟩) n cap) vp vm (P ++ ⟨y.x, y.kids ++ [m], A', c'⟩ :: E) ∧ Below base w (w'.setCell ⟨g, P.length * 9 + 8, none⟩ (.slice A' (y.kids.length + 1) c')) ∧ w'.cell? ⟨g, P.length * 9 + 8, none⟩ = some y.kv ∧ w'.frozen? ⟨g, P.length * 9 + 8, none⟩ = false := by
  have hrow : krow y ∈ trows F (.slice (some ⟨g, 0, none⟩) n cap) (P ++ y :: E).length (ncl (P ++ y :: E)) vp (P ++ y :: E).length (plv l (P ++ y :: E)) vm (P ++ y :: E).length (nmv (P ++ y :: E)) (P ++ y :: E) := by simp [trows]
  have hlt := fun k e => (h.rows.own _ hrow).lt k (show (krow y).v.ownBlock = some k from e)
  obtain ⟨N0, hN0⟩ : ∃ N0 : Rw, N0 = ⟨48, 9, .slice (some ⟨g, 0, none⟩) n cap, (P ++ y :: E).length, ncl (P ++ y :: E)⟩ := ⟨_, rfl⟩
  have r1 := Rws.upd (A := F ++ N0 :: ⟨3, 1, vp, (P ++ y :: E).length, plv l (P ++ y :: E)⟩ :: ⟨9, 1, vm, (P ++ y :: E).length, nmv (P ++ y :: E)⟩ :: P.map krow) (r := krow y) (r' := ⟨3, 1, .slice A' (y.kids.length + 1) c', y.kids.length + 1, numv y.kids ++ [.int .i64 (m : Int)]⟩) (B := E.map krow)
    (by have := h.rows.below (B1 w o); simpa [trows, hN0] using this) hg ho hv
  have r1' : Rws w' base tb (F ++ N0 :: (⟨3, 1, vp, (P ++ y :: E).length, plv l (P ++ y :: E)⟩ :: ⟨9, 1, vm, (P ++ y :: E).length, nmv (P ++ y :: E)⟩ :: (P.map krow ++ ⟨3, 1, .slice A' (y.kids.length + 1) c', y.kids.length + 1, numv y.kids ++ [.int .i64 (m : Int)]⟩ :: E.map krow))) := by simpa using r1
  have hn : w'.ownsRow base 48 9 (.slice (some ⟨g, 0, none⟩) (P ++ y :: E).length cap) (P ++ y :: E).length (ncl (P ++ y :: E)) := by
    have := r1'.own N0 (by simp)
    rw [hN0] at this
    rw [← hnn]
    rw [← hnn] at this
    exact this
  have hcell := hn.cellAt (P.length * 9 + 8) (by simp; omega)
  have hge := hn.lt g rfl
  have r2 := Rws.cell (g := g) r1' (by rw [hN0]; rfl) (P.length * 9 + 8) (.slice A' (y.kids.length + 1) c')
  have hk : Blk w' tb _ 36 := (h.blk.alloc o).grown hg (fun e => h.rows.ntb _ hrow e.symm)
  have hne : tb ≠ g := fun e => r1'.ntb N0 (by simp) (by rw [hN0, e]; rfl)
  refine ⟨⟨h.lo, (heap_setCell_other w' ⟨g, _, none⟩ tb _ hne).trans hk, ?_⟩, ?_, by rw [hcell, ncl_at], ?_⟩
  · have e1 := ncl_set P E y ⟨y.x, y.kids ++ [m], A', c'⟩ rfl
    have e2 : plv l (P ++ ⟨y.x, y.kids ++ [m], A', c'⟩ :: E) = plv l (P ++ y :: E) := by simp [plv]
    have e3 : nmv (P ++ ⟨y.x, y.kids ++ [m], A', c'⟩ :: E) = nmv (P ++ y :: E) := by simp [nmv]
    have e4 : (P ++ ⟨y.x, y.kids ++ [m], A', c'⟩ :: E).length = (P ++ y :: E).length := by simp
    rw [e2, e3, e4, ← e1]
    have e5 : (⟨y.x, y.kids ++ [m], A', c'⟩ : Nw).kv = .slice A' (y.kids.length + 1) c' := by simp [Nw.kv]
    rw [e5]
    have e6 : krow ⟨y.x, y.kids ++ [m], A', c'⟩ = ⟨3, 1, .slice A' (y.kids.length + 1) c', y.kids.length + 1, numv y.kids ++ [.int .i64 (m : Int)]⟩ := by simp [krow, numv, Nw.kv]
    simp only [trows, List.map_append, List.map_cons, e6]
    rw [hN0] at r2
    exact r2
  · exact set_below ((B1 w o).mono hB |>.trans (below_row (by simp; omega) hg (fun k e => (hlt k e).1))) hge.1 _ _
  · rcases hn.2 with ⟨h1, _⟩ | ⟨g', cap', cur, h1, _, hh, _⟩
    · cases h1
    · simp only [Value.slice.injEq, Option.some.injEq, Addr.mk.injEq] at h1
      obtain ⟨⟨rfl, _⟩, _⟩ := h1
      simp only [World.frozen?, hh]; simp
theorem roots_length : ∀ (F : Fr) (n : Nat), (roots n F).length ≤ F.nodes
  | .nil, _ => Nat.le_refl _
  | .cons x ks r, n => by simp only [roots, Fr.nodes, List.length_cons]; have := roots_length r (n + 1 + ks.nodes); omega
theorem cell_al {w : World} (o : Obj) {p : Addr} {u : Value} (h : w.cell? p = some u) (hl : p.block < w.heap.size) : (w.alloc o).cell? p = some u := by
  rw [← h]
  simp only [World.cell?, (B1 w o).block p.block hl]
theorem lay_meas {n a : Nat} (h : a < n) : n - (intOf (.int .i64 ((a + 1 : Nat) : Int))).toNat < n - (intOf (.int .i64 (a : Int))).toNat := by
  show n - ((a + 1 : Nat) : Int).toNat < n - (a : Int).toNat
  omega
theorem lay_rel {NL E E2 : List Nw} {x : Px} {k r K : Fr} {y : Nw} {kidx : List Nat} (h1 : roots (NL.length + 1) K = kidx ++ roots (NL.length + 1 + E.length) (.cons x k r)) (h2 : flat (NL.length + 1) K = said E ++ flat (NL.length + 1 + E.length) (.cons x k r)) (h3 : E.length + (Fr.cons x k r).nodes = K.nodes) (h : said E2 = flat (NL ++ y :: E).length (Pn.fr (x, k) .nil)) :
    roots (NL.length + 1) K = (kidx ++ [NL.length + (E.length + 1)]) ++ roots (NL.length + 1 + (E ++ E2).length) r ∧ flat (NL.length + 1) K = said (E ++ E2) ++ flat (NL.length + 1 + (E ++ E2).length) r ∧ (E ++ E2).length + r.nodes = K.nodes := by
  have e1 : (NL ++ y :: E).length = NL.length + 1 + E.length := by simp; omega
  rw [e1] at h
  have e3 : NL.length + (E.length + 1) = NL.length + 1 + E.length := by omega
  rw [e3]
  have hl : E2.length = 1 + k.nodes := by
    have := congrArg List.length h
    rw [flat_length] at this
    simpa [said, Pn.fr, Fr.nodes] using this
  have e2 : NL.length + 1 + (E ++ E2).length = NL.length + 1 + E.length + 1 + k.nodes := by simp [hl]; omega
  rw [e2]
  simp only [Pn.fr, flat, List.append_nil] at h
  refine ⟨by rw [h1]; simp [roots], by rw [h2, said_app, h]; simp [flat], ?_⟩
  simp only [Fr.nodes] at h3
  simp only [List.length_append, hl]
  omega
set_option maxRecDepth 100000 in
set_option maxHeartbeats 8000000 in
theorem lay_any (l : List Nat) (base tb : Nat) (vr vrp : Value) (F : List Rw) (wp : World) (lo : Nat) (hwp : wp.heap.size ≤ base) : ∀ (sz : Nat) (p : Pn) (q : Nat) (vn vp vm : Value) (NL : List Nw), p.2.nodes < sz → NL.length + (1 + p.2.nodes) ≤ 1000000 → PtAt wp lo l p q →
    ∀ w, base ≤ w.heap.size → Below wp.heap.size wp w → TrAt l w base tb vr vrp F vn vp vm NL →
    Calls Tryz.prog 94 #[.pointer (some ⟨tb, 0, none⟩), .pointer (some ⟨q, 0, none⟩)] w fun e w' => e = .returned (.int .i64 (NL.length : Nat)) ∧ Below base w w' ∧ ∃ vn' vp' vm' E, TrAt l w' base tb vr vrp F vn' vp' vm' (NL ++ E) ∧ said E = flat NL.length (p.fr .nil)
  | 0, p, q, vn, vp, vm, NL, h, _, _ => by omega
  | sz + 1, p, q, vn, vp, vm, NL, hsz, hnl, hP => fun w hB hwb hT => by
    have IH := Lib.hid (lay_any l base tb vr vrp F wp lo hwp sz)
    obtain ⟨An, cn, rfl, _, hcn⟩ := own_slice hT.own_n
    obtain ⟨Ap, cp, rfl, _, hcp⟩ := own_slice hT.own_p
    obtain ⟨Am, cm, rfl, _, hcm⟩ := own_slice hT.own_m
    obtain ⟨q', rest, Ak, capk, kqs, e, hql, hq, hck, hPk, hFk, _⟩ := hP
    simp only [List.cons.injEq] at e
    obtain ⟨rfl, rfl⟩ := e
    obtain ⟨i9, hi9, e9⟩ := Option.map_eq_some_iff.1 Tryz.infoNode
    simp only [Prod.mk.injEq] at e9
    obtain ⟨hz90, hz91, hz92⟩ := e9
    obtain ⟨i3, hi3, e3⟩ := Option.map_eq_some_iff.1 Tryz.infoInt3
    simp only [Prod.mk.injEq] at e3
    obtain ⟨hz30, hz31, hz32⟩ := e3
    obtain ⟨iS, hiS, eS⟩ := Option.map_eq_some_iff.1 Tryz.infoStr9
    simp only [Prod.mk.injEq] at eS
    obtain ⟨hzS0, hzS1, hzS2⟩ := eS
    have hq' := hq.below' hwb
    have q0 := hq'.cell 0
    have q1 := hq'.cell 1
    have q2 := hq'.cell 2
    have q3 := hq'.cell 3
    have q4 := hq'.cell 4
    have q5 := hq'.cell 5
    have q6 := hq'.cell 6
    have q7 := hq'.cell 7
    have q8 := hq'.cell 8
    have t1 := hT.blk.cell 1
    simp only [List.getElem?_toArray, List.getElem?_cons_zero, List.getElem?_cons_succ] at t1 q0 q1 q2 q3 q4 q5 q6 q7 q8
    have t1a := fun o => (show (w.alloc o).cell? ⟨tb, 1, none⟩ = _ from (hT.blk.alloc o).cell 1)
    simp only [List.getElem?_toArray, List.getElem?_cons_zero, List.getElem?_cons_succ] at t1a
    have HT := Lib.hid hT
    have HW := Lib.hid hwb
    have HK := Lib.hid (And.intro hq (And.intro hPk hFk))
    have HB := Lib.hid hB
    clear hT hwb hq hPk hFk hq' hB
    go_enter Tryz.func94, Tryz.ntmps94
    go_upto_region 2 with fail
    go_cut [] from 16 to 30 (fun wx => ∃ vn1, TrM l wx base tb vr vrp F vn1 (.slice Ap NL.length cp) (.slice Am NL.length cm) NL ⟨p.1, [], none, 0⟩ ∧ Below base w wx)
    case first =>
      go_region_law (go_loud (refine step_append_blk rfl (.tmp 21) (.tmp 26) 23 rfl base 48 i9 _ 9 96 Tryz.underlying23 hi9 hz90 hz91 hz92 rfl (by decide) (.slice An NL.length cn) NL.length (ncl NL) (by simp [Act.eval, Act.put]) (own_below HT.out.own_n (bdrew' (bnext (Below.refl _ _) _))) w.heap.size 1 1 (by simp [Act.eval, Act.put]) _ (blk_new' _ _ _ _ (by simp)) (by rfl) (by simp [Value.oneCell']) (by unfold maxLen; omega) (by omega) (by have := HB.out; simp; omega) ?_; intro v' w' ho hg0 hv; have hg := undrew hg0; obtain ⟨A1, c1, rfl, _, _⟩ := own_slice ho; have TB := Lib.hid (show Blk w' tb _ 36 from (HT.out.blk.alloc _).grown hg (fun e => HT.out.rows.ntb ⟨48, 9, .slice An NL.length cn, NL.length, ncl NL⟩ (by simp [trows]) e.symm)); have TC := TB.out.cell 1; have TF := TB.out.frozen 1; simp only [List.getElem?_toArray, List.getElem?_cons_zero, List.getElem?_cons_succ] at TC; have N1 := Lib.hid (HT.out.node1 p.1 HB.out hg ho hv)))
      all_goals go_wp2_with fail
      all_goals go_meet
      all_goals exact ⟨_, N1.out.1, N1.out.2⟩
    case rest =>
      obtain ⟨vn1, hM, hb1⟩ := hcut
      have hql9 : q < wp.heap.size := HK.out.1.lt
      have hwc := HW.out.trans (hb1.mono hwp)
      have qa := ((HK.out.1.below' HW.out).below hb1 (by omega)).cell 9
      have qb := ((HK.out.1.below' HW.out).below hb1 (by omega)).cell 10
      simp only [List.getElem?_toArray, List.getElem?_cons_zero, List.getElem?_cons_succ] at qa qb
      have qq := Lib.hid (And.intro qa qb)
      have HQ : RowKit.Hid (q < base) := Lib.hid (by omega)
      have LO := Lib.hid hM.lo
      have RW0 := Lib.hid hM.rows
      have TB0 := Lib.hid hM.blk
      have SZ0 : RowKit.Hid (base ≤ wc.heap.size) := Lib.hid (Nat.le_trans HB.out hb1.size)
      have HW2 := Lib.hid hwc
      have t3 := hM.blk.cell 3
      have t4 := hM.blk.cell 4
      have t3a := fun o => (show (wc.alloc o).cell? ⟨tb, 3, none⟩ = _ from (hM.blk.alloc o).cell 3)
      have t4a := fun o => (show (wc.alloc o).cell? ⟨tb, 4, none⟩ = _ from (hM.blk.alloc o).cell 4)
      have t3b := fun o o' => (show ((wc.alloc o).alloc o').cell? ⟨tb, 3, none⟩ = _ from ((hM.blk.alloc o).alloc o').cell 3)
      have t4b := fun o o' => (show ((wc.alloc o).alloc o').cell? ⟨tb, 4, none⟩ = _ from ((hM.blk.alloc o).alloc o').cell 4)
      simp only [List.getElem?_toArray, List.getElem?_cons_zero, List.getElem?_cons_succ] at t3 t4 t3a t4a t3b t4b
      have B1H := Lib.hid hb1
      clear hM hb1 hwc qa qb q0 q1 q2 q3 q4 q5 q6 q7 q8 t1 t1a
      go_upto_region 3 with fail
      go_cut [] from 31 to 56 (fun wx => ∃ vP vM, TrAt l wx base tb vr vrp F vn1 vP vM (NL ++ [⟨p.1, [], none, 0⟩]) ∧ Below base wc wx)
      case first =>
        refine wp_mono (Q := calm _) ?_ (calm_le _)
        have S0 : RowKit.Hid (Rd4 tb q (.slice Ap NL.length cp) (.slice Am NL.length cm) (.int .i64 (beg l p.1.at_ : Nat)) (.string (bsv p.1.name)) wc.drew) := Lib.hid (Rd4.of (wc := wc) (base := base) (show Blk wc.drew tb _ _ from TB0.out) (by exact ⟨rfl, rfl, rfl, Nat.le_refl _, fun _ _ => rfl⟩) HQ.out SZ0.out qq.out)
        refine until_start (S := Rd4 tb q (.slice Ap NL.length cp) (.slice Am NL.length cm) (.int .i64 (beg l p.1.at_ : Nat)) (.string (bsv p.1.name))) (stop := [24, 27]) (by kernel_rfl) ?_
        refine until_pure (i := 0) (v := .pointer (some ⟨tb, 0, none⟩)) (some 31) rfl rfl (by kernel_rfl) (by kernel_rfl) (by kernel_rfl) (by kernel_rfl) (fun _ _ _ h => h) rfl (fun u => by (go_simp; try with_reducible rfl)) (.inl S0.out) ?_
        simp only [Act.put, List.setIfInBounds_toArray, List.set_cons_zero, List.set_cons_succ]
        refine until_pure (i := 1) (v := .pointer (some ⟨tb, 0, none⟩)) (some 32) rfl rfl (by kernel_rfl) (by kernel_rfl) (by kernel_rfl) (by kernel_rfl) (fun _ _ _ h => h) rfl (fun u => by (go_simp; try with_reducible rfl)) (.inl S0.out) ?_
        simp only [Act.put, List.setIfInBounds_toArray, List.set_cons_zero, List.set_cons_succ]
        refine until_pure (i := 2) (v := .pointer (some ⟨tb, 0, none⟩)) (some 33) rfl rfl (by kernel_rfl) (by kernel_rfl) (by kernel_rfl) (by kernel_rfl) (fun _ _ _ h => h) rfl (fun u => by (go_simp; try with_reducible rfl)) (.inl S0.out) ?_
        simp only [Act.put, List.setIfInBounds_toArray, List.set_cons_zero, List.set_cons_succ]
        refine until_pure (i := 3) (v := .pointer (some ⟨tb, 0, none⟩)) (some 34) rfl rfl (by kernel_rfl) (by kernel_rfl) (by kernel_rfl) (by kernel_rfl) (fun _ _ _ h => h) rfl (fun u => by (go_simp; try with_reducible rfl)) (.inl S0.out) ?_
        simp only [Act.put, List.setIfInBounds_toArray, List.set_cons_zero, List.set_cons_succ]
        refine until_pure (i := 4) (v := .pointer (some ⟨tb, 3, none⟩)) (some 35) rfl rfl (by kernel_rfl) (by kernel_rfl) (by kernel_rfl) (by kernel_rfl) (fun _ _ _ h => h) rfl (fun u => by (go_simp; try with_reducible rfl)) (.inl S0.out) ?_
        simp only [Act.put, List.setIfInBounds_toArray, List.set_cons_zero, List.set_cons_succ]
        refine until_take (i := 5) (v := .slice Ap NL.length cp) (some 36) rfl rfl (by kernel_rfl) (by kernel_rfl) (by kernel_rfl) (by kernel_rfl) (by kernel_rfl) (fun _ _ _ h => h) (.inl ⟨by rfl, fun u hu => by (obtain ⟨h3, h4, h9, h10⟩ := hu; go_simp; try with_reducible rfl)⟩) S0.out ?_
        simp only [Act.put, List.setIfInBounds_toArray, List.set_cons_zero, List.set_cons_succ]
        refine until_pure (i := 6) (v := .pointer (some ⟨q, 0, none⟩)) (some 37) rfl rfl (by kernel_rfl) (by kernel_rfl) (by kernel_rfl) (by kernel_rfl) (fun _ _ _ h => h) rfl (fun u => by (go_simp; try with_reducible rfl)) (.inl S0.out) ?_
        simp only [Act.put, List.setIfInBounds_toArray, List.set_cons_zero, List.set_cons_succ]
        refine until_pure (i := 7) (v := .pointer (some ⟨q, 0, none⟩)) (some 38) rfl rfl (by kernel_rfl) (by kernel_rfl) (by kernel_rfl) (by kernel_rfl) (fun _ _ _ h => h) rfl (fun u => by (go_simp; try with_reducible rfl)) (.inl S0.out) ?_
        simp only [Act.put, List.setIfInBounds_toArray, List.set_cons_zero, List.set_cons_succ]
        refine until_pure (i := 8) (v := .pointer (some ⟨q, 9, none⟩)) (some 39) rfl rfl (by kernel_rfl) (by kernel_rfl) (by kernel_rfl) (by kernel_rfl) (fun _ _ _ h => h) rfl (fun u => by (go_simp; try with_reducible rfl)) (.inl S0.out) ?_
        simp only [Act.put, List.setIfInBounds_toArray, List.set_cons_zero, List.set_cons_succ]
        refine until_take (i := 9) (v := .int .i64 (beg l p.1.at_ : Nat)) (some 40) rfl rfl (by kernel_rfl) (by kernel_rfl) (by kernel_rfl) (by kernel_rfl) (by kernel_rfl) (fun _ _ _ h => h) (.inl ⟨by rfl, fun u hu => by (obtain ⟨h3, h4, h9, h10⟩ := hu; go_simp; try with_reducible rfl)⟩) S0.out ?_
        simp only [Act.put, List.setIfInBounds_toArray, List.set_cons_zero, List.set_cons_succ]
        refine until_pure (i := 12) (v := .pointer (some ⟨tb, 0, none⟩)) (some 43) rfl rfl (by kernel_rfl) (by kernel_rfl) (by kernel_rfl) (by kernel_rfl) (fun _ _ _ h => h) rfl (fun u => by (go_simp; try with_reducible rfl)) (.inl S0.out) ?_
        simp only [Act.put, List.setIfInBounds_toArray, List.set_cons_zero, List.set_cons_succ]
        refine until_pure (i := 13) (v := .pointer (some ⟨tb, 0, none⟩)) (some 44) rfl rfl (by kernel_rfl) (by kernel_rfl) (by kernel_rfl) (by kernel_rfl) (fun _ _ _ h => h) rfl (fun u => by (go_simp; try with_reducible rfl)) (.inl S0.out) ?_
        simp only [Act.put, List.setIfInBounds_toArray, List.set_cons_zero, List.set_cons_succ]
        refine until_pure (i := 14) (v := .pointer (some ⟨tb, 4, none⟩)) (some 45) rfl rfl (by kernel_rfl) (by kernel_rfl) (by kernel_rfl) (by kernel_rfl) (fun _ _ _ h => h) rfl (fun u => by (go_simp; try with_reducible rfl)) (.inl S0.out) ?_
        simp only [Act.put, List.setIfInBounds_toArray, List.set_cons_zero, List.set_cons_succ]
        refine until_take (i := 15) (v := .slice Am NL.length cm) (some 46) rfl rfl (by kernel_rfl) (by kernel_rfl) (by kernel_rfl) (by kernel_rfl) (by kernel_rfl) (fun _ _ _ h => h) (.inl ⟨by rfl, fun u hu => by (obtain ⟨h3, h4, h9, h10⟩ := hu; go_simp; try with_reducible rfl)⟩) S0.out ?_
        simp only [Act.put, List.setIfInBounds_toArray, List.set_cons_zero, List.set_cons_succ]
        refine until_pure (i := 16) (v := .pointer (some ⟨q, 0, none⟩)) (some 47) rfl rfl (by kernel_rfl) (by kernel_rfl) (by kernel_rfl) (by kernel_rfl) (fun _ _ _ h => h) rfl (fun u => by (go_simp; try with_reducible rfl)) (.inl S0.out) ?_
        simp only [Act.put, List.setIfInBounds_toArray, List.set_cons_zero, List.set_cons_succ]
        refine until_pure (i := 17) (v := .pointer (some ⟨q, 0, none⟩)) (some 48) rfl rfl (by kernel_rfl) (by kernel_rfl) (by kernel_rfl) (by kernel_rfl) (fun _ _ _ h => h) rfl (fun u => by (go_simp; try with_reducible rfl)) (.inl S0.out) ?_
        simp only [Act.put, List.setIfInBounds_toArray, List.set_cons_zero, List.set_cons_succ]
        refine until_pure (i := 18) (v := .pointer (some ⟨q, 10, none⟩)) (some 49) rfl rfl (by kernel_rfl) (by kernel_rfl) (by kernel_rfl) (by kernel_rfl) (fun _ _ _ h => h) rfl (fun u => by (go_simp; try with_reducible rfl)) (.inl S0.out) ?_
        simp only [Act.put, List.setIfInBounds_toArray, List.set_cons_zero, List.set_cons_succ]
        refine until_take (i := 19) (v := .string (bsv p.1.name)) (some 50) rfl rfl (by kernel_rfl) (by kernel_rfl) (by kernel_rfl) (by kernel_rfl) (by kernel_rfl) (fun _ _ _ h => h) (.inl ⟨by rfl, fun u hu => by (obtain ⟨h3, h4, h9, h10⟩ := hu; go_simp; try with_reducible rfl)⟩) S0.out ?_
        simp only [Act.put, List.setIfInBounds_toArray, List.set_cons_zero, List.set_cons_succ]
        have RA : RowKit.Hid (∀ o, Rd4 tb q (.slice Ap NL.length cp) (.slice Am NL.length cm) (.int .i64 (beg l p.1.at_ : Nat)) (.string (bsv p.1.name)) (wc.alloc o).drew) := Lib.hid fun o => Rd4.of (wc := wc) (base := base) (show Blk (wc.alloc o).drew tb _ _ from TB0.out.alloc o) (((bdrew' (bnext (Below.refl _ _) _)) : Below wc.heap.size wc _).mono SZ0.out) HQ.out SZ0.out qq.out
        have RB : RowKit.Hid (∀ o o', Rd4 tb q (.slice Ap NL.length cp) (.slice Am NL.length cm) (.int .i64 (beg l p.1.at_ : Nat)) (.string (bsv p.1.name)) ((wc.alloc o).alloc o').drew) := Lib.hid fun o o' => Rd4.of (wc := wc) (base := base) (show Blk ((wc.alloc o).alloc o').drew tb _ _ from (TB0.out.alloc o).alloc o') (((bdrew' (bnext (bnext (Below.refl _ _) _) _)) : Below wc.heap.size wc _).mono SZ0.out) HQ.out SZ0.out qq.out
        refine until_step (rs := [10, 20]) (by kernel_rfl) (by simp) ?_
        intro i hi
        simp only [List.mem_cons, List.not_mem_nil, or_false] at hi
        rcases hi with rfl | rfl
        · refine until_run 10 rfl rfl (fun K hK => ?_)
          go_simp
          refine hK _ _ ⟨.inl (RA.out _), ?_⟩
          clear hK
          try simp only [Act.put, List.setIfInBounds_toArray, List.set_cons_zero, List.set_cons_succ]
          refine until_step (rs := [11, 20]) (by kernel_rfl) (by simp) ?_
          intro i hi
          simp only [List.mem_cons, List.not_mem_nil, or_false] at hi
          rcases hi with rfl | rfl
          · refine until_run 11 rfl rfl (fun K hK => ?_)
            refine step_append_blk (E := True) rfl (.tmp 36) (.tmp 41) 33 rfl base 3 i3 _ 1 8 Tryz.underlying33 hi3 hz30 hz31 hz32 rfl (by decide) (.slice Ap NL.length cp) NL.length (plv l NL) rfl (own_below (PMr.ownP RW0.out) (bdrew' (bnext (Below.refl _ _) _))) (wc.heap.size) 1 1 rfl _ (blk_new' _ _ _ _ (by simp)) (by rfl) (by simp [Value.oneCell']) (by unfold maxLen; omega) (by omega) (by have := SZ0.out; simp; omega) ?_
            intro vP wP ho hg hv
            obtain ⟨AP, cP, rfl, _, _⟩ := own_slice ho
            have N1 := Lib.hid (laP (l := l) (vr := vr) (vrp := vrp) RW0.out TB0.out SZ0.out (bdrew' (bnext (Below.refl _ _) _)) hg ho hv)
            clear ho hg hv
            refine hK _ _ ⟨.inl (Rd4.of N1.out.2.1 N1.out.2.2.1 HQ.out SZ0.out qq.out), ?_⟩
            clear hK
            try simp only [Act.put, List.setIfInBounds_toArray, List.set_cons_zero, List.set_cons_succ]
            refine until_step (rs := [20]) (by kernel_rfl) (by simp) ?_
            intro i hi
            simp only [List.mem_cons, List.not_mem_nil, or_false] at hi
            obtain rfl := hi
            refine until_run 20 rfl rfl (fun K hK => ?_)
            go_simp
            refine hK _ _ ⟨.inl (Rd4.of (N1.out.2.1.alloc _) (N1.out.2.2.1.trans ((bnext (Below.refl _ _) _ : Below wP.heap.size wP (wP.alloc _)).mono N1.out.2.2.2)) HQ.out SZ0.out qq.out), ?_⟩
            clear hK
            try simp only [Act.put, List.setIfInBounds_toArray, List.set_cons_zero, List.set_cons_succ]
            refine until_step (rs := [21]) (by kernel_rfl) (by simp) ?_
            intro i hi
            simp only [List.mem_cons, List.not_mem_nil, or_false] at hi
            obtain rfl := hi
            refine until_run 21 rfl rfl (fun K hK => ?_)
            refine step_append_blk (E := True) rfl (.tmp 46) (.tmp 51) 34 rfl base 9 iS _ 1 16 Tryz.underlying34 hiS hzS0 hzS1 hzS2 rfl (by decide) (.slice Am NL.length cm) NL.length (nmv NL) rfl (own_below (PMr.ownM N1.out.1) (bnext (Below.refl _ _) _)) (wP.heap.size) 1 1 rfl _ (blk_new' _ _ _ _ (by simp)) (by rfl) (by simp [Value.oneCell']) (by unfold maxLen; omega) (by omega) (by have := N1.out.2.2.2; simp; omega) ?_
            intro vM wM ho hg hv
            obtain ⟨AM, cM, rfl, _, _⟩ := own_slice ho
            have N2 := Lib.hid (laM (l := l) (vr := vr) (vrp := vrp) N1.out.1 N1.out.2.1 N1.out.2.2.2 (bnext (Below.refl _ _) _) hg ho hv)
            clear ho hg hv
            have BM := Lib.hid (N1.out.2.2.1.trans N2.out.2.2.1)
            have SM := Lib.hid (Rd4.of N2.out.2.1 BM.out HQ.out SZ0.out qq.out)
            refine hK _ _ ⟨.inl SM.out, ?_⟩
            clear hK
            try simp only [Act.put, List.setIfInBounds_toArray, List.set_cons_zero, List.set_cons_succ]
            refine until_pure (i := 22) (v := .pointer (some ⟨tb, 0, none⟩)) (some 53) rfl rfl (by kernel_rfl) (by kernel_rfl) (by kernel_rfl) (by kernel_rfl) (fun _ _ _ h => h) rfl (fun u => by (go_simp; try with_reducible rfl)) (.inl SM.out) ?_
            try simp only [Act.put, List.setIfInBounds_toArray, List.set_cons_zero, List.set_cons_succ]
            refine until_pure (i := 23) (v := .pointer (some ⟨tb, 3, none⟩)) (some 54) rfl rfl (by kernel_rfl) (by kernel_rfl) (by kernel_rfl) (by kernel_rfl) (fun _ _ _ h => h) rfl (fun u => by (go_simp; try with_reducible rfl)) (.inl SM.out) ?_
            try simp only [Act.put, List.setIfInBounds_toArray, List.set_cons_zero, List.set_cons_succ]
            refine until_step (rs := [24]) (by kernel_rfl) (by simp) ?_
            intro i hi
            simp only [List.mem_cons, List.not_mem_nil, or_false] at hi
            obtain rfl := hi
            have C3 := N2.out.2.1.cell 3
            have X3 := N2.out.2.1.frozen 3
            simp only [List.getElem?_toArray, List.getElem?_cons_zero, List.getElem?_cons_succ] at C3
            have K3 : RowKit.Hid (Blk (wM.setCell ⟨tb, 3, none⟩ (.slice AP (NL.length + 1) cP)) tb #[vr, vn1, vrp, .slice AP (NL.length + 1) cP, .slice Am NL.length cm] 36) := Lib.hid (heap_setCell_same wM tb 3 _ 36 _ N2.out.2.1)
            refine until_run 24 rfl rfl (fun K hK => ?_)
            go_simp
            refine hK _ _ ⟨.inr (by kernel_rfl), ?_⟩
            clear hK C3 X3
            try simp only [Act.put, List.setIfInBounds_toArray, List.set_cons_zero, List.set_cons_succ]
            refine until_pure (i := 25) (v := .pointer (some ⟨tb, 0, none⟩)) (some 55) rfl rfl (by kernel_rfl) (by kernel_rfl) (by kernel_rfl) (by kernel_rfl) (fun _ _ _ h => h) rfl (fun u => by (go_simp; try with_reducible rfl)) (.inr (by kernel_rfl)) ?_
            try simp only [Act.put, List.setIfInBounds_toArray, List.set_cons_zero, List.set_cons_succ]
            refine until_pure (i := 26) (v := .pointer (some ⟨tb, 4, none⟩)) (some 56) rfl rfl (by kernel_rfl) (by kernel_rfl) (by kernel_rfl) (by kernel_rfl) (fun _ _ _ h => h) rfl (fun u => by (go_simp; try with_reducible rfl)) (.inr (by kernel_rfl)) ?_
            try simp only [Act.put, List.setIfInBounds_toArray, List.set_cons_zero, List.set_cons_succ]
            refine until_step (rs := [27]) (by kernel_rfl) (by simp) ?_
            intro i hi
            simp only [List.mem_cons, List.not_mem_nil, or_false] at hi
            obtain rfl := hi
            have C4 := K3.out.cell 4
            have X4 := K3.out.frozen 4
            simp only [List.getElem?_toArray, List.getElem?_cons_zero, List.getElem?_cons_succ] at C4
            refine until_run 27 rfl rfl (fun K hK => ?_)
            go_simp
            refine hK _ _ ⟨.inr (by kernel_rfl), ?_⟩
            clear hK C4 X4
            refine until_done (by kernel_rfl) ?_ _
            simp only [calm]
            go_wp2_with fail
            go_meet
            exact ⟨_, _, (fin_rows LO.out N2.out.2.1 N2.out.1).1, set_below (set_below BM.out LO.out _ _) LO.out _ _⟩
          · refine until_run 20 rfl rfl (fun K hK => ?_)
            go_simp
            refine hK _ _ ⟨.inl (RB.out _ _), ?_⟩
            clear hK
            try simp only [Act.put, List.setIfInBounds_toArray, List.set_cons_zero, List.set_cons_succ]
            refine until_step (rs := [11]) (by kernel_rfl) (by simp) ?_
            intro i hi
            simp only [List.mem_cons, List.not_mem_nil, or_false] at hi
            obtain rfl := hi
            refine until_run 11 rfl rfl (fun K hK => ?_)
            refine step_append_blk (E := True) rfl (.tmp 36) (.tmp 41) 33 rfl base 3 i3 _ 1 8 Tryz.underlying33 hi3 hz30 hz31 hz32 rfl (by decide) (.slice Ap NL.length cp) NL.length (plv l NL) rfl (own_below (PMr.ownP RW0.out) (bdrew' (bnext (bnext (Below.refl _ _) _) _))) (wc.heap.size) 1 1 rfl _ ((Below.heap_alloc _ _ _ (by simp)).trans (blk_new' _ _ _ _ (by simp))) (by rfl) (by simp [Value.oneCell']) (by unfold maxLen; omega) (by omega) (by have := SZ0.out; simp; omega) ?_
            intro vP wP ho hg hv
            obtain ⟨AP, cP, rfl, _, _⟩ := own_slice ho
            have N1 := Lib.hid (laP (l := l) (vr := vr) (vrp := vrp) RW0.out TB0.out SZ0.out (bdrew' (bnext (bnext (Below.refl _ _) _) _)) hg ho hv)
            have KP := Lib.hid (app_keep (b := wc.heap.size + 1) (own_below (PMr.ownP RW0.out) (bdrew' (bnext (bnext (Below.refl _ _) _) _))) hg (show (3 : Nat) ≠ 9 by decide) (blk_new' _ _ _ _ (by simp)))
            clear ho hg hv
            refine hK _ _ ⟨.inl (Rd4.of N1.out.2.1 N1.out.2.2.1 HQ.out SZ0.out qq.out), ?_⟩
            clear hK
            try simp only [Act.put, List.setIfInBounds_toArray, List.set_cons_zero, List.set_cons_succ]
            refine until_step (rs := [21]) (by kernel_rfl) (by simp) ?_
            intro i hi
            simp only [List.mem_cons, List.not_mem_nil, or_false] at hi
            obtain rfl := hi
            refine until_run 21 rfl rfl (fun K hK => ?_)
            refine step_append_blk (E := True) rfl (.tmp 46) (.tmp 51) 34 rfl base 9 iS _ 1 16 Tryz.underlying34 hiS hzS0 hzS1 hzS2 rfl (by decide) (.slice Am NL.length cm) NL.length (nmv NL) rfl (own_below (PMr.ownM N1.out.1) (Below.refl _ _)) (wc.heap.size + 1) 1 1 rfl _ (KP.out) (by rfl) (by simp [Value.oneCell']) (by unfold maxLen; omega) (by omega) (by have := N1.out.2.2.2; simp; omega) ?_
            intro vM wM ho hg hv
            obtain ⟨AM, cM, rfl, _, _⟩ := own_slice ho
            have N2 := Lib.hid (laM (l := l) (vr := vr) (vrp := vrp) N1.out.1 N1.out.2.1 N1.out.2.2.2 (Below.refl _ _) hg ho hv)
            clear ho hg hv
            have BM := Lib.hid (N1.out.2.2.1.trans N2.out.2.2.1)
            have SM := Lib.hid (Rd4.of N2.out.2.1 BM.out HQ.out SZ0.out qq.out)
            refine hK _ _ ⟨.inl SM.out, ?_⟩
            clear hK
            try simp only [Act.put, List.setIfInBounds_toArray, List.set_cons_zero, List.set_cons_succ]
            refine until_pure (i := 22) (v := .pointer (some ⟨tb, 0, none⟩)) (some 53) rfl rfl (by kernel_rfl) (by kernel_rfl) (by kernel_rfl) (by kernel_rfl) (fun _ _ _ h => h) rfl (fun u => by (go_simp; try with_reducible rfl)) (.inl SM.out) ?_
            try simp only [Act.put, List.setIfInBounds_toArray, List.set_cons_zero, List.set_cons_succ]
            refine until_pure (i := 23) (v := .pointer (some ⟨tb, 3, none⟩)) (some 54) rfl rfl (by kernel_rfl) (by kernel_rfl) (by kernel_rfl) (by kernel_rfl) (fun _ _ _ h => h) rfl (fun u => by (go_simp; try with_reducible rfl)) (.inl SM.out) ?_
            try simp only [Act.put, List.setIfInBounds_toArray, List.set_cons_zero, List.set_cons_succ]
            refine until_step (rs := [24]) (by kernel_rfl) (by simp) ?_
            intro i hi
            simp only [List.mem_cons, List.not_mem_nil, or_false] at hi
            obtain rfl := hi
            have C3 := N2.out.2.1.cell 3
            have X3 := N2.out.2.1.frozen 3
            simp only [List.getElem?_toArray, List.getElem?_cons_zero, List.getElem?_cons_succ] at C3
            have K3 : RowKit.Hid (Blk (wM.setCell ⟨tb, 3, none⟩ (.slice AP (NL.length + 1) cP)) tb #[vr, vn1, vrp, .slice AP (NL.length + 1) cP, .slice Am NL.length cm] 36) := Lib.hid (heap_setCell_same wM tb 3 _ 36 _ N2.out.2.1)
            refine until_run 24 rfl rfl (fun K hK => ?_)
            go_simp
            refine hK _ _ ⟨.inr (by kernel_rfl), ?_⟩
            clear hK C3 X3
            try simp only [Act.put, List.setIfInBounds_toArray, List.set_cons_zero, List.set_cons_succ]
            refine until_pure (i := 25) (v := .pointer (some ⟨tb, 0, none⟩)) (some 55) rfl rfl (by kernel_rfl) (by kernel_rfl) (by kernel_rfl) (by kernel_rfl) (fun _ _ _ h => h) rfl (fun u => by (go_simp; try with_reducible rfl)) (.inr (by kernel_rfl)) ?_
            try simp only [Act.put, List.setIfInBounds_toArray, List.set_cons_zero, List.set_cons_succ]
            refine until_pure (i := 26) (v := .pointer (some ⟨tb, 4, none⟩)) (some 56) rfl rfl (by kernel_rfl) (by kernel_rfl) (by kernel_rfl) (by kernel_rfl) (fun _ _ _ h => h) rfl (fun u => by (go_simp; try with_reducible rfl)) (.inr (by kernel_rfl)) ?_
            try simp only [Act.put, List.setIfInBounds_toArray, List.set_cons_zero, List.set_cons_succ]
            refine until_step (rs := [27]) (by kernel_rfl) (by simp) ?_
            intro i hi
            simp only [List.mem_cons, List.not_mem_nil, or_false] at hi
            obtain rfl := hi
            have C4 := K3.out.cell 4
            have X4 := K3.out.frozen 4
            simp only [List.getElem?_toArray, List.getElem?_cons_zero, List.getElem?_cons_succ] at C4
            refine until_run 27 rfl rfl (fun K hK => ?_)
            go_simp
            refine hK _ _ ⟨.inr (by kernel_rfl), ?_⟩
            clear hK C4 X4
            refine until_done (by kernel_rfl) ?_ _
            simp only [calm]
            go_wp2_with fail
            go_meet
            exact ⟨_, _, (fin_rows LO.out N2.out.2.1 N2.out.1).1, set_below (set_below BM.out LO.out _ _) LO.out _ _⟩
        · refine until_run 20 rfl rfl (fun K hK => ?_)
          go_simp
          refine hK _ _ ⟨.inl (RA.out _), ?_⟩
          clear hK
          try simp only [Act.put, List.setIfInBounds_toArray, List.set_cons_zero, List.set_cons_succ]
          refine until_step (rs := [10]) (by kernel_rfl) (by simp) ?_
          intro i hi
          simp only [List.mem_cons, List.not_mem_nil, or_false] at hi
          obtain rfl := hi
          refine until_run 10 rfl rfl (fun K hK => ?_)
          go_simp
          refine hK _ _ ⟨.inl (RB.out _ _), ?_⟩
          clear hK
          try simp only [Act.put, List.setIfInBounds_toArray, List.set_cons_zero, List.set_cons_succ]
          refine until_step (rs := [11]) (by kernel_rfl) (by simp) ?_
          intro i hi
          simp only [List.mem_cons, List.not_mem_nil, or_false] at hi
          obtain rfl := hi
          refine until_run 11 rfl rfl (fun K hK => ?_)
          refine step_append_blk (E := True) rfl (.tmp 36) (.tmp 41) 33 rfl base 3 i3 _ 1 8 Tryz.underlying33 hi3 hz30 hz31 hz32 rfl (by decide) (.slice Ap NL.length cp) NL.length (plv l NL) rfl (own_below (PMr.ownP RW0.out) (bdrew' (bnext (bnext (Below.refl _ _) _) _))) (wc.heap.size + 1) 1 1 rfl _ (blk_new' _ _ _ _ (by simp)) (by rfl) (by simp [Value.oneCell']) (by unfold maxLen; omega) (by omega) (by have := SZ0.out; simp; omega) ?_
          intro vP wP ho hg hv
          obtain ⟨AP, cP, rfl, _, _⟩ := own_slice ho
          have N1 := Lib.hid (laP (l := l) (vr := vr) (vrp := vrp) RW0.out TB0.out SZ0.out (bdrew' (bnext (bnext (Below.refl _ _) _) _)) hg ho hv)
          have KP := Lib.hid (app_keep (b := wc.heap.size) (own_below (PMr.ownP RW0.out) (bdrew' (bnext (bnext (Below.refl _ _) _) _))) hg (show (3 : Nat) ≠ 9 by decide) ((Below.heap_alloc _ _ _ (by simp)).trans (blk_new' _ _ _ _ (by simp))))
          clear ho hg hv
          refine hK _ _ ⟨.inl (Rd4.of N1.out.2.1 N1.out.2.2.1 HQ.out SZ0.out qq.out), ?_⟩
          clear hK
          try simp only [Act.put, List.setIfInBounds_toArray, List.set_cons_zero, List.set_cons_succ]
          refine until_step (rs := [21]) (by kernel_rfl) (by simp) ?_
          intro i hi
          simp only [List.mem_cons, List.not_mem_nil, or_false] at hi
          obtain rfl := hi
          refine until_run 21 rfl rfl (fun K hK => ?_)
          refine step_append_blk (E := True) rfl (.tmp 46) (.tmp 51) 34 rfl base 9 iS _ 1 16 Tryz.underlying34 hiS hzS0 hzS1 hzS2 rfl (by decide) (.slice Am NL.length cm) NL.length (nmv NL) rfl (own_below (PMr.ownM N1.out.1) (Below.refl _ _)) (wc.heap.size) 1 1 rfl _ (KP.out) (by rfl) (by simp [Value.oneCell']) (by unfold maxLen; omega) (by omega) (by have := N1.out.2.2.2; simp; omega) ?_
          intro vM wM ho hg hv
          obtain ⟨AM, cM, rfl, _, _⟩ := own_slice ho
          have N2 := Lib.hid (laM (l := l) (vr := vr) (vrp := vrp) N1.out.1 N1.out.2.1 N1.out.2.2.2 (Below.refl _ _) hg ho hv)
          clear ho hg hv
          have BM := Lib.hid (N1.out.2.2.1.trans N2.out.2.2.1)
          have SM := Lib.hid (Rd4.of N2.out.2.1 BM.out HQ.out SZ0.out qq.out)
          refine hK _ _ ⟨.inl SM.out, ?_⟩
          clear hK
          try simp only [Act.put, List.setIfInBounds_toArray, List.set_cons_zero, List.set_cons_succ]
          refine until_pure (i := 22) (v := .pointer (some ⟨tb, 0, none⟩)) (some 53) rfl rfl (by kernel_rfl) (by kernel_rfl) (by kernel_rfl) (by kernel_rfl) (fun _ _ _ h => h) rfl (fun u => by (go_simp; try with_reducible rfl)) (.inl SM.out) ?_
          try simp only [Act.put, List.setIfInBounds_toArray, List.set_cons_zero, List.set_cons_succ]
          refine until_pure (i := 23) (v := .pointer (some ⟨tb, 3, none⟩)) (some 54) rfl rfl (by kernel_rfl) (by kernel_rfl) (by kernel_rfl) (by kernel_rfl) (fun _ _ _ h => h) rfl (fun u => by (go_simp; try with_reducible rfl)) (.inl SM.out) ?_
          try simp only [Act.put, List.setIfInBounds_toArray, List.set_cons_zero, List.set_cons_succ]
          refine until_step (rs := [24]) (by kernel_rfl) (by simp) ?_
          intro i hi
          simp only [List.mem_cons, List.not_mem_nil, or_false] at hi
          obtain rfl := hi
          have C3 := N2.out.2.1.cell 3
          have X3 := N2.out.2.1.frozen 3
          simp only [List.getElem?_toArray, List.getElem?_cons_zero, List.getElem?_cons_succ] at C3
          have K3 : RowKit.Hid (Blk (wM.setCell ⟨tb, 3, none⟩ (.slice AP (NL.length + 1) cP)) tb #[vr, vn1, vrp, .slice AP (NL.length + 1) cP, .slice Am NL.length cm] 36) := Lib.hid (heap_setCell_same wM tb 3 _ 36 _ N2.out.2.1)
          refine until_run 24 rfl rfl (fun K hK => ?_)
          go_simp
          refine hK _ _ ⟨.inr (by kernel_rfl), ?_⟩
          clear hK C3 X3
          try simp only [Act.put, List.setIfInBounds_toArray, List.set_cons_zero, List.set_cons_succ]
          refine until_pure (i := 25) (v := .pointer (some ⟨tb, 0, none⟩)) (some 55) rfl rfl (by kernel_rfl) (by kernel_rfl) (by kernel_rfl) (by kernel_rfl) (fun _ _ _ h => h) rfl (fun u => by (go_simp; try with_reducible rfl)) (.inr (by kernel_rfl)) ?_
          try simp only [Act.put, List.setIfInBounds_toArray, List.set_cons_zero, List.set_cons_succ]
          refine until_pure (i := 26) (v := .pointer (some ⟨tb, 4, none⟩)) (some 56) rfl rfl (by kernel_rfl) (by kernel_rfl) (by kernel_rfl) (by kernel_rfl) (fun _ _ _ h => h) rfl (fun u => by (go_simp; try with_reducible rfl)) (.inr (by kernel_rfl)) ?_
          try simp only [Act.put, List.setIfInBounds_toArray, List.set_cons_zero, List.set_cons_succ]
          refine until_step (rs := [27]) (by kernel_rfl) (by simp) ?_
          intro i hi
          simp only [List.mem_cons, List.not_mem_nil, or_false] at hi
          obtain rfl := hi
          have C4 := K3.out.cell 4
          have X4 := K3.out.frozen 4
          simp only [List.getElem?_toArray, List.getElem?_cons_zero, List.getElem?_cons_succ] at C4
          refine until_run 27 rfl rfl (fun K hK => ?_)
          go_simp
          refine hK _ _ ⟨.inr (by kernel_rfl), ?_⟩
          clear hK C4 X4
          refine until_done (by kernel_rfl) ?_ _
          simp only [calm]
          go_wp2_with fail
          go_meet
          exact ⟨_, _, (fin_rows LO.out N2.out.2.1 N2.out.1).1, set_below (set_below BM.out LO.out _ _) LO.out _ _⟩
      case rest =>
        obtain ⟨vP, vM, hT2, hb2⟩ := hcut
        have BW2 := Lib.hid (B1H.out.trans hb2)
        have HT2 := Lib.hid hT2
        have c11 := (((HK.out.1.below' HW.out).below BW2.out (by have := HQ.out; exact this))).cell 11
        simp only [List.getElem?_toArray, List.getElem?_cons_zero, List.getElem?_cons_succ] at c11
        have FL := Lib.hid (flat_length p.2 (NL.length + 1))
        clear hT2 hb2 t3 t4 t3a t4a t3b t4b
        go_wp2_with fail
        clear c11
        go_loopw [62] (fun v wr => ∃ (R : Fr) (dq rq kidx : List Nat) (E : List Nw) (A1 : Option Addr) (c1 : Nat) (vn vp vm : Value), v = .int .i64 (dq.length : Nat) ∧ kqs = dq ++ rq ∧ FrAt wp lo l R rq ∧ TrAt l wr base tb vr vrp F vn vp vm (NL ++ ⟨p.1, kidx, A1, c1⟩ :: E) ∧ roots (NL.length + 1) p.2 = kidx ++ roots (NL.length + 1 + E.length) R ∧ flat (NL.length + 1) p.2 = said E ++ flat (NL.length + 1 + E.length) R ∧ E.length + R.nodes = p.2.nodes ∧ dq.length = kidx.length ∧ Below base w wr) (fun v _ => kqs.length - (intOf v).toNat)
        case atStart => exact ⟨p.2, [], kqs, [], [], none, 0, _, _, _, rfl, rfl, HK.out.2.2, HT2.out, rfl, rfl, by simp, rfl, BW2.out⟩
        case round =>
          obtain ⟨R, dq, rq, kidx, E, A1, c1, vn, vp, vm, rfl, hkq, hR, hTr, hro, hfl, hno, hdk, hbw⟩ := hrel
          have PK := Lib.hid (HK.out.2.1)
          have TRR := Lib.hid hTr
          have RO := Lib.hid (And.intro hro (And.intro hfl hno))
          have BWR := Lib.hid hbw
          have SZW : RowKit.Hid (base ≤ wr.heap.size) := Lib.hid (Nat.le_trans HB.out hbw.size)
          have HDK := Lib.hid hdk
          clear hTr hro hfl hbw hdk
          cases R with
          | nil =>
            obtain rfl : rq = [] := hR
            have hlen : dq.length = kqs.length := by rw [hkq]; simp
            rw [hlen]
            go_wp2_with fail
            go_ret
            refine ⟨rfl, BWR.out, _, _, _, ⟨p.1, kidx, A1, c1⟩ :: E, TRR.out, ?_⟩
            have h1 := RO.out.1
            have h2 := RO.out.2.1
            simp only [roots, List.append_nil] at h1
            simp only [flat, List.append_nil] at h2
            simp only [said, List.map_cons, Pn.fr, flat, List.append_nil, h1, h2]
          | cons x k r =>
            obtain ⟨q2, rest, A2, cap2, kqs2, rfl, g2, g3, g4, g5, g6, g7⟩ := hR
            have hi : dq.length < kqs.length := by rw [hkq]; simp
            have hi2 : (dq.length : Int) < kqs.length := by omega
            obtain ⟨gk, hAk, _, hgk, hck2⟩ := PK.out dq.length hi
            have hgb : gk < base := by omega
            have cq : wr.cell? ⟨gk, dq.length, none⟩ = some (.pointer (some ⟨q2, 0, none⟩)) := by
              have e1 : kqs.getD dq.length 0 = q2 := by rw [hkq]; simp [List.getD_eq_getElem?_getD]
              rw [e1] at hck2
              rw [← hck2]
              have := (HW.out.trans (BWR.out.mono hwp)).block gk hgk
              simp only [World.cell?, this]
            subst hAk
            have hkn : k.nodes < sz := by have := hno; simp only [Fr.nodes] at this; omega
            have LY := Lib.hid (IH.out (x, k) q2 vn vp vm (NL ++ ⟨p.1, kidx, A1, c1⟩ :: E) hkn (by have := hno; simp only [Fr.nodes] at this; simp; omega) ⟨q2, [], A2, cap2, kqs2, rfl, g2, g3, g4, g5, g6, rfl⟩ wr SZW.out (HW.out.trans (BWR.out.mono hwp)) TRR.out)
            have G7 := Lib.hid (And.intro g7 hkq)
            have HNO := Lib.hid hno
            clear g2 g3 g4 g5 g6 g7 hgk hgb hck2 hkq hno hkn
            go_upto_region 8 with (go_at_call 94; (with_reducible refine LY.out.mono ?_); rintro e w5 ⟨rfl, hb5, vn5, vp5, vm5, E2, hT5, hs5⟩)
            have hT6 : TrAt l w5 base tb vr vrp F vn5 vp5 vm5 (NL ++ ⟨p.1, kidx, A1, c1⟩ :: (E ++ E2)) := by simpa [List.append_assoc] using hT5
            obtain ⟨g, capn, rfl, gc, gf, gown, gb⟩ := hT6.nodesAt
            have t5 := hT6.blk.cell 1
            simp only [List.getElem?_toArray, List.getElem?_cons_zero, List.getElem?_cons_succ] at t5
            have hkl : kidx.length ≤ 1000000 := by
              have h1 := congrArg List.length RO.out.1
              have h2 := roots_length p.2 (NL.length + 1)
              simp only [List.length_append] at h1
              omega
            have HT6 := Lib.hid hT6
            have HS5 := Lib.hid hs5
            have HB5 := Lib.hid hb5
            have GO : RowKit.Hid (w5.ownsRow base 3 1 (.slice A1 kidx.length c1) kidx.length (numv kidx)) := Lib.hid gown
            have g1 : w5.cell? ⟨g, NL.length * 9 + 8, none⟩ = some (.slice A1 kidx.length c1) := gc
            have g2 := fun o => cell_al o g1 (hT6.own_n.lt g rfl).2
            have SZ5 : RowKit.Hid (base ≤ w5.heap.size) := Lib.hid (Nat.le_trans SZW.out hb5.size)
            have hin : NL.length < (NL ++ (⟨p.1, kidx, A1, c1⟩ : Nw) :: (E ++ E2)).length := by simp
            have hin2 : (NL.length : Int) < ((NL ++ (⟨p.1, kidx, A1, c1⟩ : Nw) :: (E ++ E2)).length : Nat) := by omega
            clear hT5 hT6 hs5 hb5 gown gc gf
            go_upto_region 9 with fail
            go_wp2_with (refine wpList_append_blk rfl (.tmp 80) (.tmp 82) 33 rfl base 3 i3 _ 1 8 Tryz.underlying33 hi3 hz30 hz31 hz32 rfl (by decide) (.slice A1 kidx.length c1) kidx.length (numv kidx) rfl (own_below GO.out (bnext (Below.refl _ _) _)) w5.heap.size 1 1 rfl _ (blk_new' _ _ _ _ rfl) (by rfl) (by simp [Value.oneCell']) (by unfold maxLen; omega) (by omega) (by have := SZ5.out; simp; omega) ?_; intro v' w' ho hg hv; obtain ⟨A', c', rfl, _, _⟩ := own_slice ho; have N1 := Lib.hid (HT6.out.kid rfl SZ5.out hg ho hv); have NC := N1.out.2.2.1; have NF := N1.out.2.2.2)
            all_goals (
              have hwr : wrap64 ((dq.length : Int) + 1) = ((dq.length + 1 : Nat) : Int) := by rw [IntWalk.wrap64_in _ (by have := HDK.out; omega)]; rfl
              go_roundw
              case rel =>
                refine ⟨r, dq ++ [q2], rest, kidx ++ [NL.length + (E.length + 1)], E ++ E2, _, _, _, _, _, by rw [hwr]; simp, by rw [G7.out.2]; simp, G7.out.1, N1.out.1, ?_, ?_, ?_, ?_, BWR.out.trans (HB5.out.trans N1.out.2.1)⟩
                · exact (lay_rel RO.out.1 RO.out.2.1 RO.out.2.2 HS5.out).1
                · exact (lay_rel RO.out.1 RO.out.2.1 RO.out.2.2 HS5.out).2.1
                · exact (lay_rel RO.out.1 RO.out.2.1 RO.out.2.2 HS5.out).2.2
                · simp [HDK.out]
              case measure =>
                rw [hwr]
                exact lay_meas hi)
end Go.Proofs.YtfghfnpiaccfaaaGreatDoor

/- How many rules, nodes, kids there are: some number. Pick. -/
import Derived.Test.YtlbjmkljmhfjdaaGreatA7
import Derived.Test.YtlbjmkljmhfjdaaGreatB3
import Derived.Laws.AppendOwn
import Derived.Maps.AppendAt
import Derived.Test.YtlbjmkljmhfjdaaGreatA2
import Derived.Test.YtlbjmkljmhfjdaaGreatA3
set_option linter.unusedSimpArgs false
set_option linter.unusedVariables false
namespace Go.Proofs.YtlbjmkljmhfjdaaGreat
open Go Go.RowKit
set_option maxHeartbeats 400000 in
theorem pick_any (x n : Int) (hx : -9223372036854775808 ≤ x ∧ x < 9223372036854775808) (hn : 1 ≤ n ∧ n < 9223372036854775808) (w : World) :
    Calls Tryz.prog 11 #[.int .i64 x, .int .i64 n] w fun e w' => e = .returned (.int .i64 (x % n)) ∧ w = w' := by
  have h1 := Int.emod_nonneg x (show n ≠ 0 by omega)
  have h2 := Int.emod_lt_of_pos x (show 0 < n by omega)
  have ht := Int.tmod_eq_emod (a := x) (b := n)
  have hd0 : n ≠ 0 := by omega
  have hd1 : (n == 0) = false := by simpa using hd0
  obtain ⟨y, ey⟩ : ∃ y, y = x.tmod n := ⟨_, rfl⟩
  rw [← ey] at ht
  obtain ⟨z, ez⟩ : ∃ z, z = x % n := ⟨_, rfl⟩
  rw [← ez] at ht h1 h2 ⊢
  have hcase : (0 ≤ y ∧ y = z) ∨ (y < 0 ∧ y + n = z) := by
    split at ht
    · left; omega
    · right; omega
  have hy : x.tmod n = y := ey.symm
  have hn1 : ¬ n < 1 := by omega
  have hwy : IntKind.i64.wrap y = y := IntWalk.i64_in _ (by omega)
  clear ht ez ey hx
  rcases hcase with ⟨h3, rfl⟩ | ⟨h3, h4⟩
  · go_enter Tryz.func11, Tryz.ntmps11
    go_wp2_with fail
    go_ret
    exact ⟨rfl, rfl⟩
  · have hwz : IntKind.i64.wrap (y + n) = z := (IntWalk.i64_in _ (by omega)).trans h4
    clear h4
    go_enter Tryz.func11, Tryz.ntmps11
    go_wp2_with fail
    go_ret
    exact ⟨rfl, rfl⟩
end Go.Proofs.YtlbjmkljmhfjdaaGreat
namespace Go.Proofs.YtlbjmkljmhfjdaaGreat
open Go Go.RowKit
end Go.Proofs.YtlbjmkljmhfjdaaGreat
namespace Go.Proofs.YtlbjmkljmhfjdaaGreat
open Go Go.RowKit
/-- Two grammars are the same, part by part. -/
def sameGr (g h : Gr) : Bool := rowSame Rl.zero sameRl g.rules h.rules && rowSame Nd.zero sameNd g.nodes h.nodes
theorem bel {w w1 w2 : World} (h1 : Below w.heap.size w w1) (h2 : Below w1.heap.size w1 w2) : Below w.heap.size w w2 := bb h1 h2
end Go.Proofs.YtlbjmkljmhfjdaaGreat
namespace Go.Proofs.YtlbjmkljmhfjdaaGreat
open Go Go.RowKit Go.Maps
section
variable {P : Program} (w : World)
theorem run_append_view (base : Nat) (t ty e : TypeId) (i : TypeInfo) (z : Value) (size bytes : Nat) (ht : P.underlying t = some (.slice e)) (hi : P.info? e = some i) (hz : i.zero = some z)
    (hsize : i.size = size) (hby : i.bytes = bytes) (hzs : z.cells.size = size) (hsz : 0 < size)
    (v : Value) (n : Nat) (xs : List Value) (hown : w.ownsRow base e size v n xs)
    (a : Addr) (m c : Nat) (news : List Value) (hl : news.length = m * size) (hnews : ∀ j u, news[j]? = some u → w.cell? (a.add j) = some u) (h1 : ∀ u ∈ news, u.oneCell' = true)
    (h63 : n + m ≤ maxLen) (hbytes : (n + m) * bytes ≤ 140737488355328) (hbase : base ≤ w.heap.size) :
    ∃ v' w', (Builtin.append_ #[t, t] ty #[v, .slice (some a) m c]).run P w = .ok v' w' ∧ w'.ownsRow base e size v' (n + m) (xs ++ news) ∧ w'.ownsRow base e size v n xs ∧ w.grownBy w' v.ownBlock ∧ ((∃ b cap, v = .slice (some ⟨b, 0, none⟩) n cap ∧ v' = .slice (some ⟨b, 0, none⟩) (n + m) cap ∧ w.grownBy w' (some b)) ∨ (v'.ownBlock = some w.heap.size ∧ w.grownBy w' none) ∨ (m = 0 ∧ v' = v ∧ w' = w)) := by
  subst hsize
  subst hby
  have hsmall : n + m ≤ 9223372036854775807 := by simp only [maxLen] at h63; omega
  have hlen : (xs ++ news).length = (n + m) * i.size := by rw [List.length_append, hown.1, hl, Nat.add_mul]
  have grown : ∀ (old : Nat), old < n + m → ∀ (row : Option Nat),
      (w.drew.alloc (.cells (xs.toArray ++ news.toArray ++ Builtin.zeroCells z.cells (grownCap w (n + m) old e - (n + m))) e)).ownsRow base e i.size
        (.slice (some ⟨w.heap.size, 0, none⟩) (n + m) (grownCap w (n + m) old e)) (n + m) (xs ++ news) ∧
      w.grownBy (w.drew.alloc (.cells (xs.toArray ++ news.toArray ++ Builtin.zeroCells z.cells (grownCap w (n + m) old e - (n + m))) e)) row := by
    intro old ho row
    have hge := grownCap_ge w (n + m) old e
    have hcm : grownCap w (n + m) old e ≤ maxLen := grownCap_le_maxLen w (n + m) old e h63
    refine ⟨⟨hlen, .inr ⟨w.heap.size, _, _, rfl, hbase, Go.heap_alloc_new w.drew _, hge, hcm, ?_, ?_⟩⟩, ⟨rfl, rfl, rfl, by simp, fun k hk _ => Go.heap_alloc_old w.drew _ hk⟩⟩
    · simp only [Array.size_append, List.size_toArray, size_zeroCells, hzs, hown.1, hl, ← Nat.add_mul]
      congr 1
      omega
    · simp only [Array.toList_append, List.append_assoc]
      rw [← List.append_assoc, ← hlen]
      exact List.take_left
  rcases hown.2 with ⟨rfl, rfl⟩ | ⟨g, cap, cur, rfl, hbg, hg, hnc, hcm, hcs, htake⟩
  · have hx : xs = [] := List.eq_nil_of_length_eq_zero (by simpa using hown.1)
    subst hx
    by_cases hm : m = 0
    · subst hm
      have hn : news = [] := List.eq_nil_of_length_eq_zero (by simpa using hl)
      subst hn
      refine ⟨.slice none 0 0, w, ?_, World.ownsRow_nil w base e i.size, World.ownsRow_nil w base e i.size, ⟨rfl, rfl, rfl, Nat.le_refl _, fun _ _ _ => rfl⟩, .inr (.inr ⟨rfl, rfl, rfl⟩)⟩
      simp [Builtin.append_, run_underlying ht, sizeOf, typeInfo, hi, Builtin.lenOf, Builtin.firstCells, loadCells, loadCellsFrom]
    · have hr := run_append_nil (P := P) w t ty e i z ht hi hz a m c news hl hnews (by omega) (by omega) (by have hb := hbytes; simp only [Nat.zero_add] at hb; omega)
      have hgr := grown 0 (by omega) (Value.ownBlock (.slice none 0 0))
      have hgr2 := grown 0 (by omega) none
      simp only [Nat.zero_add, List.nil_append, Array.empty_append] at hgr hgr2 ⊢
      exact ⟨_, _, hr, hgr.1, World.ownsRow_nil _ base e i.size, hgr.2, .inr (.inl ⟨rfl, hgr2.2⟩)⟩
  · by_cases hroom : n + m ≤ cap
    · have hfit : n * i.size + news.length ≤ cur.size := by rw [hl, hcs, ← Nat.add_mul]; exact Nat.mul_le_mul_right _ hroom
      have hr := run_append_room (P := P) w t ty e i ht hi g n cap cur hg a m c news hl hnews h1 hroom hfit
      refine ⟨_, _, hr, ⟨hlen, .inr ⟨g, cap, _, rfl, hbg, setRow_heap w g cur _ e _ hg, hroom, hcm, ?_, ?_⟩⟩, ⟨hown.1, .inr ⟨g, cap, _, rfl, hbg, setRow_heap w g cur _ e _ hg, hnc, hcm, ?_, ?_⟩⟩, ⟨rfl, rfl, rfl, by simp, fun k _ hk => setRow_other w g k _ (fun e => hk (by simp [Value.ownBlock, e]))⟩, .inl ⟨g, cap, rfl, rfl, ⟨rfl, rfl, rfl, by simp, fun k _ hk => setRow_other w g k _ (fun e => hk (by simp [e]))⟩⟩⟩
      · simp only [List.size_toArray, List.length_append, List.length_take, List.length_drop, Array.length_toList]
        omega
      · rw [htake, ← hlen]
        exact List.take_left
      · simp only [List.size_toArray, List.length_append, List.length_take, List.length_drop, Array.length_toList]
        omega
      · rw [htake, List.append_assoc, ← hown.1]
        exact List.take_left
    · have holds : ∀ j u, xs[j]? = some u → w.cell? ((⟨g, 0, none⟩ : Addr).add j) = some u := hown.cells (g := g) rfl
      have hr := run_append_grow (P := P) w t ty e i z ht hi hz ⟨g, 0, none⟩ n cap xs hown.1 holds a m c news hl hnews (by omega) (by omega) (growslice_fits (by omega) hbytes)
      have hgr := grown cap (by omega) (Value.ownBlock (.slice (some ⟨g, 0, none⟩) n cap))
      have hgr2 := grown cap (by omega) none
      exact ⟨_, _, hr, hgr.1, hown.kept hgr2.2 (.inr (by simp [Value.ownBlock])), hgr.2, .inr (.inl ⟨rfl, hgr2.2⟩)⟩
end
theorem wpList_append_view {P : Program} {w : World} {ops : Array Oper} {rest : List Oper} {o : Oper} {a : Act} {Q : Exit → Act → World → Prop} (hgd : o.guard = none) (s x : Operand) (t : TypeId)
    (ho : o.op = .call { callee := .builtin .append, args := #[s, x], argTypes := #[t, t] })
    (base : Nat) (e : TypeId) (i : TypeInfo) (z : Value) (size bytes : Nat) (ht : P.underlying t = some (.slice e)) (hi : P.info? e = some i) (hz : i.zero = some z)
    (hsize : i.size = size) (hby : i.bytes = bytes) (hzs : z.cells.size = size) (hsz : 0 < size)
    (v : Value) (n : Nat) (xs : List Value) (hs : a.eval s = v) (hown : w.ownsRow base e size v n xs)
    (ad : Addr) (m c : Nat) (news : List Value) (hx : a.eval x = .slice (some ad) m c) (hl : news.length = m * size) (hnews : ∀ j u, news[j]? = some u → w.cell? (ad.add j) = some u) (h1 : ∀ u ∈ news, u.oneCell' = true)
    (h63 : n + m ≤ maxLen) (hbytes : (n + m) * bytes ≤ 140737488355328) (hbase : base ≤ w.heap.size)
    (h : ∀ v' w', w'.ownsRow base e size v' (n + m) (xs ++ news) → w'.ownsRow base e size v n xs → w.grownBy w' v.ownBlock → ((∃ b cap, v = .slice (some ⟨b, 0, none⟩) n cap ∧ v' = .slice (some ⟨b, 0, none⟩) (n + m) cap ∧ w.grownBy w' (some b)) ∨ (v'.ownBlock = some w.heap.size ∧ w.grownBy w' none) ∨ (m = 0 ∧ v' = v ∧ w' = w)) → wpList P ops Q rest (a.put o.dst v') w') :
    wpList P ops Q (o :: rest) a w := by
  refine wpList_plain hgd fun K hK => ?_
  obtain ⟨v', w', hr, h2, h3, h4, h5⟩ := run_append_view (P := P) w base t o.type e i z size bytes ht hi hz hsize hby hzs hsz v n xs hown ad m c news hl hnews h1 h63 hbytes hbase
  unfold Oper.wp execOp
  simp only [ho, resolve, invoke, builtin, Sem.run_bind, Sem.run_pure, Result.andThen_ok, List.map_toArray, List.map_cons, List.map_nil, hs, hx, hr]
  exact hK _ _ (h v' w' h2 h3 h4 h5)
end Go.Proofs.YtlbjmkljmhfjdaaGreat
namespace Go.Proofs.YtlbjmkljmhfjdaaGreat
open Go Go.RowKit Go.Maps
theorem own_type {w : World} {B B' e e' z z' n n' b : Nat} {v v' : Value} {xs xs' : List Value} (h : w.ownsRow B e z v n xs) (h' : w.ownsRow B' e' z' v' n' xs') (hb : v.ownBlock = some b) (hb' : v'.ownBlock = some b) : e = e' := by
  rcases h.2 with ⟨rfl, _⟩ | ⟨g, cap, cur, rfl, _, hg, _⟩
  · simp [Value.ownBlock] at hb
  · rcases h'.2 with ⟨rfl, _⟩ | ⟨g', cap', cur', rfl, _, hg', _⟩
    · simp [Value.ownBlock] at hb'
    · simp only [Value.ownBlock, Option.some.injEq] at hb hb'
      subst hb; subst hb'
      rw [hg] at hg'
      simp only [Option.some.injEq, Obj.cells.injEq] at hg'
      exact hg'.2.1
theorem own_store {W : World} {B e g n cap k : Nat} {xs : List Value} (h : W.ownsRow B e 1 (.slice (some ⟨g, 0, none⟩) n cap) n xs) (u : Value) : (W.setCell ⟨g, k, none⟩ u).ownsRow B e 1 (.slice (some ⟨g, 0, none⟩) n cap) n (xs.set k u) := by
  have hl := h.1
  rcases h.2 with ⟨h', _⟩ | ⟨g', cap', cur, h', hb, hg, hnc, hcm, hcs, htake⟩
  · simp at h'
  · simp only [Value.slice.injEq, Option.some.injEq, Addr.mk.injEq, and_true, true_and] at h'
    obtain ⟨rfl, rfl⟩ := h'
    refine ⟨by rw [List.length_set]; exact hl, .inr ⟨g, cap, cur.setIfInBounds k u, rfl, hb, heap_setCell_same W g k cur e u hg, hnc, hcm, by simpa using hcs, ?_⟩⟩
    rw [← htake, Array.toList_setIfInBounds, List.take_set]
theorem store_grown (W : World) (b o : Nat) (v : Value) : W.grownBy (W.setCell ⟨b, o, none⟩ v) (some b) := by
  have h := Below.setCell (Below.refl b W) (p := ⟨b, o, none⟩) (Nat.le_refl _) v
  exact ⟨h.os, h.tape, h.output, h.size, fun k hk hne => Below.heap_setCell _ _ _ k (fun e => hne (by rw [show k = b from e]))⟩
theorem own_beside {W W' : World} {B e z n : Nat} {v : Value} {xs : List Value} {row : Option Nat} (h : W.ownsRow B e z v n xs) (hg : W.grownBy W' row) (hne : ∀ q, v.ownBlock = some q → row ≠ some q) : W'.ownsRow B e z v n xs :=
  h.kept hg (by
    cases ho : v.ownBlock with
    | none => exact .inl rfl
    | some q => exact .inr fun e => hne q ho e.symm)
/-- Rows of numbers, in a row of rows; each of its own; all apart. T is the type of a row of numbers. -/
structure Fl (B T : Nat) (W : World) (lv : Value) (vs : List Value) (ms : Nat → List Int) : Prop where
  outer : W.ownsRow B T 1 lv vs.length vs
  rows : ∀ k, k < vs.length → W.ownsRow B 3 1 (vs.getD k undef) (ms k).length (ints (ms k))
  apart : ∀ j k q, j < vs.length → k < vs.length → j ≠ k → (vs.getD j undef).ownBlock = some q → (vs.getD k undef).ownBlock ≠ some q
theorem Fl.below {B T : Nat} {W W' : World} {lv : Value} {vs : List Value} {ms : Nat → List Int} (h : Fl B T W lv vs ms) (hb : Below W.heap.size W W') : Fl B T W' lv vs ms :=
  ⟨own_below h.outer hb, fun k hk => own_below (h.rows k hk) hb, h.apart⟩
/-- What is changed elsewhere is not told here. -/
theorem Fl.beside {B T : Nat} {W W' : World} {lv : Value} {vs : List Value} {ms : Nat → List Int} {row : Option Nat} (h : Fl B T W lv vs ms) (hg : W.grownBy W' row) (h1 : ∀ q, lv.ownBlock = some q → row ≠ some q) (h2 : ∀ k q, k < vs.length → (vs.getD k undef).ownBlock = some q → row ≠ some q) : Fl B T W' lv vs ms :=
  ⟨own_beside h.outer hg h1, fun k hk => own_beside (h.rows k hk) hg (h2 k · hk), h.apart⟩
def updL (ms : Nat → List Int) (k : Nat) (l : List Int) (j : Nat) : List Int := if j = k then l else ms j
theorem fints_set (l : List Int) (i : Nat) (x : Int) : (ints l).set i (.int .i64 x) = ints (l.set i x) := by
  unfold ints
  rw [List.map_set]
/-- Where a row's cell lies. -/
theorem Fl.cell {B T : Nat} {W : World} {lv : Value} {vs : List Value} {ms : Nat → List Int} (h : Fl B T W lv vs ms) {k i : Nat} (hk : k < vs.length) (hi : i < (ms k).length) :
    ∃ g cap, vs.getD k undef = .slice (some ⟨g, 0, none⟩) (ms k).length cap ∧ B ≤ g ∧ g < W.heap.size ∧ W.cell? ⟨g, i, none⟩ = some (.int .i64 ((ms k).getD i 0)) := by
  obtain ⟨g, cap, e, hb, _, _, hg⟩ := own_shape (h.rows k hk) (by omega)
  refine ⟨g, cap, e, hb, hg, ?_⟩
  have hr := h.rows k hk
  rw [e] at hr
  rw [hr.cellAt i (by omega)]
  simp [ints, List.getD, hi]
/-- A number is stored into one of them. -/
theorem Fl.put {B T : Nat} {W : World} {lv : Value} {vs : List Value} {ms : Nat → List Int} (h : Fl B T W lv vs ms) (hT : T ≠ 3) {k i g cap : Nat} (hk : k < vs.length) (e : vs.getD k undef = .slice (some ⟨g, 0, none⟩) (ms k).length cap) (x : Int) :
    Fl B T (W.setCell ⟨g, i, none⟩ (.int .i64 x)) lv vs (updL ms k ((ms k).set i x)) := by
  have ho : (vs.getD k undef).ownBlock = some g := by rw [e]; rfl
  have hg := store_grown W g i (.int .i64 x)
  refine ⟨own_beside h.outer hg (fun q hq eq => ?_), fun j hj => ?_, h.apart⟩
  · cases eq
    exact hT (own_type h.outer (h.rows k hk) hq ho)
  · unfold updL
    by_cases ejk : j = k
    · subst ejk
      rw [if_pos rfl, List.length_set]
      have hr := h.rows j hj
      rw [e] at hr ⊢
      have := own_store (k := i) hr (.int .i64 x)
      rw [fints_set] at this
      exact this
    · rw [if_neg ejk]
      exact own_beside (h.rows j hj) hg (fun q hq eq => by cases eq; exact h.apart j k g hj hk ejk hq ho)
/-- The mark of a place. -/
def mkN (k i : Int) : Int := 1000003 * (k + 7) + i
end Go.Proofs.YtlbjmkljmhfjdaaGreat
namespace Go.Proofs.YtlbjmkljmhfjdaaGreat
open Go Go.RowKit Go.Maps
/-- Nothing below B is changed, no block that there was but of numbers, and none from C on. -/
structure Lw (B C : Nat) (w W : World) : Prop where
  low : Below B w W
  keep : ∀ (b : Nat) (vs : Array Value) (T2 : TypeId), T2 ≠ 3 → Blk w b vs T2 → Blk W b vs T2
  high : ∀ b, C ≤ b → b < w.heap.size → W.heap[b]? = w.heap[b]?
/-- Where a row may lie that is changed. -/
def Home (C N : Nat) (v : Value) : Prop := ∀ q, v.ownBlock = some q → q < C ∨ N ≤ q
theorem Lw.refl (B C : Nat) (w : World) : Lw B C w w := ⟨Below.refl _ _, fun _ _ _ _ h => h, fun _ _ _ => rfl⟩
theorem Lw.size {B C : Nat} {w W : World} (h : Lw B C w W) : w.heap.size ≤ W.heap.size := h.low.size
theorem Lw.step {B C : Nat} {w W W' : World} (h : Lw B C w W) (hB : B ≤ W.heap.size) (hb : Below W.heap.size W W') : Lw B C w W' :=
  ⟨h.low.trans (hb.mono hB), fun b vs T2 h1 k => (h.keep b vs T2 h1 k).below' hb, fun b h1 h2 => (hb.block b (by have := h.size; omega)).trans (h.high b h1 h2)⟩
theorem Lw.grown {B B' C e z n : Nat} {w W W' : World} {v : Value} {xs : List Value} (h : Lw B C w W) (hB : B ≤ W.heap.size) (ho : W.ownsRow B e z v n xs) (he : (e = 3 ∧ Home C w.heap.size v) ∨ ∀ q, v.ownBlock = some q → w.heap.size ≤ q) (hg : W.grownBy W' v.ownBlock) : Lw B C w W' :=
  ⟨grown_below h.low hB hg (fun k e => (ho.lt k e).1), fun b vs T2 h1 k => (h.keep b vs T2 h1 k).grown hg (fun eq => by
    rcases he with ⟨rfl, _⟩ | he
    · exact own_ne ho (h.keep b vs T2 h1 k) h1 eq.symm
    · have h2 := he b eq.symm
      have h3 := k.lt
      omega), fun b h1 h2 => (hg.block b (by have := h.size; omega) (fun eq => by
    rcases he with ⟨_, he⟩ | he
    · have := he b eq.symm; omega
    · have := he b eq.symm; omega)).trans (h.high b h1 h2)⟩
theorem Lw.set {B C e z n g i : Nat} {w W : World} {v u : Value} {xs : List Value} (h : Lw B C w W) (hB : B ≤ W.heap.size) (ho : W.ownsRow B e z v n xs) (he : (e = 3 ∧ Home C w.heap.size v) ∨ ∀ q, v.ownBlock = some q → w.heap.size ≤ q) (hv : v.ownBlock = some g) : Lw B C w (W.setCell ⟨g, i, none⟩ u) :=
  h.grown (B' := B) hB ho he (by rw [hv]; exact store_grown W g i u)
/-- Rows whose first ones are marked, and a part of the next one. -/
structure M1 (B T C : Nat) (w W : World) (lv : Value) (vs : List Value) (ln : Nat → Nat) (ms : Nat → List Int) (k i : Nat) : Prop where
  fl : Fl B T W lv vs ms
  len : ∀ j, (ms j).length = ln j
  done : ∀ j, j < k → ∀ p, p < ln j → (ms j).getD p 0 = mkN j p
  part : ∀ p, p < i → (ms k).getD p 0 = mkN k p
  low : Lw B C w W
  home : ∀ j q, j < vs.length → (vs.getD j undef).ownBlock = some q → q < C
theorem M1.below {B T C : Nat} {w W W' : World} {lv : Value} {vs : List Value} {ln : Nat → Nat} {ms : Nat → List Int} {k i : Nat} (h : M1 B T C w W lv vs ln ms k i) (hB : B ≤ W.heap.size) (hb : Below W.heap.size W W') : M1 B T C w W' lv vs ln ms k i :=
  ⟨h.fl.below hb, h.len, h.done, h.part, h.low.step hB hb, h.home⟩
theorem M1.next {B T C : Nat} {w W : World} {lv : Value} {vs : List Value} {ln : Nat → Nat} {ms : Nat → List Int} {k i g cap : Nat} (h : M1 B T C w W lv vs ln ms k i) (hT : T ≠ 3) (hk : k < vs.length) (hi : i < ln k) (e : vs.getD k undef = .slice (some ⟨g, 0, none⟩) (ln k) cap) (hB : B ≤ W.heap.size) :
    M1 B T C w (W.setCell ⟨g, i, none⟩ (.int .i64 (mkN k i))) lv vs ln (updL ms k ((ms k).set i (mkN k i))) k (i + 1) := by
  have hlk := h.len k
  refine ⟨h.fl.put hT hk (by rw [hlk]; exact e) _, fun j => ?_, fun j hj p hp => ?_, fun p hp => ?_, h.low.set hB (h.fl.rows k hk) (.inl ⟨rfl, fun q e => .inl (h.home k q hk e)⟩) (by rw [e]; rfl), h.home⟩
  · unfold updL
    split
    · rename_i e2; rw [List.length_set, e2]; exact hlk
    · exact h.len j
  · unfold updL
    rw [if_neg (by omega)]
    exact h.done j hj p hp
  · unfold updL
    rw [if_pos rfl]
    by_cases e2 : p = i
    · subst e2
      simp only [List.getD]
      rw [List.getElem?_set_self (by omega)]
      rfl
    · have := h.part p (by omega)
      simp only [List.getD] at this ⊢
      rw [List.getElem?_set_ne (fun h => e2 h.symm)]
      exact this
theorem M1.row {B T C : Nat} {w W : World} {lv : Value} {vs : List Value} {ln : Nat → Nat} {ms : Nat → List Int} {k : Nat} (h : M1 B T C w W lv vs ln ms k (ln k)) : M1 B T C w W lv vs ln ms (k + 1) 0 :=
  ⟨h.fl, h.len, fun j hj p hp => by
    by_cases e : j = k
    · subst e; exact h.part p hp
    · exact h.done j (by omega) p hp, fun p hp => by omega, h.low, h.home⟩
/-- The row of rows, read at a place. -/
theorem Fl.outer_at {B T : Nat} {W : World} {lv : Value} {vs : List Value} {ms : Nat → List Int} (h : Fl B T W lv vs ms) {k lb n c : Nat} (e : lv = .slice (some ⟨lb, 0, none⟩) n c) (hk : k < vs.length) :
    ∃ A c', vs.getD k undef = .slice A (ms k).length c' ∧ W.cell? ⟨lb, k, none⟩ = some (.slice A (ms k).length c') ∧ lb < W.heap.size := by
  obtain ⟨A, c', e2, _, _⟩ := own_slice (h.rows k hk)
  have ho := h.outer
  obtain ⟨g, cap, e3, _, _, _, hlt⟩ := own_shape ho (by omega)
  rw [e] at e3 ho
  simp only [Value.slice.injEq, Option.some.injEq, Addr.mk.injEq, and_true, true_and] at e3
  obtain ⟨rfl, rfl, rfl⟩ := e3
  refine ⟨A, c', e2, ?_, hlt⟩
  have := ho.cellAt k (by omega)
  rw [this, ← e2]
  simp [List.getD, hk]
end Go.Proofs.YtlbjmkljmhfjdaaGreat
namespace Go.Proofs.YtlbjmkljmhfjdaaGreat
open Go Go.RowKit Go.Maps
theorem own_prefix {W : World} {B e b n m cap : Nat} {xs : List Value} (h : W.ownsRow B e 1 (.slice (some ⟨b, 0, none⟩) n cap) n xs) (hm : m ≤ n) : W.ownsRow B e 1 (.slice (some ⟨b, 0, none⟩) m cap) m (xs.take m) := by
  have hl := h.1
  rcases h.2 with ⟨h', _⟩ | ⟨g', cap', cur, h', hb, hg, hnc, hcm, hcs, htake⟩
  · simp at h'
  · simp only [Value.slice.injEq, Option.some.injEq, Addr.mk.injEq, and_true, true_and] at h'
    obtain ⟨rfl, rfl⟩ := h'
    refine ⟨by simp; omega, .inr ⟨b, cap, cur, rfl, hb, hg, by omega, hcm, hcs, ?_⟩⟩
    rw [← htake, List.take_take]
    congr 1
    omega
theorem ints_take (l : List Int) (n : Nat) : (ints l).take n = ints (l.take n) := by
  unfold ints
  rw [List.map_take]
/-- In the same block, with the same room. -/
def Near (v v' : Value) (n n' : Nat) : Prop := ∃ b cap, v = .slice (some ⟨b, 0, none⟩) n cap ∧ v' = .slice (some ⟨b, 0, none⟩) n' cap
/-- The grown rows so far. -/
structure Gs (B T : Nat) (W : World) (lv : Value) (vs : List Value) (ms : Nat → List Int) (gv : Value) (gvs : List Value) (hs : Nat → List Int) (k : Nat) : Prop where
  fl : Fl B T W lv vs ms
  gout : W.ownsRow B T 1 gv gvs.length gvs
  glen : gvs.length = vs.length
  gl : ∀ q, gv.ownBlock = some q → lv.ownBlock ≠ some q
  grow : ∀ j, j < k → W.ownsRow B 3 1 (gvs.getD j undef) (hs j).length (ints (hs j))
  cross : ∀ j i q, j < k → i < vs.length → i ≠ j → (gvs.getD j undef).ownBlock = some q → (vs.getD i undef).ownBlock ≠ some q
  gap : ∀ j i q, j < k → i < k → i ≠ j → (gvs.getD j undef).ownBlock = some q → (gvs.getD i undef).ownBlock ≠ some q
theorem Gs.below {B T : Nat} {W W' : World} {lv : Value} {vs : List Value} {ms : Nat → List Int} {gv : Value} {gvs : List Value} {hs : Nat → List Int} {k : Nat} (h : Gs B T W lv vs ms gv gvs hs k) (hb : Below W.heap.size W W') : Gs B T W' lv vs ms gv gvs hs k :=
  ⟨h.fl.below hb, own_below h.gout hb, h.glen, h.gl, fun j hj => own_below (h.grow j hj) hb, h.cross, h.gap⟩
/-- The one that grows now. -/
structure Cur (B : Nat) (W : World) (vs : List Value) (ms : Nat → List Int) (gvs : List Value) (k : Nat) (g : Value) (l : List Int) : Prop where
  own : W.ownsRow B 3 1 g l.length (ints l)
  pre : l.take (ms k).length = ms k
  rel : Near (vs.getD k undef) g (ms k).length l.length ∨ ∀ j q, j < vs.length → (vs.getD j undef).ownBlock = some q → g.ownBlock ≠ some q
  oth : ∀ j q, j < k → (gvs.getD j undef).ownBlock = some q → g.ownBlock ≠ some q
theorem Cur.below {B : Nat} {W W' : World} {vs : List Value} {ms : Nat → List Int} {gvs : List Value} {k : Nat} {g : Value} {l : List Int} (h : Cur B W vs ms gvs k g l) (hb : Below W.heap.size W W') : Cur B W' vs ms gvs k g l :=
  ⟨own_below h.own hb, h.pre, h.rel, h.oth⟩
section
variable {B T : Nat} {W W' : World} {lv : Value} {vs : List Value} {ms : Nat → List Int} {gv : Value} {gvs : List Value} {hs : Nat → List Int} {k : Nat}
theorem Gs.begin (h : Gs B T W lv vs ms gv gvs hs k) (hk : k < vs.length) : Cur B W vs ms gvs k (vs.getD k undef) (ms k) := by
  refine ⟨h.fl.rows k hk, List.take_length, ?_, fun j q hj hq => h.cross j k q hj hk (by omega) hq⟩
  obtain ⟨A, c, e, hn, _⟩ := own_slice (h.fl.rows k hk)
  have hr := h.fl.rows k hk
  rcases hr.2 with ⟨e1, _⟩ | ⟨b, cap, cur, e1, _⟩
  · exact .inr fun j q _ _ => by rw [e1]; simp [Value.ownBlock]
  · exact .inl ⟨b, cap, e1, e1⟩
/-- It is appended to: what was told stays. -/
theorem Gs.app (h : Gs B T W lv vs ms gv gvs hs k) (hT : T ≠ 3) (hk : k < vs.length) {g g' : Value} {l news : List Int} (hc : Cur B W vs ms gvs k g l) (hm : 0 < news.length) (ho : W'.ownsRow B 3 1 g' (l.length + news.length) (ints l ++ ints news))
    (hg : (∃ b cap, g = .slice (some ⟨b, 0, none⟩) l.length cap ∧ g' = .slice (some ⟨b, 0, none⟩) (l.length + news.length) cap ∧ W.grownBy W' (some b)) ∨ (g'.ownBlock = some W.heap.size ∧ W.grownBy W' none) ∨ (news.length = 0 ∧ g' = g ∧ W' = W)) :
    Gs B T W' lv vs ms gv gvs hs k ∧ Cur B W' vs ms gvs k g' (l ++ news) := by
  have hll : (l ++ news).length = l.length + news.length := List.length_append
  have hoo : W'.ownsRow B 3 1 g' (l ++ news).length (ints (l ++ news)) := by
    rw [hll]
    have e : ints (l ++ news) = ints l ++ ints news := by unfold ints; rw [List.map_append]
    rw [e]
    exact ho
  have hple : (ms k).length ≤ l.length := by
    have := congrArg List.length hc.pre
    rw [List.length_take] at this
    omega
  have hpre : (l ++ news).take (ms k).length = ms k := by
    rw [List.take_append_of_le_length hple]
    exact hc.pre
  rcases hg with ⟨b, cap, rfl, rfl, hgr⟩ | ⟨hnew, hgr⟩ | ⟨h0, _⟩
  · have hgb : (Value.slice (some ⟨b, 0, none⟩) l.length cap).ownBlock = some b := rfl
    have outT : ∀ {v : Value} {n : Nat} {xs : List Value}, W.ownsRow B T 1 v n xs → W'.ownsRow B T 1 v n xs := fun {v n xs} hv => own_beside hv hgr (fun q hq e => by cases e; exact hT (own_type hv hc.own hq hgb))
    have hgs : ∀ j, j < k → W'.ownsRow B 3 1 (gvs.getD j undef) (hs j).length (ints (hs j)) := fun j hj => own_beside (h.grow j hj) hgr (fun q hq e => by cases e; exact hc.oth j b hj hq hgb)
    rcases hc.rel with ⟨b', cap', e1, e2⟩ | hap
    · simp only [Value.slice.injEq, Option.some.injEq, Addr.mk.injEq, and_true, true_and] at e2
      obtain ⟨rfl, rfl⟩ := e2
      refine ⟨⟨⟨outT h.fl.outer, fun j hj => ?_, h.fl.apart⟩, outT h.gout, h.glen, h.gl, hgs, h.cross, h.gap⟩, ⟨hoo, hpre, .inl ⟨b, cap, e1, by rw [hll]⟩, fun j q hj hq => hc.oth j q hj hq⟩⟩
      by_cases ejk : j = k
      · subst ejk
        rw [e1]
        have h9 := own_prefix (m := (ms j).length) ho (by omega)
        have e : ints l ++ ints news = ints (l ++ news) := by unfold ints; rw [List.map_append]
        rw [e, ints_take, hpre] at h9
        exact h9
      · exact own_beside (h.fl.rows j hj) hgr (fun q hq e => by cases e; exact h.fl.apart j k b hj hk ejk hq (by rw [e1]; rfl))
    · exact ⟨⟨⟨outT h.fl.outer, fun j hj => own_beside (h.fl.rows j hj) hgr (fun q hq e => by cases e; exact hap j b hj hq hgb), h.fl.apart⟩, outT h.gout, h.glen, h.gl, hgs, h.cross, h.gap⟩, ⟨hoo, hpre, .inr fun j q hj hq => hap j q hj hq, fun j q hj hq => hc.oth j q hj hq⟩⟩
  · have keep : ∀ {e n : Nat} {v : Value} {xs : List Value}, W.ownsRow B e 1 v n xs → W'.ownsRow B e 1 v n xs := fun {e n v xs} hv => own_beside hv hgr (fun q _ e => by cases e)
    refine ⟨⟨⟨keep h.fl.outer, fun j hj => keep (h.fl.rows j hj), h.fl.apart⟩, keep h.gout, h.glen, h.gl, fun j hj => keep (h.grow j hj), h.cross, h.gap⟩, ⟨hoo, hpre, .inr fun j q hj hq e => ?_, fun j q hj hq e => ?_⟩⟩
    · rw [hnew] at e
      have := ((h.fl.rows j hj).lt q hq).2
      cases e
      omega
    · rw [hnew] at e
      have := ((h.grow j hj).lt q hq).2
      cases e
      omega
  · omega
/-- It is put into the row of grown ones. -/
theorem Gs.fin (h : Gs B T W lv vs ms gv gvs hs k) (hT : T ≠ 3) (hk : k < vs.length) {g : Value} {l : List Int} (hc : Cur B W vs ms gvs k g l) {gb n cap : Nat} (e : gv = .slice (some ⟨gb, 0, none⟩) n cap) :
    Gs B T (W.setCell ⟨gb, k, none⟩ g) lv vs ms gv (gvs.set k g) (updL hs k l) (k + 1) := by
  have hgr := store_grown W gb k g
  have hgo : gv.ownBlock = some gb := by rw [e]; rfl
  have keep : ∀ {n : Nat} {v : Value} {xs : List Value}, W.ownsRow B 3 1 v n xs → (W.setCell ⟨gb, k, none⟩ g).ownsRow B 3 1 v n xs := fun {n v xs} hv => own_beside hv hgr (fun q hq e' => by cases e'; exact hT (own_type h.gout hv hgo hq))
  have hn : n = gvs.length := by
    obtain ⟨A, c, e', _, _⟩ := own_slice h.gout
    rw [e] at e'
    simp only [Value.slice.injEq] at e'
    exact e'.2.1
  have at_k : (gvs.set k g).getD k undef = g := by
    simp only [List.getD]
    rw [List.getElem?_set_self (by rw [h.glen]; exact hk)]
    rfl
  have at_j : ∀ j, j ≠ k → (gvs.set k g).getD j undef = gvs.getD j undef := fun j hj => by
    simp only [List.getD]
    rw [List.getElem?_set_ne (fun e => hj e.symm)]
  have hgv : ∀ i q, i < vs.length → i ≠ k → g.ownBlock = some q → (vs.getD i undef).ownBlock ≠ some q := fun i q hi hne hq => by
    rcases hc.rel with ⟨b, c, e1, e2⟩ | hap
    · have hqb : q = b := by rw [e2] at hq; exact (Option.some.inj hq).symm
      subst hqb
      exact h.fl.apart k i q hk hi (fun e => hne e.symm) (by rw [e1]; rfl)
    · exact fun e' => hap i q hi e' hq
  refine ⟨⟨own_beside h.fl.outer hgr (fun q hq e' => by cases e'; exact h.gl gb hgo hq), fun j hj => keep (h.fl.rows j hj), h.fl.apart⟩, ?_, by rw [List.length_set]; exact h.glen, h.gl, fun j hj => ?_, fun j i q hj hi hne hq => ?_, fun j i q hj hi hne hq => ?_⟩
  · rw [List.length_set]
    have hg2 := h.gout
    rw [e, hn] at hg2 ⊢
    exact own_store hg2 g
  · unfold updL
    by_cases ej : j = k
    · subst ej
      rw [if_pos rfl, at_k]
      exact keep hc.own
    · rw [if_neg ej, at_j j ej]
      exact keep (h.grow j (by omega))
  · by_cases ej : j = k
    · subst ej
      rw [at_k] at hq
      exact hgv i q hi hne hq
    · rw [at_j j ej] at hq
      exact h.cross j i q (by omega) hi hne hq
  · by_cases ej : j = k
    · subst ej
      rw [at_k] at hq
      rw [at_j i hne]
      exact fun e' => hc.oth i q (by omega) e' hq
    · rw [at_j j ej] at hq
      by_cases ei : i = k
      · subst ei
        rw [at_k]
        exact hc.oth j q (by omega) hq
      · rw [at_j i ei]
        exact h.gap j i q (by omega) (by omega) hne hq
end
end Go.Proofs.YtlbjmkljmhfjdaaGreat

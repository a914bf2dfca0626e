/- The deeds of ArenaEnds, built by append. -/
import Derived.Test.YtfcacgiejoeneaaLf
import Derived.Test.YtfcacgiejoeneaaSp
import Derived.Deep.RegionHeldLaw
set_option linter.unusedSimpArgs false
set_option linter.unusedVariables false
namespace Go.Proofs.Ytfcacgiejoeneaa
open Go Go.RowKit
attribute [local go_sem] Oper.semAt_some
def dcell (d : Deed) : List Value := [.int .i64 d.what, .int .i64 d.n, .int .i64 d.x, .slice d.A d.l.length d.c]
def dflat (ds : List Deed) : List Value := ds.flatMap dcell
theorem dflat_app (a b : List Deed) : dflat (a ++ b) = dflat a ++ dflat b := by unfold dflat; simp
/-- A deed whose things lie in a block of its own. -/
def GoodB (W : World) (d : Deed) : Prop :=
  (-9223372036854775808 ≤ d.what ∧ d.what < 9223372036854775808) ∧ (-9223372036854775808 ≤ d.n ∧ d.n < 9223372036854775808) ∧ (-9223372036854775808 ≤ d.x ∧ d.x < 9223372036854775808) ∧
  ((d.A = none ∧ d.c = 0 ∧ d.l = []) ∨ ∃ b, d.A = some ⟨b, 0, none⟩ ∧ Blk W b (ints d.l).toArray 3 ∧ d.l.length ≤ 3)
def endz : List Int := [-9223372036854775808, -1, 0, 1, 2, 3, 9223372036854775807]
theorem GoodB.grown {W W' : World} {d : Deed} {r : Option Nat} (h : GoodB W d) (hg : W.grownBy W' r) (hr : ∀ g, r = some g → ∃ cs c, W.heap[g]? = some (.cells cs 32 c)) : GoodB W' d := by
  refine ⟨h.1, h.2.1, h.2.2.1, ?_⟩
  rcases h.2.2.2 with h1 | ⟨b, h1, h2, h3⟩
  · exact .inl h1
  · refine .inr ⟨b, h1, (hg.block b (Blk.lt h2) (fun e => ?_)).trans h2, h3⟩
    obtain ⟨cs, c, hc⟩ := hr b e.symm
    rw [show W.heap[b]? = _ from h2] at hc
    simp at hc
theorem blk_new' (W : World) (vs : Array Value) (T B : Nat) (h : B = W.heap.size) : (W.alloc (.cells vs T)).heap[B]? = some (.cells vs T (0, 0)) := by subst h; exact Blk.new W vs T
theorem Try.infoInt : (Try.prog.info? 3).map (fun i => (i.zero, i.size, i.bytes)) = some (some (.int .i64 0), 1, 8) := by kernel_rfl
theorem own_belo {w w' : World} {base e size n : Nat} {v : Value} {xs : List Value} (h : w.ownsRow base e size v n xs) (hb : Below w.heap.size w w') : w'.ownsRow base e size v n xs := by
  refine ⟨h.1, ?_⟩
  rcases h.2 with hn | ⟨g, cap, cur, rfl, hbg, hgg, rest⟩
  · exact .inl hn
  · exact .inr ⟨g, cap, cur, rfl, hbg, (hb.block g (Array.getElem?_eq_some_iff.1 hgg).1).trans hgg, rest⟩
theorem app_kept {W W' : World} {b : Nat} {vs : Array Value} {row : Value} {base n : Nat} {xs : List Value} (hk : W.heap[b]? = some (.cells vs 3 (0, 0))) (ho : W.ownsRow base 32 4 row n xs) (hg : W.grownBy W' row.ownBlock) : W'.heap[b]? = some (.cells vs 3 (0, 0)) := by
  refine (hg.block b (Array.getElem?_eq_some_iff.1 hk).1 (fun e => ?_)).trans hk
  rcases ho.2 with ⟨h1, _⟩ | ⟨g, cap, cur, rfl, _, hgg, _⟩
  · subst h1; cases e
  · simp only [Value.ownBlock, Option.some.injEq] at e
    subst e
    rw [hk] at hgg
    simp at hgg
theorem s9 {w W W' : World} {b i j : Nat} {u v row : Value} {vs : Array Value} {base n : Nat} {xs : List Value} (h1 : w.cell? ⟨b, i, none⟩ = some u) (h2 : w.cell? ⟨b, j, none⟩ = some v) (hk : w.heap[b]? = some (.cells vs 3 (0, 0))) (hb : Below w.heap.size w W) (ho : W.ownsRow base 32 4 row n xs) (hg : W.grownBy W' row.ownBlock) :
    W'.cell? ⟨b, i, none⟩ = some u ∧ W'.cell? ⟨b, j, none⟩ = some v := by
  have e1 : W'.heap[b]? = w.heap[b]? := (app_kept ((hb.block b (Array.getElem?_eq_some_iff.1 hk).1).trans hk) ho hg).trans hk.symm
  exact ⟨by rw [← h1]; simp only [World.cell?, e1], by rw [← h2]; simp only [World.cell?, e1]⟩
theorem GoodB.below {w w' : World} {d : Deed} (h : GoodB w d) (hb : Below w.heap.size w w') : GoodB w' d := ⟨h.1, h.2.1, h.2.2.1, h.2.2.2.imp id (fun ⟨b, h1, h2, h3⟩ => ⟨b, h1, h2.below' hb, h3⟩)⟩
theorem GoodB.good {W : World} {d : Deed} (h : GoodB W d) : Good W d := by
  obtain ⟨q1, q2, q3, h⟩ := h
  rcases h with ⟨h1, h2, h3⟩ | ⟨b, h1, h2, h3⟩
  · exact ⟨q1, q2, q3, fun _ => h2, fun h0 => by rw [h3] at h0; simp [ints] at h0, by rw [h3]; decide⟩
  · exact ⟨q1, q2, q3, fun e => absurd (h1.symm.trans e) (by simp), fun h0 => ⟨b, 0, h1, h2.lt, fun i hi => by rw [Nat.zero_add, h2.cell]; simp⟩, by omega⟩
theorem dflat_at : ∀ (ds : List Deed) (i j : Nat), i < ds.length → j < 4 → (dflat ds)[i * 4 + j]? = (dcell (ds.getD i Deed.zero))[j]?
  | [], _, _, h, _ => by simp at h
  | d :: ds, 0, j, _, hj => by
    unfold dflat
    rw [List.flatMap_cons, List.getElem?_append_left (by simp [dcell]; omega)]
    simp
  | d :: ds, i + 1, j, h, hj => by
    have ih := dflat_at ds i j (by simpa using h) hj
    unfold dflat at ih ⊢
    rw [List.flatMap_cons, List.getElem?_append_right (by simp [dcell]; omega)]
    rw [show (i + 1) * 4 + j - (dcell d).length = i * 4 + j by simp [dcell]; omega, ih]
    simp
theorem deeds_of {W : World} {base n c : Nat} {A : Option Addr} {ds : List Deed} (h : W.ownsRow base 32 4 (.slice A n c) n (dflat ds)) (hn : ds.length = n) : Deeds W A ds := by
  intro h0
  have h' := h.2
  rcases h' with ⟨h1, h2⟩ | ⟨g, cap, cur, h1, hb, hh, _⟩
  · omega
  · simp only [Value.slice.injEq] at h1
    obtain ⟨rfl, _, rfl⟩ := h1
    refine ⟨g, 0, rfl, (Array.getElem?_eq_some_iff.1 hh).1, fun i hi => ?_⟩
    have key : ∀ j, j < 4 → W.cell? ⟨g, 0 + i * 4 + j, none⟩ = (dcell (ds.getD i Deed.zero))[j]? := fun j hj => by
      rw [Nat.zero_add, h.cellAt (i * 4 + j) (by omega), dflat_at ds i j hi hj]
    exact ⟨key 0 (by omega), key 1 (by omega), key 2 (by omega), key 3 (by omega)⟩
theorem lies_neu (W : World) (l : List Int) : Lies (W.alloc (.cells (ints l).toArray 3)) (some ⟨W.heap.size, 0, none⟩) (ints l) := fun _ => ⟨W.heap.size, 0, rfl, by simp, fun i hi => by rw [Nat.zero_add, (Blk.new W (ints l).toArray 3).cell]; simp⟩
theorem fin4 {w W : World} {tmps : Array Value} {D : Nat} (hp : tmps.getD 0 undef = .bool true) (hD : W.heap[D]? = some (.deferred (some []))) (hb : Below w.heap.size w W) (h1 : w.heap.size ≤ D) :
    bodyPostM Fence.wide 12 Try.prog Try.f4 (fun e w' => e = .returned (.bool true) ∧ Below w.heap.size w w') .ret { tmps := tmps, defers := [{ target := .collected D, args := #[] }] } W := by
  refine ⟨by simp, .inl ⟨_, _, rfl, run_takeDeferred hD, ?_⟩⟩
  have hp' : tmps[0]?.getD undef = .bool true := by simpa using hp
  exact ⟨_, by simp [results, Try.results4, hp', go_sem], rfl, put_below hb h1 _⟩
theorem arena0 {w1 : World} {B k : Nat} (hk : B ≤ k) (h : Blk w1 k #[.slice none 0 0, .int .i64 9223372036854775807, .int .i64 0, .pointer (some ⟨k, 0, none⟩)] 61) :
    Ar 61 3 (w1.alloc (.cells (ints [7, 8, 9]).toArray 3)) B k 9223372036854775807 0 (.slice none 0 0) (ints []) := ⟨hk, h.alloc _, World.ownsRow_nil _ _ _ _, by decide, by decide, by decide, by decide⟩
theorem things_app (a b : List Deed) : things (a ++ b) = things a + things b := by unfold things; simp
/-- Five deeds more. -/
theorem deeds_next {w0 wr W W' : World} {row v' : Value} {q n m : Nat} {ds nl : List Deed} {vs : Array Value} (ho' : W'.ownsRow w0.heap.size 32 4 v' n (dflat ds ++ vs.toList)) (hn : n = 5 * (q + 1)) (hvs : vs.toList = dflat nl) (hln : nl.length = 5) (ht : things nl ≤ 4) (ho : W.ownsRow w0.heap.size 32 4 row m (dflat ds)) (hg : W.grownBy W' row.ownBlock)
    (hb : Below wr.heap.size wr W) (GD : ∀ d ∈ ds, GoodB wr d) (hnl : ∀ d ∈ nl, GoodB W d) (BR : Below w0.heap.size w0 wr) (TH : ds.length = 5 * q ∧ things ds ≤ 4 * q) :
    ∃ ds' : List Deed, ds'.length = 5 * (q + 1) ∧ things ds' ≤ 4 * (q + 1) ∧ W'.ownsRow w0.heap.size 32 4 v' (5 * (q + 1)) (dflat ds') ∧ (∀ d ∈ ds', GoodB W' d) ∧ Below w0.heap.size w0 W' := by
  subst hn
  refine ⟨ds ++ nl, by rw [List.length_append]; omega, by rw [things_app]; omega, by rw [dflat_app, ← hvs]; exact ho', fun d hd => ?_, ?_⟩
  · have hd' : GoodB W d := by
      rcases List.mem_append.1 hd with h | h
      · exact (GD d h).below hb
      · exact hnl d h
    refine hd'.grown hg (fun g e => ?_)
    rcases ho.2 with ⟨h1, _⟩ | ⟨g', cap, cur, rfl, _, hgg, _⟩
    · subst h1; cases e
    · simp only [Value.ownBlock, Option.some.injEq] at e
      subst e
      exact ⟨cur, _, hgg⟩
  · exact (BR.trans (hb.mono BR.size)).grown hg (Nat.le_trans BR.size hb.size) (fun j hj => (ho.lt j hj).1)
theorem made_cells (k : Nat) : madeCells (Value.int .i64 0).cells k = (ints (List.replicate k 0)).toArray := by
  apply Array.ext
  · simp [madeCells, ints]
  · intro i h1 h2
    simp [madeCells, ints, Value.cells, Nat.mod_one]
theorem balloc {B : Nat} {w0 w : World} (h : Below B w0 w) (hB : B ≤ w.heap.size) (o : Obj) : Below B w0 (w.alloc o) := h.alloc hB o
theorem keep2 {w W : World} {b i j : Nat} {u v : Value} (h1 : w.cell? ⟨b, i, none⟩ = some u) (h2 : w.cell? ⟨b, j, none⟩ = some v) (hb : Below w.heap.size w W) : W.cell? ⟨b, i, none⟩ = some u ∧ W.cell? ⟨b, j, none⟩ = some v :=
  ⟨(hb.cell (p := ⟨b, i, none⟩) (World.block_lt_of_cell? _ _ h1)).trans h1, (hb.cell (p := ⟨b, j, none⟩) (World.block_lt_of_cell? _ _ h2)).trans h2⟩
theorem b1 (w : World) : Below w.heap.size w w.drew := ⟨rfl, rfl, rfl, Nat.le_refl _, fun _ _ => rfl⟩
theorem bnext {w0 w : World} (h : Below w0.heap.size w0 w) (o : Obj) : Below w0.heap.size w0 (w.alloc o) := h.alloc h.size o
theorem made (k : Nat) (hk : k ≤ 3) (W : World) : (Instr.makeSlice 28 (.int .i64 (k : Int)) (.int .i64 (k : Int))).run Try.prog W = .ok (.slice (some ⟨W.heap.size, 0, none⟩) k k) (W.alloc (.cells (ints (List.replicate k 0)).toArray 3)) := by
  obtain ⟨i, hi, ei⟩ := Option.map_eq_some_iff.1 Try.infoInt
  simp only [Prod.mk.injEq] at ei
  obtain ⟨h1, h2, h3⟩ := ei
  rw [run_makeSlice W 28 3 i (.int .i64 0) Try.underlying28 hi h1 .i64 .i64 k k (by omega) (by omega) (by rw [h2]; omega) (by rw [h3]; omega) (by omega), h2]
  rw [show ((k : Nat) : Int).toNat = k from Int.toNat_natCast k, Nat.mul_one, made_cells]
theorem good5 {W : World} (d1 : Deed) (d4 : Deed) (e1 x2 e2 : Int) (h1 : GoodB W d1) (h4 : GoodB W d4) (he1 : -9223372036854775808 ≤ e1 ∧ e1 < 9223372036854775808) (hx : -9223372036854775808 ≤ x2 ∧ x2 < 9223372036854775808) (he2 : -9223372036854775808 ≤ e2 ∧ e2 < 9223372036854775808) :
    ∀ d ∈ [d1, ⟨1, e1, x2, none, 0, []⟩, ⟨2, e2, 0, none, 0, []⟩, d4, Deed.zero], GoodB W d := by
  intro d hd
  simp only [List.mem_cons, List.not_mem_nil, or_false] at hd
  rcases hd with rfl | rfl | rfl | rfl | rfl
  · exact h1
  · exact ⟨(by decide : (-9223372036854775808 : Int) ≤ 1 ∧ (1 : Int) < 9223372036854775808), he1, hx, .inl ⟨rfl, rfl, rfl⟩⟩
  · exact ⟨(by decide : (-9223372036854775808 : Int) ≤ 2 ∧ (2 : Int) < 9223372036854775808), he2, (by decide : (-9223372036854775808 : Int) ≤ 0 ∧ (0 : Int) < 9223372036854775808), .inl ⟨rfl, rfl, rfl⟩⟩
  · exact h4
  · exact ⟨(by decide : (-9223372036854775808 : Int) ≤ 0 ∧ (0 : Int) < 9223372036854775808), (by decide : (-9223372036854775808 : Int) ≤ 0 ∧ (0 : Int) < 9223372036854775808), (by decide : (-9223372036854775808 : Int) ≤ 0 ∧ (0 : Int) < 9223372036854775808), .inl ⟨rfl, rfl, rfl⟩⟩
theorem goodl {W : World} {b c : Nat} {l : List Int} (h : Blk W b (ints l).toArray 3) (hl : l.length ≤ 3) : GoodB W ⟨0, 0, 0, some ⟨b, 0, none⟩, c, l⟩ := ⟨(by decide : (-9223372036854775808 : Int) ≤ 0 ∧ (0 : Int) < 9223372036854775808), (by decide : (-9223372036854775808 : Int) ≤ 0 ∧ (0 : Int) < 9223372036854775808), (by decide : (-9223372036854775808 : Int) ≤ 0 ∧ (0 : Int) < 9223372036854775808), .inr ⟨b, rfl, h, hl⟩⟩
theorem Try.infoDeed : (Try.prog.info? 32).map (fun i => (i.zero, i.size, i.bytes)) = some (some (.agg #[.int .i64 0, .int .i64 0, .int .i64 0, .slice none 0 0]), 4, 48) := by kernel_rfl
set_option maxRecDepth 100000 in
set_option maxHeartbeats 4000000 in
theorem ends_law (w : World) : Calls Try.prog 4 #[] w fun e w' => e = .returned (.bool true) ∧ Below w.heap.size w w' := by
  have NO := Lib.hid none_any
  obtain ⟨i0, hi, ei⟩ := Option.map_eq_some_iff.1 Try.infoDeed
  simp only [Prod.mk.injEq] at ei
  obtain ⟨hz0, hz1, hz2⟩ := ei
  refine (callsIn_wide (n := 12)).1 ?_
  refine callsIn_of_wp_marks Try.func4 rfl trivial ?_ rfl
  simp only [Try.ntmps4, List.size_toArray, List.length_cons, List.length_nil, Nat.reduceAdd, Nat.reduceSub, Array.replicate_succ, Array.replicate_zero, List.push_toArray, List.append_toArray, List.nil_append, List.cons_append]
  refine wpIn_wide.2 ?_
  go_wp2_with fail
  obtain ⟨we, ee⟩ : ∃ u, u = w.alloc (.cells (ints endz).toArray 3) := ⟨_, rfl⟩
  obtain ⟨eb, eeb⟩ : ∃ u, u = w.heap.size := ⟨_, rfl⟩
  have KE : RowKit.Hid (Blk we eb (ints endz).toArray 3) := Lib.hid (by rw [ee, eeb]; exact Blk.new _ _ _)
  have BE : RowKit.Hid (Below w.heap.size w we) := Lib.hid (by rw [ee]; exact B1 _ _)
  simp only [ints, endz, List.map_cons, List.map_nil] at ee
  rw [← ee, ← eeb]
  have EB := Lib.hid eeb
  clear ee eeb
  go_loopw [2] (fun v2 wr => ∃ r : Int, -1 ≤ r ∧ r ≤ 3 ∧ v2 = .int .i64 r ∧ Below we.heap.size we wr) (fun v2 _ => (3 - intOf v2).toNat)
  case atStart => exact ⟨-1, by omega, by omega, rfl, Below.refl _ _⟩
  case round =>
    obtain ⟨r, hr1, hr2, rfl, hb⟩ := hrel
    have HB := Lib.hid hb
    clear hb
    by_cases hlt : r < 3
    · go_wp2_with fail
      obtain ⟨w0, e0⟩ : ∃ u, u = wr := ⟨_, rfl⟩
      rw [← e0] at HB ⊢
      clear e0
      go_loopw [3, 4] (fun v3 v4 wr => ∃ (q : Nat) (ds : List Deed), q ≤ 7 ∧ v4 = .int .i64 q ∧ ds.length = 5 * q ∧ things ds ≤ 4 * q ∧ wr.ownsRow w0.heap.size 32 4 v3 (5 * q) (dflat ds) ∧ (∀ d ∈ ds, GoodB wr d) ∧ Below w0.heap.size w0 wr) (fun _ v4 _ => 7 - (intOf v4).toNat)
      case atStart => exact ⟨0, [], by omega, rfl, rfl, by decide, World.ownsRow_nil _ _ _ _, by simp, Below.refl _ _⟩
      case round =>
        obtain ⟨q, ds, hq, rfl, hl, ht, ho, hG, hb⟩ := hrel
        obtain ⟨A, c, rfl, _, _⟩ := own_slice ho
        have KR := (KE.out.below' HB.out).below' hb
        have OW := Lib.hid ho
        have GD := Lib.hid hG
        have BR := Lib.hid hb
        have TH := Lib.hid (And.intro hl ht)
        clear hl ht ho hG hb
        have x0 : wr.cell? ⟨eb, 0, none⟩ = some (.int .i64 (-9223372036854775808)) := KR.cell 0
        have x1 : wr.cell? ⟨eb, 1, none⟩ = some (.int .i64 (-1)) := KR.cell 1
        have x2 : wr.cell? ⟨eb, 2, none⟩ = some (.int .i64 0) := KR.cell 2
        have x3 : wr.cell? ⟨eb, 3, none⟩ = some (.int .i64 1) := KR.cell 3
        have x4 : wr.cell? ⟨eb, 4, none⟩ = some (.int .i64 2) := KR.cell 4
        have x5 : wr.cell? ⟨eb, 5, none⟩ = some (.int .i64 3) := KR.cell 5
        have x6 : wr.cell? ⟨eb, 6, none⟩ = some (.int .i64 9223372036854775807) := KR.cell 6
        have EB2 : RowKit.Hid (wr.heap[eb]? = some (.cells (ints endz).toArray 3 (0, 0))) := Lib.hid KR
        clear KR
        by_cases hq0 : q = 0
        · subst hq0
          have S0 := Lib.hid (And.intro x0 x0)
          clear x0 x1 x2 x3 x4 x5 x6
          have M := made 0 (by omega)
          simp only [Int.natCast_zero, Int.natCast_one, Int.cast_ofNat_Int, List.replicate, ints, List.map_nil, List.map_cons] at M
          have hw : IntKind.i64.wrap 0 = 0 := by decide
          go_wp2_with fail
          refine wp_mono (Q := calm _) ?_ (calm_le _)
          go_region_held_law (fun W' => W'.cell? ⟨eb, 0, none⟩ = some (.int .i64 (-9223372036854775808)) ∧ W'.cell? ⟨eb, 0, none⟩ = some (.int .i64 (-9223372036854775808))) (first | exact S9.out | (refine keep2 S0.out.1 S0.out.2 ?_; repeat (first | with_reducible exact b1 _ | with_reducible exact Below.refl _ _ | with_reducible refine bdrew1 ?_ | with_reducible refine bnext ?_ _))) ((refine step_append_blk rfl (.tmp 22) (.tmp 44) 22 rfl w0.heap.size 32 i0 _ 4 48 Try.underlying22 hi hz0 hz1 hz2 rfl (by decide) (.slice A (5 * 0) c) (5 * 0) (dflat ds) (by simp [Act.eval, Act.put]) (own_belo OW.out (bnext (bnext (bnext (b1 _) _) _) _)) (wr.heap.size + 1 + 1) 5 5 (by simp [Act.eval, Act.put]) _ (blk_new' _ _ _ _ (by simp)) (by rfl) (by simp [Value.oneCell']) (by decide) (by decide) (by have := BR.out.size; simp; omega) ?_; intro v' w' ho hg; have S9 : RowKit.Hid (w'.cell? ⟨eb, 0, none⟩ = some (.int .i64 (-9223372036854775808)) ∧ w'.cell? ⟨eb, 0, none⟩ = some (.int .i64 (-9223372036854775808))) := Lib.hid (s9 S0.out.1 S0.out.2 EB2.out (bnext (bnext (bnext (b1 _) _) _) _) (own_belo OW.out (bnext (bnext (bnext (b1 _) _) _) _)) hg); have R9 : RowKit.Hid (∃ ds' : List Deed, ds'.length = 5 * (0 + 1) ∧ things ds' ≤ 4 * (0 + 1) ∧ w'.ownsRow w0.heap.size 32 4 v' (5 * (0 + 1)) (dflat ds') ∧ (∀ d ∈ ds', GoodB w' d) ∧ Below w0.heap.size w0 w') := Lib.hid (by first | (exact deeds_next (q := 0) (nl := [⟨0, 0, 0, some ⟨wr.heap.size, 0, none⟩, 0, []⟩, ⟨1, (-9223372036854775808), 0, none, 0, []⟩, ⟨2, (-9223372036854775808), 0, none, 0, []⟩, ⟨0, 0, 0, some ⟨wr.heap.size + 1, 0, none⟩, 1, [0]⟩, Deed.zero]) ho (by omega) rfl rfl (by simp [things, Deed.zero]) (own_belo OW.out (bnext (bnext (bnext (b1 _) _) _) _)) hg (bnext (bnext (bnext (b1 _) _) _) _) GD.out (good5 _ _ _ _ _ (goodl (by first | exact Blk.alloc (Blk.alloc (blk_new' _ _ _ _ (by simp)) _) _ | exact Blk.alloc (blk_new' _ _ _ _ (by simp)) _) (by decide)) (goodl (by first | exact Blk.alloc (Blk.alloc (blk_new' _ _ _ _ (by simp)) _) _ | exact Blk.alloc (blk_new' _ _ _ _ (by simp)) _) (by decide)) (by decide) (by decide) (by decide)) BR.out TH.out) | (exact deeds_next (q := 0) (nl := [⟨0, 0, 0, some ⟨wr.heap.size + 1, 0, none⟩, 0, []⟩, ⟨1, (-9223372036854775808), 0, none, 0, []⟩, ⟨2, (-9223372036854775808), 0, none, 0, []⟩, ⟨0, 0, 0, some ⟨wr.heap.size, 0, none⟩, 1, [0]⟩, Deed.zero]) ho (by omega) rfl rfl (by simp [things, Deed.zero]) (own_belo OW.out (bnext (bnext (bnext (b1 _) _) _) _)) hg (bnext (bnext (bnext (b1 _) _) _) _) GD.out (good5 _ _ _ _ _ (goodl (by first | exact Blk.alloc (Blk.alloc (blk_new' _ _ _ _ (by simp)) _) _ | exact Blk.alloc (blk_new' _ _ _ _ (by simp)) _) (by decide)) (goodl (by first | exact Blk.alloc (Blk.alloc (blk_new' _ _ _ _ (by simp)) _) _ | exact Blk.alloc (blk_new' _ _ _ _ (by simp)) _) (by decide)) (by decide) (by decide) (by decide)) BR.out TH.out)); clear ho hg))
          all_goals simp only [calm]
          all_goals go_wp2_with fail
          all_goals (obtain ⟨ds', p1, p2, p3, p4, p5⟩ := R9.out)
          all_goals exact ⟨⟨1, ds', by omega, rfl, p1, p2, p3, p4, p5⟩, by simp [intOf]⟩
        by_cases hq1 : q = 1
        · subst hq1
          have S0 := Lib.hid (And.intro x1 x3)
          clear x0 x1 x2 x3 x4 x5 x6
          have M := made 1 (by omega)
          simp only [Int.natCast_zero, Int.natCast_one, Int.cast_ofNat_Int, List.replicate, ints, List.map_nil, List.map_cons] at M
          have hw : IntKind.i64.wrap 3 = 3 := by decide
          go_wp2_with fail
          refine wp_mono (Q := calm _) ?_ (calm_le _)
          go_region_held_law (fun W' => W'.cell? ⟨eb, 1, none⟩ = some (.int .i64 (-1)) ∧ W'.cell? ⟨eb, 3, none⟩ = some (.int .i64 1)) (first | exact S9.out | (refine keep2 S0.out.1 S0.out.2 ?_; repeat (first | with_reducible exact b1 _ | with_reducible exact Below.refl _ _ | with_reducible refine bdrew1 ?_ | with_reducible refine bnext ?_ _))) ((refine step_append_blk rfl (.tmp 22) (.tmp 44) 22 rfl w0.heap.size 32 i0 _ 4 48 Try.underlying22 hi hz0 hz1 hz2 rfl (by decide) (.slice A (5 * 1) c) (5 * 1) (dflat ds) (by simp [Act.eval, Act.put]) (own_belo OW.out (bnext (bnext (bnext (b1 _) _) _) _)) (wr.heap.size + 1 + 1) 5 5 (by simp [Act.eval, Act.put]) _ (blk_new' _ _ _ _ (by simp)) (by rfl) (by simp [Value.oneCell']) (by decide) (by decide) (by have := BR.out.size; simp; omega) ?_; intro v' w' ho hg; have S9 : RowKit.Hid (w'.cell? ⟨eb, 1, none⟩ = some (.int .i64 (-1)) ∧ w'.cell? ⟨eb, 3, none⟩ = some (.int .i64 1)) := Lib.hid (s9 S0.out.1 S0.out.2 EB2.out (bnext (bnext (bnext (b1 _) _) _) _) (own_belo OW.out (bnext (bnext (bnext (b1 _) _) _) _)) hg); have R9 : RowKit.Hid (∃ ds' : List Deed, ds'.length = 5 * (1 + 1) ∧ things ds' ≤ 4 * (1 + 1) ∧ w'.ownsRow w0.heap.size 32 4 v' (5 * (1 + 1)) (dflat ds') ∧ (∀ d ∈ ds', GoodB w' d) ∧ Below w0.heap.size w0 w') := Lib.hid (by first | (exact deeds_next (q := 1) (nl := [⟨0, 0, 0, some ⟨wr.heap.size, 0, none⟩, 1, [0]⟩, ⟨1, (-1), 1, none, 0, []⟩, ⟨2, 1, 0, none, 0, []⟩, ⟨0, 0, 0, some ⟨wr.heap.size + 1, 0, none⟩, 1, [1]⟩, Deed.zero]) ho (by omega) rfl rfl (by simp [things, Deed.zero]) (own_belo OW.out (bnext (bnext (bnext (b1 _) _) _) _)) hg (bnext (bnext (bnext (b1 _) _) _) _) GD.out (good5 _ _ _ _ _ (goodl (by first | exact Blk.alloc (Blk.alloc (blk_new' _ _ _ _ (by simp)) _) _ | exact Blk.alloc (blk_new' _ _ _ _ (by simp)) _) (by decide)) (goodl (by first | exact Blk.alloc (Blk.alloc (blk_new' _ _ _ _ (by simp)) _) _ | exact Blk.alloc (blk_new' _ _ _ _ (by simp)) _) (by decide)) (by decide) (by decide) (by decide)) BR.out TH.out) | (exact deeds_next (q := 1) (nl := [⟨0, 0, 0, some ⟨wr.heap.size + 1, 0, none⟩, 1, [0]⟩, ⟨1, (-1), 1, none, 0, []⟩, ⟨2, 1, 0, none, 0, []⟩, ⟨0, 0, 0, some ⟨wr.heap.size, 0, none⟩, 1, [1]⟩, Deed.zero]) ho (by omega) rfl rfl (by simp [things, Deed.zero]) (own_belo OW.out (bnext (bnext (bnext (b1 _) _) _) _)) hg (bnext (bnext (bnext (b1 _) _) _) _) GD.out (good5 _ _ _ _ _ (goodl (by first | exact Blk.alloc (Blk.alloc (blk_new' _ _ _ _ (by simp)) _) _ | exact Blk.alloc (blk_new' _ _ _ _ (by simp)) _) (by decide)) (goodl (by first | exact Blk.alloc (Blk.alloc (blk_new' _ _ _ _ (by simp)) _) _ | exact Blk.alloc (blk_new' _ _ _ _ (by simp)) _) (by decide)) (by decide) (by decide) (by decide)) BR.out TH.out)); clear ho hg))
          all_goals simp only [calm]
          all_goals go_wp2_with fail
          all_goals (obtain ⟨ds', p1, p2, p3, p4, p5⟩ := R9.out)
          all_goals exact ⟨⟨2, ds', by omega, rfl, p1, p2, p3, p4, p5⟩, by simp [intOf]⟩
        by_cases hq2 : q = 2
        · subst hq2
          have S0 := Lib.hid (And.intro x2 x6)
          clear x0 x1 x2 x3 x4 x5 x6
          have M := made 2 (by omega)
          simp only [Int.natCast_zero, Int.natCast_one, Int.cast_ofNat_Int, List.replicate, ints, List.map_nil, List.map_cons] at M
          have hw : IntKind.i64.wrap 6 = 6 := by decide
          go_wp2_with fail
          refine wp_mono (Q := calm _) ?_ (calm_le _)
          go_region_held_law (fun W' => W'.cell? ⟨eb, 2, none⟩ = some (.int .i64 0) ∧ W'.cell? ⟨eb, 6, none⟩ = some (.int .i64 9223372036854775807)) (first | exact S9.out | (refine keep2 S0.out.1 S0.out.2 ?_; repeat (first | with_reducible exact b1 _ | with_reducible exact Below.refl _ _ | with_reducible refine bdrew1 ?_ | with_reducible refine bnext ?_ _))) ((refine step_append_blk rfl (.tmp 22) (.tmp 44) 22 rfl w0.heap.size 32 i0 _ 4 48 Try.underlying22 hi hz0 hz1 hz2 rfl (by decide) (.slice A (5 * 2) c) (5 * 2) (dflat ds) (by simp [Act.eval, Act.put]) (own_belo OW.out (bnext (bnext (bnext (b1 _) _) _) _)) (wr.heap.size + 1 + 1) 5 5 (by simp [Act.eval, Act.put]) _ (blk_new' _ _ _ _ (by simp)) (by rfl) (by simp [Value.oneCell']) (by decide) (by decide) (by have := BR.out.size; simp; omega) ?_; intro v' w' ho hg; have S9 : RowKit.Hid (w'.cell? ⟨eb, 2, none⟩ = some (.int .i64 0) ∧ w'.cell? ⟨eb, 6, none⟩ = some (.int .i64 9223372036854775807)) := Lib.hid (s9 S0.out.1 S0.out.2 EB2.out (bnext (bnext (bnext (b1 _) _) _) _) (own_belo OW.out (bnext (bnext (bnext (b1 _) _) _) _)) hg); have R9 : RowKit.Hid (∃ ds' : List Deed, ds'.length = 5 * (2 + 1) ∧ things ds' ≤ 4 * (2 + 1) ∧ w'.ownsRow w0.heap.size 32 4 v' (5 * (2 + 1)) (dflat ds') ∧ (∀ d ∈ ds', GoodB w' d) ∧ Below w0.heap.size w0 w') := Lib.hid (by first | (exact deeds_next (q := 2) (nl := [⟨0, 0, 0, some ⟨wr.heap.size, 0, none⟩, 2, [0, 0]⟩, ⟨1, 0, 2, none, 0, []⟩, ⟨2, 9223372036854775807, 0, none, 0, []⟩, ⟨0, 0, 0, some ⟨wr.heap.size + 1, 0, none⟩, 1, [2]⟩, Deed.zero]) ho (by omega) rfl rfl (by simp [things, Deed.zero]) (own_belo OW.out (bnext (bnext (bnext (b1 _) _) _) _)) hg (bnext (bnext (bnext (b1 _) _) _) _) GD.out (good5 _ _ _ _ _ (goodl (by first | exact Blk.alloc (Blk.alloc (blk_new' _ _ _ _ (by simp)) _) _ | exact Blk.alloc (blk_new' _ _ _ _ (by simp)) _) (by decide)) (goodl (by first | exact Blk.alloc (Blk.alloc (blk_new' _ _ _ _ (by simp)) _) _ | exact Blk.alloc (blk_new' _ _ _ _ (by simp)) _) (by decide)) (by decide) (by decide) (by decide)) BR.out TH.out) | (exact deeds_next (q := 2) (nl := [⟨0, 0, 0, some ⟨wr.heap.size + 1, 0, none⟩, 2, [0, 0]⟩, ⟨1, 0, 2, none, 0, []⟩, ⟨2, 9223372036854775807, 0, none, 0, []⟩, ⟨0, 0, 0, some ⟨wr.heap.size, 0, none⟩, 1, [2]⟩, Deed.zero]) ho (by omega) rfl rfl (by simp [things, Deed.zero]) (own_belo OW.out (bnext (bnext (bnext (b1 _) _) _) _)) hg (bnext (bnext (bnext (b1 _) _) _) _) GD.out (good5 _ _ _ _ _ (goodl (by first | exact Blk.alloc (Blk.alloc (blk_new' _ _ _ _ (by simp)) _) _ | exact Blk.alloc (blk_new' _ _ _ _ (by simp)) _) (by decide)) (goodl (by first | exact Blk.alloc (Blk.alloc (blk_new' _ _ _ _ (by simp)) _) _ | exact Blk.alloc (blk_new' _ _ _ _ (by simp)) _) (by decide)) (by decide) (by decide) (by decide)) BR.out TH.out)); clear ho hg))
          all_goals simp only [calm]
          all_goals go_wp2_with fail
          all_goals (obtain ⟨ds', p1, p2, p3, p4, p5⟩ := R9.out)
          all_goals exact ⟨⟨3, ds', by omega, rfl, p1, p2, p3, p4, p5⟩, by simp [intOf]⟩
        by_cases hq3 : q = 3
        · subst hq3
          have S0 := Lib.hid (And.intro x3 x2)
          clear x0 x1 x2 x3 x4 x5 x6
          have M := made 3 (by omega)
          simp only [Int.natCast_zero, Int.natCast_one, Int.cast_ofNat_Int, List.replicate, ints, List.map_nil, List.map_cons] at M
          have hw : IntKind.i64.wrap 9 = 9 := by decide
          go_wp2_with fail
          refine wp_mono (Q := calm _) ?_ (calm_le _)
          go_region_held_law (fun W' => W'.cell? ⟨eb, 3, none⟩ = some (.int .i64 1) ∧ W'.cell? ⟨eb, 2, none⟩ = some (.int .i64 0)) (first | exact S9.out | (refine keep2 S0.out.1 S0.out.2 ?_; repeat (first | with_reducible exact b1 _ | with_reducible exact Below.refl _ _ | with_reducible refine bdrew1 ?_ | with_reducible refine bnext ?_ _))) ((refine step_append_blk rfl (.tmp 22) (.tmp 44) 22 rfl w0.heap.size 32 i0 _ 4 48 Try.underlying22 hi hz0 hz1 hz2 rfl (by decide) (.slice A (5 * 3) c) (5 * 3) (dflat ds) (by simp [Act.eval, Act.put]) (own_belo OW.out (bnext (bnext (bnext (b1 _) _) _) _)) (wr.heap.size + 1 + 1) 5 5 (by simp [Act.eval, Act.put]) _ (blk_new' _ _ _ _ (by simp)) (by rfl) (by simp [Value.oneCell']) (by decide) (by decide) (by have := BR.out.size; simp; omega) ?_; intro v' w' ho hg; have S9 : RowKit.Hid (w'.cell? ⟨eb, 3, none⟩ = some (.int .i64 1) ∧ w'.cell? ⟨eb, 2, none⟩ = some (.int .i64 0)) := Lib.hid (s9 S0.out.1 S0.out.2 EB2.out (bnext (bnext (bnext (b1 _) _) _) _) (own_belo OW.out (bnext (bnext (bnext (b1 _) _) _) _)) hg); have R9 : RowKit.Hid (∃ ds' : List Deed, ds'.length = 5 * (3 + 1) ∧ things ds' ≤ 4 * (3 + 1) ∧ w'.ownsRow w0.heap.size 32 4 v' (5 * (3 + 1)) (dflat ds') ∧ (∀ d ∈ ds', GoodB w' d) ∧ Below w0.heap.size w0 w') := Lib.hid (by first | (exact deeds_next (q := 3) (nl := [⟨0, 0, 0, some ⟨wr.heap.size, 0, none⟩, 3, [0, 0, 0]⟩, ⟨1, 1, 3, none, 0, []⟩, ⟨2, 0, 0, none, 0, []⟩, ⟨0, 0, 0, some ⟨wr.heap.size + 1, 0, none⟩, 1, [3]⟩, Deed.zero]) ho (by omega) rfl rfl (by simp [things, Deed.zero]) (own_belo OW.out (bnext (bnext (bnext (b1 _) _) _) _)) hg (bnext (bnext (bnext (b1 _) _) _) _) GD.out (good5 _ _ _ _ _ (goodl (by first | exact Blk.alloc (Blk.alloc (blk_new' _ _ _ _ (by simp)) _) _ | exact Blk.alloc (blk_new' _ _ _ _ (by simp)) _) (by decide)) (goodl (by first | exact Blk.alloc (Blk.alloc (blk_new' _ _ _ _ (by simp)) _) _ | exact Blk.alloc (blk_new' _ _ _ _ (by simp)) _) (by decide)) (by decide) (by decide) (by decide)) BR.out TH.out) | (exact deeds_next (q := 3) (nl := [⟨0, 0, 0, some ⟨wr.heap.size + 1, 0, none⟩, 3, [0, 0, 0]⟩, ⟨1, 1, 3, none, 0, []⟩, ⟨2, 0, 0, none, 0, []⟩, ⟨0, 0, 0, some ⟨wr.heap.size, 0, none⟩, 1, [3]⟩, Deed.zero]) ho (by omega) rfl rfl (by simp [things, Deed.zero]) (own_belo OW.out (bnext (bnext (bnext (b1 _) _) _) _)) hg (bnext (bnext (bnext (b1 _) _) _) _) GD.out (good5 _ _ _ _ _ (goodl (by first | exact Blk.alloc (Blk.alloc (blk_new' _ _ _ _ (by simp)) _) _ | exact Blk.alloc (blk_new' _ _ _ _ (by simp)) _) (by decide)) (goodl (by first | exact Blk.alloc (Blk.alloc (blk_new' _ _ _ _ (by simp)) _) _ | exact Blk.alloc (blk_new' _ _ _ _ (by simp)) _) (by decide)) (by decide) (by decide) (by decide)) BR.out TH.out)); clear ho hg))
          all_goals simp only [calm]
          all_goals go_wp2_with fail
          all_goals (obtain ⟨ds', p1, p2, p3, p4, p5⟩ := R9.out)
          all_goals exact ⟨⟨4, ds', by omega, rfl, p1, p2, p3, p4, p5⟩, by simp [intOf]⟩
        by_cases hq4 : q = 4
        · subst hq4
          have S0 := Lib.hid (And.intro x4 x5)
          clear x0 x1 x2 x3 x4 x5 x6
          have M := made 0 (by omega)
          simp only [Int.natCast_zero, Int.natCast_one, Int.cast_ofNat_Int, List.replicate, ints, List.map_nil, List.map_cons] at M
          have hw : IntKind.i64.wrap 12 = 12 := by decide
          go_wp2_with fail
          refine wp_mono (Q := calm _) ?_ (calm_le _)
          go_region_held_law (fun W' => W'.cell? ⟨eb, 4, none⟩ = some (.int .i64 2) ∧ W'.cell? ⟨eb, 5, none⟩ = some (.int .i64 3)) (first | exact S9.out | (refine keep2 S0.out.1 S0.out.2 ?_; repeat (first | with_reducible exact b1 _ | with_reducible exact Below.refl _ _ | with_reducible refine bdrew1 ?_ | with_reducible refine bnext ?_ _))) ((refine step_append_blk rfl (.tmp 22) (.tmp 44) 22 rfl w0.heap.size 32 i0 _ 4 48 Try.underlying22 hi hz0 hz1 hz2 rfl (by decide) (.slice A (5 * 4) c) (5 * 4) (dflat ds) (by simp [Act.eval, Act.put]) (own_belo OW.out (bnext (bnext (bnext (b1 _) _) _) _)) (wr.heap.size + 1 + 1) 5 5 (by simp [Act.eval, Act.put]) _ (blk_new' _ _ _ _ (by simp)) (by rfl) (by simp [Value.oneCell']) (by decide) (by decide) (by have := BR.out.size; simp; omega) ?_; intro v' w' ho hg; have S9 : RowKit.Hid (w'.cell? ⟨eb, 4, none⟩ = some (.int .i64 2) ∧ w'.cell? ⟨eb, 5, none⟩ = some (.int .i64 3)) := Lib.hid (s9 S0.out.1 S0.out.2 EB2.out (bnext (bnext (bnext (b1 _) _) _) _) (own_belo OW.out (bnext (bnext (bnext (b1 _) _) _) _)) hg); have R9 : RowKit.Hid (∃ ds' : List Deed, ds'.length = 5 * (4 + 1) ∧ things ds' ≤ 4 * (4 + 1) ∧ w'.ownsRow w0.heap.size 32 4 v' (5 * (4 + 1)) (dflat ds') ∧ (∀ d ∈ ds', GoodB w' d) ∧ Below w0.heap.size w0 w') := Lib.hid (by first | (exact deeds_next (q := 4) (nl := [⟨0, 0, 0, some ⟨wr.heap.size, 0, none⟩, 0, []⟩, ⟨1, 2, 4, none, 0, []⟩, ⟨2, 3, 0, none, 0, []⟩, ⟨0, 0, 0, some ⟨wr.heap.size + 1, 0, none⟩, 1, [4]⟩, Deed.zero]) ho (by omega) rfl rfl (by simp [things, Deed.zero]) (own_belo OW.out (bnext (bnext (bnext (b1 _) _) _) _)) hg (bnext (bnext (bnext (b1 _) _) _) _) GD.out (good5 _ _ _ _ _ (goodl (by first | exact Blk.alloc (Blk.alloc (blk_new' _ _ _ _ (by simp)) _) _ | exact Blk.alloc (blk_new' _ _ _ _ (by simp)) _) (by decide)) (goodl (by first | exact Blk.alloc (Blk.alloc (blk_new' _ _ _ _ (by simp)) _) _ | exact Blk.alloc (blk_new' _ _ _ _ (by simp)) _) (by decide)) (by decide) (by decide) (by decide)) BR.out TH.out) | (exact deeds_next (q := 4) (nl := [⟨0, 0, 0, some ⟨wr.heap.size + 1, 0, none⟩, 0, []⟩, ⟨1, 2, 4, none, 0, []⟩, ⟨2, 3, 0, none, 0, []⟩, ⟨0, 0, 0, some ⟨wr.heap.size, 0, none⟩, 1, [4]⟩, Deed.zero]) ho (by omega) rfl rfl (by simp [things, Deed.zero]) (own_belo OW.out (bnext (bnext (bnext (b1 _) _) _) _)) hg (bnext (bnext (bnext (b1 _) _) _) _) GD.out (good5 _ _ _ _ _ (goodl (by first | exact Blk.alloc (Blk.alloc (blk_new' _ _ _ _ (by simp)) _) _ | exact Blk.alloc (blk_new' _ _ _ _ (by simp)) _) (by decide)) (goodl (by first | exact Blk.alloc (Blk.alloc (blk_new' _ _ _ _ (by simp)) _) _ | exact Blk.alloc (blk_new' _ _ _ _ (by simp)) _) (by decide)) (by decide) (by decide) (by decide)) BR.out TH.out)); clear ho hg))
          all_goals simp only [calm]
          all_goals go_wp2_with fail
          all_goals (obtain ⟨ds', p1, p2, p3, p4, p5⟩ := R9.out)
          all_goals exact ⟨⟨5, ds', by omega, rfl, p1, p2, p3, p4, p5⟩, by simp [intOf]⟩
        by_cases hq5 : q = 5
        · subst hq5
          have S0 := Lib.hid (And.intro x5 x1)
          clear x0 x1 x2 x3 x4 x5 x6
          have M := made 1 (by omega)
          simp only [Int.natCast_zero, Int.natCast_one, Int.cast_ofNat_Int, List.replicate, ints, List.map_nil, List.map_cons] at M
          have hw : IntKind.i64.wrap 15 = 15 := by decide
          go_wp2_with fail
          refine wp_mono (Q := calm _) ?_ (calm_le _)
          go_region_held_law (fun W' => W'.cell? ⟨eb, 5, none⟩ = some (.int .i64 3) ∧ W'.cell? ⟨eb, 1, none⟩ = some (.int .i64 (-1))) (first | exact S9.out | (refine keep2 S0.out.1 S0.out.2 ?_; repeat (first | with_reducible exact b1 _ | with_reducible exact Below.refl _ _ | with_reducible refine bdrew1 ?_ | with_reducible refine bnext ?_ _))) ((refine step_append_blk rfl (.tmp 22) (.tmp 44) 22 rfl w0.heap.size 32 i0 _ 4 48 Try.underlying22 hi hz0 hz1 hz2 rfl (by decide) (.slice A (5 * 5) c) (5 * 5) (dflat ds) (by simp [Act.eval, Act.put]) (own_belo OW.out (bnext (bnext (bnext (b1 _) _) _) _)) (wr.heap.size + 1 + 1) 5 5 (by simp [Act.eval, Act.put]) _ (blk_new' _ _ _ _ (by simp)) (by rfl) (by simp [Value.oneCell']) (by decide) (by decide) (by have := BR.out.size; simp; omega) ?_; intro v' w' ho hg; have S9 : RowKit.Hid (w'.cell? ⟨eb, 5, none⟩ = some (.int .i64 3) ∧ w'.cell? ⟨eb, 1, none⟩ = some (.int .i64 (-1))) := Lib.hid (s9 S0.out.1 S0.out.2 EB2.out (bnext (bnext (bnext (b1 _) _) _) _) (own_belo OW.out (bnext (bnext (bnext (b1 _) _) _) _)) hg); have R9 : RowKit.Hid (∃ ds' : List Deed, ds'.length = 5 * (5 + 1) ∧ things ds' ≤ 4 * (5 + 1) ∧ w'.ownsRow w0.heap.size 32 4 v' (5 * (5 + 1)) (dflat ds') ∧ (∀ d ∈ ds', GoodB w' d) ∧ Below w0.heap.size w0 w') := Lib.hid (by first | (exact deeds_next (q := 5) (nl := [⟨0, 0, 0, some ⟨wr.heap.size, 0, none⟩, 1, [0]⟩, ⟨1, 3, 5, none, 0, []⟩, ⟨2, (-1), 0, none, 0, []⟩, ⟨0, 0, 0, some ⟨wr.heap.size + 1, 0, none⟩, 1, [5]⟩, Deed.zero]) ho (by omega) rfl rfl (by simp [things, Deed.zero]) (own_belo OW.out (bnext (bnext (bnext (b1 _) _) _) _)) hg (bnext (bnext (bnext (b1 _) _) _) _) GD.out (good5 _ _ _ _ _ (goodl (by first | exact Blk.alloc (Blk.alloc (blk_new' _ _ _ _ (by simp)) _) _ | exact Blk.alloc (blk_new' _ _ _ _ (by simp)) _) (by decide)) (goodl (by first | exact Blk.alloc (Blk.alloc (blk_new' _ _ _ _ (by simp)) _) _ | exact Blk.alloc (blk_new' _ _ _ _ (by simp)) _) (by decide)) (by decide) (by decide) (by decide)) BR.out TH.out) | (exact deeds_next (q := 5) (nl := [⟨0, 0, 0, some ⟨wr.heap.size + 1, 0, none⟩, 1, [0]⟩, ⟨1, 3, 5, none, 0, []⟩, ⟨2, (-1), 0, none, 0, []⟩, ⟨0, 0, 0, some ⟨wr.heap.size, 0, none⟩, 1, [5]⟩, Deed.zero]) ho (by omega) rfl rfl (by simp [things, Deed.zero]) (own_belo OW.out (bnext (bnext (bnext (b1 _) _) _) _)) hg (bnext (bnext (bnext (b1 _) _) _) _) GD.out (good5 _ _ _ _ _ (goodl (by first | exact Blk.alloc (Blk.alloc (blk_new' _ _ _ _ (by simp)) _) _ | exact Blk.alloc (blk_new' _ _ _ _ (by simp)) _) (by decide)) (goodl (by first | exact Blk.alloc (Blk.alloc (blk_new' _ _ _ _ (by simp)) _) _ | exact Blk.alloc (blk_new' _ _ _ _ (by simp)) _) (by decide)) (by decide) (by decide) (by decide)) BR.out TH.out)); clear ho hg))
          all_goals simp only [calm]
          all_goals go_wp2_with fail
          all_goals (obtain ⟨ds', p1, p2, p3, p4, p5⟩ := R9.out)
          all_goals exact ⟨⟨6, ds', by omega, rfl, p1, p2, p3, p4, p5⟩, by simp [intOf]⟩
        by_cases hq6 : q = 6
        · subst hq6
          have S0 := Lib.hid (And.intro x6 x4)
          clear x0 x1 x2 x3 x4 x5 x6
          have M := made 2 (by omega)
          simp only [Int.natCast_zero, Int.natCast_one, Int.cast_ofNat_Int, List.replicate, ints, List.map_nil, List.map_cons] at M
          have hw : IntKind.i64.wrap 18 = 18 := by decide
          go_wp2_with fail
          refine wp_mono (Q := calm _) ?_ (calm_le _)
          go_region_held_law (fun W' => W'.cell? ⟨eb, 6, none⟩ = some (.int .i64 9223372036854775807) ∧ W'.cell? ⟨eb, 4, none⟩ = some (.int .i64 2)) (first | exact S9.out | (refine keep2 S0.out.1 S0.out.2 ?_; repeat (first | with_reducible exact b1 _ | with_reducible exact Below.refl _ _ | with_reducible refine bdrew1 ?_ | with_reducible refine bnext ?_ _))) ((refine step_append_blk rfl (.tmp 22) (.tmp 44) 22 rfl w0.heap.size 32 i0 _ 4 48 Try.underlying22 hi hz0 hz1 hz2 rfl (by decide) (.slice A (5 * 6) c) (5 * 6) (dflat ds) (by simp [Act.eval, Act.put]) (own_belo OW.out (bnext (bnext (bnext (b1 _) _) _) _)) (wr.heap.size + 1 + 1) 5 5 (by simp [Act.eval, Act.put]) _ (blk_new' _ _ _ _ (by simp)) (by rfl) (by simp [Value.oneCell']) (by decide) (by decide) (by have := BR.out.size; simp; omega) ?_; intro v' w' ho hg; have S9 : RowKit.Hid (w'.cell? ⟨eb, 6, none⟩ = some (.int .i64 9223372036854775807) ∧ w'.cell? ⟨eb, 4, none⟩ = some (.int .i64 2)) := Lib.hid (s9 S0.out.1 S0.out.2 EB2.out (bnext (bnext (bnext (b1 _) _) _) _) (own_belo OW.out (bnext (bnext (bnext (b1 _) _) _) _)) hg); have R9 : RowKit.Hid (∃ ds' : List Deed, ds'.length = 5 * (6 + 1) ∧ things ds' ≤ 4 * (6 + 1) ∧ w'.ownsRow w0.heap.size 32 4 v' (5 * (6 + 1)) (dflat ds') ∧ (∀ d ∈ ds', GoodB w' d) ∧ Below w0.heap.size w0 w') := Lib.hid (by first | (exact deeds_next (q := 6) (nl := [⟨0, 0, 0, some ⟨wr.heap.size, 0, none⟩, 2, [0, 0]⟩, ⟨1, 9223372036854775807, 6, none, 0, []⟩, ⟨2, 2, 0, none, 0, []⟩, ⟨0, 0, 0, some ⟨wr.heap.size + 1, 0, none⟩, 1, [6]⟩, Deed.zero]) ho (by omega) rfl rfl (by simp [things, Deed.zero]) (own_belo OW.out (bnext (bnext (bnext (b1 _) _) _) _)) hg (bnext (bnext (bnext (b1 _) _) _) _) GD.out (good5 _ _ _ _ _ (goodl (by first | exact Blk.alloc (Blk.alloc (blk_new' _ _ _ _ (by simp)) _) _ | exact Blk.alloc (blk_new' _ _ _ _ (by simp)) _) (by decide)) (goodl (by first | exact Blk.alloc (Blk.alloc (blk_new' _ _ _ _ (by simp)) _) _ | exact Blk.alloc (blk_new' _ _ _ _ (by simp)) _) (by decide)) (by decide) (by decide) (by decide)) BR.out TH.out) | (exact deeds_next (q := 6) (nl := [⟨0, 0, 0, some ⟨wr.heap.size + 1, 0, none⟩, 2, [0, 0]⟩, ⟨1, 9223372036854775807, 6, none, 0, []⟩, ⟨2, 2, 0, none, 0, []⟩, ⟨0, 0, 0, some ⟨wr.heap.size, 0, none⟩, 1, [6]⟩, Deed.zero]) ho (by omega) rfl rfl (by simp [things, Deed.zero]) (own_belo OW.out (bnext (bnext (bnext (b1 _) _) _) _)) hg (bnext (bnext (bnext (b1 _) _) _) _) GD.out (good5 _ _ _ _ _ (goodl (by first | exact Blk.alloc (Blk.alloc (blk_new' _ _ _ _ (by simp)) _) _ | exact Blk.alloc (blk_new' _ _ _ _ (by simp)) _) (by decide)) (goodl (by first | exact Blk.alloc (Blk.alloc (blk_new' _ _ _ _ (by simp)) _) _ | exact Blk.alloc (blk_new' _ _ _ _ (by simp)) _) (by decide)) (by decide) (by decide) (by decide)) BR.out TH.out)); clear ho hg))
          all_goals simp only [calm]
          all_goals go_wp2_with fail
          all_goals (obtain ⟨ds', p1, p2, p3, p4, p5⟩ := R9.out)
          all_goals exact ⟨⟨7, ds', by omega, rfl, p1, p2, p3, p4, p5⟩, by simp [intOf]⟩
        · obtain rfl : q = 7 := by omega
          clear x0 x1 x2 x3 x4 x5 x6
          have DO := does_any r (some ⟨0, 0, none⟩) ds c ⟨by omega, by omega⟩ (by have := TH.out; omega) (by have := TH.out; omega) wr (fun d hd => (GD.out d hd).good)
          clear DO
          have DO := does_any r A ds c ⟨by omega, by omega⟩ (by have := TH.out; omega) (by have := TH.out; omega) wr (fun d hd => (GD.out d hd).good) (deeds_of OW.out (by have := TH.out; omega))
          rw [TH.out.1] at DO
          have DH := Lib.hid DO
          clear DO
          go_wp2_with (go_at_call 3; (with_reducible refine DH.out.mono ?_); rintro e w5 ⟨rfl, hb⟩; have HB5 := Lib.hid (bb (bb HB.out BR.out) hb); clear hb)
          go_roundw
          case rel => exact ⟨r + 1, by omega, by omega, by first | rfl | go_num, HB5.out⟩
          case measure => simp [intOf] <;> omega
    · obtain rfl : r = 3 := by omega
      have NQ := Lib.hid (new_op 9223372036854775807 (by decide))
      go_wp2_with (first
        | (go_at_call 9; (with_reducible refine (NQ.out _).mono ?_); rintro e w1 ⟨k, rfl, hk, hK, hb⟩; have HK := Lib.hid hK; have LK := Lib.hid hk; have HS1 := Lib.hid hb.size; have LB1 := Lib.hid hb; have HB1 := Lib.hid (bb HB.out hb); clear hk hK hb)
        | (go_at_call 12; have A0 := arena0 LK.out HK.out; (refine (a_put k 9223372036854775807 0 (.slice none 0 0) [] wr.heap.size (some ⟨w1.heap.size, 0, none⟩) 3 [7, 8, 9] 0 0 3 [7, 8, 9] (.inl ⟨by decide, rfl, rfl, rfl, rfl⟩) (fun h => by cases h) (by decide) _ (by have := HS1.out; simp; omega) A0 (lies_neu _ _)).mono ?_); rintro e w2 ⟨rfl, v, hA, ht⟩; have HA := Lib.hid hA; have HTB := Lib.hid (LB1.out.trans (Below.trans (B1 w1 _ |>.mono HS1.out) (Turn.below ht A0 (by have := HS1.out; simp; omega)))); clear hA ht A0)
        | (go_at_call 21; (refine (all_any k 9223372036854775807 3 v _ wr.heap.size _ (HA.out.below (B1 _ _))).mono ?_); rintro e w3 ⟨rfl, rfl⟩))
      obtain ⟨wl, ewl⟩ : ∃ u, u = (w2.alloc (.cells #[.int .i64 0] 3)).alloc (.cells #[.pointer (some ⟨k, 0, none⟩)] 25) := ⟨_, rfl⟩
      obtain ⟨nb, enb⟩ : ∃ u, u = w2.heap.size := ⟨_, rfl⟩
      have BL : Below w2.heap.size w2 wl := by rw [ewl]; exact B2 _ _ _
      have KN : RowKit.Hid (Blk wl nb #[.int .i64 0] 3) := Lib.hid (by rw [ewl, enb]; exact (Blk.new _ _ _).alloc _)
      have KC : RowKit.Hid (Blk wl (nb + 1) #[.pointer (some ⟨k, 0, none⟩)] 25) := Lib.hid (by rw [ewl, enb]; have := Blk.new (w2.alloc (.cells #[.int .i64 0] 3)) #[.pointer (some ⟨k, 0, none⟩)] 25; rw [World.size_alloc] at this; exact this)
      have AL := Lib.hid (HA.out.below BL)
      have LK2 : RowKit.Hid (k < nb ∧ ∀ b, v.ownBlock = some b → b < nb) := Lib.hid ⟨by rw [enb]; exact HA.out.blk.lt, fun b hb => by rw [enb]; exact (HA.out.own.lt b hb).2⟩
      have HWE : RowKit.Hid (Below we.heap.size we wl) := Lib.hid (by
        exact bb (bb HB.out HTB.out) BL)
      rw [← enb, ← ewl]
      have EN := Lib.hid (And.intro enb ewl)
      have ZZ := Lib.hid KC.out.lt
      clear enb ewl BL
      refine (wpIn_wide (n := 12)).1 ?_
      refine wpIn_rangeFunc_n (n := 12) (by omega) (gf := 42) (lb := #[.pointer (some ⟨nb + 1, 0, none⟩)]) rfl (enters_of Try.func42 (by kernel_rfl) rfl)
        (all_seq 11 (by omega) (nb + 1) k v (ints [7, 8, 9]) (by decide) (fun b => b < wl.heap.size ∧ b ≠ nb) ⟨ZZ.out, by omega⟩ ⟨AL.out.blk.lt, by have := LK2.out; omega⟩ (fun b e => ⟨(AL.out.own.lt b e).2, by have := LK2.out.2 b e; omega⟩) wl KC.out ⟨(ar_cells AL.out).1, own0 AL.out.own⟩)
        (Below.refl _ _) (fun _ => rfl) (fun b h => h.1)
        (fun j W => j = 0 ∧ Below wl.heap.size wl W) (fun cd _ W => cd = .exit 4 ∧ Blk W nb #[.int .i64 7] 3 ∧ Below we.heap.size we W) (fun _ A A' h hb => ⟨h.1, h.2.trans hb⟩) (fun _ _ A A' h hb => ⟨h.1, h.2.1.below hb KN.out.lt, h.2.2.trans (hb.mono HWE.out.size)⟩) ⟨rfl, Below.refl _ _⟩
        (fun j => { tmps := #[u0, .slice (some ⟨eb, 0, none⟩) 7 7, .int .i64 3, u3, u4, .pointer (some ⟨k, 0, none⟩), .int .i64 0, .int .i64 0, .pointer (some ⟨nb, 0, none⟩), undef, (ints [7, 8, 9])[j]?.getD undef, .slice (some ⟨eb, 0, none⟩) 7 7, .int .i64 3, .bool false, u14, u15, u16, u17, u18, u19, u20, u21, u22, u23, u24, u25, u26, u27, u28, u29, u30, u31, u32, u33, u34, u35, u36, u37, u38, u39, u40, u41, u42, u43, u44, u45, u46, u47, u48, u49, .pointer (some ⟨k, 0, none⟩), .tuple #[.int .i64 0, .int .i64 0], .pointer (some ⟨k, 0, none⟩), .slice (some ⟨w1.heap.size, 0, none⟩) 3 3, .tuple #[.int .i64 0, .int .i64 0], .int .i64 0, .int .i64 0, .pointer (some ⟨k, 0, none⟩), .func (.func 42) #[] #[.pointer (some ⟨nb + 1, 0, none⟩)], .int .i64 (j : Int), (ints [7, 8, 9])[j]?.getD undef, undef, undef, undef, undef, undef, undef, undef, undef, undef, undef, undef, undef, undef, undef, undef], defers := [] }) ?assign ?body ?done ?stop
      case assign =>
        intro l2 j W K hK
        gi_wp2
        exact hK
      case done =>
        rintro D W hD ⟨h0, _⟩ hK
        simp [ints] at h0
      case body =>
        rintro l2 j W ⟨rfl, hb⟩ hz hj
        have KW := KN.out.below' hb
        have c8 := KW.cell 0
        have f8 := KW.frozen 0
        simp only [List.getElem?_toArray, List.getElem?_cons_zero] at c8
        have HW := Lib.hid (And.intro KW hb)
        clear KW hb hj hz
        simp only [ints, List.map_cons, List.map_nil, List.getElem?_cons_zero, Option.getD_some]
        gi_wp2_with fail
        exact ⟨Left.setCell W nb 0 _ (fun h => h) KN.out.lt, rfl, HW.out.1.one_set, (HWE.out.trans (HW.out.2.mono HWE.out.size)).setCell (p := ⟨nb, 0, none⟩) (by show we.heap.size ≤ nb; have := EN.out.1; have := HTB.out.size; have := HB.out.size; omega) _⟩
      case stop =>
        rintro D cd j W hD hj ⟨rfl, hk7, hbe⟩ hK
        have c8 := hk7.cell 0
        simp only [List.getElem?_toArray, List.getElem?_cons_zero] at c8
        have HL := Lib.hid (And.intro hbe (And.intro hK hD))
        clear hk7 hbe hK hD hj
        refine wpIn_wide.2 ?_
        go_wp2_with (first
          | (go_at_call 9; (with_reducible refine (new_nil _ (by decide) _).mono ?_); rintro e w5 ⟨rfl, rfl⟩)
          | (go_at_call 22; (with_reducible refine (NO.out _).mono ?_); rintro e w6 ⟨rfl, hb⟩; have H6 := Lib.hid (bb HL.out.1 hb); have D6 := Lib.hid ((hb.block D (Array.getElem?_eq_some_iff.1 HL.out.2.1).1).trans HL.out.2.1); clear hb)
          | (go_at_call 8; (with_reducible refine (awake_any _).mono ?_); rintro e w7 ⟨rfl, hb⟩; have H7 := Lib.hid (bb H6.out hb); have D7 := Lib.hid ((hb.block D (Array.getElem?_eq_some_iff.1 D6.out).1).trans D6.out); clear hb))
        exact fin4 rfl D7.out (bb BE.out H7.out) (by have := HL.out.2.2; have := HWE.out.size; have := BE.out.size; omega)
end Go.Proofs.Ytfcacgiejoeneaa

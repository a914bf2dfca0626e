/- The nodes at a node's own place, collected. -/
import Derived.Test.YtmlaepbmdfmgbaaL2
import Derived.OwnWalkIn
set_option linter.unusedSimpArgs false
set_option linter.unusedVariables false
namespace Go.Proofs.Ytmlaepbmdfmgbaa
open Go Go.RowKit Go.Maps Go.Shelf
attribute [local go_sem] Oper.semAt_some
/-- What is collected so far. -/
structure Col (w A : World) (sb : Nat) (L : List Int) (k : Nat) (v : Value) : Prop where
  box : Blk A sb #[v] 37
  own : A.ownsRow w.heap.size 3 1 v k (ints (L.take k))
  nil : v = .slice none 0 0 ↔ k = 0
  low : Below w.heap.size w A
theorem Col.fair {w : World} {sb B : Nat} {L : List Int} (hB : w.heap.size ≤ B) :
    Fair B (fun k A => ∃ v, Col w A sb L k v) (fun j A => j = sb ∨ ∃ v, A.cell? ⟨sb, 0, none⟩ = some v ∧ v.ownBlock = some j) := by
  constructor
  · rintro k A A' ⟨v, h⟩ hb
    exact ⟨v, h.box.below' hb, own_below h.own hb, h.nil, h.low.trans (hb.mono h.low.size)⟩
  · rintro k d A o hd ⟨v, h⟩ hn
    exact ⟨v, blk_putX h.box hn o, own_putX h.own hn o, h.nil, h.low.trans (below_putObj A d _ o (by omega))⟩
  · rintro k A A' j ⟨v, h⟩ hb hc
    rcases hc with hc | ⟨u, h1, h2⟩
    · exact .inl hc
    · refine .inr ⟨u, ?_, h2⟩
      rw [(h.box.below' hb).cell 0] at h1
      rw [h.box.cell 0]; exact h1
  · rintro k d A o j _ ⟨v, h⟩ hn hc
    rcases hc with hc | ⟨u, h1, h2⟩
    · exact .inl hc
    · refine .inr ⟨u, ?_, h2⟩
      rw [(blk_putX h.box hn o).cell 0] at h1
      rw [h.box.cell 0]; exact h1
  · rintro k A j ⟨v, h⟩ hc
    rcases hc with rfl | ⟨u, h1, h2⟩
    · exact ⟨_, _, _, h.box⟩
    · rw [h.box.cell 0] at h1
      obtain rfl : v = u := by simpa using h1
      rcases h.own.2 with ⟨rfl, _⟩ | ⟨g, cap, cur, rfl, _, hg, _⟩
      · simp [Value.ownBlock] at h2
      · simp only [Value.ownBlock, Option.some.injEq] at h2
        subst h2
        exact ⟨_, _, _, hg⟩
theorem wpListIn_append_onto {F : Fence} {nn : Nat} {P : Program} (w : World) {ops : Array Oper} {rest : List Oper} {o : Oper} {ac : Act} {Q : Exit → Act → World → Prop}
    (hgd : o.guard = none) (s x : Operand) (t : TypeId) (hop : o.op = Op.call { callee := Callee.builtin Builtin.append, args := #[s, x], argTypes := #[t, t] })
    (base : Nat) (e : TypeId) (i : TypeInfo) (z : Value) (size bytes : Nat) (ht : P.underlying t = some (.slice e)) (hi : P.info? e = some i) (hz : i.zero = some z)
    (hsize : i.size = size) (hby : i.bytes = bytes) (hzs : z.cells.size = size) (hsz : 0 < size)
    (v : Value) (n : Nat) (xs : List Value) (hs : ac.eval s = v) (hown : w.ownsRow base e size v n xs) (A : Option Addr) (m c : Nat) (news : List Value) (hx : ac.eval x = .slice A m c) (hl : news.length = m * size)
    (hnews : ∀ a, A = some a → ∀ j u, news[j]? = some u → w.cell? (a.add j) = some u) (hnone : A = none → m = 0 ∧ c = 0) (h1 : ∀ u ∈ news, u.oneCell' = true)
    (h63 : n + m ≤ maxLen) (hbytes : (n + m) * bytes ≤ 140737488355328) (hbase : base ≤ w.heap.size)
    (hK : ∀ v' w', w'.ownsRow base e size v' (n + m) (xs ++ news) → w.grownBy w' v.ownBlock → (∀ k, v'.ownBlock = some k → v.ownBlock = some k ∨ w.heap.size ≤ k) → wpListIn F nn P ops Q rest (ac.put o.dst v') w') :
    wpListIn F nn P ops Q (o :: rest) ac w := by
  obtain ⟨v', w', hrun, r1, r2, r3⟩ := run_append_onto (P := P) w base t o.type e i z size bytes ht hi hz hsize hby hzs hsz v n xs hown A m c news hl hnews hnone h1 h63 hbytes hbase
  refine wpListIn_plain hgd fun K hK' => ?_
  unfold Oper.wpIn
  refine ⟨?_, ?_⟩
  · simp [Oper.about, hop, resolve, Target.leads, Sem.run_pure]
  · rw [Oper.semAt_plain F _ _ (by rw [hop]; intro c hc'; cases hc')]
    simp [execOp, hop, resolve, invoke, builtin, hs, hx, hrun, Result.andThen]
    exact hK' _ _ (hK v' w' r1 r2 r3)
end Go.Proofs.Ytmlaepbmdfmgbaa
namespace Go.Proofs.Ytmlaepbmdfmgbaa
open Go Go.RowKit Go.Maps Go.Shelf
attribute [local go_sem] Oper.semAt_some
/-- A row of numbers that is told. -/
def RowI (w : World) (L : List Int) (e : Ending) (w' : World) : Prop := (∃ v, e = .returned v ∧ w'.ownsRow w.heap.size 3 1 v L.length (ints L) ∧ (v = .slice none 0 0 ↔ L = [])) ∧ Below w.heap.size w w'
theorem rowI_nil (w w' : World) (hb : Below w.heap.size w w') : RowI w [] (.returned (.slice none 0 0)) w' := ⟨⟨_, rfl, World.ownsRow_nil _ _ _ _, by simp⟩, hb⟩
theorem row_rowI {w w' : World} {L : List Nat} {e : Ending} (h : Row w L e w') : RowI w (nums L) e w' := by
  obtain ⟨⟨v, h1, h2, h3⟩, hb⟩ := h
  exact ⟨⟨v, h1, by rw [nums_len]; exact h2, h3.trans (by simp [nums])⟩, hb⟩
noncomputable def nodesAt (g : Gr) (n : Int) : List Int := by classical exact if rightB g = true ∧ 0 ≤ n ∧ n < g.nodes.length then ownN g.nodes (mayG g) n else []
noncomputable def callsAt (g : Gr) (n : Int) : List Nat := by classical exact if rightB g = true ∧ 0 ≤ n ∧ n < g.nodes.length then callsOf g n else []
theorem own_len {g : Gr} (hR : Right g) (n : Nat) (hn : n < g.nodes.length) : (ownN g.nodes (mayG g) n).length ≤ 2048 := by
  obtain ⟨ms, hm, _⟩ := hR.pre
  have h := own_rises hm (mayG g) _ n hn (Nat.le_refl _)
  have h2 := hm n (by omega) hn
  have h3 := hR.nodes
  have key : ∀ (a : List Int) (lo hi : Int), Rises a lo hi → (a.length : Int) ≤ max 0 (hi - lo) := by
    intro a
    induction a with
    | nil => intro lo hi _; simp; omega
    | cons x a ih =>
      intro lo hi h
      have h1 := h.each x (List.mem_cons_self ..)
      have hp := List.pairwise_cons.1 h.rise
      have := ih (x + 1) hi ⟨fun k hk => by have := hp.1 k hk; have := h.each k (List.mem_cons_of_mem _ hk); omega, hp.2⟩
      simp only [List.length_cons]
      omega
  have := key _ _ _ h
  omega
set_option maxRecDepth 100000 in
set_option maxHeartbeats 2000000 in
theorem bodyCalls_any {w : World} {p nb : Nat} {g : Gr} (h : Wk w p g nb) (hR : Right g) (hc : Capd g) (i : Nat) (hi : i < g.rules.length) :
    Calls Try.prog 43 #[.pointer (some ⟨p, 0, none⟩), .int .i64 i] w (Row w (lcal g i)) := by
  have hb := hR.body i hi
  have c0 := h.box.cell 0
  simp only [List.getElem?_toArray, List.getElem?_cons_zero, List.getElem?_cons_succ] at c0
  obtain ⟨b1, o1, eA, _, _, d1⟩ := h.gr.rules.two hi
  rw [eA] at c0
  have CO := Lib.hid (calls_any h hR hc (g.rules.getD i Rl.zero).body.toNat (by omega))
  rw [show (((g.rules.getD i Rl.zero).body.toNat : Nat) : Int) = (g.rules.getD i Rl.zero).body by omega] at CO
  have EL : RowKit.Hid (lcal g i = callsOf g (g.rules.getD i Rl.zero).body) := Lib.hid rfl
  rw [← EL.out] at CO
  generalize lcal g i = L at CO ⊢
  generalize (g.rules.getD i Rl.zero).body = bd at CO d1
  obtain ⟨m, em⟩ : ∃ m, m = g.rules.length := ⟨_, rfl⟩
  rw [← em] at c0 hi
  have hi2 : (i : Int) < m := by omega
  clear hb h em EL
  go_enter Try.func43, Try.ntmps43
  go_wp2_with fail
  refine CO.out.mono ?_
  rintro e w3 ⟨⟨v, rfl, ho, hn⟩, hb⟩
  have HO := Lib.hid ho
  have HN := Lib.hid hn
  have HB := Lib.hid hb
  clear ho hn hb CO
  go_wp2_with fail
  go_ret
  exact ⟨⟨v, rfl, HO.out, HN.out⟩, HB.out⟩
end Go.Proofs.Ytmlaepbmdfmgbaa
namespace Go.Proofs.Ytmlaepbmdfmgbaa
open Go Go.RowKit Go.Maps Go.Shelf
theorem Try.info_s : (Try.prog.info? 37).map (fun i => (i.zero, i.size, i.bytes)) = some (some (.slice none 0 0), 1, 24) := by kernel_rfl
/-- Rows of numbers, each of its own, in a row. -/
structure Rows2 (w W : World) (gb : Nat) (vs : List Value) (L : List (List Nat)) : Prop where
  blk : Blk W gb vs.toArray 37
  new : w.heap.size ≤ gb
  len : vs.length = L.length
  row : ∀ i, i < L.length → W.ownsRow w.heap.size 3 1 (vs.getD i undef) (L.getD i []).length (ints (nums (L.getD i [])))
  low : Below w.heap.size w W
theorem Rows2.below {w W W' : World} {gb : Nat} {vs : List Value} {L : List (List Nat)} (h : Rows2 w W gb vs L) (hb : Below W.heap.size W W') : Rows2 w W' gb vs L :=
  ⟨h.blk.below' hb, h.new, h.len, fun i hi => own_below (h.row i hi) hb, h.low.trans (hb.mono h.low.size)⟩
noncomputable def graphOf (g : Gr) : List (List Nat) := (List.range g.rules.length).map (lcal g)
theorem graphOf_len (g : Gr) : (graphOf g).length = g.rules.length := by simp [graphOf]
theorem graphOf_at {g : Gr} {i : Nat} (h : i < g.rules.length) : (graphOf g).getD i [] = lcal g i := by simp [graphOf, List.getD, h]
/-- The rows so far. -/
noncomputable def graphTo (g : Gr) (k : Nat) : List (List Nat) := (List.range g.rules.length).map fun i => if i < k then lcal g i else []
theorem graphTo_len (g : Gr) (k : Nat) : (graphTo g k).length = g.rules.length := by simp [graphTo]
theorem graphTo_at {g : Gr} {i k : Nat} (h : i < g.rules.length) : (graphTo g k).getD i [] = if i < k then lcal g i else [] := by simp [graphTo, List.getD, h]
theorem graphTo_all (g : Gr) : graphTo g g.rules.length = graphOf g := by
  unfold graphTo graphOf
  exact List.map_congr_left fun i hi => by rw [if_pos (by simpa using hi)]
theorem Rows2.step {w W W1 : World} {gb k : Nat} {vs : List Value} {g : Gr} {v : Value} (h : Rows2 w W gb vs (graphTo g k)) (hk : k < g.rules.length) (hb : Below W.heap.size W W1) (ho : W1.ownsRow W.heap.size 3 1 v (lcal g k).length (ints (nums (lcal g k)))) :
    Rows2 w (W1.setCell ⟨gb, k, none⟩ v) gb (vs.set k v) (graphTo g (k + 1)) := by
  have h1 := h.below hb
  have hl := h.len
  rw [graphTo_len] at hl
  have keep : ∀ {B n : Nat} {u : Value} {xs : List Value}, W1.ownsRow B 3 1 u n xs → (W1.setCell ⟨gb, k, none⟩ v).ownsRow B 3 1 u n xs := fun {B n u xs} ho =>
    own_kept ho (fun j hj => heap_setCell_other W1 ⟨gb, k, none⟩ j _ (fun e => own_ne ho h1.blk (by decide) (by rw [hj]; exact congrArg some e)))
  refine ⟨h1.blk.put v, h.new, by rw [List.length_set, graphTo_len]; exact hl, fun i hi => ?_, h1.low.setCell (p := ⟨gb, k, none⟩) h.new _⟩
  rw [graphTo_len] at hi
  rw [graphTo_at hi]
  by_cases e : i = k
  · subst e
    rw [if_pos (by omega)]
    have : (vs.set i v).getD i undef = v := by simp [List.getD, hl, hi]
    rw [this]
    exact keep (own_lower ho h.low.size)
  · have : (vs.set k v).getD i undef = vs.getD i undef := by simp only [List.getD]; rw [List.getElem?_set_ne (fun h => e h.symm)]
    rw [this]
    have h2 := h1.row i (by rw [graphTo_len]; exact hi)
    rw [graphTo_at hi] at h2
    have e2 : (if i < k + 1 then lcal g i else []) = if i < k then lcal g i else [] := by
      by_cases hik : i < k
      · rw [if_pos hik, if_pos (by omega)]
      · rw [if_neg hik, if_neg (by omega)]
    rw [e2]
    exact keep h2
set_option maxRecDepth 100000 in
set_option maxHeartbeats 2000000 in
theorem graph_no (g : Gr) (w : World) (hg : Gr.At w g) (hin : Gr.In g) (hr : rightB g = false) : Calls Try.prog 21 #[g.val] w fun e w' => e = .returned (.slice none 0 0) ∧ Below w.heap.size w w' := by
  have WW := Lib.hid (fun (w' : World) (b : Below w.heap.size w w') => lworkOf_no g w' (hg.below b) hin hr)
  clear hg hin hr
  show Calls Try.prog 21 #[.agg #[.slice g.RA g.rules.length g.rc, .slice g.NA g.nodes.length g.nc]] w _
  go_enter Try.func21, Try.ntmps21
  go_wp2_with (go_at_call 42; with_reducible refine (WW.out _ (B1 _ _)).mono ?_; rintro e w1 ⟨rfl, hb⟩; have H1 := Lib.hid (bb (B1 w _) hb); clear hb)
  go_ret
  exact ⟨rfl, H1.out⟩
set_option maxRecDepth 100000 in
set_option maxHeartbeats 4000000 in
theorem graph_any (g : Gr) (w : World) (hg : Gr.At w g) (hin : Gr.In g) (hc : Capd g) (hR : Right g) : Calls Try.prog 21 #[g.val] w fun e w' => ∃ gb vs, e = .returned (.slice (some ⟨gb, 0, none⟩) g.rules.length g.rules.length) ∧ Rows2 w w' gb vs (graphOf g) := by
  obtain ⟨i0, hi, hz0, hz1, hz2⟩ := info_parts Try.info_s
  have WW := Lib.hid (fun (w' : World) (b : Below w.heap.size w w') => lworkOf_any g w' (hg.below b) hin hR)
  have BC := Lib.hid (fun (w1 : World) (p nb : Nat) (hW : Wk w1 p g nb) i hi => bodyCalls_any hW hR hc i hi)
  have h32 := hR.rules.2
  have GA := Lib.hid (graphTo_all g)
  have GZ := Lib.hid (fun i (h : i < g.rules.length) => graphTo_at (g := g) (k := 0) h)
  have GL := Lib.hid (graphTo_len g)
  clear hg hin hR hc
  show Calls Try.prog 21 #[.agg #[.slice g.RA g.rules.length g.rc, .slice g.NA g.nodes.length g.nc]] w _
  obtain ⟨m, em⟩ : ∃ m, m = g.rules.length := ⟨_, rfl⟩
  have EM := Lib.hid em
  rw [← em] at h32 ⊢
  have WW2 : RowKit.Hid (∀ (w' : World) (b : Below w.heap.size w w'), Calls Try.prog 42 #[.agg #[.slice g.RA m g.rc, .slice g.NA g.nodes.length g.nc]] w' fun e w'' => ∃ p nb, e = .returned (.tuple #[.pointer (some ⟨p, 0, none⟩), .bool true]) ∧ Wk w'' p g nb ∧ Below w'.heap.size w' w'') := Lib.hid (by rw [em]; exact WW.out)
  clear WW em
  go_enter Try.func21, Try.ntmps21
  go_upto_region 4 with (go_at_call 42; with_reducible refine (WW2.out _ (B1 _ _)).mono ?_; rintro e w1 ⟨p, nb, rfl, hW, hb⟩; have H1 := Lib.hid (bb (B1 w _) hb); have HW := Lib.hid hW; clear hb hW)
  have c0 := HW.out.box.cell 0
  simp only [List.getElem?_toArray, List.getElem?_cons_zero, List.getElem?_cons_succ] at c0
  rw [← EM.out] at c0
  have hmk : ∀ W : World, (Instr.makeSlice 46 (.int .i64 m) (.int .i64 m)).run Try.prog W = .ok (.slice (some ⟨W.heap.size, 0, none⟩) m m) (W.alloc (.cells (List.replicate m (Value.slice none 0 0)).toArray 37)) := fun W => by
    have hr := run_make (P := Try.prog) W 46 37 i0 (.slice none 0 0) Try.underlying46 hi hz0 .i64 .i64 (m : Nat) (m : Nat) (by omega) (by omega) (by rw [hz2]; omega) (by omega)
    have e : madeCells (Value.slice none 0 0).cells (m * 1) = (List.replicate m (Value.slice none 0 0)).toArray := by
      apply Array.ext
      · simp [madeCells]
      · intro k h1 h2
        simp [madeCells, Value.cells, Nat.mod_one]
    rw [hz1, Int.toNat_natCast, e] at hr
    exact hr
  go_wp2_with fail
  obtain ⟨gb, egb⟩ : ∃ u, u = w1.heap.size := ⟨_, rfl⟩
  have R0 : RowKit.Hid (Rows2 w (w1.alloc (.cells (Array.replicate m (Value.slice none 0 0)) 37)) gb (List.replicate m (Value.slice none 0 0)) (graphTo g 0)) := Lib.hid (by
    refine ⟨?_, by rw [egb]; exact H1.out.size, by rw [GL.out 0, List.length_replicate, EM.out], fun i hi => ?_, H1.out.trans ((B1 w1 _).mono H1.out.size)⟩
    · rw [egb, show (List.replicate m (Value.slice none 0 0)).toArray = Array.replicate m (Value.slice none 0 0) from by simp]
      exact Blk.new _ _ _
    · rw [GL.out 0] at hi
      rw [GZ.out i hi, if_neg (by omega)]
      have : (List.replicate m (Value.slice none 0 0)).getD i undef = .slice none 0 0 := by have := EM.out; simp [List.getD, show i < m by omega]
      rw [this]
      exact World.ownsRow_nil _ _ _ _)
  have EGB := Lib.hid (show w1.heap.size ≤ gb by omega)
  have hb12 := B1 w1 (.cells (Array.replicate m (Value.slice none 0 0)) 37)
  first | rw [← egb] | skip
  generalize w1.alloc (.cells (Array.replicate m (Value.slice none 0 0)) 37) = w2 at R0 hb12 ⊢
  have HB12 := Lib.hid hb12
  clear hb12 c0 hmk GZ egb
  go_loopw [23, 6] (fun i _ wr => ∃ (k : Nat) (vs : List Value), k ≤ m ∧ i = .int .i64 k ∧ Rows2 w wr gb vs (graphTo g k) ∧ Below w1.heap.size w1 wr) (fun i _ _ => m - (intOf i).toNat)
  case atStart => exact ⟨0, _, by omega, rfl, R0.out, HB12.out⟩
  case round =>
    obtain ⟨k, vs, hk, rfl, hrw, hbl⟩ := hrel
    have HRW := Lib.hid hrw
    have BL := Lib.hid hbl
    clear hrw hbl
    by_cases hlt : k < m
    · have hlt2 : (k : Int) < m := by omega
      have B0 := Lib.hid (BC.out wr p nb (HW.out.below BL.out) k (by have := EM.out; omega))
      go_wp2_with fail
      refine B0.out.mono ?_
      rintro e w5 ⟨⟨v5, rfl, ho, _⟩, hb5⟩
      have HS := Lib.hid (HRW.out.step (by have := EM.out; omega) hb5 ho)
      have h5 := HRW.out.below hb5
      have hvl : vs.length = m := by rw [h5.len, GL.out k]; exact EM.out.symm
      have c5 := h5.blk.cell k
      have f5 := h5.blk.frozen k
      obtain ⟨A6, n6, e6, _, _⟩ := own_slice (h5.row k (by rw [GL.out k]; have := EM.out; omega))
      have e7 : vs[k]? = some (vs.getD k undef) := by simp [List.getD, List.getElem?_eq_getElem (show k < vs.length by omega)]
      rw [List.getElem?_toArray, e7, e6] at c5
      generalize ((graphTo g k).getD k []).length = q6 at c5
      obtain ⟨A5, n5, rfl, _, _⟩ := own_slice ho
      have HB5 := Lib.hid (BL.out.trans (hb5.mono BL.out.size))
      generalize (lcal g k).length = q5 at HS ⊢
      clear h5 ho hb5 hvl e6 e7
      go_wp2_with fail
      go_roundw
      case rel => exact ⟨k + 1, _, by omega, by go_num, HS.out, HB5.out.setCell (p := ⟨gb, k, none⟩) EGB.out _⟩
      case measure => simp [intOf]; omega
    · obtain rfl : k = m := by omega
      have hlt2 : ¬ (k : Int) < k := by omega
      go_wp2_with fail
      go_ret
      refine ⟨gb, rfl, vs, ?_⟩
      have := HRW.out
      rw [EM.out, GA.out] at this
      exact this
end Go.Proofs.Ytmlaepbmdfmgbaa

/- A row of the call's own that is taken from its front, and appended to. -/
import Derived.Test.YtmlaepbmdfmgbaaL3
import Derived.Test.YtmlaepbmdfmgbaaL0
import Derived.ArgAppend
import Derived.Deep.CutRange
set_option linter.unusedSimpArgs false
set_option linter.unusedVariables false
namespace Go.Proofs.Ytmlaepbmdfmgbaa
open Go Go.RowKit Go.Maps Go.Shelf
/-- A row within a block of the call's own. -/
def Tail (w : World) (base : Nat) (v : Value) (xs : List Int) : Prop := ∃ g off cap cur, v = .slice (some ⟨g, off, none⟩) xs.length cap ∧ base ≤ g ∧ w.heap[g]? = some (.cells cur 3 (0, 0)) ∧ xs.length ≤ cap ∧ cap ≤ maxLen ∧ off + cap ≤ cur.size ∧ ∀ i, i < xs.length → cur[off + i]? = some (.int .i64 (xs.getD i 0))
theorem Tail.kept {w w' : World} {base : Nat} {v : Value} {xs : List Int} (h : Tail w base v xs) (hk : ∀ k, v.ownBlock = some k → w'.heap[k]? = w.heap[k]?) : Tail w' base v xs := by
  obtain ⟨g, off, cap, cur, rfl, h1, h2, h3⟩ := h
  exact ⟨g, off, cap, cur, rfl, h1, (hk g rfl).trans h2, h3⟩
theorem Tail.lt {w : World} {base : Nat} {v : Value} {xs : List Int} (h : Tail w base v xs) : ∀ k, v.ownBlock = some k → base ≤ k ∧ k < w.heap.size := by
  obtain ⟨g, off, cap, cur, rfl, h1, h2, h3⟩ := h
  intro k hk
  simp only [Value.ownBlock, Option.some.injEq] at hk
  subst hk
  exact ⟨h1, (Array.getElem?_eq_some_iff.1 h2).1⟩
theorem Tail.ne {w : World} {base b : Nat} {v : Value} {xs : List Int} {vs : Array Value} {T : TypeId} (h : Tail w base v xs) (hb : Blk w b vs T) (hT : T ≠ 3) : v.ownBlock ≠ some b := by
  obtain ⟨g, off, cap, cur, rfl, h1, h2, h3⟩ := h
  simp only [Value.ownBlock, ne_eq, Option.some.injEq]
  rintro rfl
  rw [show w.heap[g]? = _ from hb] at h2
  simp only [Option.some.injEq, Obj.cells.injEq] at h2
  exact hT h2.2.1
theorem Tail.one {w : World} {base b : Nat} {x : Int} (h : Blk w b #[.int .i64 x] 3) (hb : base ≤ b) : Tail w base (.slice (some ⟨b, 0, none⟩) 1 1) [x] :=
  ⟨b, 0, 1, #[.int .i64 x], rfl, hb, h, Nat.le_refl _, by unfold maxLen; omega, by simp, fun i hi => by
    obtain rfl : i = 0 := by simpa using hi
    rfl⟩
theorem Tail.app {w : World} {base : Nat} {v : Value} {xs : List Int} (h : Tail w base v xs) (hl : xs.length ≤ 1000) (x : Int) (a : Addr) (c : Nat) (hx : w.cell? a = some (.int .i64 x)) (hb : base ≤ w.heap.size) (ty : TypeId) :
    ∃ v' w', (Builtin.append_ #[37, 37] ty #[v, .slice (some a) 1 c]).run Try.prog w = .ok v' w' ∧ Tail w' base v' (xs ++ [x]) ∧ w.grownBy w' v.ownBlock ∧ (∀ k, v'.ownBlock = some k → v.ownBlock = some k ∨ w.heap.size ≤ k) := by
  obtain ⟨i0, hi, hz0, hz1, hz2⟩ := info_parts Try.info3
  obtain ⟨g, off, cap, cur, rfl, h1, h2, h3, h4, h5, h6⟩ := h
  have hnews : ∀ j u, [Value.int .i64 x][j]? = some u → w.cell? (a.add j) = some u := fun j u hj => by
    cases j with
    | zero => simp at hj; subst hj; simpa [Addr.add] using hx
    | succ j => simp at hj
  by_cases hr : xs.length + 1 ≤ cap
  · have hlt : off + xs.length < cur.size := by omega
    have hr2 := run_append_room_cells (P := Try.prog) w 37 ty 3 i0 Try.underlying37 hi g off xs.length cap a 1 c [.int .i64 x] (by rw [hz1]; rfl) hnews (by simp [Value.oneCell']) hr
      (fun j hj => by
        obtain rfl : j = 0 := by simpa using hj
        rw [hz1, Nat.mul_one, Nat.add_zero, Blk.cell h2, Array.getElem?_eq_getElem hlt]; rfl)
      (fun j _ => Blk.frozen h2 _)
    rw [hz1, Nat.mul_one] at hr2
    refine ⟨_, _, hr2, ⟨g, off, cap, cur.setIfInBounds (off + xs.length) (.int .i64 x), by simp, h1, ?_, by simpa using hr, h4, by simpa using h5, fun i hi => ?_⟩, ?_, fun k hk => .inl hk⟩
    · exact heap_setCell_same w g (off + xs.length) cur 3 (.int .i64 x) h2
    · simp only [List.length_append, List.length_singleton] at hi
      by_cases e : i = xs.length
      · subst e
        rw [Array.getElem?_setIfInBounds_self_of_lt hlt]
        simp [List.getD]
      · rw [Array.getElem?_setIfInBounds_ne (by omega), h6 i (by omega)]
        simp only [List.getD]
        rw [List.getElem?_append_left (by omega)]
    · have hbl := Below.setCell (Below.refl g w) (p := ⟨g, off + xs.length, none⟩) (Nat.le_refl _) (.int .i64 x)
      exact ⟨hbl.os, hbl.tape, hbl.output, hbl.size, fun k hk hne => Below.heap_setCell _ _ _ k (fun e => hne (by rw [show k = g from e]; rfl))⟩
  · obtain ⟨v', w', hrun, ho, hg⟩ := run_append_arg_grows (P := Try.prog) w 37 ty 3 i0 (.int .i64 0) 1 8 Try.underlying37 hi hz0 hz1 hz2 rfl (by decide) ⟨g, off, none⟩ xs.length cap (ints xs) (by rw [ints_length, Nat.mul_one])
      (fun j u hj => by
        have hjl : j < xs.length := by have := (List.getElem?_eq_some_iff.1 hj).1; rwa [ints_length] at this
        have : w.cell? ⟨g, off + j, none⟩ = some (.int .i64 (xs.getD j 0)) := by rw [Blk.cell h2]; exact h6 j hjl
        rw [Addr.add_lit, this]
        rw [ints_at hjl] at hj
        exact hj) a 1 c [.int .i64 x] rfl hnews (by omega) (by unfold maxLen; omega) (by omega)
    have hz : (Value.slice (some ⟨g, off, none⟩) xs.length cap).ownBlock = some g := rfl
    obtain ⟨g', cap', cur', e1, hbg, hgh, hnc, hcm, hcs, htake⟩ : ∃ g' cap' cur', v' = .slice (some ⟨g', 0, none⟩) (xs.length + 1) cap' ∧ w.heap.size ≤ g' ∧ w'.heap[g']? = some (.cells cur' 3 (0, 0)) ∧ xs.length + 1 ≤ cap' ∧ cap' ≤ maxLen ∧ cur'.size = cap' * 1 ∧ cur'.toList.take ((xs.length + 1) * 1) = ints xs ++ [.int .i64 x] := by
      rcases ho.2 with ⟨_, h0⟩ | ⟨g', cap', cur', e1, h7, h8, h9, h10, h11, h12⟩
      · omega
      · exact ⟨g', cap', cur', e1, h7, h8, h9, h10, h11, h12⟩
    subst e1
    refine ⟨_, _, hrun, ⟨g', 0, cap', cur', by simp, by omega, hgh, by simpa using hnc, hcm, by omega, fun i hi => ?_⟩, ⟨hg.os, hg.tape, hg.output, hg.size, fun k hk _ => hg.block k hk (by simp)⟩, fun k hk => .inr ?_⟩
    · simp only [List.length_append, List.length_singleton] at hi
      have h13 : cur'.toList[i]? = (ints xs ++ [.int .i64 x])[i]? := by rw [← htake, List.getElem?_take, if_pos (by omega)]
      rw [Nat.zero_add, ← Array.getElem?_toList, h13]
      have e : ints xs ++ [Value.int .i64 x] = ints (xs ++ [x]) := by simp [ints]
      rw [e]
      exact ints_at (by simpa using hi)
    · simp only [Value.ownBlock, Option.some.injEq] at hk
      omega
theorem wpList_append_tail {ops : Array Oper} {rest : List Oper} {o : Oper} {ac : Act} {w : World} {Q : Exit → Act → World → Prop}
    (hgd : o.guard = none) (s x : Operand) (hop : o.op = Op.call { callee := Callee.builtin Builtin.append, args := #[s, x], argTypes := #[37, 37] })
    (base : Nat) (v : Value) (xs : List Int) (hs : ac.eval s = v) (ht : Tail w base v xs) (hl : xs.length ≤ 1000) (a : Addr) (c : Nat) (k : Int) (hx : ac.eval x = .slice (some a) 1 c) (hc : w.cell? a = some (.int .i64 k)) (hbase : base ≤ w.heap.size)
    (hK : ∀ v' w', Tail w' base v' (xs ++ [k]) → w.grownBy w' v.ownBlock → (∀ k, v'.ownBlock = some k → v.ownBlock = some k ∨ w.heap.size ≤ k) → wpList Try.prog ops Q rest (ac.put o.dst v') w') :
    wpList Try.prog ops Q (o :: rest) ac w := by
  obtain ⟨v', w', hrun, r1, r2, r3⟩ := ht.app hl k a c hc hbase o.type
  refine wpList_plain hgd fun K hK' => ?_
  unfold Oper.wp execOp
  simp only [hop, resolve, invoke, builtin, Sem.run_bind, Sem.run_pure, Result.andThen_ok, List.map_toArray, List.map_cons, List.map_nil, hs, hx, hrun]
  exact hK' _ _ (hK v' w' r1 r2 r3)
end Go.Proofs.Ytmlaepbmdfmgbaa
namespace Go.Proofs.Ytmlaepbmdfmgbaa
open Go Go.RowKit Go.Maps Go.Shelf
def cellsB (s : Bf) : List Value := bls s.1 ++ ints (nums s.2.1)
theorem cellsB_met {s : Bf} (h : Sound s) {k : Nat} (hk : k < 32) : (cellsB s)[k]? = some (.bool (s.1.getD k false)) := by
  unfold cellsB
  rw [List.getElem?_append_left (by rw [bls_length, h.met]; exact hk)]
  exact bls_at (by rw [h.met]; exact hk)
theorem cellsB_ahead {s : Bf} (h : Sound s) {k : Nat} (hk : k < 32) : (cellsB s)[32 + k]? = some (.int .i64 (s.2.1.getD k 0 : Nat)) := by
  unfold cellsB
  rw [List.getElem?_append_right (by rw [bls_length, h.met]; omega), bls_length, h.met, Nat.add_sub_cancel_left, ints_at (by rw [nums_len, h.ahead]; exact hk), nums_at]
theorem cellsB_set {s : Bf} (h : Sound s) {k a : Nat} (hk : k < 32) : ((cellsB s).set k (.bool true)).set (32 + k) (.int .i64 a) = cellsB (s.1.set k true, s.2.1.set k a, s.2.2 ++ [k]) := by
  unfold cellsB
  rw [List.set_append_left _ _ (by rw [bls_length, h.met]; exact hk), bls_set, List.set_append_right _ _ (by rw [bls_length, List.length_set, h.met]; omega), bls_length, List.length_set, h.met, Nat.add_sub_cancel_left, ints_set]
  congr 1
  simp [nums, List.map_set]
/-- The search in memory. -/
structure Srch (w W : World) (b : Nat) (v : Value) (s : Bf) : Prop where
  blk : Blk W b (cellsB s).toArray 98
  sound : Sound s
  tail : Tail W w.heap.size v (nums s.2.2)
  grown : w.grownBy W (some b)
  lt : b < w.heap.size
theorem Srch.below {w W W' : World} {b : Nat} {v : Value} {s : Bf} (h : Srch w W b v s) (hb : Below W.heap.size W W') : Srch w W' b v s :=
  ⟨h.blk.below' hb, h.sound, h.tail.kept (fun k hk => hb.block k (h.tail.lt k hk).2), h.grown.trans ⟨hb.os, hb.tape, hb.output, hb.size, fun k hk _ => hb.block k hk⟩, h.lt⟩
theorem Srch.has {w W : World} {b : Nat} {v : Value} {s : Bf} (h : Srch w W b v s) {k : Nat} (hk : k < 32) : W.cell? ⟨b, k, none⟩ = some (.bool (s.1.getD k false)) := by
  rw [h.blk.cell, List.getElem?_toArray, cellsB_met h.sound hk]
theorem Srch.ahead {w W : World} {b : Nat} {v : Value} {s : Bf} (h : Srch w W b v s) {k : Nat} (hk : k < 32) : W.cell? ⟨b, 32 + k, none⟩ = some (.int .i64 (s.2.1.getD k 0 : Nat)) := by
  rw [h.blk.cell, List.getElem?_toArray, cellsB_ahead h.sound hk]
/-- One more is met. -/
theorem Srch.met_one {w W W1 W2 : World} {b : Nat} {v v' : Value} {s : Bf} {a k : Nat} (h : Srch w W b v s) (hk : k < 32) (hn : s.1.getD k false = false) (h1 : W1 = (W.setCell ⟨b, k, none⟩ (.bool true)).setCell ⟨b, 32 + k, none⟩ (.int .i64 a)) {W1' : World} (hb : Below W1.heap.size W1 W1')
    (ht : Tail W2 w.heap.size v' (nums s.2.2 ++ [(k : Int)])) (hg : W1'.grownBy W2 v.ownBlock) : Srch w W2 b v' (visit a s k) := by
  have e : visit a s k = (s.1.set k true, s.2.1.set k a, s.2.2 ++ [k]) := by unfold visit; rw [hn]; rfl
  rw [e]
  have hblk : Blk W1 b (cellsB (s.1.set k true, s.2.1.set k a, s.2.2 ++ [k])).toArray 98 := by
    rw [h1, ← cellsB_set h.sound hk]
    exact (h.blk.put _).put _
  have hs := visit_sound (a := a) (k := k) h.sound
  rw [e] at hs
  have hgr : w.grownBy W1 (some b) := by
    rw [h1]
    have g1 : ∀ (X : World) (o : Nat) (u : Value), X.grownBy (X.setCell ⟨b, o, none⟩ u) (some b) := fun X o u => by
      have hbl := Below.setCell (Below.refl b X) (p := ⟨b, o, none⟩) (Nat.le_refl _) u
      exact ⟨hbl.os, hbl.tape, hbl.output, hbl.size, fun j _ hne => Below.heap_setCell _ _ _ j (fun e => hne (by rw [show j = b from e]))⟩
    exact (h.grown.trans (g1 _ _ _)).trans (g1 _ _ _)
  have hz1 : W1.heap.size = W.heap.size := by rw [h1]; simp [World.setCell]
  have hz : w.heap.size ≤ W1.heap.size := hgr.size
  refine ⟨(hblk.below' hb).grown hg (fun e => h.tail.ne h.blk (by decide) e.symm), hs, by rw [nums_app]; exact ht, ?_, h.lt⟩
  refine ⟨hg.os.trans (hb.os.trans hgr.os), hg.tape.trans (hb.tape.trans hgr.tape), hg.output.trans (hb.output.trans hgr.output), Nat.le_trans (Nat.le_trans hz hb.size) hg.size, fun j hj hne => ?_⟩
  exact (hg.block j (Nat.lt_of_lt_of_le (Nat.lt_of_lt_of_le hj hz) hb.size) (fun e => by have := (h.tail.lt j e.symm).1; omega)).trans ((hb.block j (Nat.lt_of_lt_of_le hj hz)).trans (hgr.block j hj hne))
def isT : Option Value → Bool
  | some (.bool b) => b
  | _ => false
/-- How much is left to be done, as memory tells it. -/
def muW (b : Nat) (v : Value) (W : World) : Nat := 2 * unmet ((List.range 32).map fun j => isT (W.cell? ⟨b, j, none⟩)) + match v with
  | .slice _ n _ => n
  | _ => 0
theorem Srch.mu {w W : World} {b : Nat} {v : Value} {s : Bf} (h : Srch w W b v s) : muW b v W = muB s := by
  have e1 : ((List.range 32).map fun j => isT (W.cell? ⟨b, j, none⟩)) = s.1 := by
    apply List.ext_getElem
    · simp [h.sound.met]
    · intro i h1 h2
      have hi : i < 32 := by rw [h.sound.met] at h2; exact h2
      simp only [List.getElem_map, List.getElem_range, h.has hi, isT]
      simp [List.getD, List.getElem?_eq_getElem h2]
  obtain ⟨g, off, cap, cur, rfl, _⟩ := h.tail
  unfold muW muB
  rw [e1]
  simp [nums]
set_option maxRecDepth 100000 in
set_option maxHeartbeats 4000000 in
theorem spread_any (b i p : Nat) (c : Nat → List Nat) (hc : ∀ a k, k ∈ c a → k < 32) (M : Nat) (hM : M ≤ 32) (hcM : ∀ a k, k ∈ c a → k < M) (hcl : ∀ a, (c a).length ≤ 32) (hiM : i < M) (w : World) (hb : Blk w b (cellsB (startB i)).toArray 98)
    (hC : ∀ W, w.grownBy W (some b) → ∀ a, a < M → Calls Try.prog 43 #[.pointer (some ⟨p, 0, none⟩), .int .i64 a] W (Row W (c a))) :
    Calls Try.prog 74 #[.pointer (some ⟨b, 0, none⟩), .int .i64 i, .func (.func 43) #[.pointer (some ⟨p, 0, none⟩)] #[]] w fun e w' => (∃ v, e = .returned v) ∧ Blk w' b (cellsB (bfs c i)).toArray 98 ∧ w.grownBy w' (some b) := by
  have hc' := hc
  have HC := Lib.hid hC
  have HCM := Lib.hid hcM
  have HCC := Lib.hid hc
  have HB := Lib.hid hb
  clear hC hcM hc hb
  go_enter Try.func74, Try.ntmps74
  go_wp2_with fail
  have S0 : RowKit.Hid (Srch w (w.alloc (.cells #[.int .i64 i] 3)) b (.slice (some ⟨w.heap.size, 0, none⟩) 1 1) (startB i)) := Lib.hid
    ⟨HB.out.alloc _, start_sound i, Tail.one (Blk.new _ _ _) (Nat.le_refl _), ⟨rfl, rfl, rfl, by simp, fun k hk _ => Below.heap_alloc w _ k hk⟩, HB.out.lt⟩
  have hw1 : (w.alloc (.cells #[.int .i64 i] 3)).heap.size = w.heap.size + 1 := by simp
  generalize w.alloc (.cells #[.int .i64 i] 3) = w1 at S0 hw1 ⊢
  have NX := Lib.hid (fun n => show ∀ k ∈ (runB c n (startB i)).2.2, k < M from fun k hk => by
    have h := run_inv hc' n (start_sound i) (start_inv c i)
    rcases h.next k hk with rfl | h1
    · exact hiM
    · obtain ⟨j, hj, _⟩ := (h.to k h1).last
      exact HCM.out _ _ hj)
  have RMU := Lib.hid (fun n => Nat.le_trans (run_mu hc' n (start_sound i)) (start_mu65 i))
  clear hw1
  go_loopw [6] (fun nx wr => ∃ (n : Nat) (v : Value), nx = v ∧ Srch w wr b v (runB c n (startB i))) (fun nx wr => muW b nx wr)
  case atStart => exact ⟨0, _, rfl, S0.out⟩
  case round =>
    obtain ⟨n, v, rfl, hs⟩ := hrel
    have HN := Lib.hid (NX.out n)
    have RN := Lib.hid (run_next c n (startB i))
    have BE := Lib.hid (bfs_end hc' (i := i) (n := n))
    have MU := Lib.hid hs.mu
    have RM := Lib.hid (RMU.out n)
    generalize runB c n (startB i) = s at hs HN RN BE MU RM
    have hss := hs
    obtain ⟨g, off, cap, cur, rfl, hg1, hg2, hg3, hg4, hg5, hg6⟩ := hs.tail
    have HS := Lib.hid hss
    obtain ⟨m, a, q⟩ := s
    cases q with
    | nil =>
      have hbe := Lib.hid (BE.out rfl)
      clear hss hs hg1 hg2 hg3 hg4 hg5 hg6 BE
      go_wp2_with fail
      go_end0
      have hb := HS.out.blk
      rw [hbe.out] at hb
      exact ⟨⟨_, rfl⟩, hb, HS.out.grown⟩
    | cons x q =>
      have hx : x < M := HN.out x (List.mem_cons_self ..)
      have hgl : g < wr.heap.size := (hss.tail.lt g rfl).2
      have hln : (nums (m, a, x :: q).2.2).length = q.length + 1 := by simp [nums]
      rw [hln] at hg3 hg6 hs hss HS MU ⊢
      obtain ⟨ql, eql⟩ : ∃ ql, ql = q.length := ⟨_, rfl⟩
      rw [← eql] at hg3 hg6 hs hss HS MU ⊢
      have c1 : wr.cell? ⟨g, off, none⟩ = some (.int .i64 x) := by
        have := hg6 0 (by omega)
        rw [Blk.cell hg2]
        exact this
      have hcap : ql + 1 ≤ cap := hg3
      have hmx : cap ≤ 9223372036854775807 := by unfold maxLen at hg4; omega
      have T1 : RowKit.Hid (cap ≠ 1 → Tail wr w.heap.size (.slice (some ⟨g, off + 1, none⟩) ql (cap - 1)) (nums q)) := Lib.hid fun _ => ⟨g, off + 1, cap - 1, cur, by rw [eql]; simp [nums], hg1, hg2, by simp [nums]; omega, by omega, by omega, fun j hj => by
        have hj2 : j < q.length := by simpa [nums] using hj
        have := hg6 (j + 1) (by omega)
        rw [show off + 1 + j = off + (j + 1) by omega, this]
        simp [nums]⟩
      have T0 : RowKit.Hid (cap = 1 → Tail wr w.heap.size (.slice (some ⟨g, off, none⟩) ql 0) (nums q)) := Lib.hid fun h1 => by
        have hq0 : q = [] := List.length_eq_zero_iff.1 (by omega)
        have hl0 : ql = 0 := by omega
        subst hq0
        subst hl0
        exact ⟨g, off, 0, cur, rfl, hg1, hg2, Nat.le_refl _, by unfold maxLen; omega, by omega, fun j hj => by simp [nums] at hj⟩
      have B0 := Lib.hid (HC.out wr hss.grown x hx)
      have PC := Lib.hid (pop_cons (c := c) (s := (m, a, x :: q)) rfl)
      have EQL := Lib.hid eql
      clear hs hss hg1 hg2 hg3 hg4 hg5 hg6 hln eql
      go_upto_region 3 with fail
      go_cut [6] from 18 to 19 (fun s6 wx => wx = wr ∧ ∃ A1 c1, s6 = .slice (some A1) ql c1 ∧ Tail wr w.heap.size (.slice (some A1) ql c1) (nums q))
      case first =>
        by_cases h1 : cap = 1
        · subst h1
          obtain rfl : ql = 0 := by omega
          go_wp2_with fail
          go_meet
          exact ⟨rfl, _, _, rfl, T0.out (by first | trivial | rfl)⟩
        · go_wp2_with fail
          go_meet
          exact ⟨rfl, _, _, rfl, T1.out h1⟩
      case rest =>
      obtain ⟨rfl, A1, cp1, rfl, hT⟩ := hcut
      have HT := Lib.hid hT
      clear hT c1 hcap hmx hgl T1 T0
      go_wp2_with fail
      refine B0.out.mono ?_
      rintro e w3 ⟨⟨v3, rfl, ho, _⟩, hb3⟩
      obtain ⟨A3, n3, rfl, _, _⟩ := own_slice ho
      have S3 := Lib.hid (show Srch w w3 b (.slice (some A1) ql cp1) (m, a, q) from
        ⟨HS.out.blk.below' hb3, ⟨HS.out.sound.met, HS.out.sound.ahead⟩, HT.out.kept (fun k hk => hb3.block k (HT.out.lt k hk).2), (HS.out.below hb3).grown, HS.out.lt⟩)
      have O3 := Lib.hid (show w3.ownsRow w.heap.size 3 1 (.slice A3 (c x).length n3) (c x).length (ints (nums (c x))) from own_lower ho HS.out.grown.size)
      have AP := Lib.hid (show ∀ k, (Value.slice (some A1) ql cp1).ownBlock = some k → (Value.slice A3 (c x).length n3).ownBlock ≠ some k from fun k hk h2 => by
        have h3 := (HT.out.lt k hk).2
        have h4 := (ho.lt k h2).1
        omega)
      have LM := Lib.hid (fun j (hj : j < (c x).length) => show (c x).getD j 0 < M from HCM.out x _ (by simp [List.getD, List.getElem?_eq_getElem hj]))
      have LF := Lib.hid (fun j (hj : j < (c x).length) => show (c x).take (j + 1) = (c x).take j ++ [(c x).getD j 0] from by rw [List.take_add_one]; simp [List.getD, List.getElem?_eq_getElem hj])
      have VM := Lib.hid (visits (a := x) (c x) (m, a, q) ⟨HS.out.sound.met, HS.out.sound.ahead⟩ (HCC.out x))
      have VMJ := Lib.hid (fun j => visits (a := x) ((c x).take j) (m, a, q) ⟨HS.out.sound.met, HS.out.sound.ahead⟩ (fun k hk => HCC.out x k (List.mem_of_mem_take hk)))
      have hclx := hcl x
      generalize c x = L at hclx O3 AP LM LF PC VM VMJ
      obtain ⟨ll, ell⟩ : ∃ ll, ll = L.length := ⟨_, rfl⟩
      have ELL := Lib.hid ell
      have hll : ll ≤ 100000 := by
        omega
      rw [← ell]
      clear ho hb3 ell HT
      go_wp2_with fail
      go_loopw [24, 6] (fun ix nx wr => ∃ (j : Nat) (v : Value), j ≤ ll ∧ ix = .int .i64 j ∧ nx = v ∧ Srch w wr b v ((L.take j).foldl (visit x) (m, a, q)) ∧ wr.ownsRow w.heap.size 3 1 (.slice A3 ll n3) ll (ints (nums L)) ∧ (∀ k, v.ownBlock = some k → (Value.slice A3 ll n3).ownBlock ≠ some k)) (fun ix _ _ => ll - (intOf ix).toNat)
      case atStart => exact ⟨0, _, by omega, rfl, rfl, S3.out, by rw [ELL.out]; exact O3.out, by rw [ELL.out]; exact AP.out⟩
      case round =>
        obtain ⟨j, v, hj, rfl, rfl, hs, ho, hap⟩ := hrel
        by_cases hlt : j < ll
        · have hlt2 : (j : Int) < ll := by omega
          have hkM := LM.out j (by have := ELL.out; omega)
          have hTK := LF.out j (by have := ELL.out; omega)
          have hmu := (VMJ.out j).2
          have hro : wr.ownsRow w.heap.size 3 1 (.slice A3 (ints (nums L)).length n3) (ints (nums L)).length (ints (nums L)) := by rw [ints_length, nums_len, ← ELL.out]; exact ho
          obtain ⟨b2, o2, eA2, _, c2⟩ := lies_cell (own_lies hro) (k := j) (by rw [nums_len]; have := ELL.out; omega)
          rw [nums_at] at c2
          have hrm := RM.out
          generalize L.getD j 0 = k at hkM hTK c2
          have hk32 : k < 32 := by omega
          have FT : RowKit.Hid ((L.take (j + 1)).foldl (visit x) (m, a, q) = visit x ((L.take j).foldl (visit x) (m, a, q)) k) := Lib.hid (by rw [hTK, List.foldl_append]; rfl)
          generalize (L.take j).foldl (visit x) (m, a, q) = t at hs hmu FT
          have hql : t.2.2.length ≤ 100 := by simp only [muB] at hmu hrm; simp only [List.length_cons] at hrm; omega
          have HA := Lib.hid (has_any b k (t.1.getD k false) hk32 wr (hs.has hk32))
          have HS2 := Lib.hid hs
          have HO2 := Lib.hid ho
          have HP2 := Lib.hid hap
          have EA2 := Lib.hid eA2
          cases hmk : t.1.getD k false with
          | true =>
            rw [hmk] at HA
            have FT2 : RowKit.Hid ((L.take (j + 1)).foldl (visit x) (m, a, q) = t) := Lib.hid (by rw [FT.out]; unfold visit; rw [hmk]; rfl)
            clear hs ho hap hro hTK FT hmk hmu hrm
            rw [eA2]
            clear eA2
            go_wp2_with (go_at_call 57; with_reducible refine HA.out.mono ?_; rintro e w4 ⟨rfl, rfl⟩)
            go_roundw
            case rel => exact ⟨j + 1, _, by omega, by go_num, rfl, by rw [FT2.out]; exact HS2.out, by rw [← EA2.out]; exact HO2.out, by rw [← EA2.out]; exact HP2.out⟩
            case measure => simp [intOf]; omega
          | false =>
            rw [hmk] at HA
            have hN := Lib.hid hmk
            have ck := hs.has hk32
            rw [hmk] at ck
            have ca := hs.ahead hk32
            have fk := hs.blk.frozen k
            have fa := hs.blk.frozen (32 + k)
            have bk : Blk (wr.setCell ⟨b, k, none⟩ (.bool true)) b ((cellsB t).set k (.bool true)).toArray 98 := hs.blk.put _
            have ba : Blk (wr.setCell ⟨b, 32 + k, none⟩ (.int .i64 x)) b ((cellsB t).set (32 + k) (.int .i64 x)).toArray 98 := hs.blk.put _
            have ck2 : (wr.setCell ⟨b, 32 + k, none⟩ (.int .i64 x)).cell? ⟨b, k, none⟩ = some (.bool false) := by
              rw [ba.cell, List.getElem?_toArray, List.getElem?_set_ne (by omega), cellsB_met hs.sound hk32, hmk]
            have fk2 := ba.frozen k
            have ca2 : (wr.setCell ⟨b, k, none⟩ (.bool true)).cell? ⟨b, 32 + k, none⟩ = some (.int .i64 (t.2.1.getD k 0 : Nat)) := by
              rw [bk.cell, List.getElem?_toArray, List.getElem?_set_ne (by omega), cellsB_ahead hs.sound hk32]
            have fa2 := bk.frozen (32 + k)
            generalize t.2.1.getD k 0 = ak at ca ca2
            have hk32i : (k : Int) < 32 := by omega
            clear hs ho hap hro hTK hmk hmu hrm bk ba
            rw [eA2]
            clear eA2
            go_wp2_with (go_at_call 57; with_reducible refine HA.out.mono ?_; rintro e w4 ⟨rfl, rfl⟩)
            go_region
            obtain ⟨W1, eW1⟩ : ∃ u, u = (w4.setCell ⟨b, k, none⟩ (.bool true)).setCell ⟨b, 32 + k, none⟩ (.int .i64 x) := ⟨_, rfl⟩
            rw [← eW1]
            have off1 : ∀ d, d ≠ b → W1.heap[d]? = w4.heap[d]? := fun d hd => by
              rw [eW1]
              exact (heap_setCell_other _ ⟨b, 32 + k, none⟩ d _ hd).trans (heap_setCell_other _ ⟨b, k, none⟩ d _ hd)
            have hz1 : W1.heap.size = w4.heap.size := by rw [eW1]; simp [World.setCell]
            have T9 := Lib.hid (show Tail W1.drew w.heap.size u6 (nums t.2.2) from HS2.out.tail.kept (fun d hd => off1 d (fun e => HS2.out.tail.ne HS2.out.blk (by decide) (by rw [hd, e]))))
            have O9 := Lib.hid (show W1.drew.ownsRow w.heap.size 3 1 (.slice A3 ll n3) ll (ints (nums L)) from own_kept HO2.out (fun d hd => off1 d (fun e => own_ne HO2.out HS2.out.blk (by decide) (by rw [hd, e]))))
            have EW1 := Lib.hid eW1
            have HZ1 := Lib.hid (show w.heap.size ≤ W1.heap.size by rw [hz1]; exact HS2.out.grown.size)
            clear eW1 off1 hz1 ck fk fa ck2 fk2 fa2 ca ca2 c2
            go_wp2_with (at_builtin; refine wpList_append_tail rfl _ _ rfl w.heap.size _ _ rfl (T9.out.kept (fun d hd => Below.heap_alloc W1.drew _ d (T9.out.lt d hd).2)) (by rw [nums_len]; omega) ⟨W1.heap.size, 0, none⟩ 1 k rfl ((Blk.new W1.drew _ _).cell 0) (by have := HZ1.out; simp; omega) ?_; intro v' w9 ht hg hf; have HT9 := Lib.hid ht; have HG9 := Lib.hid hg; have HF9 := Lib.hid hf; clear ht hg hf)
            go_roundw
            case rel =>
              refine ⟨j + 1, _, by omega, by go_num, rfl, ?_, ?_, ?_⟩
              · rw [FT.out]
                exact HS2.out.met_one hk32 hN.out EW1.out (W1' := W1.drew.alloc (.cells #[.int .i64 k] 3)) ((bdrew1 (Below.refl _ W1)).trans (B1 W1.drew _)) HT9.out HG9.out
              · rw [← EA2.out]
                exact own_kept O9.out (fun d hd => (HG9.out.block d (by have := (O9.out.lt d hd).2; simp at this ⊢; omega) (fun e => HP2.out d e.symm hd)).trans (Below.heap_alloc W1.drew _ d (O9.out.lt d hd).2))
              · rw [← EA2.out]
                intro d hd h2
                rcases HF9.out d hd with h3 | h3
                · exact HP2.out d h3 h2
                · have := (O9.out.lt d h2).2
                  simp at this h3
                  omega
            case measure => simp [intOf]; omega
        · obtain rfl : j = ll := by omega
          have hlt2 : ¬ (j : Int) < j := by omega
          have HS2 := Lib.hid hs
          clear hs ho hap
          go_wp2_with fail
          go_roundw
          case rel =>
            refine ⟨n + 1, _, rfl, ?_⟩
            have := HS2.out
            rw [ELL.out, List.take_length] at this
            rw [RN.out, PC.out]
            exact this
          case measure =>
            have h1 := HS2.out
            rw [ELL.out, List.take_length] at h1
            rw [h1.mu, MU.out]
            have h2 := VM.out.2
            have h3 := EQL.out
            simp only [muB, List.length_cons] at h2 ⊢
            omega
end Go.Proofs.Ytmlaepbmdfmgbaa

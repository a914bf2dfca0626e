/- append onto a row of the call's own, elements of any size; stores into whole blocks: the world is told by what lies there. Nothing here speaks of one program but the copies at the end. -/
import Derived.Test.YtfghfnpiaccfaaaGreatDoorJ1
import Derived.Maps.AppendAt
import Derived.Laws.OwnMore
import Derived.Test.YtfghfnpiaccfaaaGreatDoorJ5
import Derived.Test.YtfghfnpiaccfaaaGreatDoorG2
set_option linter.unusedSimpArgs false
set_option linter.unusedVariables false
namespace Go.Proofs.YtfghfnpiaccfaaaGreatDoor.J
open Go Go.RowKit
/-- What a row of the call's own is. -/
theorem own_slice {w : World} {base n : Nat} {e size : Nat} {v : Value} {xs : List Value} (h : w.ownsRow base e size v n xs) : ∃ A c, v = .slice A n c ∧ (A = none → n = 0 ∧ c = 0) ∧ n ≤ c := by
  rcases h.2 with ⟨rfl, rfl⟩ | ⟨g, cap, cur, rfl, hb, hh, h1, h2, _⟩
  · exact ⟨none, 0, rfl, fun _ => ⟨rfl, rfl⟩, Nat.le_refl _⟩
  · exact ⟨_, cap, rfl, fun h => (by cases h), h1⟩
theorem run_append_onto {P : Program} (w : World) (base : Nat) (t ty e : TypeId) (i : TypeInfo) (z : Value) (size bytes : Nat) (ht : P.underlying t = some (.slice e)) (hi : P.info? e = some i) (hz : i.zero = some z)
    (hsize : i.size = size) (hby : i.bytes = bytes) (hzs : z.cells.size = size) (hsz : 0 < size)
    (v : Value) (n : Nat) (xs : List Value) (hown : w.ownsRow base e size v n xs) (A : Option Addr) (m c : Nat) (news : List Value) (hl : news.length = m * size)
    (hnews : ∀ a, A = some a → ∀ j u, news[j]? = some u → w.cell? (a.add j) = some u) (hnone : A = none → m = 0 ∧ c = 0) (h1 : ∀ u ∈ news, u.oneCell' = true)
    (h63 : n + m ≤ maxLen) (hbytes : (n + m) * bytes ≤ 140737488355328) (hbase : base ≤ w.heap.size) :
    ∃ v' w', (Builtin.append_ #[t, t] ty #[v, .slice A m c]).run P w = .ok v' w' ∧ w'.ownsRow base e size v' (n + m) (xs ++ news) ∧ w.grownBy w' v.ownBlock ∧ (∀ k, v'.ownBlock = some k → v.ownBlock = some k ∨ w.heap.size ≤ k) := by
  cases A with
  | none =>
    obtain ⟨rfl, rfl⟩ := hnone rfl
    have h0 : news = [] := List.eq_nil_of_length_eq_zero (by simpa using hl)
    subst h0
    exact ⟨v, w, run_append_owned_none w base t ty e i size ht hi v n xs hown, by simpa using hown, World.grownBy.refl _ _, fun _ h => .inl h⟩
  | some a =>
    have hnews' := hnews a rfl
    obtain ⟨v', w', hrun, hown', hg, hnn⟩ := run_append_own (P := P) w base t ty e i z size bytes ht hi hz hsize hby hzs hsz v n xs hown a m c news hl hnews' h1 h63 hbytes hbase
    refine ⟨v', w', hrun, hown', hg, ?_⟩
    subst hsize hby
    have hsm : n + m ≤ 9223372036854775807 := by simp only [maxLen] at h63; omega
    rcases hown.2 with ⟨rfl, rfl⟩ | ⟨g, cap, cur, rfl, hbg, hgh, hnc, hcm, hcs, htake⟩
    · by_cases hm : m = 0
      · rw [hnn.2 ⟨rfl, hm⟩]
        intro k h
        cases h
      · have hr := run_append_nil (P := P) w t ty e i z ht hi hz a m c news hl hnews' (by omega) (by omega) (by have hb := hbytes; rw [Nat.zero_add] at hb; omega)
        rw [hr] at hrun
        cases hrun
        intro k h
        simp only [Value.ownBlock, Option.some.injEq] at h
        exact .inr (by omega)
    · by_cases hroom : n + m ≤ cap
      · have hfit : n * i.size + news.length ≤ cur.size := by rw [hl, hcs, ← Nat.add_mul]; exact Nat.mul_le_mul_right _ hroom
        have hr := run_append_room (P := P) w t ty e i ht hi g n cap cur hgh a m c news hl hnews' h1 hroom hfit
        rw [hr] at hrun
        cases hrun
        exact fun k h => .inl h
      · have holds : ∀ j u, xs[j]? = some u → w.cell? ((⟨g, 0, none⟩ : Addr).add j) = some u := hown.cells (g := g) rfl
        have hr := run_append_grow (P := P) w t ty e i z ht hi hz ⟨g, 0, none⟩ n cap xs hown.1 holds a m c news hl hnews' (by omega) (by omega) (growslice_fits (by omega) hbytes)
        rw [hr] at hrun
        cases hrun
        intro k h
        simp only [Value.ownBlock, Option.some.injEq] at h
        exact .inr (by omega)
theorem wpList_append_onto {P : Program} (w : World) {ops : Array Oper} {rest : List Oper} {o : Oper} {ac : Act} {Q : Exit → Act → World → Prop}
    (hgd : o.guard = none) (s x : Operand) (t : TypeId) (hop : o.op = Op.call { callee := Callee.builtin Builtin.append, args := #[s, x], argTypes := #[t, t] })
    (base : Nat) (e : TypeId) (i : TypeInfo) (z : Value) (size bytes : Nat) (ht : P.underlying t = some (.slice e)) (hi : P.info? e = some i) (hz : i.zero = some z)
    (hsize : i.size = size) (hby : i.bytes = bytes) (hzs : z.cells.size = size) (hsz : 0 < size)
    (v : Value) (n : Nat) (xs : List Value) (hs : ac.eval s = v) (hown : w.ownsRow base e size v n xs) (A : Option Addr) (m c : Nat) (news : List Value) (hx : ac.eval x = .slice A m c) (hl : news.length = m * size)
    (hnews : ∀ a, A = some a → ∀ j u, news[j]? = some u → w.cell? (a.add j) = some u) (hnone : A = none → m = 0 ∧ c = 0) (h1 : ∀ u ∈ news, u.oneCell' = true)
    (h63 : n + m ≤ maxLen) (hbytes : (n + m) * bytes ≤ 140737488355328) (hbase : base ≤ w.heap.size)
    (hK : ∀ v' w', w'.ownsRow base e size v' (n + m) (xs ++ news) → w.grownBy w' v.ownBlock → (∀ k, v'.ownBlock = some k → v.ownBlock = some k ∨ w.heap.size ≤ k) → wpList P ops Q rest (ac.put o.dst v') w') :
    wpList P ops Q (o :: rest) ac w := by
  obtain ⟨v', w', hrun, r1, r2, r3⟩ := run_append_onto (P := P) w base t o.type e i z size bytes ht hi hz hsize hby hzs hsz v n xs hown A m c news hl hnews hnone h1 h63 hbytes hbase
  refine wpList_plain hgd fun K hK' => ?_
  unfold Oper.wp execOp
  simp only [hop, resolve, invoke, builtin, Sem.run_bind, Sem.run_pure, Result.andThen_ok, List.map_toArray, List.map_cons, List.map_nil, hs, hx, hrun]
  exact hK' _ _ (hK v' w' r1 r2 r3)
theorem setRow_grown (w : World) (g : Nat) (cs : Array Value) : w.grownBy (w.setRow g cs) (some g) :=
  ⟨rfl, rfl, rfl, by simp [World.setRow], fun k _ hk => setRow_other w g k _ (fun e => hk (by rw [e]))⟩
/-- A store of a whole value into a whole block. -/
theorem wpList_store_whole {P : Program} {ops : Array Oper} {rest : List Oper} {o : Oper} {a : Act} {w : World} {Q : Exit → Act → World → Prop} (hgd : o.guard = none) (ty : TypeId) (x y : Operand) (ho : o.op = .store ty x y)
    (g : Nat) (cells : Array Value) (hx : a.eval x = .pointer (some ⟨g, 0, none⟩)) (hy : a.eval y = .agg cells)
    (t : TypeId) (old : Array Value) (hg : Blk w g old t) (hi : (P.info? ty).map (·.size) = some cells.size)
    (hold : old.size = cells.size) (h1 : cells.all (·.oneCell') = true)
    (h : ∀ w', Blk w' g cells t → w.grownBy w' (some g) → wpList P ops Q rest (a.put o.dst undef) w') : wpList P ops Q (o :: rest) a w :=
  wpList_store_row hgd ty x y ho g cells hx hy t old hg hi hold h1 (h _ hg.setRow (setRow_grown w g cells))
/-- A store of one cell into a whole block. -/
theorem wpList_store_blk {P : Program} {ops : Array Oper} {rest : List Oper} {o : Oper} {a : Act} {w : World} {Q : Exit → Act → World → Prop} (hgd : o.guard = none) (ty : TypeId) (x y : Operand) (ho : o.op = .store ty x y)
    (g j : Nat) (v : Value) (hx : a.eval x = .pointer (some ⟨g, j, none⟩)) (hy : a.eval y = v) (h1 : v.oneCell' = true)
    (t : TypeId) (old : Array Value) (hg : Blk w g old t) (hj : j < old.size) (hi : (P.info? ty).map (·.size) = some 1) (cells : Array Value) (hc : cells = (old.toList.take j ++ [v] ++ old.toList.drop (j + 1)).toArray)
    (h : ∀ w', Blk w' g cells t → w.grownBy w' (some g) → wpList P ops Q rest (a.put o.dst undef) w') : wpList P ops Q (o :: rest) a w := by
  subst hc
  have hst := run_storeCells_at P g j t [v] 0 old w hg (by simp; omega) (fun u hu => by simp at hu; subst hu; exact h1)
  have hcv : v.cells = #[v] := by cases v <;> first | rfl | cases h1
  refine wpList_plain hgd fun K hK => ?_
  unfold Oper.wp execOp
  cases hq : P.info? ty with
  | none => simp [hq] at hi
  | some i =>
    have hs : i.size = 1 := by simpa [hq] using hi
    simp only [Nat.add_zero, List.length_cons, List.length_nil, Nat.zero_add] at hst
    have hsv : (storeVar ty ⟨g, j, none⟩ v).run P w = .ok () (w.setRow g (old.toList.take j ++ [v] ++ old.toList.drop (j + 1)).toArray) := by
      simp [storeVar, sizeOf, typeInfo, hq, hcv, hs, hst]
    simp only [ho, hx, hy, Instr.storeAt, Instr.sureAddr, Sem.run_bind, Sem.run_pure, Result.andThen_ok, hsv]
    exact hK _ _ (h _ hg.setRow (setRow_grown w g _))
theorem own_below {w w' : World} {base e size n : Nat} {v : Value} {xs : List Value} (h : w.ownsRow base e size v n xs) (hb : Below w.heap.size w w') : w'.ownsRow base e size v n xs := by
  refine ⟨h.1, ?_⟩
  rcases h.2 with hn | ⟨g, cap, cur, rfl, hbg, hgg, rest⟩
  · exact .inl hn
  · exact .inr ⟨g, cap, cur, rfl, hbg, (hb.block g (Array.getElem?_eq_some_iff.1 hgg).1).trans hgg, rest⟩
theorem own_lower {w : World} {base base' e size n : Nat} {v : Value} {xs : List Value} (h : w.ownsRow base e size v n xs) (hb : base' ≤ base) : w.ownsRow base' e size v n xs := by
  refine ⟨h.1, ?_⟩
  rcases h.2 with hn | ⟨g, cap, cur, rfl, hbg, rest⟩
  · exact .inl hn
  · exact .inr ⟨g, cap, cur, rfl, Nat.le_trans hb hbg, rest⟩
theorem grown_below {B : Nat} {w0 w w' : World} {row : Option Nat} (h : Below B w0 w) (hB : B ≤ w.heap.size) (hg : w.grownBy w' row) (hr : ∀ k, row = some k → B ≤ k) : Below B w0 w' :=
  ⟨hg.os.trans h.os, hg.tape.trans h.tape, hg.output.trans h.output, Nat.le_trans h.size hg.size, fun k hk => (hg.block k (Nat.lt_of_lt_of_le hk hB) (fun e => by have := hr k e.symm; omega)).trans (h.block k hk)⟩
theorem own_lies1 {w : World} {base e n c : Nat} {A : Option Addr} {xs : List Value} (h : w.ownsRow base e 1 (.slice A n c) n xs) : Lies w A xs := by
  intro h0
  have hl := h.1
  rcases h.2 with ⟨h1, h2⟩ | ⟨g, cap, cur, h1, hbg, hgg, rest⟩
  · subst h2; rw [hl] at h0; simp at h0
  · simp only [Value.slice.injEq] at h1
    obtain ⟨rfl, _, rfl⟩ := h1
    refine ⟨g, 0, rfl, (Array.getElem?_eq_some_iff.1 hgg).1, fun i hi => ?_⟩
    have := h.cells (g := g) rfl i xs[i] (List.getElem?_eq_getElem hi)
    rw [Addr.add_lit] at this
    rw [this, List.getElem?_eq_getElem hi]
end Go.Proofs.YtfghfnpiaccfaaaGreatDoor.J
namespace Go.Proofs.YtfghfnpiaccfaaaGreatDoor.J
open Go Go.RowKit
set_option maxRecDepth 100000
theorem Tryz.info3 : (Tryz.prog.info? 3).map (fun i => (i.zero, i.size, i.bytes)) = some (some (.int .i64 0), 1, 8) := by kernel_rfl
theorem Tryz.info50 : (Tryz.prog.info? 50).map (fun i => (i.zero, i.size, i.bytes)) = some (some (.agg #[.string ByteArray.empty, .int .i64 0]), 2, 24) := by kernel_rfl
theorem Tryz.info48 : (Tryz.prog.info? 48).map (fun i => (i.zero, i.size, i.bytes)) = some (some Nd.zero.val, 9, 96) := by kernel_rfl
theorem none_len {w : World} {A : Option Addr} {l : List Value} (h : Lies w A l) (hA : A = none) : l.length = 0 := by
  by_cases h0 : 0 < l.length
  · obtain ⟨b, o, e, _⟩ := h h0; rw [hA] at e; cases e
  · omega
theorem lies_news {w : World} {A : Option Addr} {l : List Value} (h : Lies w A l) : ∀ a, A = some a → ∀ j u, l[j]? = some u → w.cell? (a.add j) = some u := by
  intro a ha j u hu
  have hj := (List.getElem?_eq_some_iff.1 hu).1
  obtain ⟨b, o, e, _, hc⟩ := h (by omega)
  rw [ha] at e
  obtain rfl := Option.some.inj e
  rw [Addr.add_lit, hc j hj, hu]
set_option maxHeartbeats 1000000 in
theorem copyInts_any (A : Option Addr) (l : List Int) (c : Nat) (hl : l.length ≤ 1000000) (hnc : A = none → c = 0) (w : World) (h : Lies w A (ints l)) :
    Calls Tryz.prog 154 #[.slice A l.length c] w fun e w' => ∃ A' c', e = .returned (.slice A' l.length c') ∧ w'.ownsRow w.heap.size 3 1 (.slice A' l.length c') l.length (ints l) ∧ (A' = none → c' = 0) ∧ Below w.heap.size w w' := by
  obtain ⟨i0, hi, hz0, hz1, hz2⟩ := info_parts Tryz.info3
  have HN := Lib.hid (lies_news h)
  have HE := Lib.hid (fun (hA : A = none) => And.intro (show l.length = 0 by have := none_len h hA; rwa [ints_length] at this) (hnc hA))
  have H6 := Lib.hid (show 0 + l.length ≤ maxLen by unfold maxLen; omega)
  have H8 := Lib.hid (show (0 + l.length) * 8 ≤ 140737488355328 by omega)
  have HL := Lib.hid (show (ints l).length = l.length * 1 by rw [ints_length, Nat.mul_one])
  clear h hnc hl
  go_enter Tryz.func154, Tryz.ntmps154
  go_wp2_with (at_builtin; refine wpList_append_onto _ rfl (.tmp 4) (.tmp 5) 33 rfl w.heap.size 3 i0 (.int .i64 0) 1 8 Tryz.underlying33 hi hz0 hz1 hz2 rfl (by decide) (.slice none 0 0) 0 [] rfl (World.ownsRow_nil _ _ _ _) A l.length c (ints l) rfl HL.out HN.out HE.out (ints_one l) H6.out H8.out (Nat.le_refl _) ?_; intro v1 w1 ho hg hf; rw [Nat.zero_add, List.nil_append] at ho; obtain ⟨A1, c1, rfl, hnn, _⟩ := own_slice ho; have HO := Lib.hid ho; have HNN := Lib.hid (fun h => (hnn h).2); have HB := Lib.hid (grown_below (Below.refl _ _) (Nat.le_refl _) hg (fun k e => by cases e)); clear ho hg hf hnn)
  go_ret
  exact ⟨_, _, rfl, HO.out, HNN.out, HB.out⟩
/-- Rules' cells. -/
def rcells : List Rl → List Value
  | [] => []
  | r :: l => .string r.name :: .int .i64 r.body :: rcells l
theorem rcells_length : ∀ l : List Rl, (rcells l).length = l.length * 2
  | [] => rfl
  | r :: l => by simp [rcells, rcells_length l]; omega
theorem rcells_one : ∀ (l : List Rl), ∀ u ∈ rcells l, u.oneCell' = true
  | [], u, h => by simp [rcells] at h
  | r :: l, u, h => by
    simp only [rcells, List.mem_cons] at h
    rcases h with rfl | rfl | h
    · rfl
    · rfl
    · exact rcells_one l u h
theorem rcells_at : ∀ (l : List Rl) (i : Nat), i < l.length → (rcells l)[i * 2]? = some (.string (l.getD i Rl.zero).name) ∧ (rcells l)[i * 2 + 1]? = some (.int .i64 (l.getD i Rl.zero).body)
  | [], i, h => by simp at h
  | r :: l, 0, h => by simp [rcells]
  | r :: l, i + 1, h => by
    have := rcells_at l i (by simpa using h)
    rw [show (i + 1) * 2 = i * 2 + 1 + 1 by omega]
    simpa [rcells] using this
theorem _root_.Go.Proofs.YtfghfnpiaccfaaaGreatDoor.Rules.news {w : World} {A : Option Addr} {l : List Rl} (h : Rules w A l) : ∀ a, A = some a → ∀ j u, (rcells l)[j]? = some u → w.cell? (a.add j) = some u := by
  intro a ha j u hu
  have hj := (List.getElem?_eq_some_iff.1 hu).1
  rw [rcells_length] at hj
  obtain ⟨b, o, e, _, hc⟩ := h (by omega)
  rw [ha] at e
  obtain rfl := Option.some.inj e
  have h1 := hc (j / 2) (by omega)
  have h2 := rcells_at l (j / 2) (by omega)
  rw [Addr.add_lit, ← hu]
  rcases Nat.mod_two_eq_zero_or_one j with h | h
  · rw [show j / 2 * 2 = j by omega] at h1 h2
    rw [h1.1, h2.1]
  · rw [show j / 2 * 2 + 1 = j by omega] at h2
    rw [show o + j / 2 * 2 + 1 = o + j by omega] at h1
    rw [h1.2, h2.2]
theorem own_rules {w : World} {base e c : Nat} {A : Option Addr} {l : List Rl} (h : w.ownsRow base e 2 (.slice A l.length c) l.length (rcells l)) : Rules w A l := by
  intro h0
  rcases h.2 with ⟨h1, h2⟩ | ⟨g, cap, cur, h1, hbg, hgg, rest⟩
  · omega
  · simp only [Value.slice.injEq] at h1
    obtain ⟨rfl, _, rfl⟩ := h1
    refine ⟨g, 0, rfl, (Array.getElem?_eq_some_iff.1 hgg).1, fun i hi => ?_⟩
    have q := rcells_at l i hi
    have q0 := h.cells (g := g) rfl _ _ q.1
    have q1 := h.cells (g := g) rfl _ _ q.2
    rw [Addr.add_lit] at q0 q1
    exact ⟨q0, q1⟩
theorem rules_none {w : World} {A : Option Addr} {l : List Rl} (h : Rules w A l) (hA : A = none) : l.length = 0 := by
  by_cases h0 : 0 < l.length
  · obtain ⟨b, o, e, _⟩ := h h0; rw [hA] at e; cases e
  · omega
set_option maxHeartbeats 1000000 in
theorem copyRules_any (A : Option Addr) (l : List Rl) (c : Nat) (hl : l.length ≤ 1000000) (hnc : A = none → c = 0) (w : World) (h : Rules w A l) :
    Calls Tryz.prog 48 #[.slice A l.length c] w fun e w' => ∃ A' c', e = .returned (.slice A' l.length c') ∧ w'.ownsRow w.heap.size 50 2 (.slice A' l.length c') l.length (rcells l) ∧ (A' = none → c' = 0) ∧ Below w.heap.size w w' := by
  obtain ⟨i0, hi, hz0, hz1, hz2⟩ := info_parts Tryz.info50
  have HN := Lib.hid h.news
  have HE := Lib.hid (fun (hA : A = none) => And.intro (rules_none h hA) (hnc hA))
  have H6 := Lib.hid (show 0 + l.length ≤ maxLen by unfold maxLen; omega)
  have H8 := Lib.hid (show (0 + l.length) * 24 ≤ 140737488355328 by omega)
  have HL := Lib.hid (rcells_length l)
  clear h hnc hl
  go_enter Tryz.func48, Tryz.ntmps48
  go_wp2_with (at_builtin; refine wpList_append_onto _ rfl (.tmp 4) (.tmp 5) 22 rfl w.heap.size 50 i0 _ 2 24 Tryz.underlying22 hi hz0 hz1 hz2 rfl (by decide) (.slice none 0 0) 0 [] rfl (World.ownsRow_nil _ _ _ _) A l.length c (rcells l) rfl HL.out HN.out HE.out (rcells_one l) H6.out H8.out (Nat.le_refl _) ?_; intro v1 w1 ho hg hf; rw [Nat.zero_add, List.nil_append] at ho; obtain ⟨A1, c1, rfl, hnn, _⟩ := own_slice ho; have HO := Lib.hid ho; have HNN := Lib.hid (fun h => (hnn h).2); have HB := Lib.hid (grown_below (Below.refl _ _) (Nat.le_refl _) hg (fun k e => by cases e)); clear ho hg hf hnn)
  go_ret
  exact ⟨_, _, rfl, HO.out, HNN.out, HB.out⟩
/-- A node whose kids lie elsewhere. -/
abbrev _root_.Go.Proofs.YtfghfnpiaccfaaaGreatDoor.Nd.at_ (x : Nd) (A : Option Addr) (c : Nat) : Nd := { x with A := A, cap := c }
set_option maxRecDepth 100000 in
set_option maxHeartbeats 4000000 in
theorem copyNode_any (x : Nd) (hl : x.kids.length ≤ 1000000) (w : World) (h : Nd.At w x) :
    Calls Tryz.prog 99 #[x.val] w fun e w' => ∃ A' c', e = .returned (x.at_ A' c').val ∧ w'.ownsRow w.heap.size 3 1 (.slice A' x.kids.length c') x.kids.length (ints x.kids) ∧ (A' = none → c' = 0) ∧ Below w.heap.size w w' := by
  have CI := Lib.hid (fun (w' : World) (b : Below w.heap.size w w') => copyInts_any x.A x.kids x.cap hl h.2.1 w' (h.below b).1)
  clear h hl
  go_enter Tryz.func99, Tryz.ntmps99
  go_wp2_with (first | (go_at_call 154; refine (CI.out _ (B2 _ _ _)).mono ?_; rintro e w1 ⟨A1, c1, rfl, ho, hnn, hb⟩; have HO := Lib.hid (own_lower (base' := w.heap.size + 2) ho (by simp)); have HNN := Lib.hid hnn; have KB := Lib.hid (((Blk.new w _ _).alloc _).below' hb); have KR := Lib.hid (by have := (Blk.new (w.alloc _) _ _).below' hb; rw [World.size_alloc] at this; exact this); have H1 := Lib.hid (bb (B2 w _ _) hb); clear ho hnn hb) | (refine wpList_store_blk rfl 33 (.tmp 6) (.tmp 5) rfl w.heap.size 8 _ rfl rfl rfl 48 _ KB.out (by first | simp | (show 8 < 9; omega)) (by kernel_rfl) (x.at_ A1 c1).cells.toArray rfl ?_; intro w2 hk hg; have HO2 := Lib.hid (HO.out.kept hg (by have hlt := HO.out.lt; cases hv : Value.ownBlock (.slice A1 x.kids.length c1) with | none => exact .inl rfl | some k => exact .inr (fun e => by have := (hlt k hv).1; cases e; omega))); have KR2 := Lib.hid (KR.out.grown hg (by intro e; have := Option.some.inj e; omega)); have H2 := Lib.hid (grown_below H1.out H1.out.size hg (fun k e => by cases e; omega)); have d0 := hk.cell 0; have d1 := hk.cell 1; have d2 := hk.cell 2; have d3 := hk.cell 3; have d4 := hk.cell 4; have d5 := hk.cell 5; have d6 := hk.cell 6; have d7 := hk.cell 7; have d8 := hk.cell 8; simp only [Nd.cells, List.getElem?_toArray, List.getElem?_cons_zero, List.getElem?_cons_succ] at d0 d1 d2 d3 d4 d5 d6 d7 d8; clear hk hg) | (refine wpList_store_whole rfl 48 (.tmp 2) (.tmp 7) rfl (w.heap.size + 1) (x.at_ A1 c1).cells.toArray rfl rfl 48 _ KR2.out (by kernel_rfl) (by rfl) (by simp [Nd.cells, Value.oneCell']) ?_; intro w3 hk hg; have K3 := Lib.hid hk; have HO3 := Lib.hid (HO2.out.kept hg (by have hlt := HO2.out.lt; cases hv : Value.ownBlock (.slice A1 x.kids.length c1) with | none => exact .inl rfl | some k => exact .inr (fun e => by have := (hlt k hv).1; cases e; omega))); have H3 := Lib.hid (grown_below H2.out H2.out.size hg (fun k e => by cases e; omega)); clear hk hg d0 d1 d2 d3 d4 d5 d6 d7 d8))
  exact bodyPost_ret (results_cell_row rfl _ _ (w.heap.size + 1) 48 _ (0, 0) _ rfl K3.out Tryz.underlying48 rfl (by kernel_rfl)) rfl ⟨A1, c1, rfl, own_lower HO3.out (by omega), HNN.out, H3.out⟩
end Go.Proofs.YtfghfnpiaccfaaaGreatDoor.J
namespace Go.Proofs.YtfghfnpiaccfaaaGreatDoor.J
open Go Go.RowKit
set_option maxRecDepth 100000
def ncells : List Nd → List Value
  | [] => []
  | x :: l => x.cells ++ ncells l
theorem ncells_length : ∀ l : List Nd, (ncells l).length = l.length * 9
  | [] => rfl
  | x :: l => by simp [ncells, ncells_length l, Nd.cells]; omega
theorem ncells_app : ∀ (l : List Nd) (x : Nd), ncells (l ++ [x]) = ncells l ++ x.cells
  | [], x => by simp [ncells]
  | y :: l, x => by simp [ncells, ncells_app l x]
theorem ncells_at : ∀ (l : List Nd) (i j : Nat), i < l.length → j < 9 → (ncells l)[i * 9 + j]? = (l.getD i Nd.zero).cells[j]?
  | [], i, j, h, _ => by simp at h
  | x :: l, 0, j, h, hj => by
    rw [ncells, List.getElem?_append_left (by simp [Nd.cells]; omega)]
    simp
  | x :: l, i + 1, j, h, hj => by
    have := ncells_at l i j (by simpa using h) hj
    rw [ncells, List.getElem?_append_right (by simp [Nd.cells]; omega)]
    rw [show (i + 1) * 9 + j - x.cells.length = i * 9 + j by simp [Nd.cells]; omega, this]
    simp
theorem own_nodes {w : World} {base e c : Nat} {A : Option Addr} {l : List Nd} (h : w.ownsRow base e 9 (.slice A l.length c) l.length (ncells l)) : Nodes w A l := by
  intro h0
  rcases h.2 with ⟨h1, h2⟩ | ⟨g, cap, cur, h1, hbg, hgg, rest⟩
  · omega
  · simp only [Value.slice.injEq] at h1
    obtain ⟨rfl, _, rfl⟩ := h1
    refine ⟨g, 0, rfl, (Array.getElem?_eq_some_iff.1 hgg).1, fun i hi j hj => ?_⟩
    have q := ncells_at l i j hi hj
    have hc : j < (l.getD i Nd.zero).cells.length := by simp [Nd.cells]; omega
    rw [List.getElem?_eq_getElem hc] at q ⊢
    have q0 := h.cells (g := g) rfl _ _ q
    rw [Addr.add_lit] at q0
    rw [← Nat.add_assoc] at q0
    exact q0
/-- The same node, but for where its kids lie. -/
def Twin (x y : Nd) : Prop := ∃ A c, y = x.at_ A c
/-- A node's kids lie in a row of the call's own. -/
def Kid (w : World) (B : Nat) (o : Value) (x : Nd) : Prop := w.ownsRow B 3 1 (.slice x.A x.kids.length x.cap) x.kids.length (ints x.kids) ∧ (x.A = none → x.cap = 0) ∧ ∀ a, x.A = some a → o.ownBlock ≠ some a.block
theorem Kid.below {w w' : World} {B : Nat} {o : Value} {x : Nd} (h : Kid w B o x) (hb : Below w.heap.size w w') : Kid w' B o x := ⟨own_below h.1 hb, h.2⟩
theorem Kid.grown {w w' : World} {B : Nat} {o o' : Value} {x : Nd} (h : Kid w B o x) (hg : w.grownBy w' o.ownBlock) (hf : ∀ k, o'.ownBlock = some k → o.ownBlock = some k ∨ w.heap.size ≤ k) : Kid w' B o' x := by
  obtain ⟨h1, h2, h3⟩ := h
  refine ⟨h1.kept hg ?_, h2, fun a ha e => ?_⟩
  · cases hA : x.A with
    | none => exact .inl rfl
    | some a => exact .inr (fun e => h3 a hA e.symm)
  · rcases hf _ e with e | e
    · exact h3 a ha e
    · have := (h1.lt a.block (by rw [ha]; rfl)).2
      omega
theorem cells_one (x : Nd) : ∀ u ∈ x.cells, u.oneCell' = true := by
  intro u hu
  simp only [Nd.cells, List.mem_cons, List.not_mem_nil, or_false] at hu
  rcases hu with rfl | rfl | rfl | rfl | rfl | rfl | rfl | rfl | rfl <;> rfl
theorem new_news (w : World) (vs : List Value) (T : TypeId) : ∀ a, some (⟨w.heap.size, 0, none⟩ : Addr) = some a → ∀ j u, vs[j]? = some u → (w.alloc (.cells vs.toArray T)).cell? (a.add j) = some u := by
  intro a ha j u hu
  obtain rfl := Option.some.inj ha
  rw [Addr.add_lit, Nat.zero_add, (Blk.new w _ _).cell]
  simpa using hu
set_option maxRecDepth 100000 in
set_option maxHeartbeats 4000000 in
theorem copyNodes_any (A : Option Addr) (l : List Nd) (c : Nat) (hl : l.length ≤ 1000000) (w : World) (h : Nodes w A l) (hx : ∀ x ∈ l, Nd.At w x ∧ x.kids.length ≤ 1000000) :
    Calls Tryz.prog 49 #[.slice A l.length c] w fun e w' => ∃ A' c', e = .returned (.slice A' l.length c') ∧ ∃ cl : List Nd, cl.length = l.length ∧ (∀ j, j < l.length → Twin (l.getD j Nd.zero) (cl.getD j Nd.zero)) ∧ w'.ownsRow w.heap.size 48 9 (.slice A' l.length c') l.length (ncells cl) ∧ (∀ x ∈ cl, Kid w' w.heap.size (.slice A' l.length c') x) ∧ (A' = none → c' = 0) ∧ Below w.heap.size w w' := by
  obtain ⟨i0, hi, hz0, hz1, hz2⟩ := info_parts Tryz.info48
  have HN := Lib.hid h
  have HX := Lib.hid hx
  obtain ⟨m, em⟩ : ∃ m, m = l.length := ⟨_, rfl⟩
  have EM := Lib.hid em
  rw [← em] at hl ⊢
  clear h hx em
  go_enter Tryz.func49, Tryz.ntmps49
  go_wp2_with fail
  go_loopw [4, 3] (fun i o wr => ∃ (k : Nat) (cl : List Nd), k ≤ m ∧ i = .int .i64 k ∧ cl.length = k ∧ (∀ j, j < k → Twin (l.getD j Nd.zero) (cl.getD j Nd.zero)) ∧ wr.ownsRow w.heap.size 48 9 o k (ncells cl) ∧ (∀ x ∈ cl, Kid wr w.heap.size o x) ∧ Below w.heap.size w wr) (fun i _ _ => m - (intOf i).toNat)
  case atStart => exact ⟨0, [], by omega, rfl, rfl, fun j hj => by omega, World.ownsRow_nil _ _ _ _, by simp, Below.refl _ _⟩
  case round =>
    obtain ⟨k, cl, hk, rfl, hcl, htw, hown, hkid, hbl⟩ := hrel
    obtain ⟨O, oc, rfl, hOn, _⟩ := own_slice hown
    have HTW := Lib.hid htw
    have HOWN := Lib.hid hown
    have HKID := Lib.hid hkid
    have BL := Lib.hid hbl
    have HCL := Lib.hid hcl
    have HON := Lib.hid hOn
    clear htw hown hkid hbl hcl hOn
    by_cases hlt : k < m
    · have hlt2 : (k : Int) < m := by omega
      have hkl : k < l.length := by have := EM.out; omega
      obtain ⟨hat, hks⟩ := HX.out _ (getD_mem hkl)
      obtain ⟨b1, o1, eA, _, n1, n2, n3, n4, n5, n6, n7, n8, n9⟩ := (HN.out.below BL.out).nine hkl
      generalize hxx : l.getD k Nd.zero = x at hat hks n1 n2 n3 n4 n5 n6 n7 n8 n9
      have HXX := Lib.hid hxx
      have CN := Lib.hid (copyNode_any x hks wr (hat.below BL.out))
      rw [eA]
      clear hxx hat hks eA
      go_wp2_with (first | (go_at_call 99; refine CN.out.mono ?_; rintro e w1 ⟨A1, c1, rfl, ho, hnn, hb⟩; have HO := Lib.hid ho; have HNN := Lib.hid hnn; have H1 := Lib.hid hb; clear ho hnn hb n1 n2 n3 n4 n5 n6 n7 n8 n9) | (refine wpList_store_whole rfl 48 (.tmp 5) (.tmp 16) rfl w1.heap.size (x.at_ A1 c1).cells.toArray rfl rfl 48 _ (Blk.new _ _ _) (by kernel_rfl) (by rfl) (by simp [Nd.cells, Value.oneCell']) ?_; intro w2 hk2 hg; have H2 := Lib.hid (grown_below (B1 w1 _) (by simp) hg (fun k e => by cases e; exact Nat.le_refl _)); have d0 := hk2.cell 0; have d1 := hk2.cell 1; have d2 := hk2.cell 2; have d3 := hk2.cell 3; have d4 := hk2.cell 4; have d5 := hk2.cell 5; have d6 := hk2.cell 6; have d7 := hk2.cell 7; have d8 := hk2.cell 8; simp only [Nd.cells, List.getElem?_toArray, List.getElem?_cons_zero, List.getElem?_cons_succ] at d0 d1 d2 d3 d4 d5 d6 d7 d8; clear hk2 hg) | (at_builtin; refine wpList_append_onto _ rfl (.tmp 17) (.tmp 19) 23 rfl w.heap.size 48 i0 Nd.zero.val 9 96 Tryz.underlying23 hi hz0 hz1 hz2 rfl (by decide) (.slice O k oc) k (ncells cl) rfl (own_below (own_below (own_below HOWN.out H1.out) H2.out) (B1 w2 _)) (some ⟨w2.heap.size, 0, none⟩) 1 1 (x.at_ A1 c1).cells rfl rfl (new_news w2 (x.at_ A1 c1).cells 48) (fun h => nomatch h) (cells_one _) (by unfold maxLen; omega) (by omega) (by have := BL.out.size; have := H1.out.size; have := H2.out.size; simp; omega) ?_; intro v1 w4 ho hg hf; have HO4 := Lib.hid ho; have HG4 := Lib.hid hg; have HF4 := Lib.hid hf; clear ho hg hf))
      have HK1 : Kid w1 w.heap.size (.slice O k oc) (x.at_ A1 c1) := ⟨own_lower HO.out BL.out.size, HNN.out, fun a ha e => by
        have q1 := (HOWN.out.lt _ e).2
        have q2 := (HO.out.lt a.block (by dsimp only [Nd.at_] at ha; rw [ha]; rfl)).1
        omega⟩
      have B4 : Below w.heap.size w (w2.alloc (.cells (x.at_ A1 c1).cells.toArray 48)) := bb (bb (bb BL.out H1.out) H2.out) (B1 w2 _)
      have tk : ∀ y, Kid w1 w.heap.size (.slice O k oc) y → Kid w4 w.heap.size v1 y := fun y hy => ((hy.below H2.out).below (B1 w2 _)).grown HG4.out HF4.out
      refine ⟨⟨k + 1, cl ++ [x.at_ A1 c1], by omega, by go_num, by simp [HCL.out], fun j hj => ?_, by rw [ncells_app]; exact HO4.out, fun y hy => ?_, grown_below B4 B4.size HG4.out (fun q e => (HOWN.out.lt q e).1)⟩, by simp [intOf]; omega⟩
      · by_cases ej : j = k
        · subst ej
          rw [HXX.out, List.getD, List.getElem?_append_right (by rw [HCL.out]; omega), HCL.out]
          simp
          exact ⟨A1, c1, rfl⟩
        · have := HTW.out j (by omega)
          rw [List.getD, List.getD] at this ⊢
          rw [List.getElem?_append_left (by rw [HCL.out]; omega)]
          exact this
      · rcases List.mem_append.1 hy with hy | hy
        · exact tk y ((HKID.out y hy).below H1.out)
        · simp at hy
          subst hy
          exact tk _ HK1
    · obtain rfl : k = m := by omega
      have hlt2 : ¬ (k : Int) < k := by omega
      go_wp2_with fail
      go_ret
      exact ⟨O, oc, rfl, cl, HCL.out, HTW.out, HOWN.out, HKID.out, (fun e => (HON.out e).2), BL.out⟩
theorem nodes_none {w : World} {A : Option Addr} {l : List Nd} (h : Nodes w A l) (hA : A = none) : l.length = 0 := by
  by_cases h0 : 0 < l.length
  · obtain ⟨b, o, e, _⟩ := h h0; rw [hA] at e; cases e
  · omega
/-- The same grammar, but for where it lies. -/
structure GTwin (g h : Gr) : Prop where
  rules : h.rules = g.rules
  len : h.nodes.length = g.nodes.length
  node : ∀ j, j < g.nodes.length → Twin (g.nodes.getD j Nd.zero) (h.nodes.getD j Nd.zero)
theorem own_blk {w w' : World} {B e size n b : Nat} {v : Value} {xs : List Value} (h : w.ownsRow B e size v n xs) (hb : b < B) (hg : w.grownBy w' (some b)) : w'.ownsRow B e size v n xs := by
  refine h.kept hg ?_
  cases hv : v.ownBlock with
  | none => exact .inl rfl
  | some k => exact .inr (fun e => by have := (h.lt k hv).1; cases e; omega)
theorem Kid.blk {w w' : World} {B b : Nat} {o : Value} {x : Nd} (h : Kid w B o x) (hb : b < B) (hg : w.grownBy w' (some b)) : Kid w' B o x := ⟨own_blk h.1 hb hg, h.2⟩
theorem GTwin.mem {g h : Gr} (t : GTwin g h) {x : Nd} (hx : x ∈ h.nodes) : ∃ y ∈ g.nodes, Twin y x := by
  obtain ⟨j, hj, rfl⟩ := List.getElem_of_mem hx
  have hj2 : j < g.nodes.length := by rw [← t.len]; exact hj
  refine ⟨g.nodes[j], List.getElem_mem hj2, ?_⟩
  have := t.node j hj2
  simpa [List.getD, List.getElem?_eq_getElem hj, List.getElem?_eq_getElem hj2] using this
theorem GTwin.within {g h : Gr} (t : GTwin g h) (hi : Gr.In g) : Gr.In h := by
  intro x hx
  obtain ⟨y, hy, A, c, rfl⟩ := t.mem hx
  exact ⟨(hi y hy).kind, (hi y hy).text⟩
theorem GTwin.lies {w w' : World} {g h : Gr} (t : GTwin g h) (hg : Gr.At w g) (h1 : Rules w' h.RA h.rules) (h2 : Nodes w' h.NA h.nodes) (h3 : ∀ x ∈ h.nodes, Lies w' x.A (ints x.kids) ∧ (x.A = none → x.cap = 0)) (h4 : h.RA = none → h.rc = 0) (h5 : h.NA = none → h.nc = 0) : Gr.At w' h where
  rules := h1
  nodes := h2
  kids := fun x hx => by
    refine ⟨(h3 x hx).1, (h3 x hx).2, ?_⟩
    obtain ⟨y, hy, A, c, rfl⟩ := t.mem hx
    exact (hg.kids y hy).2.2
  rl := by rw [t.rules]; exact hg.rl
  nl := by rw [t.len]; exact hg.nl
  rn := h4
  nn := h5
  texts := fun x hx => by
    obtain ⟨y, hy, A, c, rfl⟩ := t.mem hx
    exact hg.texts y hy
  names := by rw [t.rules]; exact hg.names
end Go.Proofs.YtfghfnpiaccfaaaGreatDoor.J
namespace Go.Proofs.YtfghfnpiaccfaaaGreatDoor.J
open Go Go.RowKit
set_option maxRecDepth 100000
@[go_sem] theorem eqn30 (w : World) : (binOp .eql 33 (.slice none 0 0) (.slice none 0 0)).run Tryz.prog w = .ok (.bool true) w := by kernel_rfl
@[go_sem] theorem eqs30 (a : Addr) (n c : Nat) (w : World) : (binOp .eql 33 (.slice (some a) n c) (.slice none 0 0)).run Tryz.prog w = .ok (.bool false) w := by kernel_rfl
@[go_sem] theorem eqn22 (w : World) : (binOp .eql 22 (.slice none 0 0) (.slice none 0 0)).run Tryz.prog w = .ok (.bool true) w := by kernel_rfl
@[go_sem] theorem eqs22 (a : Addr) (n c : Nat) (w : World) : (binOp .eql 22 (.slice (some a) n c) (.slice none 0 0)).run Tryz.prog w = .ok (.bool false) w := by kernel_rfl
@[go_sem] theorem eqn23 (w : World) : (binOp .eql 23 (.slice none 0 0) (.slice none 0 0)).run Tryz.prog w = .ok (.bool true) w := by kernel_rfl
@[go_sem] theorem eqs23 (a : Addr) (n c : Nat) (w : World) : (binOp .eql 23 (.slice (some a) n c) (.slice none 0 0)).run Tryz.prog w = .ok (.bool false) w := by kernel_rfl
set_option maxRecDepth 100000 in
set_option maxHeartbeats 1000000 in
theorem cloneInts_any (A : Option Addr) (l : List Int) (c : Nat) (hl : l.length ≤ 1000000) (hnc : A = none → c = 0) (w : World) (h : Lies w A (ints l)) :
    Calls Tryz.prog 251 #[.slice A l.length c] w fun e w' => ∃ A' c', e = .returned (.slice A' l.length c') ∧ w'.ownsRow w.heap.size 3 1 (.slice A' l.length c') l.length (ints l) ∧ (A' = none → c' = 0) ∧ Below w.heap.size w w' := by
  cases hA : A with
  | none =>
    have h0 : l = [] := List.eq_nil_of_length_eq_zero (by have := none_len h hA; rwa [ints_length] at this)
    subst h0
    obtain rfl := hnc hA
    subst hA
    clear h hnc hl
    go_enter Tryz.func251, Tryz.ntmps251
    go_wp2_with fail
    go_ret
    exact ⟨none, 0, rfl, World.ownsRow_nil _ _ _ _, fun _ => rfl, Below.refl _ _⟩
  | some a =>
    obtain ⟨i0, hi, hz0, hz1, hz2⟩ := info_parts Tryz.info3
    subst hA
    have HN := Lib.hid (lies_news h)
    have H6 := Lib.hid (show 0 + l.length ≤ maxLen by unfold maxLen; omega)
    have H8 := Lib.hid (show (0 + l.length) * 8 ≤ 140737488355328 by omega)
    have HL := Lib.hid (show (ints l).length = l.length * 1 by rw [ints_length, Nat.mul_one])
    clear h hnc hl
    go_enter Tryz.func251, Tryz.ntmps251
    go_wp2_with (at_builtin; refine wpList_append_onto _ rfl (.tmp 5) (.tmp 6) 33 rfl w.heap.size 3 i0 (.int .i64 0) 1 8 Tryz.underlying33 hi hz0 hz1 hz2 rfl (by decide) (.slice (some ⟨w.heap.size, 0, none⟩) 0 0) 0 [] rfl (World.ownsRow_made w #[] 0 (Nat.le_refl _) (by unfold maxLen; omega) rfl) (some a) l.length c (ints l) rfl HL.out (fun a' ha j u hu => by have := HN.out a' ha j u hu; exact ((B1 w _).cell (World.block_lt_of_cell? _ _ this)).trans this) (fun h => nomatch h) (ints_one l) H6.out H8.out (by simp) ?_; intro v1 w1 ho hg hf; rw [Nat.zero_add, List.nil_append] at ho; obtain ⟨A1, c1, rfl, hnn, _⟩ := own_slice ho; have HO := Lib.hid ho; have HNN := Lib.hid (fun h => (hnn h).2); have HB := Lib.hid (grown_below (B1 w _) (by simp) hg (fun k e => by cases e; exact Nat.le_refl _)); clear ho hg hf hnn)
    go_ret
    exact ⟨_, _, rfl, HO.out, HNN.out, HB.out⟩
set_option maxRecDepth 100000 in
set_option maxHeartbeats 1000000 in
theorem cloneRules_any (A : Option Addr) (l : List Rl) (c : Nat) (hl : l.length ≤ 1000000) (hnc : A = none → c = 0) (w : World) (h : Rules w A l) :
    Calls Tryz.prog 220 #[.slice A l.length c] w fun e w' => ∃ A' c', e = .returned (.slice A' l.length c') ∧ w'.ownsRow w.heap.size 50 2 (.slice A' l.length c') l.length (rcells l) ∧ (A' = none → c' = 0) ∧ Below w.heap.size w w' := by
  cases hA : A with
  | none =>
    have h0 : l = [] := List.eq_nil_of_length_eq_zero (rules_none h hA)
    subst h0
    obtain rfl := hnc hA
    subst hA
    clear h hnc hl
    go_enter Tryz.func220, Tryz.ntmps220
    go_wp2_with fail
    go_ret
    exact ⟨none, 0, rfl, World.ownsRow_nil _ _ _ _, fun _ => rfl, Below.refl _ _⟩
  | some a =>
    obtain ⟨i0, hi, hz0, hz1, hz2⟩ := info_parts Tryz.info50
    subst hA
    have HN := Lib.hid (h.news)
    have H6 := Lib.hid (show 0 + l.length ≤ maxLen by unfold maxLen; omega)
    have H8 := Lib.hid (show (0 + l.length) * 24 ≤ 140737488355328 by omega)
    have HL := Lib.hid (rcells_length l)
    clear h hnc hl
    go_enter Tryz.func220, Tryz.ntmps220
    go_wp2_with (at_builtin; refine wpList_append_onto _ rfl (.tmp 5) (.tmp 6) 22 rfl w.heap.size 50 i0 _ 2 24 Tryz.underlying22 hi hz0 hz1 hz2 rfl (by decide) (.slice (some ⟨w.heap.size, 0, none⟩) 0 0) 0 [] rfl (World.ownsRow_made w #[] 0 (Nat.le_refl _) (by unfold maxLen; omega) rfl) (some a) l.length c (rcells l) rfl HL.out (fun a' ha j u hu => by have := HN.out a' ha j u hu; exact ((B1 w _).cell (World.block_lt_of_cell? _ _ this)).trans this) (fun h => nomatch h) (rcells_one l) H6.out H8.out (by simp) ?_; intro v1 w1 ho hg hf; rw [Nat.zero_add, List.nil_append] at ho; obtain ⟨A1, c1, rfl, hnn, _⟩ := own_slice ho; have HO := Lib.hid ho; have HNN := Lib.hid (fun h => (hnn h).2); have HB := Lib.hid (grown_below (B1 w _) (by simp) hg (fun k e => by cases e; exact Nat.le_refl _)); clear ho hg hf hnn)
    go_ret
    exact ⟨_, _, rfl, HO.out, HNN.out, HB.out⟩
theorem ncells_one : ∀ (l : List Nd), ∀ u ∈ ncells l, u.oneCell' = true
  | [], u, h => by simp [ncells] at h
  | x :: l, u, h => by
    rw [ncells, List.mem_append] at h
    rcases h with h | h
    · exact cells_one x u h
    · exact ncells_one l u h
theorem _root_.Go.Proofs.YtfghfnpiaccfaaaGreatDoor.Nodes.news {w : World} {A : Option Addr} {l : List Nd} (h : Nodes w A l) : ∀ a, A = some a → ∀ j u, (ncells l)[j]? = some u → w.cell? (a.add j) = some u := by
  intro a ha j u hu
  have hj := (List.getElem?_eq_some_iff.1 hu).1
  rw [ncells_length] at hj
  obtain ⟨b, o, e, _, hc⟩ := h (by omega)
  rw [ha] at e
  obtain rfl := Option.some.inj e
  have hm := Nat.mod_lt j (show 0 < 9 by omega)
  have h1 := hc (j / 9) (by omega) (j % 9) hm
  have h2 := ncells_at l (j / 9) (j % 9) (by omega) hm
  have ej : j / 9 * 9 + j % 9 = j := by omega
  rw [ej] at h2
  rw [Nat.add_assoc, ej] at h1
  rw [Addr.add_lit, h1, ← h2, hu]
set_option maxRecDepth 100000 in
set_option maxHeartbeats 1000000 in
theorem cloneNodes_any (A : Option Addr) (l : List Nd) (c : Nat) (hl : l.length ≤ 1000000) (hnc : A = none → c = 0) (w : World) (h : Nodes w A l) :
    Calls Tryz.prog 222 #[.slice A l.length c] w fun e w' => ∃ A' c', e = .returned (.slice A' l.length c') ∧ w'.ownsRow w.heap.size 48 9 (.slice A' l.length c') l.length (ncells l) ∧ (A' = none → c' = 0) ∧ Below w.heap.size w w' := by
  cases hA : A with
  | none =>
    have h0 : l = [] := List.eq_nil_of_length_eq_zero (nodes_none h hA)
    subst h0
    obtain rfl := hnc hA
    subst hA
    clear h hnc hl
    go_enter Tryz.func222, Tryz.ntmps222
    go_wp2_with fail
    go_ret
    exact ⟨none, 0, rfl, World.ownsRow_nil _ _ _ _, fun _ => rfl, Below.refl _ _⟩
  | some a =>
    obtain ⟨i0, hi, hz0, hz1, hz2⟩ := info_parts Tryz.info48
    subst hA
    have HN := Lib.hid (h.news)
    have H6 := Lib.hid (show 0 + l.length ≤ maxLen by unfold maxLen; omega)
    have H8 := Lib.hid (show (0 + l.length) * 96 ≤ 140737488355328 by omega)
    have HL := Lib.hid (ncells_length l)
    clear h hnc hl
    go_enter Tryz.func222, Tryz.ntmps222
    go_wp2_with (at_builtin; refine wpList_append_onto _ rfl (.tmp 5) (.tmp 6) 23 rfl w.heap.size 48 i0 _ 9 96 Tryz.underlying23 hi hz0 hz1 hz2 rfl (by decide) (.slice (some ⟨w.heap.size, 0, none⟩) 0 0) 0 [] rfl (World.ownsRow_made w #[] 0 (Nat.le_refl _) (by unfold maxLen; omega) rfl) (some a) l.length c (ncells l) rfl HL.out (fun a' ha j u hu => by have := HN.out a' ha j u hu; exact ((B1 w _).cell (World.block_lt_of_cell? _ _ this)).trans this) (fun h => nomatch h) (ncells_one l) H6.out H8.out (by simp) ?_; intro v1 w1 ho hg hf; rw [Nat.zero_add, List.nil_append] at ho; obtain ⟨A1, c1, rfl, hnn, _⟩ := own_slice ho; have HO := Lib.hid ho; have HNN := Lib.hid (fun h => (hnn h).2); have HB := Lib.hid (grown_below (B1 w _) (by simp) hg (fun k e => by cases e; exact Nat.le_refl _)); clear ho hg hf hnn)
    go_ret
    exact ⟨_, _, rfl, HO.out, HNN.out, HB.out⟩
end Go.Proofs.YtfghfnpiaccfaaaGreatDoor.J
namespace Go.Proofs.YtfghfnpiaccfaaaGreatDoor.J
open Go Go.RowKit
set_option maxRecDepth 100000 in
set_option maxHeartbeats 4000000 in
theorem gcopyRules_any (A : Option Addr) (l : List Rl) (c : Nat) (hl : l.length ≤ 1000000) (hnc : A = none → c = 0) (hs : ∀ r ∈ l, r.name.size ≤ 281474976710656) (w : World) (h : Rules w A l) :
    Calls Tryz.prog 178 #[.slice A l.length c] w fun e w' => ∃ A' c', e = .returned (.slice A' l.length c') ∧ w'.ownsRow w.heap.size 50 2 (.slice A' l.length c') l.length (rcells l) ∧ (A' = none → c' = 0) ∧ Below w.heap.size w w' := by
  have CL := Lib.hid (cloneRules_any A l c hl hnc w h)
  have HS := Lib.hid hs
  obtain ⟨m, em⟩ : ∃ m, m = l.length := ⟨_, rfl⟩
  have EM := Lib.hid em
  rw [← em] at hl CL ⊢
  clear h hs em hnc
  go_enter Tryz.func178, Tryz.ntmps178
  go_wp2_with (go_at_call 220; refine CL.out.mono ?_; rintro e w1 ⟨A1, c1, rfl, ho, hnn, hb⟩; have HO := Lib.hid ho; have HNN := Lib.hid hnn; have H1 := Lib.hid hb; clear ho hnn hb)
  go_loopw [10] (fun i wr => ∃ k : Nat, k ≤ m ∧ i = .int .i64 k ∧ wr.ownsRow w.heap.size 50 2 (.slice A1 m c1) m (rcells l) ∧ Below w.heap.size w wr) (fun i _ => m - (intOf i).toNat)
  case atStart => exact ⟨0, by omega, rfl, HO.out, H1.out⟩
  case round =>
    obtain ⟨k, hk, rfl, ho, hb⟩ := hrel
    by_cases hlt : k < m
    · have hlt2 : (k : Int) < m := by omega
      obtain ⟨d0, d1⟩ := rcells_at l k (by have := EM.out; omega)
      have hsz := HS.out (l.getD k Rl.zero) (getD_mem (by have := EM.out; omega))
      generalize l.getD k Rl.zero = x at d0 d1 hsz
      obtain ⟨g, rfl⟩ : ∃ g, A1 = some ⟨g, 0, none⟩ := by
        rcases ho.2 with ⟨_, h2⟩ | ⟨g, cap, cur, h1, _⟩
        · omega
        · simp only [Value.slice.injEq] at h1
          exact ⟨g, h1.1⟩
      have c0 := (ho.cellAt (k * 2) (by omega)).trans d0
      have c1' := (ho.cellAt (k * 2 + 1) (by omega)).trans d1
      have CS := Lib.hid (fun w => clone_any x.name hsz w)
      have OB := Lib.hid ho
      have BB := Lib.hid hb
      have D0 := Lib.hid d0
      clear ho hb d0 d1 hsz
      go_wp2_with (first | (refine wpList_store_whole rfl 50 (.tmp 5) (.tmp 14) rfl wr.heap.size #[.string x.name, .int .i64 x.body] rfl rfl 50 _ (Blk.new _ _ _) (by kernel_rfl) (by rfl) (by simp [Value.oneCell']) ?_; intro w2 hk2 hg; have H2 := Lib.hid (grown_below (B1 wr _) (by simp) hg (fun k e => by cases e; exact Nat.le_refl _)); have e0 := hk2.cell 0; simp only [List.getElem?_toArray, List.getElem?_cons_zero, List.getElem?_cons_succ] at e0; clear hk2 hg c0 c1') | (go_at_call 221; refine (CS.out _).mono ?_; rintro e w3 ⟨rfl, hb⟩; have H3 := Lib.hid (bb H2.out hb); have O3 := Lib.hid (own_below OB.out H3.out); have cc := (O3.out.cellAt (k * 2) (by omega)).trans D0.out; have ff := O3.out.frozenAt (k * 2); clear hb e0))
      go_roundw
      case rel =>
        obtain ⟨q1, q2⟩ := O3.out.stored (k * 2) (.string x.name)
        have e : (rcells l).set (k * 2) (.string x.name) = rcells l := by
          apply List.ext_getElem?
          intro j
          rw [List.getElem?_set]
          split
          · rename_i e; subst e; split
            · exact D0.out.symm
            · rw [List.getElem?_eq_none (by omega)]
          · rfl
        rw [e] at q1
        exact ⟨k + 1, by omega, by go_num, q1, grown_below (bb BB.out H3.out) (bb BB.out H3.out).size q2 (fun k e => by cases e; exact (O3.out.lt _ rfl).1)⟩
      case measure => simp [intOf]; omega
    · obtain rfl : k = m := by omega
      have hlt2 : ¬ (k : Int) < k := by omega
      have OB := Lib.hid ho
      have BB := Lib.hid hb
      clear ho hb
      go_wp2_with fail
      go_ret
      exact ⟨_, _, rfl, OB.out, HNN.out, BB.out⟩
end Go.Proofs.YtfghfnpiaccfaaaGreatDoor.J

/- append of values onto a row of the call's own, whatever they are: what is told of the row. clear of a row's end. Nothing here speaks of one program. -/
import Derived.Test.YtfcacgiejoeneaaWa
import Derived.Maps.AppendAt
import Derived.Lib.SliceRun
namespace Go.Proofs.Ytfcacgiejoeneaa
open Go Go.RowKit
theorem append_turn {P : Program} (w : World) (base : Nat) (t ty e : TypeId) (i : TypeInfo) (z : Value) (bytes : Nat) (ht : P.underlying t = some (.slice e)) (hi : P.info? e = some i) (hz : i.zero = some z)
    (hsize : i.size = 1) (hby : i.bytes = bytes) (hzs : z.cells.size = 1)
    (v : Value) (xs : List Value) (hown : w.ownsRow base e 1 v xs.length xs) (A : Option Addr) (c : Nat) (l : List Value) (hl : Lies w A l) (hnc : A = none → c = 0) (h1 : ∀ u ∈ l, u.oneCell' = true)
    (h63 : xs.length + l.length ≤ maxLen) (hbytes : (xs.length + l.length) * bytes ≤ 140737488355328) (hbase : base ≤ w.heap.size) :
    ∃ v' w', (Builtin.append_ #[t, t] ty #[v, .slice A l.length c]).run P w = .ok v' w' ∧ w'.ownsRow base e 1 v' (xs ++ l).length (xs ++ l) ∧ w.grownBy w' v.ownBlock ∧ (∀ k, v'.ownBlock = some k → v.ownBlock = some k ∨ w.heap.size ≤ k) := by
  cases A with
  | none =>
    have h0 : l = [] := by
      cases l with
      | nil => rfl
      | cons y l => obtain ⟨b, o, e, _⟩ := hl (by simp); cases e
    subst h0
    obtain rfl := hnc rfl
    refine ⟨v, w, run_append_owned_none w base t ty e i 1 ht hi v _ xs hown, by simpa using hown, World.grownBy.refl _ _, fun _ h => .inl h⟩
  | some a =>
    have hnews : ∀ j u, l[j]? = some u → w.cell? (a.add j) = some u := by
      intro j u hu
      have hj := (List.getElem?_eq_some_iff.1 hu).1
      obtain ⟨b, o, e, _, hc⟩ := hl (by omega)
      cases e
      rw [Addr.add_lit, hc j hj, hu]
    obtain ⟨v', w', hrun, hown', hg, hnone⟩ := run_append_own (P := P) w base t ty e i z 1 bytes ht hi hz hsize hby hzs (by decide) v xs.length xs hown a l.length c l (by simp) hnews h1 h63 hbytes hbase
    refine ⟨v', w', hrun, by rw [List.length_append]; exact hown', hg, ?_⟩
    subst hby
    have hsm : xs.length + l.length ≤ 9223372036854775807 := by simp only [maxLen] at h63; omega
    rcases hown.2 with ⟨rfl, hn⟩ | ⟨g, cap, cur, rfl, hbg, hgh, hnc2, hcm, hcs, htake⟩
    · by_cases hm : l.length = 0
      · rw [hnone.2 ⟨rfl, hm⟩]
        intro k h
        cases h
      · have hr := run_append_nil (P := P) w t ty e i z ht hi hz a l.length c l (by rw [hsize, Nat.mul_one]) hnews (by omega) (by omega) (by have hb := hbytes; rw [hn, Nat.zero_add] at hb; omega)
        rw [hr] at hrun
        cases hrun
        intro k h
        simp only [Value.ownBlock, Option.some.injEq] at h
        exact .inr (by omega)
    · by_cases hroom : xs.length + l.length ≤ cap
      · have hr := run_append_room (P := P) w t ty e i ht hi g xs.length cap cur hgh a l.length c l (by rw [hsize, Nat.mul_one]) hnews h1 hroom (by rw [hsize, Nat.mul_one, hcs, Nat.mul_one]; exact hroom)
        rw [hr] at hrun
        cases hrun
        exact fun k h => .inl h
      · have hr := run_append_grow (P := P) w t ty e i z ht hi hz ⟨g, 0, none⟩ xs.length cap xs (by rw [hsize, Nat.mul_one]) (hown.cells (g := g) rfl) a l.length c l (by rw [hsize, Nat.mul_one]) hnews (by omega) (by omega) (growslice_fits (by omega) hbytes)
        rw [hr] at hrun
        cases hrun
        intro k h
        simp only [Value.ownBlock, Option.some.injEq] at h
        exact .inr (by omega)

theorem wpList_append_turn {P : Program} (w : World) {ops : Array Oper} {rest : List Oper} {o : Oper} {ac : Act} {Q : Exit → Act → World → Prop}
    (hgd : o.guard = none) (s x : Operand) (t : TypeId) (hop : o.op = Op.call { callee := Callee.builtin Builtin.append, args := #[s, x], argTypes := #[t, t] })
    (base : Nat) (e : TypeId) (i : TypeInfo) (z : Value) (bytes : Nat) (ht : P.underlying t = some (.slice e)) (hi : P.info? e = some i) (hz : i.zero = some z)
    (hsize : i.size = 1) (hby : i.bytes = bytes) (hzs : z.cells.size = 1)
    (v : Value) (xs : List Value) (hs : ac.eval s = v) (hown : w.ownsRow base e 1 v xs.length xs) (A : Option Addr) (c : Nat) (l : List Value) (hx : ac.eval x = .slice A l.length c) (hl : Lies w A l) (hnc : A = none → c = 0) (h1 : ∀ u ∈ l, u.oneCell' = true)
    (h63 : xs.length + l.length ≤ maxLen) (hbytes : (xs.length + l.length) * bytes ≤ 140737488355328) (hbase : base ≤ w.heap.size)
    (hK : ∀ v' w', w'.ownsRow base e 1 v' (xs ++ l).length (xs ++ l) → w.grownBy w' v.ownBlock → (∀ k, v'.ownBlock = some k → v.ownBlock = some k ∨ w.heap.size ≤ k) → wpList P ops Q rest (ac.put o.dst v') w') :
    wpList P ops Q (o :: rest) ac w := by
  obtain ⟨v', w', hrun, r1, r2, r3⟩ := append_turn (P := P) w base t o.type e i z bytes ht hi hz hsize hby hzs v xs hown A c l hl hnc h1 h63 hbytes hbase
  refine wpList_plain hgd fun K hK' => ?_
  unfold Oper.wp execOp
  simp only [hop, resolve, invoke, builtin, Sem.run_bind, Sem.run_pure, Result.andThen_ok, List.map_toArray, List.map_cons, List.map_nil, hs, hx, hrun]
  exact hK' _ _ (hK v' w' r1 r2 r3)

/-- The end of a row is cleared. -/
theorem clear_turn {P : Program} (w : World) (base : Nat) (t e : TypeId) (z : Value) (ht : P.underlying t = some (.slice e)) (hv : ∀ w, (zeroValue e).run P w = .ok z w) (hz : z.cells = #[z]) (h1 : z.oneCell' = true)
    (g cap m : Nat) (xs : List Value) (hown : w.ownsRow base e 1 (.slice (some ⟨g, 0, none⟩) xs.length cap) xs.length xs) (hm : m < xs.length) :
    ∃ w', (∀ ty c, (Builtin.clear_ #[t] ty #[.slice (some ⟨g, m, none⟩) (xs.length - m) c]).run P w = .ok (.tuple #[]) w') ∧ w'.ownsRow base e 1 (.slice (some ⟨g, 0, none⟩) m cap) m (xs.take m) ∧ w.grownBy w' (some g) := by
  rcases hown.2 with ⟨h, _⟩ | ⟨g', cap', cur, h, hbg, hgh, hnc, hcm, hcs, htake⟩
  · cases h
  · simp only [Value.slice.injEq, Option.some.injEq, Addr.mk.injEq, and_true, true_and] at h
    obtain ⟨rfl, rfl⟩ := h
    obtain ⟨d, hd⟩ : ∃ d, xs.length - m = d + 1 := ⟨xs.length - m - 1, by omega⟩
    have hzc : (Builtin.zeroCells z.cells (xs.length - m)).toList = List.replicate (xs.length - m) z := by
      rw [hz]
      simp [Builtin.zeroCells]
      apply List.ext_getElem
      · simp
      · intro i h1 h2
        simp [Nat.mod_one]
    have hst := run_storeCells_at P g m e (List.replicate (xs.length - m) z) 0 cur w hgh (by simp; omega) (by intro v hv'; rw [List.eq_of_mem_replicate hv']; exact h1)
    simp only [Nat.add_zero] at hst
    rw [hd] at hzc hst
    generalize hL : (List.replicate (d + 1) z) = L at hzc hst
    have hLl : L.length = d + 1 := by rw [← hL]; simp
    rw [hLl] at hst
    refine ⟨w.setRow g (cur.toList.take m ++ L ++ cur.toList.drop (m + (d + 1))).toArray, fun ty c => ?_, ?_, ?_⟩
    · rw [hd]
      simp only [Builtin.clear_]
      simp [run_underlying ht, hv, hzc, hst]
    · refine ⟨by simp; omega, .inr ⟨g, cap, _, rfl, hbg, setRow_heap w g cur _ e _ hgh, by omega, hcm, ?_, ?_⟩⟩
      · simp; omega
      · rw [Nat.mul_one, List.append_assoc, List.take_append_of_le_length (by simp; omega), List.take_take, Nat.min_self, ← htake, List.take_take]
        congr 1
        omega
    · exact ⟨rfl, rfl, rfl, by simp, fun k _ hk => setRow_other w g k _ (fun e => hk (by simp [e]))⟩
theorem clear_none {P : Program} (w : World) (t ty : TypeId) (d : TypeDesc) (ht : P.underlying t = some d) (A : Option Addr) (c : Nat) : (Builtin.clear_ #[t] ty #[.slice A 0 c]).run P w = .ok (.tuple #[]) w := by
  cases A <;> simp [Builtin.clear_, run_underlying ht]
end Go.Proofs.Ytfcacgiejoeneaa

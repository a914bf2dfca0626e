/- The law of Rv (two operations at the end are walked by themselves) with a table of facts. Nothing here speaks of one program. -/
import Derived.Test.YtcnikeeapillnaaDoorRv
import Derived.Test.YtcnikeeapillnaaDoorRu
namespace Go.Proofs.YtcnikeeapillnaaDoor
open Go Go.RowKit
section
variable {P : Program} {Q : Exit → Act → World → Prop}
def tail2B (m : List Oper) (oL o2 : Oper) : Bool := (oL.after.all fun e => !Region.binds .any e || decide (e.on < m.length - 2)) && (o2.after.all fun e => !Region.binds .any e || decide (e.on < m.length - 1)) && oL.guard.isNone && o2.guard.isNone && ((List.range (m.length - 2)).all fun i => (oL.after.any fun e => Region.binds .any e && e.on == i) || (List.range (m.length - 2)).any fun j => decide (i < j) && (match m[j]? with | some o => o.after.any (fun e => Region.binds .any e && e.on == i) | none => false)) &&
  ((List.range (m.length - 1)).all fun i => o2.after.any fun e => Region.binds .any e && e.on == i)

theorem wp_region_lay_tail2 {id : Nat} {m : List Oper} {a0 : Act} {w0 : World} (tbl : List (Option Sp)) (fr : (Nat → Value) → Array Value) (oL o2 : Oper) (hm : P.follows .mixedOrders = true)
    (hlast : m.dropLast.getLast? = some oL) (hlast2 : m.getLast? = some o2) (hs : shapeB m.dropLast.dropLast.toArray = true) (hgd : guardsTB m.dropLast tbl = true) (htl : tail2B m oL o2 = true)
    (hin : (m.all fun o => match o.dst with | some d => decide (d < a0.tmps.size) | none => true) = true)
    (hfr : ∀ f, layArr m.dropLast.dropLast a0 f = fr f)
    (hop : OwedAll P m.dropLast.dropLast.toArray tbl (fun w => Below w0.heap.size w0 w) a0 0 m.dropLast.dropLast)
    (hend : ∀ (f : Nat → Value) (w : World), Below w0.heap.size w0 w → (∀ (i : Nat) (o : Oper) (d : Tmp), m.dropLast.dropLast[i]? = some o → o.dst = some d → (rowOf tbl i).holds (f d) w) →
      wpList P m.toArray Q [oL, o2] { tmps := fr f, defers := a0.defers } w) :
    (Code.region id m.toArray true).wp P Q a0 w0 := by
  have hlen : 2 ≤ m.length := by
    have h1 := List.length_pos_iff.2 (show m.dropLast ≠ [] by intro h; rw [h] at hlast; cases hlast)
    rw [List.length_dropLast] at h1; omega
  have hdl : ∀ (j : Nat) (o : Oper), m.toArray[j]? = some o → j < m.length - 2 → m.dropLast.dropLast[j]? = some o := by
    intro j o hj hne'
    have hj' : m[j]? = some o := by simpa using hj
    rw [List.getElem?_dropLast, List.length_dropLast, if_pos (by omega), List.getElem?_dropLast, if_pos (by omega)]; exact hj'
  have hgd' : guardsB m.dropLast.dropLast.toArray tbl = true := hgd
  simp only [tail2B, Bool.and_eq_true] at htl
  obtain ⟨⟨⟨⟨⟨hbk1, hbk2⟩, htg1⟩, htg2⟩, hta1⟩, hta2⟩ := htl
  have gat : ∀ (j : Nat) (o : Oper), m.dropLast.dropLast[j]? = some o → match o.guard with
      | none => goes tbl j = true
      | some (g, b) => ∃ x, spBool (rowOf tbl g) = some x ∧ match x with | some x => if goes tbl j then x = b else x ≠ b | none => goes tbl j = false := by
    intro j o hj
    have hj' : m.dropLast.dropLast.toArray[j]? = some o := by simpa using hj
    have := List.all_eq_true.1 hgd' j (List.mem_range.2 (Array.getElem?_eq_some_iff.1 hj').1)
    rw [hj'] at this
    dsimp only at this
    cases hg : o.guard with
    | none => rw [hg] at this; exact this
    | some gb =>
      obtain ⟨g, b⟩ := gb
      rw [hg] at this
      dsimp only at this ⊢
      cases hx : spBool (rowOf tbl g) with
      | none => rw [hx] at this; cases this
      | some x =>
        rw [hx] at this
        refine ⟨x, rfl, ?_⟩
        cases x with
        | none => simpa using this
        | some x =>
          dsimp only at this ⊢
          split <;> rename_i h <;> simp [h] at this <;> exact this
  refine wp_region_facts_tail2 (m.length - 2) oL (by
      rw [List.getElem?_toArray]
      rw [List.getLast?_eq_getElem?, List.length_dropLast, List.getElem?_dropLast, if_pos (by omega)] at hlast
      rwa [show m.length - 1 - 1 = m.length - 2 by omega] at hlast) o2 (by
      rw [List.getElem?_toArray]
      rw [List.getLast?_eq_getElem?] at hlast2
      rwa [show m.length - 2 + 1 = m.length - 1 by omega]) (by simp; omega) (by simpa using htg2) (fun i hi => ?_) (by simpa using htg1) (fun i hi => ?_) hm (fun j v w => (rowOf tbl j).holds v w) (goes tbl) (fun w => Below w0.heap.size w0 w) (fun w w' => Below w.heap.size w w') ?_ ?_ ?_ ?_ (fun i v w w' _ _ h => (rowOf tbl i).mono v w w' h) (fun w => Below.refl _ w) ?_ ?_ ⟨rfl, rfl, rfl, Nat.le_refl _, fun _ _ => rfl⟩ ?_ ?_ ?_
  · have := List.all_eq_true.1 hta2 i (List.mem_range.2 (by omega))
    rw [Array.any_eq_true'] at this
    obtain ⟨e, he, hbe⟩ := this
    simp only [Bool.and_eq_true, beq_iff_eq] at hbe
    exact ⟨e, he, hbe.1, hbe.2⟩
  · have := List.all_eq_true.1 hta1 i (List.mem_range.2 (by omega))
    rw [Bool.or_eq_true] at this
    have conv : ∀ (o : Oper), (o.after.any fun e => Region.binds .any e && e.on == i) = true → ∃ e ∈ o.after, Region.binds .any e = true ∧ e.on = i := by
      intro o h
      rw [Array.any_eq_true'] at h
      obtain ⟨e, he, hbe⟩ := h
      simp only [Bool.and_eq_true, beq_iff_eq] at hbe
      exact ⟨e, he, hbe.1, hbe.2⟩
    rcases this with h | h
    · exact .inl (conv oL h)
    · rw [List.any_eq_true] at h
      obtain ⟨j, hj, h⟩ := h
      rw [Bool.and_eq_true] at h
      obtain ⟨h1, h2⟩ := h
      cases hm : m[j]? with
      | none => rw [hm] at h2; cases h2
      | some o =>
        rw [hm] at h2
        exact .inr ⟨j, o, by simpa using h1, by simpa using hj, by simpa using hm, conv o h2⟩
  · intro j o hj e he hb
    have hlt := (Array.getElem?_eq_some_iff.1 hj).1
    have hsz : m.toArray.size = m.length := by simp
    by_cases h1 : j < m.length - 2
    · exact (shape_at hs (by simpa using hdl j o hj h1)).1 e he hb
    · by_cases h2 : j = m.length - 2
      · have ho : o = oL := by
          have hj' : m[j]? = some o := by simpa using hj
          rw [List.getLast?_eq_getElem?, List.length_dropLast, List.getElem?_dropLast, if_pos (by omega)] at hlast
          rw [show m.length - 1 - 1 = j by omega, hj'] at hlast
          exact Option.some.inj hlast
        subst ho
        have := Array.all_eq_true'.1 hbk1 e he
        rw [hb] at this
        have : e.on < m.length - 2 := by simpa using this
        omega
      · have h3 : j = m.length - 1 := by omega
        have ho : o = o2 := by
          have hj' : m[j]? = some o := by simpa using hj
          rw [List.getLast?_eq_getElem?, ← h3, hj'] at hlast2
          exact Option.some.inj hlast2
        subst ho
        have := Array.all_eq_true'.1 hbk2 e he
        rw [hb] at this
        have : e.on < m.length - 1 := by simpa using this
        omega
  · intro i j p o hi hj hiL hjL hne d hd
    exact (shape_at hs (show m.dropLast.dropLast.toArray[j]? = some o by simpa using hdl j o hj hjL)).2.1 i p (by simpa using hdl i p hi hiL) hne d hd
  · intro j o g b hj hjL hg
    obtain ⟨p, d, hp, hd, e, he⟩ := (shape_at hs (show m.dropLast.dropLast.toArray[j]? = some o by simpa using hdl j o hj hjL)).2.2.2 g b hg
    refine ⟨p, d, ?_, hd, e, he⟩
    have hp' : m.dropLast.dropLast[g]? = some p := by simpa using hp
    have hlt := (List.getElem?_eq_some_iff.1 hp').1
    rw [List.length_dropLast, List.length_dropLast] at hlt
    rw [List.getElem?_dropLast, List.length_dropLast, if_pos (by omega), List.getElem?_dropLast, if_pos (by omega)] at hp'
    simpa using hp'
  · intro i o d hi hd
    have := List.all_eq_true.1 hin o (by simpa using List.mem_of_getElem? (by simpa using hi))
    rw [hd] at this
    simpa using this
  · intro j o g b hj hne' hg v w hv
    have h := gat j o (hdl j o hj hne')
    rw [hg] at h
    obtain ⟨x, hx, hb⟩ := h
    have := spBool_spec hx v w hv
    cases x with
    | none => dsimp only at hb this; rw [hb]; simpa using this b
    | some x =>
      dsimp only at hb this
      subst this
      split <;> rename_i hgo <;> simp [hgo] at hb
      · rw [hb]
      · intro e; cases e; exact hb rfl
  · intro j o hj hne' hg
    have h := gat j o (hdl j o hj hne')
    rw [hg] at h; exact h
  · intro j o hj hne' hgo a w hS hun hdep
    have ho := owedAll_at m.dropLast.dropLast 0 hop j o (hdl j o hj hne')
    rw [Nat.zero_add] at ho
    have := ho hgo a w hS (fun t ht => hun t fun i p hp hiL hd => by
      have h1 := Array.any_eq_false'.1 ht p (by
        have := List.mem_of_getElem? (hdl i p hp hiL)
        simpa using this)
      rw [hd] at h1
      simp at h1) fun i p t hp ht hl => by
      have hlook : t ∈ o.looksAt m.dropLast.dropLast.toArray := by simpa using hl
      obtain ⟨e, he, hb, rfl⟩ := (shape_at hs (show m.dropLast.dropLast.toArray[j]? = some o by simpa using hdl j o hj hne')).2.2.1 t hlook i p hp ht
      have hp' : m.dropLast.dropLast[e.on]? = some p := by simpa using hp
      have hlt := (List.getElem?_eq_some_iff.1 hp').1
      rw [List.length_dropLast, List.length_dropLast] at hlt
      rw [List.getElem?_dropLast, List.length_dropLast, if_pos (by omega), List.getElem?_dropLast, if_pos (by omega)] at hp'
      exact hdep e he hb p t (by simpa using hp') ht
    generalize (execOp a.eval o).run P w = r at this ⊢
    cases r with
    | halt x w' => exact this.elim
    | ok n w' =>
      cases n <;> simp only [Gives] at this ⊢
      case value v => exact ⟨hS.trans (this.1.mono hS.size), this.1, this.2⟩
      case skip => exact ⟨hS.trans (this.1.mono hS.size), this.1, this.2⟩
      case enter f args =>
        refine this.mono ?_
        rintro e w'' ⟨v, rfl, h1, h2⟩
        exact ⟨v, rfl, hS.trans (h1.mono hS.size), h1, h2⟩
  · intro j o hj hne' hgo w
    have : rowOf tbl j = .is undef := by
      unfold goes at hgo; unfold rowOf
      cases h : tbl[j]? with
      | none => rfl
      | some p => cases p with
        | none => rfl
        | some p => rw [h] at hgo; cases hgo
    rw [this]; rfl
  · intro a w hB hz hd hf hr
    have hfin := hend (fun t => a.tmps.getD t undef) w hB (fun i o d hi hd => by
      have hlt := (List.getElem?_eq_some_iff.1 hi).1
      rw [List.length_dropLast, List.length_dropLast] at hlt
      rw [List.getElem?_dropLast, List.length_dropLast, if_pos (by omega), List.getElem?_dropLast, if_pos (by omega)] at hi
      exact hf i o d (by simpa using hi) (by omega) hd)
    have e : a = { tmps := fr (fun t => a.tmps.getD t undef), defers := a0.defers } := by
      rw [← hfr, ← hd]
      cases a with
      | mk tmps defers =>
        congr 1
        dsimp only at hz hr ⊢
        unfold layArr
        apply Array.ext
        · simp [hz]
        · intro t h1 h2
          have ht : t < a0.tmps.size := by omega
          simp only [List.getElem_toArray, List.getElem_map, List.getElem_range]
          split
          · simp [Array.getD_eq_getD_getElem?, h1]
          · rename_i hw
            have h := hr t fun i o hi hne' hd => hw (by
              unfold writesB
              rw [Array.any_eq_true']
              have := List.mem_of_getElem? (hdl i o hi hne')
              exact ⟨o, by simpa using this, by simp [hd]⟩)
            rw [Array.getElem?_eq_getElem h1, Array.getElem?_eq_getElem ht] at h
            rw [Option.some.inj h]
            simp [Array.getD, ht]
    have hw : ∀ a : Act, Region.wanted oL (yielded m.toArray a.tmps) = true := fun a => by
      have : oL.guard = none := by simpa using htg1
      simp [Region.wanted, this]
    have hw2 : ∀ a : Act, Region.wanted o2 (yielded m.toArray a.tmps) = true := fun a => by
      have : o2.guard = none := by simpa using htg2
      simp [Region.wanted, this]
    rw [← e] at hfin
    simp only [wpList, hw, hw2, if_true] at hfin
    exact hfin
end
end Go.Proofs.YtcnikeeapillnaaDoor

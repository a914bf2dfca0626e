/- The law of Rt with a table of facts. Nothing here speaks of one program. -/
import Derived.Test.YtcnikeeapillnaaDoorRt
namespace Go.Proofs.YtcnikeeapillnaaDoor
open Go Go.RowKit
section
variable {P : Program} {Q : Exit → Act → World → Prop}
def tailB (m : List Oper) (oL : Oper) : Bool := oL.guard.isNone && (List.range (m.length - 1)).all fun i => oL.after.any fun e => Region.binds .any e && e.on == i
def guardsTB (m : List Oper) (tbl : List (Option Sp)) : Bool := guardsB m.dropLast.toArray tbl

theorem wp_region_lay_tail {id : Nat} {m : List Oper} {a0 : Act} {w0 : World} (tbl : List (Option Sp)) (fr : (Nat → Value) → Array Value) (oL : Oper) (hm : P.follows .mixedOrders = true)
    (hlast : m.getLast? = some oL) (hs : shapeB m.toArray = true) (hgd : guardsTB m tbl = true) (htl : tailB m oL = true)
    (hin : (m.all fun o => match o.dst with | some d => decide (d < a0.tmps.size) | none => true) = true)
    (hfr : ∀ f, layArr m.dropLast a0 f = fr f)
    (hop : OwedAll P m.toArray tbl (fun w => Below w0.heap.size w0 w) a0 0 m.dropLast)
    (hend : ∀ (f : Nat → Value) (w : World), Below w0.heap.size w0 w → (∀ (i : Nat) (o : Oper) (d : Tmp), m.dropLast[i]? = some o → o.dst = some d → (rowOf tbl i).holds (f d) w) →
      wpList P m.toArray Q [oL] { tmps := fr f, defers := a0.defers } w) :
    (Code.region id m.toArray true).wp P Q a0 w0 := by
  have hne : m ≠ [] := by rintro rfl; cases hlast
  have hsz : m.dropLast.length + 1 = m.length := by rw [List.length_dropLast]; have := List.length_pos_iff.2 hne; omega
  have hdl : ∀ (j : Nat) (o : Oper), m.toArray[j]? = some o → j ≠ m.length - 1 → m.dropLast[j]? = some o := by
    intro j o hj hne'
    have hj' : m[j]? = some o := by simpa using hj
    have hlt : j < m.length := (List.getElem?_eq_some_iff.1 hj').1
    rw [List.getElem?_dropLast, if_pos (by omega)]; exact hj'
  have hgd' : guardsB m.dropLast.toArray tbl = true := hgd
  simp only [tailB, Bool.and_eq_true] at htl
  have gat : ∀ (j : Nat) (o : Oper), m.dropLast[j]? = some o → match o.guard with
      | none => goes tbl j = true
      | some (g, b) => ∃ x, spBool (rowOf tbl g) = some x ∧ match x with | some x => if goes tbl j then x = b else x ≠ b | none => goes tbl j = false := by
    intro j o hj
    have hj' : m.dropLast.toArray[j]? = some o := by simpa using hj
    have := List.all_eq_true.1 hgd' j (List.mem_range.2 (Array.getElem?_eq_some_iff.1 hj').1)
    rw [hj'] at this
    dsimp only at this
    cases hg : o.guard with
    | none => rw [hg] at this; exact this
    | some gb =>
      obtain ⟨g, b⟩ := gb
      rw [hg] at this
      dsimp only at this ⊢
      cases hx : spBool (rowOf tbl g) with
      | none => rw [hx] at this; cases this
      | some x =>
        rw [hx] at this
        refine ⟨x, rfl, ?_⟩
        cases x with
        | none => simpa using this
        | some x =>
          dsimp only at this ⊢
          split <;> rename_i h <;> simp [h] at this <;> exact this
  refine wp_region_facts_tail (m.length - 1) oL (by rw [List.getElem?_toArray, ← List.getLast?_eq_getElem?]; exact hlast) (by simp; omega) (by simpa using htl.1) (fun i hi => ?_) hm (fun j v w => (rowOf tbl j).holds v w) (goes tbl) (fun w => Below w0.heap.size w0 w) (fun w w' => Below w.heap.size w w') hs ?_ (fun i v w w' _ _ h => (rowOf tbl i).mono v w w' h) (fun w => Below.refl _ w) ?_ ?_ ⟨rfl, rfl, rfl, Nat.le_refl _, fun _ _ => rfl⟩ ?_ ?_ ?_
  · have := List.all_eq_true.1 htl.2 i (List.mem_range.2 hi)
    rw [Array.any_eq_true'] at this
    obtain ⟨e, he, hbe⟩ := this
    simp only [Bool.and_eq_true, beq_iff_eq] at hbe
    exact ⟨e, he, hbe.1, hbe.2⟩
  · intro i o d hi hd
    have := List.all_eq_true.1 hin o (by simpa using List.mem_of_getElem? (by simpa using hi))
    rw [hd] at this
    simpa using this
  · intro j o g b hj hne' hg v w hv
    have h := gat j o (hdl j o hj hne')
    rw [hg] at h
    obtain ⟨x, hx, hb⟩ := h
    have := spBool_spec hx v w hv
    cases x with
    | none => dsimp only at hb this; rw [hb]; simpa using this b
    | some x =>
      dsimp only at hb this
      subst this
      split <;> rename_i hgo <;> simp [hgo] at hb
      · rw [hb]
      · intro e; cases e; exact hb rfl
  · intro j o hj hne' hg
    have h := gat j o (hdl j o hj hne')
    rw [hg] at h; exact h
  · intro j o hj hne' hgo a w hS hun hdep
    have ho := owedAll_at m.dropLast 0 hop j o (hdl j o hj hne')
    rw [Nat.zero_add] at ho
    have := ho hgo a w hS hun fun i p t hp ht hl => by
      obtain ⟨e, he, hb, rfl⟩ := (shape_at hs hj).2.2.1 t (by simpa using hl) i p hp ht
      exact hdep e he hb p t hp ht
    generalize (execOp a.eval o).run P w = r at this ⊢
    cases r with
    | halt x w' => exact this.elim
    | ok n w' =>
      cases n <;> simp only [Gives] at this ⊢
      case value v => exact ⟨hS.trans (this.1.mono hS.size), this.1, this.2⟩
      case skip => exact ⟨hS.trans (this.1.mono hS.size), this.1, this.2⟩
      case enter f args =>
        refine this.mono ?_
        rintro e w'' ⟨v, rfl, h1, h2⟩
        exact ⟨v, rfl, hS.trans (h1.mono hS.size), h1, h2⟩
  · intro j o hj hne' hgo w
    have : rowOf tbl j = .is undef := by
      unfold goes at hgo; unfold rowOf
      cases h : tbl[j]? with
      | none => rfl
      | some p => cases p with
        | none => rfl
        | some p => rw [h] at hgo; cases hgo
    rw [this]; rfl
  · intro a w hB hz hd hf hr
    have hfin := hend (fun t => a.tmps.getD t undef) w hB (fun i o d hi hd => by
      have hlt := (List.getElem?_eq_some_iff.1 hi).1
      refine hf i o d ?_ (by omega) hd
      rw [List.getElem?_dropLast] at hi
      split at hi
      · simpa using hi
      · cases hi)
    have e : a = { tmps := fr (fun t => a.tmps.getD t undef), defers := a0.defers } := by
      rw [← hfr, ← hd]
      cases a with
      | mk tmps defers =>
        congr 1
        dsimp only at hz hr ⊢
        unfold layArr
        apply Array.ext
        · simp [hz]
        · intro t h1 h2
          have ht : t < a0.tmps.size := by omega
          simp only [List.getElem_toArray, List.getElem_map, List.getElem_range]
          split
          · simp [Array.getD_eq_getD_getElem?, h1]
          · rename_i hw
            have h := hr t fun i o hi hne' hd => hw (by
              unfold writesB
              rw [Array.any_eq_true']
              have := List.mem_of_getElem? (hdl i o hi hne')
              exact ⟨o, by simpa using this, by simp [hd]⟩)
            rw [Array.getElem?_eq_getElem h1, Array.getElem?_eq_getElem ht] at h
            rw [Option.some.inj h]
            simp [Array.getD, ht]
    have hw : Region.wanted oL (yielded m.toArray a.tmps) = true := by
      have : oL.guard = none := by simpa using htl.1
      simp [Region.wanted, this]
    rw [← e] at hfin
    simp only [wpList, hw, if_true] at hfin
    exact hfin
end
end Go.Proofs.YtcnikeeapillnaaDoor

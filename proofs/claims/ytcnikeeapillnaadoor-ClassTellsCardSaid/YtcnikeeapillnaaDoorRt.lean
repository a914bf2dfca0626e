/- The law of Rg and Rh where the region's last operation (a store, say) waits for all others and is walked by itself. Nothing here speaks of one program. -/
import Derived.Test.YtcnikeeapillnaaDoorRh
import Derived.WalkKit
namespace Go.Proofs.YtcnikeeapillnaaDoor
open Go Go.RowKit
section
variable {P : Program} {ops : Array Oper} {Q : Exit → Act → World → Prop}
set_option maxHeartbeats 2000000 in
theorem wp_region_facts_tail {id : Nat} {a0 : Act} {w0 : World} (L : Nat) (oL : Oper) (hoL : ops[L]? = some oL) (hL : L + 1 = ops.size) (hgL : oL.guard = none) (hall : ∀ i, i < L → ∃ e ∈ oL.after, Region.binds .any e = true ∧ e.on = i) (hm : P.follows .mixedOrders = true) (Φ : Nat → Value → World → Prop) (gd : Nat → Bool) (S : World → Prop) (R : World → World → Prop)
    (hs : shapeB ops = true) (hin : ∀ (i : Nat) (o : Oper) (d : Tmp), ops[i]? = some o → o.dst = some d → d < a0.tmps.size)
    (hmono : ∀ i v w w', S w → S w' → R w w' → Φ i v w → Φ i v w') (hRr : ∀ w, R w w)
    (hg : ∀ (j : Nat) (o : Oper) (g : Nat) (b : Bool), ops[j]? = some o → j ≠ L → o.guard = some (g, b) → ∀ v w, Φ g v w → if gd j then v = .bool b else v ≠ .bool b)
    (hg0 : ∀ (j : Nat) (o : Oper), ops[j]? = some o → j ≠ L → o.guard = none → gd j = true)
    (hS : S { w0 with drawn := w0.drawn + 1 })
    (hop : ∀ (j : Nat) (o : Oper), ops[j]? = some o → j ≠ L → gd j = true → ∀ (a : Act) (w : World), S w → (∀ t, writesB ops t = false → a.eval (.tmp t) = a0.eval (.tmp t)) →
      (∀ e ∈ o.after, Region.binds .any e = true → ∀ (p : Oper) (d : Tmp), ops[e.on]? = some p → p.dst = some d → Φ e.on (a.eval (.tmp d)) w) →
      Gives P (fun v w' => S w' ∧ R w w' ∧ Φ j v w') ((execOp a.eval o).run P w))
    (hun : ∀ (j : Nat) (o : Oper), ops[j]? = some o → j ≠ L → gd j = false → ∀ w, Φ j undef w)
    (hend : ∀ (a : Act) (w : World), S w → a.tmps.size = a0.tmps.size → a.defers = a0.defers → (∀ (i : Nat) (o : Oper) (d : Tmp), ops[i]? = some o → i ≠ L → o.dst = some d → Φ i (a.tmps.getD d undef) w) →
      (∀ t, (∀ (i : Nat) (o : Oper), ops[i]? = some o → i ≠ L → o.dst ≠ some t) → a.tmps[t]? = a0.tmps[t]?) → oL.wp P a w (fun a' w' => Q .normal a' w') Q ∨ (oL.asks P a w ∧ LetsOut Q)) :
    (Code.region id ops true).wp P Q a0 w0 := by
  refine wp_region_any hm ?_
  have key : ∀ (fuel : Nat) (listed : Array Bool) (a : Act) (w : World), left ops listed ≤ fuel → listed.getD L true = false → Known ops Φ S a0 listed a w → wpAny P .any ops Q fuel listed a w := by
    have some' : ∀ (listed : Array Bool), listed.getD L true = false → listed.size = ops.size → Region.ready .any ops listed ≠ [] := by
      intro listed h hz hr
      have := all_listed hs hz hr L (by omega)
      rw [h] at this; cases this
    intro fuel
    induction fuel with
    | zero =>
      intro listed a w hf h0L k
      have := left_set (ops := ops) (by omega : L < ops.size) h0L
      omega
    | succ fuel ih =>
      intro listed a w hf h0L k
      refine ⟨fun hr => absurd hr (some' listed h0L k.size), fun j hj => ?_⟩
      obtain ⟨h0, o, ho, hdep⟩ := mem_ready.1 hj
      have hl := left_set (ops := ops) (Array.getElem?_eq_some_iff.1 ho).1 h0
      have hdep' : ∀ e ∈ o.after, Region.binds .any e = true → ∀ (p : Oper) (d : Tmp), ops[e.on]? = some p → p.dst = some d → Φ e.on (a.tmps.getD d undef) w := by
        intro e he hb p d hp hd
        have h1 := hdep e he hb
        have hlt : e.on < listed.size := by rw [k.size]; exact (Array.getElem?_eq_some_iff.1 hp).1
        refine k.facts e.on p d hp hd ?_
        simpa [hlt] using h1
      have hun' : ∀ t, writesB ops t = false → a.eval (.tmp t) = a0.eval (.tmp t) := by
        intro t ht
        have := k.rest t fun i p hp hd => by
          have := Array.any_eq_false.1 ht i (Array.getElem?_eq_some_iff.1 hp).1
          rw [(Array.getElem?_eq_some_iff.1 hp).2, hd] at this
          simp at this
        simp [Act.eval, Array.getD_eq_getD_getElem?, this]
      by_cases hjL : j = L
      · subst hjL
        obtain rfl : o = oL := Option.some.inj (ho.symm.trans hoL)
        have hlist : ∀ i, i < j → listed.getD i true = true := fun i hi => by
          obtain ⟨e, he, hb, rfl⟩ := hall i hi
          have h1 := hdep e he hb
          have hlt : e.on < listed.size := by rw [k.size]; omega
          simpa [hlt] using h1
        have hQ := hend a w k.s k.tsize k.defers (fun i p d hp hne hd => k.facts i p d hp hd (hlist i (by have := (Array.getElem?_eq_some_iff.1 hp).1; omega))) fun t ht => k.rest t fun i p hp hd => by
          by_cases hij : i = j
          · subst hij; exact h0L
          · exact absurd hd (ht i p hp hij)
        unfold wpOp
        simp only [ho, Region.wanted, hgL, if_true]
        refine hQ.imp (fun hh => Oper.wp_mono (fun a' w' hq => ?_) hh) (fun x => x)
        have hdone : Region.ready .any ops (listed.setIfInBounds j true) = [] := by
          cases h : Region.ready .any ops (listed.setIfInBounds j true) with
          | nil => rfl
          | cons x xs =>
            have hx : x ∈ Region.ready .any ops (listed.setIfInBounds j true) := by rw [h]; simp
            obtain ⟨hx0, p, hp, _⟩ := mem_ready.1 hx
            have hxl := (Array.getElem?_eq_some_iff.1 hp).1
            by_cases hxj : j = x
            · subst hxj
              have : j < listed.size := by rw [k.size]; omega
              simp [this] at hx0
            · rw [getD_set_ne true hxj, hlist x (by omega)] at hx0; cases hx0
        cases fuel with
        | zero => exact ⟨hdone, hq⟩
        | succ fuel => exact ⟨fun _ => hq, fun i hi => by rw [hdone] at hi; cases hi⟩
      have hkeep : (listed.setIfInBounds j true).getD L true = false := by rw [getD_set_ne true hjL]; exact h0L
      have hw : Region.wanted o (yielded ops a.tmps) = gd j := by
        unfold Region.wanted
        cases hgd : o.guard with
        | none => simp [hg0 j o ho hjL hgd]
        | some gb =>
          obtain ⟨g, b⟩ := gb
          obtain ⟨p, d, hp, hd, e, he, hb, rfl⟩ := (shape_at hs ho).2.2.2 g b hgd
          have hv := hg j o _ b ho hjL hgd _ w (hdep' e he hb p d hp hd)
          have hy : yielded ops a.tmps e.on = match a.tmps[d]? with | some (.bool x) => some x | _ => none := by
            unfold yielded; rw [hp]; simp only [Option.bind_some, hd]
            cases a.tmps[d]? with
            | none => rfl
            | some x => cases x <;> rfl
          have hz : a.tmps.getD d undef = (a.tmps[d]?).getD undef := by simp [Array.getD_eq_getD_getElem?]
          simp only [hy]
          rw [hz] at hv
          cases hx : a.tmps[d]? with
          | none =>
            rw [hx] at hv
            cases hgj : gd j with
            | true => rw [hgj] at hv; simp [undef] at hv
            | false => rfl
          | some x =>
            rw [hx] at hv
            cases hgj : gd j with
            | true => rw [hgj] at hv; simp at hv; subst hv; simp
            | false =>
              rw [hgj] at hv; simp at hv
              cases x <;> simp_all
      unfold wpOp
      simp only [ho, hw]
      cases hgj : gd j with
      | false =>
        simp only [Bool.false_eq_true, if_false]
        exact ih _ _ _ (by omega) hkeep (Known.put hs hmono hin k ho k.s (hRr w) (hun j o ho hjL hgj w))
      | true =>
        simp only [if_true]
        refine .inl ?_
        have hgv := hop j o ho hjL hgj a w k.s hun' hdep'
        unfold Oper.wp
        generalize (execOp a.eval o).run P w = r at hgv
        cases r with
        | halt x w' => exact hgv.elim
        | ok n w' =>
          cases n <;> simp only [Gives] at hgv <;> simp only [Oper.upon]
          case value v => exact ih _ _ _ (by omega) hkeep (Known.put hs hmono hin k ho hgv.1 hgv.2.1 hgv.2.2)
          case skip => exact ih _ _ _ (by omega) hkeep (Known.put hs hmono hin k ho hgv.1 hgv.2.1 hgv.2.2)
          case enter f args =>
            refine hgv.mono ?_
            rintro e w'' ⟨v, rfl, h1, h2, h3⟩
            exact ih _ _ _ (by omega) hkeep (Known.put hs hmono hin k ho h1 h2 h3)
  refine key _ _ _ _ ?_ (by simp [show L < ops.size by omega]) ⟨hS, by simp, rfl, rfl, fun i o d hi _ hl => ?_, fun t _ => rfl⟩
  · unfold left
    have := List.countP_le_length (p := fun i => !(Array.replicate ops.size false).getD i true) (l := List.range ops.size)
    simpa using this
  · have := (Array.getElem?_eq_some_iff.1 hi).1
    simp [this] at hl
end
end Go.Proofs.YtcnikeeapillnaaDoor

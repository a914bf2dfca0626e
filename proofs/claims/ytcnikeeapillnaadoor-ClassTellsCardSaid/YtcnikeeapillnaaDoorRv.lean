/- The law of Rg and Rh where the region's last two operations (an append and what takes it, say) wait for all others and are walked by themselves. Nothing here speaks of one program. -/
import Derived.Test.YtcnikeeapillnaaDoorRh
import Derived.WalkKit
namespace Go.Proofs.YtcnikeeapillnaaDoor
open Go Go.RowKit
section
variable {P : Program} {ops : Array Oper} {Q : Exit → Act → World → Prop}
theorem all_listed' {listed : Array Bool} (hback : ∀ (j : Nat) (o : Oper), ops[j]? = some o → ∀ e ∈ o.after, Region.binds .any e = true → e.on < j) (hz : listed.size = ops.size) (hr : Region.ready .any ops listed = []) : ∀ j, j < ops.size → listed.getD j true = true := by
  intro j
  induction j using Nat.strongRecOn with
  | ind j ih =>
    intro hj
    by_cases h : listed.getD j true = true
    · exact h
    · exfalso
      have h' : listed.getD j true = false := by simpa using h
      have hm : j ∈ Region.ready .any ops listed := by
        refine mem_ready.2 ⟨h', ops[j], Array.getElem?_eq_getElem hj, fun e he hb => ?_⟩
        have hlt := hback j _ (Array.getElem?_eq_getElem hj) e he hb
        have := ih e.on hlt (by omega)
        have hb : e.on < listed.size := by omega
        simpa [hb] using this
      rw [hr] at hm; cases hm
theorem Known.put' {Φ : Nat → Value → World → Prop} {S : World → Prop} {R : World → World → Prop} {a0 : Act} {listed : Array Bool} {a : Act} {w w' : World} {j : Nat} {o : Oper} {v : Value}
    (hdis : ∀ (i : Nat) (p : Oper), ops[i]? = some p → listed.getD i true = true → i ≠ j → ∀ d, o.dst = some d → p.dst ≠ some d) (hmono : ∀ i v w w', S w → S w' → R w w' → Φ i v w → Φ i v w') (hin : ∀ (i : Nat) (o : Oper) (d : Tmp), ops[i]? = some o → o.dst = some d → d < a0.tmps.size)
    (k : Known ops Φ S a0 listed a w) (hj : ops[j]? = some o) (hS : S w') (hR : R w w') (hΦ : Φ j v w') :
    Known ops Φ S a0 (listed.setIfInBounds j true) (a.put o.dst v) w' where
  s := hS
  size := by simpa using k.size
  tsize := by cases o.dst <;> simp [Act.put, k.tsize]
  defers := by cases h : o.dst <;> simp [Act.put, k.defers]
  facts := by
    intro i p d hp hd hl
    by_cases e : j = i
    · subst e
      rw [hj] at hp; cases hp
      rw [hd]
      have hlt : d < a.tmps.size := by rw [k.tsize]; exact hin j o d hj hd
      simpa [Act.put, hlt] using hΦ
    · rw [getD_set_ne true e] at hl
      have hf := hmono i _ w w' k.s hS hR (k.facts i p d hp hd hl)
      cases ho : o.dst with
      | none => exact hf
      | some c =>
        have hne : c ≠ d := fun ec => hdis i p hp hl (Ne.symm e) c ho (by rw [hd, ec])
        rw [getD_put v hne]; exact hf
  rest := by
    intro t ht
    have hold := k.rest t fun i p hp hd => by
      have := ht i p hp hd
      by_cases e : j = i
      · subst e
        have hlt : j < listed.size := by rw [k.size]; exact (Array.getElem?_eq_some_iff.1 hj).1
        simp [hlt] at this
      · rwa [getD_set_ne true e] at this
    cases ho : o.dst with
    | none => exact hold
    | some c =>
      have hne : c ≠ t := fun ec => by
        have := ht j o hj (by rw [ho, ec])
        have hlt : j < listed.size := by rw [k.size]; exact (Array.getElem?_eq_some_iff.1 hj).1
        simp [hlt] at this
      simp [Act.put, Array.getElem?_setIfInBounds_ne hne, hold]

set_option maxHeartbeats 2000000 in
theorem wp_region_facts_tail2 {id : Nat} {a0 : Act} {w0 : World} (L : Nat) (oL : Oper) (hoL : ops[L]? = some oL) (o2 : Oper) (ho2 : ops[L + 1]? = some o2) (hL : L + 2 = ops.size) (hg2 : o2.guard = none) (hall2 : ∀ i, i < L + 1 → ∃ e ∈ o2.after, Region.binds .any e = true ∧ e.on = i) (hgL : oL.guard = none) (hall : ∀ i, i < L → (∃ e ∈ oL.after, Region.binds .any e = true ∧ e.on = i) ∨ ∃ (j : Nat) (o : Oper), i < j ∧ j < L ∧ ops[j]? = some o ∧ ∃ e ∈ o.after, Region.binds .any e = true ∧ e.on = i) (hm : P.follows .mixedOrders = true) (Φ : Nat → Value → World → Prop) (gd : Nat → Bool) (S : World → Prop) (R : World → World → Prop)
    (hback : ∀ (j : Nat) (o : Oper), ops[j]? = some o → ∀ e ∈ o.after, Region.binds .any e = true → e.on < j)
    (hdist : ∀ (i j : Nat) (p o : Oper), ops[i]? = some p → ops[j]? = some o → i < L → j < L → i ≠ j → ∀ d, o.dst = some d → p.dst ≠ some d)
    (hguard : ∀ (j : Nat) (o : Oper) (g : Nat) (b : Bool), ops[j]? = some o → j < L → o.guard = some (g, b) → ∃ p d, ops[g]? = some p ∧ p.dst = some d ∧ ∃ e ∈ o.after, Region.binds .any e = true ∧ e.on = g)
    (hin : ∀ (i : Nat) (o : Oper) (d : Tmp), ops[i]? = some o → o.dst = some d → d < a0.tmps.size)
    (hmono : ∀ i v w w', S w → S w' → R w w' → Φ i v w → Φ i v w') (hRr : ∀ w, R w w)
    (hg : ∀ (j : Nat) (o : Oper) (g : Nat) (b : Bool), ops[j]? = some o → j < L → o.guard = some (g, b) → ∀ v w, Φ g v w → if gd j then v = .bool b else v ≠ .bool b)
    (hg0 : ∀ (j : Nat) (o : Oper), ops[j]? = some o → j < L → o.guard = none → gd j = true)
    (hS : S { w0 with drawn := w0.drawn + 1 })
    (hop : ∀ (j : Nat) (o : Oper), ops[j]? = some o → j < L → gd j = true → ∀ (a : Act) (w : World), S w → (∀ t, (∀ (i : Nat) (p : Oper), ops[i]? = some p → i < L → p.dst ≠ some t) → a.eval (.tmp t) = a0.eval (.tmp t)) →
      (∀ e ∈ o.after, Region.binds .any e = true → ∀ (p : Oper) (d : Tmp), ops[e.on]? = some p → p.dst = some d → Φ e.on (a.eval (.tmp d)) w) →
      Gives P (fun v w' => S w' ∧ R w w' ∧ Φ j v w') ((execOp a.eval o).run P w))
    (hun : ∀ (j : Nat) (o : Oper), ops[j]? = some o → j < L → gd j = false → ∀ w, Φ j undef w)
    (hend : ∀ (a : Act) (w : World), S w → a.tmps.size = a0.tmps.size → a.defers = a0.defers → (∀ (i : Nat) (o : Oper) (d : Tmp), ops[i]? = some o → i < L → o.dst = some d → Φ i (a.tmps.getD d undef) w) →
      (∀ t, (∀ (i : Nat) (o : Oper), ops[i]? = some o → i < L → o.dst ≠ some t) → a.tmps[t]? = a0.tmps[t]?) → oL.wp P a w (fun a' w' => o2.wp P a' w' (fun a2 w2 => Q .normal a2 w2) Q ∨ (o2.asks P a' w' ∧ LetsOut Q)) Q ∨ (oL.asks P a w ∧ LetsOut Q)) :
    (Code.region id ops true).wp P Q a0 w0 := by
  refine wp_region_any hm ?_
  have key : ∀ (fuel : Nat) (listed : Array Bool) (a : Act) (w : World), left ops listed ≤ fuel → listed.getD L true = false → listed.getD (L + 1) true = false → (∀ (i : Nat) (o : Oper), ops[i]? = some o → listed.getD i true = true → ∀ e ∈ o.after, Region.binds .any e = true → listed.getD e.on false = true) → Known ops Φ S a0 listed a w → wpAny P .any ops Q fuel listed a w := by
    have some' : ∀ (listed : Array Bool), listed.getD L true = false → listed.size = ops.size → Region.ready .any ops listed ≠ [] := by
      intro listed h hz hr
      have := all_listed' hback hz hr L (by omega)
      rw [h] at this; cases this
    intro fuel
    induction fuel with
    | zero =>
      intro listed a w hf h0L h0L2 hclo k
      have := left_set (ops := ops) (by omega : L < ops.size) h0L
      omega
    | succ fuel ih =>
      intro listed a w hf h0L h0L2 hclo k
      refine ⟨fun hr => absurd hr (some' listed h0L k.size), fun j hj => ?_⟩
      obtain ⟨h0, o, ho, hdep⟩ := mem_ready.1 hj
      have hl := left_set (ops := ops) (Array.getElem?_eq_some_iff.1 ho).1 h0
      have hdep' : ∀ e ∈ o.after, Region.binds .any e = true → ∀ (p : Oper) (d : Tmp), ops[e.on]? = some p → p.dst = some d → Φ e.on (a.tmps.getD d undef) w := by
        intro e he hb p d hp hd
        have h1 := hdep e he hb
        have hlt : e.on < listed.size := by rw [k.size]; exact (Array.getElem?_eq_some_iff.1 hp).1
        refine k.facts e.on p d hp hd ?_
        simpa [hlt] using h1
      have hdisL : ∀ (i : Nat), i < ops.size → listed.getD i true = true → i < L := fun i hi hl => by
        by_cases e1 : i = L
        · subst e1; rw [h0L] at hl; cases hl
        · by_cases e2 : i = L + 1
          · subst e2; rw [h0L2] at hl; cases hl
          · omega
      have hun' : ∀ t, (∀ (i : Nat) (p : Oper), ops[i]? = some p → i < L → p.dst ≠ some t) → a.eval (.tmp t) = a0.eval (.tmp t) := by
        intro t ht
        have := k.rest t fun i p hp hd => by
          cases hl : listed.getD i true with
          | false => rfl
          | true => exact absurd hd (ht i p hp (hdisL i (Array.getElem?_eq_some_iff.1 hp).1 hl))
        simp [Act.eval, Array.getD_eq_getD_getElem?, this]
      by_cases hjL : j = L
      · subst hjL
        obtain rfl : o = oL := Option.some.inj (ho.symm.trans hoL)
        have hlist : ∀ i, i < j → listed.getD i true = true := by
          have key : ∀ d i, i + d + 1 = j → listed.getD i true = true := by
            intro d
            induction d using Nat.strongRecOn with
            | ind d ihd =>
              intro i hi
              have fin : listed.getD i false = true → listed.getD i true = true := fun h1 => by
                have hlt : i < listed.size := by rw [k.size]; omega
                simp only [Array.getD_eq_getD_getElem?, Array.getElem?_eq_getElem hlt, Option.getD_some] at h1 ⊢
                exact h1
              rcases hall i (by omega) with ⟨e, he, hb, heq⟩ | ⟨j', o', h1, h2, ho', e, he, hb, heq⟩
              · have h1 := hdep e he hb
                rw [heq] at h1; exact fin h1
              · have hj' := ihd (j - j' - 1) (by omega) j' (by omega)
                have h3 := hclo j' o' ho' hj' e he hb
                rw [heq] at h3; exact fin h3
          intro i hi
          exact key (j - i - 1) i (by omega)
        have hQ := hend a w k.s k.tsize k.defers (fun i p d hp hne hd => k.facts i p d hp hd (hlist i hne)) fun t ht => k.rest t fun i p hp hd => by
          by_cases hij : i < j
          · exact absurd hd (ht i p hp hij)
          · have hlt := (Array.getElem?_eq_some_iff.1 hp).1
            by_cases e : i = j
            · subst e; exact h0L
            · obtain rfl : i = j + 1 := by omega
              exact h0L2
        unfold wpOp
        simp only [ho, Region.wanted, hgL, if_true]
        refine hQ.imp (fun hh => Oper.wp_mono (fun a' w' hq => ?_) hh) (fun x => x)
        have hl1 : ∀ i, i < j + 1 → (listed.setIfInBounds j true).getD i true = true := fun i hi => by
          by_cases e : j = i
          · subst e
            have : j < listed.size := by rw [k.size]; omega
            simp [this]
          · rw [getD_set_ne true e]; exact hlist i (by omega)
        have h2n : (listed.setIfInBounds j true).getD (j + 1) true = false := by rw [getD_set_ne true (by omega)]; exact h0L2
        have hleft := left_set (ops := ops) (by omega : j + 1 < ops.size) h2n
        cases fuel with
        | zero => omega
        | succ fuel =>
          have honly : ∀ i ∈ Region.ready .any ops (listed.setIfInBounds j true), i = j + 1 := fun i hi => by
            obtain ⟨hi0, p, hp, _⟩ := mem_ready.1 hi
            have := (Array.getElem?_eq_some_iff.1 hp).1
            by_cases e : i < j + 1
            · rw [hl1 i e] at hi0; cases hi0
            · omega
          have hin2 : j + 1 ∈ Region.ready .any ops (listed.setIfInBounds j true) := by
            refine mem_ready.2 ⟨h2n, o2, ho2, fun e he hb => ?_⟩
            have hlt := hback _ o2 ho2 e he hb
            have := hl1 e.on hlt
            have hz : e.on < (listed.setIfInBounds j true).size := by simp; rw [k.size]; omega
            simp only [Array.getD_eq_getD_getElem?, Array.getElem?_eq_getElem hz, Option.getD_some] at this ⊢
            exact this
          refine ⟨fun hr => (by rw [hr] at hin2; cases hin2), fun i hi => ?_⟩
          obtain rfl := honly i hi
          unfold wpOp
          simp only [ho2, Region.wanted, hg2, if_true]
          refine hq.imp (fun hh => Oper.wp_mono (fun a2 w2 hq2 => ?_) hh) (fun x => x)
          have hdone : Region.ready .any ops ((listed.setIfInBounds j true).setIfInBounds (j + 1) true) = [] := by
            cases h : Region.ready .any ops ((listed.setIfInBounds j true).setIfInBounds (j + 1) true) with
            | nil => rfl
            | cons x xs =>
              have hx : x ∈ Region.ready .any ops ((listed.setIfInBounds j true).setIfInBounds (j + 1) true) := by rw [h]; simp
              obtain ⟨hx0, p, hp, _⟩ := mem_ready.1 hx
              have hxl := (Array.getElem?_eq_some_iff.1 hp).1
              by_cases hxj : j + 1 = x
              · subst hxj
                have : j + 1 < (listed.setIfInBounds j true).size := by simp; rw [k.size]; omega
                simp at this
                simp [this] at hx0
              · rw [getD_set_ne true hxj, hl1 x (by omega)] at hx0; cases hx0
          cases fuel with
          | zero => exact ⟨hdone, hq2⟩
          | succ fuel => exact ⟨fun _ => hq2, fun i hi => by rw [hdone] at hi; cases hi⟩
      have hjlt : j < L := by
        have hlt := (Array.getElem?_eq_some_iff.1 ho).1
        by_cases e : j = L + 1
        · exfalso
          subst e
          obtain rfl : o = o2 := Option.some.inj (ho.symm.trans ho2)
          obtain ⟨e, he, hb, heq⟩ := hall2 L (by omega)
          have h1 := hdep e he hb
          rw [heq] at h1
          have hlt : L < listed.size := by rw [k.size]; omega
          simp [hlt] at h0L h1; rw [h0L] at h1; cases h1
        · omega
      have hclo2 : ∀ (i : Nat) (p : Oper), ops[i]? = some p → (listed.setIfInBounds j true).getD i true = true → ∀ e ∈ p.after, Region.binds .any e = true → (listed.setIfInBounds j true).getD e.on false = true := by
        intro i p hp hl e he hb
        have hold : listed.getD e.on false = true := by
          by_cases hij : j = i
          · subst hij
            obtain rfl : o = p := Option.some.inj (ho.symm.trans hp)
            exact hdep e he hb
          · rw [getD_set_ne true hij] at hl
            exact hclo i p hp hl e he hb
        by_cases hje : j = e.on
        · rw [← hje]
          have hlt : j < listed.size := by rw [k.size]; exact (Array.getElem?_eq_some_iff.1 ho).1
          simp [hlt]
        · simpa [Array.getD_eq_getD_getElem?, Array.getElem?_setIfInBounds_ne hje] using hold
      have hdis : ∀ (i : Nat) (p : Oper), ops[i]? = some p → listed.getD i true = true → i ≠ j → ∀ d, o.dst = some d → p.dst ≠ some d := fun i p hp hl hne d hd =>
        hdist i j p o hp ho (hdisL i (Array.getElem?_eq_some_iff.1 hp).1 hl) hjlt hne d hd
      have hkeep2 : (listed.setIfInBounds j true).getD (L + 1) true = false := by rw [getD_set_ne true (by omega)]; exact h0L2
      have hkeep : (listed.setIfInBounds j true).getD L true = false := by rw [getD_set_ne true hjL]; exact h0L
      have hw : Region.wanted o (yielded ops a.tmps) = gd j := by
        unfold Region.wanted
        cases hgd : o.guard with
        | none => simp [hg0 j o ho hjlt hgd]
        | some gb =>
          obtain ⟨g, b⟩ := gb
          obtain ⟨p, d, hp, hd, e, he, hb, rfl⟩ := hguard j o g b ho hjlt hgd
          have hv := hg j o _ b ho hjlt hgd _ w (hdep' e he hb p d hp hd)
          have hy : yielded ops a.tmps e.on = match a.tmps[d]? with | some (.bool x) => some x | _ => none := by
            unfold yielded; rw [hp]; simp only [Option.bind_some, hd]
            cases a.tmps[d]? with
            | none => rfl
            | some x => cases x <;> rfl
          have hz : a.tmps.getD d undef = (a.tmps[d]?).getD undef := by simp [Array.getD_eq_getD_getElem?]
          simp only [hy]
          rw [hz] at hv
          cases hx : a.tmps[d]? with
          | none =>
            rw [hx] at hv
            cases hgj : gd j with
            | true => rw [hgj] at hv; simp [undef] at hv
            | false => rfl
          | some x =>
            rw [hx] at hv
            cases hgj : gd j with
            | true => rw [hgj] at hv; simp at hv; subst hv; simp
            | false =>
              rw [hgj] at hv; simp at hv
              cases x <;> simp_all
      unfold wpOp
      simp only [ho, hw]
      cases hgj : gd j with
      | false =>
        simp only [Bool.false_eq_true, if_false]
        exact ih _ _ _ (by omega) hkeep hkeep2 hclo2 (Known.put' hdis hmono hin k ho k.s (hRr w) (hun j o ho hjlt hgj w))
      | true =>
        simp only [if_true]
        refine .inl ?_
        have hgv := hop j o ho hjlt hgj a w k.s hun' hdep'
        unfold Oper.wp
        generalize (execOp a.eval o).run P w = r at hgv
        cases r with
        | halt x w' => exact hgv.elim
        | ok n w' =>
          cases n <;> simp only [Gives] at hgv <;> simp only [Oper.upon]
          case value v => exact ih _ _ _ (by omega) hkeep hkeep2 hclo2 (Known.put' hdis hmono hin k ho hgv.1 hgv.2.1 hgv.2.2)
          case skip => exact ih _ _ _ (by omega) hkeep hkeep2 hclo2 (Known.put' hdis hmono hin k ho hgv.1 hgv.2.1 hgv.2.2)
          case enter f args =>
            refine hgv.mono ?_
            rintro e w'' ⟨v, rfl, h1, h2, h3⟩
            exact ih _ _ _ (by omega) hkeep hkeep2 hclo2 (Known.put' hdis hmono hin k ho h1 h2 h3)
  refine key _ _ _ _ ?_ (by simp [show L < ops.size by omega]) (by simp [show L + 1 < ops.size by omega]) (fun i o hi hl => by have hh := (Array.getElem?_eq_some_iff.1 hi).1; simp [hh] at hl) ⟨hS, by simp, rfl, rfl, fun i o d hi _ hl => ?_, fun t _ => rfl⟩
  · unfold left
    have := List.countP_le_length (p := fun i => !(Array.replicate ops.size false).getD i true) (l := List.range ops.size)
    simpa using this
  · have := (Array.getElem?_eq_some_iff.1 hi).1
    simp [this] at hl
end
end Go.Proofs.YtcnikeeapillnaaDoor

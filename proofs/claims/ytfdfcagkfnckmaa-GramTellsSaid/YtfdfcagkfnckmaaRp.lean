/- The law with a table of facts, the frame behind the region laid by puts. Nothing here speaks of one program. -/
import Derived.Test.YtfdfcagkfnckmaaRh
namespace Go.Proofs.Ytfdfcagkfnckmaa
open Go Go.RowKit
/-- What the region's operations yield, put one by one. -/
def putOps : List Oper → (Nat → Value) → Act → Act
  | [], _, a => a
  | o :: os, f, a => putOps os f (match o.dst with | some d => a.put (some d) (f d) | none => a)
theorem putOps_defers : ∀ (l : List Oper) (f : Nat → Value) (a : Act), (putOps l f a).defers = a.defers
  | [], _, _ => rfl
  | o :: os, f, a => by
    unfold putOps
    rw [putOps_defers os f]
    cases o.dst <;> rfl
theorem putOps_size : ∀ (l : List Oper) (f : Nat → Value) (a : Act), (putOps l f a).tmps.size = a.tmps.size
  | [], _, _ => rfl
  | o :: os, f, a => by
    unfold putOps
    rw [putOps_size os f]
    cases o.dst <;> simp [Act.put]
theorem putOps_at : ∀ (l : List Oper) (f : Nat → Value) (a : Act) (t : Nat), t < a.tmps.size → (putOps l f a).tmps[t]? = if (l.any fun o => o.dst == some t) then some (f t) else a.tmps[t]?
  | [], _, _, _, _ => by simp [putOps]
  | o :: os, f, a, t, ht => by
    unfold putOps
    cases hd : o.dst with
    | none =>
      simp only [List.any_cons, hd]
      rw [putOps_at os f a t ht]
      simp
    | some d =>
      simp only [List.any_cons, hd]
      rw [putOps_at os f _ t (by simpa [Act.put] using ht)]
      by_cases hdt : d = t
      · subst hdt
        simp [Act.put, ht]
      · simp [Act.put, hdt]
theorem wp_region_puts {P : Program} {Q : Exit → Act → World → Prop} {id : Nat} {l : List Oper} {a0 : Act} {w0 : World} (tbl : List (Option Sp)) (hm : P.follows .mixedOrders = true)
    (hs : shapeB l.toArray = true) (hgd : guardsB l.toArray tbl = true) (hin : (l.all fun o => match o.dst with | some d => decide (d < a0.tmps.size) | none => true) = true)
    (hop : OwedAll P l.toArray tbl (fun w => Below w0.heap.size w0 w) a0 0 l)
    (hend : ∀ (f : Nat → Value) (w : World), Below w0.heap.size w0 w → (∀ (i : Nat) (o : Oper) (d : Tmp), l[i]? = some o → o.dst = some d → (rowOf tbl i).holds (f d) w) →
      Q .normal (putOps l f a0) w) :
    (Code.region id l.toArray true).wp P Q a0 w0 := by
  refine wp_region_table tbl hm hs hgd hin hop fun a w hB hz hd hf hr => ?_
  have e : a = putOps l (fun t => a.tmps.getD t undef) a0 := by
    cases a with
    | mk tmps defers =>
      have h2 : (putOps l (fun t => tmps.getD t undef) a0).defers = defers := (putOps_defers _ _ _).trans hd.symm
      have h1 : (putOps l (fun t => tmps.getD t undef) a0).tmps = tmps := by
        apply Array.ext_getElem?
        intro t
        by_cases ht : t < a0.tmps.size
        · rw [putOps_at _ _ _ _ ht]
          split
          · dsimp only at hz
            simp [Array.getD_eq_getD_getElem?, hz, ht]
          · rename_i hw
            exact (hr t (by simpa [writesB] using hw)).symm
        · dsimp only at hz
          rw [Array.getElem?_eq_none (by rw [putOps_size]; omega), Array.getElem?_eq_none (by omega)]
      cases hp : putOps l (fun t => tmps.getD t undef) a0 with
      | mk t2 d2 =>
        rw [hp] at h1 h2
        dsimp only at h1 h2 ⊢
        subst h1 h2
        rfl
  rw [e]
  exact hend _ w hB hf
end Go.Proofs.Ytfdfcagkfnckmaa

/- A region that draws its order, within a round of a loop over a range-function: walked as outside of one. Nothing here speaks of one program. -/
import Derived.Test.YtfcacgiejoeneaaRw
import Derived.OrdersIn
namespace Go.Proofs.Ytfcacgiejoeneaa
open Go Go.RowKit
section
variable {P : Program} {ops : Array Oper} {Q : Exit → Act → World → Prop} {md : Region.Mode} {n : Nat}
theorem wpOpIn_round {l i : Nat} (hd : ∀ o, ops[i]? = some o → ∀ c, o.op ≠ .defer c) {K K' : Act → World → Prop} (hK : ∀ a w, K a w → K' a w) {a : Act} {w : World}
    (h : wpOpIn Fence.wide n P ops Q i K a w) : wpOpIn (Fence.wide.inRound l) n P ops Q i K' a w := by
  refine wpOpIn_mono hK ?_
  unfold wpOpIn at *
  cases hi : ops[i]? with
  | none => simp only [hi] at h; exact h
  | some o =>
    simp only [hi] at h
    dsimp only
    by_cases hw : Region.wanted o (yielded ops a.tmps) = true
    · rw [if_pos hw] at h ⊢
      unfold Oper.wpIn at *
      refine ⟨h.1, ?_⟩
      have h2 := h.2
      rw [show (Fence.wide.inRound l).round = some l from rfl, Oper.semAt_some l _ _ (hd o hi)]
      rw [show Fence.wide.round = none from rfl, Oper.semAt_none] at h2
      generalize (execOp a.eval o).run P w = r at h2 ⊢
      cases r with
      | ok x w' => cases x <;> exact h2
      | halt x w' => cases x <;> exact h2
    · rw [if_neg hw] at h ⊢
      exact h
theorem wpAnyIn_round {l : Nat} (hd : ∀ (i : Nat) (o : Oper), ops[i]? = some o → ∀ c, o.op ≠ .defer c) : ∀ (fuel : Nat) (listed : Array Bool) (a : Act) (w : World),
    wpAnyIn Fence.wide n P md ops Q fuel listed a w → wpAnyIn (Fence.wide.inRound l) n P md ops Q fuel listed a w
  | 0, _, _, _, h => h
  | fuel + 1, listed, a, w, h => ⟨h.1, fun i hi => wpOpIn_round (fun o => hd i o) (fun a w => wpAnyIn_round hd fuel _ a w) (h.2 i hi)⟩
def defers (ops : Array Oper) : Bool := ops.any fun o => match o.op with | .defer _ => true | _ => false
theorem wpIn_region_round {l id : Nat} {a : Act} {w : World} (hm : P.follows .mixedOrders = true) (hd : defers ops = false)
    (h : wpAnyIn Fence.wide n P .any ops Q ops.size (Array.replicate ops.size false) a w.drew) : (Code.region id ops true).wpIn (Fence.wide.inRound l) n P Q a w := by
  refine wpIn_region_any hm (wpAnyIn_round (fun i o ho c hc => ?_) _ _ _ _ h)
  have hm : o ∈ ops := Array.mem_of_getElem? ho
  unfold defers at hd
  rw [Array.any_eq_false] at hd
  obtain ⟨j, hj, e⟩ := Array.mem_iff_getElem.1 hm
  have := hd j hj
  rw [e, hc] at this
  exact this rfl
end
end Go.Proofs.Ytfcacgiejoeneaa

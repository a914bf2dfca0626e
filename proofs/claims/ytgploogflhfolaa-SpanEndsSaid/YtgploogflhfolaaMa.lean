/- The gaps of a span beside spans in order: plain facts. -/
import Derived.Test.YtgploogflhfolaaWf
namespace Go.Proofs.Ytgploogflhfolaa
/-- The gaps from a place on, beside a row of spans. -/
def sweep (hi : Int) : Int → List (Int × Int) → List (Int × Int)
  | _, [] => []
  | at_, p :: r => (if 0 < ln at_ (min p.1 hi) then [(at_, min p.1 hi)] else []) ++ sweep hi (max at_ p.2) r
theorem sweep_length (hi : Int) (l : List (Int × Int)) : ∀ at_, (sweep hi at_ l).length ≤ l.length := by
  induction l with
  | nil => intro at_; simp [sweep]
  | cons p r ih =>
    intro at_
    have := ih (max at_ p.2)
    simp only [sweep, List.length_append, List.length_cons]
    split <;> simp <;> omega
theorem sweep_hit {hi at_ : Int} {p : Int × Int} {r : List (Int × Int)} (h : 0 < ln at_ (min p.1 hi)) : sweep hi at_ (p :: r) = (at_, min p.1 hi) :: sweep hi (max at_ p.2) r := by simp [sweep, h]
theorem sweep_miss {hi at_ : Int} {p : Int × Int} {r : List (Int × Int)} (h : ¬ 0 < ln at_ (min p.1 hi)) : sweep hi at_ (p :: r) = sweep hi (max at_ p.2) r := by simp [sweep, h]
end Go.Proofs.Ytgploogflhfolaa

/- A row of one's own as a text. -/
import Derived.Test.YtgploogflhfolaaXl
namespace Go.Proofs.Ytgploogflhfolaa
open Go Go.RowKit
theorem text_of_own' {w : World} {base n : Nat} {xs : List Nat} {v : Value} (h : w.ownsRow base 5 1 v n (xs.map natb)) (hn : xs.length = n) (hx : ∀ x ∈ xs, x < 256) :
    ∃ A c, v = .slice A n c ∧ Txt w A xs ∧ (A = none → c = 0) ∧ n ≤ c ∧ c ≤ 9223372036854775807 := by
  subst hn
  obtain ⟨A, c, rfl, h1, h2⟩ := txt_of_own h hx
  refine ⟨A, c, rfl, h1, h2, ?_⟩
  rcases h.2 with ⟨e, hn⟩ | ⟨g, cap, cur, e, hb, hh, h3, h4, _⟩
  · simp only [Value.slice.injEq] at e; obtain ⟨rfl, h, rfl⟩ := e; exact ⟨by omega, by omega⟩
  · simp only [Value.slice.injEq] at e; obtain ⟨rfl, _, rfl⟩ := e; exact ⟨h3, by unfold maxLen at h4; omega⟩
end Go.Proofs.Ytgploogflhfolaa

/- Whether a node is right: the document's answer. -/
import Derived.Test.YtfdfcagkfnckmaaWl
namespace Go.Proofs.Ytfdfcagkfnckmaa
open Go Go.RowKit
theorem text_empty {t : ByteArray} : t = { data := #[] } ↔ t.toList = [] := by
  rw [← tl_inj, show ({ data := #[] } : ByteArray).toList = [] from by rw [ByteArray.toList_eq]]
theorem text_size {t : ByteArray} : t.toList = [] ↔ t.size = 0 := by
  rw [ByteArray.toList_eq]
  constructor
  · intro h; have := congrArg List.length h; simpa using this
  · intro h; apply List.eq_nil_of_length_eq_zero; simpa using h
/-- A node is right, part by part. -/
def NodeIs (x : Nd) (r : Int) : Prop :=
  ((x.kind = 1 ∨ x.kind = 2) ∧ (((x.c0 = 0 ∧ x.c1 = 0) ∧ x.c2 = 0) ∧ x.c3 = 0) ∧ x.text.toList = [] ∧ (x.rule = 0 ∧ x.level = 0) ∧ x.kids.length = 0) ∨
  (x.kind = 3 ∧ ¬ (((x.c0 = 0 ∧ x.c1 = 0) ∧ x.c2 = 0) ∧ x.c3 = 0) ∧ x.text.toList = [] ∧ (x.rule = 0 ∧ x.level = 0) ∧ x.kids.length = 0) ∨
  (x.kind = 4 ∧ (((x.c0 = 0 ∧ x.c1 = 0) ∧ x.c2 = 0) ∧ x.c3 = 0) ∧ (¬ x.text.toList = [] ∧ (x.text.size : Int) ≤ 64) ∧ (x.rule = 0 ∧ x.level = 0) ∧ x.kids.length = 0) ∨
  (x.kind = 5 ∧ (((x.c0 = 0 ∧ x.c1 = 0) ∧ x.c2 = 0) ∧ x.c3 = 0) ∧ x.text.toList = [] ∧ (0 ≤ x.rule ∧ x.rule < r ∧ 0 ≤ x.level ∧ x.level ≤ 99) ∧ x.kids.length = 0) ∨
  ((x.kind = 6 ∨ x.kind = 7) ∧ (((x.c0 = 0 ∧ x.c1 = 0) ∧ x.c2 = 0) ∧ x.c3 = 0) ∧ x.text.toList = [] ∧ (x.rule = 0 ∧ x.level = 0) ∧ 2 ≤ x.kids.length ∧ x.kids.length ≤ 64) ∨
  ((x.kind = 8 ∨ x.kind = 9 ∨ x.kind = 10 ∨ x.kind = 11 ∨ x.kind = 12) ∧ (((x.c0 = 0 ∧ x.c1 = 0) ∧ x.c2 = 0) ∧ x.c3 = 0) ∧ x.text.toList = [] ∧ (x.rule = 0 ∧ x.level = 0) ∧ x.kids.length = 1)
theorem find_none {c : Int} (h : ¬ (1 ≤ c ∧ c ≤ 12)) : find c tks = none := by
  unfold tks
  simp only [find]
  repeat rw [if_neg (by omega)]
set_option maxHeartbeats 2000000 in
theorem nodeOk_iff (x : Nd) (r : Int) : nodeOk x r = true ↔ NodeIs x r := by
  by_cases hk : 1 ≤ x.kind ∧ x.kind ≤ 12
  · have ht := text_empty (t := x.text)
    have hs := text_size (t := x.text)
    have hz : x.kids = [] ↔ x.kids.length = 0 := List.length_eq_zero_iff.symm
    have e1 : x.kind = 1 ∨ x.kind = 2 ∨ x.kind = 3 ∨ x.kind = 4 ∨ x.kind = 5 ∨ x.kind = 6 ∨ x.kind = 7 ∨ x.kind = 8 ∨ x.kind = 9 ∨ x.kind = 10 ∨ x.kind = 11 ∨ x.kind = 12 := by omega
    rcases e1 with h | h | h | h | h | h | h | h | h | h | h | h
    all_goals
      unfold nodeOk NodeIs
      rw [h]
      simp only [tks, find, Int.reduceEq, if_true, if_false, reduceIte, Int.reduceToNat, tk, sameNd, bare, noCls, callOk, kidsOk, Nd.less, ht, hz, h, Bool.and_eq_true, decide_eq_true_eq, true_and, Bool.not_eq_true', and_true, false_and, or_false, false_or, beq_iff_eq, List.length_nil, true_or, or_true, Bool.and_eq_false_imp]
    all_goals grind
  · unfold nodeOk NodeIs
    rw [find_none hk]
    constructor
    · intro h; cases h
    · intro h; omega
end Go.Proofs.Ytfdfcagkfnckmaa

/- Rules of spans: plain facts. -/
import Derived.Test.YtgploogflhfolaaXj
import Derived.Test.YtgploogflhfolaaWe
namespace Go.Proofs.Ytgploogflhfolaa
/-- As In, Less have it. -/
def innv (a1 a2 b1 b2 : Int) : Bool := rt a1 a2 && rt b1 b2 && decide (b1 ≤ a1) && decide (a2 ≤ b2)
def lesv (a1 a2 b1 b2 : Int) : Bool := rt a1 a2 && rt b1 b2 && (decide (a1 < b1) || decide (a1 = b1) && decide (b2 < a2))
theorem innv_iff {a1 a2 b1 b2 : Int} : innv a1 a2 b1 b2 = true ↔ 0 ≤ a1 ∧ a1 ≤ a2 ∧ 0 ≤ b1 ∧ b1 ≤ b2 ∧ b1 ≤ a1 ∧ a2 ≤ b2 := by simp [innv, rt]; omega
theorem lesv_iff {a1 a2 b1 b2 : Int} : lesv a1 a2 b1 b2 = true ↔ 0 ≤ a1 ∧ a1 ≤ a2 ∧ 0 ≤ b1 ∧ b1 ≤ b2 ∧ (a1 < b1 ∨ a1 = b1 ∧ b2 < a2) := by simp [lesv, rt]; omega
theorem innv_trans {a1 a2 b1 b2 c1 c2 : Int} (h : innv a1 a2 b1 b2 = true) (h' : innv b1 b2 c1 c2 = true) : innv a1 a2 c1 c2 = true := by rw [innv_iff] at *; omega
theorem innv_anti {a1 a2 b1 b2 : Int} (h : innv a1 a2 b1 b2 = true) (h' : innv b1 b2 a1 a2 = true) : a1 = b1 ∧ a2 = b2 := by rw [innv_iff] at *; omega
theorem lesv_asym {a1 a2 b1 b2 : Int} (h : lesv a1 a2 b1 b2 = true) : lesv b1 b2 a1 a2 = false := by
  rw [Bool.eq_false_iff]; intro h'; rw [lesv_iff] at *; omega
theorem lesv_self (a1 a2 : Int) : lesv a1 a2 a1 a2 = false := by rw [Bool.eq_false_iff]; intro h; rw [lesv_iff] at h; omega
theorem lesv_trans {a1 a2 b1 b2 c1 c2 : Int} (h : lesv a1 a2 b1 b2 = true) (h' : lesv b1 b2 c1 c2 = true) : lesv a1 a2 c1 c2 = true := by rw [lesv_iff] at *; omega
theorem rt_iff {x y : Int} : rt x y = true ↔ 0 ≤ x ∧ x ≤ y := by simp [rt]
theorem lesv_total {a1 a2 b1 b2 : Int} (ha : rt a1 a2 = true) (hb : rt b1 b2 = true) (hne : ¬ (a1 = b1 ∧ a2 = b2)) : lesv b1 b2 a1 a2 = !lesv a1 a2 b1 b2 := by
  rw [rt_iff] at ha hb
  cases h : lesv a1 a2 b1 b2 with
  | true => simpa using lesv_asym h
  | false =>
    have h' : ¬ (lesv a1 a2 b1 b2 = true) := by rw [h]; simp
    rw [lesv_iff] at h'
    simp only [Bool.not_false]
    rw [lesv_iff]; omega
theorem join_two (a b : Int × Int) (ha : rt a.1 a.2 = true) (hb : rt b.1 b.2 = true) : (joinTo [a, b]).2 = (min a.1 b.1, max a.2 b.2) := by
  simp [joinTo, joinS, ha, hb]
theorem innv_join1 {a1 a2 b1 b2 : Int} (ha : rt a1 a2 = true) (hb : rt b1 b2 = true) : innv a1 a2 (min a1 b1) (max a2 b2) = true := by rw [rt_iff] at *; rw [innv_iff]; omega
theorem innv_join2 {a1 a2 b1 b2 : Int} (ha : rt a1 a2 = true) (hb : rt b1 b2 = true) : innv b1 b2 (min a1 b1) (max a2 b2) = true := by rw [rt_iff] at *; rw [innv_iff]; omega
theorem ism_iff {a1 a2 b1 b2 : Int} (ha : rt a1 a2 = true) (hb : rt b1 b2 = true) : ism (a1, a2) (b1, b2) = true ↔ max a1 b1 ≤ min a2 b2 := by
  simp only [ism, mt, Bool.and_eq_true]
  have h1 := rt_iff.1 ha
  exact ⟨fun h => (rt_iff.1 h.2).2, fun h => ⟨⟨ha, hb⟩, rt_iff.2 ⟨by omega, h⟩⟩⟩
theorem mee_of {a1 a2 b1 b2 : Int} (h : ism (a1, a2) (b1, b2) = true) : mee (a1, a2) (b1, b2) = (max a1 b1, min a2 b2) := by simp [mee, h, mt]
theorem innv_mee1 {a1 a2 b1 b2 : Int} (ha : rt a1 a2 = true) (hb : rt b1 b2 = true) (h : ism (a1, a2) (b1, b2) = true) : innv (mee (a1, a2) (b1, b2)).1 (mee (a1, a2) (b1, b2)).2 a1 a2 = true := by
  rw [mee_of h]; rw [ism_iff ha hb] at h; rw [rt_iff] at *; rw [innv_iff]; simp only; omega
theorem innv_mee2 {a1 a2 b1 b2 : Int} (ha : rt a1 a2 = true) (hb : rt b1 b2 = true) (h : ism (a1, a2) (b1, b2) = true) : innv (mee (a1, a2) (b1, b2)).1 (mee (a1, a2) (b1, b2)).2 b1 b2 = true := by
  rw [mee_of h]; rw [ism_iff ha hb] at h; rw [rt_iff] at *; rw [innv_iff]; simp only; omega
theorem innv_ism {a1 a2 b1 b2 : Int} (ha : rt a1 a2 = true) (hb : rt b1 b2 = true) (h : innv a1 a2 b1 b2 = true) : ism (a1, a2) (b1, b2) = true ∧ mee (a1, a2) (b1, b2) = (a1, a2) ∧ min a1 b1 = b1 ∧ max a2 b2 = b2 := by
  rw [innv_iff] at h
  have hi : ism (a1, a2) (b1, b2) = true := by rw [ism_iff ha hb]; omega
  refine ⟨hi, ?_, by omega, by omega⟩
  rw [mee_of hi]
  exact Prod.ext (by simp only; omega) (by simp only; omega)
attribute [irreducible] innv lesv
end Go.Proofs.Ytgploogflhfolaa

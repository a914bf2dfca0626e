/- Contracts of layer 1: two rows of runs held against one another. -/
import Derived.Test.YtcnikeeapillnaaDoorWe
import Derived.Deep.QuietTactic
import Derived.BigQuiet
namespace Go.Proofs.YtcnikeeapillnaaDoor
open Go.RowKit

@[go_sem] theorem eq38 (a b c d : Int) (w : World) : (Op.equalIn 10000 38 (.agg #[.int .u8 a, .int .u8 b]) (.agg #[.int .u8 c, .int .u8 d])).run Tryd.prog w = .ok (a == c && b == d) w := by
  have u3 := Tryd.underlying5
  have a3 := Tryd.isAgg5
  have z3 := Tryd.sizeOf5
  rw [show (10000 : Nat) = 9999 + 1 from rfl, Op.equalIn]
  simp only [Sem.run_bind, run_underlying Tryd.underlying38, Result.andThen_ok]
  simp only [Std.Legacy.Range.forIn_eq_forIn_range', Std.Legacy.Range.size, Nat.sub_zero, Nat.add_sub_cancel, Nat.div_one, List.range'_succ, List.range'_zero, List.forIn_cons, List.forIn_nil]
  go_simp
  by_cases h1 : a = c <;> by_cases h2 : b = d <;> simp [h1, h2]
@[go_sem] theorem eq25 (a b c d a' b' c' d' : Int) (w : World) : (Op.equalIn 10000 25 (.agg #[.int .u64 a, .int .u64 b, .int .u64 c, .int .u64 d]) (.agg #[.int .u64 a', .int .u64 b', .int .u64 c', .int .u64 d'])).run Tryd.prog w = .ok (a == a' && b == b' && c == c' && d == d') w := by
  have u3 := Tryd.underlying23
  have a3 := Tryd.isAgg23
  have z3 := Tryd.sizeOf23
  rw [show (10000 : Nat) = 9999 + 1 from rfl, Op.equalIn]
  simp only [Sem.run_bind, run_underlying Tryd.underlying25, Result.andThen_ok]
  simp only [Std.Legacy.Range.forIn_eq_forIn_range', Std.Legacy.Range.size, Nat.sub_zero, Nat.add_sub_cancel, Nat.div_one, List.range'_succ, List.range'_zero, List.forIn_cons, List.forIn_nil]
  go_simp
  by_cases h1 : a = a' <;> by_cases h2 : b = b' <;> by_cases h3 : c = c' <;> by_cases h4 : d = d' <;> simp [h1, h2, h3, h4]

/-- THE VALUE v IS A ROW OF RUNS rs, in a block below B (wherever there are some). -/
def RunsAt (w : World) (B : Nat) (v : Value) (rs : List (Nat × Nat)) : Prop :=
  ∃ ao cap, v = .slice ao rs.length cap ∧ rs.length ≤ maxLen ∧ (0 < rs.length → ∃ b off, ao = some ⟨b, off, none⟩ ∧ b < B ∧ ∀ j, j < rs.length * 2 → w.cell? ⟨b, off + j, none⟩ = (rcells rs)[j]?)
theorem RunsAt.below {w w' : World} {B B' : Nat} {v : Value} {rs : List (Nat × Nat)} (h : RunsAt w B v rs) (hb : Below B w w') (hB : B ≤ B') : RunsAt w' B' v rs := by
  obtain ⟨ao, cap, hv, hm, hc⟩ := h
  refine ⟨ao, cap, hv, hm, fun h0 => ?_⟩
  obtain ⟨b, off, ha, hl, hc⟩ := hc h0
  exact ⟨b, off, ha, by omega, fun j hj => (hb.cell (p := ⟨b, off + j, none⟩) hl).trans (hc j hj)⟩
theorem RunsAt.of_owns {w : World} {base : Nat} {v : Value} {rs : List (Nat × Nat)} (h : w.ownsRow base 38 2 v rs.length (rcells rs)) : RunsAt w w.heap.size v rs := by
  rcases h.2 with ⟨rfl, h0⟩ | ⟨g, cap, cur, rfl, hb, hg, hn, hm, _⟩
  · exact ⟨none, 0, by rw [h0], by rw [h0]; exact Nat.zero_le _, fun h => by omega⟩
  · exact ⟨_, cap, rfl, by omega, fun _ => ⟨g, 0, rfl, (Array.getElem?_eq_some_iff.1 hg).1, fun j hj => by rw [Nat.zero_add]; exact h.cellAt j hj⟩⟩
def rget (rs : List (Nat × Nat)) (k : Nat) : Nat × Nat := rs[k]?.getD (0, 0)
theorem rcells_at (rs : List (Nat × Nat)) (k : Nat) (h : k < rs.length) : (rcells rs)[k * 2]? = some (.int .u8 ((rget rs k).1 : Int)) ∧ (rcells rs)[k * 2 + 1]? = some (.int .u8 ((rget rs k).2 : Int)) := by
  have e : rs = rs.take k ++ (rget rs k :: rs.drop (k + 1)) := by
    have : rget rs k = rs[k] := by simp [rget, h]
    rw [this, ← List.drop_eq_getElem_cons h, List.take_append_drop]
  have hl : (rcells (rs.take k)).length = k * 2 := by rw [rcells_length, List.length_take]; omega
  generalize rget rs k = r at *
  rw [e, rcells_app]
  constructor
  · rw [List.getElem?_append_right (by omega), hl, Nat.sub_self]; rfl
  · rw [List.getElem?_append_right (by omega), hl, show k * 2 + 1 - k * 2 = 1 by omega]; rfl
theorem take_eq_succ {a b : List (Nat × Nat)} {k : Nat} (ha : k < a.length) (hb : k < b.length) (h : a.take k = b.take k) (he : rget a k = rget b k) : a.take (k + 1) = b.take (k + 1) := by
  rw [List.take_succ_eq_append_getElem ha, List.take_succ_eq_append_getElem hb, h]
  simp [rget, ha, hb] at he; rw [he]
theorem ne_of_get {a b : List (Nat × Nat)} {k : Nat} (he : rget a k ≠ rget b k) : decide (a = b) = false := by
  simp; rintro rfl; exact he rfl
theorem eq_of_take {a b : List (Nat × Nat)} {k : Nat} (h : a.take k = b.take k) (hk : a.length ≤ k ∨ b.length ≤ k) (hka : k ≤ a.length) (hkb : k ≤ b.length) : ((a.length : Int) == (b.length : Int)) = decide (a = b) := by
  rw [Bool.eq_iff_iff]; simp
  constructor
  · intro hl
    rw [List.take_of_length_le (by omega), List.take_of_length_le (by omega)] at h; exact h
  · rintro rfl; rfl

set_option maxHeartbeats 2000000 in
theorem same_any (a b : List (Nat × Nat)) (va vb : Value) (w : World) (ha : RunsAt w w.heap.size va a) (hb : RunsAt w w.heap.size vb b) :
    Calls Tryd.prog 21 #[va, vb] w fun e w' => e = .returned (.bool (decide (a = b))) ∧ Below w.heap.size w w' := by
  obtain ⟨ao, ca, rfl, hma, hca⟩ := ha
  obtain ⟨bo, cb, rfl, hmb, hcb⟩ := hb
  unfold maxLen at hma hmb
  have HA := Lib.hid hca
  have HB := Lib.hid hcb
  clear hca hcb
  go_enter Tryd.func21, Tryd.ntmps21
  go_wp2
  go_loopw [5] (fun i wr => ∃ k : Nat, k ≤ a.length ∧ k ≤ b.length ∧ a.take k = b.take k ∧ i = .int .i64 k ∧ ∃ n, wr = w.drewN n) (fun i _ => a.length - (intOf i).toNat)
  case atStart => exact ⟨0, by omega, by omega, by simp, rfl, 0, rfl⟩
  case round =>
    obtain ⟨k, hka, hkb, ht, rfl, n, rfl⟩ := hrel
    have HT := Lib.hid ht
    clear ht
    by_cases h1 : k < a.length
    · by_cases h2 : k < b.length
      · obtain ⟨ba, oa, rfl, _, hc⟩ := HA.out (by omega)
        obtain ⟨bb, ob, rfl, _, hd⟩ := HB.out (by omega)
        have c0 := (hc (k * 2) (by omega)).trans (rcells_at a k h1).1
        have c1 := (hc (k * 2 + 1) (by omega)).trans (rcells_at a k h1).2
        have d0 := (hd (k * 2) (by omega)).trans (rcells_at b k h2).1
        have d1 := (hd (k * 2 + 1) (by omega)).trans (rcells_at b k h2).2
        rw [← Nat.add_assoc] at c1 d1
        clear hc hd
        have i1 : (k : Int) < (a.length : Int) := by omega
        have i2 : (k : Int) < (b.length : Int) := by omega
        by_cases he : rget a k = rget b k
        · have hm := take_eq_succ h1 h2 HT.out he
          rw [← he] at d0 d1
          have HM := Lib.hid hm
          clear hm he
          obtain ⟨x, hx⟩ : ∃ x, x = (rget a k).1 := ⟨_, rfl⟩
          obtain ⟨y, hy⟩ : ∃ y, y = (rget a k).2 := ⟨_, rfl⟩
          rw [← hx] at c0 d0
          rw [← hy] at c1 d1
          clear hx hy
          go_wp2
          go_quiet (fail)
          go_wp2
          go_roundw
          case rel => exact ⟨k + 1, by omega, by omega, HM.out, by go_num, _, rfl⟩
          case measure => simp [intOf]; omega
        · have hm := ne_of_get he
          have hne : ¬ ((rget a k).1 = (rget b k).1 ∧ (rget a k).2 = (rget b k).2) := fun h => he (Prod.ext h.1 h.2)
          have HM := Lib.hid hm
          clear hm he
          obtain ⟨x, hx⟩ : ∃ x, x = (rget a k).1 := ⟨_, rfl⟩
          obtain ⟨y, hy⟩ : ∃ y, y = (rget a k).2 := ⟨_, rfl⟩
          obtain ⟨x', hx'⟩ : ∃ x, x = (rget b k).1 := ⟨_, rfl⟩
          obtain ⟨y', hy'⟩ : ∃ y, y = (rget b k).2 := ⟨_, rfl⟩
          rw [← hx] at c0 hne
          rw [← hy] at c1 hne
          rw [← hx'] at d0 hne
          rw [← hy'] at d1 hne
          clear hx hy hx' hy'
          have hq : ((x : Int) == (x' : Int) && (y : Int) == (y' : Int)) = false := by simp; intro h h2; exact hne ⟨by omega, by omega⟩
          clear hne
          go_wp2
          go_quiet (fail)
          go_wp2
          go_ret
          exact ⟨ret_bool HM.out.symm, bdrew (bdrew (Below.refl _ _))⟩
      · obtain rfl : k = b.length := by omega
        have h2' : decide ((b.length : Int) < (b.length : Int)) = false := by simp
        have HE := Lib.hid (eq_of_take HT.out (.inr (Nat.le_refl _)) hka hkb)
        go_wp2
        go_ret
        exact ⟨ret_bool HE.out, bdrew (Below.refl _ _)⟩
    · obtain rfl : k = a.length := by omega
      have HE := Lib.hid (eq_of_take HT.out (.inl (Nat.le_refl _)) hka hkb)
      have h2' : decide ((a.length : Int) < (a.length : Int)) = false := by simp
      go_wp2
      go_ret
      exact ⟨ret_bool HE.out, bdrew (Below.refl _ _)⟩
end Go.Proofs.YtcnikeeapillnaaDoor

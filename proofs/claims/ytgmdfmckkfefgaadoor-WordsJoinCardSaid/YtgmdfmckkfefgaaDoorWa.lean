/- Helpers; contracts of layer 4's small functions: known, plain, and the document's is, special, digit. -/
import Derived.Test.YtgmdfmckkfefgaaDoorMa
import Derived.WalkKit
import Derived.WalkSpells
import Derived.Lib.Hide
import Derived.Deep.QuietTactic
import Derived.BigQuiet
import Derived.Deep.Draws
import Derived.Outline
import Derived.IntWalk
import Derived.Laws.OwnMore
import Derived.Laws.Rows
import Derived.Laws.IdiomStrings
import Derived.Laws.BitsLemmas
import Derived.Laws.BitsAllLaws
namespace Go.Proofs.YtgmdfmckkfefgaaDoor
open Go Go.RowKit

theorem bt {B : Nat} {a b c : World} (h : Below B a b) (h' : Below b.heap.size b c) (hB : B ≤ b.heap.size) : Below B a c := h.trans (h'.mono hB)
theorem bb {a b c : World} (h : Below a.heap.size a b) (h' : Below b.heap.size b c) : Below a.heap.size a c := h.trans (h'.mono h.size)
theorem bdrew {B n : Nat} {a w : World} (h : Below B a w) : Below B a (w.drewN n) := ⟨h.os, h.tape, h.output, h.size, h.block⟩
theorem bdrew1 {B : Nat} {a w : World} (h : Below B a w) : Below B a w.drew := ⟨h.os, h.tape, h.output, h.size, h.block⟩
theorem bcell {W w1 : World} (hb : Below W.heap.size W w1) : (∀ b o, b < W.heap.size → w1.cell? ⟨b, o, none⟩ = W.cell? ⟨b, o, none⟩) ∧ (∀ b o, b < W.heap.size → w1.frozen? ⟨b, o, none⟩ = W.frozen? ⟨b, o, none⟩) :=
  ⟨fun b o h => hb.cell (p := ⟨b, o, none⟩) h, fun b o h => hb.frozen (p := ⟨b, o, none⟩) h⟩
/-- Block b is whole, and reads vs. -/
def Blk (w : World) (b : Nat) (vs : Array Value) (T : TypeId) : Prop := w.heap[b]? = some (.cells vs T (0, 0))
theorem Blk.lt {w : World} {b : Nat} {vs : Array Value} {T : TypeId} (h : Blk w b vs T) : b < w.heap.size := (Array.getElem?_eq_some_iff.1 h).1
theorem Blk.cell {w : World} {b : Nat} {vs : Array Value} {T : TypeId} (h : Blk w b vs T) (j : Nat) : w.cell? ⟨b, j, none⟩ = vs[j]? := by simp [World.cell?, show w.heap[b]? = _ from h]
theorem Blk.frozen {w : World} {b : Nat} {vs : Array Value} {T : TypeId} (h : Blk w b vs T) (j : Nat) : w.frozen? ⟨b, j, none⟩ = false := by simp [World.frozen?, show w.heap[b]? = _ from h]
theorem Blk.below {w w' : World} {b B : Nat} {vs : Array Value} {T : TypeId} (h : Blk w b vs T) (hb : Below B w w') (hl : b < B) : Blk w' b vs T := (hb.block b hl).trans h
theorem Blk.below' {w w' : World} {b : Nat} {vs : Array Value} {T : TypeId} (h : Blk w b vs T) (hb : Below w.heap.size w w') : Blk w' b vs T := h.below hb h.lt
theorem Blk.alloc {w : World} {b : Nat} {vs : Array Value} {T : TypeId} (h : Blk w b vs T) (o : Obj) : Blk (w.alloc o) b vs T := (Below.heap_alloc w o b h.lt).trans h
theorem Blk.new (w : World) (vs : Array Value) (T : TypeId) : Blk (w.alloc (.cells vs T)) w.heap.size vs T := heap_alloc_new w _
theorem Blk.drewN {w : World} {b n : Nat} {vs : Array Value} {T : TypeId} (h : Blk w b vs T) : Blk (w.drewN n) b vs T := h
theorem ret_int {k : IntKind} {a b : Int} (h : a = b) : Ending.returned (.int k a) = .returned (.int k b) := by rw [h]
theorem ret_bool {a b : Bool} (h : a = b) : Ending.returned (.bool a) = .returned (.bool b) := by rw [h]
abbrev B1 (w : World) (o : Obj) : Below w.heap.size w (w.alloc o) := (Below.refl _ _).alloc (Nat.le_refl _) o
theorem B2 (w : World) (o p : Obj) : Below w.heap.size w ((w.alloc o).alloc p) := (B1 w o).alloc (by simp) p

theorem known_any (p : Int) (w : World) : Calls Tryd.prog 54 #[.int .i64 p] w fun e w' => e = .returned (.bool (kn p)) ∧ w = w' := by
  have h : kn p = (p == 1 || p == 2) := rfl
  rw [h]
  clear h
  by_cases h1 : p = 1
  · subst h1
    go_enter Tryd.func54, Tryd.ntmps54
    go_wp2
    go_ret
    exact ⟨rfl, rfl⟩
  · have h2 : (p == 1) = false := by simpa using h1
    go_enter Tryd.func54, Tryd.ntmps54
    go_wp2
    go_ret
    exact ⟨ret_bool (by rw [h2]; rfl), rfl⟩
theorem pl_ifs (p : Int) (c : Nat) : pl p c = if c = 92 then false else if c = 34 then p != 1 else if c = 93 then p != 2 else if c = 45 then p != 2 else decide (32 ≤ c) && decide (c ≤ 126) := by
  have e1 : (p != 1) = !(p == 1) := rfl
  have e2 : (p != 2) = !(p == 2) := rfl
  unfold pl
  rw [e1, e2]
  generalize (p == 1) = a
  generalize (p == 2) = b
  by_cases h1 : c = 92
  · subst h1; simp
  · by_cases h2 : c = 34
    · subst h2; cases a <;> cases b <;> rfl
    · by_cases h3 : c = 93
      · subst h3; cases a <;> cases b <;> rfl
      · by_cases h4 : c = 45
        · subst h4; cases a <;> cases b <;> rfl
        · rw [if_neg h1, if_neg h2, if_neg h3, if_neg h4, show (c == 92) = false by simpa using h1, show (c == 34) = false by simpa using h2, show (c == 93) = false by simpa using h3, show (c == 45) = false by simpa using h4]
          cases a <;> cases b <;> simp
set_option maxHeartbeats 1000000 in
theorem plain_any (p : Int) (c : Nat) (w : World) : Calls Tryd.prog 63 #[.int .i64 p, .int .u8 c] w fun e w' => e = .returned (.bool (pl p c)) ∧ w = w' := by
  rw [pl_ifs]
  by_cases h1 : c = 92
  · subst h1
    rw [if_pos rfl]
    go_enter Tryd.func63, Tryd.ntmps63
    go_wp2
    go_ret
    exact ⟨rfl, rfl⟩
  · rw [if_neg h1]
    by_cases h2 : c = 34
    · subst h2
      rw [if_pos rfl]
      clear h1
      go_enter Tryd.func63, Tryd.ntmps63
      go_wp2
      go_ret
      exact ⟨rfl, rfl⟩
    · rw [if_neg h2]
      by_cases h3 : c = 93
      · subst h3
        rw [if_pos rfl]
        clear h1 h2
        go_enter Tryd.func63, Tryd.ntmps63
        go_wp2
        go_ret
        exact ⟨rfl, rfl⟩
      · rw [if_neg h3]
        by_cases h4 : c = 45
        · subst h4
          rw [if_pos rfl]
          clear h1 h2 h3
          go_enter Tryd.func63, Tryd.ntmps63
          go_wp2
          go_ret
          exact ⟨rfl, rfl⟩
        · rw [if_neg h4]
          have g1 : ((c : Int) == 92) = false := by simp; omega
          have g2 : ((c : Int) == 34) = false := by simp; omega
          have g3 : ((c : Int) == 93) = false := by simp; omega
          have g4 : ((c : Int) == 45) = false := by simp; omega
          clear h1 h2 h3 h4
          by_cases h5 : 32 ≤ c
          · have g5 : (32 : Int) ≤ c := by omega
            have e6 : decide (c ≤ 126) = decide ((c : Int) ≤ 126) := by by_cases h : c ≤ 126 <;> simp [h] <;> omega
            rw [e6, show decide (32 ≤ c) = true by simpa using h5, Bool.true_and]
            clear e6 h5
            go_enter Tryd.func63, Tryd.ntmps63
            go_wp2
            go_ret
            exact ⟨rfl, rfl⟩
          · have g5 : (c : Int) < 32 := by omega
            rw [show decide (32 ≤ c) = false by simpa using h5, Bool.false_and]
            clear h5
            go_enter Tryd.func63, Tryd.ntmps63
            go_wp2
            go_ret
            exact ⟨rfl, rfl⟩
theorem sp_ifs (p : Int) (c : Nat) : (!pl p c) = (decide (c < 32) || decide (126 < c) || (c == 92) || (p == 1 && c == 34) || (p == 2 && (c == 93 || c == 45))) := by
  have e3 : decide (c < 32) = !decide (32 ≤ c) := by by_cases h : c < 32 <;> simp [h] <;> omega
  have e4 : decide (126 < c) = !decide (c ≤ 126) := by by_cases h : c ≤ 126 <;> simp [h] <;> omega
  unfold pl
  rw [e3, e4]
  generalize decide (32 ≤ c) = a1
  generalize decide (c ≤ 126) = a2
  generalize (c == 92) = a3
  generalize (p == 1 && c == 34) = a4
  generalize (p == 2 && (c == 93 || c == 45)) = a5
  cases a1 <;> cases a2 <;> cases a3 <;> cases a4 <;> cases a5 <;> rfl
theorem beq_cast (c k : Nat) : (c == k) = ((c : Int) == (k : Int)) := by
  rw [Bool.eq_iff_iff]
  simp
  omega
theorem sp_int (p : Int) (c : Nat) : (!pl p c) = (decide ((c : Int) < 32) || decide (126 < (c : Int)) || ((c : Int) == 92) || (p == 1 && (c : Int) == 34) || (p == 2 && ((c : Int) == 93 || (c : Int) == 45))) := by
  have e1 : decide (c < 32) = decide ((c : Int) < 32) := by rw [Bool.eq_iff_iff]; simp; omega
  have e2 : decide (126 < c) = decide (126 < (c : Int)) := by rw [Bool.eq_iff_iff]; simp; omega
  rw [sp_ifs, beq_cast c 92, beq_cast c 34, beq_cast c 93, beq_cast c 45, e1, e2]
  rfl
theorem dg_none {c : Nat} (h : dg c = none) : ¬ (48 ≤ c ∧ c ≤ 57) ∧ ¬ (97 ≤ c ∧ c ≤ 102) ∧ ¬ (65 ≤ c ∧ c ≤ 70) := by
  unfold dg at h
  split at h
  · cases h
  · split at h
    · cases h
    · split at h
      · cases h
      · exact ⟨by assumption, by assumption, by assumption⟩
theorem dg_cases {c x : Nat} (h : dg c = some x) : (48 ≤ c ∧ c ≤ 57 ∧ x = c - 48) ∨ (97 ≤ c ∧ c ≤ 102 ∧ x = c - 87) ∨ (65 ≤ c ∧ c ≤ 70 ∧ x = c - 55) := by
  unfold dg at h
  repeat' split at h
  all_goals first
    | (simp only [Option.some.injEq] at h; omega)
    | cases h
/-- The document's digit. -/
def dv (c : Nat) : Int := match dg c with
  | some x => x
  | none => -1
theorem u8_in {x : Int} (h : 0 ≤ x ∧ x < 256) : IntKind.u8.wrap x = x := by unfold IntKind.wrap; simp [IntKind.signed, IntKind.bits]; omega
/-- A letter, made small. -/
def lw (c : Nat) : Nat := c ||| 32
theorem lower_any (c : Nat) (hc : c < 256) (w : World) : Calls Tryd.prog 66 #[.int .u8 c] w fun e w' => e = .returned (.int .u8 (lw c : Nat)) ∧ w = w' := by
  go_enter Tryd.func66, Tryd.ntmps66
  go_wp2
  go_ret
  exact ⟨ret_int (u8_or_nat c 32 hc (by omega)), rfl⟩
theorem u8_cast {c : Nat} (h : c < 256) : IntKind.u8.wrap (c : Int) = c := by unfold IntKind.wrap; simp [IntKind.signed, IntKind.bits]; omega
end Go.Proofs.YtgmdfmckkfefgaaDoor

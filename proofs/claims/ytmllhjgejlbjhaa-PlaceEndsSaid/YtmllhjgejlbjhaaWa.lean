/- Contracts of layer 2's small functions: count, size, hasPlace, hasLine. -/
import Derived.Test.YtmllhjgejlbjhaaRows
import Derived.Test.YtmllhjgejlbjhaaMa
import Derived.WalkKit
import Derived.WalkSpells
import Derived.Lib.Hide
import Derived.StillTailTactics
import Derived.Deep.QuietTactic
import Derived.BigQuiet
import Derived.Deep.Draws
import Derived.Outline
import Derived.Laws.OwnMore
import Derived.Laws.Rows
namespace Go.Proofs.Ytmllhjgejlbjhaa
open Go.RowKit

theorem bdrew {B n : Nat} {a w : World} (h : Below B a w) : Below B a (w.drewN n) := ⟨h.os, h.tape, h.output, h.size, h.block⟩
theorem bdrew1 {B : Nat} {a w : World} (h : Below B a w) : Below B a w.drew := ⟨h.os, h.tape, h.output, h.size, h.block⟩
theorem bcell {W w1 : World} (hb : Below W.heap.size W w1) : (∀ b o, b < W.heap.size → w1.cell? ⟨b, o, none⟩ = W.cell? ⟨b, o, none⟩) ∧ (∀ b o, b < W.heap.size → w1.frozen? ⟨b, o, none⟩ = W.frozen? ⟨b, o, none⟩) :=
  ⟨fun b o h => hb.cell (p := ⟨b, o, none⟩) h, fun b o h => hb.frozen (p := ⟨b, o, none⟩) h⟩
/-- Block b is whole, and reads vs. -/
def Blk (w : World) (b : Nat) (vs : Array Value) (T : TypeId) : Prop := w.heap[b]? = some (.cells vs T (0, 0))
theorem Blk.lt {w : World} {b : Nat} {vs : Array Value} {T : TypeId} (h : Blk w b vs T) : b < w.heap.size := (Array.getElem?_eq_some_iff.1 h).1
theorem Blk.cell {w : World} {b : Nat} {vs : Array Value} {T : TypeId} (h : Blk w b vs T) (j : Nat) : w.cell? ⟨b, j, none⟩ = vs[j]? := by simp [World.cell?, show w.heap[b]? = _ from h]
theorem Blk.frozen {w : World} {b : Nat} {vs : Array Value} {T : TypeId} (h : Blk w b vs T) (j : Nat) : w.frozen? ⟨b, j, none⟩ = false := by simp [World.frozen?, show w.heap[b]? = _ from h]
theorem Blk.below {w w' : World} {b B : Nat} {vs : Array Value} {T : TypeId} (h : Blk w b vs T) (hb : Below B w w') (hl : b < B) : Blk w' b vs T := (hb.block b hl).trans h
theorem Blk.alloc {w : World} {b : Nat} {vs : Array Value} {T : TypeId} (h : Blk w b vs T) (o : Obj) : Blk (w.alloc o) b vs T := (Below.heap_alloc w o b h.lt).trans h
theorem Blk.new (w : World) (vs : Array Value) (T : TypeId) : Blk (w.alloc (.cells vs T)) w.heap.size vs T := heap_alloc_new w _
theorem Blk.drewN {w : World} {b n : Nat} {vs : Array Value} {T : TypeId} (h : Blk w b vs T) : Blk (w.drewN n) b vs T := h

/-- A row of numbers in a block. -/
def Nums (w : World) (g : Nat) (xs : List Nat) : Prop := g < w.heap.size ∧ ∀ i, i < xs.length → w.cell? ⟨g, i, none⟩ = some (.int .i64 (xs.getD i 0 : Nat))
theorem Nums.below {w w' : World} {g B : Nat} {xs : List Nat} (h : Nums w g xs) (hb : Below B w w') (hg : g < B) : Nums w' g xs :=
  ⟨Nat.lt_of_lt_of_le h.1 hb.size, fun i hi => (hb.cell (p := ⟨g, i, none⟩) hg).trans (h.2 i hi)⟩
theorem Nums.below' {w w' : World} {g : Nat} {xs : List Nat} (h : Nums w g xs) (hb : Below w.heap.size w w') : Nums w' g xs := h.below hb h.1

theorem ret_int {k : IntKind} {a b : Int} (h : a = b) : Ending.returned (.int k a) = .returned (.int k b) := by rw [h]
theorem ret_bool {a b : Bool} (h : a = b) : Ending.returned (.bool a) = .returned (.bool b) := by rw [h]

set_option maxHeartbeats 400000 in
theorem count_any (A : Option Addr) (n c : Nat) (p : Int) (w : World) :
    Calls Try.prog 30 #[.agg #[.slice A n c, .int .i64 p]] w fun e w' => e = .returned (.int .i64 n) ∧ Below w.heap.size w w' := by
  go_enter Try.func30, Try.ntmps30
  go_wp2
  go_ret
  exact ⟨rfl, (Below.refl _ _).alloc (Nat.le_refl _) _⟩
set_option maxHeartbeats 400000 in
theorem size_any (A : Option Addr) (n c : Nat) (p : Nat) (hp : p < 4611686018427387904) (w : World) :
    Calls Try.prog 31 #[.agg #[.slice A n c, .int .i64 p]] w fun e w' => e = .returned (.int .i64 (p - 1 : Nat)) ∧ Below w.heap.size w w' := by
  go_enter Try.func31, Try.ntmps31
  go_wp2
  all_goals
    go_ret
    exact ⟨ret_int (by omega), (Below.refl _ _).alloc (Nat.le_refl _) _⟩
set_option maxHeartbeats 400000 in
theorem hasPlace_yes (A : Option Addr) (n c : Nat) (p q : Nat) (hp : p < 4611686018427387904) (hq : q < p) (w : World) :
    Calls Try.prog 25 #[.agg #[.slice A n c, .int .i64 p], .int .i64 q] w fun e w' => e = .returned (.bool true) ∧ Below w.heap.size w w' := by
  go_enter Try.func25, Try.ntmps25
  go_wp2
  go_ret
  exact ⟨rfl, (Below.refl _ _).alloc (Nat.le_refl _) _⟩
set_option maxHeartbeats 400000 in
theorem hasPlace_no (A : Option Addr) (n c : Nat) (p : Nat) (q : Int) (hp : p < 4611686018427387904) (hq : q < 0 ∨ (p : Int) ≤ q) (w : World) :
    Calls Try.prog 25 #[.agg #[.slice A n c, .int .i64 p], .int .i64 q] w fun e w' => e = .returned (.bool false) ∧ Below w.heap.size w w' := by
  by_cases h0 : 0 ≤ q
  · have h1 : (p : Int) ≤ q := by omega
    clear hq
    go_enter Try.func25, Try.ntmps25
    go_wp2
    go_ret
    exact ⟨ret_bool (by simp; omega), (Below.refl _ _).alloc (Nat.le_refl _) _⟩
  · have hd : decide (0 ≤ q) = false := by simpa using h0
    clear hq
    go_enter Try.func25, Try.ntmps25
    go_wp2
    go_ret
    exact ⟨rfl, (Below.refl _ _).alloc (Nat.le_refl _) _⟩
end Go.Proofs.Ytmllhjgejlbjhaa

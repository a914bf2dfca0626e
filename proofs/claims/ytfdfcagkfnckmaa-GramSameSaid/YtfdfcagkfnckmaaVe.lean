/- The chapter's example: what it is in memory, what is told of it. -/
import Derived.Test.YtfdfcagkfnckmaaVc
namespace Go.Proofs.Ytfdfcagkfnckmaa
open Go Go.RowKit
abbrev tA : ByteArray := { data := #[65] }
abbrev ta : ByteArray := { data := #[97] }
abbrev tB : ByteArray := { data := #[66] }
abbrev te : ByteArray := { data := #[] }
def exN (k0 k1 : Option Addr) : List Nd := [⟨7, 0, 0, 0, 0, te, 0, 0, k0, 2, [1, 4]⟩, ⟨6, 0, 0, 0, 0, te, 0, 0, k1, 2, [2, 3]⟩, ⟨4, 0, 0, 0, 0, ta, 0, 0, none, 0, []⟩, ⟨5, 0, 0, 0, 0, te, 0, 0, none, 0, []⟩, ⟨1, 0, 0, 0, 0, te, 0, 0, none, 0, []⟩]
def exR : List Rl := [⟨tA, 0⟩]
def exG (ra na k0 k1 : Option Addr) : Gr := ⟨ra, 1, exR, na, 5, exN k0 k1⟩
def exM : Nat → Meas
  | 0 => (5, 3)
  | 1 => (3, 2)
  | _ => (1, 1)
theorem exM_ok (k0 k1 : Option Addr) : Measured (exN k0 k1) exM 0 := by
  intro m _ hm
  have : m = 0 ∨ m = 1 ∨ m = 2 ∨ m = 3 ∨ m = 4 := by simp [exN] at hm; omega
  rcases this with rfl | rfl | rfl | rfl | rfl
  all_goals simp [exN, exM, kidsOf, climb]
  all_goals omega
theorem ex_right (ra na k0 k1 : Option Addr) : Right (exG ra na k0 k1) where
  rules := by simp [exG, exR]
  nodes := by simp [exG, exN]
  named := by
    intro i hi
    have : i = 0 := by simp [exG, exR] at hi; omega
    subst this
    exact ⟨by simp [exG, exR, nameOk, byteOk, letter], by simp [exG, exR, ruleAt, ruleFrom]⟩
  all := by
    intro i hi
    have : i = 0 ∨ i = 1 ∨ i = 2 ∨ i = 3 ∨ i = 4 := by simp [exG, exN] at hi; omega
    rw [nodeOk_iff]
    rcases this with rfl | rfl | rfl | rfl | rfl
    all_goals simp [exG, exN, exR, NodeIs, ByteArray.toList_eq, ByteArray.size]
  pre := ⟨exM, exM_ok k0 k1, by simp [exG, exR, bodies, exM, exN]⟩
theorem Blk.newn {w : World} {n : Nat} {vs : Array Value} {T : TypeId} (h : w.heap.size = n) : Blk (w.alloc (.cells vs T)) n vs T := by subst h; exact Blk.new _ _ _
theorem lies_two {w : World} {b : Nat} {x y : Int} {T : TypeId} (h : Blk w b #[.int .i64 x, .int .i64 y] T) : Lies w (some ⟨b, 0, none⟩) (ints [x, y]) := by
  intro _
  refine ⟨b, 0, rfl, h.lt, fun i hi => ?_⟩
  rw [Nat.zero_add, h.cell]
  have : i = 0 ∨ i = 1 := by simp [ints] at hi; omega
  rcases this with rfl | rfl <;> rfl
set_option maxRecDepth 100000 in
theorem ex_at {W : World} {b1 b2 b3 b4 : Nat} (h1 : Blk W b1 #[.string tA, .int .i64 0] 45) (h2 : Blk W b2 #[.int .i64 1, .int .i64 4] 3) (h3 : Blk W b3 #[.int .i64 2, .int .i64 3] 3)
    (h4 : Blk W b4 #[.int .i64 7, .int .u64 0, .int .u64 0, .int .u64 0, .int .u64 0, .string te, .int .i64 0, .int .i64 0, .slice (some ⟨b2, 0, none⟩) 2 2, .int .i64 6, .int .u64 0, .int .u64 0, .int .u64 0, .int .u64 0, .string te, .int .i64 0, .int .i64 0, .slice (some ⟨b3, 0, none⟩) 2 2,
      .int .i64 4, .int .u64 0, .int .u64 0, .int .u64 0, .int .u64 0, .string ta, .int .i64 0, .int .i64 0, .slice none 0 0, .int .i64 5, .int .u64 0, .int .u64 0, .int .u64 0, .int .u64 0, .string te, .int .i64 0, .int .i64 0, .slice none 0 0, .int .i64 1, .int .u64 0, .int .u64 0, .int .u64 0, .int .u64 0, .string te, .int .i64 0, .int .i64 0, .slice none 0 0] 32) :
    Gr.At W (exG (some ⟨b1, 0, none⟩) (some ⟨b4, 0, none⟩) (some ⟨b2, 0, none⟩) (some ⟨b3, 0, none⟩)) where
  rules := fun _ => ⟨b1, 0, rfl, h1.lt, fun i hi => by
    have : i = 0 := by simp [exG, exR] at hi; omega
    subst this
    exact ⟨h1.cell 0, h1.cell 1⟩⟩
  nodes := fun _ => ⟨b4, 0, rfl, h4.lt, fun i hi j hj => by
    have hi' : i = 0 ∨ i = 1 ∨ i = 2 ∨ i = 3 ∨ i = 4 := by simp [exG, exN] at hi; omega
    have hj' : j = 0 ∨ j = 1 ∨ j = 2 ∨ j = 3 ∨ j = 4 ∨ j = 5 ∨ j = 6 ∨ j = 7 ∨ j = 8 := by omega
    rw [h4.cell]
    rcases hi' with rfl | rfl | rfl | rfl | rfl <;> rcases hj' with rfl | rfl | rfl | rfl | rfl | rfl | rfl | rfl | rfl <;> rfl⟩
  kids := by
    intro x hx
    simp only [exG, exN, List.mem_cons, List.not_mem_nil, or_false] at hx
    rcases hx with rfl | rfl | rfl | rfl | rfl
    · exact ⟨lies_two h2, (fun h => by cases h), by simp⟩
    · exact ⟨lies_two h3, (fun h => by cases h), by simp⟩
    · exact ⟨fun h => by simp [ints] at h, fun _ => rfl, by simp⟩
    · exact ⟨fun h => by simp [ints] at h, fun _ => rfl, by simp⟩
    · exact ⟨fun h => by simp [ints] at h, fun _ => rfl, by simp⟩
  rl := by simp [exG, exR]
  nl := by simp [exG, exN]
  rn := fun h => by cases h
  nn := fun h => by cases h
  texts := by
    intro x hx
    simp only [exG, exN, List.mem_cons, List.not_mem_nil, or_false] at hx
    rcases hx with rfl | rfl | rfl | rfl | rfl <;> simp [ByteArray.size]
  names := by
    intro x hx
    simp only [exG, exR, List.mem_cons, List.not_mem_nil, or_false] at hx
    subst hx
    simp [ByteArray.size]
theorem ex_in (ra na k0 k1 : Option Addr) : Gr.In (exG ra na k0 k1) := by
  intro x hx
  simp only [exG, exN, List.mem_cons, List.not_mem_nil, or_false] at hx
  rcases hx with rfl | rfl | rfl | rfl | rfl <;> exact ⟨by simp, by simp [ByteArray.size]⟩
set_option maxRecDepth 100000 in
set_option maxHeartbeats 2000000 in
theorem example_any (w : World) : Calls Try.prog 30 #[] w fun e w' => (∃ ra na k0 k1, e = .returned (exG ra na k0 k1).val ∧ Gr.At w' (exG ra na k0 k1)) ∧ Below w.heap.size w w' := by
  go_enter Try.func30, Try.ntmps30
  go_wp2_with fail
  refine bodyPost_ret (v := (exG (some ⟨w.heap.size + 1, 0, none⟩) (some ⟨w.heap.size + 1 + 1 + 1 + 1, 0, none⟩) (some ⟨w.heap.size + 1 + 1, 0, none⟩) (some ⟨w.heap.size + 1 + 1 + 1, 0, none⟩)).val) (results_cell_row rfl _ _ w.heap.size 25 _ (0, 0) _ rfl (((((Blk.new w _ _).alloc _).alloc _).alloc _).alloc _) Try.underlying25 rfl (by kernel_rfl)) rfl ⟨⟨_, _, _, _, rfl, ex_at ?_ ?_ ?_ ?_⟩, ?_⟩
  · exact (((Blk.newn (by simp)).alloc _).alloc _).alloc _
  · exact ((Blk.newn (by simp)).alloc _).alloc _
  · exact (Blk.newn (by simp)).alloc _
  · exact Blk.newn (by simp)
  · exact (((B2 w _ _).alloc (by simp; omega) _).alloc (by simp; omega) _).alloc (by simp; omega) _
theorem ex_meas (ra na k0 k1 : Option Addr) (n : Nat) (hn : n < 5) : measOf (exG ra na k0 k1) n = exM n := measOf_yes (ex_right ra na k0 k1) (exM_ok k0 k1) (by simpa [exG, exN] using hn)
theorem ex_meas0 (ra na k0 k1 : Option Addr) : measOf (exG ra na k0 k1) 0 = (5, 3) := ex_meas ra na k0 k1 0 (by omega)
theorem ex_meas1 (ra na k0 k1 : Option Addr) : measOf (exG ra na k0 k1) 1 = (3, 2) := ex_meas ra na k0 k1 1 (by omega)
theorem ex_owner (ra na k0 k1 : Option Addr) : ownerOf (exG ra na k0 k1) 4 = 0 := by
  rw [ownerOf_yes ⟨ex_right ra na k0 k1, by omega, by simp [exG, exN]⟩]
  simp [exG, exR, lastLe, lastFrom]
theorem ex_ruleA (ra na k0 k1 : Option Addr) : ruleAt (exG ra na k0 k1).rules tA = 0 := by simp [exG, exR, ruleAt, ruleFrom]
theorem ex_ruleB (ra na k0 k1 : Option Addr) : ruleAt (exG ra na k0 k1).rules tB = -1 := by simp [exG, exR, ruleAt, ruleFrom]
end Go.Proofs.Ytfdfcagkfnckmaa

/- A grammar wherever it lies: what left tells of it is the same; the law's example, plainly. Nothing here walks the program. -/
import Derived.Test.YtmlaepbmdfmgbaaGreatB7
import Derived.Test.YtmlaepbmdfmgbaaGreatL5
import Derived.KernelRfl
import Derived.Deep.CutRange
set_option linter.unusedSimpArgs false
set_option linter.unusedVariables false
namespace Go.Proofs.YtmlaepbmdfmgbaaGreat
open Go Go.RowKit
theorem fsts_kz (x : Nd) (may : Int → Bool) : fsts x.kz may = fsts x may := rfl
theorem ownF_kz (l : List Nd) (may : Int → Bool) : ∀ (f : Nat) (n : Int), ownF (l.map Nd.kz) may f n = ownF l may f n
  | 0, _ => rfl
  | f + 1, n => by
    unfold ownF
    rw [kz_getD, fsts_kz, show ownF (l.map Nd.kz) may f = ownF l may f from funext (ownF_kz l may f)]
theorem ownN_kz (l : List Nd) (may : Int → Bool) (n : Int) : ownN (l.map Nd.kz) may n = ownN l may n := by
  unfold ownN
  rw [List.length_map, ownF_kz]
theorem callsB_kz (l : List Nd) (may : Int → Bool) (n : Int) (r : Nat) : callsB (l.map Nd.kz) may n r = callsB l may n r := by
  unfold callsB
  rw [ownN_kz]
  congr 1
  funext m
  rw [kz_getD]
  rfl
theorem mayG_kz (g : Gr) : mayG g.kz = mayG g := by
  unfold mayG
  rw [ranks_kz]
  funext n
  exact mayN_kz g.nodes _ n
theorem callsOf_kz (g : Gr) (n : Int) : callsOf g.kz n = callsOf g n := by
  unfold callsOf
  rw [mayG_kz]
  show rowOf' g.rules.length (callsB (g.nodes.map Nd.kz) (mayG g) n) = _
  rw [show callsB (g.nodes.map Nd.kz) (mayG g) n = callsB g.nodes (mayG g) n from funext fun r => callsB_kz _ _ _ r]
theorem lcal_kz (g : Gr) : lcal g.kz = lcal g := by
  funext r
  unfold lcal
  rw [callsOf_kz]
  rfl
theorem graphOf_kz (g : Gr) : graphOf g.kz = graphOf g := by
  unfold graphOf
  rw [lcal_kz]
  rfl
theorem srch_kz (g : Gr) (i : Int) : srch g.kz i = srch g i := by
  unfold srch
  rw [lcal_kz, rightB_kz]
  rfl
theorem toOf_kz (g : Gr) (i : Int) : toOf g.kz i = toOf g i := by
  unfold toOf
  rw [srch_kz]
theorem wayOf_kz (g : Gr) (i k : Int) : wayOf g.kz i k = wayOf g i k := by
  unfold wayOf
  rw [srch_kz]
theorem goesB_kz (g : Gr) (i : Int) : goesB g.kz i = goesB g i := by
  unfold goesB
  rw [wayOf_kz]
/-- The law's example. -/
def lxBl : List (List Nd) := [ofL 7 [ofL 6 [ofL 10 [[callN 1 0]], [callN 0 0], [wordN ⟨#[120]⟩]], ofL 6 [ofL 11 [[callN 2 0]], [leafN 2]]], ofL 6 [[wordN ⟨#[98]⟩], [callN 0 0]], ofL 6 [ofL 8 [[wordN ⟨#[99]⟩]], [callN 2 0]]]
def lxN : List Nd := [⟨7, 0, 0, 0, 0, ⟨#[]⟩, 0, 0, none, 0, [1, 6]⟩, ⟨6, 0, 0, 0, 0, ⟨#[]⟩, 0, 0, none, 0, [2, 4, 5]⟩, ⟨10, 0, 0, 0, 0, ⟨#[]⟩, 0, 0, none, 0, [3]⟩, ⟨5, 0, 0, 0, 0, ⟨#[]⟩, 1, 0, none, 0, []⟩, ⟨5, 0, 0, 0, 0, ⟨#[]⟩, 0, 0, none, 0, []⟩, ⟨4, 0, 0, 0, 0, ⟨#[120]⟩, 0, 0, none, 0, []⟩,
  ⟨6, 0, 0, 0, 0, ⟨#[]⟩, 0, 0, none, 0, [7, 9]⟩, ⟨11, 0, 0, 0, 0, ⟨#[]⟩, 0, 0, none, 0, [8]⟩, ⟨5, 0, 0, 0, 0, ⟨#[]⟩, 2, 0, none, 0, []⟩, ⟨2, 0, 0, 0, 0, ⟨#[]⟩, 0, 0, none, 0, []⟩,
  ⟨6, 0, 0, 0, 0, ⟨#[]⟩, 0, 0, none, 0, [11, 12]⟩, ⟨4, 0, 0, 0, 0, ⟨#[98]⟩, 0, 0, none, 0, []⟩, ⟨5, 0, 0, 0, 0, ⟨#[]⟩, 0, 0, none, 0, []⟩,
  ⟨6, 0, 0, 0, 0, ⟨#[]⟩, 0, 0, none, 0, [14, 16]⟩, ⟨8, 0, 0, 0, 0, ⟨#[]⟩, 0, 0, none, 0, [15]⟩, ⟨4, 0, 0, 0, 0, ⟨#[99]⟩, 0, 0, none, 0, []⟩, ⟨5, 0, 0, 0, 0, ⟨#[]⟩, 2, 0, none, 0, []⟩]
def lxR : List Rl := [⟨⟨#[65]⟩, 0⟩, ⟨⟨#[66]⟩, 10⟩, ⟨⟨#[67]⟩, 13⟩]
theorem lx_gram : gramL lxBl = (lxR, lxN) := by rfl
def lx0 : Gr := ⟨none, 0, lxR, none, 0, lxN⟩
def lxM : Nat → Meas
  | 0 => (10, 4) | 1 => (5, 3) | 2 => (2, 2) | 6 => (4, 3) | 7 => (2, 2) | 10 => (3, 2) | 13 => (4, 3) | 14 => (2, 2) | _ => (1, 1)
theorem lx_right : Right lx0 where
  rules := by decide
  nodes := by decide
  named := by
    intro i hi
    have : i = 0 ∨ i = 1 ∨ i = 2 := by simp [lx0, lxR] at hi; omega
    rcases this with rfl | rfl | rfl
    all_goals exact ⟨by simp [lx0, lxR, nameOk, byteOk, letter], by simp [lx0, lxR, ruleAt, ruleFrom]⟩
  all := by
    intro i hi
    have : i = 0 ∨ i = 1 ∨ i = 2 ∨ i = 3 ∨ i = 4 ∨ i = 5 ∨ i = 6 ∨ i = 7 ∨ i = 8 ∨ i = 9 ∨ i = 10 ∨ i = 11 ∨ i = 12 ∨ i = 13 ∨ i = 14 ∨ i = 15 ∨ i = 16 := by simp [lx0, lxN] at hi; omega
    rw [nodeOk_iff]
    rcases this with rfl | rfl | rfl | rfl | rfl | rfl | rfl | rfl | rfl | rfl | rfl | rfl | rfl | rfl | rfl | rfl | rfl
    all_goals simp [lx0, lxN, lxR, NodeIs, ByteArray.toList_eq, ByteArray.size]
  pre := ⟨lxM, fun m _ hm => by
    have : m = 0 ∨ m = 1 ∨ m = 2 ∨ m = 3 ∨ m = 4 ∨ m = 5 ∨ m = 6 ∨ m = 7 ∨ m = 8 ∨ m = 9 ∨ m = 10 ∨ m = 11 ∨ m = 12 ∨ m = 13 ∨ m = 14 ∨ m = 15 ∨ m = 16 := by simp [lx0, lxN] at hm; omega
    rcases this with rfl | rfl | rfl | rfl | rfl | rfl | rfl | rfl | rfl | rfl | rfl | rfl | rfl | rfl | rfl | rfl | rfl
    all_goals exact ⟨by decide, by decide, by decide, by rfl⟩, by rfl⟩
theorem lx_graph : graphOf lx0 = [[0, 1, 2], [], [2]] := by kernel_rfl
theorem lx_bfs0 : (bfs (lcal lx0) 0).1 = [true, true, true] ++ List.replicate 29 false ∧ (bfs (lcal lx0) 0).2.1 = List.replicate 32 0 := by exact ⟨by kernel_rfl, by kernel_rfl⟩
theorem lx_bfs1 : (bfs (lcal lx0) 1).1 = List.replicate 32 false := by kernel_rfl
theorem lx_bfs2 : (bfs (lcal lx0) 2).1 = [false, false, true] ++ List.replicate 29 false := by kernel_rfl
theorem lx_srch (i : Nat) (h : i < 3) : srch lx0 i = bfs (lcal lx0) i := srch_yes lx_right h
theorem lx_to : toOf lx0 0 = [0, 1, 2] := by
  unfold toOf
  rw [show srch lx0 0 = bfs (lcal lx0) 0 from lx_srch 0 (by decide), lx_bfs0.1]
  rfl
theorem lx_way : wayOf lx0 0 2 = [0, 2] := by
  have e : srch lx0 0 = bfs (lcal lx0) 0 := lx_srch 0 (by decide)
  rw [way_yes (by decide) (by decide) (by rw [e, lx_bfs0.1]; rfl), e]
  unfold wayB
  rw [lx_bfs0.2]
  rfl
theorem lx_goes : goesB lx0 0 = true ∧ goesB lx0 1 = false ∧ goesB lx0 2 = true := by
  have e0 : srch lx0 0 = bfs (lcal lx0) 0 := lx_srch 0 (by decide)
  have e1 : srch lx0 1 = bfs (lcal lx0) 1 := lx_srch 1 (by decide)
  have e2 : srch lx0 2 = bfs (lcal lx0) 2 := lx_srch 2 (by decide)
  unfold goesB
  refine ⟨?_, ?_, ?_⟩
  · rw [way_yes (by decide) (by decide) (by rw [e0, lx_bfs0.1]; rfl)]
    simp [wayB]
  · rw [way_no (fun h => by have := h.2.2; rw [e1, lx_bfs1] at this; exact absurd this (by decide))]
    rfl
  · rw [way_yes (by decide) (by decide) (by rw [e2, lx_bfs2]; rfl)]
    simp [wayB]
end Go.Proofs.YtmlaepbmdfmgbaaGreat
namespace Go.Proofs.YtmlaepbmdfmgbaaGreat
open Go Go.RowKit
theorem lies_three {w : World} {b : Nat} {x y z : Value} {T : TypeId} (h : Blk w b #[x, y, z] T) : Lies w (some ⟨b, 0, none⟩) [x, y, z] := fun _ => ⟨b, 0, rfl, h.lt, fun i hi => by
  have : i = 0 ∨ i = 1 ∨ i = 2 := by simp at hi; omega
  rcases this with rfl | rfl | rfl <;> (rw [Nat.zero_add, h.cell]; rfl)⟩
end Go.Proofs.YtmlaepbmdfmgbaaGreat
namespace Go.Proofs.YtmlaepbmdfmgbaaGreat
open Go Go.RowKit
/-- What the example stands on. -/
structure Awk (w W : World) (g : Gr) (kb gb : Nat) (A0 A1 A2 : Option Addr) (c0 c1 c2 : Nat) : Prop where
  ka : Blk W kb #[.slice g.RA g.rules.length g.rc, .slice g.NA g.nodes.length g.nc] 31
  gr : Gr.At W g
  xb : Blk W gb #[.slice A0 3 c0, .slice A1 0 c1, .slice A2 1 c2] 36
  x0 : Lies W A0 (ints [0, 1, 2])
  x2 : Lies W A2 (ints [2])
  low : Below w.heap.size w W
theorem Awk.below {w W W' : World} {g : Gr} {kb gb : Nat} {A0 A1 A2 : Option Addr} {c0 c1 c2 : Nat} (h : Awk w W g kb gb A0 A1 A2 c0 c1 c2) (hb : Below W.heap.size W W') : Awk w W' g kb gb A0 A1 A2 c0 c1 c2 :=
  ⟨h.ka.below' hb, h.gr.below hb, h.xb.below' hb, h.x0.below hb, h.x2.below hb, h.low.trans (hb.mono h.low.size)⟩
theorem lx_in : Gr.In lx0 := by
  intro x hx
  simp only [lx0, lxN, List.mem_cons, List.not_mem_nil, or_false] at hx
  rcases hx with rfl | rfl | rfl | rfl | rfl | rfl | rfl | rfl | rfl | rfl | rfl | rfl | rfl | rfl | rfl | rfl | rfl
  all_goals exact ⟨by decide, by decide⟩
theorem row_told {w w' : World} {L M : List Nat} {e : Ending} (h : Row w L e w') (hL : L = M) : ∃ A c, e = .returned (.slice A M.length c) ∧ Lies w' A (ints (nums M)) ∧ Below w.heap.size w w' := by
  subst hL
  obtain ⟨⟨v, rfl, ho, hn⟩, hb⟩ := h
  obtain ⟨A, c, rfl, _, _⟩ := own_slice ho
  exact ⟨A, c, rfl, own_lies1 ho, hb⟩
end Go.Proofs.YtmlaepbmdfmgbaaGreat

/- A grammar at work. -/
import Derived.Test.YtjelgmdjmjnnfaaL1
import Derived.Test.YtjelgmdjmjnnfaaC2
import Derived.Deep.CutRange
set_option linter.unusedSimpArgs false
set_option linter.unusedVariables false
namespace Go.Proofs.Ytjelgmdjmjnnfaa
open Go Go.RowKit Go.Maps Go.Shelf
theorem Try.info_b : (Try.prog.info? 4).map (fun i => (i.zero, i.size, i.bytes)) = some (some (.bool false), 1, 1) := by kernel_rfl
theorem made_bool (n : Nat) : madeCells (Value.bool false).cells (n * 1) = (List.replicate n (Value.bool false)).toArray := by
  apply Array.ext
  · simp [madeCells]
  · intro k h1 h2
    simp [madeCells, Value.cells, Nat.mod_one]
end Go.Proofs.Ytjelgmdjmjnnfaa
namespace Go.Proofs.Ytjelgmdjmjnnfaa
open Go Go.RowKit Go.Maps Go.Shelf
attribute [local go_sem] Oper.semAt_some
/-- Whether a node is a Call of a rule. -/
def isC (l : List Nd) (r : Nat) (m : Int) : Bool := decide ((l.getD m.toNat Nd.zero).kind = 5) && decide ((l.getD m.toNat Nd.zero).rule = (r : Int))
theorem isC_no {l : List Nd} {r : Nat} {m : Int} (h : (l.getD m.toNat Nd.zero).kind ≠ 5) : isC l r m = false := by
  unfold isC; rw [decide_eq_false h]; rfl
theorem isC_yes {l : List Nd} {r i : Nat} {m : Int} (h : (l.getD m.toNat Nd.zero).kind = 5) (hr : (l.getD m.toNat Nd.zero).rule = (r : Int)) : isC l i m = decide (r = i) := by
  unfold isC; rw [decide_eq_true h, hr, Bool.true_and]
  exact decide_eq_decide.2 ⟨fun h => by omega, fun h => by omega⟩
/-- Which rules were called by the first so many of some nodes. -/
def callM (l : List Nd) (a : List Int) (k : Nat) : List Bool := (List.range 32).map fun r => (a.take k).any (isC l r)
theorem callM_len (l : List Nd) (a : List Int) (k : Nat) : (callM l a k).length = 32 := by simp [callM]
theorem callM_get {l : List Nd} {a : List Int} {k r : Nat} (h : r < (callM l a k).length) : (callM l a k)[r] = (a.take k).any (isC l r) := by
  simp [callM]
theorem callM_at {l : List Nd} {a : List Int} {k r : Nat} (h : r < 32) : (callM l a k).getD r false = (a.take k).any (isC l r) := by
  rw [← callM_get (by rw [callM_len]; exact h)]
  simp [List.getD, List.getElem?_eq_getElem (show r < (callM l a k).length by rw [callM_len]; exact h)]
theorem callM_zero (l : List Nd) (a : List Int) : callM l a 0 = List.replicate 32 false := by
  refine List.ext_getElem (by rw [callM_len, List.length_replicate]) fun i h1 h2 => ?_
  rw [callM_get, List.getElem_replicate, List.take_zero]
  rfl
theorem take_one {a : List Int} {k : Nat} (h : k < a.length) : a.take (k + 1) = a.take k ++ [a.getD k 0] := by
  rw [List.take_add_one]
  simp [List.getD, List.getElem?_eq_getElem h]
theorem any_one (l : List Int) (q : Int) (f : Int → Bool) : (l ++ [q]).any f = (l.any f || f q) := by
  rw [List.any_append]; simp
theorem callM_no {l : List Nd} {a : List Int} {k : Nat} (h : k < a.length) (hk : (l.getD (a.getD k 0).toNat Nd.zero).kind ≠ 5) : callM l a (k + 1) = callM l a k := by
  refine List.ext_getElem (by rw [callM_len, callM_len]) fun i h1 h2 => ?_
  rw [callM_get, callM_get, take_one h, any_one, isC_no hk, Bool.or_false]
theorem callM_yes {l : List Nd} {a : List Int} {k r : Nat} (h : k < a.length) (hk : (l.getD (a.getD k 0).toNat Nd.zero).kind = 5) (hr : (l.getD (a.getD k 0).toNat Nd.zero).rule = (r : Int)) : callM l a (k + 1) = (callM l a k).set r true := by
  refine List.ext_getElem (by rw [List.length_set, callM_len, callM_len]) fun i h1 h2 => ?_
  rw [callM_get, take_one h, any_one, isC_yes hk hr, List.getElem_set]
  by_cases e : r = i
  · rw [if_pos e, decide_eq_true e, Bool.or_true]
  · rw [if_neg e, decide_eq_false e, Bool.or_false, callM_get]
theorem callM_all {l : List Nd} {a : List Int} {may : Int → Bool} {n : Int} {r : Nat} (h : r < 32) (ha : a = ownN l may n) : (callM l a a.length).getD r false = callsB l may n r := by
  rw [callM_at h, List.take_length, ha]
  rfl
end Go.Proofs.Ytjelgmdjmjnnfaa
namespace Go.Proofs.Ytjelgmdjmjnnfaa
open Go Go.RowKit Go.Maps Go.Shelf
attribute [local go_sem] Oper.semAt_some
theorem blk_putX {W : World} {d b : Nat} {vs : Array Value} {T : TypeId} (h : Blk W d vs T) (hb : NoCells W b) (o : Obj) : Blk (W.putObj b o) d vs T := (World.putObj_heap_other (hb.ne h)).trans h
theorem own_putX {W : World} {base e size n b : Nat} {v : Value} {xs : List Value} (h : W.ownsRow base e size v n xs) (hb : NoCells W b) (o : Obj) : (W.putObj b o).ownsRow base e size v n xs :=
  own_kept h fun k hk => by
    rcases h.2 with ⟨rfl, _⟩ | ⟨g, cap, cur, rfl, _, hg, _⟩
    · simp [Value.ownBlock] at hk
    · simp only [Value.ownBlock, Option.some.injEq] at hk
      subst hk
      exact World.putObj_heap_other (hb.ne hg)
theorem leaves_one {F : Fence} {n D : Nat} {P : Program} {fn : Func} {tmps : Array Value} {R : Ending → World → Prop} {W : World} (h : W.heap[D]? = some (.deferred (some []))) (hk : ∀ o, LeavesIn F n P fn tmps R [] .returning (W.putObj D o)) : LeavesInM F n P fn tmps R [mkDf D] .returning W :=
  ⟨by simp, .inl ⟨D, _, rfl, run_takeDeferred h, hk _⟩⟩
end Go.Proofs.Ytjelgmdjmjnnfaa

/- A loop over a range-function that makes memory of its own, and may write into memory that was there before the loop: what the function wants kept over a round is GUARDED: a set of blocks that the loop's body does not touch; the caller's invariant says that its own blocks are none of these. Nothing here speaks of one program. -/
import Derived.RangeFuncBox
import Derived.RangeFuncNested
import Derived.RangeFuncBound
import Derived.RangeFuncCalls
import Derived.RangeFuncLeaves
import Derived.OwnWalkIn
import Derived.TacticsInMore
namespace Go.Proofs.Ytgploogflhfolaa
open Go Go.RowKit
variable {α : Type} {P : Program}

/-- I stays as the world grows, as one of the blocks that Ok names is written, and as new blocks are guarded. -/
def Bears (Ok : Nat → World → Prop) (I : (Nat → Prop) → List α → World → Prop) : Prop :=
  ∀ (Pr Pr' : Nat → Prop) (s : List α) (A B : World) (row : Option Nat), I Pr s A → A.grownBy B row → (∀ r, row = some r → Ok r A) → (∀ k, Pr' k → Pr k ∨ (A.heap.size ≤ k ∧ k < B.heap.size)) → I Pr' s B

theorem grown_of_below {A B : World} (h : Below A.heap.size A B) (row : Option Nat) : A.grownBy B row := ⟨h.os, h.tape, h.output, h.size, fun k hk _ => h.block k hk⟩
theorem Bears.below {Ok : Nat → World → Prop} {I : (Nat → Prop) → List α → World → Prop} (h : Bears Ok I) {Pr : Nat → Prop} {s : List α} {A B : World} (hi : I Pr s A) (hb : Below A.heap.size A B) : I Pr s B :=
  h Pr Pr s A B none hi (grown_of_below hb none) (fun r e => by cases e) (fun k hk => .inl hk)

/-- The contract of a range-function: each element comes in its turn; what is guarded stays over each round. -/
def SeqG (n : Nat) (P : Program) (gf : Nat) (lb : Array Value) (encs : α → Array Value) (S : List α → Prop) (N : Nat) (Gb : Nat → Prop) (P0 : Nat → Prop) (w : World) : Prop :=
  ∀ (l : Nat) (J : (Nat → Prop) → List α → World → Prop) (W : World), Below w.heap.size w W → Bears (fun r _ => Gb r) J →
    (∀ Pr pre x W1, J Pr pre W1 → pre.length < N → YieldAt Fence.wide (n - 1) P l (encs x) W1 fun e W' => e = .returned (.bool true) ∧ J Pr (pre ++ [x]) W' ∧ W1.heap.size ≤ W'.heap.size ∧ ∀ k, Pr k → W'.heap[k]? = W1.heap[k]?) →
    J P0 [] W → CallsIn Fence.wide n P gf (#[.func (.yield l) #[] #[]] ++ lb) W fun e W' => (∃ v, e = .returned v) ∧ ∃ Pr xs, S xs ∧ J Pr xs W'

/-- How a round ends: it goes on; what was guarded is as it was; so are the records from block B on. -/
def roundG (B : Nat) (I : (Nat → Prop) → List α → World → Prop) (Pr : Nat → Prop) (xs : List α) (W : World) : Exit → Act → World → Prop
  | .normal, _, W' => KeepsFrom B W W' ∧ (∀ k, Pr k → W'.heap[k]? = W.heap[k]?) ∧ I Pr xs W'
  | _, _, _ => False

theorem wpIn_rangeFunc_guard {n : Nat} {g : Operand} {ps : Array Tmp} {assign body : Code} {Q : Exit → Act → World → Prop} {a : Act} {w : World} (h1 : 1 ≤ n) {gf : Nat} {lb : Array Value}
    (hg : a.eval g = .func (.func gf) #[] lb) (eg : ∀ args w, (callFunc gf args).run P w = .ok (.enter gf args) w) {encs : α → Array Value} {S : List α → Prop} {N : Nat} {Gb P0 : Nat → Prop} {w0 : World}
    (hseq : SeqG (n - 1) P gf lb encs S N Gb P0 w0) (hb0 : Below w0.heap.size w0 w) (hps : ∀ x, (encs x).size = ps.size) (hGb : ∀ r, Gb r → r < w.heap.size) (hP0 : ∀ k, P0 k → k < w.heap.size)
    (I : (Nat → Prop) → List α → World → Prop) (hI : Bears (fun r A => Gb r ∨ (w.heap.size ≤ r ∧ ∃ o : Obj, A.heap[r]? = some o ∧ o.isCells = false)) I) (h0 : I P0 [] w) (hIlt : ∀ Pr s W, I Pr s W → ∀ k, Pr k → k < W.heap.size) (Ax : α → Act → World → Prop)
    (hAx : ∀ x a' W l o o', Ax x a' W → W.heap[l]? = some o → o.isCells = false → Ax x a' (W.putObj l o'))
    (hassign : ∀ (l : Nat) (x : α) (W : World) (K : Act → World → Prop), (∀ a' W', Below W.heap.size W W' → Ax x a' W' → K a' W') →
      assign.wpIn (Fence.wide.inRound l) (n - 1 - 1) P (Exit.then K (fun _ _ _ => False)) { tmps := (ps.zip (encs x)).foldl (fun t (p, v) => t.setIfInBounds p v) a.tmps, defers := [] } W)
    (hbody : ∀ (l : Nat) (Pr : Nat → Prop) (pre : List α) (x : α) (a' : Act) (W : World), I Pr pre W → Ax x a' W → pre.length < N → body.wpIn (Fence.wide.inRound l) (n - 1 - 1) P (roundG w.heap.size I Pr (pre ++ [x]) W) a' W)
    (hdone : ∀ (D : Nat) (Pr : Nat → Prop) (xs : List α) (W : World), w.heap.size ≤ D → S xs → I Pr xs W → W.heap[D]? = some (.deferred (some [])) → Q .normal { a with defers := { target := .collected D, args := #[] } :: a.defers } W) :
    (Code.rangeFunc g ps assign body).wpIn Fence.wide n P Q a w := by
  refine wpIn_rangeFunc ?_
  intro fn hfn
  show ∃ _, _
  let rec0 : LoopState → Loop := fun st => { state := st, pending := none, fn, tmps := a.tmps, params := ps, assign, body, defers := w.heap.size }
  obtain ⟨D, eD⟩ : ∃ D, D = w.heap.size := ⟨_, rfl⟩
  obtain ⟨W1, eW⟩ : ∃ W1, W1 = (w.alloc (.deferred (some []))).alloc (.loop (rec0 .ready)) := ⟨_, rfl⟩
  have hB2 : Below w.heap.size w W1 := by rw [eW]; exact ((Below.refl _ w).alloc (Nat.le_refl _) _).alloc (by simp) _
  have hzz : W1.heap.size = D + 2 := by rw [eW, eD]; simp
  have hD : W1.heap[D]? = some (.deferred (some [])) := by
    rw [eW, eD]; exact (Below.heap_alloc _ _ _ (by simp)).trans (World.alloc_heap_new w _)
  have hL : W1.heap[D + 1]? = some (.loop (rec0 .ready)) := by
    rw [eW, eD]; have := World.alloc_heap_new (w.alloc (.deferred (some []))) (.loop (rec0 .ready)); rwa [World.size_alloc] at this
  have hI1 : I P0 [] W1 := hI.below h0 hB2
  refine ⟨D + 1, [{ target := .collected D, args := #[] }], W1, { target := .fn (.func gf) lb, args := #[.func (.yield (D + 1)) #[] #[]] }, W1, gf, #[.func (.yield (D + 1)) #[] #[]] ++ lb, W1, ?_, ?_, fun _ _ => trivial, ?_, fun _ => h1, ?_⟩
  · rw [eW, eD]; exact run_enterLoop_outer _ _ _ _ _
  · simp only [resolve, hg]
    simp [go_sem]
  · simp [invoke, go_sem, eg]
  -- the function's contract, with the loop's two records beside the invariant, both unguarded
  obtain ⟨J, hJ⟩ : ∃ J : LoopState → (Nat → Prop) → List α → World → Prop, J = fun st Pr s W => I Pr s W ∧ W.heap[D + 1]? = some (.loop (rec0 st)) ∧ W.heap[D]? = some (.deferred (some [])) ∧ ¬ Pr D ∧ ¬ Pr (D + 1) := ⟨_, rfl⟩
  have hput : ∀ (Pr : Nat → Prop) (s : List α) (W : World) (st st' : LoopState), J st Pr s W → J st' Pr s (W.putObj (D + 1) (.loop (rec0 st'))) := by
    intro Pr s W st st' h
    rw [hJ] at h ⊢
    obtain ⟨hi, hl, hd, p1, p2⟩ := h
    exact ⟨hI Pr Pr s _ _ (some (D + 1)) hi (grownBy_putObj' W _ _) (fun r e => by cases e; exact .inr ⟨by omega, _, hl, rfl⟩) (fun k hk => .inl hk), World.putObj_heap_same (Array.getElem?_eq_some_iff.1 hl).1, (World.putObj_heap_other (by omega)).trans hd, p1, p2⟩
  refine (hseq (D + 1) (J .ready) W1 (hb0.trans (hB2.mono hb0.size)) ?_ ?_ ?_).mono ?_
  · intro Pr Pr' s A B row h hg' hr hP
    rw [hJ] at h ⊢
    obtain ⟨hi, hl, hd, p1, p2⟩ := h
    have hlt := (Array.getElem?_eq_some_iff.1 hl).1
    have hne : ∀ k, D ≤ k → some k ≠ row := fun k hk e => by have := hGb k (hr k e.symm); omega
    exact ⟨hI Pr Pr' s A B row hi hg' (fun r e => .inl (hr r e)) hP, (hg'.block _ hlt (hne _ (by omega))).trans hl, (hg'.block _ (by omega) (hne _ (by omega))).trans hd,
      fun h => (hP _ h).elim p1 (by omega), fun h => (hP _ h).elim p2 (by omega)⟩
  · intro Pr pre x W h hlen
    have h' := h
    rw [hJ] at h'
    obtain ⟨hi, hl, hd, p1, p2⟩ := h'
    refine ⟨fn, _, assign, body, run_yield (P := P) (args := encs x) hl (hps x), roundIn_of_wpIn hfn (hassign _ x W _ fun a' W' hW' hax => ?_)⟩
    have hlt := hIlt Pr pre W hi
    have h2 : J .ready Pr pre W' := by
      rw [hJ]
      exact ⟨hI.below hi hW', (hW'.block _ (Array.getElem?_eq_some_iff.1 hl).1).trans hl, (hW'.block _ (Array.getElem?_eq_some_iff.1 hd).1).trans hd, p1, p2⟩
    have h2' := h2
    rw [hJ] at h2'
    have hl' := h2'.2.1
    refine ⟨_, run_beginRound hl' rfl, ?_⟩
    have hb := hput Pr pre W' .ready .busy h2
    have hb' := hb
    rw [hJ] at hb'
    obtain ⟨ji, jl, jd, _, _⟩ := hb'
    refine wpIn_mono (hbody _ Pr pre x a' _ ji (hAx _ _ _ _ _ _ hax hl' rfl) hlen) ?_
    intro e a3 W3 hp
    cases e <;> simp only [roundG] at hp
    obtain ⟨hk3, hg3, hi3⟩ := hp
    have hl3 := hk3.same _ _ (by omega) jl rfl
    have hd3 := hk3.same _ _ (by omega) jd rfl
    have hJ3 : J .busy Pr (pre ++ [x]) W3 := by rw [hJ]; exact ⟨hi3, hl3, hd3, p1, p2⟩
    refine ⟨_, _, run_endRound (P := P) none hl3, rfl, hput Pr _ W3 .busy .ready hJ3, ?_, fun k hk => ?_⟩
    · have h1 := hk3.size
      have h2 := hW'.size
      simp at h1 ⊢
      omega
    · have hne : k ≠ D + 1 := fun e => p2 (e ▸ hk)
      rw [World.putObj_heap_other hne, hg3 k hk, World.putObj_heap_other hne]
      exact hW'.block k (hlt k hk)
  · rw [hJ]
    exact ⟨hI1, hL, hD, fun h => by have := hP0 _ h; omega, fun h => by have := hP0 _ h; omega⟩
  · rintro e W2 ⟨⟨v, rfl⟩, Pr, xs, hS, h⟩
    have h' := h
    rw [hJ] at h'
    obtain ⟨hi, hl, hd, _, _⟩ := h'
    have hq := hput Pr xs W2 .ready .exhausted h
    rw [hJ] at hq
    exact ⟨none, _, run_endLoop (P := P) hl (by simp [rec0]), hdone D Pr xs _ (by omega) hS hq.1 hq.2.2.1⟩
end Go.Proofs.Ytgploogflhfolaa

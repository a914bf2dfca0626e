/- Ranges over a function that hands out things by their numbers: the function's contract, and the law of the loop. The loop's body may write memory that was there when the loop began, all but what the function asks tw be left (G); the function may write whatever it made since. Nothing here speaks of one program. -/
import Derived.Test.YtfghfnpiaccfaaaGreatDoorH0
import Derived.RangeFuncBox
import Derived.RangeFuncNested
import Derived.RangeFuncBound
import Derived.RangeFuncCalls
import Derived.RangeFuncLeaves
import Derived.OwnWalkIn
import Derived.TacticsInMore
import Derived.Test.YtfghfnpiaccfaaaGreatDoorJ1
import Derived.Shelf.Abstract
import Derived.Shelf.RegionOpen
import Derived.LoopNIn
import Derived.LoopIn
import Derived.Test.YtfghfnpiaccfaaaGreatDoorJ3
set_option linter.unusedSimpArgs false
set_option linter.unusedVariables false
namespace Go.Proofs.YtfghfnpiaccfaaaGreatDoor.J
open Go Go.RowKit
variable {P : Program}

/-- What J says it says of blocks below B. -/
def Low (B : Nat) (J : Nat → World → Prop) : Prop := ∀ (s : Nat) (A A' : World), J s A → Below B A A' → J s A'
/-- A round leaves what the function asked for, and what came since the function was called. -/
structure Left (G : Nat → Prop) (B : Nat) (A A' : World) : Prop where
  size : A.heap.size ≤ A'.heap.size
  block : ∀ k, k < A.heap.size → (G k ∨ B ≤ k) → A'.heap[k]? = A.heap[k]?
theorem Left.refl (G : Nat → Prop) (B : Nat) (A : World) : Left G B A A := ⟨Nat.le_refl _, fun _ _ _ => rfl⟩
theorem Left.trans {G : Nat → Prop} {B : Nat} {A A' A'' : World} (h : Left G B A A') (k : Left G B A' A'') : Left G B A A'' :=
  ⟨Nat.le_trans h.size k.size, fun i hi hg => (k.block i (Nat.lt_of_lt_of_le hi h.size) hg).trans (h.block i hi hg)⟩
theorem Left.below {G : Nat → Prop} {B : Nat} {A A' : World} (h : Below A.heap.size A A') : Left G B A A' := ⟨h.size, fun k hk _ => h.block k hk⟩
theorem Left.mono {G G' : Nat → Prop} {B B' : Nat} {A A' : World} (h : Left G B A A') (hg : ∀ k, k < A.heap.size → (G' k ∨ B' ≤ k) → (G k ∨ B ≤ k)) : Left G' B' A A' := ⟨h.size, fun k hk h' => h.block k hk (hg k hk h')⟩
theorem Left.setCell {G : Nat → Prop} {B : Nat} (A : World) (b o : Nat) (v : Value) (hG : ¬ G b) (hB : b < B) : Left G B A (A.setCell ⟨b, o, none⟩ v) :=
  ⟨by simp [World.setCell], fun k _ hg => Below.heap_setCell _ _ _ k (fun e => by rcases hg with h | h; exact hG (by rw [← show k = b from e]; exact h); have : k = b := e; omega)⟩

/-- The contract: N things in their turn, or a part of them. -/
def SeqN (n : Nat) (P : Program) (gf : Nat) (lb : Array Value) (encs : Nat → Array Value) (N : Nat) (G : Nat → Prop) (w : World) : Prop :=
  ∀ (l : Nat) (J Jx : Nat → World → Prop) (W : World), Below w.heap.size w W → Low W.heap.size J → Low W.heap.size Jx →
    (∀ k W1, J k W1 → W.heap.size ≤ W1.heap.size → k < N → YieldAt Fence.wide (n - 1) P l (encs k) W1 fun e W' =>
      (e = .returned (.bool true) ∧ J (k + 1) W' ∧ Left G W.heap.size W1 W') ∨ (e = .returned (.bool false) ∧ Jx (k + 1) W' ∧ Left (fun _ => False) W.heap.size W1 W')) →
    J 0 W → CallsIn Fence.wide n P gf (#[.func (.yield l) #[] #[]] ++ lb) W fun e W' => (∃ v, e = .returned v) ∧ (J N W' ∨ ∃ k, k ≤ N ∧ Jx k W')

/-- How a body may end. -/
def endN (G : Nat → Prop) (B : Nat) (I : Nat → World → Prop) (Ix : Code → Nat → World → Prop) (k : Nat) (W : World) : Exit → Act → World → Prop
  | .normal, _, W' => Left G B W W' ∧ I k W'
  | .ret, _, W' => Left (fun _ => False) B W W' ∧ Ix .ret k W'
  | .exit id, _, W' => Left (fun _ => False) B W W' ∧ Ix (.exit id) k W'
  | .goto t, _, W' => Left (fun _ => False) B W W' ∧ Ix (.goto t) k W'
  | .panic _, _, _ => False
  | .outgrown, _, _ => False

theorem below_putObj (W : World) (l B : Nat) (o : Obj) (h : B ≤ l) : Below B W (W.putObj l o) := ⟨rfl, rfl, rfl, by simp, fun k hk => World.putObj_heap_other (by omega)⟩

theorem wpIn_rangeFunc_n {n : Nat} {g : Operand} {ps : Array Tmp} {assign body : Code} {Q : Exit → Act → World → Prop} {a : Act} {w : World} (h1 : 1 ≤ n) {gf : Nat} {lb : Array Value}
    (hg : a.eval g = .func (.func gf) #[] lb) (eg : ∀ args w, (callFunc gf args).run P w = .ok (.enter gf args) w) {encs : Nat → Array Value} {N : Nat} {G : Nat → Prop} {w0 : World}
    (hseq : SeqN (n - 1) P gf lb encs N G w0) (hb0 : Below w0.heap.size w0 w) (hps : ∀ k, (encs k).size = ps.size) (hG : ∀ k, G k → k < w.heap.size)
    (I : Nat → World → Prop) (Ix : Code → Nat → World → Prop) (hI : Low w.heap.size I) (hIx : ∀ c, Low w.heap.size (Ix c)) (h0 : I 0 w) (a₁ : Nat → Act)
    (hassign : ∀ (l k : Nat) (W : World) (K : Act → World → Prop), K (a₁ k) W →
      assign.wpIn (Fence.wide.inRound l) (n - 1 - 1) P (Exit.then K (fun _ _ _ => False)) { tmps := (ps.zip (encs k)).foldl (fun t (p, v) => t.setIfInBounds p v) a.tmps, defers := [] } W)
    (hbody : ∀ (l k : Nat) (W : World), I k W → w.heap.size + 2 ≤ W.heap.size → k < N → body.wpIn (Fence.wide.inRound l) (n - 1 - 1) P (endN G w.heap.size I Ix (k + 1) W) (a₁ k) W)
    (hdone : ∀ (D : Nat) (W : World), w.heap.size ≤ D → I N W → W.heap[D]? = some (.deferred (some [])) → Q .normal { a with defers := { target := .collected D, args := #[] } :: a.defers } W)
    (hstop : ∀ (D : Nat) (c : Code) (k : Nat) (W : World), w.heap.size ≤ D → k ≤ N → Ix c k W → W.heap[D]? = some (.deferred (some [])) → c.wpIn Fence.wide n P Q { a with defers := { target := .collected D, args := #[] } :: a.defers } W) :
    (Code.rangeFunc g ps assign body).wpIn Fence.wide n P Q a w := by
  refine wpIn_rangeFunc ?_
  intro fn hfn
  show ∃ _, _
  let rec0 : LoopState → Option Code → Loop := fun st pe => { state := st, pending := pe, fn, tmps := a.tmps, params := ps, assign, body, defers := w.heap.size }
  obtain ⟨D, eD⟩ : ∃ D, D = w.heap.size := ⟨_, rfl⟩
  obtain ⟨W1, eW⟩ : ∃ W1, W1 = (w.alloc (.deferred (some []))).alloc (.loop (rec0 .ready none)) := ⟨_, rfl⟩
  have hB2 : Below w.heap.size w W1 := by rw [eW]; exact B2 _ _ _
  have hzz : W1.heap.size = D + 2 := by rw [eW, eD]; simp
  have hD : W1.heap[D]? = some (.deferred (some [])) := by
    rw [eW, eD]; exact (Below.heap_alloc _ _ _ (by simp)).trans (World.alloc_heap_new w _)
  have hL : W1.heap[D + 1]? = some (.loop (rec0 .ready none)) := by
    rw [eW, eD]; have := World.alloc_heap_new (w.alloc (.deferred (some []))) (.loop (rec0 .ready none)); rwa [World.size_alloc] at this
  have hI1 : I 0 W1 := hI 0 _ _ h0 hB2
  have keepI : ∀ (K : Nat → World → Prop) (hK : Low w.heap.size K) (k : Nat) (W : World) (o : Obj), K k W → K k (W.putObj (D + 1) o) := fun K hK k W o h => hK k _ _ h (below_putObj W (D + 1) _ o (by omega))
  refine ⟨D + 1, [{ target := .collected D, args := #[] }], W1, { target := .fn (.func gf) lb, args := #[.func (.yield (D + 1)) #[] #[]] }, W1, gf, #[.func (.yield (D + 1)) #[] #[]] ++ lb, W1, ?_, ?_, fun _ _ => trivial, ?_, fun _ => h1, ?_⟩
  · rw [eW, eD]; exact run_enterLoop_outer _ _ _ _ _
  · simp only [resolve, hg]
    simp [go_sem]
  · simp [invoke, go_sem, eg]
  refine (hseq (D + 1) (fun k W => I k W ∧ W.heap[D + 1]? = some (.loop (rec0 .ready none)) ∧ W.heap[D]? = some (.deferred (some [])))
    (fun k W => ∃ c, Ix c k W ∧ W.heap[D + 1]? = some (.loop (rec0 .done (some c))) ∧ W.heap[D]? = some (.deferred (some []))) W1 (hb0.trans (hB2.mono hb0.size)) ?_ ?_ ?_ ⟨hI1, hL, hD⟩).mono ?_
  · rintro s A A' ⟨hi, hl, hd⟩ hb
    exact ⟨hI s A A' hi (hb.mono (by omega)), (hb.block _ (by omega)).trans hl, (hb.block _ (by omega)).trans hd⟩
  · rintro s A A' ⟨c, hi, hl, hd⟩ hb
    exact ⟨c, hIx c s A A' hi (hb.mono (by omega)), (hb.block _ (by omega)).trans hl, (hb.block _ (by omega)).trans hd⟩
  · rintro k W ⟨hi, hl, hd⟩ hsz hk
    have hlt : D + 1 < W.heap.size := (Array.getElem?_eq_some_iff.1 hl).1
    refine ⟨fn, _, assign, body, run_yield (P := P) (args := encs k) hl (hps k), roundIn_of_wpIn hfn (hassign _ k W _ ⟨_, run_beginRound hl rfl, ?_⟩)⟩
    have hl2 : (W.putObj (D + 1) (.loop (rec0 .busy none))).heap[D + 1]? = some (.loop (rec0 .busy none)) := World.putObj_heap_same hlt
    have hd2 : (W.putObj (D + 1) (.loop (rec0 .busy none))).heap[D]? = some (.deferred (some [])) := (World.putObj_heap_other (by omega)).trans hd
    have hw2 : ∀ (X : World) (o : Obj), Left G (D + 2) X (X.putObj (D + 1) o) := fun X o => ⟨by simp, fun j _ hg => World.putObj_heap_other (by rcases hg with h | h; have := hG j h; omega; omega)⟩
    have hw3 : ∀ (X : World) (o : Obj), Left (fun _ => False) (D + 2) X (X.putObj (D + 1) o) := fun X o => ⟨by simp, fun j _ hg => World.putObj_heap_other (by rcases hg with h | h; exact h.elim; omega)⟩
    refine wpIn_mono (hbody _ k _ (keepI I hI k W _ hi) (by simp; omega) hk) ?_
    have fin : ∀ (jump : Option Code) (W3 : World), Left (fun _ => False) w.heap.size (W.putObj (D + 1) (.loop (rec0 .busy none))) W3 →
        (Instr.endRound (D + 1) jump).run P W3 = .ok (.bool jump.isNone) (W3.putObj (D + 1) (.loop (rec0 (if jump.isNone then .ready else .done) jump))) ∧
        (W3.putObj (D + 1) (.loop (rec0 (if jump.isNone then .ready else .done) jump))).heap[D + 1]? = some (.loop (rec0 (if jump.isNone then .ready else .done) jump)) ∧
        (W3.putObj (D + 1) (.loop (rec0 (if jump.isNone then .ready else .done) jump))).heap[D]? = some (.deferred (some [])) := fun jump W3 hk3 => by
      have hl3 := (hk3.block (D + 1) (by simpa using hlt) (.inr (by omega))).trans hl2
      have hd3 := (hk3.block D (by simp; omega) (.inr (by omega))).trans hd2
      exact ⟨run_endRound (P := P) jump hl3, World.putObj_heap_same (Array.getElem?_eq_some_iff.1 hl3).1, (World.putObj_heap_other (by omega)).trans hd3⟩
    rintro e a3 W3 hp
    cases e with
    | normal =>
      obtain ⟨hk3, hi3⟩ := hp
      obtain ⟨hr, hl4, hd4⟩ := fin none W3 (hk3.mono (fun j _ h => by rcases h with h | h; exact h.elim; exact .inr h))
      refine ⟨_, _, hr, .inl ⟨rfl, ⟨keepI I hI _ _ _ hi3, hl4, hd4⟩, ?_⟩⟩
      rw [hzz]
      exact ((hw2 _ _).trans (hk3.mono (fun j _ h => by rcases h with h | h; exact .inl h; exact .inr (by omega)))).trans (hw2 _ _)
    | ret =>
      obtain ⟨hk3, hi3⟩ := hp
      obtain ⟨hr, hl4, hd4⟩ := fin (some .ret) W3 hk3
      exact ⟨_, _, hr, .inr ⟨rfl, ⟨.ret, keepI _ (hIx _) _ _ _ hi3, hl4, hd4⟩, by rw [hzz]; exact ((hw3 _ _).trans (hk3.mono (fun j _ h => by rcases h with h | h; exact h.elim; exact .inr (by omega)))).trans (hw3 _ _)⟩⟩
    | exit id =>
      obtain ⟨hk3, hi3⟩ := hp
      obtain ⟨hr, hl4, hd4⟩ := fin (some (.exit id)) W3 hk3
      exact ⟨_, _, hr, .inr ⟨rfl, ⟨.exit id, keepI _ (hIx _) _ _ _ hi3, hl4, hd4⟩, by rw [hzz]; exact ((hw3 _ _).trans (hk3.mono (fun j _ h => by rcases h with h | h; exact h.elim; exact .inr (by omega)))).trans (hw3 _ _)⟩⟩
    | goto t =>
      obtain ⟨hk3, hi3⟩ := hp
      obtain ⟨hr, hl4, hd4⟩ := fin (some (.goto t)) W3 hk3
      exact ⟨_, _, hr, .inr ⟨rfl, ⟨.goto t, keepI _ (hIx _) _ _ _ hi3, hl4, hd4⟩, by rw [hzz]; exact ((hw3 _ _).trans (hk3.mono (fun j _ h => by rcases h with h | h; exact h.elim; exact .inr (by omega)))).trans (hw3 _ _)⟩⟩
    | panic ch => exact hp.elim
    | outgrown => exact hp.elim
  · rintro e W2 ⟨⟨v, rfl⟩, (⟨hi, hl, hd⟩ | ⟨k, hk, c, hi, hl, hd⟩)⟩
    · exact ⟨none, _, run_endLoop (P := P) hl (by simp [rec0]), hdone D _ (by omega) (keepI I hI _ _ _ hi) ((World.putObj_heap_other (by omega)).trans hd)⟩
    · exact ⟨some c, _, run_endLoop (P := P) hl (by simp [rec0]), hstop D c k _ (by omega) hk (keepI _ (hIx c) _ _ _ hi) ((World.putObj_heap_other (by omega)).trans hd)⟩
end Go.Proofs.YtfghfnpiaccfaaaGreatDoor.J
namespace Go.Proofs.YtfghfnpiaccfaaaGreatDoor.J
open Go Go.RowKit
variable {P : Program}
theorem wpIn_rangeFunc_x {n : Nat} {g : Operand} {ps : Array Tmp} {assign body : Code} {Q : Exit → Act → World → Prop} {a : Act} {w : World} (h1 : 1 ≤ n) {gf : Nat} {lb : Array Value}
    (hg : a.eval g = .func (.func gf) #[] lb) (eg : ∀ args w, (callFunc gf args).run P w = .ok (.enter gf args) w) {encs : Nat → Array Value} {N : Nat} {G : Nat → Prop} {w0 : World}
    (hseq : SeqN (n - 1) P gf lb encs N G w0) (hb0 : Below w0.heap.size w0 w) (hps : ∀ k, (encs k).size = ps.size) (hG : ∀ k, G k → k < w.heap.size)
    (I : Nat → World → Prop) (Ix : Code → Nat → World → Prop) (hI : Low w.heap.size I) (hIx : ∀ c, Low w.heap.size (Ix c)) (h0 : I 0 w) (a₁ : Nat → Nat → Act) (ob : Nat → Obj)
    (hassign : ∀ (l k : Nat) (W : World) (K : Act → World → Prop), K (a₁ k W.heap.size) (W.alloc (ob k)) →
      assign.wpIn (Fence.wide.inRound l) (n - 1 - 1) P (Exit.then K (fun _ _ _ => False)) { tmps := (ps.zip (encs k)).foldl (fun t (p, v) => t.setIfInBounds p v) a.tmps, defers := [] } W)
    (hbody : ∀ (l k b : Nat) (W : World), I k W → w.heap.size + 2 ≤ b → W.heap[b]? = some (ob k) → k < N → body.wpIn (Fence.wide.inRound l) (n - 1 - 1) P (endN G w.heap.size I Ix (k + 1) W) (a₁ k b) W)
    (hdone : ∀ (D : Nat) (W : World), w.heap.size ≤ D → I N W → W.heap[D]? = some (.deferred (some [])) → Q .normal { a with defers := { target := .collected D, args := #[] } :: a.defers } W)
    (hstop : ∀ (D : Nat) (c : Code) (k : Nat) (W : World), w.heap.size ≤ D → k ≤ N → Ix c k W → W.heap[D]? = some (.deferred (some [])) → c.wpIn Fence.wide n P Q { a with defers := { target := .collected D, args := #[] } :: a.defers } W) :
    (Code.rangeFunc g ps assign body).wpIn Fence.wide n P Q a w := by
  refine wpIn_rangeFunc ?_
  intro fn hfn
  show ∃ _, _
  let rec0 : LoopState → Option Code → Loop := fun st pe => { state := st, pending := pe, fn, tmps := a.tmps, params := ps, assign, body, defers := w.heap.size }
  obtain ⟨D, eD⟩ : ∃ D, D = w.heap.size := ⟨_, rfl⟩
  obtain ⟨W1, eW⟩ : ∃ W1, W1 = (w.alloc (.deferred (some []))).alloc (.loop (rec0 .ready none)) := ⟨_, rfl⟩
  have hB2 : Below w.heap.size w W1 := by rw [eW]; exact B2 _ _ _
  have hzz : W1.heap.size = D + 2 := by rw [eW, eD]; simp
  have hD : W1.heap[D]? = some (.deferred (some [])) := by
    rw [eW, eD]; exact (Below.heap_alloc _ _ _ (by simp)).trans (World.alloc_heap_new w _)
  have hL : W1.heap[D + 1]? = some (.loop (rec0 .ready none)) := by
    rw [eW, eD]; have := World.alloc_heap_new (w.alloc (.deferred (some []))) (.loop (rec0 .ready none)); rwa [World.size_alloc] at this
  have hI1 : I 0 W1 := hI 0 _ _ h0 hB2
  have keepI : ∀ (K : Nat → World → Prop) (hK : Low w.heap.size K) (k : Nat) (W : World) (o : Obj), K k W → K k (W.putObj (D + 1) o) := fun K hK k W o h => hK k _ _ h (below_putObj W (D + 1) _ o (by omega))
  refine ⟨D + 1, [{ target := .collected D, args := #[] }], W1, { target := .fn (.func gf) lb, args := #[.func (.yield (D + 1)) #[] #[]] }, W1, gf, #[.func (.yield (D + 1)) #[] #[]] ++ lb, W1, ?_, ?_, fun _ _ => trivial, ?_, fun _ => h1, ?_⟩
  · rw [eW, eD]; exact run_enterLoop_outer _ _ _ _ _
  · simp only [resolve, hg]
    simp [go_sem]
  · simp [invoke, go_sem, eg]
  refine (hseq (D + 1) (fun k W => I k W ∧ W.heap[D + 1]? = some (.loop (rec0 .ready none)) ∧ W.heap[D]? = some (.deferred (some [])))
    (fun k W => ∃ c, Ix c k W ∧ W.heap[D + 1]? = some (.loop (rec0 .done (some c))) ∧ W.heap[D]? = some (.deferred (some []))) W1 (hb0.trans (hB2.mono hb0.size)) ?_ ?_ ?_ ⟨hI1, hL, hD⟩).mono ?_
  · rintro s A A' ⟨hi, hl, hd⟩ hb
    exact ⟨hI s A A' hi (hb.mono (by omega)), (hb.block _ (by omega)).trans hl, (hb.block _ (by omega)).trans hd⟩
  · rintro s A A' ⟨c, hi, hl, hd⟩ hb
    exact ⟨c, hIx c s A A' hi (hb.mono (by omega)), (hb.block _ (by omega)).trans hl, (hb.block _ (by omega)).trans hd⟩
  · rintro k WW ⟨hi0, hl0, hd0⟩ hsz hk
    have hlt0 : D + 1 < WW.heap.size := (Array.getElem?_eq_some_iff.1 hl0).1
    obtain ⟨W, eWW⟩ : ∃ W, W = WW.alloc (ob k) := ⟨_, rfl⟩
    have hbW : Below WW.heap.size WW W := by rw [eWW]; exact B1 _ _
    have hobW : W.heap[WW.heap.size]? = some (ob k) := by rw [eWW]; exact World.alloc_heap_new WW _
    have hszW : W.heap.size = WW.heap.size + 1 := by rw [eWW]; simp
    have hi : I k W := hI k _ _ hi0 (hbW.mono (by omega))
    have hl : W.heap[D + 1]? = some (.loop (rec0 .ready none)) := (hbW.block _ hlt0).trans hl0
    have hd : W.heap[D]? = some (.deferred (some [])) := (hbW.block _ (by omega)).trans hd0
    have hlt : D + 1 < W.heap.size := (Array.getElem?_eq_some_iff.1 hl).1
    have hlW : ∀ (G' : Nat → Prop) (B' : Nat), Left G' B' WW W := fun G' B' => Left.below hbW
    refine ⟨fn, _, assign, body, run_yield (P := P) (args := encs k) hl0 (hps k), roundIn_of_wpIn hfn (hassign _ k WW _ ?_)⟩
    rw [← eWW]
    refine ⟨_, run_beginRound hl rfl, ?_⟩
    have hl2 : (W.putObj (D + 1) (.loop (rec0 .busy none))).heap[D + 1]? = some (.loop (rec0 .busy none)) := World.putObj_heap_same hlt
    have hd2 : (W.putObj (D + 1) (.loop (rec0 .busy none))).heap[D]? = some (.deferred (some [])) := (World.putObj_heap_other (by omega)).trans hd
    have hw2 : ∀ (X : World) (o : Obj), Left G (D + 2) X (X.putObj (D + 1) o) := fun X o => ⟨by simp, fun j _ hg => World.putObj_heap_other (by rcases hg with h | h; have := hG j h; omega; omega)⟩
    have hw3 : ∀ (X : World) (o : Obj), Left (fun _ => False) (D + 2) X (X.putObj (D + 1) o) := fun X o => ⟨by simp, fun j _ hg => World.putObj_heap_other (by rcases hg with h | h; exact h.elim; omega)⟩
    refine wpIn_mono (hbody _ k WW.heap.size _ (keepI I hI k W _ hi) (by omega) ((World.putObj_heap_other (by omega)).trans hobW) hk) ?_
    have fin : ∀ (jump : Option Code) (W3 : World), Left (fun _ => False) w.heap.size (W.putObj (D + 1) (.loop (rec0 .busy none))) W3 →
        (Instr.endRound (D + 1) jump).run P W3 = .ok (.bool jump.isNone) (W3.putObj (D + 1) (.loop (rec0 (if jump.isNone then .ready else .done) jump))) ∧
        (W3.putObj (D + 1) (.loop (rec0 (if jump.isNone then .ready else .done) jump))).heap[D + 1]? = some (.loop (rec0 (if jump.isNone then .ready else .done) jump)) ∧
        (W3.putObj (D + 1) (.loop (rec0 (if jump.isNone then .ready else .done) jump))).heap[D]? = some (.deferred (some [])) := fun jump W3 hk3 => by
      have hl3 := (hk3.block (D + 1) (by simpa using hlt) (.inr (by omega))).trans hl2
      have hd3 := (hk3.block D (by simp; omega) (.inr (by omega))).trans hd2
      exact ⟨run_endRound (P := P) jump hl3, World.putObj_heap_same (Array.getElem?_eq_some_iff.1 hl3).1, (World.putObj_heap_other (by omega)).trans hd3⟩
    rintro e a3 W3 hp
    cases e with
    | normal =>
      obtain ⟨hk3, hi3⟩ := hp
      obtain ⟨hr, hl4, hd4⟩ := fin none W3 (hk3.mono (fun j _ h => by rcases h with h | h; exact h.elim; exact .inr h))
      refine ⟨_, _, hr, .inl ⟨rfl, ⟨keepI I hI _ _ _ hi3, hl4, hd4⟩, ?_⟩⟩
      rw [hzz]
      exact (hlW _ _).trans <| ((hw2 _ _).trans (hk3.mono (fun j _ h => by rcases h with h | h; exact .inl h; exact .inr (by omega)))).trans (hw2 _ _)
    | ret =>
      obtain ⟨hk3, hi3⟩ := hp
      obtain ⟨hr, hl4, hd4⟩ := fin (some .ret) W3 hk3
      exact ⟨_, _, hr, .inr ⟨rfl, ⟨.ret, keepI _ (hIx _) _ _ _ hi3, hl4, hd4⟩, by rw [hzz]; exact (hlW _ _).trans <| ((hw3 _ _).trans (hk3.mono (fun j _ h => by rcases h with h | h; exact h.elim; exact .inr (by omega)))).trans (hw3 _ _)⟩⟩
    | exit id =>
      obtain ⟨hk3, hi3⟩ := hp
      obtain ⟨hr, hl4, hd4⟩ := fin (some (.exit id)) W3 hk3
      exact ⟨_, _, hr, .inr ⟨rfl, ⟨.exit id, keepI _ (hIx _) _ _ _ hi3, hl4, hd4⟩, by rw [hzz]; exact (hlW _ _).trans <| ((hw3 _ _).trans (hk3.mono (fun j _ h => by rcases h with h | h; exact h.elim; exact .inr (by omega)))).trans (hw3 _ _)⟩⟩
    | goto t =>
      obtain ⟨hk3, hi3⟩ := hp
      obtain ⟨hr, hl4, hd4⟩ := fin (some (.goto t)) W3 hk3
      exact ⟨_, _, hr, .inr ⟨rfl, ⟨.goto t, keepI _ (hIx _) _ _ _ hi3, hl4, hd4⟩, by rw [hzz]; exact (hlW _ _).trans <| ((hw3 _ _).trans (hk3.mono (fun j _ h => by rcases h with h | h; exact h.elim; exact .inr (by omega)))).trans (hw3 _ _)⟩⟩
    | panic ch => exact hp.elim
    | outgrown => exact hp.elim
  · rintro e W2 ⟨⟨v, rfl⟩, (⟨hi, hl, hd⟩ | ⟨k, hk, c, hi, hl, hd⟩)⟩
    · exact ⟨none, _, run_endLoop (P := P) hl (by simp [rec0]), hdone D _ (by omega) (keepI I hI _ _ _ hi) ((World.putObj_heap_other (by omega)).trans hd)⟩
    · exact ⟨some c, _, run_endLoop (P := P) hl (by simp [rec0]), hstop D c k _ (by omega) hk (keepI _ (hIx c) _ _ _ hi) ((World.putObj_heap_other (by omega)).trans hd)⟩
end Go.Proofs.YtfghfnpiaccfaaaGreatDoor.J
namespace Go.Proofs.YtfghfnpiaccfaaaGreatDoor.J
open Go Go.RowKit Go.Shelf
attribute [local go_sem] Oper.semAt_some
theorem row_left {w w' : World} {G : Nat → Prop} {B b o : Nat} {v : Value} (h : w.cell? ⟨b, o, none⟩ = some v) (hl : Left G B w w') (hg : G b) : w'.cell? ⟨b, o, none⟩ = some v :=
  (World.cell?_of_block (a := ⟨b, o, none⟩) (hl.block b (World.block_lt_of_cell? _ _ h) (.inl hg))).trans h
theorem _root_.Go.Proofs.YtfghfnpiaccfaaaGreatDoor.Nodes.left {w w' : World} {G : Nat → Prop} {B : Nat} {A : Option Addr} {l : List Nd} (h : Nodes w A l) (hl : Left G B w w') (hg : ∀ b o, A = some ⟨b, o, none⟩ → 0 < l.length → G b) : Nodes w' A l := by
  intro h0
  obtain ⟨b, o, e, hb, hc⟩ := h h0
  exact ⟨b, o, e, Nat.lt_of_lt_of_le hb hl.size, fun i hi j hj => (World.cell?_of_block (a := ⟨b, o + i * 9 + j, none⟩) (hl.block b hb (.inl (hg b o e h0)))).trans (hc i hi j hj)⟩
theorem _root_.Go.Proofs.YtfghfnpiaccfaaaGreatDoor.Rules.left {w w' : World} {G : Nat → Prop} {B : Nat} {A : Option Addr} {l : List Rl} (h : Rules w A l) (hl : Left G B w w') (hg : ∀ b o, A = some ⟨b, o, none⟩ → 0 < l.length → G b) : Rules w' A l := by
  intro h0
  obtain ⟨b, o, e, hb, hc⟩ := h h0
  exact ⟨b, o, e, Nat.lt_of_lt_of_le hb hl.size, fun i hi => ⟨(World.cell?_of_block (a := ⟨b, o + i * 2, none⟩) (hl.block b hb (.inl (hg b o e h0)))).trans (hc i hi).1, (World.cell?_of_block (a := ⟨b, o + i * 2 + 1, none⟩) (hl.block b hb (.inl (hg b o e h0)))).trans (hc i hi).2⟩⟩
set_option maxRecDepth 100000 in
set_option maxHeartbeats 2000000 in
theorem back_node_in (n : Nat) (hn : 1 ≤ n) (l p : Nat) (A : Option Addr) (c : Nat) (a : List Nd) (ha : a.length ≤ 140737488351232) (G : Nat → Prop) (hp : G p) (hG : ∀ b o, A = some ⟨b, o, none⟩ → 0 < a.length → G b) (J Jx : Nat → World → Prop)
    (B : Nat) (hY : ∀ k W1, J k W1 → B ≤ W1.heap.size → k < a.length → YieldAt Fence.wide (n - 1) Tryz.prog l #[.int .i64 (a.length - 1 - k : Nat), Nd.val (a.getD (a.length - 1 - k) Nd.zero)] W1 fun e W' =>
      (e = .returned (.bool true) ∧ J (k + 1) W' ∧ Left G B W1 W') ∨ (e = .returned (.bool false) ∧ Jx (k + 1) W' ∧ Left (fun _ => False) B W1 W'))
    (W : World) (hB : B ≤ W.heap.size) (hbox : Blk W p #[.slice A a.length c] 23) (hx : Nodes W A a) (h0 : J 0 W) :
    CallsIn Fence.wide n Tryz.prog 197 #[.func (.yield l) #[] #[], .pointer (some ⟨p, 0, none⟩)] W fun e W' => (∃ v, e = .returned v) ∧ (J a.length W' ∨ ∃ k, k ≤ a.length ∧ Jx k W') := by
  have HX := Lib.hid hx
  have HY := Lib.hid hY
  have H0 := Lib.hid h0
  have HGG := Lib.hid hG
  have HB := Lib.hid hbox
  have HSZ := Lib.hid hB
  have c0 := hbox.cell 0
  have HP := Lib.hid hp
  simp only [List.getElem?_toArray, List.getElem?_cons_zero] at c0
  obtain ⟨m, em⟩ : ∃ m, m = a.length := ⟨_, rfl⟩
  rw [← em] at HY HB c0 ha ⊢
  have EM := Lib.hid em
  clear hx hY h0 hG hbox hp hB em
  refine callsIn_of_wp Tryz.func197 rfl trivial ?_ rfl
  simp only [Tryz.ntmps197, List.size_toArray, List.length_cons, List.length_nil, Nat.reduceAdd, Nat.reduceSub, Array.replicate_succ, Array.replicate_zero, List.push_toArray, List.append_toArray, List.nil_append, List.cons_append]
  gi_wp2_with (fail)
  clear c0
  gi_loopw [3] (fun i wr => ∃ k : Nat, k ≤ m ∧ i = .int .i64 ((m : Int) - 1 - k) ∧ J k wr ∧ Blk wr p #[.slice A m c] 23 ∧ Nodes wr A a ∧ B ≤ wr.heap.size)
    (fun i _ => (intOf i + 1).toNat)
  case atStart => exact ⟨0, by omega, by go_num, H0.out, HB.out, HX.out, HSZ.out⟩
  case round =>
    obtain ⟨k, hk, rfl, hJ, hbx, hx, hz⟩ := hrel
    by_cases hlt : k < m
    · have c0 := hbx.cell 0
      simp only [List.getElem?_toArray, List.getElem?_cons_zero] at c0
      obtain ⟨i, hi⟩ : ∃ i : Nat, (i : Int) = (m : Int) - 1 - k := ⟨m - 1 - k, by omega⟩
      have hik : m - 1 - k = i := by omega
      rw [← hi]
      have h5 := HY.out k wr hJ hz hlt
      rw [hik] at h5
      have hil : i < m := by omega
      have hil2 : (i : Int) < m := by omega
      have hi0 : (0 : Int) ≤ i := by omega
      obtain ⟨b1, o1, ea, _, c1, c2, c3, c4, c5, c6, c7, c8, c9⟩ := hx.nine (show i < a.length by have := EM.out; omega)
      have HA := Lib.hid ea
      rw [ea] at c0
      generalize a.getD i Nd.zero = x at h5 c1 c2 c3 c4 c5 c6 c7 c8 c9
      obtain ⟨fn, tmps, assign, body, hy, hR⟩ := h5
      have HR := Lib.hid hR
      have HBX := Lib.hid hbx
      have HXX := Lib.hid hx
      have HZ := Lib.hid hz
      have HI := Lib.hid hi
      clear hR hbx hx hJ hz ea hik hi
      gi_wp2_with fail
      refine HR.out.mono ?_
      rintro e W3 (⟨rfl, hJ3, hl3⟩ | ⟨rfl, hJx3, hz3⟩)
      · have hb3 : Blk W3 p #[.slice A m c] 23 := (hl3.block p HBX.out.lt (.inl HP.out)).trans HBX.out
        have hx3 := HXX.out.left hl3 HGG.out
        have HB3 := Lib.hid hb3
        have HX3 := Lib.hid hx3
        have HJ3 := Lib.hid hJ3
        have HZ3 : RowKit.Hid (B ≤ W3.heap.size) := Lib.hid (Nat.le_trans HZ.out hl3.size)
        clear hb3 hx3 hJ3 hl3 hy c0 c1 c2 c3 c4 c5 c6 c7 c8 c9
        gi_wp2_with fail
        go_roundw
        case rel => exact ⟨k + 1, by omega, by have := HI.out; simp only [Value.int.injEq, true_and]; omega, HJ3.out, HB3.out, HX3.out, HZ3.out⟩
        case measure => simp [intOf]; try omega
      · have HJ3 := Lib.hid hJx3
        clear hJx3 hy c0 c1 c2 c3 c4 c5 c6 c7 c8 c9
        gi_wp2_with fail
        refine bodyPost_ret (results_none rfl _ _ _) rfl ?_
        exact ⟨⟨_, rfl⟩, .inr ⟨k + 1, by omega, HJ3.out⟩⟩
    · obtain rfl : k = m := by omega
      have HJ3 := Lib.hid hJ
      have hneg : ¬ (0 : Int) ≤ (k : Int) - 1 - k := by omega
      have hneg2 : (k : Int) - 1 - k < 0 := by omega
      clear hJ hbx hx
      gi_wp2_with fail
      go_end0
      exact ⟨⟨_, rfl⟩, .inl HJ3.out⟩
theorem back_node_seq (n : Nat) (hn : 1 ≤ n) (p : Nat) (A : Option Addr) (c : Nat) (a : List Nd) (ha : a.length ≤ 140737488351232) (G : Nat → Prop) (hp : G p) (hG : ∀ b o, A = some ⟨b, o, none⟩ → 0 < a.length → G b) (w : World)
    (hbox : Blk w p #[.slice A a.length c] 23) (hx : Nodes w A a) : SeqN n Tryz.prog 197 #[.pointer (some ⟨p, 0, none⟩)] (fun k => #[.int .i64 (a.length - 1 - k : Nat), Nd.val (a.getD (a.length - 1 - k) Nd.zero)]) a.length G w :=
  fun l J Jx W hW hJ hJx hY h0 => back_node_in n hn l p A c a ha G hp hG J Jx W.heap.size hY W (Nat.le_refl _) (hbox.below' hW) (hx.below hW) h0
theorem back_node_any (A : Option Addr) (n c : Nat) (w : World) : Calls Tryz.prog 144 #[.slice A n c] w fun e w' => e = .returned (.func (.func 197) #[] #[.pointer (some ⟨w.heap.size, 0, none⟩)]) ∧ w' = w.alloc (.cells #[.slice A n c] 23) := by
  go_enter Tryz.func144, Tryz.ntmps144
  go_wp2_with fail
  go_ret
  exact ⟨rfl, rfl⟩
end Go.Proofs.YtfghfnpiaccfaaaGreatDoor.J
namespace Go.Proofs.YtfghfnpiaccfaaaGreatDoor.J
open Go Go.RowKit Go.Shelf
attribute [local go_sem] Oper.semAt_some
theorem Tryz.info213 : (Tryz.prog.info? 213).map (fun i => (i.zero, i.size, i.bytes)) = some (some (.agg #[.int .i64 0, .int .i64 0]), 2, 16) := by kernel_rfl
/-- What lies while nodes are measured, from the last one on down tw j. -/
structure PSt (w : World) (a : List Nd) (A : Option Addr) (c m t1 t2 t3 t4 g j : Nat) (W : World) : Prop where
  b1 : Blk W t1 #[.slice A m c] 23
  b2 : Blk W t2 #[.slice none 0 0] 77
  b3 : Blk W t3 #[.bool false] 4
  b4 : Blk W t4 #[.slice (some ⟨g, 0, none⟩) m m] 77
  row : ∃ cs ms, Blk W g cs 213 ∧ cs.size = m * 2 ∧ Measured a ms j ∧ ∀ i, j ≤ i → i < m → cs[i * 2]? = some (.int .i64 (ms i).1) ∧ cs[i * 2 + 1]? = some (.int .i64 (ms i).2)
  low : Below w.heap.size w W
theorem PSt.keep {w W W' : World} {a : List Nd} {A : Option Addr} {c m t1 t2 t3 t4 g j B : Nat} (h : PSt w a A c m t1 t2 t3 t4 g j W) (hb : Below B W W') (hB : t1 < B ∧ t2 < B ∧ t3 < B ∧ t4 < B ∧ g < B ∧ w.heap.size ≤ B) : PSt w a A c m t1 t2 t3 t4 g j W' := by
  obtain ⟨cs, ms, h1, h2, h3, h4⟩ := h.row
  exact ⟨h.b1.below hb hB.1, h.b2.below hb hB.2.1, h.b3.below hb hB.2.2.1, h.b4.below hb hB.2.2.2.1, ⟨cs, ms, h1.below hb hB.2.2.2.2.1, h2, h3, h4⟩, h.low.trans (hb.mono hB.2.2.2.2.2)⟩
/-- Measures in memory. -/
def MeasAt (W : World) (v : Value) (m : Nat) (ms : Nat → Meas) : Prop := ∃ g, v = .slice (some ⟨g, 0, none⟩) m m ∧ g < W.heap.size ∧ ∀ i, i < m → W.cell? ⟨g, i * 2, none⟩ = some (.int .i64 (ms i).1) ∧ W.cell? ⟨g, i * 2 + 1, none⟩ = some (.int .i64 (ms i).2)
theorem MeasAt.below {W W' : World} {v : Value} {m : Nat} {ms : Nat → Meas} (h : MeasAt W v m ms) (hb : Below W.heap.size W W') : MeasAt W' v m ms := by
  obtain ⟨g, e, hg, hc⟩ := h
  exact ⟨g, e, Nat.lt_of_lt_of_le hg hb.size, fun i hi => ⟨(hb.cell (p := ⟨g, i * 2, none⟩) hg).trans (hc i hi).1, (hb.cell (p := ⟨g, i * 2 + 1, none⟩) hg).trans (hc i hi).2⟩⟩
def PreEnd (w : World) (a : List Nd) (e : Ending) (w' : World) : Prop :=
  ∃ v, e = .returned (.tuple #[v, .bool (preB a)]) ∧ Below w.heap.size w w' ∧ (preB a = true → ∃ ms, Measured a ms 0 ∧ MeasAt w' v a.length ms) ∧ (preB a = false → v = .slice none 0 0)
theorem results_two {tmps : Array Value} {w : World} {b d : Nat} {v u : Value} (hp : tmps.getD 2 undef = .pointer (some ⟨b, 0, none⟩)) (hq : tmps.getD 3 undef = .pointer (some ⟨d, 0, none⟩))
    (c1 : w.cell? ⟨b, 0, none⟩ = some v) (c2 : w.cell? ⟨d, 0, none⟩ = some u) : (results Tryz.f89 tmps).run Tryz.prog w = .ok (.tuple #[v, u]) w := by
  have hp' : tmps[2]?.getD undef = .pointer (some ⟨b, 0, none⟩) := by simpa using hp
  have hq' : tmps[3]?.getD undef = .pointer (some ⟨d, 0, none⟩) := by simpa using hq
  have a64 := Tryz.isAgg77
  have a4 := Tryz.isAgg4
  simp [results, Tryz.results89, hp', hq', go_sem, c1, c2]
set_option maxRecDepth 100000 in
set_option maxHeartbeats 8000000 in
theorem pre_any (A : Option Addr) (c : Nat) (a : List Nd) (ha : a.length ≤ 2048) (w : World) (hA : Nodes w A a) (hk : ∀ x ∈ a, Nd.At w x) :
    Calls Tryz.prog 89 #[.slice A a.length c] w (PreEnd w a) := by
  obtain ⟨i0, hi, hz0, hz1, hz2⟩ := info_parts Tryz.info213
  have HA := Lib.hid hA
  have HK := Lib.hid hk
  obtain ⟨m, em⟩ : ∃ m, m = a.length := ⟨_, rfl⟩
  rw [← em] at ha ⊢
  have EM := Lib.hid em
  clear hA hk em
  obtain ⟨W3, eW3⟩ : ∃ u, u = ((w.alloc (.cells #[.slice A m c] 23)).alloc (.cells #[.slice none 0 0] 77)).alloc (.cells #[.bool false] 4) := ⟨_, rfl⟩
  have hs3 : W3.heap.size = w.heap.size + 3 := by rw [eW3]; simp
  have b3 : Below w.heap.size w W3 := by rw [eW3]; exact (B2 _ _ _).alloc (by simp; omega) _
  have k1 : Blk W3 w.heap.size #[.slice A m c] 23 := by rw [eW3]; exact ((Blk.new w _ _).alloc _).alloc _
  have k2 : Blk W3 (w.heap.size + 1) #[.slice none 0 0] 77 := by
    rw [eW3]; have := (Blk.new (w.alloc (.cells #[.slice A m c] 23)) #[.slice none 0 0] 77).alloc (.cells #[.bool false] 4); rw [World.size_alloc] at this; exact this
  have k3 : Blk W3 (w.heap.size + 1 + 1) #[.bool false] 4 := by
    rw [eW3]; have := (Blk.new ((w.alloc (.cells #[.slice A m c] 23)).alloc (.cells #[.slice none 0 0] 77)) #[.bool false] 4); rw [World.size_alloc, World.size_alloc] at this; exact this
  have P3 := Lib.hid (And.intro hs3 (And.intro b3 (And.intro k1 (And.intro k2 k3))))
  have E3 := Lib.hid eW3
  clear eW3 hs3 b3 k1 k2 k3
  refine (callsIn_wide (n := 12)).1 ?_
  refine callsIn_of_wp_marks Tryz.func89 rfl trivial ?_ rfl
  simp only [Tryz.ntmps89, List.size_toArray, List.length_cons, List.length_nil, Nat.reduceAdd, Nat.reduceSub, Array.replicate_succ, Array.replicate_zero, List.push_toArray, List.append_toArray, List.nil_append, List.cons_append]
  refine wpIn_wide.2 ?_
  go_wp2_with (first | (at_make; refine wpList_make_full _ rfl _ _ 77 rfl w.heap.size 213 i0 (.agg #[.int .i64 0, .int .i64 0]) 2 Tryz.underlying77 hi hz0 hz1 .i64 .i64 _ _ m rfl rfl rfl rfl (by rw [hz2]; omega) (by unfold maxLen; omega) (by simp; omega) ?_; intro w0 hown0 hgrow0; rw [← E3.out] at hgrow0; have hb0 := (Below.refl W3.heap.size W3).grown hgrow0 (Nat.le_refl _) (fun k hk => by cases hk); have K1 := fun o => ((P3.out.2.2.1.below' hb0).alloc o).cell 0; simp only [List.getElem?_toArray, List.getElem?_cons_zero] at K1; have H0 := Lib.hid hb0; have O0 := Lib.hid hown0; clear hgrow0 hown0 hb0) | (go_at_call 144; refine (back_node_any _ _ _ _).mono ?_; rintro e w8 ⟨rfl, rfl⟩))
  clear K1
  obtain ⟨g, eg⟩ : ∃ g, g = w.heap.size + 1 + 1 + 1 := ⟨_, rfl⟩
  obtain ⟨t1, et1⟩ : ∃ g, g = w.heap.size := ⟨_, rfl⟩
  obtain ⟨t2, et2⟩ : ∃ g, g = w.heap.size + 1 := ⟨_, rfl⟩
  obtain ⟨t3, et3⟩ : ∃ g, g = w.heap.size + 1 + 1 := ⟨_, rfl⟩
  obtain ⟨t4, et4⟩ : ∃ g, g = w0.heap.size := ⟨_, rfl⟩
  have ep : (w0.alloc (.cells #[.slice (some ⟨g, 0, none⟩) m m] 77)).heap.size = t4 + 1 := by rw [et4]; simp
  obtain ⟨wl, ewl⟩ : ∃ u, u = (w0.alloc (.cells #[.slice (some ⟨g, 0, none⟩) m m] 77)).alloc (.cells #[.slice A m c] 23) := ⟨_, rfl⟩
  have hbl : Below w0.heap.size w0 wl := by rw [ewl]; exact B2 _ _ _
  have hg0 : g < w0.heap.size ∧ ∃ cs, Blk w0 g cs 213 ∧ cs.size = m * 2 := by
    rcases O0.out.2 with ⟨hn, _⟩ | ⟨g', cap', cur, hv, hbg, hgh, hnc, hcm, hcs, htake⟩
    · cases hn
    · simp only [Value.slice.injEq, Option.some.injEq, Addr.mk.injEq, and_true, true_and] at hv
      obtain ⟨hv1, hv2⟩ := hv
      simp only [World.size_alloc] at hv1
      rw [← eg] at hv1
      subst hv1 hv2
      exact ⟨(Array.getElem?_eq_some_iff.1 hgh).1, cur, hgh, hcs⟩
  have hz0' : w.heap.size + 3 ≤ w0.heap.size := by have := H0.out.size; have := P3.out.1; omega
  have F0 : RowKit.Hid (PSt w a A c m t1 t2 t3 t4 g m wl) := Lib.hid (by
    obtain ⟨q1, q2, q3, q4, q5⟩ := P3.out
    obtain ⟨cs, hcs1, hcs2⟩ := hg0.2
    have hb3 : Below W3.heap.size W3 wl := H0.out.trans (hbl.mono H0.out.size)
    refine ⟨by rw [et1]; exact q3.below' hb3, by rw [et2]; exact q4.below' hb3, by rw [et3]; exact q5.below' hb3, by rw [ewl, et4]; exact (Blk.new w0 _ _).alloc _, ⟨cs, fun _ => (0, 0), hcs1.below' hbl, hcs2, fun i h1 h2 => by have := EM.out; omega, fun i h1 h2 => by omega⟩, q2.trans (hb3.mono (by omega))⟩)
  have BP : RowKit.Hid (Blk wl (t4 + 1) #[.slice A m c] 23) := Lib.hid (by rw [ewl, ← ep]; exact Blk.new _ _ _)
  have NE : RowKit.Hid (t1 = w.heap.size ∧ t2 = w.heap.size + 1 ∧ t3 = w.heap.size + 2 ∧ g = w.heap.size + 3 ∧ g < t4 ∧ wl.heap.size = t4 + 2 ∧ w.heap.size + 3 ≤ t4) := Lib.hid ⟨by omega, by omega, by omega, by omega, by omega, by rw [ewl, et4]; simp, by omega⟩
  have AN : RowKit.Hid (∀ b o, A = some ⟨b, o, none⟩ → 0 < a.length → b < w.heap.size) := Lib.hid (fun b o e h0 => by
    obtain ⟨b', o', e', hb', _⟩ := HA.out h0
    rw [e] at e'
    cases e'
    exact hb')
  rw [← eg, ← ewl, ← et3, ← et2, ← et1, ← et4]
  clear eg et1 et2 et3 et4 ep ewl hbl hg0 hz0' P3 E3 H0 O0
  refine (wpIn_wide (n := 12)).1 ?_
  refine wpIn_rangeFunc_x (n := 12) (by omega) (gf := 197) (lb := #[.pointer (some ⟨t4 + 1, 0, none⟩)]) rfl (enters_of Tryz.func197 (by kernel_rfl) rfl)
    (G := fun k => k < wl.heap.size ∧ k ≠ g) (by have := back_node_seq 11 (by omega) (t4 + 1) A c a (by have := EM.out; omega) (fun k => k < wl.heap.size ∧ k ≠ g) ⟨by have := NE.out; omega, by have := NE.out; omega⟩ (fun b o e h0 => ⟨by have := AN.out b o e h0; have := NE.out; omega, by have := AN.out b o e h0; have := NE.out; omega⟩) wl (by rw [← EM.out]; exact BP.out) (HA.out.below (F0.out.low)); rw [← EM.out] at this; exact this)
    (Below.refl _ _) (fun _ => rfl) (fun k h => h.1)
    (fun k W => PSt w a A c m t1 t2 t3 t4 g (m - k) W) (fun cd _ W => cd = .ret ∧ Blk W t2 #[.slice none 0 0] 77 ∧ Blk W t3 #[.bool false] 4 ∧ Below w.heap.size w W ∧ preB a = false)
    ?low ?lowx (by simpa using F0.out)
    (fun k b => { tmps := #[.slice A m c, .pointer (some ⟨t1, 0, none⟩), .pointer (some ⟨t2, 0, none⟩), .pointer (some ⟨t3, 0, none⟩), .pointer (some ⟨t4, 0, none⟩), .int .i64 ((m - 1 - k : Nat) : Int), .pointer (some ⟨b, 0, none⟩), undef, undef, undef, undef, .slice A m c, .int .i64 m, .slice (some ⟨g, 0, none⟩) m m, .slice A m c, .func (.func 197) #[] #[.pointer (some ⟨t4 + 1, 0, none⟩)], .int .i64 ((m - 1 - k : Nat) : Int), (a.getD (m - 1 - k) Nd.zero).val, undef, undef, undef, undef, undef, undef, undef, undef, undef, undef, undef, undef, undef, undef, undef, undef, undef, undef, undef, undef, undef, undef, undef, undef, undef, undef, undef, undef, undef, undef, undef, undef, undef, undef, undef, undef, undef, undef, undef, undef, undef, undef, undef], defers := [] }) (fun k => .cells #[.int .i64 (a.getD (m - 1 - k) Nd.zero).kind, .int .u64 (a.getD (m - 1 - k) Nd.zero).c0, .int .u64 (a.getD (m - 1 - k) Nd.zero).c1, .int .u64 (a.getD (m - 1 - k) Nd.zero).c2, .int .u64 (a.getD (m - 1 - k) Nd.zero).c3, .string (a.getD (m - 1 - k) Nd.zero).text, .int .i64 (a.getD (m - 1 - k) Nd.zero).rule, .int .i64 (a.getD (m - 1 - k) Nd.zero).level, .slice (a.getD (m - 1 - k) Nd.zero).A (a.getD (m - 1 - k) Nd.zero).kids.length (a.getD (m - 1 - k) Nd.zero).cap] 48) ?assign ?body ?done ?stop
  case low =>
    intro s X X' h hb
    exact h.keep hb ⟨by have := NE.out; omega, by have := NE.out; omega, by have := NE.out; omega, by have := NE.out; omega, by have := NE.out; omega, by have := NE.out; omega⟩
  case lowx =>
    rintro cd s X X' ⟨h1, h2, h3, h4, h5⟩ hb
    exact ⟨h1, h2.below hb (by have := NE.out; omega), h3.below hb (by have := NE.out; omega), h4.trans (hb.mono (by have := NE.out; omega)), h5⟩
  case assign =>
    intro l2 k W K hK
    gi_wp2
    exact hK
  case body =>
    rintro l2 k b W hF hz hob hkm
    have hkm2 : k < m := hkm
    obtain ⟨i, hi⟩ : ∃ i : Nat, i = m - 1 - k := ⟨_, rfl⟩
    rw [← hi] at hob ⊢
    rw [show m - k = i + 1 by omega] at hF
    have hfin : m - (k + 1) = i := by omega
    have HFIN := Lib.hid hfin
    have him : i < m := by omega
    have hx := HK.out (a.getD i Nd.zero) (getD_mem (by have := EM.out; omega))
    have hks : kidsOf a i = (a.getD i Nd.zero).kids := rfl
    generalize a.getD i Nd.zero = x at hob hx hks ⊢
    have HX := Lib.hid (hx.below hF.low)
    have HKS := Lib.hid hks
    obtain ⟨cs, ms, r1, r2, r3, r4⟩ := hF.row
    have hob' : Blk W b #[.int .i64 x.kind, .int .u64 x.c0, .int .u64 x.c1, .int .u64 x.c2, .int .u64 x.c3, .string x.text, .int .i64 x.rule, .int .i64 x.level, .slice x.A x.kids.length x.cap] 48 := hob
    have c8 : W.cell? ⟨b, 8, none⟩ = some (.slice x.A x.kids.length x.cap) := hob'.cell 8
    have c1 : W.cell? ⟨t1, 0, none⟩ = some (.slice A m c) := hF.b1.cell 0
    have c4 : W.cell? ⟨t4, 0, none⟩ = some (.slice (some ⟨g, 0, none⟩) m m) := hF.b4.cell 0
    have hkl : x.kids.length ≤ 140737488351232 := hx.2.2
    have i0' : (0 : Int) ≤ i := by omega
    have i1' : (i : Int) < m := by omega
    have HF := Lib.hid hF
    have R1 := Lib.hid r1
    have R2 := Lib.hid r2
    have R3 := Lib.hid r3
    have R4 := Lib.hid r4
    have HI := Lib.hid hi
    have HZ := Lib.hid hz
    clear hF r1 r2 r3 r4 hx hks hob hob' hi hz hfin hkm
    obtain ⟨F, eF⟩ : ∃ F, F = climb m ms x.kids (i + 1) 0 := ⟨_, rfl⟩
    have HFF := Lib.hid eF
    clear eF
    have HS := Lib.hid (fun (j : Nat) (h1 : i + 1 ≤ j) (h2 : j < m) => And.intro (R3.out j h1 (by rw [← EM.out]; exact h2)) (measured_le R3.out j h1 (by rw [← EM.out]; exact h2)))
    gi_wp2_with fail
    gi_loopw [23, 7, 8, 10] (fun q nx hg _ wr => ∃ (j n h : Nat), j ≤ x.kids.length ∧ q = .int .i64 j ∧ nx = .int .i64 n ∧ hg = .int .i64 h ∧ i + 1 ≤ n ∧ n ≤ m ∧ h + i + 1 ≤ n ∧ climb m ms (x.kids.drop j) n h = F ∧ wr = W) (fun q _ _ _ _ => x.kids.length - (intOf q).toNat)
    case atStart => exact ⟨0, i + 1, 0, by omega, rfl, by go_num, rfl, by omega, by omega, by omega, by rw [HFF.out]; simp, rfl⟩
    case round =>
      obtain ⟨j, n, h, hj, rfl, rfl, rfl, hn1, hn2, hh, hcl, rfl⟩ := hrel
      by_cases hlt : j < x.kids.length
      · have hlt2 : (j : Int) < x.kids.length := by omega
        obtain ⟨bk, ok, ek, _, ck⟩ := lies_cell HX.out.1 hlt
        rw [List.drop_eq_getElem_cons hlt] at hcl
        have hgd : x.kids[j] = x.kids.getD j 0 := by simp [List.getD, List.getElem?_eq_getElem hlt]
        rw [hgd] at hcl
        rw [ek]
        generalize x.kids.getD j 0 = kd at hcl ck
        unfold climb at hcl
        by_cases hkd : kd = n ∧ kd < m
        · rw [if_pos hkd] at hcl
          obtain ⟨rfl, hk2⟩ := hkd
          have hnm : n < m := by omega
          obtain ⟨⟨s1, s2, s3, _⟩, s4⟩ := HS.out n hn1 hnm
          obtain ⟨rc1, rc2⟩ := R4.out n hn1 hnm
          have d1 : wr.cell? ⟨g, n * 2, none⟩ = some (.int .i64 (ms n).1) := by rw [R1.out.cell]; exact rc1
          have d2 : wr.cell? ⟨g, n * 2 + 1, none⟩ = some (.int .i64 (ms n).2) := by rw [R1.out.cell]; exact rc2
          rw [Int.toNat_natCast] at hcl
          rw [← EM.out] at s3
          generalize ms n = mn at s1 s2 s3 s4 d1 d2 hcl
          obtain ⟨sz, ht⟩ := mn
          dsimp only at s1 s2 s3 s4 d1 d2 hcl
          have HCL := Lib.hid hcl
          clear hcl hgd rc1 rc2
          obtain ⟨n', hn'⟩ : ∃ n' : Nat, (n' : Int) = n + sz := ⟨(n + sz).toNat, by omega⟩
          obtain ⟨h', hh'⟩ : ∃ h' : Nat, (h' : Int) = max (h : Int) ht := ⟨(max (h : Int) ht).toNat, by omega⟩
          rw [← hn', ← hh'] at HCL
          have HN' := Lib.hid hn'
          have HH' := Lib.hid hh'
          clear hn' hh'
          gi_wp2_with fail
          go_roundw
          case rel => exact ⟨j + 1, n', h', by omega, by go_num, by have := HN'.out; simp only [Value.int.injEq, true_and]; omega, by have := HH'.out; simp only [Value.int.injEq, true_and]; first | (split <;> omega) | omega, by have := HN'.out; omega, by have := HN'.out; omega, by have := HN'.out; have := HH'.out; omega, HCL.out, by first | trivial | rfl⟩
          case measure => simp [intOf]; try omega
        · rw [if_neg hkd] at hcl
          have HBAD : RowKit.Hid (preB a = false) := Lib.hid (by
            refine preB_false.2 fun ⟨ms', h'⟩ => ?_
            refine measured_none (ms := ms) (n := i) (by rw [← EM.out]; exact him) R3.out ?_ h'
            rw [← EM.out, HKS.out, ← HFF.out, ← hcl])
          have c2 : wr.cell? ⟨t2, 0, none⟩ = some (.slice none 0 0) := HF.out.b2.cell 0
          have f2 := HF.out.b2.frozen 0
          have nt : t3 ≠ t2 := by have := NE.out; omega
          have hB3 : Blk (wr.setCell ⟨t2, 0, none⟩ (.slice none 0 0)) t3 #[.bool false] 4 := (heap_setCell_other wr ⟨t2, 0, none⟩ t3 _ nt).trans HF.out.b3
          have c3' : (wr.setCell ⟨t2, 0, none⟩ (.slice none 0 0)).cell? ⟨t3, 0, none⟩ = some (.bool false) := hB3.cell 0
          have f3' := hB3.frozen 0
          have FIN : RowKit.Hid (Left (fun _ => False) wl.heap.size wr ((wr.setCell ⟨t2, 0, none⟩ (.slice none 0 0)).setCell ⟨t3, 0, none⟩ (.bool false)) ∧ Blk ((wr.setCell ⟨t2, 0, none⟩ (.slice none 0 0)).setCell ⟨t3, 0, none⟩ (.bool false)) t2 #[.slice none 0 0] 77 ∧
              Blk ((wr.setCell ⟨t2, 0, none⟩ (.slice none 0 0)).setCell ⟨t3, 0, none⟩ (.bool false)) t3 #[.bool false] 4 ∧ Below w.heap.size w ((wr.setCell ⟨t2, 0, none⟩ (.slice none 0 0)).setCell ⟨t3, 0, none⟩ (.bool false))) := Lib.hid ⟨(Left.setCell _ t2 0 _ (fun h => h) (by have := NE.out; omega)).trans (Left.setCell _ t3 0 _ (fun h => h) (by have := NE.out; omega)),
              (heap_setCell_other _ ⟨t3, 0, none⟩ t2 _ (fun e => nt e.symm)).trans (heap_setCell_same wr t2 0 #[.slice none 0 0] 77 _ HF.out.b2), heap_setCell_same _ t3 0 #[.bool false] 4 _ hB3, (HF.out.low.setCell (p := ⟨t2, 0, none⟩) (show w.heap.size ≤ t2 by have := NE.out; omega) _).setCell (p := ⟨t3, 0, none⟩) (show w.heap.size ≤ t3 by have := NE.out; omega) _⟩
          clear hcl hgd hB3
          by_cases hk1 : kd = n
          · subst hk1
            have hge : (m : Int) ≤ n := by omega
            have hge2 : m ≤ n := by omega
            clear hkd
            gi_wp2_with fail
            exact ⟨FIN.out.1, rfl, FIN.out.2.1, FIN.out.2.2.1, FIN.out.2.2.2, HBAD.out⟩
          · have hb : (kd != (n : Int)) = true := by simpa using hk1
            clear hkd hk1
            gi_wp2_with fail
            exact ⟨FIN.out.1, rfl, FIN.out.2.1, FIN.out.2.2.1, FIN.out.2.2.2, HBAD.out⟩
      · obtain rfl : j = x.kids.length := by omega
        have hlt2 : ¬ (x.kids.length : Int) < x.kids.length := by omega
        rw [List.drop_length, climb] at hcl
        have HM := Lib.hid (measured_step (tw := n) (hh := h) (by rw [← EM.out]; exact him) R3.out (by rw [← EM.out, HKS.out, ← HFF.out, ← hcl]))
        have e1 : cs[i * 2]? = some (cs[i * 2]'(by have := R2.out; omega)) := Array.getElem?_eq_getElem _
        have e2 : cs[i * 2 + 1]? = some (cs[i * 2 + 1]'(by have := R2.out; omega)) := Array.getElem?_eq_getElem _
        have d1 : wr.cell? ⟨g, i * 2, none⟩ = some (cs[i * 2]'(by have := R2.out; omega)) := by rw [R1.out.cell]; exact e1
        have d2 : wr.cell? ⟨g, i * 2 + 1, none⟩ = some (cs[i * 2 + 1]'(by have := R2.out; omega)) := by rw [R1.out.cell]; exact e2
        generalize cs[i * 2]'(by have := R2.out; omega) = y1 at d1
        generalize cs[i * 2 + 1]'(by have := R2.out; omega) = y2 at d2
        have fg := R1.out.frozen
        have hwn : IntKind.i64.wrap ((n : Int) - i) = (n : Int) - i := IntWalk.i64_in _ (by omega)
        have FIN : RowKit.Hid (Left (fun k => k < wl.heap.size ∧ k ≠ g) wl.heap.size wr ((wr.setCell ⟨g, i * 2, none⟩ (.int .i64 ((n : Int) - i))).setCell ⟨g, i * 2 + 1, none⟩ (.int .i64 ((h : Int) + 1))) ∧ PSt w a A c m t1 t2 t3 t4 g i ((wr.setCell ⟨g, i * 2, none⟩ (.int .i64 ((n : Int) - i))).setCell ⟨g, i * 2 + 1, none⟩ (.int .i64 ((h : Int) + 1)))) := Lib.hid (by
          have n1 := NE.out
          have hc1 := heap_setCell_same wr g (i * 2) cs 213 (.int .i64 ((n : Int) - i)) R1.out
          have hc2 := heap_setCell_same _ g (i * 2 + 1) _ 213 (.int .i64 ((h : Int) + 1)) hc1
          have ho : ∀ k, k ≠ g → ((wr.setCell ⟨g, i * 2, none⟩ (.int .i64 ((n : Int) - i))).setCell ⟨g, i * 2 + 1, none⟩ (.int .i64 ((h : Int) + 1))).heap[k]? = wr.heap[k]? := fun k hk => (heap_setCell_other _ ⟨g, i * 2 + 1, none⟩ k _ hk).trans (heap_setCell_other wr ⟨g, i * 2, none⟩ k _ hk)
          refine ⟨(Left.setCell _ g (i * 2) _ (fun h => h.2 rfl) (by omega)).trans (Left.setCell _ g (i * 2 + 1) _ (fun h => h.2 rfl) (by omega)), (ho t1 (by omega)).trans HF.out.b1, (ho t2 (by omega)).trans HF.out.b2, (ho t3 (by omega)).trans HF.out.b3, (ho t4 (by omega)).trans HF.out.b4, ⟨_, _, hc2, by simpa using R2.out, HM.out, fun q hq1 hq2 => ?_⟩, (HF.out.low.setCell (p := ⟨g, i * 2, none⟩) (show w.heap.size ≤ g by omega) _).setCell (p := ⟨g, i * 2 + 1, none⟩) (show w.heap.size ≤ g by omega) _⟩
          have r2 := R2.out
          by_cases hq : q = i
          · subst hq
            simp only [if_true]
            exact ⟨by rw [Array.getElem?_setIfInBounds_ne (by omega), Array.getElem?_setIfInBounds_self_of_lt (by omega)], by rw [Array.getElem?_setIfInBounds_self_of_lt (by simp; omega)]⟩
          · simp only [if_neg hq]
            have := R4.out q (by omega) hq2
            exact ⟨by rw [Array.getElem?_setIfInBounds_ne (by omega), Array.getElem?_setIfInBounds_ne (by omega)]; exact this.1, by rw [Array.getElem?_setIfInBounds_ne (by omega), Array.getElem?_setIfInBounds_ne (by omega)]; exact this.2⟩)
        clear hcl e1 e2
        gi_wp2_with fail
        exact ⟨FIN.out.1, by dsimp only; rw [HFIN.out]; exact FIN.out.2⟩
  case done =>
    rintro D W hD hF hK
    rw [Nat.sub_self] at hF
    obtain ⟨cs, ms, r1, r2, r3, r4⟩ := hF.row
    have c4 : W.cell? ⟨t4, 0, none⟩ = some (.slice (some ⟨g, 0, none⟩) m m) := hF.b4.cell 0
    have c2 : W.cell? ⟨t2, 0, none⟩ = some (.slice none 0 0) := hF.b2.cell 0
    have f2 := hF.b2.frozen 0
    have c3 : W.cell? ⟨t3, 0, none⟩ = some (.bool false) := hF.b3.cell 0
    have f3 := hF.b3.frozen 0
    have HN : RowKit.Hid (t2 ≠ t3 ∧ t2 ≠ D ∧ t3 ≠ D ∧ g ≠ D ∧ g ≠ t2 ∧ g ≠ t3 ∧ w.heap.size ≤ t2 ∧ w.heap.size ≤ t3 ∧ w.heap.size ≤ D) := Lib.hid (by have := NE.out; omega)
    have hB2 : Blk (W.setCell ⟨t2, 0, none⟩ (.slice (some ⟨g, 0, none⟩) m m)) t2 #[.slice (some ⟨g, 0, none⟩) m m] 77 := heap_setCell_same W t2 0 #[.slice none 0 0] 77 _ hF.b2
    have hB3 : Blk (W.setCell ⟨t2, 0, none⟩ (.slice (some ⟨g, 0, none⟩) m m)) t3 #[.bool false] 4 := (heap_setCell_other W ⟨t2, 0, none⟩ t3 _ (fun e => HN.out.1 e.symm)).trans hF.b3
    obtain ⟨W2, eW2⟩ : ∃ u, u = (W.setCell ⟨t2, 0, none⟩ (.slice (some ⟨g, 0, none⟩) m m)).setCell ⟨t3, 0, none⟩ (.bool true) := ⟨_, rfl⟩
    have hC2 : Blk W2 t2 #[.slice (some ⟨g, 0, none⟩) m m] 77 := by rw [eW2]; exact (heap_setCell_other _ ⟨t3, 0, none⟩ t2 _ HN.out.1).trans hB2
    have hC3 : Blk W2 t3 #[.bool true] 4 := by rw [eW2]; exact heap_setCell_same _ t3 0 #[.bool false] 4 _ hB3
    have hCG : Blk W2 g cs 213 := by rw [eW2]; exact (heap_setCell_other _ ⟨t3, 0, none⟩ g _ HN.out.2.2.2.2.2.1).trans ((heap_setCell_other W ⟨t2, 0, none⟩ g _ HN.out.2.2.2.2.1).trans r1)
    have hCD : W2.heap[D]? = some (.deferred (some [])) := by rw [eW2]; exact (heap_setCell_other _ ⟨t3, 0, none⟩ D _ (fun e => HN.out.2.2.1 e.symm)).trans ((heap_setCell_other W ⟨t2, 0, none⟩ D _ (fun e => HN.out.2.1 e.symm)).trans hK)
    have hCL : Below w.heap.size w W2 := by rw [eW2]; exact (hF.low.setCell (p := ⟨t2, 0, none⟩) HN.out.2.2.2.2.2.2.1 _).setCell (p := ⟨t3, 0, none⟩) HN.out.2.2.2.2.2.2.2.1 _
    have HC := Lib.hid (And.intro hC2 (And.intro hC3 (And.intro hCG (And.intro hCD hCL))))
    have R2 := Lib.hid r2
    have R3 := Lib.hid r3
    have R4 := Lib.hid r4
    have EW := Lib.hid eW2
    have c3' : (W.setCell ⟨t2, 0, none⟩ (.slice (some ⟨g, 0, none⟩) m m)).cell? ⟨t3, 0, none⟩ = some (.bool false) := hB3.cell 0
    have f3' := hB3.frozen 0
    clear c3 f3 hF r1 r2 r3 r4 hB2 hB3 eW2 hC2 hC3 hCG hCD hCL hK
    go_wp2_with fail
    rw [← EW.out]
    obtain ⟨q2, q3, qg, qd, ql⟩ := HC.out
    have n1 := HN.out
    refine ⟨by simp, .inl ⟨_, _, rfl, run_takeDeferred qd, ?_⟩⟩
    have keep : ∀ k, k ≠ D → (W2.putObj D (.deferred none)).heap[k]? = W2.heap[k]? := fun k hk => World.putObj_heap_other hk
    have z2 : Blk (W2.putObj D (.deferred none)) t2 #[.slice (some ⟨g, 0, none⟩) m m] 77 := (keep t2 n1.2.1).trans q2
    have z3 : Blk (W2.putObj D (.deferred none)) t3 #[.bool true] 4 := (keep t3 n1.2.2.1).trans q3
    have zg : Blk (W2.putObj D (.deferred none)) g cs 213 := (keep g n1.2.2.2.1).trans qg
    have hpre : preB a = true := preB_true.2 ⟨ms, R3.out⟩
    refine ⟨_, results_two rfl rfl (z2.cell 0) (z3.cell 0), _, by rw [hpre]; rfl, ql.trans (below_putObj _ D _ _ n1.2.2.2.2.2.2.2.2), fun _ => ⟨ms, R3.out, g, by rw [← EM.out]; rfl, zg.lt, fun i hi => ?_⟩, fun h => by rw [hpre] at h; cases h⟩
    rw [zg.cell, zg.cell]
    exact R4.out i (by omega) (by rw [EM.out]; exact hi)
  case stop =>
    rintro D cd k W hD hk ⟨rfl, h2, h3, h4, h5⟩ hK
    have HN : RowKit.Hid (t2 ≠ D ∧ t3 ≠ D ∧ w.heap.size ≤ D) := Lib.hid (by have := NE.out; omega)
    have HC := Lib.hid (And.intro h2 (And.intro h3 (And.intro h4 h5)))
    have HD := Lib.hid hK
    clear h2 h3 h4 h5 hK
    gi_wp2
    obtain ⟨q2, q3, q4, q5⟩ := HC.out
    have n1 := HN.out
    refine ⟨by simp, .inl ⟨_, _, rfl, run_takeDeferred HD.out, ?_⟩⟩
    have keep : ∀ k, k ≠ D → (W.putObj D (.deferred none)).heap[k]? = W.heap[k]? := fun k hk => World.putObj_heap_other hk
    have z2 : Blk (W.putObj D (.deferred none)) t2 #[.slice none 0 0] 77 := (keep t2 n1.1).trans q2
    have z3 : Blk (W.putObj D (.deferred none)) t3 #[.bool false] 4 := (keep t3 n1.2.1).trans q3
    exact ⟨_, results_two rfl rfl (z2.cell 0) (z3.cell 0), _, by rw [q5]; rfl, q4.trans (below_putObj _ D _ _ n1.2.2), (fun h => by rw [q5] at h; cases h), (fun _ => rfl)⟩
end Go.Proofs.YtfghfnpiaccfaaaGreatDoor.J

/- Ranges over a function that hands out things by their numbers: the function's contract, and the law of the loop. The loop's body may write memory that was there when the loop began, all but what the function asks to be left (G); the function may write whatever it made since. Nothing here speaks of one program. -/
import Derived.Test.YtefeokfjgmidbaaL1
import Derived.RangeFuncBox
import Derived.RangeFuncNested
import Derived.RangeFuncBound
import Derived.RangeFuncCalls
import Derived.RangeFuncLeaves
import Derived.OwnWalkIn
import Derived.TacticsInMore
import Derived.LoopIn
import Derived.Orders
import Derived.Below
import Derived.OrdersIn
set_option linter.unusedSimpArgs false
set_option linter.unusedVariables false
namespace Go.Proofs.Ytefeokfjgmidbaa
open Go Go.RowKit
variable {P : Program}

/-- What J says it says of blocks below B. -/
def Low (B : Nat) (J : Nat → World → Prop) : Prop := ∀ (s : Nat) (A A' : World), J s A → Below B A A' → J s A'
/-- A round leaves what the function asked for, and what came since the function was called. -/
structure Left (G : Nat → Prop) (B : Nat) (A A' : World) : Prop where
  size : A.heap.size ≤ A'.heap.size
  block : ∀ k, k < A.heap.size → (G k ∨ B ≤ k) → A'.heap[k]? = A.heap[k]?
theorem Left.refl (G : Nat → Prop) (B : Nat) (A : World) : Left G B A A := ⟨Nat.le_refl _, fun _ _ _ => rfl⟩
theorem Left.trans {G : Nat → Prop} {B : Nat} {A A' A'' : World} (h : Left G B A A') (k : Left G B A' A'') : Left G B A A'' :=
  ⟨Nat.le_trans h.size k.size, fun i hi hg => (k.block i (Nat.lt_of_lt_of_le hi h.size) hg).trans (h.block i hi hg)⟩
theorem Left.below {G : Nat → Prop} {B : Nat} {A A' : World} (h : Below A.heap.size A A') : Left G B A A' := ⟨h.size, fun k hk _ => h.block k hk⟩
theorem Left.mono {G G' : Nat → Prop} {B B' : Nat} {A A' : World} (h : Left G B A A') (hg : ∀ k, k < A.heap.size → (G' k ∨ B' ≤ k) → (G k ∨ B ≤ k)) : Left G' B' A A' := ⟨h.size, fun k hk h' => h.block k hk (hg k hk h')⟩
theorem Left.setCell {G : Nat → Prop} {B : Nat} (A : World) (b o : Nat) (v : Value) (hG : ¬ G b) (hB : b < B) : Left G B A (A.setCell ⟨b, o, none⟩ v) :=
  ⟨by simp [World.setCell], fun k _ hg => Below.heap_setCell _ _ _ k (fun e => by rcases hg with h | h; exact hG (by rw [← show k = b from e]; exact h); have : k = b := e; omega)⟩

/-- The contract: N things in their turn, or a part of them. -/
def SeqN (n : Nat) (P : Program) (gf : Nat) (lb : Array Value) (encs : Nat → Array Value) (N : Nat) (G : Nat → Prop) (w : World) : Prop :=
  ∀ (l : Nat) (J Jx : Nat → World → Prop) (W : World), Below w.heap.size w W → Low W.heap.size J → Low W.heap.size Jx →
    (∀ k W1, J k W1 → W.heap.size ≤ W1.heap.size → k < N → YieldAt Fence.wide (n - 1) P l (encs k) W1 fun e W' =>
      (e = .returned (.bool true) ∧ J (k + 1) W' ∧ Left G W.heap.size W1 W') ∨ (e = .returned (.bool false) ∧ Jx (k + 1) W' ∧ Left (fun _ => False) W.heap.size W1 W')) →
    J 0 W → CallsIn Fence.wide n P gf (#[.func (.yield l) #[] #[]] ++ lb) W fun e W' => (∃ v, e = .returned v) ∧ (J N W' ∨ ∃ k, k ≤ N ∧ Jx k W')

/-- How a body may end. -/
def endN (G : Nat → Prop) (B : Nat) (I : Nat → World → Prop) (Ix : Code → Nat → World → Prop) (k : Nat) (W : World) : Exit → Act → World → Prop
  | .normal, _, W' => Left G B W W' ∧ I k W'
  | .ret, _, W' => Left (fun _ => False) B W W' ∧ Ix .ret k W'
  | .exit id, _, W' => Left (fun _ => False) B W W' ∧ Ix (.exit id) k W'
  | .goto t, _, W' => Left (fun _ => False) B W W' ∧ Ix (.goto t) k W'
  | .panic _, _, _ => False
  | .outgrown, _, _ => False

theorem below_putObj (W : World) (l B : Nat) (o : Obj) (h : B ≤ l) : Below B W (W.putObj l o) := ⟨rfl, rfl, rfl, by simp, fun k hk => World.putObj_heap_other (by omega)⟩

theorem wpIn_rangeFunc_n {n : Nat} {g : Operand} {ps : Array Tmp} {assign body : Code} {Q : Exit → Act → World → Prop} {a : Act} {w : World} (h1 : 1 ≤ n) {gf : Nat} {lb : Array Value}
    (hg : a.eval g = .func (.func gf) #[] lb) (eg : ∀ args w, (callFunc gf args).run P w = .ok (.enter gf args) w) {encs : Nat → Array Value} {N : Nat} {G : Nat → Prop} {w0 : World}
    (hseq : SeqN (n - 1) P gf lb encs N G w0) (hb0 : Below w0.heap.size w0 w) (hps : ∀ k, (encs k).size = ps.size) (hG : ∀ k, G k → k < w.heap.size)
    (I : Nat → World → Prop) (Ix : Code → Nat → World → Prop) (hI : Low w.heap.size I) (hIx : ∀ c, Low w.heap.size (Ix c)) (h0 : I 0 w) (a₁ : Nat → Act)
    (hassign : ∀ (l k : Nat) (W : World) (K : Act → World → Prop), K (a₁ k) W →
      assign.wpIn (Fence.wide.inRound l) (n - 1 - 1) P (Exit.then K (fun _ _ _ => False)) { tmps := (ps.zip (encs k)).foldl (fun t (p, v) => t.setIfInBounds p v) a.tmps, defers := [] } W)
    (hbody : ∀ (l k : Nat) (W : World), I k W → w.heap.size + 2 ≤ W.heap.size → k < N → body.wpIn (Fence.wide.inRound l) (n - 1 - 1) P (endN G w.heap.size I Ix (k + 1) W) (a₁ k) W)
    (hdone : ∀ (D : Nat) (W : World), w.heap.size ≤ D → I N W → W.heap[D]? = some (.deferred (some [])) → Q .normal { a with defers := { target := .collected D, args := #[] } :: a.defers } W)
    (hstop : ∀ (D : Nat) (c : Code) (k : Nat) (W : World), w.heap.size ≤ D → k ≤ N → Ix c k W → W.heap[D]? = some (.deferred (some [])) → c.wpIn Fence.wide n P Q { a with defers := { target := .collected D, args := #[] } :: a.defers } W) :
    (Code.rangeFunc g ps assign body).wpIn Fence.wide n P Q a w := by
  refine wpIn_rangeFunc ?_
  intro fn hfn
  show ∃ _, _
  let rec0 : LoopState → Option Code → Loop := fun st pe => { state := st, pending := pe, fn, tmps := a.tmps, params := ps, assign, body, defers := w.heap.size }
  obtain ⟨D, eD⟩ : ∃ D, D = w.heap.size := ⟨_, rfl⟩
  obtain ⟨W1, eW⟩ : ∃ W1, W1 = (w.alloc (.deferred (some []))).alloc (.loop (rec0 .ready none)) := ⟨_, rfl⟩
  have hB2 : Below w.heap.size w W1 := by rw [eW]; exact B2 _ _ _
  have hzz : W1.heap.size = D + 2 := by rw [eW, eD]; simp
  have hD : W1.heap[D]? = some (.deferred (some [])) := by
    rw [eW, eD]; exact (Below.heap_alloc _ _ _ (by simp)).trans (World.alloc_heap_new w _)
  have hL : W1.heap[D + 1]? = some (.loop (rec0 .ready none)) := by
    rw [eW, eD]; have := World.alloc_heap_new (w.alloc (.deferred (some []))) (.loop (rec0 .ready none)); rwa [World.size_alloc] at this
  have hI1 : I 0 W1 := hI 0 _ _ h0 hB2
  have keepI : ∀ (K : Nat → World → Prop) (hK : Low w.heap.size K) (k : Nat) (W : World) (o : Obj), K k W → K k (W.putObj (D + 1) o) := fun K hK k W o h => hK k _ _ h (below_putObj W (D + 1) _ o (by omega))
  refine ⟨D + 1, [{ target := .collected D, args := #[] }], W1, { target := .fn (.func gf) lb, args := #[.func (.yield (D + 1)) #[] #[]] }, W1, gf, #[.func (.yield (D + 1)) #[] #[]] ++ lb, W1, ?_, ?_, fun _ _ => trivial, ?_, fun _ => h1, ?_⟩
  · rw [eW, eD]; exact run_enterLoop_outer _ _ _ _ _
  · simp only [resolve, hg]
    simp [go_sem]
  · simp [invoke, go_sem, eg]
  refine (hseq (D + 1) (fun k W => I k W ∧ W.heap[D + 1]? = some (.loop (rec0 .ready none)) ∧ W.heap[D]? = some (.deferred (some [])))
    (fun k W => ∃ c, Ix c k W ∧ W.heap[D + 1]? = some (.loop (rec0 .done (some c))) ∧ W.heap[D]? = some (.deferred (some []))) W1 (hb0.trans (hB2.mono hb0.size)) ?_ ?_ ?_ ⟨hI1, hL, hD⟩).mono ?_
  · rintro s A A' ⟨hi, hl, hd⟩ hb
    exact ⟨hI s A A' hi (hb.mono (by omega)), (hb.block _ (by omega)).trans hl, (hb.block _ (by omega)).trans hd⟩
  · rintro s A A' ⟨c, hi, hl, hd⟩ hb
    exact ⟨c, hIx c s A A' hi (hb.mono (by omega)), (hb.block _ (by omega)).trans hl, (hb.block _ (by omega)).trans hd⟩
  · rintro k W ⟨hi, hl, hd⟩ hsz hk
    have hlt : D + 1 < W.heap.size := (Array.getElem?_eq_some_iff.1 hl).1
    refine ⟨fn, _, assign, body, run_yield (P := P) (args := encs k) hl (hps k), roundIn_of_wpIn hfn (hassign _ k W _ ⟨_, run_beginRound hl rfl, ?_⟩)⟩
    have hl2 : (W.putObj (D + 1) (.loop (rec0 .busy none))).heap[D + 1]? = some (.loop (rec0 .busy none)) := World.putObj_heap_same hlt
    have hd2 : (W.putObj (D + 1) (.loop (rec0 .busy none))).heap[D]? = some (.deferred (some [])) := (World.putObj_heap_other (by omega)).trans hd
    have hw2 : ∀ (X : World) (o : Obj), Left G (D + 2) X (X.putObj (D + 1) o) := fun X o => ⟨by simp, fun j _ hg => World.putObj_heap_other (by rcases hg with h | h; have := hG j h; omega; omega)⟩
    have hw3 : ∀ (X : World) (o : Obj), Left (fun _ => False) (D + 2) X (X.putObj (D + 1) o) := fun X o => ⟨by simp, fun j _ hg => World.putObj_heap_other (by rcases hg with h | h; exact h.elim; omega)⟩
    refine wpIn_mono (hbody _ k _ (keepI I hI k W _ hi) (by simp; omega) hk) ?_
    have fin : ∀ (jump : Option Code) (W3 : World), Left (fun _ => False) w.heap.size (W.putObj (D + 1) (.loop (rec0 .busy none))) W3 →
        (Instr.endRound (D + 1) jump).run P W3 = .ok (.bool jump.isNone) (W3.putObj (D + 1) (.loop (rec0 (if jump.isNone then .ready else .done) jump))) ∧
        (W3.putObj (D + 1) (.loop (rec0 (if jump.isNone then .ready else .done) jump))).heap[D + 1]? = some (.loop (rec0 (if jump.isNone then .ready else .done) jump)) ∧
        (W3.putObj (D + 1) (.loop (rec0 (if jump.isNone then .ready else .done) jump))).heap[D]? = some (.deferred (some [])) := fun jump W3 hk3 => by
      have hl3 := (hk3.block (D + 1) (by simpa using hlt) (.inr (by omega))).trans hl2
      have hd3 := (hk3.block D (by simp; omega) (.inr (by omega))).trans hd2
      exact ⟨run_endRound (P := P) jump hl3, World.putObj_heap_same (Array.getElem?_eq_some_iff.1 hl3).1, (World.putObj_heap_other (by omega)).trans hd3⟩
    rintro e a3 W3 hp
    cases e with
    | normal =>
      obtain ⟨hk3, hi3⟩ := hp
      obtain ⟨hr, hl4, hd4⟩ := fin none W3 (hk3.mono (fun j _ h => by rcases h with h | h; exact h.elim; exact .inr h))
      refine ⟨_, _, hr, .inl ⟨rfl, ⟨keepI I hI _ _ _ hi3, hl4, hd4⟩, ?_⟩⟩
      rw [hzz]
      exact ((hw2 _ _).trans (hk3.mono (fun j _ h => by rcases h with h | h; exact .inl h; exact .inr (by omega)))).trans (hw2 _ _)
    | ret =>
      obtain ⟨hk3, hi3⟩ := hp
      obtain ⟨hr, hl4, hd4⟩ := fin (some .ret) W3 hk3
      exact ⟨_, _, hr, .inr ⟨rfl, ⟨.ret, keepI _ (hIx _) _ _ _ hi3, hl4, hd4⟩, by rw [hzz]; exact ((hw3 _ _).trans (hk3.mono (fun j _ h => by rcases h with h | h; exact h.elim; exact .inr (by omega)))).trans (hw3 _ _)⟩⟩
    | exit id =>
      obtain ⟨hk3, hi3⟩ := hp
      obtain ⟨hr, hl4, hd4⟩ := fin (some (.exit id)) W3 hk3
      exact ⟨_, _, hr, .inr ⟨rfl, ⟨.exit id, keepI _ (hIx _) _ _ _ hi3, hl4, hd4⟩, by rw [hzz]; exact ((hw3 _ _).trans (hk3.mono (fun j _ h => by rcases h with h | h; exact h.elim; exact .inr (by omega)))).trans (hw3 _ _)⟩⟩
    | goto t =>
      obtain ⟨hk3, hi3⟩ := hp
      obtain ⟨hr, hl4, hd4⟩ := fin (some (.goto t)) W3 hk3
      exact ⟨_, _, hr, .inr ⟨rfl, ⟨.goto t, keepI _ (hIx _) _ _ _ hi3, hl4, hd4⟩, by rw [hzz]; exact ((hw3 _ _).trans (hk3.mono (fun j _ h => by rcases h with h | h; exact h.elim; exact .inr (by omega)))).trans (hw3 _ _)⟩⟩
    | panic ch => exact hp.elim
    | outgrown => exact hp.elim
  · rintro e W2 ⟨⟨v, rfl⟩, (⟨hi, hl, hd⟩ | ⟨k, hk, c, hi, hl, hd⟩)⟩
    · exact ⟨none, _, run_endLoop (P := P) hl (by simp [rec0]), hdone D _ (by omega) (keepI I hI _ _ _ hi) ((World.putObj_heap_other (by omega)).trans hd)⟩
    · exact ⟨some c, _, run_endLoop (P := P) hl (by simp [rec0]), hstop D c k _ (by omega) hk (keepI _ (hIx c) _ _ _ hi) ((World.putObj_heap_other (by omega)).trans hd)⟩
end Go.Proofs.Ytefeokfjgmidbaa
namespace Go.Proofs.Ytefeokfjgmidbaa
open Go Go.RowKit
variable {P : Program}
/-- All but the caller's own blocks is kept; what was not the caller's is not made its. -/
structure Keep (C : Nat → World → Prop) (A A' : World) : Prop where
  size : A.heap.size ≤ A'.heap.size
  block : ∀ j, j < A.heap.size → ¬ C j A → A'.heap[j]? = A.heap[j]?
  own : ∀ j, j < A.heap.size → C j A' → C j A
theorem Keep.refl (C : Nat → World → Prop) (A : World) : Keep C A A := ⟨Nat.le_refl _, fun _ _ _ => rfl, fun _ _ h => h⟩
theorem Keep.trans {C : Nat → World → Prop} {A A' A'' : World} (h : Keep C A A') (k : Keep C A' A'') : Keep C A A'' :=
  ⟨Nat.le_trans h.size k.size, fun j hj hc => (k.block j (Nat.lt_of_lt_of_le hj h.size) (fun e => hc (h.own j hj e))).trans (h.block j hj hc), fun j hj hc => h.own j hj (k.own j (Nat.lt_of_lt_of_le hj h.size) hc)⟩
/-- A block that is no memory of values: a loop's record, a mark. -/
def NoCells (A : World) (b : Nat) : Prop := ∃ o : Obj, A.heap[b]? = some o ∧ ∀ vs T z, o ≠ .cells vs T z
theorem nc_loop {A : World} {b : Nat} {lp : Loop} (h : A.heap[b]? = some (.loop lp)) : NoCells A b := ⟨_, h, fun _ _ _ => by nofun⟩
theorem nc_def {A : World} {b : Nat} {ds : Option (List Deferred)} (h : A.heap[b]? = some (.deferred ds)) : NoCells A b := ⟨_, h, fun _ _ _ => by nofun⟩
theorem NoCells.ne {A : World} {b j : Nat} {vs : Array Value} {T : TypeId} {z : Nat × Nat} (h : NoCells A b) (hj : A.heap[j]? = some (.cells vs T z)) : j ≠ b := by
  rintro rfl
  obtain ⟨o, h1, h2⟩ := h
  rw [hj] at h1
  exact h2 _ _ _ (Option.some.inj h1).symm
/-- What a caller says while a function hands out: it stays as memory grows, and as loops' records turn. -/
structure Fair (B : Nat) (J : Nat → World → Prop) (C : Nat → World → Prop) : Prop where
  grow : ∀ s A A', J s A → Below A.heap.size A A' → J s A'
  put : ∀ s b A o, B ≤ b → J s A → NoCells A b → J s (A.putObj b o)
  cgrow : ∀ s A A' j, J s A → Below A.heap.size A A' → C j A' → C j A
  cput : ∀ s b A o j, B ≤ b → J s A → NoCells A b → C j (A.putObj b o) → C j A
  cell : ∀ s A j, J s A → C j A → ∃ vs T z, A.heap[j]? = some (.cells vs T z)
theorem Fair.keep {B : Nat} {J C : Nat → World → Prop} (f : Fair B J C) {s : Nat} {A A' : World} (h : J s A) (hb : Below A.heap.size A A') : Keep C A A' :=
  ⟨hb.size, fun j hj _ => hb.block j hj, fun j _ hc => f.cgrow s A A' j h hb hc⟩
theorem Fair.lt {B : Nat} {J C : Nat → World → Prop} (f : Fair B J C) {s : Nat} {A : World} (h : J s A) {j : Nat} (hc : C j A) : j < A.heap.size := by
  obtain ⟨vs, T, z, h⟩ := f.cell s A j h hc
  exact (Array.getElem?_eq_some_iff.1 h).1
/-- The contract: N things in their turn; T are the blocks that the function reads. -/
def SeqX (n : Nat) (P : Program) (gf : Nat) (lb : Array Value) (encs : Nat → Array Value) (N : Nat) (T : Nat → Prop) (w : World) : Prop :=
  ∀ (l : Nat) (J C : Nat → World → Prop) (W : World), Below w.heap.size w W → Fair W.heap.size J C → (∀ j, T j → ¬ C j W) →
    (∀ k W1, J k W1 → k < N → YieldAt Fence.wide (n - 1) P l (encs k) W1 fun e W' => e = .returned (.bool true) ∧ J (k + 1) W' ∧ Keep C W1 W') →
    J 0 W → CallsIn Fence.wide n P gf (#[.func (.yield l) #[] #[]] ++ lb) W fun e W' => (∃ v, e = .returned v) ∧ J N W' ∧ Keep C W W'
/-- How a body ends. -/
def endX (C : Nat → World → Prop) (I : Nat → World → Prop) (k : Nat) (W : World) : Exit → Act → World → Prop
  | .normal, _, W' => Keep C W W' ∧ I k W'
  | _, _, _ => False
theorem wpIn_rangeFunc_own {n : Nat} {g : Operand} {ps : Array Tmp} {assign body : Code} {Q : Exit → Act → World → Prop} {a : Act} {w : World} (h1 : 1 ≤ n) {gf : Nat} {lb : Array Value}
    (hg : a.eval g = .func (.func gf) #[] lb) (eg : ∀ args w, (callFunc gf args).run P w = .ok (.enter gf args) w) {encs : Nat → Array Value} {N : Nat} {T : Nat → Prop} {w0 : World}
    (hseq : SeqX (n - 1) P gf lb encs N T w0) (hb0 : Below w0.heap.size w0 w) (hps : ∀ k, (encs k).size = ps.size)
    (I C : Nat → World → Prop) (hF : Fair w.heap.size I C) (hT : ∀ j, T j → ¬ C j w) (h0 : I 0 w) (a₁ : Nat → Act)
    (hassign : ∀ (l k : Nat) (W : World) (K : Act → World → Prop), K (a₁ k) W →
      assign.wpIn (Fence.wide.inRound l) (n - 1 - 1) P (Exit.then K (fun _ _ _ => False)) { tmps := (ps.zip (encs k)).foldl (fun t (p, v) => t.setIfInBounds p v) a.tmps, defers := [] } W)
    (hbody : ∀ (l k : Nat) (W : World), I k W → k < N → body.wpIn (Fence.wide.inRound l) (n - 1 - 1) P (endX C I (k + 1) W) (a₁ k) W)
    (hdone : ∀ (D : Nat) (W : World), D = w.heap.size → I N W → Keep C w W → W.heap[D]? = some (.deferred (some [])) → Q .normal { a with defers := { target := .collected D, args := #[] } :: a.defers } W) :
    (Code.rangeFunc g ps assign body).wpIn Fence.wide n P Q a w := by
  refine wpIn_rangeFunc ?_
  intro fn hfn
  show ∃ _, _
  let rec0 : LoopState → Option Code → Loop := fun st pe => { state := st, pending := pe, fn, tmps := a.tmps, params := ps, assign, body, defers := w.heap.size }
  obtain ⟨D, eD⟩ : ∃ D, D = w.heap.size := ⟨_, rfl⟩
  obtain ⟨W1, eW⟩ : ∃ W1, W1 = (w.alloc (.deferred (some []))).alloc (.loop (rec0 .ready none)) := ⟨_, rfl⟩
  have hB2 : Below w.heap.size w W1 := by rw [eW]; exact B2 _ _ _
  have hzz : W1.heap.size = D + 2 := by rw [eW, eD]; simp
  have hD : W1.heap[D]? = some (.deferred (some [])) := by
    rw [eW, eD]; exact (Below.heap_alloc _ _ _ (by simp)).trans (World.alloc_heap_new w _)
  have hL : W1.heap[D + 1]? = some (.loop (rec0 .ready none)) := by
    rw [eW, eD]; have := World.alloc_heap_new (w.alloc (.deferred (some []))) (.loop (rec0 .ready none)); rwa [World.size_alloc] at this
  have hI1 : I 0 W1 := hF.grow 0 _ _ h0 hB2
  have K1 : Keep C w W1 := hF.keep h0 hB2
  refine ⟨D + 1, [{ target := .collected D, args := #[] }], W1, { target := .fn (.func gf) lb, args := #[.func (.yield (D + 1)) #[] #[]] }, W1, gf, #[.func (.yield (D + 1)) #[] #[]] ++ lb, W1, ?_, ?_, fun _ _ => trivial, ?_, fun _ => h1, ?_⟩
  · rw [eW, eD]; exact run_enterLoop_outer _ _ _ _ _
  · simp only [resolve, hg]
    simp [go_sem]
  · simp [invoke, go_sem, eg]
  have nodef : ∀ s A j d, I s A → A.heap[j]? = some (.deferred d) → ¬ C j A := fun s A j d h e hc => by
    obtain ⟨vs, T, z, h2⟩ := hF.cell s A j h hc
    rw [e] at h2; cases h2
  have noloop : ∀ s A j d, I s A → A.heap[j]? = some (.loop d) → ¬ C j A := fun s A j d h e hc => by
    obtain ⟨vs, T, z, h2⟩ := hF.cell s A j h hc
    rw [e] at h2; cases h2
  refine (hseq (D + 1) (fun k W => I k W ∧ W.heap[D + 1]? = some (.loop (rec0 .ready none)) ∧ W.heap[D]? = some (.deferred (some []))) C W1 (hb0.trans (hB2.mono hb0.size)) ?_ ?_ ?_ ⟨hI1, hL, hD⟩).mono ?_
  · constructor
    · rintro s A A' ⟨hi, hl, hd⟩ hb
      have q1 := (Array.getElem?_eq_some_iff.1 hl).1
      exact ⟨hF.grow s A A' hi hb, (hb.block _ q1).trans hl, (hb.block _ (by omega)).trans hd⟩
    · rintro s b A o hb ⟨hi, hl, hd⟩ he
      exact ⟨hF.put s b A o (by omega) hi he, (World.putObj_heap_other (by omega)).trans hl, (World.putObj_heap_other (by omega)).trans hd⟩
    · rintro s A A' j ⟨hi, hl, hd⟩ hb hc
      exact hF.cgrow s A A' j hi hb hc
    · rintro s b A o j hb ⟨hi, hl, hd⟩ he hc
      exact hF.cput s b A o j (by omega) hi he hc
    · rintro s A j ⟨hi, hl, hd⟩ hc
      exact hF.cell s A j hi hc
  · intro j hj hc
    exact hT j hj (hF.cgrow 0 _ _ j h0 hB2 hc)
  · rintro k W ⟨hi, hl, hd⟩ hk
    have hlt : D + 1 < W.heap.size := (Array.getElem?_eq_some_iff.1 hl).1
    refine ⟨fn, _, assign, body, run_yield (P := P) (args := encs k) hl (hps k), roundIn_of_wpIn hfn (hassign _ k W _ ⟨_, run_beginRound hl rfl, ?_⟩)⟩
    obtain ⟨Wb, eWb⟩ : ∃ Wb, Wb = W.putObj (D + 1) (.loop (rec0 .busy none)) := ⟨_, rfl⟩
    have hl2 : Wb.heap[D + 1]? = some (.loop (rec0 .busy none)) := by rw [eWb]; exact World.putObj_heap_same hlt
    have hd2 : Wb.heap[D]? = some (.deferred (some [])) := by rw [eWb]; exact (World.putObj_heap_other (by omega)).trans hd
    have hi2 : I k Wb := by rw [eWb]; exact hF.put k (D + 1) W _ (by omega) hi (nc_loop hl)
    have hzb : Wb.heap.size = W.heap.size := by rw [eWb]; simp
    have hcb : ∀ j, C j Wb → C j W := fun j hc => by rw [eWb] at hc; exact hF.cput k (D + 1) W _ j (by omega) hi (nc_loop hl) hc
    have hob : ∀ j, j ≠ D + 1 → Wb.heap[j]? = W.heap[j]? := fun j hj => by rw [eWb]; exact World.putObj_heap_other hj
    show body.wpIn _ _ _ _ _ (W.putObj (D + 1) (.loop (rec0 .busy none)))
    rw [← eWb]
    refine wpIn_mono (hbody _ k _ hi2 hk) ?_
    rintro e a3 W3 hp
    cases e with
    | normal =>
      obtain ⟨hk3, hi3⟩ := hp
      have hl3 := (hk3.block (D + 1) (by omega) (noloop _ _ _ _ hi2 hl2)).trans hl2
      have hd3 := (hk3.block D (by omega) (nodef _ _ _ _ hi2 hd2)).trans hd2
      refine ⟨_, _, run_endRound (P := P) none hl3, rfl, ⟨hF.put _ (D + 1) _ _ (by omega) hi3 (nc_loop hl3), World.putObj_heap_same (Array.getElem?_eq_some_iff.1 hl3).1, (World.putObj_heap_other (by omega)).trans hd3⟩, ?_⟩
      refine ⟨?_, fun j hj hc => ?_, fun j hj hc => ?_⟩
      · have := hk3.size; simp; omega
      · by_cases e : j = D + 1
        · subst e
          exact (World.putObj_heap_same (Array.getElem?_eq_some_iff.1 hl3).1).trans hl.symm
        · exact (World.putObj_heap_other e).trans ((hk3.block j (by omega) (fun h => hc (hcb j h))).trans (hob j e))
      · have c3 := hF.cput _ (D + 1) W3 _ j (by omega) hi3 (nc_loop hl3) hc
        exact hcb j (hk3.own j (by omega) c3)
    | ret => exact hp.elim
    | exit id => exact hp.elim
    | goto t => exact hp.elim
    | panic ch => exact hp.elim
    | outgrown => exact hp.elim
  · rintro e W2 ⟨⟨v, rfl⟩, ⟨hi, hl, hd⟩, hk2⟩
    have k2 := K1.trans hk2
    refine ⟨none, _, run_endLoop (P := P) hl (by simp [rec0]), hdone D _ eD (hF.put _ (D + 1) _ _ (by omega) hi (nc_loop hl)) ⟨by have := k2.size; simpa using this, fun j hj hc => (World.putObj_heap_other (by omega)).trans (k2.block j hj hc), fun j hj hc => k2.own j hj (hF.cput _ (D + 1) W2 _ j (by omega) hi (nc_loop hl) hc)⟩ ((World.putObj_heap_other (by omega)).trans hd)⟩
theorem roundX_any {m m' : Nat} {P : Program} {l : Nat} {f : FuncId} {tmps : Array Value} {assign body : Code} {w : World} {R : Ending → World → Prop}
    (h : RoundIn Fence.wide m P l f tmps assign body w R) : RoundIn Fence.wide m' P l f tmps assign body w R := ⟨h.1, fun c cs _ => h.2 c cs (fun d h => by cases h)⟩
theorem roundX_in {F : Fence} {n : Nat} {P : Program} {l l2 : Nat} {f : FuncId} {tmps : Array Value} {assign body : Code} {w : World} {R : Ending → World → Prop}
    (h : RoundIn F n P l f tmps assign body w R) : RoundIn (F.inRound l2) n P l f tmps assign body w R := h
theorem yieldX_any {m m' l : Nat} {P : Program} {args : Array Value} {w : World} {R : Ending → World → Prop} (h : YieldAt Fence.wide m P l args w R) : YieldAt Fence.wide m' P l args w R := by
  obtain ⟨fn, tmps, assign, body, hy, hR⟩ := h
  exact ⟨fn, tmps, assign, body, hy, roundX_any hR⟩
theorem seqX_any {m m' : Nat} {P : Program} {gf : Nat} {lb : Array Value} {encs : Nat → Array Value} {N : Nat} {T : Nat → Prop} {w : World} (h : SeqX m P gf lb encs N T w) : SeqX m' P gf lb encs N T w :=
  fun l J C W hb hf hT hY h0 => callsIn_wide.2 (callsIn_wide.1 (h l J C W hb hf hT (fun k W1 hk hlt => yieldX_any (hY k W1 hk hlt)) h0))
/-- The marks of ranges that are behind one. -/
structure Marks (B : Nat) (dl : List Nat) (W : World) : Prop where
  nodup : dl.Nodup
  each : ∀ D ∈ dl, B ≤ D ∧ W.heap[D]? = some (.deferred (some []))
def mkDf (D : Nat) : Deferred := { target := .collected D, args := #[] }
theorem Marks.cons {B D : Nat} {dl : List Nat} {W : World} (h : Marks B dl W) (hD : B ≤ D) (hn : D ∉ dl) (hW : W.heap[D]? = some (.deferred (some []))) : Marks B (D :: dl) W := ⟨List.nodup_cons.2 ⟨hn, h.nodup⟩, fun E hE => by
  rcases List.mem_cons.1 hE with rfl | hE
  · exact ⟨hD, hW⟩
  · exact h.each E hE⟩
theorem Marks.keep {B s : Nat} {J C : Nat → World → Prop} {dl : List Nat} {A A' : World} (h : Marks B dl A) (f : Fair B J C) (hj : J s A) (k : Keep C A A') : Marks B dl A' :=
  ⟨h.nodup, fun D hD => ⟨(h.each D hD).1, (k.block D (Array.getElem?_eq_some_iff.1 (h.each D hD).2).1 (fun hc => by
    obtain ⟨vs, T, z, h2⟩ := f.cell s A D hj hc
    rw [(h.each D hD).2] at h2; cases h2)).trans (h.each D hD).2⟩⟩
theorem leaves_marks {F : Fence} {n B s : Nat} {P : Program} {fn : Func} {tmps : Array Value} {R : Ending → World → Prop} {J C : Nat → World → Prop} (f : Fair B J C) {W0 : World} (hW0 : W0.heap.size ≤ B) : ∀ (dl : List Nat) (W : World), Marks B dl W → J s W → Keep C W0 W →
    (∀ W', J s W' → Keep C W0 W' → LeavesIn F n P fn tmps R [] .returning W') → LeavesInM F n P fn tmps R (dl.map mkDf) .returning W
  | [], W, _, hj, hk, h => h W hj hk
  | D :: dl, W, hd, hj, hk, h => by
    obtain ⟨h1, h2⟩ := hd.each D List.mem_cons_self
    refine ⟨by simp, .inl ⟨D, _, rfl, run_takeDeferred h2, leaves_marks f hW0 dl _ ⟨(List.nodup_cons.1 hd.nodup).2, fun E hE => ⟨(hd.each E (List.mem_cons_of_mem _ hE)).1, (World.putObj_heap_other (fun e => (List.nodup_cons.1 hd.nodup).1 (by rw [← e]; exact hE))).trans (hd.each E (List.mem_cons_of_mem _ hE)).2⟩⟩ (f.put s D W _ h1 hj (nc_def h2)) ?_ h⟩⟩
    exact ⟨by have := hk.size; simpa using this, fun j hj2 hc => (World.putObj_heap_other (by omega)).trans (hk.block j hj2 hc), fun j hj2 hc => hk.own j hj2 (f.cput s D W _ j h1 hj (nc_def h2) hc)⟩
end Go.Proofs.Ytefeokfjgmidbaa
namespace Go.Proofs.Ytefeokfjgmidbaa
open Go Go.RowKit Go.Maps
/-- Rows of numbers in memory. -/
structure Gph (w : World) (A : Option Addr) (vs : List Value) (L : List (List Int)) : Prop where
  len : vs.length = L.length
  out : Lies w A vs
  row : ∀ i, i < L.length → ∃ B c, vs.getD i undef = .slice B (L.getD i []).length c ∧ Lies w B (ints (L.getD i []))
  most : L.length ≤ 140737488351232
  mosts : ∀ i, i < L.length → (L.getD i []).length ≤ 140737488351232
theorem Gph.below {w w' : World} {A : Option Addr} {vs : List Value} {L : List (List Int)} (h : Gph w A vs L) (hb : Below w.heap.size w w') : Gph w' A vs L :=
  ⟨h.len, h.out.below hb, fun i hi => by obtain ⟨B, c, e, hl⟩ := h.row i hi; exact ⟨B, c, e, hl.below hb⟩, h.most, h.mosts⟩
/-- A row's place, and it. -/
theorem Gph.at_ {w : World} {A : Option Addr} {vs : List Value} {L : List (List Int)} (h : Gph w A vs L) {i : Nat} (hi : i < L.length) :
    ∃ b o B c, A = some ⟨b, o, none⟩ ∧ b < w.heap.size ∧ w.cell? ⟨b, o + i, none⟩ = some (.slice B (L.getD i []).length c) ∧ Lies w B (ints (L.getD i [])) := by
  have hv : i < vs.length := by rw [h.len]; exact hi
  obtain ⟨b, o, e, hb, hc⟩ := h.out (by omega)
  obtain ⟨B, c, e2, hl⟩ := h.row i hi
  refine ⟨b, o, B, c, e, hb, ?_, hl⟩
  rw [hc i hv, ← e2]
  simp [List.getD, List.getElem?_eq_getElem hv]
theorem Gph.lies {w : World} {A : Option Addr} {vs : List Value} {L : List (List Int)} (h : Gph w A vs L) {i : Nat} (hi : i < L.length) {B : Option Addr} {n c : Nat} (e : vs.getD i undef = .slice B n c) : n = (L.getD i []).length ∧ Lies w B (ints (L.getD i [])) := by
  obtain ⟨B', c', e2, hl⟩ := h.row i hi
  rw [e] at e2
  simp only [Value.slice.injEq] at e2
  obtain ⟨rfl, h2, _⟩ := e2
  exact ⟨h2, hl⟩
theorem Gph.cell {w : World} {A : Option Addr} {vs : List Value} {L : List (List Int)} (h : Gph w A vs L) {i : Nat} (hi : i < L.length) : ∃ b o, A = some ⟨b, o, none⟩ ∧ b < w.heap.size ∧ w.cell? ⟨b, o + i, none⟩ = some (vs.getD i undef) := by
  have hv : i < vs.length := by rw [h.len]; exact hi
  obtain ⟨b, o, e, hb, hc⟩ := h.out (by omega)
  refine ⟨b, o, e, hb, ?_⟩
  rw [hc i hv]
  simp [List.getD, List.getElem?_eq_getElem hv]
def lacksB (n : Nat) (a : Int) : Bool := decide (a < 0 ∨ (n : Int) ≤ a)
theorem lacks_any (A : Option Addr) (n c : Nat) (a : Int) (hn : n ≤ 140737488351232) (w : World) : Calls Try.prog 26 #[.slice A n c, .int .i64 a] w fun e w' => e = .returned (.bool (lacksB n a)) ∧ w' = w := by
  go_enter Try.func26, Try.ntmps26
  go_wp2_with fail
  all_goals go_ret
  all_goals exact ⟨ret_bool (by unfold lacksB; rw [Bool.eq_iff_iff]; simp; try omega), rfl⟩
/-- A row does not rise, or has what is no number. -/
def wrongR (n : Nat) : Int → List Int → Bool
  | _, [] => false
  | last, b :: l => decide (b ≤ last) || lacksB n b || wrongR n b l
def lastOf (l : List Int) (j : Nat) : Int := if j = 0 then -1 else l.getD (j - 1) 0
theorem drop_getD {α : Type} {l : List α} {j : Nat} {d : α} (h : j < l.length) : l.drop j = l.getD j d :: l.drop (j + 1) := by
  rw [List.drop_eq_getElem_cons h]; simp [List.getD, List.getElem?_eq_getElem h]
set_option maxRecDepth 100000 in
set_option maxHeartbeats 2000000 in
theorem wrong_any (A B : Option Addr) (n c d : Nat) (l : List Int) (hn : n ≤ 140737488351232) (hl : l.length ≤ 140737488351232) (w : World) (hB : Lies w B (ints l)) :
    Calls Try.prog 37 #[.slice A n c, .slice B l.length d] w fun e w' => e = .returned (.bool (wrongR n (-1) l)) ∧ w' = w := by
  obtain ⟨m, em⟩ : ∃ m, m = l.length := ⟨_, rfl⟩
  have EM := Lib.hid em
  have LC := Lib.hid (fun a w' => lacks_any A n c a hn w')
  have CL := Lib.hid (fun k (hk : k < m) => lies_cell hB (k := k) (by rw [← em]; exact hk))
  have DR := Lib.hid (fun k (hk : k < m) => drop_getD (l := l) (j := k) (d := 0) (by rw [← em]; exact hk))
  have DE := Lib.hid (show l.drop m = [] from by rw [em]; exact List.drop_length)
  obtain ⟨R, eR⟩ : ∃ R, R = wrongR n (-1) l := ⟨_, rfl⟩
  have ER := Lib.hid eR
  rw [← em, ← eR]
  rw [← em] at hl
  clear hB em hn eR
  go_enter Try.func37, Try.ntmps37
  go_wp2_with fail
  go_loopw [10, 5, 7] (fun i last _ wr => ∃ (k : Nat) (x : Int), k ≤ m ∧ i = .int .i64 k ∧ last = .int .i64 x ∧ wrongR n x (l.drop k) = R ∧ wr = w) (fun i _ _ _ => m - (intOf i).toNat)
  case atStart => exact ⟨0, -1, by omega, rfl, rfl, by rw [ER.out]; rfl, rfl⟩
  case round =>
    obtain ⟨k, x, hk, rfl, rfl, hr, rfl⟩ := hrel
    by_cases hlt : k < m
    · have hlt2 : (k : Int) < m := by omega
      obtain ⟨b1, o1, rfl, hb1, c1⟩ := CL.out k hlt
      rw [DR.out k hlt] at hr
      generalize l.getD k 0 = y at c1 hr
      have hr2 : (decide (y ≤ x) || lacksB n y || wrongR n y (l.drop (k + 1))) = R := hr
      have HR := Lib.hid hr2
      have L1 := Lib.hid (LC.out y wr)
      generalize lacksB n y = q at HR L1
      clear hr hr2
      by_cases h1 : y ≤ x
      · go_wp2_with (go_at_call 26; (with_reducible refine L1.out.mono ?_); rintro e w1 ⟨rfl, rfl⟩)
        go_ret
        exact ⟨ret_bool (by rw [← HR.out]; simp [h1]), rfl⟩
      · cases q with
        | true =>
          go_wp2_with (go_at_call 26; (with_reducible refine L1.out.mono ?_); rintro e w1 ⟨rfl, rfl⟩)
          go_ret
          exact ⟨ret_bool (by rw [← HR.out]; simp [h1]), rfl⟩
        | false =>
          go_wp2_with (go_at_call 26; (with_reducible refine L1.out.mono ?_); rintro e w1 ⟨rfl, rfl⟩)
          go_roundw
          case rel => exact ⟨k + 1, y, by omega, by go_num, by first | rfl | trivial, by rw [← HR.out, show decide (y ≤ x) = false from decide_eq_false (by omega)]; simp, by first | rfl | trivial⟩
          case measure => simp [intOf]; omega
    · obtain rfl : k = m := by omega
      have hlt2 : ¬ (k : Int) < k := by omega
      rw [DE.out] at hr
      have HR := Lib.hid hr
      clear hr
      go_wp2_with fail
      go_ret
      exact ⟨ret_bool (by rw [← HR.out]; rfl), rfl⟩
/-- Whether rows of numbers are a right graph. -/
def rightL (L : List (List Int)) : Bool := decide (L.length ≤ 64) && !(L.any fun l => wrongR L.length (-1) l)
set_option maxRecDepth 100000 in
set_option maxHeartbeats 2000000 in
theorem indexWrong_any (A : Option Addr) (c n : Nat) (vs : List Value) (L : List (List Int)) (w : World) (hG : Gph w A vs L) (en : n = L.length) :
    Calls Try.prog 51 #[.slice A n c, .func (.func 37) #[.slice A n c] #[]] w fun e w' => (∃ i : Int, e = .returned (.int .i64 i) ∧ decide (0 ≤ i) = L.any fun l => wrongR n (-1) l) ∧ w' = w := by
  have EN := Lib.hid en
  have AT := Lib.hid (fun i (hi : i < n) => hG.at_ (i := i) (by rw [← en]; exact hi))
  have hn : n ≤ 140737488351232 := by rw [en]; exact hG.most
  have WR := Lib.hid (fun (B : Option Addr) d l (hl : l.length ≤ 140737488351232) (hB : Lies w B (ints l)) => wrong_any A B n c d l hn hl w hB)
  have MO := Lib.hid (fun i (hi : i < n) => hG.mosts i (by rw [← en]; exact hi))
  have AN := Lib.hid (fun i (hi : i < n) => show (L.take (i + 1)).any (fun l => wrongR n (-1) l) = ((L.take i).any (fun l => wrongR n (-1) l) || wrongR n (-1) (L.getD i [])) from by
    rw [List.take_add_one]
    rw [List.any_append]
    simp [List.getD, List.getElem?_eq_getElem (show i < L.length by omega)])
  have AI := Lib.hid (fun i (hi : i < n) (h : wrongR n (-1) (L.getD i []) = true) => show (L.any fun l => wrongR n (-1) l) = true from by
    rw [List.any_eq_true]
    have hi' : i < L.length := by omega
    exact ⟨L.getD i [], by simp [List.getD, List.getElem?_eq_getElem hi'], h⟩)
  clear hG en
  go_enter Try.func51, Try.ntmps51
  go_wp2_with fail
  go_loopw [8, 5] (fun i _ wr => ∃ (k : Nat), k ≤ n ∧ i = .int .i64 k ∧ ((L.take k).any fun l => wrongR n (-1) l) = false ∧ wr = w) (fun i _ _ => n - (intOf i).toNat)
  case atStart => exact ⟨0, by omega, rfl, rfl, rfl⟩
  case round =>
    obtain ⟨k, hk, rfl, hr, rfl⟩ := hrel
    have HR := Lib.hid hr
    clear hr
    by_cases hlt : k < n
    · have hlt2 : (k : Int) < n := by omega
      obtain ⟨b1, o1, B1, d1, rfl, hb1, c1, hl1⟩ := AT.out k hlt
      have W1 := Lib.hid (WR.out B1 d1 _ (MO.out k hlt) hl1)
      have A1 := Lib.hid (AN.out k hlt)
      have A2 := Lib.hid (AI.out k hlt)
      obtain ⟨q, eq⟩ : ∃ q, q = wrongR n (-1) (L.getD k []) := ⟨_, rfl⟩
      rw [← eq] at W1 A1 A2
      generalize (L.getD k []).length = ll at c1 W1
      clear hl1 eq
      cases q with
      | true =>
        go_wp2_with (go_at_call 37; (with_reducible refine W1.out.mono ?_); rintro e w1 ⟨rfl, rfl⟩)
        go_ret
        refine ⟨⟨_, rfl, ?_⟩, rfl⟩
        rw [A2.out (by first | rfl | trivial)]
        simp
      | false =>
        go_wp2_with (go_at_call 37; (with_reducible refine W1.out.mono ?_); rintro e w1 ⟨rfl, rfl⟩)
        go_roundw
        case rel => exact ⟨k + 1, by omega, by go_num, by rw [A1.out, HR.out]; rfl, by first | rfl | trivial⟩
        case measure => simp [intOf]; omega
    · obtain rfl : k = n := by omega
      have hlt2 : ¬ (k : Int) < k := by omega
      go_wp2_with fail
      go_ret
      refine ⟨⟨_, rfl, ?_⟩, rfl⟩
      have := HR.out
      have e := EN.out
      rw [List.take_of_length_le (by omega)] at this
      rw [this]
      rfl
theorem containsWrong_any (A : Option Addr) (c n : Nat) (vs : List Value) (L : List (List Int)) (w : World) (hG : Gph w A vs L) (en : n = L.length) :
    Calls Try.prog 36 #[.slice A n c, .func (.func 37) #[.slice A n c] #[]] w fun e w' => e = .returned (.bool (L.any fun l => wrongR n (-1) l)) ∧ w' = w := by
  have C := Lib.hid (indexWrong_any A c n vs L w hG en)
  clear hG en
  go_enter Try.func36, Try.ntmps36
  go_wp2_with (go_at_call 51; (with_reducible refine C.out.mono ?_); rintro e w1 ⟨⟨i, rfl, hi⟩, rfl⟩; have HI := Lib.hid hi; clear hi)
  go_ret
  exact ⟨ret_bool (by rw [← HI.out]), rfl⟩
set_option maxHeartbeats 1000000 in
theorem right_any (A : Option Addr) (c : Nat) (vs : List Value) (L : List (List Int)) (w : World) (hG : Gph w A vs L) :
    Calls Try.prog 24 #[.slice A L.length c] w fun e w' => e = .returned (.bool (rightL L)) ∧ w' = w := by
  obtain ⟨n, en⟩ : ∃ n, n = L.length := ⟨_, rfl⟩
  have hn : n ≤ 140737488351232 := by rw [en]; exact hG.most
  have C := Lib.hid (containsWrong_any A c n vs L w hG en)
  have ER := Lib.hid (show rightL L = (decide (n ≤ 64) && !(L.any fun l => wrongR n (-1) l)) from by rw [en]; rfl)
  obtain ⟨R, eR⟩ : ∃ R, R = rightL L := ⟨_, rfl⟩
  rw [← eR] at ER ⊢
  rw [← en]
  generalize (L.any fun l => wrongR n (-1) l) = q at C ER
  clear hG en eR
  by_cases h : n ≤ 64
  · have h2 : (n : Int) ≤ 64 := by omega
    go_enter Try.func24, Try.ntmps24
    go_wp2_with (go_at_call 36; (with_reducible refine C.out.mono ?_); rintro e w1 ⟨rfl, rfl⟩)
    go_ret
    exact ⟨ret_bool (by rw [ER.out]; simp [h]), rfl⟩
  · have h2 : ¬ (n : Int) ≤ 64 := by omega
    go_enter Try.func24, Try.ntmps24
    go_wp2_with (go_at_call 36; (with_reducible refine C.out.mono ?_); rintro e w1 ⟨rfl, rfl⟩)
    go_ret
    exact ⟨ret_bool (by rw [ER.out]; simp [h]), rfl⟩
theorem Right_any (A : Option Addr) (c : Nat) (vs : List Value) (L : List (List Int)) (w : World) (hG : Gph w A vs L) :
    Calls Try.prog 10 #[.slice A L.length c] w fun e w' => e = .returned (.bool (rightL L)) ∧ w' = w := by
  have C := Lib.hid (right_any A c vs L w hG)
  generalize rightL L = R at C ⊢
  generalize L.length = n at C ⊢
  clear hG
  go_enter Try.func10, Try.ntmps10
  go_wp2_with (go_at_call 24; (with_reducible refine C.out.mono ?_); rintro e w1 ⟨rfl, rfl⟩)
  go_ret
  exact ⟨rfl, rfl⟩
theorem graphOf_any (A : Option Addr) (c : Nat) (vs : List Value) (L : List (List Int)) (w : World) (hG : Gph w A vs L) :
    Calls Try.prog 21 #[.slice A L.length c] w fun e w' => e = .returned (.tuple #[if rightL L then .slice A L.length c else .slice none 0 0, .bool (rightL L)]) ∧ w' = w := by
  have C := Lib.hid (right_any A c vs L w hG)
  generalize rightL L = R at C ⊢
  generalize L.length = n at C ⊢
  clear hG
  cases R with
  | true =>
    go_enter Try.func21, Try.ntmps21
    go_wp2_with (go_at_call 24; (with_reducible refine C.out.mono ?_); rintro e w1 ⟨rfl, rfl⟩)
    go_ret2
    exact ⟨rfl, rfl⟩
  | false =>
    go_enter Try.func21, Try.ntmps21
    go_wp2_with (go_at_call 24; (with_reducible refine C.out.mono ?_); rintro e w1 ⟨rfl, rfl⟩)
    go_ret2
    exact ⟨rfl, rfl⟩
theorem to_any (A : Option Addr) (c : Nat) (vs : List Value) (L : List (List Int)) (a : Nat) (ha : a < L.length) (w : World) (hG : Gph w A vs L) :
    Calls Try.prog 50 #[.slice A L.length c, .int .i64 a] w fun e w' => e = .returned (vs.getD a undef) ∧ w' = w := by
  obtain ⟨n, en⟩ : ∃ n, n = L.length := ⟨_, rfl⟩
  rw [← en] at ha ⊢
  have hn : n ≤ 140737488351232 := by rw [en]; exact hG.most
  obtain ⟨B, d, e1, _⟩ := hG.row a (by omega)
  obtain ⟨b, o, B', d', rfl, hb, c1, _⟩ := hG.at_ (i := a) (by omega)
  obtain ⟨b2, o2, e2, _, hc⟩ := hG.out (by rw [hG.len]; omega)
  cases e2
  have c2 := hc a (by rw [hG.len]; omega)
  rw [c1] at c2
  have e3 : vs.getD a undef = .slice B' (L.getD a []).length d' := by simp [List.getD, ← c2]
  rw [e3]
  generalize (L.getD a []).length = q at c1
  have ha2 : (a : Int) < n := by omega
  clear hG en e1 c2 hc e3
  go_enter Try.func50, Try.ntmps50
  go_wp2_with fail
  go_ret
  exact ⟨rfl, rfl⟩
end Go.Proofs.Ytefeokfjgmidbaa
namespace Go.Proofs.Ytefeokfjgmidbaa
open Go Go.RowKit Go.Maps
/-- A right graph. -/
structure RG (G : List (List Nat)) : Prop where
  most : G.length ≤ 64
  rise : ∀ i, (G.getD i []).Pairwise (· < ·)
  lt : ∀ i b, b ∈ G.getD i [] → b < G.length
def adjG (G : List (List Nat)) (a : Nat) : List Nat := G.getD a []
theorem RG.inR {G : List (List Nat)} (h : RG G) : InR (adjG G) G.length := fun a b hb => by
  refine ⟨?_, h.lt a b hb⟩
  refine Classical.byContradiction fun hc => ?_
  have : adjG G a = [] := by simp [adjG, List.getD, List.getElem?_eq_none (Nat.le_of_not_lt hc)]
  rw [this] at hb; cases hb
theorem RG.nodup {G : List (List Nat)} (h : RG G) (a : Nat) : (adjG G a).Nodup := (h.rise a).imp fun h => Nat.ne_of_lt h
theorem rises_len : ∀ (l : List Nat) (n : Nat), l.Pairwise (· < ·) → (∀ x ∈ l, x < n) → l.length ≤ n := fun l n hl hn => by
  have hp : l.Perm ((List.range n).filter fun q => l.contains q) := (List.perm_ext_iff_of_nodup (hl.imp fun h => Nat.ne_of_lt h) (List.Pairwise.filter _ List.nodup_range)).2 fun q => by
    rw [List.mem_filter, List.mem_range, List.contains_iff_mem]
    exact ⟨fun hq => ⟨hn q hq, hq⟩, fun hq => hq.2⟩
  have h1 := hp.length_eq
  have h2 := List.length_filter_le (fun q => l.contains q) (List.range n)
  rw [List.length_range] at h2
  omega
theorem RG.len {G : List (List Nat)} (h : RG G) (a : Nat) : (adjG G a).length ≤ 64 := Nat.le_trans (rises_len _ _ (h.rise a) (h.lt a)) h.most
theorem wrong_iff (n : Nat) : ∀ (l : List Int) (last : Int), wrongR n last l = false ↔ l.Pairwise (· < ·) ∧ ∀ x ∈ l, last < x ∧ 0 ≤ x ∧ x < n
  | [], last => by simp [wrongR]
  | b :: l, last => by
    simp only [wrongR, Bool.or_eq_false_iff, wrong_iff n l b, List.pairwise_cons, List.mem_cons, decide_eq_false_iff_not, lacksB]
    constructor
    · rintro ⟨⟨h1, h2⟩, h3, h4⟩
      refine ⟨⟨fun x hx => (h4 x hx).1, h3⟩, fun x hx => ?_⟩
      rcases hx with rfl | hx
      · omega
      · have := h4 x hx; omega
    · rintro ⟨⟨h1, h2⟩, h3⟩
      have := h3 b (.inl rfl)
      refine ⟨⟨by omega, by omega⟩, h2, fun x hx => ?_⟩
      have := h3 x (.inr hx)
      have := h1 x hx
      omega
theorem nums_rise {l : List Nat} : (nums l).Pairwise (· < ·) ↔ l.Pairwise (· < ·) := by
  unfold nums
  rw [List.pairwise_map]
  constructor
  · exact fun h => h.imp fun h => by omega
  · exact fun h => h.imp fun h => by omega
theorem getD_map_nums (G : List (List Nat)) (i : Nat) : (G.map nums).getD i [] = nums (G.getD i []) := by
  simp only [List.getD, List.getElem?_map]
  cases G[i]? <;> rfl
theorem right_graph {L : List (List Int)} (h : rightL L = true) : ∃ G, RG G ∧ L = G.map nums := by
  simp only [rightL, Bool.and_eq_true, decide_eq_true_eq, Bool.not_eq_true', List.any_eq_false] at h
  obtain ⟨h1, h2⟩ := h
  have h3 : ∀ l ∈ L, l.Pairwise (· < ·) ∧ ∀ x ∈ l, -1 < x ∧ 0 ≤ x ∧ x < L.length := fun l hl => (wrong_iff L.length l (-1)).1 (by simpa using h2 l hl)
  have e : L = (L.map fun l => l.map Int.toNat).map nums := by
    rw [List.map_map]
    conv => lhs; rw [← List.map_id L]
    refine List.map_congr_left fun l hl => ?_
    simp only [id, Function.comp_def, nums, List.map_map]
    conv => lhs; rw [← List.map_id l]
    refine List.map_congr_left fun x hx => ?_
    have := (h3 l hl).2 x hx
    simp only [id]; omega
  obtain ⟨G, hG⟩ : ∃ G, G = L.map fun l => l.map Int.toNat := ⟨_, rfl⟩
  rw [← hG] at e
  have hlen : G.length = L.length := by rw [e]; simp
  have key : ∀ i, (G.getD i []).Pairwise (· < ·) ∧ ∀ b ∈ G.getD i [], b < G.length := fun i => by
    by_cases hi : i < G.length
    · have hm : nums (G.getD i []) ∈ L := by
        rw [← getD_map_nums, ← e]
        have hi' : i < L.length := by omega
        simp [List.getD, List.getElem?_eq_getElem hi']
      obtain ⟨a1, a2⟩ := h3 _ hm
      refine ⟨nums_rise.1 a1, fun b hb => ?_⟩
      have := (a2 (b : Int) (List.mem_map.2 ⟨b, hb, rfl⟩)).2.2
      omega
    · have : G.getD i [] = [] := by simp [List.getD, List.getElem?_eq_none (Nat.le_of_not_lt hi)]
      rw [this]; simp
  exact ⟨G, ⟨by omega, fun i => (key i).1, fun i => (key i).2⟩, e⟩
theorem RG.right {G : List (List Nat)} (h : RG G) : rightL (G.map nums) = true := by
  simp only [rightL, Bool.and_eq_true, decide_eq_true_eq, Bool.not_eq_true', List.any_eq_false, List.length_map]
  refine ⟨h.most, fun l hl => ?_⟩
  have := (wrong_iff G.length l (-1)).2
  obtain ⟨k, hk, rfl⟩ := List.mem_map.1 hl
  obtain ⟨i, hi, rfl⟩ := List.getElem_of_mem hk
  have e : G[i] = G.getD i [] := by simp [List.getD, List.getElem?_eq_getElem hi]
  rw [e]
  rw [e] at this
  rw [this ⟨nums_rise.2 (h.rise i), fun x hx => ?_⟩]
  · simp
  · obtain ⟨b, hb, rfl⟩ := List.mem_map.1 hx
    have := h.lt i b hb
    omega
/-- So many links turned round. -/
def trnTo (E : List (Nat × Nat)) (n k : Nat) : List (List Nat) := (List.range n).map fun b => ((E.take k).filter fun e => e.2 == b).map Prod.fst
def lnkG (G : List (List Nat)) : List (Nat × Nat) := lnk (adjG G) G.length
/-- The graph turned round. -/
def trnG (G : List (List Nat)) : List (List Nat) := trnTo (lnkG G) G.length (lnkG G).length
theorem trnTo_len (E : List (Nat × Nat)) (n k : Nat) : (trnTo E n k).length = n := by simp [trnTo]
theorem trnTo_at {E : List (Nat × Nat)} {n k b : Nat} (h : b < n) : (trnTo E n k).getD b [] = ((E.take k).filter fun e => e.2 == b).map Prod.fst := by simp [trnTo, List.getD, h]
theorem trnTo_zero (E : List (Nat × Nat)) (n : Nat) : trnTo E n 0 = List.replicate n [] := by
  refine List.ext_getElem (by simp [trnTo]) fun i h1 h2 => ?_
  simp [trnTo]
theorem trnTo_step {E : List (Nat × Nat)} {n k : Nat} (hk : k < E.length) (hb : (E.getD k (0, 0)).2 < n) : trnTo E n (k + 1) = (trnTo E n k).set (E.getD k (0, 0)).2 ((trnTo E n k).getD (E.getD k (0, 0)).2 [] ++ [(E.getD k (0, 0)).1]) := by
  have e : E.take (k + 1) = E.take k ++ [E.getD k (0, 0)] := by rw [List.take_add_one]; simp [List.getD, List.getElem?_eq_getElem hk]
  generalize E.getD k (0, 0) = x at *
  refine List.ext_getElem (by simp [trnTo]) fun i h1 h2 => ?_
  have hi : i < n := by simpa [trnTo] using h1
  rw [List.getElem_set]
  have a1 : (trnTo E n (k + 1))[i] = ((E.take (k + 1)).filter fun e => e.2 == i).map Prod.fst := by simp [trnTo]
  have a2 : ∀ h, (trnTo E n k)[i]'h = ((E.take k).filter fun e => e.2 == i).map Prod.fst := fun h => by simp [trnTo]
  rw [a1, e, List.filter_append, List.map_append]
  by_cases h : x.2 = i
  · subst h
    rw [if_pos rfl, trnTo_at hb]
    simp
  · rw [if_neg h, a2]
    simp [h]
theorem trnG_len (G : List (List Nat)) : (trnG G).length = G.length := trnTo_len _ _ _
theorem trnG_at {G : List (List Nat)} {b : Nat} (h : b < G.length) : adjG (trnG G) b = ((lnkG G).filter fun e => e.2 == b).map Prod.fst := by
  unfold adjG trnG
  rw [trnTo_at h, List.take_length]
theorem RG.trn {G : List (List Nat)} (h : RG G) : Trn (adjG G) (adjG (trnG G)) := fun a b => by
  by_cases hb : b < G.length
  · rw [trnG_at hb]
    simp only [List.mem_map, List.mem_filter, beq_iff_eq]
    constructor
    · intro hab
      exact ⟨(a, b), ⟨(mem_lnk h.inR).2 hab, rfl⟩, rfl⟩
    · rintro ⟨⟨x, y⟩, ⟨h1, rfl⟩, rfl⟩
      exact (mem_lnk h.inR).1 h1
  · constructor
    · intro hab; exact absurd (h.lt a b hab) hb
    · intro hab
      have : adjG (trnG G) b = [] := by simp [adjG, List.getD, List.getElem?_eq_none (show (trnG G).length ≤ b by rw [trnG_len]; omega)]
      rw [this] at hab; cases hab
theorem lnkG_rise {G : List (List Nat)} (h : RG G) : (lnkG G).Pairwise fun e f => e.1 < f.1 ∨ (e.1 = f.1 ∧ e.2 < f.2) := by
  unfold lnkG lnk
  rw [List.pairwise_flatMap]
  refine ⟨fun a _ => ?_, List.pairwise_lt_range.imp fun {a b} hab e he f hf => ?_⟩
  · rw [List.pairwise_map]
    exact (h.rise a).imp fun h => .inr ⟨rfl, h⟩
  · obtain ⟨_, _, rfl⟩ := List.mem_map.1 he
    obtain ⟨_, _, rfl⟩ := List.mem_map.1 hf
    exact .inl hab
theorem RG.turned {G : List (List Nat)} (h : RG G) : RG (trnG G) := by
  refine ⟨by rw [trnG_len]; exact h.most, fun i => ?_, fun i b hb => ?_⟩
  · by_cases hi : i < G.length
    · show (adjG (trnG G) i).Pairwise _
      rw [trnG_at hi, List.pairwise_map]
      refine (List.Pairwise.filter _ (lnkG_rise h)).imp_of_mem fun {e f} he hf hef => ?_
      have h1 := (List.mem_filter.1 he).2
      have h2 := (List.mem_filter.1 hf).2
      simp only [beq_iff_eq] at h1 h2
      omega
    · have : (trnG G).getD i [] = [] := by simp [List.getD, List.getElem?_eq_none (show (trnG G).length ≤ i by rw [trnG_len]; omega)]
      rw [this]; simp
  · rw [trnG_len]
    exact (h.inR _ _ ((h.trn b i).2 hb)).1
theorem graph_ext {G H : List (List Nat)} (h : RG G) (k : RG H) (hl : G.length = H.length) (he : ∀ a b, b ∈ adjG G a ↔ b ∈ adjG H a) : G = H := by
  refine List.ext_getElem hl fun i h1 h2 => ?_
  have e1 : G[i] = adjG G i := by simp [adjG, List.getD, List.getElem?_eq_getElem h1]
  have e2 : H[i] = adjG H i := by simp [adjG, List.getD, List.getElem?_eq_getElem h2]
  rw [e1, e2]
  exact rises_eq (h.rise i) (k.rise i) (he i)
theorem RG.twice {G : List (List Nat)} (h : RG G) : trnG (trnG G) = G :=
  graph_ext h.turned.turned h (by rw [trnG_len, trnG_len]) fun a b => by rw [← h.turned.trn b a, ← h.trn a b]
theorem lnkG_len {G : List (List Nat)} (h : RG G) : (lnkG G).length ≤ 4096 := by
  unfold lnkG lnk
  rw [List.length_flatMap]
  have : ∀ (l : List Nat), (l.map fun a => ((adjG G a).map fun b => (a, b)).length).sum ≤ 64 * l.length := fun l => by
    induction l with
    | nil => simp
    | cons a l ih =>
      simp only [List.map_cons, List.sum_cons, List.length_cons, List.length_map] at ih ⊢
      have := h.len a
      omega
  have h1 := this (List.range G.length)
  rw [List.length_range] at h1
  have := h.most
  omega
end Go.Proofs.Ytefeokfjgmidbaa
namespace Go.Proofs.Ytefeokfjgmidbaa
open Go Go.RowKit Go.Maps
attribute [local go_sem] Oper.semAt_some
def offG (G : List (List Nat)) (a : Nat) : Nat := (lnk (adjG G) a).length
theorem off_next (G : List (List Nat)) (a : Nat) : offG G (a + 1) = offG G a + (adjG G a).length := by
  unfold offG lnk
  rw [List.range_succ, List.flatMap_append]
  simp
theorem lnk_app (G : List (List Nat)) (a : Nat) : ∀ d, ∃ R, lnk (adjG G) (a + 1 + d) = lnk (adjG G) a ++ ((adjG G a).map fun b => (a, b)) ++ R
  | 0 => ⟨[], by unfold lnk; rw [List.range_succ, List.flatMap_append]; simp⟩
  | d + 1 => by
    obtain ⟨R, hR⟩ := lnk_app G a d
    refine ⟨R ++ (adjG G (a + 1 + d)).map fun b => (a + 1 + d, b), ?_⟩
    have : lnk (adjG G) (a + 1 + (d + 1)) = lnk (adjG G) (a + 1 + d) ++ (adjG G (a + 1 + d)).map fun b => (a + 1 + d, b) := by
      unfold lnk
      rw [show a + 1 + (d + 1) = (a + 1 + d) + 1 by omega, List.range_succ, List.flatMap_append]
      simp
    rw [this, hR, List.append_assoc]
theorem off_at {G : List (List Nat)} {a j : Nat} (ha : a < G.length) (hj : j < (adjG G a).length) : (lnkG G).getD (offG G a + j) (0, 0) = (a, (adjG G a).getD j 0) ∧ offG G a + j < (lnkG G).length := by
  obtain ⟨R, hR⟩ := lnk_app G a (G.length - (a + 1))
  rw [show a + 1 + (G.length - (a + 1)) = G.length by omega] at hR
  unfold lnkG offG
  rw [hR]
  refine ⟨?_, by simp only [List.length_append, List.length_map]; omega⟩
  simp only [List.getD]
  rw [List.getElem?_append_left (by simp only [List.length_append, List.length_map]; omega), List.getElem?_append_right (by omega), Nat.add_sub_cancel_left, List.getElem?_map, List.getElem?_eq_getElem hj]
  simp
theorem off_all (G : List (List Nat)) : offG G G.length = (lnkG G).length := rfl
def encE (E : List (Nat × Nat)) (k : Nat) : Array Value := #[.int .i64 ((E.getD k (0, 0)).1 : Nat), .int .i64 ((E.getD k (0, 0)).2 : Nat)]
/-- What the links stand on: T is what may not turn. -/
structure LnkR (w : World) (bx : Nat) (A : Option Addr) (c : Nat) (vs : List Value) (G : List (List Nat)) (T : Nat → Prop) : Prop where
  at_ : ∀ W' : World, w.heap.size ≤ W'.heap.size → (∀ j, T j → W'.heap[j]? = w.heap[j]?) → Blk W' bx #[.slice A G.length c] 35 ∧ Gph W' A vs (G.map nums)
  lt : ∀ j, T j → j < w.heap.size
theorem links_make (A : Option Addr) (n c : Nat) (w : World) : Calls Try.prog 34 #[.slice A n c] w fun e w' => e = .returned (.func (.func 49) #[] #[.pointer (some ⟨w.heap.size, 0, none⟩)]) ∧ w' = w.alloc (.cells #[.slice A n c] 35) := by
  go_enter Try.func34, Try.ntmps34
  go_wp2_with fail
  go_ret
  exact ⟨rfl, rfl⟩
set_option maxRecDepth 100000 in
set_option maxHeartbeats 4000000 in
theorem links_in (w : World) (bx : Nat) (A : Option Addr) (c : Nat) (vs : List Value) (G : List (List Nat)) (T : Nat → Prop) (hR : RG G) (hO : LnkR w bx A c vs G T) :
    SeqX 12 Try.prog 49 #[.pointer (some ⟨bx, 0, none⟩)] (encE (lnkG G)) (lnkG G).length T w := by
  intro l J C W hW hF hT hY h0
  have AT := Lib.hid (fun A' (k : Keep C W A') => (show Blk A' bx #[.slice A G.length c] 35 ∧ Gph A' A vs (G.map nums) from by
    have hlt : ∀ j, T j → j < W.heap.size := fun j hj => Nat.lt_of_lt_of_le (hO.lt j hj) hW.size
    exact hO.at_ A' (Nat.le_trans hW.size k.size) (fun j hj => (k.block j (hlt j hj) (hT j hj)).trans (hW.block j (hO.lt j hj)))))
  have H0 := Lib.hid h0
  have HY := Lib.hid hY
  have HF := Lib.hid hF
  have OF := Lib.hid (fun a j (ha : a < G.length) (hj : j < (adjG G a).length) => off_at ha hj)
  have ON := Lib.hid (off_next G)
  have OZ := Lib.hid (off_all G)
  have OS := Lib.hid (show offG G 0 = 0 from rfl)
  have LE := Lib.hid (fun a => hR.len a)
  have GA := Lib.hid (fun a => show (G.map nums).getD a [] = nums (adjG G a) from getD_map_nums G a)
  have hn : G.length ≤ 64 := hR.most
  obtain ⟨n, en⟩ : ∃ n, n = G.length := ⟨_, rfl⟩
  have EN := Lib.hid en
  have GL := Lib.hid (show (G.map nums).length = n from by rw [List.length_map]; exact en.symm)
  rw [← en] at AT OF OZ hn
  generalize lnkG G = E at HY OF OZ ⊢
  have ⟨b0, g0⟩ := AT.out W (Keep.refl C W)
  have c0 := b0.cell 0
  simp only [List.getElem?_toArray, List.getElem?_cons_zero, List.getElem?_cons_succ] at c0
  clear hO hW hF hT hY h0 en b0 g0
  refine callsIn_of_wp Try.func49 rfl trivial ?_
  simp only [Try.ntmps49, List.size_toArray, List.length_cons, List.length_nil, Nat.reduceAdd, Nat.reduceSub, Array.replicate_succ, Array.replicate_zero, List.push_toArray, List.append_toArray, List.nil_append, List.cons_append]
  gi_wp2_with fail
  gi_loopw [9, 3, 4, 6, 14, 15, 16] (fun i _ _ _ _ _ _ wr => ∃ a : Nat, a ≤ n ∧ i = .int .i64 a ∧ J (offG G a) wr ∧ Keep C W wr) (fun i _ _ _ _ _ _ _ => n - (intOf i).toNat)
  case atStart => exact ⟨0, by omega, rfl, by rw [OS.out]; exact H0.out, Keep.refl C W⟩
  case round =>
    obtain ⟨a, ha, rfl, hj, hk⟩ := hrel
    have HJ := Lib.hid hj
    have HK := Lib.hid hk
    by_cases hlt : a < n
    · have hlt2 : (a : Int) < n := by omega
      obtain ⟨ba, ga⟩ := AT.out wr hk
      obtain ⟨b1, o1, rfl, hb1, c1⟩ := ga.cell (i := a) (by rw [GL.out]; exact hlt)
      obtain ⟨B1, d1, eB, _⟩ := ga.row a (by rw [GL.out]; exact hlt)
      rw [eB, GA.out, nums_len] at c1
      have EB := Lib.hid eB
      have OFA := Lib.hid (fun j hj => OF.out a j hlt hj)
      have ONA := Lib.hid (ON.out a)
      have LA := LE.out a
      obtain ⟨m, em⟩ : ∃ m, m = (adjG G a).length := ⟨_, rfl⟩
      have EM := Lib.hid em
      rw [← em] at c1 OFA ONA LA
      clear hj hk ba ga em eB
      gi_wp2_with fail
      gi_loopw [16, 6] (fun i _ wr => ∃ j : Nat, j ≤ m ∧ i = .int .i64 j ∧ J (offG G a + j) wr ∧ Keep C W wr) (fun i _ _ => m - (intOf i).toNat)
      case atStart => exact ⟨0, by omega, rfl, HJ.out, HK.out⟩
      case round =>
        obtain ⟨j, hj, rfl, hjj, hk⟩ := hrel
        have HJJ := Lib.hid hjj
        have HKK := Lib.hid hk
        by_cases hjt : j < m
        · have hjt2 : (j : Int) < m := by omega
          have hlie := ((AT.out wr hk).2.lies (by rw [GL.out]; exact hlt) EB.out).2
          rw [GA.out] at hlie
          obtain ⟨b2, o2, rfl, hb2, c2⟩ := lies_cell hlie (k := j) (by rw [nums_len, ← EM.out]; exact hjt)
          rw [nums_at] at c2
          obtain ⟨h5, h6⟩ := OFA.out j hjt
          have hY5 := HY.out _ wr hjj h6
          unfold encE at hY5
          rw [h5] at hY5
          obtain ⟨fn, tmps, assign, body, hy, hRd⟩ := yieldX_any (m' := 12 - 1) hY5
          have HRD := Lib.hid hRd
          clear hjj hk hlie h5 h6 hY5 hRd
          generalize (adjG G a).getD j 0 = x at c2 hy
          gi_wp2_with fail
          refine HRD.out.mono ?_
          rintro e W4 ⟨rfl, hj4, hk4⟩
          have HJ4 := Lib.hid hj4
          have HK4 := Lib.hid (HKK.out.trans hk4)
          clear hj4 hk4 hy c2
          gi_wp2_with fail
          go_roundw
          case rel => exact ⟨j + 1, by omega, by go_num, HJ4.out, HK4.out⟩
          case measure => simp [intOf]; omega
        · obtain rfl : j = m := by omega
          have hjt2 : ¬ (j : Int) < j := by omega
          clear hjj hk
          gi_wp2_with fail
          go_roundw
          case rel => exact ⟨a + 1, by omega, by go_num, by rw [ONA.out]; exact HJJ.out, HKK.out⟩
          case measure => simp [intOf]; omega
    · obtain rfl : a = n := by omega
      have hlt2 : ¬ (a : Int) < a := by omega
      clear hj hk
      gi_wp2_with fail
      go_end0
      exact ⟨⟨_, rfl⟩, by rw [← OZ.out]; exact HJ.out, HK.out⟩
end Go.Proofs.Ytefeokfjgmidbaa
namespace Go.Proofs.Ytefeokfjgmidbaa
open Go

/-- What an operation does, if it does not panic: it yields a value, or calls what returns one. -/
def Gives (P : Program) (post : Value → World → Prop) : Result Next → Prop
  | .ok (.value v) w' => post v w'
  | .ok .skip w' => post undef w'
  | .ok (.enter f args) w' => Calls P f args w' fun e w'' => ∃ v, e = .returned v ∧ post v w''
  | _ => False

theorem Gives.value {P : Program} {post : Value → World → Prop} {r : Result Next} {v : Value} {w : World} (h : r = .ok (.value v) w) (hp : post v w) : Gives P post r := by subst h; exact hp
theorem Gives.enter {P : Program} {post : Value → World → Prop} {r : Result Next} {f : FuncId} {args : Array Value} {w : World} (h : r = .ok (.enter f args) w)
    (hp : Calls P f args w fun e w'' => ∃ v, e = .returned v ∧ post v w'') : Gives P post r := by subst h; exact hp

section
variable {P : Program} {ops : Array Oper} {Q : Exit → Act → World → Prop}

/-- Does the region write temporary t? -/
def writesB (ops : Array Oper) (t : Tmp) : Bool := ops.any fun o => o.dst == some t

/-- THE REGION's SHAPE: each edge leads back; each temporary is written once; what an operation reads, its guard too, is not written in the region, or by one for which it waits. -/
def shapeB (ops : Array Oper) : Bool :=
  (List.range ops.size).all fun j => match ops[j]? with
    | none => true
    | some o =>
      (o.after.all fun e => !Region.binds .any e || decide (e.on < j)) &&
      ((List.range ops.size).all fun i => i == j || (match ops[i]? with | some p => p.dst == none || p.dst != o.dst | none => true)) &&
      ((o.looksAt ops).all fun t => (List.range ops.size).all fun i => match ops[i]? with
        | some p => p.dst != some t || o.after.any fun e => Region.binds .any e && e.on == i
        | none => true) &&
      (match o.guard with
       | some (g, _) => (match ops[g]? with | some p => p.dst.isSome && o.after.any (fun e => Region.binds .any e && e.on == g) | none => false)
       | none => true)

def slotOf (a : Act) (o : Oper) : Value := match o.dst with | some d => a.tmps.getD d undef | none => undef

/-- The values of the region's operations, laid into the frame. -/
def putAll : List Oper → List Value → Act → Act
  | o :: os, v :: vs, a => putAll os vs (a.put o.dst v)
  | _, _, a => a

theorem cnt_lt {p q : Nat → Bool} (hpq : ∀ i, q i = true → p i = true) : ∀ (l : List Nat) (j : Nat), j ∈ l → p j = true → q j = false → l.countP q + 1 ≤ l.countP p
  | i :: l, j, hj, hp, hq => by
    have hle : ∀ l : List Nat, l.countP q ≤ l.countP p := fun l => List.countP_mono_left fun i _ h => hpq i h
    have h0 := hle l
    rcases List.mem_cons.1 hj with rfl | h
    · simp only [List.countP_cons, hp, hq, if_true, Bool.false_eq_true, if_false]; omega
    · have := cnt_lt hpq l j h hp hq
      simp only [List.countP_cons]
      by_cases h1 : q i = true
      · simp only [h1, hpq i h1, if_true]; omega
      · by_cases h2 : p i = true
        · simp only [h1, h2, if_true]; simp; omega
        · simp only [h1, h2]; simp; omega

def left (ops : Array Oper) (listed : Array Bool) : Nat := (List.range ops.size).countP fun i => !listed.getD i true

theorem left_set {listed : Array Bool} {j : Nat} (hj : j < ops.size) (h : listed.getD j true = false) : left ops (listed.setIfInBounds j true) + 1 ≤ left ops listed := by
  unfold left
  refine cnt_lt (fun i hi => ?_) _ j (List.mem_range.2 hj) (by simp only [h, Bool.not_false]) ?_
  · by_cases e : j = i
    · subst e; simp only [h, Bool.not_false]
    · rw [getD_set_ne true e] at hi; exact hi
  · by_cases hb : j < listed.size
    · simp [hb]
    · simp [Array.getD_eq_getD_getElem?, Array.getElem?_eq_none (Nat.le_of_not_lt hb)] at h

theorem shape_at (hs : shapeB ops = true) {j : Nat} {o : Oper} (hj : ops[j]? = some o) :
    (∀ e ∈ o.after, Region.binds .any e = true → e.on < j) ∧
    (∀ (i : Nat) (p : Oper), ops[i]? = some p → i ≠ j → ∀ d, o.dst = some d → p.dst ≠ some d) ∧
    (∀ t ∈ o.looksAt ops, ∀ (i : Nat) (p : Oper), ops[i]? = some p → p.dst = some t → ∃ e ∈ o.after, Region.binds .any e = true ∧ e.on = i) ∧
    (∀ g b, o.guard = some (g, b) → ∃ p d, ops[g]? = some p ∧ p.dst = some d ∧ ∃ e ∈ o.after, Region.binds .any e = true ∧ e.on = g) := by
  have hlt : j < ops.size := (Array.getElem?_eq_some_iff.1 hj).1
  have h := List.all_eq_true.1 hs j (List.mem_range.2 hlt)
  rw [hj] at h
  simp only [Bool.and_eq_true] at h
  obtain ⟨⟨⟨h1, h2⟩, h3⟩, h4⟩ := h
  refine ⟨fun e he hb => ?_, fun i p hp hne d hd hpd => ?_, fun t ht i p hp hpt => ?_, fun g b hg => ?_⟩
  · have := Array.all_eq_true'.1 h1 e he
    rw [hb] at this; simpa using this
  · have := List.all_eq_true.1 h2 i (List.mem_range.2 (Array.getElem?_eq_some_iff.1 hp).1)
    rw [hp] at this
    dsimp only at this
    rw [hpd, hd] at this
    simp [hne] at this
  · have := List.all_eq_true.1 (List.all_eq_true.1 h3 t ht) i (List.mem_range.2 (Array.getElem?_eq_some_iff.1 hp).1)
    rw [hp] at this
    dsimp only at this
    rw [hpt] at this
    simp only [bne_self_eq_false, Bool.false_or, Array.any_eq_true'] at this
    obtain ⟨e, he, hbe⟩ := this
    simp only [Bool.and_eq_true, beq_iff_eq] at hbe
    exact ⟨e, he, hbe.1, hbe.2⟩
  · rw [hg] at h4
    cases hp : ops[g]? with
    | none => simp [hp] at h4
    | some p =>
      simp only [hp, Bool.and_eq_true, Array.any_eq_true'] at h4
      obtain ⟨hd, e, he, hbe⟩ := h4
      simp only [beq_iff_eq] at hbe
      obtain ⟨d, hd⟩ := Option.isSome_iff_exists.1 hd
      exact ⟨p, d, rfl, hd, e, he, hbe.1, hbe.2⟩

theorem all_listed {listed : Array Bool} (hs : shapeB ops = true) (hz : listed.size = ops.size) (hr : Region.ready .any ops listed = []) : ∀ j, j < ops.size → listed.getD j true = true := by
  intro j
  induction j using Nat.strongRecOn with
  | ind j ih =>
    intro hj
    by_cases h : listed.getD j true = true
    · exact h
    · exfalso
      have h' : listed.getD j true = false := by simpa using h
      have hm : j ∈ Region.ready .any ops listed := by
        refine mem_ready.2 ⟨h', ops[j], Array.getElem?_eq_getElem hj, fun e he hb => ?_⟩
        have hlt := (shape_at hs (Array.getElem?_eq_getElem hj)).1 e he hb
        have := ih e.on hlt (by omega)
        have hb : e.on < listed.size := by omega
        simpa [hb] using this
      rw [hr] at hm; cases hm

/-- What the walk knows when some have come up. -/
structure Known (ops : Array Oper) (Φ : Nat → Value → World → Prop) (S : World → Prop) (a0 : Act) (listed : Array Bool) (a : Act) (w : World) : Prop where
  s : S w
  size : listed.size = ops.size
  tsize : a.tmps.size = a0.tmps.size
  defers : a.defers = a0.defers
  facts : ∀ (i : Nat) (o : Oper) (d : Tmp), ops[i]? = some o → o.dst = some d → listed.getD i true = true → Φ i (a.tmps.getD d undef) w
  rest : ∀ (t : Tmp), (∀ (i : Nat) (o : Oper), ops[i]? = some o → o.dst = some t → listed.getD i true = false) → a.tmps[t]? = a0.tmps[t]?

theorem getD_put {a : Act} {d t : Tmp} (v : Value) (h : d ≠ t) : (a.put (some d) v).tmps.getD t undef = a.tmps.getD t undef := by
  simp [Act.put, Array.getD_eq_getD_getElem?, Array.getElem?_setIfInBounds_ne h]

/-- One more has come up. -/
theorem Known.put {Φ : Nat → Value → World → Prop} {S : World → Prop} {R : World → World → Prop} {a0 : Act} {listed : Array Bool} {a : Act} {w w' : World} {j : Nat} {o : Oper} {v : Value}
    (hs : shapeB ops = true) (hmono : ∀ i v w w', S w → S w' → R w w' → Φ i v w → Φ i v w') (hin : ∀ (i : Nat) (o : Oper) (d : Tmp), ops[i]? = some o → o.dst = some d → d < a0.tmps.size)
    (k : Known ops Φ S a0 listed a w) (hj : ops[j]? = some o) (hS : S w') (hR : R w w') (hΦ : Φ j v w') :
    Known ops Φ S a0 (listed.setIfInBounds j true) (a.put o.dst v) w' where
  s := hS
  size := by simpa using k.size
  tsize := by cases o.dst <;> simp [Act.put, k.tsize]
  defers := by cases h : o.dst <;> simp [Act.put, k.defers]
  facts := by
    intro i p d hp hd hl
    by_cases e : j = i
    · subst e
      rw [hj] at hp; cases hp
      rw [hd]
      have hlt : d < a.tmps.size := by rw [k.tsize]; exact hin j o d hj hd
      simpa [Act.put, hlt] using hΦ
    · rw [getD_set_ne true e] at hl
      have hf := hmono i _ w w' k.s hS hR (k.facts i p d hp hd hl)
      cases ho : o.dst with
      | none => exact hf
      | some c =>
        have hne : c ≠ d := fun ec => (shape_at hs hj).2.1 i p hp (Ne.symm e) c ho (by rw [hd, ec])
        rw [getD_put v hne]; exact hf
  rest := by
    intro t ht
    have hold := k.rest t fun i p hp hd => by
      have := ht i p hp hd
      by_cases e : j = i
      · subst e
        have hlt : j < listed.size := by rw [k.size]; exact (Array.getElem?_eq_some_iff.1 hj).1
        simp [hlt] at this
      · rwa [getD_set_ne true e] at this
    cases ho : o.dst with
    | none => exact hold
    | some c =>
      have hne : c ≠ t := fun ec => by
        have := ht j o hj (by rw [ho, ec])
        have hlt : j < listed.size := by rw [k.size]; exact (Array.getElem?_eq_some_iff.1 hj).1
        simp [hlt] at this
      simp [Act.put, Array.getElem?_setIfInBounds_ne hne, hold]

theorem wp_region_facts {id : Nat} {a0 : Act} {w0 : World} (hm : P.follows .mixedOrders = true) (Φ : Nat → Value → World → Prop) (gd : Nat → Bool) (S : World → Prop) (R : World → World → Prop)
    (hs : shapeB ops = true) (hin : ∀ (i : Nat) (o : Oper) (d : Tmp), ops[i]? = some o → o.dst = some d → d < a0.tmps.size)
    (hmono : ∀ i v w w', S w → S w' → R w w' → Φ i v w → Φ i v w') (hRr : ∀ w, R w w)
    (hg : ∀ (j : Nat) (o : Oper) (g : Nat) (b : Bool), ops[j]? = some o → o.guard = some (g, b) → ∀ v w, Φ g v w → if gd j then v = .bool b else v ≠ .bool b)
    (hg0 : ∀ (j : Nat) (o : Oper), ops[j]? = some o → o.guard = none → gd j = true)
    (hS : S { w0 with drawn := w0.drawn + 1 })
    (hop : ∀ (j : Nat) (o : Oper), ops[j]? = some o → gd j = true → ∀ (a : Act) (w : World), S w → (∀ t, writesB ops t = false → a.eval (.tmp t) = a0.eval (.tmp t)) →
      (∀ e ∈ o.after, Region.binds .any e = true → ∀ (p : Oper) (d : Tmp), ops[e.on]? = some p → p.dst = some d → Φ e.on (a.eval (.tmp d)) w) →
      Gives P (fun v w' => S w' ∧ R w w' ∧ Φ j v w') ((execOp a.eval o).run P w))
    (hun : ∀ (j : Nat) (o : Oper), ops[j]? = some o → gd j = false → ∀ w, Φ j undef w)
    (hend : ∀ (a : Act) (w : World), S w → a.tmps.size = a0.tmps.size → a.defers = a0.defers → (∀ (i : Nat) (o : Oper) (d : Tmp), ops[i]? = some o → o.dst = some d → Φ i (a.tmps.getD d undef) w) →
      (∀ t, writesB ops t = false → a.tmps[t]? = a0.tmps[t]?) → Q .normal a w) :
    (Code.region id ops true).wp P Q a0 w0 := by
  refine wp_region_any hm ?_
  have key : ∀ (fuel : Nat) (listed : Array Bool) (a : Act) (w : World), left ops listed ≤ fuel → Known ops Φ S a0 listed a w → wpAny P .any ops Q fuel listed a w := by
    have fin : ∀ (listed : Array Bool) (a : Act) (w : World), Known ops Φ S a0 listed a w → Region.ready .any ops listed = [] → Q .normal a w := by
      intro listed a w k hr
      have hl := all_listed hs k.size hr
      refine hend a w k.s k.tsize k.defers (fun i o d hi hd => k.facts i o d hi hd (hl i (Array.getElem?_eq_some_iff.1 hi).1)) fun t ht => k.rest t fun i o hi hd => ?_
      have := Array.any_eq_false.1 ht i (Array.getElem?_eq_some_iff.1 hi).1
      rw [(Array.getElem?_eq_some_iff.1 hi).2, hd] at this
      simp at this
    intro fuel
    induction fuel with
    | zero =>
      intro listed a w hf k
      have hr : Region.ready .any ops listed = [] := by
        cases h : Region.ready .any ops listed with
        | nil => rfl
        | cons j l =>
          have hj : j ∈ Region.ready .any ops listed := by rw [h]; simp
          obtain ⟨h0, o, ho, _⟩ := mem_ready.1 hj
          have := left_set (ops := ops) (Array.getElem?_eq_some_iff.1 ho).1 h0
          omega
      exact ⟨hr, fin listed a w k hr⟩
    | succ fuel ih =>
      intro listed a w hf k
      refine ⟨fin listed a w k, fun j hj => ?_⟩
      obtain ⟨h0, o, ho, hdep⟩ := mem_ready.1 hj
      have hl := left_set (ops := ops) (Array.getElem?_eq_some_iff.1 ho).1 h0
      have hdep' : ∀ e ∈ o.after, Region.binds .any e = true → ∀ (p : Oper) (d : Tmp), ops[e.on]? = some p → p.dst = some d → Φ e.on (a.tmps.getD d undef) w := by
        intro e he hb p d hp hd
        have h1 := hdep e he hb
        have hlt : e.on < listed.size := by rw [k.size]; exact (Array.getElem?_eq_some_iff.1 hp).1
        refine k.facts e.on p d hp hd ?_
        simpa [hlt] using h1
      have hun' : ∀ t, writesB ops t = false → a.eval (.tmp t) = a0.eval (.tmp t) := by
        intro t ht
        have := k.rest t fun i p hp hd => by
          have := Array.any_eq_false.1 ht i (Array.getElem?_eq_some_iff.1 hp).1
          rw [(Array.getElem?_eq_some_iff.1 hp).2, hd] at this
          simp at this
        simp [Act.eval, Array.getD_eq_getD_getElem?, this]
      have hw : Region.wanted o (yielded ops a.tmps) = gd j := by
        unfold Region.wanted
        cases hgd : o.guard with
        | none => simp [hg0 j o ho hgd]
        | some gb =>
          obtain ⟨g, b⟩ := gb
          obtain ⟨p, d, hp, hd, e, he, hb, rfl⟩ := (shape_at hs ho).2.2.2 g b hgd
          have hv := hg j o _ b ho hgd _ w (hdep' e he hb p d hp hd)
          have hy : yielded ops a.tmps e.on = match a.tmps[d]? with | some (.bool x) => some x | _ => none := by
            unfold yielded; rw [hp]; simp only [Option.bind_some, hd]
            cases a.tmps[d]? with
            | none => rfl
            | some x => cases x <;> rfl
          have hz : a.tmps.getD d undef = (a.tmps[d]?).getD undef := by simp [Array.getD_eq_getD_getElem?]
          simp only [hy]
          rw [hz] at hv
          cases hx : a.tmps[d]? with
          | none =>
            rw [hx] at hv
            cases hgj : gd j with
            | true => rw [hgj] at hv; simp [undef] at hv
            | false => rfl
          | some x =>
            rw [hx] at hv
            cases hgj : gd j with
            | true => rw [hgj] at hv; simp at hv; subst hv; simp
            | false =>
              rw [hgj] at hv; simp at hv
              cases x <;> simp_all
      unfold wpOp
      simp only [ho, hw]
      cases hgj : gd j with
      | false =>
        simp only [Bool.false_eq_true, if_false]
        exact ih _ _ _ (by omega) (Known.put hs hmono hin k ho k.s (hRr w) (hun j o ho hgj w))
      | true =>
        simp only [if_true]
        refine .inl ?_
        have hgv := hop j o ho hgj a w k.s hun' hdep'
        unfold Oper.wp
        generalize (execOp a.eval o).run P w = r at hgv
        cases r with
        | halt x w' => exact hgv.elim
        | ok n w' =>
          cases n <;> simp only [Gives] at hgv <;> simp only [Oper.upon]
          case value v => exact ih _ _ _ (by omega) (Known.put hs hmono hin k ho hgv.1 hgv.2.1 hgv.2.2)
          case skip => exact ih _ _ _ (by omega) (Known.put hs hmono hin k ho hgv.1 hgv.2.1 hgv.2.2)
          case enter f args =>
            refine hgv.mono ?_
            rintro e w'' ⟨v, rfl, h1, h2, h3⟩
            exact ih _ _ _ (by omega) (Known.put hs hmono hin k ho h1 h2 h3)
  refine key _ _ _ _ ?_ ⟨hS, by simp, rfl, rfl, fun i o d hi _ hl => ?_, fun t _ => rfl⟩
  · unfold left
    have := List.countP_le_length (p := fun i => !(Array.replicate ops.size false).getD i true) (l := List.range ops.size)
    simpa using this
  · have := (Array.getElem?_eq_some_iff.1 hi).1
    simp [this] at hl
end
end Go.Proofs.Ytefeokfjgmidbaa
namespace Go.Proofs.Ytefeokfjgmidbaa
open Go Go.RowKit
section
variable {P : Program} {ops : Array Oper} {Q : Exit → Act → World → Prop} {md : Region.Mode} {n : Nat}
theorem wpOpIn_round {l i : Nat} (hd : ∀ o, ops[i]? = some o → ∀ c, o.op ≠ .defer c) {K K' : Act → World → Prop} (hK : ∀ a w, K a w → K' a w) {a : Act} {w : World}
    (h : wpOpIn Fence.wide n P ops Q i K a w) : wpOpIn (Fence.wide.inRound l) n P ops Q i K' a w := by
  refine wpOpIn_mono hK ?_
  unfold wpOpIn at *
  cases hi : ops[i]? with
  | none => simp only [hi] at h; exact h
  | some o =>
    simp only [hi] at h
    dsimp only
    by_cases hw : Region.wanted o (yielded ops a.tmps) = true
    · rw [if_pos hw] at h ⊢
      unfold Oper.wpIn at *
      refine ⟨h.1, ?_⟩
      have h2 := h.2
      rw [show (Fence.wide.inRound l).round = some l from rfl, Oper.semAt_some l _ _ (hd o hi)]
      rw [show Fence.wide.round = none from rfl, Oper.semAt_none] at h2
      generalize (execOp a.eval o).run P w = r at h2 ⊢
      cases r with
      | ok x w' => cases x <;> exact h2
      | halt x w' => cases x <;> exact h2
    · rw [if_neg hw] at h ⊢
      exact h
theorem wpAnyIn_round {l : Nat} (hd : ∀ (i : Nat) (o : Oper), ops[i]? = some o → ∀ c, o.op ≠ .defer c) : ∀ (fuel : Nat) (listed : Array Bool) (a : Act) (w : World),
    wpAnyIn Fence.wide n P md ops Q fuel listed a w → wpAnyIn (Fence.wide.inRound l) n P md ops Q fuel listed a w
  | 0, _, _, _, h => h
  | fuel + 1, listed, a, w, h => ⟨h.1, fun i hi => wpOpIn_round (fun o => hd i o) (fun a w => wpAnyIn_round hd fuel _ a w) (h.2 i hi)⟩
def defers (ops : Array Oper) : Bool := ops.any fun o => match o.op with | .defer _ => true | _ => false
theorem wpIn_region_round {l id : Nat} {a : Act} {w : World} (hm : P.follows .mixedOrders = true) (hd : defers ops = false)
    (h : wpAnyIn Fence.wide n P .any ops Q ops.size (Array.replicate ops.size false) a w.drew) : (Code.region id ops true).wpIn (Fence.wide.inRound l) n P Q a w := by
  refine wpIn_region_any hm (wpAnyIn_round (fun i o ho c hc => ?_) _ _ _ _ h)
  have hm : o ∈ ops := Array.mem_of_getElem? ho
  unfold defers at hd
  rw [Array.any_eq_false] at hd
  obtain ⟨j, hj, e⟩ := Array.mem_iff_getElem.1 hm
  have := hd j hj
  rw [e, hc] at this
  exact this rfl
end
end Go.Proofs.Ytefeokfjgmidbaa
namespace Go.Proofs.Ytefeokfjgmidbaa
open Go Go.RowKit
section
variable {P : Program} {ops : Array Oper} {Q : Exit → Act → World → Prop} {n : Nat}
theorem opIn_gives {post : Value → World → Prop} {K : Act → World → Prop} {a : Act} {w : World} {i : Nat} {o : Oper} (ho : ops[i]? = some o) (hg : o.guard = none)
    (h : Gives P post ((execOp a.eval o).run P w)) (hK : ∀ v w', post v w' → K (a.put o.dst v) w') : wpOpIn Fence.wide n P ops Q i K a w := by
  unfold wpOpIn
  simp only [ho]
  have hw : Region.wanted o (yielded ops a.tmps) = true := by simp [Region.wanted, hg]
  rw [if_pos hw]
  refine ⟨fun _ _ => trivial, ?_⟩
  rw [show Fence.wide.round = none from rfl, Oper.semAt_none]
  generalize (execOp a.eval o).run P w = r at h
  cases r with
  | ok x w' =>
    cases x with
    | value v => exact hK _ _ h
    | skip => exact hK _ _ h
    | enter f args =>
      refine ⟨fun h => by simp [Fence.wide] at h, callsIn_wide.2 (Calls.mono h ?_)⟩
      rintro e w'' ⟨v, rfl, hp⟩
      exact hK _ _ hp
    | _ => exact h.elim
  | halt x w' => exact h.elim
theorem Gives.skip {post : Value → World → Prop} {r : Result Next} {w : World} (h : r = .ok .skip w) (hp : post undef w) : Gives P post r := by subst h; exact hp
/-- Does one wait for another one? -/
def waitsB (ops : Array Oper) (j i : Nat) : Bool := match ops[j]? with
  | some o => o.after.any fun e => Region.binds .any e && e.on == i
  | none => false
theorem waits_iff {j i : Nat} {o : Oper} (ho : ops[j]? = some o) : waitsB ops j i = true ↔ ∃ e ∈ o.after, Region.binds .any e = true ∧ e.on = i := by
  unfold waitsB
  rw [ho]
  simp only [Array.any_eq_true']
  constructor
  · rintro ⟨e, he, h⟩
    simp only [Bool.and_eq_true, beq_iff_eq] at h
    exact ⟨e, he, h⟩
  · rintro ⟨e, he, h⟩
    exact ⟨e, he, by simpa using h⟩
/-- .. over others, too. -/
def waitsT (ops : Array Oper) : Nat → Nat → Nat → Bool
  | 0, j, i => waitsB ops j i
  | f + 1, j, i => waitsB ops j i || (List.range ops.size).any fun k => waitsB ops j k && waitsT ops f k i
theorem waitsT_listed {listed : Array Bool} (hcl : ∀ i j, i < ops.size → listed.getD i true = true → waitsB ops i j = true → listed.getD j true = true) : ∀ (f i j : Nat), i < ops.size → listed.getD i true = true → waitsT ops f i j = true → listed.getD j true = true
  | 0, i, j, hi, hl, h => hcl i j hi hl h
  | f + 1, i, j, hi, hl, h => by
    unfold waitsT at h
    simp only [Bool.or_eq_true, List.any_eq_true, List.mem_range, Bool.and_eq_true] at h
    rcases h with h | ⟨k, hk, h1, h2⟩
    · exact hcl i j hi hl h
    · exact waitsT_listed hcl f k j hk (hcl i k hi hl h1) h2
/-- The world of a phase: those of the writers that are ahead have come up. -/
def Phase (m : Nat) (Ws : Nat → World) (wr : Nat → Nat) (listed : Array Bool) (w : World) : Prop := ∃ p, p ≤ m ∧ w = Ws p ∧ ∀ q, q < m → (listed.getD (wr q) true = true ↔ q < p)
/-- What a program tells of a region: temporaries, guards. -/
def checkB (ops : Array Oper) (N : Nat) : Bool := ops.all fun o => o.guard.isNone && match o.dst with | some d => decide (d < N) | none => true
/-- .. of the writers' chain. -/
def chainB (ops : Array Oper) (m : Nat) (wr : Nat → Nat) : Bool :=
  ((List.range m).all fun q => decide (wr q < ops.size)) && ((List.range m).all fun q => (List.range m).all fun q' => !(wr q == wr q') || q == q') && ((List.range m).all fun q => decide (m ≤ q + 1) || waitsB ops (wr (q + 1)) (wr q))
def isW (m : Nat) (wr : Nat → Nat) (j : Nat) : Bool := (List.range m).any fun q => wr q == j
theorem isW_iff (m : Nat) (wr : Nat → Nat) (j : Nat) : isW m wr j = true ↔ ∃ q, q < m ∧ wr q = j := by
  simp [isW, List.any_eq_true]
theorem wpAnyIn_phases {a0 : Act} {w0 : World} (hs : shapeB ops = true) (hcb : checkB ops a0.tmps.size = true) (m : Nat) (Ws : Nat → World) (wr : Nat → Nat) (val : Nat → Value)
    (h0 : Ws 0 = { w0 with drawn := w0.drawn + 1 }) (hwb : chainB ops m wr = true)
    (hop : ∀ (j : Nat) (o : Oper), ops[j]? = some o → ∀ (p : Nat) (a : Act), p ≤ m → (∀ q, q < m → wr q = j → p = q) → (∀ q, q < m → waitsB ops j (wr q) = true → q < p) → (∀ q, q < m → waitsT ops 8 (wr q) j = true → p ≤ q) →
      (∀ t, writesB ops t = false → a.tmps.getD t undef = a0.tmps.getD t undef) →
      (∀ (i : Nat) (p : Oper) (d : Tmp), ops[i]? = some p → p.dst = some d → waitsB ops j i = true → a.tmps.getD d undef = val i) →
      Gives P (fun v w' => v = val j ∧ w' = Ws (bif isW m wr j then p + 1 else p)) ((execOp a.eval o).run P (Ws p)))
    (hend : ∀ (a : Act), a.tmps.size = a0.tmps.size → a.defers = a0.defers → (∀ (i : Nat) (o : Oper) (d : Tmp), ops[i]? = some o → o.dst = some d → a.tmps.getD d undef = val i) →
      (∀ t, writesB ops t = false → a.tmps[t]? = a0.tmps[t]?) → Q .normal a (Ws m)) :
    wpAnyIn Fence.wide n P .any ops Q ops.size (Array.replicate ops.size false) a0 { w0 with drawn := w0.drawn + 1 } := by
  classical
  have hin : ∀ (i : Nat) (o : Oper) (d : Tmp), ops[i]? = some o → o.dst = some d → d < a0.tmps.size := fun i o d hi hd => by
    have := (Array.all_eq_true'.1 hcb) o (Array.mem_of_getElem? hi)
    simp only [hd, Bool.and_eq_true, decide_eq_true_eq] at this
    exact this.2
  have hng : ∀ (j : Nat) (o : Oper), ops[j]? = some o → o.guard = none := fun j o hj => by
    have := (Array.all_eq_true'.1 hcb) o (Array.mem_of_getElem? hj)
    simp only [Bool.and_eq_true, Option.isNone_iff_eq_none] at this
    exact this.1
  simp only [chainB, Bool.and_eq_true, List.all_eq_true, List.mem_range, decide_eq_true_eq, Bool.or_eq_true, Bool.not_eq_true', beq_iff_eq, beq_eq_false_iff_ne] at hwb
  obtain ⟨⟨hwr, hinj0⟩, hch0⟩ := hwb
  have hinj : ∀ q q', q < m → q' < m → wr q = wr q' → q = q' := fun q q' h h' e => (hinj0 q h q' h').resolve_left (fun hne => hne e)
  have hch : ∀ q, q + 1 < m → waitsB ops (wr (q + 1)) (wr q) = true := fun q h => (hch0 q (by omega)).resolve_left (by omega)
  have fin : ∀ (listed : Array Bool) (a : Act) (w : World), Known ops (fun i v _ => v = val i) (fun _ => True) a0 listed a w → Phase m Ws wr listed w → Region.ready .any ops listed = [] → Q .normal a w := by
    intro listed a w k hp hr
    have hl := all_listed hs k.size hr
    obtain ⟨p, h1, rfl, h2⟩ := hp
    have : p = m := by
      rcases Nat.lt_or_ge p m with h | h
      · have := (h2 p h).1 (hl _ (hwr p h)); omega
      · omega
    subst this
    refine hend a k.tsize k.defers (fun i o d hi hd => k.facts i o d hi hd (hl i (Array.getElem?_eq_some_iff.1 hi).1)) (fun t ht => k.rest t fun i o hi hd => ?_)
    have := Array.any_eq_false.1 ht i (Array.getElem?_eq_some_iff.1 hi).1
    rw [(Array.getElem?_eq_some_iff.1 hi).2, hd] at this
    simp at this
  have key : ∀ (fuel : Nat) (listed : Array Bool) (a : Act) (w : World), left ops listed ≤ fuel → Known ops (fun i v _ => v = val i) (fun _ => True) a0 listed a w → Phase m Ws wr listed w → (∀ i j, i < ops.size → listed.getD i true = true → waitsB ops i j = true → listed.getD j true = true) → wpAnyIn Fence.wide n P .any ops Q fuel listed a w := by
    intro fuel
    induction fuel with
    | zero =>
      intro listed a w hf k hp _
      have hr : Region.ready .any ops listed = [] := by
        cases h : Region.ready .any ops listed with
        | nil => rfl
        | cons i r =>
          obtain ⟨h1, o, h2, _⟩ := mem_ready.1 (show i ∈ Region.ready .any ops listed by rw [h]; simp)
          have := left_set (ops := ops) (listed := listed) (Array.getElem?_eq_some_iff.1 h2).1 h1
          omega
      exact ⟨hr, fin listed a w k hp hr⟩
    | succ fuel ih =>
      intro listed a w hf k hp hcl
      refine ⟨fun hr => fin listed a w k hp hr, fun j hj => ?_⟩
      obtain ⟨hj0, o, ho, hdep⟩ := mem_ready.1 hj
      have hjs : j < ops.size := (Array.getElem?_eq_some_iff.1 ho).1
      obtain ⟨p, hpm, rfl, hq⟩ := hp
      have hf0 : listed.getD j true = false := hj0
      have hjl : j < listed.size := by rw [k.size]; exact hjs
      have waited : ∀ i, waitsB ops j i = true → listed.getD i true = true := fun i hi => by
        obtain ⟨e, he, hb, rfl⟩ := (waits_iff ho).1 hi
        have hlt := (shape_at hs ho).1 e he hb
        have := hdep e he hb
        have hb2 : e.on < listed.size := by omega
        simpa [hb2] using this
      have e1 : ∀ q, q < m → wr q = j → p = q := fun q hqm e => by
        have h1 : ¬ q < p := fun h => by have := (hq q hqm).2 h; rw [e, hf0] at this; cases this
        rcases Nat.lt_or_ge p q with h | h
        · exfalso
          obtain ⟨q', rfl⟩ : ∃ q', q = q' + 1 := ⟨q - 1, by omega⟩
          have := waited _ (by rw [← e]; exact hch q' hqm)
          have := (hq q' (by omega)).1 this
          omega
        · omega
      have e2 : ∀ q, q < m → waitsB ops j (wr q) = true → q < p := fun q hqm h => (hq q hqm).1 (waited _ h)
      have e3 : ∀ q, q < m → waitsT ops 8 (wr q) j = true → p ≤ q := fun q hqm h => by
        rcases Nat.lt_or_ge q p with h1 | h1
        · exfalso
          have h2 := (hq q hqm).2 h1
          have := waitsT_listed hcl 8 _ _ (hwr q hqm) h2 h
          rw [hf0] at this; cases this
        · exact h1
      have hG := hop j o ho p a hpm e1 e2 e3 (fun t ht => ?rest) (fun i o' d hi hd hw => k.facts i o' d hi hd (waited i hw))
      refine opIn_gives ho (hng j o ho) hG ?_
      rintro v w' ⟨rfl, rfl⟩
      refine ih _ _ _ (by have := left_set (ops := ops) hjs hf0; omega) (Known.put (S := fun _ => True) (R := fun _ _ => True) hs (fun _ _ _ _ _ _ _ h => h) hin k ho trivial trivial rfl) ?ph ?cl
      case cl =>
        intro i i' hi hl hw
        by_cases e : i = j
        · subst e
          by_cases e' : i' = i
          · subst e'; simp [hjl]
          · rw [getD_set_ne true (fun h => e' h.symm)]; exact waited i' hw
        · rw [getD_set_ne true (fun h => e h.symm)] at hl
          by_cases e' : i' = j
          · subst e'; simp [hjl]
          · rw [getD_set_ne true (fun h => e' h.symm)]; exact hcl i i' hi hl hw
      case ph =>
        have hb : (bif isW m wr j then p + 1 else p) = if (∃ q, q < m ∧ wr q = j) then p + 1 else p := by
          cases e : isW m wr j with
          | true => rw [if_pos ((isW_iff m wr j).1 e)]; rfl
          | false => rw [if_neg (fun h => by rw [(isW_iff m wr j).2 h] at e; cases e)]; rfl
        rw [hb]
        refine ⟨_, ?_, rfl, ?_⟩
        · split
          · rename_i h
            obtain ⟨q, h1, h2⟩ := h
            have := e1 q h1 h2
            omega
          · exact hpm
        · intro q hqm
          by_cases e : wr q = j
          · have := e1 q hqm e
            subst this
            rw [if_pos ⟨p, hqm, e⟩, e]
            simp [hjl]
          · rw [getD_set_ne true (fun h => e h.symm), hq q hqm]
            split
            · rename_i h
              obtain ⟨q', h1, h2⟩ := h
              have := e1 q' h1 h2
              subst this
              have hne : q ≠ p := fun h => e (by rw [h]; exact h2)
              omega
            · exact Iff.rfl
      case rest =>
        have := k.rest t fun i o hi hd => by
          have := Array.any_eq_false.1 ht i (Array.getElem?_eq_some_iff.1 hi).1
          rw [(Array.getElem?_eq_some_iff.1 hi).2, hd] at this
          simp at this
        simp only [Array.getD_eq_getD_getElem?, this]
  refine key _ _ _ _ ?_ ?_ ?_ ?_
  · unfold left
    refine Nat.le_trans (List.countP_le_length) (by simp)
  · refine ⟨trivial, by simp, rfl, rfl, fun i o d hi _ hl => ?_, fun t _ => rfl⟩
    have := (Array.getElem?_eq_some_iff.1 hi).1
    simp [this] at hl
  · refine ⟨0, Nat.zero_le _, h0.symm, fun q hq => ?_⟩
    have := hwr q hq
    simp [this]
  · intro i j hi hl _
    simp [hi] at hl
/-- What the region's operations yield, put one by one. -/
def putOps : List Oper → (Nat → Value) → Act → Act
  | [], _, a => a
  | o :: os, f, a => putOps os f (match o.dst with | some d => a.put (some d) (f d) | none => a)
theorem putOps_defers : ∀ (l : List Oper) (f : Nat → Value) (a : Act), (putOps l f a).defers = a.defers
  | [], _, _ => rfl
  | o :: os, f, a => by
    unfold putOps
    rw [putOps_defers os f]
    cases o.dst <;> rfl
theorem putOps_size : ∀ (l : List Oper) (f : Nat → Value) (a : Act), (putOps l f a).tmps.size = a.tmps.size
  | [], _, _ => rfl
  | o :: os, f, a => by
    unfold putOps
    rw [putOps_size os f]
    cases o.dst <;> simp [Act.put]
theorem putOps_at : ∀ (l : List Oper) (f : Nat → Value) (a : Act) (t : Nat), t < a.tmps.size → (putOps l f a).tmps[t]? = if (l.any fun o => o.dst == some t) then some (f t) else a.tmps[t]?
  | [], _, _, _, _ => by simp [putOps]
  | o :: os, f, a, t, ht => by
    unfold putOps
    cases hd : o.dst with
    | none =>
      simp only [List.any_cons, hd]
      rw [putOps_at os f a t ht]
      simp
    | some d =>
      simp only [List.any_cons, hd]
      rw [putOps_at os f _ t (by simpa [Act.put] using ht)]
      by_cases hdt : d = t
      · subst hdt
        simp [Act.put, ht]
      · simp [Act.put, hdt]
/-- .. each by its number. -/
def putIdx : List Oper → Nat → (Nat → Value) → Act → Act
  | [], _, _, a => a
  | o :: os, i, f, a => putIdx os (i + 1) f (match o.dst with | some d => a.put (some d) (f i) | none => a)
theorem putOps_idx (f : Nat → Value) (val : Nat → Value) : ∀ (l : List Oper) (k : Nat) (a : Act), (∀ (i : Nat) (o : Oper) (d : Tmp), l[i]? = some o → o.dst = some d → f d = val (k + i)) → putOps l f a = putIdx l k val a
  | [], _, _, _ => rfl
  | o :: os, k, a, h => by
    unfold putOps putIdx
    have h0 := h 0 o
    have e : (match o.dst with | some d => a.put (some d) (f d) | none => a) = match o.dst with | some d => a.put (some d) (val k) | none => a := by
      cases hd : o.dst with
      | none => rfl
      | some d => exact congrArg (fun v => a.put (some d) v) (h0 d rfl hd)
    rw [e]
    exact putOps_idx f val os (k + 1) _ fun i o' d hi hd => by
      have := h (i + 1) o' d (by simpa using hi) hd
      rw [this]; congr 1; omega
theorem wpAnyIn_puts {l : List Oper} {a0 : Act} {w0 : World} (hs : shapeB l.toArray = true) (hcb : checkB l.toArray a0.tmps.size = true) (m : Nat) (Ws : Nat → World) (wr : Nat → Nat) (val : Nat → Value)
    (h0 : Ws 0 = { w0 with drawn := w0.drawn + 1 }) (hwb : chainB l.toArray m wr = true)
    (hop : ∀ (j : Nat) (o : Oper), l[j]? = some o → ∀ (p : Nat) (a : Act), p ≤ m → (∀ q, q < m → wr q = j → p = q) → (∀ q, q < m → waitsB l.toArray j (wr q) = true → q < p) → (∀ q, q < m → waitsT l.toArray 8 (wr q) j = true → p ≤ q) →
      (∀ t, writesB l.toArray t = false → a.tmps[t]?.getD undef = a0.tmps[t]?.getD undef) →
      (∀ (i : Nat) (d : Tmp), (l[i]?.bind fun p => p.dst) = some d → waitsB l.toArray j i = true → a.tmps[d]?.getD undef = val i) →
      Gives P (fun v w' => v = val j ∧ w' = Ws (bif isW m wr j then p + 1 else p)) ((execOp a.eval o).run P (Ws p)))
    (hend : Q .normal (putIdx l 0 val a0) (Ws m)) :
    wpAnyIn Fence.wide n P .any l.toArray Q l.toArray.size (Array.replicate l.toArray.size false) a0 { w0 with drawn := w0.drawn + 1 } := by
  refine wpAnyIn_phases hs hcb m Ws wr val h0 hwb (fun j o hj p a hp e1 e2 e3 hr hd => hop j o (by simpa using hj) p a hp e1 e2 e3 (fun t ht => by have := hr t ht; simpa [Array.getD_eq_getD_getElem?] using this) (fun i d hi hw => by
    cases hl : l[i]? with
    | none => rw [hl] at hi; cases hi
    | some q =>
      rw [hl] at hi
      have := hd i q d (by simpa using hl) (by simpa using hi) hw
      simpa [Array.getD_eq_getD_getElem?] using this)) (fun a hz hdf hf hr => ?_)
  have e : a = putOps l (fun t => a.tmps.getD t undef) a0 := by
    cases a with
    | mk tmps defers =>
      have h2 : (putOps l (fun t => tmps.getD t undef) a0).defers = defers := (putOps_defers _ _ _).trans hdf.symm
      have h1 : (putOps l (fun t => tmps.getD t undef) a0).tmps = tmps := by
        apply Array.ext_getElem?
        intro t
        by_cases ht : t < a0.tmps.size
        · rw [putOps_at _ _ _ _ ht]
          split
          · dsimp only at hz
            simp [Array.getD_eq_getD_getElem?, hz, ht]
          · rename_i hw
            exact (hr t (by simpa [writesB] using hw)).symm
        · dsimp only at hz
          rw [Array.getElem?_eq_none (by rw [putOps_size]; omega), Array.getElem?_eq_none (by omega)]
      cases hp : putOps l (fun t => tmps.getD t undef) a0 with
      | mk t2 d2 =>
        rw [hp] at h1 h2
        dsimp only at h1 h2 ⊢
        subst h1 h2
        rfl
  rw [e, putOps_idx _ val l 0 a0 (fun i o d hi hd => by rw [Nat.zero_add]; exact hf i o d (by simpa using hi) hd)]
  exact hend
end
end Go.Proofs.Ytefeokfjgmidbaa

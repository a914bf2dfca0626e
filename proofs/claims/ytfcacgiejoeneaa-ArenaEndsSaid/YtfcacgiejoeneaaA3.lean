/- Ranges over a function that hands out things by their numbers: the function's contract, and the law of the loop. The loop's body may write memory that was there when the loop began, all but what the function asks to be left (G); the function may write whatever it made since. Nothing here speaks of one program. -/
import Derived.Test.YtfcacgiejoeneaaA1
import Derived.RangeFuncBox
import Derived.RangeFuncNested
import Derived.RangeFuncBound
import Derived.RangeFuncCalls
import Derived.RangeFuncLeaves
import Derived.OwnWalkIn
import Derived.TacticsInMore
import Derived.OrdersIn
import Derived.Sort.BigQuietIn
import Derived.Shelf.Abstract
import Derived.Shelf.RegionOpen
import Derived.LoopNIn
import Derived.LoopIn
set_option linter.unusedSimpArgs false
set_option linter.unusedVariables false
namespace Go.Proofs.Ytfcacgiejoeneaa
open Go Go.RowKit
variable {P : Program}

/-- What J says it says of blocks below B. -/
def Low (B : Nat) (J : Nat → World → Prop) : Prop := ∀ (s : Nat) (A A' : World), J s A → Below B A A' → J s A'
/-- A round leaves what the function asked for, and what came since the function was called. -/
structure Left (G : Nat → Prop) (B : Nat) (A A' : World) : Prop where
  size : A.heap.size ≤ A'.heap.size
  block : ∀ k, k < A.heap.size → (G k ∨ B ≤ k) → A'.heap[k]? = A.heap[k]?
theorem Left.refl (G : Nat → Prop) (B : Nat) (A : World) : Left G B A A := ⟨Nat.le_refl _, fun _ _ _ => rfl⟩
theorem Left.trans {G : Nat → Prop} {B : Nat} {A A' A'' : World} (h : Left G B A A') (k : Left G B A' A'') : Left G B A A'' :=
  ⟨Nat.le_trans h.size k.size, fun i hi hg => (k.block i (Nat.lt_of_lt_of_le hi h.size) hg).trans (h.block i hi hg)⟩
theorem Left.below {G : Nat → Prop} {B : Nat} {A A' : World} (h : Below A.heap.size A A') : Left G B A A' := ⟨h.size, fun k hk _ => h.block k hk⟩
theorem Left.mono {G G' : Nat → Prop} {B B' : Nat} {A A' : World} (h : Left G B A A') (hg : ∀ k, k < A.heap.size → (G' k ∨ B' ≤ k) → (G k ∨ B ≤ k)) : Left G' B' A A' := ⟨h.size, fun k hk h' => h.block k hk (hg k hk h')⟩
theorem Left.setCell {G : Nat → Prop} {B : Nat} (A : World) (b o : Nat) (v : Value) (hG : ¬ G b) (hB : b < B) : Left G B A (A.setCell ⟨b, o, none⟩ v) :=
  ⟨by simp [World.setCell], fun k _ hg => Below.heap_setCell _ _ _ k (fun e => by rcases hg with h | h; exact hG (by rw [← show k = b from e]; exact h); have : k = b := e; omega)⟩

/-- The contract: N things in their turn, or a part of them. -/
def SeqN (n : Nat) (P : Program) (gf : Nat) (lb : Array Value) (encs : Nat → Array Value) (N : Nat) (G : Nat → Prop) (w : World) : Prop :=
  ∀ (l : Nat) (J Jx : Nat → World → Prop) (W : World), Below w.heap.size w W → Low W.heap.size J → Low W.heap.size Jx →
    (∀ k W1, J k W1 → W.heap.size ≤ W1.heap.size → k < N → YieldAt Fence.wide (n - 1) P l (encs k) W1 fun e W' =>
      (e = .returned (.bool true) ∧ J (k + 1) W' ∧ Left G W.heap.size W1 W') ∨ (e = .returned (.bool false) ∧ Jx (k + 1) W' ∧ Left (fun _ => False) W.heap.size W1 W')) →
    J 0 W → CallsIn Fence.wide n P gf (#[.func (.yield l) #[] #[]] ++ lb) W fun e W' => (∃ v, e = .returned v) ∧ (J N W' ∨ ∃ k, k ≤ N ∧ Jx k W')

/-- How a body may end. -/
def endN (G : Nat → Prop) (B : Nat) (I : Nat → World → Prop) (Ix : Code → Nat → World → Prop) (k : Nat) (W : World) : Exit → Act → World → Prop
  | .normal, _, W' => Left G B W W' ∧ I k W'
  | .ret, _, W' => Left (fun _ => False) B W W' ∧ Ix .ret k W'
  | .exit id, _, W' => Left (fun _ => False) B W W' ∧ Ix (.exit id) k W'
  | .goto t, _, W' => Left (fun _ => False) B W W' ∧ Ix (.goto t) k W'
  | .panic _, _, _ => False
  | .outgrown, _, _ => False

theorem below_putObj (W : World) (l B : Nat) (o : Obj) (h : B ≤ l) : Below B W (W.putObj l o) := ⟨rfl, rfl, rfl, by simp, fun k hk => World.putObj_heap_other (by omega)⟩

theorem wpIn_rangeFunc_n {n : Nat} {g : Operand} {ps : Array Tmp} {assign body : Code} {Q : Exit → Act → World → Prop} {a : Act} {w : World} (h1 : 1 ≤ n) {gf : Nat} {lb : Array Value}
    (hg : a.eval g = .func (.func gf) #[] lb) (eg : ∀ args w, (callFunc gf args).run P w = .ok (.enter gf args) w) {encs : Nat → Array Value} {N : Nat} {G : Nat → Prop} {w0 : World}
    (hseq : SeqN (n - 1) P gf lb encs N G w0) (hb0 : Below w0.heap.size w0 w) (hps : ∀ k, (encs k).size = ps.size) (hG : ∀ k, G k → k < w.heap.size)
    (I : Nat → World → Prop) (Ix : Code → Nat → World → Prop) (hI : Low w.heap.size I) (hIx : ∀ c, Low w.heap.size (Ix c)) (h0 : I 0 w) (a₁ : Nat → Act)
    (hassign : ∀ (l k : Nat) (W : World) (K : Act → World → Prop), K (a₁ k) W →
      assign.wpIn (Fence.wide.inRound l) (n - 1 - 1) P (Exit.then K (fun _ _ _ => False)) { tmps := (ps.zip (encs k)).foldl (fun t (p, v) => t.setIfInBounds p v) a.tmps, defers := [] } W)
    (hbody : ∀ (l k : Nat) (W : World), I k W → w.heap.size + 2 ≤ W.heap.size → k < N → body.wpIn (Fence.wide.inRound l) (n - 1 - 1) P (endN G w.heap.size I Ix (k + 1) W) (a₁ k) W)
    (hdone : ∀ (D : Nat) (W : World), w.heap.size ≤ D → I N W → W.heap[D]? = some (.deferred (some [])) → Q .normal { a with defers := { target := .collected D, args := #[] } :: a.defers } W)
    (hstop : ∀ (D : Nat) (c : Code) (k : Nat) (W : World), w.heap.size ≤ D → k ≤ N → Ix c k W → W.heap[D]? = some (.deferred (some [])) → c.wpIn Fence.wide n P Q { a with defers := { target := .collected D, args := #[] } :: a.defers } W) :
    (Code.rangeFunc g ps assign body).wpIn Fence.wide n P Q a w := by
  refine wpIn_rangeFunc ?_
  intro fn hfn
  show ∃ _, _
  let rec0 : LoopState → Option Code → Loop := fun st pe => { state := st, pending := pe, fn, tmps := a.tmps, params := ps, assign, body, defers := w.heap.size }
  obtain ⟨D, eD⟩ : ∃ D, D = w.heap.size := ⟨_, rfl⟩
  obtain ⟨W1, eW⟩ : ∃ W1, W1 = (w.alloc (.deferred (some []))).alloc (.loop (rec0 .ready none)) := ⟨_, rfl⟩
  have hB2 : Below w.heap.size w W1 := by rw [eW]; exact B2 _ _ _
  have hzz : W1.heap.size = D + 2 := by rw [eW, eD]; simp
  have hD : W1.heap[D]? = some (.deferred (some [])) := by
    rw [eW, eD]; exact (Below.heap_alloc _ _ _ (by simp)).trans (World.alloc_heap_new w _)
  have hL : W1.heap[D + 1]? = some (.loop (rec0 .ready none)) := by
    rw [eW, eD]; have := World.alloc_heap_new (w.alloc (.deferred (some []))) (.loop (rec0 .ready none)); rwa [World.size_alloc] at this
  have hI1 : I 0 W1 := hI 0 _ _ h0 hB2
  have keepI : ∀ (K : Nat → World → Prop) (hK : Low w.heap.size K) (k : Nat) (W : World) (o : Obj), K k W → K k (W.putObj (D + 1) o) := fun K hK k W o h => hK k _ _ h (below_putObj W (D + 1) _ o (by omega))
  refine ⟨D + 1, [{ target := .collected D, args := #[] }], W1, { target := .fn (.func gf) lb, args := #[.func (.yield (D + 1)) #[] #[]] }, W1, gf, #[.func (.yield (D + 1)) #[] #[]] ++ lb, W1, ?_, ?_, fun _ _ => trivial, ?_, fun _ => h1, ?_⟩
  · rw [eW, eD]; exact run_enterLoop_outer _ _ _ _ _
  · simp only [resolve, hg]
    simp [go_sem]
  · simp [invoke, go_sem, eg]
  refine (hseq (D + 1) (fun k W => I k W ∧ W.heap[D + 1]? = some (.loop (rec0 .ready none)) ∧ W.heap[D]? = some (.deferred (some [])))
    (fun k W => ∃ c, Ix c k W ∧ W.heap[D + 1]? = some (.loop (rec0 .done (some c))) ∧ W.heap[D]? = some (.deferred (some []))) W1 (hb0.trans (hB2.mono hb0.size)) ?_ ?_ ?_ ⟨hI1, hL, hD⟩).mono ?_
  · rintro s A A' ⟨hi, hl, hd⟩ hb
    exact ⟨hI s A A' hi (hb.mono (by omega)), (hb.block _ (by omega)).trans hl, (hb.block _ (by omega)).trans hd⟩
  · rintro s A A' ⟨c, hi, hl, hd⟩ hb
    exact ⟨c, hIx c s A A' hi (hb.mono (by omega)), (hb.block _ (by omega)).trans hl, (hb.block _ (by omega)).trans hd⟩
  · rintro k W ⟨hi, hl, hd⟩ hsz hk
    have hlt : D + 1 < W.heap.size := (Array.getElem?_eq_some_iff.1 hl).1
    refine ⟨fn, _, assign, body, run_yield (P := P) (args := encs k) hl (hps k), roundIn_of_wpIn hfn (hassign _ k W _ ⟨_, run_beginRound hl rfl, ?_⟩)⟩
    have hl2 : (W.putObj (D + 1) (.loop (rec0 .busy none))).heap[D + 1]? = some (.loop (rec0 .busy none)) := World.putObj_heap_same hlt
    have hd2 : (W.putObj (D + 1) (.loop (rec0 .busy none))).heap[D]? = some (.deferred (some [])) := (World.putObj_heap_other (by omega)).trans hd
    have hw2 : ∀ (X : World) (o : Obj), Left G (D + 2) X (X.putObj (D + 1) o) := fun X o => ⟨by simp, fun j _ hg => World.putObj_heap_other (by rcases hg with h | h; have := hG j h; omega; omega)⟩
    have hw3 : ∀ (X : World) (o : Obj), Left (fun _ => False) (D + 2) X (X.putObj (D + 1) o) := fun X o => ⟨by simp, fun j _ hg => World.putObj_heap_other (by rcases hg with h | h; exact h.elim; omega)⟩
    refine wpIn_mono (hbody _ k _ (keepI I hI k W _ hi) (by simp; omega) hk) ?_
    have fin : ∀ (jump : Option Code) (W3 : World), Left (fun _ => False) w.heap.size (W.putObj (D + 1) (.loop (rec0 .busy none))) W3 →
        (Instr.endRound (D + 1) jump).run P W3 = .ok (.bool jump.isNone) (W3.putObj (D + 1) (.loop (rec0 (if jump.isNone then .ready else .done) jump))) ∧
        (W3.putObj (D + 1) (.loop (rec0 (if jump.isNone then .ready else .done) jump))).heap[D + 1]? = some (.loop (rec0 (if jump.isNone then .ready else .done) jump)) ∧
        (W3.putObj (D + 1) (.loop (rec0 (if jump.isNone then .ready else .done) jump))).heap[D]? = some (.deferred (some [])) := fun jump W3 hk3 => by
      have hl3 := (hk3.block (D + 1) (by simpa using hlt) (.inr (by omega))).trans hl2
      have hd3 := (hk3.block D (by simp; omega) (.inr (by omega))).trans hd2
      exact ⟨run_endRound (P := P) jump hl3, World.putObj_heap_same (Array.getElem?_eq_some_iff.1 hl3).1, (World.putObj_heap_other (by omega)).trans hd3⟩
    rintro e a3 W3 hp
    cases e with
    | normal =>
      obtain ⟨hk3, hi3⟩ := hp
      obtain ⟨hr, hl4, hd4⟩ := fin none W3 (hk3.mono (fun j _ h => by rcases h with h | h; exact h.elim; exact .inr h))
      refine ⟨_, _, hr, .inl ⟨rfl, ⟨keepI I hI _ _ _ hi3, hl4, hd4⟩, ?_⟩⟩
      rw [hzz]
      exact ((hw2 _ _).trans (hk3.mono (fun j _ h => by rcases h with h | h; exact .inl h; exact .inr (by omega)))).trans (hw2 _ _)
    | ret =>
      obtain ⟨hk3, hi3⟩ := hp
      obtain ⟨hr, hl4, hd4⟩ := fin (some .ret) W3 hk3
      exact ⟨_, _, hr, .inr ⟨rfl, ⟨.ret, keepI _ (hIx _) _ _ _ hi3, hl4, hd4⟩, by rw [hzz]; exact ((hw3 _ _).trans (hk3.mono (fun j _ h => by rcases h with h | h; exact h.elim; exact .inr (by omega)))).trans (hw3 _ _)⟩⟩
    | exit id =>
      obtain ⟨hk3, hi3⟩ := hp
      obtain ⟨hr, hl4, hd4⟩ := fin (some (.exit id)) W3 hk3
      exact ⟨_, _, hr, .inr ⟨rfl, ⟨.exit id, keepI _ (hIx _) _ _ _ hi3, hl4, hd4⟩, by rw [hzz]; exact ((hw3 _ _).trans (hk3.mono (fun j _ h => by rcases h with h | h; exact h.elim; exact .inr (by omega)))).trans (hw3 _ _)⟩⟩
    | goto t =>
      obtain ⟨hk3, hi3⟩ := hp
      obtain ⟨hr, hl4, hd4⟩ := fin (some (.goto t)) W3 hk3
      exact ⟨_, _, hr, .inr ⟨rfl, ⟨.goto t, keepI _ (hIx _) _ _ _ hi3, hl4, hd4⟩, by rw [hzz]; exact ((hw3 _ _).trans (hk3.mono (fun j _ h => by rcases h with h | h; exact h.elim; exact .inr (by omega)))).trans (hw3 _ _)⟩⟩
    | panic ch => exact hp.elim
    | outgrown => exact hp.elim
  · rintro e W2 ⟨⟨v, rfl⟩, (⟨hi, hl, hd⟩ | ⟨k, hk, c, hi, hl, hd⟩)⟩
    · exact ⟨none, _, run_endLoop (P := P) hl (by simp [rec0]), hdone D _ (by omega) (keepI I hI _ _ _ hi) ((World.putObj_heap_other (by omega)).trans hd)⟩
    · exact ⟨some c, _, run_endLoop (P := P) hl (by simp [rec0]), hstop D c k _ (by omega) hk (keepI _ (hIx c) _ _ _ hi) ((World.putObj_heap_other (by omega)).trans hd)⟩
end Go.Proofs.Ytfcacgiejoeneaa
namespace Go.Proofs.Ytfcacgiejoeneaa
open Go Go.RowKit
section
variable {P : Program} {ops : Array Oper} {Q : Exit → Act → World → Prop} {md : Region.Mode} {n : Nat}
theorem wpOpIn_round {l i : Nat} (hd : ∀ o, ops[i]? = some o → ∀ c, o.op ≠ .defer c) {K K' : Act → World → Prop} (hK : ∀ a w, K a w → K' a w) {a : Act} {w : World}
    (h : wpOpIn Fence.wide n P ops Q i K a w) : wpOpIn (Fence.wide.inRound l) n P ops Q i K' a w := by
  refine wpOpIn_mono hK ?_
  unfold wpOpIn at *
  cases hi : ops[i]? with
  | none => simp only [hi] at h; exact h
  | some o =>
    simp only [hi] at h
    dsimp only
    by_cases hw : Region.wanted o (yielded ops a.tmps) = true
    · rw [if_pos hw] at h ⊢
      unfold Oper.wpIn at *
      refine ⟨h.1, ?_⟩
      have h2 := h.2
      rw [show (Fence.wide.inRound l).round = some l from rfl, Oper.semAt_some l _ _ (hd o hi)]
      rw [show Fence.wide.round = none from rfl, Oper.semAt_none] at h2
      generalize (execOp a.eval o).run P w = r at h2 ⊢
      cases r with
      | ok x w' => cases x <;> exact h2
      | halt x w' => cases x <;> exact h2
    · rw [if_neg hw] at h ⊢
      exact h
theorem wpAnyIn_round {l : Nat} (hd : ∀ (i : Nat) (o : Oper), ops[i]? = some o → ∀ c, o.op ≠ .defer c) : ∀ (fuel : Nat) (listed : Array Bool) (a : Act) (w : World),
    wpAnyIn Fence.wide n P md ops Q fuel listed a w → wpAnyIn (Fence.wide.inRound l) n P md ops Q fuel listed a w
  | 0, _, _, _, h => h
  | fuel + 1, listed, a, w, h => ⟨h.1, fun i hi => wpOpIn_round (fun o => hd i o) (fun a w => wpAnyIn_round hd fuel _ a w) (h.2 i hi)⟩
def defers (ops : Array Oper) : Bool := ops.any fun o => match o.op with | .defer _ => true | _ => false
theorem wpIn_region_round {l id : Nat} {a : Act} {w : World} (hm : P.follows .mixedOrders = true) (hd : defers ops = false)
    (h : wpAnyIn Fence.wide n P .any ops Q ops.size (Array.replicate ops.size false) a w.drew) : (Code.region id ops true).wpIn (Fence.wide.inRound l) n P Q a w := by
  refine wpIn_region_any hm (wpAnyIn_round (fun i o ho c hc => ?_) _ _ _ _ h)
  have hm : o ∈ ops := Array.mem_of_getElem? ho
  unfold defers at hd
  rw [Array.any_eq_false] at hd
  obtain ⟨j, hj, e⟩ := Array.mem_iff_getElem.1 hm
  have := hd j hj
  rw [e, hc] at this
  exact this rfl
end
end Go.Proofs.Ytfcacgiejoeneaa
namespace Go.Proofs.Ytfcacgiejoeneaa
open Go Go.RowKit
theorem wpIn_region_quiet_round {P : Program} {n id r : Nat} {Q : Exit → Act → World → Prop} {a : Act} {w : World} {l : List Oper} (hm : P.follows .mixedOrders = true) (hd : defers l.toArray = false) (hB : Region.lexB .any l.toArray = true)
    (h : wpQuietIn Fence.wide n P l.toArray (fun w' => ∃ n, w' = w.drewN n) (fun a' => ∀ w', (∃ n, w' = w.drewN n) → Q .normal a' w') l a) : (Code.region id l.toArray true).wpIn (Fence.wide.inRound r) n P Q a w := by
  simp only [Region.lexB, Bool.and_eq_true] at hB
  refine wpIn_region_round hm hd (wpAnyIn_of_quiet (C := fun w' => ∃ n, w' = w.drewN n) (Q := fun a' => ∀ w', (∃ n, w' = w.drewN n) → Q .normal a' w') rfl (fun _ w' hw' h => h w' hw') _ _ _ _ ⟨1, rfl⟩ ?_)
  have := wpAnyQIn_lex (F := Fence.wide) (n := n) (C := fun w' => ∃ n, w' = w.drewN n) (md := .any) hB.1 l 0 (Array.replicate l.toArray.size false) a (by simp) (by simpa using hB.2) h
  simpa using this
end Go.Proofs.Ytfcacgiejoeneaa
namespace Go.Proofs.Ytfcacgiejoeneaa
open Go Go.RowKit Go.Shelf
attribute [local go_sem] Oper.semAt_some

/-- What the going through leans on: a row's block, its things. -/
structure Ext3 (w : World) (b : Nat) (v : Value) (xs : List Value) : Prop where
  cell : w.cell? ⟨b, 0, none⟩ = some v
  own : w.ownsRow 0 3 1 v xs.length xs
theorem Ext3.lt {w : World} {b : Nat} {v : Value} {xs : List Value} (h : Ext3 w b v xs) : b < w.heap.size := block_lt_of_cell h.cell
theorem Ext3.kept {w w' : World} {b : Nat} {v : Value} {xs : List Value} (h : Ext3 w b v xs) (h1 : w'.heap[b]? = w.heap[b]?) (h2 : ∀ k, v.ownBlock = some k → w'.heap[k]? = w.heap[k]?) : Ext3 w' b v xs :=
  ⟨(World.cell?_of_block (a := ⟨b, 0, none⟩) h1).trans h.cell, own_kept h.own h2⟩
theorem Ext3.left {G : Nat → Prop} {B : Nat} {w w' : World} {b : Nat} {v : Value} {xs : List Value} (h : Ext3 w b v xs) (hl : Left G B w w') (h1 : G b ∨ B ≤ b) (h2 : ∀ k, v.ownBlock = some k → G k ∨ B ≤ k) : Ext3 w' b v xs :=
  h.kept (hl.block b h.lt h1) (fun k e => hl.block k (h.own.lt k e).2 (h2 k e))
theorem Ext3.below {w w' : World} {b : Nat} {v : Value} {xs : List Value} (h : Ext3 w b v xs) (hl : Below w.heap.size w w') : Ext3 w' b v xs :=
  h.kept (hl.block b h.lt) (fun k e => hl.block k (h.own.lt k e).2)
theorem Ext3.drew {w : World} {b n : Nat} {v : Value} {xs : List Value} (h : Ext3 w b v xs) : Ext3 (w.drewN n) b v xs := h.kept rfl (fun _ _ => rfl)

set_option maxRecDepth 100000 in
set_option maxHeartbeats 2000000 in
theorem numbers1_in (n : Nat) (hn : 1 ≤ n) (l p b : Nat) (v : Value) (xs : List Value) (hxl : xs.length < 9223372036854775807) (G : Nat → Prop) (hp : G p) (hb : G b) (hv : ∀ k, v.ownBlock = some k → G k) (J Jx : Nat → World → Prop)
    (B : Nat) (hY : ∀ k W1, J k W1 → B ≤ W1.heap.size → k < xs.length → YieldAt Fence.wide (n - 1) Try.prog l #[.int .i64 k] W1 fun e W' =>
      (e = .returned (.bool true) ∧ J (k + 1) W' ∧ Left G B W1 W') ∨ (e = .returned (.bool false) ∧ Jx (k + 1) W' ∧ Left (fun _ => False) B W1 W'))
    (W : World) (hB : B ≤ W.heap.size) (hbox : Blk W p #[.pointer (some ⟨b, 0, none⟩)] 77) (hx : Ext3 W b v xs) (h0 : J 0 W) :
    CallsIn Fence.wide n Try.prog 51 #[.func (.yield l) #[] #[], .pointer (some ⟨p, 0, none⟩)] W fun e W' => (∃ v, e = .returned v) ∧ (J xs.length W' ∨ ∃ k, k ≤ xs.length ∧ Jx k W') := by
  obtain ⟨A, c, rfl, _, _⟩ := own_slice hx.own
  have HX := Lib.hid hx
  have HY := Lib.hid hY
  have H0 := Lib.hid h0
  have HV := Lib.hid hv
  have HB := Lib.hid hbox
  have HSZ := Lib.hid hB
  have c0 := hbox.cell 0
  have HC := Lib.hid (i_count_any b xs.length c A W hx.cell)
  have HP := Lib.hid hp
  have HG := Lib.hid hb
  clear hx hY h0 hv hbox hp hb hB
  refine callsIn_of_wp Try.func51 rfl trivial ?_ rfl
  simp only [Try.ntmps51, List.size_toArray, List.length_cons, List.length_nil, Nat.reduceAdd, Nat.reduceSub, Array.replicate_succ, Array.replicate_zero, List.push_toArray, List.append_toArray, List.nil_append, List.cons_append]
  gi_wp2_with (refine ⟨trivial, ?_⟩; gi_at_call 37; refine (callsIn_wide.2 HC.out).mono ?_; rintro e w1 ⟨rfl, rfl⟩)
  clear c0
  gi_loopw [6] (fun i wr => ∃ k : Nat, k ≤ xs.length ∧ i = .int .i64 k ∧ J k wr ∧ Blk wr p #[.pointer (some ⟨b, 0, none⟩)] 77 ∧ Ext3 wr b (.slice A xs.length c) xs ∧ B ≤ wr.heap.size)
    (fun i _ => xs.length - (intOf i).toNat)
  case atStart => exact ⟨0, by omega, rfl, H0.out, HB.out, HX.out, HSZ.out⟩
  case round =>
    obtain ⟨k, hk, rfl, hJ, hbx, hx, hz⟩ := hrel
    by_cases hlt : k < xs.length
    · have c0 := hbx.cell 0
      have HH := Lib.hid (i_has_any b xs.length c A k wr hx.cell)
      have hd : (decide ((0 : Int) ≤ k) && decide ((k : Int) < xs.length)) = true := by simp; omega
      rw [hd] at HH
      have hlt2 : (k : Int) < xs.length := by omega
      obtain ⟨fn, tmps, assign, body, hy, hR⟩ := HY.out k wr hJ hz hlt
      have HR := Lib.hid hR
      have HBX := Lib.hid hbx
      have HXX := Lib.hid hx
      have HZ := Lib.hid hz
      clear hR hbx hx hJ hd hz
      gi_wp2_with (refine ⟨trivial, ?_⟩; gi_at_call 39; refine (callsIn_wide.2 HH.out).mono ?_; rintro e w1 ⟨rfl, rfl⟩)
      refine HR.out.mono ?_
      rintro e W3 (⟨rfl, hJ3, hl3⟩ | ⟨rfl, hJx3, hz3⟩)
      · have hb3 : Blk W3 p #[.pointer (some ⟨b, 0, none⟩)] 77 := (hl3.block p HBX.out.lt (.inl HP.out)).trans HBX.out
        have hx3 := HXX.out.left hl3 (.inl HG.out) (fun j e => .inl (HV.out j e))
        have HB3 := Lib.hid hb3
        have HX3 := Lib.hid hx3
        have HJ3 := Lib.hid hJ3
        have HZ3 : RowKit.Hid (B ≤ W3.heap.size) := Lib.hid (Nat.le_trans HZ.out hl3.size)
        clear hb3 hx3 hJ3 hl3 hy c0
        gi_wp2_with fail
        go_roundw
        case rel => exact ⟨k + 1, by omega, by go_num, HJ3.out, HB3.out, HX3.out, HZ3.out⟩
        case measure => simp [intOf]; omega
      · have HJ3 := Lib.hid hJx3
        clear hJx3 hy c0
        gi_wp2_with fail
        refine bodyPost_ret (results_none rfl _ _ _) rfl ?_
        exact ⟨⟨_, rfl⟩, .inr ⟨k + 1, by omega, HJ3.out⟩⟩
    · obtain rfl : k = xs.length := by omega
      have HJ3 := Lib.hid hJ
      clear hJ hbx hx
      gi_wp2_with fail
      go_end0
      exact ⟨⟨_, rfl⟩, .inl HJ3.out⟩

theorem numbers_any (b : Nat) (w : World) : Calls Try.prog 43 #[.pointer (some ⟨b, 0, none⟩)] w fun e w' => e = .returned (.func (.func 51) #[] #[.pointer (some ⟨w.heap.size, 0, none⟩)]) ∧ w' = w.alloc (.cells #[.pointer (some ⟨b, 0, none⟩)] 77) := by
  go_enter Try.func43, Try.ntmps43
  go_wp2_with fail
  go_ret
  exact ⟨rfl, rfl⟩
end Go.Proofs.Ytfcacgiejoeneaa
namespace Go.Proofs.Ytfcacgiejoeneaa
open Go Go.RowKit Go.Shelf
attribute [local go_sem] Oper.semAt_some

theorem mixed : Try.prog.follows .mixedOrders = true := by kernel_rfl
theorem Ext3.low {w w' : World} {b B : Nat} {v : Value} {xs : List Value} (h : Ext3 w b v xs) (hb : Below B w w') (h1 : b < B) (h2 : ∀ k, v.ownBlock = some k → k < B) : Ext3 w' b v xs :=
  h.kept (hb.block b h1) (fun k e => hb.block k (h2 k e))
theorem numbers_seq (n : Nat) (hn : 1 ≤ n) (p b : Nat) (v : Value) (xs : List Value) (hxl : xs.length < 9223372036854775807) (G : Nat → Prop) (hp : G p) (hb : G b) (hv : ∀ k, v.ownBlock = some k → G k) (w : World)
    (hbox : Blk w p #[.pointer (some ⟨b, 0, none⟩)] 77) (hx : Ext3 w b v xs) : SeqN n Try.prog 51 #[.pointer (some ⟨p, 0, none⟩)] (fun k => #[.int .i64 k]) xs.length G w :=
  fun l J Jx W hW hJ hJx hY h0 => numbers1_in n hn l p b v xs hxl G hp hb hv J Jx W.heap.size hY W (Nat.le_refl _) (hbox.below' hW) (hx.below hW) h0
theorem round_any {m m' : Nat} {P : Program} {l : Nat} {f : FuncId} {tmps : Array Value} {assign body : Code} {w : World} {R : Ending → World → Prop}
    (h : RoundIn Fence.wide m P l f tmps assign body w R) : RoundIn Fence.wide m' P l f tmps assign body w R := ⟨h.1, fun c cs _ => h.2 c cs (fun d h => by cases h)⟩
set_option maxRecDepth 100000 in
set_option maxHeartbeats 2000000 in
theorem all1_in (n : Nat) (hn : 6 ≤ n) (l cb b : Nat) (v : Value) (xs : List Value) (hxl : xs.length < 9223372036854775807) (G : Nat → Prop) (hcb : G cb) (hb : G b) (hv : ∀ k, v.ownBlock = some k → G k) (J Jx : Nat → World → Prop)
    (W : World) (hJ : Low W.heap.size J) (hJx : Low W.heap.size Jx)
    (hY : ∀ k W1, J k W1 → W.heap.size ≤ W1.heap.size → k < xs.length → YieldAt Fence.wide (n - 1) Try.prog l #[.int .i64 k, xs.getD k undef] W1 fun e W' =>
      (e = .returned (.bool true) ∧ J (k + 1) W' ∧ Left G W.heap.size W1 W') ∨ (e = .returned (.bool false) ∧ Jx (k + 1) W' ∧ Left (fun _ => False) W.heap.size W1 W'))
    (hbox : Blk W cb #[.pointer (some ⟨b, 0, none⟩)] 25) (hx : Ext3 W b v xs) (h0 : J 0 W) :
    CallsIn Fence.wide n Try.prog 42 #[.func (.yield l) #[] #[], .pointer (some ⟨cb, 0, none⟩)] W fun e W' => (∃ v, e = .returned v) ∧ (J xs.length W' ∨ ∃ k, k ≤ xs.length ∧ Jx k W') := by
  have h1 : 1 ≤ n := by omega
  have c0 : (W.alloc (.cells #[.func (.yield l) #[] #[]] 65)).cell? ⟨cb, 0, none⟩ = some (.pointer (some ⟨b, 0, none⟩)) := (hbox.alloc _).cell 0
  have HX := Lib.hid hx
  have HY := Lib.hid hY
  have H0 := Lib.hid h0
  have HV := Lib.hid hv
  have HB := Lib.hid hbox
  have HP := Lib.hid hcb
  have HG := Lib.hid hb
  have HJ := Lib.hid hJ
  have HJx := Lib.hid hJx
  clear hx hY h0 hv hbox hcb hb hJ hJx
  refine callsIn_of_wp_marks Try.func42 rfl trivial ?_ rfl
  simp only [Try.ntmps42, List.size_toArray, List.length_cons, List.length_nil, Nat.reduceAdd, Nat.reduceSub, Array.replicate_succ, Array.replicate_zero, List.push_toArray, List.append_toArray, List.nil_append, List.cons_append]
  gi_wp2_with (refine ⟨trivial, ?_⟩; gi_at_call 43; refine (callsIn_wide.2 (numbers_any _ _)).mono ?_; rintro e w1 ⟨rfl, rfl⟩)
  have hY1 := Blk.new W #[.func (.yield l) #[] #[]] 65
  have hY2 := hY1.alloc (.cells #[.pointer (some ⟨b, 0, none⟩)] 77)
  have hP2 := Blk.new (W.alloc (.cells #[.func (.yield l) #[] #[]] 65)) #[.pointer (some ⟨b, 0, none⟩)] 77
  have hb2 := B2 W (.cells #[.func (.yield l) #[] #[]] 65) (.cells #[.pointer (some ⟨b, 0, none⟩)] 77)
  have hsz : ((W.alloc (.cells #[.func (.yield l) #[] #[]] 65)).alloc (.cells #[.pointer (some ⟨b, 0, none⟩)] 77)).heap.size = W.heap.size + 2 := by simp
  have hp3 : (W.alloc (.cells #[.func (.yield l) #[] #[]] 65)).heap.size = W.heap.size + 1 := by simp
  rw [hp3] at hP2
  generalize hW2 : (W.alloc (.cells #[.func (.yield l) #[] #[]] 65)).alloc (.cells #[.pointer (some ⟨b, 0, none⟩)] 77) = W2 at hY2 hP2 hb2 hsz ⊢
  clear hW2 hY1 hp3
  have hcl : cb < W2.heap.size := by have := HB.out.lt; omega
  have hbl : b < W2.heap.size := by have := HX.out.lt; omega
  have hvl : RowKit.Hid (∀ k, v.ownBlock = some k → k < W2.heap.size) := Lib.hid (fun k e => by have := (HX.out.own.lt k e).2; omega)
  have HB2 := Lib.hid (HB.out.below' hb2)
  have HX2 := Lib.hid (HX.out.below hb2)
  have HY2 := Lib.hid hY2
  have HJ2 := Lib.hid (HJ.out 0 _ _ H0.out hb2)
  refine wpIn_rangeFunc_n h1 (gf := 51) (lb := #[.pointer (some ⟨W.heap.size + 1, 0, none⟩)]) rfl (enters_of Try.func51 (by kernel_rfl) rfl)
    (numbers_seq (n - 1) (by omega) (W.heap.size + 1) b v xs hxl (fun k => k < W2.heap.size ∧ (G k ∨ W.heap.size ≤ k)) ⟨by omega, .inr (by omega)⟩ ⟨hbl, .inl HG.out⟩ (fun k e => ⟨hvl.out k e, .inl (HV.out k e)⟩) W2 hP2 HX2.out)
    (Below.refl _ _) (fun _ => rfl) (fun k h => h.1)
    (fun k W' => J k W' ∧ Blk W' cb #[.pointer (some ⟨b, 0, none⟩)] 25 ∧ Ext3 W' b v xs ∧ Blk W' W.heap.size #[.func (.yield l) #[] #[]] 65)
    (fun c k W' => c = .ret ∧ Jx k W')
    ?low ?lowx ⟨HJ2.out, HB2.out, HX2.out, HY2.out⟩
    (fun k => { tmps := #[.func (.yield l) #[] #[], .pointer (some ⟨cb, 0, none⟩), .pointer (some ⟨W.heap.size, 0, none⟩), .int .i64 k, .pointer (some ⟨b, 0, none⟩), .pointer (some ⟨b, 0, none⟩), .pointer (some ⟨b, 0, none⟩), .func (.func 51) #[] #[.pointer (some ⟨W.heap.size + 1, 0, none⟩)], .int .i64 k, undef, undef, undef, undef, undef, undef, undef, undef, undef, undef, undef, undef], defers := [] }) ?assign ?body ?done ?stop
  case low =>
    rintro k A A' ⟨h2, h3, h4, h5⟩ hb
    exact ⟨HJ.out k _ _ h2 (hb.mono (by omega)), h3.below hb hcl, h4.low hb hbl hvl.out, h5.below hb (by omega)⟩
  case lowx =>
    rintro c k A A' ⟨h2, h3⟩ hb
    exact ⟨h2, HJx.out k _ _ h3 (hb.mono (by omega))⟩
  case assign =>
    intro l k W K hK
    gi_wp2
    exact hK
  case body =>
    rintro l2 k W3 ⟨hJk, hc, hx, hy⟩ hz hk
    have c1 : W3.cell? ⟨cb, 0, none⟩ = some (.pointer (some ⟨b, 0, none⟩)) := hc.cell 0
    have c2 : W3.cell? ⟨W.heap.size, 0, none⟩ = some (.func (.yield l) #[] #[]) := hy.cell 0
    have c3 := hx.cell
    have d1 : xs[k]? = some (xs.getD k undef) := by simp [List.getD, List.getElem?_eq_getElem hk]
    obtain ⟨g, cap, rfl, _, hcap, _⟩ := own_shape hx.own (by omega)
    have c4 := (hx.own.cellAt k (by omega)).trans d1
    have hk2 : (k : Int) < xs.length := by omega
    have hJd : J k W3.drew := HJ.out k _ _ hJk (bdrew1 (Below.refl _ _))
    obtain ⟨fn, tmps, assign, body, hyl, hR⟩ := HY.out k W3.drew hJd (by show W.heap.size ≤ W3.heap.size; omega) hk
    generalize xs.getD k undef = x at hyl hR c4
    have hm := mixed
    have HR : RowKit.Hid (RoundIn Fence.wide (n - 1 - 1 - 1) Try.prog l fn tmps assign body W3.drew (fun e W' => ∃ r : Bool, e = .returned (.bool r) ∧ ((r = true ∧ J (k + 1) W' ∧ Left G W.heap.size W3.drew W') ∨ (r = false ∧ Jx (k + 1) W' ∧ Left (fun _ => False) W.heap.size W3.drew W')))) :=
      Lib.hid (round_any (hR.mono (fun e W' h => by
        rcases h with ⟨h1, h2⟩ | ⟨h1, h2⟩
        · exact ⟨true, h1, .inl ⟨rfl, h2⟩⟩
        · exact ⟨false, h1, .inr ⟨rfl, h2⟩⟩)))
    have HC := Lib.hid hc
    have HX3 := Lib.hid hx
    have HY3 := Lib.hid hy
    have HSZ := Lib.hid hsz
    have hge : 1 ≤ n - 1 - 1 := by omega
    clear hR hc hx hy hJk hJd d1 c0 hY2 hP2 hb2 hsz hcl hbl hz h1 hn HB2 HX2 HY2 HJ2 H0 hvl
    gi_wp2_with fail
    refine wpIn_region_round hm (by kernel_rfl) ?_
    simp only [List.size_toArray, List.length_cons, List.length_nil, Nat.reduceAdd]
    refine wpAnyIn_take (i := 1) (v := ?_) rfl rfl (by kernel_rfl) (by kernel_rfl) (by kernel_rfl) (fun _ _ _ h => h) ⟨Or.inl ⟨by rfl, ?_⟩, fun _ => rfl⟩ ?_
    rotate_left
    · intro w; go_simp; try with_reducible rfl
    refine wpAnyIn_take (i := 7) (v := ?_) rfl rfl (by kernel_rfl) (by kernel_rfl) (by kernel_rfl) (fun _ _ _ h => h) ⟨Or.inl ⟨by rfl, ?_⟩, fun _ => rfl⟩ ?_
    rotate_left
    · intro w; go_simp; try with_reducible rfl
    refine wpAnyIn_ready (rs := [0, 2]) (by kernel_rfl) (by simp) ?_
    refine AllReadyIn.cons rfl (fun K hK => ?_) ?_
    · go_simp
      refine hK _ _ ?_
      clear hK K
      refine wpAnyIn_ready (rs := [2]) (by kernel_rfl) (by simp) ?_
      refine AllReadyIn.cons rfl (fun K hK => ?_) ?_
      · go_simp
        refine hK _ _ ?_
        clear hK K
        refine wpAnyIn_take (i := 3) (v := ?_) rfl rfl (by kernel_rfl) (by kernel_rfl) (by kernel_rfl) (fun _ _ _ h => h) ⟨Or.inl ⟨by rfl, ?_⟩, fun _ => rfl⟩ ?_
        rotate_left
        · intro w; go_simp; try with_reducible rfl
        refine wpAnyIn_take (i := 4) (v := ?_) rfl rfl (by kernel_rfl) (by kernel_rfl) (by kernel_rfl) (fun _ _ _ h => h) ⟨Or.inl ⟨by rfl, ?_⟩, fun _ => rfl⟩ ?_
        rotate_left
        · intro w; go_simp; try with_reducible rfl
        refine wpAnyIn_take (i := 5) (v := ?_) rfl rfl (by kernel_rfl) (by kernel_rfl) (by kernel_rfl) (fun _ _ _ h => h) ⟨Or.inl ⟨by rfl, ?_⟩, fun _ => rfl⟩ ?_
        rotate_left
        · intro w; go_simp; try with_reducible rfl
        refine wpAnyIn_ready (rs := [6]) (by kernel_rfl) (by simp) ?_
        refine AllReadyIn.cons rfl (fun K hK => ?_) ?_
        · go_simp
          refine hK _ _ ?_
          clear hK K
          refine wpAnyIn_take (i := 8) (v := ?_) rfl rfl (by kernel_rfl) (by kernel_rfl) (by kernel_rfl) (fun _ _ _ h => h) ⟨Or.inl ⟨by rfl, ?_⟩, fun _ => rfl⟩ ?_
          rotate_left
          · intro w; go_simp; try with_reducible rfl
          refine wpAnyIn_ready (rs := [9]) (by kernel_rfl) (by simp) ?_
          refine AllReadyIn.cons rfl (fun K hK => ?_) ?_
          · go_simp
            refine hK _ _ ?_
            clear hK K
            refine wpAnyIn_ready (rs := [10]) (by kernel_rfl) (by simp) ?_
            refine AllReadyIn.cons rfl (fun K hK => ?_) ?_
            · go_simp
              refine HR.out.mono ?_
              rintro e W4 ⟨r, rfl, hr4⟩
              have HR4 := Lib.hid hr4
              clear hr4
              try go_simp
              refine hK _ _ ?_
              clear hK K
              refine wpAnyIn_take (i := 11) (v := ?_) rfl rfl (by kernel_rfl) (by kernel_rfl) (by kernel_rfl) (fun _ _ _ h => h) ⟨Or.inl ⟨by rfl, ?_⟩, fun _ => rfl⟩ ?_
              rotate_left
              · intro w; go_simp; try with_reducible rfl
              refine wpAnyIn_done (by kernel_rfl) ?_ _
              cases r with
              | true =>
                rcases HR4.out with ⟨_, hJ4, hl4⟩ | ⟨h, _⟩
                · have HJ4 := Lib.hid hJ4
                  have HL4 : RowKit.Hid (Left G W.heap.size W3 W4) := Lib.hid ⟨hl4.size, hl4.block⟩
                  clear hJ4 hl4
                  gi_wp2_with fail
                  exact ⟨HL4.out.mono (fun j _ h => by rcases h with h | h; exact h.2; exact .inr (by have := HSZ.out; omega)), HJ4.out, (HL4.out.block cb HC.out.lt (.inl HP.out)).trans HC.out, HX3.out.left HL4.out (.inl HG.out) (fun j e => .inl (HV.out j e)), (HL4.out.block _ HY3.out.lt (.inr (Nat.le_refl _))).trans HY3.out⟩
                · cases h
              | false =>
                rcases HR4.out with ⟨h, _⟩ | ⟨_, hJ4, hl4⟩
                · cases h
                · have HJ4 := Lib.hid hJ4
                  have HL4 : RowKit.Hid (Left (fun _ => False) W.heap.size W3 W4) := Lib.hid ⟨hl4.size, hl4.block⟩
                  clear hJ4 hl4
                  gi_wp2_with fail
                  exact ⟨HL4.out.mono (fun j _ h => by rcases h with h | h; exact h.elim; exact .inr (by have := HSZ.out; omega)), rfl, HJ4.out⟩
            exact AllReadyIn.nil
          exact AllReadyIn.nil
        exact AllReadyIn.nil
      exact AllReadyIn.nil
    refine AllReadyIn.cons rfl (fun K hK => ?_) ?_
    · go_simp
      refine hK _ _ ?_
      clear hK K
      refine wpAnyIn_take (i := 3) (v := ?_) rfl rfl (by kernel_rfl) (by kernel_rfl) (by kernel_rfl) (fun _ _ _ h => h) ⟨Or.inl ⟨by rfl, ?_⟩, fun _ => rfl⟩ ?_
      rotate_left
      · intro w; go_simp; try with_reducible rfl
      refine wpAnyIn_take (i := 4) (v := ?_) rfl rfl (by kernel_rfl) (by kernel_rfl) (by kernel_rfl) (fun _ _ _ h => h) ⟨Or.inl ⟨by rfl, ?_⟩, fun _ => rfl⟩ ?_
      rotate_left
      · intro w; go_simp; try with_reducible rfl
      refine wpAnyIn_take (i := 5) (v := ?_) rfl rfl (by kernel_rfl) (by kernel_rfl) (by kernel_rfl) (fun _ _ _ h => h) ⟨Or.inl ⟨by rfl, ?_⟩, fun _ => rfl⟩ ?_
      rotate_left
      · intro w; go_simp; try with_reducible rfl
      refine wpAnyIn_ready (rs := [0, 6]) (by kernel_rfl) (by simp) ?_
      refine AllReadyIn.cons rfl (fun K hK => ?_) ?_
      · go_simp
        refine hK _ _ ?_
        clear hK K
        refine wpAnyIn_ready (rs := [6]) (by kernel_rfl) (by simp) ?_
        refine AllReadyIn.cons rfl (fun K hK => ?_) ?_
        · go_simp
          refine hK _ _ ?_
          clear hK K
          refine wpAnyIn_take (i := 8) (v := ?_) rfl rfl (by kernel_rfl) (by kernel_rfl) (by kernel_rfl) (fun _ _ _ h => h) ⟨Or.inl ⟨by rfl, ?_⟩, fun _ => rfl⟩ ?_
          rotate_left
          · intro w; go_simp; try with_reducible rfl
          refine wpAnyIn_ready (rs := [9]) (by kernel_rfl) (by simp) ?_
          refine AllReadyIn.cons rfl (fun K hK => ?_) ?_
          · go_simp
            refine hK _ _ ?_
            clear hK K
            refine wpAnyIn_ready (rs := [10]) (by kernel_rfl) (by simp) ?_
            refine AllReadyIn.cons rfl (fun K hK => ?_) ?_
            · go_simp
              refine HR.out.mono ?_
              rintro e W4 ⟨r, rfl, hr4⟩
              have HR4 := Lib.hid hr4
              clear hr4
              try go_simp
              refine hK _ _ ?_
              clear hK K
              refine wpAnyIn_take (i := 11) (v := ?_) rfl rfl (by kernel_rfl) (by kernel_rfl) (by kernel_rfl) (fun _ _ _ h => h) ⟨Or.inl ⟨by rfl, ?_⟩, fun _ => rfl⟩ ?_
              rotate_left
              · intro w; go_simp; try with_reducible rfl
              refine wpAnyIn_done (by kernel_rfl) ?_ _
              cases r with
              | true =>
                rcases HR4.out with ⟨_, hJ4, hl4⟩ | ⟨h, _⟩
                · have HJ4 := Lib.hid hJ4
                  have HL4 : RowKit.Hid (Left G W.heap.size W3 W4) := Lib.hid ⟨hl4.size, hl4.block⟩
                  clear hJ4 hl4
                  gi_wp2_with fail
                  exact ⟨HL4.out.mono (fun j _ h => by rcases h with h | h; exact h.2; exact .inr (by have := HSZ.out; omega)), HJ4.out, (HL4.out.block cb HC.out.lt (.inl HP.out)).trans HC.out, HX3.out.left HL4.out (.inl HG.out) (fun j e => .inl (HV.out j e)), (HL4.out.block _ HY3.out.lt (.inr (Nat.le_refl _))).trans HY3.out⟩
                · cases h
              | false =>
                rcases HR4.out with ⟨h, _⟩ | ⟨_, hJ4, hl4⟩
                · cases h
                · have HJ4 := Lib.hid hJ4
                  have HL4 : RowKit.Hid (Left (fun _ => False) W.heap.size W3 W4) := Lib.hid ⟨hl4.size, hl4.block⟩
                  clear hJ4 hl4
                  gi_wp2_with fail
                  exact ⟨HL4.out.mono (fun j _ h => by rcases h with h | h; exact h.elim; exact .inr (by have := HSZ.out; omega)), rfl, HJ4.out⟩
            exact AllReadyIn.nil
          exact AllReadyIn.nil
        exact AllReadyIn.nil
      refine AllReadyIn.cons rfl (fun K hK => ?_) ?_
      · go_simp
        refine hK _ _ ?_
        clear hK K
        refine wpAnyIn_take (i := 8) (v := ?_) rfl rfl (by kernel_rfl) (by kernel_rfl) (by kernel_rfl) (fun _ _ _ h => h) ⟨Or.inl ⟨by rfl, ?_⟩, fun _ => rfl⟩ ?_
        rotate_left
        · intro w; go_simp; try with_reducible rfl
        refine wpAnyIn_ready (rs := [0, 9]) (by kernel_rfl) (by simp) ?_
        refine AllReadyIn.cons rfl (fun K hK => ?_) ?_
        · go_simp
          refine hK _ _ ?_
          clear hK K
          refine wpAnyIn_ready (rs := [9]) (by kernel_rfl) (by simp) ?_
          refine AllReadyIn.cons rfl (fun K hK => ?_) ?_
          · go_simp
            refine hK _ _ ?_
            clear hK K
            refine wpAnyIn_ready (rs := [10]) (by kernel_rfl) (by simp) ?_
            refine AllReadyIn.cons rfl (fun K hK => ?_) ?_
            · go_simp
              refine HR.out.mono ?_
              rintro e W4 ⟨r, rfl, hr4⟩
              have HR4 := Lib.hid hr4
              clear hr4
              try go_simp
              refine hK _ _ ?_
              clear hK K
              refine wpAnyIn_take (i := 11) (v := ?_) rfl rfl (by kernel_rfl) (by kernel_rfl) (by kernel_rfl) (fun _ _ _ h => h) ⟨Or.inl ⟨by rfl, ?_⟩, fun _ => rfl⟩ ?_
              rotate_left
              · intro w; go_simp; try with_reducible rfl
              refine wpAnyIn_done (by kernel_rfl) ?_ _
              cases r with
              | true =>
                rcases HR4.out with ⟨_, hJ4, hl4⟩ | ⟨h, _⟩
                · have HJ4 := Lib.hid hJ4
                  have HL4 : RowKit.Hid (Left G W.heap.size W3 W4) := Lib.hid ⟨hl4.size, hl4.block⟩
                  clear hJ4 hl4
                  gi_wp2_with fail
                  exact ⟨HL4.out.mono (fun j _ h => by rcases h with h | h; exact h.2; exact .inr (by have := HSZ.out; omega)), HJ4.out, (HL4.out.block cb HC.out.lt (.inl HP.out)).trans HC.out, HX3.out.left HL4.out (.inl HG.out) (fun j e => .inl (HV.out j e)), (HL4.out.block _ HY3.out.lt (.inr (Nat.le_refl _))).trans HY3.out⟩
                · cases h
              | false =>
                rcases HR4.out with ⟨h, _⟩ | ⟨_, hJ4, hl4⟩
                · cases h
                · have HJ4 := Lib.hid hJ4
                  have HL4 : RowKit.Hid (Left (fun _ => False) W.heap.size W3 W4) := Lib.hid ⟨hl4.size, hl4.block⟩
                  clear hJ4 hl4
                  gi_wp2_with fail
                  exact ⟨HL4.out.mono (fun j _ h => by rcases h with h | h; exact h.elim; exact .inr (by have := HSZ.out; omega)), rfl, HJ4.out⟩
            exact AllReadyIn.nil
          exact AllReadyIn.nil
        refine AllReadyIn.cons rfl (fun K hK => ?_) ?_
        · go_simp
          refine hK _ _ ?_
          clear hK K
          refine wpAnyIn_ready (rs := [0]) (by kernel_rfl) (by simp) ?_
          refine AllReadyIn.cons rfl (fun K hK => ?_) ?_
          · go_simp
            refine hK _ _ ?_
            clear hK K
            refine wpAnyIn_ready (rs := [10]) (by kernel_rfl) (by simp) ?_
            refine AllReadyIn.cons rfl (fun K hK => ?_) ?_
            · go_simp
              refine HR.out.mono ?_
              rintro e W4 ⟨r, rfl, hr4⟩
              have HR4 := Lib.hid hr4
              clear hr4
              try go_simp
              refine hK _ _ ?_
              clear hK K
              refine wpAnyIn_take (i := 11) (v := ?_) rfl rfl (by kernel_rfl) (by kernel_rfl) (by kernel_rfl) (fun _ _ _ h => h) ⟨Or.inl ⟨by rfl, ?_⟩, fun _ => rfl⟩ ?_
              rotate_left
              · intro w; go_simp; try with_reducible rfl
              refine wpAnyIn_done (by kernel_rfl) ?_ _
              cases r with
              | true =>
                rcases HR4.out with ⟨_, hJ4, hl4⟩ | ⟨h, _⟩
                · have HJ4 := Lib.hid hJ4
                  have HL4 : RowKit.Hid (Left G W.heap.size W3 W4) := Lib.hid ⟨hl4.size, hl4.block⟩
                  clear hJ4 hl4
                  gi_wp2_with fail
                  exact ⟨HL4.out.mono (fun j _ h => by rcases h with h | h; exact h.2; exact .inr (by have := HSZ.out; omega)), HJ4.out, (HL4.out.block cb HC.out.lt (.inl HP.out)).trans HC.out, HX3.out.left HL4.out (.inl HG.out) (fun j e => .inl (HV.out j e)), (HL4.out.block _ HY3.out.lt (.inr (Nat.le_refl _))).trans HY3.out⟩
                · cases h
              | false =>
                rcases HR4.out with ⟨h, _⟩ | ⟨_, hJ4, hl4⟩
                · cases h
                · have HJ4 := Lib.hid hJ4
                  have HL4 : RowKit.Hid (Left (fun _ => False) W.heap.size W3 W4) := Lib.hid ⟨hl4.size, hl4.block⟩
                  clear hJ4 hl4
                  gi_wp2_with fail
                  exact ⟨HL4.out.mono (fun j _ h => by rcases h with h | h; exact h.elim; exact .inr (by have := HSZ.out; omega)), rfl, HJ4.out⟩
            exact AllReadyIn.nil
          exact AllReadyIn.nil
        exact AllReadyIn.nil
      exact AllReadyIn.nil
    exact AllReadyIn.nil
  case done =>
    rintro D W3 hD ⟨hJk, _⟩ hK
    have HJk := Lib.hid (HJ.out _ _ _ hJk (below_putObj W3 D _ (.deferred none) (by omega)))
    clear hJk HB2 HX2 HY2 HJ2
    gi_wp2
    refine ⟨by simp, .inl ⟨_, _, rfl, run_takeDeferred hK, ?_⟩⟩
    exact ⟨_, results_none rfl _ _ _, ⟨_, rfl⟩, .inl HJk.out⟩
  case stop =>
    rintro D c k W3 hD hk ⟨rfl, hJk⟩ hK
    have HJk := Lib.hid (HJx.out _ _ _ hJk (below_putObj W3 D _ (.deferred none) (by omega)))
    clear hJk HB2 HX2 HY2 HJ2
    gi_wp2
    refine ⟨by simp, .inl ⟨_, _, rfl, run_takeDeferred hK, ?_⟩⟩
    exact ⟨_, results_none rfl _ _ _, ⟨_, rfl⟩, .inr ⟨k, hk, HJk.out⟩⟩

theorem all_seq (n : Nat) (hn : 6 ≤ n) (cb b : Nat) (v : Value) (xs : List Value) (hxl : xs.length < 9223372036854775807) (G : Nat → Prop) (hcb : G cb) (hb : G b) (hv : ∀ k, v.ownBlock = some k → G k) (w : World)
    (hbox : Blk w cb #[.pointer (some ⟨b, 0, none⟩)] 25) (hx : Ext3 w b v xs) : SeqN n Try.prog 42 #[.pointer (some ⟨cb, 0, none⟩)] (fun k => #[.int .i64 k, xs.getD k undef]) xs.length G w :=
  fun l J Jx W hW hJ hJx hY h0 => all1_in n hn l cb b v xs hxl G hcb hb hv J Jx W hJ hJx hY (hbox.below' hW) (hx.below hW) h0
theorem all_any (b : Nat) (most peak : Int) (v : Value) (xs : List Value) (base : Nat) (w : World) (h : Ar 61 3 w base b most peak v xs) :
    Calls Try.prog 21 #[.pointer (some ⟨b, 0, none⟩)] w fun e w' => e = .returned (.func (.func 42) #[] #[.pointer (some ⟨w.heap.size, 0, none⟩)]) ∧ w' = w.alloc (.cells #[.pointer (some ⟨b, 0, none⟩)] 25) := by
  have K := Lib.hid (i_known_any b most peak _ xs base w h)
  clear h
  go_enter Try.func21, Try.ntmps21
  go_wp2_with (go_at_call 41; refine K.out.mono ?_; rintro e w1 ⟨rfl, rfl⟩)
  go_ret
  exact ⟨rfl, rfl⟩
theorem noa_all (p : Option Addr) (w : World) (h : Noa w p) :
    Calls Try.prog 21 #[.pointer p] w fun e w' => ∃ cb b, e = .returned (.func (.func 42) #[] #[.pointer (some ⟨cb, 0, none⟩)]) ∧ Below w.heap.size w w' ∧ Blk w' cb #[.pointer (some ⟨b, 0, none⟩)] 25 ∧ Ext3 w' b (.slice none 0 0) [] ∧ w.heap.size ≤ cb ∧ w.heap.size ≤ b := by
  have K := Lib.hid (noa_known p w h)
  clear h
  go_enter Try.func21, Try.ntmps21
  go_wp2_with (go_at_call 41; refine K.out.mono ?_; rintro e w1 ⟨rfl, hB, hb⟩; have HB := Lib.hid hB; have Hb := Lib.hid hb; clear hB hb)
  go_ret
  exact ⟨w1.heap.size, w.heap.size, rfl, Hb.out.alloc Hb.out.size _, Blk.new _ _ _, ⟨(HB.out.alloc _).cell 0, World.ownsRow_nil _ _ _ _⟩, Hb.out.size, Nat.le_refl _⟩
end Go.Proofs.Ytfcacgiejoeneaa

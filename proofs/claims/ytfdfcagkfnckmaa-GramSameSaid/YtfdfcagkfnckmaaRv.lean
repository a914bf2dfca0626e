/- The law of ranges over a function whose values are laid into a variable in memory, anew in each round. Nothing here speaks of one program. -/
import Derived.Test.YtfdfcagkfnckmaaRw
namespace Go.Proofs.Ytfdfcagkfnckmaa
open Go Go.RowKit
variable {P : Program}
theorem wpIn_rangeFunc_x {n : Nat} {g : Operand} {ps : Array Tmp} {assign body : Code} {Q : Exit → Act → World → Prop} {a : Act} {w : World} (h1 : 1 ≤ n) {gf : Nat} {lb : Array Value}
    (hg : a.eval g = .func (.func gf) #[] lb) (eg : ∀ args w, (callFunc gf args).run P w = .ok (.enter gf args) w) {encs : Nat → Array Value} {N : Nat} {G : Nat → Prop} {w0 : World}
    (hseq : SeqN (n - 1) P gf lb encs N G w0) (hb0 : Below w0.heap.size w0 w) (hps : ∀ k, (encs k).size = ps.size) (hG : ∀ k, G k → k < w.heap.size)
    (I : Nat → World → Prop) (Ix : Code → Nat → World → Prop) (hI : Low w.heap.size I) (hIx : ∀ c, Low w.heap.size (Ix c)) (h0 : I 0 w) (a₁ : Nat → Nat → Act) (ob : Nat → Obj)
    (hassign : ∀ (l k : Nat) (W : World) (K : Act → World → Prop), K (a₁ k W.heap.size) (W.alloc (ob k)) →
      assign.wpIn (Fence.wide.inRound l) (n - 1 - 1) P (Exit.then K (fun _ _ _ => False)) { tmps := (ps.zip (encs k)).foldl (fun t (p, v) => t.setIfInBounds p v) a.tmps, defers := [] } W)
    (hbody : ∀ (l k b : Nat) (W : World), I k W → w.heap.size + 2 ≤ b → W.heap[b]? = some (ob k) → k < N → body.wpIn (Fence.wide.inRound l) (n - 1 - 1) P (endN G w.heap.size I Ix (k + 1) W) (a₁ k b) W)
    (hdone : ∀ (D : Nat) (W : World), w.heap.size ≤ D → I N W → W.heap[D]? = some (.deferred (some [])) → Q .normal { a with defers := { target := .collected D, args := #[] } :: a.defers } W)
    (hstop : ∀ (D : Nat) (c : Code) (k : Nat) (W : World), w.heap.size ≤ D → k ≤ N → Ix c k W → W.heap[D]? = some (.deferred (some [])) → c.wpIn Fence.wide n P Q { a with defers := { target := .collected D, args := #[] } :: a.defers } W) :
    (Code.rangeFunc g ps assign body).wpIn Fence.wide n P Q a w := by
  refine wpIn_rangeFunc ?_
  intro fn hfn
  show ∃ _, _
  let rec0 : LoopState → Option Code → Loop := fun st pe => { state := st, pending := pe, fn, tmps := a.tmps, params := ps, assign, body, defers := w.heap.size }
  obtain ⟨D, eD⟩ : ∃ D, D = w.heap.size := ⟨_, rfl⟩
  obtain ⟨W1, eW⟩ : ∃ W1, W1 = (w.alloc (.deferred (some []))).alloc (.loop (rec0 .ready none)) := ⟨_, rfl⟩
  have hB2 : Below w.heap.size w W1 := by rw [eW]; exact B2 _ _ _
  have hzz : W1.heap.size = D + 2 := by rw [eW, eD]; simp
  have hD : W1.heap[D]? = some (.deferred (some [])) := by
    rw [eW, eD]; exact (Below.heap_alloc _ _ _ (by simp)).trans (World.alloc_heap_new w _)
  have hL : W1.heap[D + 1]? = some (.loop (rec0 .ready none)) := by
    rw [eW, eD]; have := World.alloc_heap_new (w.alloc (.deferred (some []))) (.loop (rec0 .ready none)); rwa [World.size_alloc] at this
  have hI1 : I 0 W1 := hI 0 _ _ h0 hB2
  have keepI : ∀ (K : Nat → World → Prop) (hK : Low w.heap.size K) (k : Nat) (W : World) (o : Obj), K k W → K k (W.putObj (D + 1) o) := fun K hK k W o h => hK k _ _ h (below_putObj W (D + 1) _ o (by omega))
  refine ⟨D + 1, [{ target := .collected D, args := #[] }], W1, { target := .fn (.func gf) lb, args := #[.func (.yield (D + 1)) #[] #[]] }, W1, gf, #[.func (.yield (D + 1)) #[] #[]] ++ lb, W1, ?_, ?_, fun _ _ => trivial, ?_, fun _ => h1, ?_⟩
  · rw [eW, eD]; exact run_enterLoop_outer _ _ _ _ _
  · simp only [resolve, hg]
    simp [go_sem]
  · simp [invoke, go_sem, eg]
  refine (hseq (D + 1) (fun k W => I k W ∧ W.heap[D + 1]? = some (.loop (rec0 .ready none)) ∧ W.heap[D]? = some (.deferred (some [])))
    (fun k W => ∃ c, Ix c k W ∧ W.heap[D + 1]? = some (.loop (rec0 .done (some c))) ∧ W.heap[D]? = some (.deferred (some []))) W1 (hb0.trans (hB2.mono hb0.size)) ?_ ?_ ?_ ⟨hI1, hL, hD⟩).mono ?_
  · rintro s A A' ⟨hi, hl, hd⟩ hb
    exact ⟨hI s A A' hi (hb.mono (by omega)), (hb.block _ (by omega)).trans hl, (hb.block _ (by omega)).trans hd⟩
  · rintro s A A' ⟨c, hi, hl, hd⟩ hb
    exact ⟨c, hIx c s A A' hi (hb.mono (by omega)), (hb.block _ (by omega)).trans hl, (hb.block _ (by omega)).trans hd⟩
  · rintro k WW ⟨hi0, hl0, hd0⟩ hsz hk
    have hlt0 : D + 1 < WW.heap.size := (Array.getElem?_eq_some_iff.1 hl0).1
    obtain ⟨W, eWW⟩ : ∃ W, W = WW.alloc (ob k) := ⟨_, rfl⟩
    have hbW : Below WW.heap.size WW W := by rw [eWW]; exact B1 _ _
    have hobW : W.heap[WW.heap.size]? = some (ob k) := by rw [eWW]; exact World.alloc_heap_new WW _
    have hszW : W.heap.size = WW.heap.size + 1 := by rw [eWW]; simp
    have hi : I k W := hI k _ _ hi0 (hbW.mono (by omega))
    have hl : W.heap[D + 1]? = some (.loop (rec0 .ready none)) := (hbW.block _ hlt0).trans hl0
    have hd : W.heap[D]? = some (.deferred (some [])) := (hbW.block _ (by omega)).trans hd0
    have hlt : D + 1 < W.heap.size := (Array.getElem?_eq_some_iff.1 hl).1
    have hlW : ∀ (G' : Nat → Prop) (B' : Nat), Left G' B' WW W := fun G' B' => Left.below hbW
    refine ⟨fn, _, assign, body, run_yield (P := P) (args := encs k) hl0 (hps k), roundIn_of_wpIn hfn (hassign _ k WW _ ?_)⟩
    rw [← eWW]
    refine ⟨_, run_beginRound hl rfl, ?_⟩
    have hl2 : (W.putObj (D + 1) (.loop (rec0 .busy none))).heap[D + 1]? = some (.loop (rec0 .busy none)) := World.putObj_heap_same hlt
    have hd2 : (W.putObj (D + 1) (.loop (rec0 .busy none))).heap[D]? = some (.deferred (some [])) := (World.putObj_heap_other (by omega)).trans hd
    have hw2 : ∀ (X : World) (o : Obj), Left G (D + 2) X (X.putObj (D + 1) o) := fun X o => ⟨by simp, fun j _ hg => World.putObj_heap_other (by rcases hg with h | h; have := hG j h; omega; omega)⟩
    have hw3 : ∀ (X : World) (o : Obj), Left (fun _ => False) (D + 2) X (X.putObj (D + 1) o) := fun X o => ⟨by simp, fun j _ hg => World.putObj_heap_other (by rcases hg with h | h; exact h.elim; omega)⟩
    refine wpIn_mono (hbody _ k WW.heap.size _ (keepI I hI k W _ hi) (by omega) ((World.putObj_heap_other (by omega)).trans hobW) hk) ?_
    have fin : ∀ (jump : Option Code) (W3 : World), Left (fun _ => False) w.heap.size (W.putObj (D + 1) (.loop (rec0 .busy none))) W3 →
        (Instr.endRound (D + 1) jump).run P W3 = .ok (.bool jump.isNone) (W3.putObj (D + 1) (.loop (rec0 (if jump.isNone then .ready else .done) jump))) ∧
        (W3.putObj (D + 1) (.loop (rec0 (if jump.isNone then .ready else .done) jump))).heap[D + 1]? = some (.loop (rec0 (if jump.isNone then .ready else .done) jump)) ∧
        (W3.putObj (D + 1) (.loop (rec0 (if jump.isNone then .ready else .done) jump))).heap[D]? = some (.deferred (some [])) := fun jump W3 hk3 => by
      have hl3 := (hk3.block (D + 1) (by simpa using hlt) (.inr (by omega))).trans hl2
      have hd3 := (hk3.block D (by simp; omega) (.inr (by omega))).trans hd2
      exact ⟨run_endRound (P := P) jump hl3, World.putObj_heap_same (Array.getElem?_eq_some_iff.1 hl3).1, (World.putObj_heap_other (by omega)).trans hd3⟩
    rintro e a3 W3 hp
    cases e with
    | normal =>
      obtain ⟨hk3, hi3⟩ := hp
      obtain ⟨hr, hl4, hd4⟩ := fin none W3 (hk3.mono (fun j _ h => by rcases h with h | h; exact h.elim; exact .inr h))
      refine ⟨_, _, hr, .inl ⟨rfl, ⟨keepI I hI _ _ _ hi3, hl4, hd4⟩, ?_⟩⟩
      rw [hzz]
      exact (hlW _ _).trans <| ((hw2 _ _).trans (hk3.mono (fun j _ h => by rcases h with h | h; exact .inl h; exact .inr (by omega)))).trans (hw2 _ _)
    | ret =>
      obtain ⟨hk3, hi3⟩ := hp
      obtain ⟨hr, hl4, hd4⟩ := fin (some .ret) W3 hk3
      exact ⟨_, _, hr, .inr ⟨rfl, ⟨.ret, keepI _ (hIx _) _ _ _ hi3, hl4, hd4⟩, by rw [hzz]; exact (hlW _ _).trans <| ((hw3 _ _).trans (hk3.mono (fun j _ h => by rcases h with h | h; exact h.elim; exact .inr (by omega)))).trans (hw3 _ _)⟩⟩
    | exit id =>
      obtain ⟨hk3, hi3⟩ := hp
      obtain ⟨hr, hl4, hd4⟩ := fin (some (.exit id)) W3 hk3
      exact ⟨_, _, hr, .inr ⟨rfl, ⟨.exit id, keepI _ (hIx _) _ _ _ hi3, hl4, hd4⟩, by rw [hzz]; exact (hlW _ _).trans <| ((hw3 _ _).trans (hk3.mono (fun j _ h => by rcases h with h | h; exact h.elim; exact .inr (by omega)))).trans (hw3 _ _)⟩⟩
    | goto t =>
      obtain ⟨hk3, hi3⟩ := hp
      obtain ⟨hr, hl4, hd4⟩ := fin (some (.goto t)) W3 hk3
      exact ⟨_, _, hr, .inr ⟨rfl, ⟨.goto t, keepI _ (hIx _) _ _ _ hi3, hl4, hd4⟩, by rw [hzz]; exact (hlW _ _).trans <| ((hw3 _ _).trans (hk3.mono (fun j _ h => by rcases h with h | h; exact h.elim; exact .inr (by omega)))).trans (hw3 _ _)⟩⟩
    | panic ch => exact hp.elim
    | outgrown => exact hp.elim
  · rintro e W2 ⟨⟨v, rfl⟩, (⟨hi, hl, hd⟩ | ⟨k, hk, c, hi, hl, hd⟩)⟩
    · exact ⟨none, _, run_endLoop (P := P) hl (by simp [rec0]), hdone D _ (by omega) (keepI I hI _ _ _ hi) ((World.putObj_heap_other (by omega)).trans hd)⟩
    · exact ⟨some c, _, run_endLoop (P := P) hl (by simp [rec0]), hstop D c k _ (by omega) hk (keepI _ (hIx c) _ _ _ hi) ((World.putObj_heap_other (by omega)).trans hd)⟩
end Go.Proofs.Ytfdfcagkfnckmaa

/- The law of ranges over a function with a state of its own, that it turns between what it hands out; the loop's body has memory of its own that it turns. Nothing here speaks of one program. -/
import Derived.Test.YtgmdfmckkfefgaaDoorRw
namespace Go.Proofs.YtgmdfmckkfefgaaDoor
open Go Go.RowKit
variable {P : Program}
/-- All but the caller's own blocks is kept. -/
structure Keep (C : Nat → World → Prop) (A A' : World) : Prop where
  size : A.heap.size ≤ A'.heap.size
  block : ∀ j, j < A.heap.size → ¬ C j A → A'.heap[j]? = A.heap[j]?
/-- What J says is not said of a loop's own record. -/
def Aside (B : Nat) (J : Nat → World → Prop) : Prop := ∀ (s b : Nat) (A : World) (lp : Loop) (o : Obj), B ≤ b → J s A → A.heap[b]? = some (.loop lp) → J s (A.putObj b o)
/-- What J says stays as memory grows and block b turns. -/
def Turns (b : Nat) (J : Nat → World → Prop) : Prop := ∀ (s : Nat) (A A' : World), J s A → A.grownBy A' (some b) → J s A'
/-- The contract: N things in their turn, or a part of them; of the function's own blocks (T, b among them) none is the caller's (C). -/
def SeqM (n : Nat) (P : Program) (gf : Nat) (lb : Array Value) (encs : Nat → Array Value) (R : Nat → World → Prop) (N b : Nat) (T : Nat → Prop) (w : World) : Prop :=
  ∀ (l : Nat) (J Jx C : Nat → World → Prop) (W : World), Below w.heap.size w W → Turns b J → Turns b Jx → (∀ s A j, J s A → T j → ¬ C j A) → (∀ s A A' j, J s A → A.grownBy A' (some b) → C j A' → j < A.heap.size) →
    (∀ k W1, J k W1 → R k W1 → W.heap.size ≤ W1.heap.size → k < N → YieldAt Fence.wide (n - 1) P l (encs k) W1 fun e W' =>
      (e = .returned (.bool true) ∧ J (k + 1) W' ∧ Keep C W1 W') ∨ (e = .returned (.bool false) ∧ Jx (k + 1) W')) →
    J 0 W → CallsIn Fence.wide n P gf (#[.func (.yield l) #[] #[]] ++ lb) W fun e W' => (∃ v, e = .returned v) ∧ (J N W' ∨ ∃ k, k ≤ N ∧ Jx k W')
/-- How a body may end. -/
def endM (C : Nat → World → Prop) (I : Nat → World → Prop) (Ix : Code → Nat → World → Prop) (k B : Nat) (W : World) : Exit → Act → World → Prop
  | .normal, _, W' => Keep C W W' ∧ I k W'
  | .ret, _, W' => (∀ j, B ≤ j → j < W.heap.size → ¬ C j W → W'.heap[j]? = W.heap[j]?) ∧ W.heap.size ≤ W'.heap.size ∧ Ix .ret k W'
  | .exit _, _, _ => False
  | .goto _, _, _ => False
  | .panic _, _, _ => False
  | .outgrown, _, _ => False
theorem wpIn_rangeFunc_m {n : Nat} {g : Operand} {ps : Array Tmp} {assign body : Code} {Q : Exit → Act → World → Prop} {a : Act} {w : World} (h1 : 1 ≤ n) {gf : Nat} {lb : Array Value}
    (hg : a.eval g = .func (.func gf) #[] lb) (eg : ∀ args w, (callFunc gf args).run P w = .ok (.enter gf args) w) {encs : Nat → Array Value} {R : Nat → World → Prop} {N b : Nat} {T : Nat → Prop} {w0 : World}
    (hseq : SeqM (n - 1) P gf lb encs R N b T w0) (hb0 : Below w0.heap.size w0 w) (hps : ∀ k, (encs k).size = ps.size) (hT : ∀ j, T j → j < w.heap.size) (hbw : b < w.heap.size)
    (C : Nat → World → Prop) (I : Nat → World → Prop) (Ix : Code → Nat → World → Prop) (hI : Turns b I) (hIx : ∀ c, Turns b (Ix c)) (hIp : Aside w.heap.size I) (hIxp : ∀ c, Aside w.heap.size (Ix c)) (hRg : ∀ k A A', R k A → Below A.heap.size A A' → R k A') (hRp : Aside w.heap.size R)
    (hCT : ∀ s A j, I s A → T j → ¬ C j A) (hC1 : ∀ s A j, I s A → C j A → j < A.heap.size) (hC3 : ∀ s A A' j, I s A → A.grownBy A' (some b) → C j A' → C j A)
    (hCl : ∀ s A j lp, I s A → A.heap[j]? = some (.loop lp) → ¬ C j A) (hCd : ∀ s A j d, I s A → A.heap[j]? = some (.deferred d) → ¬ C j A)
    (hCp : ∀ s A lp o b' j, w.heap.size ≤ b' → I s A → A.heap[b']? = some (.loop lp) → C j (A.putObj b' o) → C j A) (h0 : I 0 w) (a₁ : Nat → Nat → Act) (ob : Nat → Obj)
    (hassign : ∀ (l k : Nat) (W : World) (K : Act → World → Prop), K (a₁ k W.heap.size) (W.alloc (ob k)) →
      assign.wpIn (Fence.wide.inRound l) (n - 1 - 1) P (Exit.then K (fun _ _ _ => False)) { tmps := (ps.zip (encs k)).foldl (fun t (p, v) => t.setIfInBounds p v) a.tmps, defers := [] } W)
    (hbody : ∀ (l k bl : Nat) (W : World), I k W → R k W → w.heap.size + 2 ≤ bl → W.heap[bl]? = some (ob k) → ¬ C bl W → k < N → body.wpIn (Fence.wide.inRound l) (n - 1 - 1) P (endM C I Ix (k + 1) w.heap.size W) (a₁ k bl) W)
    (hdone : ∀ (D : Nat) (W : World), w.heap.size ≤ D → I N W → W.heap[D]? = some (.deferred (some [])) → Q .normal { a with defers := { target := .collected D, args := #[] } :: a.defers } W)
    (hstop : ∀ (D : Nat) (c : Code) (k : Nat) (W : World), w.heap.size ≤ D → k ≤ N → Ix c k W → W.heap[D]? = some (.deferred (some [])) → c.wpIn Fence.wide n P Q { a with defers := { target := .collected D, args := #[] } :: a.defers } W) :
    (Code.rangeFunc g ps assign body).wpIn Fence.wide n P Q a w := by
  refine wpIn_rangeFunc ?_
  intro fn hfn
  show ∃ _, _
  let rec0 : LoopState → Option Code → Loop := fun st pe => { state := st, pending := pe, fn, tmps := a.tmps, params := ps, assign, body, defers := w.heap.size }
  obtain ⟨D, eD⟩ : ∃ D, D = w.heap.size := ⟨_, rfl⟩
  obtain ⟨W1, eW⟩ : ∃ W1, W1 = (w.alloc (.deferred (some []))).alloc (.loop (rec0 .ready none)) := ⟨_, rfl⟩
  have hB2 : Below w.heap.size w W1 := by rw [eW]; exact B2 _ _ _
  have hzz : W1.heap.size = D + 2 := by rw [eW, eD]; simp
  have hD : W1.heap[D]? = some (.deferred (some [])) := by
    rw [eW, eD]; exact (Below.heap_alloc _ _ _ (by simp)).trans (World.alloc_heap_new w _)
  have hL : W1.heap[D + 1]? = some (.loop (rec0 .ready none)) := by
    rw [eW, eD]; have := World.alloc_heap_new (w.alloc (.deferred (some []))) (.loop (rec0 .ready none)); rwa [World.size_alloc] at this
  have hI1 : I 0 W1 := hI 0 _ _ h0 (below_is_grown hB2 _)
  have keepI : ∀ (K : Nat → World → Prop) (hK : Aside w.heap.size K) (k : Nat) (W : World) (o : Obj) (lp : Loop), W.heap[D + 1]? = some (.loop lp) → K k W → K k (W.putObj (D + 1) o) := fun K hK k W o lp hl h => hK k _ _ lp o (by omega) h hl
  refine ⟨D + 1, [{ target := .collected D, args := #[] }], W1, { target := .fn (.func gf) lb, args := #[.func (.yield (D + 1)) #[] #[]] }, W1, gf, #[.func (.yield (D + 1)) #[] #[]] ++ lb, W1, ?_, ?_, fun _ _ => trivial, ?_, fun _ => h1, ?_⟩
  · rw [eW, eD]; exact run_enterLoop_outer _ _ _ _ _
  · simp only [resolve, hg]
    simp [go_sem]
  · simp [invoke, go_sem, eg]
  refine (hseq (D + 1) (fun k W => I k W ∧ W.heap[D + 1]? = some (.loop (rec0 .ready none)) ∧ W.heap[D]? = some (.deferred (some [])))
    (fun k W => ∃ c, Ix c k W ∧ W.heap[D + 1]? = some (.loop (rec0 .done (some c))) ∧ W.heap[D]? = some (.deferred (some []))) (fun j A => C j A ∨ j = D + 1) W1 (hb0.trans (hB2.mono hb0.size)) ?_ ?_ ?_ ?_ ?_ ⟨hI1, hL, hD⟩).mono ?_
  · rintro s A A' ⟨hi, hl, hd⟩ hb
    have q1 := (Array.getElem?_eq_some_iff.1 hl).1
    exact ⟨hI s A A' hi hb, (hb.block _ q1 (fun e => by have := Option.some.inj e; omega)).trans hl, (hb.block _ (by omega) (fun e => by have := Option.some.inj e; omega)).trans hd⟩
  · rintro s A A' ⟨c, hi, hl, hd⟩ hb
    have q1 := (Array.getElem?_eq_some_iff.1 hl).1
    exact ⟨c, hIx c s A A' hi hb, (hb.block _ q1 (fun e => by have := Option.some.inj e; omega)).trans hl, (hb.block _ (by omega) (fun e => by have := Option.some.inj e; omega)).trans hd⟩
  · rintro s A j ⟨hi, hl, hd⟩ hTj (hc | hc)
    · exact hCT s A j hi hTj hc
    · have := hT j hTj
      omega
  · rintro s A A' j ⟨hi, hl, hd⟩ hb (hc | hc)
    · exact hC1 s A j hi (hC3 s A A' j hi hb hc)
    · have q1 := (Array.getElem?_eq_some_iff.1 hl).1
      omega
  · rintro k WW ⟨hi0, hl0, hd0⟩ hR0 hsz hk
    have hlt0 : D + 1 < WW.heap.size := (Array.getElem?_eq_some_iff.1 hl0).1
    obtain ⟨W, eWW⟩ : ∃ W, W = WW.alloc (ob k) := ⟨_, rfl⟩
    have hbW : Below WW.heap.size WW W := by rw [eWW]; exact B1 _ _
    have hobW : W.heap[WW.heap.size]? = some (ob k) := by rw [eWW]; exact World.alloc_heap_new WW _
    have hszW : W.heap.size = WW.heap.size + 1 := by rw [eWW]; simp
    have hi : I k W := hI k _ _ hi0 (below_is_grown hbW _)
    have hRW : R k W := hRg k _ _ hR0 hbW
    have hl : W.heap[D + 1]? = some (.loop (rec0 .ready none)) := (hbW.block _ hlt0).trans hl0
    have hd : W.heap[D]? = some (.deferred (some [])) := (hbW.block _ (by omega)).trans hd0
    have hlt : D + 1 < W.heap.size := (Array.getElem?_eq_some_iff.1 hl).1
    refine ⟨fn, _, assign, body, run_yield (P := P) (args := encs k) hl0 (hps k), roundIn_of_wpIn hfn (hassign _ k WW _ ?_)⟩
    rw [← eWW]
    refine ⟨_, run_beginRound hl rfl, ?_⟩
    have hl2 : (W.putObj (D + 1) (.loop (rec0 .busy none))).heap[D + 1]? = some (.loop (rec0 .busy none)) := World.putObj_heap_same hlt
    have hd2 : (W.putObj (D + 1) (.loop (rec0 .busy none))).heap[D]? = some (.deferred (some [])) := (World.putObj_heap_other (by omega)).trans hd
    have hi2 : I k (W.putObj (D + 1) (.loop (rec0 .busy none))) := keepI I hIp k W _ _ hl hi
    have hcW : ∀ j, C j (W.putObj (D + 1) (.loop (rec0 .busy none))) → C j WW := fun j hj => hC3 k WW W j hi0 (below_is_grown hbW _) (hCp k W _ _ (D + 1) j (by omega) hi hl hj)
    have hcD : ¬ C (D + 1) (W.putObj (D + 1) (.loop (rec0 .busy none))) := hCl k _ _ _ hi2 hl2
    have hcd : ¬ C D (W.putObj (D + 1) (.loop (rec0 .busy none))) := hCd k _ _ _ hi2 hd2
    refine wpIn_mono (hbody _ k WW.heap.size _ hi2 (hRp k _ _ _ _ (by omega) hRW hl) (by omega) ((World.putObj_heap_other (by omega)).trans hobW) (fun hc => by have := hC1 k WW _ hi0 (hcW _ hc); omega) hk) ?_
    have fin : ∀ (jump : Option Code) (W3 : World), W3.heap[D + 1]? = some (.loop (rec0 .busy none)) → W3.heap[D]? = some (.deferred (some [])) →
        (Instr.endRound (D + 1) jump).run P W3 = .ok (.bool jump.isNone) (W3.putObj (D + 1) (.loop (rec0 (if jump.isNone then .ready else .done) jump))) ∧
        (W3.putObj (D + 1) (.loop (rec0 (if jump.isNone then .ready else .done) jump))).heap[D + 1]? = some (.loop (rec0 (if jump.isNone then .ready else .done) jump)) ∧
        (W3.putObj (D + 1) (.loop (rec0 (if jump.isNone then .ready else .done) jump))).heap[D]? = some (.deferred (some [])) := fun jump W3 hl3 hd3 =>
      ⟨run_endRound (P := P) jump hl3, World.putObj_heap_same (Array.getElem?_eq_some_iff.1 hl3).1, (World.putObj_heap_other (by omega)).trans hd3⟩
    rintro e a3 W3 hp
    cases e with
    | normal =>
      obtain ⟨hk3, hi3⟩ := hp
      have hl3 := (hk3.block (D + 1) (by simpa using hlt) hcD).trans hl2
      have hd3 := (hk3.block D (by simp; omega) hcd).trans hd2
      obtain ⟨hr, hl4, hd4⟩ := fin none W3 hl3 hd3
      refine ⟨_, _, hr, .inl ⟨rfl, ⟨keepI I hIp _ _ _ _ hl3 hi3, hl4, hd4⟩, ⟨?_, fun j hj hn => ?_⟩⟩⟩
      · have := hk3.size
        simp at this ⊢
        omega
      · have hn1 : ¬ C j WW := fun h => hn (.inl h)
        have hn2 : j ≠ D + 1 := fun h => hn (.inr h)
        exact (World.putObj_heap_other (by omega)).trans ((hk3.block j (by simp; omega) (fun h => hn1 (hcW j h))).trans ((World.putObj_heap_other (by omega)).trans (hbW.block j hj)))
    | ret =>
      obtain ⟨hk3, hsz3, hi3⟩ := hp
      have hl3 := (hk3 (D + 1) (by omega) (by simpa using hlt) hcD).trans hl2
      have hd3 := (hk3 D (by omega) (by simp; omega) hcd).trans hd2
      obtain ⟨hr, hl4, hd4⟩ := fin (some .ret) W3 hl3 hd3
      exact ⟨_, _, hr, .inr ⟨rfl, ⟨.ret, keepI _ (hIxp _) _ _ _ _ hl3 hi3, hl4, hd4⟩⟩⟩
    | exit id => exact hp.elim
    | goto t => exact hp.elim
    | panic ch => exact hp.elim
    | outgrown => exact hp.elim
  · rintro e W2 ⟨⟨v, rfl⟩, (⟨hi, hl, hd⟩ | ⟨k, hk, c, hi, hl, hd⟩)⟩
    · exact ⟨none, _, run_endLoop (P := P) hl (by simp [rec0]), hdone D _ (by omega) (keepI I hIp _ _ _ _ hl hi) ((World.putObj_heap_other (by omega)).trans hd)⟩
    · exact ⟨some c, _, run_endLoop (P := P) hl (by simp [rec0]), hstop D c k _ (by omega) hk (keepI _ (hIxp c) _ _ _ _ hl hi) ((World.putObj_heap_other (by omega)).trans hd)⟩
/-- A store of a whole value into a whole block, within a function that is ranged over. -/
theorem wpListIn_store_whole {F : Fence} {k : Nat} {w : World} {ops : Array Oper} {rest : List Oper} {o : Oper} {ac : Act} {Q : Exit → Act → World → Prop}
    (hgd : o.guard = none) (ty : TypeId) (x y : Operand) (hop : o.op = .store ty x y) (g : Nat) (cells : Array Value) (hx : ac.eval x = .pointer (some ⟨g, 0, none⟩)) (hy : ac.eval y = .agg cells)
    (t : TypeId) (old : Array Value) (hg : Blk w g old t) (hi : (P.info? ty).map (·.size) = some cells.size) (hold : old.size = cells.size) (h1 : cells.all (·.oneCell') = true)
    (hK : ∀ w', Blk w' g cells t → w.grownBy w' (some g) → wpListIn F k P ops Q rest (ac.put o.dst undef) w') : wpListIn F k P ops Q (o :: rest) ac w := by
  refine wpListIn_plain hgd fun K hK' => ?_
  unfold Oper.wpIn
  constructor
  · simp [Oper.about, hop, Sem.run_pure]
  · rw [Oper.semAt_plain F _ _ (by rw [hop]; intro c hc'; cases hc')]
    simp only [execOp, hop, hx, hy, Instr.storeAt, Instr.sureAddr, Sem.run_bind, Sem.run_pure, Result.andThen_ok, run_storeVar_row w g t ty old cells hg hi hold h1]
    exact hK' _ _ (hK _ hg.setRow (setRow_grown w g cells))
end Go.Proofs.YtgmdfmckkfefgaaDoor

/- The law of ranges over a function that reads, and grows memory; the loop's body turns memory of its own, that which it makes in its rounds among it. Nothing here speaks of one program. -/
import Derived.Test.YtjelgmdjmjnnfaaA3
import Derived.Test.YtjelgmdjmjnnfaaL0
import Derived.Test.YtjelgmdjmjnnfaaC1
import Derived.Test.YtjelgmdjmjnnfaaB5
import Derived.LoopNIn
import Derived.LoopIn
import Derived.Shelf.Abstract
import Derived.Shelf.RegionOpen
set_option linter.unusedSimpArgs false
set_option linter.unusedVariables false
namespace Go.Proofs.Ytjelgmdjmjnnfaa
open Go Go.RowKit
variable {P : Program}
/-- All but the caller's own blocks is kept; what was not the caller's is not made its. -/
structure Keep (C : Nat → World → Prop) (A A' : World) : Prop where
  size : A.heap.size ≤ A'.heap.size
  block : ∀ j, j < A.heap.size → ¬ C j A → A'.heap[j]? = A.heap[j]?
  own : ∀ j, j < A.heap.size → C j A' → C j A
theorem Keep.refl (C : Nat → World → Prop) (A : World) : Keep C A A := ⟨Nat.le_refl _, fun _ _ _ => rfl, fun _ _ h => h⟩
theorem Keep.trans {C : Nat → World → Prop} {A A' A'' : World} (h : Keep C A A') (k : Keep C A' A'') : Keep C A A'' :=
  ⟨Nat.le_trans h.size k.size, fun j hj hc => (k.block j (Nat.lt_of_lt_of_le hj h.size) (fun e => hc (h.own j hj e))).trans (h.block j hj hc), fun j hj hc => h.own j hj (k.own j (Nat.lt_of_lt_of_le hj h.size) hc)⟩
/-- A block that is no memory of values: a loop's record, a mark. -/
def NoCells (A : World) (b : Nat) : Prop := ∃ o : Obj, A.heap[b]? = some o ∧ ∀ vs T z, o ≠ .cells vs T z
theorem nc_loop {A : World} {b : Nat} {lp : Loop} (h : A.heap[b]? = some (.loop lp)) : NoCells A b := ⟨_, h, fun _ _ _ => by nofun⟩
theorem nc_def {A : World} {b : Nat} {ds : Option (List Deferred)} (h : A.heap[b]? = some (.deferred ds)) : NoCells A b := ⟨_, h, fun _ _ _ => by nofun⟩
theorem NoCells.ne {A : World} {b j : Nat} {vs : Array Value} {T : TypeId} {z : Nat × Nat} (h : NoCells A b) (hj : A.heap[j]? = some (.cells vs T z)) : j ≠ b := by
  rintro rfl
  obtain ⟨o, h1, h2⟩ := h
  rw [hj] at h1
  exact h2 _ _ _ (Option.some.inj h1).symm
/-- What a caller says while a function hands out: it stays as memory grows, and as loops' records turn. -/
structure Fair (B : Nat) (J : Nat → World → Prop) (C : Nat → World → Prop) : Prop where
  grow : ∀ s A A', J s A → Below A.heap.size A A' → J s A'
  put : ∀ s b A o, B ≤ b → J s A → NoCells A b → J s (A.putObj b o)
  cgrow : ∀ s A A' j, J s A → Below A.heap.size A A' → C j A' → C j A
  cput : ∀ s b A o j, B ≤ b → J s A → NoCells A b → C j (A.putObj b o) → C j A
  cell : ∀ s A j, J s A → C j A → ∃ vs T z, A.heap[j]? = some (.cells vs T z)
theorem Fair.keep {B : Nat} {J C : Nat → World → Prop} (f : Fair B J C) {s : Nat} {A A' : World} (h : J s A) (hb : Below A.heap.size A A') : Keep C A A' :=
  ⟨hb.size, fun j hj _ => hb.block j hj, fun j _ hc => f.cgrow s A A' j h hb hc⟩
theorem Fair.lt {B : Nat} {J C : Nat → World → Prop} (f : Fair B J C) {s : Nat} {A : World} (h : J s A) {j : Nat} (hc : C j A) : j < A.heap.size := by
  obtain ⟨vs, T, z, h⟩ := f.cell s A j h hc
  exact (Array.getElem?_eq_some_iff.1 h).1
/-- The contract: N things in their turn; T are the blocks that the function reads. -/
def SeqX (n : Nat) (P : Program) (gf : Nat) (lb : Array Value) (encs : Nat → Array Value) (N : Nat) (T : Nat → Prop) (w : World) : Prop :=
  ∀ (l : Nat) (J C : Nat → World → Prop) (W : World), Below w.heap.size w W → Fair W.heap.size J C → (∀ j, T j → ¬ C j W) →
    (∀ k W1, J k W1 → k < N → YieldAt Fence.wide (n - 1) P l (encs k) W1 fun e W' => e = .returned (.bool true) ∧ J (k + 1) W' ∧ Keep C W1 W') →
    J 0 W → CallsIn Fence.wide n P gf (#[.func (.yield l) #[] #[]] ++ lb) W fun e W' => (∃ v, e = .returned v) ∧ J N W' ∧ Keep C W W'
/-- How a body ends. -/
def endX (C : Nat → World → Prop) (I : Nat → World → Prop) (k : Nat) (W : World) : Exit → Act → World → Prop
  | .normal, _, W' => Keep C W W' ∧ I k W'
  | _, _, _ => False
theorem wpIn_rangeFunc_own {n : Nat} {g : Operand} {ps : Array Tmp} {assign body : Code} {Q : Exit → Act → World → Prop} {a : Act} {w : World} (h1 : 1 ≤ n) {gf : Nat} {lb : Array Value}
    (hg : a.eval g = .func (.func gf) #[] lb) (eg : ∀ args w, (callFunc gf args).run P w = .ok (.enter gf args) w) {encs : Nat → Array Value} {N : Nat} {T : Nat → Prop} {w0 : World}
    (hseq : SeqX (n - 1) P gf lb encs N T w0) (hb0 : Below w0.heap.size w0 w) (hps : ∀ k, (encs k).size = ps.size)
    (I C : Nat → World → Prop) (hF : Fair w.heap.size I C) (hT : ∀ j, T j → ¬ C j w) (h0 : I 0 w) (a₁ : Nat → Act)
    (hassign : ∀ (l k : Nat) (W : World) (K : Act → World → Prop), K (a₁ k) W →
      assign.wpIn (Fence.wide.inRound l) (n - 1 - 1) P (Exit.then K (fun _ _ _ => False)) { tmps := (ps.zip (encs k)).foldl (fun t (p, v) => t.setIfInBounds p v) a.tmps, defers := [] } W)
    (hbody : ∀ (l k : Nat) (W : World), I k W → k < N → body.wpIn (Fence.wide.inRound l) (n - 1 - 1) P (endX C I (k + 1) W) (a₁ k) W)
    (hdone : ∀ (D : Nat) (W : World), D = w.heap.size → I N W → Keep C w W → W.heap[D]? = some (.deferred (some [])) → Q .normal { a with defers := { target := .collected D, args := #[] } :: a.defers } W) :
    (Code.rangeFunc g ps assign body).wpIn Fence.wide n P Q a w := by
  refine wpIn_rangeFunc ?_
  intro fn hfn
  show ∃ _, _
  let rec0 : LoopState → Option Code → Loop := fun st pe => { state := st, pending := pe, fn, tmps := a.tmps, params := ps, assign, body, defers := w.heap.size }
  obtain ⟨D, eD⟩ : ∃ D, D = w.heap.size := ⟨_, rfl⟩
  obtain ⟨W1, eW⟩ : ∃ W1, W1 = (w.alloc (.deferred (some []))).alloc (.loop (rec0 .ready none)) := ⟨_, rfl⟩
  have hB2 : Below w.heap.size w W1 := by rw [eW]; exact B2 _ _ _
  have hzz : W1.heap.size = D + 2 := by rw [eW, eD]; simp
  have hD : W1.heap[D]? = some (.deferred (some [])) := by
    rw [eW, eD]; exact (Below.heap_alloc _ _ _ (by simp)).trans (World.alloc_heap_new w _)
  have hL : W1.heap[D + 1]? = some (.loop (rec0 .ready none)) := by
    rw [eW, eD]; have := World.alloc_heap_new (w.alloc (.deferred (some []))) (.loop (rec0 .ready none)); rwa [World.size_alloc] at this
  have hI1 : I 0 W1 := hF.grow 0 _ _ h0 hB2
  have K1 : Keep C w W1 := hF.keep h0 hB2
  refine ⟨D + 1, [{ target := .collected D, args := #[] }], W1, { target := .fn (.func gf) lb, args := #[.func (.yield (D + 1)) #[] #[]] }, W1, gf, #[.func (.yield (D + 1)) #[] #[]] ++ lb, W1, ?_, ?_, fun _ _ => trivial, ?_, fun _ => h1, ?_⟩
  · rw [eW, eD]; exact run_enterLoop_outer _ _ _ _ _
  · simp only [resolve, hg]
    simp [go_sem]
  · simp [invoke, go_sem, eg]
  have nodef : ∀ s A j d, I s A → A.heap[j]? = some (.deferred d) → ¬ C j A := fun s A j d h e hc => by
    obtain ⟨vs, T, z, h2⟩ := hF.cell s A j h hc
    rw [e] at h2; cases h2
  have noloop : ∀ s A j d, I s A → A.heap[j]? = some (.loop d) → ¬ C j A := fun s A j d h e hc => by
    obtain ⟨vs, T, z, h2⟩ := hF.cell s A j h hc
    rw [e] at h2; cases h2
  refine (hseq (D + 1) (fun k W => I k W ∧ W.heap[D + 1]? = some (.loop (rec0 .ready none)) ∧ W.heap[D]? = some (.deferred (some []))) C W1 (hb0.trans (hB2.mono hb0.size)) ?_ ?_ ?_ ⟨hI1, hL, hD⟩).mono ?_
  · constructor
    · rintro s A A' ⟨hi, hl, hd⟩ hb
      have q1 := (Array.getElem?_eq_some_iff.1 hl).1
      exact ⟨hF.grow s A A' hi hb, (hb.block _ q1).trans hl, (hb.block _ (by omega)).trans hd⟩
    · rintro s b A o hb ⟨hi, hl, hd⟩ he
      exact ⟨hF.put s b A o (by omega) hi he, (World.putObj_heap_other (by omega)).trans hl, (World.putObj_heap_other (by omega)).trans hd⟩
    · rintro s A A' j ⟨hi, hl, hd⟩ hb hc
      exact hF.cgrow s A A' j hi hb hc
    · rintro s b A o j hb ⟨hi, hl, hd⟩ he hc
      exact hF.cput s b A o j (by omega) hi he hc
    · rintro s A j ⟨hi, hl, hd⟩ hc
      exact hF.cell s A j hi hc
  · intro j hj hc
    exact hT j hj (hF.cgrow 0 _ _ j h0 hB2 hc)
  · rintro k W ⟨hi, hl, hd⟩ hk
    have hlt : D + 1 < W.heap.size := (Array.getElem?_eq_some_iff.1 hl).1
    refine ⟨fn, _, assign, body, run_yield (P := P) (args := encs k) hl (hps k), roundIn_of_wpIn hfn (hassign _ k W _ ⟨_, run_beginRound hl rfl, ?_⟩)⟩
    obtain ⟨Wb, eWb⟩ : ∃ Wb, Wb = W.putObj (D + 1) (.loop (rec0 .busy none)) := ⟨_, rfl⟩
    have hl2 : Wb.heap[D + 1]? = some (.loop (rec0 .busy none)) := by rw [eWb]; exact World.putObj_heap_same hlt
    have hd2 : Wb.heap[D]? = some (.deferred (some [])) := by rw [eWb]; exact (World.putObj_heap_other (by omega)).trans hd
    have hi2 : I k Wb := by rw [eWb]; exact hF.put k (D + 1) W _ (by omega) hi (nc_loop hl)
    have hzb : Wb.heap.size = W.heap.size := by rw [eWb]; simp
    have hcb : ∀ j, C j Wb → C j W := fun j hc => by rw [eWb] at hc; exact hF.cput k (D + 1) W _ j (by omega) hi (nc_loop hl) hc
    have hob : ∀ j, j ≠ D + 1 → Wb.heap[j]? = W.heap[j]? := fun j hj => by rw [eWb]; exact World.putObj_heap_other hj
    show body.wpIn _ _ _ _ _ (W.putObj (D + 1) (.loop (rec0 .busy none)))
    rw [← eWb]
    refine wpIn_mono (hbody _ k _ hi2 hk) ?_
    rintro e a3 W3 hp
    cases e with
    | normal =>
      obtain ⟨hk3, hi3⟩ := hp
      have hl3 := (hk3.block (D + 1) (by omega) (noloop _ _ _ _ hi2 hl2)).trans hl2
      have hd3 := (hk3.block D (by omega) (nodef _ _ _ _ hi2 hd2)).trans hd2
      refine ⟨_, _, run_endRound (P := P) none hl3, rfl, ⟨hF.put _ (D + 1) _ _ (by omega) hi3 (nc_loop hl3), World.putObj_heap_same (Array.getElem?_eq_some_iff.1 hl3).1, (World.putObj_heap_other (by omega)).trans hd3⟩, ?_⟩
      refine ⟨?_, fun j hj hc => ?_, fun j hj hc => ?_⟩
      · have := hk3.size; simp; omega
      · by_cases e : j = D + 1
        · subst e
          exact (World.putObj_heap_same (Array.getElem?_eq_some_iff.1 hl3).1).trans hl.symm
        · exact (World.putObj_heap_other e).trans ((hk3.block j (by omega) (fun h => hc (hcb j h))).trans (hob j e))
      · have c3 := hF.cput _ (D + 1) W3 _ j (by omega) hi3 (nc_loop hl3) hc
        exact hcb j (hk3.own j (by omega) c3)
    | ret => exact hp.elim
    | exit id => exact hp.elim
    | goto t => exact hp.elim
    | panic ch => exact hp.elim
    | outgrown => exact hp.elim
  · rintro e W2 ⟨⟨v, rfl⟩, ⟨hi, hl, hd⟩, hk2⟩
    have k2 := K1.trans hk2
    refine ⟨none, _, run_endLoop (P := P) hl (by simp [rec0]), hdone D _ eD (hF.put _ (D + 1) _ _ (by omega) hi (nc_loop hl)) ⟨by have := k2.size; simpa using this, fun j hj hc => (World.putObj_heap_other (by omega)).trans (k2.block j hj hc), fun j hj hc => k2.own j hj (hF.cput _ (D + 1) W2 _ j (by omega) hi (nc_loop hl) hc)⟩ ((World.putObj_heap_other (by omega)).trans hd)⟩
theorem roundX_any {m m' : Nat} {P : Program} {l : Nat} {f : FuncId} {tmps : Array Value} {assign body : Code} {w : World} {R : Ending → World → Prop}
    (h : RoundIn Fence.wide m P l f tmps assign body w R) : RoundIn Fence.wide m' P l f tmps assign body w R := ⟨h.1, fun c cs _ => h.2 c cs (fun d h => by cases h)⟩
theorem roundX_in {F : Fence} {n : Nat} {P : Program} {l l2 : Nat} {f : FuncId} {tmps : Array Value} {assign body : Code} {w : World} {R : Ending → World → Prop}
    (h : RoundIn F n P l f tmps assign body w R) : RoundIn (F.inRound l2) n P l f tmps assign body w R := h
theorem yieldX_any {m m' l : Nat} {P : Program} {args : Array Value} {w : World} {R : Ending → World → Prop} (h : YieldAt Fence.wide m P l args w R) : YieldAt Fence.wide m' P l args w R := by
  obtain ⟨fn, tmps, assign, body, hy, hR⟩ := h
  exact ⟨fn, tmps, assign, body, hy, roundX_any hR⟩
theorem seqX_any {m m' : Nat} {P : Program} {gf : Nat} {lb : Array Value} {encs : Nat → Array Value} {N : Nat} {T : Nat → Prop} {w : World} (h : SeqX m P gf lb encs N T w) : SeqX m' P gf lb encs N T w :=
  fun l J C W hb hf hT hY h0 => callsIn_wide.2 (callsIn_wide.1 (h l J C W hb hf hT (fun k W1 hk hlt => yieldX_any (hY k W1 hk hlt)) h0))
/-- The marks of ranges that are behind one. -/
structure Marks (B : Nat) (dl : List Nat) (W : World) : Prop where
  nodup : dl.Nodup
  each : ∀ D ∈ dl, B ≤ D ∧ W.heap[D]? = some (.deferred (some []))
def mkDf (D : Nat) : Deferred := { target := .collected D, args := #[] }
theorem Marks.cons {B D : Nat} {dl : List Nat} {W : World} (h : Marks B dl W) (hD : B ≤ D) (hn : D ∉ dl) (hW : W.heap[D]? = some (.deferred (some []))) : Marks B (D :: dl) W := ⟨List.nodup_cons.2 ⟨hn, h.nodup⟩, fun E hE => by
  rcases List.mem_cons.1 hE with rfl | hE
  · exact ⟨hD, hW⟩
  · exact h.each E hE⟩
theorem Marks.keep {B s : Nat} {J C : Nat → World → Prop} {dl : List Nat} {A A' : World} (h : Marks B dl A) (f : Fair B J C) (hj : J s A) (k : Keep C A A') : Marks B dl A' :=
  ⟨h.nodup, fun D hD => ⟨(h.each D hD).1, (k.block D (Array.getElem?_eq_some_iff.1 (h.each D hD).2).1 (fun hc => by
    obtain ⟨vs, T, z, h2⟩ := f.cell s A D hj hc
    rw [(h.each D hD).2] at h2; cases h2)).trans (h.each D hD).2⟩⟩
theorem leaves_marks {F : Fence} {n B s : Nat} {P : Program} {fn : Func} {tmps : Array Value} {R : Ending → World → Prop} {J C : Nat → World → Prop} (f : Fair B J C) {W0 : World} (hW0 : W0.heap.size ≤ B) : ∀ (dl : List Nat) (W : World), Marks B dl W → J s W → Keep C W0 W →
    (∀ W', J s W' → Keep C W0 W' → LeavesIn F n P fn tmps R [] .returning W') → LeavesInM F n P fn tmps R (dl.map mkDf) .returning W
  | [], W, _, hj, hk, h => h W hj hk
  | D :: dl, W, hd, hj, hk, h => by
    obtain ⟨h1, h2⟩ := hd.each D List.mem_cons_self
    refine ⟨by simp, .inl ⟨D, _, rfl, run_takeDeferred h2, leaves_marks f hW0 dl _ ⟨(List.nodup_cons.1 hd.nodup).2, fun E hE => ⟨(hd.each E (List.mem_cons_of_mem _ hE)).1, (World.putObj_heap_other (fun e => (List.nodup_cons.1 hd.nodup).1 (by rw [← e]; exact hE))).trans (hd.each E (List.mem_cons_of_mem _ hE)).2⟩⟩ (f.put s D W _ h1 hj (nc_def h2)) ?_ h⟩⟩
    exact ⟨by have := hk.size; simpa using this, fun j hj2 hc => (World.putObj_heap_other (by omega)).trans (hk.block j hj2 hc), fun j hj2 hc => hk.own j hj2 (f.cput s D W _ j h1 hj (nc_def h2) hc)⟩
end Go.Proofs.Ytjelgmdjmjnnfaa
namespace Go.Proofs.Ytjelgmdjmjnnfaa
open Go Go.RowKit Go.Maps
noncomputable def mayL (g : Gr) : List Bool := (List.range g.nodes.length).map fun n : Nat => mayG g n
theorem mayL_len (g : Gr) : (mayL g).length = g.nodes.length := by simp [mayL]
theorem mayL_at {g : Gr} {n : Nat} (h : n < g.nodes.length) : (mayL g).getD n false = mayG g n := by simp [mayL, List.getD, h]
theorem Gr.At.heap {w w' : World} {g : Gr} (h : Gr.At w g) (hs : w.heap.size ≤ w'.heap.size) (hb : ∀ k, k < w.heap.size → w'.heap[k]? = w.heap[k]?) : Gr.At w' g := by
  have := h.below (w' := { w with heap := w'.heap }) ⟨rfl, rfl, rfl, hs, hb⟩
  exact ⟨this.rules, this.nodes, this.kids, this.rl, this.nl, this.rn, this.nn, this.texts, this.names⟩
/-- Where the first is of which something does not hold. -/
def stopAt (q : Int → Bool) : List Int → Nat → Option Nat
  | [], _ => none
  | k :: r, i => if q k then some i else stopAt q r (i + 1)
theorem upTo_idx {may : Int → Bool} {a : List Int} {j : Int} (h : (j = -1 ∧ ∀ k ∈ a, (!may k) = false) ∨ (∃ i : Nat, j = i ∧ i < a.length ∧ (∀ s, s < i → (!may (a.getD s 0)) = false) ∧ (!may (a.getD i 0)) = true)) :
    (j = -1 ∧ upTo may a = a) ∨ (∃ i : Nat, j = i ∧ i < a.length ∧ upTo may a = a.take (i + 1)) := by
  rcases h with ⟨rfl, h⟩ | ⟨i, rfl, h1, h2, h3⟩
  · exact .inl ⟨rfl, upTo_all fun k hk => by simpa using h k hk⟩
  · exact .inr ⟨i, rfl, h1, upTo_at a i h1 (fun s hs => by simpa using h2 s hs) (by simpa using h3)⟩

end Go.Proofs.Ytjelgmdjmjnnfaa
namespace Go.Proofs.Ytjelgmdjmjnnfaa
open Go Go.RowKit Go.Maps Go.Shelf
attribute [local go_sem] Oper.semAt_some
theorem upTo_take (may : Int → Bool) : ∀ l : List Int, ∃ j, upTo may l = l.take j
  | [] => ⟨0, rfl⟩
  | k :: r => by
    unfold upTo
    split
    · obtain ⟨j, e⟩ := upTo_take may r
      exact ⟨j + 1, by rw [e]; rfl⟩
    · exact ⟨1, by simp⟩
theorem fsts_at (x : Nd) (may : Int → Bool) (i : Nat) (hi : i < (fsts x may).length) : i < x.kids.length ∧ x.kids.getD i 0 = (fsts x may).getD i 0 := by
  have key : ∃ j, fsts x may = x.kids.take j := by
    unfold fsts
    split
    · exact upTo_take may _
    · exact ⟨x.kids.length, by simp⟩
  obtain ⟨j, e⟩ := key
  rw [e] at hi ⊢
  simp only [List.length_take] at hi
  refine ⟨by omega, ?_⟩
  simp only [List.getD]
  rw [List.getElem?_take, if_pos (by omega)]
/-- How many stand ahead of the i-th kid's. -/
def offI (f : Int → List Int) (ks : List Int) (i : Nat) : Nat := 1 + ((ks.take i).flatMap f).length
theorem offI_next {f : Int → List Int} {ks : List Int} {i : Nat} (h : i < ks.length) : offI f ks (i + 1) = offI f ks i + (f (ks.getD i 0)).length := by
  unfold offI
  rw [List.take_add_one, List.getElem?_eq_getElem h, Option.toList_some, List.flatMap_append, List.length_append, List.flatMap_cons, List.flatMap_nil, List.append_nil]
  simp only [List.getD, List.getElem?_eq_getElem h, Option.getD_some]
  omega
theorem offI_at {f : Int → List Int} {ks : List Int} {n : Int} {i k : Nat} (h : i < ks.length) (hk : k < (f (ks.getD i 0)).length) : (n :: ks.flatMap f).getD (offI f ks i + k) 0 = (f (ks.getD i 0)).getD k 0 ∧ offI f ks i + k < (n :: ks.flatMap f).length := by
  have e : ks = ks.take i ++ (ks.getD i 0 :: ks.drop (i + 1)) := by
    have : ks.drop i = ks.getD i 0 :: ks.drop (i + 1) := by rw [List.drop_eq_getElem_cons h]; simp [List.getD, List.getElem?_eq_getElem h]
    rw [← this, List.take_append_drop]
  generalize ks.getD i 0 = q at e hk ⊢
  have e2 : ks.flatMap f = (ks.take i).flatMap f ++ (f q ++ (ks.drop (i + 1)).flatMap f) := by
    conv => lhs; rw [e]
    rw [List.flatMap_append, List.flatMap_cons]
  rw [e2]
  unfold offI
  generalize (ks.take i).flatMap f = a
  generalize (ks.drop (i + 1)).flatMap f = c
  refine ⟨?_, by simp only [List.length_cons, List.length_append]; omega⟩
  simp only [List.getD, show 1 + a.length + k = (a.length + k) + 1 by omega, List.getElem?_cons_succ]
  rw [List.getElem?_append_right (by omega), Nat.add_sub_cancel_left, List.getElem?_append_left hk]
theorem offI_all {f : Int → List Int} {ks : List Int} {n : Int} : offI f ks ks.length = (n :: ks.flatMap f).length := by
  unfold offI; rw [List.take_length]; simp; omega
def encI (L : List Int) (k : Nat) : Array Value := #[.int .i64 (L.getD k 0)]
end Go.Proofs.Ytjelgmdjmjnnfaa

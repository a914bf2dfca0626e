/- The law of ranges over a function that reads, and grows memory; the loop's body turns memory of its own, that which it makes in its rounds among it. Nothing here speaks of one program. -/
import Derived.Test.YtmlaepbmdfmgbaaA3
import Derived.Test.YtmlaepbmdfmgbaaL0
import Derived.Test.YtmlaepbmdfmgbaaC1
import Derived.Test.YtmlaepbmdfmgbaaB5
import Derived.LoopNIn
import Derived.LoopIn
import Derived.Shelf.Abstract
import Derived.Shelf.RegionOpen
set_option linter.unusedSimpArgs false
set_option linter.unusedVariables false
namespace Go.Proofs.Ytmlaepbmdfmgbaa
open Go Go.RowKit
variable {P : Program}
/-- All but the caller's own blocks is kept; what was not the caller's is not made its. -/
structure Keep (C : Nat → World → Prop) (A A' : World) : Prop where
  size : A.heap.size ≤ A'.heap.size
  block : ∀ j, j < A.heap.size → ¬ C j A → A'.heap[j]? = A.heap[j]?
  own : ∀ j, j < A.heap.size → C j A' → C j A
theorem Keep.refl (C : Nat → World → Prop) (A : World) : Keep C A A := ⟨Nat.le_refl _, fun _ _ _ => rfl, fun _ _ h => h⟩
theorem Keep.trans {C : Nat → World → Prop} {A A' A'' : World} (h : Keep C A A') (k : Keep C A' A'') : Keep C A A'' :=
  ⟨Nat.le_trans h.size k.size, fun j hj hc => (k.block j (Nat.lt_of_lt_of_le hj h.size) (fun e => hc (h.own j hj e))).trans (h.block j hj hc), fun j hj hc => h.own j hj (k.own j (Nat.lt_of_lt_of_le hj h.size) hc)⟩
/-- A block that is no memory of values: a loop's record, a mark. -/
def NoCells (A : World) (b : Nat) : Prop := ∃ o : Obj, A.heap[b]? = some o ∧ ∀ vs T z, o ≠ .cells vs T z
theorem nc_loop {A : World} {b : Nat} {lp : Loop} (h : A.heap[b]? = some (.loop lp)) : NoCells A b := ⟨_, h, fun _ _ _ => by nofun⟩
theorem nc_def {A : World} {b : Nat} {ds : Option (List Deferred)} (h : A.heap[b]? = some (.deferred ds)) : NoCells A b := ⟨_, h, fun _ _ _ => by nofun⟩
theorem NoCells.ne {A : World} {b j : Nat} {vs : Array Value} {T : TypeId} {z : Nat × Nat} (h : NoCells A b) (hj : A.heap[j]? = some (.cells vs T z)) : j ≠ b := by
  rintro rfl
  obtain ⟨o, h1, h2⟩ := h
  rw [hj] at h1
  exact h2 _ _ _ (Option.some.inj h1).symm
/-- What a caller says while a function hands out: it stays as memory grows, and as loops' records turn. -/
structure Fair (B : Nat) (J : Nat → World → Prop) (C : Nat → World → Prop) : Prop where
  grow : ∀ s A A', J s A → Below A.heap.size A A' → J s A'
  put : ∀ s b A o, B ≤ b → J s A → NoCells A b → J s (A.putObj b o)
  cgrow : ∀ s A A' j, J s A → Below A.heap.size A A' → C j A' → C j A
  cput : ∀ s b A o j, B ≤ b → J s A → NoCells A b → C j (A.putObj b o) → C j A
  cell : ∀ s A j, J s A → C j A → ∃ vs T z, A.heap[j]? = some (.cells vs T z)
theorem Fair.keep {B : Nat} {J C : Nat → World → Prop} (f : Fair B J C) {s : Nat} {A A' : World} (h : J s A) (hb : Below A.heap.size A A') : Keep C A A' :=
  ⟨hb.size, fun j hj _ => hb.block j hj, fun j _ hc => f.cgrow s A A' j h hb hc⟩
theorem Fair.lt {B : Nat} {J C : Nat → World → Prop} (f : Fair B J C) {s : Nat} {A : World} (h : J s A) {j : Nat} (hc : C j A) : j < A.heap.size := by
  obtain ⟨vs, T, z, h⟩ := f.cell s A j h hc
  exact (Array.getElem?_eq_some_iff.1 h).1
/-- The contract: N things in their turn; T are the blocks that the function reads. -/
def SeqX (n : Nat) (P : Program) (gf : Nat) (lb : Array Value) (encs : Nat → Array Value) (N : Nat) (T : Nat → Prop) (w : World) : Prop :=
  ∀ (l : Nat) (J C : Nat → World → Prop) (W : World), Below w.heap.size w W → Fair W.heap.size J C → (∀ j, T j → ¬ C j W) →
    (∀ k W1, J k W1 → k < N → YieldAt Fence.wide (n - 1) P l (encs k) W1 fun e W' => e = .returned (.bool true) ∧ J (k + 1) W' ∧ Keep C W1 W') →
    J 0 W → CallsIn Fence.wide n P gf (#[.func (.yield l) #[] #[]] ++ lb) W fun e W' => (∃ v, e = .returned v) ∧ J N W' ∧ Keep C W W'
/-- How a body ends. -/
def endX (C : Nat → World → Prop) (I : Nat → World → Prop) (k : Nat) (W : World) : Exit → Act → World → Prop
  | .normal, _, W' => Keep C W W' ∧ I k W'
  | _, _, _ => False
theorem wpIn_rangeFunc_own {n : Nat} {g : Operand} {ps : Array Tmp} {assign body : Code} {Q : Exit → Act → World → Prop} {a : Act} {w : World} (h1 : 1 ≤ n) {gf : Nat} {lb : Array Value}
    (hg : a.eval g = .func (.func gf) #[] lb) (eg : ∀ args w, (callFunc gf args).run P w = .ok (.enter gf args) w) {encs : Nat → Array Value} {N : Nat} {T : Nat → Prop} {w0 : World}
    (hseq : SeqX (n - 1) P gf lb encs N T w0) (hb0 : Below w0.heap.size w0 w) (hps : ∀ k, (encs k).size = ps.size)
    (I C : Nat → World → Prop) (hF : Fair w.heap.size I C) (hT : ∀ j, T j → ¬ C j w) (h0 : I 0 w) (a₁ : Nat → Act)
    (hassign : ∀ (l k : Nat) (W : World) (K : Act → World → Prop), K (a₁ k) W →
      assign.wpIn (Fence.wide.inRound l) (n - 1 - 1) P (Exit.then K (fun _ _ _ => False)) { tmps := (ps.zip (encs k)).foldl (fun t (p, v) => t.setIfInBounds p v) a.tmps, defers := [] } W)
    (hbody : ∀ (l k : Nat) (W : World), I k W → k < N → body.wpIn (Fence.wide.inRound l) (n - 1 - 1) P (endX C I (k + 1) W) (a₁ k) W)
    (hdone : ∀ (D : Nat) (W : World), D = w.heap.size → I N W → Keep C w W → W.heap[D]? = some (.deferred (some [])) → Q .normal { a with defers := { target := .collected D, args := #[] } :: a.defers } W) :
    (Code.rangeFunc g ps assign body).wpIn Fence.wide n P Q a w := by
  refine wpIn_rangeFunc ?_
  intro fn hfn
  show ∃ _, _
  let rec0 : LoopState → Option Code → Loop := fun st pe => { state := st, pending := pe, fn, tmps := a.tmps, params := ps, assign, body, defers := w.heap.size }
  obtain ⟨D, eD⟩ : ∃ D, D = w.heap.size := ⟨_, rfl⟩
  obtain ⟨W1, eW⟩ : ∃ W1, W1 = (w.alloc (.deferred (some []))).alloc (.loop (rec0 .ready none)) := ⟨_, rfl⟩
  have hB2 : Below w.heap.size w W1 := by rw [eW]; exact B2 _ _ _
  have hzz : W1.heap.size = D + 2 := by rw [eW, eD]; simp
  have hD : W1.heap[D]? = some (.deferred (some [])) := by
    rw [eW, eD]; exact (Below.heap_alloc _ _ _ (by simp)).trans (World.alloc_heap_new w _)
  have hL : W1.heap[D + 1]? = some (.loop (rec0 .ready none)) := by
    rw [eW, eD]; have := World.alloc_heap_new (w.alloc (.deferred (some []))) (.loop (rec0 .ready none)); rwa [World.size_alloc] at this
  have hI1 : I 0 W1 := hF.grow 0 _ _ h0 hB2
  have K1 : Keep C w W1 := hF.keep h0 hB2
  refine ⟨D + 1, [{ target := .collected D, args := #[] }], W1, { target := .fn (.func gf) lb, args := #[.func (.yield (D + 1)) #[] #[]] }, W1, gf, #[.func (.yield (D + 1)) #[] #[]] ++ lb, W1, ?_, ?_, fun _ _ => trivial, ?_, fun _ => h1, ?_⟩
  · rw [eW, eD]; exact run_enterLoop_outer _ _ _ _ _
  · simp only [resolve, hg]
    simp [go_sem]
  · simp [invoke, go_sem, eg]
  have nodef : ∀ s A j d, I s A → A.heap[j]? = some (.deferred d) → ¬ C j A := fun s A j d h e hc => by
    obtain ⟨vs, T, z, h2⟩ := hF.cell s A j h hc
    rw [e] at h2; cases h2
  have noloop : ∀ s A j d, I s A → A.heap[j]? = some (.loop d) → ¬ C j A := fun s A j d h e hc => by
    obtain ⟨vs, T, z, h2⟩ := hF.cell s A j h hc
    rw [e] at h2; cases h2
  refine (hseq (D + 1) (fun k W => I k W ∧ W.heap[D + 1]? = some (.loop (rec0 .ready none)) ∧ W.heap[D]? = some (.deferred (some []))) C W1 (hb0.trans (hB2.mono hb0.size)) ?_ ?_ ?_ ⟨hI1, hL, hD⟩).mono ?_
  · constructor
    · rintro s A A' ⟨hi, hl, hd⟩ hb
      have q1 := (Array.getElem?_eq_some_iff.1 hl).1
      exact ⟨hF.grow s A A' hi hb, (hb.block _ q1).trans hl, (hb.block _ (by omega)).trans hd⟩
    · rintro s b A o hb ⟨hi, hl, hd⟩ he
      exact ⟨hF.put s b A o (by omega) hi he, (World.putObj_heap_other (by omega)).trans hl, (World.putObj_heap_other (by omega)).trans hd⟩
    · rintro s A A' j ⟨hi, hl, hd⟩ hb hc
      exact hF.cgrow s A A' j hi hb hc
    · rintro s b A o j hb ⟨hi, hl, hd⟩ he hc
      exact hF.cput s b A o j (by omega) hi he hc
    · rintro s A j ⟨hi, hl, hd⟩ hc
      exact hF.cell s A j hi hc
  · intro j hj hc
    exact hT j hj (hF.cgrow 0 _ _ j h0 hB2 hc)
  · rintro k W ⟨hi, hl, hd⟩ hk
    have hlt : D + 1 < W.heap.size := (Array.getElem?_eq_some_iff.1 hl).1
    refine ⟨fn, _, assign, body, run_yield (P := P) (args := encs k) hl (hps k), roundIn_of_wpIn hfn (hassign _ k W _ ⟨_, run_beginRound hl rfl, ?_⟩)⟩
    obtain ⟨Wb, eWb⟩ : ∃ Wb, Wb = W.putObj (D + 1) (.loop (rec0 .busy none)) := ⟨_, rfl⟩
    have hl2 : Wb.heap[D + 1]? = some (.loop (rec0 .busy none)) := by rw [eWb]; exact World.putObj_heap_same hlt
    have hd2 : Wb.heap[D]? = some (.deferred (some [])) := by rw [eWb]; exact (World.putObj_heap_other (by omega)).trans hd
    have hi2 : I k Wb := by rw [eWb]; exact hF.put k (D + 1) W _ (by omega) hi (nc_loop hl)
    have hzb : Wb.heap.size = W.heap.size := by rw [eWb]; simp
    have hcb : ∀ j, C j Wb → C j W := fun j hc => by rw [eWb] at hc; exact hF.cput k (D + 1) W _ j (by omega) hi (nc_loop hl) hc
    have hob : ∀ j, j ≠ D + 1 → Wb.heap[j]? = W.heap[j]? := fun j hj => by rw [eWb]; exact World.putObj_heap_other hj
    show body.wpIn _ _ _ _ _ (W.putObj (D + 1) (.loop (rec0 .busy none)))
    rw [← eWb]
    refine wpIn_mono (hbody _ k _ hi2 hk) ?_
    rintro e a3 W3 hp
    cases e with
    | normal =>
      obtain ⟨hk3, hi3⟩ := hp
      have hl3 := (hk3.block (D + 1) (by omega) (noloop _ _ _ _ hi2 hl2)).trans hl2
      have hd3 := (hk3.block D (by omega) (nodef _ _ _ _ hi2 hd2)).trans hd2
      refine ⟨_, _, run_endRound (P := P) none hl3, rfl, ⟨hF.put _ (D + 1) _ _ (by omega) hi3 (nc_loop hl3), World.putObj_heap_same (Array.getElem?_eq_some_iff.1 hl3).1, (World.putObj_heap_other (by omega)).trans hd3⟩, ?_⟩
      refine ⟨?_, fun j hj hc => ?_, fun j hj hc => ?_⟩
      · have := hk3.size; simp; omega
      · by_cases e : j = D + 1
        · subst e
          exact (World.putObj_heap_same (Array.getElem?_eq_some_iff.1 hl3).1).trans hl.symm
        · exact (World.putObj_heap_other e).trans ((hk3.block j (by omega) (fun h => hc (hcb j h))).trans (hob j e))
      · have c3 := hF.cput _ (D + 1) W3 _ j (by omega) hi3 (nc_loop hl3) hc
        exact hcb j (hk3.own j (by omega) c3)
    | ret => exact hp.elim
    | exit id => exact hp.elim
    | goto t => exact hp.elim
    | panic ch => exact hp.elim
    | outgrown => exact hp.elim
  · rintro e W2 ⟨⟨v, rfl⟩, ⟨hi, hl, hd⟩, hk2⟩
    have k2 := K1.trans hk2
    refine ⟨none, _, run_endLoop (P := P) hl (by simp [rec0]), hdone D _ eD (hF.put _ (D + 1) _ _ (by omega) hi (nc_loop hl)) ⟨by have := k2.size; simpa using this, fun j hj hc => (World.putObj_heap_other (by omega)).trans (k2.block j hj hc), fun j hj hc => k2.own j hj (hF.cput _ (D + 1) W2 _ j (by omega) hi (nc_loop hl) hc)⟩ ((World.putObj_heap_other (by omega)).trans hd)⟩
theorem roundX_any {m m' : Nat} {P : Program} {l : Nat} {f : FuncId} {tmps : Array Value} {assign body : Code} {w : World} {R : Ending → World → Prop}
    (h : RoundIn Fence.wide m P l f tmps assign body w R) : RoundIn Fence.wide m' P l f tmps assign body w R := ⟨h.1, fun c cs _ => h.2 c cs (fun d h => by cases h)⟩
theorem roundX_in {F : Fence} {n : Nat} {P : Program} {l l2 : Nat} {f : FuncId} {tmps : Array Value} {assign body : Code} {w : World} {R : Ending → World → Prop}
    (h : RoundIn F n P l f tmps assign body w R) : RoundIn (F.inRound l2) n P l f tmps assign body w R := h
theorem yieldX_any {m m' l : Nat} {P : Program} {args : Array Value} {w : World} {R : Ending → World → Prop} (h : YieldAt Fence.wide m P l args w R) : YieldAt Fence.wide m' P l args w R := by
  obtain ⟨fn, tmps, assign, body, hy, hR⟩ := h
  exact ⟨fn, tmps, assign, body, hy, roundX_any hR⟩
theorem seqX_any {m m' : Nat} {P : Program} {gf : Nat} {lb : Array Value} {encs : Nat → Array Value} {N : Nat} {T : Nat → Prop} {w : World} (h : SeqX m P gf lb encs N T w) : SeqX m' P gf lb encs N T w :=
  fun l J C W hb hf hT hY h0 => callsIn_wide.2 (callsIn_wide.1 (h l J C W hb hf hT (fun k W1 hk hlt => yieldX_any (hY k W1 hk hlt)) h0))
/-- The marks of ranges that are behind one. -/
structure Marks (B : Nat) (dl : List Nat) (W : World) : Prop where
  nodup : dl.Nodup
  each : ∀ D ∈ dl, B ≤ D ∧ W.heap[D]? = some (.deferred (some []))
def mkDf (D : Nat) : Deferred := { target := .collected D, args := #[] }
theorem Marks.cons {B D : Nat} {dl : List Nat} {W : World} (h : Marks B dl W) (hD : B ≤ D) (hn : D ∉ dl) (hW : W.heap[D]? = some (.deferred (some []))) : Marks B (D :: dl) W := ⟨List.nodup_cons.2 ⟨hn, h.nodup⟩, fun E hE => by
  rcases List.mem_cons.1 hE with rfl | hE
  · exact ⟨hD, hW⟩
  · exact h.each E hE⟩
theorem Marks.keep {B s : Nat} {J C : Nat → World → Prop} {dl : List Nat} {A A' : World} (h : Marks B dl A) (f : Fair B J C) (hj : J s A) (k : Keep C A A') : Marks B dl A' :=
  ⟨h.nodup, fun D hD => ⟨(h.each D hD).1, (k.block D (Array.getElem?_eq_some_iff.1 (h.each D hD).2).1 (fun hc => by
    obtain ⟨vs, T, z, h2⟩ := f.cell s A D hj hc
    rw [(h.each D hD).2] at h2; cases h2)).trans (h.each D hD).2⟩⟩
theorem leaves_marks {F : Fence} {n B s : Nat} {P : Program} {fn : Func} {tmps : Array Value} {R : Ending → World → Prop} {J C : Nat → World → Prop} (f : Fair B J C) {W0 : World} (hW0 : W0.heap.size ≤ B) : ∀ (dl : List Nat) (W : World), Marks B dl W → J s W → Keep C W0 W →
    (∀ W', J s W' → Keep C W0 W' → LeavesIn F n P fn tmps R [] .returning W') → LeavesInM F n P fn tmps R (dl.map mkDf) .returning W
  | [], W, _, hj, hk, h => h W hj hk
  | D :: dl, W, hd, hj, hk, h => by
    obtain ⟨h1, h2⟩ := hd.each D List.mem_cons_self
    refine ⟨by simp, .inl ⟨D, _, rfl, run_takeDeferred h2, leaves_marks f hW0 dl _ ⟨(List.nodup_cons.1 hd.nodup).2, fun E hE => ⟨(hd.each E (List.mem_cons_of_mem _ hE)).1, (World.putObj_heap_other (fun e => (List.nodup_cons.1 hd.nodup).1 (by rw [← e]; exact hE))).trans (hd.each E (List.mem_cons_of_mem _ hE)).2⟩⟩ (f.put s D W _ h1 hj (nc_def h2)) ?_ h⟩⟩
    exact ⟨by have := hk.size; simpa using this, fun j hj2 hc => (World.putObj_heap_other (by omega)).trans (hk.block j hj2 hc), fun j hj2 hc => hk.own j hj2 (f.cput s D W _ j h1 hj (nc_def h2) hc)⟩
end Go.Proofs.Ytmlaepbmdfmgbaa
namespace Go.Proofs.Ytmlaepbmdfmgbaa
open Go Go.RowKit Go.Maps
noncomputable def mayL (g : Gr) : List Bool := (List.range g.nodes.length).map fun n : Nat => mayG g n
theorem mayL_len (g : Gr) : (mayL g).length = g.nodes.length := by simp [mayL]
theorem mayL_at {g : Gr} {n : Nat} (h : n < g.nodes.length) : (mayL g).getD n false = mayG g n := by simp [mayL, List.getD, h]
/-- A grammar at work: it, which of its nodes may match nothing. -/
structure Wk (w : World) (p : Nat) (g : Gr) (nb : Nat) : Prop where
  box : Blk w p #[.slice g.RA g.rules.length g.rc, .slice g.NA g.nodes.length g.nc, .slice (some ⟨nb, 0, none⟩) g.nodes.length g.nodes.length] 76
  gr : Gr.At w g
  row : Blk w nb (bls (mayL g)).toArray 4
theorem Wk.below {w w' : World} {p nb : Nat} {g : Gr} (h : Wk w p g nb) (hb : Below w.heap.size w w') : Wk w' p g nb :=
  ⟨h.box.below' hb, h.gr.below hb, h.row.below' hb⟩
theorem Gr.At.heap {w w' : World} {g : Gr} (h : Gr.At w g) (hs : w.heap.size ≤ w'.heap.size) (hb : ∀ k, k < w.heap.size → w'.heap[k]? = w.heap[k]?) : Gr.At w' g := by
  have := h.below (w' := { w with heap := w'.heap }) ⟨rfl, rfl, rfl, hs, hb⟩
  exact ⟨this.rules, this.nodes, this.kids, this.rl, this.nl, this.rn, this.nn, this.texts, this.names⟩
theorem Wk.heap {w w' : World} {p nb : Nat} {g : Gr} (h : Wk w p g nb) (hs : w.heap.size ≤ w'.heap.size) (hb : ∀ k, k < w.heap.size → w'.heap[k]? = w.heap[k]?) : Wk w' p g nb :=
  ⟨(hb p h.box.lt).trans h.box, h.gr.heap hs hb, (hb nb h.row.lt).trans h.row⟩
theorem takes_any {w : World} {p nb : Nat} {g : Gr} (h : Wk w p g nb) (n : Nat) (hn : n < g.nodes.length) :
    Calls Try.prog 97 #[.pointer (some ⟨p, 0, none⟩), .int .i64 n] w fun e w' => e = .returned (.bool (!mayG g n)) ∧ w' = w := by
  have c1 := h.box.cell 2
  simp only [List.getElem?_toArray, List.getElem?_cons_zero, List.getElem?_cons_succ] at c1
  have cr : w.cell? ⟨nb, n, none⟩ = some (.bool (mayG g n)) := (h.row.cell n).trans (by rw [List.getElem?_toArray, bls_at (by rw [mayL_len]; exact hn), mayL_at hn])
  generalize mayG g n = b at cr ⊢
  obtain ⟨m, em⟩ : ∃ m, m = g.nodes.length := ⟨_, rfl⟩
  rw [← em] at c1 hn
  have hn2 : (n : Int) < m := by omega
  clear h em
  go_enter Try.func97, Try.ntmps97
  go_wp2_with fail
  go_ret
  exact ⟨rfl, rfl⟩
/-- Where the first is of which something does not hold. -/
def stopAt (q : Int → Bool) : List Int → Nat → Option Nat
  | [], _ => none
  | k :: r, i => if q k then some i else stopAt q r (i + 1)
set_option maxRecDepth 100000 in
set_option maxHeartbeats 2000000 in
theorem idx_takes (A : Option Addr) (c : Nat) (a : List Int) (p : Nat) (q : Int → Bool) (ha : a.length ≤ 140737488351232) (w : World) (hA : Lies w A (ints a))
    (hq : ∀ k ∈ a, ∀ w', Below w.heap.size w w' → Calls Try.prog 97 #[.pointer (some ⟨p, 0, none⟩), .int .i64 k] w' fun e w'' => e = .returned (.bool (q k)) ∧ Below w'.heap.size w' w'') :
    Calls Try.prog 96 #[.slice A a.length c, .func (.func 97) #[.pointer (some ⟨p, 0, none⟩)] #[]] w fun e w' => (∃ j : Int, e = .returned (.int .i64 j) ∧ ((j = -1 ∧ ∀ k ∈ a, q k = false) ∨ (∃ i : Nat, j = i ∧ i < a.length ∧ (∀ s, s < i → q (a.getD s 0) = false) ∧ q (a.getD i 0) = true))) ∧ Below w.heap.size w w' := by
  have HA := Lib.hid hA
  have HQ := Lib.hid hq
  obtain ⟨m, em⟩ : ∃ m, m = a.length := ⟨_, rfl⟩
  rw [← em] at ha ⊢
  have EM := Lib.hid em
  clear hA hq em
  go_enter Try.func96, Try.ntmps96
  go_wp2_with fail
  go_loopw [8, 5] (fun i _ wr => ∃ k : Nat, k ≤ m ∧ i = .int .i64 k ∧ (∀ j, j < k → q (a.getD j 0) = false) ∧ Below w.heap.size w wr) (fun i _ _ => m - (intOf i).toNat)
  case atStart => exact ⟨0, by omega, rfl, fun j h => by omega, Below.refl _ _⟩
  case round =>
    obtain ⟨k, hk, rfl, ht, hbl⟩ := hrel
    have HT := Lib.hid ht
    have BL := Lib.hid hbl
    clear ht hbl
    by_cases hlt : k < m
    · have hlt2 : (k : Int) < m := by omega
      obtain ⟨b1, o1, rfl, _, c1⟩ := lies_cell (HA.out.below BL.out) (show k < a.length by have := EM.out; omega)
      have hmem : a.getD k 0 ∈ a := by have := EM.out; simp [List.getD, List.getElem?_eq_getElem (show k < a.length by omega)]
      have A1 := Lib.hid (HQ.out _ hmem)
      clear hmem
      generalize hx : a.getD k 0 = x at c1 A1
      have HX := Lib.hid hx
      clear hx
      obtain ⟨bo, ebo⟩ : ∃ bo, bo = q x := ⟨_, rfl⟩
      rw [← ebo] at A1
      have EBO := Lib.hid ebo
      clear ebo
      cases bo with
      | true =>
        go_wp2_with (go_at_call 97; with_reducible refine (A1.out _ BL.out).mono ?_; rintro e w1 ⟨rfl, hb⟩; have H1 := Lib.hid (bb BL.out hb); clear hb)
        go_ret
        exact ⟨⟨_, rfl, .inr ⟨k, rfl, by have := EM.out; omega, HT.out, by rw [HX.out]; exact EBO.out.symm⟩⟩, H1.out⟩
      | false =>
        go_wp2_with (go_at_call 97; with_reducible refine (A1.out _ BL.out).mono ?_; rintro e w1 ⟨rfl, hb⟩; have H1 := Lib.hid (bb BL.out hb); clear hb)
        go_roundw
        case rel => exact ⟨k + 1, by omega, by go_num, fun j hj => by
            by_cases e : j = k
            · subst e; rw [HX.out]; exact EBO.out.symm
            · exact HT.out j (by omega), H1.out⟩
        case measure => simp [intOf]; omega
    · obtain rfl : k = m := by omega
      have hlt2 : ¬ (k : Int) < k := by omega
      go_wp2_with fail
      go_ret
      refine ⟨⟨_, rfl, .inl ⟨rfl, fun x hx => ?_⟩⟩, BL.out⟩
      obtain ⟨j, hj, rfl⟩ := List.getElem_of_mem hx
      have := HT.out j (by have := EM.out; omega)
      simp only [List.getD, List.getElem?_eq_getElem hj, Option.getD_some] at this
      exact this
theorem upTo_idx {may : Int → Bool} {a : List Int} {j : Int} (h : (j = -1 ∧ ∀ k ∈ a, (!may k) = false) ∨ (∃ i : Nat, j = i ∧ i < a.length ∧ (∀ s, s < i → (!may (a.getD s 0)) = false) ∧ (!may (a.getD i 0)) = true)) :
    (j = -1 ∧ upTo may a = a) ∨ (∃ i : Nat, j = i ∧ i < a.length ∧ upTo may a = a.take (i + 1)) := by
  rcases h with ⟨rfl, h⟩ | ⟨i, rfl, h1, h2, h3⟩
  · exact .inl ⟨rfl, upTo_all fun k hk => by simpa using h k hk⟩
  · exact .inr ⟨i, rfl, h1, upTo_at a i h1 (fun s hs => by simpa using h2 s hs) (by simpa using h3)⟩

set_option maxRecDepth 100000 in
set_option maxHeartbeats 2000000 in
theorem lfirst_any {w : World} {p nb : Nat} {g : Gr} (h : Wk w p g nb) (hR : Right g) (hc : Capd g) (n : Nat) (hn : n < g.nodes.length) :
    Calls Try.prog 92 #[.pointer (some ⟨p, 0, none⟩), .int .i64 n] w fun e w' => (∃ c : Nat, e = .returned (.slice (g.nodes.getD n Nd.zero).A (fsts (g.nodes.getD n Nd.zero) (mayG g)).length c)) ∧ Below w.heap.size w w' := by
  have hx := h.gr.node hn
  have hup := hR.kidsUp n hn
  have hcap := hc.kids (g.nodes.getD n Nd.zero) (by simp [List.getD, List.getElem?_eq_getElem hn])
  have TK := Lib.hid (fun k (hk : k ∈ (g.nodes.getD n Nd.zero).kids) (w' : World) (hb : Below w.heap.size w w') => by
    have h1 := hup k hk
    have := takes_any (h.below hb) k.toNat (by omega)
    rw [show ((k.toNat : Nat) : Int) = k by omega] at this
    exact this.mono (R' := fun e w'' => e = .returned (.bool (!mayG g k)) ∧ Below w'.heap.size w' w'') (fun e w'' ⟨h1, h2⟩ => ⟨h1, by rw [h2]; exact Below.refl _ _⟩))
  have IX := Lib.hid (fun (w' : World) (hb : Below w.heap.size w w') => idx_takes (g.nodes.getD n Nd.zero).A (g.nodes.getD n Nd.zero).cap (g.nodes.getD n Nd.zero).kids p (fun k => !mayG g k) hx.2.2 w' (hx.below hb).1 (fun k hk w'' hb2 => TK.out k hk w'' (hb.trans (hb2.mono hb.size))))
  obtain ⟨b1, o1, eA, hlt, d0, d1, d2, d3, d4, d5, d6, d7, d8⟩ := h.gr.nodes.nine hn
  have c1 := h.box.cell 1
  simp only [List.getElem?_toArray, List.getElem?_cons_zero, List.getElem?_cons_succ] at c1
  rw [eA] at c1
  have UI := Lib.hid (fun j => upTo_idx (may := mayG g) (a := (g.nodes.getD n Nd.zero).kids) (j := j))
  have FS := Lib.hid (show fsts (g.nodes.getD n Nd.zero) (mayG g) = if (g.nodes.getD n Nd.zero).kind = 6 then upTo (mayG g) (g.nodes.getD n Nd.zero).kids else (g.nodes.getD n Nd.zero).kids from rfl)
  have hz := hx.2.1
  have hx3 := hx.2.2
  generalize fsts (g.nodes.getD n Nd.zero) (mayG g) = F at FS ⊢
  generalize g.nodes.getD n Nd.zero = x at d0 d1 d2 d3 d4 d5 d6 d7 d8 IX UI FS hcap hz hx3 ⊢
  obtain ⟨kd, q0, q1, q2, q3, t, ru, lv, A, cap, ks⟩ := x
  dsimp only at d0 d1 d2 d3 d4 d5 d6 d7 d8 IX UI FS hcap hz hx3 ⊢
  obtain ⟨m, em⟩ : ∃ m, m = g.nodes.length := ⟨_, rfl⟩
  rw [← em] at c1 hn
  have hn2 : (n : Int) < m := by omega
  obtain ⟨r, er⟩ : ∃ r, r = ks.length := ⟨_, rfl⟩
  have ER := Lib.hid er
  rw [← er] at d8 hcap hx3
  have IX2 : RowKit.Hid (∀ (w' : World), Below w.heap.size w w' → Calls Try.prog 96 #[.slice A r cap, .func (.func 97) #[.pointer (some ⟨p, 0, none⟩)] #[]] w' fun e w'' => (∃ j : Int, e = .returned (.int .i64 j) ∧ ((j = -1 ∧ upTo (mayG g) ks = ks) ∨ (∃ i : Nat, j = i ∧ i < r ∧ upTo (mayG g) ks = ks.take (i + 1)))) ∧ Below w'.heap.size w' w'') := Lib.hid (by
    rw [er]
    exact fun w' hb => (IX.out w' hb).mono fun e w'' ⟨⟨j, h1, h2⟩, h3⟩ => ⟨⟨j, h1, UI.out j h2⟩, h3⟩)
  clear IX TK hup h em er hx hc hR UI
  go_enter Try.func92, Try.ntmps92
  by_cases hk : kd = 6
  · rw [if_pos hk] at FS
    subst hk
    go_wp2_with fail
    refine (IX2.out _ (B1 _ _)).mono ?_
    rintro e w1 ⟨⟨j, rfl, hj⟩, hb⟩
    have KB := (Blk.new w #[Value.int IntKind.i64 6, Value.int IntKind.u64 q0, Value.int IntKind.u64 q1, Value.int IntKind.u64 q2, Value.int IntKind.u64 q3, Value.string t, Value.int IntKind.i64 ru, Value.int IntKind.i64 lv, Value.slice A r cap] 44).below' hb
    have k8 : w1.cell? ⟨w.heap.size, 8, none⟩ = some (.slice A r cap) := KB.cell 8
    have H1 := Lib.hid (bb (B1 w _) hb)
    clear hb KB IX2 d0 d1 d2 d3 d4 d5 d6 d7 d8 c1
    rcases hj with ⟨rfl, hU⟩ | ⟨i, rfl, hi, hU⟩
    · have HU := Lib.hid hU
      clear hU
      go_wp2_with fail
      go_ret
      exact ⟨⟨cap, by rw [FS.out, HU.out, ← ER.out]; rfl⟩, H1.out⟩
    · have hi2 : ¬ (i : Int) < 0 := by omega
      have HU := Lib.hid hU
      have hic : i + 1 ≤ cap := by omega
      have hib : i < 140737488351232 := by omega
      have EF : F.length = i + 1 := by rw [FS.out, HU.out, List.length_take, ← ER.out]; omega
      have HEF := Lib.hid EF
      clear hU EF
      cases A with
      | none => have := hz rfl; omega
      | some a =>
        obtain ⟨ab, ao, asub⟩ := a
        go_wp2_with fail
        go_ret
        exact ⟨⟨cap, by rw [HEF.out]; rfl⟩, H1.out⟩
  · rw [if_neg hk] at FS
    go_wp2_with fail
    go_ret
    exact ⟨⟨cap, by rw [FS.out, ← ER.out]; rfl⟩, B1 _ _⟩
end Go.Proofs.Ytmlaepbmdfmgbaa
namespace Go.Proofs.Ytmlaepbmdfmgbaa
open Go Go.RowKit Go.Maps Go.Shelf
attribute [local go_sem] Oper.semAt_some
theorem own_make (p n : Nat) (w : World) : Calls Try.prog 76 #[.pointer (some ⟨p, 0, none⟩), .int .i64 n] w fun e w' => e = .returned (.func (.func 91) #[] #[.pointer (some ⟨w.heap.size + 1, 0, none⟩), .pointer (some ⟨w.heap.size, 0, none⟩)]) ∧ w' = (w.alloc (.cells #[.pointer (some ⟨p, 0, none⟩)] 71)).alloc (.cells #[.int .i64 n] 3) := by
  go_enter Try.func76, Try.ntmps76
  go_wp2_with fail
  go_ret
  exact ⟨by simp, rfl⟩
/-- What the going through reads. -/
structure OwnR (w : World) (p : Nat) (g : Gr) (nb bx bn n : Nat) (T : Nat → Prop) : Prop where
  wk : ∀ W', w.heap.size ≤ W'.heap.size → (∀ j, T j → W'.heap[j]? = w.heap[j]?) → Wk W' p g nb
  lt : ∀ j, T j → j < w.heap.size
  tx : T bx
  tn : T bn
  bx : Blk w bx #[.pointer (some ⟨p, 0, none⟩)] 71
  bn : Blk w bn #[.int .i64 n] 3
/-- What holds wherever the caller is. -/
structure OwnA (A : World) (p : Nat) (g : Gr) (nb bx bn n : Nat) : Prop where
  wk : Wk A p g nb
  bx : Blk A bx #[.pointer (some ⟨p, 0, none⟩)] 71
  bn : Blk A bn #[.int .i64 n] 3
theorem OwnR.at_ {w W A : World} {p nb bx bn n : Nat} {g : Gr} {T : Nat → Prop} {C : Nat → World → Prop} (h : OwnR w p g nb bx bn n T) (hW : Below w.heap.size w W) (hT : ∀ j, T j → ¬ C j W) (k : Keep C W A) : OwnA A p g nb bx bn n := by
  have key : ∀ j, T j → A.heap[j]? = w.heap[j]? := fun j hj => (k.block j (Nat.lt_of_lt_of_le (h.lt j hj) hW.size) (hT j hj)).trans (hW.block j (h.lt j hj))
  exact ⟨h.wk A (Nat.le_trans hW.size k.size) key, (key _ h.tx).trans h.bx, (key _ h.tn).trans h.bn⟩
theorem upTo_take (may : Int → Bool) : ∀ l : List Int, ∃ j, upTo may l = l.take j
  | [] => ⟨0, rfl⟩
  | k :: r => by
    unfold upTo
    split
    · obtain ⟨j, e⟩ := upTo_take may r
      exact ⟨j + 1, by rw [e]; rfl⟩
    · exact ⟨1, by simp⟩
theorem fsts_at (x : Nd) (may : Int → Bool) (i : Nat) (hi : i < (fsts x may).length) : i < x.kids.length ∧ x.kids.getD i 0 = (fsts x may).getD i 0 := by
  have key : ∃ j, fsts x may = x.kids.take j := by
    unfold fsts
    split
    · exact upTo_take may _
    · exact ⟨x.kids.length, by simp⟩
  obtain ⟨j, e⟩ := key
  rw [e] at hi ⊢
  simp only [List.length_take] at hi
  refine ⟨by omega, ?_⟩
  simp only [List.getD]
  rw [List.getElem?_take, if_pos (by omega)]
/-- How many stand ahead of the i-th kid's. -/
def offI (f : Int → List Int) (ks : List Int) (i : Nat) : Nat := 1 + ((ks.take i).flatMap f).length
theorem offI_next {f : Int → List Int} {ks : List Int} {i : Nat} (h : i < ks.length) : offI f ks (i + 1) = offI f ks i + (f (ks.getD i 0)).length := by
  unfold offI
  rw [List.take_add_one, List.getElem?_eq_getElem h, Option.toList_some, List.flatMap_append, List.length_append, List.flatMap_cons, List.flatMap_nil, List.append_nil]
  simp only [List.getD, List.getElem?_eq_getElem h, Option.getD_some]
  omega
theorem offI_at {f : Int → List Int} {ks : List Int} {n : Int} {i k : Nat} (h : i < ks.length) (hk : k < (f (ks.getD i 0)).length) : (n :: ks.flatMap f).getD (offI f ks i + k) 0 = (f (ks.getD i 0)).getD k 0 ∧ offI f ks i + k < (n :: ks.flatMap f).length := by
  have e : ks = ks.take i ++ (ks.getD i 0 :: ks.drop (i + 1)) := by
    have : ks.drop i = ks.getD i 0 :: ks.drop (i + 1) := by rw [List.drop_eq_getElem_cons h]; simp [List.getD, List.getElem?_eq_getElem h]
    rw [← this, List.take_append_drop]
  generalize ks.getD i 0 = q at e hk ⊢
  have e2 : ks.flatMap f = (ks.take i).flatMap f ++ (f q ++ (ks.drop (i + 1)).flatMap f) := by
    conv => lhs; rw [e]
    rw [List.flatMap_append, List.flatMap_cons]
  rw [e2]
  unfold offI
  generalize (ks.take i).flatMap f = a
  generalize (ks.drop (i + 1)).flatMap f = c
  refine ⟨?_, by simp only [List.length_cons, List.length_append]; omega⟩
  simp only [List.getD, show 1 + a.length + k = (a.length + k) + 1 by omega, List.getElem?_cons_succ]
  rw [List.getElem?_append_right (by omega), Nat.add_sub_cancel_left, List.getElem?_append_left hk]
theorem offI_all {f : Int → List Int} {ks : List Int} {n : Int} : offI f ks ks.length = (n :: ks.flatMap f).length := by
  unfold offI; rw [List.take_length]; simp; omega
def encI (L : List Int) (k : Nat) : Array Value := #[.int .i64 (L.getD k 0)]
set_option maxRecDepth 100000 in
set_option maxHeartbeats 4000000 in
theorem own_in (g : Gr) (hR : Right g) (hc : Capd g) : ∀ (d n : Nat), n < g.nodes.length → g.nodes.length - n ≤ d → ∀ (w : World) (p nb bx bn : Nat) (T : Nat → Prop), OwnR w p g nb bx bn n T →
    SeqX 12 Try.prog 91 #[.pointer (some ⟨bn, 0, none⟩), .pointer (some ⟨bx, 0, none⟩)] (encI (ownN g.nodes (mayG g) n)) (ownN g.nodes (mayG g) n).length T w
  | 0, n, hn, hd => by omega
  | d + 1, n, hn, hd => by
    intro w p nb bx bn T hO l J C W hW hF hT hY h0
    have IH := Lib.hid (own_in g hR hc d)
    have AT := Lib.hid (fun A (k : Keep C W A) => hO.at_ hW hT k)
    have EQ := Lib.hid (ownN_eq hR.kidsUp (mayG g) (n := n) (by omega) (by omega))
    have FI := Lib.hid (fun (w' : World) (h : Wk w' p g nb) => lfirst_any h hR hc n hn)
    have FL := Lib.hid (fsts_at (g.nodes.getD n Nd.zero) (mayG g))
    have FU := Lib.hid (fun k (hk : k ∈ fsts (g.nodes.getD n Nd.zero) (mayG g)) => hR.kidsUp n hn k (fsts_mem hk))
    have HF := Lib.hid hF
    have TK := Lib.hid (fun A (k : Keep C W A) (W' : World) (hs : A.heap.size ≤ W'.heap.size) (ha : ∀ j, j < A.heap.size → ¬ C j A → W'.heap[j]? = A.heap[j]?) => (show Wk W' p g nb from by
      have hlt : ∀ j, T j → j < W.heap.size := fun j hj => Nat.lt_of_lt_of_le (hO.lt j hj) hW.size
      exact hO.wk W' (Nat.le_trans (Nat.le_trans hW.size k.size) hs) (fun j hj => (ha j (Nat.lt_of_lt_of_le (hlt j hj) k.size) (fun e => hT j hj (k.own j (hlt j hj) e))).trans ((k.block j (hlt j hj) (hT j hj)).trans (hW.block j (hO.lt j hj))))))
    have H0 := Lib.hid h0
    have HY := Lib.hid hY
    rw [Int.toNat_natCast] at EQ
    generalize ownN g.nodes (mayG g) n = L at EQ HY ⊢
    have KL := Lib.hid (fun (A : World) (k : Keep C W A) => ((AT.out A k).wk.gr.node hn).1)
    have KX := Lib.hid (hO.at_ hW hT (Keep.refl C W)).wk.gr
    have hkl := (KX.out.node hn).2.2
    generalize g.nodes.getD n Nd.zero = x at EQ FI FL FU KL hkl
    generalize fsts x (mayG g) = ks at EQ FI FL FU
    have HA0 := AT.out _ (hF.keep h0 (B1 W (.cells #[.func (.yield l) #[] #[]] 67)))
    have c1 := HA0.bn.cell 0
    have J1 := hF.grow 0 _ _ h0 (B1 W (.cells #[.func (.yield l) #[] #[]] 67))
    have HK1 := Lib.hid (hF.keep h0 (B1 W (.cells #[.func (.yield l) #[] #[]] 67)))
    have hY0 := HY.out 0 _ J1 (by rw [EQ.out]; simp)
    have hL0 : L.getD 0 0 = n := by rw [EQ.out]; rfl
    unfold encI at hY0
    rw [hL0] at hY0
    obtain ⟨fn, tmps, assign, body, hy, hRd⟩ := hY0
    have HRD := Lib.hid hRd
    have YB := Lib.hid (Blk.new W #[.func (.yield l) #[] #[]] 67)
    clear hO hW hF hT hY h0 KX HA0 J1 hL0 hRd
    refine callsIn_of_wp_marks Try.func91 rfl trivial ?_ rfl
    simp only [Try.ntmps91, List.size_toArray, List.length_cons, List.length_nil, Nat.reduceAdd, Nat.reduceSub, Array.replicate_succ, Array.replicate_zero, List.push_toArray, List.append_toArray, List.nil_append, List.cons_append]
    gi_wp2_with fail
    refine HRD.out.mono ?_
    rintro e W3 ⟨rfl, hj3, hk3⟩
    have A3 := AT.out W3 (HK1.out.trans hk3)
    have c2 := A3.bn.cell 0
    have c3 := A3.bx.cell 0
    have HJ3 := Lib.hid hj3
    have HK3 := Lib.hid hk3
    have YB3 := Lib.hid ((hk3.block _ YB.out.lt (fun hcc => by
      have := HF.out.lt H0.out (HF.out.cgrow 0 _ _ _ H0.out (B1 W _) hcc)
      omega)).trans YB.out)
    have F3 := Lib.hid (FI.out W3 A3.wk)
    clear c1 hy hj3 hk3 A3
    gi_wp2_with (refine ⟨trivial, ?_⟩; gi_at_call 92; refine (callsIn_wide.2 F3.out).mono ?_; rintro e w4 ⟨⟨cc, rfl⟩, hb4⟩; have HB4 := Lib.hid hb4; clear hb4)
    obtain ⟨m, em⟩ : ∃ m, m = ks.length := ⟨_, rfl⟩
    have EM := Lib.hid em
    rw [← em]
    obtain ⟨Wy, eWy⟩ : ∃ u, u = W.alloc (.cells #[.func (.yield l) #[] #[]] 67) := ⟨_, rfl⟩
    rw [← eWy] at HK1 YB HK3
    have hml : m ≤ 140737488351232 := by
      rw [em]
      rcases Nat.eq_zero_or_pos ks.length with h | h
      · omega
      · have := (FL.out (ks.length - 1) (by omega)).1; omega
    have OF0 : offI (ownN g.nodes (mayG g)) ks 0 = 1 := by simp [offI]
    have ON := Lib.hid (fun i (h : i < m) => offI_next (f := ownN g.nodes (mayG g)) (ks := ks) (i := i) (by rw [← em]; exact h))
    have OA := Lib.hid (fun i k (h : i < m) (hk : k < (ownN g.nodes (mayG g) (ks.getD i 0)).length) => offI_at (f := ownN g.nodes (mayG g)) (ks := ks) (n := (n : Int)) (i := i) (k := k) (by rw [← em]; exact h) hk)
    have OL := Lib.hid (show offI (ownN g.nodes (mayG g)) ks m = L.length by rw [EQ.out, em]; exact offI_all)
    rw [← EQ.out] at OA
    rw [← OF0] at HJ3
    have hzy : RowKit.Hid (Wy.heap.size = W.heap.size + 1) := Lib.hid (by rw [eWy]; simp)
    have J4 := Lib.hid (HF.out.grow _ _ _ HJ3.out HB4.out)
    have K4 := Lib.hid (HK3.out.trans (HF.out.keep HJ3.out HB4.out))
    have HZY := hzy
    have EWY := Lib.hid eWy
    clear em eWy hzy c2 c3 hkl OF0
    refine wpIn_loop (fun a wr => ∃ (u5 u6 u16  u17  u18  u19  u20  u21  u22  u23  u24  u25  u26  u27 : Value) (i : Nat) (dl : List Nat), a = { tmps := #[.func (.yield l) #[] #[], .pointer (some ⟨bn, 0, none⟩), .pointer (some ⟨bx, 0, none⟩), .pointer (some ⟨W.heap.size, 0, none⟩), undef, u5, u6, .func (.yield l) #[] #[], .int .i64 n, .bool true, .bool false, .pointer (some ⟨p, 0, none⟩), .int .i64 n, .slice x.A m cc, .int .i64 m, .int .i64 i, u16, u17, u18, u19, u20, u21, u22, u23, u24, u25, u26, u27], defers := dl.map mkDf } ∧ i ≤ m ∧ J (offI (ownN g.nodes (mayG g)) ks i) wr ∧ Keep C Wy wr ∧ Marks W.heap.size dl wr) (fun a _ => m - (intOf (a.tmps.getD 15 undef)).toNat) ?start ?round
    case start => exact ⟨_, _, _, _, _, _, _, _, _, _, _, _, _, _, 0, [], rfl, by omega, J4.out, K4.out, ⟨List.nodup_nil, fun D h => by cases h⟩⟩
    case round =>
      rintro a wr ⟨u5, u6, u16, u17, u18, u19, u20, u21, u22, u23, u24, u25, u26, u27, i, dl, rfl, hi, hj, hk, hm⟩
      by_cases hlt : i < m
      · have hlt2 : (i : Int) < m := by omega
        have hJ := Lib.hid hj
        have hK := Lib.hid hk
        have hM := Lib.hid hm
        have hA := AT.out wr (HK1.out.trans hk)
        have c3 := hA.bx.cell 0
        have hfa := FL.out i (by have := EM.out; omega)
        obtain ⟨b1, o1, eA, _, cK⟩ := lies_cell (KL.out wr (HK1.out.trans hk)) hfa.1
        rw [hfa.2] at cK
        have hku := FU.out (ks.getD i 0) (by have := EM.out; simp [List.getD, List.getElem?_eq_getElem (show i < ks.length by omega)])
        have HOA := Lib.hid (fun k hk => OA.out i k hlt hk)
        have HON := Lib.hid (ON.out i hlt)
        obtain ⟨kk, ekk⟩ : ∃ kk : Nat, ks.getD i 0 = (kk : Int) := ⟨(ks.getD i 0).toNat, by omega⟩
        rw [ekk] at cK hku HOA HON
        have hkk : n < kk ∧ kk < g.nodes.length := by omega
        have HKK := Lib.hid hkk
        rw [eA]
        have OM := Lib.hid (own_make p kk wr)
        clear hj hk hm hA hfa hku ekk hkk eA
        gi_wp2_with (refine ⟨trivial, ?_⟩; gi_at_call 76; refine (callsIn_wide.2 OM.out).mono ?_; rintro e w5 ⟨rfl, e5⟩; have E5 := Lib.hid e5; clear e5)
        have hz5 : w5.heap.size = wr.heap.size + 2 := by rw [E5.out]; simp
        have b5 : Below wr.heap.size wr w5 := by rw [E5.out]; exact B2 _ _ _
        have J5 := Lib.hid (HF.out.grow _ _ _ hJ.out b5)
        have K5 := Lib.hid (hK.out.trans (HF.out.keep hJ.out b5))
        have M5 := Lib.hid (hM.out.keep HF.out hJ.out (HF.out.keep hJ.out b5))
        have q1 : Blk w5 wr.heap.size #[.pointer (some ⟨p, 0, none⟩)] 71 := by rw [E5.out]; exact (Blk.new _ _ _).alloc _
        have q2 : Blk w5 (wr.heap.size + 1) #[.int .i64 kk] 3 := by rw [E5.out]; have := Blk.new (wr.alloc (.cells #[.pointer (some ⟨p, 0, none⟩)] 71)) #[.int .i64 kk] 3; rw [World.size_alloc] at this; exact this
        have hnc : ∀ j, wr.heap.size ≤ j → ¬ C j w5 := fun j hj hc => by
          have := HF.out.lt hJ.out (HF.out.cgrow _ _ _ _ hJ.out b5 hc)
          omega
        have hzw : W.heap.size ≤ wr.heap.size := (HK1.out.trans hK.out).size
        have hOR : OwnR w5 p g nb wr.heap.size (wr.heap.size + 1) kk (fun j => j < w5.heap.size ∧ ¬ C j w5) :=
          ⟨fun W' hs ha => TK.out w5 (HK1.out.trans K5.out) W' hs (fun j h1 h2 => ha j ⟨h1, h2⟩), fun j h => h.1, ⟨by omega, hnc _ (by omega)⟩, ⟨by omega, hnc _ (by omega)⟩, q1, q2⟩
        have hDl : ∀ D ∈ dl, D < w5.heap.size := fun D hD => (Array.getElem?_eq_some_iff.1 (M5.out.each D hD).2).1
        have HDL := Lib.hid hDl
        have HZ5 := Lib.hid hz5
        have HZW := Lib.hid hzw
        have SQ := Lib.hid (seqX_any (m' := 12 - 1) (IH.out kk HKK.out.2 (by have := HKK.out.1; omega) w5 p nb wr.heap.size (wr.heap.size + 1) _ hOR))
        clear hz5 b5 q1 q2 hnc hzw hOR hDl c3 cK
        refine wpIn_rangeFunc_own (by decide) (gf := 91) (lb := #[.pointer (some ⟨wr.heap.size + 1, 0, none⟩), .pointer (some ⟨wr.heap.size, 0, none⟩)]) rfl (enters_of Try.func91 (by kernel_rfl) rfl) SQ.out (Below.refl _ _) (fun _ => rfl)
          (fun k W1 => J (offI (ownN g.nodes (mayG g)) ks i + k) W1 ∧ Keep C Wy W1 ∧ Marks W.heap.size dl W1) C ?fair (fun j h => h.2) ⟨J5.out, K5.out, M5.out⟩
          (fun k => { tmps := #[.func (.yield l) #[] #[], .pointer (some ⟨bn, 0, none⟩), .pointer (some ⟨bx, 0, none⟩), .pointer (some ⟨W.heap.size, 0, none⟩), undef, .int .i64 kk, .int .i64 ((ownN g.nodes (mayG g) kk).getD k 0), .func (.yield l) #[] #[], .int .i64 n, .bool true, .bool false, .pointer (some ⟨p, 0, none⟩), .int .i64 n, .slice (some ⟨b1, o1, none⟩) m cc, .int .i64 m, .int .i64 i, .bool true, .pointer (some ⟨b1, o1 + i, none⟩), .int .i64 kk, .pointer (some ⟨p, 0, none⟩), .int .i64 kk, .func (.func 91) #[] #[.pointer (some ⟨wr.heap.size + 1, 0, none⟩), .pointer (some ⟨wr.heap.size, 0, none⟩)], .int .i64 ((ownN g.nodes (mayG g) kk).getD k 0), u23, u24, u25, u26, u27], defers := [] }) ?assign ?body ?done
        case fair =>
          have f := HF.out
          have hzz : W.heap.size ≤ w5.heap.size := by have := HZ5.out; have := HZW.out; omega
          have hyz : Wy.heap.size ≤ w5.heap.size := K5.out.size
          constructor
          · rintro k A A' ⟨h1, h2, h3⟩ hb
            exact ⟨f.grow _ _ _ h1 hb, h2.trans (f.keep h1 hb), h3.keep f h1 (f.keep h1 hb)⟩
          · rintro k b A o hb ⟨h1, h2, h3⟩ hn
            exact ⟨f.put _ b A o (by omega) h1 hn, ⟨by have := h2.size; simpa using this, fun j hj hc => (World.putObj_heap_other (by omega)).trans (h2.block j hj hc), fun j hj hc => h2.own j hj (f.cput _ b A o j (by omega) h1 hn hc)⟩,
              ⟨h3.nodup, fun D hD => ⟨(h3.each D hD).1, (World.putObj_heap_other (by have := HDL.out D hD; omega)).trans (h3.each D hD).2⟩⟩⟩
          · rintro k A A' j ⟨h1, _, _⟩ hb hc
            exact f.cgrow _ _ _ j h1 hb hc
          · rintro k b A o j hb ⟨h1, _, _⟩ hn hc
            exact f.cput _ b A o j (by omega) h1 hn hc
          · rintro k A j ⟨h1, _, _⟩ hc
            exact f.cell _ A j h1 hc
        case assign =>
          intro l2 k Wa K hK2
          unfold encI
          gi_wp2
          exact hK2
        case body =>
          rintro l2 k Wb ⟨hj, hk, hm⟩ hkl
          have hyb : Blk Wb W.heap.size #[.func (.yield l) #[] #[]] 67 := (hk.block _ (by have := HZY.out; omega) (fun hcc => by
            have := HF.out.lt H0.out (HF.out.cgrow 0 _ _ _ H0.out (EWY.out ▸ B1 W _ : Below W.heap.size W Wy) hcc)
            omega)).trans YB.out
          have c4 := hyb.cell 0
          obtain ⟨h5, h6⟩ := HOA.out k hkl
          have hY5 := HY.out _ Wb hj h6
          unfold encI at hY5
          rw [h5] at hY5
          generalize (ownN g.nodes (mayG g) kk).getD k 0 = vv at hY5 ⊢
          obtain ⟨fn, tmps, assign, body, hy, hRd⟩ := yieldX_any (m' := 12 - 1 - 1 - 1) hY5
          have HRD := Lib.hid hRd
          have HJB := Lib.hid hj
          have HKB := Lib.hid hk
          have HMB := Lib.hid hm
          clear hj hk hm hyb h5 h6 hRd hkl
          gi_wp2_with fail
          refine (roundX_in HRD.out).mono ?_
          rintro e W4 ⟨rfl, hj4, hk4⟩
          have HJ4 := Lib.hid hj4
          have HK4 := Lib.hid hk4
          have HM4 := Lib.hid (HMB.out.keep HF.out HJB.out hk4)
          clear hj4 hk4 hy hY5 c4
          gi_wp2_with fail
          exact ⟨HK4.out, HJ4.out, HKB.out.trans HK4.out, HM4.out⟩
        case done =>
          rintro D W6 rfl ⟨hj, hk, hm⟩ hk6 hd
          have HJ6 := Lib.hid hj
          have HK6 := Lib.hid hk
          have HM6 := Lib.hid (hm.cons (D := w5.heap.size) (by have := HZ5.out; have := HZW.out; omega) (fun h => by have := HDL.out _ h; omega) hd)
          clear hj hk hm hk6 hd
          gi_wp2_with fail
          refine ⟨⟨_, _, _, _, _, _, _, _, _, _, _, _, _, _, i + 1, w5.heap.size :: dl, by rw [show ((i + 1 : Nat) : Int) = (i : Int) + 1 from by omega]; rfl, by omega, by rw [HON.out]; exact HJ6.out, HK6.out, HM6.out⟩, ?_⟩
          simp [intOf]
          omega
      · obtain rfl : i = m := by omega
        have hlt2 : ¬ (i : Int) < i := by omega
        have hJ := Lib.hid hj
        have hK := Lib.hid hk
        have hM := Lib.hid hm
        clear hj hk hm
        gi_wp2_with fail
        refine leaves_marks HF.out (Nat.le_refl _) dl wr hM.out hJ.out (HK1.out.trans hK.out) (fun W' hj' hk' => ?_)
        refine ⟨_, results_none rfl _ _ _, ⟨_, rfl⟩, ?_, hk'⟩
        rw [← OL.out]
        exact hj'
end Go.Proofs.Ytmlaepbmdfmgbaa

/- Rows of rules, of nodes compared; two grammars compared: the program's answer. -/
import Derived.Test.YtjelgmdjmjnnfaaGreatA4
import Derived.Test.YtjelgmdjmjnnfaaGreatA1
import Derived.RangeFuncBox
import Derived.RangeFuncNested
import Derived.RangeFuncBound
import Derived.RangeFuncCalls
import Derived.RangeFuncLeaves
import Derived.OwnWalkIn
import Derived.TacticsInMore
import Derived.Shelf.Abstract
import Derived.Shelf.RegionOpen
import Derived.LoopNIn
import Derived.LoopIn
set_option linter.unusedSimpArgs false
set_option linter.unusedVariables false
namespace Go.Proofs.YtjelgmdjmjnnfaaGreat
open Go Go.RowKit
/-- Two rows are as long, and the same place by place. -/
def rowSame {α : Type} (z : α) (f : α → α → Bool) (a b : List α) : Bool := decide (a.length = b.length ∧ ∀ i, i < a.length → f (a.getD i z) (b.getD i z) = true)
theorem rowSame_true {α : Type} {z : α} {f : α → α → Bool} {a b : List α} (h : a.length = b.length) (h2 : ∀ i, i < a.length → f (a.getD i z) (b.getD i z) = true) : rowSame z f a b = true := by simp [rowSame, h]; intro i hi; simpa using h2 i (by omega)
theorem rowSame_false {α : Type} {z : α} {f : α → α → Bool} {a b : List α} (i : Nat) (hi : i < a.length) (h2 : f (a.getD i z) (b.getD i z) = false) : rowSame z f a b = false := by
  simp only [rowSame, decide_eq_false_iff_not]
  intro h
  rw [h.2 i hi] at h2
  cases h2
theorem rowSame_len {α : Type} {z : α} {f : α → α → Bool} {a b : List α} (h : a.length ≠ b.length) : rowSame z f a b = false := by simp [rowSame, h]
theorem getD_mem {α : Type} {l : List α} {k : Nat} {z : α} (h : k < l.length) : l.getD k z ∈ l := by rw [List.getD_eq_getElem?_getD, List.getElem?_eq_getElem h]; exact List.getElem_mem h
def sameRl (a b : Rl) : Bool := decide (a.name = b.name ∧ a.body = b.body)
theorem Rules.two {w : World} {A : Option Addr} {l : List Rl} (h : Rules w A l) {i : Nat} (hi : i < l.length) : ∃ b o, A = some ⟨b, o, none⟩ ∧ b < w.heap.size ∧ w.cell? ⟨b, o + i * 2, none⟩ = some (.string (l.getD i Rl.zero).name) ∧ w.cell? ⟨b, o + i * 2 + 1, none⟩ = some (.int .i64 (l.getD i Rl.zero).body) := by
  obtain ⟨b, o, e, hl, hc⟩ := h (by omega)
  exact ⟨b, o, e, hl, hc i hi⟩
end Go.Proofs.YtjelgmdjmjnnfaaGreat
namespace Go.Proofs.YtjelgmdjmjnnfaaGreat
open Go Go.RowKit
variable {P : Program}

/-- What J says it says of blocks below B. -/
def Low (B : Nat) (J : Nat → World → Prop) : Prop := ∀ (s : Nat) (A A' : World), J s A → Below B A A' → J s A'
/-- A round leaves what the function asked for, and what came since the function was called. -/
structure Left (G : Nat → Prop) (B : Nat) (A A' : World) : Prop where
  size : A.heap.size ≤ A'.heap.size
  block : ∀ k, k < A.heap.size → (G k ∨ B ≤ k) → A'.heap[k]? = A.heap[k]?
theorem Left.refl (G : Nat → Prop) (B : Nat) (A : World) : Left G B A A := ⟨Nat.le_refl _, fun _ _ _ => rfl⟩
theorem Left.trans {G : Nat → Prop} {B : Nat} {A A' A'' : World} (h : Left G B A A') (k : Left G B A' A'') : Left G B A A'' :=
  ⟨Nat.le_trans h.size k.size, fun i hi hg => (k.block i (Nat.lt_of_lt_of_le hi h.size) hg).trans (h.block i hi hg)⟩
theorem Left.below {G : Nat → Prop} {B : Nat} {A A' : World} (h : Below A.heap.size A A') : Left G B A A' := ⟨h.size, fun k hk _ => h.block k hk⟩
theorem Left.mono {G G' : Nat → Prop} {B B' : Nat} {A A' : World} (h : Left G B A A') (hg : ∀ k, k < A.heap.size → (G' k ∨ B' ≤ k) → (G k ∨ B ≤ k)) : Left G' B' A A' := ⟨h.size, fun k hk h' => h.block k hk (hg k hk h')⟩
theorem Left.setCell {G : Nat → Prop} {B : Nat} (A : World) (b o : Nat) (v : Value) (hG : ¬ G b) (hB : b < B) : Left G B A (A.setCell ⟨b, o, none⟩ v) :=
  ⟨by simp [World.setCell], fun k _ hg => Below.heap_setCell _ _ _ k (fun e => by rcases hg with h | h; exact hG (by rw [← show k = b from e]; exact h); have : k = b := e; omega)⟩

/-- The contract: N things in their turn, or a part of them. -/
def SeqN (n : Nat) (P : Program) (gf : Nat) (lb : Array Value) (encs : Nat → Array Value) (N : Nat) (G : Nat → Prop) (w : World) : Prop :=
  ∀ (l : Nat) (J Jx : Nat → World → Prop) (W : World), Below w.heap.size w W → Low W.heap.size J → Low W.heap.size Jx →
    (∀ k W1, J k W1 → W.heap.size ≤ W1.heap.size → k < N → YieldAt Fence.wide (n - 1) P l (encs k) W1 fun e W' =>
      (e = .returned (.bool true) ∧ J (k + 1) W' ∧ Left G W.heap.size W1 W') ∨ (e = .returned (.bool false) ∧ Jx (k + 1) W' ∧ Left (fun _ => False) W.heap.size W1 W')) →
    J 0 W → CallsIn Fence.wide n P gf (#[.func (.yield l) #[] #[]] ++ lb) W fun e W' => (∃ v, e = .returned v) ∧ (J N W' ∨ ∃ k, k ≤ N ∧ Jx k W')

/-- How a body may end. -/
def endN (G : Nat → Prop) (B : Nat) (I : Nat → World → Prop) (Ix : Code → Nat → World → Prop) (k : Nat) (W : World) : Exit → Act → World → Prop
  | .normal, _, W' => Left G B W W' ∧ I k W'
  | .ret, _, W' => Left (fun _ => False) B W W' ∧ Ix .ret k W'
  | .exit id, _, W' => Left (fun _ => False) B W W' ∧ Ix (.exit id) k W'
  | .goto t, _, W' => Left (fun _ => False) B W W' ∧ Ix (.goto t) k W'
  | .panic _, _, _ => False
  | .outgrown, _, _ => False

theorem below_putObj (W : World) (l B : Nat) (o : Obj) (h : B ≤ l) : Below B W (W.putObj l o) := ⟨rfl, rfl, rfl, by simp, fun k hk => World.putObj_heap_other (by omega)⟩

theorem wpIn_rangeFunc_n {n : Nat} {g : Operand} {ps : Array Tmp} {assign body : Code} {Q : Exit → Act → World → Prop} {a : Act} {w : World} (h1 : 1 ≤ n) {gf : Nat} {lb : Array Value}
    (hg : a.eval g = .func (.func gf) #[] lb) (eg : ∀ args w, (callFunc gf args).run P w = .ok (.enter gf args) w) {encs : Nat → Array Value} {N : Nat} {G : Nat → Prop} {w0 : World}
    (hseq : SeqN (n - 1) P gf lb encs N G w0) (hb0 : Below w0.heap.size w0 w) (hps : ∀ k, (encs k).size = ps.size) (hG : ∀ k, G k → k < w.heap.size)
    (I : Nat → World → Prop) (Ix : Code → Nat → World → Prop) (hI : Low w.heap.size I) (hIx : ∀ c, Low w.heap.size (Ix c)) (h0 : I 0 w) (a₁ : Nat → Act)
    (hassign : ∀ (l k : Nat) (W : World) (K : Act → World → Prop), K (a₁ k) W →
      assign.wpIn (Fence.wide.inRound l) (n - 1 - 1) P (Exit.then K (fun _ _ _ => False)) { tmps := (ps.zip (encs k)).foldl (fun t (p, v) => t.setIfInBounds p v) a.tmps, defers := [] } W)
    (hbody : ∀ (l k : Nat) (W : World), I k W → w.heap.size + 2 ≤ W.heap.size → k < N → body.wpIn (Fence.wide.inRound l) (n - 1 - 1) P (endN G w.heap.size I Ix (k + 1) W) (a₁ k) W)
    (hdone : ∀ (D : Nat) (W : World), w.heap.size ≤ D → I N W → W.heap[D]? = some (.deferred (some [])) → Q .normal { a with defers := { target := .collected D, args := #[] } :: a.defers } W)
    (hstop : ∀ (D : Nat) (c : Code) (k : Nat) (W : World), w.heap.size ≤ D → k ≤ N → Ix c k W → W.heap[D]? = some (.deferred (some [])) → c.wpIn Fence.wide n P Q { a with defers := { target := .collected D, args := #[] } :: a.defers } W) :
    (Code.rangeFunc g ps assign body).wpIn Fence.wide n P Q a w := by
  refine wpIn_rangeFunc ?_
  intro fn hfn
  show ∃ _, _
  let rec0 : LoopState → Option Code → Loop := fun st pe => { state := st, pending := pe, fn, tmps := a.tmps, params := ps, assign, body, defers := w.heap.size }
  obtain ⟨D, eD⟩ : ∃ D, D = w.heap.size := ⟨_, rfl⟩
  obtain ⟨W1, eW⟩ : ∃ W1, W1 = (w.alloc (.deferred (some []))).alloc (.loop (rec0 .ready none)) := ⟨_, rfl⟩
  have hB2 : Below w.heap.size w W1 := by rw [eW]; exact B2 _ _ _
  have hzz : W1.heap.size = D + 2 := by rw [eW, eD]; simp
  have hD : W1.heap[D]? = some (.deferred (some [])) := by
    rw [eW, eD]; exact (Below.heap_alloc _ _ _ (by simp)).trans (World.alloc_heap_new w _)
  have hL : W1.heap[D + 1]? = some (.loop (rec0 .ready none)) := by
    rw [eW, eD]; have := World.alloc_heap_new (w.alloc (.deferred (some []))) (.loop (rec0 .ready none)); rwa [World.size_alloc] at this
  have hI1 : I 0 W1 := hI 0 _ _ h0 hB2
  have keepI : ∀ (K : Nat → World → Prop) (hK : Low w.heap.size K) (k : Nat) (W : World) (o : Obj), K k W → K k (W.putObj (D + 1) o) := fun K hK k W o h => hK k _ _ h (below_putObj W (D + 1) _ o (by omega))
  refine ⟨D + 1, [{ target := .collected D, args := #[] }], W1, { target := .fn (.func gf) lb, args := #[.func (.yield (D + 1)) #[] #[]] }, W1, gf, #[.func (.yield (D + 1)) #[] #[]] ++ lb, W1, ?_, ?_, fun _ _ => trivial, ?_, fun _ => h1, ?_⟩
  · rw [eW, eD]; exact run_enterLoop_outer _ _ _ _ _
  · simp only [resolve, hg]
    simp [go_sem]
  · simp [invoke, go_sem, eg]
  refine (hseq (D + 1) (fun k W => I k W ∧ W.heap[D + 1]? = some (.loop (rec0 .ready none)) ∧ W.heap[D]? = some (.deferred (some [])))
    (fun k W => ∃ c, Ix c k W ∧ W.heap[D + 1]? = some (.loop (rec0 .done (some c))) ∧ W.heap[D]? = some (.deferred (some []))) W1 (hb0.trans (hB2.mono hb0.size)) ?_ ?_ ?_ ⟨hI1, hL, hD⟩).mono ?_
  · rintro s A A' ⟨hi, hl, hd⟩ hb
    exact ⟨hI s A A' hi (hb.mono (by omega)), (hb.block _ (by omega)).trans hl, (hb.block _ (by omega)).trans hd⟩
  · rintro s A A' ⟨c, hi, hl, hd⟩ hb
    exact ⟨c, hIx c s A A' hi (hb.mono (by omega)), (hb.block _ (by omega)).trans hl, (hb.block _ (by omega)).trans hd⟩
  · rintro k W ⟨hi, hl, hd⟩ hsz hk
    have hlt : D + 1 < W.heap.size := (Array.getElem?_eq_some_iff.1 hl).1
    refine ⟨fn, _, assign, body, run_yield (P := P) (args := encs k) hl (hps k), roundIn_of_wpIn hfn (hassign _ k W _ ⟨_, run_beginRound hl rfl, ?_⟩)⟩
    have hl2 : (W.putObj (D + 1) (.loop (rec0 .busy none))).heap[D + 1]? = some (.loop (rec0 .busy none)) := World.putObj_heap_same hlt
    have hd2 : (W.putObj (D + 1) (.loop (rec0 .busy none))).heap[D]? = some (.deferred (some [])) := (World.putObj_heap_other (by omega)).trans hd
    have hw2 : ∀ (X : World) (o : Obj), Left G (D + 2) X (X.putObj (D + 1) o) := fun X o => ⟨by simp, fun j _ hg => World.putObj_heap_other (by rcases hg with h | h; have := hG j h; omega; omega)⟩
    have hw3 : ∀ (X : World) (o : Obj), Left (fun _ => False) (D + 2) X (X.putObj (D + 1) o) := fun X o => ⟨by simp, fun j _ hg => World.putObj_heap_other (by rcases hg with h | h; exact h.elim; omega)⟩
    refine wpIn_mono (hbody _ k _ (keepI I hI k W _ hi) (by simp; omega) hk) ?_
    have fin : ∀ (jump : Option Code) (W3 : World), Left (fun _ => False) w.heap.size (W.putObj (D + 1) (.loop (rec0 .busy none))) W3 →
        (Instr.endRound (D + 1) jump).run P W3 = .ok (.bool jump.isNone) (W3.putObj (D + 1) (.loop (rec0 (if jump.isNone then .ready else .done) jump))) ∧
        (W3.putObj (D + 1) (.loop (rec0 (if jump.isNone then .ready else .done) jump))).heap[D + 1]? = some (.loop (rec0 (if jump.isNone then .ready else .done) jump)) ∧
        (W3.putObj (D + 1) (.loop (rec0 (if jump.isNone then .ready else .done) jump))).heap[D]? = some (.deferred (some [])) := fun jump W3 hk3 => by
      have hl3 := (hk3.block (D + 1) (by simpa using hlt) (.inr (by omega))).trans hl2
      have hd3 := (hk3.block D (by simp; omega) (.inr (by omega))).trans hd2
      exact ⟨run_endRound (P := P) jump hl3, World.putObj_heap_same (Array.getElem?_eq_some_iff.1 hl3).1, (World.putObj_heap_other (by omega)).trans hd3⟩
    rintro e a3 W3 hp
    cases e with
    | normal =>
      obtain ⟨hk3, hi3⟩ := hp
      obtain ⟨hr, hl4, hd4⟩ := fin none W3 (hk3.mono (fun j _ h => by rcases h with h | h; exact h.elim; exact .inr h))
      refine ⟨_, _, hr, .inl ⟨rfl, ⟨keepI I hI _ _ _ hi3, hl4, hd4⟩, ?_⟩⟩
      rw [hzz]
      exact ((hw2 _ _).trans (hk3.mono (fun j _ h => by rcases h with h | h; exact .inl h; exact .inr (by omega)))).trans (hw2 _ _)
    | ret =>
      obtain ⟨hk3, hi3⟩ := hp
      obtain ⟨hr, hl4, hd4⟩ := fin (some .ret) W3 hk3
      exact ⟨_, _, hr, .inr ⟨rfl, ⟨.ret, keepI _ (hIx _) _ _ _ hi3, hl4, hd4⟩, by rw [hzz]; exact ((hw3 _ _).trans (hk3.mono (fun j _ h => by rcases h with h | h; exact h.elim; exact .inr (by omega)))).trans (hw3 _ _)⟩⟩
    | exit id =>
      obtain ⟨hk3, hi3⟩ := hp
      obtain ⟨hr, hl4, hd4⟩ := fin (some (.exit id)) W3 hk3
      exact ⟨_, _, hr, .inr ⟨rfl, ⟨.exit id, keepI _ (hIx _) _ _ _ hi3, hl4, hd4⟩, by rw [hzz]; exact ((hw3 _ _).trans (hk3.mono (fun j _ h => by rcases h with h | h; exact h.elim; exact .inr (by omega)))).trans (hw3 _ _)⟩⟩
    | goto t =>
      obtain ⟨hk3, hi3⟩ := hp
      obtain ⟨hr, hl4, hd4⟩ := fin (some (.goto t)) W3 hk3
      exact ⟨_, _, hr, .inr ⟨rfl, ⟨.goto t, keepI _ (hIx _) _ _ _ hi3, hl4, hd4⟩, by rw [hzz]; exact ((hw3 _ _).trans (hk3.mono (fun j _ h => by rcases h with h | h; exact h.elim; exact .inr (by omega)))).trans (hw3 _ _)⟩⟩
    | panic ch => exact hp.elim
    | outgrown => exact hp.elim
  · rintro e W2 ⟨⟨v, rfl⟩, (⟨hi, hl, hd⟩ | ⟨k, hk, c, hi, hl, hd⟩)⟩
    · exact ⟨none, _, run_endLoop (P := P) hl (by simp [rec0]), hdone D _ (by omega) (keepI I hI _ _ _ hi) ((World.putObj_heap_other (by omega)).trans hd)⟩
    · exact ⟨some c, _, run_endLoop (P := P) hl (by simp [rec0]), hstop D c k _ (by omega) hk (keepI _ (hIx c) _ _ _ hi) ((World.putObj_heap_other (by omega)).trans hd)⟩
end Go.Proofs.YtjelgmdjmjnnfaaGreat
namespace Go.Proofs.YtjelgmdjmjnnfaaGreat
open Go Go.RowKit Go.Shelf
attribute [local go_sem] Oper.semAt_some
theorem row_left {w w' : World} {G : Nat → Prop} {B b o : Nat} {v : Value} (h : w.cell? ⟨b, o, none⟩ = some v) (hl : Left G B w w') (hg : G b) : w'.cell? ⟨b, o, none⟩ = some v :=
  (World.cell?_of_block (a := ⟨b, o, none⟩) (hl.block b (World.block_lt_of_cell? _ _ h) (.inl hg))).trans h
theorem Nodes.left {w w' : World} {G : Nat → Prop} {B : Nat} {A : Option Addr} {l : List Nd} (h : Nodes w A l) (hl : Left G B w w') (hg : ∀ b o, A = some ⟨b, o, none⟩ → 0 < l.length → G b) : Nodes w' A l := by
  intro h0
  obtain ⟨b, o, e, hb, hc⟩ := h h0
  exact ⟨b, o, e, Nat.lt_of_lt_of_le hb hl.size, fun i hi j hj => (World.cell?_of_block (a := ⟨b, o + i * 9 + j, none⟩) (hl.block b hb (.inl (hg b o e h0)))).trans (hc i hi j hj)⟩
theorem Rules.left {w w' : World} {G : Nat → Prop} {B : Nat} {A : Option Addr} {l : List Rl} (h : Rules w A l) (hl : Left G B w w') (hg : ∀ b o, A = some ⟨b, o, none⟩ → 0 < l.length → G b) : Rules w' A l := by
  intro h0
  obtain ⟨b, o, e, hb, hc⟩ := h h0
  exact ⟨b, o, e, Nat.lt_of_lt_of_le hb hl.size, fun i hi => ⟨(World.cell?_of_block (a := ⟨b, o + i * 2, none⟩) (hl.block b hb (.inl (hg b o e h0)))).trans (hc i hi).1, (World.cell?_of_block (a := ⟨b, o + i * 2 + 1, none⟩) (hl.block b hb (.inl (hg b o e h0)))).trans (hc i hi).2⟩⟩
set_option maxRecDepth 100000 in
set_option maxHeartbeats 2000000 in
theorem back_node_in (n : Nat) (hn : 1 ≤ n) (l p : Nat) (A : Option Addr) (c : Nat) (a : List Nd) (ha : a.length ≤ 140737488351232) (G : Nat → Prop) (hp : G p) (hG : ∀ b o, A = some ⟨b, o, none⟩ → 0 < a.length → G b) (J Jx : Nat → World → Prop)
    (B : Nat) (hY : ∀ k W1, J k W1 → B ≤ W1.heap.size → k < a.length → YieldAt Fence.wide (n - 1) Tryz.prog l #[.int .i64 (a.length - 1 - k : Nat), Nd.val (a.getD (a.length - 1 - k) Nd.zero)] W1 fun e W' =>
      (e = .returned (.bool true) ∧ J (k + 1) W' ∧ Left G B W1 W') ∨ (e = .returned (.bool false) ∧ Jx (k + 1) W' ∧ Left (fun _ => False) B W1 W'))
    (W : World) (hB : B ≤ W.heap.size) (hbox : Blk W p #[.slice A a.length c] 23) (hx : Nodes W A a) (h0 : J 0 W) :
    CallsIn Fence.wide n Tryz.prog 206 #[.func (.yield l) #[] #[], .pointer (some ⟨p, 0, none⟩)] W fun e W' => (∃ v, e = .returned v) ∧ (J a.length W' ∨ ∃ k, k ≤ a.length ∧ Jx k W') := by
  have HX := Lib.hid hx
  have HY := Lib.hid hY
  have H0 := Lib.hid h0
  have HGG := Lib.hid hG
  have HB := Lib.hid hbox
  have HSZ := Lib.hid hB
  have c0 := hbox.cell 0
  have HP := Lib.hid hp
  simp only [List.getElem?_toArray, List.getElem?_cons_zero] at c0
  obtain ⟨m, em⟩ : ∃ m, m = a.length := ⟨_, rfl⟩
  rw [← em] at HY HB c0 ha ⊢
  have EM := Lib.hid em
  clear hx hY h0 hG hbox hp hB em
  refine callsIn_of_wp Tryz.func206 rfl trivial ?_ rfl
  simp only [Tryz.ntmps206, List.size_toArray, List.length_cons, List.length_nil, Nat.reduceAdd, Nat.reduceSub, Array.replicate_succ, Array.replicate_zero, List.push_toArray, List.append_toArray, List.nil_append, List.cons_append]
  gi_wp2_with (fail)
  clear c0
  gi_loopw [3] (fun i wr => ∃ k : Nat, k ≤ m ∧ i = .int .i64 ((m : Int) - 1 - k) ∧ J k wr ∧ Blk wr p #[.slice A m c] 23 ∧ Nodes wr A a ∧ B ≤ wr.heap.size)
    (fun i _ => (intOf i + 1).toNat)
  case atStart => exact ⟨0, by omega, by go_num, H0.out, HB.out, HX.out, HSZ.out⟩
  case round =>
    obtain ⟨k, hk, rfl, hJ, hbx, hx, hz⟩ := hrel
    by_cases hlt : k < m
    · have c0 := hbx.cell 0
      simp only [List.getElem?_toArray, List.getElem?_cons_zero] at c0
      obtain ⟨i, hi⟩ : ∃ i : Nat, (i : Int) = (m : Int) - 1 - k := ⟨m - 1 - k, by omega⟩
      have hik : m - 1 - k = i := by omega
      rw [← hi]
      have h5 := HY.out k wr hJ hz hlt
      rw [hik] at h5
      have hil : i < m := by omega
      have hil2 : (i : Int) < m := by omega
      have hi0 : (0 : Int) ≤ i := by omega
      obtain ⟨b1, o1, ea, _, c1, c2, c3, c4, c5, c6, c7, c8, c9⟩ := hx.nine (show i < a.length by have := EM.out; omega)
      have HA := Lib.hid ea
      rw [ea] at c0
      generalize a.getD i Nd.zero = x at h5 c1 c2 c3 c4 c5 c6 c7 c8 c9
      obtain ⟨fn, tmps, assign, body, hy, hR⟩ := h5
      have HR := Lib.hid hR
      have HBX := Lib.hid hbx
      have HXX := Lib.hid hx
      have HZ := Lib.hid hz
      have HI := Lib.hid hi
      clear hR hbx hx hJ hz ea hik hi
      gi_wp2_with fail
      refine HR.out.mono ?_
      rintro e W3 (⟨rfl, hJ3, hl3⟩ | ⟨rfl, hJx3, hz3⟩)
      · have hb3 : Blk W3 p #[.slice A m c] 23 := (hl3.block p HBX.out.lt (.inl HP.out)).trans HBX.out
        have hx3 := HXX.out.left hl3 HGG.out
        have HB3 := Lib.hid hb3
        have HX3 := Lib.hid hx3
        have HJ3 := Lib.hid hJ3
        have HZ3 : RowKit.Hid (B ≤ W3.heap.size) := Lib.hid (Nat.le_trans HZ.out hl3.size)
        clear hb3 hx3 hJ3 hl3 hy c0 c1 c2 c3 c4 c5 c6 c7 c8 c9
        gi_wp2_with fail
        go_roundw
        case rel => exact ⟨k + 1, by omega, by have := HI.out; simp only [Value.int.injEq, true_and]; omega, HJ3.out, HB3.out, HX3.out, HZ3.out⟩
        case measure => simp [intOf]; try omega
      · have HJ3 := Lib.hid hJx3
        clear hJx3 hy c0 c1 c2 c3 c4 c5 c6 c7 c8 c9
        gi_wp2_with fail
        refine bodyPost_ret (results_none rfl _ _ _) rfl ?_
        exact ⟨⟨_, rfl⟩, .inr ⟨k + 1, by omega, HJ3.out⟩⟩
    · obtain rfl : k = m := by omega
      have HJ3 := Lib.hid hJ
      have hneg : ¬ (0 : Int) ≤ (k : Int) - 1 - k := by omega
      have hneg2 : (k : Int) - 1 - k < 0 := by omega
      clear hJ hbx hx
      gi_wp2_with fail
      go_end0
      exact ⟨⟨_, rfl⟩, .inl HJ3.out⟩
theorem back_node_seq (n : Nat) (hn : 1 ≤ n) (p : Nat) (A : Option Addr) (c : Nat) (a : List Nd) (ha : a.length ≤ 140737488351232) (G : Nat → Prop) (hp : G p) (hG : ∀ b o, A = some ⟨b, o, none⟩ → 0 < a.length → G b) (w : World)
    (hbox : Blk w p #[.slice A a.length c] 23) (hx : Nodes w A a) : SeqN n Tryz.prog 206 #[.pointer (some ⟨p, 0, none⟩)] (fun k => #[.int .i64 (a.length - 1 - k : Nat), Nd.val (a.getD (a.length - 1 - k) Nd.zero)]) a.length G w :=
  fun l J Jx W hW hJ hJx hY h0 => back_node_in n hn l p A c a ha G hp hG J Jx W.heap.size hY W (Nat.le_refl _) (hbox.below' hW) (hx.below hW) h0
theorem back_node_any (A : Option Addr) (n c : Nat) (w : World) : Calls Tryz.prog 193 #[.slice A n c] w fun e w' => e = .returned (.func (.func 206) #[] #[.pointer (some ⟨w.heap.size, 0, none⟩)]) ∧ w' = w.alloc (.cells #[.slice A n c] 23) := by
  go_enter Tryz.func193, Tryz.ntmps193
  go_wp2_with fail
  go_ret
  exact ⟨rfl, rfl⟩
end Go.Proofs.YtjelgmdjmjnnfaaGreat
namespace Go.Proofs.YtjelgmdjmjnnfaaGreat
open Go Go.RowKit
variable {P : Program}
theorem wpIn_rangeFunc_x {n : Nat} {g : Operand} {ps : Array Tmp} {assign body : Code} {Q : Exit → Act → World → Prop} {a : Act} {w : World} (h1 : 1 ≤ n) {gf : Nat} {lb : Array Value}
    (hg : a.eval g = .func (.func gf) #[] lb) (eg : ∀ args w, (callFunc gf args).run P w = .ok (.enter gf args) w) {encs : Nat → Array Value} {N : Nat} {G : Nat → Prop} {w0 : World}
    (hseq : SeqN (n - 1) P gf lb encs N G w0) (hb0 : Below w0.heap.size w0 w) (hps : ∀ k, (encs k).size = ps.size) (hG : ∀ k, G k → k < w.heap.size)
    (I : Nat → World → Prop) (Ix : Code → Nat → World → Prop) (hI : Low w.heap.size I) (hIx : ∀ c, Low w.heap.size (Ix c)) (h0 : I 0 w) (a₁ : Nat → Nat → Act) (ob : Nat → Obj)
    (hassign : ∀ (l k : Nat) (W : World) (K : Act → World → Prop), K (a₁ k W.heap.size) (W.alloc (ob k)) →
      assign.wpIn (Fence.wide.inRound l) (n - 1 - 1) P (Exit.then K (fun _ _ _ => False)) { tmps := (ps.zip (encs k)).foldl (fun t (p, v) => t.setIfInBounds p v) a.tmps, defers := [] } W)
    (hbody : ∀ (l k b : Nat) (W : World), I k W → w.heap.size + 2 ≤ b → W.heap[b]? = some (ob k) → k < N → body.wpIn (Fence.wide.inRound l) (n - 1 - 1) P (endN G w.heap.size I Ix (k + 1) W) (a₁ k b) W)
    (hdone : ∀ (D : Nat) (W : World), w.heap.size ≤ D → I N W → W.heap[D]? = some (.deferred (some [])) → Q .normal { a with defers := { target := .collected D, args := #[] } :: a.defers } W)
    (hstop : ∀ (D : Nat) (c : Code) (k : Nat) (W : World), w.heap.size ≤ D → k ≤ N → Ix c k W → W.heap[D]? = some (.deferred (some [])) → c.wpIn Fence.wide n P Q { a with defers := { target := .collected D, args := #[] } :: a.defers } W) :
    (Code.rangeFunc g ps assign body).wpIn Fence.wide n P Q a w := by
  refine wpIn_rangeFunc ?_
  intro fn hfn
  show ∃ _, _
  let rec0 : LoopState → Option Code → Loop := fun st pe => { state := st, pending := pe, fn, tmps := a.tmps, params := ps, assign, body, defers := w.heap.size }
  obtain ⟨D, eD⟩ : ∃ D, D = w.heap.size := ⟨_, rfl⟩
  obtain ⟨W1, eW⟩ : ∃ W1, W1 = (w.alloc (.deferred (some []))).alloc (.loop (rec0 .ready none)) := ⟨_, rfl⟩
  have hB2 : Below w.heap.size w W1 := by rw [eW]; exact B2 _ _ _
  have hzz : W1.heap.size = D + 2 := by rw [eW, eD]; simp
  have hD : W1.heap[D]? = some (.deferred (some [])) := by
    rw [eW, eD]; exact (Below.heap_alloc _ _ _ (by simp)).trans (World.alloc_heap_new w _)
  have hL : W1.heap[D + 1]? = some (.loop (rec0 .ready none)) := by
    rw [eW, eD]; have := World.alloc_heap_new (w.alloc (.deferred (some []))) (.loop (rec0 .ready none)); rwa [World.size_alloc] at this
  have hI1 : I 0 W1 := hI 0 _ _ h0 hB2
  have keepI : ∀ (K : Nat → World → Prop) (hK : Low w.heap.size K) (k : Nat) (W : World) (o : Obj), K k W → K k (W.putObj (D + 1) o) := fun K hK k W o h => hK k _ _ h (below_putObj W (D + 1) _ o (by omega))
  refine ⟨D + 1, [{ target := .collected D, args := #[] }], W1, { target := .fn (.func gf) lb, args := #[.func (.yield (D + 1)) #[] #[]] }, W1, gf, #[.func (.yield (D + 1)) #[] #[]] ++ lb, W1, ?_, ?_, fun _ _ => trivial, ?_, fun _ => h1, ?_⟩
  · rw [eW, eD]; exact run_enterLoop_outer _ _ _ _ _
  · simp only [resolve, hg]
    simp [go_sem]
  · simp [invoke, go_sem, eg]
  refine (hseq (D + 1) (fun k W => I k W ∧ W.heap[D + 1]? = some (.loop (rec0 .ready none)) ∧ W.heap[D]? = some (.deferred (some [])))
    (fun k W => ∃ c, Ix c k W ∧ W.heap[D + 1]? = some (.loop (rec0 .done (some c))) ∧ W.heap[D]? = some (.deferred (some []))) W1 (hb0.trans (hB2.mono hb0.size)) ?_ ?_ ?_ ⟨hI1, hL, hD⟩).mono ?_
  · rintro s A A' ⟨hi, hl, hd⟩ hb
    exact ⟨hI s A A' hi (hb.mono (by omega)), (hb.block _ (by omega)).trans hl, (hb.block _ (by omega)).trans hd⟩
  · rintro s A A' ⟨c, hi, hl, hd⟩ hb
    exact ⟨c, hIx c s A A' hi (hb.mono (by omega)), (hb.block _ (by omega)).trans hl, (hb.block _ (by omega)).trans hd⟩
  · rintro k WW ⟨hi0, hl0, hd0⟩ hsz hk
    have hlt0 : D + 1 < WW.heap.size := (Array.getElem?_eq_some_iff.1 hl0).1
    obtain ⟨W, eWW⟩ : ∃ W, W = WW.alloc (ob k) := ⟨_, rfl⟩
    have hbW : Below WW.heap.size WW W := by rw [eWW]; exact B1 _ _
    have hobW : W.heap[WW.heap.size]? = some (ob k) := by rw [eWW]; exact World.alloc_heap_new WW _
    have hszW : W.heap.size = WW.heap.size + 1 := by rw [eWW]; simp
    have hi : I k W := hI k _ _ hi0 (hbW.mono (by omega))
    have hl : W.heap[D + 1]? = some (.loop (rec0 .ready none)) := (hbW.block _ hlt0).trans hl0
    have hd : W.heap[D]? = some (.deferred (some [])) := (hbW.block _ (by omega)).trans hd0
    have hlt : D + 1 < W.heap.size := (Array.getElem?_eq_some_iff.1 hl).1
    have hlW : ∀ (G' : Nat → Prop) (B' : Nat), Left G' B' WW W := fun G' B' => Left.below hbW
    refine ⟨fn, _, assign, body, run_yield (P := P) (args := encs k) hl0 (hps k), roundIn_of_wpIn hfn (hassign _ k WW _ ?_)⟩
    rw [← eWW]
    refine ⟨_, run_beginRound hl rfl, ?_⟩
    have hl2 : (W.putObj (D + 1) (.loop (rec0 .busy none))).heap[D + 1]? = some (.loop (rec0 .busy none)) := World.putObj_heap_same hlt
    have hd2 : (W.putObj (D + 1) (.loop (rec0 .busy none))).heap[D]? = some (.deferred (some [])) := (World.putObj_heap_other (by omega)).trans hd
    have hw2 : ∀ (X : World) (o : Obj), Left G (D + 2) X (X.putObj (D + 1) o) := fun X o => ⟨by simp, fun j _ hg => World.putObj_heap_other (by rcases hg with h | h; have := hG j h; omega; omega)⟩
    have hw3 : ∀ (X : World) (o : Obj), Left (fun _ => False) (D + 2) X (X.putObj (D + 1) o) := fun X o => ⟨by simp, fun j _ hg => World.putObj_heap_other (by rcases hg with h | h; exact h.elim; omega)⟩
    refine wpIn_mono (hbody _ k WW.heap.size _ (keepI I hI k W _ hi) (by omega) ((World.putObj_heap_other (by omega)).trans hobW) hk) ?_
    have fin : ∀ (jump : Option Code) (W3 : World), Left (fun _ => False) w.heap.size (W.putObj (D + 1) (.loop (rec0 .busy none))) W3 →
        (Instr.endRound (D + 1) jump).run P W3 = .ok (.bool jump.isNone) (W3.putObj (D + 1) (.loop (rec0 (if jump.isNone then .ready else .done) jump))) ∧
        (W3.putObj (D + 1) (.loop (rec0 (if jump.isNone then .ready else .done) jump))).heap[D + 1]? = some (.loop (rec0 (if jump.isNone then .ready else .done) jump)) ∧
        (W3.putObj (D + 1) (.loop (rec0 (if jump.isNone then .ready else .done) jump))).heap[D]? = some (.deferred (some [])) := fun jump W3 hk3 => by
      have hl3 := (hk3.block (D + 1) (by simpa using hlt) (.inr (by omega))).trans hl2
      have hd3 := (hk3.block D (by simp; omega) (.inr (by omega))).trans hd2
      exact ⟨run_endRound (P := P) jump hl3, World.putObj_heap_same (Array.getElem?_eq_some_iff.1 hl3).1, (World.putObj_heap_other (by omega)).trans hd3⟩
    rintro e a3 W3 hp
    cases e with
    | normal =>
      obtain ⟨hk3, hi3⟩ := hp
      obtain ⟨hr, hl4, hd4⟩ := fin none W3 (hk3.mono (fun j _ h => by rcases h with h | h; exact h.elim; exact .inr h))
      refine ⟨_, _, hr, .inl ⟨rfl, ⟨keepI I hI _ _ _ hi3, hl4, hd4⟩, ?_⟩⟩
      rw [hzz]
      exact (hlW _ _).trans <| ((hw2 _ _).trans (hk3.mono (fun j _ h => by rcases h with h | h; exact .inl h; exact .inr (by omega)))).trans (hw2 _ _)
    | ret =>
      obtain ⟨hk3, hi3⟩ := hp
      obtain ⟨hr, hl4, hd4⟩ := fin (some .ret) W3 hk3
      exact ⟨_, _, hr, .inr ⟨rfl, ⟨.ret, keepI _ (hIx _) _ _ _ hi3, hl4, hd4⟩, by rw [hzz]; exact (hlW _ _).trans <| ((hw3 _ _).trans (hk3.mono (fun j _ h => by rcases h with h | h; exact h.elim; exact .inr (by omega)))).trans (hw3 _ _)⟩⟩
    | exit id =>
      obtain ⟨hk3, hi3⟩ := hp
      obtain ⟨hr, hl4, hd4⟩ := fin (some (.exit id)) W3 hk3
      exact ⟨_, _, hr, .inr ⟨rfl, ⟨.exit id, keepI _ (hIx _) _ _ _ hi3, hl4, hd4⟩, by rw [hzz]; exact (hlW _ _).trans <| ((hw3 _ _).trans (hk3.mono (fun j _ h => by rcases h with h | h; exact h.elim; exact .inr (by omega)))).trans (hw3 _ _)⟩⟩
    | goto t =>
      obtain ⟨hk3, hi3⟩ := hp
      obtain ⟨hr, hl4, hd4⟩ := fin (some (.goto t)) W3 hk3
      exact ⟨_, _, hr, .inr ⟨rfl, ⟨.goto t, keepI _ (hIx _) _ _ _ hi3, hl4, hd4⟩, by rw [hzz]; exact (hlW _ _).trans <| ((hw3 _ _).trans (hk3.mono (fun j _ h => by rcases h with h | h; exact h.elim; exact .inr (by omega)))).trans (hw3 _ _)⟩⟩
    | panic ch => exact hp.elim
    | outgrown => exact hp.elim
  · rintro e W2 ⟨⟨v, rfl⟩, (⟨hi, hl, hd⟩ | ⟨k, hk, c, hi, hl, hd⟩)⟩
    · exact ⟨none, _, run_endLoop (P := P) hl (by simp [rec0]), hdone D _ (by omega) (keepI I hI _ _ _ hi) ((World.putObj_heap_other (by omega)).trans hd)⟩
    · exact ⟨some c, _, run_endLoop (P := P) hl (by simp [rec0]), hstop D c k _ (by omega) hk (keepI _ (hIx c) _ _ _ hi) ((World.putObj_heap_other (by omega)).trans hd)⟩
end Go.Proofs.YtjelgmdjmjnnfaaGreat

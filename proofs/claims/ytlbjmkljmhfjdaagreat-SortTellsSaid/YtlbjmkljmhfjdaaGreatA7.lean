/- Rows of rules, of nodes compared; two grammars compared: the program's answer. -/
import Derived.Test.YtlbjmkljmhfjdaaGreatA4
import Derived.Test.YtlbjmkljmhfjdaaGreatA1
import Derived.RangeFuncBox
import Derived.RangeFuncNested
import Derived.RangeFuncBound
import Derived.RangeFuncCalls
import Derived.RangeFuncLeaves
import Derived.OwnWalkIn
import Derived.TacticsInMore
import Derived.Shelf.Abstract
import Derived.Shelf.RegionOpen
import Derived.LoopNIn
import Derived.LoopIn
import Derived.Test.YtlbjmkljmhfjdaaGreatA6
import Derived.Test.YtlbjmkljmhfjdaaGreatA2
import Derived.Laws.IdiomStrings
import Derived.Laws.BytesArg
set_option linter.unusedSimpArgs false
set_option linter.unusedVariables false
namespace Go.Proofs.YtlbjmkljmhfjdaaGreat
open Go Go.RowKit
/-- Two rows are as long, and the same place by place. -/
def rowSame {α : Type} (z : α) (f : α → α → Bool) (a b : List α) : Bool := decide (a.length = b.length ∧ ∀ i, i < a.length → f (a.getD i z) (b.getD i z) = true)
theorem rowSame_true {α : Type} {z : α} {f : α → α → Bool} {a b : List α} (h : a.length = b.length) (h2 : ∀ i, i < a.length → f (a.getD i z) (b.getD i z) = true) : rowSame z f a b = true := by simp [rowSame, h]; intro i hi; simpa using h2 i (by omega)
theorem rowSame_false {α : Type} {z : α} {f : α → α → Bool} {a b : List α} (i : Nat) (hi : i < a.length) (h2 : f (a.getD i z) (b.getD i z) = false) : rowSame z f a b = false := by
  simp only [rowSame, decide_eq_false_iff_not]
  intro h
  rw [h.2 i hi] at h2
  cases h2
theorem rowSame_len {α : Type} {z : α} {f : α → α → Bool} {a b : List α} (h : a.length ≠ b.length) : rowSame z f a b = false := by simp [rowSame, h]
theorem getD_mem {α : Type} {l : List α} {k : Nat} {z : α} (h : k < l.length) : l.getD k z ∈ l := by rw [List.getD_eq_getElem?_getD, List.getElem?_eq_getElem h]; exact List.getElem_mem h
def sameRl (a b : Rl) : Bool := decide (a.name = b.name ∧ a.body = b.body)
theorem Rules.two {w : World} {A : Option Addr} {l : List Rl} (h : Rules w A l) {i : Nat} (hi : i < l.length) : ∃ b o, A = some ⟨b, o, none⟩ ∧ b < w.heap.size ∧ w.cell? ⟨b, o + i * 2, none⟩ = some (.string (l.getD i Rl.zero).name) ∧ w.cell? ⟨b, o + i * 2 + 1, none⟩ = some (.int .i64 (l.getD i Rl.zero).body) := by
  obtain ⟨b, o, e, hl, hc⟩ := h (by omega)
  exact ⟨b, o, e, hl, hc i hi⟩
end Go.Proofs.YtlbjmkljmhfjdaaGreat
namespace Go.Proofs.YtlbjmkljmhfjdaaGreat
open Go Go.RowKit
variable {P : Program}

/-- What J says it says of blocks below B. -/
def Low (B : Nat) (J : Nat → World → Prop) : Prop := ∀ (s : Nat) (A A' : World), J s A → Below B A A' → J s A'
/-- A round leaves what the function asked for, and what came since the function was called. -/
structure Left (G : Nat → Prop) (B : Nat) (A A' : World) : Prop where
  size : A.heap.size ≤ A'.heap.size
  block : ∀ k, k < A.heap.size → (G k ∨ B ≤ k) → A'.heap[k]? = A.heap[k]?
theorem Left.trans {G : Nat → Prop} {B : Nat} {A A' A'' : World} (h : Left G B A A') (k : Left G B A' A'') : Left G B A A'' :=
  ⟨Nat.le_trans h.size k.size, fun i hi hg => (k.block i (Nat.lt_of_lt_of_le hi h.size) hg).trans (h.block i hi hg)⟩
theorem Left.below {G : Nat → Prop} {B : Nat} {A A' : World} (h : Below A.heap.size A A') : Left G B A A' := ⟨h.size, fun k hk _ => h.block k hk⟩
theorem Left.mono {G G' : Nat → Prop} {B B' : Nat} {A A' : World} (h : Left G B A A') (hg : ∀ k, k < A.heap.size → (G' k ∨ B' ≤ k) → (G k ∨ B ≤ k)) : Left G' B' A A' := ⟨h.size, fun k hk h' => h.block k hk (hg k hk h')⟩
theorem Left.setCell {G : Nat → Prop} {B : Nat} (A : World) (b o : Nat) (v : Value) (hG : ¬ G b) (hB : b < B) : Left G B A (A.setCell ⟨b, o, none⟩ v) :=
  ⟨by simp [World.setCell], fun k _ hg => Below.heap_setCell _ _ _ k (fun e => by rcases hg with h | h; exact hG (by rw [← show k = b from e]; exact h); have : k = b := e; omega)⟩

/-- The contract: N things in their turn, or a part of them. -/
def SeqN (n : Nat) (P : Program) (gf : Nat) (lb : Array Value) (encs : Nat → Array Value) (N : Nat) (G : Nat → Prop) (w : World) : Prop :=
  ∀ (l : Nat) (J Jx : Nat → World → Prop) (W : World), Below w.heap.size w W → Low W.heap.size J → Low W.heap.size Jx →
    (∀ k W1, J k W1 → W.heap.size ≤ W1.heap.size → k < N → YieldAt Fence.wide (n - 1) P l (encs k) W1 fun e W' =>
      (e = .returned (.bool true) ∧ J (k + 1) W' ∧ Left G W.heap.size W1 W') ∨ (e = .returned (.bool false) ∧ Jx (k + 1) W' ∧ Left (fun _ => False) W.heap.size W1 W')) →
    J 0 W → CallsIn Fence.wide n P gf (#[.func (.yield l) #[] #[]] ++ lb) W fun e W' => (∃ v, e = .returned v) ∧ (J N W' ∨ ∃ k, k ≤ N ∧ Jx k W')

/-- How a body may end. -/
def endN (G : Nat → Prop) (B : Nat) (I : Nat → World → Prop) (Ix : Code → Nat → World → Prop) (k : Nat) (W : World) : Exit → Act → World → Prop
  | .normal, _, W' => Left G B W W' ∧ I k W'
  | .ret, _, W' => Left (fun _ => False) B W W' ∧ Ix .ret k W'
  | .exit id, _, W' => Left (fun _ => False) B W W' ∧ Ix (.exit id) k W'
  | .goto t, _, W' => Left (fun _ => False) B W W' ∧ Ix (.goto t) k W'
  | .panic _, _, _ => False
  | .outgrown, _, _ => False

theorem below_putObj (W : World) (l B : Nat) (o : Obj) (h : B ≤ l) : Below B W (W.putObj l o) := ⟨rfl, rfl, rfl, by simp, fun k hk => World.putObj_heap_other (by omega)⟩

end Go.Proofs.YtlbjmkljmhfjdaaGreat
namespace Go.Proofs.YtlbjmkljmhfjdaaGreat
open Go Go.RowKit Go.Shelf
attribute [local go_sem] Oper.semAt_some
theorem Nodes.left {w w' : World} {G : Nat → Prop} {B : Nat} {A : Option Addr} {l : List Nd} (h : Nodes w A l) (hl : Left G B w w') (hg : ∀ b o, A = some ⟨b, o, none⟩ → 0 < l.length → G b) : Nodes w' A l := by
  intro h0
  obtain ⟨b, o, e, hb, hc⟩ := h h0
  exact ⟨b, o, e, Nat.lt_of_lt_of_le hb hl.size, fun i hi j hj => (World.cell?_of_block (a := ⟨b, o + i * 9 + j, none⟩) (hl.block b hb (.inl (hg b o e h0)))).trans (hc i hi j hj)⟩
set_option maxRecDepth 100000 in
set_option maxHeartbeats 2000000 in
theorem back_node_in (n : Nat) (hn : 1 ≤ n) (l p : Nat) (A : Option Addr) (c : Nat) (a : List Nd) (ha : a.length ≤ 140737488351232) (G : Nat → Prop) (hp : G p) (hG : ∀ b o, A = some ⟨b, o, none⟩ → 0 < a.length → G b) (J Jx : Nat → World → Prop)
    (B : Nat) (hY : ∀ k W1, J k W1 → B ≤ W1.heap.size → k < a.length → YieldAt Fence.wide (n - 1) Tryz.prog l #[.int .i64 (a.length - 1 - k : Nat), Nd.val (a.getD (a.length - 1 - k) Nd.zero)] W1 fun e W' =>
      (e = .returned (.bool true) ∧ J (k + 1) W' ∧ Left G B W1 W') ∨ (e = .returned (.bool false) ∧ Jx (k + 1) W' ∧ Left (fun _ => False) B W1 W'))
    (W : World) (hB : B ≤ W.heap.size) (hbox : Blk W p #[.slice A a.length c] 23) (hx : Nodes W A a) (h0 : J 0 W) :
    CallsIn Fence.wide n Tryz.prog 297 #[.func (.yield l) #[] #[], .pointer (some ⟨p, 0, none⟩)] W fun e W' => (∃ v, e = .returned v) ∧ (J a.length W' ∨ ∃ k, k ≤ a.length ∧ Jx k W') := by
  have HX := Lib.hid hx
  have HY := Lib.hid hY
  have H0 := Lib.hid h0
  have HGG := Lib.hid hG
  have HB := Lib.hid hbox
  have HSZ := Lib.hid hB
  have c0 := hbox.cell 0
  have HP := Lib.hid hp
  simp only [List.getElem?_toArray, List.getElem?_cons_zero] at c0
  obtain ⟨m, em⟩ : ∃ m, m = a.length := ⟨_, rfl⟩
  rw [← em] at HY HB c0 ha ⊢
  have EM := Lib.hid em
  clear hx hY h0 hG hbox hp hB em
  refine callsIn_of_wp Tryz.func297 rfl trivial ?_ rfl
  simp only [Tryz.ntmps297, List.size_toArray, List.length_cons, List.length_nil, Nat.reduceAdd, Nat.reduceSub, Array.replicate_succ, Array.replicate_zero, List.push_toArray, List.append_toArray, List.nil_append, List.cons_append]
  gi_wp2_with (fail)
  clear c0
  gi_loopw [3] (fun i wr => ∃ k : Nat, k ≤ m ∧ i = .int .i64 ((m : Int) - 1 - k) ∧ J k wr ∧ Blk wr p #[.slice A m c] 23 ∧ Nodes wr A a ∧ B ≤ wr.heap.size)
    (fun i _ => (RowKit.intOf i + 1).toNat)
  case atStart => exact ⟨0, by omega, by go_num, H0.out, HB.out, HX.out, HSZ.out⟩
  case round =>
    obtain ⟨k, hk, rfl, hJ, hbx, hx, hz⟩ := hrel
    by_cases hlt : k < m
    · have c0 := hbx.cell 0
      simp only [List.getElem?_toArray, List.getElem?_cons_zero] at c0
      obtain ⟨i, hi⟩ : ∃ i : Nat, (i : Int) = (m : Int) - 1 - k := ⟨m - 1 - k, by omega⟩
      have hik : m - 1 - k = i := by omega
      rw [← hi]
      have h5 := HY.out k wr hJ hz hlt
      rw [hik] at h5
      have hil : i < m := by omega
      have hil2 : (i : Int) < m := by omega
      have hi0 : (0 : Int) ≤ i := by omega
      obtain ⟨b1, o1, ea, _, c1, c2, c3, c4, c5, c6, c7, c8, c9⟩ := hx.nine (show i < a.length by have := EM.out; omega)
      have HA := Lib.hid ea
      rw [ea] at c0
      generalize a.getD i Nd.zero = x at h5 c1 c2 c3 c4 c5 c6 c7 c8 c9
      obtain ⟨fn, tmps, assign, body, hy, hR⟩ := h5
      have HR := Lib.hid hR
      have HBX := Lib.hid hbx
      have HXX := Lib.hid hx
      have HZ := Lib.hid hz
      have HI := Lib.hid hi
      clear hR hbx hx hJ hz ea hik hi
      gi_wp2_with fail
      refine HR.out.mono ?_
      rintro e W3 (⟨rfl, hJ3, hl3⟩ | ⟨rfl, hJx3, hz3⟩)
      · have hb3 : Blk W3 p #[.slice A m c] 23 := (hl3.block p HBX.out.lt (.inl HP.out)).trans HBX.out
        have hx3 := HXX.out.left hl3 HGG.out
        have HB3 := Lib.hid hb3
        have HX3 := Lib.hid hx3
        have HJ3 := Lib.hid hJ3
        have HZ3 : RowKit.Hid (B ≤ W3.heap.size) := Lib.hid (Nat.le_trans HZ.out hl3.size)
        clear hb3 hx3 hJ3 hl3 hy c0 c1 c2 c3 c4 c5 c6 c7 c8 c9
        gi_wp2_with fail
        go_roundw
        case rel => exact ⟨k + 1, by omega, by have := HI.out; simp only [Value.int.injEq, true_and]; omega, HJ3.out, HB3.out, HX3.out, HZ3.out⟩
        case measure => simp [RowKit.intOf]; try omega
      · have HJ3 := Lib.hid hJx3
        clear hJx3 hy c0 c1 c2 c3 c4 c5 c6 c7 c8 c9
        gi_wp2_with fail
        refine bodyPost_ret (results_none rfl _ _ _) rfl ?_
        exact ⟨⟨_, rfl⟩, .inr ⟨k + 1, by omega, HJ3.out⟩⟩
    · obtain rfl : k = m := by omega
      have HJ3 := Lib.hid hJ
      have hneg : ¬ (0 : Int) ≤ (k : Int) - 1 - k := by omega
      have hneg2 : (k : Int) - 1 - k < 0 := by omega
      clear hJ hbx hx
      gi_wp2_with fail
      go_end0
      exact ⟨⟨_, rfl⟩, .inl HJ3.out⟩
theorem back_node_seq (n : Nat) (hn : 1 ≤ n) (p : Nat) (A : Option Addr) (c : Nat) (a : List Nd) (ha : a.length ≤ 140737488351232) (G : Nat → Prop) (hp : G p) (hG : ∀ b o, A = some ⟨b, o, none⟩ → 0 < a.length → G b) (w : World)
    (hbox : Blk w p #[.slice A a.length c] 23) (hx : Nodes w A a) : SeqN n Tryz.prog 297 #[.pointer (some ⟨p, 0, none⟩)] (fun k => #[.int .i64 (a.length - 1 - k : Nat), Nd.val (a.getD (a.length - 1 - k) Nd.zero)]) a.length G w :=
  fun l J Jx W hW hJ hJx hY h0 => back_node_in n hn l p A c a ha G hp hG J Jx W.heap.size hY W (Nat.le_refl _) (hbox.below' hW) (hx.below hW) h0
theorem back_node_any (A : Option Addr) (n c : Nat) (w : World) : Calls Tryz.prog 263 #[.slice A n c] w fun e w' => e = .returned (.func (.func 297) #[] #[.pointer (some ⟨w.heap.size, 0, none⟩)]) ∧ w' = w.alloc (.cells #[.slice A n c] 23) := by
  go_enter Tryz.func263, Tryz.ntmps263
  go_wp2_with fail
  go_ret
  exact ⟨rfl, rfl⟩
end Go.Proofs.YtlbjmkljmhfjdaaGreat
namespace Go.Proofs.YtlbjmkljmhfjdaaGreat
open Go Go.RowKit
variable {P : Program}
theorem wpIn_rangeFunc_x {n : Nat} {g : Operand} {ps : Array Tmp} {assign body : Code} {Q : Exit → Act → World → Prop} {a : Act} {w : World} (h1 : 1 ≤ n) {gf : Nat} {lb : Array Value}
    (hg : a.eval g = .func (.func gf) #[] lb) (eg : ∀ args w, (callFunc gf args).run P w = .ok (.enter gf args) w) {encs : Nat → Array Value} {N : Nat} {G : Nat → Prop} {w0 : World}
    (hseq : SeqN (n - 1) P gf lb encs N G w0) (hb0 : Below w0.heap.size w0 w) (hps : ∀ k, (encs k).size = ps.size) (hG : ∀ k, G k → k < w.heap.size)
    (I : Nat → World → Prop) (Ix : Code → Nat → World → Prop) (hI : Low w.heap.size I) (hIx : ∀ c, Low w.heap.size (Ix c)) (h0 : I 0 w) (a₁ : Nat → Nat → Act) (ob : Nat → Obj)
    (hassign : ∀ (l k : Nat) (W : World) (K : Act → World → Prop), K (a₁ k W.heap.size) (W.alloc (ob k)) →
      assign.wpIn (Fence.wide.inRound l) (n - 1 - 1) P (Exit.then K (fun _ _ _ => False)) { tmps := (ps.zip (encs k)).foldl (fun t (p, v) => t.setIfInBounds p v) a.tmps, defers := [] } W)
    (hbody : ∀ (l k b : Nat) (W : World), I k W → w.heap.size + 2 ≤ b → W.heap[b]? = some (ob k) → k < N → body.wpIn (Fence.wide.inRound l) (n - 1 - 1) P (endN G w.heap.size I Ix (k + 1) W) (a₁ k b) W)
    (hdone : ∀ (D : Nat) (W : World), w.heap.size ≤ D → I N W → W.heap[D]? = some (.deferred (some [])) → Q .normal { a with defers := { target := .collected D, args := #[] } :: a.defers } W)
    (hstop : ∀ (D : Nat) (c : Code) (k : Nat) (W : World), w.heap.size ≤ D → k ≤ N → Ix c k W → W.heap[D]? = some (.deferred (some [])) → c.wpIn Fence.wide n P Q { a with defers := { target := .collected D, args := #[] } :: a.defers } W) :
    (Code.rangeFunc g ps assign body).wpIn Fence.wide n P Q a w := by
  refine wpIn_rangeFunc ?_
  intro fn hfn
  show ∃ _, _
  let rec0 : LoopState → Option Code → Loop := fun st pe => { state := st, pending := pe, fn, tmps := a.tmps, params := ps, assign, body, defers := w.heap.size }
  obtain ⟨D, eD⟩ : ∃ D, D = w.heap.size := ⟨_, rfl⟩
  obtain ⟨W1, eW⟩ : ∃ W1, W1 = (w.alloc (.deferred (some []))).alloc (.loop (rec0 .ready none)) := ⟨_, rfl⟩
  have hB2 : Below w.heap.size w W1 := by rw [eW]; exact B2 _ _ _
  have hzz : W1.heap.size = D + 2 := by rw [eW, eD]; simp
  have hD : W1.heap[D]? = some (.deferred (some [])) := by
    rw [eW, eD]; exact (Below.heap_alloc _ _ _ (by simp)).trans (World.alloc_heap_new w _)
  have hL : W1.heap[D + 1]? = some (.loop (rec0 .ready none)) := by
    rw [eW, eD]; have := World.alloc_heap_new (w.alloc (.deferred (some []))) (.loop (rec0 .ready none)); rwa [World.size_alloc] at this
  have hI1 : I 0 W1 := hI 0 _ _ h0 hB2
  have keepI : ∀ (K : Nat → World → Prop) (hK : Low w.heap.size K) (k : Nat) (W : World) (o : Obj), K k W → K k (W.putObj (D + 1) o) := fun K hK k W o h => hK k _ _ h (below_putObj W (D + 1) _ o (by omega))
  refine ⟨D + 1, [{ target := .collected D, args := #[] }], W1, { target := .fn (.func gf) lb, args := #[.func (.yield (D + 1)) #[] #[]] }, W1, gf, #[.func (.yield (D + 1)) #[] #[]] ++ lb, W1, ?_, ?_, fun _ _ => trivial, ?_, fun _ => h1, ?_⟩
  · rw [eW, eD]; exact run_enterLoop_outer _ _ _ _ _
  · simp only [resolve, hg]
    simp [go_sem]
  · simp [invoke, go_sem, eg]
  refine (hseq (D + 1) (fun k W => I k W ∧ W.heap[D + 1]? = some (.loop (rec0 .ready none)) ∧ W.heap[D]? = some (.deferred (some [])))
    (fun k W => ∃ c, Ix c k W ∧ W.heap[D + 1]? = some (.loop (rec0 .done (some c))) ∧ W.heap[D]? = some (.deferred (some []))) W1 (hb0.trans (hB2.mono hb0.size)) ?_ ?_ ?_ ⟨hI1, hL, hD⟩).mono ?_
  · rintro s A A' ⟨hi, hl, hd⟩ hb
    exact ⟨hI s A A' hi (hb.mono (by omega)), (hb.block _ (by omega)).trans hl, (hb.block _ (by omega)).trans hd⟩
  · rintro s A A' ⟨c, hi, hl, hd⟩ hb
    exact ⟨c, hIx c s A A' hi (hb.mono (by omega)), (hb.block _ (by omega)).trans hl, (hb.block _ (by omega)).trans hd⟩
  · rintro k WW ⟨hi0, hl0, hd0⟩ hsz hk
    have hlt0 : D + 1 < WW.heap.size := (Array.getElem?_eq_some_iff.1 hl0).1
    obtain ⟨W, eWW⟩ : ∃ W, W = WW.alloc (ob k) := ⟨_, rfl⟩
    have hbW : Below WW.heap.size WW W := by rw [eWW]; exact B1 _ _
    have hobW : W.heap[WW.heap.size]? = some (ob k) := by rw [eWW]; exact World.alloc_heap_new WW _
    have hszW : W.heap.size = WW.heap.size + 1 := by rw [eWW]; simp
    have hi : I k W := hI k _ _ hi0 (hbW.mono (by omega))
    have hl : W.heap[D + 1]? = some (.loop (rec0 .ready none)) := (hbW.block _ hlt0).trans hl0
    have hd : W.heap[D]? = some (.deferred (some [])) := (hbW.block _ (by omega)).trans hd0
    have hlt : D + 1 < W.heap.size := (Array.getElem?_eq_some_iff.1 hl).1
    have hlW : ∀ (G' : Nat → Prop) (B' : Nat), Left G' B' WW W := fun G' B' => Left.below hbW
    refine ⟨fn, _, assign, body, run_yield (P := P) (args := encs k) hl0 (hps k), roundIn_of_wpIn hfn (hassign _ k WW _ ?_)⟩
    rw [← eWW]
    refine ⟨_, run_beginRound hl rfl, ?_⟩
    have hl2 : (W.putObj (D + 1) (.loop (rec0 .busy none))).heap[D + 1]? = some (.loop (rec0 .busy none)) := World.putObj_heap_same hlt
    have hd2 : (W.putObj (D + 1) (.loop (rec0 .busy none))).heap[D]? = some (.deferred (some [])) := (World.putObj_heap_other (by omega)).trans hd
    have hw2 : ∀ (X : World) (o : Obj), Left G (D + 2) X (X.putObj (D + 1) o) := fun X o => ⟨by simp, fun j _ hg => World.putObj_heap_other (by rcases hg with h | h; have := hG j h; omega; omega)⟩
    have hw3 : ∀ (X : World) (o : Obj), Left (fun _ => False) (D + 2) X (X.putObj (D + 1) o) := fun X o => ⟨by simp, fun j _ hg => World.putObj_heap_other (by rcases hg with h | h; exact h.elim; omega)⟩
    refine wpIn_mono (hbody _ k WW.heap.size _ (keepI I hI k W _ hi) (by omega) ((World.putObj_heap_other (by omega)).trans hobW) hk) ?_
    have fin : ∀ (jump : Option Code) (W3 : World), Left (fun _ => False) w.heap.size (W.putObj (D + 1) (.loop (rec0 .busy none))) W3 →
        (Instr.endRound (D + 1) jump).run P W3 = .ok (.bool jump.isNone) (W3.putObj (D + 1) (.loop (rec0 (if jump.isNone then .ready else .done) jump))) ∧
        (W3.putObj (D + 1) (.loop (rec0 (if jump.isNone then .ready else .done) jump))).heap[D + 1]? = some (.loop (rec0 (if jump.isNone then .ready else .done) jump)) ∧
        (W3.putObj (D + 1) (.loop (rec0 (if jump.isNone then .ready else .done) jump))).heap[D]? = some (.deferred (some [])) := fun jump W3 hk3 => by
      have hl3 := (hk3.block (D + 1) (by simpa using hlt) (.inr (by omega))).trans hl2
      have hd3 := (hk3.block D (by simp; omega) (.inr (by omega))).trans hd2
      exact ⟨run_endRound (P := P) jump hl3, World.putObj_heap_same (Array.getElem?_eq_some_iff.1 hl3).1, (World.putObj_heap_other (by omega)).trans hd3⟩
    rintro e a3 W3 hp
    cases e with
    | normal =>
      obtain ⟨hk3, hi3⟩ := hp
      obtain ⟨hr, hl4, hd4⟩ := fin none W3 (hk3.mono (fun j _ h => by rcases h with h | h; exact h.elim; exact .inr h))
      refine ⟨_, _, hr, .inl ⟨rfl, ⟨keepI I hI _ _ _ hi3, hl4, hd4⟩, ?_⟩⟩
      rw [hzz]
      exact (hlW _ _).trans <| ((hw2 _ _).trans (hk3.mono (fun j _ h => by rcases h with h | h; exact .inl h; exact .inr (by omega)))).trans (hw2 _ _)
    | ret =>
      obtain ⟨hk3, hi3⟩ := hp
      obtain ⟨hr, hl4, hd4⟩ := fin (some .ret) W3 hk3
      exact ⟨_, _, hr, .inr ⟨rfl, ⟨.ret, keepI _ (hIx _) _ _ _ hi3, hl4, hd4⟩, by rw [hzz]; exact (hlW _ _).trans <| ((hw3 _ _).trans (hk3.mono (fun j _ h => by rcases h with h | h; exact h.elim; exact .inr (by omega)))).trans (hw3 _ _)⟩⟩
    | exit id =>
      obtain ⟨hk3, hi3⟩ := hp
      obtain ⟨hr, hl4, hd4⟩ := fin (some (.exit id)) W3 hk3
      exact ⟨_, _, hr, .inr ⟨rfl, ⟨.exit id, keepI _ (hIx _) _ _ _ hi3, hl4, hd4⟩, by rw [hzz]; exact (hlW _ _).trans <| ((hw3 _ _).trans (hk3.mono (fun j _ h => by rcases h with h | h; exact h.elim; exact .inr (by omega)))).trans (hw3 _ _)⟩⟩
    | goto t =>
      obtain ⟨hk3, hi3⟩ := hp
      obtain ⟨hr, hl4, hd4⟩ := fin (some (.goto t)) W3 hk3
      exact ⟨_, _, hr, .inr ⟨rfl, ⟨.goto t, keepI _ (hIx _) _ _ _ hi3, hl4, hd4⟩, by rw [hzz]; exact (hlW _ _).trans <| ((hw3 _ _).trans (hk3.mono (fun j _ h => by rcases h with h | h; exact h.elim; exact .inr (by omega)))).trans (hw3 _ _)⟩⟩
    | panic ch => exact hp.elim
    | outgrown => exact hp.elim
  · rintro e W2 ⟨⟨v, rfl⟩, (⟨hi, hl, hd⟩ | ⟨k, hk, c, hi, hl, hd⟩)⟩
    · exact ⟨none, _, run_endLoop (P := P) hl (by simp [rec0]), hdone D _ (by omega) (keepI I hI _ _ _ hi) ((World.putObj_heap_other (by omega)).trans hd)⟩
    · exact ⟨some c, _, run_endLoop (P := P) hl (by simp [rec0]), hstop D c k _ (by omega) hk (keepI _ (hIx c) _ _ _ hi) ((World.putObj_heap_other (by omega)).trans hd)⟩
end Go.Proofs.YtlbjmkljmhfjdaaGreat
namespace Go.Proofs.YtlbjmkljmhfjdaaGreat
abbrev Meas := Int × Int
def kidsOf (l : List Nd) (n : Nat) : List Int := (l.getD n Nd.zero).kids
/-- Kids one behind the other: from 'next' on, by the sizes that are known: where they end, how high the highest is; none, if they do not stand so. -/
def climb (len : Nat) (ms : Nat → Meas) : List Int → Int → Int → Option Meas
  | [], next, high => some (next, high)
  | k :: r, next, high => if k = next ∧ k < len then climb len ms r (next + (ms k.toNat).1) (max high (ms k.toNat).2) else none
/-- The nodes from n on are measured. -/
def Measured (l : List Nd) (ms : Nat → Meas) (n : Nat) : Prop := ∀ m, n ≤ m → m < l.length → 1 ≤ (ms m).1 ∧ 1 ≤ (ms m).2 ∧ m + (ms m).1 ≤ l.length ∧ climb l.length ms (kidsOf l m) (m + 1) 0 = some (m + (ms m).1, (ms m).2 - 1)
theorem climb_up {len : Nat} {ms : Nat → Meas} (n0 : Nat) (hs : ∀ m : Nat, n0 ≤ m → m < len → 1 ≤ (ms m).1 ∧ 1 ≤ (ms m).2 ∧ m + (ms m).1 ≤ len) : ∀ (r : List Int) (next high to hh : Int), (n0 : Int) ≤ next → climb len ms r next high = some (to, hh) → next ≤ to ∧ high ≤ hh ∧ (next ≤ len → to ≤ len)
  | [], next, high, to, hh, _, h => by simp [climb] at h; omega
  | k :: r, next, high, to, hh, hn, h => by
    unfold climb at h
    split at h
    · rename_i hk
      obtain ⟨rfl, hk2⟩ := hk
      obtain ⟨h1, h2, h3⟩ := hs k.toNat (by omega) (by omega)
      have := climb_up n0 hs r _ _ to hh (by omega) h
      have e : ((k.toNat : Nat) : Int) = k := by omega
      rw [e] at h3
      omega
    · cases h
theorem climb_congr {len : Nat} {ms ms' : Nat → Meas} (n0 : Nat) (hs : ∀ m : Nat, n0 ≤ m → m < len → 1 ≤ (ms m).1) (he : ∀ m : Nat, n0 ≤ m → m < len → ms m = ms' m) : ∀ (r : List Int) (next high : Int), (n0 : Int) ≤ next → climb len ms r next high = climb len ms' r next high
  | [], _, _, _ => rfl
  | k :: r, next, high, hn => by
    unfold climb
    by_cases hk : k = next ∧ k < len
    · rw [if_pos hk, if_pos hk]
      obtain ⟨rfl, hk2⟩ := hk
      have h1 := hs k.toNat (by omega) (by omega)
      rw [← he k.toNat (by omega) (by omega)]
      exact climb_congr n0 hs he r _ _ (by omega)
    · rw [if_neg hk, if_neg hk]
theorem measured_unique {l : List Nd} {ms ms' : Nat → Meas} {n n' : Nat} (h : Measured l ms n) (h' : Measured l ms' n') : ∀ d m : Nat, l.length - m ≤ d → n ≤ m → n' ≤ m → m < l.length → ms m = ms' m
  | 0, m, hd, _, _, hl => by omega
  | d + 1, m, hd, hn, hn', hl => by
    obtain ⟨a1, a2, _, a3⟩ := h m hn hl
    obtain ⟨b1, b2, _, b3⟩ := h' m hn' hl
    have e := climb_congr (len := l.length) (ms := ms) (ms' := ms') (m + 1) (fun k hk hkl => (h k (by omega) hkl).1) (fun k hk hkl => measured_unique h h' d k (by omega) (by omega) (by omega) hkl) (kidsOf l m) (m + 1) 0 (by omega)
    rw [a3, b3] at e
    simp only [Option.some.injEq, Prod.mk.injEq] at e
    apply Prod.ext <;> omega
/-- One node more is measured. -/
theorem measured_step {l : List Nd} {ms : Nat → Meas} {n : Nat} (hn : n < l.length) (h : Measured l ms (n + 1)) {to hh : Int} (hc : climb l.length ms (kidsOf l n) (n + 1) 0 = some (to, hh)) : Measured l (fun m => if m = n then (to - n, hh + 1) else ms m) n := by
  have hup := climb_up (n + 1) (fun m hm hl => ⟨(h m hm hl).1, (h m hm hl).2.1, (h m hm hl).2.2.1⟩) _ _ _ to hh (by omega) hc
  intro m hm hl
  have hcong : ∀ k : Nat, n ≤ k → k < l.length → climb l.length (fun m => if m = n then (to - n, hh + 1) else ms m) (kidsOf l k) (k + 1) 0 = climb l.length ms (kidsOf l k) (k + 1) 0 := fun k hk hkl =>
    (climb_congr (n + 1) (fun j hj hjl => (h j hj hjl).1) (fun j hj _ => by simp [show j ≠ n by omega]) _ _ _ (by omega)).symm
  rw [hcong m hm hl]
  by_cases e : m = n
  · subst e
    simp only [if_true]
    exact ⟨by omega, by omega, by omega, by rw [hc]; simp only [Option.some.injEq, Prod.mk.injEq]; omega⟩
  · simp only [if_neg e]
    exact h m (by omega) hl
theorem measured_none {l : List Nd} {ms ms' : Nat → Meas} {n : Nat} (hn : n < l.length) (h : Measured l ms (n + 1)) (hc : climb l.length ms (kidsOf l n) (n + 1) 0 = none) : ¬ Measured l ms' 0 := by
  intro h'
  have e := climb_congr (len := l.length) (ms := ms) (ms' := ms') (n + 1) (fun k hk hkl => (h k (by omega) hkl).1) (fun k hk hkl => measured_unique h h' _ k (Nat.le_refl _) (by omega) (by omega) hkl) (kidsOf l n) (n + 1) 0 (by omega)
  rw [hc, (h' n (by omega) hn).2.2.2] at e
  cases e
/-- The document's: the node behind a node's last one, and its height; none: they do not stand so. -/
def afterKids (f : Int → Option Meas) : List Int → Int → Int → Option Meas
  | [], next, high => some (next, high)
  | k :: r, next, high => if k = next then match f next with
    | some (to, h) => afterKids f r to (max high (1 + h))
    | none => none
    else none
def after (l : List Nd) : Nat → Int → Option Meas
  | 0, _ => none
  | f + 1, n => if n < l.length then afterKids (after l f) (kidsOf l n.toNat) (n + 1) 1 else none
theorem afterKids_climb {l : List Nd} {ms : Nat → Meas} (h : Measured l ms 0) (f : Nat) (hf : ∀ m : Nat, m < l.length → after l f m = if (ms m).2 ≤ f then some (m + (ms m).1, (ms m).2) else none) :
    ∀ (r : List Int) (next high to hh : Int), 0 ≤ next → high ≤ f → climb l.length ms r next high = some (to, hh) → afterKids (after l f) r next (high + 1) = if hh ≤ f then some (to, hh + 1) else none
  | [], next, high, to, hh, _, hl, hc => by simp [climb] at hc; obtain ⟨rfl, rfl⟩ := hc; simp [afterKids, hl]
  | k :: r, next, high, to, hh, hn, hl, hc => by
    unfold climb at hc
    split at hc
    · rename_i hk
      obtain ⟨rfl, hk2⟩ := hk
      have hm := hf k.toNat (by omega)
      have e : ((k.toNat : Nat) : Int) = k := by omega
      obtain ⟨m1, m2, m3, _⟩ := h k.toNat (by omega) (by omega)
      rw [e] at hm
      unfold afterKids
      rw [if_pos rfl, hm]
      by_cases hx : (ms k.toNat).2 ≤ f
      · rw [if_pos hx]
        have := afterKids_climb h f hf r _ _ to hh (by omega) (by omega) hc
        show afterKids (after l f) r (k + (ms k.toNat).1) (max (high + 1) (1 + (ms k.toNat).2)) = _
        rw [show max (high + 1) (1 + (ms k.toNat).2) = max high (ms k.toNat).2 + 1 by omega]
        exact this
      · rw [if_neg hx]
        have := climb_up 0 (fun m hm hl => ⟨(h m (by omega) hl).1, (h m (by omega) hl).2.1, (h m (by omega) hl).2.2.1⟩) r _ _ to hh (by omega) hc
        rw [if_neg (by omega)]
    · cases hc
theorem after_measured {l : List Nd} {ms : Nat → Meas} (h : Measured l ms 0) : ∀ (f m : Nat), m < l.length → after l f m = if (ms m).2 ≤ f then some (m + (ms m).1, (ms m).2) else none
  | 0, m, hm => by
    have := (h m (by omega) hm).2.1
    rw [if_neg (by omega)]
    rfl
  | f + 1, m, hm => by
    obtain ⟨h1, h2, h3, h4⟩ := h m (by omega) hm
    unfold after
    rw [if_pos (by omega)]
    have := afterKids_climb h f (after_measured h f) (kidsOf l m) (m + 1) 0 _ _ (by omega) (by omega) h4
    simp only [Int.zero_add] at this
    rw [Int.toNat_natCast, this]
    by_cases hx : (ms m).2 - 1 ≤ f
    · rw [if_pos hx, if_pos (by omega)]
      simp only [Option.some.injEq, Prod.mk.injEq, true_and]
      omega
    · rw [if_neg hx, if_neg (by omega)]
/-- What is gone through is good all along. -/
theorem afterKids_cover {l : List Nd} (f : Nat) (hf : ∀ (n : Nat) (to h : Int), after l f n = some (to, h) → (n : Int) < to ∧ to ≤ l.length ∧ 1 ≤ h ∧ h ≤ f ∧ ∀ m : Nat, n ≤ m → (m : Int) < to → ∃ r, after l f m = some r) :
    ∀ (r : List Int) (next high to h : Int), 0 ≤ next → next ≤ l.length → afterKids (after l f) r next high = some (to, h) → next ≤ to ∧ to ≤ l.length ∧ high ≤ h ∧ (high ≤ f + 1 → h ≤ f + 1) ∧ ∀ m : Nat, next ≤ m → (m : Int) < to → ∃ r, after l f m = some r
  | [], next, high, to, h, _, hl, hc => by simp [afterKids] at hc; obtain ⟨rfl, rfl⟩ := hc; exact ⟨by omega, hl, by omega, fun h => h, fun m h1 h2 => by omega⟩
  | k :: r, next, high, to, h, hn, hl, hc => by
    unfold afterKids at hc
    split at hc
    · split at hc
      · rename_i to1 h1 he
        have e : ((next.toNat : Nat) : Int) = next := by omega
        rw [← e] at he
        obtain ⟨a1, a2, a3, a4, a5⟩ := hf _ _ _ he
        obtain ⟨b1, b2, b3, b4, b5⟩ := afterKids_cover f hf r to1 _ to h (by omega) a2 hc
        refine ⟨by omega, b2, by omega, fun hh => b4 (by omega), fun m m1 m2 => ?_⟩
        by_cases hm : (m : Int) < to1
        · exact a5 m (by omega) hm
        · exact b5 m (by omega) m2
      · cases hc
    · cases hc
theorem afterKids_mono {l : List Nd} (f : Nat) (hf : ∀ (n : Int) (r : Meas), after l f n = some r → after l (f + 1) n = some r) : ∀ (r : List Int) (next high : Int) (x : Meas), afterKids (after l f) r next high = some x → afterKids (after l (f + 1)) r next high = some x
  | [], _, _, _, h => h
  | k :: r, next, high, x, h => by
    unfold afterKids at h ⊢
    split at h
    · rename_i hk
      rw [if_pos hk]
      split at h
      · rename_i to1 h1 he
        rw [hf _ _ he]
        exact afterKids_mono f hf r _ _ x h
      · cases h
    · cases h
theorem after_mono1 {l : List Nd} : ∀ (f : Nat) (n : Int) (r : Meas), after l f n = some r → after l (f + 1) n = some r
  | 0, _, _, h => by cases h
  | f + 1, n, r, h => by
    rw [after] at h ⊢
    split at h
    · rename_i hn
      rw [if_pos hn]
      exact afterKids_mono f (after_mono1 f) _ _ _ _ h
    · cases h
theorem after_cover {l : List Nd} : ∀ (f n : Nat) (to h : Int), after l f n = some (to, h) → (n : Int) < to ∧ to ≤ l.length ∧ 1 ≤ h ∧ h ≤ f ∧ ∀ m : Nat, n ≤ m → (m : Int) < to → ∃ r, after l f m = some r
  | 0, _, _, _, h => by cases h
  | f + 1, n, to, h, hc => by
    have hc0 := hc
    rw [after] at hc
    split at hc
    · rename_i hn
      obtain ⟨b1, b2, b3, b4, b5⟩ := afterKids_cover f (after_cover f) _ _ _ to h (by omega) (by omega) hc
      refine ⟨by omega, b2, b3, by have := b4 (by omega); omega, fun m m1 m2 => ?_⟩
      by_cases hm : m = n
      · subst hm; exact ⟨_, hc0⟩
      · obtain ⟨r, hr⟩ := b5 m (by omega) m2
        exact ⟨r, after_mono1 f _ _ hr⟩
    · cases hc
theorem climb_after {l : List Nd} {f : Nat} {ms : Nat → Meas} (hms : ∀ m : Nat, m < l.length → after l f m = some (m + (ms m).1, (ms m).2)) : ∀ (r : List Int) (next high to h : Int), 0 ≤ next → next ≤ l.length → afterKids (after l f) r next (high + 1) = some (to, h) → climb l.length ms r next high = some (to, h - 1)
  | [], next, high, to, h, _, _, hc => by simp [afterKids] at hc; obtain ⟨rfl, rfl⟩ := hc; simp [climb]
  | k :: r, next, high, to, h, hn, hl, hc => by
    unfold afterKids at hc
    split at hc
    · rename_i hk
      subst hk
      split at hc
      · rename_i to1 h1 he
        have e : ((k.toNat : Nat) : Int) = k := by omega
        have he2 := he
        rw [← e] at he2
        have hlt : k < l.length := by
          have := after_cover f _ _ _ he2
          omega
        have hm := hms k.toNat (by omega)
        rw [he2] at hm
        simp only [Option.some.injEq, Prod.mk.injEq] at hm
        have c := after_cover f _ _ _ he2
        unfold climb
        rw [if_pos ⟨rfl, hlt⟩]
        refine climb_after hms r _ _ to h (by omega) (by omega) ?_
        rw [← hm.2, show k + (ms k.toNat).1 = to1 by omega, show max high h1 + 1 = max (high + 1) (1 + h1) by omega]
        exact hc
      · cases hc
    · cases hc
/-- If all nodes are gone through well, they are measured. -/
theorem measured_of_after {l : List Nd} (f : Nat) (h : ∀ m : Nat, m < l.length → ∃ r, after l f m = some r) : ∃ ms, Measured l ms 0 := by
  have key : ∀ m : Nat, ∃ p : Meas, m < l.length → after l (f + 1) m = some (m + p.1, p.2) ∧ after l f m = some (m + p.1, p.2) := fun m => by
    by_cases hm : m < l.length
    · obtain ⟨r, hr⟩ := h m hm
      exact ⟨(r.1 - m, r.2), fun _ => by
        have e : some ((m : Int) + (r.1 - m, r.2).1, (r.1 - (m : Int), r.2).2) = some r := by congr 1; apply Prod.ext <;> simp; omega
        exact ⟨by rw [after_mono1 f _ _ hr, e], by rw [hr, e]⟩⟩
    · exact ⟨(0, 0), fun h => absurd h hm⟩
  obtain ⟨ms, hk⟩ : ∃ ms : Nat → Meas, ∀ m : Nat, m < l.length → after l (f + 1) m = some (m + (ms m).1, (ms m).2) ∧ after l f m = some (m + (ms m).1, (ms m).2) := ⟨fun m => Classical.choose (key m), fun m => Classical.choose_spec (key m)⟩
  refine ⟨ms, fun m _ hm => ?_⟩
  have hms : ∀ j : Nat, j < l.length → after l f j = some (j + (ms j).1, (ms j).2) := fun j hj => (hk j hj).2
  have h1 := (hk m hm).1
  have c := after_cover (f + 1) m _ _ h1
  rw [after] at h1
  split at h1
  · have := climb_after hms (kidsOf l m) (m + 1) 0 _ _ (by omega) (by omega) (by simpa using h1)
    exact ⟨by omega, by omega, by omega, by simpa using this⟩
  · cases h1
end Go.Proofs.YtlbjmkljmhfjdaaGreat
namespace Go.Proofs.YtlbjmkljmhfjdaaGreat
open Go Go.RowKit
def ruleFrom (s : ByteArray) : Nat → List Rl → Int
  | _, [] => -1
  | i, r :: l => if r.name = s then i else ruleFrom s (i + 1) l
def ruleAt (l : List Rl) (s : ByteArray) : Int := ruleFrom s 0 l
theorem ruleFrom_hit (s : ByteArray) : ∀ (l : List Rl) (i k : Nat), (∀ j, j < k → (l.getD j Rl.zero).name ≠ s) → k < l.length → (l.getD k Rl.zero).name = s → ruleFrom s i l = (i + k : Nat)
  | [], _, _, _, h, _ => by simp at h
  | r :: l, i, 0, _, _, h => by
    have : r.name = s := by simpa using h
    simp [ruleFrom, this]
  | r :: l, i, k + 1, h1, h2, h3 => by
    have h0 : r.name ≠ s := by have := h1 0 (by omega); simpa using this
    rw [ruleFrom, if_neg h0, ruleFrom_hit s l (i + 1) k (fun j hj => by have := h1 (j + 1) (by omega); simpa using this) (by simpa using h2) (by simpa using h3)]
    congr 1
    omega
theorem ruleFrom_miss (s : ByteArray) : ∀ (l : List Rl) (i : Nat), (∀ j, j < l.length → (l.getD j Rl.zero).name ≠ s) → ruleFrom s i l = -1
  | [], _, _ => rfl
  | r :: l, i, h => by
    have h0 : r.name ≠ s := by have := h 0 (by simp); simpa using this
    rw [ruleFrom, if_neg h0]
    exact ruleFrom_miss s l (i + 1) (fun j hj => by have := h (j + 1) (by simpa using hj); simpa using this)
theorem ruleAt_hit {l : List Rl} {s : ByteArray} (k : Nat) (h1 : ∀ j, j < k → (l.getD j Rl.zero).name ≠ s) (h2 : k < l.length) (h3 : (l.getD k Rl.zero).name = s) : ruleAt l s = k := by
  have := ruleFrom_hit s l 0 k h1 h2 h3
  rw [Nat.zero_add] at this
  exact this
theorem ruleAt_miss {l : List Rl} {s : ByteArray} (h : ∀ j, j < l.length → (l.getD j Rl.zero).name ≠ s) : ruleAt l s = -1 := ruleFrom_miss s l 0 h
theorem ask_any (a s : ByteArray) (b : Int) (p : Nat) (w : World) (hp : w.cell? ⟨p, 0, none⟩ = some (.string s)) :
    Calls Tryz.prog 289 #[.agg #[.string a, .int .i64 b], .pointer (some ⟨p, 0, none⟩)] w fun e w' => e = .returned (.bool (decide (a = s))) ∧ Below w.heap.size w w' := by
  have hp2 : ∀ o, (w.alloc o).cell? ⟨p, 0, none⟩ = some (.string s) := fun o => by rw [(B1 w o).cell (p := ⟨p, 0, none⟩) (World.block_lt_of_cell? _ _ hp)]; exact hp
  clear hp
  go_enter Tryz.func289, Tryz.ntmps289
  go_wp2_with fail
  go_ret
  exact ⟨ret_bool (by rw [Bool.eq_iff_iff]; simp [tl_inj]), B1 _ _⟩
set_option maxRecDepth 100000 in
set_option maxHeartbeats 2000000 in
theorem index_any (A : Option Addr) (c : Nat) (a : List Rl) (s : ByteArray) (p : Nat) (ha : a.length ≤ 140737488351232) (w : World) (hA : Rules w A a) (hp : w.cell? ⟨p, 0, none⟩ = some (.string s)) :
    Calls Tryz.prog 288 #[.slice A a.length c, .func (.func 289) #[] #[.pointer (some ⟨p, 0, none⟩)]] w fun e w' => e = .returned (.int .i64 (ruleAt a s)) ∧ Below w.heap.size w w' := by
  have HA := Lib.hid hA
  have RH := Lib.hid (ruleAt_hit (l := a) (s := s))
  have RM := Lib.hid (ruleAt_miss (l := a) (s := s))
  have ASK := Lib.hid (fun (x : ByteArray) (b : Int) (w' : World) (h : Below w.heap.size w w') => ask_any x s b p w' ((h.cell (p := ⟨p, 0, none⟩) (World.block_lt_of_cell? _ _ hp)).trans hp))
  obtain ⟨v, ev⟩ : ∃ v, v = ruleAt a s := ⟨_, rfl⟩
  rw [← ev] at RH RM ⊢
  obtain ⟨m, em⟩ : ∃ m, m = a.length := ⟨_, rfl⟩
  rw [← em] at ha ⊢
  have EM := Lib.hid em
  clear hA hp ev em
  go_enter Tryz.func288, Tryz.ntmps288
  go_wp2_with fail
  go_loopw [8, 5] (fun i _ wr => ∃ k : Nat, k ≤ m ∧ i = .int .i64 k ∧ (∀ j, j < k → (a.getD j Rl.zero).name ≠ s) ∧ Below w.heap.size w wr) (fun i _ _ => m - (RowKit.intOf i).toNat)
  case atStart => exact ⟨0, by omega, rfl, fun j h => by omega, Below.refl _ _⟩
  case round =>
    obtain ⟨k, hk, rfl, ht, hbl⟩ := hrel
    have HT := Lib.hid ht
    have BL := Lib.hid hbl
    clear ht hbl
    by_cases hlt : k < m
    · have hlt2 : (k : Int) < m := by omega
      obtain ⟨b1, o1, rfl, _, c1, c2⟩ := (HA.out.below BL.out).two (show k < a.length by have := EM.out; omega)
      generalize hx : a.getD k Rl.zero = x at c1 c2
      have HX := Lib.hid hx
      clear hx
      by_cases e : x.name = s
      · have A1 := Lib.hid (ASK.out x.name x.body)
        have hd : decide (x.name = s) = true := by simpa using e
        rw [hd] at A1
        have E := Lib.hid e
        clear hd e
        go_wp2_with (go_at_call 289; refine (A1.out _ BL.out).mono ?_; rintro e w1 ⟨rfl, hb⟩; have H1 := Lib.hid (bb BL.out hb); clear hb)
        go_ret
        exact ⟨ret_int (RH.out k HT.out (by have := EM.out; omega) (by rw [HX.out]; exact E.out)).symm, H1.out⟩
      · have A1 := Lib.hid (ASK.out x.name x.body)
        have hd : decide (x.name = s) = false := by simpa using e
        rw [hd] at A1
        have E := Lib.hid e
        clear hd e
        go_wp2_with (go_at_call 289; refine (A1.out _ BL.out).mono ?_; rintro e w1 ⟨rfl, hb⟩; have H1 := Lib.hid (bb BL.out hb); clear hb)
        go_roundw
        case rel => exact ⟨k + 1, by omega, by go_num, fun j hj => by
            by_cases e : j = k
            · subst e; rw [HX.out]; exact E.out
            · exact HT.out j (by omega), H1.out⟩
        case measure => simp [RowKit.intOf]; omega
    · obtain rfl : k = m := by omega
      have hlt2 : ¬ (k : Int) < k := by omega
      go_wp2_with fail
      go_ret
      exact ⟨ret_int (RM.out (fun j hj => HT.out j (by have := EM.out; omega))).symm, BL.out⟩
theorem rule_any (g : Gr) (s : ByteArray) (w : World) (hg : Gr.At w g) : Calls Tryz.prog 260 #[g.val, .string s] w fun e w' => e = .returned (.int .i64 (ruleAt g.rules s)) ∧ Below w.heap.size w w' := by
  have R := Lib.hid (fun (w' : World) (b : Below w.heap.size w w') (p : Nat) (hp : w'.cell? ⟨p, 0, none⟩ = some (.string s)) => index_any g.RA g.rc g.rules s p hg.rl w' (hg.below b).rules hp)
  clear hg
  go_enter Tryz.func260, Tryz.ntmps260
  go_wp2_with (go_at_call 288; refine (R.out _ (B2 _ _ _) _ (by have := (Blk.new (w.alloc (.cells #[.slice g.RA g.rules.length g.rc, .slice g.NA g.nodes.length g.nc] 25)) #[.string s] 9).cell 0; rw [World.size_alloc] at this; exact this)).mono ?_; rintro e w1 ⟨rfl, hb⟩; have H1 := Lib.hid (bb (B2 _ _ _) hb); clear hb)
  go_ret
  exact ⟨rfl, H1.out⟩
set_option maxRecDepth 100000 in
set_option maxHeartbeats 2000000 in
theorem refRule_any (g : Gr) (s : ByteArray) (w : World) (hg : Gr.At w g) : Calls Tryz.prog 156 #[g.val, .string s] w fun e w' => e = .returned (.int .i64 (ruleAt g.rules s)) ∧ Below w.heap.size w w' := by
  have ha := hg.rl
  have HA := Lib.hid hg.rules
  have RH := Lib.hid (ruleAt_hit (l := g.rules) (s := s))
  have RM := Lib.hid (ruleAt_miss (l := g.rules) (s := s))
  obtain ⟨v, ev⟩ : ∃ v, v = ruleAt g.rules s := ⟨_, rfl⟩
  rw [← ev] at RH RM ⊢
  clear hg ev
  obtain ⟨RA, rc, rules, NA, nc, nodes⟩ := g
  dsimp only at ha HA RH RM
  obtain ⟨m, em⟩ : ∃ m, m = rules.length := ⟨_, rfl⟩
  show Calls Tryz.prog 156 #[.agg #[.slice RA rules.length rc, .slice NA nodes.length nc], .string s] w _
  rw [← em] at ha ⊢
  have EM := Lib.hid em
  clear em
  go_enter Tryz.func156, Tryz.ntmps156
  go_wp2_with fail
  obtain ⟨wb, ewb⟩ : ∃ u, u = w.alloc (.cells #[.slice RA m rc, .slice NA nodes.length nc] 25) := ⟨_, rfl⟩
  have hb2 : Below w.heap.size w wb := by rw [ewb]; exact B1 _ _
  have k1 : wb.cell? ⟨w.heap.size, 0, none⟩ = some (.slice RA m rc) := by rw [ewb]; exact (Blk.new w _ _).cell 0
  rw [← ewb]
  have HA2 := Lib.hid (HA.out.below hb2)
  have BB := Lib.hid hb2
  clear ewb HA hb2
  go_loopw [5] (fun i wr => ∃ k : Nat, k ≤ m ∧ i = .int .i64 k ∧ (∀ j, j < k → (rules.getD j Rl.zero).name ≠ s) ∧ wr = wb) (fun i _ => m - (RowKit.intOf i).toNat)
  case atStart => exact ⟨0, by omega, rfl, fun j h => by omega, rfl⟩
  case round =>
    obtain ⟨k, hk, rfl, ht, rfl⟩ := hrel
    have HT := Lib.hid ht
    clear ht
    by_cases hlt : k < m
    · have hlt2 : (k : Int) < m := by omega
      obtain ⟨b1, o1, rfl, _, c1, c2⟩ := HA2.out.two (show k < rules.length by have := EM.out; omega)
      generalize hx : rules.getD k Rl.zero = x at c1 c2
      have HX := Lib.hid hx
      clear hx
      by_cases e : x.name.toList = s.toList
      · have E := Lib.hid (tl_inj.1 e)
        go_wp2_with fail
        go_ret
        exact ⟨ret_int (RH.out k HT.out (by have := EM.out; omega) (by rw [HX.out]; exact E.out)).symm, BB.out⟩
      · have E := Lib.hid (fun h => e (tl_inj.2 h))
        have hb : (x.name.toList == s.toList) = false := by simpa using e
        clear e
        go_wp2_with fail
        go_roundw
        case rel => exact ⟨k + 1, by omega, by go_num, fun j hj => by
            by_cases ej : j = k
            · subst ej; rw [HX.out]; exact E.out
            · exact HT.out j (by omega), by first | trivial | rfl⟩
        case measure => simp [RowKit.intOf]; omega
    · obtain rfl : k = m := by omega
      have hlt2 : ¬ (k : Int) < k := by omega
      go_wp2_with fail
      go_ret
      exact ⟨ret_int (RM.out (fun j hj => HT.out j (by have := EM.out; omega))).symm, BB.out⟩
end Go.Proofs.YtlbjmkljmhfjdaaGreat
namespace Go.Proofs.YtlbjmkljmhfjdaaGreat
open Go Go.RowKit
theorem text_empty {t : ByteArray} : t = { data := #[] } ↔ t.toList = [] := by
  rw [← tl_inj, show ({ data := #[] } : ByteArray).toList = [] from by rw [ByteArray.toList_eq]]
theorem text_size {t : ByteArray} : t.toList = [] ↔ t.size = 0 := by
  rw [ByteArray.toList_eq]
  constructor
  · intro h; have := congrArg List.length h; simpa using this
  · intro h; apply List.eq_nil_of_length_eq_zero; simpa using h
/-- A node is right, part by part. -/
def NodeIs (x : Nd) (r : Int) : Prop :=
  ((x.kind = 1 ∨ x.kind = 2) ∧ (((x.c0 = 0 ∧ x.c1 = 0) ∧ x.c2 = 0) ∧ x.c3 = 0) ∧ x.text.toList = [] ∧ (x.rule = 0 ∧ x.level = 0) ∧ x.kids.length = 0) ∨
  (x.kind = 3 ∧ ¬ (((x.c0 = 0 ∧ x.c1 = 0) ∧ x.c2 = 0) ∧ x.c3 = 0) ∧ x.text.toList = [] ∧ (x.rule = 0 ∧ x.level = 0) ∧ x.kids.length = 0) ∨
  (x.kind = 4 ∧ (((x.c0 = 0 ∧ x.c1 = 0) ∧ x.c2 = 0) ∧ x.c3 = 0) ∧ (¬ x.text.toList = [] ∧ (x.text.size : Int) ≤ 64) ∧ (x.rule = 0 ∧ x.level = 0) ∧ x.kids.length = 0) ∨
  (x.kind = 5 ∧ (((x.c0 = 0 ∧ x.c1 = 0) ∧ x.c2 = 0) ∧ x.c3 = 0) ∧ x.text.toList = [] ∧ (0 ≤ x.rule ∧ x.rule < r ∧ 0 ≤ x.level ∧ x.level ≤ 99) ∧ x.kids.length = 0) ∨
  ((x.kind = 6 ∨ x.kind = 7) ∧ (((x.c0 = 0 ∧ x.c1 = 0) ∧ x.c2 = 0) ∧ x.c3 = 0) ∧ x.text.toList = [] ∧ (x.rule = 0 ∧ x.level = 0) ∧ 2 ≤ x.kids.length ∧ x.kids.length ≤ 64) ∨
  ((x.kind = 8 ∨ x.kind = 9 ∨ x.kind = 10 ∨ x.kind = 11 ∨ x.kind = 12) ∧ (((x.c0 = 0 ∧ x.c1 = 0) ∧ x.c2 = 0) ∧ x.c3 = 0) ∧ x.text.toList = [] ∧ (x.rule = 0 ∧ x.level = 0) ∧ x.kids.length = 1)
theorem find_none {c : Int} (h : ¬ (1 ≤ c ∧ c ≤ 12)) : find c tks = none := by
  unfold tks
  simp only [find]
  repeat rw [if_neg (by omega)]
set_option maxHeartbeats 2000000 in
theorem nodeOk_iff (x : Nd) (r : Int) : nodeOk x r = true ↔ NodeIs x r := by
  by_cases hk : 1 ≤ x.kind ∧ x.kind ≤ 12
  · have ht := text_empty (t := x.text)
    have hs := text_size (t := x.text)
    have hz : x.kids = [] ↔ x.kids.length = 0 := List.length_eq_zero_iff.symm
    have e1 : x.kind = 1 ∨ x.kind = 2 ∨ x.kind = 3 ∨ x.kind = 4 ∨ x.kind = 5 ∨ x.kind = 6 ∨ x.kind = 7 ∨ x.kind = 8 ∨ x.kind = 9 ∨ x.kind = 10 ∨ x.kind = 11 ∨ x.kind = 12 := by omega
    rcases e1 with h | h | h | h | h | h | h | h | h | h | h | h
    all_goals
      unfold nodeOk NodeIs
      rw [h]
      simp only [tks, find, Int.reduceEq, if_true, if_false, reduceIte, Int.reduceToNat, tk, sameNd, bare, noCls, callOk, kidsOk, Nd.less, ht, hz, h, Bool.and_eq_true, decide_eq_true_eq, true_and, Bool.not_eq_true', and_true, false_and, or_false, false_or, beq_iff_eq, List.length_nil, true_or, or_true, Bool.and_eq_false_imp]
    all_goals grind
  · unfold nodeOk NodeIs
    rw [find_none hk]
    constructor
    · intro h; cases h
    · intro h; omega
end Go.Proofs.YtlbjmkljmhfjdaaGreat
namespace Go.Proofs.YtlbjmkljmhfjdaaGreat
open Go Go.RowKit
/-- A name: a letter, then letters and digits, from 1 to 32 bytes. -/
def byteOk (i : Nat) (b : Int) : Bool := letter b || (decide (i ≠ 0) && digit b)
def nameOk (s : List UInt8) : Bool := decide (1 ≤ s.length ∧ s.length ≤ 32 ∧ ∀ i, i < s.length → byteOk i (s.getD i 0).toNat = true)
theorem conv_bytes (w : World) (s : ByteArray) : ∃ b c w', (convert 9 151 (.string s)).run Tryz.prog w = .ok (.slice (some ⟨b, 0, none⟩) s.size c) w' ∧ Below w.heap.size w w' ∧ b < w'.heap.size ∧ ∀ i, i < s.size → w'.cell? ⟨b, i, none⟩ = some (.int .u8 (s.data.toList.getD i 0).toNat) := by
  have h := run_bytes_of_string (P := Tryz.prog) w 9 151 5 s Tryz.underlying9 Tryz.underlying151 Tryz.underlying5
  refine ⟨_, _, _, h, ?_, ?_, fun i hi => ?_⟩
  · exact (bdrew1 (Below.refl _ _)).alloc (Nat.le_refl _) _
  · simp
  · rw [show w.heap.size = w.drew.heap.size from rfl, cell_of_row _ _ i _ _ _ (heap_alloc_new w.drew _), bytesRow_at _ _ i (by simpa using hi)]
    simp [List.getD, List.getElem?_eq_getElem (show i < s.data.toList.length from by simpa using hi)]
theorem nameOk_true {s : List UInt8} (h1 : 1 ≤ s.length) (h2 : s.length ≤ 32) (h : ∀ i, i < s.length → byteOk i (s.getD i 0).toNat = true) : nameOk s = true := by
  unfold nameOk; exact decide_eq_true ⟨h1, h2, h⟩
theorem nameOk_len {s : List UInt8} (h : ¬ (1 ≤ s.length ∧ s.length ≤ 32)) : nameOk s = false := by
  unfold nameOk; exact decide_eq_false fun ⟨a, b, _⟩ => h ⟨a, b⟩
theorem nameOk_byte {s : List UInt8} (i : Nat) (hi : i < s.length) (h : byteOk i (s.getD i 0).toNat = false) : nameOk s = false := by
  unfold nameOk; exact decide_eq_false fun ⟨_, _, c⟩ => by rw [c i hi] at h; cases h
theorem wpList_conv (w : World) {ops : Array Oper} {rest : List Oper} {o : Oper} {a : Act} {Q : Exit → Act → World → Prop}
    (hg : o.guard = none) (x : Operand) (hop : o.op = .convert 9 151 x) (s : ByteArray) (hx : a.eval x = .string s)
    (hK : ∀ b c w', Below w.heap.size w w' → (∀ i, i < s.size → w'.cell? ⟨b, i, none⟩ = some (.int .u8 (s.data.toList.getD i 0).toNat)) → wpList Tryz.prog ops Q rest (a.put o.dst (.slice (some ⟨b, 0, none⟩) s.size c)) w') :
    wpList Tryz.prog ops Q (o :: rest) a w := by
  obtain ⟨b, c, w', h1, h2, _, h3⟩ := conv_bytes w s
  refine wpList_plain hg fun K hK' => ?_
  unfold Oper.wp execOp
  simp only [hop, hx, Sem.run_bind, h1, Result.andThen_ok, Sem.run_pure]
  exact hK' _ _ (hK b c w' h2 h3)
set_option maxRecDepth 100000 in
set_option maxHeartbeats 2000000 in
theorem name_any (s : ByteArray) (hs : s.size ≤ 9223372036854775807) (w : World) : Calls Tryz.prog 259 #[.string s] w fun e w' => e = .returned (.bool (nameOk s.data.toList)) ∧ Below w.heap.size w w' := by
  have hl : s.data.toList.length = s.size := by simp
  by_cases hn : 1 ≤ s.size ∧ s.size ≤ 32
  · have NT := Lib.hid (nameOk_true (s := s.data.toList) (by omega) (by omega))
    have NB := Lib.hid (nameOk_byte (s := s.data.toList))
    have HL := Lib.hid hl
    have hn1 : (1 : Int) ≤ s.size := by omega
    have hn2 : (s.size : Int) ≤ 32 := by omega
    have hd : decide ((1 : Int) ≤ s.size ∧ (s.size : Int) ≤ 32) = true := by simp; omega
    have W33 := Lib.hid (fun w => by have := within_any 1 s.size 32 w; rw [hd] at this; exact this)
    clear hn hl hd
    go_enter Tryz.func259, Tryz.ntmps259
    go_wp2_with (first | (go_at_call 233; refine (W33.out _).mono ?_; rintro e w1 ⟨rfl, rfl⟩) | (refine wpList_conv _ rfl (.tmp 9) rfl s rfl ?_; intro b c w1 hb1 hc1; have HB := Lib.hid hb1; have HC := Lib.hid hc1; clear hb1 hc1))
    go_loopw [12, 3, 4] (fun i _ _ wr => ∃ k : Nat, k ≤ s.size ∧ i = .int .i64 k ∧ (∀ j, j < k → byteOk j (s.data.toList.getD j 0).toNat = true) ∧ wr = w1) (fun i _ _ _ => s.size - (RowKit.intOf i).toNat)
    case atStart => exact ⟨0, by omega, rfl, fun j h => by omega, rfl⟩
    case round =>
      obtain ⟨k, hk, rfl, ht, rfl⟩ := hrel
      have HT := Lib.hid ht
      clear ht
      by_cases hlt : k < s.size
      · have hlt2 : (k : Int) < s.size := by omega
        have hc := HC.out k hlt
        obtain ⟨v, ev⟩ : ∃ v, v = s.data.toList.getD k 0 := ⟨_, rfl⟩
        rw [← ev] at hc
        have EV := Lib.hid ev
        have LA := Lib.hid (fun w => letter_any v.toNat w)
        have DA := Lib.hid (fun w => digit_any v.toNat w)
        have HV := Lib.hid (show byteOk k v.toNat = (letter v.toNat || (decide (k ≠ 0) && digit v.toNat)) from rfl)
        clear ev
        obtain ⟨lb, el⟩ : ∃ lb, lb = letter v.toNat := ⟨_, rfl⟩
        obtain ⟨db, ed⟩ : ∃ db, db = digit v.toNat := ⟨_, rfl⟩
        rw [← el] at LA HV
        rw [← ed] at DA HV
        clear el ed
        cases hbo : byteOk k v.toNat with
        | true =>
          have HBO := Lib.hid hbo
          rw [hbo] at HV
          clear hbo
          cases lb with
          | true =>
            go_wp2_with (go_at_call 286; refine (LA.out _).mono ?_; rintro e w2 ⟨rfl, rfl⟩)
            go_roundw
            case rel => exact ⟨k + 1, by omega, by go_num, fun j hj => by
                by_cases e : j = k
                · subst e; rw [← EV.out]; exact HBO.out
                · exact HT.out j (by omega), by first | trivial | rfl⟩
            case measure => simp [RowKit.intOf]; omega
          | false =>
            cases db with
            | false => have := HV.out; simp at this
            | true =>
              have k0 : ((k : Int) == 0) = false := by have := HV.out; simp at this ⊢; omega
              go_wp2_with (first | (go_at_call 286; refine (LA.out _).mono ?_; rintro e w2 ⟨rfl, rfl⟩) | (go_at_call 287; refine (DA.out _).mono ?_; rintro e w2 ⟨rfl, rfl⟩))
              go_roundw
              case rel => exact ⟨k + 1, by omega, by go_num, fun j hj => by
                  by_cases e : j = k
                  · subst e; rw [← EV.out]; exact HBO.out
                  · exact HT.out j (by omega), by first | trivial | rfl⟩
              case measure => simp [RowKit.intOf]; omega
        | false =>
          have HBO := Lib.hid hbo
          rw [hbo] at HV
          clear hbo
          cases lb with
          | true => have := HV.out; simp at this
          | false =>
            by_cases k0 : k = 0
            · have k1 : ((k : Int) == 0) = true := by simp [k0]
              clear k0
              go_wp2_with (first | (go_at_call 286; refine (LA.out _).mono ?_; rintro e w2 ⟨rfl, rfl⟩) | (go_at_call 287; refine (DA.out _).mono ?_; rintro e w2 ⟨rfl, rfl⟩))
              go_ret
              exact ⟨ret_bool (NB.out k (by rw [HL.out]; exact hlt) (by rw [← EV.out]; exact HBO.out)).symm, HB.out⟩
            · cases db with
              | true => have := HV.out; simp at this; exact absurd this k0
              | false =>
                have k1 : ((k : Int) == 0) = false := by simp; omega
                clear k0
                go_wp2_with (first | (go_at_call 286; refine (LA.out _).mono ?_; rintro e w2 ⟨rfl, rfl⟩) | (go_at_call 287; refine (DA.out _).mono ?_; rintro e w2 ⟨rfl, rfl⟩))
                go_ret
                exact ⟨ret_bool (NB.out k (by rw [HL.out]; exact hlt) (by rw [← EV.out]; exact HBO.out)).symm, HB.out⟩
      · obtain rfl : k = s.size := by omega
        have hlt2 : ¬ (s.size : Int) < s.size := by omega
        go_wp2_with fail
        go_ret
        exact ⟨ret_bool (NT.out (fun i hi => HT.out i (by rw [HL.out] at hi; exact hi))).symm, HB.out⟩
  · rw [nameOk_len (by omega)]
    have hd : decide ((1 : Int) ≤ s.size ∧ (s.size : Int) ≤ 32) = false := by simp; omega
    have W33 := Lib.hid (fun w => by have := within_any 1 s.size 32 w; rw [hd] at this; exact this)
    clear hn hd hl
    go_enter Tryz.func259, Tryz.ntmps259
    go_wp2_with (go_at_call 233; refine (W33.out _).mono ?_; rintro e w1 ⟨rfl, rfl⟩)
    go_ret
    exact ⟨rfl, Below.refl _ _⟩
end Go.Proofs.YtlbjmkljmhfjdaaGreat
namespace Go.Proofs.YtlbjmkljmhfjdaaGreat
theorem climb_high {len : Nat} {ms : Nat → Meas} (n0 : Nat) (hs : ∀ m : Nat, n0 ≤ m → m < len → 1 ≤ (ms m).1 ∧ (ms m).2 ≤ (ms m).1) : ∀ (r : List Int) (next high to hh s : Int), (n0 : Int) ≤ next → climb len ms r next high = some (to, hh) → high ≤ next - s → s ≤ next → hh ≤ to - s
  | [], next, high, to, hh, s, _, h, h2, _ => by simp [climb] at h; omega
  | k :: r, next, high, to, hh, s, hn, h, h2, h3 => by
    unfold climb at h
    split at h
    · rename_i hk
      obtain ⟨rfl, hk2⟩ := hk
      obtain ⟨a1, a2⟩ := hs k.toNat (by omega) (by omega)
      exact climb_high n0 hs r _ _ to hh s (by omega) h (by omega) (by omega)
    · cases h
theorem measured_high {l : List Nd} {ms : Nat → Meas} {n : Nat} (h : Measured l ms n) : ∀ d m : Nat, l.length - m ≤ d → n ≤ m → m < l.length → (ms m).2 ≤ (ms m).1
  | 0, m, hd, _, hl => by omega
  | d + 1, m, hd, hn, hl => by
    obtain ⟨a1, a2, a3, a4⟩ := h m hn hl
    have := climb_high (m + 1) (fun k hk hkl => ⟨(h k (by omega) hkl).1, measured_high h d k (by omega) (by omega) hkl⟩) _ _ _ _ _ (m + 1) (by omega) a4 (by omega) (by omega)
    omega
theorem measured_le {l : List Nd} {ms : Nat → Meas} {n : Nat} (h : Measured l ms n) (m : Nat) (hn : n ≤ m) (hl : m < l.length) : (ms m).2 ≤ (ms m).1 := measured_high h _ m (Nat.le_refl _) hn hl
/-- Nodes stand in preorder. -/
def Pre (l : List Nd) : Prop := ∃ ms, Measured l ms 0
noncomputable def preB (l : List Nd) : Bool := by classical exact decide (Pre l)
theorem preB_true {l : List Nd} : preB l = true ↔ Pre l := by unfold preB; simp
theorem preB_false {l : List Nd} : preB l = false ↔ ¬ Pre l := by unfold preB; simp
/-- Bodies one behind the other, none too high; where the last one ends. -/
def bodies (len : Nat) (ms : Nat → Meas) : List Rl → Int → Option Int
  | [], next => some next
  | r :: l, next => if r.body = next ∧ next < len ∧ (ms next.toNat).2 ≤ 16 then bodies len ms l (next + (ms next.toNat).1) else none
/-- Each rule has a name, of its own. -/
def Named (l : List Rl) : Prop := ∀ i, i < l.length → nameOk (l.getD i Rl.zero).name.data.toList = true ∧ ruleAt l (l.getD i Rl.zero).name = i
def AllRight (l : List Nd) (r : Int) : Prop := ∀ i, i < l.length → nodeOk (l.getD i Nd.zero) r = true
structure Right (g : Gr) : Prop where
  rules : 1 ≤ g.rules.length ∧ g.rules.length ≤ 32
  nodes : g.nodes.length ≤ 2048
  named : Named g.rules
  all : AllRight g.nodes g.rules.length
  pre : ∃ ms, Measured g.nodes ms 0 ∧ bodies g.nodes.length ms g.rules 0 = some g.nodes.length
noncomputable def rightB (g : Gr) : Bool := by classical exact decide (Right g)
theorem rightB_true {g : Gr} : rightB g = true ↔ Right g := by unfold rightB; simp
theorem rightB_false {g : Gr} : rightB g = false ↔ ¬ Right g := by unfold rightB; simp
theorem bodies_congr {len : Nat} {ms ms' : Nat → Meas} (h1 : ∀ m, m < len → 1 ≤ (ms m).1) (h : ∀ m, m < len → ms m = ms' m) : ∀ (l : List Rl) (next : Int), 0 ≤ next → bodies len ms l next = bodies len ms' l next
  | [], _, _ => rfl
  | r :: l, next, hn => by
    unfold bodies
    by_cases hl : next < len
    · rw [h next.toNat (by omega)]
      have := h1 next.toNat (by omega)
      rw [h next.toNat (by omega)] at this
      split
      · exact bodies_congr h1 h l _ (by omega)
      · rfl
    · rw [if_neg (fun h => hl h.2.1), if_neg (fun h => hl h.2.1)]
theorem measured_eq {l : List Nd} {ms ms' : Nat → Meas} (h : Measured l ms 0) (h' : Measured l ms' 0) : ∀ m, m < l.length → ms m = ms' m := fun m hm => measured_unique h h' _ m (Nat.le_refl _) (by omega) (by omega) hm
end Go.Proofs.YtlbjmkljmhfjdaaGreat

/- The kit's bodies by hand: a node over others. -/
import Derived.Test.YtlbjmkljmhfjdaaGreatB7
import Derived.Test.YtlbjmkljmhfjdaaGreatA7
set_option linter.unusedSimpArgs false
set_option linter.unusedVariables false
namespace Go.Proofs.YtlbjmkljmhfjdaaGreat
open Go Go.RowKit
abbrev Nd.sl (x : Nd) : Value := .slice x.A x.kids.length x.cap
/-- A node wherever its kids lie. -/
def Nd.kz (x : Nd) : Nd := { x with A := none, cap := 0 }
def mvk (n : Int) (x : Nd) : Nd := { x with kids := x.kids.map (· + n) }
theorem Moved.kz {n : Int} {l l' : List Nd} (h : Moved n l l') : l'.map Nd.kz = (l.map Nd.kz).map (mvk n) := by
  apply List.ext_getElem
  · simp [h.1]
  · intro i h1 h2
    have hi : i < l.length := by simpa using h2
    have hi' : i < l'.length := by simpa using h1
    obtain ⟨A, c, e⟩ := h.2 i hi
    have e1 : l'.getD i Nd.zero = l'[i] := by simp [List.getD, hi']
    have e2 : l.getD i Nd.zero = l[i] := by simp [List.getD, hi]
    rw [e1, e2] at e
    simp [e, Nd.kz, mvk, Nd.mv]
structure Owd (w W : World) (v : Value) (L : List Nd) (K : Int) : Prop where
  row : W.ownsRow w.heap.size 40 9 v L.length (ncells L)
  kids : ∀ x ∈ L, W.ownsRow w.heap.size 3 1 x.sl x.kids.length (ints x.kids) ∧ (x.A = none → x.cap = 0)
  bnd : ∀ x ∈ L, x.kids.length ≤ 1000 ∧ (∀ k ∈ x.kids, 0 ≤ k ∧ k < K) ∧ x.text.size ≤ 9223372036854775807
  low : Below w.heap.size w W
theorem Owd.below {w W W' : World} {v : Value} {L : List Nd} {K : Int} (h : Owd w W v L K) (hb : Below W.heap.size W W') : Owd w W' v L K :=
  ⟨own_below h.row hb, fun x hx => ⟨own_below (h.kids x hx).1 hb, (h.kids x hx).2⟩, h.bnd, h.low.trans (hb.mono h.low.size)⟩
theorem Owd.bod {w W : World} {A : Option Addr} {c : Nat} {L : List Nd} {K : Int} (h : Owd w W (.slice A L.length c) L K) (hl : L.length ≤ 100000) : Bod W A L K :=
  ⟨own_nodes h.row, fun x hx => ⟨⟨own_lies1 (h.kids x hx).1, (h.kids x hx).2, by have := (h.bnd x hx).1; omega⟩, (h.bnd x hx).1, (h.bnd x hx).2.1⟩, fun x hx => (h.bnd x hx).2.2, hl⟩
/-- The first one's kids lie apart from the others'. -/
def Ap (x : Nd) (t : List Nd) : Prop := ∀ y ∈ t, ∀ a b, y.A = some a → x.A = some b → a.block ≠ b.block
theorem own_apart {w : World} {B B' z z' n n' : Nat} {v v' : Value} {xs xs' : List Value} (h : w.ownsRow B 40 z v n xs) (h' : w.ownsRow B' 3 z' v' n' xs') : v'.ownBlock = none ∨ v'.ownBlock ≠ v.ownBlock := by
  cases e : v'.ownBlock with
  | none => exact .inl rfl
  | some b =>
    refine .inr fun e' => ?_
    have := own_same h h' e'.symm e
    revert this
    decide
theorem own_apart' {w : World} {B B' z z' n n' : Nat} {v v' : Value} {xs xs' : List Value} (h : w.ownsRow B 40 z v n xs) (h' : w.ownsRow B' 3 z' v' n' xs') : v.ownBlock = none ∨ v.ownBlock ≠ v'.ownBlock := by
  cases e : v.ownBlock with
  | none => exact .inl rfl
  | some b =>
    refine .inr fun e' => ?_
    have := own_same h h' e e'.symm
    revert this
    decide
/-- The first one has a kid more. -/
theorem Owd.kid {w W Wa W1 : World} {x0 : Nd} {t : List Nd} {K K' n : Int} {g0 m cap0 c1 : Nat} {A1 : Option Addr} (h : Owd w W (.slice (some ⟨g0, 0, none⟩) m cap0) (x0 :: t) K) (ap : Ap x0 t) (hm : (x0 :: t).length = m) (hb : Below W.heap.size W Wa)
    (hg : Wa.grownBy W1 x0.sl.ownBlock) (ho : W1.ownsRow w.heap.size 3 1 (.slice A1 (x0.kids.length + 1) c1) (x0.kids.length + 1) (ints x0.kids ++ [.int .i64 n])) (hf : ∀ k, (Value.slice A1 (x0.kids.length + 1) c1).ownBlock = some k → x0.sl.ownBlock = some k ∨ Wa.heap.size ≤ k)
    (hn : 0 ≤ n ∧ n < K') (hK : K ≤ K') (hl : x0.kids.length + 1 ≤ 1000) :
    Owd w (W1.setCell ⟨g0, 8, none⟩ (.slice A1 (x0.kids.length + 1) c1)) (.slice (some ⟨g0, 0, none⟩) m cap0) ({ x0 with kids := x0.kids ++ [n], A := A1, cap := c1 } :: t) K' ∧ Ap { x0 with kids := x0.kids ++ [n], A := A1, cap := c1 } t ∧ W1.cell? ⟨g0, 8, none⟩ = some x0.sl ∧ W1.frozen? ⟨g0, 8, none⟩ = false := by
  have hx0 := (h.kids x0 (List.mem_cons_self ..)).1
  have rowa := own_below h.row hb
  rw [hm] at rowa
  have hx0a := own_below hx0 hb
  have row1 := rowa.kept hg (own_apart' rowa hx0a)
  obtain ⟨s1, s2⟩ := row1.stored 8 (.slice A1 (x0.kids.length + 1) c1)
  have hgb := (row1.lt g0 rfl).1
  have ec : ncells ({ x0 with kids := x0.kids ++ [n], A := A1, cap := c1 } :: t) = (ncells (x0 :: t)).set 8 (.slice A1 (x0.kids.length + 1) c1) := by
    simp [ncells, Nd.cells]
  have hx0lt : ∀ k, x0.sl.ownBlock = some k → w.heap.size ≤ k := fun k e => (hx0.lt k e).1
  have hlow1 : Below w.heap.size w W1 := grown_below (h.low.trans (hb.mono h.low.size)) (Nat.le_trans h.low.size hb.size) hg hx0lt
  have hts : ∀ y ∈ t, (W1.setCell ⟨g0, 8, none⟩ (.slice A1 (x0.kids.length + 1) c1)).ownsRow w.heap.size 3 1 y.sl y.kids.length (ints y.kids) := fun y hy => by
    have k1 := own_below (h.kids y (List.mem_cons_of_mem _ hy)).1 hb
    have k2 := k1.kept hg (by
      cases hA : y.A with
      | none => exact .inl (by unfold Nd.sl; rw [hA]; rfl)
      | some a =>
        refine .inr fun e => ?_
        unfold Nd.sl at e
        cases hB : x0.A with
        | none => rw [hA, hB] at e; cases e
        | some b =>
          rw [hA, hB] at e
          simp only [Value.ownBlock, Option.some.injEq] at e
          exact ap y hy a b hA hB e)
    exact k2.kept s2 (own_apart row1 k2)
  refine ⟨⟨?_, fun y hy => ?_, fun y hy => ?_, hlow1.setCell hgb _⟩, fun y hy a b ha hb' => ?_, ?_, row1.frozenAt 8⟩
  · rw [ec, show ({ x0 with kids := x0.kids ++ [n], A := A1, cap := c1 } :: t : List Nd).length = m from hm]; exact s1
  · rcases List.mem_cons.1 hy with rfl | hy
    · refine ⟨?_, fun hA => ?_⟩
      · have := ho.kept s2 (own_apart row1 ho)
        simpa [Nd.sl, ints] using this
      · obtain ⟨A', c', e, hnn, _⟩ := own_slice ho
        simp only [Value.slice.injEq] at e
        have hA' : A1 = none := hA
        have := (hnn (by rw [← e.1]; exact hA')).1
        omega
    · exact ⟨hts y hy, (h.kids y (List.mem_cons_of_mem _ hy)).2⟩
  · rcases List.mem_cons.1 hy with rfl | hy
    · obtain ⟨b1, b2, b3⟩ := h.bnd x0 (List.mem_cons_self ..)
      refine ⟨by simp; omega, fun k hk => ?_, b3⟩
      rcases List.mem_append.1 hk with hk | hk
      · have := b2 k hk; omega
      · simp at hk; omega
    · obtain ⟨b1, b2, b3⟩ := h.bnd y (List.mem_cons_of_mem _ hy)
      exact ⟨b1, fun k hk => by have := b2 k hk; omega, b3⟩
  · have ky := ((h.kids y (List.mem_cons_of_mem _ hy)).1.lt a.block (by rw [Nd.sl, ha]; rfl)).2
    have hb2 : A1 = some b := hb'
    rcases hf b.block (by rw [hb2]; rfl) with e | e
    · cases hB : x0.A with
      | none => rw [Nd.sl, hB] at e; cases e
      | some b0 =>
        rw [Nd.sl, hB] at e
        simp only [Value.ownBlock, Option.some.injEq] at e
        rw [← e]
        exact ap y hy a b0 ha hB
    · have := hb.size; omega
  · rw [row1.cellAt 8 (by simp at hm; omega)]
    simp [ncells, Nd.cells]
/-- More nodes behind. -/
theorem Owd.app {w W W3 W4 : World} {v v4 : Value} {L l' : List Nd} {K K' : Int} (h : Owd w W v L K) (hb : Below W.heap.size W W3) (hk : ∀ x ∈ l', W3.ownsRow W.heap.size 3 1 (.slice x.A x.kids.length x.cap) x.kids.length (ints x.kids)) {A' : Option Addr} (hB : Bod W3 A' l' K') (hK : K ≤ K')
    (hg : W3.grownBy W4 v.ownBlock) (ho : W4.ownsRow w.heap.size 40 9 v4 (L.length + l'.length) (ncells L ++ ncells l')) : Owd w W4 v4 (L ++ l') K' := by
  have ea : ∀ a b : List Nd, ncells (a ++ b) = ncells a ++ ncells b := fun a b => by
    induction a with
    | nil => rfl
    | cons x a ih => simp only [List.cons_append, ncells, ih, List.append_assoc]
  have row3 := own_below h.row hb
  have hl3 : Below w.heap.size w W3 := h.low.trans (hb.mono h.low.size)
  refine ⟨by rw [List.length_append, ea]; exact ho, fun x hx => ?_, fun x hx => ?_, grown_below hl3 hl3.size hg (fun k e => (h.row.lt k e).1)⟩
  · rcases List.mem_append.1 hx with hx | hx
    · have k1 := own_below (h.kids x hx).1 hb
      exact ⟨k1.kept hg (own_apart row3 k1), (h.kids x hx).2⟩
    · have k1 := own_lower (hk x hx) h.low.size
      exact ⟨k1.kept hg (own_apart row3 k1), (hB.kids x hx).1.2.1⟩
  · rcases List.mem_append.1 hx with hx | hx
    · obtain ⟨b1, b2, b3⟩ := h.bnd x hx
      exact ⟨b1, fun k hk => by have := b2 k hk; omega, b3⟩
    · exact ⟨(hB.kids x hx).2.1, (hB.kids x hx).2.2, hB.texts x hx⟩
theorem Ap.app {w W W3 : World} {v : Value} {x0 : Nd} {t l' : List Nd} {K : Int} (ap : Ap x0 t) (h : Owd w W v (x0 :: t) K) (hk : ∀ x ∈ l', W3.ownsRow W.heap.size 3 1 (.slice x.A x.kids.length x.cap) x.kids.length (ints x.kids)) : Ap x0 (t ++ l') := by
  intro y hy a b ha hb
  rcases List.mem_append.1 hy with hy | hy
  · exact ap y hy a b ha hb
  · have k1 := ((hk y hy).lt a.block (by rw [ha]; rfl)).1
    have k2 := ((h.kids x0 (List.mem_cons_self ..)).1.lt b.block (by rw [Nd.sl, hb]; rfl)).2
    omega
def leafN (k : Int) : Nd := { Nd.zero with kind := k }
def ofN : List Nd → List Nd → List Nd
  | [], _ => []
  | x :: t, b => { x with kids := x.kids ++ [((x :: t).length : Int)] } :: (t ++ b.map (mvk (x :: t).length))
def ofL (k : Int) (bl : List (List Nd)) : List Nd := bl.foldl ofN [leafN k]
abbrev Bdy := Option Addr × Nat × List Nd
theorem Bod.mono {w : World} {A : Option Addr} {l : List Nd} {K K' : Int} (h : Bod w A l K) (hK : K ≤ K') : Bod w A l K' :=
  ⟨h.nodes, fun x hx => ⟨(h.kids x hx).1, (h.kids x hx).2.1, fun k hk => by have := (h.kids x hx).2.2 k hk; omega⟩, h.texts, h.small⟩
/-- Bodies in memory. -/
structure Bds (w : World) (A : Option Addr) (bl : List Bdy) (K : Int) : Prop where
  lies : Lies w A (bl.map fun b => Value.slice b.1 b.2.2.length b.2.1)
  bod : ∀ b ∈ bl, Bod w b.1 b.2.2 K ∧ b.2.2.length ≤ 1000 ∧ (b.1 = none → b.2.1 = 0)
end Go.Proofs.YtlbjmkljmhfjdaaGreat
namespace Go.Proofs.YtlbjmkljmhfjdaaGreat
open Go Go.RowKit
variable {P : Program}
/-- The contract: N things in their turn; S is what the function stands on in each round, R what is known of what is handed out. -/
def SeqW {ε : Type} (n : Nat) (P : Program) (gf : Nat) (lb : Array Value) (encs : Nat → ε → Array Value) (R : Nat → ε → World → Prop) (S : Nat → World → Prop) (N : Nat) (w : World) : Prop :=
  ∀ (l : Nat) (J : Nat → World → Prop) (W : World), Below w.heap.size w W → Low W.heap.size J → (∀ k W1, J k W1 → S k W1) →
    (∀ k x W1, J k W1 → R k x W1 → W.heap.size ≤ W1.heap.size → k < N → YieldAt Fence.wide (n - 1) P l (encs k x) W1 fun e W' =>
      e = .returned (.bool true) ∧ J (k + 1) W' ∧ Left (fun _ => False) W.heap.size W1 W') →
    J 0 W → CallsIn Fence.wide n P gf (#[.func (.yield l) #[] #[]] ++ lb) W fun e W' => (∃ v, e = .returned v) ∧ J N W'
/-- How a body ends. -/
def endW (B : Nat) (I : Nat → World → Prop) (k : Nat) (W : World) : Exit → Act → World → Prop
  | .normal, _, W' => Left (fun _ => False) B W W' ∧ I k W'
  | _, _, _ => False
theorem wpIn_rangeFunc_w {ε : Type} {n : Nat} {g : Operand} {ps : Array Tmp} {assign body : Code} {Q : Exit → Act → World → Prop} {a : Act} {w : World} (h1 : 1 ≤ n) {gf : Nat} {lb : Array Value}
    (hg : a.eval g = .func (.func gf) #[] lb) (eg : ∀ args w, (callFunc gf args).run P w = .ok (.enter gf args) w) {encs : Nat → ε → Array Value} {R : Nat → ε → World → Prop} {S : Nat → World → Prop} {N : Nat} {w0 : World}
    (hseq : SeqW (n - 1) P gf lb encs R S N w0) (hb0 : Below w0.heap.size w0 w) (hps : ∀ k x, (encs k x).size = ps.size)
    (I : Nat → World → Prop) (hI : Low w.heap.size I) (hS : ∀ k W, I k W → S k W) (hRp : ∀ k x W b o, w.heap.size ≤ b → R k x W → (∃ lp, W.heap[b]? = some (.loop lp)) → R k x (W.putObj b o)) (h0 : I 0 w) (a₁ : Nat → ε → Act)
    (hassign : ∀ (l k : Nat) (x : ε) (W : World) (K : Act → World → Prop), K (a₁ k x) W →
      assign.wpIn (Fence.wide.inRound l) (n - 1 - 1) P (Exit.then K (fun _ _ _ => False)) { tmps := (ps.zip (encs k x)).foldl (fun t (p, v) => t.setIfInBounds p v) a.tmps, defers := [] } W)
    (hbody : ∀ (l k : Nat) (x : ε) (W : World), I k W → R k x W → w.heap.size + 2 ≤ W.heap.size → k < N → body.wpIn (Fence.wide.inRound l) (n - 1 - 1) P (endW w.heap.size I (k + 1) W) (a₁ k x) W)
    (hdone : ∀ (D : Nat) (W : World), w.heap.size ≤ D → I N W → W.heap[D]? = some (.deferred (some [])) → Q .normal { a with defers := { target := .collected D, args := #[] } :: a.defers } W) :
    (Code.rangeFunc g ps assign body).wpIn Fence.wide n P Q a w := by
  refine wpIn_rangeFunc ?_
  intro fn hfn
  show ∃ _, _
  let rec0 : LoopState → Option Code → Loop := fun st pe => { state := st, pending := pe, fn, tmps := a.tmps, params := ps, assign, body, defers := w.heap.size }
  obtain ⟨D, eD⟩ : ∃ D, D = w.heap.size := ⟨_, rfl⟩
  obtain ⟨W1, eW⟩ : ∃ W1, W1 = (w.alloc (.deferred (some []))).alloc (.loop (rec0 .ready none)) := ⟨_, rfl⟩
  have hB2 : Below w.heap.size w W1 := by rw [eW]; exact B2 _ _ _
  have hzz : W1.heap.size = D + 2 := by rw [eW, eD]; simp
  have hD : W1.heap[D]? = some (.deferred (some [])) := by
    rw [eW, eD]; exact (Below.heap_alloc _ _ _ (by simp)).trans (World.alloc_heap_new w _)
  have hL : W1.heap[D + 1]? = some (.loop (rec0 .ready none)) := by
    rw [eW, eD]; have := World.alloc_heap_new (w.alloc (.deferred (some []))) (.loop (rec0 .ready none)); rwa [World.size_alloc] at this
  have hI1 : I 0 W1 := hI 0 _ _ h0 hB2
  have keepI : ∀ (k : Nat) (W : World) (o : Obj), I k W → I k (W.putObj (D + 1) o) := fun k W o h => hI k _ _ h (below_putObj W (D + 1) _ o (by omega))
  refine ⟨D + 1, [{ target := .collected D, args := #[] }], W1, { target := .fn (.func gf) lb, args := #[.func (.yield (D + 1)) #[] #[]] }, W1, gf, #[.func (.yield (D + 1)) #[] #[]] ++ lb, W1, ?_, ?_, fun _ _ => trivial, ?_, fun _ => h1, ?_⟩
  · rw [eW, eD]; exact run_enterLoop_outer _ _ _ _ _
  · simp only [resolve, hg]
    simp [go_sem]
  · simp [invoke, go_sem, eg]
  refine (hseq (D + 1) (fun k W => I k W ∧ W.heap[D + 1]? = some (.loop (rec0 .ready none)) ∧ W.heap[D]? = some (.deferred (some []))) W1 (hb0.trans (hB2.mono hb0.size)) ?_ ?_ ?_ ⟨hI1, hL, hD⟩).mono ?_
  · rintro s A A' ⟨hi, hl, hd⟩ hb
    exact ⟨hI s A A' hi (hb.mono (by omega)), (hb.block _ (by omega)).trans hl, (hb.block _ (by omega)).trans hd⟩
  · rintro s A ⟨hi, _, _⟩
    exact hS s A hi
  · rintro k x W ⟨hi, hl, hd⟩ hR hsz hk
    have hlt : D + 1 < W.heap.size := (Array.getElem?_eq_some_iff.1 hl).1
    refine ⟨fn, _, assign, body, run_yield (P := P) (args := encs k x) hl (hps k x), roundIn_of_wpIn hfn (hassign _ k x W _ ⟨_, run_beginRound hl rfl, ?_⟩)⟩
    have hl2 : (W.putObj (D + 1) (.loop (rec0 .busy none))).heap[D + 1]? = some (.loop (rec0 .busy none)) := World.putObj_heap_same hlt
    have hd2 : (W.putObj (D + 1) (.loop (rec0 .busy none))).heap[D]? = some (.deferred (some [])) := (World.putObj_heap_other (by omega)).trans hd
    have hw3 : ∀ (X : World) (o : Obj), Left (fun _ => False) (D + 2) X (X.putObj (D + 1) o) := fun X o => ⟨by simp, fun j _ hg => World.putObj_heap_other (by rcases hg with h | h; exact h.elim; omega)⟩
    refine wpIn_mono (hbody _ k x _ (keepI k W _ hi) (hRp k x W _ _ (by omega) hR ⟨_, hl⟩) (by simp; omega) hk) ?_
    rintro e a3 W3 hp
    cases e with
    | normal =>
      obtain ⟨hk3, hi3⟩ := hp
      have hl3 := (hk3.block (D + 1) (by simpa using hlt) (.inr (by omega))).trans hl2
      have hd3 := (hk3.block D (by simp; omega) (.inr (by omega))).trans hd2
      refine ⟨_, _, run_endRound (P := P) none hl3, rfl, ⟨keepI _ _ _ hi3, World.putObj_heap_same (Array.getElem?_eq_some_iff.1 hl3).1, (World.putObj_heap_other (by omega)).trans hd3⟩, ?_⟩
      rw [hzz]
      exact ((hw3 _ _).trans (hk3.mono (fun j _ h => by rcases h with h | h; exact h.elim; exact .inr (by omega)))).trans (hw3 _ _)
    | ret => exact hp.elim
    | exit id => exact hp.elim
    | goto t => exact hp.elim
    | panic ch => exact hp.elim
    | outgrown => exact hp.elim
  · rintro e W2 ⟨⟨v, rfl⟩, hi, hl, hd⟩
    exact ⟨none, _, run_endLoop (P := P) hl (by simp [rec0]), hdone D _ (by omega) (keepI _ _ _ hi) ((World.putObj_heap_other (by omega)).trans hd)⟩
end Go.Proofs.YtlbjmkljmhfjdaaGreat

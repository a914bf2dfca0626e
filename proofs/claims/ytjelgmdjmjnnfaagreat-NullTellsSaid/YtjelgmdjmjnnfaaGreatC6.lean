/- The kit's bodies by hand: a node over others. -/
import Derived.Test.YtjelgmdjmjnnfaaGreatC5
import Derived.Deep.CutRange
import Derived.Test.YtjelgmdjmjnnfaaGreatC4
import Derived.Test.YtjelgmdjmjnnfaaGreatB5
import Derived.Shelf.Pu.Clone
set_option linter.unusedSimpArgs false
set_option linter.unusedVariables false
namespace Go.Proofs.YtjelgmdjmjnnfaaGreat
open Go Go.RowKit
abbrev Nd.sl (x : Nd) : Value := .slice x.A x.kids.length x.cap
/-- A node wherever its kids lie. -/
def Nd.kz (x : Nd) : Nd := { x with A := none, cap := 0 }
def mvk (n : Int) (x : Nd) : Nd := { x with kids := x.kids.map (· + n) }
theorem Moved.kz {n : Int} {l l' : List Nd} (h : Moved n l l') : l'.map Nd.kz = (l.map Nd.kz).map (mvk n) := by
  apply List.ext_getElem
  · simp [h.1]
  · intro i h1 h2
    have hi : i < l.length := by simpa using h2
    have hi' : i < l'.length := by simpa using h1
    obtain ⟨A, c, e⟩ := h.2 i hi
    have e1 : l'.getD i Nd.zero = l'[i] := by simp [List.getD, hi']
    have e2 : l.getD i Nd.zero = l[i] := by simp [List.getD, hi]
    rw [e1, e2] at e
    simp [e, Nd.kz, mvk, Nd.mv]
structure Owd (w W : World) (v : Value) (L : List Nd) (K : Int) : Prop where
  row : W.ownsRow w.heap.size 47 9 v L.length (ncells L)
  kids : ∀ x ∈ L, W.ownsRow w.heap.size 3 1 x.sl x.kids.length (ints x.kids) ∧ (x.A = none → x.cap = 0)
  bnd : ∀ x ∈ L, x.kids.length ≤ 1000 ∧ (∀ k ∈ x.kids, 0 ≤ k ∧ k < K) ∧ x.text.size ≤ 9223372036854775807
  low : Below w.heap.size w W
theorem Owd.below {w W W' : World} {v : Value} {L : List Nd} {K : Int} (h : Owd w W v L K) (hb : Below W.heap.size W W') : Owd w W' v L K :=
  ⟨own_below h.row hb, fun x hx => ⟨own_below (h.kids x hx).1 hb, (h.kids x hx).2⟩, h.bnd, h.low.trans (hb.mono h.low.size)⟩
theorem Owd.bod {w W : World} {A : Option Addr} {c : Nat} {L : List Nd} {K : Int} (h : Owd w W (.slice A L.length c) L K) (hl : L.length ≤ 100000) : Bod W A L K :=
  ⟨own_nodes h.row, fun x hx => ⟨⟨own_lies1 (h.kids x hx).1, (h.kids x hx).2, by have := (h.bnd x hx).1; omega⟩, (h.bnd x hx).1, (h.bnd x hx).2.1⟩, fun x hx => (h.bnd x hx).2.2, hl⟩
/-- The first one's kids lie apart from the others'. -/
def Ap (x : Nd) (t : List Nd) : Prop := ∀ y ∈ t, ∀ a b, y.A = some a → x.A = some b → a.block ≠ b.block
theorem own_apart {w : World} {B B' z z' n n' : Nat} {v v' : Value} {xs xs' : List Value} (h : w.ownsRow B 47 z v n xs) (h' : w.ownsRow B' 3 z' v' n' xs') : v'.ownBlock = none ∨ v'.ownBlock ≠ v.ownBlock := by
  cases e : v'.ownBlock with
  | none => exact .inl rfl
  | some b =>
    refine .inr fun e' => ?_
    have := own_same h h' e'.symm e
    revert this
    decide
theorem own_apart' {w : World} {B B' z z' n n' : Nat} {v v' : Value} {xs xs' : List Value} (h : w.ownsRow B 47 z v n xs) (h' : w.ownsRow B' 3 z' v' n' xs') : v.ownBlock = none ∨ v.ownBlock ≠ v'.ownBlock := by
  cases e : v.ownBlock with
  | none => exact .inl rfl
  | some b =>
    refine .inr fun e' => ?_
    have := own_same h h' e e'.symm
    revert this
    decide
/-- The first one has a kid more. -/
theorem Owd.kid {w W Wa W1 : World} {x0 : Nd} {t : List Nd} {K K' n : Int} {g0 m cap0 c1 : Nat} {A1 : Option Addr} (h : Owd w W (.slice (some ⟨g0, 0, none⟩) m cap0) (x0 :: t) K) (ap : Ap x0 t) (hm : (x0 :: t).length = m) (hb : Below W.heap.size W Wa)
    (hg : Wa.grownBy W1 x0.sl.ownBlock) (ho : W1.ownsRow w.heap.size 3 1 (.slice A1 (x0.kids.length + 1) c1) (x0.kids.length + 1) (ints x0.kids ++ [.int .i64 n])) (hf : ∀ k, (Value.slice A1 (x0.kids.length + 1) c1).ownBlock = some k → x0.sl.ownBlock = some k ∨ Wa.heap.size ≤ k)
    (hn : 0 ≤ n ∧ n < K') (hK : K ≤ K') (hl : x0.kids.length + 1 ≤ 1000) :
    Owd w (W1.setCell ⟨g0, 8, none⟩ (.slice A1 (x0.kids.length + 1) c1)) (.slice (some ⟨g0, 0, none⟩) m cap0) ({ x0 with kids := x0.kids ++ [n], A := A1, cap := c1 } :: t) K' ∧ Ap { x0 with kids := x0.kids ++ [n], A := A1, cap := c1 } t ∧ W1.cell? ⟨g0, 8, none⟩ = some x0.sl ∧ W1.frozen? ⟨g0, 8, none⟩ = false := by
  have hx0 := (h.kids x0 (List.mem_cons_self ..)).1
  have rowa := own_below h.row hb
  rw [hm] at rowa
  have hx0a := own_below hx0 hb
  have row1 := rowa.kept hg (own_apart' rowa hx0a)
  obtain ⟨s1, s2⟩ := row1.stored 8 (.slice A1 (x0.kids.length + 1) c1)
  have hgb := (row1.lt g0 rfl).1
  have ec : ncells ({ x0 with kids := x0.kids ++ [n], A := A1, cap := c1 } :: t) = (ncells (x0 :: t)).set 8 (.slice A1 (x0.kids.length + 1) c1) := by
    simp [ncells, Nd.cells]
  have hx0lt : ∀ k, x0.sl.ownBlock = some k → w.heap.size ≤ k := fun k e => (hx0.lt k e).1
  have hlow1 : Below w.heap.size w W1 := grown_below (h.low.trans (hb.mono h.low.size)) (Nat.le_trans h.low.size hb.size) hg hx0lt
  have hts : ∀ y ∈ t, (W1.setCell ⟨g0, 8, none⟩ (.slice A1 (x0.kids.length + 1) c1)).ownsRow w.heap.size 3 1 y.sl y.kids.length (ints y.kids) := fun y hy => by
    have k1 := own_below (h.kids y (List.mem_cons_of_mem _ hy)).1 hb
    have k2 := k1.kept hg (by
      cases hA : y.A with
      | none => exact .inl (by unfold Nd.sl; rw [hA]; rfl)
      | some a =>
        refine .inr fun e => ?_
        unfold Nd.sl at e
        cases hB : x0.A with
        | none => rw [hA, hB] at e; cases e
        | some b =>
          rw [hA, hB] at e
          simp only [Value.ownBlock, Option.some.injEq] at e
          exact ap y hy a b hA hB e)
    exact k2.kept s2 (own_apart row1 k2)
  refine ⟨⟨?_, fun y hy => ?_, fun y hy => ?_, hlow1.setCell hgb _⟩, fun y hy a b ha hb' => ?_, ?_, row1.frozenAt 8⟩
  · rw [ec, show ({ x0 with kids := x0.kids ++ [n], A := A1, cap := c1 } :: t : List Nd).length = m from hm]; exact s1
  · rcases List.mem_cons.1 hy with rfl | hy
    · refine ⟨?_, fun hA => ?_⟩
      · have := ho.kept s2 (own_apart row1 ho)
        simpa [Nd.sl, ints] using this
      · obtain ⟨A', c', e, hnn, _⟩ := own_slice ho
        simp only [Value.slice.injEq] at e
        have hA' : A1 = none := hA
        have := (hnn (by rw [← e.1]; exact hA')).1
        omega
    · exact ⟨hts y hy, (h.kids y (List.mem_cons_of_mem _ hy)).2⟩
  · rcases List.mem_cons.1 hy with rfl | hy
    · obtain ⟨b1, b2, b3⟩ := h.bnd x0 (List.mem_cons_self ..)
      refine ⟨by simp; omega, fun k hk => ?_, b3⟩
      rcases List.mem_append.1 hk with hk | hk
      · have := b2 k hk; omega
      · simp at hk; omega
    · obtain ⟨b1, b2, b3⟩ := h.bnd y (List.mem_cons_of_mem _ hy)
      exact ⟨b1, fun k hk => by have := b2 k hk; omega, b3⟩
  · have ky := ((h.kids y (List.mem_cons_of_mem _ hy)).1.lt a.block (by rw [Nd.sl, ha]; rfl)).2
    have hb2 : A1 = some b := hb'
    rcases hf b.block (by rw [hb2]; rfl) with e | e
    · cases hB : x0.A with
      | none => rw [Nd.sl, hB] at e; cases e
      | some b0 =>
        rw [Nd.sl, hB] at e
        simp only [Value.ownBlock, Option.some.injEq] at e
        rw [← e]
        exact ap y hy a b0 ha hB
    · have := hb.size; omega
  · rw [row1.cellAt 8 (by simp at hm; omega)]
    simp [ncells, Nd.cells]
/-- More nodes behind. -/
theorem Owd.app {w W W3 W4 : World} {v v4 : Value} {L l' : List Nd} {K K' : Int} (h : Owd w W v L K) (hb : Below W.heap.size W W3) (hk : ∀ x ∈ l', W3.ownsRow W.heap.size 3 1 (.slice x.A x.kids.length x.cap) x.kids.length (ints x.kids)) {A' : Option Addr} (hB : Bod W3 A' l' K') (hK : K ≤ K')
    (hg : W3.grownBy W4 v.ownBlock) (ho : W4.ownsRow w.heap.size 47 9 v4 (L.length + l'.length) (ncells L ++ ncells l')) : Owd w W4 v4 (L ++ l') K' := by
  have ea : ∀ a b : List Nd, ncells (a ++ b) = ncells a ++ ncells b := fun a b => by
    induction a with
    | nil => rfl
    | cons x a ih => simp only [List.cons_append, ncells, ih, List.append_assoc]
  have row3 := own_below h.row hb
  have hl3 : Below w.heap.size w W3 := h.low.trans (hb.mono h.low.size)
  refine ⟨by rw [List.length_append, ea]; exact ho, fun x hx => ?_, fun x hx => ?_, grown_below hl3 hl3.size hg (fun k e => (h.row.lt k e).1)⟩
  · rcases List.mem_append.1 hx with hx | hx
    · have k1 := own_below (h.kids x hx).1 hb
      exact ⟨k1.kept hg (own_apart row3 k1), (h.kids x hx).2⟩
    · have k1 := own_lower (hk x hx) h.low.size
      exact ⟨k1.kept hg (own_apart row3 k1), (hB.kids x hx).1.2.1⟩
  · rcases List.mem_append.1 hx with hx | hx
    · obtain ⟨b1, b2, b3⟩ := h.bnd x hx
      exact ⟨b1, fun k hk => by have := b2 k hk; omega, b3⟩
    · exact ⟨(hB.kids x hx).2.1, (hB.kids x hx).2.2, hB.texts x hx⟩
theorem Ap.app {w W W3 : World} {v : Value} {x0 : Nd} {t l' : List Nd} {K : Int} (ap : Ap x0 t) (h : Owd w W v (x0 :: t) K) (hk : ∀ x ∈ l', W3.ownsRow W.heap.size 3 1 (.slice x.A x.kids.length x.cap) x.kids.length (ints x.kids)) : Ap x0 (t ++ l') := by
  intro y hy a b ha hb
  rcases List.mem_append.1 hy with hy | hy
  · exact ap y hy a b ha hb
  · have k1 := ((hk y hy).lt a.block (by rw [ha]; rfl)).1
    have k2 := ((h.kids x0 (List.mem_cons_self ..)).1.lt b.block (by rw [Nd.sl, hb]; rfl)).2
    omega
def leafN (k : Int) : Nd := { Nd.zero with kind := k }
def ofN : List Nd → List Nd → List Nd
  | [], _ => []
  | x :: t, b => { x with kids := x.kids ++ [((x :: t).length : Int)] } :: (t ++ b.map (mvk (x :: t).length))
def ofL (k : Int) (bl : List (List Nd)) : List Nd := bl.foldl ofN [leafN k]
abbrev Bdy := Option Addr × Nat × List Nd
theorem Bod.mono {w : World} {A : Option Addr} {l : List Nd} {K K' : Int} (h : Bod w A l K) (hK : K ≤ K') : Bod w A l K' :=
  ⟨h.nodes, fun x hx => ⟨(h.kids x hx).1, (h.kids x hx).2.1, fun k hk => by have := (h.kids x hx).2.2 k hk; omega⟩, h.texts, h.small⟩
/-- Bodies in memory. -/
structure Bds (w : World) (A : Option Addr) (bl : List Bdy) (K : Int) : Prop where
  lies : Lies w A (bl.map fun b => Value.slice b.1 b.2.2.length b.2.1)
  bod : ∀ b ∈ bl, Bod w b.1 b.2.2 K ∧ b.2.2.length ≤ 1000 ∧ (b.1 = none → b.2.1 = 0)
theorem Bds.below {w w' : World} {A : Option Addr} {bl : List Bdy} {K : Int} (h : Bds w A bl K) (hb : Below w.heap.size w w') : Bds w' A bl K :=
  ⟨h.lies.below hb, fun b hx => ⟨(h.bod b hx).1.below hb, (h.bod b hx).2⟩⟩
end Go.Proofs.YtjelgmdjmjnnfaaGreat
namespace Go.Proofs.YtjelgmdjmjnnfaaGreat
open Go Go.RowKit
theorem own_built (w : World) (T n size : Nat) (xs : List Value) (hx : xs.length = n * size) (hn : n ≤ maxLen) : (w.alloc (.cells xs.toArray T)).ownsRow w.heap.size T size (.slice (some ⟨w.heap.size, 0, none⟩) n n) n xs :=
  ⟨hx, .inr ⟨w.heap.size, n, xs.toArray, rfl, Nat.le_refl _, Blk.new _ _ _, Nat.le_refl _, hn, by simpa using hx, by simp [← hx]⟩⟩
theorem own_news {w : World} {B e z n c : Nat} {A : Option Addr} {xs : List Value} (h : w.ownsRow B e z (.slice A n c) n xs) : (∀ a, A = some a → ∀ j u, xs[j]? = some u → w.cell? (a.add j) = some u) ∧ (A = none → n = 0 ∧ c = 0) := by
  refine ⟨fun a ha => ?_, fun hA => ?_⟩
  · rcases h.2 with ⟨h1, _⟩ | ⟨g, cap, cur, h1, _⟩
    · simp only [Value.slice.injEq] at h1; rw [h1.1] at ha; cases ha
    · simp only [Value.slice.injEq] at h1
      obtain ⟨e1, _, _⟩ := h1
      rw [e1] at ha h
      cases ha
      exact h.cells (g := g) rfl
  · obtain ⟨A', c', e, h1, _⟩ := own_slice h
    simp only [Value.slice.injEq] at e
    rw [e.2.2]
    exact h1 (by rw [← e.1]; exact hA)
theorem ncells_one : ∀ l : List Nd, ∀ u ∈ ncells l, u.oneCell' = true
  | [], u, hu => by simp [ncells] at hu
  | x :: l, u, hu => by
    simp only [ncells] at hu
    rcases List.mem_append.1 hu with hu | hu
    · exact cells_one x u hu
    · exact ncells_one l u hu
theorem of_step {x0 : Nd} {t l' b : List Nd} {k : Int} {bls : List (List Nd)} {i : Nat} {A1 : Option Addr} {c1 : Nat} (h : (x0 :: t).map Nd.kz = (bls.take i).foldl ofN [leafN k]) (hi : bls[i]? = some (b.map Nd.kz)) (hm : Moved ((x0 :: t).length : Nat) b l') :
    (({ x0 with kids := x0.kids ++ [((x0 :: t).length : Int)], A := A1, cap := c1 } : Nd) :: (t ++ l')).map Nd.kz = (bls.take (i + 1)).foldl ofN [leafN k] := by
  rw [List.take_add_one, hi, Option.toList_some, List.foldl_append, ← h]
  simp only [List.map_cons, List.foldl_cons, List.foldl_nil, ofN, List.map_append, hm.kz, List.length_cons, List.length_map]
  rfl
set_option maxRecDepth 100000 in
set_option maxHeartbeats 8000000 in
theorem of_any (kd : Int) (A : Option Addr) (bl : List Bdy) (c : Nat) (K : Int) (w : World) (h : Bds w A bl K) (hl : bl.length ≤ 50) (hK : 0 ≤ K ∧ K ≤ 100000000) :
    Calls Tryz.prog 72 #[.int .i64 kd, .slice A bl.length c] w fun e w' => ∃ A' c' L, e = .returned (.slice A' L.length c') ∧ L.map Nd.kz = ofL kd (bl.map fun b => b.2.2.map Nd.kz) ∧ Bod w' A' L (K + 100000) ∧ (A' = none → c' = 0) ∧ L.length ≤ 1 + 1000 * bl.length ∧ Below w.heap.size w w' := by
  obtain ⟨i0, hi, hz0, hz1, hz2⟩ := info_parts Tryz.info3
  obtain ⟨i1, ji, jz0, jz1, jz2⟩ := info_parts Tryz.info47
  have HH := Lib.hid h
  obtain ⟨m, em⟩ : ∃ m, m = bl.length := ⟨_, rfl⟩
  have EM := Lib.hid em
  rw [← em] at hl ⊢
  clear h em
  go_enter Tryz.func72, Tryz.ntmps72
  go_wp2_with fail
  have OW0 : RowKit.Hid (Owd w (w.alloc (.cells (leafN kd).cells.toArray 47)) (.slice (some ⟨w.heap.size, 0, none⟩) 1 1) [leafN kd] (K + 100000)) := Lib.hid ⟨by
      have := own_built w 47 1 9 (ncells [leafN kd]) (by simp [ncells, Nd.cells]) (by unfold maxLen; omega)
      simpa [ncells] using this,
    fun x hx => by simp at hx; subst hx; exact ⟨World.ownsRow_nil _ _ _ _, fun _ => rfl⟩,
    fun x hx => by simp at hx; subst hx; exact ⟨by simp [leafN, Nd.zero], by simp [leafN, Nd.zero], by simp [leafN, Nd.zero]⟩, B1 _ _⟩
  go_loopw [5, 6] (fun v i wr => ∃ (k : Nat) (x0 : Nd) (t : List Nd), k ≤ m ∧ i = .int .i64 k ∧ Owd w wr v (x0 :: t) (K + 100000) ∧ Ap x0 t ∧ (x0 :: t).map Nd.kz = ((bl.map fun b => b.2.2.map Nd.kz).take k).foldl ofN [leafN kd] ∧ (x0 :: t).length ≤ 1 + 1000 * k ∧ x0.kids.length = k) (fun _ i _ => m - (intOf i).toNat)
  case atStart => exact ⟨0, leafN kd, [], by omega, by go_num, OW0.out, fun y hy => by simp at hy, by simp [leafN, Nd.kz, Nd.zero], by simp, rfl⟩
  case round =>
    obtain ⟨k, x0, t, hk, rfl, hO, hAp, hsp, hln, hkl⟩ := hrel
    obtain ⟨g0, cap0, rfl, hg0, hgc, hgm, hglt⟩ := own_shape hO.row (by simp)
    have c8 : wr.cell? ⟨g0, 8, none⟩ = some (.slice x0.A x0.kids.length x0.cap) := by
      rw [hO.row.cellAt 8 (by simp; omega)]
      simp [ncells, Nd.cells]
    have HAp := Lib.hid hAp
    have HSP := Lib.hid hsp
    obtain ⟨n, en⟩ : ∃ n, n = (x0 :: t).length := ⟨_, rfl⟩
    have EN := Lib.hid en
    rw [← en] at hln hgc ⊢
    have hn1 : 1 ≤ n := by rw [en]; simp
    have HO := Lib.hid (show Owd w wr (.slice (some ⟨g0, 0, none⟩) n cap0) (x0 :: t) (K + 100000) from by rw [en]; exact hO)
    clear hO hAp hsp en
    by_cases hlt : k < m
    · have hlt2 : (k : Int) < m := by omega
      have hkb : k < bl.length := by have := EM.out; omega
      obtain ⟨b1, o1, eA, hb1, hcells⟩ := HH.out.lies (by simp; omega)
      have cb := hcells k (by simpa using hkb)
      obtain ⟨q0, q1, q2⟩ := HH.out.bod _ (show bl.getD k (none, 0, []) ∈ bl by simp [List.getD, List.getElem?_eq_getElem hkb])
      have eb : (bl.map fun b => Value.slice b.1 b.2.2.length b.2.1)[k]? = some (Value.slice (bl.getD k (none, 0, [])).1 (bl.getD k (none, 0, [])).2.2.length (bl.getD k (none, 0, [])).2.1) := by simp [List.getElem?_map, List.getElem?_eq_getElem hkb, List.getD]
      have es : (bl.map fun b => b.2.2.map Nd.kz)[k]? = some ((bl.getD k (none, 0, [])).2.2.map Nd.kz) := by simp [List.getElem?_map, List.getElem?_eq_getElem hkb, List.getD]
      rw [eb] at cb
      obtain ⟨⟨BA, bc, B⟩, eB⟩ : ∃ q, q = bl.getD k (none, 0, []) := ⟨_, rfl⟩
      rw [← eB] at cb q0 q1 q2 es
      dsimp only at cb q0 q1 q2 es
      have cbA := fun (W : World) (b : Below w.heap.size w W) => (b.cell (p := ⟨b1, o1 + k, none⟩) hb1).trans cb
      have CB := Lib.hid cbA
      have Q0 := Lib.hid q0
      have ES := Lib.hid es
      rw [eA]
      have hks : x0.kids.length ≤ 50 := by omega
      have HKL := Lib.hid hkl
      clear hkl
      clear eb eB hcells cbA q0 es eA cb
      go_upto_region 7 with (at_builtin; refine wpList_append_onto _ rfl (.tmp 23) (.tmp 25) 41 rfl w.heap.size 3 i0 (.int .i64 0) 1 8 Tryz.underlying41 hi hz0 hz1 hz2 rfl (by decide) (.slice x0.A x0.kids.length x0.cap) x0.kids.length (ints x0.kids) rfl (own_below (HO.out.kids x0 (List.mem_cons_self ..)).1 (B1 wr _)) (some ⟨wr.heap.size, 0, none⟩) 1 1 [.int .i64 n] rfl rfl (new_news wr [.int .i64 n] 3) (fun h => nomatch h) (by simp [Value.oneCell']) (by unfold maxLen; omega) (by omega) (by have := HO.out.low.size; simp; omega) ?_; intro v1 w9 ho hg hf; obtain ⟨A1, c1, rfl, _, _⟩ := own_slice ho; have KD := Lib.hid (HO.out.kid (K' := K + 100000) HAp.out EN.out.symm (B1 wr _) hg ho hf ⟨by omega, by omega⟩ (Int.le_refl _) (by omega)); have c8' := KD.out.2.2.1; have f8' := KD.out.2.2.2; clear ho hg hf)
      obtain ⟨W2, eW2⟩ : ∃ W, W = w9.setCell ⟨g0, 8, none⟩ (.slice A1 (x0.kids.length + 1) c1) := ⟨_, rfl⟩
      have OW := Lib.hid (show Owd w W2 (.slice (some ⟨g0, 0, none⟩) n cap0) (({ x0 with kids := x0.kids ++ [(n : Int)], A := A1, cap := c1 } : Nd) :: t) (K + 100000) from by rw [eW2]; exact KD.out.1)
      have AP := Lib.hid KD.out.2.1
      rw [← eW2]
      have cb := CB.out W2 OW.out.low
      have MV := Lib.hid (moved_any BA B bc n K W2 (Q0.out.below OW.out.low) (by omega) ⟨by omega, by omega⟩ (by omega))
      have ELL : RowKit.Hid ((({ x0 with kids := x0.kids ++ [(n : Int)], A := A1, cap := c1 } : Nd) :: t).length = n) := Lib.hid (by rw [EN.out]; rfl)
      clear eW2 KD c8 c8' f8'
      go_wp2_with fail
      with_reducible refine MV.out.mono ?_
      rintro e w3 ⟨A', c', l', rfl, hm, hB, hrw, hkr, hnn, hb3⟩
      have HM := Lib.hid hm
      have HBo := Lib.hid (hB.mono (K' := K + 100000) (by omega))
      have HKR := Lib.hid hkr
      have HB3 := Lib.hid hb3
      have NEWS := Lib.hid (own_news hrw)
      have ROW3 := Lib.hid (show w3.ownsRow w.heap.size 47 9 (.slice (some ⟨g0, 0, none⟩) n cap0) n (ncells (({ x0 with kids := x0.kids ++ [(n : Int)], A := A1, cap := c1 } : Nd) :: t)) from by
        have q := own_below OW.out.row hb3
        rw [ELL.out] at q
        exact q)
      have hl' : l'.length ≤ 1000 := by rw [hm.1]; exact q1
      clear hm hB hkr hb3 hrw hnn
      go_wp2_with (at_builtin; refine wpList_append_onto _ rfl (.tmp 29) (.tmp 35) 23 rfl w.heap.size 47 i1 Nd.zero.val 9 96 Tryz.underlying23 ji jz0 jz1 jz2 rfl (by decide) (.slice (some ⟨g0, 0, none⟩) n cap0) n (ncells (({ x0 with kids := x0.kids ++ [(n : Int)], A := A1, cap := c1 } : Nd) :: t)) rfl ROW3.out A' l'.length c' (ncells l') rfl (ncells_length l') NEWS.out.1 NEWS.out.2 (ncells_one l') (by unfold maxLen; omega) (by omega) (by have := OW.out.low.size; have := HB3.out.size; omega) ?_; intro v4 w4 ho hg hf; have HO4 := Lib.hid ho; have HG4 := Lib.hid hg; clear ho hg hf)
      go_roundw
      case rel =>
        have HMn : Moved ((x0 :: t).length : Nat) B l' := by have h := HM.out; rw [EN.out] at h; exact h
        refine ⟨k + 1, ({ x0 with kids := x0.kids ++ [(n : Int)], A := A1, cap := c1 } : Nd), t ++ l', by omega, by go_num, OW.out.app HB3.out HKR.out HBo.out (Int.le_refl _) HG4.out (by rw [ELL.out]; exact HO4.out), AP.out.app OW.out HKR.out, ?_, ?_, ?_⟩
        · have h := of_step (A1 := A1) (c1 := c1) HSP.out ES.out HMn
          rw [← EN.out] at h
          exact h
        · have h1 : (({ x0 with kids := x0.kids ++ [(n : Int)], A := A1, cap := c1 } : Nd) :: (t ++ l')).length = n + l'.length := by rw [← ELL.out]; simp; omega
          rw [h1]; omega
        · show (x0.kids ++ [(n : Int)]).length = k + 1
          rw [List.length_append, HKL.out]; rfl
      case measure => simp [intOf]; omega
    · obtain rfl : k = m := by omega
      have hneg : ¬ (k : Int) < k := by omega
      go_wp2_with fail
      go_ret
      refine ⟨_, _, x0 :: t, by rw [EN.out]; rfl, ?_, (show Owd w wr (.slice (some ⟨g0, 0, none⟩) (x0 :: t).length cap0) (x0 :: t) (K + 100000) from by have h := HO.out; rw [EN.out] at h; exact h).bod (by have := EN.out; omega), (fun h => nomatch h), by rw [← EN.out]; exact hln, HO.out.low⟩
      rw [HSP.out, EM.out]
      unfold ofL
      rw [List.take_of_length_le (by simp)]
end Go.Proofs.YtjelgmdjmjnnfaaGreat
namespace Go.Proofs.YtjelgmdjmjnnfaaGreat
open Go Go.RowKit
@[go_sem] theorem eqn30 (w : World) : (binOp .eql 41 (.slice none 0 0) (.slice none 0 0)).run Tryz.prog w = .ok (.bool true) w := by kernel_rfl
@[go_sem] theorem eqs30 (a : Addr) (n c : Nat) (w : World) : (binOp .eql 41 (.slice (some a) n c) (.slice none 0 0)).run Tryz.prog w = .ok (.bool false) w := by kernel_rfl
@[go_sem] theorem eqn22 (w : World) : (binOp .eql 22 (.slice none 0 0) (.slice none 0 0)).run Tryz.prog w = .ok (.bool true) w := by kernel_rfl
@[go_sem] theorem eqs22 (a : Addr) (n c : Nat) (w : World) : (binOp .eql 22 (.slice (some a) n c) (.slice none 0 0)).run Tryz.prog w = .ok (.bool false) w := by kernel_rfl
@[go_sem] theorem eqn23 (w : World) : (binOp .eql 23 (.slice none 0 0) (.slice none 0 0)).run Tryz.prog w = .ok (.bool true) w := by kernel_rfl
@[go_sem] theorem eqs23 (a : Addr) (n c : Nat) (w : World) : (binOp .eql 23 (.slice (some a) n c) (.slice none 0 0)).run Tryz.prog w = .ok (.bool false) w := by kernel_rfl
set_option maxRecDepth 100000 in
set_option maxHeartbeats 1000000 in
theorem cloneInts_any (A : Option Addr) (l : List Int) (c : Nat) (hl : l.length ≤ 1000000) (hnc : A = none → c = 0) (w : World) (h : Lies w A (ints l)) :
    Calls Tryz.prog 188 #[.slice A l.length c] w fun e w' => ∃ A' c', e = .returned (.slice A' l.length c') ∧ w'.ownsRow w.heap.size 3 1 (.slice A' l.length c') l.length (ints l) ∧ (A' = none → c' = 0) ∧ Below w.heap.size w w' := by
  cases hA : A with
  | none =>
    have h0 : l = [] := List.eq_nil_of_length_eq_zero (by have := none_len h hA; rwa [ints_length] at this)
    subst h0
    obtain rfl := hnc hA
    subst hA
    clear h hnc hl
    go_enter Tryz.func188, Tryz.ntmps188
    go_wp2_with fail
    go_ret
    exact ⟨none, 0, rfl, World.ownsRow_nil _ _ _ _, fun _ => rfl, Below.refl _ _⟩
  | some a =>
    obtain ⟨i0, hi, hz0, hz1, hz2⟩ := info_parts Tryz.info3
    subst hA
    have HN := Lib.hid (lies_news h)
    have H6 := Lib.hid (show 0 + l.length ≤ maxLen by unfold maxLen; omega)
    have H8 := Lib.hid (show (0 + l.length) * 8 ≤ 140737488355328 by omega)
    have HL := Lib.hid (show (ints l).length = l.length * 1 by rw [ints_length, Nat.mul_one])
    clear h hnc hl
    go_enter Tryz.func188, Tryz.ntmps188
    go_wp2_with (at_builtin; refine wpList_append_onto _ rfl (.tmp 5) (.tmp 6) 41 rfl w.heap.size 3 i0 (.int .i64 0) 1 8 Tryz.underlying41 hi hz0 hz1 hz2 rfl (by decide) (.slice (some ⟨w.heap.size, 0, none⟩) 0 0) 0 [] rfl (World.ownsRow_made w #[] 0 (Nat.le_refl _) (by unfold maxLen; omega) rfl) (some a) l.length c (ints l) rfl HL.out (fun a' ha j u hu => by have := HN.out a' ha j u hu; exact ((B1 w _).cell (World.block_lt_of_cell? _ _ this)).trans this) (fun h => nomatch h) (ints_one l) H6.out H8.out (by simp) ?_; intro v1 w1 ho hg hf; rw [Nat.zero_add, List.nil_append] at ho; obtain ⟨A1, c1, rfl, hnn, _⟩ := own_slice ho; have HO := Lib.hid ho; have HNN := Lib.hid (fun h => (hnn h).2); have HB := Lib.hid (grown_below (B1 w _) (by simp) hg (fun k e => by cases e; exact Nat.le_refl _)); clear ho hg hf hnn)
    go_ret
    exact ⟨_, _, rfl, HO.out, HNN.out, HB.out⟩
set_option maxRecDepth 100000 in
set_option maxHeartbeats 1000000 in
theorem cloneRules_any (A : Option Addr) (l : List Rl) (c : Nat) (hl : l.length ≤ 1000000) (hnc : A = none → c = 0) (w : World) (h : Rules w A l) :
    Calls Tryz.prog 171 #[.slice A l.length c] w fun e w' => ∃ A' c', e = .returned (.slice A' l.length c') ∧ w'.ownsRow w.heap.size 72 2 (.slice A' l.length c') l.length (rcells l) ∧ (A' = none → c' = 0) ∧ Below w.heap.size w w' := by
  cases hA : A with
  | none =>
    have h0 : l = [] := List.eq_nil_of_length_eq_zero (rules_none h hA)
    subst h0
    obtain rfl := hnc hA
    subst hA
    clear h hnc hl
    go_enter Tryz.func171, Tryz.ntmps171
    go_wp2_with fail
    go_ret
    exact ⟨none, 0, rfl, World.ownsRow_nil _ _ _ _, fun _ => rfl, Below.refl _ _⟩
  | some a =>
    obtain ⟨i0, hi, hz0, hz1, hz2⟩ := info_parts Tryz.info72
    subst hA
    have HN := Lib.hid (h.news)
    have H6 := Lib.hid (show 0 + l.length ≤ maxLen by unfold maxLen; omega)
    have H8 := Lib.hid (show (0 + l.length) * 24 ≤ 140737488355328 by omega)
    have HL := Lib.hid (rcells_length l)
    clear h hnc hl
    go_enter Tryz.func171, Tryz.ntmps171
    go_wp2_with (at_builtin; refine wpList_append_onto _ rfl (.tmp 5) (.tmp 6) 22 rfl w.heap.size 72 i0 _ 2 24 Tryz.underlying22 hi hz0 hz1 hz2 rfl (by decide) (.slice (some ⟨w.heap.size, 0, none⟩) 0 0) 0 [] rfl (World.ownsRow_made w #[] 0 (Nat.le_refl _) (by unfold maxLen; omega) rfl) (some a) l.length c (rcells l) rfl HL.out (fun a' ha j u hu => by have := HN.out a' ha j u hu; exact ((B1 w _).cell (World.block_lt_of_cell? _ _ this)).trans this) (fun h => nomatch h) (rcells_one l) H6.out H8.out (by simp) ?_; intro v1 w1 ho hg hf; rw [Nat.zero_add, List.nil_append] at ho; obtain ⟨A1, c1, rfl, hnn, _⟩ := own_slice ho; have HO := Lib.hid ho; have HNN := Lib.hid (fun h => (hnn h).2); have HB := Lib.hid (grown_below (B1 w _) (by simp) hg (fun k e => by cases e; exact Nat.le_refl _)); clear ho hg hf hnn)
    go_ret
    exact ⟨_, _, rfl, HO.out, HNN.out, HB.out⟩
theorem Nodes.news {w : World} {A : Option Addr} {l : List Nd} (h : Nodes w A l) : ∀ a, A = some a → ∀ j u, (ncells l)[j]? = some u → w.cell? (a.add j) = some u := by
  intro a ha j u hu
  have hj := (List.getElem?_eq_some_iff.1 hu).1
  rw [ncells_length] at hj
  obtain ⟨b, o, e, _, hc⟩ := h (by omega)
  rw [ha] at e
  obtain rfl := Option.some.inj e
  have hm := Nat.mod_lt j (show 0 < 9 by omega)
  have h1 := hc (j / 9) (by omega) (j % 9) hm
  have h2 := ncells_at l (j / 9) (j % 9) (by omega) hm
  have ej : j / 9 * 9 + j % 9 = j := by omega
  rw [ej] at h2
  rw [Nat.add_assoc, ej] at h1
  rw [Addr.add_lit, h1, ← h2, hu]
set_option maxRecDepth 100000 in
set_option maxHeartbeats 1000000 in
theorem cloneNodes_any (A : Option Addr) (l : List Nd) (c : Nat) (hl : l.length ≤ 1000000) (hnc : A = none → c = 0) (w : World) (h : Nodes w A l) :
    Calls Tryz.prog 173 #[.slice A l.length c] w fun e w' => ∃ A' c', e = .returned (.slice A' l.length c') ∧ w'.ownsRow w.heap.size 47 9 (.slice A' l.length c') l.length (ncells l) ∧ (A' = none → c' = 0) ∧ Below w.heap.size w w' := by
  cases hA : A with
  | none =>
    have h0 : l = [] := List.eq_nil_of_length_eq_zero (nodes_none h hA)
    subst h0
    obtain rfl := hnc hA
    subst hA
    clear h hnc hl
    go_enter Tryz.func173, Tryz.ntmps173
    go_wp2_with fail
    go_ret
    exact ⟨none, 0, rfl, World.ownsRow_nil _ _ _ _, fun _ => rfl, Below.refl _ _⟩
  | some a =>
    obtain ⟨i0, hi, hz0, hz1, hz2⟩ := info_parts Tryz.info47
    subst hA
    have HN := Lib.hid (h.news)
    have H6 := Lib.hid (show 0 + l.length ≤ maxLen by unfold maxLen; omega)
    have H8 := Lib.hid (show (0 + l.length) * 96 ≤ 140737488355328 by omega)
    have HL := Lib.hid (ncells_length l)
    clear h hnc hl
    go_enter Tryz.func173, Tryz.ntmps173
    go_wp2_with (at_builtin; refine wpList_append_onto _ rfl (.tmp 5) (.tmp 6) 23 rfl w.heap.size 47 i0 _ 9 96 Tryz.underlying23 hi hz0 hz1 hz2 rfl (by decide) (.slice (some ⟨w.heap.size, 0, none⟩) 0 0) 0 [] rfl (World.ownsRow_made w #[] 0 (Nat.le_refl _) (by unfold maxLen; omega) rfl) (some a) l.length c (ncells l) rfl HL.out (fun a' ha j u hu => by have := HN.out a' ha j u hu; exact ((B1 w _).cell (World.block_lt_of_cell? _ _ this)).trans this) (fun h => nomatch h) (ncells_one l) H6.out H8.out (by simp) ?_; intro v1 w1 ho hg hf; rw [Nat.zero_add, List.nil_append] at ho; obtain ⟨A1, c1, rfl, hnn, _⟩ := own_slice ho; have HO := Lib.hid ho; have HNN := Lib.hid (fun h => (hnn h).2); have HB := Lib.hid (grown_below (B1 w _) (by simp) hg (fun k e => by cases e; exact Nat.le_refl _)); clear ho hg hf hnn)
    go_ret
    exact ⟨_, _, rfl, HO.out, HNN.out, HB.out⟩
end Go.Proofs.YtjelgmdjmjnnfaaGreat
namespace Go.Proofs.YtjelgmdjmjnnfaaGreat
open Go Go.RowKit
def Tryz.cloneRen : Go.Shelf.Ren := ⟨fun | 25 => 186 | n => n, fun | 37 => 70 | 47 => 224 | n => n, fun n => n⟩
theorem Tryz.cloneLays : Go.Proofs.LaysPu.n25 Tryz.prog Tryz.cloneRen := {
  mixed := by kernel_rfl
  f25 := Tryz.func186.trans (congrArg some (by kernel_rfl))
  t0 := Tryz.underlying0
  a0 := Tryz.isAgg0
  z0 := Tryz.sizeOf0
  v0 := Tryz.zeroValue0
  i0 := by kernel_rfl
  t3 := Tryz.underlying3
  a3 := Tryz.isAgg3
  z3 := Tryz.sizeOf3
  v3 := Tryz.zeroValue3
  i3 := by kernel_rfl
  t4 := Tryz.underlying4
  a4 := Tryz.isAgg4
  z4 := Tryz.sizeOf4
  v4 := Tryz.zeroValue4
  i4 := by kernel_rfl
  t5 := Tryz.underlying5
  a5 := Tryz.isAgg5
  z5 := Tryz.sizeOf5
  v5 := Tryz.zeroValue5
  i5 := by kernel_rfl
  t9 := Tryz.underlying9
  a9 := Tryz.isAgg9
  z9 := Tryz.sizeOf9
  v9 := Tryz.zeroValue9
  i9 := by kernel_rfl
  t37 := Tryz.underlying70
  a37 := Tryz.isAgg70
  z37 := Tryz.sizeOf70
  v37 := Tryz.zeroValue70
  i37 := by kernel_rfl
  t47 := Tryz.underlying224
  a47 := Tryz.isAgg224
  z47 := Tryz.sizeOf224
  v47 := Tryz.zeroValue224
  i47 := by kernel_rfl }
theorem lite_any (s : ByteArray) (hs : s.size ≤ 281474976710656) (w : World) : Calls Tryz.prog 186 #[.string s] w fun e w' => e = .returned (.string s) ∧ Below w.heap.size w w' :=
  Go.Proofs.AnyPu.stringslite_Clone Tryz.cloneLays s w hs
theorem cloneStr_any (s : ByteArray) (hs : s.size ≤ 281474976710656) (w : World) : Calls Tryz.prog 172 #[.string s] w fun e w' => e = .returned (.string s) ∧ Below w.heap.size w w' := by
  have C := Lib.hid (fun w => lite_any s hs w)
  clear hs
  go_enter Tryz.func172, Tryz.ntmps172
  go_wp2_with (go_at_call 186; refine (C.out _).mono ?_; rintro e w1 ⟨rfl, hb⟩; have HB := Lib.hid hb; clear hb)
  go_ret
  exact ⟨rfl, HB.out⟩
end Go.Proofs.YtjelgmdjmjnnfaaGreat

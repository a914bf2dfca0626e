/- The kit's Of, Leaf, Word, Call, In, Chain, First. -/
import Derived.Test.YtlbjmkljmhfjdaaGreatC2
import Derived.Deep.CutRange
import Derived.Test.YtlbjmkljmhfjdaaGreatB9
set_option linter.unusedSimpArgs false
set_option linter.unusedVariables false
namespace Go.Proofs.YtlbjmkljmhfjdaaGreat
open Go Go.RowKit
theorem own_built (w : World) (T n size : Nat) (xs : List Value) (hx : xs.length = n * size) (hn : n ≤ maxLen) : (w.alloc (.cells xs.toArray T)).ownsRow w.heap.size T size (.slice (some ⟨w.heap.size, 0, none⟩) n n) n xs :=
  ⟨hx, .inr ⟨w.heap.size, n, xs.toArray, rfl, Nat.le_refl _, Blk.new _ _ _, Nat.le_refl _, hn, by simpa using hx, by simp [← hx]⟩⟩
theorem own_news {w : World} {B e z n c : Nat} {A : Option Addr} {xs : List Value} (h : w.ownsRow B e z (.slice A n c) n xs) : (∀ a, A = some a → ∀ j u, xs[j]? = some u → w.cell? (a.add j) = some u) ∧ (A = none → n = 0 ∧ c = 0) := by
  refine ⟨fun a ha => ?_, fun hA => ?_⟩
  · rcases h.2 with ⟨h1, _⟩ | ⟨g, cap, cur, h1, _⟩
    · simp only [Value.slice.injEq] at h1; rw [h1.1] at ha; cases ha
    · simp only [Value.slice.injEq] at h1
      obtain ⟨e1, _, _⟩ := h1
      rw [e1] at ha h
      cases ha
      exact h.cells (g := g) rfl
  · obtain ⟨A', c', e, h1, _⟩ := own_slice h
    simp only [Value.slice.injEq] at e
    rw [e.2.2]
    exact h1 (by rw [← e.1]; exact hA)
theorem ncells_one : ∀ l : List Nd, ∀ u ∈ ncells l, u.oneCell' = true
  | [], u, hu => by simp [ncells] at hu
  | x :: l, u, hu => by
    simp only [ncells] at hu
    rcases List.mem_append.1 hu with hu | hu
    · exact cells_one x u hu
    · exact ncells_one l u hu
theorem of_step {x0 : Nd} {t l' b : List Nd} {k : Int} {bls : List (List Nd)} {i : Nat} {A1 : Option Addr} {c1 : Nat} (h : (x0 :: t).map Nd.kz = (bls.take i).foldl ofN [leafN k]) (hi : bls[i]? = some (b.map Nd.kz)) (hm : Moved ((x0 :: t).length : Nat) b l') :
    (({ x0 with kids := x0.kids ++ [((x0 :: t).length : Int)], A := A1, cap := c1 } : Nd) :: (t ++ l')).map Nd.kz = (bls.take (i + 1)).foldl ofN [leafN k] := by
  rw [List.take_add_one, hi, Option.toList_some, List.foldl_append, ← h]
  simp only [List.map_cons, List.foldl_cons, List.foldl_nil, ofN, List.map_append, hm.kz, List.length_cons, List.length_map]
  rfl
set_option maxRecDepth 100000 in
set_option maxHeartbeats 8000000 in
theorem of_any (kd : Int) (A : Option Addr) (bl : List Bdy) (c : Nat) (K : Int) (w : World) (h : Bds w A bl K) (hl : bl.length ≤ 50) (hK : 0 ≤ K ∧ K ≤ 100000000) :
    Calls Tryz.prog 88 #[.int .i64 kd, .slice A bl.length c] w fun e w' => ∃ A' c' L, e = .returned (.slice A' L.length c') ∧ L.map Nd.kz = ofL kd (bl.map fun b => b.2.2.map Nd.kz) ∧ Bod w' A' L (K + 100000) ∧ (A' = none → c' = 0) ∧ L.length ≤ 1 + 1000 * bl.length ∧ Below w.heap.size w w' := by
  obtain ⟨i0, hi, hz0, hz1, hz2⟩ := info_parts Tryz.info3
  obtain ⟨i1, ji, jz0, jz1, jz2⟩ := info_parts Tryz.info40
  have HH := Lib.hid h
  obtain ⟨m, em⟩ : ∃ m, m = bl.length := ⟨_, rfl⟩
  have EM := Lib.hid em
  rw [← em] at hl ⊢
  clear h em
  go_enter Tryz.func88, Tryz.ntmps88
  go_wp2_with fail
  have OW0 : RowKit.Hid (Owd w (w.alloc (.cells (leafN kd).cells.toArray 40)) (.slice (some ⟨w.heap.size, 0, none⟩) 1 1) [leafN kd] (K + 100000)) := Lib.hid ⟨by
      have := own_built w 40 1 9 (ncells [leafN kd]) (by simp [ncells, Nd.cells]) (by unfold maxLen; omega)
      simpa [ncells] using this,
    fun x hx => by simp at hx; subst hx; exact ⟨World.ownsRow_nil _ _ _ _, fun _ => rfl⟩,
    fun x hx => by simp at hx; subst hx; exact ⟨by simp [leafN, Nd.zero], by simp [leafN, Nd.zero], by simp [leafN, Nd.zero]⟩, B1 _ _⟩
  go_loopw [5, 6] (fun v i wr => ∃ (k : Nat) (x0 : Nd) (t : List Nd), k ≤ m ∧ i = .int .i64 k ∧ Owd w wr v (x0 :: t) (K + 100000) ∧ Ap x0 t ∧ (x0 :: t).map Nd.kz = ((bl.map fun b => b.2.2.map Nd.kz).take k).foldl ofN [leafN kd] ∧ (x0 :: t).length ≤ 1 + 1000 * k ∧ x0.kids.length = k) (fun _ i _ => m - (intOf i).toNat)
  case atStart => exact ⟨0, leafN kd, [], by omega, by go_num, OW0.out, fun y hy => by simp at hy, by simp [leafN, Nd.kz, Nd.zero], by simp, rfl⟩
  case round =>
    obtain ⟨k, x0, t, hk, rfl, hO, hAp, hsp, hln, hkl⟩ := hrel
    obtain ⟨g0, cap0, rfl, hg0, hgc, hgm, hglt⟩ := own_shape hO.row (by simp)
    have c8 : wr.cell? ⟨g0, 8, none⟩ = some (.slice x0.A x0.kids.length x0.cap) := by
      rw [hO.row.cellAt 8 (by simp; omega)]
      simp [ncells, Nd.cells]
    have HAp := Lib.hid hAp
    have HSP := Lib.hid hsp
    obtain ⟨n, en⟩ : ∃ n, n = (x0 :: t).length := ⟨_, rfl⟩
    have EN := Lib.hid en
    rw [← en] at hln hgc ⊢
    have hn1 : 1 ≤ n := by rw [en]; simp
    have HO := Lib.hid (show Owd w wr (.slice (some ⟨g0, 0, none⟩) n cap0) (x0 :: t) (K + 100000) from by rw [en]; exact hO)
    clear hO hAp hsp en
    by_cases hlt : k < m
    · have hlt2 : (k : Int) < m := by omega
      have hkb : k < bl.length := by have := EM.out; omega
      obtain ⟨b1, o1, eA, hb1, hcells⟩ := HH.out.lies (by simp; omega)
      have cb := hcells k (by simpa using hkb)
      obtain ⟨q0, q1, q2⟩ := HH.out.bod _ (show bl.getD k (none, 0, []) ∈ bl by simp [List.getD, List.getElem?_eq_getElem hkb])
      have eb : (bl.map fun b => Value.slice b.1 b.2.2.length b.2.1)[k]? = some (Value.slice (bl.getD k (none, 0, [])).1 (bl.getD k (none, 0, [])).2.2.length (bl.getD k (none, 0, [])).2.1) := by simp [List.getElem?_map, List.getElem?_eq_getElem hkb, List.getD]
      have es : (bl.map fun b => b.2.2.map Nd.kz)[k]? = some ((bl.getD k (none, 0, [])).2.2.map Nd.kz) := by simp [List.getElem?_map, List.getElem?_eq_getElem hkb, List.getD]
      rw [eb] at cb
      obtain ⟨⟨BA, bc, B⟩, eB⟩ : ∃ q, q = bl.getD k (none, 0, []) := ⟨_, rfl⟩
      rw [← eB] at cb q0 q1 q2 es
      dsimp only at cb q0 q1 q2 es
      have cbA := fun (W : World) (b : Below w.heap.size w W) => (b.cell (p := ⟨b1, o1 + k, none⟩) hb1).trans cb
      have CB := Lib.hid cbA
      have Q0 := Lib.hid q0
      have ES := Lib.hid es
      rw [eA]
      have hks : x0.kids.length ≤ 50 := by omega
      have HKL := Lib.hid hkl
      clear hkl
      clear eb eB hcells cbA q0 es eA cb
      go_upto_region 7 with (at_builtin; refine wpList_append_onto _ rfl (.tmp 23) (.tmp 25) 38 rfl w.heap.size 3 i0 (.int .i64 0) 1 8 Tryz.underlying38 hi hz0 hz1 hz2 rfl (by decide) (.slice x0.A x0.kids.length x0.cap) x0.kids.length (ints x0.kids) rfl (own_below (HO.out.kids x0 (List.mem_cons_self ..)).1 (B1 wr _)) (some ⟨wr.heap.size, 0, none⟩) 1 1 [.int .i64 n] rfl rfl (new_news wr [.int .i64 n] 3) (fun h => nomatch h) (by simp [Value.oneCell']) (by unfold maxLen; omega) (by omega) (by have := HO.out.low.size; simp; omega) ?_; intro v1 w9 ho hg hf; obtain ⟨A1, c1, rfl, _, _⟩ := own_slice ho; have KD := Lib.hid (HO.out.kid (K' := K + 100000) HAp.out EN.out.symm (B1 wr _) hg ho hf ⟨by omega, by omega⟩ (Int.le_refl _) (by omega)); have c8' := KD.out.2.2.1; have f8' := KD.out.2.2.2; clear ho hg hf)
      obtain ⟨W2, eW2⟩ : ∃ W, W = w9.setCell ⟨g0, 8, none⟩ (.slice A1 (x0.kids.length + 1) c1) := ⟨_, rfl⟩
      have OW := Lib.hid (show Owd w W2 (.slice (some ⟨g0, 0, none⟩) n cap0) (({ x0 with kids := x0.kids ++ [(n : Int)], A := A1, cap := c1 } : Nd) :: t) (K + 100000) from by rw [eW2]; exact KD.out.1)
      have AP := Lib.hid KD.out.2.1
      rw [← eW2]
      have cb := CB.out W2 OW.out.low
      have MV := Lib.hid (moved_any BA B bc n K W2 (Q0.out.below OW.out.low) (by omega) ⟨by omega, by omega⟩ (by omega))
      have ELL : RowKit.Hid ((({ x0 with kids := x0.kids ++ [(n : Int)], A := A1, cap := c1 } : Nd) :: t).length = n) := Lib.hid (by rw [EN.out]; rfl)
      clear eW2 KD c8 c8' f8'
      go_wp2_with fail
      with_reducible refine MV.out.mono ?_
      rintro e w3 ⟨A', c', l', rfl, hm, hB, hrw, hkr, hnn, hb3⟩
      have HM := Lib.hid hm
      have HBo := Lib.hid (hB.mono (K' := K + 100000) (by omega))
      have HKR := Lib.hid hkr
      have HB3 := Lib.hid hb3
      have NEWS := Lib.hid (own_news hrw)
      have ROW3 := Lib.hid (show w3.ownsRow w.heap.size 40 9 (.slice (some ⟨g0, 0, none⟩) n cap0) n (ncells (({ x0 with kids := x0.kids ++ [(n : Int)], A := A1, cap := c1 } : Nd) :: t)) from by
        have q := own_below OW.out.row hb3
        rw [ELL.out] at q
        exact q)
      have hl' : l'.length ≤ 1000 := by rw [hm.1]; exact q1
      clear hm hB hkr hb3 hrw hnn
      go_wp2_with (at_builtin; refine wpList_append_onto _ rfl (.tmp 29) (.tmp 35) 23 rfl w.heap.size 40 i1 Nd.zero.val 9 96 Tryz.underlying23 ji jz0 jz1 jz2 rfl (by decide) (.slice (some ⟨g0, 0, none⟩) n cap0) n (ncells (({ x0 with kids := x0.kids ++ [(n : Int)], A := A1, cap := c1 } : Nd) :: t)) rfl ROW3.out A' l'.length c' (ncells l') rfl (ncells_length l') NEWS.out.1 NEWS.out.2 (ncells_one l') (by unfold maxLen; omega) (by omega) (by have := OW.out.low.size; have := HB3.out.size; omega) ?_; intro v4 w4 ho hg hf; have HO4 := Lib.hid ho; have HG4 := Lib.hid hg; clear ho hg hf)
      go_roundw
      case rel =>
        have HMn : Moved ((x0 :: t).length : Nat) B l' := by have h := HM.out; rw [EN.out] at h; exact h
        refine ⟨k + 1, ({ x0 with kids := x0.kids ++ [(n : Int)], A := A1, cap := c1 } : Nd), t ++ l', by omega, by go_num, OW.out.app HB3.out HKR.out HBo.out (Int.le_refl _) HG4.out (by rw [ELL.out]; exact HO4.out), AP.out.app OW.out HKR.out, ?_, ?_, ?_⟩
        · have h := of_step (A1 := A1) (c1 := c1) HSP.out ES.out HMn
          rw [← EN.out] at h
          exact h
        · have h1 : (({ x0 with kids := x0.kids ++ [(n : Int)], A := A1, cap := c1 } : Nd) :: (t ++ l')).length = n + l'.length := by rw [← ELL.out]; simp; omega
          rw [h1]; omega
        · show (x0.kids ++ [(n : Int)]).length = k + 1
          rw [List.length_append, HKL.out]; rfl
      case measure => simp [intOf]; omega
    · obtain rfl : k = m := by omega
      have hneg : ¬ (k : Int) < k := by omega
      go_wp2_with fail
      go_ret
      refine ⟨_, _, x0 :: t, by rw [EN.out]; rfl, ?_, (show Owd w wr (.slice (some ⟨g0, 0, none⟩) (x0 :: t).length cap0) (x0 :: t) (K + 100000) from by have h := HO.out; rw [EN.out] at h; exact h).bod (by have := EN.out; omega), (fun h => nomatch h), by rw [← EN.out]; exact hln, HO.out.low⟩
      rw [HSP.out, EM.out]
      unfold ofL
      rw [List.take_of_length_le (by simp)]
end Go.Proofs.YtlbjmkljmhfjdaaGreat
namespace Go.Proofs.YtlbjmkljmhfjdaaGreat
open Go Go.RowKit
@[go_sem] theorem eqn30 (w : World) : (binOp .eql 38 (.slice none 0 0) (.slice none 0 0)).run Tryz.prog w = .ok (.bool true) w := by kernel_rfl
@[go_sem] theorem eqs30 (a : Addr) (n c : Nat) (w : World) : (binOp .eql 38 (.slice (some a) n c) (.slice none 0 0)).run Tryz.prog w = .ok (.bool false) w := by kernel_rfl
@[go_sem] theorem eqn22 (w : World) : (binOp .eql 22 (.slice none 0 0) (.slice none 0 0)).run Tryz.prog w = .ok (.bool true) w := by kernel_rfl
@[go_sem] theorem eqs22 (a : Addr) (n c : Nat) (w : World) : (binOp .eql 22 (.slice (some a) n c) (.slice none 0 0)).run Tryz.prog w = .ok (.bool false) w := by kernel_rfl
@[go_sem] theorem eqn23 (w : World) : (binOp .eql 23 (.slice none 0 0) (.slice none 0 0)).run Tryz.prog w = .ok (.bool true) w := by kernel_rfl
@[go_sem] theorem eqs23 (a : Addr) (n c : Nat) (w : World) : (binOp .eql 23 (.slice (some a) n c) (.slice none 0 0)).run Tryz.prog w = .ok (.bool false) w := by kernel_rfl
set_option maxRecDepth 100000 in
set_option maxHeartbeats 1000000 in
theorem cloneInts_any (A : Option Addr) (l : List Int) (c : Nat) (hl : l.length ≤ 1000000) (hnc : A = none → c = 0) (w : World) (h : Lies w A (ints l)) :
    Calls Tryz.prog 257 #[.slice A l.length c] w fun e w' => ∃ A' c', e = .returned (.slice A' l.length c') ∧ w'.ownsRow w.heap.size 3 1 (.slice A' l.length c') l.length (ints l) ∧ (A' = none → c' = 0) ∧ Below w.heap.size w w' := by
  cases hA : A with
  | none =>
    have h0 : l = [] := List.eq_nil_of_length_eq_zero (by have := none_len h hA; rwa [ints_length] at this)
    subst h0
    obtain rfl := hnc hA
    subst hA
    clear h hnc hl
    go_enter Tryz.func257, Tryz.ntmps257
    go_wp2_with fail
    go_ret
    exact ⟨none, 0, rfl, World.ownsRow_nil _ _ _ _, fun _ => rfl, Below.refl _ _⟩
  | some a =>
    obtain ⟨i0, hi, hz0, hz1, hz2⟩ := info_parts Tryz.info3
    subst hA
    have HN := Lib.hid (lies_news h)
    have H6 := Lib.hid (show 0 + l.length ≤ maxLen by unfold maxLen; omega)
    have H8 := Lib.hid (show (0 + l.length) * 8 ≤ 140737488355328 by omega)
    have HL := Lib.hid (show (ints l).length = l.length * 1 by rw [ints_length, Nat.mul_one])
    clear h hnc hl
    go_enter Tryz.func257, Tryz.ntmps257
    go_wp2_with (at_builtin; refine wpList_append_onto _ rfl (.tmp 5) (.tmp 6) 38 rfl w.heap.size 3 i0 (.int .i64 0) 1 8 Tryz.underlying38 hi hz0 hz1 hz2 rfl (by decide) (.slice (some ⟨w.heap.size, 0, none⟩) 0 0) 0 [] rfl (World.ownsRow_made w #[] 0 (Nat.le_refl _) (by unfold maxLen; omega) rfl) (some a) l.length c (ints l) rfl HL.out (fun a' ha j u hu => by have := HN.out a' ha j u hu; exact ((B1 w _).cell (World.block_lt_of_cell? _ _ this)).trans this) (fun h => nomatch h) (ints_one l) H6.out H8.out (by simp) ?_; intro v1 w1 ho hg hf; rw [Nat.zero_add, List.nil_append] at ho; obtain ⟨A1, c1, rfl, hnn, _⟩ := own_slice ho; have HO := Lib.hid ho; have HNN := Lib.hid (fun h => (hnn h).2); have HB := Lib.hid (grown_below (B1 w _) (by simp) hg (fun k e => by cases e; exact Nat.le_refl _)); clear ho hg hf hnn)
    go_ret
    exact ⟨_, _, rfl, HO.out, HNN.out, HB.out⟩
set_option maxRecDepth 100000 in
set_option maxHeartbeats 1000000 in
theorem cloneRules_any (A : Option Addr) (l : List Rl) (c : Nat) (hl : l.length ≤ 1000000) (hnc : A = none → c = 0) (w : World) (h : Rules w A l) :
    Calls Tryz.prog 228 #[.slice A l.length c] w fun e w' => ∃ A' c', e = .returned (.slice A' l.length c') ∧ w'.ownsRow w.heap.size 124 2 (.slice A' l.length c') l.length (rcells l) ∧ (A' = none → c' = 0) ∧ Below w.heap.size w w' := by
  cases hA : A with
  | none =>
    have h0 : l = [] := List.eq_nil_of_length_eq_zero (rules_none h hA)
    subst h0
    obtain rfl := hnc hA
    subst hA
    clear h hnc hl
    go_enter Tryz.func228, Tryz.ntmps228
    go_wp2_with fail
    go_ret
    exact ⟨none, 0, rfl, World.ownsRow_nil _ _ _ _, fun _ => rfl, Below.refl _ _⟩
  | some a =>
    obtain ⟨i0, hi, hz0, hz1, hz2⟩ := info_parts Tryz.info124
    subst hA
    have HN := Lib.hid (h.news)
    have H6 := Lib.hid (show 0 + l.length ≤ maxLen by unfold maxLen; omega)
    have H8 := Lib.hid (show (0 + l.length) * 24 ≤ 140737488355328 by omega)
    have HL := Lib.hid (rcells_length l)
    clear h hnc hl
    go_enter Tryz.func228, Tryz.ntmps228
    go_wp2_with (at_builtin; refine wpList_append_onto _ rfl (.tmp 5) (.tmp 6) 22 rfl w.heap.size 124 i0 _ 2 24 Tryz.underlying22 hi hz0 hz1 hz2 rfl (by decide) (.slice (some ⟨w.heap.size, 0, none⟩) 0 0) 0 [] rfl (World.ownsRow_made w #[] 0 (Nat.le_refl _) (by unfold maxLen; omega) rfl) (some a) l.length c (rcells l) rfl HL.out (fun a' ha j u hu => by have := HN.out a' ha j u hu; exact ((B1 w _).cell (World.block_lt_of_cell? _ _ this)).trans this) (fun h => nomatch h) (rcells_one l) H6.out H8.out (by simp) ?_; intro v1 w1 ho hg hf; rw [Nat.zero_add, List.nil_append] at ho; obtain ⟨A1, c1, rfl, hnn, _⟩ := own_slice ho; have HO := Lib.hid ho; have HNN := Lib.hid (fun h => (hnn h).2); have HB := Lib.hid (grown_below (B1 w _) (by simp) hg (fun k e => by cases e; exact Nat.le_refl _)); clear ho hg hf hnn)
    go_ret
    exact ⟨_, _, rfl, HO.out, HNN.out, HB.out⟩
theorem Nodes.news {w : World} {A : Option Addr} {l : List Nd} (h : Nodes w A l) : ∀ a, A = some a → ∀ j u, (ncells l)[j]? = some u → w.cell? (a.add j) = some u := by
  intro a ha j u hu
  have hj := (List.getElem?_eq_some_iff.1 hu).1
  rw [ncells_length] at hj
  obtain ⟨b, o, e, _, hc⟩ := h (by omega)
  rw [ha] at e
  obtain rfl := Option.some.inj e
  have hm := Nat.mod_lt j (show 0 < 9 by omega)
  have h1 := hc (j / 9) (by omega) (j % 9) hm
  have h2 := ncells_at l (j / 9) (j % 9) (by omega) hm
  have ej : j / 9 * 9 + j % 9 = j := by omega
  rw [ej] at h2
  rw [Nat.add_assoc, ej] at h1
  rw [Addr.add_lit, h1, ← h2, hu]
set_option maxRecDepth 100000 in
set_option maxHeartbeats 1000000 in
theorem cloneNodes_any (A : Option Addr) (l : List Nd) (c : Nat) (hl : l.length ≤ 1000000) (hnc : A = none → c = 0) (w : World) (h : Nodes w A l) :
    Calls Tryz.prog 230 #[.slice A l.length c] w fun e w' => ∃ A' c', e = .returned (.slice A' l.length c') ∧ w'.ownsRow w.heap.size 40 9 (.slice A' l.length c') l.length (ncells l) ∧ (A' = none → c' = 0) ∧ Below w.heap.size w w' := by
  cases hA : A with
  | none =>
    have h0 : l = [] := List.eq_nil_of_length_eq_zero (nodes_none h hA)
    subst h0
    obtain rfl := hnc hA
    subst hA
    clear h hnc hl
    go_enter Tryz.func230, Tryz.ntmps230
    go_wp2_with fail
    go_ret
    exact ⟨none, 0, rfl, World.ownsRow_nil _ _ _ _, fun _ => rfl, Below.refl _ _⟩
  | some a =>
    obtain ⟨i0, hi, hz0, hz1, hz2⟩ := info_parts Tryz.info40
    subst hA
    have HN := Lib.hid (h.news)
    have H6 := Lib.hid (show 0 + l.length ≤ maxLen by unfold maxLen; omega)
    have H8 := Lib.hid (show (0 + l.length) * 96 ≤ 140737488355328 by omega)
    have HL := Lib.hid (ncells_length l)
    clear h hnc hl
    go_enter Tryz.func230, Tryz.ntmps230
    go_wp2_with (at_builtin; refine wpList_append_onto _ rfl (.tmp 5) (.tmp 6) 23 rfl w.heap.size 40 i0 _ 9 96 Tryz.underlying23 hi hz0 hz1 hz2 rfl (by decide) (.slice (some ⟨w.heap.size, 0, none⟩) 0 0) 0 [] rfl (World.ownsRow_made w #[] 0 (Nat.le_refl _) (by unfold maxLen; omega) rfl) (some a) l.length c (ncells l) rfl HL.out (fun a' ha j u hu => by have := HN.out a' ha j u hu; exact ((B1 w _).cell (World.block_lt_of_cell? _ _ this)).trans this) (fun h => nomatch h) (ncells_one l) H6.out H8.out (by simp) ?_; intro v1 w1 ho hg hf; rw [Nat.zero_add, List.nil_append] at ho; obtain ⟨A1, c1, rfl, hnn, _⟩ := own_slice ho; have HO := Lib.hid ho; have HNN := Lib.hid (fun h => (hnn h).2); have HB := Lib.hid (grown_below (B1 w _) (by simp) hg (fun k e => by cases e; exact Nat.le_refl _)); clear ho hg hf hnn)
    go_ret
    exact ⟨_, _, rfl, HO.out, HNN.out, HB.out⟩
end Go.Proofs.YtlbjmkljmhfjdaaGreat
namespace Go.Proofs.YtlbjmkljmhfjdaaGreat
open Go Go.RowKit
set_option maxRecDepth 100000 in
set_option maxHeartbeats 4000000 in
theorem gcopyRules_any (A : Option Addr) (l : List Rl) (c : Nat) (hl : l.length ≤ 1000000) (hnc : A = none → c = 0) (hs : ∀ r ∈ l, r.name.size ≤ 281474976710656) (w : World) (h : Rules w A l) :
    Calls Tryz.prog 196 #[.slice A l.length c] w fun e w' => ∃ A' c', e = .returned (.slice A' l.length c') ∧ w'.ownsRow w.heap.size 124 2 (.slice A' l.length c') l.length (rcells l) ∧ (A' = none → c' = 0) ∧ Below w.heap.size w w' := by
  have CL := Lib.hid (cloneRules_any A l c hl hnc w h)
  have HS := Lib.hid hs
  obtain ⟨m, em⟩ : ∃ m, m = l.length := ⟨_, rfl⟩
  have EM := Lib.hid em
  rw [← em] at hl CL ⊢
  clear h hs em hnc
  go_enter Tryz.func196, Tryz.ntmps196
  go_wp2_with (go_at_call 228; refine CL.out.mono ?_; rintro e w1 ⟨A1, c1, rfl, ho, hnn, hb⟩; have HO := Lib.hid ho; have HNN := Lib.hid hnn; have H1 := Lib.hid hb; clear ho hnn hb)
  go_loopw [10] (fun i wr => ∃ k : Nat, k ≤ m ∧ i = .int .i64 k ∧ wr.ownsRow w.heap.size 124 2 (.slice A1 m c1) m (rcells l) ∧ Below w.heap.size w wr) (fun i _ => m - (intOf i).toNat)
  case atStart => exact ⟨0, by omega, rfl, HO.out, H1.out⟩
  case round =>
    obtain ⟨k, hk, rfl, ho, hb⟩ := hrel
    by_cases hlt : k < m
    · have hlt2 : (k : Int) < m := by omega
      obtain ⟨d0, d1⟩ := rcells_at l k (by have := EM.out; omega)
      have hsz := HS.out (l.getD k Rl.zero) (getD_mem (by have := EM.out; omega))
      generalize l.getD k Rl.zero = x at d0 d1 hsz
      obtain ⟨g, rfl⟩ : ∃ g, A1 = some ⟨g, 0, none⟩ := by
        rcases ho.2 with ⟨_, h2⟩ | ⟨g, cap, cur, h1, _⟩
        · omega
        · simp only [Value.slice.injEq] at h1
          exact ⟨g, h1.1⟩
      have c0 := (ho.cellAt (k * 2) (by omega)).trans d0
      have c1' := (ho.cellAt (k * 2 + 1) (by omega)).trans d1
      have CS := Lib.hid (fun w => cloneStr_any x.name hsz w)
      have OB := Lib.hid ho
      have BB := Lib.hid hb
      have D0 := Lib.hid d0
      clear ho hb d0 d1 hsz
      go_wp2_with (first | (refine wpList_store_whole rfl 124 (.tmp 5) (.tmp 14) rfl wr.heap.size #[.string x.name, .int .i64 x.body] rfl rfl 124 _ (Blk.new _ _ _) (by kernel_rfl) (by rfl) (by simp [Value.oneCell']) ?_; intro w2 hk2 hg; have H2 := Lib.hid (grown_below (B1 wr _) (by simp) hg (fun k e => by cases e; exact Nat.le_refl _)); have e0 := hk2.cell 0; simp only [List.getElem?_toArray, List.getElem?_cons_zero, List.getElem?_cons_succ] at e0; clear hk2 hg c0 c1') | (go_at_call 229; refine (CS.out _).mono ?_; rintro e w3 ⟨rfl, hb⟩; have H3 := Lib.hid (bb H2.out hb); have O3 := Lib.hid (own_below OB.out H3.out); have cc := (O3.out.cellAt (k * 2) (by omega)).trans D0.out; have ff := O3.out.frozenAt (k * 2); clear hb e0))
      go_roundw
      case rel =>
        obtain ⟨q1, q2⟩ := O3.out.stored (k * 2) (.string x.name)
        have e : (rcells l).set (k * 2) (.string x.name) = rcells l := by
          apply List.ext_getElem?
          intro j
          rw [List.getElem?_set]
          split
          · rename_i e; subst e; split
            · exact D0.out.symm
            · rw [List.getElem?_eq_none (by omega)]
          · rfl
        rw [e] at q1
        exact ⟨k + 1, by omega, by go_num, q1, grown_below (bb BB.out H3.out) (bb BB.out H3.out).size q2 (fun k e => by cases e; exact (O3.out.lt _ rfl).1)⟩
      case measure => simp [intOf]; omega
    · obtain rfl : k = m := by omega
      have hlt2 : ¬ (k : Int) < k := by omega
      have OB := Lib.hid ho
      have BB := Lib.hid hb
      clear ho hb
      go_wp2_with fail
      go_ret
      exact ⟨_, _, rfl, OB.out, HNN.out, BB.out⟩
end Go.Proofs.YtlbjmkljmhfjdaaGreat

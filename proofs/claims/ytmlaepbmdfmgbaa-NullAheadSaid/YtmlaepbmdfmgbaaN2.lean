/- What the kit's builders build is of its own. -/
import Derived.Test.YtmlaepbmdfmgbaaB2
import Derived.Deep.CutRange
import Derived.Test.YtmlaepbmdfmgbaaN1
import Derived.Maps.AppendAt
set_option linter.unusedSimpArgs false
set_option linter.unusedVariables false
namespace Go.Proofs.Ytmlaepbmdfmgbaa
open Go Go.RowKit
set_option maxRecDepth 100000 in
set_option maxHeartbeats 8000000 in
theorem of_full (kd : Int) (A : Option Addr) (bl : List Bdy) (c : Nat) (K : Int) (w : World) (h : Bds w A bl K) (hl : bl.length ≤ 50) (hK : 0 ≤ K ∧ K ≤ 100000000) :
    Calls Try.prog 32 #[.int .i64 kd, .slice A bl.length c] w fun e w' => ∃ A' c' L, e = .returned (.slice A' L.length c') ∧ L.map Nd.kz = ofL kd (bl.map fun b => b.2.2.map Nd.kz) ∧ Bod w' A' L (K + 100000) ∧ (A' = none → c' = 0) ∧ L.length ≤ 1 + 1000 * bl.length ∧ Owd w w' (.slice A' L.length c') L (K + 100000) ∧ Below w.heap.size w w' := by
  obtain ⟨i0, hi, hz0, hz1, hz2⟩ := info_parts Try.info3
  obtain ⟨i1, ji, jz0, jz1, jz2⟩ := info_parts Try.info44
  have HH := Lib.hid h
  obtain ⟨m, em⟩ : ∃ m, m = bl.length := ⟨_, rfl⟩
  have EM := Lib.hid em
  rw [← em] at hl ⊢
  clear h em
  go_enter Try.func32, Try.ntmps32
  go_wp2_with fail
  have OW0 : RowKit.Hid (Owd w (w.alloc (.cells (leafN kd).cells.toArray 44)) (.slice (some ⟨w.heap.size, 0, none⟩) 1 1) [leafN kd] (K + 100000)) := Lib.hid ⟨by
      have := own_built w 44 1 9 (ncells [leafN kd]) (by simp [ncells, Nd.cells]) (by unfold maxLen; omega)
      simpa [ncells] using this,
    fun x hx => by simp at hx; subst hx; exact ⟨World.ownsRow_nil _ _ _ _, fun _ => rfl⟩,
    fun x hx => by simp at hx; subst hx; exact ⟨by simp [leafN, Nd.zero], by simp [leafN, Nd.zero], by simp [leafN, Nd.zero]⟩, B1 _ _⟩
  go_loopw [5, 6] (fun v i wr => ∃ (k : Nat) (x0 : Nd) (t : List Nd), k ≤ m ∧ i = .int .i64 k ∧ Owd w wr v (x0 :: t) (K + 100000) ∧ Ap x0 t ∧ (x0 :: t).map Nd.kz = ((bl.map fun b => b.2.2.map Nd.kz).take k).foldl ofN [leafN kd] ∧ (x0 :: t).length ≤ 1 + 1000 * k ∧ x0.kids.length = k) (fun _ i _ => m - (intOf i).toNat)
  case atStart => exact ⟨0, leafN kd, [], by omega, by go_num, OW0.out, fun y hy => by simp at hy, by simp [leafN, Nd.kz, Nd.zero], by simp, rfl⟩
  case round =>
    obtain ⟨k, x0, t, hk, rfl, hO, hAp, hsp, hln, hkl⟩ := hrel
    obtain ⟨g0, cap0, rfl, hg0, hgc, hgm, hglt⟩ := own_shape hO.row (by simp)
    have c8 : wr.cell? ⟨g0, 8, none⟩ = some (.slice x0.A x0.kids.length x0.cap) := by
      rw [hO.row.cellAt 8 (by simp; omega)]
      simp [ncells, Nd.cells]
    have HAp := Lib.hid hAp
    have HSP := Lib.hid hsp
    obtain ⟨n, en⟩ : ∃ n, n = (x0 :: t).length := ⟨_, rfl⟩
    have EN := Lib.hid en
    rw [← en] at hln hgc ⊢
    have hn1 : 1 ≤ n := by rw [en]; simp
    have HO := Lib.hid (show Owd w wr (.slice (some ⟨g0, 0, none⟩) n cap0) (x0 :: t) (K + 100000) from by rw [en]; exact hO)
    clear hO hAp hsp en
    by_cases hlt : k < m
    · have hlt2 : (k : Int) < m := by omega
      have hkb : k < bl.length := by have := EM.out; omega
      obtain ⟨b1, o1, eA, hb1, hcells⟩ := HH.out.lies (by simp; omega)
      have cb := hcells k (by simpa using hkb)
      obtain ⟨q0, q1, q2⟩ := HH.out.bod _ (show bl.getD k (none, 0, []) ∈ bl by simp [List.getD, List.getElem?_eq_getElem hkb])
      have eb : (bl.map fun b => Value.slice b.1 b.2.2.length b.2.1)[k]? = some (Value.slice (bl.getD k (none, 0, [])).1 (bl.getD k (none, 0, [])).2.2.length (bl.getD k (none, 0, [])).2.1) := by simp [List.getElem?_map, List.getElem?_eq_getElem hkb, List.getD]
      have es : (bl.map fun b => b.2.2.map Nd.kz)[k]? = some ((bl.getD k (none, 0, [])).2.2.map Nd.kz) := by simp [List.getElem?_map, List.getElem?_eq_getElem hkb, List.getD]
      rw [eb] at cb
      obtain ⟨⟨BA, bc, B⟩, eB⟩ : ∃ q, q = bl.getD k (none, 0, []) := ⟨_, rfl⟩
      rw [← eB] at cb q0 q1 q2 es
      dsimp only at cb q0 q1 q2 es
      have cbA := fun (W : World) (b : Below w.heap.size w W) => (b.cell (p := ⟨b1, o1 + k, none⟩) hb1).trans cb
      have CB := Lib.hid cbA
      have Q0 := Lib.hid q0
      have ES := Lib.hid es
      rw [eA]
      have hks : x0.kids.length ≤ 50 := by omega
      have HKL := Lib.hid hkl
      clear hkl
      clear eb eB hcells cbA q0 es eA cb
      go_upto_region 7 with (at_builtin; refine wpList_append_onto _ rfl (.tmp 23) (.tmp 25) 37 rfl w.heap.size 3 i0 (.int .i64 0) 1 8 Try.underlying37 hi hz0 hz1 hz2 rfl (by decide) (.slice x0.A x0.kids.length x0.cap) x0.kids.length (ints x0.kids) rfl (own_below (HO.out.kids x0 (List.mem_cons_self ..)).1 (B1 wr _)) (some ⟨wr.heap.size, 0, none⟩) 1 1 [.int .i64 n] rfl rfl (new_news wr [.int .i64 n] 3) (fun h => nomatch h) (by simp [Value.oneCell']) (by unfold maxLen; omega) (by omega) (by have := HO.out.low.size; simp; omega) ?_; intro v1 w9 ho hg hf; obtain ⟨A1, c1, rfl, _, _⟩ := own_slice ho; have KD := Lib.hid (HO.out.kid (K' := K + 100000) HAp.out EN.out.symm (B1 wr _) hg ho hf ⟨by omega, by omega⟩ (Int.le_refl _) (by omega)); have c8' := KD.out.2.2.1; have f8' := KD.out.2.2.2; clear ho hg hf)
      obtain ⟨W2, eW2⟩ : ∃ W, W = w9.setCell ⟨g0, 8, none⟩ (.slice A1 (x0.kids.length + 1) c1) := ⟨_, rfl⟩
      have OW := Lib.hid (show Owd w W2 (.slice (some ⟨g0, 0, none⟩) n cap0) (({ x0 with kids := x0.kids ++ [(n : Int)], A := A1, cap := c1 } : Nd) :: t) (K + 100000) from by rw [eW2]; exact KD.out.1)
      have AP := Lib.hid KD.out.2.1
      rw [← eW2]
      have cb := CB.out W2 OW.out.low
      have MV := Lib.hid (moved_any BA B bc n K W2 (Q0.out.below OW.out.low) (by omega) ⟨by omega, by omega⟩ (by omega))
      have ELL : RowKit.Hid ((({ x0 with kids := x0.kids ++ [(n : Int)], A := A1, cap := c1 } : Nd) :: t).length = n) := Lib.hid (by rw [EN.out]; rfl)
      clear eW2 KD c8 c8' f8'
      go_wp2_with fail
      with_reducible refine MV.out.mono ?_
      rintro e w3 ⟨A', c', l', rfl, hm, hB, hrw, hkr, hnn, hb3⟩
      have HM := Lib.hid hm
      have HBo := Lib.hid (hB.mono (K' := K + 100000) (by omega))
      have HKR := Lib.hid hkr
      have HB3 := Lib.hid hb3
      have NEWS := Lib.hid (own_news hrw)
      have ROW3 := Lib.hid (show w3.ownsRow w.heap.size 44 9 (.slice (some ⟨g0, 0, none⟩) n cap0) n (ncells (({ x0 with kids := x0.kids ++ [(n : Int)], A := A1, cap := c1 } : Nd) :: t)) from by
        have q := own_below OW.out.row hb3
        rw [ELL.out] at q
        exact q)
      have hl' : l'.length ≤ 1000 := by rw [hm.1]; exact q1
      clear hm hB hkr hb3 hrw hnn
      go_wp2_with (at_builtin; refine wpList_append_onto _ rfl (.tmp 29) (.tmp 35) 23 rfl w.heap.size 44 i1 Nd.zero.val 9 96 Try.underlying23 ji jz0 jz1 jz2 rfl (by decide) (.slice (some ⟨g0, 0, none⟩) n cap0) n (ncells (({ x0 with kids := x0.kids ++ [(n : Int)], A := A1, cap := c1 } : Nd) :: t)) rfl ROW3.out A' l'.length c' (ncells l') rfl (ncells_length l') NEWS.out.1 NEWS.out.2 (ncells_one l') (by unfold maxLen; omega) (by omega) (by have := OW.out.low.size; have := HB3.out.size; omega) ?_; intro v4 w4 ho hg hf; have HO4 := Lib.hid ho; have HG4 := Lib.hid hg; clear ho hg hf)
      go_roundw
      case rel =>
        have HMn : Moved ((x0 :: t).length : Nat) B l' := by have h := HM.out; rw [EN.out] at h; exact h
        refine ⟨k + 1, ({ x0 with kids := x0.kids ++ [(n : Int)], A := A1, cap := c1 } : Nd), t ++ l', by omega, by go_num, OW.out.app HB3.out HKR.out HBo.out (Int.le_refl _) HG4.out (by rw [ELL.out]; exact HO4.out), AP.out.app OW.out HKR.out, ?_, ?_, ?_⟩
        · have h := of_step (A1 := A1) (c1 := c1) HSP.out ES.out HMn
          rw [← EN.out] at h
          exact h
        · have h1 : (({ x0 with kids := x0.kids ++ [(n : Int)], A := A1, cap := c1 } : Nd) :: (t ++ l')).length = n + l'.length := by rw [← ELL.out]; simp; omega
          rw [h1]; omega
        · show (x0.kids ++ [(n : Int)]).length = k + 1
          rw [List.length_append, HKL.out]; rfl
      case measure => simp [intOf]; omega
    · obtain rfl : k = m := by omega
      have hneg : ¬ (k : Int) < k := by omega
      go_wp2_with fail
      go_ret
      refine ⟨_, _, x0 :: t, by rw [EN.out]; rfl, ?_, (show Owd w wr (.slice (some ⟨g0, 0, none⟩) (x0 :: t).length cap0) (x0 :: t) (K + 100000) from by have h := HO.out; rw [EN.out] at h; exact h).bod (by have := EN.out; omega), (fun h => nomatch h), by rw [← EN.out]; exact hln, (by have h := HO.out; rw [EN.out] at h; exact h), HO.out.low⟩
      rw [HSP.out, EM.out]
      unfold ofL
      rw [List.take_of_length_le (by simp)]
def BodyO (w : World) (spec : List Nd) (K : Int) (e : Ending) (w' : World) : Prop := ∃ A' c' L, e = .returned (.slice A' L.length c') ∧ L.map Nd.kz = spec ∧ Owd w w' (.slice A' L.length c') L K ∧ L.length ≤ 100000 ∧ (A' = none → c' = 0) ∧ Below w.heap.size w w'
theorem Owd.lower {w wa W : World} {v : Value} {L : List Nd} {K : Int} (h : Owd wa W v L K) (hb : Below w.heap.size w wa) : Owd w W v L K :=
  ⟨own_lower h.row hb.size, fun x hx => ⟨own_lower (h.kids x hx).1 hb.size, (h.kids x hx).2⟩, h.bnd, bb hb h.low⟩
theorem kin_full (kd : Int) (A : Option Addr) (c : Nat) (l : List Nd) (K : Int) (w : World) (h : Bod w A l K) (hn : A = none → c = 0) (hl : l.length ≤ 1000) (hK : 0 ≤ K ∧ K ≤ 100000000) :
    Calls Try.prog 11 #[.int .i64 kd, .slice A l.length c] w (BodyO w (ofL kd [l.map Nd.kz]) (K + 100000)) := by
  have OF := Lib.hid (of_full kd (some ⟨w.heap.size, 0, none⟩) [(A, c, l)] 1 K (w.alloc (.cells #[.slice A l.length c] 23)) ⟨lies_one (Blk.new _ _ _), fun b hb => by
    simp at hb; subst hb; exact ⟨h.below (B1 _ _), hl, hn⟩⟩ (by simp) hK)
  clear h
  obtain ⟨m, em⟩ : ∃ m, m = l.length := ⟨_, rfl⟩
  simp only [List.length_singleton] at OF
  rw [← em] at OF ⊢
  have HL := Lib.hid hl
  clear em hl
  go_enter Try.func11, Try.ntmps11
  go_wp2_with fail
  refine OF.out.mono ?_
  rintro e w1 ⟨A1, c1, L, rfl, h1, h2, h3, hq, h5, h4⟩
  have R := Lib.hid (show BodyO w (ofL kd [l.map Nd.kz]) (K + 100000) (.returned (.slice A1 L.length c1)) w1 from ⟨A1, c1, L, rfl, h1, h5.lower (B1 w _), h2.small, h3, bb (B1 w _) h4⟩)
  clear h1 h2 h3 hq h5 h4
  go_wp2_with fail
  go_ret
  exact R.out
theorem chain_full (A : Option Addr) (c : Nat) (l : List Nd) (A2 : Option Addr) (c2 : Nat) (l2 : List Nd) (K : Int) (w : World) (h : Bod w A l K) (h2 : Bod w A2 l2 K) (hn : A = none → c = 0) (hn2 : A2 = none → c2 = 0) (hl : l.length ≤ 1000) (hl2 : l2.length ≤ 1000) (hK : 0 ≤ K ∧ K ≤ 100000000) :
    Calls Try.prog 9 #[.slice A l.length c, .slice A2 l2.length c2] w (BodyO w (ofL 6 [l.map Nd.kz, l2.map Nd.kz]) (K + 100000)) := by
  have OF := Lib.hid (of_full 6 (some ⟨w.heap.size, 0, none⟩) [(A, c, l), (A2, c2, l2)] 2 K (w.alloc (.cells #[.slice A l.length c, .slice A2 l2.length c2] 23)) ⟨lies_two' (Blk.new _ _ _), fun b hb => by
    simp at hb
    rcases hb with rfl | rfl
    · exact ⟨h.below (B1 _ _), hl, hn⟩
    · exact ⟨h2.below (B1 _ _), hl2, hn2⟩⟩ (by simp) hK)
  clear h h2
  have E2 : ([(A, c, l), (A2, c2, l2)] : List Bdy).length = 2 := rfl
  rw [E2] at OF
  have HL := Lib.hid (And.intro hl hl2)
  clear hl hl2 E2
  go_enter Try.func9, Try.ntmps9
  go_wp2_with fail
  refine OF.out.mono ?_
  rintro e w1 ⟨A1, c1, L, rfl, h1, h2, h3, hq, h5, h4⟩
  have R := Lib.hid (show BodyO w (ofL 6 [l.map Nd.kz, l2.map Nd.kz]) (K + 100000) (.returned (.slice A1 L.length c1)) w1 from ⟨A1, c1, L, rfl, h1, h5.lower (B1 w _), h2.small, h3, bb (B1 w _) h4⟩)
  clear h1 h2 h3 hq h5 h4
  go_wp2_with fail
  go_ret
  exact R.out
end Go.Proofs.Ytmlaepbmdfmgbaa
namespace Go.Proofs.Ytmlaepbmdfmgbaa
open Go Go.RowKit Go.Maps
def bcell (b : Bdy) : Value := .slice b.1 b.2.2.length b.2.1
/-- Bodies in a row of the call's own. -/
structure RB (w W : World) (v : Value) (bl : List Bdy) (K : Int) : Prop where
  row : W.ownsRow w.heap.size 23 1 v bl.length (bl.map bcell)
  each : ∀ b ∈ bl, Owd w W (bcell b) b.2.2 K ∧ b.2.2.length ≤ 1000 ∧ (b.1 = none → b.2.1 = 0)
  low : Below w.heap.size w W
theorem RB.nil (w W : World) (K : Int) (hb : Below w.heap.size w W) : RB w W (.slice none 0 0) [] K := ⟨World.ownsRow_nil _ _ _ _, by simp, hb⟩
theorem RB.below {w W W' : World} {v : Value} {bl : List Bdy} {K : Int} (h : RB w W v bl K) (hb : Below W.heap.size W W') : RB w W' v bl K :=
  ⟨own_below h.row hb, fun b hx => ⟨(h.each b hx).1.below hb, (h.each b hx).2⟩, bb h.low hb⟩
theorem own_row_type {W W' : World} {B B' e n n' z : Nat} {v v' : Value} {xs xs' : List Value} (h : W.ownsRow B e z v n xs) (hr : W.ownsRow B' 23 1 v' n' xs') (he : e ≠ 23) (hg : W.grownBy W' v'.ownBlock) : W'.ownsRow B e z v n xs :=
  h.kept hg (by
    cases ho : v.ownBlock with
    | none => exact .inl rfl
    | some b => exact .inr fun e' => he (own_same h hr ho e'.symm))
theorem Owd.rowed {w W W' : World} {v rv : Value} {L : List Nd} {K : Int} {n : Nat} {xs : List Value} (h : Owd w W v L K) (hr : W.ownsRow w.heap.size 23 1 rv n xs) (hg : W.grownBy W' rv.ownBlock) : Owd w W' v L K :=
  ⟨own_row_type h.row hr (by decide) hg, fun x hx => ⟨own_row_type (h.kids x hx).1 hr (by decide) hg, (h.kids x hx).2⟩, h.bnd, grown_below h.low h.low.size hg (fun k e => (hr.lt k e).1)⟩
/-- One body more. -/
theorem RB.add {w W W' : World} {v v' : Value} {bl : List Bdy} {K : Int} {b : Bdy} (h : RB w W v bl K) (hb : Owd w W (bcell b) b.2.2 K) (hl : b.2.2.length ≤ 1000) (hn : b.1 = none → b.2.1 = 0) (ho : W'.ownsRow w.heap.size 23 1 v' (bl.length + 1) (bl.map bcell ++ [bcell b])) (hg : W.grownBy W' v.ownBlock) : RB w W' v' (bl ++ [b]) K := by
  refine ⟨by simpa using ho, fun x hx => ?_, grown_below h.low h.low.size hg (fun k e => (h.row.lt k e).1)⟩
  rcases List.mem_append.1 hx with hx | hx
  · exact ⟨(h.each x hx).1.rowed h.row hg, (h.each x hx).2⟩
  · obtain rfl : x = b := by simpa using hx
    exact ⟨hb.rowed h.row hg, hl, hn⟩
/-- The other row stands. -/
theorem RB.beside {w W W' : World} {v v2 : Value} {bl bl2 : List Bdy} {K : Int} (h : RB w W v bl K) (h2 : RB w W v2 bl2 K) (hne : ∀ k, v.ownBlock = some k → v2.ownBlock ≠ some k) (hg : W.grownBy W' v.ownBlock) : RB w W' v2 bl2 K :=
  ⟨h2.row.kept hg (by
    cases ho : v2.ownBlock with
    | none => exact .inl rfl
    | some q => exact .inr fun e => hne q e.symm ho), fun x hx => ⟨(h2.each x hx).1.rowed h.row hg, (h2.each x hx).2⟩, grown_below h2.low h2.low.size hg (fun k e => (h.row.lt k e).1)⟩
/-- They still lie apart. -/
theorem RB.apart {w W : World} {v v' v2 : Value} {bl2 : List Bdy} {K : Int} (h2 : RB w W v2 bl2 K) (hne : ∀ k, v.ownBlock = some k → v2.ownBlock ≠ some k) (ho : v'.ownBlock = v.ownBlock ∨ v'.ownBlock = some W.heap.size) : ∀ k, v'.ownBlock = some k → v2.ownBlock ≠ some k := fun k hk e => by
  rcases ho with ho | ho
  · exact hne k (by rw [← ho]; exact hk) e
  · rw [ho] at hk
    have := (h2.row.lt k e).2
    have := Option.some.inj hk
    omega
/-- To the kit's Gram they are bodies in memory. -/
theorem RB.bds {w W : World} {A : Option Addr} {c : Nat} {bl : List Bdy} {K : Int} (h : RB w W (.slice A bl.length c) bl K) : Bds W A bl K := by
  refine ⟨?_, fun b hb => ?_⟩
  · have := own_lies (xs := bl.map bcell) (A := A) (c := c) (by rw [List.length_map]; exact h.row)
    exact this
  · obtain ⟨h1, h2, h3⟩ := h.each b hb
    exact ⟨h1.bod (by omega), h2, h3⟩
end Go.Proofs.Ytmlaepbmdfmgbaa
namespace Go.Proofs.Ytmlaepbmdfmgbaa
open Go Go.RowKit Go.Maps
theorem Try.underlying_nll : Try.prog.underlying 29 = some (.slice 23) := by kernel_rfl
theorem leaf_full (kd : Int) (w : World) : Calls Try.prog 10 #[.int .i64 kd] w (BodyO w [leafN kd] 0) := by
  go_enter Try.func10, Try.ntmps10
  go_wp2_with fail
  go_ret
  have h := own_built w 44 1 9 (ncells [leafN kd]) (by simp [ncells, Nd.cells]) (by unfold maxLen; omega)
  refine ⟨some ⟨w.heap.size, 0, none⟩, 1, [leafN kd], rfl, by simp [Nd.kz, leafN, Nd.zero], ⟨h, fun y hy => ?_, fun y hy => ?_, B1 _ _⟩, by simp, (fun h => nomatch h), B1 _ _⟩
  · obtain rfl : y = leafN kd := by simpa using hy
    exact ⟨World.ownsRow_nil _ _ _ _, fun _ => rfl⟩
  · obtain rfl : y = leafN kd := by simpa using hy
    exact ⟨by simp [leafN, Nd.zero], by simp [leafN, Nd.zero], by simp [leafN, Nd.zero]⟩
theorem Try.info_nl : (Try.prog.info? 23).map (fun i => (i.zero, i.size, i.bytes)) = some (some (.slice none 0 0), 1, 24) := by kernel_rfl
set_option maxRecDepth 100000 in
set_option maxHeartbeats 2000000 in
theorem size12_all (g : Gr) (w : World) (hg : Gr.At w g) : Calls Try.prog 18 #[g.val] w fun e w' => (∃ z : Int, e = .returned (.int .i64 z) ∧ (z ≤ 300 → g.rules.length + g.nodes.length ≤ 300 ∧ ∀ x ∈ g.nodes, x.kids.length ≤ 300)) ∧ Below w.heap.size w w' := by
  have HG := Lib.hid hg
  have h1 := hg.rl
  have h2 := hg.nl
  obtain ⟨RA, rc, rules, NA, nc, nodes⟩ := g
  dsimp only at h1 h2
  obtain ⟨m, em⟩ : ∃ m, m = nodes.length := ⟨_, rfl⟩
  obtain ⟨r, er⟩ : ∃ m, m = rules.length := ⟨_, rfl⟩
  show Calls Try.prog 18 #[.agg #[.slice RA rules.length rc, .slice NA nodes.length nc]] w _
  have EM := Lib.hid em
  have ER := Lib.hid er
  rw [← em, ← er]
  rw [← em] at h2
  rw [← er] at h1
  clear hg em er
  go_enter Try.func18, Try.ntmps18
  go_wp2_with fail
  obtain ⟨wb, ewb⟩ : ∃ u, u = w.alloc (.cells #[.slice RA r rc, .slice NA m nc] 25) := ⟨_, rfl⟩
  have hb2 : Below w.heap.size w wb := by rw [ewb]; exact B1 _ _
  have c0 : wb.cell? ⟨w.heap.size, 0, none⟩ = some (.slice RA r rc) := by rw [ewb]; exact (Blk.new _ _ _).cell 0
  have c1 : wb.cell? ⟨w.heap.size, 1, none⟩ = some (.slice NA m nc) := by rw [ewb]; exact (Blk.new _ _ _).cell 1
  rw [← ewb]
  have BB := Lib.hid hb2
  clear ewb hb2
  go_loopw [3, 4] (fun s i wr => ∃ (k : Nat) (n : Int), k ≤ m ∧ s = .int .i64 n ∧ i = .int .i64 k ∧ n ≤ 500000000000000 ∧ (r + m : Nat) ≤ n ∧ (∀ j, j < k → ((nodes.getD j Nd.zero).kids.length : Int) ≤ n) ∧ wr = wb) (fun _ i _ => m - (intOf i).toNat)
  case atStart => exact ⟨0, r + m, by omega, rfl, rfl, by omega, by omega, fun j h => by omega, rfl⟩
  case round =>
    obtain ⟨k, n, hk, rfl, rfl, hn, hn0, hkk, rfl⟩ := hrel
    have HK := Lib.hid hkk
    clear hkk
    by_cases hlt : k < m
    · have hlt2 : (k : Int) < m := by omega
      by_cases hle : n ≤ 300
      · obtain ⟨b1, o1, eA, _, _, _, _, _, _, _, _, _, c9⟩ := (HG.out.below BB.out).nodes.nine (show k < nodes.length by have := EM.out; omega)
        have hx := ((HG.out.below BB.out).node (show k < nodes.length by have := EM.out; omega)).2.2
        dsimp only at eA c9 hx
        rw [eA] at c1
        generalize hxx : nodes.getD k Nd.zero = x at c9 hx
        have HX := Lib.hid hxx
        clear eA hxx
        go_wp2_with fail
        go_roundw
        case rel => exact ⟨k + 1, n + x.kids.length, by omega, by first | rfl | go_num, by go_num, by omega, by omega, fun j hj => (by
          by_cases ej : j = k
          · subst ej; rw [HX.out]; omega
          · have := HK.out j (by omega); omega), by first | trivial | rfl⟩
        case measure => simp [intOf]; omega
      · have hle2 : 300 < n := by omega
        go_wp2_with fail
        go_ret
        exact ⟨⟨n, rfl, fun h => absurd h (by omega)⟩, BB.out⟩
    · obtain rfl : k = m := by omega
      have hlt2 : ¬ (k : Int) < k := by omega
      go_wp2_with fail
      go_ret
      exact ⟨⟨n, rfl, fun h => ⟨by have := EM.out; have := ER.out; omega, fun x hx => by
        obtain ⟨j, hj, rfl⟩ := List.getElem_of_mem hx
        have := HK.out j (by have := EM.out; omega)
        simp only [List.getD, List.getElem?_eq_getElem hj, Option.getD_some] at this
        skip
        omega⟩⟩, BB.out⟩
end Go.Proofs.Ytmlaepbmdfmgbaa

/- The kit's Of, Leaf, Word, Call, In, Chain, First. -/
import Derived.Test.YtlbjmkljmhfjdaaGreatB8
import Derived.Deep.CutRange
import Derived.Test.YtlbjmkljmhfjdaaGreatB5
import Derived.Test.YtlbjmkljmhfjdaaGreatC1
set_option linter.unusedSimpArgs false
set_option linter.unusedVariables false
namespace Go.Proofs.YtlbjmkljmhfjdaaGreat
open Go Go.RowKit
theorem own_built (w : World) (T n size : Nat) (xs : List Value) (hx : xs.length = n * size) (hn : n ≤ maxLen) : (w.alloc (.cells xs.toArray T)).ownsRow w.heap.size T size (.slice (some ⟨w.heap.size, 0, none⟩) n n) n xs :=
  ⟨hx, .inr ⟨w.heap.size, n, xs.toArray, rfl, Nat.le_refl _, Blk.new _ _ _, Nat.le_refl _, hn, by simpa using hx, by simp [← hx]⟩⟩
theorem own_news {w : World} {B e z n c : Nat} {A : Option Addr} {xs : List Value} (h : w.ownsRow B e z (.slice A n c) n xs) : (∀ a, A = some a → ∀ j u, xs[j]? = some u → w.cell? (a.add j) = some u) ∧ (A = none → n = 0 ∧ c = 0) := by
  refine ⟨fun a ha => ?_, fun hA => ?_⟩
  · rcases h.2 with ⟨h1, _⟩ | ⟨g, cap, cur, h1, _⟩
    · simp only [Value.slice.injEq] at h1; rw [h1.1] at ha; cases ha
    · simp only [Value.slice.injEq] at h1
      obtain ⟨e1, _, _⟩ := h1
      rw [e1] at ha h
      cases ha
      exact h.cells (g := g) rfl
  · obtain ⟨A', c', e, h1, _⟩ := own_slice h
    simp only [Value.slice.injEq] at e
    rw [e.2.2]
    exact h1 (by rw [← e.1]; exact hA)
theorem ncells_one : ∀ l : List Nd, ∀ u ∈ ncells l, u.oneCell' = true
  | [], u, hu => by simp [ncells] at hu
  | x :: l, u, hu => by
    simp only [ncells] at hu
    rcases List.mem_append.1 hu with hu | hu
    · exact cells_one x u hu
    · exact ncells_one l u hu
theorem of_step {x0 : Nd} {t l' b : List Nd} {k : Int} {bls : List (List Nd)} {i : Nat} {A1 : Option Addr} {c1 : Nat} (h : (x0 :: t).map Nd.kz = (bls.take i).foldl ofN [leafN k]) (hi : bls[i]? = some (b.map Nd.kz)) (hm : Moved ((x0 :: t).length : Nat) b l') :
    (({ x0 with kids := x0.kids ++ [((x0 :: t).length : Int)], A := A1, cap := c1 } : Nd) :: (t ++ l')).map Nd.kz = (bls.take (i + 1)).foldl ofN [leafN k] := by
  rw [List.take_add_one, hi, Option.toList_some, List.foldl_append, ← h]
  simp only [List.map_cons, List.foldl_cons, List.foldl_nil, ofN, List.map_append, hm.kz, List.length_cons, List.length_map]
  rfl
set_option maxRecDepth 100000 in
set_option maxHeartbeats 8000000 in
theorem of_any (kd : Int) (A : Option Addr) (bl : List Bdy) (c : Nat) (K : Int) (w : World) (h : Bds w A bl K) (hl : bl.length ≤ 50) (hK : 0 ≤ K ∧ K ≤ 100000000) :
    Calls Tryz.prog 88 #[.int .i64 kd, .slice A bl.length c] w fun e w' => ∃ A' c' L, e = .returned (.slice A' L.length c') ∧ L.map Nd.kz = ofL kd (bl.map fun b => b.2.2.map Nd.kz) ∧ Bod w' A' L (K + 100000) ∧ (A' = none → c' = 0) ∧ L.length ≤ 1 + 1000 * bl.length ∧ Below w.heap.size w w' := by
  obtain ⟨i0, hi, hz0, hz1, hz2⟩ := info_parts Tryz.info3
  obtain ⟨i1, ji, jz0, jz1, jz2⟩ := info_parts Tryz.info40
  have HH := Lib.hid h
  obtain ⟨m, em⟩ : ∃ m, m = bl.length := ⟨_, rfl⟩
  have EM := Lib.hid em
  rw [← em] at hl ⊢
  clear h em
  go_enter Tryz.func88, Tryz.ntmps88
  go_wp2_with fail
  have OW0 : RowKit.Hid (Owd w (w.alloc (.cells (leafN kd).cells.toArray 40)) (.slice (some ⟨w.heap.size, 0, none⟩) 1 1) [leafN kd] (K + 100000)) := Lib.hid ⟨by
      have := own_built w 40 1 9 (ncells [leafN kd]) (by simp [ncells, Nd.cells]) (by unfold maxLen; omega)
      simpa [ncells] using this,
    fun x hx => by simp at hx; subst hx; exact ⟨World.ownsRow_nil _ _ _ _, fun _ => rfl⟩,
    fun x hx => by simp at hx; subst hx; exact ⟨by simp [leafN, Nd.zero], by simp [leafN, Nd.zero], by simp [leafN, Nd.zero]⟩, B1 _ _⟩
  go_loopw [5, 6] (fun v i wr => ∃ (k : Nat) (x0 : Nd) (t : List Nd), k ≤ m ∧ i = .int .i64 k ∧ Owd w wr v (x0 :: t) (K + 100000) ∧ Ap x0 t ∧ (x0 :: t).map Nd.kz = ((bl.map fun b => b.2.2.map Nd.kz).take k).foldl ofN [leafN kd] ∧ (x0 :: t).length ≤ 1 + 1000 * k ∧ x0.kids.length = k) (fun _ i _ => m - (RowKit.intOf i).toNat)
  case atStart => exact ⟨0, leafN kd, [], by omega, by go_num, OW0.out, fun y hy => by simp at hy, by simp [leafN, Nd.kz, Nd.zero], by simp, rfl⟩
  case round =>
    obtain ⟨k, x0, t, hk, rfl, hO, hAp, hsp, hln, hkl⟩ := hrel
    obtain ⟨g0, cap0, rfl, hg0, hgc, hgm, hglt⟩ := own_shape hO.row (by simp)
    have c8 : wr.cell? ⟨g0, 8, none⟩ = some (.slice x0.A x0.kids.length x0.cap) := by
      rw [hO.row.cellAt 8 (by simp; omega)]
      simp [ncells, Nd.cells]
    have HAp := Lib.hid hAp
    have HSP := Lib.hid hsp
    obtain ⟨n, en⟩ : ∃ n, n = (x0 :: t).length := ⟨_, rfl⟩
    have EN := Lib.hid en
    rw [← en] at hln hgc ⊢
    have hn1 : 1 ≤ n := by rw [en]; simp
    have HO := Lib.hid (show Owd w wr (.slice (some ⟨g0, 0, none⟩) n cap0) (x0 :: t) (K + 100000) from by rw [en]; exact hO)
    clear hO hAp hsp en
    by_cases hlt : k < m
    · have hlt2 : (k : Int) < m := by omega
      have hkb : k < bl.length := by have := EM.out; omega
      obtain ⟨b1, o1, eA, hb1, hcells⟩ := HH.out.lies (by simp; omega)
      have cb := hcells k (by simpa using hkb)
      obtain ⟨q0, q1, q2⟩ := HH.out.bod _ (show bl.getD k (none, 0, []) ∈ bl by simp [List.getD, List.getElem?_eq_getElem hkb])
      have eb : (bl.map fun b => Value.slice b.1 b.2.2.length b.2.1)[k]? = some (Value.slice (bl.getD k (none, 0, [])).1 (bl.getD k (none, 0, [])).2.2.length (bl.getD k (none, 0, [])).2.1) := by simp [List.getElem?_map, List.getElem?_eq_getElem hkb, List.getD]
      have es : (bl.map fun b => b.2.2.map Nd.kz)[k]? = some ((bl.getD k (none, 0, [])).2.2.map Nd.kz) := by simp [List.getElem?_map, List.getElem?_eq_getElem hkb, List.getD]
      rw [eb] at cb
      obtain ⟨⟨BA, bc, B⟩, eB⟩ : ∃ q, q = bl.getD k (none, 0, []) := ⟨_, rfl⟩
      rw [← eB] at cb q0 q1 q2 es
      dsimp only at cb q0 q1 q2 es
      have cbA := fun (W : World) (b : Below w.heap.size w W) => (b.cell (p := ⟨b1, o1 + k, none⟩) hb1).trans cb
      have CB := Lib.hid cbA
      have Q0 := Lib.hid q0
      have ES := Lib.hid es
      rw [eA]
      have hks : x0.kids.length ≤ 50 := by omega
      have HKL := Lib.hid hkl
      clear hkl
      clear eb eB hcells cbA q0 es eA cb
      go_upto_region 7 with (at_builtin; refine wpList_append_onto _ rfl (.tmp 23) (.tmp 25) 38 rfl w.heap.size 3 i0 (.int .i64 0) 1 8 Tryz.underlying38 hi hz0 hz1 hz2 rfl (by decide) (.slice x0.A x0.kids.length x0.cap) x0.kids.length (ints x0.kids) rfl (own_below (HO.out.kids x0 (List.mem_cons_self ..)).1 (B1 wr _)) (some ⟨wr.heap.size, 0, none⟩) 1 1 [.int .i64 n] rfl rfl (new_news wr [.int .i64 n] 3) (fun h => nomatch h) (by simp [Value.oneCell']) (by unfold maxLen; omega) (by omega) (by have := HO.out.low.size; simp; omega) ?_; intro v1 w9 ho hg hf; obtain ⟨A1, c1, rfl, _, _⟩ := own_slice ho; have KD := Lib.hid (HO.out.kid (K' := K + 100000) HAp.out EN.out.symm (B1 wr _) hg ho hf ⟨by omega, by omega⟩ (Int.le_refl _) (by omega)); have c8' := KD.out.2.2.1; have f8' := KD.out.2.2.2; clear ho hg hf)
      obtain ⟨W2, eW2⟩ : ∃ W, W = w9.setCell ⟨g0, 8, none⟩ (.slice A1 (x0.kids.length + 1) c1) := ⟨_, rfl⟩
      have OW := Lib.hid (show Owd w W2 (.slice (some ⟨g0, 0, none⟩) n cap0) (({ x0 with kids := x0.kids ++ [(n : Int)], A := A1, cap := c1 } : Nd) :: t) (K + 100000) from by rw [eW2]; exact KD.out.1)
      have AP := Lib.hid KD.out.2.1
      rw [← eW2]
      have cb := CB.out W2 OW.out.low
      have MV := Lib.hid (moved_any BA B bc n K W2 (Q0.out.below OW.out.low) (by omega) ⟨by omega, by omega⟩ (by omega))
      have ELL : RowKit.Hid ((({ x0 with kids := x0.kids ++ [(n : Int)], A := A1, cap := c1 } : Nd) :: t).length = n) := Lib.hid (by rw [EN.out]; rfl)
      clear eW2 KD c8 c8' f8'
      go_wp2_with fail
      with_reducible refine MV.out.mono ?_
      rintro e w3 ⟨A', c', l', rfl, hm, hB, hrw, hkr, hnn, hb3⟩
      have HM := Lib.hid hm
      have HBo := Lib.hid (hB.mono (K' := K + 100000) (by omega))
      have HKR := Lib.hid hkr
      have HB3 := Lib.hid hb3
      have NEWS := Lib.hid (own_news hrw)
      have ROW3 := Lib.hid (show w3.ownsRow w.heap.size 40 9 (.slice (some ⟨g0, 0, none⟩) n cap0) n (ncells (({ x0 with kids := x0.kids ++ [(n : Int)], A := A1, cap := c1 } : Nd) :: t)) from by
        have q := own_below OW.out.row hb3
        rw [ELL.out] at q
        exact q)
      have hl' : l'.length ≤ 1000 := by rw [hm.1]; exact q1
      clear hm hB hkr hb3 hrw hnn
      go_wp2_with (at_builtin; refine wpList_append_onto _ rfl (.tmp 29) (.tmp 35) 23 rfl w.heap.size 40 i1 Nd.zero.val 9 96 Tryz.underlying23 ji jz0 jz1 jz2 rfl (by decide) (.slice (some ⟨g0, 0, none⟩) n cap0) n (ncells (({ x0 with kids := x0.kids ++ [(n : Int)], A := A1, cap := c1 } : Nd) :: t)) rfl ROW3.out A' l'.length c' (ncells l') rfl (ncells_length l') NEWS.out.1 NEWS.out.2 (ncells_one l') (by unfold maxLen; omega) (by omega) (by have := OW.out.low.size; have := HB3.out.size; omega) ?_; intro v4 w4 ho hg hf; have HO4 := Lib.hid ho; have HG4 := Lib.hid hg; clear ho hg hf)
      go_roundw
      case rel =>
        have HMn : Moved ((x0 :: t).length : Nat) B l' := by have h := HM.out; rw [EN.out] at h; exact h
        refine ⟨k + 1, ({ x0 with kids := x0.kids ++ [(n : Int)], A := A1, cap := c1 } : Nd), t ++ l', by omega, by go_num, OW.out.app HB3.out HKR.out HBo.out (Int.le_refl _) HG4.out (by rw [ELL.out]; exact HO4.out), AP.out.app OW.out HKR.out, ?_, ?_, ?_⟩
        · have h := of_step (A1 := A1) (c1 := c1) HSP.out ES.out HMn
          rw [← EN.out] at h
          exact h
        · have h1 : (({ x0 with kids := x0.kids ++ [(n : Int)], A := A1, cap := c1 } : Nd) :: (t ++ l')).length = n + l'.length := by rw [← ELL.out]; simp; omega
          rw [h1]; omega
        · show (x0.kids ++ [(n : Int)]).length = k + 1
          rw [List.length_append, HKL.out]; rfl
      case measure => simp [RowKit.intOf]; omega
    · obtain rfl : k = m := by omega
      have hneg : ¬ (k : Int) < k := by omega
      go_wp2_with fail
      go_ret
      refine ⟨_, _, x0 :: t, by rw [EN.out]; rfl, ?_, (show Owd w wr (.slice (some ⟨g0, 0, none⟩) (x0 :: t).length cap0) (x0 :: t) (K + 100000) from by have h := HO.out; rw [EN.out] at h; exact h).bod (by have := EN.out; omega), (fun h => nomatch h), by rw [← EN.out]; exact hln, HO.out.low⟩
      rw [HSP.out, EM.out]
      unfold ofL
      rw [List.take_of_length_le (by simp)]
end Go.Proofs.YtlbjmkljmhfjdaaGreat
namespace Go.Proofs.YtlbjmkljmhfjdaaGreat
open Go Go.RowKit
/-- A body that is told. -/
def Body (w : World) (spec : List Nd) (K : Int) (e : Ending) (w' : World) : Prop := ∃ A' c' L, e = .returned (.slice A' L.length c') ∧ L.map Nd.kz = spec ∧ Bod w' A' L K ∧ (A' = none → c' = 0) ∧ Below w.heap.size w w'
theorem body_one (w : World) (x : Nd) (hA : x.A = none) (hc : x.cap = 0) (hk : x.kids = []) (ht : x.text.size ≤ 9223372036854775807) : Body w [x] 0 (.returned (.slice (some ⟨w.heap.size, 0, none⟩) 1 1)) (w.alloc (.cells x.cells.toArray 40)) := by
  refine ⟨some ⟨w.heap.size, 0, none⟩, 1, [x], rfl, by simp [Nd.kz, ← hA, ← hc], ⟨?_, fun y hy => ?_, fun y hy => ?_, by simp⟩, (fun h => nomatch h), B1 _ _⟩
  · have := own_built w 40 1 9 (ncells [x]) (by simp [ncells, Nd.cells]) (by unfold maxLen; omega)
    simp only [ncells, List.append_nil] at this
    exact own_nodes (l := [x]) (by simpa [ncells] using this)
  · simp at hy; subst hy
    exact ⟨⟨fun h => by rw [hk] at h; simp [ints] at h, fun _ => hc, by rw [hk]; simp⟩, by rw [hk]; simp, fun k hk' => by rw [hk] at hk'; simp at hk'⟩
  · simp at hy; subst hy; exact ht
def wordN (s : ByteArray) : Nd := { Nd.zero with kind := 4, text := s }
def callN (r l : Int) : Nd := { Nd.zero with kind := 5, rule := r, level := l }
theorem word_any (s : ByteArray) (hs : s.size ≤ 9223372036854775807) (w : World) : Calls Tryz.prog 75 #[.string s] w (Body w [wordN s] 0) := by
  have B := Lib.hid (body_one w (wordN s) rfl rfl rfl hs)
  go_enter Tryz.func75, Tryz.ntmps75
  go_wp2_with fail
  go_ret
  exact B.out
theorem kcall_any (r l : Int) (w : World) : Calls Tryz.prog 86 #[.int .i64 r, .int .i64 l] w (Body w [callN r l] 0) := by
  have B := Lib.hid (body_one w (callN r l) rfl rfl rfl (by simp [callN, Nd.zero]))
  go_enter Tryz.func86, Tryz.ntmps86
  go_wp2_with fail
  go_ret
  exact B.out
theorem lies_two' {w : World} {b : Nat} {x y : Value} {T : TypeId} (h : Blk w b #[x, y] T) : Lies w (some ⟨b, 0, none⟩) [x, y] := fun _ => ⟨b, 0, rfl, h.lt, fun i hi => by
  have : i = 0 ∨ i = 1 := by simp at hi; omega
  rcases this with rfl | rfl <;> (rw [Nat.zero_add, h.cell]; rfl)⟩
theorem chain_any (A : Option Addr) (c : Nat) (l : List Nd) (A2 : Option Addr) (c2 : Nat) (l2 : List Nd) (K : Int) (w : World) (h : Bod w A l K) (h2 : Bod w A2 l2 K) (hn : A = none → c = 0) (hn2 : A2 = none → c2 = 0) (hl : l.length ≤ 1000) (hl2 : l2.length ≤ 1000) (hK : 0 ≤ K ∧ K ≤ 100000000) :
    Calls Tryz.prog 89 #[.slice A l.length c, .slice A2 l2.length c2] w (Body w (ofL 6 [l.map Nd.kz, l2.map Nd.kz]) (K + 100000)) := by
  have OF := Lib.hid (of_any 6 (some ⟨w.heap.size, 0, none⟩) [(A, c, l), (A2, c2, l2)] 2 K (w.alloc (.cells #[.slice A l.length c, .slice A2 l2.length c2] 23)) ⟨lies_two' (Blk.new _ _ _), fun b hb => by
    simp at hb
    rcases hb with rfl | rfl
    · exact ⟨h.below (B1 _ _), hl, hn⟩
    · exact ⟨h2.below (B1 _ _), hl2, hn2⟩⟩ (by simp) hK)
  clear h h2
  have E2 : ([(A, c, l), (A2, c2, l2)] : List Bdy).length = 2 := rfl
  rw [E2] at OF
  have HL := Lib.hid (And.intro hl hl2)
  clear hl hl2 E2
  go_enter Tryz.func89, Tryz.ntmps89
  go_wp2_with fail
  refine OF.out.mono ?_
  rintro e w1 ⟨A1, c1, L, rfl, h1, h2, h3, _, h4⟩
  have R := Lib.hid (show Body w (ofL 6 [l.map Nd.kz, l2.map Nd.kz]) (K + 100000) (.returned (.slice A1 L.length c1)) w1 from ⟨A1, c1, L, rfl, h1, h2, h3, bb (B1 w _) h4⟩)
  clear h1 h2 h3 h4
  go_wp2_with fail
  go_ret
  exact R.out
theorem first_any (A : Option Addr) (c : Nat) (l : List Nd) (A2 : Option Addr) (c2 : Nat) (l2 : List Nd) (K : Int) (w : World) (h : Bod w A l K) (h2 : Bod w A2 l2 K) (hn : A = none → c = 0) (hn2 : A2 = none → c2 = 0) (hl : l.length ≤ 1000) (hl2 : l2.length ≤ 1000) (hK : 0 ≤ K ∧ K ≤ 100000000) :
    Calls Tryz.prog 87 #[.slice A l.length c, .slice A2 l2.length c2] w (Body w (ofL 7 [l.map Nd.kz, l2.map Nd.kz]) (K + 100000)) := by
  have OF := Lib.hid (of_any 7 (some ⟨w.heap.size, 0, none⟩) [(A, c, l), (A2, c2, l2)] 2 K (w.alloc (.cells #[.slice A l.length c, .slice A2 l2.length c2] 23)) ⟨lies_two' (Blk.new _ _ _), fun b hb => by
    simp at hb
    rcases hb with rfl | rfl
    · exact ⟨h.below (B1 _ _), hl, hn⟩
    · exact ⟨h2.below (B1 _ _), hl2, hn2⟩⟩ (by simp) hK)
  clear h h2
  have E2 : ([(A, c, l), (A2, c2, l2)] : List Bdy).length = 2 := rfl
  rw [E2] at OF
  have HL := Lib.hid (And.intro hl hl2)
  clear hl hl2 E2
  go_enter Tryz.func87, Tryz.ntmps87
  go_wp2_with fail
  refine OF.out.mono ?_
  rintro e w1 ⟨A1, c1, L, rfl, h1, h2, h3, _, h4⟩
  have R := Lib.hid (show Body w (ofL 7 [l.map Nd.kz, l2.map Nd.kz]) (K + 100000) (.returned (.slice A1 L.length c1)) w1 from ⟨A1, c1, L, rfl, h1, h2, h3, bb (B1 w _) h4⟩)
  clear h1 h2 h3 h4
  go_wp2_with fail
  go_ret
  exact R.out
end Go.Proofs.YtlbjmkljmhfjdaaGreat
namespace Go.Proofs.YtlbjmkljmhfjdaaGreat
open Go Go.RowKit
def nameB (i : Nat) : ByteArray := ⟨#[UInt8.ofNat (65 + i)]⟩
def gramN (a : List Rl × List Nd) (b : List Nd) : List Rl × List Nd := (a.1 ++ [⟨nameB a.1.length, (a.2.length : Int)⟩], a.2 ++ b.map (mvk a.2.length))
def gramL (bl : List (List Nd)) : List Rl × List Nd := bl.foldl gramN ([], [])
theorem rcells_app : ∀ (l : List Rl) (r : Rl), rcells (l ++ [r]) = rcells l ++ [.string r.name, .int .i64 r.body]
  | [], r => rfl
  | x :: l, r => by simp [rcells, rcells_app l r]
structure GrS (w W : World) (gb : Nat) (R : List Rl) (L : List Nd) (rv nv : Value) (K : Int) : Prop where
  blk : Blk W gb #[rv, nv] 25
  lo : w.heap.size ≤ gb
  rules : W.ownsRow w.heap.size 124 2 rv R.length (rcells R)
  nodes : Owd w W nv L K
theorem gram_step {R : List Rl} {L l' b : List Nd} {bls : List (List Nd)} {i : Nat} (h : (R, L.map Nd.kz) = (bls.take i).foldl gramN ([], [])) (hi : bls[i]? = some (b.map Nd.kz)) (hm : Moved (L.length : Nat) b l') :
    (R ++ [⟨nameB R.length, (L.length : Int)⟩], (L ++ l').map Nd.kz) = (bls.take (i + 1)).foldl gramN ([], []) := by
  rw [List.take_add_one, hi, Option.toList_some, List.foldl_append, ← h]
  simp only [List.foldl_cons, List.foldl_nil, gramN, List.map_append, hm.kz, List.length_map]
/-- A row that is stored into, in a block that is no row of one's own. -/
theorem own_off {W W' : World} {B e z n gb : Nat} {v : Value} {xs : List Value} {vs : Array Value} {T : TypeId} (h : W.ownsRow B e z v n xs) (hb : Blk W gb vs T) (hT : T ≠ e) (hg : W.grownBy W' (some gb)) : W'.ownsRow B e z v n xs :=
  h.kept hg (by
    cases ho : v.ownBlock with
    | none => exact .inl rfl
    | some b => exact .inr fun e' => own_ne h hb hT (by rw [ho]; exact e'))
theorem setCell_grown (W : World) (b o : Nat) (v : Value) : W.grownBy (W.setCell ⟨b, o, none⟩ v) (some b) := by
  have h := Below.setCell (Below.refl b W) (p := ⟨b, o, none⟩) (Nat.le_refl _) v
  exact ⟨h.os, h.tape, h.output, h.size, fun k hk hne => Below.heap_setCell _ _ _ k (fun e => hne (by rw [show k = b from e]))⟩
theorem Owd.off {w W W' : World} {v : Value} {L : List Nd} {K : Int} {gb : Nat} {vs : Array Value} {T : TypeId} (h : Owd w W v L K) (hb : Blk W gb vs T) (hT : T ≠ 40 ∧ T ≠ 3) (hlo : w.heap.size ≤ gb) (hg : W.grownBy W' (some gb)) : Owd w W' v L K :=
  ⟨own_off h.row hb hT.1 hg, fun x hx => ⟨own_off (h.kids x hx).1 hb hT.2 hg, (h.kids x hx).2⟩, h.bnd, grown_below h.low h.low.size hg (fun k e => by cases e; exact hlo)⟩
theorem Owd.apart {w W : World} {v rv : Value} {L : List Nd} {K : Int} {R : List Rl} {B : Nat} (h : Owd w W v L K) (hr : W.ownsRow B 124 2 rv R.length (rcells R)) {W' : World} (hg : W.grownBy W' rv.ownBlock) (hlo : ∀ k, rv.ownBlock = some k → w.heap.size ≤ k) : Owd w W' v L K := by
  have key : ∀ {B' e z n : Nat} {v' : Value} {xs : List Value}, W.ownsRow B' e z v' n xs → e ≠ 124 → W'.ownsRow B' e z v' n xs := fun {B' e z n v' xs} h' he => h'.kept hg (by
    cases ho : v'.ownBlock with
    | none => exact .inl rfl
    | some b => exact .inr fun e' => he (own_same h' hr ho e'.symm))
  exact ⟨key h.row (by decide), fun x hx => ⟨key (h.kids x hx).1 (by decide), (h.kids x hx).2⟩, h.bnd, grown_below h.low h.low.size hg hlo⟩
theorem GrS.rule_more {w W Wa W9 : World} {gb : Nat} {R : List Rl} {L : List Nd} {rv nv v1 : Value} {K : Int} {r : Rl} (h : GrS w W gb R L rv nv K) (hb : Below W.heap.size W Wa) (hg : Wa.grownBy W9 rv.ownBlock)
    (ho : W9.ownsRow w.heap.size 124 2 v1 (R.length + 1) (rcells R ++ [.string r.name, .int .i64 r.body])) :
    GrS w (W9.setCell ⟨gb, 0, none⟩ v1) gb (R ++ [r]) L v1 nv K ∧ W9.cell? ⟨gb, 0, none⟩ = some rv ∧ W9.frozen? ⟨gb, 0, none⟩ = false := by
  have ra := own_below h.rules hb
  have na := h.nodes.below hb
  have n9 := na.apart ra hg (fun k e => (ra.lt k e).1)
  have b9 : Blk W9 gb #[rv, nv] 25 := (h.blk.below' hb).grown hg (fun e => own_ne ra (h.blk.below' hb) (by decide) e.symm)
  have hs := setCell_grown W9 gb 0 v1
  refine ⟨⟨heap_setCell_same W9 gb 0 #[rv, nv] 25 v1 b9, h.lo, ?_, n9.off b9 ⟨by decide, by decide⟩ h.lo hs⟩, b9.cell 0, b9.frozen 0⟩
  rw [List.length_append, rcells_app]
  exact own_off ho b9 (by decide) hs
theorem GrS.nodes_more {w W W3 W4 : World} {gb : Nat} {R : List Rl} {L l' : List Nd} {rv nv v4 : Value} {K K' : Int} (h : GrS w W gb R L rv nv K) (hb : Below W.heap.size W W3) (hk : ∀ x ∈ l', W3.ownsRow W.heap.size 3 1 (.slice x.A x.kids.length x.cap) x.kids.length (ints x.kids)) {A' : Option Addr} (hB : Bod W3 A' l' K') (hK : K ≤ K')
    (hg : W3.grownBy W4 nv.ownBlock) (ho : W4.ownsRow w.heap.size 40 9 v4 (L.length + l'.length) (ncells L ++ ncells l')) :
    GrS w (W4.setCell ⟨gb, 1, none⟩ v4) gb R (L ++ l') rv v4 K' ∧ W4.cell? ⟨gb, 1, none⟩ = some nv ∧ W4.frozen? ⟨gb, 1, none⟩ = false := by
  have n4 := h.nodes.app hb hk hB hK hg ho
  have r3 := own_below h.rules hb
  have row3 := own_below h.nodes.row hb
  have b3 := h.blk.below' hb
  have r4 := r3.kept hg (by
    cases ho : rv.ownBlock with
    | none => exact .inl rfl
    | some b =>
      refine .inr fun e' => ?_
      have := own_same r3 row3 ho e'.symm
      revert this
      decide)
  have b4 : Blk W4 gb #[rv, nv] 25 := b3.grown hg (fun e => own_ne row3 b3 (by decide) e.symm)
  have hs := setCell_grown W4 gb 1 v4
  exact ⟨⟨heap_setCell_same W4 gb 1 #[rv, nv] 25 v4 b4, h.lo, own_off r4 b4 (by decide) hs, n4.off b4 ⟨by decide, by decide⟩ h.lo hs⟩, b4.cell 1, b4.frozen 1⟩
end Go.Proofs.YtlbjmkljmhfjdaaGreat
namespace Go.Proofs.YtlbjmkljmhfjdaaGreat
open Go Go.RowKit Go.Maps
attribute [local go_sem] Oper.semAt_some
def calm (Q : Exit → Act → World → Prop) : Exit → Act → World → Prop
  | .normal, a, w => Q .normal a w
  | _, _, _ => False
theorem calm_le (Q : Exit → Act → World → Prop) : ∀ e a w, calm Q e a w → Q e a w := by
  intro e a w h
  cases e <;> first | exact h | exact h.elim
theorem rk0_ints (g : Gr) : ints (rk g 0) = List.replicate g.rules.length (.int .i64 0) := by simp [rk, ints]
structure AtWork (w wx : World) (g : Gr) (q p mb rb : Nat) (r : List Int) : Prop where
  box : Blk wx q #[.pointer (some ⟨p, 0, none⟩)] 219
  wrk : Wrk wx p g mb rb r
  below : Below w.heap.size w wx
  new : w.heap.size ≤ p ∧ w.heap.size ≤ mb ∧ w.heap.size ≤ rb ∧ w.heap.size ≤ q
/-- A pointer's own block. -/
def IsPt (w : World) (j : Nat) : Prop := ∃ v, Blk w j #[v] 219
/-- Memory grows, and pointers' blocks turn. -/
structure Trn (w w' : World) : Prop where
  size : w.heap.size ≤ w'.heap.size
  block : ∀ j, j < w.heap.size → ¬ IsPt w j → w'.heap[j]? = w.heap[j]?
  pt : ∀ j, IsPt w j → IsPt w' j
theorem Trn.below {w w' : World} (h : Below w.heap.size w w') : Trn w w' := ⟨h.size, fun j hj _ => h.block j hj, fun j ⟨v, hv⟩ => ⟨v, hv.below' h⟩⟩
theorem Trn.blk {w w' : World} {b : Nat} {vs : Array Value} {T : TypeId} (h : Trn w w') (hb : Blk w b vs T) (hT : T ≠ 219) : Blk w' b vs T :=
  (h.block b hb.lt (fun ⟨v, hv⟩ => by have := hb.symm.trans hv; simp only [Option.some.injEq, Obj.cells.injEq] at this; exact hT this.2.1)).trans hb
theorem Trn.laws {w w' : World} {b : Nat} (h : Trn w w') (hb : Laws w b) : Laws w' b := by
  refine hb.kept (h.block b hb.lt fun ⟨v, hv⟩ => ?_)
  obtain ⟨es, clock, h1, _⟩ := hb
  have := h1.symm.trans hv
  cases this
/-- What each operation yields. -/
def wkF (base : Nat) (g : Gr) (bx : Nat) : Nat → Value → World → Prop
  | 0, v, _ => v = g.val
  | 1, v, w => ∃ b, v = .map (some b) ∧ base ≤ b ∧ Laws w b
  | 2, v, _ => v = .pointer (some ⟨bx, 0, none⟩)
  | 3, v, _ => v = .slice g.RA g.rules.length g.rc
  | 4, v, _ => v = .int .i64 g.rules.length
  | 5, v, w => ∃ b, v = .slice (some ⟨b, 0, none⟩) g.rules.length g.rules.length ∧ base ≤ b ∧ Blk w b (ints (rk g 0)).toArray 3
  | 6, v, w => ∃ mb rb, v = .agg #[.slice g.RA g.rules.length g.rc, .slice g.NA g.nodes.length g.nc, .map (some mb), .slice (some ⟨rb, 0, none⟩) g.rules.length g.rules.length] ∧ (base ≤ mb ∧ Laws w mb) ∧ base ≤ rb ∧ Blk w rb (ints (rk g 0)).toArray 3
  | 7, v, w => ∃ p mb rb, v = .pointer (some ⟨p, 0, none⟩) ∧ (base ≤ p ∧ Blk w p #[.slice g.RA g.rules.length g.rc, .slice g.NA g.nodes.length g.nc, .map (some mb), .slice (some ⟨rb, 0, none⟩) g.rules.length g.rules.length] 224) ∧ (base ≤ mb ∧ Laws w mb) ∧ base ≤ rb ∧ Blk w rb (ints (rk g 0)).toArray 3
  | 8, v, w => ∃ q, v = .pointer (some ⟨q, 0, none⟩) ∧ base ≤ q ∧ IsPt w q
  | _, _, _ => True
theorem wkF_mono (base : Nat) (g : Gr) (bx : Nat) : ∀ i v w w', Trn w w' → wkF base g bx i v w → wkF base g bx i v w' := by
  intro i v w w' h hf
  match i, hf with
  | 0, hf => exact hf
  | 1, ⟨b, e, h1, h2⟩ => exact ⟨b, e, h1, h.laws h2⟩
  | 2, hf => exact hf
  | 3, hf => exact hf
  | 4, hf => exact hf
  | 5, ⟨b, e, h1, h2⟩ => exact ⟨b, e, h1, h.blk h2 (by decide)⟩
  | 6, ⟨mb, rb, e, ⟨h1, h2⟩, h3, h4⟩ => exact ⟨mb, rb, e, ⟨h1, h.laws h2⟩, h3, h.blk h4 (by decide)⟩
  | 7, ⟨p, mb, rb, e, ⟨h1, h2⟩, ⟨h3, h4⟩, h5, h6⟩ => exact ⟨p, mb, rb, e, ⟨h1, h.blk h2 (by decide)⟩, ⟨h3, h.laws h4⟩, h5, h.blk h6 (by decide)⟩
  | 8, ⟨q, e, h1, h2⟩ => exact ⟨q, e, h1, h.pt q h2⟩
  | (n + 9), _ => exact trivial
/-- What the store leaves. -/
def wkT (base : Nat) (g : Gr) (v : Value) (w : World) : Prop := ∃ q p mb rb, v = .pointer (some ⟨q, 0, none⟩) ∧ (base ≤ q ∧ Blk w q #[.pointer (some ⟨p, 0, none⟩)] 219) ∧ (base ≤ p ∧ Blk w p #[.slice g.RA g.rules.length g.rc, .slice g.NA g.nodes.length g.nc, .map (some mb), .slice (some ⟨rb, 0, none⟩) g.rules.length g.rules.length] 224) ∧ (base ≤ mb ∧ Laws w mb) ∧ base ≤ rb ∧ Blk w rb (ints (rk g 0)).toArray 3
theorem wkT_mono (base : Nat) (g : Gr) (v : Value) (w w' : World) (h : Below w.heap.size w w') : wkT base g v w → wkT base g v w' := fun ⟨q, p, mb, rb, e, ⟨a1, a2⟩, ⟨b1, b2⟩, ⟨c1, c2⟩, d1, d2⟩ => ⟨q, p, mb, rb, e, ⟨a1, a2.below' h⟩, ⟨b1, b2.below' h⟩, ⟨c1, c2.below h⟩, d1, d2.below' h⟩
section
variable {a : Act} {w : World} {o : Oper} {Φ : Value → World → Prop}
theorem f_load2 {x : Operand} {b : Nat} {u v : Value} (ho : o.op = .load 25 x) (hx : a.eval x = .pointer (some ⟨b, 0, none⟩)) (h0 : w.cell? ⟨b, 0, none⟩ = some u) (h1 : w.cell? ⟨b, 1, none⟩ = some v) (h : Φ (.agg #[u, v]) w) :
    Gives Tryz.prog (fun v w' => Below w.heap.size w w' ∧ Φ v w') ((execOp a.eval o).run Tryz.prog w) := by
  refine .value (v := .agg #[u, v]) (w := w) ?_ ⟨Below.refl _ _, h⟩
  generalize a.eval = ρ at *
  simp only [execOp, ho, hx]
  go_simp
theorem f_field {x : Operand} {b : Nat} (ho : o.op = .fieldAddr 25 x 0) (hx : a.eval x = .pointer (some ⟨b, 0, none⟩)) (h : Φ (.pointer (some ⟨b, 0, none⟩)) w) :
    Gives Tryz.prog (fun v w' => Below w.heap.size w w' ∧ Φ v w') ((execOp a.eval o).run Tryz.prog w) := by
  refine .value (v := .pointer (some ⟨b, 0, none⟩)) (w := w) ?_ ⟨Below.refl _ _, h⟩
  generalize a.eval = ρ at *
  simp only [execOp, ho, hx]
  go_simp
theorem f_load1 {x : Operand} {b : Nat} {A : Option Addr} {n c : Nat} (ho : o.op = .load 22 x) (hx : a.eval x = .pointer (some ⟨b, 0, none⟩)) (h0 : w.cell? ⟨b, 0, none⟩ = some (.slice A n c)) (h : Φ (.slice A n c) w) :
    Gives Tryz.prog (fun v w' => Below w.heap.size w w' ∧ Φ v w') ((execOp a.eval o).run Tryz.prog w) := by
  refine .value (v := .slice A n c) (w := w) ?_ ⟨Below.refl _ _, h⟩
  generalize a.eval = ρ at *
  simp only [execOp, ho, hx]
  go_simp
theorem f_len {x : Operand} {A : Option Addr} {n c : Nat} (ho : o.op = .call { callee := .builtin .len, args := #[x], argTypes := #[22] }) (hx : a.eval x = .slice A n c) (h : Φ (.int .i64 n) w) :
    Gives Tryz.prog (fun v w' => Below w.heap.size w w' ∧ Φ v w') ((execOp a.eval o).run Tryz.prog w) := by
  refine .value (v := .int .i64 n) (w := w) ?_ ⟨Below.refl _ _, h⟩
  generalize a.eval = ρ at *
  simp only [execOp, ho, List.map_toArray, List.map_cons, List.map_nil, hx]
  go_simp
theorem f_call {f : FuncId} (ho : o.op = .call { callee := .value (.func f), args := #[], argTypes := #[] })
    (he : ∀ args w, (callFunc f args).run Tryz.prog w = .ok (.enter f args) w) (h : Calls Tryz.prog f #[] w fun e w' => ∃ v, e = .returned v ∧ Below w.heap.size w w' ∧ Φ v w') :
    Gives Tryz.prog (fun v w' => Below w.heap.size w w' ∧ Φ v w') ((execOp a.eval o).run Tryz.prog w) := by
  refine .enter (f := f) (args := #[]) (w := w) ?_ h
  simp only [execOp, ho, resolve, Act.eval]
  simp [invoke, Deferred.ofValue, he, go_sem]
theorem f_build {x y z : Operand} {A B : Option Addr} {n c k d mb rb r : Nat} (ho : o.op = .build 224 #[(0, x), (1, y), (2, z)]) (hx : a.eval x = .agg #[.slice A n c, .slice B k d]) (hy : a.eval y = .map (some mb)) (hz : a.eval z = .slice (some ⟨rb, 0, none⟩) r r)
    (h : Φ (.agg #[.slice A n c, .slice B k d, .map (some mb), .slice (some ⟨rb, 0, none⟩) r r]) w) :
    Gives Tryz.prog (fun v w' => Below w.heap.size w w' ∧ Φ v w') ((execOp a.eval o).run Tryz.prog w) := by
  refine .value (v := .agg #[.slice A n c, .slice B k d, .map (some mb), .slice (some ⟨rb, 0, none⟩) r r]) (w := w) ?_ ⟨Below.refl _ _, h⟩
  generalize a.eval = ρ at *
  simp only [execOp, ho, hx, hy, hz, List.map_toArray, List.map_cons, List.map_nil]
  go_simp
theorem f_box {x : Operand} {cs : Array Value} (ho : o.op = .box 224 x) (hx : a.eval x = .agg cs) (h : Φ (.pointer (some ⟨w.heap.size, 0, none⟩)) (w.alloc (.cells cs 224))) :
    Gives Tryz.prog (fun v w' => Below w.heap.size w w' ∧ Φ v w') ((execOp a.eval o).run Tryz.prog w) := by
  refine .value (v := .pointer (some ⟨w.heap.size, 0, none⟩)) (w := w.alloc (.cells cs 224)) ?_ ⟨B1 _ _, h⟩
  generalize a.eval = ρ at *
  simp only [execOp, ho, hx]
  go_simp
theorem f_alloc (ho : o.op = .alloc 219) (h : Φ (.pointer (some ⟨w.heap.size, 0, none⟩)) (w.alloc (.cells #[.pointer none] 219))) :
    Gives Tryz.prog (fun v w' => Below w.heap.size w w' ∧ Φ v w') ((execOp a.eval o).run Tryz.prog w) := by
  refine .value (v := .pointer (some ⟨w.heap.size, 0, none⟩)) (w := w.alloc (.cells #[.pointer none] 219)) ?_ ⟨B1 _ _, h⟩
  generalize a.eval = ρ at *
  simp only [execOp, ho]
  go_simp
theorem made_int (n : Nat) : madeCells (Value.int .i64 0).cells (n * 1) = (List.replicate n (Value.int .i64 0)).toArray := by
  apply Array.ext
  · simp [madeCells]
  · intro k h1 h2
    simp [madeCells, Value.cells, Nat.mod_one]
theorem f_make {x : Operand} {n : Nat} (ho : o.op = .makeSlice 38 x x) (hx : a.eval x = .int .i64 (n : Nat)) (hn : n ≤ 100) (h : Φ (.slice (some ⟨w.heap.size, 0, none⟩) n n) (w.alloc (.cells (List.replicate n (Value.int .i64 0)).toArray 3))) :
    Gives Tryz.prog (fun v w' => Below w.heap.size w w' ∧ Φ v w') ((execOp a.eval o).run Tryz.prog w) := by
  obtain ⟨i0, hi, hz0, hz1, hz2⟩ := info_parts Tryz.info3
  have hr := run_make (P := Tryz.prog) w 38 3 i0 (.int .i64 0) Tryz.underlying38 hi hz0 .i64 .i64 (n : Nat) (n : Nat) (by omega) (by omega) (by rw [hz2]; omega) (by omega)
  rw [hz1, Int.toNat_natCast, made_int] at hr
  refine .value (v := .slice (some ⟨w.heap.size, 0, none⟩) n n) (w := w.alloc (.cells (List.replicate n (Value.int .i64 0)).toArray 3)) ?_ ⟨B1 _ _, h⟩
  simp only [execOp, ho, hx, hr, Sem.run_bind, Result.andThen_ok]
  go_simp
/-- The store. -/
theorem f_store {x y : Operand} {q p : Nat} {v0 : Value} {Ψ : World → Prop} (ho : o.op = .store 219 x y) (hx : a.eval x = .pointer (some ⟨q, 0, none⟩)) (hy : a.eval y = .pointer (some ⟨p, 0, none⟩)) (hb : Blk w q #[v0] 219)
    (h : Ψ (w.setCell ⟨q, 0, none⟩ (.pointer (some ⟨p, 0, none⟩)))) : Gives Tryz.prog (fun _ w' => Ψ w') ((execOp a.eval o).run Tryz.prog w) := by
  have hc := hb.cell 0
  have hf := hb.frozen 0
  simp only [List.getElem?_toArray, List.getElem?_cons_zero] at hc
  have hr : (execOp a.eval o).run Tryz.prog w = .ok .skip (w.setCell ⟨q, 0, none⟩ (.pointer (some ⟨p, 0, none⟩))) := by
    generalize a.eval = ρ at *
    simp only [execOp, ho, hx, hy]
    go_simp
  rw [hr]
  exact h
end
end Go.Proofs.YtlbjmkljmhfjdaaGreat

/- ApartInts. -/
import Derived.Test.YtlbjmkljmhfjdaaGreatF5
import Derived.Test.YtlbjmkljmhfjdaaGreatE9
import Derived.Test.YtlbjmkljmhfjdaaGreatF3
import Derived.Test.YtlbjmkljmhfjdaaGreatE2
import Derived.Deep.RegionHeld3
import Derived.Test.YtlbjmkljmhfjdaaGreatF1
import Derived.Test.YtlbjmkljmhfjdaaGreatE3
import Derived.Test.YtlbjmkljmhfjdaaGreatC8
import Derived.Test.YtlbjmkljmhfjdaaGreatD6
import Derived.KernelRfl
import Derived.Test.YtlbjmkljmhfjdaaGreatC9
import Derived.Deep.CutRange
import Derived.Test.YtlbjmkljmhfjdaaGreatC6
set_option linter.unusedSimpArgs false
set_option linter.unusedVariables false
namespace Go.Proofs.YtlbjmkljmhfjdaaGreat
open Go Go.RowKit Go.Maps
def bagC (lv : Value) : Array Value := #[.slice none 0 0, .slice none 0 0, lv, .slice none 0 0, .slice none 0 0, .slice none 0 0, .slice none 0 0, .slice none 0 0, .slice none 0 0, .slice none 0 0, .slice none 0 0, .slice none 0 0, .slice none 0 0, .slice none 0 0]
set_option maxRecDepth 100000 in
set_option maxHeartbeats 8000000 in
theorem apart_rows (B C n c : Nat) (A : Option Addr) (vs : List Value) (ms : Nat → List Int) (w : World) (hB : B ≤ w.heap.size) (en : vs.length = n) (hc : ∀ k, k < n → ∃ lb, A = some ⟨lb, 0, none⟩ ∧ lb < w.heap.size ∧ w.cell? ⟨lb, k, none⟩ = some (vs.getD k undef)) (hr : ∀ k, k < n → w.ownsRow B 3 1 (vs.getD k undef) (ms k).length (ints (ms k)))
    (ha : ∀ j k q, j < n → k < n → j ≠ k → (vs.getD j undef).ownBlock = some q → (vs.getD k undef).ownBlock ≠ some q) (hn : n ≤ 4096) (hl : ∀ k, k < n → (ms k).length ≤ 100000) (hC : ∀ j q, j < n → (vs.getD j undef).ownBlock = some q → q < C) :
    Calls Tryz.prog 34 #[.slice A n c] w fun e w' => e = .returned (.bool true) ∧ Below B w w' ∧ (∀ (b : Nat) (us : Array Value) (T2 : TypeId), T2 ≠ 3 → Blk w b us T2 → Blk w' b us T2) ∧ ∀ b, C ≤ b → b < w.heap.size → w'.heap[b]? = w.heap[b]? := by
  have HB := Lib.hid hB
  have HC := Lib.hid hc
  have HR := Lib.hid hr
  have HA := Lib.hid ha
  have HL := Lib.hid hl
  have EN := Lib.hid en
  have HCC := Lib.hid hC
  clear hc hr ha hl en hB hC
  go_enter Tryz.func34, Tryz.ntmps34
  go_wp2_with fail
  obtain ⟨bb, ebb⟩ : ∃ u, u = w.heap.size := ⟨_, rfl⟩
  have EBB := Lib.hid ebb
  have K0 := Lib.hid (show Blk (w.alloc (.cells #[.slice none 0 0, .slice none 0 0, .slice none 0 0, .slice none 0 0, .slice none 0 0, .slice none 0 0, .slice none 0 0, .slice none 0 0, .slice none 0 0, .slice none 0 0, .slice none 0 0, .slice none 0 0, .slice none 0 0, .slice none 0 0] 121)) bb (bagC (.slice none 0 0)) 121 from by rw [ebb]; exact Blk.new _ _ _)
  have L0 := Lib.hid (B1 w (.cells #[.slice none 0 0, .slice none 0 0, .slice none 0 0, .slice none 0 0, .slice none 0 0, .slice none 0 0, .slice none 0 0, .slice none 0 0, .slice none 0 0, .slice none 0 0, .slice none 0 0, .slice none 0 0, .slice none 0 0, .slice none 0 0] 121))
  rw [← ebb]
  clear ebb
  generalize w.alloc (.cells #[.slice none 0 0, .slice none 0 0, .slice none 0 0, .slice none 0 0, .slice none 0 0, .slice none 0 0, .slice none 0 0, .slice none 0 0, .slice none 0 0, .slice none 0 0, .slice none 0 0, .slice none 0 0, .slice none 0 0, .slice none 0 0] 121) = w0 at K0 L0 ⊢
  go_loopw [4] (fun ix wr => ∃ (i : Nat) (lv : Value), i ≤ n ∧ ix = .int .i64 i ∧ Blk wr bb (bagC lv) 121 ∧ wr.ownsRow w.heap.size 38 1 lv i (vs.take i) ∧ Below w.heap.size w wr) (fun ix _ => n - (RowKit.intOf ix).toNat)
  case atStart => exact ⟨0, _, by omega, rfl, K0.out, World.ownsRow_nil _ _ _ _, L0.out⟩
  case round =>
    obtain ⟨i, lv, hi, rfl, hk, ho, hb⟩ := hrel
    have KB := Lib.hid hk
    have OB := Lib.hid ho
    have LB := Lib.hid hb
    by_cases hit : i < n
    · have hit2 : (i : Int) < n := by omega
      obtain ⟨A', c', e1, _, _⟩ := own_slice (HR.out i hit)
      obtain ⟨lb, eA, hlb, ci0⟩ := HC.out i hit
      subst eA
      have ci := (hb.cell (p := ⟨lb, i, none⟩) (by exact hlb)).trans ci0
      clear ci0
      rw [e1] at ci
      have hti : (vs.take i).length = i := by rw [List.length_take]; have := EN.out; omega
      have PI := Lib.hid (put_ints w.heap.size bb (.slice none 0 0) (.slice none 0 0) lv [.slice none 0 0, .slice none 0 0, .slice none 0 0, .slice none 0 0, .slice none 0 0, .slice none 0 0, .slice none 0 0, .slice none 0 0, .slice none 0 0, .slice none 0 0, .slice none 0 0] (vs.take i) A' (ms i).length c' wr hb.size hk (by rw [hti]; exact ho) (by omega))
      rw [hti] at PI
      have EV := Lib.hid e1
      clear hk ho hb e1
      go_wp2_with fail
      refine PI.out.mono ?_
      rintro e w5 ⟨rfl, lv2, w1, ow, gw, kb, rfl⟩
      have L1 : Below w.heap.size w w1 := grown_below (LB.out.trans ((B1 wr _).mono LB.out.size)) (by have := LB.out.size; simp; omega) gw (fun k e => (OB.out.lt k e).1)
      have F1 := Lib.hid (show Blk (w1.setCell ⟨bb, 2, none⟩ lv2) bb (bagC lv2) 121 from by have h9 := heap_setCell_same w1 bb 2 _ _ lv2 kb; simp at h9; exact h9)
      have F2 := Lib.hid (own_beside ow (store_grown w1 bb 2 lv2) (fun q hq e => own_ne ow kb (by decide) (by rw [hq]; exact e.symm)))
      have F3 := Lib.hid (L1.setCell (p := ⟨bb, 2, none⟩) (by have := EBB.out; show w.heap.size ≤ bb; omega) lv2)
      have ET := Lib.hid (show vs.take i ++ [Value.slice A' (ms i).length c'] = vs.take (i + 1) from by
        have hv : i < vs.length := by have := EN.out; omega
        rw [List.take_succ_eq_append_getElem hv, ← EV.out]
        simp [List.getD, hv])
      clear ow gw kb L1 ci
      go_wp2_with fail
      go_roundw
      case rel => exact ⟨i + 1, lv2, by omega, by go_num, F1.out, by rw [← ET.out]; exact F2.out, F3.out⟩
      case measure => simp [RowKit.intOf]; omega
    · obtain rfl : i = n := by omega
      have hit2 : ¬ (i : Int) < i := by omega
      have htk : vs.take i = vs := by rw [← EN.out]; exact List.take_length
      have FL := Lib.hid (show Fl B 38 wr lv vs ms from ⟨by have := own_lower ho HB.out; rw [htk] at this; rw [EN.out]; exact this, fun k hk => (own_lower (by exact (HR.out k (by rw [← EN.out]; exact hk))) (Nat.le_refl _)).kept ⟨hb.os, hb.tape, hb.output, hb.size, fun j hj _ => hb.block j hj⟩ (row := none) (by cases ho2 : (vs.getD k undef).ownBlock with | none => exact .inl rfl | some q => exact .inr (by simp)), fun j k q hj hk => HA.out j k q (by rw [← EN.out]; exact hj) (by rw [← EN.out]; exact hk)⟩)
      have BA := Lib.hid (bag_apart B C bb lv vs ms wr (Nat.le_trans HB.out hb.size) hk FL.out (by rw [EN.out]; exact hn) (fun k hk => HL.out k (by rw [← EN.out]; exact hk)) (fun j q hj e => HCC.out j q (by rw [← EN.out]; exact hj) e))
      clear hk ho hb
      go_wp2_with fail
      refine BA.out.mono ?_
      rintro e w9 ⟨rfl, hw⟩
      have FIN := Lib.hid ((LB.out.mono HB.out).trans hw.low)
      have KEEP := Lib.hid (show ∀ (b : Nat) (us : Array Value) (T2 : TypeId), T2 ≠ 3 → Blk w b us T2 → Blk w9 b us T2 from fun b us T2 h1 k => hw.keep b us T2 h1 (k.below' LB.out))
      have HIGH := Lib.hid (show ∀ b, C ≤ b → b < w.heap.size → w9.heap[b]? = w.heap[b]? from fun b h1 h2 => (hw.high b h1 (by have := LB.out.size; omega)).trans (LB.out.block b h2))
      clear hw
      go_wp2_with fail
      go_ret
      exact ⟨rfl, FIN.out, KEEP.out, HIGH.out⟩
theorem apart_ints (B lb n c : Nat) (vs : List Value) (ms : Nat → List Int) (w : World) (hB : B ≤ w.heap.size) (en : vs.length = n) (hlb : lb < w.heap.size) (hc : ∀ k, k < n → w.cell? ⟨lb, k, none⟩ = some (vs.getD k undef)) (hr : ∀ k, k < n → w.ownsRow B 3 1 (vs.getD k undef) (ms k).length (ints (ms k)))
    (ha : ∀ j k q, j < n → k < n → j ≠ k → (vs.getD j undef).ownBlock = some q → (vs.getD k undef).ownBlock ≠ some q) (hn : n ≤ 4096) (hl : ∀ k, k < n → (ms k).length ≤ 100000) :
    Calls Tryz.prog 34 #[.slice (some ⟨lb, 0, none⟩) n c] w fun e w' => e = .returned (.bool true) ∧ Below B w w' :=
  (apart_rows B w.heap.size n c (some ⟨lb, 0, none⟩) vs ms w hB en (fun k hk => ⟨lb, rfl, hlb, hc k hk⟩) hr ha hn hl (fun j q hj e => ((hr j hj).lt q e).2)).mono fun e w' ⟨h1, h2, _⟩ => ⟨h1, h2⟩
end Go.Proofs.YtlbjmkljmhfjdaaGreat
namespace Go.Proofs.YtlbjmkljmhfjdaaGreat
open Go Go.Proofs Go.RowKit Go.Lib Go.Maps
/-- Four rows, each above the one before. -/
theorem four_apart {w : World} {B : Nat} {L M : List Nat} {a b c d : Value} {u1 u2 u3 : Nat}
    (ha : w.ownsRow B 3 1 a L.length (ints (nums L))) (hb : w.ownsRow B 3 1 b M.length (ints (nums M))) (hc : w.ownsRow B 3 1 c L.length (ints (nums L))) (hd : w.ownsRow B 3 1 d M.length (ints (nums M)))
    (xa : ∀ q, a.ownBlock = some q → q < u1) (xb : ∀ q, b.ownBlock = some q → u1 ≤ q ∧ q < u2) (xc : ∀ q, c.ownBlock = some q → u2 ≤ q ∧ q < u3) (xd : ∀ q, d.ownBlock = some q → u3 ≤ q) (h12 : u1 ≤ u2) (h23 : u2 ≤ u3) :
    (∀ k, k < 4 → w.ownsRow B 3 1 ([a, b, c, d].getD k undef) ((if k % 2 = 0 then nums L else nums M)).length (ints (if k % 2 = 0 then nums L else nums M))) ∧
    (∀ j k q, j < 4 → k < 4 → j ≠ k → ([a, b, c, d].getD j undef).ownBlock = some q → ([a, b, c, d].getD k undef).ownBlock ≠ some q) := by
  constructor
  · intro k hk
    match k, hk with
    | 0, _ => simpa [nums_len] using ha
    | 1, _ => simpa [nums_len] using hb
    | 2, _ => simpa [nums_len] using hc
    | 3, _ => simpa [nums_len] using hd
  · intro j k q hj hk hne h1 h2
    match j, hj, k, hk with
    | 0, _, 0, _ => exact hne rfl
    | 1, _, 1, _ => exact hne rfl
    | 2, _, 2, _ => exact hne rfl
    | 3, _, 3, _ => exact hne rfl
    | 0, _, 1, _ => have := xa q h1; have := xb q h2; omega
    | 0, _, 2, _ => have := xa q h1; have := xc q h2; omega
    | 0, _, 3, _ => have := xa q h1; have := xd q h2; omega
    | 1, _, 0, _ => have := xb q h1; have := xa q h2; omega
    | 1, _, 2, _ => have := xb q h1; have := xc q h2; omega
    | 1, _, 3, _ => have := xb q h1; have := xd q h2; omega
    | 2, _, 0, _ => have := xc q h1; have := xa q h2; omega
    | 2, _, 1, _ => have := xc q h1; have := xb q h2; omega
    | 2, _, 3, _ => have := xc q h1; have := xd q h2; omega
    | 3, _, 0, _ => have := xd q h1; have := xa q h2; omega
    | 3, _, 1, _ => have := xd q h1; have := xb q h2; omega
    | 3, _, 2, _ => have := xd q h1; have := xc q h2; omega
end Go.Proofs.YtlbjmkljmhfjdaaGreat
namespace Go.Proofs.YtlbjmkljmhfjdaaGreat
open Go Go.Proofs Go.RowKit Go.Lib Go.Maps
theorem graphZ_twin {g h : Gr} (t : GTwin g h) : graphZ h = graphZ g := by
  have e := twin_kz t
  have k : ∀ x : Gr, graphZ x.kz = graphZ x := fun x => by unfold graphZ; rw [rightB_kz, graphOf_kz]
  rw [← k, e, k]
theorem withOf_len (g : Gr) (i : Int) : (withOf g i).length ≤ 64 := by
  by_cases h : okI g i ∧ sortN (graphOf g) i.toNat ≠ 0
  · rw [withOf_yes h.1 h.2]
    exact ptG_le (graphOf_RG (rightB_true.1 h.1.1)) _
  · rw [withOf_no h]; simp
theorem sort_lens (g : Gr) (i : Int) : ((withOf g i).length ≤ 100000 ∧ (ordOf g).length ≤ 100000) ∧ (allOf g).length ≤ 64 := by
  refine ⟨⟨by have := withOf_len g i; omega, ?_⟩, by rw [allOf_Z, List.length_map, List.length_range]; exact (RG_Z g).most⟩
  rw [ordOf_Z]
  have SM := pG_small (RG_Z g)
  generalize pG (graphZ g) = P at SM ⊢
  have FL : ∀ k, k ≤ P.length → (P.take k).flatten.length ≤ 64 * k := fun k => by
    induction k with
    | zero => intro _; simp
    | succ k ih =>
      intro hk
      rw [flat_take (by omega), List.length_append]
      have := ih (by omega)
      have := (SM.2 k (by omega)).2
      omega
  have := FL P.length (Nat.le_refl _)
  rw [List.take_length] at this
  have := SM.1
  omega
theorem sofN_G (g : Gr) (i : Int) : sofN g i = if 0 ≤ i ∧ i < (graphZ g).length then sortN (graphZ g) i.toNat else 0 := by
  by_cases h : 0 ≤ i ∧ i < (graphZ g).length
  · rw [if_pos h]
    have := sofN_Z g i.toNat (by omega)
    rwa [Int.toNat_of_nonneg h.1] at this
  · rw [if_neg h, sofN_no (fun h2 => h ((graphZ_in g i).1 h2))]
theorem withOf_G (g : Gr) (i : Int) : withOf g i = if 0 ≤ i ∧ i < (graphZ g).length then (if sortN (graphZ g) i.toNat = 0 then [] else (pG (graphZ g)).getD (posG (graphZ g) i.toNat) []) else [] := by
  by_cases h : 0 ≤ i ∧ i < (graphZ g).length
  · rw [if_pos h]
    have := withOf_Z g i.toNat (by omega)
    rwa [Int.toNat_of_nonneg h.1] at this
  · rw [if_neg h, withOf_no (fun h2 => h ((graphZ_in g i).1 h2.1))]
theorem twin_sort {g h : Gr} (t : GTwin g h) (i : Int) : withOf h i = withOf g i ∧ ordOf h = ordOf g ∧ sofN h i = sofN g i ∧ allOf h = allOf g ∧ freeB h = freeB g := by
  have e := graphZ_twin t
  have ea : allOf h = allOf g := by rw [allOf_Z, allOf_Z, e]
  exact ⟨by rw [withOf_G, withOf_G, e], by rw [ordOf_Z, ordOf_Z, e], by rw [sofN_G, sofN_G, e], ea, by rw [freeB_all, freeB_all, ea]⟩
theorem apart_fourN {W : World} {B : Nat} {L M : List Nat} {a b c d : Value} {T : TypeId} (hB : B ≤ W.heap.size)
    (hr : ∀ k, k < 4 → W.ownsRow B 3 1 ([a, b, c, d].getD k undef) ((if k % 2 = 0 then nums L else nums M)).length (ints (if k % 2 = 0 then nums L else nums M)))
    (ha : ∀ j k q, j < 4 → k < 4 → j ≠ k → ([a, b, c, d].getD j undef).ownBlock = some q → ([a, b, c, d].getD k undef).ownBlock ≠ some q) (hl : L.length ≤ 100000 ∧ M.length ≤ 100000) :
    Calls Tryz.prog 34 #[.slice (some ⟨W.heap.size, 0, none⟩) 4 4] (W.alloc (.cells #[a, b, c, d] T)) fun e w' => e = .returned (.bool true) ∧ Below B W w' :=
  (apart_ints B W.heap.size 4 4 [a, b, c, d] (fun k => if k % 2 = 0 then nums L else nums M) (W.alloc (.cells #[a, b, c, d] T)) (by simp; omega) rfl (by simp) (fun k hk => by
    rw [(Blk.new W #[a, b, c, d] T).cell]
    match k, hk with
    | 0, _ => rfl
    | 1, _ => rfl
    | 2, _ => rfl
    | 3, _ => rfl) (fun k hk => own_below (hr k hk) (B1 _ _)) ha (by omega) (fun k hk => by
    show (if k % 2 = 0 then nums L else nums M).length ≤ 100000
    split <;> rw [nums_len] <;> omega)).mono fun e w' ⟨h1, h2⟩ => ⟨h1, Below.trans (b := W.alloc (.cells #[a, b, c, d] T)) ((B1 W _).mono hB) h2⟩
end Go.Proofs.YtlbjmkljmhfjdaaGreat
namespace Go.Proofs.YtlbjmkljmhfjdaaGreat
open Go Go.Proofs Go.RowKit Go.Lib Go.Maps
theorem LGr.capd {w : World} {B : Nat} {g h : Gr} (f : LGr w B g h) : Capd h := by
  refine ⟨?_, fun x hx => ?_⟩
  · have := (own_room2 f.nodes.row (by omega)).2; omega
  · have := (own_room2 (f.nodes.kids x hx) (by omega)).2; omega
set_option maxRecDepth 100000 in
set_option maxHeartbeats 2000000 in
theorem size12_all (g : Gr) (w : World) (hg : Gr.At w g) : Calls Tryz.prog 8 #[g.val] w fun e w' => (∃ z : Int, e = .returned (.int .i64 z) ∧ (z ≤ 300 → g.rules.length + g.nodes.length ≤ 300 ∧ ∀ x ∈ g.nodes, x.kids.length ≤ 300)) ∧ Below w.heap.size w w' := by
  have HG := Lib.hid hg
  have h1 := hg.rl
  have h2 := hg.nl
  obtain ⟨RA, rc, rules, NA, nc, nodes⟩ := g
  dsimp only at h1 h2
  obtain ⟨m, em⟩ : ∃ m, m = nodes.length := ⟨_, rfl⟩
  obtain ⟨r, er⟩ : ∃ m, m = rules.length := ⟨_, rfl⟩
  show Calls Tryz.prog 8 #[.agg #[.slice RA rules.length rc, .slice NA nodes.length nc]] w _
  have EM := Lib.hid em
  have ER := Lib.hid er
  rw [← em, ← er]
  rw [← em] at h2
  rw [← er] at h1
  clear hg em er
  go_enter Tryz.func8, Tryz.ntmps8
  go_wp2_with fail
  obtain ⟨wb, ewb⟩ : ∃ u, u = w.alloc (.cells #[.slice RA r rc, .slice NA m nc] 25) := ⟨_, rfl⟩
  have hb2 : Below w.heap.size w wb := by rw [ewb]; exact B1 _ _
  have c0 : wb.cell? ⟨w.heap.size, 0, none⟩ = some (.slice RA r rc) := by rw [ewb]; exact (Blk.new _ _ _).cell 0
  have c1 : wb.cell? ⟨w.heap.size, 1, none⟩ = some (.slice NA m nc) := by rw [ewb]; exact (Blk.new _ _ _).cell 1
  rw [← ewb]
  have BB := Lib.hid hb2
  clear ewb hb2
  go_loopw [3, 4] (fun s i wr => ∃ (k : Nat) (n : Int), k ≤ m ∧ s = .int .i64 n ∧ i = .int .i64 k ∧ n ≤ 500000000000000 ∧ (r + m : Nat) ≤ n ∧ (∀ j, j < k → ((nodes.getD j Nd.zero).kids.length : Int) ≤ n) ∧ wr = wb) (fun _ i _ => m - (RowKit.intOf i).toNat)
  case atStart => exact ⟨0, r + m, by omega, rfl, rfl, by omega, by omega, fun j h => by omega, rfl⟩
  case round =>
    obtain ⟨k, n, hk, rfl, rfl, hn, hn0, hkk, rfl⟩ := hrel
    have HK := Lib.hid hkk
    clear hkk
    by_cases hlt : k < m
    · have hlt2 : (k : Int) < m := by omega
      by_cases hle : n ≤ 300
      · obtain ⟨b1, o1, eA, _, _, _, _, _, _, _, _, _, c9⟩ := (HG.out.below BB.out).nodes.nine (show k < nodes.length by have := EM.out; omega)
        have hx := ((HG.out.below BB.out).node (show k < nodes.length by have := EM.out; omega)).2.2
        dsimp only at eA c9 hx
        rw [eA] at c1
        generalize hxx : nodes.getD k Nd.zero = x at c9 hx
        have HX := Lib.hid hxx
        clear eA hxx
        go_wp2_with fail
        go_roundw
        case rel => exact ⟨k + 1, n + x.kids.length, by omega, by first | rfl | go_num, by go_num, by omega, by omega, fun j hj => (by
          by_cases ej : j = k
          · subst ej; rw [HX.out]; omega
          · have := HK.out j (by omega); omega), by first | trivial | rfl⟩
        case measure => simp [RowKit.intOf]; omega
      · have hle2 : 300 < n := by omega
        go_wp2_with fail
        go_ret
        exact ⟨⟨n, rfl, fun h => absurd h (by omega)⟩, BB.out⟩
    · obtain rfl : k = m := by omega
      have hlt2 : ¬ (k : Int) < k := by omega
      go_wp2_with fail
      go_ret
      exact ⟨⟨n, rfl, fun h => ⟨by have := EM.out; have := ER.out; omega, fun x hx => by
        obtain ⟨j, hj, rfl⟩ := List.getElem_of_mem hx
        have := HK.out j (by have := EM.out; omega)
        simp only [List.getD, List.getElem?_eq_getElem hj, Option.getD_some] at this
        skip
        omega⟩⟩, BB.out⟩
set_option maxRecDepth 100000 in
set_option maxHeartbeats 2000000 in
theorem size14_all (g : Gr) (w : World) (hg : Gr.At w g) : Calls Tryz.prog 16 #[g.val] w fun e w' => (∃ z : Int, e = .returned (.int .i64 z) ∧ (z ≤ 300 → g.rules.length + g.nodes.length ≤ 300 ∧ ∀ x ∈ g.nodes, x.kids.length ≤ 300)) ∧ Below w.heap.size w w' := by
  have HG := Lib.hid hg
  have h1 := hg.rl
  have h2 := hg.nl
  obtain ⟨RA, rc, rules, NA, nc, nodes⟩ := g
  dsimp only at h1 h2
  obtain ⟨m, em⟩ : ∃ m, m = nodes.length := ⟨_, rfl⟩
  obtain ⟨r, er⟩ : ∃ m, m = rules.length := ⟨_, rfl⟩
  show Calls Tryz.prog 16 #[.agg #[.slice RA rules.length rc, .slice NA nodes.length nc]] w _
  have EM := Lib.hid em
  have ER := Lib.hid er
  rw [← em, ← er]
  rw [← em] at h2
  rw [← er] at h1
  clear hg em er
  go_enter Tryz.func16, Tryz.ntmps16
  go_wp2_with fail
  obtain ⟨wb, ewb⟩ : ∃ u, u = w.alloc (.cells #[.slice RA r rc, .slice NA m nc] 25) := ⟨_, rfl⟩
  have hb2 : Below w.heap.size w wb := by rw [ewb]; exact B1 _ _
  have c0 : wb.cell? ⟨w.heap.size, 0, none⟩ = some (.slice RA r rc) := by rw [ewb]; exact (Blk.new _ _ _).cell 0
  have c1 : wb.cell? ⟨w.heap.size, 1, none⟩ = some (.slice NA m nc) := by rw [ewb]; exact (Blk.new _ _ _).cell 1
  rw [← ewb]
  have BB := Lib.hid hb2
  clear ewb hb2
  go_loopw [3, 4] (fun s i wr => ∃ (k : Nat) (n : Int), k ≤ m ∧ s = .int .i64 n ∧ i = .int .i64 k ∧ n ≤ 500000000000000 ∧ (r + m : Nat) ≤ n ∧ (∀ j, j < k → ((nodes.getD j Nd.zero).kids.length : Int) ≤ n) ∧ wr = wb) (fun _ i _ => m - (RowKit.intOf i).toNat)
  case atStart => exact ⟨0, r + m, by omega, rfl, rfl, by omega, by omega, fun j h => by omega, rfl⟩
  case round =>
    obtain ⟨k, n, hk, rfl, rfl, hn, hn0, hkk, rfl⟩ := hrel
    have HK := Lib.hid hkk
    clear hkk
    by_cases hlt : k < m
    · have hlt2 : (k : Int) < m := by omega
      by_cases hle : n ≤ 300
      · obtain ⟨b1, o1, eA, _, _, _, _, _, _, _, _, _, c9⟩ := (HG.out.below BB.out).nodes.nine (show k < nodes.length by have := EM.out; omega)
        have hx := ((HG.out.below BB.out).node (show k < nodes.length by have := EM.out; omega)).2.2
        dsimp only at eA c9 hx
        rw [eA] at c1
        generalize hxx : nodes.getD k Nd.zero = x at c9 hx
        have HX := Lib.hid hxx
        clear eA hxx
        go_wp2_with fail
        go_roundw
        case rel => exact ⟨k + 1, n + x.kids.length, by omega, by first | rfl | go_num, by go_num, by omega, by omega, fun j hj => (by
          by_cases ej : j = k
          · subst ej; rw [HX.out]; omega
          · have := HK.out j (by omega); omega), by first | trivial | rfl⟩
        case measure => simp [RowKit.intOf]; omega
      · have hle2 : 300 < n := by omega
        go_wp2_with fail
        go_ret
        exact ⟨⟨n, rfl, fun h => absurd h (by omega)⟩, BB.out⟩
    · obtain rfl : k = m := by omega
      have hlt2 : ¬ (k : Int) < k := by omega
      go_wp2_with fail
      go_ret
      exact ⟨⟨n, rfl, fun h => ⟨by have := EM.out; have := ER.out; omega, fun x hx => by
        obtain ⟨j, hj, rfl⟩ := List.getElem_of_mem hx
        have := HK.out j (by have := EM.out; omega)
        simp only [List.getD, List.getElem?_eq_getElem hj, Option.getD_some] at this
        skip
        omega⟩⟩, BB.out⟩
end Go.Proofs.YtlbjmkljmhfjdaaGreat
namespace Go.Proofs.YtlbjmkljmhfjdaaGreat
open Go Go.Proofs Go.RowKit Go.Lib Go.Maps
set_option maxRecDepth 100000 in
set_option maxHeartbeats 40000000 in
theorem stells_part (g : Gr) (i : Int) (w : World) (hg : Gr.At w g) (hin : Gr.In g) (h1 : g.rules.length ≤ 100000) (h2 : g.nodes.length ≤ 100000) (h3 : ∀ x ∈ g.nodes, x.kids.length ≤ 100000) :
    Calls Tryz.prog 18 #[g.val, .int .i64 i] w fun e w' => e = .returned (.bool true) ∧ Below w.heap.size w w' := by
  have LG := Lib.hid (fun (W : World) (b : Below w.heap.size w W) => lentGram_any g W (hg.below b) h1 h2 h3)
  have KG := Lib.hid (fun (W : World) (b : Below w.heap.size w W) (h : Gr) (B : Nat) (f : LGr W B g h) => keptGram_any g h B W f (hg.below b) h1 h2 h3)
  have HAT := Lib.hid (fun (W : World) (b : Below w.heap.size w W) (h : Gr) (B : Nat) (f : LGr W B g h) => show Gr.At W h ∧ Gr.In h ∧ Capd h from ⟨f.lies (hg.below b), f.twin.within hin, f.capd⟩)
  have RW := Lib.hid (fun (W : World) (b : Below w.heap.size w W) => r14With_any g i W (hg.below b) hin)
  have RR' := Lib.hid (fun (W : World) (b : Below w.heap.size w W) => r14Order_any g W (hg.below b) hin)
  have RO := Lib.hid (fun (W : World) (b : Below w.heap.size w W) => r14Of_any g i W (hg.below b) hin)
  have RA := Lib.hid (fun (W : World) (b : Below w.heap.size w W) => r14All_any g W (hg.below b) hin)
  have RF := Lib.hid (fun (W : World) (b : Below w.heap.size w W) => r14Free_any g W (hg.below b) hin)
  have NW := Lib.hid (fun (h : Gr) W (a : Gr.At W h) (b : Gr.In h) (c : Capd h) => sWithF_any h i W a b c)
  have NR := Lib.hid (fun (h : Gr) W (a : Gr.At W h) (b : Gr.In h) (c : Capd h) => sOrder_any h W a b c)
  have NO := Lib.hid (fun (h : Gr) W (a : Gr.At W h) (b : Gr.In h) (c : Capd h) => sOf_any h i W a b c)
  have NA := Lib.hid (fun (h : Gr) W (a : Gr.At W h) (b : Gr.In h) (c : Capd h) => sAll_any h W a b c)
  have NF := Lib.hid (fun (h : Gr) W (a : Gr.At W h) (b : Gr.In h) (c : Capd h) => sFree_any h W a b c)
  have NL := Lib.hid (sort_lens g i)
  clear hg hin h1 h2 h3
  show Calls Tryz.prog 18 #[.agg #[.slice g.RA g.rules.length g.rc, .slice g.NA g.nodes.length g.nc], .int .i64 i] w _
  go_enter Tryz.func18, Tryz.ntmps18
  go_upto_region 2 with (first | (go_at_call 28; (with_reducible refine (LG.out _ (B1 _ _)).mono ?_); rintro e w1 ⟨⟨h, rfl, hl⟩, hb⟩; have HL1 := Lib.hid hl; have KB1 := Lib.hid ((Blk.new w #[.slice g.RA g.rules.length g.rc, .slice g.NA g.nodes.length g.nc] 25).below' hb); have H1 := Lib.hid (bb (B1 w _) hb); have HS1 := Lib.hid hb.size; clear hl hb) | (refine wpList_store_whole rfl 25 (.tmp 5) (.tmp 11) rfl w1.heap.size #[.slice h.RA h.rules.length h.rc, .slice h.NA h.nodes.length h.nc] rfl rfl 25 _ (Blk.new _ _ _) (by kernel_rfl) (by rfl) (by simp [Value.oneCell']) ?_; intro w2 hk2 hg2; have B12 := Lib.hid (grown_below (B1 w1 _) (by simp) hg2 (fun k e => by cases e; exact Nat.le_refl _)); have H2 := Lib.hid (bb H1.out B12.out); have KP := Lib.hid hk2; have KB := Lib.hid (KB1.out.below' B12.out); have HL2 := Lib.hid (HL1.out.below B12.out); clear hk2 hg2))
  obtain ⟨pb, epb⟩ : ∃ pb, pb = w1.heap.size := ⟨_, rfl⟩
  rw [← epb]
  have KP2 : RowKit.Hid (Blk w2 pb #[.slice h.RA h.rules.length h.rc, .slice h.NA h.nodes.length h.nc] 25) := Lib.hid (by rw [epb]; exact KP.out)
  have TW := Lib.hid HL2.out.twin
  obtain ⟨t1, t2, t3, t4, t5⟩ := twin_sort TW.out i
  have CW : RowKit.Hid (∀ W, Below w2.heap.size w2 W → Calls Tryz.prog 59 #[.agg #[.slice h.RA h.rules.length h.rc, .slice h.NA h.nodes.length h.nc], .int .i64 i] W (Row W (withOf g i))) := Lib.hid (fun W b => by
    obtain ⟨a1, a2, a3⟩ := HAT.out W (bb H2.out b) h _ (HL2.out.below b)
    have := NW.out h W a1 a2 a3
    rw [t1] at this
    exact this)
  have CR : RowKit.Hid (∀ W, Below w2.heap.size w2 W → Calls Tryz.prog 60 #[.agg #[.slice h.RA h.rules.length h.rc, .slice h.NA h.nodes.length h.nc]] W (Row W (ordOf g))) := Lib.hid (fun W b => by
    obtain ⟨a1, a2, a3⟩ := HAT.out W (bb H2.out b) h _ (HL2.out.below b)
    have := NR.out h W a1 a2 a3
    rw [t2] at this
    exact this)
  have CO : RowKit.Hid (∀ W, Below w2.heap.size w2 W → Calls Tryz.prog 63 #[.agg #[.slice h.RA h.rules.length h.rc, .slice h.NA h.nodes.length h.nc], .int .i64 i] W (fun e w' => e = .returned (.int .i64 (sofN g i)) ∧ Below W.heap.size W w')) := Lib.hid (fun W b => by
    obtain ⟨a1, a2, a3⟩ := HAT.out W (bb H2.out b) h _ (HL2.out.below b)
    have := NO.out h W a1 a2 a3
    rw [t3] at this
    exact this)
  have CA : RowKit.Hid (∀ W, Below w2.heap.size w2 W → Calls Tryz.prog 57 #[.agg #[.slice h.RA h.rules.length h.rc, .slice h.NA h.nodes.length h.nc]] W (fun e w' => (∃ v, e = .returned v ∧ w'.ownsRow W.heap.size 57 1 v (allOf g).length (ints (nums (allOf g)))) ∧ Below W.heap.size W w')) := Lib.hid (fun W b => by
    obtain ⟨a1, a2, a3⟩ := HAT.out W (bb H2.out b) h _ (HL2.out.below b)
    have := NA.out h W a1 a2 a3
    rw [t4] at this
    exact this)
  have CF : RowKit.Hid (∀ W, Below w2.heap.size w2 W → Calls Tryz.prog 61 #[.agg #[.slice h.RA h.rules.length h.rc, .slice h.NA h.nodes.length h.nc]] W (fun e w' => e = .returned (.bool (freeB g)) ∧ Below W.heap.size W w')) := Lib.hid (fun W b => by
    obtain ⟨a1, a2, a3⟩ := HAT.out W (bb H2.out b) h _ (HL2.out.below b)
    have := NF.out h W a1 a2 a3
    rw [t5] at this
    exact this)
  have KH := Lib.hid (fun W (b : Below w2.heap.size w2 W) => show Calls Tryz.prog 33 #[.agg #[.slice h.RA h.rules.length h.rc, .slice h.NA h.nodes.length h.nc], .agg #[.slice g.RA g.rules.length g.rc, .slice g.NA g.nodes.length g.nc]] W fun e w' => e = .returned (.bool true) ∧ Below W.heap.size W w' from KG.out W (bb H2.out b) h _ (HL2.out.below b))
  generalize withOf g i = L at CW RW NL
  generalize ordOf g = M at CR RR' NL
  generalize sofN g i = z at CO RO
  generalize allOf g = V at CA RA NL
  generalize freeB g = gb at CF RF
  clear t1 t2 t3 t4 t5 epb KP LG KG HAT NW NR NO NA NF
  have k0 : (World.drew w2).cell? ⟨pb, 0, none⟩ = some (.slice h.RA h.rules.length h.rc) := KP2.out.cell 0
  have k1 : (World.drew w2).cell? ⟨pb, 1, none⟩ = some (.slice h.NA h.nodes.length h.nc) := KP2.out.cell 1
  go_region_held3 (fun W => W.cell? ⟨pb, 0, none⟩ = some (.slice h.RA h.rules.length h.rc) ∧ W.cell? ⟨pb, 1, none⟩ = some (.slice h.NA h.nodes.length h.nc) ∧ Below w2.heap.size w2 W) (first | exact ⟨k0, k1, bdrew1 (Below.refl _ _)⟩ | exact ⟨d0, d1, Hd⟩ | exact ⟨c0, c1, Hc⟩ | exact ⟨b0, b1, Hb⟩ | exact ⟨a0, a1, Ha⟩) (first | (go_at_call 60; (with_reducible refine (CR.out _ (by exact Hc)).mono ?_); rintro e wd ⟨⟨vd, rfl, hod, _⟩, hbd⟩; have Od := Lib.hid hod; have Ed := Lib.hid hbd; have Hd : Below w2.heap.size w2 wd := bb Hc hbd; have d0 := (KP2.out.below' Hd).cell 0; have d1 := (KP2.out.below' Hd).cell 1; simp only [List.getElem?_toArray, List.getElem?_cons_zero, List.getElem?_cons_succ] at d0 d1; clear hod hbd) | (go_at_call 59; (with_reducible refine (CW.out _ (by exact Hb)).mono ?_); rintro e wc ⟨⟨vc, rfl, hoc, _⟩, hbc⟩; have Oc := Lib.hid hoc; have Ec := Lib.hid hbc; have Hc : Below w2.heap.size w2 wc := bb Hb hbc; have c0 := (KP2.out.below' Hc).cell 0; have c1 := (KP2.out.below' Hc).cell 1; simp only [List.getElem?_toArray, List.getElem?_cons_zero, List.getElem?_cons_succ] at c0 c1; clear hoc hbc) | (go_at_call 60; (with_reducible refine (CR.out _ (by exact Ha)).mono ?_); rintro e wb ⟨⟨vb, rfl, hob, _⟩, hbb⟩; have Ob := Lib.hid hob; have Eb := Lib.hid hbb; have Hb : Below w2.heap.size w2 wb := bb Ha hbb; have b0 := (KP2.out.below' Hb).cell 0; have b1 := (KP2.out.below' Hb).cell 1; simp only [List.getElem?_toArray, List.getElem?_cons_zero, List.getElem?_cons_succ] at b0 b1; clear hob hbb) | (go_at_call 59; (with_reducible refine (CW.out _ (by exact (bdrew1 (Below.refl _ _)))).mono ?_); rintro e wa ⟨⟨va, rfl, hoa, _⟩, hba⟩; have Oa := Lib.hid hoa; have Ea := Lib.hid hba; have Ha : Below w2.heap.size w2 wa := bb (bdrew1 (Below.refl _ _)) hba; have a0 := (KP2.out.below' Ha).cell 0; have a1 := (KP2.out.below' Ha).cell 1; simp only [List.getElem?_toArray, List.getElem?_cons_zero, List.getElem?_cons_succ] at a0 a1; clear hoa hba))
  clear k0 k1 a0 a1 b0 b1 c0 c1 d0 d1
  have Hab := Ea.out.size
  have Hbc := Eb.out.size
  have Hcd := Ec.out.size
  have Hde := Ed.out.size
  have hsz : w2.heap.size ≤ wa.heap.size := Hab
  obtain ⟨Aa, ca, rfl, _, _⟩ := own_slice Oa.out
  obtain ⟨Ab, cb, rfl, _, _⟩ := own_slice Ob.out
  obtain ⟨Ac, cc, rfl, _, _⟩ := own_slice Oc.out
  obtain ⟨Ad, cd, rfl, _, _⟩ := own_slice Od.out
  have oa : wd.ownsRow w2.heap.size 3 1 (.slice Aa L.length ca) L.length (ints (nums L)) := own_below (own_below (own_below Oa.out Eb.out) Ec.out) Ed.out
  have ob := own_lower (base' := w2.heap.size) (own_below (own_below Ob.out Ec.out) Ed.out) hsz
  have oc := own_lower (base' := w2.heap.size) (own_below Oc.out Ed.out) (by omega)
  have od := own_lower (base' := w2.heap.size) Od.out (by omega)
  obtain ⟨fr, fa⟩ := four_apart (B := w2.heap.size) oa ob oc od (fun q e => (Oa.out.lt q e).2) (fun q e => Ob.out.lt q e) (fun q e => Oc.out.lt q e) (fun q e => (Od.out.lt q e).1) Hbc Hcd
  have FR := Lib.hid fr
  have FA := Lib.hid fa
  have D2 := Lib.hid Hd
  have OA := Lib.hid oa
  have OB := Lib.hid ob
  have HSD := Lib.hid (show w2.heap.size ≤ wd.heap.size by omega)
  clear oa ob oc od fr fa Hab Hbc Hcd Hde hsz Oa Ob Oc Od Ea Eb Ec Ed Ha Hb Hc Hd CW CR
  have tx0 : (World.drew wd).cell? ⟨pb, 0, none⟩ = some (.slice h.RA h.rules.length h.rc) := (KP2.out.below' D2.out).cell 0
  have tx1 : (World.drew wd).cell? ⟨pb, 1, none⟩ = some (.slice h.NA h.nodes.length h.nc) := (KP2.out.below' D2.out).cell 1
  have ty0 : (World.drew wd).cell? ⟨w.heap.size, 0, none⟩ = some (.slice g.RA g.rules.length g.rc) := (KB.out.below' D2.out).cell 0
  have ty1 : (World.drew wd).cell? ⟨w.heap.size, 1, none⟩ = some (.slice g.NA g.nodes.length g.nc) := (KB.out.below' D2.out).cell 1
  have qb : (gb != gb) = false := by simp
  have hne1 : ¬ gb ≠ gb := by simp
  have qz : ((z : Int) != (z : Int)) = false := by simp
  have hne2 : ¬ (z : Int) ≠ (z : Int) := by simp
  go_upto_region 3 with fail
  go_region_held3 (fun W => W.cell? ⟨pb, 0, none⟩ = some (.slice h.RA h.rules.length h.rc) ∧ W.cell? ⟨pb, 1, none⟩ = some (.slice h.NA h.nodes.length h.nc) ∧ W.cell? ⟨w.heap.size, 0, none⟩ = some (.slice g.RA g.rules.length g.rc) ∧ W.cell? ⟨w.heap.size, 1, none⟩ = some (.slice g.NA g.nodes.length g.nc) ∧ Below w2.heap.size w2 W) (first | exact ⟨tx0, tx1, ty0, ty1, bdrew1 D2.out⟩ | exact ⟨z8x0, z8x1, z8y0, z8y1, H8⟩ | exact ⟨z7x0, z7x1, z7y0, z7y1, H7⟩ | exact ⟨z6x0, z6x1, z6y0, z6y1, H6⟩ | exact ⟨z5x0, z5x1, z5y0, z5y1, H5⟩ | exact ⟨z4x0, z4x1, z4y0, z4y1, H4⟩ | exact ⟨z3x0, z3x1, z3y0, z3y1, H3⟩ | exact ⟨z2x0, z2x1, z2y0, z2y1, H2z⟩ | exact ⟨z1x0, z1x1, z1y0, z1y1, H1z⟩) (first | (go_at_call 67; (with_reducible refine (RF.out _ (bb H2.out H7)).mono ?_); rintro e z8 ⟨rfl, hz8⟩; have J8 : Below wd.heap.size wd z8 := bb J7 hz8; have H8 : Below w2.heap.size w2 z8 := bb D2.out J8; have z8x0 := (KP2.out.below' H8).cell 0; have z8x1 := (KP2.out.below' H8).cell 1; have z8y0 := (KB.out.below' H8).cell 0; have z8y1 := (KB.out.below' H8).cell 1; simp only [List.getElem?_toArray, List.getElem?_cons_zero, List.getElem?_cons_succ] at z8x0 z8x1 z8y0 z8y1; clear hz8) | (go_at_call 61; (with_reducible refine (CF.out _ H6).mono ?_); rintro e z7 ⟨rfl, hz7⟩; have J7 : Below wd.heap.size wd z7 := bb J6 hz7; have H7 : Below w2.heap.size w2 z7 := bb D2.out J7; have z7x0 := (KP2.out.below' H7).cell 0; have z7x1 := (KP2.out.below' H7).cell 1; have z7y0 := (KB.out.below' H7).cell 0; have z7y1 := (KB.out.below' H7).cell 1; simp only [List.getElem?_toArray, List.getElem?_cons_zero, List.getElem?_cons_succ] at z7x0 z7x1 z7y0 z7y1; clear hz7) | (go_at_call 58; (with_reducible refine (S6.out).mono ?_); rintro e z6 ⟨rfl, hz6⟩; have J6 : Below wd.heap.size wd z6 := bb J5 hz6; have H6 : Below w2.heap.size w2 z6 := bb D2.out J6; have z6x0 := (KP2.out.below' H6).cell 0; have z6x1 := (KP2.out.below' H6).cell 1; have z6y0 := (KB.out.below' H6).cell 0; have z6y1 := (KB.out.below' H6).cell 1; simp only [List.getElem?_toArray, List.getElem?_cons_zero, List.getElem?_cons_succ] at z6x0 z6x1 z6y0 z6y1; clear hz6) | (go_at_call 66; (with_reducible refine (RA.out _ (bb H2.out H4)).mono ?_); rintro e z5 ⟨⟨v5, rfl, ho5⟩, hz5⟩; have J5 : Below wd.heap.size wd z5 := bb J4 hz5; have H5 : Below w2.heap.size w2 z5 := bb D2.out J5; have z5x0 := (KP2.out.below' H5).cell 0; have z5x1 := (KP2.out.below' H5).cell 1; have z5y0 := (KB.out.below' H5).cell 0; have z5y1 := (KB.out.below' H5).cell 1; simp only [List.getElem?_toArray, List.getElem?_cons_zero, List.getElem?_cons_succ] at z5x0 z5x1 z5y0 z5y1; obtain ⟨A5, c5, rfl, _, _⟩ := own_slice ho5; have S6 := Lib.hid (same_row A4 A5 c4 c5 V (by have := NL.out; omega) z5 (own_lies1 (own_below O4.out hz5)) (own_lies1 ho5)); clear ho5; clear hz5) | (go_at_call 65; (with_reducible refine (S4.out).mono ?_); rintro e z4 ⟨⟨v4, rfl, ho4⟩, hz4⟩; have J4 : Below wd.heap.size wd z4 := bb J3 hz4; have H4 : Below w2.heap.size w2 z4 := bb D2.out J4; have z4x0 := (KP2.out.below' H4).cell 0; have z4x1 := (KP2.out.below' H4).cell 1; have z4y0 := (KB.out.below' H4).cell 0; have z4y1 := (KB.out.below' H4).cell 1; simp only [List.getElem?_toArray, List.getElem?_cons_zero, List.getElem?_cons_succ] at z4x0 z4x1 z4y0 z4y1; obtain ⟨A4, c4, rfl, _, _⟩ := own_slice ho4; have O4 := Lib.hid ho4; clear ho4; clear hz4) | (go_at_call 57; (with_reducible refine (CA.out _ H2z).mono ?_); rintro e z3 ⟨⟨v3, rfl, ho3⟩, hz3⟩; have J3 : Below wd.heap.size wd z3 := bb J2 hz3; have H3 : Below w2.heap.size w2 z3 := bb D2.out J3; have z3x0 := (KP2.out.below' H3).cell 0; have z3x1 := (KP2.out.below' H3).cell 1; have z3y0 := (KB.out.below' H3).cell 0; have z3y1 := (KB.out.below' H3).cell 1; simp only [List.getElem?_toArray, List.getElem?_cons_zero, List.getElem?_cons_succ] at z3x0 z3x1 z3y0 z3y1; obtain ⟨A3, c3, rfl, _, _⟩ := own_slice ho3; have S4 := Lib.hid (numbers_any A3 c3 V (by have := NL.out; omega) z3 (own_lies1 ho3)); clear ho3; clear hz3) | (go_at_call 64; (with_reducible refine (RO.out _ (bb H2.out H1z)).mono ?_); rintro e z2 ⟨rfl, hz2⟩; have J2 : Below wd.heap.size wd z2 := bb J1 hz2; have H2z : Below w2.heap.size w2 z2 := bb D2.out J2; have z2x0 := (KP2.out.below' H2z).cell 0; have z2x1 := (KP2.out.below' H2z).cell 1; have z2y0 := (KB.out.below' H2z).cell 0; have z2y1 := (KB.out.below' H2z).cell 1; simp only [List.getElem?_toArray, List.getElem?_cons_zero, List.getElem?_cons_succ] at z2x0 z2x1 z2y0 z2y1; clear hz2) | (go_at_call 63; (with_reducible refine (CO.out _ (bdrew1 D2.out)).mono ?_); rintro e z1 ⟨rfl, hz1⟩; have J1 : Below wd.heap.size wd z1 := bb (bdrew1 (Below.refl _ _)) hz1; have H1z : Below w2.heap.size w2 z1 := bb D2.out J1; have z1x0 := (KP2.out.below' H1z).cell 0; have z1x1 := (KP2.out.below' H1z).cell 1; have z1y0 := (KB.out.below' H1z).cell 0; have z1y1 := (KB.out.below' H1z).cell 1; simp only [List.getElem?_toArray, List.getElem?_cons_zero, List.getElem?_cons_succ] at z1x0 z1x1 z1y0 z1y1; clear hz1))
  all_goals (
    clear tx0 tx1 ty0 ty1 z1x0 z1x1 z1y0 z1y1 z2x0 z2x1 z2y0 z2y1 z3x0 z3x1 z3y0 z3y1 z4x0 z4x1 z4y0 z4y1 z5x0 z5x1 z5y0 z5y1 z6x0 z6x1 z6y0 z6y1 z7x0 z7x1 z7y0 z7y1
    have D9 := Lib.hid J8
    have E9 := Lib.hid H8
    clear J8 H8
    go_wp2_with (first | (go_at_call 33; (with_reducible refine (KH.out _ H14).mono ?_); rintro e w15 ⟨rfl, hb15⟩; have H15 : Below w2.heap.size w2 w15 := bb H14 hb15; clear hb15; clear qx0 qx1 qy0 qy1) | (go_at_call 34; (with_reducible refine (apart_fourN (by exact H13.size) (fun k hk => own_below (FR.out k hk) D13) FA.out NL.out.1).mono ?_); rintro e w14 ⟨rfl, hb14⟩; have H14 : Below w2.heap.size w2 w14 := Below.trans H13 hb14; have qx0 := (KP2.out.below' H14).cell 0; have qx1 := (KP2.out.below' H14).cell 1; have qy0 := (KB.out.below' H14).cell 0; have qy1 := (KB.out.below' H14).cell 1; simp only [List.getElem?_toArray, List.getElem?_cons_zero, List.getElem?_cons_succ] at qx0 qx1 qy0 qy1; clear hb14) | (go_at_call 33; (with_reducible refine (KH.out _ H12).mono ?_); rintro e w13 ⟨rfl, hb13⟩; have D13 : Below wd.heap.size wd w13 := bb D12 hb13; have H13 : Below w2.heap.size w2 w13 := bb D2.out D13; clear hb13; clear rx0 rx1 ry0 ry1) | (go_at_call 58; (with_reducible refine S12.out.mono ?_); rintro e w12 ⟨rfl, hb12⟩; have D12 : Below wd.heap.size wd w12 := bb D11 hb12; have H12 : Below w2.heap.size w2 w12 := bb D2.out D12; have rx0 := (KP2.out.below' H12).cell 0; have rx1 := (KP2.out.below' H12).cell 1; have ry0 := (KB.out.below' H12).cell 0; have ry1 := (KB.out.below' H12).cell 1; simp only [List.getElem?_toArray, List.getElem?_cons_zero, List.getElem?_cons_succ] at rx0 rx1 ry0 ry1; clear hb12) | (go_at_call 69; (with_reducible refine (RR'.out _ (bb H2.out H10)).mono ?_); rintro e w11 ⟨⟨v11, rfl, ho11⟩, hb11⟩; obtain ⟨A11, c11, rfl, _, _⟩ := own_slice ho11; have D11 : Below wd.heap.size wd w11 := bb D10 hb11; have S12 := Lib.hid (same_row Ab A11 cb c11 M (by have := NL.out; omega) w11 (own_lies1 (own_below OB.out D11)) (own_lies1 ho11)); clear ho11 hb11; clear sx0 sx1 sy0 sy1) | (go_at_call 58; (with_reducible refine S10.out.mono ?_); rintro e w10 ⟨rfl, hb10⟩; have D10 : Below wd.heap.size wd w10 := bb D9a hb10; have H10 : Below w2.heap.size w2 w10 := bb D2.out D10; have sx0 := (KP2.out.below' H10).cell 0; have sx1 := (KP2.out.below' H10).cell 1; have sy0 := (KB.out.below' H10).cell 0; have sy1 := (KB.out.below' H10).cell 1; simp only [List.getElem?_toArray, List.getElem?_cons_zero, List.getElem?_cons_succ] at sx0 sx1 sy0 sy1; clear hb10) | (go_at_call 68; (with_reducible refine (RW.out _ (bb H2.out E9.out)).mono ?_); rintro e w9 ⟨⟨A9, c9, rfl, hl9⟩, hb9⟩; have D9a : Below wd.heap.size wd w9 := bb D9.out hb9; have S10 := Lib.hid (same_row Aa A9 ca c9 L (by have := NL.out; omega) w9 (own_lies1 (own_below OA.out D9a)) hl9); clear hl9 hb9; clear z8x0 z8x1 z8y0 z8y1))
    go_ret
    exact ⟨rfl, bb H2.out H15⟩)
end Go.Proofs.YtlbjmkljmhfjdaaGreat
namespace Go.Proofs.YtlbjmkljmhfjdaaGreat
open Go Go.RowKit
def sxBl : List (List Nd) := [ofL 7 [ofL 6 [[callN 0 0], [wordN ⟨#[97]⟩]], [callN 1 0]], [callN 2 0], ofL 7 [ofL 6 [[callN 1 0], [wordN ⟨#[99]⟩]], [callN 3 0]], ofL 6 [[wordN ⟨#[100]⟩], [callN 3 0]]]
def sxN : List Nd := [⟨7, 0, 0, 0, 0, ⟨#[]⟩, 0, 0, none, 0, [1, 4]⟩, ⟨6, 0, 0, 0, 0, ⟨#[]⟩, 0, 0, none, 0, [2, 3]⟩, ⟨5, 0, 0, 0, 0, ⟨#[]⟩, 0, 0, none, 0, []⟩, ⟨4, 0, 0, 0, 0, ⟨#[97]⟩, 0, 0, none, 0, []⟩, ⟨5, 0, 0, 0, 0, ⟨#[]⟩, 1, 0, none, 0, []⟩, ⟨5, 0, 0, 0, 0, ⟨#[]⟩, 2, 0, none, 0, []⟩, ⟨7, 0, 0, 0, 0, ⟨#[]⟩, 0, 0, none, 0, [7, 10]⟩, ⟨6, 0, 0, 0, 0, ⟨#[]⟩, 0, 0, none, 0, [8, 9]⟩, ⟨5, 0, 0, 0, 0, ⟨#[]⟩, 1, 0, none, 0, []⟩, ⟨4, 0, 0, 0, 0, ⟨#[99]⟩, 0, 0, none, 0, []⟩, ⟨5, 0, 0, 0, 0, ⟨#[]⟩, 3, 0, none, 0, []⟩, ⟨6, 0, 0, 0, 0, ⟨#[]⟩, 0, 0, none, 0, [12, 13]⟩, ⟨4, 0, 0, 0, 0, ⟨#[100]⟩, 0, 0, none, 0, []⟩, ⟨5, 0, 0, 0, 0, ⟨#[]⟩, 3, 0, none, 0, []⟩]
def sxR : List Rl := [⟨⟨#[65]⟩, 0⟩, ⟨⟨#[66]⟩, 5⟩, ⟨⟨#[67]⟩, 6⟩, ⟨⟨#[68]⟩, 11⟩]
theorem sx_gram : gramL sxBl = (sxR, sxN) := by rfl
def sx0 : Gr := ⟨none, 0, sxR, none, 0, sxN⟩
def sxM : Nat → Meas
  | 0 => (5, 3) | 1 => (3, 2) | 6 => (5, 3) | 7 => (3, 2) | 11 => (3, 2) | _ => (1, 1)
theorem sx_right : Right sx0 where
  rules := by decide
  nodes := by decide
  named := by
    intro i hi
    have : i = 0 ∨ i = 1 ∨ i = 2 ∨ i = 3 := by simp [sx0, sxR] at hi; omega
    rcases this with rfl | rfl | rfl | rfl
    all_goals exact ⟨by simp [sx0, sxR, nameOk, byteOk, letter], by simp [sx0, sxR, ruleAt, ruleFrom]⟩
  all := by
    intro i hi
    have : i = 0 ∨ i = 1 ∨ i = 2 ∨ i = 3 ∨ i = 4 ∨ i = 5 ∨ i = 6 ∨ i = 7 ∨ i = 8 ∨ i = 9 ∨ i = 10 ∨ i = 11 ∨ i = 12 ∨ i = 13 := by simp [sx0, sxN] at hi; omega
    rw [nodeOk_iff]
    rcases this with rfl | rfl | rfl | rfl | rfl | rfl | rfl | rfl | rfl | rfl | rfl | rfl | rfl | rfl
    all_goals simp [sx0, sxN, sxR, NodeIs, ByteArray.toList_eq, ByteArray.size]
  pre := ⟨sxM, fun m _ hm => by
    have : m = 0 ∨ m = 1 ∨ m = 2 ∨ m = 3 ∨ m = 4 ∨ m = 5 ∨ m = 6 ∨ m = 7 ∨ m = 8 ∨ m = 9 ∨ m = 10 ∨ m = 11 ∨ m = 12 ∨ m = 13 := by simp [sx0, sxN] at hm; omega
    rcases this with rfl | rfl | rfl | rfl | rfl | rfl | rfl | rfl | rfl | rfl | rfl | rfl | rfl | rfl
    all_goals exact ⟨by decide, by decide, by decide, by rfl⟩, by rfl⟩
theorem sx_graph : graphOf sx0 = [[0, 1], [2], [1, 3], []] := by kernel_rfl
theorem sx_in : Gr.In sx0 := by
  intro x hx
  simp only [sx0, sxN, List.mem_cons, List.not_mem_nil, or_false] at hx
  rcases hx with rfl | rfl | rfl | rfl | rfl | rfl | rfl | rfl | rfl | rfl | rfl | rfl | rfl | rfl
  all_goals exact ⟨by decide, by decide⟩
def sxG : List (List Nat) := [[0, 1], [2], [1, 3], []]
theorem sxG_is : IsR (adjG sxG) 4 (reB (adjG sxG)) := reB_is fun a ha => by
  match a, ha with
  | 0, _ => decide
  | 1, _ => decide
  | 2, _ => decide
  | 3, _ => decide
theorem sxG_parts : pG sxG = [[3], [1, 2], [0]] := by
  have e : sccs (rG sxG) sxG.length = sccs (reB (adjG sxG)) 4 := sccs_congr (rG_is sxG 4) sxG_is
  have e2 : sccs (reB (adjG sxG)) 4 = [[0], [1, 2], [3]] := by decide
  unfold pG partsOf
  rw [e, e2]
  decide
theorem sxG_pt (i : Nat) (hi : i < 4) : ptG sxG i = (List.range 4).filter fun b => reB (adjG sxG) i b && reB (adjG sxG) b i := by
  unfold ptG scc
  refine List.filter_congr fun b hb => ?_
  have hb : b < 4 := List.mem_range.1 hb
  have e : ∀ a c, a < 4 → c < 4 → rG sxG a c = reB (adjG sxG) a c := fun a c ha hc => by rw [Bool.eq_iff_iff, rG_is sxG 4 a c ha hc, sxG_is a c ha hc]
  rw [e i b hi hb, e b i hb hi]
theorem sx_sorts : (List.range 4).map (sortN sxG) = [1, 2, 2, 0] := by
  have h : ∀ i, i < 4 → sortN sxG i = (match decide ((i : Int) ∈ nums (adjG sxG i)), decide (1 < ((List.range 4).filter fun b => reB (adjG sxG) i b && reB (adjG sxG) b i).length) with | false, false => 0 | true, false => 1 | false, true => 2 | true, true => 3) := fun i hi => by
    unfold sortN selfB othB
    rw [sxG_pt i hi]
    rfl
  have e : (List.range 4).map (sortN sxG) = [sortN sxG 0, sortN sxG 1, sortN sxG 2, sortN sxG 3] := rfl
  rw [e, h 0 (by decide), h 1 (by decide), h 2 (by decide), h 3 (by decide)]
  decide
end Go.Proofs.YtlbjmkljmhfjdaaGreat
namespace Go.Proofs.YtlbjmkljmhfjdaaGreat
open Go Go.RowKit
set_option maxRecDepth 100000 in
set_option maxHeartbeats 8000000 in
theorem sexample_any (w : World) : Calls Tryz.prog 56 #[] w fun e w' => ∃ g : Gr, e = .returned g.val ∧ Gr.At w' g ∧ g.kz = sx0 ∧ Capd g ∧ Below w.heap.size w w' := by
  go_enter Tryz.func56, Tryz.ntmps56
  go_upto_region 1 with fail
  obtain ⟨w0, ew0⟩ : ∃ u, u = w.alloc (.cells #[.slice none 0 0, .slice none 0 0] 25) := ⟨_, rfl⟩
  have HW0 := Lib.hid (show Below w.heap.size w w0 from by rw [ew0]; exact B1 _ _)
  have R_0 := Lib.hid (show Blk w0 w.heap.size #[.slice none 0 0, .slice none 0 0] 25 from by rw [ew0]; exact Blk.new _ _ _)
  rw [← ew0]
  clear ew0
  go_wp2_with fail
  refine (kcall_any 0 0 _).mono ?_
  rintro e w1 ⟨Aa, ca, La, rfl, sa, ba, na, hb⟩
  have Sa := Lib.hid sa
  have Na := Lib.hid na
  have Ba_1 := Lib.hid ba
  have HW1 := Lib.hid (HW0.out.trans (hb.mono HW0.out.size))
  have R_1 := Lib.hid (R_0.out.below' hb)
  clear sa ba na hb
  go_wp2_with fail
  refine (word_any ⟨#[97]⟩ (by decide) _).mono ?_
  rintro e w2 ⟨Ab, cb, Lb, rfl, sb, bb, nb, hb⟩
  have Sb := Lib.hid sb
  have Nb := Lib.hid nb
  have Bb_2 := Lib.hid bb
  have Ba_2 := Lib.hid (Ba_1.out.below hb)
  have HW2 := Lib.hid (HW1.out.trans (hb.mono HW1.out.size))
  have R_2 := Lib.hid (R_1.out.below' hb)
  clear sb bb nb hb
  go_wp2_with fail
  refine (chain_any Aa ca La Ab cb Lb 0 _ (Ba_2.out.mono (K' := 0) (by decide)) (Bb_2.out.mono (K' := 0) (by decide)) Na.out Nb.out (by have h := congrArg List.length Sa.out; simp only [List.length_map] at h; rw [h]; decide) (by have h := congrArg List.length Sb.out; simp only [List.length_map] at h; rw [h]; decide) (by decide)).mono ?_
  rintro e w3 ⟨Ac, cc, Lc, rfl, sc, bc, nc, hb⟩
  rw [Sa.out] at sc
  rw [Sb.out] at sc
  have Sc := Lib.hid sc
  have Nc := Lib.hid nc
  have Bc_3 := Lib.hid bc
  have Ba_3 := Lib.hid (Ba_2.out.below hb)
  have Bb_3 := Lib.hid (Bb_2.out.below hb)
  have HW3 := Lib.hid (HW2.out.trans (hb.mono HW2.out.size))
  have R_3 := Lib.hid (R_2.out.below' hb)
  clear sc bc nc hb
  go_wp2_with fail
  refine (kcall_any 1 0 _).mono ?_
  rintro e w4 ⟨Ad, cd, Ld, rfl, sd, bd, nd, hb⟩
  have Sd := Lib.hid sd
  have Nd := Lib.hid nd
  have Bd_4 := Lib.hid bd
  have Ba_4 := Lib.hid (Ba_3.out.below hb)
  have Bb_4 := Lib.hid (Bb_3.out.below hb)
  have Bc_4 := Lib.hid (Bc_3.out.below hb)
  have HW4 := Lib.hid (HW3.out.trans (hb.mono HW3.out.size))
  have R_4 := Lib.hid (R_3.out.below' hb)
  clear sd bd nd hb
  go_wp2_with fail
  refine (first_any Ac cc Lc Ad cd Ld 100000 _ (Bc_4.out.mono (K' := 100000) (by decide)) (Bd_4.out.mono (K' := 100000) (by decide)) Nc.out Nd.out (by have h := congrArg List.length Sc.out; simp only [List.length_map] at h; rw [h]; decide) (by have h := congrArg List.length Sd.out; simp only [List.length_map] at h; rw [h]; decide) (by decide)).mono ?_
  rintro e w5 ⟨Ag1, cg1, Lg1, rfl, sg1, bg1, ng1, hb⟩
  rw [Sc.out] at sg1
  rw [Sd.out] at sg1
  have Sg1 := Lib.hid sg1
  have Ng1 := Lib.hid ng1
  have Bg1_5 := Lib.hid bg1
  have Ba_5 := Lib.hid (Ba_4.out.below hb)
  have Bb_5 := Lib.hid (Bb_4.out.below hb)
  have Bc_5 := Lib.hid (Bc_4.out.below hb)
  have Bd_5 := Lib.hid (Bd_4.out.below hb)
  have HW5 := Lib.hid (HW4.out.trans (hb.mono HW4.out.size))
  have R_5 := Lib.hid (R_4.out.below' hb)
  clear sg1 bg1 ng1 hb
  go_wp2_with fail
  refine (kcall_any 2 0 _).mono ?_
  rintro e w6 ⟨Ag2, cg2, Lg2, rfl, sg2, bg2, ng2, hb⟩
  have Sg2 := Lib.hid sg2
  have Ng2 := Lib.hid ng2
  have Bg2_6 := Lib.hid bg2
  have Ba_6 := Lib.hid (Ba_5.out.below hb)
  have Bb_6 := Lib.hid (Bb_5.out.below hb)
  have Bc_6 := Lib.hid (Bc_5.out.below hb)
  have Bd_6 := Lib.hid (Bd_5.out.below hb)
  have Bg1_6 := Lib.hid (Bg1_5.out.below hb)
  have HW6 := Lib.hid (HW5.out.trans (hb.mono HW5.out.size))
  have R_6 := Lib.hid (R_5.out.below' hb)
  clear sg2 bg2 ng2 hb
  go_wp2_with fail
  refine (kcall_any 1 0 _).mono ?_
  rintro e w7 ⟨Ah, ch, Lh, rfl, sh, bh, nh, hb⟩
  have Sh := Lib.hid sh
  have Nh := Lib.hid nh
  have Bh_7 := Lib.hid bh
  have Ba_7 := Lib.hid (Ba_6.out.below hb)
  have Bb_7 := Lib.hid (Bb_6.out.below hb)
  have Bc_7 := Lib.hid (Bc_6.out.below hb)
  have Bd_7 := Lib.hid (Bd_6.out.below hb)
  have Bg1_7 := Lib.hid (Bg1_6.out.below hb)
  have Bg2_7 := Lib.hid (Bg2_6.out.below hb)
  have HW7 := Lib.hid (HW6.out.trans (hb.mono HW6.out.size))
  have R_7 := Lib.hid (R_6.out.below' hb)
  clear sh bh nh hb
  go_wp2_with fail
  refine (word_any ⟨#[99]⟩ (by decide) _).mono ?_
  rintro e w8 ⟨Ai, ci, Li, rfl, si, bi, ni, hb⟩
  have Si := Lib.hid si
  have Ni := Lib.hid ni
  have Bi_8 := Lib.hid bi
  have Ba_8 := Lib.hid (Ba_7.out.below hb)
  have Bb_8 := Lib.hid (Bb_7.out.below hb)
  have Bc_8 := Lib.hid (Bc_7.out.below hb)
  have Bd_8 := Lib.hid (Bd_7.out.below hb)
  have Bg1_8 := Lib.hid (Bg1_7.out.below hb)
  have Bg2_8 := Lib.hid (Bg2_7.out.below hb)
  have Bh_8 := Lib.hid (Bh_7.out.below hb)
  have HW8 := Lib.hid (HW7.out.trans (hb.mono HW7.out.size))
  have R_8 := Lib.hid (R_7.out.below' hb)
  clear si bi ni hb
  go_wp2_with fail
  refine (chain_any Ah ch Lh Ai ci Li 0 _ (Bh_8.out.mono (K' := 0) (by decide)) (Bi_8.out.mono (K' := 0) (by decide)) Nh.out Ni.out (by have h := congrArg List.length Sh.out; simp only [List.length_map] at h; rw [h]; decide) (by have h := congrArg List.length Si.out; simp only [List.length_map] at h; rw [h]; decide) (by decide)).mono ?_
  rintro e w9 ⟨Aj, cj, Lj, rfl, sj, bj, nj, hb⟩
  rw [Sh.out] at sj
  rw [Si.out] at sj
  have Sj := Lib.hid sj
  have Nj := Lib.hid nj
  have Bj_9 := Lib.hid bj
  have Ba_9 := Lib.hid (Ba_8.out.below hb)
  have Bb_9 := Lib.hid (Bb_8.out.below hb)
  have Bc_9 := Lib.hid (Bc_8.out.below hb)
  have Bd_9 := Lib.hid (Bd_8.out.below hb)
  have Bg1_9 := Lib.hid (Bg1_8.out.below hb)
  have Bg2_9 := Lib.hid (Bg2_8.out.below hb)
  have Bh_9 := Lib.hid (Bh_8.out.below hb)
  have Bi_9 := Lib.hid (Bi_8.out.below hb)
  have HW9 := Lib.hid (HW8.out.trans (hb.mono HW8.out.size))
  have R_9 := Lib.hid (R_8.out.below' hb)
  clear sj bj nj hb
  go_wp2_with fail
  refine (kcall_any 3 0 _).mono ?_
  rintro e w10 ⟨Ak, ck, Lk, rfl, sk, bk, nk, hb⟩
  have Sk := Lib.hid sk
  have Nk := Lib.hid nk
  have Bk_10 := Lib.hid bk
  have Ba_10 := Lib.hid (Ba_9.out.below hb)
  have Bb_10 := Lib.hid (Bb_9.out.below hb)
  have Bc_10 := Lib.hid (Bc_9.out.below hb)
  have Bd_10 := Lib.hid (Bd_9.out.below hb)
  have Bg1_10 := Lib.hid (Bg1_9.out.below hb)
  have Bg2_10 := Lib.hid (Bg2_9.out.below hb)
  have Bh_10 := Lib.hid (Bh_9.out.below hb)
  have Bi_10 := Lib.hid (Bi_9.out.below hb)
  have Bj_10 := Lib.hid (Bj_9.out.below hb)
  have HW10 := Lib.hid (HW9.out.trans (hb.mono HW9.out.size))
  have R_10 := Lib.hid (R_9.out.below' hb)
  clear sk bk nk hb
  go_wp2_with fail
  refine (first_any Aj cj Lj Ak ck Lk 100000 _ (Bj_10.out.mono (K' := 100000) (by decide)) (Bk_10.out.mono (K' := 100000) (by decide)) Nj.out Nk.out (by have h := congrArg List.length Sj.out; simp only [List.length_map] at h; rw [h]; decide) (by have h := congrArg List.length Sk.out; simp only [List.length_map] at h; rw [h]; decide) (by decide)).mono ?_
  rintro e w11 ⟨Ag3, cg3, Lg3, rfl, sg3, bg3, ng3, hb⟩
  rw [Sj.out] at sg3
  rw [Sk.out] at sg3
  have Sg3 := Lib.hid sg3
  have Ng3 := Lib.hid ng3
  have Bg3_11 := Lib.hid bg3
  have Ba_11 := Lib.hid (Ba_10.out.below hb)
  have Bb_11 := Lib.hid (Bb_10.out.below hb)
  have Bc_11 := Lib.hid (Bc_10.out.below hb)
  have Bd_11 := Lib.hid (Bd_10.out.below hb)
  have Bg1_11 := Lib.hid (Bg1_10.out.below hb)
  have Bg2_11 := Lib.hid (Bg2_10.out.below hb)
  have Bh_11 := Lib.hid (Bh_10.out.below hb)
  have Bi_11 := Lib.hid (Bi_10.out.below hb)
  have Bj_11 := Lib.hid (Bj_10.out.below hb)
  have Bk_11 := Lib.hid (Bk_10.out.below hb)
  have HW11 := Lib.hid (HW10.out.trans (hb.mono HW10.out.size))
  have R_11 := Lib.hid (R_10.out.below' hb)
  clear sg3 bg3 ng3 hb
  go_wp2_with fail
  refine (word_any ⟨#[100]⟩ (by decide) _).mono ?_
  rintro e w12 ⟨Am, cm, Lm, rfl, sm, bm, nm, hb⟩
  have Sm := Lib.hid sm
  have Nm := Lib.hid nm
  have Bm_12 := Lib.hid bm
  have Ba_12 := Lib.hid (Ba_11.out.below hb)
  have Bb_12 := Lib.hid (Bb_11.out.below hb)
  have Bc_12 := Lib.hid (Bc_11.out.below hb)
  have Bd_12 := Lib.hid (Bd_11.out.below hb)
  have Bg1_12 := Lib.hid (Bg1_11.out.below hb)
  have Bg2_12 := Lib.hid (Bg2_11.out.below hb)
  have Bh_12 := Lib.hid (Bh_11.out.below hb)
  have Bi_12 := Lib.hid (Bi_11.out.below hb)
  have Bj_12 := Lib.hid (Bj_11.out.below hb)
  have Bk_12 := Lib.hid (Bk_11.out.below hb)
  have Bg3_12 := Lib.hid (Bg3_11.out.below hb)
  have HW12 := Lib.hid (HW11.out.trans (hb.mono HW11.out.size))
  have R_12 := Lib.hid (R_11.out.below' hb)
  clear sm bm nm hb
  go_wp2_with fail
  refine (kcall_any 3 0 _).mono ?_
  rintro e w13 ⟨An, cn, Ln, rfl, sn, bn, nn, hb⟩
  have Sn := Lib.hid sn
  have Nn := Lib.hid nn
  have Bn_13 := Lib.hid bn
  have Ba_13 := Lib.hid (Ba_12.out.below hb)
  have Bb_13 := Lib.hid (Bb_12.out.below hb)
  have Bc_13 := Lib.hid (Bc_12.out.below hb)
  have Bd_13 := Lib.hid (Bd_12.out.below hb)
  have Bg1_13 := Lib.hid (Bg1_12.out.below hb)
  have Bg2_13 := Lib.hid (Bg2_12.out.below hb)
  have Bh_13 := Lib.hid (Bh_12.out.below hb)
  have Bi_13 := Lib.hid (Bi_12.out.below hb)
  have Bj_13 := Lib.hid (Bj_12.out.below hb)
  have Bk_13 := Lib.hid (Bk_12.out.below hb)
  have Bg3_13 := Lib.hid (Bg3_12.out.below hb)
  have Bm_13 := Lib.hid (Bm_12.out.below hb)
  have HW13 := Lib.hid (HW12.out.trans (hb.mono HW12.out.size))
  have R_13 := Lib.hid (R_12.out.below' hb)
  clear sn bn nn hb
  go_wp2_with fail
  refine (chain_any Am cm Lm An cn Ln 0 _ (Bm_13.out.mono (K' := 0) (by decide)) (Bn_13.out.mono (K' := 0) (by decide)) Nm.out Nn.out (by have h := congrArg List.length Sm.out; simp only [List.length_map] at h; rw [h]; decide) (by have h := congrArg List.length Sn.out; simp only [List.length_map] at h; rw [h]; decide) (by decide)).mono ?_
  rintro e w14 ⟨Ag4, cg4, Lg4, rfl, sg4, bg4, ng4, hb⟩
  rw [Sm.out] at sg4
  rw [Sn.out] at sg4
  have Sg4 := Lib.hid sg4
  have Ng4 := Lib.hid ng4
  have Bg4_14 := Lib.hid bg4
  have Ba_14 := Lib.hid (Ba_13.out.below hb)
  have Bb_14 := Lib.hid (Bb_13.out.below hb)
  have Bc_14 := Lib.hid (Bc_13.out.below hb)
  have Bd_14 := Lib.hid (Bd_13.out.below hb)
  have Bg1_14 := Lib.hid (Bg1_13.out.below hb)
  have Bg2_14 := Lib.hid (Bg2_13.out.below hb)
  have Bh_14 := Lib.hid (Bh_13.out.below hb)
  have Bi_14 := Lib.hid (Bi_13.out.below hb)
  have Bj_14 := Lib.hid (Bj_13.out.below hb)
  have Bk_14 := Lib.hid (Bk_13.out.below hb)
  have Bg3_14 := Lib.hid (Bg3_13.out.below hb)
  have Bm_14 := Lib.hid (Bm_13.out.below hb)
  have Bn_14 := Lib.hid (Bn_13.out.below hb)
  have HW14 := Lib.hid (HW13.out.trans (hb.mono HW13.out.size))
  have R_14 := Lib.hid (R_13.out.below' hb)
  clear sg4 bg4 ng4 hb
  have GR := Lib.hid (gram_any (some ⟨w14.heap.size, 0, none⟩) [(Ag1, cg1, Lg1), (Ag2, cg2, Lg2), (Ag3, cg3, Lg3), (Ag4, cg4, Lg4)] 4 200000 (w14.alloc (.cells #[.slice Ag1 Lg1.length cg1, .slice Ag2 Lg2.length cg2, .slice Ag3 Lg3.length cg3, .slice Ag4 Lg4.length cg4] 23)) ⟨lies_four (Blk.new _ _ _), fun x hx => by
    simp only [List.mem_cons, List.not_mem_nil, or_false] at hx
    rcases hx with rfl | rfl | rfl | rfl
    · exact ⟨(Bg1_14.out.mono (by decide)).below (B1 _ _), (by have h := congrArg List.length Sg1.out; simp only [List.length_map] at h; rw [h]; decide), Ng1.out⟩
    · exact ⟨(Bg2_14.out.mono (by decide)).below (B1 _ _), (by have h := congrArg List.length Sg2.out; simp only [List.length_map] at h; rw [h]; decide), Ng2.out⟩
    · exact ⟨(Bg3_14.out.mono (by decide)).below (B1 _ _), (by have h := congrArg List.length Sg3.out; simp only [List.length_map] at h; rw [h]; decide), Ng3.out⟩
    · exact ⟨(Bg4_14.out.mono (by decide)).below (B1 _ _), (by have h := congrArg List.length Sg4.out; simp only [List.length_map] at h; rw [h]; decide), Ng4.out⟩
    ⟩ (by simp) (by decide))
  simp only [List.length_cons, List.length_nil, Nat.reduceAdd, List.map_cons, List.map_nil, Sg1.out, Sg2.out, Sg3.out, Sg4.out] at GR
  go_wp2_with fail
  refine GR.out.mono ?_
  rintro e wg ⟨g, rfl, hst, hsp, hkl, hcp, hb⟩
  have HST := Lib.hid hst
  have HSP := Lib.hid hsp
  have HCP := Lib.hid hcp
  have RG := Lib.hid (show Blk wg w.heap.size #[.slice none 0 0, .slice none 0 0] 25 from ((R_14.out.alloc _).below' hb))
  have HWG := Lib.hid (show Below w.heap.size w wg from (HW14.out.alloc HW14.out.size _).trans (hb.mono (by have := HW14.out.size; simp; omega)))
  have HLO := Lib.hid (show w.heap.size < w14.heap.size from R_14.out.lt)
  clear hst hsp hkl hcp hb GR
  go_wp2_with (refine wpList_store_whole rfl 25 (.tmp 0) (.tmp 16) rfl w.heap.size #[.slice g.RA g.rules.length g.rc, .slice g.NA g.nodes.length g.nc] rfl rfl 25 _ RG.out (by kernel_rfl) (by rfl) (by simp [Value.oneCell']) ?_; intro w5 hk5 hg5; have K5 := Lib.hid hk5; have G5 := Lib.hid hg5; clear hk5 hg5)
  refine bodyPost_ret (results_cell_row rfl _ _ w.heap.size 25 _ (0, 0) _ rfl K5.out Tryz.underlying25 rfl (by kernel_rfl)) rfl ?_
  exact ⟨g, rfl, HST.out w5 G5.out.size (fun b h1 h2 => G5.out.block b h2 (fun e => by have := HLO.out; cases e; simp at h1; omega)), kz_of (HSP.out.trans sx_gram), HCP.out, grown_below HWG.out HWG.out.size G5.out (fun k e => by cases e; exact Nat.le_refl _)⟩
end Go.Proofs.YtlbjmkljmhfjdaaGreat
namespace Go.Proofs.YtlbjmkljmhfjdaaGreat
open Go Go.RowKit Go.Maps
end Go.Proofs.YtlbjmkljmhfjdaaGreat
namespace Go.Proofs.YtlbjmkljmhfjdaaGreat
open Go Go.RowKit Go.Maps Go.Shelf
section
variable {w W W' : World} {g : Gr} {ib cb N R : Nat} {A : Option Addr} {c : Nat} {L : List Int} {B : Option Addr} {d : Nat} {M : List Int} {f f' h h' : Nat → Bool}
end
end Go.Proofs.YtlbjmkljmhfjdaaGreat
namespace Go.Proofs.YtlbjmkljmhfjdaaGreat
open Go Go.RowKit Go.Maps Go.Shelf
end Go.Proofs.YtlbjmkljmhfjdaaGreat
namespace Go.Proofs.YtlbjmkljmhfjdaaGreat
open Go Go.RowKit Go.Maps
end Go.Proofs.YtlbjmkljmhfjdaaGreat
namespace Go.Proofs.YtlbjmkljmhfjdaaGreat
open Go Go.RowKit Go.Maps
end Go.Proofs.YtlbjmkljmhfjdaaGreat
namespace Go.Proofs.YtlbjmkljmhfjdaaGreat
open Go Go.RowKit Go.Maps Go.Shelf
end Go.Proofs.YtlbjmkljmhfjdaaGreat
namespace Go.Proofs.YtlbjmkljmhfjdaaGreat
open Go Go.RowKit Go.Maps
end Go.Proofs.YtlbjmkljmhfjdaaGreat

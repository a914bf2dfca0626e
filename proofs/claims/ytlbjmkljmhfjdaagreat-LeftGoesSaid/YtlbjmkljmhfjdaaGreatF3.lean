/- ApartInts. -/
import Derived.Test.YtlbjmkljmhfjdaaGreatF2
import Derived.Test.YtlbjmkljmhfjdaaGreatE9
import Derived.Test.YtlbjmkljmhfjdaaGreatE2
import Derived.Test.YtlbjmkljmhfjdaaGreatC9
import Derived.Test.YtlbjmkljmhfjdaaGreatE6
import Derived.Deep.RegionHeld3
import Derived.Test.YtlbjmkljmhfjdaaGreatE8
import Derived.Test.YtlbjmkljmhfjdaaGreatD9
set_option linter.unusedSimpArgs false
set_option linter.unusedVariables false
namespace Go.Proofs.YtlbjmkljmhfjdaaGreat
open Go Go.RowKit Go.Maps
def bagC (lv : Value) : Array Value := #[.slice none 0 0, .slice none 0 0, lv, .slice none 0 0, .slice none 0 0, .slice none 0 0, .slice none 0 0, .slice none 0 0, .slice none 0 0, .slice none 0 0, .slice none 0 0, .slice none 0 0, .slice none 0 0, .slice none 0 0]
set_option maxRecDepth 100000 in
set_option maxHeartbeats 8000000 in
theorem apart_rows (B C n c : Nat) (A : Option Addr) (vs : List Value) (ms : Nat → List Int) (w : World) (hB : B ≤ w.heap.size) (en : vs.length = n) (hc : ∀ k, k < n → ∃ lb, A = some ⟨lb, 0, none⟩ ∧ lb < w.heap.size ∧ w.cell? ⟨lb, k, none⟩ = some (vs.getD k undef)) (hr : ∀ k, k < n → w.ownsRow B 3 1 (vs.getD k undef) (ms k).length (ints (ms k)))
    (ha : ∀ j k q, j < n → k < n → j ≠ k → (vs.getD j undef).ownBlock = some q → (vs.getD k undef).ownBlock ≠ some q) (hn : n ≤ 4096) (hl : ∀ k, k < n → (ms k).length ≤ 100000) (hC : ∀ j q, j < n → (vs.getD j undef).ownBlock = some q → q < C) :
    Calls Tryz.prog 34 #[.slice A n c] w fun e w' => e = .returned (.bool true) ∧ Below B w w' ∧ (∀ (b : Nat) (us : Array Value) (T2 : TypeId), T2 ≠ 3 → Blk w b us T2 → Blk w' b us T2) ∧ ∀ b, C ≤ b → b < w.heap.size → w'.heap[b]? = w.heap[b]? := by
  have HB := Lib.hid hB
  have HC := Lib.hid hc
  have HR := Lib.hid hr
  have HA := Lib.hid ha
  have HL := Lib.hid hl
  have EN := Lib.hid en
  have HCC := Lib.hid hC
  clear hc hr ha hl en hB hC
  go_enter Tryz.func34, Tryz.ntmps34
  go_wp2_with fail
  obtain ⟨bb, ebb⟩ : ∃ u, u = w.heap.size := ⟨_, rfl⟩
  have EBB := Lib.hid ebb
  have K0 := Lib.hid (show Blk (w.alloc (.cells #[.slice none 0 0, .slice none 0 0, .slice none 0 0, .slice none 0 0, .slice none 0 0, .slice none 0 0, .slice none 0 0, .slice none 0 0, .slice none 0 0, .slice none 0 0, .slice none 0 0, .slice none 0 0, .slice none 0 0, .slice none 0 0] 121)) bb (bagC (.slice none 0 0)) 121 from by rw [ebb]; exact Blk.new _ _ _)
  have L0 := Lib.hid (B1 w (.cells #[.slice none 0 0, .slice none 0 0, .slice none 0 0, .slice none 0 0, .slice none 0 0, .slice none 0 0, .slice none 0 0, .slice none 0 0, .slice none 0 0, .slice none 0 0, .slice none 0 0, .slice none 0 0, .slice none 0 0, .slice none 0 0] 121))
  rw [← ebb]
  clear ebb
  generalize w.alloc (.cells #[.slice none 0 0, .slice none 0 0, .slice none 0 0, .slice none 0 0, .slice none 0 0, .slice none 0 0, .slice none 0 0, .slice none 0 0, .slice none 0 0, .slice none 0 0, .slice none 0 0, .slice none 0 0, .slice none 0 0, .slice none 0 0] 121) = w0 at K0 L0 ⊢
  go_loopw [4] (fun ix wr => ∃ (i : Nat) (lv : Value), i ≤ n ∧ ix = .int .i64 i ∧ Blk wr bb (bagC lv) 121 ∧ wr.ownsRow w.heap.size 38 1 lv i (vs.take i) ∧ Below w.heap.size w wr) (fun ix _ => n - (RowKit.intOf ix).toNat)
  case atStart => exact ⟨0, _, by omega, rfl, K0.out, World.ownsRow_nil _ _ _ _, L0.out⟩
  case round =>
    obtain ⟨i, lv, hi, rfl, hk, ho, hb⟩ := hrel
    have KB := Lib.hid hk
    have OB := Lib.hid ho
    have LB := Lib.hid hb
    by_cases hit : i < n
    · have hit2 : (i : Int) < n := by omega
      obtain ⟨A', c', e1, _, _⟩ := own_slice (HR.out i hit)
      obtain ⟨lb, eA, hlb, ci0⟩ := HC.out i hit
      subst eA
      have ci := (hb.cell (p := ⟨lb, i, none⟩) (by exact hlb)).trans ci0
      clear ci0
      rw [e1] at ci
      have hti : (vs.take i).length = i := by rw [List.length_take]; have := EN.out; omega
      have PI := Lib.hid (put_ints w.heap.size bb (.slice none 0 0) (.slice none 0 0) lv [.slice none 0 0, .slice none 0 0, .slice none 0 0, .slice none 0 0, .slice none 0 0, .slice none 0 0, .slice none 0 0, .slice none 0 0, .slice none 0 0, .slice none 0 0, .slice none 0 0] (vs.take i) A' (ms i).length c' wr hb.size hk (by rw [hti]; exact ho) (by omega))
      rw [hti] at PI
      have EV := Lib.hid e1
      clear hk ho hb e1
      go_wp2_with fail
      refine PI.out.mono ?_
      rintro e w5 ⟨rfl, lv2, w1, ow, gw, kb, rfl⟩
      have L1 : Below w.heap.size w w1 := grown_below (LB.out.trans ((B1 wr _).mono LB.out.size)) (by have := LB.out.size; simp; omega) gw (fun k e => (OB.out.lt k e).1)
      have F1 := Lib.hid (show Blk (w1.setCell ⟨bb, 2, none⟩ lv2) bb (bagC lv2) 121 from by have h9 := heap_setCell_same w1 bb 2 _ _ lv2 kb; simp at h9; exact h9)
      have F2 := Lib.hid (own_beside ow (store_grown w1 bb 2 lv2) (fun q hq e => own_ne ow kb (by decide) (by rw [hq]; exact e.symm)))
      have F3 := Lib.hid (L1.setCell (p := ⟨bb, 2, none⟩) (by have := EBB.out; show w.heap.size ≤ bb; omega) lv2)
      have ET := Lib.hid (show vs.take i ++ [Value.slice A' (ms i).length c'] = vs.take (i + 1) from by
        have hv : i < vs.length := by have := EN.out; omega
        rw [List.take_succ_eq_append_getElem hv, ← EV.out]
        simp [List.getD, hv])
      clear ow gw kb L1 ci
      go_wp2_with fail
      go_roundw
      case rel => exact ⟨i + 1, lv2, by omega, by go_num, F1.out, by rw [← ET.out]; exact F2.out, F3.out⟩
      case measure => simp [RowKit.intOf]; omega
    · obtain rfl : i = n := by omega
      have hit2 : ¬ (i : Int) < i := by omega
      have htk : vs.take i = vs := by rw [← EN.out]; exact List.take_length
      have FL := Lib.hid (show Fl B 38 wr lv vs ms from ⟨by have := own_lower ho HB.out; rw [htk] at this; rw [EN.out]; exact this, fun k hk => (own_lower (by exact (HR.out k (by rw [← EN.out]; exact hk))) (Nat.le_refl _)).kept ⟨hb.os, hb.tape, hb.output, hb.size, fun j hj _ => hb.block j hj⟩ (row := none) (by cases ho2 : (vs.getD k undef).ownBlock with | none => exact .inl rfl | some q => exact .inr (by simp)), fun j k q hj hk => HA.out j k q (by rw [← EN.out]; exact hj) (by rw [← EN.out]; exact hk)⟩)
      have BA := Lib.hid (bag_apart B C bb lv vs ms wr (Nat.le_trans HB.out hb.size) hk FL.out (by rw [EN.out]; exact hn) (fun k hk => HL.out k (by rw [← EN.out]; exact hk)) (fun j q hj e => HCC.out j q (by rw [← EN.out]; exact hj) e))
      clear hk ho hb
      go_wp2_with fail
      refine BA.out.mono ?_
      rintro e w9 ⟨rfl, hw⟩
      have FIN := Lib.hid ((LB.out.mono HB.out).trans hw.low)
      have KEEP := Lib.hid (show ∀ (b : Nat) (us : Array Value) (T2 : TypeId), T2 ≠ 3 → Blk w b us T2 → Blk w9 b us T2 from fun b us T2 h1 k => hw.keep b us T2 h1 (k.below' LB.out))
      have HIGH := Lib.hid (show ∀ b, C ≤ b → b < w.heap.size → w9.heap[b]? = w.heap[b]? from fun b h1 h2 => (hw.high b h1 (by have := LB.out.size; omega)).trans (LB.out.block b h2))
      clear hw
      go_wp2_with fail
      go_ret
      exact ⟨rfl, FIN.out, KEEP.out, HIGH.out⟩
theorem apart_ints (B lb n c : Nat) (vs : List Value) (ms : Nat → List Int) (w : World) (hB : B ≤ w.heap.size) (en : vs.length = n) (hlb : lb < w.heap.size) (hc : ∀ k, k < n → w.cell? ⟨lb, k, none⟩ = some (vs.getD k undef)) (hr : ∀ k, k < n → w.ownsRow B 3 1 (vs.getD k undef) (ms k).length (ints (ms k)))
    (ha : ∀ j k q, j < n → k < n → j ≠ k → (vs.getD j undef).ownBlock = some q → (vs.getD k undef).ownBlock ≠ some q) (hn : n ≤ 4096) (hl : ∀ k, k < n → (ms k).length ≤ 100000) :
    Calls Tryz.prog 34 #[.slice (some ⟨lb, 0, none⟩) n c] w fun e w' => e = .returned (.bool true) ∧ Below B w w' :=
  (apart_rows B w.heap.size n c (some ⟨lb, 0, none⟩) vs ms w hB en (fun k hk => ⟨lb, rfl, hlb, hc k hk⟩) hr ha hn hl (fun j q hj e => ((hr j hj).lt q e).2)).mono fun e w' ⟨h1, h2, _⟩ => ⟨h1, h2⟩
end Go.Proofs.YtlbjmkljmhfjdaaGreat
namespace Go.Proofs.YtlbjmkljmhfjdaaGreat
open Go Go.Proofs Go.RowKit Go.Lib Go.Maps
/-- Two of a kind. -/
def two {α : Type} (a b : α) (k : Nat) : α := if k = 0 then a else b
/-- How long a row is that is put in. -/
def lenA (k i : Nat) : Nat := 1 + (k * 31 + i) % 97
theorem lenA_le (k i : Nat) : lenA k i ≤ 97 := by unfold lenA; have := Nat.mod_lt (k * 31 + i) (show 0 < 97 by omega); omega
/-- A value that is a slice of so many. -/
def IsSl (v : Value) (n : Nat) : Prop := ∃ A c, v = .slice A n c
/-- Two blocks of rows: what is put in so far. -/
structure TwoB (W : World) (gx gy n : Nat) (F : Nat → List Value) (k i : Nat) : Prop where
  blk : ∀ j, j < 2 → Blk W (two gx gy j) (F j).toArray 38
  len : ∀ j, j < 2 → (F j).length = n
  done : ∀ j p, j < 2 → p < n → j < k ∨ (j = k ∧ p < i) → IsSl ((F j).getD p undef) (lenA j p)
theorem TwoB.below {W W' : World} {gx gy n k i : Nat} {F : Nat → List Value} (h : TwoB W gx gy n F k i) (hb : Below W.heap.size W W') : TwoB W' gx gy n F k i :=
  ⟨fun j hj => (h.blk j hj).below' hb, h.len, h.done⟩
theorem TwoB.row {W : World} {gx gy n k : Nat} {F : Nat → List Value} (h : TwoB W gx gy n F k n) : TwoB W gx gy n F (k + 1) 0 :=
  ⟨h.blk, h.len, fun j p hj hp hd => h.done j p hj hp (by omega)⟩
theorem TwoB.put {W : World} {gx gy n k i : Nat} {F : Nat → List Value} (h : TwoB W gx gy n F k i) (hxy : gx ≠ gy) (hk : k < 2) (hi : i < n) (v : Value) (hv : IsSl v (lenA k i)) : TwoB (W.setCell ⟨two gx gy k, i, none⟩ v) gx gy n (fun j => if j = k then (F k).set i v else F j) k (i + 1) := by
  have hne : ∀ j, j < 2 → j ≠ k → two gx gy j ≠ two gx gy k := fun j hj e => by
    unfold two
    by_cases h0 : j = 0
    · rw [if_pos h0, if_neg (by omega)]; exact hxy
    · rw [if_neg h0, if_pos (by omega)]; exact fun e => hxy e.symm
  refine ⟨fun j hj => ?_, fun j hj => ?_, fun j p hj hp hd => ?_⟩
  · by_cases e : j = k
    · subst e; rw [if_pos rfl]; exact (h.blk j hj).put v
    · rw [if_neg e]
      exact (heap_setCell_other W ⟨two gx gy k, i, none⟩ (two gx gy j) v (hne j hj e)).trans (h.blk j hj)
  · by_cases e : j = k
    · rw [if_pos e, List.length_set]; exact h.len k hk
    · rw [if_neg e]; exact h.len j hj
  · by_cases e : j = k
    · subst e
      rw [if_pos rfl]
      simp only [List.getD, List.getElem?_set]
      by_cases e2 : i = p
      · subst e2
        have := h.len j hj
        simp only [if_true, this, hi]
        exact hv
      · rw [if_neg e2]
        exact h.done j p hj hp (by omega)
    · rw [if_neg e]
      exact h.done j p hj hp (by omega)
theorem TwoB.cell {W : World} {gx gy n k i : Nat} {F : Nat → List Value} (h : TwoB W gx gy n F k i) {j p : Nat} (hj : j < 2) (hp : p < n) : W.cell? ⟨two gx gy j, p, none⟩ = some ((F j).getD p undef) := by
  rw [(h.blk j hj).cell, List.getElem?_toArray]
  have := h.len j hj
  simp [List.getD, List.getElem?_eq_getElem (show p < (F j).length by omega)]
theorem wrapA {k i n : Nat} (hk : k < 2) (hi : i < n) (hn : n ≤ 32) : IntKind.i64.wrap ((k : Int) * 31) = (k : Int) * 31 ∧ IntKind.i64.wrap ((k : Int) * 31 + i) = (k : Int) * 31 + i ∧ ((k : Int) * 31 + i).tmod 97 = (((k * 31 + i) % 97 : Nat) : Int) ∧ IntKind.i64.wrap (1 + (((k * 31 + i) % 97 : Nat) : Int)) = ((lenA k i : Nat) : Int) := by
  have h1 := Nat.mod_lt (k * 31 + i) (show 0 < 97 by omega)
  refine ⟨IntWalk.i64_in _ (by omega), IntWalk.i64_in _ (by omega), ?_, ?_⟩
  · rw [Int.tmod_eq_emod_of_nonneg (by omega)]; omega
  · unfold lenA
    rw [IntWalk.i64_in _ (by omega)]; omega
theorem blk_news {w : World} {b : Nat} {vs : List Value} {T : TypeId} (h : Blk w b vs.toArray T) : ∀ a, some (⟨b, 0, none⟩ : Addr) = some a → ∀ j u, vs[j]? = some u → w.cell? (a.add j) = some u := by
  intro a ha j u hu
  cases ha
  rw [Addr.add_lit, Nat.zero_add, h.cell, List.getElem?_toArray]
  exact hu
/-- Nothing below B is changed, and nothing from C on that there was. -/
structure Kp (B C : Nat) (w W : World) : Prop where
  low : Below B w W
  high : ∀ b, C ≤ b → b < w.heap.size → W.heap[b]? = w.heap[b]?
theorem Kp.step {B C : Nat} {w W W' : World} (h : Kp B C w W) (hB : B ≤ w.heap.size) (hb : Below W.heap.size W W') : Kp B C w W' :=
  ⟨h.low.trans (hb.mono (by have := h.low.size; omega)), fun b h1 h2 => (hb.block b (by have := h.low.size; omega)).trans (h.high b h1 h2)⟩
theorem Kp.set {B C g : Nat} {w W : World} (h : Kp B C w W) (hg : B ≤ g) (hc : g < C) (i : Nat) (u : Value) : Kp B C w (W.setCell ⟨g, i, none⟩ u) :=
  ⟨h.low.setCell (p := ⟨g, i, none⟩) hg u, fun b h1 h2 => (heap_setCell_other W ⟨g, i, none⟩ b u (by show b ≠ g; omega)).trans (h.high b h1 h2)⟩
theorem keep_below {w w' : World} {B e z n : Nat} {v : Value} {xs : List Value} (h : w.ownsRow B e z v n xs) (hb : Below w.heap.size w w') : w'.ownsRow B e z v n xs := own_below h hb
set_option maxRecDepth 100000 in
set_option maxHeartbeats 16000000 in
theorem apart_two_rows (B C lb gx gy n : Nat) (cx cy : Nat) (vx vy : List Value) (L : Nat → List Nat) (T : TypeId) (w : World) (hT : T ≠ 3 ∧ T ≠ 38) (hB : B ≤ w.heap.size) (hlb : Blk w lb #[.slice (some ⟨gx, 0, none⟩) n cx, .slice (some ⟨gy, 0, none⟩) n cy] T) (hn : n ≤ 32) (hn0 : 0 < n)
    (kx : Blk w gx vx.toArray 38) (ky : Blk w gy vy.toArray 38) (lx : vx.length = n) (ly : vy.length = n) (bx : B ≤ gx) (by_ : B ≤ gy) (hxy : gx ≠ gy)
    (rx : ∀ i, i < n → w.ownsRow B 3 1 (vx.getD i undef) (L i).length (ints (nums (L i)))) (ry : ∀ i, i < n → w.ownsRow B 3 1 (vy.getD i undef) (L i).length (ints (nums (L i)))) (hl : ∀ i, i < n → (L i).length ≤ 100000)
    (ha : Apt (vx ++ vy)) (hC : ∀ j q, j < (vx ++ vy).length → ((vx ++ vy).getD j undef).ownBlock = some q → q < C) (hgC : gx < C ∧ gy < C) :
    Calls Tryz.prog 40 #[.slice (some ⟨lb, 0, none⟩) 2 2] w fun e w' => e = .returned (.bool true) ∧ Kp B C w w' := by
  obtain ⟨i1, ji, jz0, jz1, jz2⟩ := info_parts Tryz.info_sH
  have KL := Lib.hid hlb
  have KX := Lib.hid kx
  have KY := Lib.hid ky
  have LX := Lib.hid lx
  have LY := Lib.hid ly
  have HB := Lib.hid hB
  have BXY := Lib.hid (show B ≤ gx ∧ B ≤ gy from ⟨bx, by_⟩)
  have HXY := Lib.hid hxy
  have HTT := Lib.hid hT
  have RX := Lib.hid rx
  have RY := Lib.hid ry
  have HLL := Lib.hid hl
  have APT := Lib.hid ha
  have HCC := Lib.hid hC
  have HGC := Lib.hid hgC
  clear hlb kx ky lx ly hB bx by_ hxy hT rx ry hl ha hC hgC
  go_enter Tryz.func40, Tryz.ntmps40
  go_wp2_with fail
  go_loopw [3, 4] (fun l iv wr => ∃ k : Nat, k ≤ 2 ∧ iv = .int .i64 k ∧ wr.ownsRow w.heap.size 38 1 l (k * n) ((vx ++ vy).take (k * n)) ∧ Below w.heap.size w wr) (fun _ iv _ => 2 - (RowKit.intOf iv).toNat)
  case atStart => exact ⟨0, by omega, by go_num, by rw [Nat.zero_mul]; exact World.ownsRow_nil _ _ _ _, Below.refl _ _⟩
  case round =>
    obtain ⟨k, hk, rfl, hown, hb⟩ := hrel
    have HO := Lib.hid hown
    have HBW := Lib.hid hb
    have c0 := (KL.out.below' hb).cell 0
    have c1 := (KL.out.below' hb).cell 1
    simp only [List.getElem?_toArray, List.getElem?_cons_zero, List.getElem?_cons_succ] at c0 c1
    clear hown hb
    by_cases hlt : k < 2
    · have hlt2 : (k : Int) < 2 := by omega
      obtain ⟨gk, vk, ck, egk, kk, lk, etk⟩ : ∃ (gk : Nat) (vk : List Value) (ck : Nat), wr.cell? ⟨lb, k, none⟩ = some (.slice (some ⟨gk, 0, none⟩) n ck) ∧ Blk wr gk vk.toArray 38 ∧ vk.length = n ∧ (vx ++ vy).take (k * n) ++ vk = (vx ++ vy).take ((k + 1) * n) := by
        rcases (show k = 0 ∨ k = 1 by omega) with rfl | rfl
        · refine ⟨gx, vx, cx, c0, KX.out.below' HBW.out, LX.out, ?_⟩
          rw [Nat.zero_mul, List.take_zero, List.nil_append, Nat.zero_add, Nat.one_mul, List.take_append, ← LX.out]
          simp
        · refine ⟨gy, vy, cy, c1, KY.out.below' HBW.out, LY.out, ?_⟩
          have h1 : (vx ++ vy).take (1 * n) = vx := by rw [Nat.one_mul, List.take_append, ← LX.out]; simp
          have h2 : (vx ++ vy).take ((1 + 1) * n) = vx ++ vy := List.take_of_length_le (by rw [List.length_append, LX.out, LY.out]; omega)
          rw [h1, h2]
      obtain ⟨LA, lc, rfl, _, _⟩ := own_slice HO.out
      have KK := Lib.hid kk
      have LK := Lib.hid lk
      have ETK := Lib.hid etk
      have H1C := Lib.hid (show ∀ u ∈ vk, u.oneCell' = true from by
        intro u hu
        have hall : ∀ u ∈ vx ++ vy, u.oneCell' = true := by
          intro u hu
          obtain ⟨j, hj, rfl⟩ := List.getElem_of_mem hu
          have e : (vx ++ vy)[j] = (vx ++ vy).getD j undef := by simp [List.getD, List.getElem?_eq_getElem hj]
          rw [e]
          rw [List.length_append, LX.out, LY.out] at hj
          by_cases hjn : j < n
          · have : (vx ++ vy).getD j undef = vx.getD j undef := by simp only [List.getD]; rw [List.getElem?_append_left (by rw [LX.out]; exact hjn)]
            rw [this]
            obtain ⟨A, c, e2, _, _⟩ := own_slice (RX.out j hjn)
            rw [e2]; rfl
          · have : (vx ++ vy).getD j undef = vy.getD (j - n) undef := by simp only [List.getD]; rw [List.getElem?_append_right (by rw [LX.out]; omega), LX.out]
            rw [this]
            obtain ⟨A, c, e2, _, _⟩ := own_slice (RY.out (j - n) (by omega))
            rw [e2]; rfl
        refine hall u ?_
        have : u ∈ (vx ++ vy).take ((k + 1) * n) := by rw [← etk]; exact List.mem_append_right _ hu
        exact List.mem_of_mem_take this)
      have hkn : k * n ≤ 32 := by rcases (show k = 0 ∨ k = 1 by omega) with rfl | rfl <;> omega
      clear kk lk etk c0 c1
      go_wp2_with (at_builtin; refine wpList_append_onto _ rfl _ _ 31 rfl w.heap.size 38 i1 (.slice none 0 0) 1 24 Tryz.underlying31 ji jz0 jz1 jz2 rfl (by decide) _ _ _ rfl HO.out (some ⟨gk, 0, none⟩) n ck vk rfl (by rw [LK.out, Nat.mul_one]) (blk_news KK.out) (fun h => nomatch h) H1C.out (by unfold maxLen; omega) (by omega) HBW.out.size ?_; intro v9 w9 hown9 hgrow9 hfr9; have O9 := Lib.hid hown9; have G9 := Lib.hid hgrow9; clear hown9 hgrow9 hfr9)
      go_roundw
      case rel =>
        have fin : ∃ k' : Nat, k' ≤ 2 ∧ Value.int .i64 ((k : Int) + 1) = .int .i64 k' ∧ w9.ownsRow w.heap.size 38 1 v9 (k' * n) ((vx ++ vy).take (k' * n)) ∧ Below w.heap.size w w9 := by
          refine ⟨k + 1, by omega, by go_num, ?_, grown_below HBW.out HBW.out.size G9.out (fun j e => (HO.out.lt j e).1)⟩
          have := O9.out
          rw [ETK.out, show k * n + n = (k + 1) * n by rw [Nat.add_mul, Nat.one_mul]] at this
          exact this
        first | exact fin | ((repeat apply Exists.intro); exact ⟨fin, rfl⟩)
      case measure => simp [RowKit.intOf]; omega
    · obtain rfl : k = 2 := by omega
      have hlt2 : ¬ ((2 : Nat) : Int) < 2 := by omega
      clear c0 c1
      obtain ⟨LA0, lc0, rfl, _, _⟩ := own_slice HO.out
      have OA := Lib.hid (show wr.ownsRow w.heap.size 38 1 (.slice LA0 (2 * n) lc0) (2 * n) (vx ++ vy) from by
        have := HO.out
        rw [List.take_of_length_le (by rw [List.length_append, LX.out, LY.out]; omega)] at this
        exact this)
      have AR := Lib.hid (apart_rows B C (2 * n) lc0 LA0 (vx ++ vy) (fun j => nums (L (j % n))) wr (Nat.le_trans HB.out HBW.out.size) (by rw [List.length_append, LX.out, LY.out]; omega)
        (fun j hj => by
          have h1 := own_lies1 OA.out
          obtain ⟨b, o, e, hb, hc⟩ := h1 (by rw [List.length_append, LX.out, LY.out]; omega)
          obtain ⟨⟨b2, e2⟩, _⟩ := own_room2 OA.out (by omega)
          rw [e] at e2
          have e3 := Option.some.inj e2
          simp only [Addr.mk.injEq] at e3
          obtain ⟨rfl, rfl, _⟩ := e3
          refine ⟨b, e, hb, ?_⟩
          have h2 := hc j (by rw [List.length_append, LX.out, LY.out]; omega)
          rw [Nat.zero_add] at h2
          rw [h2]
          simp [List.getD, List.getElem?_eq_getElem (show j < (vx ++ vy).length by rw [List.length_append, LX.out, LY.out]; omega)])
        (fun j hj => by
          by_cases hjn : j < n
          · have : (vx ++ vy).getD j undef = vx.getD j undef := by simp only [List.getD]; rw [List.getElem?_append_left (by rw [LX.out]; exact hjn)]
            rw [this, Nat.mod_eq_of_lt hjn, nums_len]
            exact keep_below (RX.out j hjn) HBW.out
          · have : (vx ++ vy).getD j undef = vy.getD (j - n) undef := by simp only [List.getD]; rw [List.getElem?_append_right (by rw [LX.out]; omega), LX.out]
            rw [this, show j % n = j - n by rw [Nat.mod_eq_sub_mod (by omega), Nat.mod_eq_of_lt (by omega)], nums_len]
            exact keep_below (RY.out (j - n) (by omega)) HBW.out)
        (fun j k q hj hk => APT.out j k q (by rw [List.length_append, LX.out, LY.out]; omega) (by rw [List.length_append, LX.out, LY.out]; omega)) (by omega)
        (fun j hj => by rw [nums_len]; exact HLL.out _ (Nat.mod_lt _ hn0)) (fun j q hj => HCC.out j q (by rw [List.length_append, LX.out, LY.out]; omega)))
      go_wp2_with (go_at_call 34; (with_reducible refine AR.out.mono ?_); rintro e w2 ⟨rfl, hb2, hkeep, hhigh⟩; have B2' := Lib.hid (show Kp B C w w2 from ⟨(HBW.out.mono HB.out).trans hb2, fun b h1 h2 => (hhigh b h1 (by have := HBW.out.size; omega)).trans (HBW.out.block b h2)⟩); have K2 := Lib.hid (hkeep _ _ _ HTT.out.1 (KL.out.below' HBW.out)); have X2 := Lib.hid (hkeep _ _ _ (by decide) (KX.out.below' HBW.out)); have Y2 := Lib.hid (hkeep _ _ _ (by decide) (KY.out.below' HBW.out)); clear hb2 hkeep hhigh)
      clear AR OA HO
      have ST := Lib.hid (show TwoB w2 gx gy n (two vx vy) 0 0 from by
        refine ⟨fun j hj => ?_, fun j hj => ?_, fun j p hj hp hd => by omega⟩
        · rcases (show j = 0 ∨ j = 1 by omega) with rfl | rfl
          · exact X2.out
          · exact Y2.out
        · rcases (show j = 0 ∨ j = 1 by omega) with rfl | rfl
          · exact LX.out
          · exact LY.out)
      have CEL := Lib.hid (fun (W : World) (hW : Blk W lb #[.slice (some ⟨gx, 0, none⟩) n cx, .slice (some ⟨gy, 0, none⟩) n cy] T) j (hj : j < 2) => show W.cell? ⟨lb, j, none⟩ = some (.slice (some ⟨two gx gy j, 0, none⟩) n (two cx cy j)) from by
        rcases (show j = 0 ∨ j = 1 by omega) with rfl | rfl
        · exact hW.cell 0
        · exact hW.cell 1)
      have NEG := Lib.hid (fun (W : World) (hW : Blk W lb #[.slice (some ⟨gx, 0, none⟩) n cx, .slice (some ⟨gy, 0, none⟩) n cy] T) (F : Nat → List Value) k i (ht : TwoB W gx gy n F k i) j (hj : j < 2) => show lb ≠ two gx gy j from fun e => by
        have h1 := ht.blk j hj
        rw [← e] at h1
        unfold Blk at h1 hW
        rw [hW] at h1
        have h2 := Option.some.inj h1
        simp only [Obj.cells.injEq] at h2
        exact HTT.out.2 h2.2.1)
      have CTW := Lib.hid (fun j => show two gx gy j < C from by unfold two; split; exact HGC.out.1; exact HGC.out.2)
      have BTW := Lib.hid (fun j => show B ≤ two gx gy j from by unfold two; split; exact BXY.out.1; exact BXY.out.2)
      clear X2 Y2
      go_loopw [5] (fun iv wr => ∃ (k : Nat) (F : Nat → List Value), k ≤ 2 ∧ iv = .int .i64 k ∧ TwoB wr gx gy n F k 0 ∧ Blk wr lb #[.slice (some ⟨gx, 0, none⟩) n cx, .slice (some ⟨gy, 0, none⟩) n cy] T ∧ Kp B C w wr) (fun iv _ => 2 - (RowKit.intOf iv).toNat)
      case atStart => exact ⟨0, _, by omega, by go_num, ST.out, K2.out, B2'.out⟩
      case round =>
        clear ST K2 B2' hlt hlt2
        obtain ⟨k, F, hk, rfl, ht, hkl, hb⟩ := hrel
        have HT := Lib.hid ht
        have HK := Lib.hid hkl
        have HBW := Lib.hid hb
        clear ht hkl hb
        by_cases hlt : k < 2
        · have hlt2 : (k : Int) < 2 := by omega
          obtain ⟨wa, ewa⟩ : ∃ u, u = wr := ⟨_, rfl⟩
          subst ewa
          go_wp2_with fail
          go_loopw [6] (fun iv wr => ∃ (i : Nat) (F : Nat → List Value), i ≤ n ∧ iv = .int .i64 i ∧ TwoB wr gx gy n F k i ∧ Blk wr lb #[.slice (some ⟨gx, 0, none⟩) n cx, .slice (some ⟨gy, 0, none⟩) n cy] T ∧ Kp B C w wr) (fun iv _ => n - (RowKit.intOf iv).toNat)
          case atStart => exact ⟨0, _, by omega, by go_num, HT.out, HK.out, HBW.out⟩
          case round =>
            clear HT HK HBW
            obtain ⟨i, F, hi, rfl, ht, hkl, hb⟩ := hrel
            have HT := Lib.hid ht
            have HK := Lib.hid hkl
            have HBW := Lib.hid hb
            have c1 := CEL.out wr hkl k hlt
            have NE := Lib.hid (NEG.out wr hkl F k i ht k hlt)
            clear ht hkl hb
            by_cases hil : i < n
            · have hil2 : (i : Int) < n := by omega
              obtain ⟨e1, e2, e3, e4⟩ := wrapA hlt hil hn
              have hz := lenA_le k i
              have hmk := fun W => make_n (lenA k i) (by omega) W
              have c2 := HT.out.cell hlt hil
              have f2 := (HT.out.blk k hlt).frozen i
              have PUT := Lib.hid (fun (W : World) (b : Below wr.heap.size wr W) Az cz => (HT.out.below b).put HXY.out hlt hil (.slice Az (lenA k i) cz) ⟨Az, cz, rfl⟩)
              have PB := Lib.hid (fun (W : World) (b : Below wr.heap.size wr W) u => (HBW.out.step HB.out b).set (BTW.out k) (CTW.out k) i u)
              have PK := Lib.hid (fun (W : World) (b : Below wr.heap.size wr W) u => (heap_setCell_other W ⟨two gx gy k, i, none⟩ lb u NE.out).trans (HK.out.below' b))
              have hgb := (HT.out.blk k hlt).lt
              have c1o : ∀ o, (wr.alloc o).cell? ⟨lb, k, none⟩ = some (.slice (some ⟨two gx gy k, 0, none⟩) n (two cx cy k)) := fun o => CEL.out _ (HK.out.alloc o) k hlt
              have c2o : ∀ o, (wr.alloc o).cell? ⟨two gx gy k, i, none⟩ = some ((F k).getD i undef) := fun o => (HT.out.below (B1 wr o)).cell hlt hil
              have f2o : ∀ o, (wr.alloc o).frozen? ⟨two gx gy k, i, none⟩ = false := fun o => (((HT.out.blk k hlt).alloc o)).frozen i
              generalize lenA k i = z at e4 hmk PUT hz
              generalize two gx gy k = gk at c1 c1o c2 c2o f2 f2o PUT PB PK
              generalize two cx cy k = ck at c1 c1o
              generalize (F k).getD i undef = ov at c2 c2o
              generalize (k * 31 + i) % 97 = md at e3 e4
              clear hgb NE
              go_upto_region 14 with fail
              go_region
              all_goals (
                go_wp2_with fail
                go_roundw
                case rel =>
                  have bd : ∀ W : World, Below W.heap.size W W.drew := fun W => bdrew1 (Below.refl _ _)
                  first
                  | exact ⟨i + 1, _, by omega, by go_num, (PUT.out _ (B1 _ _) _ _).below (bd _), (PK.out _ (B1 _ _) _).below' (bd _), (PB.out _ (B1 _ _) _).step HB.out (bd _)⟩
                  | exact ⟨i + 1, _, by omega, by go_num, PUT.out _ (bdrew1 (B1 _ _)) _ _, PK.out _ (bdrew1 (B1 _ _)) _, PB.out _ (bdrew1 (B1 _ _)) _⟩
                case measure => simp [RowKit.intOf]; omega)
            · obtain rfl : i = n := by omega
              have hil2 : ¬ (i : Int) < i := by omega
              go_wp2_with fail
              go_roundw
              case rel =>
                have fin : ∃ (k' : Nat) (F' : Nat → List Value), k' ≤ 2 ∧ Value.int .i64 ((k : Int) + 1) = .int .i64 k' ∧ TwoB wr gx gy i F' k' 0 ∧ Blk wr lb #[.slice (some ⟨gx, 0, none⟩) i cx, .slice (some ⟨gy, 0, none⟩) i cy] T ∧ Kp B C w wr := ⟨k + 1, F, by omega, by go_num, HT.out.row, HK.out, HBW.out⟩
                first | exact fin | ((repeat apply Exists.intro); exact ⟨fin, rfl⟩)
              case measure => simp [RowKit.intOf]; omega
        · obtain rfl : k = 2 := by omega
          have hlt2 : ¬ ((2 : Nat) : Int) < 2 := by omega
          clear hlt
          go_wp2_with fail
          obtain ⟨wf, rfl⟩ : ∃ u, u = wr := ⟨_, rfl⟩
          go_loopw [7] (fun iv wr => ∃ k : Nat, k ≤ 2 ∧ iv = .int .i64 k ∧ wr = wf) (fun iv _ => 2 - (RowKit.intOf iv).toNat)
          case atStart => exact ⟨0, by omega, by go_num, rfl⟩
          case round =>
            obtain ⟨k, hk, rfl, rfl⟩ := hrel
            by_cases hlt : k < 2
            · have hlt2 : (k : Int) < 2 := by omega
              go_wp2_with fail
              obtain ⟨wf, rfl⟩ : ∃ u, u = wr := ⟨_, rfl⟩
              go_loopw [8] (fun iv wr => ∃ i : Nat, i ≤ n ∧ iv = .int .i64 i ∧ wr = wf) (fun iv _ => n - (RowKit.intOf iv).toNat)
              case atStart => exact ⟨0, by omega, by go_num, rfl⟩
              case round =>
                obtain ⟨i, hi, rfl, rfl⟩ := hrel
                have c1 := CEL.out wr HK.out k hlt
                by_cases hil : i < n
                · have hil2 : (i : Int) < n := by omega
                  have c2 := HT.out.cell hlt hil
                  obtain ⟨Av, cv, ev⟩ := HT.out.done k i hlt hil (by omega)
                  rw [ev] at c2
                  obtain ⟨e1, e2, e3, e4⟩ := wrapA hlt hil hn
                  generalize lenA k i = z at e4 c2 ev
                  generalize two gx gy k = gk at c1 c2
                  generalize two cx cy k = ck at c1
                  generalize (k * 31 + i) % 97 = md at e3 e4
                  clear ev
                  go_wp2_with fail
                  go_roundw
                  case rel =>
                    have fin : ∃ i' : Nat, i' ≤ n ∧ Value.int .i64 ((i : Int) + 1) = .int .i64 i' ∧ wr = wr := ⟨i + 1, by omega, by go_num, rfl⟩
                    first | exact fin | exact ⟨i + 1, by omega, by go_num, trivial⟩ | ((repeat apply Exists.intro); exact ⟨fin, rfl⟩)
                  case measure => simp [RowKit.intOf]; omega
                · obtain rfl : i = n := by omega
                  have hil2 : ¬ (i : Int) < i := by omega
                  go_wp2_with fail
                  go_roundw
                  case rel =>
                    have fin : ∃ k' : Nat, k' ≤ 2 ∧ Value.int .i64 ((k : Int) + 1) = .int .i64 k' ∧ wr = wr := ⟨k + 1, by omega, by go_num, rfl⟩
                    first | exact fin | exact ⟨k + 1, by omega, by go_num, trivial⟩ | ((repeat apply Exists.intro); exact ⟨fin, rfl⟩)
                  case measure => simp [RowKit.intOf]; omega
            · obtain rfl : k = 2 := by omega
              have hlt2 : ¬ ((2 : Nat) : Int) < 2 := by omega
              go_wp2_with fail
              go_ret
              exact ⟨rfl, HBW.out⟩
end Go.Proofs.YtlbjmkljmhfjdaaGreat
namespace Go.Proofs.YtlbjmkljmhfjdaaGreat
open Go Go.Proofs Go.RowKit Go.Lib Go.Maps
set_option maxRecDepth 100000 in
set_option maxHeartbeats 8000000 in
theorem apart_none (lb : Nat) (T : TypeId) (w : World) (hT : T ≠ 3) (hlb : Blk w lb #[.slice none 0 0, .slice none 0 0] T) :
    Calls Tryz.prog 40 #[.slice (some ⟨lb, 0, none⟩) 2 2] w fun e w' => e = .returned (.bool true) ∧ Below w.heap.size w w' := by
  obtain ⟨i1, ji, jz0, jz1, jz2⟩ := info_parts Tryz.info_sH
  have KL := Lib.hid hlb
  have HTT := Lib.hid hT
  have CEL := Lib.hid (fun (W : World) (hW : Blk W lb #[.slice none 0 0, .slice none 0 0] T) j (hj : j < 2) => show W.cell? ⟨lb, j, none⟩ = some (.slice none 0 0) from by
    rcases (show j = 0 ∨ j = 1 by omega) with rfl | rfl
    · exact hW.cell 0
    · exact hW.cell 1)
  clear hlb hT
  go_enter Tryz.func40, Tryz.ntmps40
  go_wp2_with fail
  go_loopw [3, 4] (fun l iv wr => ∃ k : Nat, k ≤ 2 ∧ iv = .int .i64 k ∧ wr.ownsRow w.heap.size 38 1 l 0 [] ∧ Below w.heap.size w wr) (fun _ iv _ => 2 - (RowKit.intOf iv).toNat)
  case atStart => exact ⟨0, by omega, by go_num, World.ownsRow_nil _ _ _ _, Below.refl _ _⟩
  case round =>
    obtain ⟨k, hk, rfl, hown, hb⟩ := hrel
    have HO := Lib.hid hown
    have HBW := Lib.hid hb
    by_cases hlt : k < 2
    · have hlt2 : (k : Int) < 2 := by omega
      have ck := CEL.out wr (KL.out.below' hb) k hlt
      obtain ⟨LA, lc, rfl, _, _⟩ := own_slice hown
      clear hown hb
      go_wp2_with (at_builtin; refine wpList_append_onto _ rfl _ _ 31 rfl w.heap.size 38 i1 (.slice none 0 0) 1 24 Tryz.underlying31 ji jz0 jz1 jz2 rfl (by decide) _ _ _ rfl HO.out none 0 0 [] rfl rfl (fun a ha => nomatch ha) (fun _ => ⟨rfl, rfl⟩) (fun u hu => nomatch hu) (by unfold maxLen; omega) (by omega) HBW.out.size ?_; intro v9 w9 hown9 hgrow9 hfr9; have O9 := Lib.hid hown9; have G9 := Lib.hid hgrow9; clear hown9 hgrow9 hfr9)
      go_roundw
      case rel =>
        have fin : ∃ k' : Nat, k' ≤ 2 ∧ Value.int .i64 ((k : Int) + 1) = .int .i64 k' ∧ w9.ownsRow w.heap.size 38 1 v9 0 [] ∧ Below w.heap.size w w9 := ⟨k + 1, by omega, by go_num, O9.out, grown_below HBW.out HBW.out.size G9.out (fun j e => (HO.out.lt j e).1)⟩
        first | exact fin | ((repeat apply Exists.intro); exact ⟨fin, rfl⟩)
      case measure => simp [RowKit.intOf]; omega
    · obtain rfl : k = 2 := by omega
      have hlt2 : ¬ ((2 : Nat) : Int) < 2 := by omega
      obtain ⟨LA0, lc0, rfl, _, _⟩ := own_slice hown
      have AR := Lib.hid (apart_rows w.heap.size wr.heap.size 0 lc0 LA0 [] (fun _ => []) wr hb.size rfl (fun j hj => absurd hj (by omega)) (fun j hj => absurd hj (by omega)) (fun j k q hj => absurd hj (by omega)) (by omega) (fun j hj => absurd hj (by omega)) (fun j q hj => absurd hj (by omega)))
      clear hown hb
      go_wp2_with (go_at_call 34; (with_reducible refine AR.out.mono ?_); rintro e w2 ⟨rfl, hb2, hkeep, _⟩; have B2' := Lib.hid (HBW.out.trans hb2); have K2 := Lib.hid (hkeep _ _ _ HTT.out (KL.out.below' HBW.out)); clear hb2 hkeep)
      clear AR HO
      obtain ⟨wf, rfl⟩ : ∃ u, u = w2 := ⟨_, rfl⟩
      go_loopw [5] (fun iv wr => ∃ k : Nat, k ≤ 2 ∧ iv = .int .i64 k ∧ wr = wf) (fun iv _ => 2 - (RowKit.intOf iv).toNat)
      case atStart => exact ⟨0, by omega, by go_num, rfl⟩
      case round =>
        clear hlt hlt2
        obtain ⟨k, hk, rfl, rfl⟩ := hrel
        by_cases hlt : k < 2
        · have hlt2 : (k : Int) < 2 := by omega
          have ck := CEL.out wr K2.out k hlt
          go_wp2_with fail
          obtain ⟨wf, rfl⟩ : ∃ u, u = wr := ⟨_, rfl⟩
          go_loopw [6] (fun iv wr => iv = .int .i64 0 ∧ wr = wf) (fun iv _ => 0)
          case atStart => exact ⟨rfl, rfl⟩
          case round =>
            obtain ⟨rfl, rfl⟩ := hrel
            go_wp2_with fail
            go_roundw
            case rel =>
              first | exact ⟨k + 1, by omega, by go_num, rfl⟩ | exact ⟨k + 1, by omega, by go_num, trivial⟩ | exact ⟨k + 1, by omega, by go_num⟩ | ((repeat apply Exists.intro); exact ⟨⟨k + 1, by omega, by go_num, rfl⟩, rfl⟩)
            case measure => simp [RowKit.intOf]; omega
        · obtain rfl : k = 2 := by omega
          have hlt2 : ¬ ((2 : Nat) : Int) < 2 := by omega
          clear hlt
          go_wp2_with fail
          obtain ⟨wf, rfl⟩ : ∃ u, u = wr := ⟨_, rfl⟩
          go_loopw [7] (fun iv wr => ∃ k : Nat, k ≤ 2 ∧ iv = .int .i64 k ∧ wr = wf) (fun iv _ => 2 - (RowKit.intOf iv).toNat)
          case atStart => exact ⟨0, by omega, by go_num, rfl⟩
          case round =>
            obtain ⟨k, hk, rfl, rfl⟩ := hrel
            by_cases hlt : k < 2
            · have hlt2 : (k : Int) < 2 := by omega
              have ck := CEL.out wr K2.out k hlt
              go_wp2_with fail
              obtain ⟨wf, rfl⟩ : ∃ u, u = wr := ⟨_, rfl⟩
              go_loopw [8] (fun iv wr => iv = .int .i64 0 ∧ wr = wf) (fun iv _ => 0)
              case atStart => exact ⟨rfl, rfl⟩
              case round =>
                obtain ⟨rfl, rfl⟩ := hrel
                go_wp2_with fail
                go_roundw
                case rel =>
                  first | exact ⟨k + 1, by omega, by go_num, rfl⟩ | exact ⟨k + 1, by omega, by go_num, trivial⟩ | exact ⟨k + 1, by omega, by go_num⟩ | ((repeat apply Exists.intro); exact ⟨⟨k + 1, by omega, by go_num, rfl⟩, rfl⟩)
                case measure => simp [RowKit.intOf]; omega
            · obtain rfl : k = 2 := by omega
              have hlt2 : ¬ ((2 : Nat) : Int) < 2 := by omega
              go_wp2_with fail
              go_ret
              exact ⟨rfl, B2'.out⟩
/-- What the program tells of a graph. -/
structure GXP (w W : World) (X : Option Addr) (G : List (List Nat)) : Prop where
  rr : RR W X G
  low : Below w.heap.size w W
  how : (G.length = 0 ∧ X = none) ∨ ∃ gb vs, 0 < G.length ∧ X = some ⟨gb, 0, none⟩ ∧ Rows2 w W gb vs G ∧ Apt vs
theorem GXP.below {w W W' : World} {X : Option Addr} {G : List (List Nat)} (h : GXP w W X G) (hb : Below W.heap.size W W') : GXP w W' X G := by
  refine ⟨h.rr.below hb, h.low.trans (hb.mono h.low.size), ?_⟩
  rcases h.how with h1 | ⟨gb, vs, h1, h2, h3, h4⟩
  · exact .inl h1
  · exact .inr ⟨gb, vs, h1, h2, h3.below hb, h4⟩
theorem graphX_any (g : Gr) (w : World) (hg : Gr.At w g) (hin : Gr.In g) (hc : Capd g) : Calls Tryz.prog 23 #[g.val] w fun e w' => (∃ X, e = .returned (.slice X (graphZ g).length (graphZ g).length) ∧ GXP w w' X (graphZ g)) ∧ Below w.heap.size w w' := by
  cases hr : rightB g with
  | false =>
    have hz := graphZ_no (g := g) (by rw [hr]; decide)
    refine (graph_no g w hg hin hr).mono ?_
    rintro e w' ⟨rfl, hb⟩
    rw [hz]
    exact ⟨⟨none, rfl, RR.nil _ _, hb, .inl ⟨rfl, rfl⟩⟩, hb⟩
  | true =>
    have hR := rightB_true.1 hr
    have hz := graphZ_yes hr
    refine (graph3_any g w hg hin hc hR).mono ?_
    rintro e w' ⟨gb, vs, rfl, h1, h2⟩
    rw [hz]
    have := hR.rules.1
    exact ⟨⟨some ⟨gb, 0, none⟩, by rw [graphOf_len], h1.rr, h1.low, .inr ⟨gb, vs, by rw [graphOf_len]; omega, rfl, h1, h2⟩⟩, h1.low⟩
theorem getD_app_left {a b : List Value} {j : Nat} (h : j < a.length) : (a ++ b).getD j undef = a.getD j undef := by simp only [List.getD]; rw [List.getElem?_append_left h]
theorem getD_app_right {a b : List Value} {j : Nat} (h : ¬ j < a.length) : (a ++ b).getD j undef = b.getD (j - a.length) undef := by simp only [List.getD]; rw [List.getElem?_append_right (by omega)]
/-- Two told graphs lie apart. -/
theorem apart_xy {w0 wa wa' wb W : World} {X Y : Option Addr} {G : List (List Nat)} {T : TypeId} (hT : T ≠ 3 ∧ T ≠ 38) (hx : GXP w0 wa X G) (haa : Below wa.heap.size wa wa') (hy : GXP wa' wb Y G) (hW : Below wb.heap.size wb W) (hn : G.length ≤ 32) (hl : ∀ i, (G.getD i []).length ≤ 32) :
    Calls Tryz.prog 40 #[.slice (some ⟨W.heap.size, 0, none⟩) 2 2] (W.alloc (.cells #[.slice X G.length G.length, .slice Y G.length G.length] T)) fun e w' => e = .returned (.bool true) ∧ Kp w0.heap.size wb.heap.size W w' := by
  have s1 := hx.low.size
  have s2 := haa.size
  have s3 := hy.low.size
  have s4 := hW.size
  have kp : ∀ w', Kp w0.heap.size wb.heap.size (W.alloc (.cells #[.slice X G.length G.length, .slice Y G.length G.length] T)) w' → Kp w0.heap.size wb.heap.size W w' := fun w' k => by
    have hb := B1 W (.cells #[.slice X G.length G.length, .slice Y G.length G.length] T)
    exact ⟨(hb.mono (by omega)).trans k.low, fun b h1 h2 => (k.high b h1 (by have := hb.size; omega)).trans (hb.block b h2)⟩
  have hlb := Blk.new W #[.slice X G.length G.length, .slice Y G.length G.length] T
  rcases hx.how with ⟨h0, rfl⟩ | ⟨gx, vx, h0, rfl, rx, ax⟩
  · rcases hy.how with ⟨_, rfl⟩ | ⟨_, _, h1, _⟩
    · rw [h0] at hlb kp ⊢
      refine (apart_none W.heap.size T _ hT.1 hlb).mono ?_
      rintro e w' ⟨rfl, hb⟩
      refine ⟨rfl, kp w' ⟨hb.mono (by simp; omega), fun b h1 h2 => hb.block b h2⟩⟩
    · omega
  · rcases hy.how with ⟨h1, _⟩ | ⟨gy, vy, _, rfl, ry, ay⟩
    · omega
    · have hbx : Below wa.heap.size wa (W.alloc (.cells #[.slice (some ⟨gx, 0, none⟩) G.length G.length, .slice (some ⟨gy, 0, none⟩) G.length G.length] T)) :=
        ((haa.trans (hy.low.mono s2)).trans (hW.mono (by omega))).trans ((B1 W _).mono (by omega))
      have hby : Below wb.heap.size wb (W.alloc (.cells #[.slice (some ⟨gx, 0, none⟩) G.length G.length, .slice (some ⟨gy, 0, none⟩) G.length G.length] T)) := hW.trans ((B1 W _).mono s4)
      have gxl := rx.blk.lt
      have gyl := ry.blk.lt
      have gyn := ry.new
      have gxn := rx.new
      have own_x : ∀ j, j < vx.length → ∀ q, (vx.getD j undef).ownBlock = some q → q < wa.heap.size := fun j hj q e => ((rx.row j (by rw [← rx.len]; exact hj)).lt q e).2
      have own_y : ∀ j, j < vy.length → ∀ q, (vy.getD j undef).ownBlock = some q → wa'.heap.size ≤ q ∧ q < wb.heap.size := fun j hj q e => (ry.row j (by rw [← ry.len]; exact hj)).lt q e
      refine (apart_two_rows w0.heap.size wb.heap.size W.heap.size gx gy G.length G.length G.length vx vy (fun i => G.getD i []) T _ hT (by simp; omega) hlb hn h0 (rx.blk.below' hbx) (ry.blk.below' hby) rx.len ry.len gxn (by omega) (by omega)
        (fun i hi => own_below (rx.row i hi) hbx) (fun i hi => own_lower (own_below (ry.row i hi) hby) (by omega)) (fun i _ => by have := hl i; show (G.getD i []).length ≤ 100000; omega) (fun j k q hj hk hne h1 h2 => ?_) (fun j q hj h1 => ?_) ⟨by omega, gyl⟩).mono (fun e w' ⟨h1, h2⟩ => ⟨h1, kp w' h2⟩)
      · rw [List.length_append] at hj hk
        by_cases ej : j < vx.length
        · rw [getD_app_left ej] at h1
          by_cases ek : k < vx.length
          · rw [getD_app_left ek] at h2
            exact ax j k q ej ek hne h1 h2
          · rw [getD_app_right ek] at h2
            have := own_x j ej q h1
            have := own_y _ (by omega) q h2
            omega
        · rw [getD_app_right ej] at h1
          by_cases ek : k < vx.length
          · rw [getD_app_left ek] at h2
            have := own_x k ek q h2
            have := own_y _ (by omega) q h1
            omega
          · rw [getD_app_right ek] at h2
            exact ay _ _ q (by omega) (by omega) (by omega) h1 h2
      · rw [List.length_append] at hj
        by_cases ej : j < vx.length
        · rw [getD_app_left ej] at h1
          have := own_x j ej q h1
          omega
        · rw [getD_app_right ej] at h1
          exact (own_y _ (by omega) q h1).2
theorem graphZ_lens (g : Gr) : (graphZ g).length ≤ 32 ∧ ∀ i, ((graphZ g).getD i []).length ≤ 32 := by
  cases hr : rightB g with
  | false =>
    rw [graphZ_no (by rw [hr]; decide)]
    simp
  | true =>
    have hR := rightB_true.1 hr
    have h32 := hR.rules.2
    rw [graphZ_yes hr]
    refine ⟨by rw [graphOf_len]; exact h32, fun i => ?_⟩
    by_cases hi : i < g.rules.length
    · rw [graphOf_at hi]
      have := lcal_len g i
      omega
    · have : (graphOf g).getD i [] = [] := by simp [List.getD, List.getElem?_eq_none (show (graphOf g).length ≤ i by rw [graphOf_len]; omega)]
      rw [this]; simp
theorem graphZ_kz (g : Gr) : graphZ g.kz = graphZ g := by unfold graphZ; rw [rightB_kz, graphOf_kz]
theorem twin_left {g h : Gr} (t : GTwin g h) (i k : Int) : graphZ h = graphZ g ∧ toOf h i = toOf g i ∧ wayOf h i k = wayOf g i k ∧ goesB h i = goesB g i := by
  have e := twin_kz t
  exact ⟨by rw [← graphZ_kz, e, graphZ_kz], by rw [← toOf_kz, e, toOf_kz], by rw [← wayOf_kz, e, wayOf_kz], by rw [← goesB_kz, e, goesB_kz]⟩
theorem toOf_len (g : Gr) (i : Int) : (toOf g i).length ≤ 32 := rowOf_len _ _
end Go.Proofs.YtlbjmkljmhfjdaaGreat
namespace Go.Proofs.YtlbjmkljmhfjdaaGreat
open Go Go.Proofs Go.RowKit Go.Lib Go.Maps
theorem LGr.capd {w : World} {B : Nat} {g h : Gr} (f : LGr w B g h) : Capd h := by
  refine ⟨?_, fun x hx => ?_⟩
  · have := (own_room2 f.nodes.row (by omega)).2; omega
  · have := (own_room2 (f.nodes.kids x hx) (by omega)).2; omega
set_option maxRecDepth 100000 in
set_option maxHeartbeats 2000000 in
theorem size12_all (g : Gr) (w : World) (hg : Gr.At w g) : Calls Tryz.prog 8 #[g.val] w fun e w' => (∃ z : Int, e = .returned (.int .i64 z) ∧ (z ≤ 300 → g.rules.length + g.nodes.length ≤ 300 ∧ ∀ x ∈ g.nodes, x.kids.length ≤ 300)) ∧ Below w.heap.size w w' := by
  have HG := Lib.hid hg
  have h1 := hg.rl
  have h2 := hg.nl
  obtain ⟨RA, rc, rules, NA, nc, nodes⟩ := g
  dsimp only at h1 h2
  obtain ⟨m, em⟩ : ∃ m, m = nodes.length := ⟨_, rfl⟩
  obtain ⟨r, er⟩ : ∃ m, m = rules.length := ⟨_, rfl⟩
  show Calls Tryz.prog 8 #[.agg #[.slice RA rules.length rc, .slice NA nodes.length nc]] w _
  have EM := Lib.hid em
  have ER := Lib.hid er
  rw [← em, ← er]
  rw [← em] at h2
  rw [← er] at h1
  clear hg em er
  go_enter Tryz.func8, Tryz.ntmps8
  go_wp2_with fail
  obtain ⟨wb, ewb⟩ : ∃ u, u = w.alloc (.cells #[.slice RA r rc, .slice NA m nc] 25) := ⟨_, rfl⟩
  have hb2 : Below w.heap.size w wb := by rw [ewb]; exact B1 _ _
  have c0 : wb.cell? ⟨w.heap.size, 0, none⟩ = some (.slice RA r rc) := by rw [ewb]; exact (Blk.new _ _ _).cell 0
  have c1 : wb.cell? ⟨w.heap.size, 1, none⟩ = some (.slice NA m nc) := by rw [ewb]; exact (Blk.new _ _ _).cell 1
  rw [← ewb]
  have BB := Lib.hid hb2
  clear ewb hb2
  go_loopw [3, 4] (fun s i wr => ∃ (k : Nat) (n : Int), k ≤ m ∧ s = .int .i64 n ∧ i = .int .i64 k ∧ n ≤ 500000000000000 ∧ (r + m : Nat) ≤ n ∧ (∀ j, j < k → ((nodes.getD j Nd.zero).kids.length : Int) ≤ n) ∧ wr = wb) (fun _ i _ => m - (RowKit.intOf i).toNat)
  case atStart => exact ⟨0, r + m, by omega, rfl, rfl, by omega, by omega, fun j h => by omega, rfl⟩
  case round =>
    obtain ⟨k, n, hk, rfl, rfl, hn, hn0, hkk, rfl⟩ := hrel
    have HK := Lib.hid hkk
    clear hkk
    by_cases hlt : k < m
    · have hlt2 : (k : Int) < m := by omega
      by_cases hle : n ≤ 300
      · obtain ⟨b1, o1, eA, _, _, _, _, _, _, _, _, _, c9⟩ := (HG.out.below BB.out).nodes.nine (show k < nodes.length by have := EM.out; omega)
        have hx := ((HG.out.below BB.out).node (show k < nodes.length by have := EM.out; omega)).2.2
        dsimp only at eA c9 hx
        rw [eA] at c1
        generalize hxx : nodes.getD k Nd.zero = x at c9 hx
        have HX := Lib.hid hxx
        clear eA hxx
        go_wp2_with fail
        go_roundw
        case rel => exact ⟨k + 1, n + x.kids.length, by omega, by first | rfl | go_num, by go_num, by omega, by omega, fun j hj => (by
          by_cases ej : j = k
          · subst ej; rw [HX.out]; omega
          · have := HK.out j (by omega); omega), by first | trivial | rfl⟩
        case measure => simp [RowKit.intOf]; omega
      · have hle2 : 300 < n := by omega
        go_wp2_with fail
        go_ret
        exact ⟨⟨n, rfl, fun h => absurd h (by omega)⟩, BB.out⟩
    · obtain rfl : k = m := by omega
      have hlt2 : ¬ (k : Int) < k := by omega
      go_wp2_with fail
      go_ret
      exact ⟨⟨n, rfl, fun h => ⟨by have := EM.out; have := ER.out; omega, fun x hx => by
        obtain ⟨j, hj, rfl⟩ := List.getElem_of_mem hx
        have := HK.out j (by have := EM.out; omega)
        simp only [List.getD, List.getElem?_eq_getElem hj, Option.getD_some] at this
        skip
        omega⟩⟩, BB.out⟩
set_option maxRecDepth 100000 in
set_option maxHeartbeats 2000000 in
theorem size14_all (g : Gr) (w : World) (hg : Gr.At w g) : Calls Tryz.prog 16 #[g.val] w fun e w' => (∃ z : Int, e = .returned (.int .i64 z) ∧ (z ≤ 300 → g.rules.length + g.nodes.length ≤ 300 ∧ ∀ x ∈ g.nodes, x.kids.length ≤ 300)) ∧ Below w.heap.size w w' := by
  have HG := Lib.hid hg
  have h1 := hg.rl
  have h2 := hg.nl
  obtain ⟨RA, rc, rules, NA, nc, nodes⟩ := g
  dsimp only at h1 h2
  obtain ⟨m, em⟩ : ∃ m, m = nodes.length := ⟨_, rfl⟩
  obtain ⟨r, er⟩ : ∃ m, m = rules.length := ⟨_, rfl⟩
  show Calls Tryz.prog 16 #[.agg #[.slice RA rules.length rc, .slice NA nodes.length nc]] w _
  have EM := Lib.hid em
  have ER := Lib.hid er
  rw [← em, ← er]
  rw [← em] at h2
  rw [← er] at h1
  clear hg em er
  go_enter Tryz.func16, Tryz.ntmps16
  go_wp2_with fail
  obtain ⟨wb, ewb⟩ : ∃ u, u = w.alloc (.cells #[.slice RA r rc, .slice NA m nc] 25) := ⟨_, rfl⟩
  have hb2 : Below w.heap.size w wb := by rw [ewb]; exact B1 _ _
  have c0 : wb.cell? ⟨w.heap.size, 0, none⟩ = some (.slice RA r rc) := by rw [ewb]; exact (Blk.new _ _ _).cell 0
  have c1 : wb.cell? ⟨w.heap.size, 1, none⟩ = some (.slice NA m nc) := by rw [ewb]; exact (Blk.new _ _ _).cell 1
  rw [← ewb]
  have BB := Lib.hid hb2
  clear ewb hb2
  go_loopw [3, 4] (fun s i wr => ∃ (k : Nat) (n : Int), k ≤ m ∧ s = .int .i64 n ∧ i = .int .i64 k ∧ n ≤ 500000000000000 ∧ (r + m : Nat) ≤ n ∧ (∀ j, j < k → ((nodes.getD j Nd.zero).kids.length : Int) ≤ n) ∧ wr = wb) (fun _ i _ => m - (RowKit.intOf i).toNat)
  case atStart => exact ⟨0, r + m, by omega, rfl, rfl, by omega, by omega, fun j h => by omega, rfl⟩
  case round =>
    obtain ⟨k, n, hk, rfl, rfl, hn, hn0, hkk, rfl⟩ := hrel
    have HK := Lib.hid hkk
    clear hkk
    by_cases hlt : k < m
    · have hlt2 : (k : Int) < m := by omega
      by_cases hle : n ≤ 300
      · obtain ⟨b1, o1, eA, _, _, _, _, _, _, _, _, _, c9⟩ := (HG.out.below BB.out).nodes.nine (show k < nodes.length by have := EM.out; omega)
        have hx := ((HG.out.below BB.out).node (show k < nodes.length by have := EM.out; omega)).2.2
        dsimp only at eA c9 hx
        rw [eA] at c1
        generalize hxx : nodes.getD k Nd.zero = x at c9 hx
        have HX := Lib.hid hxx
        clear eA hxx
        go_wp2_with fail
        go_roundw
        case rel => exact ⟨k + 1, n + x.kids.length, by omega, by first | rfl | go_num, by go_num, by omega, by omega, fun j hj => (by
          by_cases ej : j = k
          · subst ej; rw [HX.out]; omega
          · have := HK.out j (by omega); omega), by first | trivial | rfl⟩
        case measure => simp [RowKit.intOf]; omega
      · have hle2 : 300 < n := by omega
        go_wp2_with fail
        go_ret
        exact ⟨⟨n, rfl, fun h => absurd h (by omega)⟩, BB.out⟩
    · obtain rfl : k = m := by omega
      have hlt2 : ¬ (k : Int) < k := by omega
      go_wp2_with fail
      go_ret
      exact ⟨⟨n, rfl, fun h => ⟨by have := EM.out; have := ER.out; omega, fun x hx => by
        obtain ⟨j, hj, rfl⟩ := List.getElem_of_mem hx
        have := HK.out j (by have := EM.out; omega)
        simp only [List.getD, List.getElem?_eq_getElem hj, Option.getD_some] at this
        skip
        omega⟩⟩, BB.out⟩
set_option maxRecDepth 100000 in
set_option maxHeartbeats 2000000 in
theorem size15_all (g : Gr) (w : World) (hg : Gr.At w g) : Calls Tryz.prog 19 #[g.val] w fun e w' => (∃ z : Int, e = .returned (.int .i64 z) ∧ (z ≤ 300 → g.rules.length + g.nodes.length ≤ 300 ∧ ∀ x ∈ g.nodes, x.kids.length ≤ 300)) ∧ Below w.heap.size w w' := by
  have HG := Lib.hid hg
  have h1 := hg.rl
  have h2 := hg.nl
  obtain ⟨RA, rc, rules, NA, nc, nodes⟩ := g
  dsimp only at h1 h2
  obtain ⟨m, em⟩ : ∃ m, m = nodes.length := ⟨_, rfl⟩
  obtain ⟨r, er⟩ : ∃ m, m = rules.length := ⟨_, rfl⟩
  show Calls Tryz.prog 19 #[.agg #[.slice RA rules.length rc, .slice NA nodes.length nc]] w _
  have EM := Lib.hid em
  have ER := Lib.hid er
  rw [← em, ← er]
  rw [← em] at h2
  rw [← er] at h1
  clear hg em er
  go_enter Tryz.func19, Tryz.ntmps19
  go_wp2_with fail
  obtain ⟨wb, ewb⟩ : ∃ u, u = w.alloc (.cells #[.slice RA r rc, .slice NA m nc] 25) := ⟨_, rfl⟩
  have hb2 : Below w.heap.size w wb := by rw [ewb]; exact B1 _ _
  have c0 : wb.cell? ⟨w.heap.size, 0, none⟩ = some (.slice RA r rc) := by rw [ewb]; exact (Blk.new _ _ _).cell 0
  have c1 : wb.cell? ⟨w.heap.size, 1, none⟩ = some (.slice NA m nc) := by rw [ewb]; exact (Blk.new _ _ _).cell 1
  rw [← ewb]
  have BB := Lib.hid hb2
  clear ewb hb2
  go_loopw [3, 4] (fun s i wr => ∃ (k : Nat) (n : Int), k ≤ m ∧ s = .int .i64 n ∧ i = .int .i64 k ∧ n ≤ 500000000000000 ∧ (r + m : Nat) ≤ n ∧ (∀ j, j < k → ((nodes.getD j Nd.zero).kids.length : Int) ≤ n) ∧ wr = wb) (fun _ i _ => m - (RowKit.intOf i).toNat)
  case atStart => exact ⟨0, r + m, by omega, rfl, rfl, by omega, by omega, fun j h => by omega, rfl⟩
  case round =>
    obtain ⟨k, n, hk, rfl, rfl, hn, hn0, hkk, rfl⟩ := hrel
    have HK := Lib.hid hkk
    clear hkk
    by_cases hlt : k < m
    · have hlt2 : (k : Int) < m := by omega
      by_cases hle : n ≤ 300
      · obtain ⟨b1, o1, eA, _, _, _, _, _, _, _, _, _, c9⟩ := (HG.out.below BB.out).nodes.nine (show k < nodes.length by have := EM.out; omega)
        have hx := ((HG.out.below BB.out).node (show k < nodes.length by have := EM.out; omega)).2.2
        dsimp only at eA c9 hx
        rw [eA] at c1
        generalize hxx : nodes.getD k Nd.zero = x at c9 hx
        have HX := Lib.hid hxx
        clear eA hxx
        go_wp2_with fail
        go_roundw
        case rel => exact ⟨k + 1, n + x.kids.length, by omega, by first | rfl | go_num, by go_num, by omega, by omega, fun j hj => (by
          by_cases ej : j = k
          · subst ej; rw [HX.out]; omega
          · have := HK.out j (by omega); omega), by first | trivial | rfl⟩
        case measure => simp [RowKit.intOf]; omega
      · have hle2 : 300 < n := by omega
        go_wp2_with fail
        go_ret
        exact ⟨⟨n, rfl, fun h => absurd h (by omega)⟩, BB.out⟩
    · obtain rfl : k = m := by omega
      have hlt2 : ¬ (k : Int) < k := by omega
      go_wp2_with fail
      go_ret
      exact ⟨⟨n, rfl, fun h => ⟨by have := EM.out; have := ER.out; omega, fun x hx => by
        obtain ⟨j, hj, rfl⟩ := List.getElem_of_mem hx
        have := HK.out j (by have := EM.out; omega)
        simp only [List.getD, List.getElem?_eq_getElem hj, Option.getD_some] at this
        skip
        omega⟩⟩, BB.out⟩
end Go.Proofs.YtlbjmkljmhfjdaaGreat
namespace Go.Proofs.YtlbjmkljmhfjdaaGreat
open Go Go.Proofs Go.RowKit Go.Lib Go.Maps
end Go.Proofs.YtlbjmkljmhfjdaaGreat
namespace Go.Proofs.YtlbjmkljmhfjdaaGreat
open Go Go.Proofs Go.RowKit Go.Lib Go.Maps
/-- Null's answers are as to where a grammar lies the same. -/
theorem twin_null {g h : Gr} (t : GTwin g h) : rulesOf h = rulesOf g ∧ nodesOf h = nodesOf g ∧ (∀ n, nodeB h n = nodeB g n) ∧ (∀ i, rankOf h i = rankOf g i) := by
  have e := twin_kz t
  exact ⟨by rw [← rulesOf_kz, e, rulesOf_kz], by rw [← nodesOf_kz, e, nodesOf_kz], fun n => by rw [← nodeB_kz, e, nodeB_kz], fun i => by rw [← rankOf_kz, e, rankOf_kz]⟩
theorem null_lens (g : Gr) : (rulesOf g).length ≤ 32 ∧ (nodesOf g).length ≤ 2048 := by
  cases hr : rightB g with
  | false =>
    have h1 : rulesOf g = [] := by unfold rulesOf; rw [hr]; rfl
    have h2 : nodesOf g = [] := by unfold nodesOf; rw [hr]; rfl
    rw [h1, h2]; simp
  | true =>
    have hR := rightB_true.1 hr
    have h1 : rulesOf g = rowOf' g.rules.length (fun i => inB (ranks g) i) := by unfold rulesOf; rw [hr]; rfl
    have h2 : nodesOf g = rowOf' g.nodes.length (fun n => mayN g.nodes (inB (ranks g)) n) := by unfold nodesOf; rw [hr]; rfl
    rw [h1, h2]
    have h3 := rowOf_len (fun i => inB (ranks g) i) g.rules.length
    have h4 := rowOf_len (fun n => mayN g.nodes (inB (ranks g)) n) g.nodes.length
    have := hR.rules.2
    have := hR.nodes
    omega
/-- Four rows, each above the one before. -/
theorem four_apart {w : World} {B : Nat} {L M : List Nat} {a b c d : Value} {u1 u2 u3 : Nat}
    (ha : w.ownsRow B 3 1 a L.length (ints (nums L))) (hb : w.ownsRow B 3 1 b M.length (ints (nums M))) (hc : w.ownsRow B 3 1 c L.length (ints (nums L))) (hd : w.ownsRow B 3 1 d M.length (ints (nums M)))
    (xa : ∀ q, a.ownBlock = some q → q < u1) (xb : ∀ q, b.ownBlock = some q → u1 ≤ q ∧ q < u2) (xc : ∀ q, c.ownBlock = some q → u2 ≤ q ∧ q < u3) (xd : ∀ q, d.ownBlock = some q → u3 ≤ q) (h12 : u1 ≤ u2) (h23 : u2 ≤ u3) :
    (∀ k, k < 4 → w.ownsRow B 3 1 ([a, b, c, d].getD k undef) ((if k % 2 = 0 then nums L else nums M)).length (ints (if k % 2 = 0 then nums L else nums M))) ∧
    (∀ j k q, j < 4 → k < 4 → j ≠ k → ([a, b, c, d].getD j undef).ownBlock = some q → ([a, b, c, d].getD k undef).ownBlock ≠ some q) := by
  constructor
  · intro k hk
    match k, hk with
    | 0, _ => simpa [nums_len] using ha
    | 1, _ => simpa [nums_len] using hb
    | 2, _ => simpa [nums_len] using hc
    | 3, _ => simpa [nums_len] using hd
  · intro j k q hj hk hne h1 h2
    match j, hj, k, hk with
    | 0, _, 0, _ => exact hne rfl
    | 1, _, 1, _ => exact hne rfl
    | 2, _, 2, _ => exact hne rfl
    | 3, _, 3, _ => exact hne rfl
    | 0, _, 1, _ => have := xa q h1; have := xb q h2; omega
    | 0, _, 2, _ => have := xa q h1; have := xc q h2; omega
    | 0, _, 3, _ => have := xa q h1; have := xd q h2; omega
    | 1, _, 0, _ => have := xb q h1; have := xa q h2; omega
    | 1, _, 2, _ => have := xb q h1; have := xc q h2; omega
    | 1, _, 3, _ => have := xb q h1; have := xd q h2; omega
    | 2, _, 0, _ => have := xc q h1; have := xa q h2; omega
    | 2, _, 1, _ => have := xc q h1; have := xb q h2; omega
    | 2, _, 3, _ => have := xc q h1; have := xd q h2; omega
    | 3, _, 0, _ => have := xd q h1; have := xa q h2; omega
    | 3, _, 1, _ => have := xd q h1; have := xb q h2; omega
    | 3, _, 2, _ => have := xd q h1; have := xc q h2; omega
theorem apart_four {W : World} {B : Nat} {L M : List Nat} {a b c d : Value} {T : TypeId} (hB : B ≤ W.heap.size)
    (hr : ∀ k, k < 4 → W.ownsRow B 3 1 ([a, b, c, d].getD k undef) ((if k % 2 = 0 then nums L else nums M)).length (ints (if k % 2 = 0 then nums L else nums M)))
    (ha : ∀ j k q, j < 4 → k < 4 → j ≠ k → ([a, b, c, d].getD j undef).ownBlock = some q → ([a, b, c, d].getD k undef).ownBlock ≠ some q) (hl : L.length ≤ 32 ∧ M.length ≤ 2048) :
    Calls Tryz.prog 34 #[.slice (some ⟨W.heap.size, 0, none⟩) 4 4] (W.alloc (.cells #[a, b, c, d] T)) fun e w' => e = .returned (.bool true) ∧ Below B W w' :=
  (apart_ints B W.heap.size 4 4 [a, b, c, d] (fun k => if k % 2 = 0 then nums L else nums M) (W.alloc (.cells #[a, b, c, d] T)) (by simp; omega) rfl (by simp) (fun k hk => by
    rw [(Blk.new W #[a, b, c, d] T).cell]
    match k, hk with
    | 0, _ => rfl
    | 1, _ => rfl
    | 2, _ => rfl
    | 3, _ => rfl) (fun k hk => own_below (hr k hk) (B1 _ _)) ha (by omega) (fun k hk => by
    show (if k % 2 = 0 then nums L else nums M).length ≤ 100000
    split <;> rw [nums_len] <;> omega)).mono fun e w' ⟨h1, h2⟩ => ⟨h1, Below.trans (b := W.alloc (.cells #[a, b, c, d] T)) ((B1 W _).mono hB) h2⟩
end Go.Proofs.YtlbjmkljmhfjdaaGreat

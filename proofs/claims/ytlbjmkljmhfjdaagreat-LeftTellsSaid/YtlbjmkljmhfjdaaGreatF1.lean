/- ApartInts. -/
import Derived.Test.YtlbjmkljmhfjdaaGreatE9
import Derived.Test.YtlbjmkljmhfjdaaGreatE5
import Derived.Test.YtlbjmkljmhfjdaaGreatE7
import Derived.Test.YtlbjmkljmhfjdaaGreatD6
import Derived.Deep.RegionHeld3
import Derived.Test.YtlbjmkljmhfjdaaGreatD7
import Derived.Test.YtlbjmkljmhfjdaaGreatC2
set_option linter.unusedSimpArgs false
set_option linter.unusedVariables false
namespace Go.Proofs.YtlbjmkljmhfjdaaGreat
open Go Go.RowKit Go.Maps
def bagC (lv : Value) : Array Value := #[.slice none 0 0, .slice none 0 0, lv, .slice none 0 0, .slice none 0 0, .slice none 0 0, .slice none 0 0, .slice none 0 0, .slice none 0 0, .slice none 0 0, .slice none 0 0, .slice none 0 0, .slice none 0 0, .slice none 0 0]
set_option maxRecDepth 100000 in
set_option maxHeartbeats 8000000 in
theorem apart_rows (B n c : Nat) (A : Option Addr) (vs : List Value) (ms : Nat → List Int) (w : World) (hB : B ≤ w.heap.size) (en : vs.length = n) (hc : ∀ k, k < n → ∃ lb, A = some ⟨lb, 0, none⟩ ∧ lb < w.heap.size ∧ w.cell? ⟨lb, k, none⟩ = some (vs.getD k undef)) (hr : ∀ k, k < n → w.ownsRow B 3 1 (vs.getD k undef) (ms k).length (ints (ms k)))
    (ha : ∀ j k q, j < n → k < n → j ≠ k → (vs.getD j undef).ownBlock = some q → (vs.getD k undef).ownBlock ≠ some q) (hn : n ≤ 4096) (hl : ∀ k, k < n → (ms k).length ≤ 100000) :
    Calls Tryz.prog 34 #[.slice A n c] w fun e w' => e = .returned (.bool true) ∧ Below B w w' ∧ ∀ (b : Nat) (us : Array Value) (T2 : TypeId), T2 ≠ 3 → Blk w b us T2 → Blk w' b us T2 := by
  have HB := Lib.hid hB
  have HC := Lib.hid hc
  have HR := Lib.hid hr
  have HA := Lib.hid ha
  have HL := Lib.hid hl
  have EN := Lib.hid en
  clear hc hr ha hl en hB
  go_enter Tryz.func34, Tryz.ntmps34
  go_wp2_with fail
  obtain ⟨bb, ebb⟩ : ∃ u, u = w.heap.size := ⟨_, rfl⟩
  have EBB := Lib.hid ebb
  have K0 := Lib.hid (show Blk (w.alloc (.cells #[.slice none 0 0, .slice none 0 0, .slice none 0 0, .slice none 0 0, .slice none 0 0, .slice none 0 0, .slice none 0 0, .slice none 0 0, .slice none 0 0, .slice none 0 0, .slice none 0 0, .slice none 0 0, .slice none 0 0, .slice none 0 0] 121)) bb (bagC (.slice none 0 0)) 121 from by rw [ebb]; exact Blk.new _ _ _)
  have L0 := Lib.hid (B1 w (.cells #[.slice none 0 0, .slice none 0 0, .slice none 0 0, .slice none 0 0, .slice none 0 0, .slice none 0 0, .slice none 0 0, .slice none 0 0, .slice none 0 0, .slice none 0 0, .slice none 0 0, .slice none 0 0, .slice none 0 0, .slice none 0 0] 121))
  rw [← ebb]
  clear ebb
  generalize w.alloc (.cells #[.slice none 0 0, .slice none 0 0, .slice none 0 0, .slice none 0 0, .slice none 0 0, .slice none 0 0, .slice none 0 0, .slice none 0 0, .slice none 0 0, .slice none 0 0, .slice none 0 0, .slice none 0 0, .slice none 0 0, .slice none 0 0] 121) = w0 at K0 L0 ⊢
  go_loopw [4] (fun ix wr => ∃ (i : Nat) (lv : Value), i ≤ n ∧ ix = .int .i64 i ∧ Blk wr bb (bagC lv) 121 ∧ wr.ownsRow w.heap.size 38 1 lv i (vs.take i) ∧ Below w.heap.size w wr) (fun ix _ => n - (intOf ix).toNat)
  case atStart => exact ⟨0, _, by omega, rfl, K0.out, World.ownsRow_nil _ _ _ _, L0.out⟩
  case round =>
    obtain ⟨i, lv, hi, rfl, hk, ho, hb⟩ := hrel
    have KB := Lib.hid hk
    have OB := Lib.hid ho
    have LB := Lib.hid hb
    by_cases hit : i < n
    · have hit2 : (i : Int) < n := by omega
      obtain ⟨A', c', e1, _, _⟩ := own_slice (HR.out i hit)
      obtain ⟨lb, eA, hlb, ci0⟩ := HC.out i hit
      subst eA
      have ci := (hb.cell (p := ⟨lb, i, none⟩) (by exact hlb)).trans ci0
      clear ci0
      rw [e1] at ci
      have hti : (vs.take i).length = i := by rw [List.length_take]; have := EN.out; omega
      have PI := Lib.hid (put_ints w.heap.size bb (.slice none 0 0) (.slice none 0 0) lv [.slice none 0 0, .slice none 0 0, .slice none 0 0, .slice none 0 0, .slice none 0 0, .slice none 0 0, .slice none 0 0, .slice none 0 0, .slice none 0 0, .slice none 0 0, .slice none 0 0] (vs.take i) A' (ms i).length c' wr hb.size hk (by rw [hti]; exact ho) (by omega))
      rw [hti] at PI
      have EV := Lib.hid e1
      clear hk ho hb e1
      go_wp2_with fail
      refine PI.out.mono ?_
      rintro e w5 ⟨rfl, lv2, w1, ow, gw, kb, rfl⟩
      have L1 : Below w.heap.size w w1 := grown_below (LB.out.trans ((B1 wr _).mono LB.out.size)) (by have := LB.out.size; simp; omega) gw (fun k e => (OB.out.lt k e).1)
      have F1 := Lib.hid (show Blk (w1.setCell ⟨bb, 2, none⟩ lv2) bb (bagC lv2) 121 from by have h9 := heap_setCell_same w1 bb 2 _ _ lv2 kb; simp at h9; exact h9)
      have F2 := Lib.hid (own_beside ow (store_grown w1 bb 2 lv2) (fun q hq e => own_ne ow kb (by decide) (by rw [hq]; exact e.symm)))
      have F3 := Lib.hid (L1.setCell (p := ⟨bb, 2, none⟩) (by have := EBB.out; show w.heap.size ≤ bb; omega) lv2)
      have ET := Lib.hid (show vs.take i ++ [Value.slice A' (ms i).length c'] = vs.take (i + 1) from by
        have hv : i < vs.length := by have := EN.out; omega
        rw [List.take_succ_eq_append_getElem hv, ← EV.out]
        simp [List.getD, hv])
      clear ow gw kb L1 ci
      go_wp2_with fail
      go_roundw
      case rel => exact ⟨i + 1, lv2, by omega, by go_num, F1.out, by rw [← ET.out]; exact F2.out, F3.out⟩
      case measure => simp [intOf]; omega
    · obtain rfl : i = n := by omega
      have hit2 : ¬ (i : Int) < i := by omega
      have htk : vs.take i = vs := by rw [← EN.out]; exact List.take_length
      have FL := Lib.hid (show Fl B 38 wr lv vs ms from ⟨by have := own_lower ho HB.out; rw [htk] at this; rw [EN.out]; exact this, fun k hk => (own_lower (by exact (HR.out k (by rw [← EN.out]; exact hk))) (Nat.le_refl _)).kept ⟨hb.os, hb.tape, hb.output, hb.size, fun j hj _ => hb.block j hj⟩ (row := none) (by cases ho2 : (vs.getD k undef).ownBlock with | none => exact .inl rfl | some q => exact .inr (by simp)), fun j k q hj hk => HA.out j k q (by rw [← EN.out]; exact hj) (by rw [← EN.out]; exact hk)⟩)
      have BA := Lib.hid (bag_apart B bb lv vs ms wr (Nat.le_trans HB.out hb.size) hk FL.out (by rw [EN.out]; exact hn) (fun k hk => HL.out k (by rw [← EN.out]; exact hk)))
      clear hk ho hb
      go_wp2_with fail
      refine BA.out.mono ?_
      rintro e w9 ⟨rfl, hw⟩
      have FIN := Lib.hid ((LB.out.mono HB.out).trans hw.low)
      have KEEP := Lib.hid (show ∀ (b : Nat) (us : Array Value) (T2 : TypeId), T2 ≠ 3 → Blk w b us T2 → Blk w9 b us T2 from fun b us T2 h1 k => hw.keep b us T2 h1 (k.below' LB.out))
      clear hw
      go_wp2_with fail
      go_ret
      exact ⟨rfl, FIN.out, KEEP.out⟩
theorem apart_ints (B lb n c : Nat) (vs : List Value) (ms : Nat → List Int) (w : World) (hB : B ≤ w.heap.size) (en : vs.length = n) (hlb : lb < w.heap.size) (hc : ∀ k, k < n → w.cell? ⟨lb, k, none⟩ = some (vs.getD k undef)) (hr : ∀ k, k < n → w.ownsRow B 3 1 (vs.getD k undef) (ms k).length (ints (ms k)))
    (ha : ∀ j k q, j < n → k < n → j ≠ k → (vs.getD j undef).ownBlock = some q → (vs.getD k undef).ownBlock ≠ some q) (hn : n ≤ 4096) (hl : ∀ k, k < n → (ms k).length ≤ 100000) :
    Calls Tryz.prog 34 #[.slice (some ⟨lb, 0, none⟩) n c] w fun e w' => e = .returned (.bool true) ∧ Below B w w' :=
  (apart_rows B n c (some ⟨lb, 0, none⟩) vs ms w hB en (fun k hk => ⟨lb, rfl, hlb, hc k hk⟩) hr ha hn hl).mono fun e w' ⟨h1, h2, _⟩ => ⟨h1, h2⟩
end Go.Proofs.YtlbjmkljmhfjdaaGreat
namespace Go.Proofs.YtlbjmkljmhfjdaaGreat
open Go Go.Proofs Go.RowKit Go.Lib Go.Maps
/-- Null's answers are as to where a grammar lies the same. -/
theorem twin_null {g h : Gr} (t : GTwin g h) : rulesOf h = rulesOf g ∧ nodesOf h = nodesOf g ∧ (∀ n, nodeB h n = nodeB g n) ∧ (∀ i, rankOf h i = rankOf g i) := by
  have e := twin_kz t
  exact ⟨by rw [← rulesOf_kz, e, rulesOf_kz], by rw [← nodesOf_kz, e, nodesOf_kz], fun n => by rw [← nodeB_kz, e, nodeB_kz], fun i => by rw [← rankOf_kz, e, rankOf_kz]⟩
theorem null_lens (g : Gr) : (rulesOf g).length ≤ 32 ∧ (nodesOf g).length ≤ 2048 := by
  cases hr : rightB g with
  | false =>
    have h1 : rulesOf g = [] := by unfold rulesOf; rw [hr]; rfl
    have h2 : nodesOf g = [] := by unfold nodesOf; rw [hr]; rfl
    rw [h1, h2]; simp
  | true =>
    have hR := rightB_true.1 hr
    have h1 : rulesOf g = rowOf' g.rules.length (fun i => inB (ranks g) i) := by unfold rulesOf; rw [hr]; rfl
    have h2 : nodesOf g = rowOf' g.nodes.length (fun n => mayN g.nodes (inB (ranks g)) n) := by unfold nodesOf; rw [hr]; rfl
    rw [h1, h2]
    have h3 := rowOf_len (fun i => inB (ranks g) i) g.rules.length
    have h4 := rowOf_len (fun n => mayN g.nodes (inB (ranks g)) n) g.nodes.length
    have := hR.rules.2
    have := hR.nodes
    omega
/-- Four rows, each above the one before. -/
theorem four_apart {w : World} {B : Nat} {L M : List Nat} {a b c d : Value} {u1 u2 u3 : Nat}
    (ha : w.ownsRow B 3 1 a L.length (ints (nums L))) (hb : w.ownsRow B 3 1 b M.length (ints (nums M))) (hc : w.ownsRow B 3 1 c L.length (ints (nums L))) (hd : w.ownsRow B 3 1 d M.length (ints (nums M)))
    (xa : ∀ q, a.ownBlock = some q → q < u1) (xb : ∀ q, b.ownBlock = some q → u1 ≤ q ∧ q < u2) (xc : ∀ q, c.ownBlock = some q → u2 ≤ q ∧ q < u3) (xd : ∀ q, d.ownBlock = some q → u3 ≤ q) (h12 : u1 ≤ u2) (h23 : u2 ≤ u3) :
    (∀ k, k < 4 → w.ownsRow B 3 1 ([a, b, c, d].getD k undef) ((if k % 2 = 0 then nums L else nums M)).length (ints (if k % 2 = 0 then nums L else nums M))) ∧
    (∀ j k q, j < 4 → k < 4 → j ≠ k → ([a, b, c, d].getD j undef).ownBlock = some q → ([a, b, c, d].getD k undef).ownBlock ≠ some q) := by
  constructor
  · intro k hk
    match k, hk with
    | 0, _ => simpa [nums_len] using ha
    | 1, _ => simpa [nums_len] using hb
    | 2, _ => simpa [nums_len] using hc
    | 3, _ => simpa [nums_len] using hd
  · intro j k q hj hk hne h1 h2
    match j, hj, k, hk with
    | 0, _, 0, _ => exact hne rfl
    | 1, _, 1, _ => exact hne rfl
    | 2, _, 2, _ => exact hne rfl
    | 3, _, 3, _ => exact hne rfl
    | 0, _, 1, _ => have := xa q h1; have := xb q h2; omega
    | 0, _, 2, _ => have := xa q h1; have := xc q h2; omega
    | 0, _, 3, _ => have := xa q h1; have := xd q h2; omega
    | 1, _, 0, _ => have := xb q h1; have := xa q h2; omega
    | 1, _, 2, _ => have := xb q h1; have := xc q h2; omega
    | 1, _, 3, _ => have := xb q h1; have := xd q h2; omega
    | 2, _, 0, _ => have := xc q h1; have := xa q h2; omega
    | 2, _, 1, _ => have := xc q h1; have := xb q h2; omega
    | 2, _, 3, _ => have := xc q h1; have := xd q h2; omega
    | 3, _, 0, _ => have := xd q h1; have := xa q h2; omega
    | 3, _, 1, _ => have := xd q h1; have := xb q h2; omega
    | 3, _, 2, _ => have := xd q h1; have := xc q h2; omega
theorem apart_four {W : World} {B : Nat} {L M : List Nat} {a b c d : Value} {T : TypeId} (hB : B ≤ W.heap.size)
    (hr : ∀ k, k < 4 → W.ownsRow B 3 1 ([a, b, c, d].getD k undef) ((if k % 2 = 0 then nums L else nums M)).length (ints (if k % 2 = 0 then nums L else nums M)))
    (ha : ∀ j k q, j < 4 → k < 4 → j ≠ k → ([a, b, c, d].getD j undef).ownBlock = some q → ([a, b, c, d].getD k undef).ownBlock ≠ some q) (hl : L.length ≤ 32 ∧ M.length ≤ 2048) :
    Calls Tryz.prog 34 #[.slice (some ⟨W.heap.size, 0, none⟩) 4 4] (W.alloc (.cells #[a, b, c, d] T)) fun e w' => e = .returned (.bool true) ∧ Below B W w' :=
  (apart_ints B W.heap.size 4 4 [a, b, c, d] (fun k => if k % 2 = 0 then nums L else nums M) (W.alloc (.cells #[a, b, c, d] T)) (by simp; omega) rfl (by simp) (fun k hk => by
    rw [(Blk.new W #[a, b, c, d] T).cell]
    match k, hk with
    | 0, _ => rfl
    | 1, _ => rfl
    | 2, _ => rfl
    | 3, _ => rfl) (fun k hk => own_below (hr k hk) (B1 _ _)) ha (by omega) (fun k hk => by
    show (if k % 2 = 0 then nums L else nums M).length ≤ 100000
    split <;> rw [nums_len] <;> omega)).mono fun e w' ⟨h1, h2⟩ => ⟨h1, Below.trans (b := W.alloc (.cells #[a, b, c, d] T)) ((B1 W _).mono hB) h2⟩
end Go.Proofs.YtlbjmkljmhfjdaaGreat
namespace Go.Proofs.YtlbjmkljmhfjdaaGreat
open Go Go.Proofs Go.RowKit Go.Lib Go.Maps
theorem nodesAt_kz (g : Gr) (n : Int) : nodesAt g.kz n = nodesAt g n := by
  unfold nodesAt
  rw [rightB_kz, mayG_kz]
  show (if rightB g = true ∧ 0 ≤ n ∧ n < ((g.nodes.map Nd.kz).length : Int) then ownN (g.nodes.map Nd.kz) (mayG g) n else []) = _
  rw [ownN_kz, List.length_map]
theorem callsAt_kz (g : Gr) (n : Int) : callsAt g.kz n = callsAt g n := by
  unfold callsAt
  rw [rightB_kz, callsOf_kz]
  show (if rightB g = true ∧ 0 ≤ n ∧ n < ((g.nodes.map Nd.kz).length : Int) then callsOf g n else []) = _
  rw [List.length_map]
theorem twin_at {g h : Gr} (t : GTwin g h) (n : Int) : nodesAt h n = nodesAt g n ∧ callsAt h n = callsAt g n := by
  have e := twin_kz t
  exact ⟨by rw [← nodesAt_kz, e, nodesAt_kz], by rw [← callsAt_kz, e, callsAt_kz]⟩
theorem at_lens (g : Gr) (n : Int) : (nodesAt g n).length ≤ 2048 ∧ (callsAt g n).length ≤ 32 := by
  by_cases h : rightB g = true ∧ 0 ≤ n ∧ n < g.nodes.length
  · have hR := rightB_true.1 h.1
    have e : nodesAt g n = ownN g.nodes (mayG g) n := by unfold nodesAt; rw [if_pos h]
    have e2 : callsAt g n = callsOf g n := by unfold callsAt; rw [if_pos h]
    obtain ⟨k, rfl⟩ : ∃ k : Nat, n = k := ⟨n.toNat, by omega⟩
    have h1 := own_len hR k (by omega)
    have h2 := rowOf_len (callsB g.nodes (mayG g) k) g.rules.length
    have h3 := hR.rules.2
    refine ⟨by rw [e]; exact h1, ?_⟩
    rw [e2]
    unfold callsOf
    omega
  · have e : nodesAt g n = [] := by unfold nodesAt; rw [if_neg h]
    have e2 : callsAt g n = [] := by unfold callsAt; rw [if_neg h]
    rw [e, e2]; simp
theorem lsame_self (A B : Option Addr) (c d : Nat) (L : List Int) (hl : L.length ≤ 140737488351232) (w : World) (hA : Lies w A (ints L)) (hB : Lies w B (ints L)) :
    Calls Tryz.prog 24 #[.slice A L.length c, .slice B L.length d] w fun e w' => e = .returned (.bool true) ∧ Below w.heap.size w w' := by
  have := lsame_any A B c d L L hl hl w hA hB
  rwa [decide_eq_true rfl] at this
theorem lsame_row (A B : Option Addr) (c d : Nat) (L : List Nat) (hl : L.length ≤ 140737488351232) (w : World) (hA : Lies w A (ints (nums L))) (hB : Lies w B (ints (nums L))) :
    Calls Tryz.prog 24 #[.slice A L.length c, .slice B L.length d] w fun e w' => e = .returned (.bool true) ∧ Below w.heap.size w w' := by
  have := lsame_self A B c d (nums L) (by rw [nums_len]; exact hl) w hA hB
  rwa [nums_len] at this
/-- Four rows, each above the one before. -/
theorem four_apartI {w : World} {B : Nat} {L M : List Int} {a b c d : Value} {u1 u2 u3 : Nat}
    (ha : w.ownsRow B 3 1 a L.length (ints L)) (hb : w.ownsRow B 3 1 b M.length (ints M)) (hc : w.ownsRow B 3 1 c L.length (ints L)) (hd : w.ownsRow B 3 1 d M.length (ints M))
    (xa : ∀ q, a.ownBlock = some q → q < u1) (xb : ∀ q, b.ownBlock = some q → u1 ≤ q ∧ q < u2) (xc : ∀ q, c.ownBlock = some q → u2 ≤ q ∧ q < u3) (xd : ∀ q, d.ownBlock = some q → u3 ≤ q) (h12 : u1 ≤ u2) (h23 : u2 ≤ u3) :
    (∀ k, k < 4 → w.ownsRow B 3 1 ([a, b, c, d].getD k undef) ((if k % 2 = 0 then L else M)).length (ints (if k % 2 = 0 then L else M))) ∧
    (∀ j k q, j < 4 → k < 4 → j ≠ k → ([a, b, c, d].getD j undef).ownBlock = some q → ([a, b, c, d].getD k undef).ownBlock ≠ some q) := by
  constructor
  · intro k hk
    match k, hk with
    | 0, _ => simpa using ha
    | 1, _ => simpa using hb
    | 2, _ => simpa using hc
    | 3, _ => simpa using hd
  · intro j k q hj hk hne h1 h2
    match j, hj, k, hk with
    | 0, _, 0, _ => exact hne rfl
    | 1, _, 1, _ => exact hne rfl
    | 2, _, 2, _ => exact hne rfl
    | 3, _, 3, _ => exact hne rfl
    | 0, _, 1, _ => have := xa q h1; have := xb q h2; omega
    | 0, _, 2, _ => have := xa q h1; have := xc q h2; omega
    | 0, _, 3, _ => have := xa q h1; have := xd q h2; omega
    | 1, _, 0, _ => have := xb q h1; have := xa q h2; omega
    | 1, _, 2, _ => have := xb q h1; have := xc q h2; omega
    | 1, _, 3, _ => have := xb q h1; have := xd q h2; omega
    | 2, _, 0, _ => have := xc q h1; have := xa q h2; omega
    | 2, _, 1, _ => have := xc q h1; have := xb q h2; omega
    | 2, _, 3, _ => have := xc q h1; have := xd q h2; omega
    | 3, _, 0, _ => have := xd q h1; have := xa q h2; omega
    | 3, _, 1, _ => have := xd q h1; have := xb q h2; omega
    | 3, _, 2, _ => have := xd q h1; have := xc q h2; omega
theorem apart_fourI {W : World} {B : Nat} {L M : List Int} {a b c d : Value} {T : TypeId} (hB : B ≤ W.heap.size)
    (hr : ∀ k, k < 4 → W.ownsRow B 3 1 ([a, b, c, d].getD k undef) ((if k % 2 = 0 then L else M)).length (ints (if k % 2 = 0 then L else M)))
    (ha : ∀ j k q, j < 4 → k < 4 → j ≠ k → ([a, b, c, d].getD j undef).ownBlock = some q → ([a, b, c, d].getD k undef).ownBlock ≠ some q) (hl : L.length ≤ 100000 ∧ M.length ≤ 100000) :
    Calls Tryz.prog 34 #[.slice (some ⟨W.heap.size, 0, none⟩) 4 4] (W.alloc (.cells #[a, b, c, d] T)) fun e w' => e = .returned (.bool true) ∧ Below B W w' :=
  (apart_ints B W.heap.size 4 4 [a, b, c, d] (fun k => if k % 2 = 0 then L else M) (W.alloc (.cells #[a, b, c, d] T)) (by simp; omega) rfl (by simp) (fun k hk => by
    rw [(Blk.new W #[a, b, c, d] T).cell]
    match k, hk with
    | 0, _ => rfl
    | 1, _ => rfl
    | 2, _ => rfl
    | 3, _ => rfl) (fun k hk => own_below (hr k hk) (B1 _ _)) ha (by omega) (fun k hk => by
    show (if k % 2 = 0 then L else M).length ≤ 100000
    split <;> omega)).mono fun e w' ⟨h1, h2⟩ => ⟨h1, Below.trans (b := W.alloc (.cells #[a, b, c, d] T)) ((B1 W _).mono hB) h2⟩
set_option maxRecDepth 100000 in
set_option maxHeartbeats 16000000 in
theorem lnodes_part (g : Gr) (n : Int) (hn : -9223372036854775808 ≤ n ∧ n < 9223372036854775808) (w : World) (hg : Gr.At w g) (hin : Gr.In g) (h1 : g.rules.length ≤ 100000) (h2 : g.nodes.length ≤ 100000) (h3 : ∀ x ∈ g.nodes, x.kids.length ≤ 100000) :
    Calls Tryz.prog 10 #[g.val, .int .i64 n] w fun e w' => e = .returned (.bool true) ∧ Below w.heap.size w w' := by
  have LG := Lib.hid (fun (W : World) (b : Below w.heap.size w W) => lentGram_any g W (hg.below b) h1 h2 h3)
  have KG := Lib.hid (fun (W : World) (b : Below w.heap.size w W) (h : Gr) (B : Nat) (f : LGr W B g h) => keptGram_any g h B W f (hg.below b) h1 h2 h3)
  have HAT := Lib.hid (fun (W : World) (b : Below w.heap.size w W) (h : Gr) (B : Nat) (f : LGr W B g h) => show Gr.At W h ∧ Gr.In h ∧ Capd h from ⟨f.lies (hg.below b), f.twin.within hin, f.capd⟩)
  have RN := Lib.hid (fun (W : World) (b : Below w.heap.size w W) => r12Nodes_any g n hn W (hg.below b) hin)
  have RC := Lib.hid (fun (W : World) (b : Below w.heap.size w W) => r12Calls_any g n hn h1 W (hg.below b) hin)
  have NN := Lib.hid (fun (h : Gr) W (a : Gr.At W h) (b : Gr.In h) (c : Capd h) => lnodes_any h n hn W a b c)
  have NC := Lib.hid (fun (h : Gr) W (a : Gr.At W h) (b : Gr.In h) (c : Capd h) => lcalls_any h n hn W a b c)
  have NL := Lib.hid (at_lens g n)
  clear hg hin h1 h2 h3 hn
  show Calls Tryz.prog 10 #[.agg #[.slice g.RA g.rules.length g.rc, .slice g.NA g.nodes.length g.nc], .int .i64 n] w _
  go_enter Tryz.func10, Tryz.ntmps10
  go_upto_region 2 with (first | (go_at_call 28; (with_reducible refine (LG.out _ (B1 _ _)).mono ?_); rintro e w1 ⟨⟨h, rfl, hl⟩, hb⟩; have HL1 := Lib.hid hl; have KB1 := Lib.hid ((Blk.new w #[.slice g.RA g.rules.length g.rc, .slice g.NA g.nodes.length g.nc] 25).below' hb); have H1 := Lib.hid (bb (B1 w _) hb); have HS1 := Lib.hid hb.size; clear hl hb) | (refine wpList_store_whole rfl 25 (.tmp 5) (.tmp 11) rfl w1.heap.size #[.slice h.RA h.rules.length h.rc, .slice h.NA h.nodes.length h.nc] rfl rfl 25 _ (Blk.new _ _ _) (by kernel_rfl) (by rfl) (by simp [Value.oneCell']) ?_; intro w2 hk2 hg2; have B12 := Lib.hid (grown_below (B1 w1 _) (by simp) hg2 (fun k e => by cases e; exact Nat.le_refl _)); have H2 := Lib.hid (bb H1.out B12.out); have KP := Lib.hid hk2; have KB := Lib.hid (KB1.out.below' B12.out); have HL2 := Lib.hid (HL1.out.below B12.out); clear hk2 hg2))
  obtain ⟨pb, epb⟩ : ∃ pb, pb = w1.heap.size := ⟨_, rfl⟩
  rw [← epb]
  have KP2 : RowKit.Hid (Blk w2 pb #[.slice h.RA h.rules.length h.rc, .slice h.NA h.nodes.length h.nc] 25) := Lib.hid (by rw [epb]; exact KP.out)
  have TW := Lib.hid HL2.out.twin
  obtain ⟨t1, t2⟩ := twin_at TW.out n
  have CN : RowKit.Hid (∀ W, Below w2.heap.size w2 W → Calls Tryz.prog 29 #[.agg #[.slice h.RA h.rules.length h.rc, .slice h.NA h.nodes.length h.nc], .int .i64 n] W (RowI W (nodesAt g n))) := Lib.hid (fun W b => by
    obtain ⟨a1, a2, a3⟩ := HAT.out W (bb H2.out b) h _ (HL2.out.below b)
    have := NN.out h W a1 a2 a3
    rw [t1] at this
    exact this)
  have CC : RowKit.Hid (∀ W, Below w2.heap.size w2 W → Calls Tryz.prog 30 #[.agg #[.slice h.RA h.rules.length h.rc, .slice h.NA h.nodes.length h.nc], .int .i64 n] W (Row W (callsAt g n))) := Lib.hid (fun W b => by
    obtain ⟨a1, a2, a3⟩ := HAT.out W (bb H2.out b) h _ (HL2.out.below b)
    have := NC.out h W a1 a2 a3
    rw [t2] at this
    exact this)
  have KH := Lib.hid (fun W (b : Below w2.heap.size w2 W) => show Calls Tryz.prog 33 #[.agg #[.slice h.RA h.rules.length h.rc, .slice h.NA h.nodes.length h.nc], .agg #[.slice g.RA g.rules.length g.rc, .slice g.NA g.nodes.length g.nc]] W fun e w' => e = .returned (.bool true) ∧ Below W.heap.size W w' from KG.out W (bb H2.out b) h _ (HL2.out.below b))
  generalize nodesAt g n = L at CN RN NL
  generalize callsAt g n = M at CC RC NL
  clear t1 t2 epb KP LG KG HAT NN NC
  have k0 : (World.drew w2).cell? ⟨pb, 0, none⟩ = some (.slice h.RA h.rules.length h.rc) := KP2.out.cell 0
  have k1 : (World.drew w2).cell? ⟨pb, 1, none⟩ = some (.slice h.NA h.nodes.length h.nc) := KP2.out.cell 1
  go_region_held3 (fun W => W.cell? ⟨pb, 0, none⟩ = some (.slice h.RA h.rules.length h.rc) ∧ W.cell? ⟨pb, 1, none⟩ = some (.slice h.NA h.nodes.length h.nc) ∧ Below w2.heap.size w2 W) (first | exact ⟨k0, k1, bdrew1 (Below.refl _ _)⟩ | exact ⟨d0, d1, Hd⟩ | exact ⟨c0, c1, Hc⟩ | exact ⟨b0, b1, Hb⟩ | exact ⟨a0, a1, Ha⟩) (first | (go_at_call 30; (with_reducible refine (CC.out _ (by exact Hc)).mono ?_); rintro e wd ⟨⟨vd, rfl, hod, _⟩, hbd⟩; have Od := Lib.hid hod; have Ed := Lib.hid hbd; have Hd : Below w2.heap.size w2 wd := bb Hc hbd; have d0 := (KP2.out.below' Hd).cell 0; have d1 := (KP2.out.below' Hd).cell 1; simp only [List.getElem?_toArray, List.getElem?_cons_zero, List.getElem?_cons_succ] at d0 d1; clear hod hbd) | (go_at_call 29; (with_reducible refine (CN.out _ (by exact Hb)).mono ?_); rintro e wc ⟨⟨vc, rfl, hoc, _⟩, hbc⟩; have Oc := Lib.hid hoc; have Ec := Lib.hid hbc; have Hc : Below w2.heap.size w2 wc := bb Hb hbc; have c0 := (KP2.out.below' Hc).cell 0; have c1 := (KP2.out.below' Hc).cell 1; simp only [List.getElem?_toArray, List.getElem?_cons_zero, List.getElem?_cons_succ] at c0 c1; clear hoc hbc) | (go_at_call 30; (with_reducible refine (CC.out _ (by exact Ha)).mono ?_); rintro e wb ⟨⟨vb, rfl, hob, _⟩, hbb⟩; have Ob := Lib.hid hob; have Eb := Lib.hid hbb; have Hb : Below w2.heap.size w2 wb := bb Ha hbb; have b0 := (KP2.out.below' Hb).cell 0; have b1 := (KP2.out.below' Hb).cell 1; simp only [List.getElem?_toArray, List.getElem?_cons_zero, List.getElem?_cons_succ] at b0 b1; clear hob hbb) | (go_at_call 29; (with_reducible refine (CN.out _ (by exact (bdrew1 (Below.refl _ _)))).mono ?_); rintro e wa ⟨⟨va, rfl, hoa, _⟩, hba⟩; have Oa := Lib.hid hoa; have Ea := Lib.hid hba; have Ha : Below w2.heap.size w2 wa := bb (bdrew1 (Below.refl _ _)) hba; have a0 := (KP2.out.below' Ha).cell 0; have a1 := (KP2.out.below' Ha).cell 1; simp only [List.getElem?_toArray, List.getElem?_cons_zero, List.getElem?_cons_succ] at a0 a1; clear hoa hba))
  all_goals (
    clear k0 k1 a0 a1 b0 b1 c0 c1 d0 d1
    have Hab := Ea.out.size
    have Hbc := Eb.out.size
    have Hcd := Ec.out.size
    have Hde := Ed.out.size
    have hsz : w2.heap.size ≤ wa.heap.size := Hab
    obtain ⟨Aa, ca, rfl, _, _⟩ := own_slice Oa.out
    obtain ⟨Ab, cb, rfl, _, _⟩ := own_slice Ob.out
    obtain ⟨Ac, cc, rfl, _, _⟩ := own_slice Oc.out
    obtain ⟨Ad, cd, rfl, _, _⟩ := own_slice Od.out
    have oa := own_below (own_below (own_below Oa.out Eb.out) Ec.out) Ed.out
    have ob := own_lower (base' := w2.heap.size) (own_below (own_below Ob.out Ec.out) Ed.out) hsz
    have oc := own_lower (base' := w2.heap.size) (own_below Oc.out Ed.out) (by omega)
    have od := own_lower (base' := w2.heap.size) Od.out (by omega)
    have nlM : (nums M).length = M.length := nums_len M
    obtain ⟨fr, fa⟩ := four_apartI (L := L) (M := nums M) (B := w2.heap.size) oa (by rw [nlM]; exact ob) oc (by rw [nlM]; exact od) (fun q e => (Oa.out.lt q e).2) (fun q e => Ob.out.lt q e) (fun q e => Oc.out.lt q e) (fun q e => (Od.out.lt q e).1) Hbc Hcd
    have FR := Lib.hid fr
    have FA := Lib.hid fa
    have D2 := Lib.hid Hd
    have oa2 : wd.ownsRow w2.heap.size 3 1 _ _ _ := oa
    have OA := Lib.hid oa2
    have OB := Lib.hid ob
    have HSD := Lib.hid (show w2.heap.size ≤ wd.heap.size by omega)
    have NLM := Lib.hid nlM
    clear oa ob oc od fr fa Hab Hbc Hcd Hde hsz oa2 Oa Ob Oc Od Ea Eb Ec Ed Ha Hb Hc Hd CN CC nlM
    have tx0 := (KP2.out.below' D2.out).cell 0
    have tx1 := (KP2.out.below' D2.out).cell 1
    have ty0 := (KB.out.below' D2.out).cell 0
    have ty1 := (KB.out.below' D2.out).cell 1
    simp only [List.getElem?_toArray, List.getElem?_cons_zero, List.getElem?_cons_succ] at tx0 tx1 ty0 ty1
    go_wp2_with (first | (go_at_call 33; (with_reducible refine (KH.out _ H10).mono ?_); rintro e w11 ⟨rfl, hb11⟩; have H11 : Below w2.heap.size w2 w11 := bb H10 hb11; clear hb11; clear qx0 qx1 qy0 qy1) | (go_at_call 34; (with_reducible refine (apart_fourI (by exact H9.size) (fun k hk => own_below (FR.out k hk) D9) FA.out (by have := NL.out; rw [NLM.out]; omega)).mono ?_); rintro e w10 ⟨rfl, hb10⟩; have H10 : Below w2.heap.size w2 w10 := Below.trans H9 hb10; have qx0 := (KP2.out.below' H10).cell 0; have qx1 := (KP2.out.below' H10).cell 1; have qy0 := (KB.out.below' H10).cell 0; have qy1 := (KB.out.below' H10).cell 1; simp only [List.getElem?_toArray, List.getElem?_cons_zero, List.getElem?_cons_succ] at qx0 qx1 qy0 qy1; clear hb10) | (go_at_call 33; (with_reducible refine (KH.out _ H8).mono ?_); rintro e w9 ⟨rfl, hb9⟩; have D9 : Below wd.heap.size wd w9 := bb D8 hb9; have H9 : Below w2.heap.size w2 w9 := bb D2.out D9; clear hb9; clear rx0 rx1 ry0 ry1) | (go_at_call 24; (with_reducible refine S7.out.mono ?_); rintro e w8 ⟨rfl, hb8⟩; have D8 : Below wd.heap.size wd w8 := bb D7 hb8; have H8 : Below w2.heap.size w2 w8 := bb D2.out D8; have rx0 := (KP2.out.below' H8).cell 0; have rx1 := (KP2.out.below' H8).cell 1; have ry0 := (KB.out.below' H8).cell 0; have ry1 := (KB.out.below' H8).cell 1; simp only [List.getElem?_toArray, List.getElem?_cons_zero, List.getElem?_cons_succ] at rx0 rx1 ry0 ry1; clear hb8) | (go_at_call 32; (with_reducible refine (RC.out _ (bb H2.out H6)).mono ?_); rintro e w7 ⟨⟨v7, rfl, ho7⟩, hb7⟩; obtain ⟨A7, c7, rfl, _, _⟩ := own_slice ho7; have D7 : Below wd.heap.size wd w7 := bb D6 hb7; have H7 : Below w2.heap.size w2 w7 := bb D2.out D7; have S7 := Lib.hid (lsame_row Ab A7 cb c7 M (by have := NL.out; omega) w7 (own_lies1 (own_below OB.out D7)) (own_lies1 ho7)); clear ho7 hb7; clear sx0 sx1 sy0 sy1) | (go_at_call 24; (with_reducible refine S5.out.mono ?_); rintro e w6 ⟨rfl, hb6⟩; have D6 : Below wd.heap.size wd w6 := bb D5 hb6; have H6 : Below w2.heap.size w2 w6 := bb D2.out D6; have sx0 := (KP2.out.below' H6).cell 0; have sx1 := (KP2.out.below' H6).cell 1; have sy0 := (KB.out.below' H6).cell 0; have sy1 := (KB.out.below' H6).cell 1; simp only [List.getElem?_toArray, List.getElem?_cons_zero, List.getElem?_cons_succ] at sx0 sx1 sy0 sy1; clear hb6) | (go_at_call 31; (with_reducible refine (RN.out _ (bb H2.out D2.out)).mono ?_); rintro e w5 ⟨⟨A5, c5, rfl, ho5⟩, hb5⟩; have D5 : Below wd.heap.size wd w5 := hb5; have H5 : Below w2.heap.size w2 w5 := bb D2.out D5; have S5 := Lib.hid (lsame_self Aa A5 ca c5 L (by have := NL.out; omega) w5 (own_lies1 (own_below OA.out hb5)) (own_lies1 ho5)); clear ho5 hb5; clear tx0 tx1 ty0 ty1))
    go_ret
    exact ⟨rfl, bb H2.out H11⟩)
end Go.Proofs.YtlbjmkljmhfjdaaGreat
namespace Go.Proofs.YtlbjmkljmhfjdaaGreat
open Go Go.Proofs Go.RowKit Go.Lib Go.Maps
def pk (x n : Int) : Int := if n < 1 then 0 else x % n
theorem pk_in (x : Int) (n : Nat) (hn : n ≤ 1000000) : -9223372036854775808 ≤ pk x n ∧ pk x n < 9223372036854775808 := by
  unfold pk
  split
  · omega
  · have h1 := Int.emod_nonneg x (show (n : Int) ≠ 0 by omega)
    have h2 := Int.emod_lt_of_pos x (show (0 : Int) < n by omega)
    omega
theorem pk_any (x : Int) (hx : -9223372036854775808 ≤ x ∧ x < 9223372036854775808) (n : Nat) (hn : n ≤ 1000000) (w : World) :
    Calls Tryz.prog 11 #[.int .i64 x, .int .i64 n] w fun e w' => e = .returned (.int .i64 (pk x n)) ∧ Below w.heap.size w w' := by
  by_cases h : 1 ≤ n
  · refine (pick_any x n hx (by omega) w).mono ?_
    rintro e w' ⟨rfl, rfl⟩
    exact ⟨by unfold pk; rw [if_neg (by omega)], Below.refl _ _⟩
  · obtain rfl : n = 0 := by omega
    have e : pk x ((0 : Nat) : Int) = 0 := rfl
    rw [e]
    go_enter Tryz.func11, Tryz.ntmps11
    go_wp2_with fail
    go_ret
    exact ⟨rfl, Below.refl _ _⟩
end Go.Proofs.YtlbjmkljmhfjdaaGreat
namespace Go.Proofs.YtlbjmkljmhfjdaaGreat
open Go Go.Proofs Go.RowKit Go.Lib Go.Maps
set_option maxRecDepth 100000 in
set_option maxHeartbeats 8000000 in
theorem leftTells_law (g : Gr) (n : Int) (hn : -9223372036854775808 ≤ n ∧ n < 9223372036854775808) (w : World) (hg : Gr.At w g) (hin : Gr.In g) :
    Calls Tryz.prog 3 #[g.val, .int .i64 n] w fun e w' => e = .returned (.bool true) ∧ Below w.heap.size w w' := by
  have SZ := Lib.hid (fun (W : World) (b : Below w.heap.size w W) => size12_all g W (hg.below b))
  have AWK := Lib.hid (fun W => lawake_any W)
  have TL := Lib.hid (fun (W : World) (b : Below w.heap.size w W) (a : Int) ha h1 h2 h3 => lnodes_part g a ha W (hg.below b) hin h1 h2 h3)
  have PN := Lib.hid (fun m hm W => pk_any n hn m hm W)
  have HN := Lib.hid hn
  clear hg hin hn
  show Calls Tryz.prog 3 #[.agg #[.slice g.RA g.rules.length g.rc, .slice g.NA g.nodes.length g.nc], .int .i64 n] w _
  go_enter Tryz.func3, Tryz.ntmps3
  go_wp2_with (first | (go_at_call 8; (with_reducible refine (SZ.out _ (B1 _ _)).mono ?_); rintro e w1 ⟨⟨z, rfl, hz⟩, hb⟩; have HZ := Lib.hid hz; have H1 := Lib.hid (bb (B1 w _) hb); have KB := Lib.hid ((Blk.new w #[.slice g.RA g.rules.length g.rc, .slice g.NA g.nodes.length g.nc] 25).below' hb); clear hb hz) | (go_at_call 9; (with_reducible refine (AWK.out _).mono ?_); rintro e w2 ⟨rfl, hb⟩; have H2 := Lib.hid (bb H1.out hb); clear hb))
  · go_ret
    exact ⟨rfl, H2.out⟩
  · have hz3 : z ≤ 300 := by assumption
    have HZ2 := Lib.hid (HZ.out hz3)
    have g0 := KB.out.cell 0
    have g1 := KB.out.cell 1
    simp only [List.getElem?_toArray, List.getElem?_cons_zero, List.getElem?_cons_succ] at g0 g1
    have f0 := fun (e : Ext w1) => Ext.cell g0 e
    have f1 := fun (e : Ext w1) => Ext.cell g1 e
    have hr : g.rules.length ≤ 1000 := by have := HZ2.out.1; omega
    have hnl : g.nodes.length ≤ 1000 := by have := HZ2.out.1; omega
    have hk : ∀ x ∈ g.nodes, x.kids.length ≤ 100000 := fun x hx => by have := HZ2.out.2 x hx; omega
    have P1 := Lib.hid (fun W => PN.out g.nodes.length (by omega) W)
    have T1 := Lib.hid (fun (e : Ext w1) => TL.out e.val (bb H1.out e.grown) n HN.out (by omega) (by omega) hk)
    have T2 := Lib.hid (fun (e : Ext w1) => TL.out e.val (bb H1.out e.grown) (pk n g.nodes.length) (pk_in _ _ (by omega)) (by omega) (by omega) hk)
    generalize pk n g.nodes.length = pn at P1 T2
    clear g0 g1 hr hnl hk
    go_wp2_with fail
    refine wp_region_ext (by kernel_rfl) (by kernel_rfl) ?_
    repeat (first | go_big_quiet_step ((first | (go_at_call 9; with_reducible exact Calls.ext_of (AWK.out _)) | (go_at_call 11; with_reducible exact Calls.ext_of (P1.out _)) | (go_at_call 10; with_reducible exact Calls.ext_of (T1.out _)) | (go_at_call 10; with_reducible exact Calls.ext_of (T2.out _)))) | quiet_step ((first | (go_at_call 9; with_reducible exact Calls.ext_of (AWK.out _)) | (go_at_call 11; with_reducible exact Calls.ext_of (P1.out _)) | (go_at_call 10; with_reducible exact Calls.ext_of (T1.out _)) | (go_at_call 10; with_reducible exact Calls.ext_of (T2.out _)))))
    refine wpQuiet_nil ?_
    intro w13 hw'
    obtain ⟨⟨_, hb13⟩, rfl⟩ := hw'
    have H13 := Lib.hid (bb H1.out hb13)
    clear hb13 f0 f1
    go_wp2_with fail
    go_ret
    exact ⟨rfl, H13.out⟩
end Go.Proofs.YtlbjmkljmhfjdaaGreat

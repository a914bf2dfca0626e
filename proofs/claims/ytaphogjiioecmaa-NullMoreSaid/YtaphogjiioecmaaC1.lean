/- What the laws of null ask of a node, by a row of what is known: in memory. -/
import Derived.Test.YtaphogjiioecmaaB7
import Derived.Test.YtaphogjiioecmaaA5
import Derived.Deep.QuietTactic
import Derived.BigQuiet
set_option linter.unusedSimpArgs false
set_option linter.unusedVariables false
namespace Go.Proofs.Ytaphogjiioecmaa
open Go Go.RowKit Go.Maps
def bls (l : List Bool) : List Value := l.map Value.bool
theorem bls_length (l : List Bool) : (bls l).length = l.length := by simp [bls]
theorem bls_at {l : List Bool} {k : Nat} (h : k < l.length) : (bls l)[k]? = some (.bool (l.getD k false)) := by
  simp [bls, List.getD, List.getElem?_eq_getElem h]
theorem bls_set (l : List Bool) (k : Nat) (b : Bool) : (bls l).set k (.bool b) = bls (l.set k b) := by simp [bls, List.map_set]
theorem ints_set (l : List Int) (k : Nat) (b : Int) : (ints l).set k (.int .i64 b) = ints (l.set k b) := by simp [ints, List.map_set]
theorem Blk.put {w : World} {b k : Nat} {l : List Value} {T : TypeId} (h : Blk w b l.toArray T) (v : Value) : Blk (w.setCell ⟨b, k, none⟩ v) b (l.set k v).toArray T := by
  have := heap_setCell_same w b k l.toArray T v h
  unfold Blk
  rw [this]
  simp
theorem made_blk {w : World} {base b n : Nat} {e : TypeId} {xs : List Value} (h : w.ownsRow base e 1 (.slice (some ⟨b, 0, none⟩) n n) n xs) : Blk w b xs.toArray e := by
  have h1 := h.1
  rcases h.2 with ⟨hn, _⟩ | ⟨g', cap', cur, hv, hbg, hgh, hnc, hcm, hcs, htake⟩
  · cases hn
  · simp only [Value.slice.injEq, Option.some.injEq, Addr.mk.injEq, and_true, true_and] at hv
    obtain ⟨rfl, rfl⟩ := hv
    have : cur.toList = xs := by
      rw [List.take_of_length_le (by simp; omega)] at htake
      exact htake
    unfold Blk
    rw [hgh, ← this]
theorem all_take {p : Int → Bool} {l : List Int} {k : Nat} (h : k < l.length) : (l.take (k + 1)).all p = ((l.take k).all p && p (l.getD k 0)) := by
  rw [List.take_add_one, List.all_append, List.getElem?_eq_getElem h]
  simp [List.getD, List.getElem?_eq_getElem h]
theorem any_take {p : Int → Bool} {l : List Int} {k : Nat} (h : k < l.length) : (l.take (k + 1)).any p = ((l.take k).any p || p (l.getD k 0)) := by
  rw [List.take_add_one, List.any_append, List.getElem?_eq_getElem h]
  simp [List.getD, List.getElem?_eq_getElem h]
theorem and_eq {a b c : Bool} (h : a = (b && c)) : a = if b = true then c else false := by subst h; cases b <;> rfl
set_option maxRecDepth 100000 in
set_option maxHeartbeats 4000000 in
theorem says_any (g : Gr) (n : Nat) (hn : n < g.nodes.length) (hR : Right g) (l : List Bool) (hl : l.length = g.nodes.length) (r : List Int) (hr : r.length = g.rules.length) (mb : Nat) (A : Option Addr) (c : Nat) (w : World) (hg : Gr.At w g) (hm : Blk w mb (bls l).toArray 4) (hA : Lies w A (ints r)) :
    Calls Try.prog 20 #[g.val, .int .i64 n, .slice (some ⟨mb, 0, none⟩) l.length l.length, .slice A r.length c] w fun e w' => e = .returned (.bool (stepMay (g.nodes.getD n Nd.zero) (fun k => l.getD k.toNat false) (inB r))) ∧ Below w.heap.size w w' := by
  have hnl := hR.nodes
  have hrl := hR.rules.2
  have hk := hR.kidsUp n hn
  have hok := kinds (hR.all n hn)
  obtain ⟨b1, o1, eA, hb1, n1, n2, n3, n4, n5, n6, n7, n8, n9⟩ := hg.nodes.nine hn
  have hat := hg.node hn
  obtain ⟨N, eN⟩ : ∃ N, N = g.nodes.length := ⟨_, rfl⟩
  obtain ⟨R, eR⟩ : ∃ N, N = g.rules.length := ⟨_, rfl⟩
  show Calls Try.prog 20 #[.agg #[.slice g.RA g.rules.length g.rc, .slice g.NA g.nodes.length g.nc], .int .i64 n, .slice (some ⟨mb, 0, none⟩) l.length l.length, .slice A r.length c] w _
  generalize g.nodes.getD n Nd.zero = x at hk hok n1 n2 n3 n4 n5 n6 n7 n8 n9 hat ⊢
  obtain ⟨p, ep⟩ : ∃ p : Int → Bool, p = fun k => l.getD k.toNat false := ⟨_, rfl⟩
  have HP := Lib.hid (show ∀ k : Nat, p k = l.getD k false from fun k => by rw [ep]; simp)
  rw [← ep]
  have RV := Lib.hid (show ∀ q : Nat, inB r q = decide (0 < r.getD q 0) from fun q => rfl)
  have HX := Lib.hid (show stepMay x p (inB r) = if x.kind = 1 ∨ x.kind = 8 ∨ x.kind = 10 ∨ x.kind = 11 ∨ x.kind = 12 then true
  else if x.kind = 6 ∨ x.kind = 9 then x.kids.all p
  else if x.kind = 7 then x.kids.any p
  else if x.kind = 5 then inB r x.rule else false from rfl)
  generalize stepMay x p (inB r) = v at HX ⊢
  clear ep
  rw [eA, hl, hr, ← eN, ← eR]
  rw [← eN] at hn hk hl hnl
  rw [← eR] at hok hr hrl
  have hn2 : (n : Int) < N := by omega
  have HK := Lib.hid hk
  have HOK := Lib.hid hok
  have HM := Lib.hid hm
  have HA := Lib.hid hA
  have HAT := Lib.hid hat
  have HL := Lib.hid hl
  have HRL := Lib.hid hr
  have hkl := hat.2.2
  clear hg hR eA eN eR hk hok hm hA hat hl hr
  obtain ⟨K, eK⟩ : ∃ K, K = x.kids.length := ⟨_, rfl⟩
  have EK := Lib.hid eK
  rw [← eK] at hkl n9
  clear eK
  go_enter Try.func20, Try.ntmps20
  go_upto_region 1 with fail
  obtain ⟨wb, ewb⟩ : ∃ u, u = w.alloc (.cells #[.slice g.RA R g.rc, .slice (some ⟨b1, o1, none⟩) N g.nc] 38) := ⟨_, rfl⟩
  have hb2 : Below w.heap.size w wb := by rw [ewb]; exact B1 _ _
  have c1 : wb.cell? ⟨w.heap.size, 1, none⟩ = some (.slice (some ⟨b1, o1, none⟩) N g.nc) := by rw [ewb]; exact (Blk.new _ _ _).cell 1
  rw [← ewb]
  have BB := Lib.hid hb2
  have SZ := Lib.hid (show w.heap.size < wb.heap.size by rw [ewb]; simp)
  replace n1 := (hb2.cell (p := ⟨b1, _, none⟩) hb1).trans n1
  replace n2 := (hb2.cell (p := ⟨b1, _, none⟩) hb1).trans n2
  replace n3 := (hb2.cell (p := ⟨b1, _, none⟩) hb1).trans n3
  replace n4 := (hb2.cell (p := ⟨b1, _, none⟩) hb1).trans n4
  replace n5 := (hb2.cell (p := ⟨b1, _, none⟩) hb1).trans n5
  replace n6 := (hb2.cell (p := ⟨b1, _, none⟩) hb1).trans n6
  replace n7 := (hb2.cell (p := ⟨b1, _, none⟩) hb1).trans n7
  replace n8 := (hb2.cell (p := ⟨b1, _, none⟩) hb1).trans n8
  replace n9 := (hb2.cell (p := ⟨b1, _, none⟩) hb1).trans n9
  clear ewb hb2 hb1
  go_wp2_with (refine wpList_store_whole rfl 30 (.tmp 9) (.tmp 17) rfl wb.heap.size x.cells.toArray rfl (by rw [Nd.cells, ← EK.out]; rfl) 30 _ (Blk.new _ _ _) (by kernel_rfl) (by rfl) (by simp [Nd.cells, Value.oneCell']) ?_; intro w2 hk2 hg2; have H2 := Lib.hid (show Below w.heap.size w w2 from grown_below (BB.out.alloc BB.out.size _) (by have := BB.out.size; simp; omega) hg2 (fun k e => by cases e; exact BB.out.size)); have e0 := hk2.cell 0; have e3 := hk2.cell 6; have e8 := hk2.cell 8; simp only [Nd.cells, List.getElem?_toArray, List.getElem?_cons_zero, List.getElem?_cons_succ] at e0 e3 e8; rw [← EK.out] at e8; clear hk2 hg2 n1 n2 n3 n4 n5 n6 n7 n8 n9 c1)
  go_loopw [10, 11, 12] (fun s e i wr => ∃ k : Nat, k ≤ K ∧ i = .int .i64 k ∧ s = .bool ((x.kids.take k).any p) ∧ e = .bool ((x.kids.take k).all p) ∧ wr = w2) (fun _ _ i _ => K - (intOf i).toNat)
  case atStart => exact ⟨0, by omega, rfl, by simp, by simp, rfl⟩
  case round =>
    obtain ⟨k, hk, rfl, rfl, rfl, rfl⟩ := hrel
    by_cases hlt : k < K
    · have hlt2 : (k : Int) < K := by omega
      have hlk : k < x.kids.length := by have := EK.out; omega
      have hS := Lib.hid (any_take (p := p) hlk)
      have hE := Lib.hid (all_take (p := p) hlk)
      obtain ⟨b2, o2, eA2, _, c2⟩ := lies_cell (HAT.out.1.below H2.out) hlk
      have hmem := HK.out _ (getD_mem (z := 0) hlk)
      obtain ⟨j, ej⟩ : ∃ j : Nat, x.kids.getD k 0 = j := ⟨(x.kids.getD k 0).toNat, by omega⟩
      rw [ej] at c2 hmem hS hE
      rw [HP.out] at hS hE
      have hj : j < N := by omega
      have hj2 : (j : Int) < N := by omega
      have cm : wr.cell? ⟨mb, j, none⟩ = some (.bool (l.getD j false)) := ((HM.out.below' H2.out).cell j).trans (by rw [List.getElem?_toArray]; exact bls_at (by have := HL.out; omega))
      rw [eA2] at e8
      clear hlk hmem ej
      generalize (x.kids.take k).any p = s at hS ⊢
      generalize (x.kids.take k).all p = e at hE ⊢
      generalize l.getD j false = b at hS hE cm
      cases s <;> cases e
      all_goals
        go_wp2_with fail
        go_roundw
        case rel => exact ⟨k + 1, by omega, by go_num, by rw [hS.out]; try rfl, by rw [hE.out]; try rfl, by first | trivial | rfl⟩
        case measure => simp [intOf]; omega
    · obtain rfl : k = K := by omega
      have hlt2 : ¬ (k : Int) < k := by omega
      have hS := Lib.hid (show (x.kids.take k).any p = x.kids.any p from by rw [List.take_of_length_le (by have := EK.out; omega)])
      have hE := Lib.hid (show (x.kids.take k).all p = x.kids.all p from by rw [List.take_of_length_le (by have := EK.out; omega)])
      have hok := HOK.out
      rw [← hS.out, ← hE.out] at HX
      generalize (x.kids.take k).any p = s at HX ⊢
      generalize (x.kids.take k).all p = e at HX ⊢
      generalize x.rule = u at hok e3 HX
      generalize x.kind = kd at hok e0 HX
      by_cases h5 : kd = 5
      · subst h5
        obtain ⟨q, rfl⟩ : ∃ q : Nat, u = q := ⟨u.toNat, by have := hok.2.2 rfl; omega⟩
        have hq := hok.2.2 rfl
        obtain ⟨b3, o3, eA3, _, c3⟩ := lies_cell (HA.out.below H2.out) (k := q) (by have := HRL.out; omega)
        have hv : v = decide (0 < r.getD q 0) := by rw [HX.out, ← RV.out]; simp
        have HV := Lib.hid hv
        rw [eA3]
        clear hok hv HX RV hS hE
        go_wp2_with fail
        go_ret
        exact ⟨ret_bool HV.out.symm, H2.out⟩
      · have hkd : kd = 1 ∨ kd = 2 ∨ kd = 3 ∨ kd = 4 ∨ kd = 6 ∨ kd = 7 ∨ kd = 8 ∨ kd = 9 ∨ kd = 10 ∨ kd = 11 ∨ kd = 12 := by omega
        clear hok h5 hS hE RV
        rcases hkd with rfl | rfl | rfl | rfl | rfl | rfl | rfl | rfl | rfl | rfl | rfl
        all_goals
          have hv := HX.out
          simp at hv
          have HV := Lib.hid hv
          clear hv HX
          go_wp2_with fail
          go_ret
          exact ⟨ret_bool HV.out.symm, H2.out⟩
end Go.Proofs.Ytaphogjiioecmaa
namespace Go.Proofs.Ytaphogjiioecmaa
open Go Go.RowKit Go.Maps
theorem in_later {g : Gr} {k i : Nat} (h : inB (rk g k) i = true) : inB (rk g (k + 1)) i = true := by
  simp only [inB, Int.toNat_natCast, decide_eq_true_eq] at h ⊢
  rw [rk_keeps g k i h]; exact h
/-- A rule that is in is in with its body. -/
theorem in_body {g : Gr} : ∀ (k i : Nat), i < g.rules.length → 0 < (rk g (k + 1)).getD i 0 → mayN g.nodes (inB (rk g k)) (g.rules.getD i Rl.zero).body = true
  | k, i, hi, h => by
    rw [rk_next g k i hi] at h
    by_cases hc : comB g (rk g k) i = true
    · unfold comB at hc
      simp only [Bool.and_eq_true] at hc
      exact hc.2
    · rw [if_neg hc] at h
      cases k with
      | zero => rw [rk_zero] at h; omega
      | succ k =>
        refine mayN_mono (i := inB (rk g k)) (fun q hq => ?_) (in_body k i hi h)
        simp only [inB, decide_eq_true_eq] at hq ⊢
        rw [rk_keeps g k _ hq]; exact hq
theorem body_in {g : Gr} (k i : Nat) (hi : i < g.rules.length) : mayN g.nodes (inB (rk g k)) (g.rules.getD i Rl.zero).body = decide (0 < (rk g (k + 1)).getD i 0) := by
  by_cases h : 0 < (rk g (k + 1)).getD i 0
  · rw [in_body k i hi h, decide_eq_true h]
  · rw [decide_eq_false h]
    cases hm : mayN g.nodes (inB (rk g k)) (g.rules.getD i Rl.zero).body with
    | false => rfl
    | true =>
      exfalso
      apply h
      by_cases h0 : inB (rk g k) i = true
      · have := in_later h0
        simpa [inB] using this
      · rw [rk_next g k i hi, if_pos (by unfold comB; rw [hm]; simpa using h0)]
        omega
theorem rk_past (g : Gr) : rk g (g.rules.length + 1) = ranks g := by
  obtain ⟨N, h1, h2, _⟩ := rounds_end g
  have := rk_stay g N h2 (g.rules.length + 1 - N)
  rw [show N + (g.rules.length + 1 - N) = g.rules.length + 1 by omega] at this
  rw [this, ranks_fix g h1 h2]
theorem ranks_length (g : Gr) : (ranks g).length = g.rules.length := rk_length g _
theorem ranks_pos (g : Gr) (i : Nat) : 0 ≤ (ranks g).getD i 0 := (rk_bound g _ i).1
theorem ranks_le (g : Gr) (i : Nat) : (ranks g).getD i 0 ≤ g.rules.length := (rk_bound g _ i).2
/-- A rule is in just as its body may. -/
theorem body_ranks {g : Gr} (i : Nat) (hi : i < g.rules.length) : mayN g.nodes (inB (ranks g)) (g.rules.getD i Rl.zero).body = decide (0 < (ranks g).getD i 0) := by
  have := body_in (g := g) g.rules.length i hi
  rw [rk_past] at this
  exact this
/-- The ranks below a number. -/
def low (r : List Int) (k : Nat) : List Int := r.map fun x => if x < (k : Int) + 1 then x else 0
theorem low_length (r : List Int) (k : Nat) : (low r k).length = r.length := by simp [low]
theorem low_at {r : List Int} {k i : Nat} (h : i < r.length) : (low r k).getD i 0 = if r.getD i 0 < (k : Int) + 1 then r.getD i 0 else 0 := by
  simp [low, List.getD, List.getElem?_eq_getElem h]
theorem ext_getD {a b : List Int} (h : a.length = b.length) (h2 : ∀ i, i < a.length → a.getD i 0 = b.getD i 0) : a = b := by
  apply List.ext_getElem h
  intro i h3 h4
  have := h2 i h3
  simpa [List.getD, List.getElem?_eq_getElem h3, List.getElem?_eq_getElem h4] using this
theorem low_ranks (g : Gr) (k : Nat) (hk : k ≤ g.rules.length) : low (ranks g) k = rk g k := by
  apply ext_getD
  · rw [low_length, rk_length, ranks_length]
  · intro i hi
    rw [low_length] at hi
    rw [low_at hi]
    have := rk_below g i (g.rules.length - k) k
    rw [show k + (g.rules.length - k) = g.rules.length by omega] at this
    rw [this]
    show (if (ranks g).getD i 0 < (k : Int) + 1 then (ranks g).getD i 0 else 0) = if (ranks g).getD i 0 ≤ k then (ranks g).getD i 0 else 0
    by_cases h : (ranks g).getD i 0 ≤ k
    · rw [if_pos h, if_pos (by omega)]
    · rw [if_neg h, if_neg (by omega)]
theorem rk_upto (g : Gr) (k i : Nat) (hk : k ≤ g.rules.length) : decide (0 < (rk g (k + 1)).getD i 0) = decide (0 < (ranks g).getD i 0 ∧ (ranks g).getD i 0 ≤ (k : Int) + 1) := by
  by_cases h : k = g.rules.length
  · subst h
    rw [rk_past]
    have := ranks_le g i
    have h2 : (ranks g).getD i 0 ≤ (g.rules.length : Int) + 1 := by omega
    exact decide_eq_decide.2 ⟨fun h => ⟨h, h2⟩, fun h => h.1⟩
  · have := rk_below g i (g.rules.length - (k + 1)) (k + 1)
    rw [show (k + 1) + (g.rules.length - (k + 1)) = g.rules.length by omega] at this
    rw [this]
    show decide (0 < if (ranks g).getD i 0 ≤ ((k + 1 : Nat) : Int) then (ranks g).getD i 0 else 0) = _
    by_cases h : (ranks g).getD i 0 ≤ ((k + 1 : Nat) : Int)
    · rw [if_pos h]
      have h2 : (ranks g).getD i 0 ≤ (k : Int) + 1 := by omega
      exact decide_eq_decide.2 ⟨fun h => ⟨h, h2⟩, fun h => h.1⟩
    · rw [if_neg h]
      have h2 : ¬ (ranks g).getD i 0 ≤ (k : Int) + 1 := by omega
      exact decide_eq_decide.2 ⟨fun h => absurd h (by omega), fun h => absurd h.2 h2⟩
theorem body_low {g : Gr} (k i : Nat) (hi : i < g.rules.length) (hk : k ≤ g.rules.length) : mayN g.nodes (inB (low (ranks g) k)) (g.rules.getD i Rl.zero).body = decide (0 < (ranks g).getD i 0 ∧ (ranks g).getD i 0 ≤ (k : Int) + 1) := by
  rw [low_ranks g k hk, body_in k i hi, rk_upto g k i hk]
/-- What a node may, by what its kids may. -/
theorem may_step {g : Gr} (hR : Right g) (inn : Int → Bool) (l : List Bool) (n : Nat) (hn : n < g.nodes.length) (h : ∀ j, n < j → j < g.nodes.length → l.getD j false = mayN g.nodes inn j) :
    stepMay (g.nodes.getD n Nd.zero) (fun k => l.getD k.toNat false) inn = mayN g.nodes inn n := by
  rw [mayN_eq hR.kidsUp inn (n := n) (by omega) (by omega), Int.toNat_natCast]
  refine stepMay_congr (fun k hk => ?_) (fun _ => rfl)
  have := hR.kidsUp n hn k hk
  obtain ⟨j, rfl⟩ : ∃ j : Nat, k = j := ⟨k.toNat, by omega⟩
  simpa using h j (by omega) (by omega)
theorem made_ints (n : Nat) : (madeCells (Value.int .i64 0).cells (n * 1)).toList.toArray = (ints (List.replicate n 0)).toArray := by
  rw [made_int]; simp [ints]
theorem made_bools (n : Nat) : (madeCells (Value.bool false).cells (n * 1)).toList.toArray = (bls (List.replicate n false)).toArray := by
  have : madeCells (Value.bool false).cells (n * 1) = (List.replicate n (Value.bool false)).toArray := by
    apply Array.ext
    · simp [madeCells]
    · intro k h1 h2
      simp [madeCells, Value.cells, Nat.mod_one]
  rw [this]; simp [bls]
end Go.Proofs.Ytaphogjiioecmaa
namespace Go.Proofs.Ytaphogjiioecmaa
open Go Go.RowKit Go.Maps
theorem Try.info4 : (Try.prog.info? 4).map (fun i => (i.zero, i.size, i.bytes)) = some (some (.bool false), 1, 1) := by kernel_rfl
theorem grown_none {w w' : World} (h : w.grownBy w' none) : Below w.heap.size w w' := (Below.refl w.heap.size w).grown h (Nat.le_refl _) (fun k hk => by cases hk)
set_option maxRecDepth 100000 in
set_option maxHeartbeats 8000000 in
theorem steps_any (g : Gr) (hR : Right g) (A : Option Addr) (c M : Nat) (hM : ∀ i, (ranks g).getD i 0 ≤ M) (hM2 : M ≤ g.rules.length) (w : World) (hg : Gr.At w g) (hA : Lies w A (ints (ranks g))) :
    Calls Try.prog 22 #[g.val, .slice A g.rules.length c, .int .i64 M] w fun e w' => e = .returned (.bool true) ∧ Below w.heap.size w w' := by
  obtain ⟨i0, hi, hz0, hz1, hz2⟩ := info_parts Try.info3
  obtain ⟨i1, ji, jz0, jz1, jz2⟩ := info_parts Try.info4
  have hnl := hR.nodes
  have hrl := hR.rules.2
  have hr0 := hR.rules.1
  obtain ⟨b1, o1, eA, hb1, _⟩ := hg.rules.two (show 0 < g.rules.length by omega)
  obtain ⟨b2, o2, eA2, hb2, _⟩ := lies_cell hA (k := 0) (by rw [ranks_length]; omega)
  obtain ⟨N, eN⟩ : ∃ N, N = g.nodes.length := ⟨_, rfl⟩
  obtain ⟨R, eR⟩ : ∃ N, N = g.rules.length := ⟨_, rfl⟩
  have RL := Lib.hid (show (ranks g).length = R by rw [ranks_length, eR])
  have RB := Lib.hid (fun i (hi : i < R) => show 0 ≤ (g.rules.getD i Rl.zero).body ∧ (g.rules.getD i Rl.zero).body < (N : Int) from (by have := hR.body i (by omega); omega))
  have FX := Lib.hid (fun (k i : Nat) (hk : k ≤ M) (hi : i < R) => body_low (g := g) k i (by omega) (by omega))
  have PS := Lib.hid (ranks_pos g)
  have PM := Lib.hid hM
  have HRW := Lib.hid (fun (w' : World) (b : Below w.heap.size w w') (i : Nat) (hi : i < R) => (hg.below b).rules.two (show i < g.rules.length by omega))
  have HRK := Lib.hid (fun (w' : World) (b : Below w.heap.size w w') (i : Nat) (hi : i < R) => lies_cell (hA.below b) (k := i) (by rw [ranks_length]; omega))
  have SY := Lib.hid (fun (n : Nat) (hn : n < N) (l : List Bool) (hl : l.length = N) (r : List Int) (hr : r.length = R) (mb lb : Nat) (w' : World) (b : Below w.heap.size w w') (hm : Blk w' mb (bls l).toArray 4) (hlr : Blk w' lb (ints r).toArray 3) (h : ∀ j, n < j → j < N → l.getD j false = mayN g.nodes (inB r) j) =>
    show Calls Try.prog 20 #[.agg #[.slice (some ⟨b1, o1, none⟩) R g.rc, .slice g.NA N g.nc], .int .i64 n, .slice (some ⟨mb, 0, none⟩) N N, .slice (some ⟨lb, 0, none⟩) R R] w' fun e w'' => e = .returned (.bool (mayN g.nodes (inB r) n)) ∧ Below w'.heap.size w' w'' from by
      have := says_any g n (by omega) hR l (by omega) r (by omega) mb (some ⟨lb, 0, none⟩) R w' (hg.below b) hm (fun h0 => ⟨lb, 0, rfl, hlr.lt, fun i hi => by rw [Nat.zero_add, hlr.cell i, List.getElem?_toArray]⟩)
      rw [may_step hR (inB r) l n (by omega) (by rw [← eN]; exact h), hl, hr] at this
      rw [eN] at this ⊢
      rw [eR] at this ⊢
      rw [← eA]
      exact this)
  show Calls Try.prog 22 #[.agg #[.slice g.RA g.rules.length g.rc, .slice g.NA g.nodes.length g.nc], .slice A g.rules.length c, .int .i64 M] w _
  rw [eA, eA2, ← eN, ← eR]
  rw [← eN] at hnl
  rw [← eR] at hrl hr0 hM2
  have EA := Lib.hid eA
  have EA2 := Lib.hid eA2
  clear hg hA hR eA eA2 hb1 hb2 hM
  clear eN eR
  go_enter Try.func22, Try.ntmps22
  go_upto_region 1 with fail
  obtain ⟨wb, ewb⟩ : ∃ u, u = w.alloc (.cells #[.slice (some ⟨b1, o1, none⟩) R g.rc, .slice g.NA N g.nc] 38) := ⟨_, rfl⟩
  have BB := Lib.hid (show Below w.heap.size w wb by rw [ewb]; exact B1 _ _)
  have KB := Lib.hid (show Blk wb w.heap.size #[.slice (some ⟨b1, o1, none⟩) R g.rc, .slice g.NA N g.nc] 38 by rw [ewb]; exact Blk.new _ _ _)
  rw [← ewb]
  clear ewb
  go_wp2_with fail
  go_loopw [7, 8, 9, 10, 11, 12] (fun rr _ _ _ _ _ wr => ∃ k : Nat, k ≤ M + 1 ∧ rr = .int .i64 ((k : Int) + 1) ∧ Below wb.heap.size wb wr) (fun rr _ _ _ _ _ _ => M + 2 - (intOf rr).toNat)
  case atStart => exact ⟨0, by omega, by go_num, Below.refl _ _⟩
  case round =>
    obtain ⟨k, hk, rfl, hbl⟩ := hrel
    have BL := Lib.hid hbl
    have W0 := Lib.hid (BB.out.trans (hbl.mono BB.out.size))
    clear hbl
    by_cases hlt : k ≤ M
    · have hlt2 : ((k : Int) + 1) ≤ M + 1 := by omega
      go_wp2_with (at_make; refine wpList_make_full _ rfl _ _ 28 rfl wr.heap.size 3 i0 (.int .i64 0) 1 Try.underlying28 hi hz0 hz1 .i64 .i64 _ _ R rfl rfl rfl rfl (by rw [hz2]; omega) (by unfold maxLen; omega) (by simp) ?_; intro w1 hown hgrow; have H1 := Lib.hid (grown_none hgrow); have K1 := Lib.hid (show Blk w1 wr.heap.size (ints (List.replicate R 0)).toArray 3 from by have := made_blk hown; rw [made_ints] at this; exact this); clear hown hgrow)
      obtain ⟨lb, elb⟩ : ∃ b, b = wr.heap.size := ⟨_, rfl⟩
      have LB := Lib.hid (show wb.heap.size ≤ lb by rw [elb]; exact BL.out.size)
      have T1 := Lib.hid (show Below wb.heap.size wb w1 from BL.out.trans (H1.out.mono BL.out.size))
      rw [← elb] at K1 ⊢
      clear elb BL W0 H1
      -- LOOP2
      go_loopw [9] (fun i w2 => ∃ (j : Nat) (L : List Int), j ≤ R ∧ i = .int .i64 j ∧ L.length = R ∧ (∀ q, q < j → L.getD q 0 = (low (ranks g) k).getD q 0) ∧ (∀ q, j ≤ q → L.getD q 0 = 0) ∧ Blk w2 lb (ints L).toArray 3 ∧ Below wb.heap.size wb w2) (fun i _ => R - (intOf i).toNat)
      case atStart => exact ⟨0, List.replicate R 0, by omega, rfl, by simp, fun q h => absurd h (by omega), fun q _ => (by simp only [List.getD, List.getElem?_replicate]; split <;> rfl), K1.out, T1.out⟩
      case round =>
        obtain ⟨j, L, hj, rfl, hLl, hL1, hL2, hlb, hb⟩ := hrel
        have LL := Lib.hid hLl
        have L1 := Lib.hid hL1
        have L2 := Lib.hid hL2
        have HB := Lib.hid hlb
        have T2 := Lib.hid hb
        have W2 := Lib.hid (BB.out.trans (hb.mono BB.out.size))
        clear hLl hL1 hL2 hlb hb
        by_cases hjR : j < R
        · have hj2 : (j : Int) < R := by omega
          obtain ⟨b3, o3, e3, _, c3⟩ := HRK.out _ W2.out j hjR
          rw [EA2.out] at e3
          cases e3
          have LA := Lib.hid (low_at (r := ranks g) (k := k) (i := j) (by have := RL.out; omega))
          obtain ⟨lw, elw⟩ : ∃ x, x = (low (ranks g) k).getD j 0 := ⟨_, rfl⟩
          have ELW := Lib.hid elw
          rw [← elw] at LA
          clear elw
          generalize (ranks g).getD j 0 = v at c3 LA
          by_cases hv : v < (k : Int) + 1
          · have cl : wr.cell? ⟨lb, j, none⟩ = some (.int .i64 (L.getD j 0)) := (HB.out.cell j).trans (by rw [List.getElem?_toArray]; exact ints_at (by have := LL.out; omega))
            generalize L.getD j 0 = y at cl
            have fl := HB.out.frozen j
            have hlw : lw = v := by rw [LA.out, if_pos hv]
            have HLW := Lib.hid hlw
            clear hlw LA
            go_wp2_with fail
            go_roundw
            case rel =>
              refine ⟨j + 1, L.set j v, by omega, by go_num, by rw [List.length_set]; exact LL.out, fun q hq => ?_, fun q hq => ?_, ?_, T2.out.setCell LB.out _⟩
              · by_cases e : q = j
                · subst e
                  rw [← ELW.out, HLW.out]
                  simp only [List.getD]
                  rw [List.getElem?_set_self (by have := LL.out; omega)]
                  rfl
                · simp only [List.getD]
                  rw [List.getElem?_set_ne (fun h => e h.symm)]
                  exact L1.out q (by omega)
              · simp only [List.getD]
                rw [List.getElem?_set_ne (by omega)]
                exact L2.out q (by omega)
              · have := HB.out.put (k := j) (.int .i64 v)
                rw [ints_set] at this
                exact this
            case measure => simp [intOf]; omega
          · have hlw : lw = 0 := by rw [LA.out, if_neg hv]
            have HLW := Lib.hid hlw
            clear hlw LA
            go_wp2_with fail
            go_roundw
            case rel =>
              refine ⟨j + 1, L, by omega, by go_num, LL.out, fun q hq => ?_, fun q hq => L2.out q (by omega), HB.out, T2.out⟩
              by_cases e : q = j
              · subst e
                rw [← ELW.out, HLW.out]
                exact L2.out q (by omega)
              · exact L1.out q (by omega)
            case measure => simp [intOf]; omega
        · obtain rfl : R = j := by omega
          have hj2 : ¬ (R : Int) < R := by omega
          have eL : L = low (ranks g) k := ext_getD (by rw [low_length, RL.out]; exact LL.out) (fun q hq => L1.out q (by have := LL.out; omega))
          have EL := Lib.hid eL
          clear eL L1 L2
          have kb : wr.cell? ⟨w.heap.size, 1, none⟩ = some (.slice g.NA N g.nc) := (KB.out.below' T2.out).cell 1
          go_wp2_with (at_make; refine wpList_make_full _ rfl _ _ 42 rfl wr.heap.size 4 i1 (.bool false) 1 Try.underlying42 ji jz0 jz1 .i64 .i64 _ _ N rfl rfl rfl rfl (by rw [jz2]; omega) (by unfold maxLen; omega) (Nat.le_refl _) ?_; intro w3 hown hgrow; have H3 := Lib.hid (grown_none hgrow); have K3 := Lib.hid (made_blk hown); have kb3 : w3.cell? ⟨w.heap.size, 1, none⟩ = some (.slice g.NA N g.nc) := (KB.out.below' (T2.out.trans (H3.out.mono T2.out.size))).cell 1; clear hown hgrow kb)
          obtain ⟨mb, emb⟩ : ∃ b, b = wr.heap.size := ⟨_, rfl⟩
          have MB := Lib.hid (show wb.heap.size ≤ mb by rw [emb]; exact T2.out.size)
          have NE := Lib.hid (show lb ≠ mb from fun e => by have := HB.out.lt; omega)
          have T3 := Lib.hid (show Below wb.heap.size wb w3 from T2.out.trans (H3.out.mono T2.out.size))
          have HL3 := Lib.hid (show Blk w3 lb (ints (low (ranks g) k)).toArray 3 by rw [← EL.out]; exact HB.out.below' H3.out)
          have HM3 := Lib.hid (show Blk w3 mb (bls (List.replicate N false)).toArray 4 by rw [← made_bools, emb]; exact K3.out)
          rw [← emb]
          clear emb H3 EL HB T2 W2 K3 kb3
          -- LOOP4
          go_loopw [11] (fun n w4 => ∃ (j : Nat) (m : Int) (l : List Bool), j ≤ N ∧ n = .int .i64 m ∧ m = (j : Int) - 1 ∧ l.length = N ∧ (∀ q, j ≤ q → q < N → l.getD q false = mayN g.nodes (inB (low (ranks g) k)) q) ∧ Blk w4 lb (ints (low (ranks g) k)).toArray 3 ∧ Blk w4 mb (bls l).toArray 4 ∧ Below wb.heap.size wb w4) (fun n _ => (intOf n + 1).toNat)
          case atStart => exact ⟨N, _, List.replicate N false, Nat.le_refl _, rfl, rfl, by simp, fun q h1 h2 => absurd h1 (by omega), HL3.out, HM3.out, T3.out⟩
          case round =>
            obtain ⟨j, m, l, hj, rfl, hm, hll, hlm, hlb, hmb, hb⟩ := hrel
            have LL := Lib.hid hll
            have LM := Lib.hid hlm
            have HLB := Lib.hid hlb
            have HMB := Lib.hid hmb
            have T4 := Lib.hid hb
            have W4 := Lib.hid (BB.out.trans (hb.mono BB.out.size))
            clear hll hlm hlb hmb hb HL3 HM3 T3
            cases j with
            | succ j =>
              obtain rfl : m = (j : Int) := by omega
              clear hm
              have kb0 : wr.cell? ⟨w.heap.size, 0, none⟩ = some (.slice (some ⟨b1, o1, none⟩) R g.rc) := (KB.out.below' T4.out).cell 0
              have kb1 : wr.cell? ⟨w.heap.size, 1, none⟩ = some (.slice g.NA N g.nc) := (KB.out.below' T4.out).cell 1
              have C := Lib.hid (SY.out j (by omega) l LL.out (low (ranks g) k) (by rw [low_length]; exact RL.out) mb lb wr W4.out HMB.out HLB.out (fun q h1 h2 => LM.out q (by omega) h2))
              obtain ⟨b, eb⟩ : ∃ b, b = mayN g.nodes (inB (low (ranks g) k)) j := ⟨_, rfl⟩
              have EB := Lib.hid eb
              rw [← eb] at C
              clear eb
              have hj2 : (j : Int) < N := by omega
              have hj3 : (0 : Int) ≤ j := by omega
              go_wp2_with (go_at_call 20; (with_reducible refine C.out.mono ?_); rintro e w5 ⟨rfl, hb⟩; have HL5 := Lib.hid (HLB.out.below' hb); have HM5 := Lib.hid (HMB.out.below' hb); have T5 := Lib.hid (T4.out.trans (hb.mono T4.out.size)); have cl : w5.cell? ⟨mb, j, none⟩ = some (.bool (l.getD j false)) := (HM5.out.cell j).trans (by rw [List.getElem?_toArray]; exact bls_at (by have := LL.out; omega)); have fl := HM5.out.frozen j; generalize l.getD j false = y at cl; clear hb kb0 kb1)
              go_roundw
              case rel =>
                refine ⟨j, _, l.set j b, by omega, rfl, by go_num, by rw [List.length_set]; exact LL.out, fun q h1 h2 => ?_, ?_, ?_, T5.out.setCell MB.out _⟩
                · by_cases e : q = j
                  · subst e
                    rw [← EB.out]
                    simp only [List.getD]
                    rw [List.getElem?_set_self (by have := LL.out; omega)]
                    rfl
                  · simp only [List.getD]
                    rw [List.getElem?_set_ne (fun h => e h.symm)]
                    exact LM.out q (by omega) h2
                · exact (Below.heap_setCell _ _ _ lb NE.out).trans HL5.out
                · have := HM5.out.put (k := j) (.bool b)
                  rw [bls_set] at this
                  exact this
              case measure => simp [intOf]
            | zero =>
              have hneg : m < 0 := by omega
              clear hm
              have kb0 : wr.cell? ⟨w.heap.size, 0, none⟩ = some (.slice (some ⟨b1, o1, none⟩) R g.rc) := (KB.out.below' T4.out).cell 0
              go_wp2_with fail
              -- LOOP6
              clear kb0
              obtain ⟨wx, rfl⟩ : ∃ u, u = wr := ⟨_, rfl⟩
              go_loopw [12] (fun i w6 => ∃ j : Nat, j ≤ R ∧ i = .int .i64 j ∧ Below wx.heap.size wx w6) (fun i _ => R - (intOf i).toNat)
              case atStart => exact ⟨0, by omega, rfl, Below.refl _ _⟩
              case round =>
                obtain ⟨j, hj, rfl, hbx⟩ := hrel
                have BX := Lib.hid hbx
                have W6 := Lib.hid (W4.out.trans (hbx.mono W4.out.size))
                have T6 := Lib.hid (T4.out.trans (hbx.mono T4.out.size))
                clear hbx
                have kb0 : wr.cell? ⟨w.heap.size, 0, none⟩ = some (.slice (some ⟨b1, o1, none⟩) R g.rc) := (KB.out.below' T6.out).cell 0
                by_cases hjR : j < R
                · have hj2 : (j : Int) < R := by omega
                  obtain ⟨b3, o3, e3, _, _, cb⟩ := HRW.out _ W6.out j hjR
                  obtain ⟨b4, o4, e4, _, c4⟩ := HRK.out _ W6.out j hjR
                  rw [EA.out] at e3
                  cases e3
                  rw [EA2.out] at e4
                  cases e4
                  have hbd := RB.out j hjR
                  have hfx := FX.out k j hlt hjR
                  generalize (g.rules.getD j Rl.zero).body = bd at cb hbd hfx
                  obtain ⟨q, rfl⟩ : ∃ q : Nat, bd = q := ⟨bd.toNat, by omega⟩
                  have hq : q < N := by omega
                  have cm : wr.cell? ⟨mb, q, none⟩ = some (.bool (l.getD q false)) := ((HMB.out.below' BX.out).cell q).trans (by rw [List.getElem?_toArray]; exact bls_at (by have := LL.out; omega))
                  rw [LM.out q (by omega) hq, hfx] at cm
                  generalize (ranks g).getD j 0 = v at cm c4
                  have hq2 : (q : Int) < N := by omega
                  clear hfx hbd
                  by_cases h1 : 0 < v
                  · by_cases h2 : v ≤ (k : Int) + 1
                    · rw [decide_eq_true ⟨h1, h2⟩] at cm
                      have d1 : decide (0 < v) = true := decide_eq_true h1
                      have d2 : decide (v ≤ (k : Int) + 1) = true := decide_eq_true h2
                      go_wp2_with fail
                      go_quiet (fail)
                      go_wp2_with fail
                      go_roundw
                      case rel => exact ⟨j + 1, by omega, by go_num, bdrew BX.out⟩
                      case measure => simp [intOf]; omega
                    · rw [decide_eq_false (fun h => h2 h.2)] at cm
                      have d1 : decide (0 < v) = true := decide_eq_true h1
                      have d2 : decide (v ≤ (k : Int) + 1) = false := decide_eq_false h2
                      go_wp2_with fail
                      go_quiet (fail)
                      go_wp2_with fail
                      go_roundw
                      case rel => exact ⟨j + 1, by omega, by go_num, bdrew BX.out⟩
                      case measure => simp [intOf]; omega
                  · rw [decide_eq_false (fun h => h1 h.1)] at cm
                    have d1 : decide (0 < v) = false := decide_eq_false h1
                    go_wp2_with fail
                    go_quiet (fail)
                    go_wp2_with fail
                    go_roundw
                    case rel => exact ⟨j + 1, by omega, by go_num, bdrew BX.out⟩
                    case measure => simp [intOf]; omega
                · obtain rfl : R = j := by omega
                  have hj2 : ¬ (R : Int) < R := by omega
                  go_wp2_with fail
                  go_roundw
                  case rel => exact ⟨k + 1, by omega, by go_num, T6.out⟩
                  case measure => simp [intOf]; omega
    · obtain rfl : k = M + 1 := by omega
      have hlt2 : ¬ (((M + 1 : Nat) : Int) + 1) ≤ M + 1 := by omega
      have kb0 : wr.cell? ⟨w.heap.size, 0, none⟩ = some (.slice (some ⟨b1, o1, none⟩) R g.rc) := (KB.out.below' BL.out).cell 0
      have hle : (M : Int) ≤ R := by omega
      go_wp2_with fail
      go_ret
      exact ⟨by first | rfl | simp [hle], W0.out⟩
end Go.Proofs.Ytaphogjiioecmaa

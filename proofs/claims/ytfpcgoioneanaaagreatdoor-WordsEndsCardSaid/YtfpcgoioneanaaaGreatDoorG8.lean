/- All the document's words of a text. -/
import Derived.Test.YtfpcgoioneanaaaGreatDoorG7
import Derived.Test.YtfpcgoioneanaaaGreatDoorG6
import Derived.Test.YtfpcgoioneanaaaGreatDoorG3
set_option linter.unusedSimpArgs false
set_option linter.unusedVariables false
namespace Go.Proofs.YtfpcgoioneanaaaGreatDoor
open Go Go.RowKit
theorem Tryz.infoRWord : (Tryz.prog.info? 62).map (fun i => (i.zero, i.size, i.bytes)) = some (some (.agg wzero), 9, 80) := by kernel_rfl
/-- What all of the document's words are told to be. -/
def RAllPost (l : List Nat) (N : Nat) (w : World) (e : Ending) (w' : World) : Prop :=
  Below w.heap.size w w' ∧ ((ow l N = none ∧ e = .returned (.tuple #[.slice none 0 0, .int .i64 (beg l N), .int .i64 7])) ∨ ∃ v, ow l N ≠ none ∧ e = .returned (.tuple #[v, .int .i64 0, .int .i64 0]) ∧ w'.ownsRow w.heap.size 62 9 v (N + 1) (wrow l (N + 1)))
/-- What lies as they are collected. -/
structure RAI (l : List Nat) (w : World) (k : Nat) (v : Value) (W : World) : Prop where
  row : W.ownsRow w.heap.size 62 9 v k (wrow l k)
  low : Below w.heap.size w W
theorem RAI.grow {l : List Nat} {w W W' : World} {k : Nat} {v : Value} (h : RAI l w k v W) (hb : Below W.heap.size W W') : RAI l w k v W' := ⟨own_below h.row hb, bb h.low hb⟩
theorem RAI.next {l : List Nat} {w W W' : World} {k : Nat} {v v' : Value} {x : Wd} (h : RAI l w k v W) (hx : ow l k = some x) (ho : W'.ownsRow w.heap.size 62 9 v' (k + 1) (wrow l k ++ (wfull x (beg l k)).toList)) (hg : W.grownBy W' v.ownBlock) : RAI l w (k + 1) v' W' := by
  have e : wrow l (k + 1) = wrow l k ++ (wfull x (beg l k)).toList := by
    show wrow l k ++ (wA l k).toList = _
    unfold wA
    rw [hx]
  exact ⟨by rw [e]; exact ho, h.low.grown hg h.low.size (fun q hq => (h.row.lt q hq).1)⟩
set_option maxRecDepth 100000 in
set_option maxHeartbeats 4000000 in
theorem rAll_long (s : ByteArray) (h : 16384 < s.size) (w : World) :
    Calls Tryz.prog 19 #[.string s] w fun e w' => e = .returned (.tuple #[.slice none 0 0, .int .i64 0, .int .i64 3]) ∧ Below w.heap.size w w' := by
  have h3 : (16384 : Int) < s.size := by omega
  have h4 : 16384 < s.size := h
  clear h
  go_enter Tryz.func19, Tryz.ntmps19
  go_wp2_with fail
  go_ret3
  exact ⟨rfl, Below.refl _ _⟩
set_option maxRecDepth 100000 in
set_option maxHeartbeats 8000000 in
theorem rAll_any (N : Nat) (s : ByteArray) (l : List Nat) (hs : Str s l) (hl : l.length ≤ 16384) (hN : stp l N = true) (hNl : N ≤ l.length) (hNb : ∀ j, j < N → stp l j = false) (w : World) :
    Calls Tryz.prog 19 #[.string s] w (RAllPost l N w) := by
  have hz := hs.size
  have LT := Lib.hid hs.lt
  have NN := Lib.hid (fun k (hk : k ≤ l.length) (ho : wd (l.drop (k + sk false (l.drop k))) = none) W => rNext_no k s l hs (by omega) hk ho W)
  have NY := Lib.hid (fun k (hk : k ≤ l.length) x (ho : wd (l.drop (k + sk false (l.drop k))) = some x) W => rNext_yes k x s l hs (by omega) hk ho W)
  have SK := Lib.hid (fun k (hk : k ≤ l.length) W => rskip_any k s l hs (by omega) hk W)
  have HNB := Lib.hid hNb
  have HN := Lib.hid hN
  obtain ⟨i0, hi0, hiz0, hiz1, hiz2⟩ := info_parts Tryz.infoRWord
  have h3 : ¬ (16384 : Int) < s.size := by omega
  have h4 : (s.size : Int) ≤ 16384 := by omega
  have h5 : s.size ≤ 16384 := by omega
  have F0 : RowKit.Hid (RAI l w 0 (.slice none 0 0) w) := Lib.hid ⟨World.ownsRow_nil _ _ _ _, Below.refl _ _⟩
  clear hs hz hN hNb
  go_enter Tryz.func19, Tryz.ntmps19
  go_wp2_with fail
  go_loopw [5, 6, 7, 8] (fun v5 v6 _ _ wr => ∃ k : Nat, k ≤ N ∧ v6 = .int .i64 (pos l k) ∧ RAI l w k v5 wr) (fun _ v6 _ _ _ => l.length - (intOf v6).toNat)
  case atStart => exact ⟨0, by omega, rfl, F0.out⟩
  case round =>
    obtain ⟨k, hk, rfl, hF⟩ := hrel
    have FR := Lib.hid hF
    have hp := pos_le LT.out k
    clear hF
    obtain ⟨A5, c5, rfl, hA5, _⟩ := own_slice FR.out.row
    cases ho : ow l k with
    | none =>
      obtain rfl : k = N := by
        by_cases e : k = N
        · exact e
        · have := HNB.out k (by omega)
          rw [stp_none ho] at this
          cases this
      have HO := Lib.hid ho
      have N1 := Lib.hid (NN.out (pos l k) hp ho)
      have S1 : RowKit.Hid (∀ W, Calls Tryz.prog 23 #[.string s, .int .i64 (pos l k)] W fun e w' => e = .returned (.int .i64 (beg l k : Nat)) ∧ W = w') := Lib.hid (SK.out (pos l k) hp)
      obtain ⟨p, ep⟩ : ∃ p, p = pos l k := ⟨_, rfl⟩
      obtain ⟨q, eq⟩ : ∃ p, p = beg l k := ⟨_, rfl⟩
      rw [← ep] at N1
      rw [← ep, ← eq] at S1
      rw [← ep]
      have EQ := Lib.hid eq
      clear ho hp ep eq
      go_wp2_with (first | (go_at_call 20; (with_reducible refine (N1.out _).mono ?_); rintro e w1 ⟨rfl, hb⟩; have F1 := Lib.hid (FR.out.grow hb); clear hb) | (refine wpList_store_whole rfl 62 (.tmp 7) (.tmp 16) rfl w1.heap.size wzero rfl rfl 62 _ (Blk.new _ _ _) (by kernel_rfl) (by rfl) (by simp [Value.oneCell']) ?_; intro w2 hk2 hg2; have F2 := Lib.hid (F1.out.grow (Below.grown (B1 w1 _) hg2 (by simp) (fun j hj => by cases hj; exact Nat.le_refl _))); clear hk2 hg2) | (go_at_call 23; (with_reducible refine (S1.out _).mono ?_); rintro e w3 ⟨rfl, rfl⟩))
      go_ret3
      exact ⟨F2.out.low, .inl ⟨HO.out, by rw [← EQ.out]; rfl⟩⟩
    | some x =>
      have HO := Lib.hid ho
      have N1 : RowKit.Hid (∀ W, Calls Tryz.prog 20 #[.string s, .int .i64 (pos l k)] W fun e w' => e = .returned (.tuple #[.agg (wfull x (beg l k)), .bool true]) ∧ Below W.heap.size W w') := Lib.hid (NY.out (pos l k) hp x ho)
      have hst := stp_some ho
      have hps := pos_some ho
      have ONE : RowKit.Hid (∀ u ∈ (wfull x (beg l k)).toList, u.oneCell' = true) := Lib.hid (by
        have := wA_one l k
        unfold wA at this
        rw [ho] at this
        exact this)
      have PM : RowKit.Hid (k ≠ N → pos l k < pos l (k + 1)) := Lib.hid (fun hne => by
        obtain ⟨_, _, _, _, h⟩ := pos_more LT.out (HNB.out k (by omega))
        exact h)
      have PL := Lib.hid (pos_le LT.out (k + 1))
      have NX : RowKit.Hid (∀ v' W W', RAI l w k (.slice A5 k c5) W → W'.ownsRow w.heap.size 62 9 v' (k + 1) (wrow l k ++ (wfull x (beg l k)).toList) → W.grownBy W' (Value.slice A5 k c5).ownBlock → RAI l w (k + 1) v' W') := Lib.hid (fun v' W W' h1 h2 h3 => h1.next ho h2 h3)
      obtain ⟨q, eq⟩ : ∃ q, q = pos l (k + 1) := ⟨_, rfl⟩
      rw [← eq] at PL PM hps
      obtain ⟨b, eb⟩ : ∃ b, b = beg l k := ⟨_, rfl⟩
      rw [← eb] at N1 NX ONE hps
      unfold wfull at N1 NX ONE
      rw [← hps] at N1 NX ONE
      obtain ⟨T, eT⟩ : ∃ T, T = bsv x.text := ⟨_, rfl⟩
      obtain ⟨z0, ez0⟩ : ∃ T : Int, T = (cw x.cls 0 : Int) := ⟨_, rfl⟩
      obtain ⟨z1, ez1⟩ : ∃ T : Int, T = (cw x.cls 1 : Int) := ⟨_, rfl⟩
      obtain ⟨z2, ez2⟩ : ∃ T : Int, T = (cw x.cls 2 : Int) := ⟨_, rfl⟩
      obtain ⟨z3, ez3⟩ : ∃ T : Int, T = (cw x.cls 3 : Int) := ⟨_, rfl⟩
      rw [← eT, ← ez0, ← ez1, ← ez2, ← ez3] at N1 NX ONE
      have hkN : k ≤ 16384 := by omega
      obtain ⟨p, ep⟩ : ∃ p, p = pos l k := ⟨_, rfl⟩
      have EQ := Lib.hid eq
      rw [← ep] at N1 PM
      rw [← ep]
      have HPL := Lib.hid hp
      have EP := Lib.hid ep
      clear ho hp hps eq eb eT ez0 ez1 ez2 ez3 ep
      by_cases hkN2 : k = N
      · have hk1 : (x.kind == 1) = true := by rw [← hst, hkN2]; exact HN.out
        have HKN := Lib.hid hkN2
        clear hst hkN2
        go_upto_region 8 with (first | (go_at_call 20; (with_reducible refine (N1.out _).mono ?_); rintro e w1 ⟨rfl, hb⟩; have F1 := Lib.hid (FR.out.grow hb); clear hb) | (refine wpList_store_whole rfl 62 (.tmp 7) (.tmp 16) rfl w1.heap.size #[.int .i64 x.kind, .int .i64 b, .int .i64 q, .string T, .int .i64 x.lev, .int .u64 z0, .int .u64 z1, .int .u64 z2, .int .u64 z3] rfl rfl 62 _ (Blk.new _ _ _) (by kernel_rfl) (by rfl) (by simp [Value.oneCell']) ?_; intro w2 hk2 hg2; have HK2 := Lib.hid hk2; have HB2 := Lib.hid (Below.grown (B1 w1 (.cells wzero 62)) hg2 (by simp) (fun j hj => by cases hj; exact Nat.le_refl _)); clear hk2 hg2))
        have F2 := Lib.hid (F1.out.grow HB2.out)
        have LB := Lib.hid (fun j hj => (F1.out.row.lt j hj).2)
        obtain ⟨b7, e7⟩ : ∃ b, b = w1.heap.size := ⟨_, rfl⟩
        rw [← e7] at HK2 LB ⊢
        have HB3 := Lib.hid (B1 w2 (.cells #[.int .i64 x.kind, .int .i64 b, .int .i64 q, .string T, .int .i64 x.lev, .int .u64 z0, .int .u64 z1, .int .u64 z2, .int .u64 z3] 62))
        have F3 := Lib.hid (F2.out.grow HB3.out)
        have c0 := HK2.out.cell 0; have c1 := HK2.out.cell 1; have c2 := HK2.out.cell 2; have c3 := HK2.out.cell 3; have c4 := HK2.out.cell 4; have c5' := HK2.out.cell 5; have c6 := HK2.out.cell 6; have c7 := HK2.out.cell 7; have c8 := HK2.out.cell 8
        simp only [List.getElem?_toArray, List.getElem?_cons_zero, List.getElem?_cons_succ] at c0 c1 c2 c3 c4 c5' c6 c7 c8
        clear e7
        go_wp2_with (at_builtin; refine wpList_append_onto _ rfl (.tmp 23) (.tmp 25) 58 rfl w.heap.size 62 i0 _ 9 80 Tryz.underlying58 hi0 hiz0 hiz1 hiz2 rfl (by decide) _ k (wrow l k) rfl F3.out.row (some ⟨w2.heap.size, 0, none⟩) 1 1 [.int .i64 x.kind, .int .i64 b, .int .i64 q, .string T, .int .i64 x.lev, .int .u64 z0, .int .u64 z1, .int .u64 z2, .int .u64 z3] rfl rfl (fun a ha j u hu => by cases ha; rw [Addr.add_lit, (Blk.new w2 _ _).cell]; simpa using hu) (fun h => by cases h) ONE.out (by unfold maxLen; omega) (by omega) (by have := F3.out.low.size; exact this) ?_; intro v1 w7 hown hg _; have F5 := Lib.hid (NX.out v1 _ w7 F3.out hown hg); have K7 : RowKit.Hid (Blk w7 b7 #[.int .i64 x.kind, .int .i64 b, .int .i64 q, .string T, .int .i64 x.lev, .int .u64 z0, .int .u64 z1, .int .u64 z2, .int .u64 z3] 62) := Lib.hid ((hg.block b7 (by have := HK2.out.lt; simp; omega) (fun e => by have := LB.out b7 e.symm; omega)).trans ((HK2.out.below' HB3.out))); have c0 := K7.out.cell 0; have c2 := K7.out.cell 2; simp only [List.getElem?_toArray, List.getElem?_cons_zero, List.getElem?_cons_succ] at c0 c2; clear hown hg)
        go_ret3
        exact ⟨F5.out.low, .inr ⟨_, by rw [← HKN.out, HO.out]; simp, rfl, by rw [← HKN.out]; exact F5.out.row⟩⟩
      · have hk1 : (x.kind == 1) = false := by rw [← hst]; exact HNB.out k (by omega)
        have HKN := Lib.hid hkN2
        clear hst hkN2
        go_upto_region 8 with (first | (go_at_call 20; (with_reducible refine (N1.out _).mono ?_); rintro e w1 ⟨rfl, hb⟩; have F1 := Lib.hid (FR.out.grow hb); clear hb) | (refine wpList_store_whole rfl 62 (.tmp 7) (.tmp 16) rfl w1.heap.size #[.int .i64 x.kind, .int .i64 b, .int .i64 q, .string T, .int .i64 x.lev, .int .u64 z0, .int .u64 z1, .int .u64 z2, .int .u64 z3] rfl rfl 62 _ (Blk.new _ _ _) (by kernel_rfl) (by rfl) (by simp [Value.oneCell']) ?_; intro w2 hk2 hg2; have HK2 := Lib.hid hk2; have HB2 := Lib.hid (Below.grown (B1 w1 (.cells wzero 62)) hg2 (by simp) (fun j hj => by cases hj; exact Nat.le_refl _)); clear hk2 hg2))
        have F2 := Lib.hid (F1.out.grow HB2.out)
        have LB := Lib.hid (fun j hj => (F1.out.row.lt j hj).2)
        obtain ⟨b7, e7⟩ : ∃ b, b = w1.heap.size := ⟨_, rfl⟩
        rw [← e7] at HK2 LB ⊢
        have HB3 := Lib.hid (B1 w2 (.cells #[.int .i64 x.kind, .int .i64 b, .int .i64 q, .string T, .int .i64 x.lev, .int .u64 z0, .int .u64 z1, .int .u64 z2, .int .u64 z3] 62))
        have F3 := Lib.hid (F2.out.grow HB3.out)
        have c0 := HK2.out.cell 0; have c1 := HK2.out.cell 1; have c2 := HK2.out.cell 2; have c3 := HK2.out.cell 3; have c4 := HK2.out.cell 4; have c5' := HK2.out.cell 5; have c6 := HK2.out.cell 6; have c7 := HK2.out.cell 7; have c8 := HK2.out.cell 8
        simp only [List.getElem?_toArray, List.getElem?_cons_zero, List.getElem?_cons_succ] at c0 c1 c2 c3 c4 c5' c6 c7 c8
        clear e7
        go_wp2_with (at_builtin; refine wpList_append_onto _ rfl (.tmp 23) (.tmp 25) 58 rfl w.heap.size 62 i0 _ 9 80 Tryz.underlying58 hi0 hiz0 hiz1 hiz2 rfl (by decide) _ k (wrow l k) rfl F3.out.row (some ⟨w2.heap.size, 0, none⟩) 1 1 [.int .i64 x.kind, .int .i64 b, .int .i64 q, .string T, .int .i64 x.lev, .int .u64 z0, .int .u64 z1, .int .u64 z2, .int .u64 z3] rfl rfl (fun a ha j u hu => by cases ha; rw [Addr.add_lit, (Blk.new w2 _ _).cell]; simpa using hu) (fun h => by cases h) ONE.out (by unfold maxLen; omega) (by omega) (by have := F3.out.low.size; exact this) ?_; intro v1 w7 hown hg _; have F5 := Lib.hid (NX.out v1 _ w7 F3.out hown hg); have K7 : RowKit.Hid (Blk w7 b7 #[.int .i64 x.kind, .int .i64 b, .int .i64 q, .string T, .int .i64 x.lev, .int .u64 z0, .int .u64 z1, .int .u64 z2, .int .u64 z3] 62) := Lib.hid ((hg.block b7 (by have := HK2.out.lt; simp; omega) (fun e => by have := LB.out b7 e.symm; omega)).trans ((HK2.out.below' HB3.out))); have c0 := K7.out.cell 0; have c2 := K7.out.cell 2; simp only [List.getElem?_toArray, List.getElem?_cons_zero, List.getElem?_cons_succ] at c0 c2; clear hown hg)
        obtain ⟨A9, c9, rfl, _, _⟩ := own_slice F5.out.row
        go_roundw
        case rel => exact ⟨k + 1, by have := HKN.out; omega, by rw [EQ.out], F5.out⟩
        case measure => have := PM.out HKN.out; have := PL.out; simp [intOf]; omega
end Go.Proofs.YtfpcgoioneanaaaGreatDoor
namespace Go.Proofs.YtfpcgoioneanaaaGreatDoor
open Go Go.RowKit
set_option maxRecDepth 100000 in
set_option maxHeartbeats 4000000 in
theorem All_long (s : ByteArray) (h : 16384 < s.size) (w : World) :
    Calls Tryz.prog 11 #[.string s] w fun e w' => e = .returned (.tuple #[.slice none 0 0, .int .i64 0, .int .i64 3]) ∧ Below w.heap.size w w' := by
  have h3 : (16384 : Int) < s.size := by omega
  have h4 : 16384 < s.size := h
  clear h
  refine (callsIn_wide (n := 12)).1 ?_
  refine callsIn_of_wp_marks Tryz.func11 rfl trivial ?_ rfl
  simp only [Tryz.ntmps11, List.size_toArray, List.length_cons, List.length_nil, Nat.reduceAdd, Nat.reduceSub, Array.replicate_succ, Array.replicate_zero, List.push_toArray, List.append_toArray, List.nil_append, List.cons_append]
  refine wpIn_wide.2 ?_
  go_wp2_with fail
  have k2 : Blk (((w.alloc (.cells #[.slice none 0 0] 26)).alloc (.cells #[.int .i64 0] 3)).alloc (.cells #[.int .i64 3] 27)) w.heap.size #[.slice none 0 0] 26 := ((Blk.new _ _ _).alloc _).alloc _
  have k3 : Blk (((w.alloc (.cells #[.slice none 0 0] 26)).alloc (.cells #[.int .i64 0] 3)).alloc (.cells #[.int .i64 3] 27)) (w.heap.size + 1) #[.int .i64 0] 3 := (blk_at _ _ (by simp)).alloc _
  have k4 : Blk (((w.alloc (.cells #[.slice none 0 0] 26)).alloc (.cells #[.int .i64 0] 3)).alloc (.cells #[.int .i64 3] 27)) (w.heap.size + 1 + 1) #[.int .i64 3] 27 := blk_at _ _ (by simp)
  exact ⟨_, res_all rfl rfl rfl (k2.cell 0) (k3.cell 0) (k4.cell 0), rfl, (B2 w _ _).alloc (by simp; omega) _⟩
theorem Next_out (a : Int) (s : ByteArray) (ha : a < 0 ∨ (s.size : Int) < a) (w : World) :
    Calls Tryz.prog 16 #[.string s, .int .i64 a] w fun e w' => e = .returned (.tuple #[.agg wzero, .bool false]) ∧ Below w.heap.size w w' := by
  have RA := Lib.hid (fun W => readerAt_no s a ha W)
  have K0 := Lib.hid (Blk.new w wzero 50)
  clear ha
  go_enter Tryz.func16, Tryz.ntmps16
  go_wp2_with (first | (go_at_call 33; (with_reducible refine (RA.out _).mono ?_); rintro e w1 ⟨rfl, hB⟩; have B1' := Lib.hid (bb (B1 w _) hB); have K1 := Lib.hid (K0.out.below' hB); clear hB) | (refine wpList_store_whole rfl 50 (.tmp 4) (.tmp 16) rfl w.heap.size wzero rfl rfl 50 _ K1.out (by kernel_rfl) (by rfl) (by simp [Value.oneCell']) ?_; intro w5 hk2 hg2; have K5 := Lib.hid hk2; have G5 := Lib.hid hg2; clear hk2 hg2))
  exact bodyPost_ret (results_cell_tmp rfl _ _ w.heap.size 50 _ _ _ rfl rfl K5.out Tryz.underlying50 rfl (by kernel_rfl)) rfl ⟨rfl, below_store B1'.out G5.out (Nat.le_refl _)⟩
end Go.Proofs.YtfpcgoioneanaaaGreatDoor
namespace Go.Proofs.YtfpcgoioneanaaaGreatDoor
open Go Go.RowKit
set_option maxHeartbeats 1000000 in
theorem rskip_far (s : ByteArray) (a : Int) (ha : (s.size : Int) < a) (w : World) : Calls Tryz.prog 23 #[.string s, .int .i64 a] w fun e w' => e = .returned (.int .i64 a) ∧ w = w' := by
  have h1 : ¬ a < 0 := by omega
  have h2 : 0 ≤ a := by omega
  have h3 : ¬ a < (s.size : Int) := by omega
  have h4 : (s.size : Int) ≤ a := by omega
  clear ha
  go_enter Tryz.func23, Tryz.ntmps23
  go_wp2_with fail
  go_loopw [1, 5, 6, 18, 22, 37] (fun v1 _ _ _ _ _ wr => v1 = .int .i64 a ∧ wr = w) (fun _ _ _ _ _ _ _ => 0)
  case atStart => exact ⟨rfl, rfl⟩
  case round =>
    obtain ⟨rfl, rfl⟩ := hrel
    go_wp2_with fail
    go_ret
    exact ⟨rfl, rfl⟩
/-- A word's nine values. -/
theorem wA_shape (l : List Nat) (k : Nat) : ∃ (kd a z v : Int) (c0 c1 c2 c3 : Int) (t : ByteArray), wA l k = #[.int .i64 kd, .int .i64 a, .int .i64 z, .string t, .int .i64 v, .int .u64 c0, .int .u64 c1, .int .u64 c2, .int .u64 c3] := by
  unfold wA
  split
  · exact ⟨_, _, _, _, _, _, _, _, _, rfl⟩
  · exact ⟨_, _, _, _, _, _, _, _, _, rfl⟩
/-- Rows of words, the first n of them. -/
def RowsAt (l : List Nat) (n : Nat) (A : Option Addr) (w : World) : Prop := ∀ i, i < n → ∃ b, A = some ⟨b, 0, none⟩ ∧ b < w.heap.size ∧ ∀ j, j < 9 → w.cell? ⟨b, i * 9 + j, none⟩ = (wA l i)[j]?
theorem RowsAt.below {l : List Nat} {n : Nat} {A : Option Addr} {w w' : World} (h : RowsAt l n A w) (hb : Below w.heap.size w w') : RowsAt l n A w' := fun i hi => by
  obtain ⟨b, e, h1, h2⟩ := h i hi
  exact ⟨b, e, Nat.lt_of_lt_of_le h1 hb.size, fun j hj => (hb.cell (p := ⟨b, i * 9 + j, none⟩) h1).trans (h2 j hj)⟩
theorem own_rowsAt {l : List Nat} {n e base : Nat} {A : Option Addr} {c : Nat} {w : World} (h : w.ownsRow base e 9 (.slice A n c) n (wrow l n)) : RowsAt l n A w := by
  intro i hi
  rcases h.2 with ⟨h1, h2⟩ | ⟨g, cap, cur, h1, hb, hh, _⟩
  · omega
  · simp only [Value.slice.injEq] at h1
    obtain ⟨rfl, _, rfl⟩ := h1
    refine ⟨g, rfl, (h.lt g rfl).2, fun j hj => ?_⟩
    rw [h.cellAt (i * 9 + j) (by omega), ← wrow_at l i n j hi hj, Nat.mul_comm]
/-- What both tell of all words. -/
def AllIs (l : List Nat) (n : Nat) (q er : Int) (w : World) (e : Ending) (w' : World) : Prop :=
  Below w.heap.size w w' ∧ ∃ A c, e = .returned (.tuple #[.slice A n c, .int .i64 q, .int .i64 er]) ∧ RowsAt l n A w'
theorem AllPost.is {l : List Nat} {N : Nat} {w w' : World} {e : Ending} (h : AllPost l N w e w') : (ow l N = none → AllIs l 0 (beg l N) 7 w e w') ∧ (ow l N ≠ none → AllIs l (N + 1) 0 0 w e w') := by
  obtain ⟨hb, h⟩ := h
  constructor
  · intro h0
    rcases h with ⟨_, rfl⟩ | ⟨_, h1, _⟩
    · exact ⟨hb, none, 0, rfl, fun i hi => by omega⟩
    · exact absurd h0 h1
  · intro h0
    rcases h with ⟨h1, _⟩ | ⟨v, _, rfl, ho⟩
    · exact absurd h1 h0
    · obtain ⟨A, c, rfl, _, _⟩ := own_slice ho
      exact ⟨hb, A, c, rfl, own_rowsAt ho⟩
theorem RAllPost.is {l : List Nat} {N : Nat} {w w' : World} {e : Ending} (h : RAllPost l N w e w') : (ow l N = none → AllIs l 0 (beg l N) 7 w e w') ∧ (ow l N ≠ none → AllIs l (N + 1) 0 0 w e w') := by
  obtain ⟨hb, h⟩ := h
  constructor
  · intro h0
    rcases h with ⟨_, rfl⟩ | ⟨_, h1, _⟩
    · exact ⟨hb, none, 0, rfl, fun i hi => by omega⟩
    · exact absurd h0 h1
  · intro h0
    rcases h with ⟨h1, _⟩ | ⟨v, _, rfl, ho⟩
    · exact absurd h1 h0
    · obtain ⟨A, c, rfl, _, _⟩ := own_slice ho
      exact ⟨hb, A, c, rfl, own_rowsAt ho⟩
theorem all_both (s : ByteArray) (l : List Nat) (hs : Str s l) (hl : l.length ≤ 16384) : ∃ (n : Nat) (q er : Int), n ≤ 16385 ∧ (∀ w, Tab w → Calls Tryz.prog 11 #[.string s] w (AllIs l n q er w)) ∧ (∀ w, Calls Tryz.prog 19 #[.string s] w (AllIs l n q er w)) := by
  obtain ⟨N, hN, h1, h2⟩ := ends hs.lt
  by_cases h0 : ow l N = none
  · exact ⟨0, beg l N, 7, by omega, fun w hT => (All_any N s l hs hl h1 hN h2 w hT).mono fun e w' h => h.is.1 h0, fun w => (rAll_any N s l hs hl h1 hN h2 w).mono fun e w' h => h.is.1 h0⟩
  · exact ⟨N + 1, 0, 0, by omega, fun w hT => (All_any N s l hs hl h1 hN h2 w hT).mono fun e w' h => h.is.2 h0, fun w => (rAll_any N s l hs hl h1 hN h2 w).mono fun e w' h => h.is.2 h0⟩
theorem next_both (s : ByteArray) (l : List Nat) (hs : Str s l) (hl : l.length ≤ 16384) (a : Int) : ∃ (kd x z v : Int) (c0 c1 c2 c3 : Int) (t : ByteArray) (b : Bool),
    (∀ w, Tab w → Calls Tryz.prog 16 #[.string s, .int .i64 a] w fun e w' => e = .returned (.tuple #[.agg #[.int .i64 kd, .int .i64 x, .int .i64 z, .string t, .int .i64 v, .int .u64 c0, .int .u64 c1, .int .u64 c2, .int .u64 c3], .bool b]) ∧ Below w.heap.size w w') ∧
    (∀ w, Calls Tryz.prog 20 #[.string s, .int .i64 a] w fun e w' => e = .returned (.tuple #[.agg #[.int .i64 kd, .int .i64 x, .int .i64 z, .string t, .int .i64 v, .int .u64 c0, .int .u64 c1, .int .u64 c2, .int .u64 c3], .bool b]) ∧ Below w.heap.size w w') := by
  have hz := hs.size
  by_cases h : a < 0 ∨ (s.size : Int) < a
  · exact ⟨_, _, _, _, _, _, _, _, _, false, fun w _ => Next_out a s h w, fun w => rNext_out a s h w⟩
  · obtain ⟨k, rfl⟩ : ∃ k : Nat, a = k := ⟨a.toNat, by omega⟩
    cases ho : wd (l.drop (k + sk false (l.drop k))) with
    | none => exact ⟨_, _, _, _, _, _, _, _, _, false, fun w hT => Next_no k s l hs (by omega) (by omega) ho w hT, fun w => rNext_no k s l hs (by omega) (by omega) ho w⟩
    | some x => exact ⟨_, _, _, _, _, _, _, _, _, true, fun w hT => Next_yes k x s l hs (by omega) (by omega) ho w hT, fun w => rNext_yes k x s l hs (by omega) (by omega) ho w⟩
theorem skip_both (s : ByteArray) (l : List Nat) (hs : Str s l) (hl : l.length ≤ 16384) (a : Int) : ∃ q : Int,
    (∀ w, 0 < w.heap.size → Calls Tryz.prog 22 #[.string s, .int .i64 a] w fun e w' => e = .returned (.int .i64 q) ∧ Below w.heap.size w w') ∧
    (∀ w, Calls Tryz.prog 23 #[.string s, .int .i64 a] w fun e w' => e = .returned (.int .i64 q) ∧ w = w') := by
  have hz := hs.size
  by_cases h : a < 0 ∨ (s.size : Int) < a
  · refine ⟨a, fun w _ => Skip_out a s h w, fun w => ?_⟩
    rcases h with h | h
    · exact rskip_neg s a h w
    · exact rskip_far s a h w
  · obtain ⟨k, rfl⟩ : ∃ k : Nat, a = k := ⟨a.toNat, by omega⟩
    exact ⟨_, fun w hw => Skip_in k s l hs (by omega) (by omega) w hw, fun w => rskip_any k s l hs (by omega) (by omega) w⟩
end Go.Proofs.YtfpcgoioneanaaaGreatDoor
namespace Go.Proofs.YtfpcgoioneanaaaGreatDoor
open Go Go.RowKit
set_option maxRecDepth 100000 in
set_option maxHeartbeats 8000000 in
theorem reads_any (s : ByteArray) (l : List Nat) (hs : Str s l) (hl : l.length ≤ 16384) (a : Int) (w : World) (hT : Tab w) :
    Calls Tryz.prog 10 #[.string s, .int .i64 a] w fun e w' => e = .returned (.bool true) ∧ Below w.heap.size w w' := by
  obtain ⟨n, q, er, hn, a1, a2⟩ := all_both s l hs hl
  obtain ⟨kd, x, z, v, c0, c1, c2, c3, t, b, n1, n2⟩ := next_both s l hs hl a
  obtain ⟨sq, s1, s2⟩ := skip_both s l hs hl a
  have A1 := Lib.hid a1
  have A2 := Lib.hid a2
  have N1 := Lib.hid n1
  have N2 := Lib.hid n2
  have S1 := Lib.hid s1
  have S2 := Lib.hid s2
  have HT := Lib.hid hT
  have hw0 : 0 < w.heap.size := by obtain ⟨ev, h1, _⟩ := hT; exact World.block_lt_of_cell? _ _ h1
  have SM := Lib.hid (fun W => same_self kd x z v c0 c1 c2 c3 t W)
  have e1 : (q != q) = false := by simp
  have e2 : (er != er) = false := by simp
  have e3 : (b != b) = false := by simp
  have e4 : (sq != sq) = false := by simp
  have e5 : ((n : Int) != (n : Int)) = false := by simp
  have e6 : (n != n) = false := by simp
  clear a1 a2 n1 n2 s1 s2 hs hl hT
  go_enter Tryz.func10, Tryz.ntmps10
  go_upto_region 5 with (first | (go_at_call 11; (with_reducible refine (A1.out _ HT.out).mono ?_); rintro e w1 ⟨hb, A, c, rfl, hr⟩; have H1 := Lib.hid hb; have R1 := Lib.hid hr; clear hb hr) | (go_at_call 19; (with_reducible refine (A2.out _).mono ?_); rintro e w2 ⟨hb, A', c', rfl, hr⟩; have H2 := Lib.hid (bb H1.out hb); have R2 := Lib.hid (R1.out.below hb); have Q2 := Lib.hid hr; clear hb hr) | (go_at_call 16; (with_reducible refine (N1.out _ (HT.out.below H2.out)).mono ?_); rintro e w3 ⟨rfl, hb⟩; have H3 := Lib.hid (bb H2.out hb); have B3 := Lib.hid hb; clear hb) | (refine wpList_store_whole rfl 50 (.tmp 11) (.tmp 32) rfl w3.heap.size #[.int .i64 kd, .int .i64 x, .int .i64 z, .string t, .int .i64 v, .int .u64 c0, .int .u64 c1, .int .u64 c2, .int .u64 c3] rfl rfl 50 _ (Blk.new _ _ _) (by kernel_rfl) (by rfl) (by simp [Value.oneCell']) ?_; intro w4 hk hg; have K4 := Lib.hid hk; have B4 := Lib.hid (Below.grown (B1 w3 (.cells wzero 50)) hg (by simp) (fun j hj => by cases hj; exact Nat.le_refl _)); clear hk hg) | (go_at_call 20; (with_reducible refine (N2.out _).mono ?_); rintro e w5 ⟨rfl, hb⟩; have B5 := Lib.hid hb; clear hb) | (refine wpList_store_whole rfl 62 (.tmp 13) (.tmp 38) rfl w5.heap.size #[.int .i64 kd, .int .i64 x, .int .i64 z, .string t, .int .i64 v, .int .u64 c0, .int .u64 c1, .int .u64 c2, .int .u64 c3] rfl rfl 62 _ (Blk.new _ _ _) (by kernel_rfl) (by rfl) (by simp [Value.oneCell']) ?_; intro w6 hk hg; have K6 := Lib.hid hk; have B6 := Lib.hid (Below.grown (B1 w5 (.cells wzero 62)) hg (by simp) (fun j hj => by cases hj; exact Nat.le_refl _)); clear hk hg))
  obtain ⟨p1, ep1⟩ : ∃ p, p = w3.heap.size := ⟨_, rfl⟩
  obtain ⟨p2, ep2⟩ : ∃ p, p = w5.heap.size := ⟨_, rfl⟩
  have B36 := Lib.hid (bb B4.out (bb B5.out B6.out))
  have R6 := Lib.hid ((R2.out.below B3.out).below B36.out)
  have Q6 := Lib.hid ((Q2.out.below B3.out).below B36.out)
  have H6 := Lib.hid (bb H3.out B36.out)
  have L6 := Lib.hid (K4.out.below' (bb B5.out B6.out))
  rw [← ep1] at L6 ⊢
  rw [← ep2] at K6 ⊢
  have d0 := K6.out.cell 0; have d1 := K6.out.cell 1; have d2 := K6.out.cell 2; have d3 := K6.out.cell 3; have d4 := K6.out.cell 4; have d5 := K6.out.cell 5; have d6 := K6.out.cell 6; have d7 := K6.out.cell 7; have d8 := K6.out.cell 8
  have f0 := L6.out.cell 0; have f1 := L6.out.cell 1; have f2 := L6.out.cell 2; have f3 := L6.out.cell 3; have f4 := L6.out.cell 4; have f5 := L6.out.cell 5; have f6 := L6.out.cell 6; have f7 := L6.out.cell 7; have f8 := L6.out.cell 8
  simp only [List.getElem?_toArray, List.getElem?_cons_zero, List.getElem?_cons_succ] at d0 d1 d2 d3 d4 d5 d6 d7 d8 f0 f1 f2 f3 f4 f5 f6 f7 f8
  clear ep1 ep2
  go_wp2_with (first | (go_at_call 21; (with_reducible refine (SM.out _).mono ?_); rintro e w7 ⟨rfl, hb⟩; have H7 := Lib.hid (bb H6.out hb); have B7 := Lib.hid hb; clear hb d0 d1 d2 d3 d4 d5 d6 d7 d8 f0 f1 f2 f3 f4 f5 f6 f7 f8) | (go_at_call 22; (with_reducible refine (S1.out _ (by have := H7.out.size; omega)).mono ?_); rintro e w8 ⟨rfl, hb⟩; have H8 := Lib.hid (bb H7.out hb); have R8 := Lib.hid ((R6.out.below B7.out).below hb); have Q8 := Lib.hid ((Q6.out.below B7.out).below hb); clear hb) | (go_at_call 23; (with_reducible refine (S2.out _).mono ?_); rintro e w9 ⟨rfl, rfl⟩))
  go_loopw [15] (fun v15 wr => ∃ i : Nat, i ≤ n ∧ v15 = .int .i64 i ∧ Below w8.heap.size w8 wr) (fun v15 _ => n - (intOf v15).toNat)
  case atStart => exact ⟨0, by omega, rfl, Below.refl _ _⟩
  case round =>
    obtain ⟨i, hi, rfl, hb⟩ := hrel
    by_cases hlt : i < n
    · have h3 : (i : Int) < n := by omega
      obtain ⟨b1, eA, hb1, g⟩ := (R8.out.below hb) i hlt
      obtain ⟨b2, eA', hb2, g'⟩ := (Q8.out.below hb) i hlt
      obtain ⟨kd', x', z', v', c0', c1', c2', c3', t', esh⟩ := wA_shape l i
      rw [esh] at g g'
      rw [eA, eA']
      have d0 := g 0 (by omega); have d1 := g 1 (by omega); have d2 := g 2 (by omega); have d3 := g 3 (by omega); have d4 := g 4 (by omega); have d5 := g 5 (by omega); have d6 := g 6 (by omega); have d7 := g 7 (by omega); have d8 := g 8 (by omega)
      have f0 := g' 0 (by omega); have f1 := g' 1 (by omega); have f2 := g' 2 (by omega); have f3 := g' 3 (by omega); have f4 := g' 4 (by omega); have f5 := g' 5 (by omega); have f6 := g' 6 (by omega); have f7 := g' 7 (by omega); have f8 := g' 8 (by omega)
      simp only [List.getElem?_toArray, List.getElem?_cons_zero, List.getElem?_cons_succ, Nat.add_zero] at d0 d1 d2 d3 d4 d5 d6 d7 d8 f0 f1 f2 f3 f4 f5 f6 f7 f8
      have d0 := fun e => Ext.cell (w := wr) d0 e; have d1 := fun e => Ext.cell (w := wr) d1 e; have d2 := fun e => Ext.cell (w := wr) d2 e; have d3 := fun e => Ext.cell (w := wr) d3 e; have d4 := fun e => Ext.cell (w := wr) d4 e; have d5 := fun e => Ext.cell (w := wr) d5 e; have d6 := fun e => Ext.cell (w := wr) d6 e; have d7 := fun e => Ext.cell (w := wr) d7 e; have d8 := fun e => Ext.cell (w := wr) d8 e
      have f0 := fun e => Ext.cell (w := wr) f0 e; have f1 := fun e => Ext.cell (w := wr) f1 e; have f2 := fun e => Ext.cell (w := wr) f2 e; have f3 := fun e => Ext.cell (w := wr) f3 e; have f4 := fun e => Ext.cell (w := wr) f4 e; have f5 := fun e => Ext.cell (w := wr) f5 e; have f6 := fun e => Ext.cell (w := wr) f6 e; have f7 := fun e => Ext.cell (w := wr) f7 e; have f8 := fun e => Ext.cell (w := wr) f8 e
      have SS := Lib.hid (fun (e : Ext wr) => same_self kd' x' z' v' c0' c1' c2' c3' t' e.val)
      have HB := Lib.hid hb
      clear g g' esh eA eA' hb hb1 hb2
      go_upto_region 10 with fail
      refine wp_region_ext (by kernel_rfl) (by kernel_rfl) ?_
      repeat (first | go_big_quiet_step (first | (go_at_call 21; exact Calls.ext_of (SS.out _))) | quiet_step (first | (go_at_call 21; exact Calls.ext_of (SS.out _))))
      refine wpQuiet_nil ?_
      intro w10 hw'
      obtain ⟨⟨_, hb10⟩, rfl⟩ := hw'
      have HN := Lib.hid (bb HB.out hb10)
      clear hb10 d0 d1 d2 d3 d4 d5 d6 d7 d8 f0 f1 f2 f3 f4 f5 f6 f7 f8 SS
      go_wp2_with fail
      go_roundw
      case rel => exact ⟨i + 1, by omega, by go_num, HN.out⟩
      case measure => simp [intOf]; omega
    · obtain rfl : i = n := by omega
      have h3 : ¬ (i : Int) < i := by omega
      have HB := Lib.hid hb
      clear hb
      go_wp2_with fail
      go_ret
      exact ⟨rfl, bb H8.out HB.out⟩
end Go.Proofs.YtfpcgoioneanaaaGreatDoor

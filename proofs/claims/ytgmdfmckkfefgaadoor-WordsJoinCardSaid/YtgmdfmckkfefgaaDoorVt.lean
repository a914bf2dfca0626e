/- The words of a text, handed out one behind the other. -/
import Derived.Test.YtgmdfmckkfefgaaDoorRz
import Derived.Test.YtgmdfmckkfefgaaDoorMd
import Derived.Deep.CutRange
import Derived.LoopNIn
import Derived.LoopIn
import Derived.OrdersIn
namespace Go.Proofs.YtgmdfmckkfefgaaDoor
open Go Go.RowKit
/-- The cells of the k-th word; what is handed out as the k-th. -/
def wA (l : List Nat) (k : Nat) : Array Value := match ow l k with | some x => wfull x (beg l k) | none => wzero
theorem wA_some {l : List Nat} {k : Nat} {x : Wd} (h : ow l k = some x) : wA l k = wfull x (beg l k) := by unfold wA; rw [h]
theorem wA_none {l : List Nat} {k : Nat} (h : ow l k = none) : wA l k = wzero := by unfold wA; rw [h]
def encW (l : List Nat) (k : Nat) : Array Value := #[.agg (wA l k), .bool (ow l k).isSome]
theorem encW_some {l : List Nat} {k : Nat} {x : Wd} (h : ow l k = some x) : encW l k = #[.agg (wfull x (beg l k)), .bool true] := by unfold encW; rw [wA_some h, h]; rfl
theorem encW_none {l : List Nat} {k : Nat} (h : ow l k = none) : encW l k = #[.agg wzero, .bool false] := by unfold encW; rw [wA_none h, h]; rfl
theorem WPost.no {b p : Nat} {s : ByteArray} {o : Option Wd} {w : World} {e : Ending} {w' : World} (h : WPost b p s o w e w') (ho : o = none) : e = .returned (.tuple #[.agg wzero, .bool false]) ∧ w.grownBy w' (some b) ∧ Rd w' b s p := by
  obtain ⟨hg, ⟨_, h1, h2⟩ | ⟨x, h1, _⟩⟩ := h
  · exact ⟨h1, hg, h2⟩
  · rw [ho] at h1; cases h1
theorem WPost.yes {b p : Nat} {s : ByteArray} {o : Option Wd} {w : World} {e : Ending} {w' : World} {x : Wd} (h : WPost b p s o w e w') (ho : o = some x) : e = .returned (.tuple #[.agg (wfull x p), .bool true]) ∧ w.grownBy w' (some b) ∧ Rd w' b s (p + x.len) := by
  obtain ⟨hg, ⟨h1, _⟩ | ⟨y, h1, h2, h3⟩⟩ := h
  · rw [ho] at h1; cases h1
  · rw [ho] at h1; cases h1; exact ⟨h2, hg, h3⟩
/-- The k-th word, read where it is looked for. -/
theorem word_no (b k : Nat) (s : ByteArray) (l : List Nat) (hs : Str s l) (hl : l.length ≤ 60000) (ho : ow l k = none) (w : World) (h : Rd w b s (pos l k)) (hT : Tab w) (hb0 : b ≠ 0) :
    Calls Tryd.prog 13 #[.pointer (some ⟨b, 0, none⟩)] w fun e w' => e = .returned (.tuple #[.agg wzero, .bool false]) ∧ w.grownBy w' (some b) ∧ Rd w' b s (pos l (k + 1)) := by
  rw [pos_none ho]
  exact (word_any b (pos l k) s l hs hl (pos_le hs.lt k) w h hT hb0).mono fun e w' hp => hp.no ho
theorem word_yes (b k : Nat) (x : Wd) (s : ByteArray) (l : List Nat) (hs : Str s l) (hl : l.length ≤ 60000) (ho : ow l k = some x) (w : World) (h : Rd w b s (pos l k)) (hT : Tab w) (hb0 : b ≠ 0) :
    Calls Tryd.prog 13 #[.pointer (some ⟨b, 0, none⟩)] w fun e w' => e = .returned (.tuple #[.agg (wfull x (beg l k)), .bool true]) ∧ w.grownBy w' (some b) ∧ Rd w' b s (pos l (k + 1)) := by
  rw [pos_some ho]
  exact (word_any b (pos l k) s l hs hl (pos_le hs.lt k) w h hT hb0).mono fun e w' hp => hp.yes ho
set_option maxRecDepth 100000 in
set_option maxHeartbeats 8000000 in
theorem words_in (n : Nat) (hn : 6 ≤ n) (lp p b N : Nat) (s : ByteArray) (l : List Nat) (hs : Str s l) (hl : l.length ≤ 60000) (hN : stp l N = true) (hNl : N ≤ l.length) (hNb : ∀ j, j < N → stp l j = false) (hb0 : b ≠ 0) (hpb : p ≠ b) (hp0 : p ≠ 0)
    (T : Nat → Prop) (hTp : T p) (hTb : T b) (hT0 : T 0) (J Jx C : Nat → World → Prop) (hJ : Turns b J) (hJx : Turns b Jx) (hCT : ∀ s A j, J s A → T j → ¬ C j A) (hC2 : ∀ s A A' j, J s A → A.grownBy A' (some b) → C j A' → j < A.heap.size)
    (B : Nat) (hY : ∀ k W1, J k W1 → Rd W1 b s (pos l (k + 1)) → B ≤ W1.heap.size → k < N + 1 → YieldAt Fence.wide (n - 1) Tryd.prog lp (encW l k) W1 fun e W' =>
      (e = .returned (.bool true) ∧ J (k + 1) W' ∧ Keep C W1 W') ∨ (e = .returned (.bool false) ∧ Jx (k + 1) W'))
    (W : World) (hB : B ≤ W.heap.size) (hbox : Blk W p #[.pointer (some ⟨b, 0, none⟩)] 40) (hR : Rd W b s 0) (hTab : Tab W) (h0 : J 0 W) :
    CallsIn Fence.wide n Tryd.prog 14 #[.func (.yield lp) #[] #[], .pointer (some ⟨p, 0, none⟩)] W fun e W' => (∃ v, e = .returned v) ∧ (J (N + 1) W' ∨ ∃ k, k ≤ N + 1 ∧ Jx k W') := by
  have WN := Lib.hid (fun k ho W hW hTW => word_no b k s l hs hl ho W hW hTW hb0)
  have WY := Lib.hid (fun k x ho W hW hTW => word_yes b k x s l hs hl ho W hW hTW hb0)
  have HY := Lib.hid hY
  have H0 := Lib.hid h0
  have HBX := Lib.hid hbox
  have HR := Lib.hid hR
  have HTB := Lib.hid hTab
  have HSZ := Lib.hid hB
  have HJ := Lib.hid hJ
  have HCT := Lib.hid hCT
  have HC2 := Lib.hid hC2
  have HLT := Lib.hid hs.lt
  have HN := Lib.hid hN
  have HNB := Lib.hid hNb
  have TT := Lib.hid (And.intro hTp (And.intro hTb hT0))
  clear hY h0 hbox hR hTab hB hJ hJx hCT hC2 hs hN hNb hTp hTb hT0
  refine callsIn_of_wp Tryd.func14 rfl trivial ?_ rfl
  simp only [Tryd.ntmps14, List.size_toArray, List.length_cons, List.length_nil, Nat.reduceAdd, Nat.reduceSub, Array.replicate_succ, Array.replicate_zero, List.push_toArray, List.append_toArray, List.nil_append, List.cons_append]
  gi_wp2_with (fail)
  gi_loopw [3, 4] (fun _ _ wr => ∃ k : Nat, k ≤ N ∧ J k wr ∧ Blk wr p #[.pointer (some ⟨b, 0, none⟩)] 40 ∧ Rd wr b s (pos l k) ∧ Tab wr ∧ B ≤ wr.heap.size) (fun _ _ wr => l.length + 1 - posOf wr b)
  case atStart => exact ⟨0, by omega, H0.out, HBX.out, HR.out, HTB.out, HSZ.out⟩
  case round =>
    obtain ⟨k, hk, hJ, hbx, hR, hTb, hz⟩ := hrel
    have JJ := Lib.hid hJ
    have BX := Lib.hid hbx
    have RR := Lib.hid hR
    have TR := Lib.hid hTb
    have ZZ := Lib.hid hz
    have c0 := hbx.cell 0
    simp only [List.getElem?_toArray, List.getElem?_cons_zero] at c0
    clear hJ hbx hR hTb hz
    cases ho : ow l k with
    | none =>
      have HO := Lib.hid ho
      have hkN : k = N := by
        rcases Nat.lt_or_ge k N with h | h
        · have := HNB.out k h; rw [stp_none ho] at this; cases this
        · omega
      have WK := Lib.hid (WN.out k ho)
      have YK := Lib.hid (fun W1 h1 h2 h3 => by have := HY.out k W1 h1 h2 h3 (by omega); rw [encW_none ho] at this; exact this)
      clear ho
      gi_wp2_with (first | (refine ⟨trivial, fun _ => by omega, ?_⟩; gi_at_call 13; (with_reducible refine CallsIn.mono (callsIn_wide.2 (WK.out _ RR.out TR.out)) ?_); rintro e w1 ⟨rfl, hg, hR⟩; have G1 := Lib.hid hg; have R1 := Lib.hid hR; have X1 := Lib.hid (BX.out.grown hg (by simp; omega)); clear hg hR) | (refine wpListIn_store_whole rfl 33 (.tmp 3) (.tmp 8) rfl w1.heap.size wzero rfl rfl 33 _ (Blk.new w1 wzero 33) (by kernel_rfl) (by rfl) (by simp [Value.oneCell']) ?_; intro w2 hk2 hg2; have B2 := Lib.hid hk2; have E2 := Lib.hid hg2; clear hk2 hg2; have GR := Lib.hid (grown_new (grown_on G1.out (B1 w1 _)) E2.out G1.out.size); have J2 := Lib.hid (HJ.out k _ _ JJ.out GR.out); have R2 := Lib.hid ((R1.out.below (B1 w1 _)).grown E2.out (by have := R1.out.lt; omega)); have X2 := Lib.hid ((X1.out.alloc _).grown E2.out (by have := X1.out.lt; simp; omega)); have NC : RowKit.Hid (¬ C w1.heap.size w2) := Lib.hid (fun h => by have := HC2.out k wr w2 _ JJ.out GR.out h; have := G1.out.size; omega); have TB2 := Lib.hid (TR.out.grown GR.out hb0); have n0 := B2.out.cell 0; have n1 := B2.out.cell 1; have n2 := B2.out.cell 2; have n3 := B2.out.cell 3; have n4 := B2.out.cell 4; have n5 := B2.out.cell 5; have n6 := B2.out.cell 6; have n7 := B2.out.cell 7; have n8 := B2.out.cell 8; simp only [wzero, wfull, List.getElem?_toArray, List.getElem?_cons_zero, List.getElem?_cons_succ] at n0 n1 n2 n3 n4 n5 n6 n7 n8; obtain ⟨fn, tmps, assign, body, hy, hRd⟩ := YK.out w2 J2.out R2.out (Nat.le_trans ZZ.out GR.out.size); have HRD := Lib.hid hRd; clear hRd; simp only [wzero, wfull, Int.natCast_add] at hy))
      refine ⟨fun _ => by omega, HRD.out.mono ?_⟩
      clear hy c0 n0 n1 n2 n3 n4 n5 n6 n7 n8
      rintro e W3 (⟨rfl, hJ3, hk3⟩ | ⟨rfl, hJ3⟩)
      · have J3 := Lib.hid hJ3
        clear hJ3 hk3
        gi_wp2_with fail
        refine bodyPost_ret (results_none rfl _ _ _) rfl ?_
        exact ⟨⟨_, rfl⟩, .inl (by rw [← hkN]; exact J3.out)⟩
      · have J3 := Lib.hid hJ3
        clear hJ3
        gi_wp2_with fail
        refine bodyPost_ret (results_none rfl _ _ _) rfl ?_
        exact ⟨⟨_, rfl⟩, .inr ⟨k + 1, by omega, J3.out⟩⟩
    | some x =>
      have HO := Lib.hid ho
      have SX := Lib.hid (stp_some ho)
      have WK := Lib.hid (WY.out k x ho)
      have YK := Lib.hid (fun W1 h1 h2 h3 => by have := HY.out k W1 h1 h2 h3 (by omega); rw [encW_some ho] at this; exact this)
      obtain ⟨bg, ebg⟩ : ∃ bg, bg = beg l k := ⟨_, rfl⟩
      rw [← ebg] at WK YK
      clear ho ebg
      gi_wp2_with (first | (refine ⟨trivial, fun _ => by omega, ?_⟩; gi_at_call 13; (with_reducible refine CallsIn.mono (callsIn_wide.2 (WK.out _ RR.out TR.out)) ?_); rintro e w1 ⟨rfl, hg, hR⟩; have G1 := Lib.hid hg; have R1 := Lib.hid hR; have X1 := Lib.hid (BX.out.grown hg (by simp; omega)); clear hg hR) | (refine wpListIn_store_whole rfl 33 (.tmp 3) (.tmp 8) rfl w1.heap.size (wfull x bg) rfl rfl 33 _ (Blk.new w1 wzero 33) (by kernel_rfl) (by rfl) (by simp [Value.oneCell']) ?_; intro w2 hk2 hg2; have B2 := Lib.hid hk2; have E2 := Lib.hid hg2; clear hk2 hg2; have GR := Lib.hid (grown_new (grown_on G1.out (B1 w1 _)) E2.out G1.out.size); have J2 := Lib.hid (HJ.out k _ _ JJ.out GR.out); have R2 := Lib.hid ((R1.out.below (B1 w1 _)).grown E2.out (by have := R1.out.lt; omega)); have X2 := Lib.hid ((X1.out.alloc _).grown E2.out (by have := X1.out.lt; simp; omega)); have NC : RowKit.Hid (¬ C w1.heap.size w2) := Lib.hid (fun h => by have := HC2.out k wr w2 _ JJ.out GR.out h; have := G1.out.size; omega); have TB2 := Lib.hid (TR.out.grown GR.out hb0); have n0 := B2.out.cell 0; have n1 := B2.out.cell 1; have n2 := B2.out.cell 2; have n3 := B2.out.cell 3; have n4 := B2.out.cell 4; have n5 := B2.out.cell 5; have n6 := B2.out.cell 6; have n7 := B2.out.cell 7; have n8 := B2.out.cell 8; simp only [wzero, wfull, List.getElem?_toArray, List.getElem?_cons_zero, List.getElem?_cons_succ] at n0 n1 n2 n3 n4 n5 n6 n7 n8; obtain ⟨fn, tmps, assign, body, hy, hRd⟩ := YK.out w2 J2.out R2.out (Nat.le_trans ZZ.out GR.out.size); have HRD := Lib.hid hRd; clear hRd; simp only [wzero, wfull, Int.natCast_add] at hy))
      refine ⟨fun _ => by omega, HRD.out.mono ?_⟩
      clear hy c0 n0 n1 n2 n3 n4 n5 n6 n7 n8
      rintro e W3 (⟨rfl, hJ3, hk3⟩ | ⟨rfl, hJ3⟩)
      · have J3 := Lib.hid hJ3
        have keep : ∀ j, j < w2.heap.size → ¬ C j w2 → W3.heap[j]? = w2.heap[j]? := hk3.block
        have B3 : Blk W3 w1.heap.size (wfull x bg) 33 := (keep _ B2.out.lt NC.out).trans B2.out
        have X3 := Lib.hid (show Blk W3 p #[.pointer (some ⟨b, 0, none⟩)] 40 from (keep _ X2.out.lt (HCT.out k _ _ J2.out TT.out.1)).trans X2.out)
        have R3 := Lib.hid (show Rd W3 b s (pos l (k + 1)) from (keep _ R2.out.lt (HCT.out k _ _ J2.out TT.out.2.1)).trans R2.out)
        have Z3 := Lib.hid (Nat.le_trans (Nat.le_trans ZZ.out GR.out.size) hk3.size)
        have TB3 : RowKit.Hid (Tab W3) := Lib.hid (by
          obtain ⟨ev, h1, h2⟩ := TB2.out
          have hlt0 : 0 < w2.heap.size := World.block_lt_of_cell? _ _ h1
          exact ⟨ev, (World.cell?_of_block (a := ⟨0, 0, none⟩) (keep 0 hlt0 (HCT.out k _ _ J2.out TT.out.2.2))).trans h1, h2⟩)
        have m0 : W3.cell? ⟨w1.heap.size, 0, none⟩ = some (.int .i64 x.kind) := B3.cell 0
        clear hJ3 hk3 keep B3
        by_cases hk1 : x.kind = 1
        · have hkN : k = N := by
            rcases Nat.lt_or_ge k N with h | h
            · have h1 := HNB.out k h
              rw [SX.out, hk1] at h1
              cases h1
            · omega
          have tk : (x.kind == 1) = true := by rw [hk1]; rfl
          clear hk1
          gi_wp2_with fail
          refine bodyPost_ret (results_none rfl _ _ _) rfl ?_
          exact ⟨⟨_, rfl⟩, .inl (by rw [← hkN]; exact J3.out)⟩
        · have tk : (x.kind == 1) = false := by simpa using hk1
          have hlt : k < N := by
            rcases Nat.lt_or_ge k N with h | h
            · exact h
            · have e : k = N := by omega
              have h1 := HN.out
              rw [← e, SX.out, tk] at h1
              cases h1
          have PM := Lib.hid (pos_more HLT.out (HNB.out k hlt))
          clear hk1
          gi_wp2_with fail
          go_roundw
          case rel => exact ⟨k + 1, by omega, J3.out, X3.out, R3.out, TB3.out, Z3.out⟩
          case measure =>
            obtain ⟨_, _, _, _, h⟩ := PM.out
            have h2 := pos_le HLT.out (k + 1)
            rw [R3.out.pos, RR.out.pos]
            omega
      · have J3 := Lib.hid hJ3
        clear hJ3
        gi_wp2_with fail
        refine bodyPost_ret (results_none rfl _ _ _) rfl ?_
        exact ⟨⟨_, rfl⟩, .inr ⟨k + 1, by omega, J3.out⟩⟩
end Go.Proofs.YtgmdfmckkfefgaaDoor

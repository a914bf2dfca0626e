/- The text's end; a name; a sign. -/
import Derived.Test.YtgmdfmckkfefgaaDoorVl
namespace Go.Proofs.YtgmdfmckkfefgaaDoor
open Go Go.RowKit
/-- A word's cells, as they come of a try: without places. -/
abbrev wcells (kind : Int) (t : ByteArray) (lv : Int) : Array Value := #[.int .i64 kind, .int .i64 0, .int .i64 0, .string t, .int .i64 lv, .int .u64 0, .int .u64 0, .int .u64 0, .int .u64 0]
abbrev wzero : Array Value := #[.int .i64 0, .int .i64 0, .int .i64 0, .string ⟨#[]⟩, .int .i64 0, .int .u64 0, .int .u64 0, .int .u64 0, .int .u64 0]
theorem below_store {a w w' : World} {r : Nat} (h : Below a.heap.size a w) (hg : w.grownBy w' (some r)) (hr : a.heap.size ≤ r) : Below a.heap.size a w' := below_new h h.size hg hr
theorem end_yes (b k : Nat) (s : ByteArray) (hk : k = s.size) (w : World) (h : Rd w b s k) :
    Calls Tryd.prog 19 #[.pointer (some ⟨b, 0, none⟩)] w fun e w' => e = .returned (.tuple #[.agg (wcells 1 ⟨#[]⟩ 0), .bool true]) ∧ Below w.heap.size w w' := by
  subst hk
  have EE := Lib.hid (fun W hW => ends_yes b s W hW)
  have HH := Lib.hid (h.below (B1 w (.cells wzero 33)))
  clear h
  go_enter Tryd.func19, Tryd.ntmps19
  go_wp2_with (first | (go_at_call 26; (with_reducible refine (EE.out _ HH.out).mono ?_); rintro e w1 ⟨rfl, n, rfl⟩; have K1 := Lib.hid ((Blk.new w wzero 33).drewN (n := n)); have H1 := Lib.hid (bdrew (n := n) (B1 w (.cells wzero 33)))) | (refine wpList_store_whole rfl 33 (.tmp 2) (.tmp 10) rfl w.heap.size (wcells 1 ⟨#[]⟩ 0) rfl rfl 33 _ K1.out (by kernel_rfl) (by rfl) (by simp [Value.oneCell']) ?_; intro w5 hk2 hg2; have K5 := Lib.hid hk2; have G5 := Lib.hid hg2; clear hk2 hg2))
  exact bodyPost_ret (results_cell_tmp rfl _ _ w.heap.size 33 _ _ _ rfl rfl K5.out Tryd.underlying33 rfl (by kernel_rfl)) rfl ⟨rfl, below_store H1.out G5.out (Nat.le_refl _)⟩
theorem end_no (b k : Nat) (s : ByteArray) (hk : k < s.size) (w : World) (h : Rd w b s k) :
    Calls Tryd.prog 19 #[.pointer (some ⟨b, 0, none⟩)] w fun e w' => e = .returned (.tuple #[.agg wzero, .bool false]) ∧ Below w.heap.size w w' := by
  have EE := Lib.hid (fun W hW => ends_no b k s W hW hk)
  have HH := Lib.hid (h.below (B1 w (.cells wzero 33)))
  clear h
  go_enter Tryd.func19, Tryd.ntmps19
  go_wp2_with (first | (go_at_call 26; (with_reducible refine (EE.out _ HH.out).mono ?_); rintro e w1 ⟨rfl, n, rfl⟩; have K1 := Lib.hid ((Blk.new w wzero 33).drewN (n := n)); have H1 := Lib.hid (bdrew (n := n) (B1 w (.cells wzero 33)))) | (refine wpList_store_whole rfl 33 (.tmp 2) (.tmp 9) rfl w.heap.size wzero rfl rfl 33 _ K1.out (by kernel_rfl) (by rfl) (by simp [Value.oneCell']) ?_; intro w5 hk2 hg2; have K5 := Lib.hid hk2; have G5 := Lib.hid hg2; clear hk2 hg2))
  exact bodyPost_ret (results_cell_tmp rfl _ _ w.heap.size 33 _ _ _ rfl rfl K5.out Tryd.underlying33 rfl (by kernel_rfl)) rfl ⟨rfl, below_store H1.out G5.out (Nat.le_refl _)⟩
theorem name_no (b k : Nat) (s : ByteArray) (l : List Nat) (hs : Str s l) (hk : k ≤ l.length) (hi : ∀ c r, l.drop k = c :: r → ltr c = false) (w : World) (h : Rd w b s k) :
    Calls Tryd.prog 20 #[.pointer (some ⟨b, 0, none⟩)] w fun e w' => e = .returned (.tuple #[.agg wzero, .bool false]) ∧ Below w.heap.size w w' := by
  have hz := hs.size
  have EE : RowKit.Hid (∀ W, Rd W b s k → Calls Tryd.prog 24 #[.pointer (some ⟨b, 0, none⟩), .func (.func 27) #[] #[]] W fun e w' => e = .returned (.bool false) ∧ ∃ n, w' = W.drewN n) := Lib.hid (fun W hW => by
    by_cases hlt : k < l.length
    · have := sees_ltr_at b k (l.getD k 0) s W hW (by omega) (hs.byte k)
      rw [hi (l.getD k 0) (l.drop (k + 1)) (by rw [List.drop_eq_getElem_cons hlt]; simp [List.getD, List.getElem?_eq_getElem hlt])] at this
      exact this
    · have e : k = s.size := by omega
      rw [e] at hW
      exact sees_ltr_no b s W hW)
  have HH := Lib.hid (h.below (B1 w (.cells wzero 33)))
  clear h hi hs hz
  go_enter Tryd.func20, Tryd.ntmps20
  go_wp2_with (first | (go_at_call 24; (with_reducible refine (EE.out _ HH.out).mono ?_); rintro e w1 ⟨rfl, n, rfl⟩; have K1 := Lib.hid ((Blk.new w wzero 33).drewN (n := n)); have H1 := Lib.hid (bdrew (n := n) (B1 w (.cells wzero 33)))) | (refine wpList_store_whole rfl 33 (.tmp 2) (.tmp 10) rfl w.heap.size wzero rfl rfl 33 _ K1.out (by kernel_rfl) (by rfl) (by simp [Value.oneCell']) ?_; intro w5 hk2 hg2; have K5 := Lib.hid hk2; have G5 := Lib.hid hg2; clear hk2 hg2))
  exact bodyPost_ret (results_cell_tmp rfl _ _ w.heap.size 33 _ _ _ rfl rfl K5.out Tryd.underlying33 rfl (by kernel_rfl)) rfl ⟨rfl, below_store H1.out G5.out (Nat.le_refl _)⟩
theorem level_any (b k n : Nat) (v : Int) (s : ByteArray) (l : List Nat) (hs : Str s l) (hl : l.length ≤ 60000) (hk : k ≤ l.length) (hi : lvR (l.drop k) = (v, n)) (w : World) (h : Rd w b s k) :
    Calls Tryd.prog 30 #[.pointer (some ⟨b, 0, none⟩)] w fun e w' => e = .returned (.int .i64 v) ∧ w.grownBy w' (some b) ∧ Rd w' b s (k + n) := by
  by_cases hn : n = 0
  · subst hn
    have hv : v = -1 := by
      unfold lvR at hi
      repeat' split at hi
      all_goals first
        | exact (congrArg Prod.fst hi).symm
        | (have := congrArg Prod.snd hi; simp at this; done)
        | (have := congrArg Prod.snd hi; simp at this; omega)
    subst hv
    exact level_no b k s l hs hl hk hi w h
  · exact level_yes b k n v s l hs hl hk hn hi w h
set_option maxRecDepth 100000 in
set_option maxHeartbeats 4000000 in
theorem name_yes (b k n m : Nat) (v : Int) (s : ByteArray) (l : List Nat) (hs : Str s l) (hl : l.length ≤ 60000) (hk : k < l.length) (hc : ltr (l.getD k 0) = true) (en : n = lead inm (l.drop k)) (hv : lvR (l.drop (k + n)) = (v, m)) (w : World) (h : Rd w b s k) :
    Calls Tryd.prog 20 #[.pointer (some ⟨b, 0, none⟩)] w fun e w' => e = .returned (.tuple #[.agg (wcells 2 (s.extract k (k + n)) v), .bool true]) ∧ w.grownBy w' (some b) ∧ Rd w' b s (k + n + m) := by
  have hbw := h.lt
  have hz := hs.size
  have hle := lead_le inm (l.drop k)
  rw [← en, List.length_drop] at hle
  have EE := Lib.hid (fun W hW => by have := sees_ltr_at b k (l.getD k 0) s W hW (by omega) (hs.byte k); rw [hc] at this; exact this)
  have RW := Lib.hid (fun W hW => by have := row_inm b k s l hs hl (by omega) W hW; rw [← en] at this; exact this)
  have LV := Lib.hid (fun W hW => level_any b (k + n) m v s l hs hl (by omega) hv W hW)
  have HH := Lib.hid (h.below (B1 w (.cells wzero 33)))
  obtain ⟨t, et⟩ : ∃ t, t = s.extract k (k + n) := ⟨_, rfl⟩
  rw [← et] at RW ⊢
  clear hs hl hk hc en hv h hz hle et
  go_enter Tryd.func20, Tryd.ntmps20
  go_wp2_with (first | (go_at_call 24; (with_reducible refine (EE.out _ HH.out).mono ?_); rintro e w1 ⟨rfl, n1, rfl⟩; have K1 := Lib.hid ((Blk.new w wzero 33).drewN (n := n1)); have H1 := Lib.hid (bdrew (n := n1) (B1 w (.cells wzero 33)))) | (go_at_call 28; (with_reducible refine (RW.out _ (HH.out.drewN (n := n1))).mono ?_); rintro e w2 ⟨rfl, hg, hR⟩; have G2 := Lib.hid (grown_trans (below_is_grown H1.out (some b)) hg); have R2 := Lib.hid hR; have K2 := Lib.hid (K1.out.grown hg (by simp; omega)); have KA := Lib.hid (K2.out.alloc (.cells wzero 33)); clear hg hR) | (refine wpList_store_whole rfl 33 (.tmp 4) (.tmp 15) rfl w2.heap.size (wcells 2 t 0) rfl rfl 33 _ (Blk.new w2 wzero 33) (by kernel_rfl) (by rfl) (by simp [Value.oneCell']) ?_; intro w3 hk2 hg2; have B3 := Lib.hid hk2; have K3 := Lib.hid (KA.out.grown hg2 (by have := K2.out.lt; simp; omega)); have G3 := Lib.hid (grown_new (grown_on G2.out (B1 w2 _)) hg2 (by have := G2.out.size; omega)); have R3 := Lib.hid ((R2.out.below (B1 w2 _)).grown hg2 (by have := R2.out.lt; omega)); have N3 := Lib.hid (show w.heap.size < w2.heap.size from K2.out.lt); clear hk2 hg2) | (go_at_call 30; (with_reducible refine (LV.out _ R3.out).mono ?_); rintro e w4 ⟨rfl, hg, hR⟩; have B4 := Lib.hid (B3.out.grown hg (by have := R2.out.lt; simp; omega)); have K4 := Lib.hid (K3.out.grown hg (by simp; omega)); have G4 := Lib.hid (grown_trans G3.out hg); have R4 := Lib.hid hR; have N4 := Lib.hid (show w2.heap.size < w4.heap.size from B4.out.lt); clear hg hR) | (refine wpList_store_blk rfl 3 (.tmp 18) (.tmp 17) rfl w2.heap.size 4 _ rfl rfl rfl 33 _ B4.out (by simp) (by kernel_rfl) (wcells 2 t v) rfl ?_; intro w5 hk2 hg2; have B5 := Lib.hid hk2; have K5 := Lib.hid (K4.out.grown hg2 (by have := N3.out; simp; omega)); have G5 := Lib.hid (grown_new G4.out hg2 (by have := N3.out; omega)); have R5 := Lib.hid (R4.out.grown hg2 (by have := N3.out; omega)); have d0 := hk2.cell 0; have d1 := hk2.cell 1; have d2 := hk2.cell 2; have d3 := hk2.cell 3; have d4 := hk2.cell 4; have d5 := hk2.cell 5; have d6 := hk2.cell 6; have d7 := hk2.cell 7; have d8 := hk2.cell 8; simp only [wcells, List.getElem?_toArray, List.getElem?_cons_zero, List.getElem?_cons_succ] at d0 d1 d2 d3 d4 d5 d6 d7 d8; clear hk2 hg2) | (refine wpList_store_whole rfl 33 (.tmp 2) (.tmp 19) rfl w.heap.size (wcells 2 t v) rfl rfl 33 _ K5.out (by kernel_rfl) (by rfl) (by simp [Value.oneCell']) ?_; intro w6 hk2 hg2; have K6 := Lib.hid hk2; have G6 := Lib.hid hg2; clear hk2 hg2))
  exact bodyPost_ret (results_cell_tmp rfl _ _ w.heap.size 33 _ _ _ rfl rfl K6.out Tryd.underlying33 rfl (by kernel_rfl)) rfl ⟨rfl, grown_new G5.out G6.out (Nat.le_refl _), R5.out.grown G6.out (by omega)⟩
end Go.Proofs.YtgmdfmckkfefgaaDoor

/- An item of a class, read. -/
import Derived.Test.YtgmdfmckkfefgaaDoorVj
namespace Go.Proofs.YtgmdfmckkfefgaaDoor
open Go Go.RowKit
abbrev cval (c : Nat → Bool) : Value := .agg #[.int .u64 (cw c 0), .int .u64 (cw c 1), .int .u64 (cw c 2), .int .u64 (cw c 3)]
theorem mem_rng (x : Nat) : mem [x] = rng x (x + 1) := by
  funext i
  simp only [mem, rng]
  rw [Bool.eq_iff_iff]
  simp
  omega
theorem isPre_one (c : Nat) (l : List Nat) : isPre [c] l = decide (l.head? = some c) := by
  cases l with
  | nil => simp [isPre]
  | cons d r => rw [Bool.eq_iff_iff]; simp [isPre]; exact eq_comm
theorem of_one (x : Nat) (hx : x < 256) (b cap : Nat) (w : World) (hb : b < w.heap.size) (h : w.cell? ⟨b, 0, none⟩ = some (.int .u8 x)) :
    Calls Tryd.prog 39 #[.slice (some ⟨b, 0, none⟩) 1 cap] w fun e w' => e = .returned (cval (rng x (x + 1))) ∧ Below w.heap.size w w' := by
  have := of_cells b 0 cap [x] w (by simp [maxLen]) (fun j hj => by
    have : j = 0 := by simpa using hj
    subst this
    simpa using hx) hb (fun j hj => by
    have : j = 0 := by simpa using hj
    subst this
    simpa using h)
  rw [mem_rng] at this
  exact this
theorem heap_new_cell (w : World) (v : Value) (T : TypeId) : (w.alloc (.cells #[v] T)).cell? ⟨w.heap.size, 0, none⟩ = some v := (Blk.new w #[v] T).cell 0
theorem str45 : Str ⟨#[45]⟩ [45] := rfl
theorem take1_yes (c b k : Nat) (t s : ByteArray) (ht : Str t [c]) (l : List Nat) (hs : Str s l) (hl : l.length ≤ 60000) (hk : k ≤ l.length) (hp : (l.drop k).head? = some c) (w : World) (h : Rd w b s k) :
    Calls Tryd.prog 17 #[.pointer (some ⟨b, 0, none⟩), .string t] w fun e w' => e = .returned (.bool true) ∧ w.grownBy w' (some b) ∧ Rd w' b s (k + 1) := by
  have q := take_yes b k s t l [c] hs ht hl (by simp) hk (by rw [isPre_one]; simpa using hp) w h
  rw [show ([c] : List Nat).length = 1 from rfl] at q
  exact q
theorem take1_no (c b k : Nat) (t s : ByteArray) (ht : Str t [c]) (l : List Nat) (hs : Str s l) (hk : k ≤ l.length) (hp : (l.drop k).head? ≠ some c) (w : World) (h : Rd w b s k) :
    Calls Tryd.prog 17 #[.pointer (some ⟨b, 0, none⟩), .string t] w fun e w' => e = .returned (.bool false) ∧ Below w.heap.size w w' ∧ Rd w' b s k :=
  (take_no b k s t l [c] hs ht hk (by rw [isPre_one]; simpa using hp) w h).mono fun _ _ ⟨he, n, hw⟩ => ⟨he, by rw [hw]; exact bdrew (Below.refl _ _), by rw [hw]; exact h⟩
/-- What a try has left: the reader somewhere. -/
def Some' (w w' : World) (b : Nat) (s : ByteArray) (m : Nat) : Prop := w.grownBy w' (some b) ∧ ∃ j, j ≤ m ∧ Rd w' b s j
set_option maxRecDepth 100000 in
set_option maxHeartbeats 4000000 in
theorem item_no (b k : Nat) (s : ByteArray) (l : List Nat) (hs : Str s l) (hl : l.length ≤ 60000) (hk : k ≤ l.length) (hi : item (l.drop k) = none) (w : World) (h : Rd w b s k) (hT : Tab w) (hb0 : b ≠ 0) :
    Calls Tryd.prog 32 #[.pointer (some ⟨b, 0, none⟩)] w fun e w' => e = .returned (.tuple #[.agg #[.int .u64 0, .int .u64 0, .int .u64 0, .int .u64 0], .bool false]) ∧ Some' w w' b s l.length := by
  have hbw := h.lt
  have CN := Lib.hid (fun j hj hr W hW hTW => cread_no b j 2 s l hs hl hj hr W hW hTW)
  have CY := Lib.hid (fun j x n hj hr W hW hTW => cread_yes b j x n 2 s l hs hl hj hr W hW hTW)
  have TY := Lib.hid (fun j hj hp W hW => take1_yes 45 b j ⟨#[45]⟩ s str45 l hs hl hj hp W hW)
  have HH := Lib.hid h
  have HT := Lib.hid hT
  have LT := Lib.hid (hs.lt)
  cases hr : rd 2 (l.drop k) with
  | none =>
    have HR := Lib.hid hr
    clear hi hr h hT
    go_enter Tryd.func32, Tryd.ntmps32
    go_wp2_with (first | (go_at_call 31; (with_reducible refine (CN.out k hk HR.out _ (HH.out.below (B1 w _)) (HT.out.below (B1 w _))).mono ?_); rintro e w1 ⟨rfl, hb⟩; have K1 := Lib.hid ((Blk.new w _ _).below' hb); have R1 := Lib.hid ((HH.out.below (B1 w _)).below hb); have H1 := Lib.hid (bb (B1 w _) hb); clear hb) | (refine wpList_store_whole rfl 31 (.tmp 2) (.tmp 16) rfl w.heap.size #[.int .u64 0, .int .u64 0, .int .u64 0, .int .u64 0] rfl rfl 31 _ K1.out (by kernel_rfl) (by rfl) (by simp [Value.oneCell']) ?_; intro w2 hk2 hg2; have K2 := Lib.hid hk2; have G2 := Lib.hid hg2; clear hk2 hg2))
    exact bodyPost_ret (results_cell_tmp rfl _ _ w.heap.size 31 _ _ _ rfl rfl K2.out Tryd.underlying31 rfl (by kernel_rfl)) rfl ⟨rfl, below_is_grown (below_new H1.out H1.out.size G2.out (Nat.le_refl _)) _, k, hk, R1.out.grown G2.out (by omega)⟩
  | some xn =>
    obtain ⟨x, n⟩ := xn
    obtain ⟨_, n1, n2, hx, _, _⟩ := rd_ok (fun y hy => hs.lt y (List.mem_of_mem_drop hy)) hr
    rw [List.length_drop] at n2
    have hi2 := hi
    unfold item at hi2
    rw [hr] at hi2
    simp only at hi2
    by_cases h45 : ((l.drop k).drop n).head? = some 45
    · rw [if_pos h45] at hi2
      have h45' : (l.drop (k + n)).head? = some 45 := by rw [← List.drop_drop]; exact h45
      have hr2 : rd 2 (l.drop (k + n + 1)) = none := by
        rw [List.drop_drop, ← Nat.add_assoc] at hi2
        cases h2 : rd 2 (l.drop (k + n + 1)) with
        | none => rfl
        | some y => rw [h2] at hi2; cases hi2
      have hlt : k + n < l.length := by
        apply Nat.lt_of_not_le
        intro hge
        rw [List.drop_of_length_le hge] at h45'
        cases h45'
      have HR := Lib.hid hr
      have HR2 := Lib.hid hr2
      have H45 := Lib.hid h45'
      have e1 : k + n ≤ l.length := by omega
      have e2 : k + n + 1 ≤ l.length := by omega
      clear hi hi2 hr hr2 h45 h45' h hT
      go_enter Tryd.func32, Tryd.ntmps32
      go_wp2_with (first | (go_at_call 31; (with_reducible refine (CY.out k x n hk HR.out _ (HH.out.below (B1 w _)) (HT.out.below (B1 w _))).mono ?_); rintro e w1 ⟨rfl, hg, hR⟩; have K1 := Lib.hid ((Blk.new w _ _).grown hg (by simp; omega)); have R1 := Lib.hid hR; have T1 := Lib.hid ((HT.out.below (B1 w _)).grown hg hb0); have G1 := Lib.hid (grown_trans (below_is_grown (B1 w _) _) hg); clear hg hR) | (go_at_call 17; (with_reducible refine (TY.out (k + n) e1 H45.out _ R1.out).mono ?_); rintro e w2 ⟨rfl, hg, hR⟩; have K2 := Lib.hid (K1.out.grown hg (by simp; omega)); have R2 := Lib.hid hR; have T2 := Lib.hid (T1.out.grown hg hb0); have G2 := Lib.hid (grown_trans G1.out hg); clear hg hR) | (go_at_call 31; (with_reducible refine (CN.out (k + n + 1) e2 HR2.out _ R2.out T2.out).mono ?_); rintro e w3 ⟨rfl, hb⟩; have K3 := Lib.hid (K2.out.below' hb); have R3 := Lib.hid (R2.out.below hb); have G3 := Lib.hid (grown_on G2.out hb); clear hb) | (refine wpList_store_whole rfl 31 (.tmp 2) (.tmp 34) rfl w.heap.size #[.int .u64 0, .int .u64 0, .int .u64 0, .int .u64 0] rfl rfl 31 _ K3.out (by kernel_rfl) (by rfl) (by simp [Value.oneCell']) ?_; intro w4 hk2 hg2; have K4 := Lib.hid hk2; have G4 := Lib.hid hg2; clear hk2 hg2))
      exact bodyPost_ret (results_cell_tmp rfl _ _ w.heap.size 31 _ _ _ rfl rfl K4.out Tryd.underlying31 rfl (by kernel_rfl)) rfl ⟨rfl, grown_new G3.out G4.out (Nat.le_refl _), _, e2, R3.out.grown G4.out (by omega)⟩
    · rw [if_neg h45] at hi2
      cases hi2
set_option maxRecDepth 100000 in
set_option maxHeartbeats 4000000 in
theorem item_yes (b k u v m : Nat) (s : ByteArray) (l : List Nat) (hs : Str s l) (hl : l.length ≤ 60000) (hk : k ≤ l.length) (hi : item (l.drop k) = some ((u, v), m)) (w : World) (h : Rd w b s k) (hT : Tab w) (hb0 : b ≠ 0) :
    Calls Tryd.prog 32 #[.pointer (some ⟨b, 0, none⟩)] w fun e w' => e = .returned (.tuple #[cval (rng u (v + 1)), .bool true]) ∧ w.grownBy w' (some b) ∧ Rd w' b s (k + m) := by
  have hbw := h.lt
  have CY := Lib.hid (fun j x n hj hr W hW hTW => cread_yes b j x n 2 s l hs hl hj hr W hW hTW)
  have TY := Lib.hid (fun j hj hp W hW => take1_yes 45 b j ⟨#[45]⟩ s str45 l hs hl hj hp W hW)
  have TN := Lib.hid (fun j hj hp W hW => take1_no 45 b j ⟨#[45]⟩ s str45 l hs hj hp W hW)
  have HH := Lib.hid h
  have HT := Lib.hid hT
  cases hr : rd 2 (l.drop k) with
  | none => unfold item at hi; rw [hr] at hi; cases hi
  | some xn =>
    obtain ⟨x, n⟩ := xn
    obtain ⟨_, n1, n2, hx, _, _⟩ := rd_ok (fun y hy => hs.lt y (List.mem_of_mem_drop hy)) hr
    rw [List.length_drop] at n2
    unfold item at hi
    rw [hr] at hi
    simp only at hi
    have HR := Lib.hid hr
    have e1 : k + n ≤ l.length := by omega
    by_cases h45 : ((l.drop k).drop n).head? = some 45
    · rw [if_pos h45] at hi
      have h45' : (l.drop (k + n)).head? = some 45 := by rw [← List.drop_drop]; exact h45
      rw [List.drop_drop, ← Nat.add_assoc] at hi
      cases h2 : rd 2 (l.drop (k + n + 1)) with
      | none => rw [h2] at hi; cases hi
      | some yz =>
        obtain ⟨y, z⟩ := yz
        obtain ⟨_, m1, m2, hy, _, _⟩ := rd_ok (fun y hy => hs.lt y (List.mem_of_mem_drop hy)) h2
        rw [h2] at hi
        simp only [Option.map_some, Option.some.injEq, Prod.mk.injEq] at hi
        obtain ⟨⟨rfl, rfl⟩, rfl⟩ := hi
        have hlt : k + n < l.length := by
          apply Nat.lt_of_not_le
          intro hge
          rw [List.drop_of_length_le hge] at h45'
          cases h45'
        have HR2 := Lib.hid h2
        have H45 := Lib.hid h45'
        have RG := Lib.hid (fun W => range_any x y W hx hy)
        obtain ⟨c, ec⟩ : ∃ c, c = rng x (y + 1) := ⟨_, rfl⟩
        rw [← ec] at RG ⊢
        have e2 : k + n + 1 ≤ l.length := by omega
        have e3 : k + (n + 1 + z) = k + n + 1 + z := by omega
        rw [e3]
        clear hr h45 h45' h2 h hT hs ec e3
        go_enter Tryd.func32, Tryd.ntmps32
        go_wp2_with (first | (go_at_call 31; (with_reducible refine (CY.out k x n hk HR.out _ (HH.out.below (B1 w _)) (HT.out.below (B1 w _))).mono ?_); rintro e w1 ⟨rfl, hg, hR⟩; have K1 := Lib.hid ((Blk.new w _ _).grown hg (by simp; omega)); have R1 := Lib.hid hR; have T1 := Lib.hid ((HT.out.below (B1 w _)).grown hg hb0); have G1 := Lib.hid (grown_trans (below_is_grown (B1 w _) _) hg); clear hg hR) | (go_at_call 17; (with_reducible refine (TY.out (k + n) e1 H45.out _ R1.out).mono ?_); rintro e w2 ⟨rfl, hg, hR⟩; have K2 := Lib.hid (K1.out.grown hg (by simp; omega)); have R2 := Lib.hid hR; have T2 := Lib.hid (T1.out.grown hg hb0); have G2 := Lib.hid (grown_trans G1.out hg); clear hg hR) | (go_at_call 31; (with_reducible refine (CY.out (k + n + 1) y z e2 HR2.out _ R2.out T2.out).mono ?_); rintro e w3 ⟨rfl, hg, hR⟩; have K3 := Lib.hid (K2.out.grown hg (by simp; omega)); have R3 := Lib.hid hR; have G3 := Lib.hid (grown_trans G2.out hg); clear hg hR) | (go_at_call 40; (with_reducible refine (RG.out _).mono ?_); rintro e w4 ⟨rfl, hb⟩; have K4 := Lib.hid (K3.out.below' hb); have R4 := Lib.hid (R3.out.below hb); have G4 := Lib.hid (grown_on G3.out hb); clear hb) | (refine wpList_store_whole rfl 31 (.tmp 2) (.tmp 37) rfl w.heap.size #[.int .u64 (cw c 0), .int .u64 (cw c 1), .int .u64 (cw c 2), .int .u64 (cw c 3)] rfl rfl 31 _ K4.out (by kernel_rfl) (by rfl) (by simp [Value.oneCell']) ?_; intro w5 hk2 hg2; have K5 := Lib.hid hk2; have G5 := Lib.hid hg2; clear hk2 hg2))
        exact bodyPost_ret (results_cell_tmp rfl _ _ w.heap.size 31 _ _ _ rfl rfl K5.out Tryd.underlying31 rfl (by kernel_rfl)) rfl ⟨rfl, grown_new G4.out G5.out (Nat.le_refl _), R4.out.grown G5.out (by omega)⟩
    · rw [if_neg h45] at hi
      simp only [Option.some.injEq, Prod.mk.injEq] at hi
      obtain ⟨⟨rfl, rfl⟩, rfl⟩ := hi
      have h45' : (l.drop (k + n)).head? ≠ some 45 := by rw [← List.drop_drop]; exact h45
      have H45 := Lib.hid h45'
      have OF := Lib.hid (fun B cap W hB hc => of_one x hx B cap W hB hc)
      obtain ⟨c, ec⟩ : ∃ c, c = rng x (x + 1) := ⟨_, rfl⟩
      rw [← ec] at OF ⊢
      clear hr h45 h45' h hT hs ec
      go_enter Tryd.func32, Tryd.ntmps32
      go_wp2_with (first | (go_at_call 31; (with_reducible refine (CY.out k x n hk HR.out _ (HH.out.below (B1 w _)) (HT.out.below (B1 w _))).mono ?_); rintro e w1 ⟨rfl, hg, hR⟩; have K1 := Lib.hid ((Blk.new w _ _).grown hg (by simp; omega)); have R1 := Lib.hid hR; have T1 := Lib.hid ((HT.out.below (B1 w _)).grown hg hb0); have G1 := Lib.hid (grown_trans (below_is_grown (B1 w _) _) hg); clear hg hR) | (go_at_call 17; (with_reducible refine (TN.out (k + n) e1 H45.out _ R1.out).mono ?_); rintro e w2 ⟨rfl, hb, hR⟩; have K2 := Lib.hid (K1.out.below' hb); have R2 := Lib.hid hR; have G2 := Lib.hid (grown_on G1.out hb); clear hb hR) | (go_at_call 39; (with_reducible refine (OF.out _ _ _ (by simp) (heap_new_cell _ _ _)).mono ?_); rintro e w4 ⟨rfl, hb⟩; have K4 := Lib.hid ((K2.out.alloc _).below' hb); have R4 := Lib.hid ((R2.out.below (B1 _ _)).below hb); have G4 := Lib.hid (grown_on (grown_on G2.out (B1 _ _)) hb); clear hb) | (refine wpList_store_whole rfl 31 (.tmp 2) (.tmp 24) rfl w.heap.size #[.int .u64 (cw c 0), .int .u64 (cw c 1), .int .u64 (cw c 2), .int .u64 (cw c 3)] rfl rfl 31 _ K4.out (by kernel_rfl) (by rfl) (by simp [Value.oneCell']) ?_; intro w5 hk2 hg2; have K5 := Lib.hid hk2; have G5 := Lib.hid hg2; clear hk2 hg2))
      exact bodyPost_ret (results_cell_tmp rfl _ _ w.heap.size 31 _ _ _ rfl rfl K5.out Tryd.underlying31 rfl (by kernel_rfl)) rfl ⟨rfl, grown_new G4.out G5.out (Nat.le_refl _), R4.out.grown G5.out (by omega)⟩
end Go.Proofs.YtgmdfmckkfefgaaDoor

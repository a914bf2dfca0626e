/- Skip and Next. -/
import Derived.Test.YtgmdfmckkfefgaaDoorVu
namespace Go.Proofs.YtgmdfmckkfefgaaDoor
open Go Go.RowKit
theorem Skip_in (k : Nat) (s : ByteArray) (l : List Nat) (hs : Str s l) (hl : l.length ≤ 60000) (hk : k ≤ l.length) (w : World) (hw0 : 0 < w.heap.size) :
    Calls Tryd.prog 7 #[.string s, .int .i64 k] w fun e w' => e = .returned (.int .i64 (k + sk false (l.drop k) : Nat)) ∧ Below w.heap.size w w' := by
  have hz := hs.size
  have RA := Lib.hid (fun W => readerAt_yes s k (by omega) W)
  have SK := Lib.hid (fun b W hW => skip_any b k s l hs hl hk W hW)
  obtain ⟨p, ep⟩ : ∃ p, p = k + sk false (l.drop k) := ⟨_, rfl⟩
  rw [← ep] at SK ⊢
  clear hs hl hk hz ep
  go_enter Tryd.func7, Tryd.ntmps7
  go_wp2_with (first | (go_at_call 11; (with_reducible refine (RA.out _).mono ?_); rintro e w1 ⟨b, rfl, hb, hR, hB⟩; have LB := Lib.hid hb; have R1 := Lib.hid hR; have B1' := Lib.hid hB; clear hb hR hB) | (go_at_call 12; (with_reducible refine (SK.out _ _ R1.out).mono ?_); rintro e w2 ⟨rfl, hg, hR⟩; have R2 := Lib.hid hR; have G2 := Lib.hid hg; have c1 := hR.cells.2; clear hg hR))
  go_ret
  exact ⟨rfl, below_new B1'.out B1'.out.size G2.out LB.out⟩
theorem Skip_out (a : Int) (s : ByteArray) (ha : a < 0 ∨ (s.size : Int) < a) (w : World) :
    Calls Tryd.prog 7 #[.string s, .int .i64 a] w fun e w' => e = .returned (.int .i64 a) ∧ Below w.heap.size w w' := by
  have RA := Lib.hid (fun W => readerAt_no s a ha W)
  clear ha
  go_enter Tryd.func7, Tryd.ntmps7
  go_wp2_with (go_at_call 11; (with_reducible refine (RA.out _).mono ?_); rintro e w1 ⟨rfl, hB⟩; have B1' := Lib.hid hB; clear hB)
  go_ret
  exact ⟨rfl, B1'.out⟩
theorem Next_no (k : Nat) (s : ByteArray) (l : List Nat) (hs : Str s l) (hl : l.length ≤ 60000) (hk : k ≤ l.length) (ho : wd (l.drop (k + sk false (l.drop k))) = none) (w : World) (hT : Tab w) :
    Calls Tryd.prog 8 #[.string s, .int .i64 k] w fun e w' => e = .returned (.tuple #[.agg wzero, .bool false]) ∧ Below w.heap.size w w' := by
  have hz := hs.size
  have hw0 : 0 < w.heap.size := by obtain ⟨ev, h1, _⟩ := hT; exact World.block_lt_of_cell? _ _ h1
  have RA := Lib.hid (fun W => readerAt_yes s k (by omega) W)
  have WA := Lib.hid (fun b hb W hW hTW => (word_any b k s l hs hl hk W hW hTW hb).mono fun e w' h => WPost.no h ho)
  have HT := Lib.hid (hT.below (B1 w (.cells wzero 33)))
  have K0 := Lib.hid (Blk.new w wzero 33)
  clear hs hl hk hz ho hT
  go_enter Tryd.func8, Tryd.ntmps8
  go_wp2_with (first | (go_at_call 11; (with_reducible refine (RA.out _).mono ?_); rintro e w1 ⟨b, rfl, hb, hR, hB⟩; have LB := Lib.hid hb; have R1 := Lib.hid hR; have B1' := Lib.hid (bb (B1 w _) hB); have K1 := Lib.hid (K0.out.below' hB); have T1 := Lib.hid (HT.out.below hB); have NB := Lib.hid (show b ≠ 0 ∧ w.heap.size < b from by simp at hb; omega); clear hb hR hB) | (go_at_call 13; (with_reducible refine (WA.out _ NB.out.1 _ R1.out T1.out).mono ?_); rintro e w2 ⟨rfl, hg, hR⟩; have B2' := Lib.hid (below_new B1'.out B1'.out.size hg (by have := NB.out; omega)); have K2 := Lib.hid (K1.out.grown hg (by have := NB.out; simp; omega)); clear hg hR) | (refine wpList_store_whole rfl 33 (.tmp 4) (.tmp 19) rfl w.heap.size wzero rfl rfl 33 _ K2.out (by kernel_rfl) (by rfl) (by simp [Value.oneCell']) ?_; intro w5 hk2 hg2; have K5 := Lib.hid hk2; have G5 := Lib.hid hg2; clear hk2 hg2))
  exact bodyPost_ret (results_cell_tmp rfl _ _ w.heap.size 33 _ _ _ rfl rfl K5.out Tryd.underlying33 rfl (by kernel_rfl)) rfl ⟨rfl, below_store B2'.out G5.out (Nat.le_refl _)⟩
theorem Next_yes (k : Nat) (x : Wd) (s : ByteArray) (l : List Nat) (hs : Str s l) (hl : l.length ≤ 60000) (hk : k ≤ l.length) (ho : wd (l.drop (k + sk false (l.drop k))) = some x) (w : World) (hT : Tab w) :
    Calls Tryd.prog 8 #[.string s, .int .i64 k] w fun e w' => e = .returned (.tuple #[.agg (wfull x (k + sk false (l.drop k))), .bool true]) ∧ Below w.heap.size w w' := by
  have hz := hs.size
  have hw0 : 0 < w.heap.size := by obtain ⟨ev, h1, _⟩ := hT; exact World.block_lt_of_cell? _ _ h1
  have RA := Lib.hid (fun W => readerAt_yes s k (by omega) W)
  have WA := Lib.hid (fun b hb W hW hTW => (word_any b k s l hs hl hk W hW hTW hb).mono fun e w' h => WPost.yes h ho)
  have HT := Lib.hid (hT.below (B1 w (.cells wzero 33)))
  have K0 := Lib.hid (Blk.new w wzero 33)
  obtain ⟨p, ep⟩ : ∃ p, p = k + sk false (l.drop k) := ⟨_, rfl⟩
  rw [← ep] at WA ⊢
  clear hs hl hk hz ho hT ep
  go_enter Tryd.func8, Tryd.ntmps8
  go_wp2_with (first | (go_at_call 11; (with_reducible refine (RA.out _).mono ?_); rintro e w1 ⟨b, rfl, hb, hR, hB⟩; have LB := Lib.hid hb; have R1 := Lib.hid hR; have B1' := Lib.hid (bb (B1 w _) hB); have K1 := Lib.hid (K0.out.below' hB); have T1 := Lib.hid (HT.out.below hB); have NB := Lib.hid (show b ≠ 0 ∧ w.heap.size < b from by simp at hb; omega); clear hb hR hB) | (go_at_call 13; (with_reducible refine (WA.out _ NB.out.1 _ R1.out T1.out).mono ?_); rintro e w2 ⟨rfl, hg, hR⟩; have B2' := Lib.hid (below_new B1'.out B1'.out.size hg (by have := NB.out; omega)); have K2 := Lib.hid (K1.out.grown hg (by have := NB.out; simp; omega)); clear hg hR) | (refine wpList_store_whole rfl 33 (.tmp 4) (.tmp 19) rfl w.heap.size (wfull x p) rfl rfl 33 _ K2.out (by kernel_rfl) (by rfl) (by simp [Value.oneCell']) ?_; intro w5 hk2 hg2; have K5 := Lib.hid hk2; have G5 := Lib.hid hg2; clear hk2 hg2))
  exact bodyPost_ret (results_cell_tmp rfl _ _ w.heap.size 33 _ _ _ rfl rfl K5.out Tryd.underlying33 rfl (by kernel_rfl)) rfl ⟨rfl, below_store B2'.out G5.out (Nat.le_refl _)⟩
end Go.Proofs.YtgmdfmckkfefgaaDoor

/- The law WordsBetween, walked. -/
import Derived.Test.YtgmdfmckkfefgaaDoorXb
namespace Go.Proofs.YtgmdfmckkfefgaaDoor
open Go Go.RowKit
theorem Tab.pos {w : World} (h : Tab w) : 0 < w.heap.size := by obtain ⟨ev, h1, _⟩ := h; exact World.block_lt_of_cell? _ _ h1
theorem beg_idem (l : List Nat) (k : Nat) : sk false (l.drop (beg l k)) = 0 := by
  have h := sk_idem (l.drop (pos l k))
  rw [List.drop_drop] at h
  exact h
theorem beg_no {l : List Nat} (hl : ∀ x ∈ l, x < 256) {k : Nat} (h : ow l k = none) : beg l k < l.length := by
  have h1 := beg_le hl k
  rcases Nat.lt_or_ge (beg l k) l.length with h2 | h2
  · exact h2
  · have h3 : wd (l.drop (beg l k)) = none := h
    rw [List.drop_of_length_le h2] at h3
    cases h3
set_option maxRecDepth 100000 in
set_option maxHeartbeats 2000000 in
theorem between_long (s : ByteArray) (h : 1000 < s.size) (w : World) (hT : Tab w) :
    Calls Tryd.prog 3 #[.string s] w fun e w' => e = .returned (.bool true) ∧ Below w.heap.size w w' := by
  have AW := Lib.hid (awake_any w hT)
  have h3 : (1000 : Int) < s.size := by omega
  clear hT h
  go_enter Tryd.func3, Tryd.ntmps3
  go_wp2_with (go_at_call 5; (with_reducible refine AW.out.mono ?_); rintro e w1 ⟨rfl, hb⟩; have HB := Lib.hid hb; clear hb)
  go_ret
  exact ⟨rfl, HB.out⟩
set_option maxRecDepth 100000 in
set_option maxHeartbeats 4000000 in
theorem between_no (N : Nat) (s : ByteArray) (l : List Nat) (hs : Str s l) (hl : s.size ≤ 1000) (hN : stp l N = true) (hNl : N ≤ l.length) (hNb : ∀ j, j < N → stp l j = false) (ho : ow l N = none) (w : World) (hT : Tab w) :
    Calls Tryd.prog 3 #[.string s] w fun e w' => e = .returned (.bool true) ∧ Below w.heap.size w w' := by
  have hz := hs.size
  have AW := Lib.hid (awake_any w hT)
  have AL := Lib.hid (fun W hW => All_any N s l hs (by omega) hN hNl hNb W hW)
  have hb := beg_no hs.lt ho
  have SK := Lib.hid (fun W hW => Skip_in (beg l N) s l hs (by omega) (by omega) W hW)
  have NX := Lib.hid (fun W hW => Next_no (beg l N) s l hs (by omega) (by omega) (by rw [beg_idem, Nat.add_zero]; exact ho) W hW)
  rw [beg_idem, Nat.add_zero] at SK
  have HO := Lib.hid ho
  have TT := Lib.hid hT
  have h3 : ¬ (1000 : Int) < s.size := by omega
  have AL2 : RowKit.Hid (∀ W, Tab W → Calls Tryd.prog 6 #[.string s] W fun e w' => Below W.heap.size W w' ∧ e = .returned (.tuple #[.slice none 0 0, .int .i64 (beg l N), .int .i64 7])) := Lib.hid (fun W hW => (AL.out W hW).mono fun e w' h => by
    obtain ⟨hb, ⟨_, h2⟩ | ⟨v, h2, _⟩⟩ := h
    · exact ⟨hb, h2⟩
    · exact absurd HO.out h2)
  generalize beg l N = a at hb SK NX AL2
  have h4 : (a : Int) < s.size := by omega
  have h5 : ¬ (s.size : Int) ≤ a := by omega
  clear hT ho hs hN hNl hNb hl hz AL hb
  go_enter Tryd.func3, Tryd.ntmps3
  go_wp2_with (first | (go_at_call 5; (with_reducible refine AW.out.mono ?_); rintro e w1 ⟨rfl, hb⟩; have HB := Lib.hid hb; have T1 := Lib.hid (TT.out.below hb); clear hb) | (go_at_call 6; (with_reducible refine (AL2.out _ T1.out).mono ?_); rintro e w2 ⟨hb, rfl⟩; have HB2 := Lib.hid (bb HB.out hb); have T2 := Lib.hid (T1.out.below hb); clear hb) | (go_at_call 7; (with_reducible refine (SK.out _ T2.out.pos).mono ?_); rintro e w3 ⟨rfl, hb⟩; have HB3 := Lib.hid (bb HB2.out hb); have T3 := Lib.hid (T2.out.below hb); clear hb) | (go_at_call 8; (with_reducible refine (NX.out _ T3.out).mono ?_); rintro e w4 ⟨rfl, hb⟩; have HB4 := Lib.hid (bb HB3.out hb); clear hb) | (refine wpList_store_whole rfl 33 (.tmp 6) (.tmp 54) rfl w4.heap.size wzero rfl rfl 33 _ (Blk.new w4 wzero 33) (by kernel_rfl) (by rfl) (by simp [Value.oneCell']) ?_; intro w5 hk2 hg2; have G5 := Lib.hid (below_new (HB4.out.alloc HB4.out.size _) (by have := HB4.out.size; simp; omega) hg2 HB4.out.size); clear hk2 hg2))
  go_ret
  exact ⟨rfl, G5.out⟩
end Go.Proofs.YtgmdfmckkfefgaaDoor

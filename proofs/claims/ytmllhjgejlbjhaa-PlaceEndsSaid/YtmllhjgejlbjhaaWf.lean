/- Contracts of layer 2: At. -/
import Derived.Test.YtmllhjgejlbjhaaWe
namespace Go.Proofs.Ytmllhjgejlbjhaa
open Go.RowKit

set_option maxHeartbeats 1000000 in
theorem at_yes (x : Nat) (bs : List Nat) (L p : Nat) (hb0 : Lns bs L) (hL : L < 1152921504606846976) (hp : p ≤ L) (w : World) (hx : Idx w x bs L) :
    Calls Try.prog 13 #[.pointer (some ⟨x, 0, none⟩), .int .i64 p] w fun e w' => e = .returned (.tuple #[.int .i64 (ln bs p), .int .i64 (p - bs.getD (ln bs p - 1) 0 + 1 : Nat), .bool true]) ∧ Below w.heap.size w w' := by
  obtain ⟨g, c, h1, h2⟩ := hx
  have hsh := hb0.short
  have T : ∀ w' : World, Below w.heap.size w w' → Calls Try.prog 24 #[.int .i64 p, .func (.func 25) #[.agg #[.slice (some ⟨g, 0, none⟩) bs.length c, .int .i64 (L + 1 : Nat)]] #[], .func (.func 26) #[.agg #[.slice (some ⟨g, 0, none⟩) bs.length c, .int .i64 (L + 1 : Nat)]] #[]] w' fun e w'' => e = .returned (.tuple #[.int .i64 (ln bs p), .int .i64 (p - bs.getD (ln bs p - 1) 0 + 1 : Nat), .bool true]) ∧ Below w'.heap.size w' w'' :=
    fun w' hb => tell_yes 25 26 p _ _ _ w' (.inl ⟨rfl, rfl⟩) (hasPlace_yes _ _ _ _ _ (by omega) (by omega) _) fun w2 hb2 => spot_any g c bs L p hb0 hL hp w2 (h2.below' (hb.trans (hb2.mono hb.size)))
  generalize ln bs p = l at T ⊢
  generalize bs.getD (l - 1) 0 = v at T ⊢
  generalize p - v + 1 = col at T ⊢
  have c0 := h1.cell 0
  have c1 := h1.cell 1
  simp at c0 c1
  have T := Lib.hid T
  clear h1 h2 hb0
  go_enter Try.func13, Try.ntmps13
  go_wp2_with (go_at_call 23; refine (known_some _ _).mono ?_; rintro e w' ⟨rfl, rfl⟩)
  have d0 := fun e => Ext.cell c0 e
  have d1 := fun e => Ext.cell c1 e
  refine wp_region_ext (by kernel_rfl) (by kernel_rfl) ?_
  repeat (first | go_big_quiet_step ((go_at_call 24; exact Calls.ext_of (T.out _ (Ext.grown _)))) | quiet_step ((go_at_call 24; exact Calls.ext_of (T.out _ (Ext.grown _)))))
  refine wpQuiet_nil ?_
  intro _ hw'
  obtain ⟨⟨w1, hb1⟩, rfl⟩ := hw'
  go_wp2
  go_ret3
  exact ⟨rfl, hb1⟩
end Go.Proofs.Ytmllhjgejlbjhaa

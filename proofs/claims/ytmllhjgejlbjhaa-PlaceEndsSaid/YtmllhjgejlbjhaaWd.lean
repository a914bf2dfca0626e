/- Contracts of layer 2: where a place is; what is told by a question. -/
import Derived.Test.YtmllhjgejlbjhaaWc
namespace Go.Proofs.Ytmllhjgejlbjhaa
open Go.RowKit

set_option maxHeartbeats 1000000 in
theorem spot_any (g c : Nat) (bs : List Nat) (L p : Nat) (hb0 : Lns bs L) (hn : L < 1152921504606846976) (hp : p ≤ L) (w : World) (hr : Nums w g bs) :
    Calls Try.prog 26 #[.agg #[.slice (some ⟨g, 0, none⟩) bs.length c, .int .i64 (L + 1 : Nat)], .int .i64 p] w fun e w' => e = .returned (.tuple #[.int .i64 (ln bs p), .int .i64 (p - bs.getD (ln bs p - 1) 0 + 1 : Nat)]) ∧ Below w.heap.size w w' := by
  obtain ⟨l1, l2, l3, l4⟩ := ln_spec p hb0
  obtain ⟨r, er⟩ : ∃ r, r = ln bs p := ⟨_, rfl⟩
  rw [← er] at l1 l2 l3 l4 ⊢
  clear er
  have hsh := hb0.short
  have hv := l3 (r - 1) (by omega)
  have hc0 := hr.2 (r - 1) (by omega)
  have hg := hr.1
  obtain ⟨v, ev⟩ : ∃ v, v = bs.getD (r - 1) 0 := ⟨_, rfl⟩
  rw [← ev] at hv hc0 ⊢
  clear ev
  have K : ∀ w', Below w.heap.size w w' → Caught w' w.heap.size (w.heap.size + 1) g c bs (L + 1 : Nat) p → Calls Try.prog 33 #[.int .i64 bs.length, .func (.func 34) #[] #[.pointer (some ⟨w.heap.size, 0, none⟩), .pointer (some ⟨w.heap.size + 1, 0, none⟩)]] w' fun e w'' => e = .returned (.int .i64 r) ∧ Below w'.heap.size w' w'' :=
    fun w' _ h => search_any _ _ g c bs _ p r (by omega) l2 l3 l4 w' h
  have K := Lib.hid K
  have HR := Lib.hid hr
  have H4 := Lib.hid l4
  have H3 := Lib.hid l3
  have HB := Lib.hid hb0
  clear hr l4 l3 hb0
  have U2 : ∀ (o p : Obj), Below w.heap.size w ((w.alloc o).alloc p) := fun o p => ((Below.refl _ _).alloc (Nat.le_refl _) o).alloc (by simp) p
  go_enter Try.func26, Try.ntmps26
  go_wp2_with (first
    | (go_at_call 30; refine (count_any _ _ _ _ _).mono ?_; rintro e w1 ⟨rfl, hb⟩)
    | (go_at_call 33; refine (K.out _ ((U2 _ _).trans (hb.mono (by simp; omega))) ⟨(((Blk.new w _ _).alloc _).below hb (by simp; omega)), (by have h := (Blk.new (w.alloc (.cells #[.slice (some ⟨g, 0, none⟩) bs.length c, .int .i64 (L + 1 : Nat)] 34)) #[.int .i64 p] 3); simp at h; exact h.below hb (by simp)), (HR.out.below' ((U2 _ _).trans (hb.mono (by simp; omega))))⟩).mono ?_; rintro e w2 ⟨rfl, hb2⟩))
  obtain ⟨hqc, hqf⟩ := bcell hb
  obtain ⟨hqc2, hqf2⟩ := bcell hb2
  have hz := hb.size
  have hz2 := hb2.size
  simp at hz
  have hz3 : w.heap.size + 1 < w1.heap.size := by omega
  have hz4 : w.heap.size < w1.heap.size := by omega
  have hp2 : (0 : Int) ≤ (p : Int) - v := by omega
  have hz5 : g < w1.heap.size := by omega
  have hz6 : g < w.heap.size + 1 + 1 := by omega
  have hw : IntKind.i64.wrap ((r : Int) - 1) = ((r - 1 : Nat) : Int) := (IntWalk.i64_in _ (by omega)).trans (by omega)
  have hx : ((r - 1 : Nat) : Int) < bs.length := by omega
  have hw2 : IntKind.i64.wrap ((p : Int) - (v : Int)) = ((p - v : Nat) : Int) := (IntWalk.i64_in _ (by omega)).trans (by omega)
  have hw3 : IntKind.i64.wrap (((p - v : Nat) : Int) + 1) = ((p - v : Nat) : Int) + 1 := (IntWalk.i64_in _ (by omega))
  go_quiet (fail)
  go_wp2
  go_ret2
  exact ⟨ret_ints rfl (by omega), bdrew ((U2 _ _).trans ((hb.mono (by simp; omega)).trans (hb2.mono (by omega))))⟩
end Go.Proofs.Ytmllhjgejlbjhaa

/- Contracts of layer 2: the search for a line, and where a place is. -/
import Derived.Test.YtmllhjgejlbjhaaWb
import Derived.Laws.Entries
import Derived.Deep.LoopGhost
namespace Go.Proofs.Ytmllhjgejlbjhaa
open Go.RowKit

/-- What the closure of spot sees. -/
def Caught (w : World) (b0 b1 g c : Nat) (bs : List Nat) (P p : Int) : Prop :=
  Blk w b0 #[.slice (some ⟨g, 0, none⟩) bs.length c, .int .i64 P] 34 ∧ Blk w b1 #[.int .i64 p] 3 ∧ Nums w g bs
theorem Caught.below {w w' : World} {b0 b1 g c : Nat} {bs : List Nat} {P p : Int} (h : Caught w b0 b1 g c bs P p) (hb : Below w.heap.size w w') : Caught w' b0 b1 g c bs P p :=
  ⟨h.1.below hb h.1.lt, h.2.1.below hb h.2.1.lt, h.2.2.below' hb⟩

set_option maxHeartbeats 400000 in
theorem spot1_any (b0 b1 g c : Nat) (bs : List Nat) (P p : Int) (i : Nat) (hn : bs.length < 4611686018427387904) (hi : i < bs.length) (w : World) (h : Caught w b0 b1 g c bs P p) :
    Calls Try.prog 34 #[.int .i64 i, .pointer (some ⟨b0, 0, none⟩), .pointer (some ⟨b1, 0, none⟩)] w fun e w' => e = .returned (.bool (decide (p < (bs.getD i 0 : Nat)))) ∧ ∃ n, w' = w.drewN n := by
  obtain ⟨h0, h1, h2⟩ := h
  have c0 := h0.cell 0
  have c1 := h0.cell 1
  have c2 := h1.cell 0
  have c3 := h2.2 i hi
  simp at c0 c1 c2
  obtain ⟨v, ev⟩ : ∃ v, v = bs.getD i 0 := ⟨_, rfl⟩
  rw [← ev] at c3 ⊢
  have hx : (i : Int) < bs.length := by omega
  clear ev h0 h1 h2
  go_enter Try.func34, Try.ntmps34
  go_wp2
  go_quiet (fail)
  go_wp2
  go_ret
  exact ⟨rfl, _, rfl⟩

set_option maxHeartbeats 1000000 in
theorem search_any (b0 b1 g c : Nat) (bs : List Nat) (P : Int) (p r : Nat) (hn : bs.length < 2305843009213693952) (hr0 : r ≤ bs.length) (hr1 : ∀ i, i < r → bs.getD i 0 ≤ p) (hr2 : ∀ i, r ≤ i → i < bs.length → p < bs.getD i 0) (w : World) (h : Caught w b0 b1 g c bs P p) :
    Calls Try.prog 33 #[.int .i64 bs.length, .func (.func 34) #[] #[.pointer (some ⟨b0, 0, none⟩), .pointer (some ⟨b1, 0, none⟩)]] w fun e w' => e = .returned (.int .i64 r) ∧ Below w.heap.size w w' := by
  have K : ∀ (i : Nat) (w' : World), i < bs.length → Below w.heap.size w w' → Calls Try.prog 34 #[.int .i64 i, .pointer (some ⟨b0, 0, none⟩), .pointer (some ⟨b1, 0, none⟩)] w' fun e w'' => e = .returned (.bool (decide ((p : Int) < (bs.getD i 0 : Nat)))) ∧ ∃ n, w'' = w'.drewN n :=
    fun i w' hi hb => spot1_any b0 b1 g c bs P p i (by omega) hi w' (h.below hb)
  have HF := Lib.hid K
  have M1 := Lib.hid hr1
  have M2 := Lib.hid hr2
  clear K h hr1 hr2
  obtain ⟨n, en⟩ : ∃ n, n = bs.length := ⟨_, rfl⟩
  have EN := Lib.hid en
  rw [← en] at hn hr0 ⊢
  clear en
  go_enter Try.func33, Try.ntmps33
  go_wp2
  go_loopg [5, 6] n (fun kx s5 s6 wr => ∃ (lo hi : Nat), s5 = .int .i64 lo ∧ s6 = .int .i64 hi ∧ lo ≤ r ∧ r ≤ hi ∧ hi ≤ n ∧ hi - lo ≤ kx ∧ Below w.heap.size w wr)
  case atStart => exact ⟨0, n, rfl, rfl, Nat.zero_le _, hr0, Nat.le_refl _, by omega, Below.refl _ _⟩
  case round =>
    obtain ⟨lo, hi, rfl, rfl, hlr, hrh, hin, hg, hb⟩ := hrel
    by_cases hlt : lo < hi
    · have hc := HF.out ((lo + hi) / 2) wr (by have := EN.out; omega) hb
      rw [show (((lo + hi) / 2 : Nat) : Int) = ((lo : Int) + (hi : Int)) / 2 by omega] at hc
      rcases Nat.lt_or_ge ((lo + hi) / 2) r with hm | hm
      · have h1 := M1.out _ hm
        have hv : decide ((p : Int) < (bs.getD ((lo + hi) / 2) 0 : Nat)) = false := by simpa using h1
        rw [hv] at hc
        clear hv h1
        go_wp2_with (go_at_call 34; refine hc.mono ?_; rintro e w' ⟨rfl, nq, rfl⟩)
        go_roundg (hi - ((lo + hi) / 2 + 1))
        case measure => omega
        case rel => exact ⟨(lo + hi) / 2 + 1, hi, by rw [show ((lo : Int) + (hi : Int)) / 2 + 1 = (((lo + hi) / 2 + 1 : Nat) : Int) by omega], rfl, by omega, hrh, hin, Nat.le_refl _, bdrew hb⟩
      · have h1 := M2.out _ hm (by have := EN.out; omega)
        have hv : decide ((p : Int) < (bs.getD ((lo + hi) / 2) 0 : Nat)) = true := by simpa using h1
        rw [hv] at hc
        clear hv h1
        go_wp2_with (go_at_call 34; refine hc.mono ?_; rintro e w' ⟨rfl, nq, rfl⟩)
        go_roundg ((lo + hi) / 2 - lo)
        case measure => omega
        case rel => exact ⟨lo, (lo + hi) / 2, rfl, by rw [show ((lo : Int) + (hi : Int)) / 2 = (((lo + hi) / 2 : Nat) : Int) by omega], hlr, hm, by omega, Nat.le_refl _, bdrew hb⟩
    · obtain rfl : hi = lo := by omega
      obtain rfl : r = hi := by omega
      go_wp2
      go_ret
      exact ⟨rfl, hb⟩
end Go.Proofs.Ytmllhjgejlbjhaa

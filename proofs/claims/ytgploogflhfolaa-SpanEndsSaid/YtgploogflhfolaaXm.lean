/- Contracts of bytes.Clone, of Cut, of SameBytes. -/
import Derived.Test.YtgploogflhfolaaXl
import Derived.Test.YtgploogflhfolaaWd
import Derived.Lib.SliceRun
namespace Go.Proofs.Ytgploogflhfolaa
open Go Go.RowKit
/-- append onto an empty literal: a text. -/
theorem own_empty5 (w : World) : (w.alloc (.cells #[] 5)).ownsRow w.heap.size 5 1 (.slice (some ⟨w.heap.size, 0, none⟩) 0 0) 0 [] :=
  ⟨rfl, .inr ⟨w.heap.size, 0, #[], rfl, Nat.le_refl _, heap_alloc_new w _, Nat.le_refl _, Nat.zero_le _, rfl, rfl⟩⟩
set_option maxHeartbeats 1000000 in
theorem clone_any (A : Option Addr) (l : List Nat) (c : Nat) (hl : l.length ≤ 60000) (hnc : A = none → c = 0) (w : World) (h : Txt w A l) :
    Calls Try.prog 38 #[.slice A l.length c] w fun e w' => ∃ v, e = .returned v ∧ w'.ownsRow w.heap.size 5 1 v l.length (l.map natb) ∧ Below w.heap.size w w' := by
  cases A with
  | none =>
    have h0 : l = [] := by
      cases l with
      | nil => rfl
      | cons y l => obtain ⟨b, o, e, _⟩ := h.2 (by simp); cases e
    subst h0
    obtain rfl := hnc rfl
    clear h
    have hq := fun w => Go.Lib.run_eql_slice_nil (P := Try.prog) w 33 5 none 0 0 0 0 Try.underlying33
    simp only [Option.isNone_none] at hq
    go_enter Try.func38, Try.ntmps38
    go_wp2_with fail
    go_ret
    exact ⟨.slice none 0 0, rfl, World.ownsRow_nil _ _ _ _, Below.refl _ _⟩
  | some ad =>
    have HT := Lib.hid h
    have hq := fun w => Go.Lib.run_eql_slice_nil (P := Try.prog) w 33 5 (some ad) l.length c 0 0 Try.underlying33
    simp only [Option.isNone_some] at hq
    clear h
    go_enter Try.func38, Try.ntmps38
    go_wp2_with (at_builtin; refine wpList_append_txt _ rfl (.tmp 5) (.tmp 6) rfl w.heap.size _ [] rfl (own_empty5 w) (some ad) l c rfl (HT.out.below (B1 _ _)) (fun h => by cases h) (by simp; omega) (B1 w _).size ?_; intro v1 w1 hown1 hg1; have H1 := Lib.hid ((B1 w (.cells #[] 5)).grown hg1 (by simp) (fun k hk => ((own_empty5 w).lt k hk).1)); clear hg1)
    rw [List.nil_append] at hown1
    have HO := Lib.hid hown1
    clear hown1
    go_wp2_with fail
    go_ret
    exact ⟨v1, rfl, HO.out, H1.out⟩

set_option maxHeartbeats 1000000 in
theorem sameb_any (A B : Option Addr) (a b : List Nat) (c d : Nat) (ha : a.length ≤ 65536) (hb : b.length ≤ 65536) (w : World) (hA : Txt w A a) (hB : Txt w B b) :
    Calls Try.prog 27 #[.slice A a.length c, .slice B b.length d] w fun e w' => e = .returned (.bool (decide (a = b))) ∧ ∃ n, w' = w.drewN n := by
  by_cases hlen : a.length = b.length
  · have HA := Lib.hid hA
    have HB := Lib.hid hB
    have HL := Lib.hid hlen
    obtain ⟨res, eres⟩ : ∃ res, res = decide (a = b) := ⟨_, rfl⟩
    rw [← eres]
    have ER := Lib.hid eres
    have hl1 : ((a.length : Int) == (b.length : Int)) = true := by simp; omega
    have hl2 : ((a.length : Int) != (b.length : Int)) = false := by simp; omega
    clear hA hB eres hlen
    go_enter Try.func27, Try.ntmps27
    go_wp2
    go_loopw [5] (fun i wr => ∃ k : Nat, k ≤ a.length ∧ i = .int .i64 k ∧ (∀ j, j < k → a.getD j 0 = b.getD j 0) ∧ ∃ n, wr = w.drewN n) (fun i _ => a.length - (intOf i).toNat)
    case atStart => exact ⟨0, by omega, rfl, by intro j hj; omega, 0, rfl⟩
    case round =>
      obtain ⟨k, hk, rfl, hpre, n, rfl⟩ := hrel
      have HP := Lib.hid hpre
      clear hpre
      by_cases h1 : k < a.length
      · obtain ⟨ab, ao, rfl, c0⟩ := HA.out.at_ h1
        obtain ⟨bb, bo, rfl, d0⟩ := HB.out.at_ (show k < b.length by rw [← HL.out]; exact h1)
        obtain ⟨x, ex⟩ : ∃ x, x = a.getD k 0 := ⟨_, rfl⟩
        obtain ⟨y, ey⟩ : ∃ y, y = b.getD k 0 := ⟨_, rfl⟩
        rw [← ex] at c0
        rw [← ey] at d0
        have hk3 : (k : Int) < a.length := by omega
        have hk4 : (k : Int) < b.length := by have := HL.out; omega
        have EX := Lib.hid ex
        have EY := Lib.hid ey
        clear ex ey
        by_cases he : x = y
        · subst he
          go_wp2_with fail
          go_quiet (fail)
          go_wp2_with fail
          go_roundw
          case rel =>
            refine ⟨k + 1, by omega, by go_num, fun j hj => ?_, _, rfl⟩
            rcases Nat.lt_or_ge j k with h | h
            · exact HP.out j h
            · obtain rfl : j = k := by omega
              rw [← EX.out, ← EY.out]
          case measure => simp [intOf]; omega
        · have hne : a ≠ b := fun e => he (by rw [EX.out, EY.out, e])
          have hd : res = false := by rw [ER.out]; simpa using hne
          have HD := Lib.hid hd
          have hxy : ((x : Int) == (y : Int)) = false := by simp; omega
          have hxy2 : ((x : Int) != (y : Int)) = true := by simp; omega
          clear he hne hd
          go_wp2_with fail
          go_quiet (fail)
          go_wp2_with fail
          go_ret
          exact ⟨ret_bool HD.out.symm, _, World.drewN_drewN _ _ _⟩
      · obtain rfl : k = a.length := by omega
        have hR : res = true := by
          rw [ER.out]
          simp only [decide_eq_true_eq]
          apply List.ext_getElem HL.out
          intro j h1 h2
          have := HP.out j h1
          simpa [List.getD, List.getElem?_eq_getElem h1, List.getElem?_eq_getElem h2] using this
        have HR := Lib.hid hR
        clear hR
        go_wp2_with fail
        go_ret
        exact ⟨ret_bool HR.out.symm, _, rfl⟩
  · have hd : decide (a = b) = false := by simp; intro e; exact hlen (by rw [e])
    rw [hd]
    have hl2 : ((a.length : Int) != (b.length : Int)) = true := by simp; omega
    clear hA hB hd
    go_enter Try.func27, Try.ntmps27
    go_wp2_with fail
    go_ret
    exact ⟨rfl, 0, rfl⟩
end Go.Proofs.Ytgploogflhfolaa

/- gram's copies of rules. -/
import Derived.Test.YtfdfcagkfnckmaaYa
import Derived.Test.YtfdfcagkfnckmaaYb
namespace Go.Proofs.Ytfdfcagkfnckmaa
open Go Go.RowKit
set_option maxRecDepth 100000 in
set_option maxHeartbeats 4000000 in
theorem gcopyRules_any (A : Option Addr) (l : List Rl) (c : Nat) (hl : l.length ≤ 1000000) (hnc : A = none → c = 0) (hs : ∀ r ∈ l, r.name.size ≤ 281474976710656) (w : World) (h : Rules w A l) :
    Calls Try.prog 46 #[.slice A l.length c] w fun e w' => ∃ A' c', e = .returned (.slice A' l.length c') ∧ w'.ownsRow w.heap.size 45 2 (.slice A' l.length c') l.length (rcells l) ∧ (A' = none → c' = 0) ∧ Below w.heap.size w w' := by
  have CL := Lib.hid (cloneRules_any A l c hl hnc w h)
  have HS := Lib.hid hs
  obtain ⟨m, em⟩ : ∃ m, m = l.length := ⟨_, rfl⟩
  have EM := Lib.hid em
  rw [← em] at hl CL ⊢
  clear h hs em hnc
  go_enter Try.func46, Try.ntmps46
  go_wp2_with (go_at_call 68; refine CL.out.mono ?_; rintro e w1 ⟨A1, c1, rfl, ho, hnn, hb⟩; have HO := Lib.hid ho; have HNN := Lib.hid hnn; have H1 := Lib.hid hb; clear ho hnn hb)
  go_loopw [10] (fun i wr => ∃ k : Nat, k ≤ m ∧ i = .int .i64 k ∧ wr.ownsRow w.heap.size 45 2 (.slice A1 m c1) m (rcells l) ∧ Below w.heap.size w wr) (fun i _ => m - (intOf i).toNat)
  case atStart => exact ⟨0, by omega, rfl, HO.out, H1.out⟩
  case round =>
    obtain ⟨k, hk, rfl, ho, hb⟩ := hrel
    by_cases hlt : k < m
    · have hlt2 : (k : Int) < m := by omega
      obtain ⟨d0, d1⟩ := rcells_at l k (by have := EM.out; omega)
      have hsz := HS.out (l.getD k Rl.zero) (getD_mem (by have := EM.out; omega))
      generalize l.getD k Rl.zero = x at d0 d1 hsz
      obtain ⟨g, rfl⟩ : ∃ g, A1 = some ⟨g, 0, none⟩ := by
        rcases ho.2 with ⟨_, h2⟩ | ⟨g, cap, cur, h1, _⟩
        · omega
        · simp only [Value.slice.injEq] at h1
          exact ⟨g, h1.1⟩
      have c0 := (ho.cellAt (k * 2) (by omega)).trans d0
      have c1' := (ho.cellAt (k * 2 + 1) (by omega)).trans d1
      have CS := Lib.hid (fun w => cloneStr_any x.name hsz w)
      have OB := Lib.hid ho
      have BB := Lib.hid hb
      have D0 := Lib.hid d0
      clear ho hb d0 d1 hsz
      go_wp2_with (first | (refine wpList_store_whole rfl 45 (.tmp 5) (.tmp 14) rfl wr.heap.size #[.string x.name, .int .i64 x.body] rfl rfl 45 _ (Blk.new _ _ _) (by kernel_rfl) (by rfl) (by simp [Value.oneCell']) ?_; intro w2 hk2 hg; have H2 := Lib.hid (grown_below (B1 wr _) (by simp) hg (fun k e => by cases e; exact Nat.le_refl _)); have e0 := hk2.cell 0; simp only [List.getElem?_toArray, List.getElem?_cons_zero, List.getElem?_cons_succ] at e0; clear hk2 hg c0 c1') | (go_at_call 69; refine (CS.out _).mono ?_; rintro e w3 ⟨rfl, hb⟩; have H3 := Lib.hid (bb H2.out hb); have O3 := Lib.hid (own_below OB.out H3.out); have cc := (O3.out.cellAt (k * 2) (by omega)).trans D0.out; have ff := O3.out.frozenAt (k * 2); clear hb e0))
      go_roundw
      case rel =>
        obtain ⟨q1, q2⟩ := O3.out.stored (k * 2) (.string x.name)
        have e : (rcells l).set (k * 2) (.string x.name) = rcells l := by
          apply List.ext_getElem?
          intro j
          rw [List.getElem?_set]
          split
          · rename_i e; subst e; split
            · exact D0.out.symm
            · rw [List.getElem?_eq_none (by omega)]
          · rfl
        rw [e] at q1
        exact ⟨k + 1, by omega, by go_num, q1, grown_below (bb BB.out H3.out) (bb BB.out H3.out).size q2 (fun k e => by cases e; exact (O3.out.lt _ rfl).1)⟩
      case measure => simp [intOf]; omega
    · obtain rfl : k = m := by omega
      have hlt2 : ¬ (k : Int) < k := by omega
      have OB := Lib.hid ho
      have BB := Lib.hid hb
      clear ho hb
      go_wp2_with fail
      go_ret
      exact ⟨_, _, rfl, OB.out, HNN.out, BB.out⟩
end Go.Proofs.Ytfdfcagkfnckmaa

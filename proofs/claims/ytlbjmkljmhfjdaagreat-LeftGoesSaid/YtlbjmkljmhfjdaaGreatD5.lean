/- slices.Clone of numbers, rules, nodes. -/
import Derived.Test.YtlbjmkljmhfjdaaGreatC8
import Derived.Test.YtlbjmkljmhfjdaaGreatB7
import Derived.Test.YtlbjmkljmhfjdaaGreatC2
set_option linter.unusedSimpArgs false
set_option linter.unusedVariables false
namespace Go.Proofs.YtlbjmkljmhfjdaaGreat
open Go Go.RowKit
@[go_sem] theorem eqn30 (w : World) : (binOp .eql 38 (.slice none 0 0) (.slice none 0 0)).run Tryz.prog w = .ok (.bool true) w := by kernel_rfl
@[go_sem] theorem eqs30 (a : Addr) (n c : Nat) (w : World) : (binOp .eql 38 (.slice (some a) n c) (.slice none 0 0)).run Tryz.prog w = .ok (.bool false) w := by kernel_rfl
@[go_sem] theorem eqn22 (w : World) : (binOp .eql 22 (.slice none 0 0) (.slice none 0 0)).run Tryz.prog w = .ok (.bool true) w := by kernel_rfl
@[go_sem] theorem eqs22 (a : Addr) (n c : Nat) (w : World) : (binOp .eql 22 (.slice (some a) n c) (.slice none 0 0)).run Tryz.prog w = .ok (.bool false) w := by kernel_rfl
@[go_sem] theorem eqn23 (w : World) : (binOp .eql 23 (.slice none 0 0) (.slice none 0 0)).run Tryz.prog w = .ok (.bool true) w := by kernel_rfl
@[go_sem] theorem eqs23 (a : Addr) (n c : Nat) (w : World) : (binOp .eql 23 (.slice (some a) n c) (.slice none 0 0)).run Tryz.prog w = .ok (.bool false) w := by kernel_rfl
set_option maxRecDepth 100000 in
set_option maxHeartbeats 1000000 in
theorem cloneInts_any (A : Option Addr) (l : List Int) (c : Nat) (hl : l.length ≤ 1000000) (hnc : A = none → c = 0) (w : World) (h : Lies w A (ints l)) :
    Calls Tryz.prog 257 #[.slice A l.length c] w fun e w' => ∃ A' c', e = .returned (.slice A' l.length c') ∧ w'.ownsRow w.heap.size 3 1 (.slice A' l.length c') l.length (ints l) ∧ (A' = none → c' = 0) ∧ Below w.heap.size w w' := by
  cases hA : A with
  | none =>
    have h0 : l = [] := List.eq_nil_of_length_eq_zero (by have := none_len h hA; rwa [ints_length] at this)
    subst h0
    obtain rfl := hnc hA
    subst hA
    clear h hnc hl
    go_enter Tryz.func257, Tryz.ntmps257
    go_wp2_with fail
    go_ret
    exact ⟨none, 0, rfl, World.ownsRow_nil _ _ _ _, fun _ => rfl, Below.refl _ _⟩
  | some a =>
    obtain ⟨i0, hi, hz0, hz1, hz2⟩ := info_parts Tryz.info3
    subst hA
    have HN := Lib.hid (lies_news h)
    have H6 := Lib.hid (show 0 + l.length ≤ maxLen by unfold maxLen; omega)
    have H8 := Lib.hid (show (0 + l.length) * 8 ≤ 140737488355328 by omega)
    have HL := Lib.hid (show (ints l).length = l.length * 1 by rw [ints_length, Nat.mul_one])
    clear h hnc hl
    go_enter Tryz.func257, Tryz.ntmps257
    go_wp2_with (at_builtin; refine wpList_append_onto _ rfl (.tmp 5) (.tmp 6) 38 rfl w.heap.size 3 i0 (.int .i64 0) 1 8 Tryz.underlying38 hi hz0 hz1 hz2 rfl (by decide) (.slice (some ⟨w.heap.size, 0, none⟩) 0 0) 0 [] rfl (World.ownsRow_made w #[] 0 (Nat.le_refl _) (by unfold maxLen; omega) rfl) (some a) l.length c (ints l) rfl HL.out (fun a' ha j u hu => by have := HN.out a' ha j u hu; exact ((B1 w _).cell (World.block_lt_of_cell? _ _ this)).trans this) (fun h => nomatch h) (ints_one l) H6.out H8.out (by simp) ?_; intro v1 w1 ho hg hf; rw [Nat.zero_add, List.nil_append] at ho; obtain ⟨A1, c1, rfl, hnn, _⟩ := own_slice ho; have HO := Lib.hid ho; have HNN := Lib.hid (fun h => (hnn h).2); have HB := Lib.hid (grown_below (B1 w _) (by simp) hg (fun k e => by cases e; exact Nat.le_refl _)); clear ho hg hf hnn)
    go_ret
    exact ⟨_, _, rfl, HO.out, HNN.out, HB.out⟩
set_option maxRecDepth 100000 in
set_option maxHeartbeats 1000000 in
theorem cloneRules_any (A : Option Addr) (l : List Rl) (c : Nat) (hl : l.length ≤ 1000000) (hnc : A = none → c = 0) (w : World) (h : Rules w A l) :
    Calls Tryz.prog 228 #[.slice A l.length c] w fun e w' => ∃ A' c', e = .returned (.slice A' l.length c') ∧ w'.ownsRow w.heap.size 124 2 (.slice A' l.length c') l.length (rcells l) ∧ (A' = none → c' = 0) ∧ Below w.heap.size w w' := by
  cases hA : A with
  | none =>
    have h0 : l = [] := List.eq_nil_of_length_eq_zero (rules_none h hA)
    subst h0
    obtain rfl := hnc hA
    subst hA
    clear h hnc hl
    go_enter Tryz.func228, Tryz.ntmps228
    go_wp2_with fail
    go_ret
    exact ⟨none, 0, rfl, World.ownsRow_nil _ _ _ _, fun _ => rfl, Below.refl _ _⟩
  | some a =>
    obtain ⟨i0, hi, hz0, hz1, hz2⟩ := info_parts Tryz.info124
    subst hA
    have HN := Lib.hid (h.news)
    have H6 := Lib.hid (show 0 + l.length ≤ maxLen by unfold maxLen; omega)
    have H8 := Lib.hid (show (0 + l.length) * 24 ≤ 140737488355328 by omega)
    have HL := Lib.hid (rcells_length l)
    clear h hnc hl
    go_enter Tryz.func228, Tryz.ntmps228
    go_wp2_with (at_builtin; refine wpList_append_onto _ rfl (.tmp 5) (.tmp 6) 22 rfl w.heap.size 124 i0 _ 2 24 Tryz.underlying22 hi hz0 hz1 hz2 rfl (by decide) (.slice (some ⟨w.heap.size, 0, none⟩) 0 0) 0 [] rfl (World.ownsRow_made w #[] 0 (Nat.le_refl _) (by unfold maxLen; omega) rfl) (some a) l.length c (rcells l) rfl HL.out (fun a' ha j u hu => by have := HN.out a' ha j u hu; exact ((B1 w _).cell (World.block_lt_of_cell? _ _ this)).trans this) (fun h => nomatch h) (rcells_one l) H6.out H8.out (by simp) ?_; intro v1 w1 ho hg hf; rw [Nat.zero_add, List.nil_append] at ho; obtain ⟨A1, c1, rfl, hnn, _⟩ := own_slice ho; have HO := Lib.hid ho; have HNN := Lib.hid (fun h => (hnn h).2); have HB := Lib.hid (grown_below (B1 w _) (by simp) hg (fun k e => by cases e; exact Nat.le_refl _)); clear ho hg hf hnn)
    go_ret
    exact ⟨_, _, rfl, HO.out, HNN.out, HB.out⟩
theorem Nodes.news {w : World} {A : Option Addr} {l : List Nd} (h : Nodes w A l) : ∀ a, A = some a → ∀ j u, (ncells l)[j]? = some u → w.cell? (a.add j) = some u := by
  intro a ha j u hu
  have hj := (List.getElem?_eq_some_iff.1 hu).1
  rw [ncells_length] at hj
  obtain ⟨b, o, e, _, hc⟩ := h (by omega)
  rw [ha] at e
  obtain rfl := Option.some.inj e
  have hm := Nat.mod_lt j (show 0 < 9 by omega)
  have h1 := hc (j / 9) (by omega) (j % 9) hm
  have h2 := ncells_at l (j / 9) (j % 9) (by omega) hm
  have ej : j / 9 * 9 + j % 9 = j := by omega
  rw [ej] at h2
  rw [Nat.add_assoc, ej] at h1
  rw [Addr.add_lit, h1, ← h2, hu]
set_option maxRecDepth 100000 in
set_option maxHeartbeats 1000000 in
theorem cloneNodes_any (A : Option Addr) (l : List Nd) (c : Nat) (hl : l.length ≤ 1000000) (hnc : A = none → c = 0) (w : World) (h : Nodes w A l) :
    Calls Tryz.prog 230 #[.slice A l.length c] w fun e w' => ∃ A' c', e = .returned (.slice A' l.length c') ∧ w'.ownsRow w.heap.size 40 9 (.slice A' l.length c') l.length (ncells l) ∧ (A' = none → c' = 0) ∧ Below w.heap.size w w' := by
  cases hA : A with
  | none =>
    have h0 : l = [] := List.eq_nil_of_length_eq_zero (nodes_none h hA)
    subst h0
    obtain rfl := hnc hA
    subst hA
    clear h hnc hl
    go_enter Tryz.func230, Tryz.ntmps230
    go_wp2_with fail
    go_ret
    exact ⟨none, 0, rfl, World.ownsRow_nil _ _ _ _, fun _ => rfl, Below.refl _ _⟩
  | some a =>
    obtain ⟨i0, hi, hz0, hz1, hz2⟩ := info_parts Tryz.info40
    subst hA
    have HN := Lib.hid (h.news)
    have H6 := Lib.hid (show 0 + l.length ≤ maxLen by unfold maxLen; omega)
    have H8 := Lib.hid (show (0 + l.length) * 96 ≤ 140737488355328 by omega)
    have HL := Lib.hid (ncells_length l)
    clear h hnc hl
    go_enter Tryz.func230, Tryz.ntmps230
    go_wp2_with (at_builtin; refine wpList_append_onto _ rfl (.tmp 5) (.tmp 6) 23 rfl w.heap.size 40 i0 _ 9 96 Tryz.underlying23 hi hz0 hz1 hz2 rfl (by decide) (.slice (some ⟨w.heap.size, 0, none⟩) 0 0) 0 [] rfl (World.ownsRow_made w #[] 0 (Nat.le_refl _) (by unfold maxLen; omega) rfl) (some a) l.length c (ncells l) rfl HL.out (fun a' ha j u hu => by have := HN.out a' ha j u hu; exact ((B1 w _).cell (World.block_lt_of_cell? _ _ this)).trans this) (fun h => nomatch h) (ncells_one l) H6.out H8.out (by simp) ?_; intro v1 w1 ho hg hf; rw [Nat.zero_add, List.nil_append] at ho; obtain ⟨A1, c1, rfl, hnn, _⟩ := own_slice ho; have HO := Lib.hid ho; have HNN := Lib.hid (fun h => (hnn h).2); have HB := Lib.hid (grown_below (B1 w _) (by simp) hg (fun k e => by cases e; exact Nat.le_refl _)); clear ho hg hf hnn)
    go_ret
    exact ⟨_, _, rfl, HO.out, HNN.out, HB.out⟩
end Go.Proofs.YtlbjmkljmhfjdaaGreat
namespace Go.Proofs.YtlbjmkljmhfjdaaGreat
open Go Go.RowKit
set_option maxRecDepth 100000 in
set_option maxHeartbeats 4000000 in
theorem gcopyRules_any (A : Option Addr) (l : List Rl) (c : Nat) (hl : l.length ≤ 1000000) (hnc : A = none → c = 0) (hs : ∀ r ∈ l, r.name.size ≤ 281474976710656) (w : World) (h : Rules w A l) :
    Calls Tryz.prog 196 #[.slice A l.length c] w fun e w' => ∃ A' c', e = .returned (.slice A' l.length c') ∧ w'.ownsRow w.heap.size 124 2 (.slice A' l.length c') l.length (rcells l) ∧ (A' = none → c' = 0) ∧ Below w.heap.size w w' := by
  have CL := Lib.hid (cloneRules_any A l c hl hnc w h)
  have HS := Lib.hid hs
  obtain ⟨m, em⟩ : ∃ m, m = l.length := ⟨_, rfl⟩
  have EM := Lib.hid em
  rw [← em] at hl CL ⊢
  clear h hs em hnc
  go_enter Tryz.func196, Tryz.ntmps196
  go_wp2_with (go_at_call 228; refine CL.out.mono ?_; rintro e w1 ⟨A1, c1, rfl, ho, hnn, hb⟩; have HO := Lib.hid ho; have HNN := Lib.hid hnn; have H1 := Lib.hid hb; clear ho hnn hb)
  go_loopw [10] (fun i wr => ∃ k : Nat, k ≤ m ∧ i = .int .i64 k ∧ wr.ownsRow w.heap.size 124 2 (.slice A1 m c1) m (rcells l) ∧ Below w.heap.size w wr) (fun i _ => m - (intOf i).toNat)
  case atStart => exact ⟨0, by omega, rfl, HO.out, H1.out⟩
  case round =>
    obtain ⟨k, hk, rfl, ho, hb⟩ := hrel
    by_cases hlt : k < m
    · have hlt2 : (k : Int) < m := by omega
      obtain ⟨d0, d1⟩ := rcells_at l k (by have := EM.out; omega)
      have hsz := HS.out (l.getD k Rl.zero) (getD_mem (by have := EM.out; omega))
      generalize l.getD k Rl.zero = x at d0 d1 hsz
      obtain ⟨g, rfl⟩ : ∃ g, A1 = some ⟨g, 0, none⟩ := by
        rcases ho.2 with ⟨_, h2⟩ | ⟨g, cap, cur, h1, _⟩
        · omega
        · simp only [Value.slice.injEq] at h1
          exact ⟨g, h1.1⟩
      have c0 := (ho.cellAt (k * 2) (by omega)).trans d0
      have c1' := (ho.cellAt (k * 2 + 1) (by omega)).trans d1
      have CS := Lib.hid (fun w => cloneStr_any x.name hsz w)
      have OB := Lib.hid ho
      have BB := Lib.hid hb
      have D0 := Lib.hid d0
      clear ho hb d0 d1 hsz
      go_wp2_with (first | (refine wpList_store_whole rfl 124 (.tmp 5) (.tmp 14) rfl wr.heap.size #[.string x.name, .int .i64 x.body] rfl rfl 124 _ (Blk.new _ _ _) (by kernel_rfl) (by rfl) (by simp [Value.oneCell']) ?_; intro w2 hk2 hg; have H2 := Lib.hid (grown_below (B1 wr _) (by simp) hg (fun k e => by cases e; exact Nat.le_refl _)); have e0 := hk2.cell 0; simp only [List.getElem?_toArray, List.getElem?_cons_zero, List.getElem?_cons_succ] at e0; clear hk2 hg c0 c1') | (go_at_call 229; refine (CS.out _).mono ?_; rintro e w3 ⟨rfl, hb⟩; have H3 := Lib.hid (bb H2.out hb); have O3 := Lib.hid (own_below OB.out H3.out); have cc := (O3.out.cellAt (k * 2) (by omega)).trans D0.out; have ff := O3.out.frozenAt (k * 2); clear hb e0))
      go_roundw
      case rel =>
        obtain ⟨q1, q2⟩ := O3.out.stored (k * 2) (.string x.name)
        have e : (rcells l).set (k * 2) (.string x.name) = rcells l := by
          apply List.ext_getElem?
          intro j
          rw [List.getElem?_set]
          split
          · rename_i e; subst e; split
            · exact D0.out.symm
            · rw [List.getElem?_eq_none (by omega)]
          · rfl
        rw [e] at q1
        exact ⟨k + 1, by omega, by go_num, q1, grown_below (bb BB.out H3.out) (bb BB.out H3.out).size q2 (fun k e => by cases e; exact (O3.out.lt _ rfl).1)⟩
      case measure => simp [intOf]; omega
    · obtain rfl : k = m := by omega
      have hlt2 : ¬ (k : Int) < k := by omega
      have OB := Lib.hid ho
      have BB := Lib.hid hb
      clear ho hb
      go_wp2_with fail
      go_ret
      exact ⟨_, _, rfl, OB.out, HNN.out, BB.out⟩
end Go.Proofs.YtlbjmkljmhfjdaaGreat

/- All nodes right; bodies one behind the other: the program's answers. -/
import Derived.Test.YtfdfcagkfnckmaaWz
namespace Go.Proofs.Ytfdfcagkfnckmaa
open Go Go.RowKit
noncomputable def allB (l : List Nd) (r : Int) : Bool := by classical exact decide (AllRight l r)
theorem allB_true {l : List Nd} {r : Int} (h : AllRight l r) : allB l r = true := by unfold allB; simp [h]
theorem allB_false {l : List Nd} {r : Int} (i : Nat) (hi : i < l.length) (h : nodeOk (l.getD i Nd.zero) r = false) : allB l r = false := by
  unfold allB; simp; intro hn; rw [hn i hi] at h; cases h
set_option maxRecDepth 100000 in
set_option maxHeartbeats 4000000 in
theorem allRight_any (g : Gr) (w : World) (hg : Gr.At w g) (hin : Gr.In g) : Calls Try.prog 65 #[g.val] w fun e w' => e = .returned (.bool (allB g.nodes g.rules.length)) ∧ Below w.heap.size w w' := by
  have HG := Lib.hid hg
  have HIN := Lib.hid hin
  have hr := hg.rl
  have hn := hg.nl
  obtain ⟨r, er⟩ : ∃ r, r = g.rules.length := ⟨_, rfl⟩
  have NT := Lib.hid (allB_true (l := g.nodes) (r := g.rules.length))
  have NN := Lib.hid (allB_false (l := g.nodes) (r := g.rules.length))
  obtain ⟨v, ev⟩ : ∃ v, v = allB g.nodes g.rules.length := ⟨_, rfl⟩
  rw [← ev] at NT NN ⊢
  show Calls Try.prog 65 #[.agg #[.slice g.RA g.rules.length g.rc, .slice g.NA g.nodes.length g.nc]] w _
  rw [← er] at NT NN hr ⊢
  obtain ⟨m, em⟩ : ∃ m, m = g.nodes.length := ⟨_, rfl⟩
  have EM := Lib.hid em
  rw [← em] at hn ⊢
  clear hg hin ev er em
  go_enter Try.func65, Try.ntmps65
  go_wp2_with (go_at_call 37; refine (takers_any _).mono ?_; rintro e w1 ⟨rfl, hT, hb⟩; have HT0 := Lib.hid hT; have HB0 := Lib.hid (bb (B1 w _) hb); have HZ := Lib.hid hb.size; have KB := Lib.hid ((Blk.new w _ _).below' hb); have d0 := KB.out.cell 0; have d1 := KB.out.cell 1; simp only [List.getElem?_toArray, List.getElem?_cons_zero, List.getElem?_cons_succ] at d0 d1; clear hT hb)
  clear d0 d1
  obtain ⟨tb, etb⟩ : ∃ tb, tb = w.heap.size + 1 := ⟨_, rfl⟩
  have HT : RowKit.Hid (Takers w1 tb) := Lib.hid (by rw [etb]; have := HT0.out; rw [World.size_alloc] at this; exact this)
  rw [← etb]
  clear HT0 etb
  go_loopw [10, 5] (fun i _ wr => ∃ k : Nat, k ≤ m ∧ i = .int .i64 k ∧ (∀ j, j < k → nodeOk (g.nodes.getD j Nd.zero) r = true) ∧ Below w1.heap.size w1 wr) (fun i _ _ => m - (intOf i).toNat)
  case atStart => exact ⟨0, by omega, rfl, fun j h => by omega, Below.refl _ _⟩
  case round =>
    obtain ⟨k, hk, rfl, ht, hbl⟩ := hrel
    have HTT := Lib.hid ht
    have BL := Lib.hid (bb HB0.out hbl)
    have HBL := Lib.hid hbl
    clear ht hbl
    by_cases hlt : k < m
    · have hlt2 : (k : Int) < m := by omega
      obtain ⟨b1, o1, eA, _, c1, c2, c3, c4, c5, c6, c7, c8, c9⟩ := (HG.out.below BL.out).nodes.nine (show k < g.nodes.length by have := EM.out; omega)
      have hat := Lib.hid ((HG.out.below BL.out).node (show k < g.nodes.length by have := EM.out; omega))
      have hin := Lib.hid (HIN.out (g.nodes.getD k Nd.zero) (getD_mem (by have := EM.out; omega)))
      have NK := Lib.hid (NN.out k (by have := EM.out; omega))
      generalize hx : g.nodes.getD k Nd.zero = x at c1 c2 c3 c4 c5 c6 c7 c8 c9 hat hin NK
      have HX := Lib.hid hx
      have RR := Lib.hid (fun (w' : World) (h : Below wr.heap.size wr w') => right_any x r tb w' (hat.out.below h) hin.out (HT.out.below (bb HBL.out h)))
      obtain ⟨no, en⟩ : ∃ no, no = nodeOk x r := ⟨_, rfl⟩
      rw [← en] at RR NK
      have EN := Lib.hid en
      rw [eA]
      clear en hx eA
      have cb : ∀ o, (wr.alloc o).cell? ⟨w.heap.size, 0, none⟩ = some (.slice g.RA r g.rc) := fun o => ((KB.out.below' HBL.out).alloc o).cell 0
      cases no with
      | false =>
        go_wp2_with (go_at_call 36; refine (RR.out _ (B1 _ _)).mono ?_; rintro e w2 ⟨rfl, hb⟩; have H1 := Lib.hid (bb (BL.out.alloc BL.out.size _) hb); clear hb)
        go_ret
        exact ⟨ret_bool (NK.out (by first | rfl | trivial)).symm, H1.out⟩
      | true =>
        go_wp2_with (go_at_call 36; refine (RR.out _ (B1 _ _)).mono ?_; rintro e w2 ⟨rfl, hb⟩; have H1 := Lib.hid (bb (HBL.out.alloc HBL.out.size _) hb); clear hb)
        go_roundw
        case rel => exact ⟨k + 1, by omega, by go_num, fun j hj => by
            by_cases ej : j = k
            · subst ej; rw [HX.out]; exact EN.out.symm
            · exact HTT.out j (by omega), H1.out⟩
        case measure => simp [intOf]; omega
    · obtain rfl : k = m := by omega
      have hlt2 : ¬ (k : Int) < k := by omega
      go_wp2_with fail
      go_ret
      exact ⟨ret_bool (NT.out (fun i hi => HTT.out i (by have := EM.out; omega))).symm, BL.out⟩
def bodB (m : Nat) (ms : Nat → Meas) (l : List Rl) : Bool := decide (bodies m ms l 0 = some (m : Int))
set_option maxRecDepth 100000 in
set_option maxHeartbeats 4000000 in
theorem bodied_any (A : Option Addr) (c : Nat) (l : List Rl) (hl : l.length ≤ 140737488351232) (gb m : Nat) (ms : Nat → Meas) (hm : m ≤ 2048) (hms : ∀ i, i < m → 1 ≤ (ms i).1 ∧ 1 ≤ (ms i).2 ∧ (i : Int) + (ms i).1 ≤ m) (w : World) (hA : Rules w A l) (hM : MeasAt w (.slice (some ⟨gb, 0, none⟩) m m) m ms) :
    Calls Try.prog 67 #[.slice A l.length c, .slice (some ⟨gb, 0, none⟩) m m] w fun e w' => e = .returned (.bool (bodB m ms l)) ∧ Below w.heap.size w w' := by
  have HA := Lib.hid hA
  have HM := Lib.hid hM
  have HS := Lib.hid hms
  obtain ⟨F, eF⟩ : ∃ F, F = bodies m ms l 0 := ⟨_, rfl⟩
  have HV := Lib.hid (show bodB m ms l = decide (F = some (m : Int)) by unfold bodB; rw [eF])
  obtain ⟨v, ev⟩ : ∃ v, v = bodB m ms l := ⟨_, rfl⟩
  rw [← ev] at HV ⊢
  obtain ⟨r, er⟩ : ∃ r, r = l.length := ⟨_, rfl⟩
  rw [← er] at hl ⊢
  have ER := Lib.hid er
  have EF := Lib.hid eF
  clear hA hM hms eF ev er
  go_enter Try.func67, Try.ntmps67
  go_wp2_with fail
  go_loopw [10, 5, 7] (fun i nx _ wr => ∃ (k n : Nat), k ≤ r ∧ i = .int .i64 k ∧ nx = .int .i64 n ∧ n ≤ m ∧ bodies m ms (l.drop k) n = F ∧ Below w.heap.size w wr) (fun i _ _ _ => r - (intOf i).toNat)
  case atStart => exact ⟨0, 0, by omega, rfl, rfl, by omega, by rw [EF.out]; simp, Below.refl _ _⟩
  case round =>
    obtain ⟨k, n, hk, rfl, rfl, hn, hcl, hbl⟩ := hrel
    have BL := Lib.hid hbl
    clear hbl
    by_cases hlt : k < r
    · have hlt2 : (k : Int) < r := by omega
      obtain ⟨b1, o1, rfl, _, c1, c2⟩ := (HA.out.below BL.out).two (show k < l.length by have := ER.out; omega)
      have hkl : k < l.length := by have := ER.out; omega
      rw [List.drop_eq_getElem_cons hkl] at hcl
      have hgd : l[k] = l.getD k Rl.zero := by simp [List.getD, List.getElem?_eq_getElem hkl]
      rw [hgd] at hcl
      generalize l.getD k Rl.zero = x at hcl c1 c2
      unfold bodies at hcl
      by_cases hok : x.body = n ∧ (n : Int) < m ∧ (ms (n : Int).toNat).2 ≤ 16
      · rw [if_pos hok] at hcl
        obtain ⟨h1, h2, h3⟩ := hok
        have hnm : n < m := by omega
        obtain ⟨gb', eg, _, hmc⟩ := HM.out.below BL.out
        cases eg
        obtain ⟨d1, d2⟩ := hmc n hnm
        obtain ⟨s1, s2, s3⟩ := HS.out n hnm
        rw [Int.toNat_natCast] at hcl h3
        have e1 := fun o => (Below.cell (B1 wr o) (p := ⟨gb, n * 2, none⟩) (World.block_lt_of_cell? _ _ d1)).trans d1
        have e2 := fun o => (Below.cell (B1 wr o) (p := ⟨gb, n * 2 + 1, none⟩) (World.block_lt_of_cell? _ _ d2)).trans d2
        generalize ms n = mn at s1 s2 s3 e1 e2 d1 d2 hcl h3
        obtain ⟨sz, ht⟩ := mn
        dsimp only at s1 s2 s3 e1 e2 d1 d2 hcl h3
        obtain ⟨n', hn'⟩ : ∃ n' : Nat, (n' : Int) = n + sz := ⟨(n + sz).toNat, by omega⟩
        rw [← hn'] at hcl
        have HCL := Lib.hid hcl
        have HN' := Lib.hid hn'
        have hb : (x.body != (n : Int)) = false := by simpa using h1
        clear hcl hgd hmc hn' h1
        go_wp2_with fail
        go_roundw
        case rel => exact ⟨k + 1, n', by omega, by go_num, by have := HN'.out; simp only [Value.int.injEq, true_and]; omega, by have := HN'.out; omega, HCL.out, BL.out.alloc BL.out.size _⟩
        case measure => simp [intOf]; omega
      · rw [if_neg hok] at hcl
        have HF := Lib.hid hcl
        clear hcl hgd
        have VF : RowKit.Hid (v = false) := Lib.hid (by rw [HV.out, ← HF.out]; rfl)
        by_cases h1 : x.body = n
        · have hb : (x.body != (n : Int)) = false := by simpa using h1
          by_cases h2 : n < m
          · have h2' : (n : Int) < m := by omega
            have h2'' : ¬ m ≤ n := by omega
            obtain ⟨gb', eg, _, hmc⟩ := HM.out.below BL.out
            cases eg
            obtain ⟨d1, d2⟩ := hmc n h2
            have h3 : 16 < (ms n).2 := by
              by_cases h : (ms n).2 ≤ 16
              · exact absurd ⟨h1, h2', by rw [Int.toNat_natCast]; exact h⟩ hok
              · omega
            have e2 := fun o => (Below.cell (B1 wr o) (p := ⟨gb, n * 2 + 1, none⟩) (World.block_lt_of_cell? _ _ d2)).trans d2
            generalize ms n = mn at d1 d2 h3 e2
            obtain ⟨sz, ht⟩ := mn
            dsimp only at d1 d2 h3 e2
            clear hok hmc h1
            go_wp2_with fail
            go_ret
            exact ⟨ret_bool VF.out.symm, BL.out.alloc BL.out.size _⟩
          · have h2' : ¬ (n : Int) < m := by omega
            have h2'' : m ≤ n := by omega
            have h2b : (m : Int) ≤ n := by omega
            clear hok h1
            go_wp2_with fail
            go_ret
            exact ⟨ret_bool VF.out.symm, BL.out.alloc BL.out.size _⟩
        · have hb : (x.body != (n : Int)) = true := by simpa using h1
          clear hok h1
          go_wp2_with fail
          go_ret
          exact ⟨ret_bool VF.out.symm, BL.out.alloc BL.out.size _⟩
    · obtain rfl : k = r := by omega
      have hlt2 : ¬ (k : Int) < k := by omega
      have hd : l.drop k = [] := List.drop_eq_nil_of_le (by have := ER.out; omega)
      rw [hd, bodies] at hcl
      have HCL := Lib.hid hcl
      clear hcl hd
      go_wp2_with fail
      go_ret
      exact ⟨ret_bool (by rw [HV.out, ← HCL.out, Bool.eq_iff_iff]; simp), BL.out⟩
end Go.Proofs.Ytfdfcagkfnckmaa

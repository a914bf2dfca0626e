/- Plain facts for the law: kinds of copied bodies; where nobody is called, nobody goes. -/
import Derived.Test.YtmlaepbmdfmgbaaQ1
import Derived.Test.YtmlaepbmdfmgbaaL7
import Derived.Test.YtmlaepbmdfmgbaaL5
import Derived.Test.YtmlaepbmdfmgbaaA1
set_option linter.unusedSimpArgs false
set_option linter.unusedVariables false
namespace Go.Proofs.Ytmlaepbmdfmgbaa
open Go Go.RowKit Go.Maps
theorem part_kinds {g : Gr} (hR : Right g) (fr s : Nat) (d : Int) : ∀ y ∈ (((g.nodes.drop fr).take s).map Nd.kz).map (mvk d), 1 ≤ y.kind ∧ y.kind ≤ 12 := by
  intro y hy
  obtain ⟨z, hz, rfl⟩ := List.mem_map.1 hy
  obtain ⟨q, hq, rfl⟩ := List.mem_map.1 hz
  have hq2 : q ∈ g.nodes := List.mem_of_mem_drop (List.mem_of_mem_take hq)
  obtain ⟨i, hi, rfl⟩ := List.getElem_of_mem hq2
  have := hR.all i hi
  rw [nodeOk_iff] at this
  have e : g.nodes.getD i Nd.zero = g.nodes[i] := by simp [List.getD, List.getElem?_eq_getElem hi]
  rw [e] at this
  show 1 ≤ g.nodes[i].kind ∧ g.nodes[i].kind ≤ 12
  unfold NodeIs at this
  omega
theorem hard_kinds {b : List Nd} (h : ∀ y ∈ b, 1 ≤ y.kind ∧ y.kind ≤ 12) : ∀ y ∈ ofL 6 [[leafN 2], b], 1 ≤ y.kind ∧ y.kind ≤ 12 := by
  intro y hy
  rw [hard_eq] at hy
  rcases List.mem_cons.1 hy with rfl | hy
  · exact ⟨by show (1 : Int) ≤ 6; decide, by show (6 : Int) ≤ 12; decide⟩
  · rcases List.mem_cons.1 hy with rfl | hy
    · exact ⟨by show (1 : Int) ≤ 2; decide, by show (2 : Int) ≤ 12; decide⟩
    · obtain ⟨z, hz, rfl⟩ := List.mem_map.1 hy
      exact h z hz
theorem soft_kinds {b : List Nd} (h : ∀ y ∈ b, 1 ≤ y.kind ∧ y.kind ≤ 12) : ∀ y ∈ ofL 6 [ofL 12 [[leafN 1]], b], 1 ≤ y.kind ∧ y.kind ≤ 12 := by
  intro y hy
  rw [soft6_eq] at hy
  rcases List.mem_cons.1 hy with rfl | hy
  · exact ⟨by show (1 : Int) ≤ 6; decide, by show (6 : Int) ≤ 12; decide⟩
  · rcases List.mem_cons.1 hy with rfl | hy
    · exact ⟨by show (1 : Int) ≤ 12; decide, by show (12 : Int) ≤ 12; decide⟩
    · rcases List.mem_cons.1 hy with rfl | hy
      · exact ⟨by show (1 : Int) ≤ 1; decide, by show (1 : Int) ≤ 12; decide⟩
      · obtain ⟨z, hz, rfl⟩ := List.mem_map.1 hy
        exact h z hz
theorem goes_none {x : Gr} (hR : Right x) (h : ∀ i, i < x.rules.length → lcal x i = []) (i : Nat) (hi : i < x.rules.length) : goesB x i = false := by
  rw [goesB_iff hR hi]
  cases e : tB x i i with
  | false => rfl
  | true =>
    have ht := (tB_iff hR hi).1 e
    have key : ∀ q, To (lcal x) i q → False := fun q hq => by
      induction hq with
      | one hk => rw [h i hi] at hk; cases hk
      | more _ _ ih => exact ih
    exact (key i ht).elim
theorem graphs_same {x g : Gr} (hl : x.rules.length = g.rules.length) (h : ∀ i, i < g.rules.length → lcal x i = lcal g i) : graphOf x = graphOf g := by
  unfold graphOf
  rw [hl]
  exact List.map_congr_left fun i hi => h i (by simpa using hi)
theorem graphOf_rows (g : Gr) (hR : Right g) (i : Nat) : ((graphOf g).getD i []).length ≤ 32 := by
  have := hR.rules.2
  by_cases hi : i < g.rules.length
  · rw [graphOf_at hi]
    have := lcal_len g i
    omega
  · have : (graphOf g).getD i [] = [] := by
      simp only [List.getD]
      rw [List.getElem?_eq_none (by rw [graphOf_len]; omega)]
      rfl
    rw [this]
    simp
end Go.Proofs.Ytmlaepbmdfmgbaa
namespace Go.Proofs.Ytmlaepbmdfmgbaa
open Go Go.RowKit Go.Maps
theorem Rows2.cell_at {w W : World} {gb : Nat} {vs : List Value} {L : List (List Nat)} (h : Rows2 w W gb vs L) {i : Nat} (hi : i < L.length) :
    ∃ A c, W.cell? ⟨gb, i, none⟩ = some (.slice A (L.getD i []).length c) ∧ Lies W A (ints (nums (L.getD i []))) := by
  obtain ⟨A, c, e, _, _⟩ := own_slice (h.row i hi)
  have hc := h.blk.cell i
  have hv : i < vs.length := by rw [h.len]; exact hi
  have e2 : vs.getD i undef = vs[i] := by simp [List.getD, hv]
  refine ⟨A, c, ?_, ?_⟩
  · rw [hc, ← e, e2]
    simp [hv]
  · have := h.row i hi
    rw [e] at this
    exact own_lies1 this
set_option maxRecDepth 100000 in
set_option maxHeartbeats 2000000 in
theorem rows2_same (L : List (List Nat)) (hl : L.length ≤ 32) (hr : ∀ i, (L.getD i []).length ≤ 32) (wa wb w : World) (ga gb : Nat) (va vb : List Value) (hA : Rows2 wa w ga va L) (hB : Rows2 wb w gb vb L) :
    Calls Try.prog 23 #[.slice (some ⟨ga, 0, none⟩) L.length L.length, .slice (some ⟨gb, 0, none⟩) L.length L.length] w fun e w' => e = .returned (.bool true) ∧ Below w.heap.size w w' := by
  have HA := Lib.hid hA
  have HB := Lib.hid hB
  have HR := Lib.hid hr
  obtain ⟨m, em⟩ : ∃ m, m = L.length := ⟨_, rfl⟩
  have EM := Lib.hid em
  rw [← em] at hl ⊢
  clear hA hB hr em
  go_enter Try.func23, Try.ntmps23
  go_wp2_with fail
  go_loopw [5] (fun i wr => ∃ k : Nat, k ≤ m ∧ i = .int .i64 k ∧ Below w.heap.size w wr) (fun i _ => m - (intOf i).toNat)
  case atStart => exact ⟨0, by omega, rfl, Below.refl _ _⟩
  case round =>
    obtain ⟨k, hk, rfl, hb⟩ := hrel
    have HBL := Lib.hid hb
    by_cases hlt : k < m
    · have hlt2 : (k : Int) < m := by omega
      obtain ⟨B1, d1, c1, hl1⟩ := (HA.out.below hb).cell_at (i := k) (by have := EM.out; omega)
      obtain ⟨B2, d2, c2, hl2⟩ := (HB.out.below hb).cell_at (i := k) (by have := EM.out; omega)
      have S2 := Lib.hid (fun (e : Ext wr) => show Calls Try.prog 44 #[.slice B1 (L.getD k []).length d1, .slice B2 (L.getD k []).length d2] e.val fun x w' => x = .returned (.bool true) ∧ Below e.val.heap.size e.val w' from same_row B1 B2 d1 d2 _ (by have := HR.out k; omega) e.val (hl1.below e.grown) (hl2.below e.grown))
      have e1 := fun (e : Ext wr) => Ext.cell c1 e
      have e2 := fun (e : Ext wr) => Ext.cell c2 e
      generalize (L.getD k []).length = x1 at e1 e2 S2
      clear hb c1 c2 hl1 hl2
      go_wp2_with fail
      refine wp_region_ext (by kernel_rfl) (by kernel_rfl) ?_
      repeat (first | go_big_quiet_step (first | (go_at_call 44; exact Calls.ext_of (S2.out _))) | quiet_step (first | (go_at_call 44; exact Calls.ext_of (S2.out _))))
      refine wpQuiet_nil ?_
      intro w9 hw'
      obtain ⟨⟨_, hb9⟩, rfl⟩ := hw'
      have H9 := Lib.hid (HBL.out.trans (hb9.mono HBL.out.size))
      clear hb9 e1 e2
      go_wp2_with fail
      go_roundw
      case rel => exact ⟨k + 1, by omega, by go_num, H9.out⟩
      case measure => simp [intOf]; omega
    · obtain rfl : k = m := by omega
      have hlt2 : ¬ (k : Int) < k := by omega
      clear hb
      go_wp2_with fail
      go_ret
      exact ⟨rfl, HBL.out⟩
end Go.Proofs.Ytmlaepbmdfmgbaa
namespace Go.Proofs.Ytmlaepbmdfmgbaa
open Go Go.RowKit Go.Maps
theorem right_n (x : Gr) (n : Nat) (hn : x.rules.length = n) (hin : Gr.In x) (W : World) (h : Gr.At W x) : Calls Try.prog 7 #[.agg #[.slice x.RA n x.rc, .slice x.NA x.nodes.length x.nc]] W fun e w' => e = .returned (.bool (rightB x)) ∧ Below W.heap.size W w' := by
  subst hn
  exact right_all x W h hin
theorem graph_n (x : Gr) (n : Nat) (L : List (List Nat)) (hL : graphOf x = L) (hn : x.rules.length = n) (hin : Gr.In x) (hc : Capd x) (hR : Right x) (W : World) (h : Gr.At W x) : Calls Try.prog 21 #[.agg #[.slice x.RA n x.rc, .slice x.NA x.nodes.length x.nc]] W fun e w' => ∃ gb vs, e = .returned (.slice (some ⟨gb, 0, none⟩) n n) ∧ Rows2 W w' gb vs L := by
  subst hn
  subst hL
  exact graph_any x W h hin hc hR
theorem goes_n (x : Gr) (n : Nat) (hn : x.rules.length = n) (hin : Gr.In x) (hc : Capd x) (k : Nat) (hk : k < 100) (v : Bool) (hv : goesB x k = v) (W : World) (h : Gr.At W x) : Calls Try.prog 22 #[.agg #[.slice x.RA n x.rc, .slice x.NA x.nodes.length x.nc], .int .i64 k] W fun e w' => e = .returned (.bool v) ∧ Below W.heap.size W w' := by
  subst hn
  subst hv
  exact goes_any x k (by omega) W h hin hc
theorem rows2_n (L : List (List Nat)) (n : Nat) (hn : L.length = n) (hl : n ≤ 32) (hr : ∀ i, (L.getD i []).length ≤ 32) (wa wb w : World) (ga gb : Nat) (va vb : List Value) (hA : Rows2 wa w ga va L) (hB : Rows2 wb w gb vb L) :
    Calls Try.prog 23 #[.slice (some ⟨ga, 0, none⟩) n n, .slice (some ⟨gb, 0, none⟩) n n] w fun e w' => e = .returned (.bool true) ∧ Below w.heap.size w w' := by
  subst hn
  exact rows2_same L hl hr wa wb w ga gb va vb hA hB
theorem getD_bodies (hs : List Bdy) (k : Nat) (hk : k < hs.length) : (hs.map fun b => b.2.2.map Nd.kz).getD k [] = (hs.getD k (none, 0, [])).2.2.map Nd.kz := by
  simp [List.getD, hk]
theorem none_cell {w W : World} {gb : Nat} {vs : List Value} {x : Gr} (h : Rows2 w W gb vs (graphOf x)) (he : ∀ k, k < x.rules.length → lcal x k = []) {k : Nat} (hk : k < x.rules.length) : ∃ A c, W.cell? ⟨gb, k, none⟩ = some (.slice A 0 c) := by
  obtain ⟨A, c, h1, _⟩ := h.cell_at (i := k) (by rw [graphOf_len]; exact hk)
  rw [graphOf_at hk, he k hk] at h1
  exact ⟨A, c, h1⟩
end Go.Proofs.Ytmlaepbmdfmgbaa

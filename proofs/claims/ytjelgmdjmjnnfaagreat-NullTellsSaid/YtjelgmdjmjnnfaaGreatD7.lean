/- How many rules, nodes, kids there are: some number. Pick. -/
import Derived.Test.YtjelgmdjmjnnfaaGreatA7
import Derived.Test.YtjelgmdjmjnnfaaGreatD5
import Derived.Test.YtjelgmdjmjnnfaaGreatD6
set_option linter.unusedSimpArgs false
set_option linter.unusedVariables false
namespace Go.Proofs.YtjelgmdjmjnnfaaGreat
open Go Go.RowKit
set_option maxHeartbeats 400000 in
theorem pick_any (x n : Int) (hx : -9223372036854775808 ≤ x ∧ x < 9223372036854775808) (hn : 1 ≤ n ∧ n < 9223372036854775808) (w : World) :
    Calls Tryz.prog 11 #[.int .i64 x, .int .i64 n] w fun e w' => e = .returned (.int .i64 (x % n)) ∧ w = w' := by
  have h1 := Int.emod_nonneg x (show n ≠ 0 by omega)
  have h2 := Int.emod_lt_of_pos x (show 0 < n by omega)
  have ht := Int.tmod_eq_emod (a := x) (b := n)
  have hd0 : n ≠ 0 := by omega
  have hd1 : (n == 0) = false := by simpa using hd0
  obtain ⟨y, ey⟩ : ∃ y, y = x.tmod n := ⟨_, rfl⟩
  rw [← ey] at ht
  obtain ⟨z, ez⟩ : ∃ z, z = x % n := ⟨_, rfl⟩
  rw [← ez] at ht h1 h2 ⊢
  have hcase : (0 ≤ y ∧ y = z) ∨ (y < 0 ∧ y + n = z) := by
    split at ht
    · left; omega
    · right; omega
  have hy : x.tmod n = y := ey.symm
  have hn1 : ¬ n < 1 := by omega
  have hwy : IntKind.i64.wrap y = y := IntWalk.i64_in _ (by omega)
  clear ht ez ey hx
  rcases hcase with ⟨h3, rfl⟩ | ⟨h3, h4⟩
  · go_enter Tryz.func11, Tryz.ntmps11
    go_wp2_with fail
    go_ret
    exact ⟨rfl, rfl⟩
  · have hwz : IntKind.i64.wrap (y + n) = z := (IntWalk.i64_in _ (by omega)).trans h4
    clear h4
    go_enter Tryz.func11, Tryz.ntmps11
    go_wp2_with fail
    go_ret
    exact ⟨rfl, rfl⟩
end Go.Proofs.YtjelgmdjmjnnfaaGreat
namespace Go.Proofs.YtjelgmdjmjnnfaaGreat
open Go Go.RowKit Go.Maps
theorem leaf_kids {x : Nd} {r : Int} (h : nodeOk x r = true) (hk : x.kind = 2 ∨ x.kind = 3 ∨ x.kind = 4 ∨ x.kind = 5) : x.kids = [] := by
  rcases hk with e | e | e | e
  · rw [nodeOk_of (n := 199) (by rw [e]; decide)] at h
    simp [tk, sameNd, bare] at h
    exact h.2.2.2.2
  · rw [nodeOk_of (n := 200) (by rw [e]; decide)] at h
    simp [tk, sameNd, bare] at h
    exact h.2.2.2.2
  · rw [nodeOk_of (n := 201) (by rw [e]; decide)] at h
    simp [tk, sameNd, bare] at h
    exact h.2.2.2.2
  · rw [nodeOk_of (n := 202) (by rw [e]; decide)] at h
    simp [tk, sameNd, bare] at h
    exact h.2.2.2
theorem k234 {k : Int} (h : k = 2 ∨ k = 3 ∨ k = 4) : k = 2 ∨ k = 3 ∨ k = 4 ∨ k = 5 := by omega
theorem bare_ok (k r : Int) (hk : k = 1 ∨ k = 2) : nodeOk (bare k) r = true := by
  rcases hk with rfl | rfl
  · rw [nodeOk_of (n := 199) (by decide)]
    simp [tk, sameNd, bare]
  · rw [nodeOk_of (n := 199) (by decide)]
    simp [tk, sameNd, bare]
theorem never {x : Nd} (hk : x.kind = 2 ∨ x.kind = 3 ∨ x.kind = 4) (f inn : Int → Bool) : stepMay x f inn = false := by
  unfold stepMay
  rcases hk with e | e | e <;> simp [e]
theorem bare1_may (f inn : Int → Bool) : stepMay (bare 1) f inn = true := by unfold stepMay; simp [bare]
theorem call_step {x : Nd} (hk : x.kind = 5) (f inn : Int → Bool) : stepMay x f inn = inn x.rule := by unfold stepMay; simp [hk]
theorem bare_in (k : Int) (hk : 1 ≤ k ∧ k ≤ 12) : Nd.In (bare k) := by
  refine ⟨by simp only [bare]; omega, by show (0 : Nat) ≤ _; omega⟩
theorem twin_kz {g h : Gr} (t : GTwin g h) : h.kz = g.kz := by
  unfold Gr.kz
  rw [t.rules]
  congr 1
  apply List.ext_getElem (by simp [t.len])
  intro i h1 h2
  simp only [List.length_map] at h1 h2
  have := t.node i h2
  simp only [List.getD, List.getElem?_eq_getElem h1, List.getElem?_eq_getElem h2, Option.getD_some] at this
  obtain ⟨A, c, e⟩ := this
  simp only [List.getElem_map]
  rw [e]
  rfl
theorem turn_kz {g h : Gr} (t : GTwin g h) (c : Nat) (y : Nd) : (h.turn c y).kz = (g.turn c y).kz := by
  have := twin_kz t
  unfold Gr.kz at this ⊢
  simp only [Gr.mk.injEq, true_and] at this
  simp only [Gr.turn, List.map_set]
  rw [this.1, this.2]
theorem rulesOf_kz (g : Gr) : rulesOf g.kz = rulesOf g := by
  unfold rulesOf
  rw [rightB_kz, ranks_kz]
  rfl
theorem rankOf_pos (g : Gr) (i : Int) : 0 ≤ rankOf g i := by
  unfold rankOf
  split
  · exact ranks_pos g _
  · omega
set_option maxHeartbeats 1000000 in
theorem ints_same (A B : Option Addr) (c d : Nat) (a b : List Int) (ha : a.length ≤ 140737488351232) (hb : b.length ≤ 140737488351232) (w : World) (hA : Lies w A (ints a)) (hB : Lies w B (ints b)) :
    Calls Tryz.prog 39 #[.slice A a.length c, .slice B b.length d] w fun e w' => e = .returned (.bool (decide (a = b))) ∧ ∃ n, w' = w.drewN n := by
  have HA := Lib.hid hA
  have HB := Lib.hid hB
  clear hA hB
  by_cases hl : a.length = b.length
  · have HL := Lib.hid hl
    obtain ⟨m, em⟩ : ∃ m, m = b.length := ⟨_, rfl⟩
    rw [← em] at hl hb ⊢
    rw [hl] at ha ⊢
    have EM := Lib.hid em
    clear em hl
    go_enter Tryz.func39, Tryz.ntmps39
    go_wp2_with fail
    go_loopw [5] (fun i wr => ∃ (k n : Nat), k ≤ m ∧ i = .int .i64 k ∧ a.take k = b.take k ∧ wr = w.drewN n) (fun i _ => m - (intOf i).toNat)
    case atStart => exact ⟨0, 0, by omega, rfl, by simp, rfl⟩
    case round =>
      obtain ⟨k, n, hk, rfl, ht, rfl⟩ := hrel
      have HT := Lib.hid ht
      clear ht
      by_cases hlt : k < m
      · have hlt2 : (k : Int) < m := by omega
        obtain ⟨b1, o1, rfl, _, c1⟩ := lies_cell HA.out (show k < a.length by have := HL.out; have := EM.out; omega)
        obtain ⟨b2, o2, rfl, _, c2⟩ := lies_cell HB.out (show k < b.length by have := EM.out; omega)
        have HS := Lib.hid (take_same (a := a) (b := b) (k := k) (by have := HL.out; have := EM.out; omega) HL.out HT.out)
        have HN := Lib.hid (@getD_ne a b k)
        generalize a.getD k 0 = x at c1 HS HN
        generalize b.getD k 0 = y at c2 HS HN
        by_cases hxy : x = y
        · have HK := Lib.hid (HS.out.2 hxy)
          have hb : (x == y) = true := by simpa using hxy
          have hb2 : (x != y) = false := by simpa using hxy
          clear HS HN hxy
          go_wp2_with fail
          go_quiet (fail)
          go_wp2_with fail
          go_roundw
          case rel => exact ⟨k + 1, n + nq, by omega, by go_num, HK.out, by first | rfl | exact World.drewN_drewN _ _ _⟩
          case measure => simp [intOf]; omega
        · have HK := Lib.hid (HN.out hxy)
          have hb : (x == y) = false := by simpa using hxy
          have hb2 : (x != y) = true := by simpa using hxy
          clear HS HN hxy
          go_wp2_with fail
          go_quiet (fail)
          go_wp2_with fail
          go_ret
          exact ⟨ret_bool (by simpa using HK.out), n + nq, by first | rfl | exact World.drewN_drewN _ _ _⟩
      · obtain rfl : k = m := by omega
        have hlt2 : ¬ (k : Int) < k := by omega
        go_wp2_with fail
        go_ret
        exact ⟨ret_bool (by have := HT.out; rw [List.take_of_length_le (by have := HL.out; have := EM.out; omega), List.take_of_length_le (by have := EM.out; omega)] at this; simp [this]), n, rfl⟩
  · have hne : ¬ (a.length : Int) = b.length := by omega
    have hv : decide (a = b) = false := by simp; intro e; rw [e] at hl; exact hl rfl
    rw [hv]
    clear hv hl
    go_enter Tryz.func39, Tryz.ntmps39
    go_wp2_with fail
    go_ret
    exact ⟨rfl, 0, rfl⟩
theorem rows_le (g : Gr) (hR : Right g) : (rulesOf g).length ≤ 140737488351232 ∧ (nodesOf g).length ≤ 140737488351232 := by
  have h1 := hR.rules.2
  have h2 := hR.nodes
  rw [nodesOf_of hR]
  unfold rulesOf
  rw [rightB_true.2 hR]
  have h3 := rowOf_len (fun i => inB (ranks g) i) g.rules.length
  have h4 := rowOf_len (fun n => mayN g.nodes (inB (ranks g)) n) g.nodes.length
  exact ⟨by simp only [if_true]; omega, by omega⟩
theorem same_row (A B : Option Addr) (c d : Nat) (L : List Nat) (hl : L.length ≤ 140737488351232) (w : World) (hA : Lies w A (ints (nums L))) (hB : Lies w B (ints (nums L))) :
    Calls Tryz.prog 39 #[.slice A L.length c, .slice B L.length d] w fun e w' => e = .returned (.bool true) ∧ Below w.heap.size w w' := by
  have := ints_same A B c d (nums L) (nums L) (by rw [nums_len]; exact hl) (by rw [nums_len]; exact hl) w hA hB
  rw [nums_len] at this
  refine this.mono ?_
  rintro e w' ⟨rfl, n, rfl⟩
  exact ⟨by rw [decide_eq_true rfl], bdrew (Below.refl _ _)⟩
theorem turn_in_ {g h : Gr} (t : GTwin g h) (hi : Gr.In g) (c : Nat) (k : Int) (hk : 1 ≤ k ∧ k ≤ 12) : Gr.In (h.turn c (bare k)) := by
  intro x hx
  rcases List.mem_or_eq_of_mem_set hx with hx | rfl
  · exact (t.within hi) x hx
  · exact bare_in k hk
/-- A Text, a Set, an Any made an Empty. -/
theorem more_empty {g h : Gr} {c : Nat} (hR : Right g) (t : GTwin g h) (hc : c < g.nodes.length) (hk : (g.nodes.getD c Nd.zero).kind = 2 ∨ (g.nodes.getD c Nd.zero).kind = 3 ∨ (g.nodes.getD c Nd.zero).kind = 4) :
    nodeB (h.turn c (bare 1)) c = true ∧ nodeB g c = false ∧ ∀ i, i < g.rules.length → 0 < (ranks g).getD i 0 → 0 < rankOf (h.turn c (bare 1)) i ∧ rankOf (h.turn c (bare 1)) i ≤ (ranks g).getD i 0 := by
  have hkids : (bare 1).kids = (g.nodes.getD c Nd.zero).kids := by
    rw [leaf_kids (hR.all c hc) (k234 hk)]; rfl
  have hR2 : Right (g.turn c (bare 1)) := turn_right hR hc hkids (bare_ok 1 _ (.inl rfl))
  refine ⟨?_, ?_, fun i hi h0 => ?_⟩
  · rw [← nodeB_kz, turn_kz t, nodeB_kz, nodeB_of hR2 c (by rw [turn_len]; exact hc), mayN_eq (turn_up_kids hR hc hkids) _ (by omega) (by rw [turn_len]; omega), Int.toNat_natCast, turn_at hc]
    exact bare1_may _ _
  · rw [nodeB_of hR c hc, mayN_eq hR.kidsUp _ (by omega) (by omega), Int.toNat_natCast]
    exact never hk _ _
  · rw [← rankOf_kz, turn_kz t, rankOf_kz, rank_of hR2 i hi]
    exact turn_rank hR hc hkids (fun f inn => never hk f inn) i h0
/-- A Call of a rule that may not made an Any. -/
theorem more_any {g h : Gr} {c : Nat} (hR : Right g) (t : GTwin g h) (hc : c < g.nodes.length) (hk : (g.nodes.getD c Nd.zero).kind = 5) (h0 : ¬ 0 < (ranks g).getD (g.nodes.getD c Nd.zero).rule.toNat 0) :
    rulesOf (h.turn c (bare 2)) = rulesOf g ∧ nodesOf (h.turn c (bare 2)) = nodesOf g := by
  have hkids : (bare 2).kids = (g.nodes.getD c Nd.zero).kids := by
    rw [leaf_kids (hR.all c hc) (.inr (.inr (.inr hk)))]; rfl
  have hR2 : Right (g.turn c (bare 2)) := turn_right hR hc hkids (bare_ok 2 _ (.inr rfl))
  have hn : ∀ f k, stepMay (g.nodes.getD c Nd.zero) f (inB (rk g k)) = false := fun f k => by
    rw [call_step hk]
    unfold inB
    apply decide_eq_false
    intro hp
    apply h0
    by_cases hkl : k ≤ g.rules.length
    · have := rk_keep g k _ hp (g.rules.length - k)
      rw [show k + (g.rules.length - k) = g.rules.length by omega] at this
      show 0 < (rk g g.rules.length).getD _ 0
      rw [this]; exact hp
    · have : rk g k = ranks g := by
        obtain ⟨N, n1, n2, _⟩ := rounds_end g
        have e := rk_stay g N n2 (k - N)
        rw [show N + (k - N) = k by omega] at e
        rw [e, ranks_fix g n1 n2]
      rw [this] at hp
      exact hp
  have hrk : ranks (g.turn c (bare 2)) = ranks g := turn_rk hR hc hkids hn (fun f inn => never (.inl rfl) f inn) _
  constructor
  · rw [← rulesOf_kz, turn_kz t, rulesOf_kz]
    unfold rulesOf
    rw [rightB_true.2 hR, rightB_true.2 hR2, hrk, turn_rules]
  · rw [← nodesOf_kz, turn_kz t, nodesOf_kz, nodesOf_of hR, nodesOf_of hR2, hrk, turn_len]
    apply rowOf_congr
    intro i hi
    exact turn_same hR hc hkids _ (fun f => hn f g.rules.length) (fun f => never (.inl rfl) f _) i (by omega) (by omega)
set_option maxRecDepth 100000 in
set_option maxHeartbeats 2000000 in
theorem size11_all (g : Gr) (w : World) (hg : Gr.At w g) : Calls Tryz.prog 8 #[g.val] w fun e w' => (∃ z : Int, e = .returned (.int .i64 z) ∧ (z ≤ 300 → g.rules.length + g.nodes.length ≤ 300 ∧ ∀ x ∈ g.nodes, x.kids.length ≤ 300)) ∧ Below w.heap.size w w' := by
  have HG := Lib.hid hg
  have h1 := hg.rl
  have h2 := hg.nl
  obtain ⟨RA, rc, rules, NA, nc, nodes⟩ := g
  dsimp only at h1 h2
  obtain ⟨m, em⟩ : ∃ m, m = nodes.length := ⟨_, rfl⟩
  obtain ⟨r, er⟩ : ∃ m, m = rules.length := ⟨_, rfl⟩
  show Calls Tryz.prog 8 #[.agg #[.slice RA rules.length rc, .slice NA nodes.length nc]] w _
  have EM := Lib.hid em
  have ER := Lib.hid er
  rw [← em, ← er]
  rw [← em] at h2
  rw [← er] at h1
  clear hg em er
  go_enter Tryz.func8, Tryz.ntmps8
  go_wp2_with fail
  obtain ⟨wb, ewb⟩ : ∃ u, u = w.alloc (.cells #[.slice RA r rc, .slice NA m nc] 25) := ⟨_, rfl⟩
  have hb2 : Below w.heap.size w wb := by rw [ewb]; exact B1 _ _
  have c0 : wb.cell? ⟨w.heap.size, 0, none⟩ = some (.slice RA r rc) := by rw [ewb]; exact (Blk.new _ _ _).cell 0
  have c1 : wb.cell? ⟨w.heap.size, 1, none⟩ = some (.slice NA m nc) := by rw [ewb]; exact (Blk.new _ _ _).cell 1
  rw [← ewb]
  have BB := Lib.hid hb2
  clear ewb hb2
  go_loopw [3, 4] (fun s i wr => ∃ (k : Nat) (n : Int), k ≤ m ∧ s = .int .i64 n ∧ i = .int .i64 k ∧ n ≤ 500000000000000 ∧ (r + m : Nat) ≤ n ∧ (∀ j, j < k → ((nodes.getD j Nd.zero).kids.length : Int) ≤ n) ∧ wr = wb) (fun _ i _ => m - (intOf i).toNat)
  case atStart => exact ⟨0, r + m, by omega, rfl, rfl, by omega, by omega, fun j h => by omega, rfl⟩
  case round =>
    obtain ⟨k, n, hk, rfl, rfl, hn, hn0, hkk, rfl⟩ := hrel
    have HK := Lib.hid hkk
    clear hkk
    by_cases hlt : k < m
    · have hlt2 : (k : Int) < m := by omega
      by_cases hle : n ≤ 300
      · obtain ⟨b1, o1, eA, _, _, _, _, _, _, _, _, _, c9⟩ := (HG.out.below BB.out).nodes.nine (show k < nodes.length by have := EM.out; omega)
        have hx := ((HG.out.below BB.out).node (show k < nodes.length by have := EM.out; omega)).2.2
        dsimp only at eA c9 hx
        rw [eA] at c1
        generalize hxx : nodes.getD k Nd.zero = x at c9 hx
        have HX := Lib.hid hxx
        clear eA hxx
        go_wp2_with fail
        go_roundw
        case rel => exact ⟨k + 1, n + x.kids.length, by omega, by first | rfl | go_num, by go_num, by omega, by omega, fun j hj => (by
          by_cases ej : j = k
          · subst ej; rw [HX.out]; omega
          · have := HK.out j (by omega); omega), by first | trivial | rfl⟩
        case measure => simp [intOf]; omega
      · have hle2 : 300 < n := by omega
        go_wp2_with fail
        go_ret
        exact ⟨⟨n, rfl, fun h => absurd h (by omega)⟩, BB.out⟩
    · obtain rfl : k = m := by omega
      have hlt2 : ¬ (k : Int) < k := by omega
      go_wp2_with fail
      go_ret
      exact ⟨⟨n, rfl, fun h => ⟨by have := EM.out; have := ER.out; omega, fun x hx => by
        obtain ⟨j, hj, rfl⟩ := List.getElem_of_mem hx
        have := HK.out j (by have := EM.out; omega)
        simp only [List.getD, List.getElem?_eq_getElem hj, Option.getD_some] at this
        skip
        omega⟩⟩, BB.out⟩
end Go.Proofs.YtjelgmdjmjnnfaaGreat
namespace Go.Proofs.YtjelgmdjmjnnfaaGreat
open Go Go.RowKit
end Go.Proofs.YtjelgmdjmjnnfaaGreat
namespace Go.Proofs.YtjelgmdjmjnnfaaGreat
open Go Go.RowKit
/-- Two grammars are the same, part by part. -/
def sameGr (g h : Gr) : Bool := rowSame Rl.zero sameRl g.rules h.rules && rowSame Nd.zero sameNd g.nodes h.nodes
theorem bel {w w1 w2 : World} (h1 : Below w.heap.size w w1) (h2 : Below w1.heap.size w1 w2) : Below w.heap.size w w2 := bb h1 h2
end Go.Proofs.YtjelgmdjmjnnfaaGreat

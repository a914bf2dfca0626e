/- The place of the rule of a name: the program's answer, the document's. -/
import Derived.Test.YtfdfcagkfnckmaaWe
namespace Go.Proofs.Ytfdfcagkfnckmaa
open Go Go.RowKit
def ruleFrom (s : ByteArray) : Nat → List Rl → Int
  | _, [] => -1
  | i, r :: l => if r.name = s then i else ruleFrom s (i + 1) l
def ruleAt (l : List Rl) (s : ByteArray) : Int := ruleFrom s 0 l
theorem ruleFrom_hit (s : ByteArray) : ∀ (l : List Rl) (i k : Nat), (∀ j, j < k → (l.getD j Rl.zero).name ≠ s) → k < l.length → (l.getD k Rl.zero).name = s → ruleFrom s i l = (i + k : Nat)
  | [], _, _, _, h, _ => by simp at h
  | r :: l, i, 0, _, _, h => by
    have : r.name = s := by simpa using h
    simp [ruleFrom, this]
  | r :: l, i, k + 1, h1, h2, h3 => by
    have h0 : r.name ≠ s := by have := h1 0 (by omega); simpa using this
    rw [ruleFrom, if_neg h0, ruleFrom_hit s l (i + 1) k (fun j hj => by have := h1 (j + 1) (by omega); simpa using this) (by simpa using h2) (by simpa using h3)]
    congr 1
    omega
theorem ruleFrom_miss (s : ByteArray) : ∀ (l : List Rl) (i : Nat), (∀ j, j < l.length → (l.getD j Rl.zero).name ≠ s) → ruleFrom s i l = -1
  | [], _, _ => rfl
  | r :: l, i, h => by
    have h0 : r.name ≠ s := by have := h 0 (by simp); simpa using this
    rw [ruleFrom, if_neg h0]
    exact ruleFrom_miss s l (i + 1) (fun j hj => by have := h (j + 1) (by simpa using hj); simpa using this)
theorem ruleAt_hit {l : List Rl} {s : ByteArray} (k : Nat) (h1 : ∀ j, j < k → (l.getD j Rl.zero).name ≠ s) (h2 : k < l.length) (h3 : (l.getD k Rl.zero).name = s) : ruleAt l s = k := by
  have := ruleFrom_hit s l 0 k h1 h2 h3
  rw [Nat.zero_add] at this
  exact this
theorem ruleAt_miss {l : List Rl} {s : ByteArray} (h : ∀ j, j < l.length → (l.getD j Rl.zero).name ≠ s) : ruleAt l s = -1 := ruleFrom_miss s l 0 h
theorem ask_any (a s : ByteArray) (b : Int) (p : Nat) (w : World) (hp : w.cell? ⟨p, 0, none⟩ = some (.string s)) :
    Calls Try.prog 41 #[.agg #[.string a, .int .i64 b], .pointer (some ⟨p, 0, none⟩)] w fun e w' => e = .returned (.bool (decide (a = s))) ∧ Below w.heap.size w w' := by
  have hp2 : ∀ o, (w.alloc o).cell? ⟨p, 0, none⟩ = some (.string s) := fun o => by rw [(B1 w o).cell (p := ⟨p, 0, none⟩) (World.block_lt_of_cell? _ _ hp)]; exact hp
  clear hp
  go_enter Try.func41, Try.ntmps41
  go_wp2_with fail
  go_ret
  exact ⟨ret_bool (by rw [Bool.eq_iff_iff]; simp [tl_inj]), B1 _ _⟩
set_option maxRecDepth 100000 in
set_option maxHeartbeats 2000000 in
theorem index_any (A : Option Addr) (c : Nat) (a : List Rl) (s : ByteArray) (p : Nat) (ha : a.length ≤ 140737488351232) (w : World) (hA : Rules w A a) (hp : w.cell? ⟨p, 0, none⟩ = some (.string s)) :
    Calls Try.prog 40 #[.slice A a.length c, .func (.func 41) #[] #[.pointer (some ⟨p, 0, none⟩)]] w fun e w' => e = .returned (.int .i64 (ruleAt a s)) ∧ Below w.heap.size w w' := by
  have HA := Lib.hid hA
  have RH := Lib.hid (ruleAt_hit (l := a) (s := s))
  have RM := Lib.hid (ruleAt_miss (l := a) (s := s))
  have ASK := Lib.hid (fun (x : ByteArray) (b : Int) (w' : World) (h : Below w.heap.size w w') => ask_any x s b p w' ((h.cell (p := ⟨p, 0, none⟩) (World.block_lt_of_cell? _ _ hp)).trans hp))
  obtain ⟨v, ev⟩ : ∃ v, v = ruleAt a s := ⟨_, rfl⟩
  rw [← ev] at RH RM ⊢
  obtain ⟨m, em⟩ : ∃ m, m = a.length := ⟨_, rfl⟩
  rw [← em] at ha ⊢
  have EM := Lib.hid em
  clear hA hp ev em
  go_enter Try.func40, Try.ntmps40
  go_wp2_with fail
  go_loopw [8, 5] (fun i _ wr => ∃ k : Nat, k ≤ m ∧ i = .int .i64 k ∧ (∀ j, j < k → (a.getD j Rl.zero).name ≠ s) ∧ Below w.heap.size w wr) (fun i _ _ => m - (intOf i).toNat)
  case atStart => exact ⟨0, by omega, rfl, fun j h => by omega, Below.refl _ _⟩
  case round =>
    obtain ⟨k, hk, rfl, ht, hbl⟩ := hrel
    have HT := Lib.hid ht
    have BL := Lib.hid hbl
    clear ht hbl
    by_cases hlt : k < m
    · have hlt2 : (k : Int) < m := by omega
      obtain ⟨b1, o1, rfl, _, c1, c2⟩ := (HA.out.below BL.out).two (show k < a.length by have := EM.out; omega)
      generalize hx : a.getD k Rl.zero = x at c1 c2
      have HX := Lib.hid hx
      clear hx
      by_cases e : x.name = s
      · have A1 := Lib.hid (ASK.out x.name x.body)
        have hd : decide (x.name = s) = true := by simpa using e
        rw [hd] at A1
        have E := Lib.hid e
        clear hd e
        go_wp2_with (go_at_call 41; refine (A1.out _ BL.out).mono ?_; rintro e w1 ⟨rfl, hb⟩; have H1 := Lib.hid (bb BL.out hb); clear hb)
        go_ret
        exact ⟨ret_int (RH.out k HT.out (by have := EM.out; omega) (by rw [HX.out]; exact E.out)).symm, H1.out⟩
      · have A1 := Lib.hid (ASK.out x.name x.body)
        have hd : decide (x.name = s) = false := by simpa using e
        rw [hd] at A1
        have E := Lib.hid e
        clear hd e
        go_wp2_with (go_at_call 41; refine (A1.out _ BL.out).mono ?_; rintro e w1 ⟨rfl, hb⟩; have H1 := Lib.hid (bb BL.out hb); clear hb)
        go_roundw
        case rel => exact ⟨k + 1, by omega, by go_num, fun j hj => by
            by_cases e : j = k
            · subst e; rw [HX.out]; exact E.out
            · exact HT.out j (by omega), H1.out⟩
        case measure => simp [intOf]; omega
    · obtain rfl : k = m := by omega
      have hlt2 : ¬ (k : Int) < k := by omega
      go_wp2_with fail
      go_ret
      exact ⟨ret_int (RM.out (fun j hj => HT.out j (by have := EM.out; omega))).symm, BL.out⟩
theorem rule_any (g : Gr) (s : ByteArray) (w : World) (hg : Gr.At w g) : Calls Try.prog 17 #[g.val, .string s] w fun e w' => e = .returned (.int .i64 (ruleAt g.rules s)) ∧ Below w.heap.size w w' := by
  have R := Lib.hid (fun (w' : World) (b : Below w.heap.size w w') (p : Nat) (hp : w'.cell? ⟨p, 0, none⟩ = some (.string s)) => index_any g.RA g.rc g.rules s p hg.rl w' (hg.below b).rules hp)
  clear hg
  go_enter Try.func17, Try.ntmps17
  go_wp2_with (go_at_call 40; refine (R.out _ (B2 _ _ _) _ (by have := (Blk.new (w.alloc (.cells #[.slice g.RA g.rules.length g.rc, .slice g.NA g.nodes.length g.nc] 25)) #[.string s] 9).cell 0; rw [World.size_alloc] at this; exact this)).mono ?_; rintro e w1 ⟨rfl, hb⟩; have H1 := Lib.hid (bb (B2 _ _ _) hb); clear hb)
  go_ret
  exact ⟨rfl, H1.out⟩
set_option maxRecDepth 100000 in
set_option maxHeartbeats 2000000 in
theorem refRule_any (g : Gr) (s : ByteArray) (w : World) (hg : Gr.At w g) : Calls Try.prog 18 #[g.val, .string s] w fun e w' => e = .returned (.int .i64 (ruleAt g.rules s)) ∧ Below w.heap.size w w' := by
  have ha := hg.rl
  have HA := Lib.hid hg.rules
  have RH := Lib.hid (ruleAt_hit (l := g.rules) (s := s))
  have RM := Lib.hid (ruleAt_miss (l := g.rules) (s := s))
  obtain ⟨v, ev⟩ : ∃ v, v = ruleAt g.rules s := ⟨_, rfl⟩
  rw [← ev] at RH RM ⊢
  clear hg ev
  obtain ⟨RA, rc, rules, NA, nc, nodes⟩ := g
  dsimp only at ha HA RH RM
  obtain ⟨m, em⟩ : ∃ m, m = rules.length := ⟨_, rfl⟩
  show Calls Try.prog 18 #[.agg #[.slice RA rules.length rc, .slice NA nodes.length nc], .string s] w _
  rw [← em] at ha ⊢
  have EM := Lib.hid em
  clear em
  go_enter Try.func18, Try.ntmps18
  go_wp2_with fail
  obtain ⟨wb, ewb⟩ : ∃ u, u = w.alloc (.cells #[.slice RA m rc, .slice NA nodes.length nc] 25) := ⟨_, rfl⟩
  have hb2 : Below w.heap.size w wb := by rw [ewb]; exact B1 _ _
  have k1 : wb.cell? ⟨w.heap.size, 0, none⟩ = some (.slice RA m rc) := by rw [ewb]; exact (Blk.new w _ _).cell 0
  rw [← ewb]
  have HA2 := Lib.hid (HA.out.below hb2)
  have BB := Lib.hid hb2
  clear ewb HA hb2
  go_loopw [5] (fun i wr => ∃ k : Nat, k ≤ m ∧ i = .int .i64 k ∧ (∀ j, j < k → (rules.getD j Rl.zero).name ≠ s) ∧ wr = wb) (fun i _ => m - (intOf i).toNat)
  case atStart => exact ⟨0, by omega, rfl, fun j h => by omega, rfl⟩
  case round =>
    obtain ⟨k, hk, rfl, ht, rfl⟩ := hrel
    have HT := Lib.hid ht
    clear ht
    by_cases hlt : k < m
    · have hlt2 : (k : Int) < m := by omega
      obtain ⟨b1, o1, rfl, _, c1, c2⟩ := HA2.out.two (show k < rules.length by have := EM.out; omega)
      generalize hx : rules.getD k Rl.zero = x at c1 c2
      have HX := Lib.hid hx
      clear hx
      by_cases e : x.name.toList = s.toList
      · have E := Lib.hid (tl_inj.1 e)
        go_wp2_with fail
        go_ret
        exact ⟨ret_int (RH.out k HT.out (by have := EM.out; omega) (by rw [HX.out]; exact E.out)).symm, BB.out⟩
      · have E := Lib.hid (fun h => e (tl_inj.2 h))
        have hb : (x.name.toList == s.toList) = false := by simpa using e
        clear e
        go_wp2_with fail
        go_roundw
        case rel => exact ⟨k + 1, by omega, by go_num, fun j hj => by
            by_cases ej : j = k
            · subst ej; rw [HX.out]; exact E.out
            · exact HT.out j (by omega), by first | trivial | rfl⟩
        case measure => simp [intOf]; omega
    · obtain rfl : k = m := by omega
      have hlt2 : ¬ (k : Int) < k := by omega
      go_wp2_with fail
      go_ret
      exact ⟨ret_int (RM.out (fun j hj => HT.out j (by have := EM.out; omega))).symm, BB.out⟩
end Go.Proofs.Ytfdfcagkfnckmaa

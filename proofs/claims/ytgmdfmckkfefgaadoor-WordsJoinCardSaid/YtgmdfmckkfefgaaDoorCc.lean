/- Contracts of layer 1: Of, Range. -/
import Derived.Test.YtgmdfmckkfefgaaDoorCb
namespace Go.Proofs.YtgmdfmckkfefgaaDoor
open Go Go.RowKit

/-- The set of a list's bytes. -/
def mem (l : List Nat) : Nat → Bool := fun i => l.contains i
theorem mem_snoc (l : List Nat) (x : Nat) : mem (l ++ [x]) = cins (mem l) x := by
  funext i; simp [mem, cins, List.contains_append]; rw [Bool.eq_iff_iff]; simp; try omega
theorem mem_take (l : List Nat) (k : Nat) (h : k < l.length) : mem (l.take (k + 1)) = cins (mem (l.take k)) (l[k]?.getD 0) := by
  rw [← mem_snoc, List.take_succ_eq_append_getElem h]; simp [h]
theorem row_none : (#[.int .u64 0, .int .u64 0, .int .u64 0, .int .u64 0] : Array Value) = #[.int .u64 (cw (mem []) 0), .int .u64 (cw (mem []) 1), .int .u64 (cw (mem []) 2), .int .u64 (cw (mem []) 3)] := by
  have h : mem [] = fun _ => false := by funext i; simp [mem]
  rw [h, cw_none, cw_none, cw_none, cw_none]; rfl

theorem blk_new1 (w : World) (o : Obj) (vs : Array Value) (T : TypeId) : Blk ((w.alloc o).alloc (.cells vs T)) (w.heap.size + 1) vs T := by
  have h := Blk.new (w.alloc o) vs T
  rwa [World.size_alloc] at h
set_option maxHeartbeats 1000000 in
theorem of_nil (w : World) :
    Calls Tryd.prog 39 #[.slice none 0 0] w fun e w' => e = .returned (.agg #[.int .u64 (cw (mem []) 0), .int .u64 (cw (mem []) 1), .int .u64 (cw (mem []) 2), .int .u64 (cw (mem []) 3)]) ∧ Below w.heap.size w w' := by
  have hr := Lib.hid row_none
  go_enter Tryd.func39, Tryd.ntmps39
  go_wp2
  go_loop [8] (fun i => i = .int .i64 0) (fun _ => 0)
  case atStart => rfl
  case round =>
    subst hrel
    go_wp2
    refine bodyPost_ret (v := .agg #[.int .u64 (cw (mem []) 0), .int .u64 (cw (mem []) 1), .int .u64 (cw (mem []) 2), .int .u64 (cw (mem []) 3)]) (by simp [results, Tryd.results39, go_sem]; exact ⟨rfl, rfl, rfl, rfl⟩) rfl ⟨rfl, ?_⟩
    exact below2 _ _ _

set_option maxHeartbeats 1000000 in
theorem of_cells (b off cap : Nat) (l : List Nat) (w : World) (hlen : l.length ≤ maxLen) (hl : ∀ j, j < l.length → l[j]?.getD 0 < 256) (hb : b < w.heap.size)
    (hc : ∀ j, j < l.length → w.cell? ⟨b, off + j, none⟩ = some (.int .u8 (l[j]?.getD 0))) :
    Calls Tryd.prog 39 #[.slice (some ⟨b, off, none⟩) l.length cap] w fun e w' => e = .returned (.agg #[.int .u64 (cw (mem l) 0), .int .u64 (cw (mem l) 1), .int .u64 (cw (mem l) 2), .int .u64 (cw (mem l) 3)]) ∧ Below w.heap.size w w' := by
  have HR := Lib.hid row_none
  have HC := Lib.hid hc
  have HL := Lib.hid hl
  unfold maxLen at hlen
  clear hc hl
  go_enter Tryd.func39, Tryd.ntmps39
  go_wp2
  go_loopw [8] (fun i wr => ∃ k : Nat, k ≤ l.length ∧ i = .int .i64 k ∧ Blk wr (w.heap.size + 1) #[.int .u64 (cw (mem (l.take k)) 0), .int .u64 (cw (mem (l.take k)) 1), .int .u64 (cw (mem (l.take k)) 2), .int .u64 (cw (mem (l.take k)) 3)] 80 ∧ Blk wr w.heap.size #[.int .u64 0, .int .u64 0, .int .u64 0, .int .u64 0] 31 ∧ Below w.heap.size w wr) (fun i _ => l.length - (intOf i).toNat)
  case atStart => exact ⟨0, by omega, rfl, by simp only [List.take_zero]; rw [← HR.out]; exact blk_new1 _ _ _ _, (Blk.new _ _ _).alloc _, below2 _ _ _⟩
  case round =>
    obtain ⟨k, hk, rfl, hB, hA, hbl⟩ := hrel
    by_cases hlt : k < l.length
    · have hcell := (hbl.cell (p := ⟨b, off + k, none⟩) hb).trans (HC.out k hlt)
      have hx := HL.out k hlt
      have hm := mem_take l k hlt
      obtain ⟨x, hxe⟩ : ∃ x, x = l[k]?.getD 0 := ⟨_, rfl⟩
      obtain ⟨s, hse⟩ : ∃ s, s = mem (l.take k) := ⟨_, rfl⟩
      rw [← hxe] at hcell hx hm
      rw [← hse] at hB hm
      have HM := Lib.hid hm
      clear hxe hse hm
      obtain ⟨⟨c0, c1, c2, c3⟩, ⟨f0, f1, f2, f3⟩⟩ := hB.four
      have hBs := hB.lt
      go_wp2_with (go_at_call 48; (with_reducible refine (with_any s x _ hx).mono ?_); rintro e w1 ⟨rfl, hb1⟩; have hB1 := hB.below hb1 hBs; have hA1 := hA.below hb1 hA.lt; obtain ⟨⟨c10, c11, c12, c13⟩, ⟨f10, f11, f12, f13⟩⟩ := hB1.four; have hbl1 := hbl.trans (hb1.mono hbl.size); clear c0 c1 c2 c3 f0 f1 f2 f3)
      go_roundw
      case rel => exact ⟨k + 1, by omega, by go_num, by rw [HM.out]; exact hB1.set4, hA1.set4_other (by omega), below_set4 hbl1 (by omega) _ _ _ _⟩
      case measure => simp [intOf]; omega
    · obtain rfl : k = l.length := by omega
      obtain ⟨⟨c0, c1, c2, c3⟩, ⟨f0, f1, f2, f3⟩⟩ := hB.four
      obtain ⟨⟨d0, d1, d2, d3⟩, ⟨g0, g1, g2, g3⟩⟩ := hA.four
      rw [List.take_length] at c0 c1 c2 c3
      go_wp2
      refine bodyPost_ret (v := .agg #[.int .u64 (cw (mem l) 0), .int .u64 (cw (mem l) 1), .int .u64 (cw (mem l) 2), .int .u64 (cw (mem l) 3)]) (by simp [results, Tryd.results39, go_sem, *]; done) rfl ⟨rfl, ?_⟩
      exact below_set4 hbl (Nat.le_refl _) _ _ _ _
/-- The numbers from a on, below b. -/
def rng (a b : Nat) : Nat → Bool := fun i => decide (a ≤ i ∧ i < b)
theorem rng_none (a b : Nat) (h : b ≤ a) : rng a b = mem [] := by
  funext i; simp [rng, mem]; intro; omega
theorem rng_ins (a n : Nat) (h : a ≤ n) : rng a (n + 1) = cins (rng a n) n := by
  funext i; simp only [rng, cins]; rw [Bool.eq_iff_iff]; simp; omega

set_option maxHeartbeats 1000000 in
theorem range_any (a b : Nat) (w : World) (ha : a < 256) (hb : b < 256) :
    Calls Tryd.prog 40 #[.int .u8 a, .int .u8 b] w fun e w' => e = .returned (.agg #[.int .u64 (cw (rng a (b + 1)) 0), .int .u64 (cw (rng a (b + 1)) 1), .int .u64 (cw (rng a (b + 1)) 2), .int .u64 (cw (rng a (b + 1)) 3)]) ∧ Below w.heap.size w w' := by
  have HR := Lib.hid row_none
  go_enter Tryd.func40, Tryd.ntmps40
  go_wp2
  go_loopw [6] (fun i wr => ∃ n : Nat, a ≤ n ∧ (n ≤ b + 1 ∨ n = a) ∧ i = .int .i64 n ∧ Blk wr (w.heap.size + 1) #[.int .u64 (cw (rng a n) 0), .int .u64 (cw (rng a n) 1), .int .u64 (cw (rng a n) 2), .int .u64 (cw (rng a n) 3)] 80 ∧ Blk wr w.heap.size #[.int .u64 0, .int .u64 0, .int .u64 0, .int .u64 0] 31 ∧ Below w.heap.size w wr) (fun i _ => b + 1 - (intOf i).toNat)
  case atStart => exact ⟨a, by omega, .inr rfl, rfl, by rw [rng_none a a (Nat.le_refl _), ← HR.out]; exact blk_new1 _ _ _ _, (Blk.new _ _ _).alloc _, below2 _ _ _⟩
  case round =>
    obtain ⟨n, hn, hk, rfl, hB, hA, hbl⟩ := hrel
    by_cases hlt : n ≤ b
    · have hx : n < 256 := by omega
      have hm := rng_ins a n hn
      obtain ⟨s, hse⟩ : ∃ s, s = rng a n := ⟨_, rfl⟩
      rw [← hse] at hB hm
      have HM := Lib.hid hm
      clear hse hm hk
      obtain ⟨⟨c0, c1, c2, c3⟩, ⟨f0, f1, f2, f3⟩⟩ := hB.four
      have hBs := hB.lt
      go_wp2_with (go_at_call 48; (with_reducible refine (with_any s n _ hx).mono ?_); rintro e w1 ⟨rfl, hb1⟩; have hB1 := hB.below hb1 hBs; have hA1 := hA.below hb1 hA.lt; obtain ⟨⟨c10, c11, c12, c13⟩, ⟨f10, f11, f12, f13⟩⟩ := hB1.four; have hbl1 := hbl.trans (hb1.mono hbl.size); clear c0 c1 c2 c3 f0 f1 f2 f3)
      go_roundw
      case rel => exact ⟨n + 1, by omega, by omega, by go_num, by rw [HM.out]; exact hB1.set4, hA1.set4_other (by omega), below_set4 hbl1 (by omega) _ _ _ _⟩
      case measure => simp [intOf]; omega
    · have hm : rng a n = rng a (b + 1) := by
        rcases hk with h | rfl
        · rw [show n = b + 1 by omega]
        · rw [rng_none _ _ (Nat.le_refl _), rng_none _ _ (by omega)]
      rw [hm] at hB
      clear hm hk
      obtain ⟨⟨c0, c1, c2, c3⟩, ⟨f0, f1, f2, f3⟩⟩ := hB.four
      obtain ⟨⟨d0, d1, d2, d3⟩, ⟨g0, g1, g2, g3⟩⟩ := hA.four
      go_wp2
      refine bodyPost_ret (v := .agg #[.int .u64 (cw (rng a (b + 1)) 0), .int .u64 (cw (rng a (b + 1)) 1), .int .u64 (cw (rng a (b + 1)) 2), .int .u64 (cw (rng a (b + 1)) 3)]) (by simp [results, Tryd.results40, go_sem, *]; done) rfl ⟨rfl, ?_⟩
      exact below_set4 hbl (Nat.le_refl _) _ _ _ _

theorem blk_mid (w : World) (o p : Obj) (vs : Array Value) (T : TypeId) : Blk (((w.alloc o).alloc (.cells vs T)).alloc p) (w.heap.size + 1) vs T := (blk_new1 w o vs T).alloc p
def getS (ss : List (Nat → Bool)) (k : Nat) : Nat → Bool := ss[k]?.getD (fun _ => false)
theorem foldl_take (ss : List (Nat → Bool)) (f : (Nat → Bool) → (Nat → Bool) → Nat → Bool) (s0 : Nat → Bool) (k : Nat) (h : k < ss.length) : (ss.take (k + 1)).foldl f s0 = f ((ss.take k).foldl f s0) (getS ss k) := by
  rw [List.take_succ_eq_append_getElem h, List.foldl_append]; simp [getS, h]
set_option maxHeartbeats 1000000 in
theorem fold_cells (s0 : Nat → Bool) (b off cap : Nat) (ss : List (Nat → Bool)) (w : World) (hlen : ss.length ≤ maxLen) (hb : b < w.heap.size) (r : Nat → Bool) (hr : ss.foldl (fun s t i => s i || t i) s0 = r)
    (hc : ∀ j, j < ss.length → ∀ i, i < 4 → w.cell? ⟨b, off + j * 4 + i, none⟩ = some (.int .u64 (cw (getS ss j) i))) :
    Calls Tryd.prog 41 #[.agg #[.int .u64 (cw s0 0), .int .u64 (cw s0 1), .int .u64 (cw s0 2), .int .u64 (cw s0 3)], .func (.func 42) #[] #[], .slice (some ⟨b, off, none⟩) ss.length cap] w fun e w' => e = .returned (.agg #[.int .u64 (cw r 0), .int .u64 (cw r 1), .int .u64 (cw r 2), .int .u64 (cw r 3)]) ∧ Below w.heap.size w w' := by
  have HC := Lib.hid hc
  have HS := Lib.hid hr
  unfold maxLen at hlen
  clear hc hr
  go_enter Tryd.func41, Tryd.ntmps41
  go_wp2
  go_loopw [13] (fun i wr => ∃ k : Nat, k ≤ ss.length ∧ i = .int .i64 k ∧ Blk wr (w.heap.size + 1 + 1) #[.int .u64 (cw (((ss.take k).foldl (fun s t i => s i || t i) s0)) 0), .int .u64 (cw (((ss.take k).foldl (fun s t i => s i || t i) s0)) 1), .int .u64 (cw (((ss.take k).foldl (fun s t i => s i || t i) s0)) 2), .int .u64 (cw (((ss.take k).foldl (fun s t i => s i || t i) s0)) 3)] 80 ∧ Blk wr (w.heap.size + 1) #[.int .u64 0, .int .u64 0, .int .u64 0, .int .u64 0] 31 ∧ Below w.heap.size w wr) (fun i _ => ss.length - (intOf i).toNat)
  case atStart => exact ⟨0, by omega, rfl, by simpa using blk_new1 (w.alloc _) _ _ _, blk_mid _ _ _ _ _, below3 _ _ _ _⟩
  case round =>
    obtain ⟨k, hk, rfl, hB, hA, hbl⟩ := hrel
    by_cases hlt : k < ss.length
    · have e0 := (hbl.cell (p := ⟨b, off + k * 4 + 0, none⟩) hb).trans (HC.out k hlt 0 (by decide))
      have e1 := (hbl.cell (p := ⟨b, off + k * 4 + 1, none⟩) hb).trans (HC.out k hlt 1 (by decide))
      have e2 := (hbl.cell (p := ⟨b, off + k * 4 + 2, none⟩) hb).trans (HC.out k hlt 2 (by decide))
      have e3 := (hbl.cell (p := ⟨b, off + k * 4 + 3, none⟩) hb).trans (HC.out k hlt 3 (by decide))
      rw [Nat.add_zero] at e0
      have hm := foldl_take ss (fun s t i => s i || t i) s0 k hlt
      obtain ⟨s, hse⟩ : ∃ s, s = (ss.take k).foldl (fun s t i => s i || t i) s0 := ⟨_, rfl⟩
      obtain ⟨t, hte⟩ : ∃ t, t = getS ss k := ⟨_, rfl⟩
      rw [← hse] at hB hm
      rw [← hte] at e0 e1 e2 e3 hm
      have HM := Lib.hid hm
      clear hse hte hm
      obtain ⟨⟨c0, c1, c2, c3⟩, ⟨f0, f1, f2, f3⟩⟩ := hB.four
      have hBs := hB.lt
      have hBa := hB.alloc (.cells #[.int .u64 (cw t 0), .int .u64 (cw t 1), .int .u64 (cw t 2), .int .u64 (cw t 3)] 31)
      have hAa := hA.alloc (.cells #[.int .u64 (cw t 0), .int .u64 (cw t 1), .int .u64 (cw t 2), .int .u64 (cw t 3)] 31)
      have hbla := hbl.alloc (o := (.cells #[.int .u64 (cw t 0), .int .u64 (cw t 1), .int .u64 (cw t 2), .int .u64 (cw t 3)] 31)) hbl.size
      go_wp2_with (go_at_call 42; (with_reducible refine (or_any s t _).mono ?_); rintro e w1 ⟨rfl, hb1⟩; have hB1 := hBa.below hb1 (by simp; omega); have hA1 := hAa.below hb1 (by simp; omega); obtain ⟨⟨c10, c11, c12, c13⟩, ⟨f10, f11, f12, f13⟩⟩ := hB1.four; have hbl1 := hbla.trans (hb1.mono hbla.size); clear c0 c1 c2 c3 f0 f1 f2 f3 e0 e1 e2 e3)
      go_roundw
      case rel => exact ⟨k + 1, by omega, by go_num, by rw [HM.out]; exact hB1.set4, hA1.set4_other (by omega), below_set4 hbl1 (by omega) _ _ _ _⟩
      case measure => simp [intOf]; omega
    · obtain rfl : k = ss.length := by omega
      rw [List.take_length, HS.out] at hB
      obtain ⟨⟨c0, c1, c2, c3⟩, ⟨f0, f1, f2, f3⟩⟩ := hB.four
      obtain ⟨⟨d0, d1, d2, d3⟩, ⟨g0, g1, g2, g3⟩⟩ := hA.four
      go_wp2
      refine bodyPost_ret (v := .agg #[.int .u64 (cw r 0), .int .u64 (cw r 1), .int .u64 (cw r 2), .int .u64 (cw r 3)]) (by simp [results, Tryd.results41, go_sem, *]; done) rfl ⟨rfl, ?_⟩
      exact below_set4 hbl (by omega) _ _ _ _
set_option maxHeartbeats 1000000 in
theorem fold_nil (s0 : Nat → Bool) (g : Nat) (w : World) :
    Calls Tryd.prog 41 #[.agg #[.int .u64 (cw s0 0), .int .u64 (cw s0 1), .int .u64 (cw s0 2), .int .u64 (cw s0 3)], .func (.func g) #[] #[], .slice none 0 0] w fun e w' => e = .returned (.agg #[.int .u64 (cw s0 0), .int .u64 (cw s0 1), .int .u64 (cw s0 2), .int .u64 (cw s0 3)]) ∧ Below w.heap.size w w' := by
  go_enter Tryd.func41, Tryd.ntmps41
  go_wp2
  go_loop [13] (fun i => i = .int .i64 0) (fun _ => 0)
  case atStart => rfl
  case round =>
    subst hrel
    go_wp2
    refine bodyPost_ret (v := .agg #[.int .u64 (cw s0 0), .int .u64 (cw s0 1), .int .u64 (cw s0 2), .int .u64 (cw s0 3)]) (by simp [results, Tryd.results41, go_sem]; done) rfl ⟨rfl, ?_⟩
    exact below3 _ _ _ _
/-- THE VALUE v IS A ROW OF CLASSES ss, in a block below B; or nil, and there are none. -/
def ClsAt (w : World) (B : Nat) (v : Value) (ss : List (Nat → Bool)) : Prop :=
  (v = .slice none 0 0 ∧ ss = []) ∨ ∃ b off cap, v = .slice (some ⟨b, off, none⟩) ss.length cap ∧ b < B ∧ ss.length ≤ maxLen ∧ ∀ j, j < ss.length → ∀ i, i < 4 → w.cell? ⟨b, off + j * 4 + i, none⟩ = some (.int .u64 (cw (getS ss j) i))
theorem ClsAt.below {w w' : World} {B B' : Nat} {v : Value} {ss : List (Nat → Bool)} (h : ClsAt w B v ss) (hb : Below B w w') (hB : B ≤ B') : ClsAt w' B' v ss := by
  rcases h with h | ⟨b, off, cap, hv, hl, hm, hc⟩
  · exact .inl h
  · exact .inr ⟨b, off, cap, hv, by omega, hm, fun j hj i hi => (hb.cell (p := ⟨b, off + j * 4 + i, none⟩) hl).trans (hc j hj i hi)⟩
theorem fold_or (s0 r : Nat → Bool) (v : Value) (ss : List (Nat → Bool)) (w : World) (h : ClsAt w w.heap.size v ss) (hr : ss.foldl (fun s t i => s i || t i) s0 = r) :
    Calls Tryd.prog 41 #[.agg #[.int .u64 (cw s0 0), .int .u64 (cw s0 1), .int .u64 (cw s0 2), .int .u64 (cw s0 3)], .func (.func 42) #[] #[], v] w fun e w' => e = .returned (.agg #[.int .u64 (cw r 0), .int .u64 (cw r 1), .int .u64 (cw r 2), .int .u64 (cw r 3)]) ∧ Below w.heap.size w w' := by
  rcases h with ⟨rfl, rfl⟩ | ⟨b, off, cap, rfl, hl, hm, hc⟩
  · subst hr; exact fold_nil s0 42 w
  · exact fold_cells s0 b off cap ss w hm hl r hr hc
/-- What is in one, in all, of some. -/
def anyS (ss : List (Nat → Bool)) : Nat → Bool := fun i => ss.any (fun s => s i)
theorem foldl_any (ss : List (Nat → Bool)) : ∀ s0, ss.foldl (fun s t i => s i || t i) s0 = fun i => s0 i || ss.any (fun s => s i) := by
  induction ss with
  | nil => intro s0; funext i; simp
  | cons s ss ih => intro s0; rw [List.foldl_cons, ih]; funext i; simp [Bool.or_assoc]
theorem foldl_anyS (ss : List (Nat → Bool)) : ss.foldl (fun s t i => s i || t i) (mem []) = anyS ss := by
  rw [foldl_any]; funext i; simp [mem, anyS]
theorem cls_none : (.agg #[.int .u64 0, .int .u64 0, .int .u64 0, .int .u64 0] : Value) = .agg #[.int .u64 (cw (mem []) 0), .int .u64 (cw (mem []) 1), .int .u64 (cw (mem []) 2), .int .u64 (cw (mem []) 3)] := congrArg Value.agg row_none
theorem fold_or0 (v : Value) (ss : List (Nat → Bool)) (w : World) (h : ClsAt w w.heap.size v ss) :
    Calls Tryd.prog 41 #[.agg #[.int .u64 0, .int .u64 0, .int .u64 0, .int .u64 0], .func (.func 42) #[] #[], v] w fun e w' => e = .returned (.agg #[.int .u64 (cw (anyS ss) 0), .int .u64 (cw (anyS ss) 1), .int .u64 (cw (anyS ss) 2), .int .u64 (cw (anyS ss) 3)]) ∧ Below w.heap.size w w' := by
  rw [cls_none]; exact fold_or _ _ _ _ _ h (foldl_anyS ss)
set_option maxHeartbeats 1000000 in
theorem orf_any (v : Value) (ss : List (Nat → Bool)) (w : World) (h : ClsAt w w.heap.size v ss) :
    Calls Tryd.prog 33 #[v] w fun e w' => e = .returned (.agg #[.int .u64 (cw (anyS ss) 0), .int .u64 (cw (anyS ss) 1), .int .u64 (cw (anyS ss) 2), .int .u64 (cw (anyS ss) 3)]) ∧ Below w.heap.size w w' := by
  have H := Lib.hid h
  clear h
  obtain ⟨r, hr⟩ : ∃ r, r = anyS ss := ⟨_, rfl⟩
  have hf := fun w h => fold_or0 v ss w h
  rw [← hr] at hf ⊢
  clear hr
  go_enter Tryd.func33, Tryd.ntmps33
  go_wp2_with (go_at_call 41; (with_reducible refine (hf _ (H.out.below ((Below.refl _ w).alloc (Nat.le_refl _) _) (by simp))).mono ?_); rintro e w1 ⟨rfl, hb1⟩; have hA := (Blk.new w #[.int .u64 0, .int .u64 0, .int .u64 0, .int .u64 0] 31).below hb1 (by simp); have hbl := ((Below.refl _ w).alloc (Nat.le_refl _) _).trans (hb1.mono (by simp)); obtain ⟨⟨d0, d1, d2, d3⟩, ⟨g0, g1, g2, g3⟩⟩ := hA.four)
  refine bodyPost_ret (v := .agg #[.int .u64 (cw r 0), .int .u64 (cw r 1), .int .u64 (cw r 2), .int .u64 (cw r 3)]) (by simp [results, Tryd.results33, go_sem, *]; done) rfl ⟨rfl, ?_⟩
  exact below_set4 hbl (Nat.le_refl _) _ _ _ _
end Go.Proofs.YtgmdfmckkfefgaaDoor
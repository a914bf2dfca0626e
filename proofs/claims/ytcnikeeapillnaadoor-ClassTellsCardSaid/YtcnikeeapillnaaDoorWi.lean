/- Contracts of layer 1: From. -/
import Derived.Test.YtcnikeeapillnaaDoorL7
import Derived.Test.YtcnikeeapillnaaDoorWh
import Derived.Test.YtcnikeeapillnaaDoorRu
namespace Go.Proofs.YtcnikeeapillnaaDoor
open Go Go.RowKit

theorem g_index38 {a : Act} {w : World} {o : Oper} {Φ : Value → World → Prop} {x : Operand} {b : Nat} {k : Nat} (hk : k < 2) (ho : o.op = .indexAddr 38 x (.const (.int .i64 k))) (hx : a.eval x = .pointer (some ⟨b, 0, none⟩)) (h : Φ (.pointer (some ⟨b, k, none⟩)) w) :
    Gives Tryd.prog (fun v w' => Below w.heap.size w w' ∧ Φ v w') ((execOp a.eval o).run Tryd.prog w) := by
  refine .value (v := .pointer (some ⟨b, k, none⟩)) (w := w) ?_ ⟨Below.refl _ _, h⟩
  have hc : a.eval (.const (.int .i64 k)) = .int .i64 k := rfl
  generalize a.eval = ρ at *
  simp only [execOp, ho, hx, hc]
  have hq : k = 0 ∨ k = 1 := by omega
  rcases hq with rfl | rfl <;> go_simp
theorem g_load5 {a : Act} {w : World} {o : Oper} {Φ : Value → World → Prop} {x : Operand} {b k : Nat} {v : Value} (ho : o.op = .load 5 x) (hx : a.eval x = .pointer (some ⟨b, k, none⟩)) (hb : w.cell? ⟨b, k, none⟩ = some v) (h : Φ v w) :
    Gives Tryd.prog (fun v w' => Below w.heap.size w w' ∧ Φ v w') ((execOp a.eval o).run Tryd.prog w) := by
  refine .value (v := v) (w := w) ?_ ⟨Below.refl _ _, h⟩
  generalize a.eval = ρ at *
  simp only [execOp, ho, hx]
  go_simp
def fromS (rs : List (Nat × Nat)) : Nat → Bool := fun i => rs.any fun r => rng r.1 (r.2 + 1) i
theorem fromS_nil : fromS [] = mem [] := by funext i; simp [fromS, mem]
theorem fromS_take (rs : List (Nat × Nat)) (k : Nat) (h : k < rs.length) : fromS (rs.take (k + 1)) = fun i => fromS (rs.take k) i || rng (rget rs k).1 ((rget rs k).2 + 1) i := by
  funext i
  unfold fromS
  rw [List.take_succ_eq_append_getElem h, List.any_append]
  simp [rget, h]
theorem Small.get {rs : List (Nat × Nat)} (h : Small rs) {k : Nat} (hk : k < rs.length) : (rget rs k).1 < 256 ∧ (rget rs k).2 < 256 := by
  have := h rs[k] (List.getElem_mem hk)
  simpa [rget, hk] using this

set_option maxRecDepth 100000 in
set_option maxHeartbeats 4000000 in
theorem from_any (rs : List (Nat × Nat)) (v : Value) (w : World) (hv : RunsAt w w.heap.size v rs) (hsm : Small rs) :
    Calls Tryd.prog 30 #[v] w fun e w' => e = .returned (.agg #[.int .u64 (wd (fromS rs) 0), .int .u64 (wd (fromS rs) 1), .int .u64 (wd (fromS rs) 2), .int .u64 (wd (fromS rs) 3)]) ∧ Below w.heap.size w w' := by
  obtain ⟨ao, cap, rfl, hm, hc⟩ := hv
  have HC := Lib.hid hc
  have HR := Lib.hid row_none
  have HS := Lib.hid hsm
  unfold maxLen at hm
  clear hc hsm
  go_enter Tryd.func30, Tryd.ntmps30
  go_wp2
  go_loopw [8] (fun i wr => ∃ k : Nat, k ≤ rs.length ∧ i = .int .i64 k ∧ Blk wr (w.heap.size + 1) #[.int .u64 (wd (fromS (rs.take k)) 0), .int .u64 (wd (fromS (rs.take k)) 1), .int .u64 (wd (fromS (rs.take k)) 2), .int .u64 (wd (fromS (rs.take k)) 3)] 25 ∧ Blk wr w.heap.size #[.int .u64 0, .int .u64 0, .int .u64 0, .int .u64 0] 25 ∧ Below w.heap.size w wr) (fun i _ => rs.length - (intOf i).toNat)
  case atStart => exact ⟨0, by omega, rfl, by rw [List.take_zero, fromS_nil, ← HR.out]; exact blk_new1 _ _ _ _, (Blk.new _ _ _).alloc _, below2 _ _ _⟩
  case round =>
    obtain ⟨k, hk, rfl, hB, hA, hbl⟩ := hrel
    by_cases hlt : k < rs.length
    · obtain ⟨b, off, rfl, hb, hc⟩ := HC.out (by omega)
      have c0 := (hbl.cell (p := ⟨b, off + k * 2, none⟩) hb).trans ((hc (k * 2) (by omega)).trans (rcells_at rs k hlt).1)
      have c1 := (hbl.cell (p := ⟨b, off + (k * 2 + 1), none⟩) hb).trans ((hc (k * 2 + 1) (by omega)).trans (rcells_at rs k hlt).2)
      rw [← Nat.add_assoc] at c1
      obtain ⟨hx, hy⟩ := HS.out.get hlt
      have HT := Lib.hid (fromS_take rs k hlt)
      obtain ⟨x, hxe⟩ : ∃ x, x = (rget rs k).1 := ⟨_, rfl⟩
      obtain ⟨y, hye⟩ : ∃ y, y = (rget rs k).2 := ⟨_, rfl⟩
      obtain ⟨s, hse⟩ : ∃ s, s = fromS (rs.take k) := ⟨_, rfl⟩
      rw [← hxe] at c0 hx HT
      rw [← hye] at c1 hy HT
      rw [← hse] at hB HT
      clear hxe hye hse hc
      go_wp2
      have hBa := hB.alloc (.cells #[.int .u8 x, .int .u8 y] 38)
      have hAa := hA.alloc (.cells #[.int .u8 x, .int .u8 y] 38)
      have bX := Blk.new wr #[.int .u8 x, .int .u8 y] 38
      have hbla := hbl.alloc (o := (.cells #[.int .u8 x, .int .u8 y] 38)) hbl.size
      have hbs := hB.lt
      refine wp_region_lay_tail [some (.is (.agg #[.int .u64 (wd s 0), .int .u64 (wd s 1), .int .u64 (wd s 2), .int .u64 (wd s 3)])), some (.is (.pointer (some ⟨wr.heap.size, 0, none⟩))), some (.is (.int .u8 x)), some (.is (.pointer (some ⟨wr.heap.size, 1, none⟩))), some (.is (.int .u8 y)), some (.is (.agg #[.int .u64 (wd ((rng x (y + 1))) 0), .int .u64 (wd ((rng x (y + 1))) 1), .int .u64 (wd ((rng x (y + 1))) 2), .int .u64 (wd ((rng x (y + 1))) 3)])), some (.st (clsSt [s, (rng x (y + 1))])), some (.is (.agg #[.int .u64 (wd ((fun i => s i || rng x (y + 1) i)) 0), .int .u64 (wd ((fun i => s i || rng x (y + 1) i)) 1), .int .u64 (wd ((fun i => s i || rng x (y + 1) i)) 2), .int .u64 (wd ((fun i => s i || rng x (y + 1) i)) 3)]))] (fun f => #[.slice (some ⟨b, off, none⟩) rs.length cap, undef, .pointer (some ⟨w.heap.size, 0, none⟩), .pointer (some ⟨w.heap.size + 1, 0, none⟩), undef, .pointer (some ⟨wr.heap.size, 0, none⟩), .slice (some ⟨b, off, none⟩) rs.length cap, .int .i64 rs.length, .int .i64 k, .bool true, .pointer (some ⟨b, off + k * 2, none⟩), .agg #[.int .u8 x, .int .u8 y], f 12, f 13, f 14, f 15, f 16, f 17, f 18, f 19, u20, undef]) _ (by kernel_rfl) rfl (by kernel_rfl) (by kernel_rfl) (by kernel_rfl) (by kernel_rfl) (fun f => by kernel_rfl)
        ⟨by
        intro _ act W hS hun hd
        exact g_load4 rfl (hun 3 (by kernel_rfl)) (hBa.below hS hBa.lt) rfl,
      by
        intro _ act W hS hun hd
        exact g_index38 (k := 0) (by decide) rfl (hun 5 (by kernel_rfl)) rfl,
      by
        intro _ act W hS hun hd
        exact g_load5 rfl (hd 1 _ 13 rfl rfl (by kernel_rfl)) ((bX.below hS bX.lt).cell 0) rfl,
      by
        intro _ act W hS hun hd
        exact g_index38 (k := 1) (by decide) rfl (hun 5 (by kernel_rfl)) rfl,
      by
        intro _ act W hS hun hd
        exact g_load5 rfl (hd 3 _ 15 rfl rfl (by kernel_rfl)) ((bX.below hS bX.lt).cell 1) rfl,
      by
        intro _ act W hS hun hd
        have h14 : act.eval (.tmp 14) = .int .u8 x := hd 2 _ 14 rfl rfl (by kernel_rfl)
        have h16 : act.eval (.tmp 16) = .int .u8 y := hd 4 _ 16 rfl rfl (by kernel_rfl)
        exact g_call (f := 15) rfl en15 (by simp only [List.map_toArray, List.map_cons, List.map_nil, h14, h16]) (range_as x y (rng x (y + 1)) (fun _ _ => rfl) hx hy W),
      by
        intro _ act W hS hun hd
        have h12 : act.eval (.tmp 12) = .agg #[.int .u64 (wd s 0), .int .u64 (wd s 1), .int .u64 (wd s 2), .int .u64 (wd s 3)] := hd 0 _ 12 rfl rfl (by kernel_rfl)
        have h17 : act.eval (.tmp 17) = .agg #[.int .u64 (wd ((rng x (y + 1))) 0), .int .u64 (wd ((rng x (y + 1))) 1), .int .u64 (wd ((rng x (y + 1))) 2), .int .u64 (wd ((rng x (y + 1))) 3)] := hd 5 _ 17 rfl rfl (by kernel_rfl)
        exact g_build2 rfl h12 h17,
      by
        intro _ act W hS hun hd
        have h18 : ClsAt W W.heap.size (act.eval (.tmp 18)) [s, (rng x (y + 1))] := hd 6 _ 18 rfl rfl (by kernel_rfl)
        exact g_call (f := 26) rfl en26 (by simp only [List.map_toArray, List.map_cons, List.map_nil]) (orf_as _ [s, (rng x (y + 1))] (fun i => s i || rng x (y + 1) i) (by intro i _; simp [anyS]) W h18),
      trivial⟩ ?_
      intro f W hW hf
      have h19 : f 19 = .agg #[.int .u64 (wd ((fun i => s i || rng x (y + 1) i)) 0), .int .u64 (wd ((fun i => s i || rng x (y + 1) i)) 1), .int .u64 (wd ((fun i => s i || rng x (y + 1) i)) 2), .int .u64 (wd ((fun i => s i || rng x (y + 1) i)) 3)] := hf 7 _ 19 rfl rfl
      have hB1 := hBa.below hW hBa.lt
      have hA1 := hAa.below hW hAa.lt
      have hbl1 := hbla.trans (hW.mono hbla.size)
      obtain ⟨⟨e0, e1, e2, e3⟩, ⟨f0, f1, f2, f3⟩⟩ := hB1.four
      rw [h19]
      clear hf hW bX hBa hAa c0 c1
      go_wp2
      go_roundw
      case rel => exact ⟨k + 1, by omega, by go_num, by rw [HT.out]; exact hB1.set4, hA1.set4_other (by omega), below_set4 hbl1 (by omega) _ _ _ _⟩
      case measure => simp [intOf]; omega
    · obtain rfl : k = rs.length := by omega
      rw [List.take_length] at hB
      obtain ⟨⟨c0, c1, c2, c3⟩, ⟨f0, f1, f2, f3⟩⟩ := hB.four
      obtain ⟨⟨d0, d1, d2, d3⟩, ⟨g0, g1, g2, g3⟩⟩ := hA.four
      go_wp2
      refine bodyPost_ret (v := .agg #[.int .u64 (wd (fromS rs) 0), .int .u64 (wd (fromS rs) 1), .int .u64 (wd (fromS rs) 2), .int .u64 (wd (fromS rs) 3)]) (by simp [results, Tryd.results30, go_sem, *]; done) rfl ⟨rfl, ?_⟩
      exact below_set4 hbl (Nat.le_refl _) _ _ _ _
end Go.Proofs.YtcnikeeapillnaaDoor

/- The contract of a part's order. -/
import Derived.Test.YtgploogflhfolaaRi
import Derived.Test.YtgploogflhfolaaRq
namespace Go.Proofs.Ytgploogflhfolaa
open Go Go.RowKit
/-- How two spans stand. -/
def ordI (a b : Int × Int) : Int := orI (cmpI a.1 b.1) (cmpI b.2 a.2)
set_option maxHeartbeats 1000000 in
theorem order_raw (a1 a2 b1 b2 : Int) (w : World) :
    Calls Try.prog 34 #[.agg #[.int .i64 a1, .int .i64 a2], .agg #[.int .i64 b1, .int .i64 b2]] w fun e w' => e = .returned (.int .i64 (orI (cmpI a1 b1) (cmpI b2 a2))) ∧ Grown w w' := by
  have en40 : ∀ args w, (callFunc 40 args).run Try.prog w = .ok (.enter 40 args) w := fun _ _ => by kernel_rfl
  have en39 : ∀ args w, (callFunc 39 args).run Try.prog w = .ok (.enter 39 args) w := fun _ _ => by kernel_rfl
  have hA : ∃ w2, w2 = (w.alloc (.cells #[.int .i64 a1, .int .i64 a2] 51)).alloc (.cells #[.int .i64 b1, .int .i64 b2] 51) := ⟨_, rfl⟩
  obtain ⟨w2, e2⟩ := hA
  have BA : Blk w2 w.heap.size #[.int .i64 a1, .int .i64 a2] 51 := by rw [e2]; exact (Blk.new w _ _).alloc _
  have BB : Blk w2 (w.heap.size + 1) #[.int .i64 b1, .int .i64 b2] 51 := by
    have := Blk.new (w.alloc (.cells #[.int .i64 a1, .int .i64 a2] 51)) #[.int .i64 b1, .int .i64 b2] 51
    rw [World.size_alloc] at this
    rw [e2]; exact this
  have Ca1 : w2.cell? ⟨w.heap.size, 0, none⟩ = some (.int .i64 a1) := by rw [BA.cell]; rfl
  have Ca2 : w2.cell? ⟨w.heap.size, 1, none⟩ = some (.int .i64 a2) := by rw [BA.cell]; rfl
  have Cb1 : w2.cell? ⟨w.heap.size + 1, 0, none⟩ = some (.int .i64 b1) := by rw [BB.cell]; rfl
  have Cb2 : w2.cell? ⟨w.heap.size + 1, 1, none⟩ = some (.int .i64 b2) := by rw [BB.cell]; rfl
  have G2 : Grown w w2 := by rw [e2]; exact (Grown.alloc _ _).trans (Grown.alloc _ _)
  clear BA BB
  go_enter Try.func34, Try.ntmps34
  go_wp2_with fail
  rw [← e2]
  clear e2
  refine wp_region_puts Grown.grow [some (.is (.pointer (some ⟨w.heap.size, 0, none⟩))), some (.is (.int .i64 a1)), some (.is (.pointer (some ⟨w.heap.size + 1, 0, none⟩))), some (.is (.int .i64 b1)), some (.is (.int .i64 (cmpI a1 b1))), some (.is (.pointer (some ⟨w.heap.size + 1, 1, none⟩))), some (.is (.int .i64 b2)), some (.is (.pointer (some ⟨w.heap.size, 1, none⟩))), some (.is (.int .i64 a2)), some (.is (.int .i64 (cmpI b2 a2))), some (.st (twoSt (cmpI a1 b1) (cmpI b2 a2))), some (.is (.int .i64 (orI (cmpI a1 b1) (cmpI b2 a2)))), some (.is (.int .i64 (orI (cmpI a1 b1) (cmpI b2 a2))))] (by kernel_rfl) (by kernel_rfl) (by kernel_rfl) (by kernel_rfl) ⟨by
    intro _ act W hS hun hd
    have h2 : act.eval (.tmp 2) = .pointer (some ⟨w.heap.size, 0, none⟩) := hun 2 (by kernel_rfl)
    exact g_field51 Grown.grow rfl (by omega) h2 rfl,
    by
    intro _ act W hS hun hd
    have h5 : act.eval (.tmp 5) = .pointer (some ⟨w.heap.size, 0, none⟩) := hd 0 _ 5 rfl rfl (by kernel_rfl)
    exact g_load3 Grown.grow rfl h5 (Ext.cell (Ca1) ⟨W, hS.below⟩) rfl,
    by
    intro _ act W hS hun hd
    have h3 : act.eval (.tmp 3) = .pointer (some ⟨w.heap.size + 1, 0, none⟩) := hun 3 (by kernel_rfl)
    exact g_field51 Grown.grow rfl (by omega) h3 rfl,
    by
    intro _ act W hS hun hd
    have h7 : act.eval (.tmp 7) = .pointer (some ⟨w.heap.size + 1, 0, none⟩) := hd 2 _ 7 rfl rfl (by kernel_rfl)
    exact g_load3 Grown.grow rfl h7 (Ext.cell (Cb1) ⟨W, hS.below⟩) rfl,
    by
    intro _ act W hS hun hd
    have h6 : act.eval (.tmp 6) = .int .i64 a1 := hd 1 _ 6 rfl rfl (by kernel_rfl)
    have h8 : act.eval (.tmp 8) = .int .i64 b1 := hd 3 _ 8 rfl rfl (by kernel_rfl)
    exact g_call (f := 40) (args := #[.int .i64 a1, .int .i64 b1]) rfl en40 (by simp only [List.map_toArray, List.map_cons, List.map_nil, h6, h8]) ((compare_any a1 b1 W).mono fun _ _ ⟨he, hw⟩ => ⟨_, he, by rw [hw]; exact Grown.refl _, rfl⟩),
    by
    intro _ act W hS hun hd
    have h3 : act.eval (.tmp 3) = .pointer (some ⟨w.heap.size + 1, 0, none⟩) := hun 3 (by kernel_rfl)
    exact g_field51 Grown.grow rfl (by omega) h3 rfl,
    by
    intro _ act W hS hun hd
    have h10 : act.eval (.tmp 10) = .pointer (some ⟨w.heap.size + 1, 1, none⟩) := hd 5 _ 10 rfl rfl (by kernel_rfl)
    exact g_load3 Grown.grow rfl h10 (Ext.cell (Cb2) ⟨W, hS.below⟩) rfl,
    by
    intro _ act W hS hun hd
    have h2 : act.eval (.tmp 2) = .pointer (some ⟨w.heap.size, 0, none⟩) := hun 2 (by kernel_rfl)
    exact g_field51 Grown.grow rfl (by omega) h2 rfl,
    by
    intro _ act W hS hun hd
    have h12 : act.eval (.tmp 12) = .pointer (some ⟨w.heap.size, 1, none⟩) := hd 7 _ 12 rfl rfl (by kernel_rfl)
    exact g_load3 Grown.grow rfl h12 (Ext.cell (Ca2) ⟨W, hS.below⟩) rfl,
    by
    intro _ act W hS hun hd
    have h11 : act.eval (.tmp 11) = .int .i64 b2 := hd 6 _ 11 rfl rfl (by kernel_rfl)
    have h13 : act.eval (.tmp 13) = .int .i64 a2 := hd 8 _ 13 rfl rfl (by kernel_rfl)
    exact g_call (f := 40) (args := #[.int .i64 b2, .int .i64 a2]) rfl en40 (by simp only [List.map_toArray, List.map_cons, List.map_nil, h11, h13]) ((compare_any b2 a2 W).mono fun _ _ ⟨he, hw⟩ => ⟨_, he, by rw [hw]; exact Grown.refl _, rfl⟩),
    by
    intro _ act W hS hun hd
    have h9 : act.eval (.tmp 9) = .int .i64 (cmpI a1 b1) := hd 4 _ 9 rfl rfl (by kernel_rfl)
    have h14 : act.eval (.tmp 14) = .int .i64 (cmpI b2 a2) := hd 9 _ 14 rfl rfl (by kernel_rfl)
    exact g_two48 rfl h9 h14,
    by
    intro _ act W hS hun hd
    have h15 : (Sp.st (twoSt (cmpI a1 b1) (cmpI b2 a2))).holds (act.eval (.tmp 15)) W := hd 10 _ 15 rfl rfl (by kernel_rfl)
    obtain ⟨g, e, k0, k1⟩ := h15
    exact g_call (f := 39) (args := #[.slice (some ⟨g, 0, none⟩) 2 2]) rfl en39 (by simp only [List.map_toArray, List.map_cons, List.map_nil, e]) ((or_two g 2 _ _ W k0 k1).mono fun _ _ ⟨he, hw⟩ => ⟨_, he, by rw [hw]; exact Grown.refl _, rfl⟩),
    by
    intro _ act W hS hun hd
    have h16 : act.eval (.tmp 16) = .int .i64 (orI (cmpI a1 b1) (cmpI b2 a2)) := hd 11 _ 16 rfl rfl (by kernel_rfl)
    exact g_assign Grown.grow rfl h16 rfl,
    trivial⟩ ?_
  intro f W hS hf
  have h4 : f 4 = .int .i64 (orI (cmpI a1 b1) (cmpI b2 a2)) := hf 12 _ 4 rfl rfl
  have hG := G2.trans hS
  clear hf hS
  simp only [putOps]
  go_simp
  go_wp2_with fail
  go_ret
  exact ⟨rfl, hG⟩
theorem order_any (a b : Int × Int) (w : World) :
    Calls Try.prog 34 #[.agg #[.int .i64 a.1, .int .i64 a.2], .agg #[.int .i64 b.1, .int .i64 b.2]] w fun e w' => e = .returned (.int .i64 (ordI a b)) ∧ Grown w w' := order_raw a.1 a.2 b.1 b.2 w
end Go.Proofs.Ytgploogflhfolaa

/- The law ClassEnds, walked. -/
import Derived.Test.YtcnikeeapillnaaDoorYi
namespace Go.Proofs.YtcnikeeapillnaaDoor
open Go Go.RowKit
theorem ext_cell {w : World} {b o : Nat} {v : Value} (h : w.cell? ⟨b, o, none⟩ = some v) {w' : World} (hb : Below w.heap.size w w') : w'.cell? ⟨b, o, none⟩ = some v :=
  (hb.cell (p := ⟨b, o, none⟩) (World.block_lt_of_cell? _ _ h)).trans h
theorem from_zas (t : Nat → Bool) (h : ∀ i, i < 256 → fromS [] i = t i) (w : World) :
    Calls Tryd.prog 30 #[.slice none 0 0] w fun e w' => ∃ v, e = .returned v ∧ Below w.heap.size w w' ∧ v = .agg #[.int .u64 (wd t 0), .int .u64 (wd t 1), .int .u64 (wd t 2), .int .u64 (wd t 3)] :=
  (from_any [] (.slice none 0 0) w ⟨none, 0, rfl, by simp, fun h => by simp at h⟩ (by intro r hr; simp at hr)).mono fun _ _ ⟨he, hb⟩ => ⟨_, he, hb, cls_congr h⟩
def ends12 : Nat → Int
  | 0 => -9223372036854775808
  | 1 => -1
  | 2 => 0
  | 3 => 63
  | 4 => 64
  | 5 => 127
  | 6 => 128
  | 7 => 191
  | 8 => 192
  | 9 => 255
  | 10 => 256
  | _ => 9223372036854775807
theorem u8_nat (n : Int) : ∃ a : Nat, IntKind.u8.wrap n = (a : Int) ∧ a < 256 := by
  have h := IntKind.wrap_u8 n
  refine ⟨(n % 256).toNat, ?_, ?_⟩ <;> omega
theorem of_one (g c k : Nat) (hk : k < 256) (W : World) (hg : g < W.heap.size) (h : W.cell? ⟨g, 0, none⟩ = some (.int .u8 k)) :
    Calls Tryd.prog 13 #[.slice (some ⟨g, 0, none⟩) 1 c] W fun e w' => e = .returned (.agg #[.int .u64 (wd (mem [k]) 0), .int .u64 (wd (mem [k]) 1), .int .u64 (wd (mem [k]) 2), .int .u64 (wd (mem [k]) 3)]) ∧ Below W.heap.size W w' :=
  of_cells g 0 c [k] W (by simp [maxLen]) (fun j hj => by
    have : j = 0 := by simp at hj; omega
    subst this; simpa using hk) hg (fun j hj => by
    have : j = 0 := by simp at hj; omega
    subst this; simpa using h)

set_option maxRecDepth 100000 in
set_option maxHeartbeats 4000000 in
theorem ends_any (w : World) (hT : Tab w) : Calls Tryd.prog 5 #[] w fun e w' => e = .returned (.bool true) ∧ Below w.heap.size w w' := by
  have HTW := Lib.hid hT
  clear hT
  have s0e : ∃ s0, s0 = mem [] := ⟨_, rfl⟩
  obtain ⟨s0, es0⟩ := s0e
  have HR0 : Hid ((#[.int .u64 0, .int .u64 0, .int .u64 0, .int .u64 0] : Array Value) = #[.int .u64 (wd s0 0), .int .u64 (wd s0 1), .int .u64 (wd s0 2), .int .u64 (wd s0 3)]) := by rw [es0]; exact row_none
  have HA0 : Hid (∀ i, i < 256 → allS [] i = (fun i => !s0 i) i) := fun i _ => by rw [es0]; simp [allS, mem]
  have HO0 : Hid (∀ i, i < 256 → anyS [] i = s0 i) := fun i _ => by rw [es0]; simp [anyS, mem]
  have HF0 : Hid (∀ i, i < 256 → fromS [] i = s0 i) := fun i _ => by rw [es0]; simp [fromS, mem]
  clear es0
  have HN0 : Hid (Blk (w.alloc (.cells #[.int .u64 0, .int .u64 0, .int .u64 0, .int .u64 0] 25)) w.heap.size #[.int .u64 (wd s0 0), .int .u64 (wd s0 1), .int .u64 (wd s0 2), .int .u64 (wd s0 3)] 25) := by
    have h := Blk.new w #[.int .u64 0, .int .u64 0, .int .u64 0, .int .u64 0] 25
    have h2 : Blk (w.alloc (.cells #[.int .u64 0, .int .u64 0, .int .u64 0, .int .u64 0] 25)) w.heap.size #[.int .u64 (wd s0 0), .int .u64 (wd s0 1), .int .u64 (wd s0 2), .int .u64 (wd s0 3)] 25 := by unfold Blk at h ⊢; rw [h, HR0.out]
    exact h2
  have HB0 : Hid (Below w.heap.size w (w.alloc (.cells #[.int .u64 0, .int .u64 0, .int .u64 0, .int .u64 0] 25))) := (Below.refl _ _).alloc (Nat.le_refl _) _
  go_enter Tryd.func5, Tryd.ntmps5
  go_wp2_with fail
  go_loopw [2] (fun i wr => ∃ k : Nat, k ≤ 256 ∧ i = .int .i64 k ∧ Below w.heap.size w wr ∧ Blk wr w.heap.size #[.int .u64 (wd s0 0), .int .u64 (wd s0 1), .int .u64 (wd s0 2), .int .u64 (wd s0 3)] 25) (fun i _ => 256 - (intOf i).toNat)
  case atStart => exact ⟨0, by omega, rfl, HB0.out, HN0.out⟩
  case round =>
    clear HB0 HN0
    obtain ⟨k, hk, rfl, hb, hN⟩ := hrel
    have HB := Lib.hid hb
    have HNN := Lib.hid hN
    clear hb hN
    by_cases hlt : k < 256
    · have HW1 : Hid (IntKind.u8.wrap (k : Int) = (k : Nat)) := IntWalk.u8_in _ (by omega)
      have HW2 : Hid (IntKind.i64.wrap (255 - (k : Int)) = (255 - k : Nat)) := (IntWalk.i64_in _ (by omega)).trans (by omega)
      have HW3 : Hid (IntKind.u8.wrap ((255 - k : Nat) : Int) = (255 - k : Nat)) := IntWalk.u8_in _ (by omega)
      have HW4 : Hid (IntKind.i64.wrap ((k : Int) + 1) = (k + 1 : Nat)) := (IntWalk.i64_in _ (by omega)).trans (by omega)
      have HW5 : Hid (IntKind.u8.wrap ((k + 1 : Nat) : Int) = ((k + 1) % 256 : Nat)) := by unfold Hid; rw [IntKind.wrap_u8]; omega
      have hk2 : (k : Int) < 256 := by omega
      go_wp2_with fail
      refine (of_one wr.heap.size 1 k hlt _ (by simp) (by rw [(Blk.new wr _ _).cell]; rfl)).mono ?_
      rintro e w1 ⟨rfl, hb1⟩
      have HB1 := Lib.hid (HB.out.trans ((((Below.refl _ _).alloc (Nat.le_refl _) _).trans (hb1.mono (by simp))).mono HB.out.size))
      have HNN1 := Lib.hid ((HNN.out.alloc (.cells #[.int .u8 k] 5)).below hb1 (by have := HNN.out.lt; simp; omega))
      generalize mem [k] = s
      clear hb1
      go_wp2_with fail
      have HC := Lib.hid (Blk.new w1 #[.int .u64 (wd s 0), .int .u64 (wd s 1), .int .u64 (wd s 2), .int .u64 (wd s 3)] 25)
      have HBX := Lib.hid (HB1.out.alloc HB1.out.size (.cells #[.int .u64 (wd s 0), .int .u64 (wd s 1), .int .u64 (wd s 2), .int .u64 (wd s 3)] 25))
      have HNX := Lib.hid (HNN1.out.alloc (.cells #[.int .u64 (wd s 0), .int .u64 (wd s 1), .int .u64 (wd s 2), .int .u64 (wd s 3)] 25))
      have HT := Lib.hid (HTW.out.below HBX.out)
      refine wp_region_puts [some (.is (.int .i64 (k : Int))), some (.is (.int .u8 ((k : Nat)))), some (.is (.int .i64 (k : Int))), some (.is (.int .u8 ((k : Nat)))), some (.st (txtSt [k, k])), some (.is (.agg #[.int .u64 (wd (s) 0), .int .u64 (wd (s) 1), .int .u64 (wd (s) 2), .int .u64 (wd (s) 3)])), some (.is (.int .i64 (k : Int))), some (.is (.int .u8 ((k : Nat)))), some (.is (.int .i64 (k : Int))), some (.is (.int .i64 (255 - k : Nat))), some (.is (.int .u8 ((255 - k : Nat)))), some (.is (.int .i64 (k : Int))), some (.is (.bool true)), some (.is (.bool false)), some (.is (.bool false)), some (.is (.agg #[.int .u64 (wd (s) 0), .int .u64 (wd (s) 1), .int .u64 (wd (s) 2), .int .u64 (wd (s) 3)])), some (.is (.agg #[.int .u64 (wd (fun i => !s i) 0), .int .u64 (wd (fun i => !s i) 1), .int .u64 (wd (fun i => !s i) 2), .int .u64 (wd (fun i => !s i) 3)])), some (.is (.int .i64 (k : Int))), some (.is (.int .u8 ((k : Nat)))), some (.is (.int .i64 (k : Int))), some (.is (.int .i64 (k + 1 : Nat))), some (.is (.int .u8 (((k + 1) % 256 : Nat)))), some (.is (.int .i64 (k : Int))), some (.is (.int .i64 (k + 1 : Nat))), some (.is (.bool true)), some (.is (.bool false)), some (.is (.bool false)), some (.is (.bool false)), some (.is (.agg #[.int .u64 (wd (s) 0), .int .u64 (wd (s) 1), .int .u64 (wd (s) 2), .int .u64 (wd (s) 3)])), some (.is (.agg #[.int .u64 (wd (s) 0), .int .u64 (wd (s) 1), .int .u64 (wd (s) 2), .int .u64 (wd (s) 3)])), some (.is (.agg #[.int .u64 (wd (s) 0), .int .u64 (wd (s) 1), .int .u64 (wd (s) 2), .int .u64 (wd (s) 3)])), some (.is (.agg #[.int .u64 (wd (fun i => !s i) 0), .int .u64 (wd (fun i => !s i) 1), .int .u64 (wd (fun i => !s i) 2), .int .u64 (wd (fun i => !s i) 3)])), some (.st (srcSt 2 4 (ccells [s, fun i => !s i]))), some (.is (.int .i64 (k : Int))), some (.is (.int .u8 ((k : Nat)))), some (.is (.int .i64 (k : Int))), some (.is (.int .i64 (255 - k : Nat))), some (.is (.int .u8 ((255 - k : Nat)))), some (.is (.agg #[.int .u8 (k : Nat), .int .u8 (255 - k : Nat)])), some (.is (.int .i64 (k : Int))), some (.is (.int .u8 ((k : Nat)))), some (.is (.int .i64 (k : Int))), some (.is (.int .u8 ((k : Nat)))), some (.is (.agg #[.int .u8 (k : Nat), .int .u8 (k : Nat)])), some (.st (srcSt 2 2 (rcells [(k, 255 - k), (k, k)]))), some (.is (.bool true)), some (.is (.bool false)), some (.is (.bool false))] (by kernel_rfl) (by kernel_rfl) (by kernel_rfl) (by kernel_rfl) ⟨by
        intro _ act W hS hun hd
        have h2 : act.eval (.tmp 2) = .int .i64 (k : Int) := hun 2 (by kernel_rfl)
        exact g_move rfl h2,
        by
        intro _ act W hS hun hd
        have h15 : act.eval (.tmp 15) = .int .i64 (k : Int) := hd 0 _ 15 rfl rfl (by kernel_rfl)
        exact g_conv35 rfl h15 (HW1.out) rfl,
        by
        intro _ act W hS hun hd
        have h2 : act.eval (.tmp 2) = .int .i64 (k : Int) := hun 2 (by kernel_rfl)
        exact g_move rfl h2,
        by
        intro _ act W hS hun hd
        have h17 : act.eval (.tmp 17) = .int .i64 (k : Int) := hd 2 _ 17 rfl rfl (by kernel_rfl)
        exact g_conv35 rfl h17 (HW1.out) rfl,
        by
        intro _ act W hS hun hd
        have h16 : act.eval (.tmp 16) = .int .u8 ((k : Nat)) := hd 1 _ 16 rfl rfl (by kernel_rfl)
        have h18 : act.eval (.tmp 18) = .int .u8 ((k : Nat)) := hd 3 _ 18 rfl rfl (by kernel_rfl)
        exact g_two22 hlt rfl h16 h18,
        by
        intro _ act W hS hun hd
        exact g_load4 rfl (hun 3 (by kernel_rfl)) (HC.out.below hS HC.out.lt) rfl,
        by
        intro _ act W hS hun hd
        have h2 : act.eval (.tmp 2) = .int .i64 (k : Int) := hun 2 (by kernel_rfl)
        exact g_move rfl h2,
        by
        intro _ act W hS hun hd
        have h21 : act.eval (.tmp 21) = .int .i64 (k : Int) := hd 6 _ 21 rfl rfl (by kernel_rfl)
        exact g_conv35 rfl h21 (HW1.out) rfl,
        by
        intro _ act W hS hun hd
        have h2 : act.eval (.tmp 2) = .int .i64 (k : Int) := hun 2 (by kernel_rfl)
        exact g_move rfl h2,
        by
        intro _ act W hS hun hd
        have h23 : act.eval (.tmp 23) = .int .i64 (k : Int) := hd 8 _ 23 rfl rfl (by kernel_rfl)
        exact g_sub3 rfl rfl h23 HW2.out rfl,
        by
        intro _ act W hS hun hd
        have h24 : act.eval (.tmp 24) = .int .i64 (255 - k : Nat) := hd 9 _ 24 rfl rfl (by kernel_rfl)
        exact g_conv35 rfl h24 (HW3.out) rfl,
        by
        intro _ act W hS hun hd
        have h2 : act.eval (.tmp 2) = .int .i64 (k : Int) := hun 2 (by kernel_rfl)
        exact g_move rfl h2,
        by
        intro _ act W hS hun hd
        obtain ⟨A19, c19, h19, hn19, ht19⟩ : (Sp.st (txtSt [k, k])).holds (act.eval (.tmp 19)) W := hd 4 _ 19 rfl rfl (by kernel_rfl)
        have h20 : act.eval (.tmp 20) = .agg #[.int .u64 (wd (s) 0), .int .u64 (wd (s) 1), .int .u64 (wd (s) 2), .int .u64 (wd (s) 3)] := hd 5 _ 20 rfl rfl (by kernel_rfl)
        have h22 : act.eval (.tmp 22) = .int .u8 ((k : Nat)) := hd 7 _ 22 rfl rfl (by kernel_rfl)
        have h25 : act.eval (.tmp 25) = .int .u8 ((255 - k : Nat)) := hd 10 _ 25 rfl rfl (by kernel_rfl)
        have h26 : act.eval (.tmp 26) = .int .i64 (k : Int) := hd 11 _ 26 rfl rfl (by kernel_rfl)
        exact g_call (f := 3) (args := #[.slice A19 2 c19, .agg #[.int .u64 (wd (s) 0), .int .u64 (wd (s) 1), .int .u64 (wd (s) 2), .int .u64 (wd (s) 3)], .int .u8 ((k : Nat)), .int .u8 ((255 - k : Nat)), .int .i64 (k : Int)]) rfl (enters_of Tryd.func3 (by kernel_rfl) rfl) (by first | (simp only [List.map_toArray, List.map_cons, List.map_nil, h19, h20, h22, h25, h26]; rfl) | (simp only [List.map_toArray, List.map_cons, List.map_nil, h19, h20, h22, h25, h26]; done)) ((tells_any A19 [k, k] c19 s k (255 - k) k W (HT.out.below hS) (by simp) hlt (by omega) hn19 ht19).mono fun _ _ ⟨he, hb⟩ => ⟨_, he, hb, rfl⟩),
        by
        intro _ act W hS hun hd
        have h27 : act.eval (.tmp 27) = .bool true := hd 12 _ 27 rfl rfl (by kernel_rfl)
        exact g_not rfl h27 rfl,
        by
        intro _ act W hS hun hd
        have h28 : act.eval (.tmp 28) = .bool false := hd 13 _ 28 rfl rfl (by kernel_rfl)
        exact g_move rfl h28,
        by
        intro _ act W hS hun hd
        exact g_load4 rfl (hun 3 (by kernel_rfl)) (HC.out.below hS HC.out.lt) rfl,
        by
        intro _ act W hS hun hd
        have h30 : act.eval (.tmp 30) = .agg #[.int .u64 (wd (s) 0), .int .u64 (wd (s) 1), .int .u64 (wd (s) 2), .int .u64 (wd (s) 3)] := hd 15 _ 30 rfl rfl (by kernel_rfl)
        exact g_call (f := 25) (args := #[.agg #[.int .u64 (wd (s) 0), .int .u64 (wd (s) 1), .int .u64 (wd (s) 2), .int .u64 (wd (s) 3)]]) rfl (enters_of Tryd.func25 (by kernel_rfl) rfl) (by first | (simp only [List.map_toArray, List.map_cons, List.map_nil, h30]; rfl) | (simp only [List.map_toArray, List.map_cons, List.map_nil, h30]; done)) ((rnot_any s W).mono fun _ _ ⟨he, hb⟩ => ⟨_, he, hb, rfl⟩),
        by
        intro _ act W hS hun hd
        have h2 : act.eval (.tmp 2) = .int .i64 (k : Int) := hun 2 (by kernel_rfl)
        exact g_move rfl h2,
        by
        intro _ act W hS hun hd
        have h32 : act.eval (.tmp 32) = .int .i64 (k : Int) := hd 17 _ 32 rfl rfl (by kernel_rfl)
        exact g_conv35 rfl h32 (HW1.out) rfl,
        by
        intro _ act W hS hun hd
        have h2 : act.eval (.tmp 2) = .int .i64 (k : Int) := hun 2 (by kernel_rfl)
        exact g_move rfl h2,
        by
        intro _ act W hS hun hd
        have h34 : act.eval (.tmp 34) = .int .i64 (k : Int) := hd 19 _ 34 rfl rfl (by kernel_rfl)
        exact g_add3 rfl h34 rfl HW4.out rfl,
        by
        intro _ act W hS hun hd
        have h35 : act.eval (.tmp 35) = .int .i64 (k + 1 : Nat) := hd 20 _ 35 rfl rfl (by kernel_rfl)
        exact g_conv35 rfl h35 (HW5.out) rfl,
        by
        intro _ act W hS hun hd
        have h2 : act.eval (.tmp 2) = .int .i64 (k : Int) := hun 2 (by kernel_rfl)
        exact g_move rfl h2,
        by
        intro _ act W hS hun hd
        have h37 : act.eval (.tmp 37) = .int .i64 (k : Int) := hd 22 _ 37 rfl rfl (by kernel_rfl)
        exact g_add3 rfl h37 rfl HW4.out rfl,
        by
        intro _ act W hS hun hd
        have h31 : act.eval (.tmp 31) = .agg #[.int .u64 (wd (fun i => !s i) 0), .int .u64 (wd (fun i => !s i) 1), .int .u64 (wd (fun i => !s i) 2), .int .u64 (wd (fun i => !s i) 3)] := hd 16 _ 31 rfl rfl (by kernel_rfl)
        have h33 : act.eval (.tmp 33) = .int .u8 ((k : Nat)) := hd 18 _ 33 rfl rfl (by kernel_rfl)
        have h36 : act.eval (.tmp 36) = .int .u8 (((k + 1) % 256 : Nat)) := hd 21 _ 36 rfl rfl (by kernel_rfl)
        have h38 : act.eval (.tmp 38) = .int .i64 (k + 1 : Nat) := hd 23 _ 38 rfl rfl (by kernel_rfl)
        exact g_call (f := 3) (args := #[.slice none 0 0, .agg #[.int .u64 (wd (fun i => !s i) 0), .int .u64 (wd (fun i => !s i) 1), .int .u64 (wd (fun i => !s i) 2), .int .u64 (wd (fun i => !s i) 3)], .int .u8 ((k : Nat)), .int .u8 (((k + 1) % 256 : Nat)), .int .i64 (k + 1 : Nat)]) rfl (enters_of Tryd.func3 (by kernel_rfl) rfl) (by first | (simp only [List.map_toArray, List.map_cons, List.map_nil, h31, h33, h36, h38]; rfl) | (simp only [List.map_toArray, List.map_cons, List.map_nil, h31, h33, h36, h38]; done)) ((tells_any none [] 0 (fun i => !s i) k ((k + 1) % 256) (k + 1 : Nat) W (HT.out.below hS) (by simp) hlt (by omega) (fun _ => rfl) (txt_nil W)).mono fun _ _ ⟨he, hb⟩ => ⟨_, he, hb, rfl⟩),
        by
        intro _ act W hS hun hd
        have h39 : act.eval (.tmp 39) = .bool true := hd 24 _ 39 rfl rfl (by kernel_rfl)
        exact g_not rfl h39 rfl,
        by
        intro _ act W hS hun hd
        have h29 : act.eval (.tmp 29) = .bool false := hd 14 _ 29 rfl rfl (by kernel_rfl)
        have h40 : act.eval (.tmp 40) = .bool false := hd 25 _ 40 rfl rfl (by kernel_rfl)
        exact g_pick rfl h29 h40 rfl,
        by
        intro _ act W hS hun hd
        have h41 : act.eval (.tmp 41) = .bool false := hd 26 _ 41 rfl rfl (by kernel_rfl)
        exact g_move rfl h41,
        by
        intro _ act W hS hun hd
        exact g_load4 rfl (hun 3 (by kernel_rfl)) (HC.out.below hS HC.out.lt) rfl,
        by
        intro _ act W hS hun hd
        exact g_load4 rfl (hun 3 (by kernel_rfl)) (HC.out.below hS HC.out.lt) rfl,
        by
        intro _ act W hS hun hd
        exact g_load4 rfl (hun 3 (by kernel_rfl)) (HC.out.below hS HC.out.lt) rfl,
        by
        intro _ act W hS hun hd
        have h45 : act.eval (.tmp 45) = .agg #[.int .u64 (wd (s) 0), .int .u64 (wd (s) 1), .int .u64 (wd (s) 2), .int .u64 (wd (s) 3)] := hd 30 _ 45 rfl rfl (by kernel_rfl)
        exact g_call (f := 25) (args := #[.agg #[.int .u64 (wd (s) 0), .int .u64 (wd (s) 1), .int .u64 (wd (s) 2), .int .u64 (wd (s) 3)]]) rfl (enters_of Tryd.func25 (by kernel_rfl) rfl) (by first | (simp only [List.map_toArray, List.map_cons, List.map_nil, h45]; rfl) | (simp only [List.map_toArray, List.map_cons, List.map_nil, h45]; done)) ((rnot_any s W).mono fun _ _ ⟨he, hb⟩ => ⟨_, he, hb, rfl⟩),
        by
        intro _ act W hS hun hd
        have h44 : act.eval (.tmp 44) = .agg #[.int .u64 (wd (s) 0), .int .u64 (wd (s) 1), .int .u64 (wd (s) 2), .int .u64 (wd (s) 3)] := hd 29 _ 44 rfl rfl (by kernel_rfl)
        have h46 : act.eval (.tmp 46) = .agg #[.int .u64 (wd (fun i => !s i) 0), .int .u64 (wd (fun i => !s i) 1), .int .u64 (wd (fun i => !s i) 2), .int .u64 (wd (fun i => !s i) 3)] := hd 31 _ 46 rfl rfl (by kernel_rfl)
        exact g_two41 rfl h44 h46,
        by
        intro _ act W hS hun hd
        have h2 : act.eval (.tmp 2) = .int .i64 (k : Int) := hun 2 (by kernel_rfl)
        exact g_move rfl h2,
        by
        intro _ act W hS hun hd
        have h48 : act.eval (.tmp 48) = .int .i64 (k : Int) := hd 33 _ 48 rfl rfl (by kernel_rfl)
        exact g_conv35 rfl h48 (HW1.out) rfl,
        by
        intro _ act W hS hun hd
        have h2 : act.eval (.tmp 2) = .int .i64 (k : Int) := hun 2 (by kernel_rfl)
        exact g_move rfl h2,
        by
        intro _ act W hS hun hd
        have h50 : act.eval (.tmp 50) = .int .i64 (k : Int) := hd 35 _ 50 rfl rfl (by kernel_rfl)
        exact g_sub3 rfl rfl h50 HW2.out rfl,
        by
        intro _ act W hS hun hd
        have h51 : act.eval (.tmp 51) = .int .i64 (255 - k : Nat) := hd 36 _ 51 rfl rfl (by kernel_rfl)
        exact g_conv35 rfl h51 (HW3.out) rfl,
        by
        intro _ act W hS hun hd
        have h49 : act.eval (.tmp 49) = .int .u8 ((k : Nat)) := hd 34 _ 49 rfl rfl (by kernel_rfl)
        have h52 : act.eval (.tmp 52) = .int .u8 ((255 - k : Nat)) := hd 37 _ 52 rfl rfl (by kernel_rfl)
        exact g_build38 rfl h49 h52 rfl,
        by
        intro _ act W hS hun hd
        have h2 : act.eval (.tmp 2) = .int .i64 (k : Int) := hun 2 (by kernel_rfl)
        exact g_move rfl h2,
        by
        intro _ act W hS hun hd
        have h54 : act.eval (.tmp 54) = .int .i64 (k : Int) := hd 39 _ 54 rfl rfl (by kernel_rfl)
        exact g_conv35 rfl h54 (HW1.out) rfl,
        by
        intro _ act W hS hun hd
        have h2 : act.eval (.tmp 2) = .int .i64 (k : Int) := hun 2 (by kernel_rfl)
        exact g_move rfl h2,
        by
        intro _ act W hS hun hd
        have h56 : act.eval (.tmp 56) = .int .i64 (k : Int) := hd 41 _ 56 rfl rfl (by kernel_rfl)
        exact g_conv35 rfl h56 (HW1.out) rfl,
        by
        intro _ act W hS hun hd
        have h55 : act.eval (.tmp 55) = .int .u8 ((k : Nat)) := hd 40 _ 55 rfl rfl (by kernel_rfl)
        have h57 : act.eval (.tmp 57) = .int .u8 ((k : Nat)) := hd 42 _ 57 rfl rfl (by kernel_rfl)
        exact g_build38 rfl h55 h57 rfl,
        by
        intro _ act W hS hun hd
        have h53 : act.eval (.tmp 53) = .agg #[.int .u8 (k : Nat), .int .u8 (255 - k : Nat)] := hd 38 _ 53 rfl rfl (by kernel_rfl)
        have h58 : act.eval (.tmp 58) = .agg #[.int .u8 (k : Nat), .int .u8 (k : Nat)] := hd 43 _ 58 rfl rfl (by kernel_rfl)
        exact g_two30 rfl h53 h58,
        by
        intro _ act W hS hun hd
        have h43 : act.eval (.tmp 43) = .agg #[.int .u64 (wd (s) 0), .int .u64 (wd (s) 1), .int .u64 (wd (s) 2), .int .u64 (wd (s) 3)] := hd 28 _ 43 rfl rfl (by kernel_rfl)
        obtain ⟨A47, c47, h47, ht47⟩ : (Sp.st (srcSt 2 4 (ccells [s, fun i => !s i]))).holds (act.eval (.tmp 47)) W := hd 32 _ 47 rfl rfl (by kernel_rfl)
        obtain ⟨A59, c59, h59, ht59⟩ : (Sp.st (srcSt 2 2 (rcells [(k, 255 - k), (k, k)]))).holds (act.eval (.tmp 59)) W := hd 44 _ 59 rfl rfl (by kernel_rfl)
        exact g_call (f := 4) (args := #[.agg #[.int .u64 (wd (s) 0), .int .u64 (wd (s) 1), .int .u64 (wd (s) 2), .int .u64 (wd (s) 3)], .slice A47 2 c47, .slice A59 2 c59]) rfl (enters_of Tryd.func4 (by kernel_rfl) rfl) (by first | (simp only [List.map_toArray, List.map_cons, List.map_nil, h43, h47, h59]; rfl) | (simp only [List.map_toArray, List.map_cons, List.map_nil, h43, h47, h59]; done)) ((joins_any s (.slice A47 2 c47) (.slice A59 2 c59) [s, fun i => !s i] [(k, 255 - k), (k, k)] W (HT.out.below hS) (by intro r hr; simp at hr; rcases hr with rfl | rfl <;> simp <;> omega) 0 0 A47 A59 c47 c59 rfl rfl (by rw [h47] at ht47; exact ht47) (by rw [h59] at ht59; exact ht59) (by simp)).mono fun _ _ ⟨he, hb⟩ => ⟨_, he, hb, rfl⟩),
        by
        intro _ act W hS hun hd
        have h60 : act.eval (.tmp 60) = .bool true := hd 45 _ 60 rfl rfl (by kernel_rfl)
        exact g_not rfl h60 rfl,
        by
        intro _ act W hS hun hd
        have h42 : act.eval (.tmp 42) = .bool false := hd 27 _ 42 rfl rfl (by kernel_rfl)
        have h61 : act.eval (.tmp 61) = .bool false := hd 46 _ 61 rfl rfl (by kernel_rfl)
        exact g_pick rfl h42 h61 rfl,
      trivial⟩ ?_
      intro f W hS hf
      have h62 : f 62 = .bool false := hf 47 _ 62 rfl rfl
      have HBY := Lib.hid (HBX.out.trans (hS.mono HBX.out.size))
      have HNY := Lib.hid (HNX.out.below hS HNX.out.lt)
      clear hf hS
      simp only [putOps]
      go_simp
      go_wp2_with fail
      go_roundw
      case rel => exact ⟨k + 1, by omega, by go_num, HBY.out, HNY.out⟩
      case measure => first | (simp [intOf]; done) | (simp [intOf]; omega)
    · obtain rfl : k = 256 := by omega
      obtain ⟨wo, rfl⟩ : ∃ wo : World, wo = wr := ⟨_, rfl⟩
      have hC : ∀ i, i < 12 → (wo.alloc (.cells #[.int .i64 (ends12 0), .int .i64 (ends12 1), .int .i64 (ends12 2), .int .i64 (ends12 3), .int .i64 (ends12 4), .int .i64 (ends12 5), .int .i64 (ends12 6), .int .i64 (ends12 7), .int .i64 (ends12 8), .int .i64 (ends12 9), .int .i64 (ends12 10), .int .i64 (ends12 11)] 3)).cell? ⟨wo.heap.size, i, none⟩ = some (.int .i64 (ends12 i)) := by
        intro i hi
        rw [(Blk.new wo _ _).cell]
        have : i = 0 ∨ i = 1 ∨ i = 2 ∨ i = 3 ∨ i = 4 ∨ i = 5 ∨ i = 6 ∨ i = 7 ∨ i = 8 ∨ i = 9 ∨ i = 10 ∨ i = 11 := by omega
        rcases this with rfl | rfl | rfl | rfl | rfl | rfl | rfl | rfl | rfl | rfl | rfl | rfl <;> rfl
      have HC0 := Lib.hid hC
      have HB1 := Lib.hid (HB.out.alloc HB.out.size (.cells #[.int .i64 (ends12 0), .int .i64 (ends12 1), .int .i64 (ends12 2), .int .i64 (ends12 3), .int .i64 (ends12 4), .int .i64 (ends12 5), .int .i64 (ends12 6), .int .i64 (ends12 7), .int .i64 (ends12 8), .int .i64 (ends12 9), .int .i64 (ends12 10), .int .i64 (ends12 11)] 3))
      have HN1 := Lib.hid (HNN.out.alloc (.cells #[.int .i64 (ends12 0), .int .i64 (ends12 1), .int .i64 (ends12 2), .int .i64 (ends12 3), .int .i64 (ends12 4), .int .i64 (ends12 5), .int .i64 (ends12 6), .int .i64 (ends12 7), .int .i64 (ends12 8), .int .i64 (ends12 9), .int .i64 (ends12 10), .int .i64 (ends12 11)] 3))
      clear hC HB HNN
      go_wp2_with fail
      go_loopw [5] (fun v wr => ∃ i : Nat, i ≤ 12 ∧ v = .int .i64 i ∧ Below w.heap.size w wr ∧ Blk wr w.heap.size #[.int .u64 (wd s0 0), .int .u64 (wd s0 1), .int .u64 (wd s0 2), .int .u64 (wd s0 3)] 25 ∧ ∀ i, i < 12 → wr.cell? ⟨wo.heap.size, i, none⟩ = some (.int .i64 (ends12 i))) (fun i _ => 12 - (intOf i).toNat)
      case atStart => exact ⟨0, by omega, rfl, HB1.out, HN1.out, HC0.out⟩
      case round =>
        clear HB1 HN1 HC0
        obtain ⟨i, hi, rfl, hb, hN, hC⟩ := hrel
        have HB := Lib.hid hb
        have HN := Lib.hid hN
        have HCE := Lib.hid hC
        clear hb hN hC
        by_cases hli : i < 12
        · have hi2 : (i : Int) < 12 := by omega
          obtain ⟨ex, eex⟩ : ∃ ex, ex = ends12 i := ⟨_, rfl⟩
          have EX := Lib.hid eex
          clear eex
          obtain ⟨ax, wax, hax⟩ := u8_nat ex
          have WX := Lib.hid wax
          clear wax
          go_wp2_with fail
          obtain ⟨w2, rfl⟩ : ∃ wo : World, wo = wr := ⟨_, rfl⟩
          go_loopw [6] (fun v wr => ∃ j : Nat, j ≤ 12 ∧ v = .int .i64 j ∧ Below w.heap.size w wr ∧ Blk wr w.heap.size #[.int .u64 (wd s0 0), .int .u64 (wd s0 1), .int .u64 (wd s0 2), .int .u64 (wd s0 3)] 25 ∧ ∀ i, i < 12 → wr.cell? ⟨wo.heap.size, i, none⟩ = some (.int .i64 (ends12 i))) (fun i _ => 12 - (intOf i).toNat)
          case atStart => exact ⟨0, by omega, rfl, HB.out, HN.out, HCE.out⟩
          case round =>
            clear HB HN HCE
            obtain ⟨j, hj, rfl, hb, hN, hC⟩ := hrel
            have HB := Lib.hid hb
            have HN := Lib.hid hN
            have HCE := Lib.hid hC
            have HT := Lib.hid (HTW.out.below hb)
            clear hb hN hC
            have CX : Hid (wr.cell? ⟨wo.heap.size, i, none⟩ = some (.int .i64 ex)) := by rw [EX.out]; exact HCE.out i hli
            by_cases hlj : j < 12
            · have hj2 : (j : Int) < 12 := by omega
              obtain ⟨ey, eey⟩ : ∃ ey, ey = ends12 j := ⟨_, rfl⟩
              have CY : Hid (wr.cell? ⟨wo.heap.size, j, none⟩ = some (.int .i64 ey)) := by rw [eey]; exact HCE.out j hlj
              clear eey
              obtain ⟨ay, way, hay⟩ := u8_nat ey
              have WY := Lib.hid way
              clear way
              go_wp2_with fail
              refine wp_region_puts [some (.is (.slice (some ⟨wo.heap.size, 0, none⟩) 12 12)), some (.is (.int .i64 (i : Int))), some (.is (.pointer (some ⟨wo.heap.size, i, none⟩))), some (.is (.int .i64 ex)), some (.is (.int .u8 ((ax : Nat)))), some (.is (.slice (some ⟨wo.heap.size, 0, none⟩) 12 12)), some (.is (.int .i64 (j : Int))), some (.is (.pointer (some ⟨wo.heap.size, j, none⟩))), some (.is (.int .i64 ey)), some (.is (.int .u8 ((ay : Nat)))), some (.is (.agg #[.int .u64 (wd (rng ax (ay + 1)) 0), .int .u64 (wd (rng ax (ay + 1)) 1), .int .u64 (wd (rng ax (ay + 1)) 2), .int .u64 (wd (rng ax (ay + 1)) 3)])), some (.is (.slice (some ⟨wo.heap.size, 0, none⟩) 12 12)), some (.is (.int .i64 (i : Int))), some (.is (.pointer (some ⟨wo.heap.size, i, none⟩))), some (.is (.int .i64 ex)), some (.is (.int .u8 ((ax : Nat)))), some (.is (.slice (some ⟨wo.heap.size, 0, none⟩) 12 12)), some (.is (.int .i64 (j : Int))), some (.is (.pointer (some ⟨wo.heap.size, j, none⟩))), some (.is (.int .i64 ey)), some (.is (.int .u8 ((ay : Nat)))), some (.is (.slice (some ⟨wo.heap.size, 0, none⟩) 12 12)), some (.is (.int .i64 (j : Int))), some (.is (.pointer (some ⟨wo.heap.size, j, none⟩))), some (.is (.int .i64 ey)), some (.is (.bool true)), some (.is (.bool false))] (by kernel_rfl) (by kernel_rfl) (by kernel_rfl) (by kernel_rfl) ⟨by
                intro _ act W hS hun hd
                have h4 : act.eval (.tmp 4) = .slice (some ⟨wo.heap.size, 0, none⟩) 12 12 := hun 4 (by kernel_rfl)
                exact g_move rfl h4,
                by
                intro _ act W hS hun hd
                have h5 : act.eval (.tmp 5) = .int .i64 (i : Int) := hun 5 (by kernel_rfl)
                exact g_move rfl h5,
                by
                intro _ act W hS hun hd
                have h76 : act.eval (.tmp 76) = .slice (some ⟨wo.heap.size, 0, none⟩) 12 12 := hd 0 _ 76 rfl rfl (by kernel_rfl)
                have h77 : act.eval (.tmp 77) = .int .i64 (i : Int) := hd 1 _ 77 rfl rfl (by kernel_rfl)
                exact g_idx48 rfl h76 h77 hli (by omega) rfl,
                by
                intro _ act W hS hun hd
                have h78 : act.eval (.tmp 78) = .pointer (some ⟨wo.heap.size, i, none⟩) := hd 2 _ 78 rfl rfl (by kernel_rfl)
                exact g_load3 rfl h78 (ext_cell CX.out hS) rfl,
                by
                intro _ act W hS hun hd
                have h79 : act.eval (.tmp 79) = .int .i64 ex := hd 3 _ 79 rfl rfl (by kernel_rfl)
                exact g_conv35 rfl h79 (WX.out) rfl,
                by
                intro _ act W hS hun hd
                have h4 : act.eval (.tmp 4) = .slice (some ⟨wo.heap.size, 0, none⟩) 12 12 := hun 4 (by kernel_rfl)
                exact g_move rfl h4,
                by
                intro _ act W hS hun hd
                have h6 : act.eval (.tmp 6) = .int .i64 (j : Int) := hun 6 (by kernel_rfl)
                exact g_move rfl h6,
                by
                intro _ act W hS hun hd
                have h81 : act.eval (.tmp 81) = .slice (some ⟨wo.heap.size, 0, none⟩) 12 12 := hd 5 _ 81 rfl rfl (by kernel_rfl)
                have h82 : act.eval (.tmp 82) = .int .i64 (j : Int) := hd 6 _ 82 rfl rfl (by kernel_rfl)
                exact g_idx48 rfl h81 h82 hlj (by omega) rfl,
                by
                intro _ act W hS hun hd
                have h83 : act.eval (.tmp 83) = .pointer (some ⟨wo.heap.size, j, none⟩) := hd 7 _ 83 rfl rfl (by kernel_rfl)
                exact g_load3 rfl h83 (ext_cell CY.out hS) rfl,
                by
                intro _ act W hS hun hd
                have h84 : act.eval (.tmp 84) = .int .i64 ey := hd 8 _ 84 rfl rfl (by kernel_rfl)
                exact g_conv35 rfl h84 (WY.out) rfl,
                by
                intro _ act W hS hun hd
                have h80 : act.eval (.tmp 80) = .int .u8 ((ax : Nat)) := hd 4 _ 80 rfl rfl (by kernel_rfl)
                have h85 : act.eval (.tmp 85) = .int .u8 ((ay : Nat)) := hd 9 _ 85 rfl rfl (by kernel_rfl)
                exact g_call (f := 16) (args := #[.int .u8 ((ax : Nat)), .int .u8 ((ay : Nat))]) rfl (enters_of Tryd.func16 (by kernel_rfl) rfl) (by first | (simp only [List.map_toArray, List.map_cons, List.map_nil, h80, h85]; rfl) | (simp only [List.map_toArray, List.map_cons, List.map_nil, h80, h85]; done)) ((rrange_any ax ay W hax hay).mono fun _ _ ⟨he, hb⟩ => ⟨_, he, hb, rfl⟩),
                by
                intro _ act W hS hun hd
                have h4 : act.eval (.tmp 4) = .slice (some ⟨wo.heap.size, 0, none⟩) 12 12 := hun 4 (by kernel_rfl)
                exact g_move rfl h4,
                by
                intro _ act W hS hun hd
                have h5 : act.eval (.tmp 5) = .int .i64 (i : Int) := hun 5 (by kernel_rfl)
                exact g_move rfl h5,
                by
                intro _ act W hS hun hd
                have h87 : act.eval (.tmp 87) = .slice (some ⟨wo.heap.size, 0, none⟩) 12 12 := hd 11 _ 87 rfl rfl (by kernel_rfl)
                have h88 : act.eval (.tmp 88) = .int .i64 (i : Int) := hd 12 _ 88 rfl rfl (by kernel_rfl)
                exact g_idx48 rfl h87 h88 hli (by omega) rfl,
                by
                intro _ act W hS hun hd
                have h89 : act.eval (.tmp 89) = .pointer (some ⟨wo.heap.size, i, none⟩) := hd 13 _ 89 rfl rfl (by kernel_rfl)
                exact g_load3 rfl h89 (ext_cell CX.out hS) rfl,
                by
                intro _ act W hS hun hd
                have h90 : act.eval (.tmp 90) = .int .i64 ex := hd 14 _ 90 rfl rfl (by kernel_rfl)
                exact g_conv35 rfl h90 (WX.out) rfl,
                by
                intro _ act W hS hun hd
                have h4 : act.eval (.tmp 4) = .slice (some ⟨wo.heap.size, 0, none⟩) 12 12 := hun 4 (by kernel_rfl)
                exact g_move rfl h4,
                by
                intro _ act W hS hun hd
                have h6 : act.eval (.tmp 6) = .int .i64 (j : Int) := hun 6 (by kernel_rfl)
                exact g_move rfl h6,
                by
                intro _ act W hS hun hd
                have h92 : act.eval (.tmp 92) = .slice (some ⟨wo.heap.size, 0, none⟩) 12 12 := hd 16 _ 92 rfl rfl (by kernel_rfl)
                have h93 : act.eval (.tmp 93) = .int .i64 (j : Int) := hd 17 _ 93 rfl rfl (by kernel_rfl)
                exact g_idx48 rfl h92 h93 hlj (by omega) rfl,
                by
                intro _ act W hS hun hd
                have h94 : act.eval (.tmp 94) = .pointer (some ⟨wo.heap.size, j, none⟩) := hd 18 _ 94 rfl rfl (by kernel_rfl)
                exact g_load3 rfl h94 (ext_cell CY.out hS) rfl,
                by
                intro _ act W hS hun hd
                have h95 : act.eval (.tmp 95) = .int .i64 ey := hd 19 _ 95 rfl rfl (by kernel_rfl)
                exact g_conv35 rfl h95 (WY.out) rfl,
                by
                intro _ act W hS hun hd
                have h4 : act.eval (.tmp 4) = .slice (some ⟨wo.heap.size, 0, none⟩) 12 12 := hun 4 (by kernel_rfl)
                exact g_move rfl h4,
                by
                intro _ act W hS hun hd
                have h6 : act.eval (.tmp 6) = .int .i64 (j : Int) := hun 6 (by kernel_rfl)
                exact g_move rfl h6,
                by
                intro _ act W hS hun hd
                have h97 : act.eval (.tmp 97) = .slice (some ⟨wo.heap.size, 0, none⟩) 12 12 := hd 21 _ 97 rfl rfl (by kernel_rfl)
                have h98 : act.eval (.tmp 98) = .int .i64 (j : Int) := hd 22 _ 98 rfl rfl (by kernel_rfl)
                exact g_idx48 rfl h97 h98 hlj (by omega) rfl,
                by
                intro _ act W hS hun hd
                have h99 : act.eval (.tmp 99) = .pointer (some ⟨wo.heap.size, j, none⟩) := hd 23 _ 99 rfl rfl (by kernel_rfl)
                exact g_load3 rfl h99 (ext_cell CY.out hS) rfl,
                by
                intro _ act W hS hun hd
                have h86 : act.eval (.tmp 86) = .agg #[.int .u64 (wd (rng ax (ay + 1)) 0), .int .u64 (wd (rng ax (ay + 1)) 1), .int .u64 (wd (rng ax (ay + 1)) 2), .int .u64 (wd (rng ax (ay + 1)) 3)] := hd 10 _ 86 rfl rfl (by kernel_rfl)
                have h91 : act.eval (.tmp 91) = .int .u8 ((ax : Nat)) := hd 15 _ 91 rfl rfl (by kernel_rfl)
                have h96 : act.eval (.tmp 96) = .int .u8 ((ay : Nat)) := hd 20 _ 96 rfl rfl (by kernel_rfl)
                have h100 : act.eval (.tmp 100) = .int .i64 ey := hd 24 _ 100 rfl rfl (by kernel_rfl)
                exact g_call (f := 3) (args := #[.slice none 0 0, .agg #[.int .u64 (wd (rng ax (ay + 1)) 0), .int .u64 (wd (rng ax (ay + 1)) 1), .int .u64 (wd (rng ax (ay + 1)) 2), .int .u64 (wd (rng ax (ay + 1)) 3)], .int .u8 ((ax : Nat)), .int .u8 ((ay : Nat)), .int .i64 ey]) rfl (enters_of Tryd.func3 (by kernel_rfl) rfl) (by first | (simp only [List.map_toArray, List.map_cons, List.map_nil, h86, h91, h96, h100]; rfl) | (simp only [List.map_toArray, List.map_cons, List.map_nil, h86, h91, h96, h100]; done)) ((tells_any none [] 0 (rng ax (ay + 1)) ax ay ey W (HT.out.below hS) (by simp) hax hay (fun _ => rfl) (txt_nil W)).mono fun _ _ ⟨he, hb⟩ => ⟨_, he, hb, rfl⟩),
                by
                intro _ act W hS hun hd
                have h101 : act.eval (.tmp 101) = .bool true := hd 25 _ 101 rfl rfl (by kernel_rfl)
                exact g_not rfl h101 rfl,
              trivial⟩ ?_
              intro f W hS hf
              have h102 : f 102 = .bool false := hf 26 _ 102 rfl rfl
              have HB2 := Lib.hid (HB.out.trans (hS.mono HB.out.size))
              have HN2 := Lib.hid (HN.out.below hS HN.out.lt)
              have HCE2 : Hid (∀ i, i < 12 → W.cell? ⟨wo.heap.size, i, none⟩ = some (.int .i64 (ends12 i))) := fun i hi => ext_cell (HCE.out i hi) hS
              clear hf hS
              simp only [putOps]
              go_simp
              go_wp2_with fail
              go_roundw
              case rel =>
                repeat apply Exists.intro
                exact ⟨⟨j + 1, by omega, by go_num, HB2.out, HN2.out, HCE2.out⟩, rfl⟩
              case measure => first | (simp [intOf]; done) | (simp [intOf]; omega)
            · go_wp2_with fail
              refine wp_region_puts [some (.is (.agg #[.int .u64 (wd (s0) 0), .int .u64 (wd (s0) 1), .int .u64 (wd (s0) 2), .int .u64 (wd (s0) 3)])), some (.is (.slice (some ⟨wo.heap.size, 0, none⟩) 12 12)), some (.is (.int .i64 (i : Int))), some (.is (.pointer (some ⟨wo.heap.size, i, none⟩))), some (.is (.int .i64 ex)), some (.is (.bool true)), some (.is (.bool false)), some (.is (.bool false)), some (.is (.agg #[.int .u64 (wd (s0) 0), .int .u64 (wd (s0) 1), .int .u64 (wd (s0) 2), .int .u64 (wd (s0) 3)])), some (.is (.agg #[.int .u64 (wd (fun i => !s0 i) 0), .int .u64 (wd (fun i => !s0 i) 1), .int .u64 (wd (fun i => !s0 i) 2), .int .u64 (wd (fun i => !s0 i) 3)])), some (.is (.slice (some ⟨wo.heap.size, 0, none⟩) 12 12)), some (.is (.int .i64 (i : Int))), some (.is (.pointer (some ⟨wo.heap.size, i, none⟩))), some (.is (.int .i64 ex)), some (.is (.bool true)), some (.is (.bool false)), some (.is (.bool false))] (by kernel_rfl) (by kernel_rfl) (by kernel_rfl) (by kernel_rfl) ⟨by
                intro _ act W hS hun hd
                exact g_load4 rfl (hun 1 (by kernel_rfl)) (HN.out.below hS HN.out.lt) rfl,
                by
                intro _ act W hS hun hd
                have h4 : act.eval (.tmp 4) = .slice (some ⟨wo.heap.size, 0, none⟩) 12 12 := hun 4 (by kernel_rfl)
                exact g_move rfl h4,
                by
                intro _ act W hS hun hd
                have h5 : act.eval (.tmp 5) = .int .i64 (i : Int) := hun 5 (by kernel_rfl)
                exact g_move rfl h5,
                by
                intro _ act W hS hun hd
                have h104 : act.eval (.tmp 104) = .slice (some ⟨wo.heap.size, 0, none⟩) 12 12 := hd 1 _ 104 rfl rfl (by kernel_rfl)
                have h105 : act.eval (.tmp 105) = .int .i64 (i : Int) := hd 2 _ 105 rfl rfl (by kernel_rfl)
                exact g_idx48 rfl h104 h105 hli (by omega) rfl,
                by
                intro _ act W hS hun hd
                have h106 : act.eval (.tmp 106) = .pointer (some ⟨wo.heap.size, i, none⟩) := hd 3 _ 106 rfl rfl (by kernel_rfl)
                exact g_load3 rfl h106 (ext_cell CX.out hS) rfl,
                by
                intro _ act W hS hun hd
                have h103 : act.eval (.tmp 103) = .agg #[.int .u64 (wd (s0) 0), .int .u64 (wd (s0) 1), .int .u64 (wd (s0) 2), .int .u64 (wd (s0) 3)] := hd 0 _ 103 rfl rfl (by kernel_rfl)
                have h107 : act.eval (.tmp 107) = .int .i64 ex := hd 4 _ 107 rfl rfl (by kernel_rfl)
                exact g_call (f := 3) (args := #[.slice none 0 0, .agg #[.int .u64 (wd (s0) 0), .int .u64 (wd (s0) 1), .int .u64 (wd (s0) 2), .int .u64 (wd (s0) 3)], .int .u8 0, .int .u8 255, .int .i64 ex]) rfl (enters_of Tryd.func3 (by kernel_rfl) rfl) (by first | (simp only [List.map_toArray, List.map_cons, List.map_nil, h103, h107]; rfl) | (simp only [List.map_toArray, List.map_cons, List.map_nil, h103, h107]; done)) ((tells_any none [] 0 s0 0 255 ex W (HT.out.below hS) (by simp) (by omega) (by omega) (fun _ => rfl) (txt_nil W)).mono fun _ _ ⟨he, hb⟩ => ⟨_, he, hb, rfl⟩),
                by
                intro _ act W hS hun hd
                have h108 : act.eval (.tmp 108) = .bool true := hd 5 _ 108 rfl rfl (by kernel_rfl)
                exact g_not rfl h108 rfl,
                by
                intro _ act W hS hun hd
                have h109 : act.eval (.tmp 109) = .bool false := hd 6 _ 109 rfl rfl (by kernel_rfl)
                exact g_move rfl h109,
                by
                intro _ act W hS hun hd
                exact g_load4 rfl (hun 1 (by kernel_rfl)) (HN.out.below hS HN.out.lt) rfl,
                by
                intro _ act W hS hun hd
                have h111 : act.eval (.tmp 111) = .agg #[.int .u64 (wd (s0) 0), .int .u64 (wd (s0) 1), .int .u64 (wd (s0) 2), .int .u64 (wd (s0) 3)] := hd 8 _ 111 rfl rfl (by kernel_rfl)
                exact g_call (f := 25) (args := #[.agg #[.int .u64 (wd (s0) 0), .int .u64 (wd (s0) 1), .int .u64 (wd (s0) 2), .int .u64 (wd (s0) 3)]]) rfl (enters_of Tryd.func25 (by kernel_rfl) rfl) (by first | (simp only [List.map_toArray, List.map_cons, List.map_nil, h111]; rfl) | (simp only [List.map_toArray, List.map_cons, List.map_nil, h111]; done)) ((rnot_any s0 W).mono fun _ _ ⟨he, hb⟩ => ⟨_, he, hb, rfl⟩),
                by
                intro _ act W hS hun hd
                have h4 : act.eval (.tmp 4) = .slice (some ⟨wo.heap.size, 0, none⟩) 12 12 := hun 4 (by kernel_rfl)
                exact g_move rfl h4,
                by
                intro _ act W hS hun hd
                have h5 : act.eval (.tmp 5) = .int .i64 (i : Int) := hun 5 (by kernel_rfl)
                exact g_move rfl h5,
                by
                intro _ act W hS hun hd
                have h113 : act.eval (.tmp 113) = .slice (some ⟨wo.heap.size, 0, none⟩) 12 12 := hd 10 _ 113 rfl rfl (by kernel_rfl)
                have h114 : act.eval (.tmp 114) = .int .i64 (i : Int) := hd 11 _ 114 rfl rfl (by kernel_rfl)
                exact g_idx48 rfl h113 h114 hli (by omega) rfl,
                by
                intro _ act W hS hun hd
                have h115 : act.eval (.tmp 115) = .pointer (some ⟨wo.heap.size, i, none⟩) := hd 12 _ 115 rfl rfl (by kernel_rfl)
                exact g_load3 rfl h115 (ext_cell CX.out hS) rfl,
                by
                intro _ act W hS hun hd
                have h112 : act.eval (.tmp 112) = .agg #[.int .u64 (wd (fun i => !s0 i) 0), .int .u64 (wd (fun i => !s0 i) 1), .int .u64 (wd (fun i => !s0 i) 2), .int .u64 (wd (fun i => !s0 i) 3)] := hd 9 _ 112 rfl rfl (by kernel_rfl)
                have h116 : act.eval (.tmp 116) = .int .i64 ex := hd 13 _ 116 rfl rfl (by kernel_rfl)
                exact g_call (f := 3) (args := #[.slice none 0 0, .agg #[.int .u64 (wd (fun i => !s0 i) 0), .int .u64 (wd (fun i => !s0 i) 1), .int .u64 (wd (fun i => !s0 i) 2), .int .u64 (wd (fun i => !s0 i) 3)], .int .u8 0, .int .u8 255, .int .i64 ex]) rfl (enters_of Tryd.func3 (by kernel_rfl) rfl) (by first | (simp only [List.map_toArray, List.map_cons, List.map_nil, h112, h116]; rfl) | (simp only [List.map_toArray, List.map_cons, List.map_nil, h112, h116]; done)) ((tells_any none [] 0 (fun i => !s0 i) 0 255 ex W (HT.out.below hS) (by simp) (by omega) (by omega) (fun _ => rfl) (txt_nil W)).mono fun _ _ ⟨he, hb⟩ => ⟨_, he, hb, rfl⟩),
                by
                intro _ act W hS hun hd
                have h117 : act.eval (.tmp 117) = .bool true := hd 14 _ 117 rfl rfl (by kernel_rfl)
                exact g_not rfl h117 rfl,
                by
                intro _ act W hS hun hd
                have h110 : act.eval (.tmp 110) = .bool false := hd 7 _ 110 rfl rfl (by kernel_rfl)
                have h118 : act.eval (.tmp 118) = .bool false := hd 15 _ 118 rfl rfl (by kernel_rfl)
                exact g_pick rfl h110 h118 rfl,
              trivial⟩ ?_
              intro f W hS hf
              have h119 : f 119 = .bool false := hf 16 _ 119 rfl rfl
              have HB2 := Lib.hid (HB.out.trans (hS.mono HB.out.size))
              have HN2 := Lib.hid (HN.out.below hS HN.out.lt)
              have HCE2 : Hid (∀ i, i < 12 → W.cell? ⟨wo.heap.size, i, none⟩ = some (.int .i64 (ends12 i))) := fun i hi => ext_cell (HCE.out i hi) hS
              clear hf hS
              simp only [putOps]
              go_simp
              go_wp2_with fail
              go_roundw
              case rel =>
                repeat apply Exists.intro
                exact ⟨⟨i + 1, by omega, by go_num, HB2.out, HN2.out, HCE2.out⟩, rfl⟩
              case measure => first | (simp [intOf]; done) | (simp [intOf]; omega)
        · have hi2 : (12 : Int) ≤ i := by omega
          have HT := Lib.hid (HTW.out.below HB.out)
          go_wp2_with fail
          refine wp_region_puts [some (.is (.agg #[.int .u64 (wd (fun i => !s0 i) 0), .int .u64 (wd (fun i => !s0 i) 1), .int .u64 (wd (fun i => !s0 i) 2), .int .u64 (wd (fun i => !s0 i) 3)])), some (.is (.agg #[.int .u64 (wd (s0) 0), .int .u64 (wd (s0) 1), .int .u64 (wd (s0) 2), .int .u64 (wd (s0) 3)])), some (.is (.agg #[.int .u64 (wd (fun i => !s0 i) 0), .int .u64 (wd (fun i => !s0 i) 1), .int .u64 (wd (fun i => !s0 i) 2), .int .u64 (wd (fun i => !s0 i) 3)])), some (.is (.bool true)), some (.is (.bool true)), some (.is (.agg #[.int .u64 (wd (s0) 0), .int .u64 (wd (s0) 1), .int .u64 (wd (s0) 2), .int .u64 (wd (s0) 3)])), some (.is (.agg #[.int .u64 (wd (s0) 0), .int .u64 (wd (s0) 1), .int .u64 (wd (s0) 2), .int .u64 (wd (s0) 3)])), some (.is (.bool true)), some (.is (.bool true)), some (.is (.bool true)), some (.is (.agg #[.int .u64 (wd (s0) 0), .int .u64 (wd (s0) 1), .int .u64 (wd (s0) 2), .int .u64 (wd (s0) 3)])), some (.is (.agg #[.int .u64 (wd (s0) 0), .int .u64 (wd (s0) 1), .int .u64 (wd (s0) 2), .int .u64 (wd (s0) 3)])), some (.is (.bool true)), some (.is (.bool true)), some (.is (.bool true)), some (.is (.bool true)), some (.is (.bool true)), some (.is (.bool true))] (by kernel_rfl) (by kernel_rfl) (by kernel_rfl) (by kernel_rfl) ⟨by
            intro _ act W hS hun hd
            exact g_call (f := 28) (args := #[.slice none 0 0]) rfl (enters_of Tryd.func28 (by kernel_rfl) rfl) (by simp only [List.map_toArray, List.map_cons, List.map_nil]; rfl) ((andf_as (.slice none 0 0) [] (fun i => !s0 i) HA0.out W (.inl ⟨rfl, rfl⟩))),
            by
            intro _ act W hS hun hd
            exact g_load4 rfl (hun 1 (by kernel_rfl)) (HN.out.below hS HN.out.lt) rfl,
            by
            intro _ act W hS hun hd
            have h121 : act.eval (.tmp 121) = .agg #[.int .u64 (wd (s0) 0), .int .u64 (wd (s0) 1), .int .u64 (wd (s0) 2), .int .u64 (wd (s0) 3)] := hd 1 _ 121 rfl rfl (by kernel_rfl)
            exact g_call (f := 25) (args := #[.agg #[.int .u64 (wd (s0) 0), .int .u64 (wd (s0) 1), .int .u64 (wd (s0) 2), .int .u64 (wd (s0) 3)]]) rfl (enters_of Tryd.func25 (by kernel_rfl) rfl) (by first | (simp only [List.map_toArray, List.map_cons, List.map_nil, h121]; rfl) | (simp only [List.map_toArray, List.map_cons, List.map_nil, h121]; done)) ((rnot_any s0 W).mono fun _ _ ⟨he, hb⟩ => ⟨_, he, hb, rfl⟩),
            by
            intro _ act W hS hun hd
            have h120 : act.eval (.tmp 120) = .agg #[.int .u64 (wd (fun i => !s0 i) 0), .int .u64 (wd (fun i => !s0 i) 1), .int .u64 (wd (fun i => !s0 i) 2), .int .u64 (wd (fun i => !s0 i) 3)] := hd 0 _ 120 rfl rfl (by kernel_rfl)
            have h122 : act.eval (.tmp 122) = .agg #[.int .u64 (wd (fun i => !s0 i) 0), .int .u64 (wd (fun i => !s0 i) 1), .int .u64 (wd (fun i => !s0 i) 2), .int .u64 (wd (fun i => !s0 i) 3)] := hd 2 _ 122 rfl rfl (by kernel_rfl)
            exact g_eql25 rfl h120 h122 rfl,
            by
            intro _ act W hS hun hd
            have h123 : act.eval (.tmp 123) = .bool true := hd 3 _ 123 rfl rfl (by kernel_rfl)
            exact g_move rfl h123,
            by
            intro _ act W hS hun hd
            exact g_call (f := 26) (args := #[.slice none 0 0]) rfl (enters_of Tryd.func26 (by kernel_rfl) rfl) (by simp only [List.map_toArray, List.map_cons, List.map_nil]; rfl) ((orf_as (.slice none 0 0) [] s0 HO0.out W (.inl ⟨rfl, rfl⟩))),
            by
            intro _ act W hS hun hd
            exact g_load4 rfl (hun 1 (by kernel_rfl)) (HN.out.below hS HN.out.lt) rfl,
            by
            intro _ act W hS hun hd
            have h125 : act.eval (.tmp 125) = .agg #[.int .u64 (wd (s0) 0), .int .u64 (wd (s0) 1), .int .u64 (wd (s0) 2), .int .u64 (wd (s0) 3)] := hd 5 _ 125 rfl rfl (by kernel_rfl)
            have h126 : act.eval (.tmp 126) = .agg #[.int .u64 (wd (s0) 0), .int .u64 (wd (s0) 1), .int .u64 (wd (s0) 2), .int .u64 (wd (s0) 3)] := hd 6 _ 126 rfl rfl (by kernel_rfl)
            exact g_eql25 rfl h125 h126 rfl,
            by
            intro _ act W hS hun hd
            have h124 : act.eval (.tmp 124) = .bool true := hd 4 _ 124 rfl rfl (by kernel_rfl)
            have h127 : act.eval (.tmp 127) = .bool true := hd 7 _ 127 rfl rfl (by kernel_rfl)
            exact g_pick rfl h124 h127 rfl,
            by
            intro _ act W hS hun hd
            have h128 : act.eval (.tmp 128) = .bool true := hd 8 _ 128 rfl rfl (by kernel_rfl)
            exact g_move rfl h128,
            by
            intro _ act W hS hun hd
            exact g_call (f := 30) (args := #[.slice none 0 0]) rfl (enters_of Tryd.func30 (by kernel_rfl) rfl) (by simp only [List.map_toArray, List.map_cons, List.map_nil]; rfl) ((from_zas s0 HF0.out W)),
            by
            intro _ act W hS hun hd
            exact g_load4 rfl (hun 1 (by kernel_rfl)) (HN.out.below hS HN.out.lt) rfl,
            by
            intro _ act W hS hun hd
            have h130 : act.eval (.tmp 130) = .agg #[.int .u64 (wd (s0) 0), .int .u64 (wd (s0) 1), .int .u64 (wd (s0) 2), .int .u64 (wd (s0) 3)] := hd 10 _ 130 rfl rfl (by kernel_rfl)
            have h131 : act.eval (.tmp 131) = .agg #[.int .u64 (wd (s0) 0), .int .u64 (wd (s0) 1), .int .u64 (wd (s0) 2), .int .u64 (wd (s0) 3)] := hd 11 _ 131 rfl rfl (by kernel_rfl)
            exact g_eql25 rfl h130 h131 rfl,
            by
            intro _ act W hS hun hd
            have h129 : act.eval (.tmp 129) = .bool true := hd 9 _ 129 rfl rfl (by kernel_rfl)
            have h132 : act.eval (.tmp 132) = .bool true := hd 12 _ 132 rfl rfl (by kernel_rfl)
            exact g_pick rfl h129 h132 rfl,
            by
            intro _ act W hS hun hd
            have h133 : act.eval (.tmp 133) = .bool true := hd 13 _ 133 rfl rfl (by kernel_rfl)
            exact g_move rfl h133,
            by
            intro _ act W hS hun hd
            exact g_call (f := 8) (args := #[]) rfl (enters_of Tryd.func8 (by kernel_rfl) rfl) (by simp) ((awake_any W (HT.out.below hS)).mono fun _ _ ⟨he, hb⟩ => ⟨_, he, hb, rfl⟩),
            by
            intro _ act W hS hun hd
            have h134 : act.eval (.tmp 134) = .bool true := hd 14 _ 134 rfl rfl (by kernel_rfl)
            have h135 : act.eval (.tmp 135) = .bool true := hd 15 _ 135 rfl rfl (by kernel_rfl)
            exact g_pick rfl h134 h135 rfl,
            by
            intro _ act W hS hun hd
            have h136 : act.eval (.tmp 136) = .bool true := hd 16 _ 136 rfl rfl (by kernel_rfl)
            exact g_assign rfl h136,
          trivial⟩ ?_
          intro f W hS hf
          have h0 : f 0 = .bool true := hf 17 _ 0 rfl rfl
          have HB2 := Lib.hid (HB.out.trans (hS.mono HB.out.size))
          clear hf hS
          simp only [putOps]
          go_simp
          go_wp2_with fail
          go_ret
          exact ⟨rfl, HB2.out⟩
end Go.Proofs.YtcnikeeapillnaaDoor

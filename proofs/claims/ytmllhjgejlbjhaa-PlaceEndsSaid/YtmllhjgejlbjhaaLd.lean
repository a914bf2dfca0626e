/- Layer 2: the law PlaceEnds, walked. -/
import Derived.Test.YtmllhjgejlbjhaaWj
import Derived.Test.YtmllhjgejlbjhaaWn
import Derived.Test.YtmllhjgejlbjhaaWo
import Derived.Test.YtmllhjgejlbjhaaRi
namespace Go.Proofs.Ytmllhjgejlbjhaa
open Go.RowKit
def strs : Nat → List Nat
  | 0 => []
  | 1 => [10]
  | 2 => [97]
  | 3 => [97, 10]
  | 4 => [10, 97]
  | 5 => [10, 10]
  | 6 => [97, 98, 10, 99]
  | 7 => [97, 98, 10, 10, 99, 100, 10]
  | _ => [13, 10, 0, 10]
def strv (k : Nat) : Value := .string ⟨((strs k).map UInt8.ofNat).toArray⟩
theorem strs_lt (k : Nat) : ∀ x ∈ strs k, x < 256 := by unfold strs; split <;> decide
theorem strs_len (k : Nat) : (strs k).length ≤ 7 := by unfold strs; split <;> decide
/-- The two that are none. -/
def nonev (E : Nat) : Nat → Value
  | 0 => .pointer none
  | _ => .pointer (some ⟨E, 0, none⟩)
def endv : Nat → Int
  | 0 => -9223372036854775808
  | 1 => -1
  | 2 => 0
  | _ => 9223372036854775807
/-- The two lists that the law goes through. -/
def Lists (W : World) (S I : Nat) : Prop := (∀ k, k < 9 → W.cell? ⟨S, k, none⟩ = some (strv k)) ∧ (∀ k, k < 4 → W.cell? ⟨I, k, none⟩ = some (.int .i64 (endv k)))
theorem Lists.below {W W' : World} {S I : Nat} (h : Lists W S I) (hb : Below W.heap.size W W') : Lists W' S I :=
  ⟨fun k hk => (hb.cell (p := ⟨S, k, none⟩) (World.block_lt_of_cell? _ _ (h.1 k hk))).trans (h.1 k hk), fun k hk => (hb.cell (p := ⟨I, k, none⟩) (World.block_lt_of_cell? _ _ (h.2 k hk))).trans (h.2 k hk)⟩

set_option maxRecDepth 100000 in
set_option maxHeartbeats 2000000 in
theorem ends_any (w : World) : Calls Try.prog 4 #[] w fun e w' => e = .returned (.bool true) ∧ Below w.heap.size w w' := by
  go_enter Try.func4, Try.ntmps4
  go_wp2_with fail
  have hL : Lists ((w.alloc (.cells #[strv 0, strv 1, strv 2, strv 3, strv 4, strv 5, strv 6, strv 7, strv 8] 9)).alloc (.cells #[.int .i64 (endv 0), .int .i64 (endv 1), .int .i64 (endv 2), .int .i64 (endv 3)] 3)) w.heap.size (w.heap.size + 1) := by
    constructor
    · intro k hk
      rw [((Blk.new w _ _).alloc _).cell k]
      have : k = 0 ∨ k = 1 ∨ k = 2 ∨ k = 3 ∨ k = 4 ∨ k = 5 ∨ k = 6 ∨ k = 7 ∨ k = 8 := by omega
      rcases this with rfl | rfl | rfl | rfl | rfl | rfl | rfl | rfl | rfl <;> rfl
    · intro k hk
      have h := (Blk.new (w.alloc (.cells #[strv 0, strv 1, strv 2, strv 3, strv 4, strv 5, strv 6, strv 7, strv 8] 9)) #[.int .i64 (endv 0), .int .i64 (endv 1), .int .i64 (endv 2), .int .i64 (endv 3)] 3).cell k
      have e : (w.alloc (.cells #[strv 0, strv 1, strv 2, strv 3, strv 4, strv 5, strv 6, strv 7, strv 8] 9)).heap.size = w.heap.size + 1 := by simp
      rw [e] at h
      rw [h]
      have : k = 0 ∨ k = 1 ∨ k = 2 ∨ k = 3 := by omega
      rcases this with rfl | rfl | rfl | rfl <;> rfl
  have HL := Lib.hid hL
  have hB : Below w.heap.size w ((w.alloc (.cells #[strv 0, strv 1, strv 2, strv 3, strv 4, strv 5, strv 6, strv 7, strv 8] 9)).alloc (.cells #[.int .i64 (endv 0), .int .i64 (endv 1), .int .i64 (endv 2), .int .i64 (endv 3)] 3)) := ((Below.refl _ _).alloc (Nat.le_refl _) _).alloc (by simp) _
  have HB := Lib.hid hB
  clear hL hB
  go_loopw [3] (fun i wr => ∃ k : Nat, k ≤ 9 ∧ i = .int .i64 k ∧ Below w.heap.size w wr ∧ Lists wr w.heap.size (w.heap.size + 1)) (fun i _ => 9 - (intOf i).toNat)
  case atStart => exact ⟨0, by omega, rfl, HB.out, HL.out⟩
  case round =>
    clear HB HL
    obtain ⟨k, hk, rfl, hb, hL⟩ := hrel
    have HB := Lib.hid hb
    have HL := Lib.hid hL
    clear hb hL
    by_cases hlt : k < 9
    · have c0 := HL.out.1 k hlt
      have hle := strs_len k
      have c1 : wr.cell? ⟨w.heap.size, k, none⟩ = some (.string ⟨((strs k).map UInt8.ofNat).toArray⟩) := c0
      clear c0
      have HS := Lib.hid (strs_lt k)
      generalize strs k = l at c1 hle HS
      have C1 := Lib.hid c1
      have hk9 : (k : Int) < 9 := by omega
      obtain ⟨sb, esb⟩ : ∃ sb : ByteArray, sb = ⟨(l.map UInt8.ofNat).toArray⟩ := ⟨_, rfl⟩
      have ES := Lib.hid esb
      rw [← esb] at c1
      clear esb
      go_wp2_with ((refine wpList_conv_txt _ rfl (.tmp 29) rfl l (by rw [← ES.out]; rfl) HS.out ?_; intro A c w1 hb1 ht1 hnc1))
      refine (new_any A l c w1 (by omega) ht1).mono ?_
      rintro e w2 ⟨⟨x, rfl, _, hX⟩, hb2⟩
      have HX := Lib.hid hX
      have HB2 := Lib.hid (bt (bt HB.out hb1) hb2)
      have HL2 := Lib.hid ((HL.out.below hb1).below hb2)
      have HC2 : Hid (w2.cell? ⟨w.heap.size, k, none⟩ = some (.string sb)) := Ext.cell c1 ⟨w2, hb1.trans (hb2.mono hb1.size)⟩
      clear hX hb1 hb2 ht1 hnc1 c1 C1 HB HL
      go_wp2_with fail
      obtain ⟨wo, rfl⟩ : ∃ wo : World, wo = wr := ⟨_, rfl⟩
      go_loopw [5] (fun i wr => ∃ a : Int, -1 ≤ a ∧ a ≤ 11 ∧ i = .int .i64 a ∧ Below w.heap.size w wr ∧ Lists wr w.heap.size (w.heap.size + 1) ∧ Idx wr x (begs l) l.length ∧ wr.cell? ⟨w.heap.size, k, none⟩ = some (.string sb)) (fun i _ => (11 - intOf i).toNat)
      case atStart => exact ⟨-1, by omega, by omega, rfl, HB2.out, HL2.out, HX.out, HC2.out⟩
      case round =>
        clear HB2 HL2 HX HC2
        obtain ⟨a, ha1, ha2, rfl, hb, hL, hX, hC⟩ := hrel
        have HB := Lib.hid hb
        have HL := Lib.hid hL
        have HX := Lib.hid hX
        have HC := Lib.hid hC
        clear hb hL hX hC
        by_cases hla : a < 11
        · go_wp2_with fail
          obtain ⟨w3, rfl⟩ : ∃ wo : World, wo = wr := ⟨_, rfl⟩
          go_loopw [6] (fun i wr => ∃ b : Int, -1 ≤ b ∧ b ≤ 6 ∧ i = .int .i64 b ∧ Below w.heap.size w wr ∧ Lists wr w.heap.size (w.heap.size + 1) ∧ Idx wr x (begs l) l.length ∧ wr.cell? ⟨w.heap.size, k, none⟩ = some (.string sb)) (fun i _ => (6 - intOf i).toNat)
          case atStart => exact ⟨-1, by omega, by omega, rfl, HB.out, HL.out, HX.out, HC.out⟩
          case round =>
            clear HB HL HX HC
            obtain ⟨b, hb1, hb2, rfl, hb, hL, hX, hC⟩ := hrel
            have HB := Lib.hid hb
            have HL := Lib.hid hL
            have HX := Lib.hid hX
            clear hb hL hX
            by_cases hlb : b < 6
            · have HC := Lib.hid hC
              go_wp2_with ((refine wpList_conv_txt _ rfl (.tmp 44) rfl l (by rw [← ES.out]; rfl) HS.out ?_; intro A c w1 hb1 ht1 hnc1))
              refine (tells_any A l c (by omega) x _ _ _ w1 ht1 (HX.out.below hb1)).mono ?_
              rintro e w4 ⟨rfl, hb4⟩
              have HB4 := Lib.hid (bt (bt HB.out hb1) hb4)
              have HL4 := Lib.hid ((HL.out.below hb1).below hb4)
              have HX4 := Lib.hid ((HX.out.below hb1).below hb4)
              have HC4 : Hid (w4.cell? ⟨w.heap.size, k, none⟩ = some (.string sb)) := Ext.cell HC.out ⟨w4, hb1.trans (hb4.mono hb1.size)⟩
              clear hb1 hb4 ht1 hnc1 hC
              go_wp2_with fail
              go_roundw
              case rel => exact ⟨b + 1, by omega, by omega, rfl, HB4.out, HL4.out, HX4.out, HC4.out⟩
              case measure => simp [intOf]; omega
            · have HC := Lib.hid hC
              clear hC
              go_wp2_with fail
              go_roundw
              case rel => exact ⟨a + 1, by omega, by omega, rfl, HB.out, HL.out, HX.out, HC.out⟩
              case measure => simp [intOf]; omega
        · go_wp2_with fail
          obtain ⟨w3, rfl⟩ : ∃ wo : World, wo = wr := ⟨_, rfl⟩
          go_loopw [7] (fun i wr => ∃ j : Nat, j ≤ 4 ∧ i = .int .i64 j ∧ Below w.heap.size w wr ∧ Lists wr w.heap.size (w.heap.size + 1) ∧ Idx wr x (begs l) l.length ∧ wr.cell? ⟨w.heap.size, k, none⟩ = some (.string sb)) (fun i _ => 4 - (intOf i).toNat)
          case atStart => exact ⟨0, by omega, rfl, HB.out, HL.out, HX.out, HC.out⟩
          case round =>
            clear HB HL HX HC
            obtain ⟨j, hj, rfl, hb, hL, hX, hC⟩ := hrel
            have HB := Lib.hid hb
            have HL := Lib.hid hL
            have HX := Lib.hid hX
            have HC := Lib.hid hC
            clear hb hL hX hC
            by_cases hlj : j < 4
            · have ce := HL.out.2 j hlj
              generalize endv j = en at ce
              have CE := Lib.hid ce
              clear ce
              have hj4 : (j : Int) < 4 := by omega
              go_wp2_with fail
              have en12 : ∀ args w, (callFunc 12 args).run Try.prog w = .ok (.enter 12 args) w := fun _ _ => by kernel_rfl
              refine wp_region_puts [some (.is (.pointer (some ⟨x, 0, none⟩))), some (.is (.slice (some ⟨w.heap.size, 0, none⟩) 9 9)), some (.is (.int .i64 (k : Int))), some (.is (.pointer (some ⟨w.heap.size, k, none⟩))), some (.is (.string sb)), some (.st (txtSt l)), some (.is (.slice (some ⟨w.heap.size + 1, 0, none⟩) 4 4)), some (.is (.int .i64 (j : Int))), some (.is (.pointer (some ⟨w.heap.size + 1, j, none⟩))), some (.is (.int .i64 en)), some (.is (.slice (some ⟨w.heap.size + 1, 0, none⟩) 4 4)), some (.is (.int .i64 (j : Int))), some (.is (.pointer (some ⟨w.heap.size + 1, j, none⟩))), some (.is (.int .i64 en)), some (.is (.bool true)), some (.is (.bool false)), some (.is (.bool false)), some (.is (.pointer (some ⟨x, 0, none⟩))), some (.is (.slice (some ⟨w.heap.size, 0, none⟩) 9 9)), some (.is (.int .i64 (k : Int))), some (.is (.pointer (some ⟨w.heap.size, k, none⟩))), some (.is (.string sb)), some (.st (txtSt l)), some (.is (.slice (some ⟨w.heap.size + 1, 0, none⟩) 4 4)), some (.is (.int .i64 (j : Int))), some (.is (.pointer (some ⟨w.heap.size + 1, j, none⟩))), some (.is (.int .i64 en)), some (.is (.bool true)), some (.is (.bool false)), some (.is (.bool false))] (by kernel_rfl) (by kernel_rfl) (by kernel_rfl) (by kernel_rfl) ⟨by
                intro _ act W hS hun hd
                have h4 : act.eval (.tmp 4) = .pointer (some ⟨x, 0, none⟩) := hun 4 (by kernel_rfl)
                exact g_move rfl (Φ := fun v _ => v = .pointer (some ⟨x, 0, none⟩)) h4,
                by
                intro _ act W hS hun hd
                have h1 : act.eval (.tmp 1) = .slice (some ⟨w.heap.size, 0, none⟩) 9 9 := hun 1 (by kernel_rfl)
                exact g_move rfl (Φ := fun v _ => v = .slice (some ⟨w.heap.size, 0, none⟩) 9 9) h1,
                by
                intro _ act W hS hun hd
                have h3 : act.eval (.tmp 3) = .int .i64 (k : Int) := hun 3 (by kernel_rfl)
                exact g_move rfl (Φ := fun v _ => v = .int .i64 (k : Int)) h3,
                by
                intro _ act W hS hun hd
                have h56 : act.eval (.tmp 56) = .slice (some ⟨w.heap.size, 0, none⟩) 9 9 := hd 1 _ 56 rfl rfl (by kernel_rfl)
                have h57 : act.eval (.tmp 57) = .int .i64 (k : Int) := hd 2 _ 57 rfl rfl (by kernel_rfl)
                exact g_idx31 rfl h56 h57 hlt (by omega) rfl,
                by
                intro _ act W hS hun hd
                have h58 : act.eval (.tmp 58) = .pointer (some ⟨w.heap.size, k, none⟩) := hd 3 _ 58 rfl rfl (by kernel_rfl)
                exact g_load9 rfl h58 (Ext.cell HC.out ⟨W, hS⟩) rfl,
                by
                intro _ act W hS hun hd
                have h59 : act.eval (.tmp 59) = .string sb := hd 4 _ 59 rfl rfl (by kernel_rfl)
                exact g_conv rfl h59 ES.out HS.out,
                by
                intro _ act W hS hun hd
                have h2 : act.eval (.tmp 2) = .slice (some ⟨w.heap.size + 1, 0, none⟩) 4 4 := hun 2 (by kernel_rfl)
                exact g_move rfl (Φ := fun v _ => v = .slice (some ⟨w.heap.size + 1, 0, none⟩) 4 4) h2,
                by
                intro _ act W hS hun hd
                have h7 : act.eval (.tmp 7) = .int .i64 (j : Int) := hun 7 (by kernel_rfl)
                exact g_move rfl (Φ := fun v _ => v = .int .i64 (j : Int)) h7,
                by
                intro _ act W hS hun hd
                have h61 : act.eval (.tmp 61) = .slice (some ⟨w.heap.size + 1, 0, none⟩) 4 4 := hd 6 _ 61 rfl rfl (by kernel_rfl)
                have h62 : act.eval (.tmp 62) = .int .i64 (j : Int) := hd 7 _ 62 rfl rfl (by kernel_rfl)
                exact g_idx32 rfl h61 h62 hlj (by omega) rfl,
                by
                intro _ act W hS hun hd
                have h63 : act.eval (.tmp 63) = .pointer (some ⟨w.heap.size + 1, j, none⟩) := hd 8 _ 63 rfl rfl (by kernel_rfl)
                exact g_load3 rfl h63 (Ext.cell CE.out ⟨W, hS⟩) rfl,
                by
                intro _ act W hS hun hd
                have h2 : act.eval (.tmp 2) = .slice (some ⟨w.heap.size + 1, 0, none⟩) 4 4 := hun 2 (by kernel_rfl)
                exact g_move rfl (Φ := fun v _ => v = .slice (some ⟨w.heap.size + 1, 0, none⟩) 4 4) h2,
                by
                intro _ act W hS hun hd
                have h7 : act.eval (.tmp 7) = .int .i64 (j : Int) := hun 7 (by kernel_rfl)
                exact g_move rfl (Φ := fun v _ => v = .int .i64 (j : Int)) h7,
                by
                intro _ act W hS hun hd
                have h65 : act.eval (.tmp 65) = .slice (some ⟨w.heap.size + 1, 0, none⟩) 4 4 := hd 10 _ 65 rfl rfl (by kernel_rfl)
                have h66 : act.eval (.tmp 66) = .int .i64 (j : Int) := hd 11 _ 66 rfl rfl (by kernel_rfl)
                exact g_idx32 rfl h65 h66 hlj (by omega) rfl,
                by
                intro _ act W hS hun hd
                have h67 : act.eval (.tmp 67) = .pointer (some ⟨w.heap.size + 1, j, none⟩) := hd 12 _ 67 rfl rfl (by kernel_rfl)
                exact g_load3 rfl h67 (Ext.cell CE.out ⟨W, hS⟩) rfl,
                by
                intro _ act W hS hun hd
                have h55 : act.eval (.tmp 55) = .pointer (some ⟨x, 0, none⟩) := hd 0 _ 55 rfl rfl (by kernel_rfl)
                obtain ⟨A60, c60, h60, ht60⟩ : (Sp.st (txtSt l)).holds (act.eval (.tmp 60)) W := hd 5 _ 60 rfl rfl (by kernel_rfl)
                have h64 : act.eval (.tmp 64) = .int .i64 en := hd 9 _ 64 rfl rfl (by kernel_rfl)
                have h68 : act.eval (.tmp 68) = .int .i64 en := hd 13 _ 68 rfl rfl (by kernel_rfl)
                refine g_call (f := 12) (args := #[.pointer (some ⟨x, 0, none⟩), .slice A60 l.length c60, .int .i64 en, .int .i64 en, .int .i64 1]) rfl en12 (by simp only [List.map_toArray, List.map_cons, List.map_nil, h55, h60, h64, h68]; rfl) ((tells_any A60 l c60 (by omega) x en en 1 W ht60 (HX.out.below hS)).mono fun _ _ ⟨he, hb⟩ => ⟨_, he, hb, rfl⟩),
                by
                intro _ act W hS hun hd
                have h69 : act.eval (.tmp 69) = .bool true := hd 14 _ 69 rfl rfl (by kernel_rfl)
                exact g_not rfl h69 rfl,
                by
                intro _ act W hS hun hd
                have h70 : act.eval (.tmp 70) = .bool false := hd 15 _ 70 rfl rfl (by kernel_rfl)
                exact g_move rfl (Φ := fun v _ => v = .bool false) h70,
                by
                intro _ act W hS hun hd
                have h4 : act.eval (.tmp 4) = .pointer (some ⟨x, 0, none⟩) := hun 4 (by kernel_rfl)
                exact g_move rfl (Φ := fun v _ => v = .pointer (some ⟨x, 0, none⟩)) h4,
                by
                intro _ act W hS hun hd
                have h1 : act.eval (.tmp 1) = .slice (some ⟨w.heap.size, 0, none⟩) 9 9 := hun 1 (by kernel_rfl)
                exact g_move rfl (Φ := fun v _ => v = .slice (some ⟨w.heap.size, 0, none⟩) 9 9) h1,
                by
                intro _ act W hS hun hd
                have h3 : act.eval (.tmp 3) = .int .i64 (k : Int) := hun 3 (by kernel_rfl)
                exact g_move rfl (Φ := fun v _ => v = .int .i64 (k : Int)) h3,
                by
                intro _ act W hS hun hd
                have h73 : act.eval (.tmp 73) = .slice (some ⟨w.heap.size, 0, none⟩) 9 9 := hd 18 _ 73 rfl rfl (by kernel_rfl)
                have h74 : act.eval (.tmp 74) = .int .i64 (k : Int) := hd 19 _ 74 rfl rfl (by kernel_rfl)
                exact g_idx31 rfl h73 h74 hlt (by omega) rfl,
                by
                intro _ act W hS hun hd
                have h75 : act.eval (.tmp 75) = .pointer (some ⟨w.heap.size, k, none⟩) := hd 20 _ 75 rfl rfl (by kernel_rfl)
                exact g_load9 rfl h75 (Ext.cell HC.out ⟨W, hS⟩) rfl,
                by
                intro _ act W hS hun hd
                have h76 : act.eval (.tmp 76) = .string sb := hd 21 _ 76 rfl rfl (by kernel_rfl)
                exact g_conv rfl h76 ES.out HS.out,
                by
                intro _ act W hS hun hd
                have h2 : act.eval (.tmp 2) = .slice (some ⟨w.heap.size + 1, 0, none⟩) 4 4 := hun 2 (by kernel_rfl)
                exact g_move rfl (Φ := fun v _ => v = .slice (some ⟨w.heap.size + 1, 0, none⟩) 4 4) h2,
                by
                intro _ act W hS hun hd
                have h7 : act.eval (.tmp 7) = .int .i64 (j : Int) := hun 7 (by kernel_rfl)
                exact g_move rfl (Φ := fun v _ => v = .int .i64 (j : Int)) h7,
                by
                intro _ act W hS hun hd
                have h78 : act.eval (.tmp 78) = .slice (some ⟨w.heap.size + 1, 0, none⟩) 4 4 := hd 23 _ 78 rfl rfl (by kernel_rfl)
                have h79 : act.eval (.tmp 79) = .int .i64 (j : Int) := hd 24 _ 79 rfl rfl (by kernel_rfl)
                exact g_idx32 rfl h78 h79 hlj (by omega) rfl,
                by
                intro _ act W hS hun hd
                have h80 : act.eval (.tmp 80) = .pointer (some ⟨w.heap.size + 1, j, none⟩) := hd 25 _ 80 rfl rfl (by kernel_rfl)
                exact g_load3 rfl h80 (Ext.cell CE.out ⟨W, hS⟩) rfl,
                by
                intro _ act W hS hun hd
                have h72 : act.eval (.tmp 72) = .pointer (some ⟨x, 0, none⟩) := hd 17 _ 72 rfl rfl (by kernel_rfl)
                obtain ⟨A77, c77, h77, ht77⟩ : (Sp.st (txtSt l)).holds (act.eval (.tmp 77)) W := hd 22 _ 77 rfl rfl (by kernel_rfl)
                have h81 : act.eval (.tmp 81) = .int .i64 en := hd 26 _ 81 rfl rfl (by kernel_rfl)
                refine g_call (f := 12) (args := #[.pointer (some ⟨x, 0, none⟩), .slice A77 l.length c77, .int .i64 0, .int .i64 1, .int .i64 en]) rfl en12 (by simp only [List.map_toArray, List.map_cons, List.map_nil, h72, h77, h81]; rfl) ((tells_any A77 l c77 (by omega) x 0 1 en W ht77 (HX.out.below hS)).mono fun _ _ ⟨he, hb⟩ => ⟨_, he, hb, rfl⟩),
                by
                intro _ act W hS hun hd
                have h82 : act.eval (.tmp 82) = .bool true := hd 27 _ 82 rfl rfl (by kernel_rfl)
                exact g_not rfl h82 rfl,
                by
                intro _ act W hS hun hd
                have h71 : act.eval (.tmp 71) = .bool false := hd 16 _ 71 rfl rfl (by kernel_rfl)
                have h83 : act.eval (.tmp 83) = .bool false := hd 28 _ 83 rfl rfl (by kernel_rfl)
                exact g_pick rfl h71 h83 rfl,
                trivial⟩ ?_
              intro f W hS hf
              have h84 : f 84 = .bool false := hf 29 _ 84 rfl rfl
              have HBW := Lib.hid (bt HB.out hS)
              have HLW := Lib.hid (HL.out.below hS)
              have HXW := Lib.hid (HX.out.below hS)
              have HCW : Hid (W.cell? ⟨w.heap.size, k, none⟩ = some (.string sb)) := Ext.cell HC.out ⟨W, hS⟩
              clear hf hS
              simp only [putOps]
              go_simp
              go_wp2_with fail
              go_roundw
              case rel => exact ⟨j + 1, by omega, by go_num, HBW.out, HLW.out, HXW.out, HCW.out⟩
              case measure => simp [intOf]; omega
            · go_wp2_with fail
              go_roundw
              case rel => exact ⟨k + 1, by omega, by go_num, HB.out, HL.out⟩
              case measure => simp [intOf]; omega
    · obtain rfl : k = 9 := by omega
      have hb := HB.out
      have hL := HL.out
      go_wp2_with fail
      obtain ⟨E, eE⟩ : ∃ E, E = wr.heap.size := ⟨_, rfl⟩
      obtain ⟨N, eN⟩ : ∃ N, N = wr.heap.size + 1 := ⟨_, rfl⟩
      have hN0 : (∀ k, k < 2 → ((wr.alloc (.cells #[.slice none 0 0, .int .i64 0] 36)).alloc (.cells #[.pointer none, .pointer (some ⟨wr.heap.size, 0, none⟩)] 25)).cell? ⟨N, k, none⟩ = some (nonev E k)) := by
        intro k hk
        have h := (Blk.new (wr.alloc (.cells #[.slice none 0 0, .int .i64 0] 36)) #[.pointer none, .pointer (some ⟨wr.heap.size, 0, none⟩)] 25).cell k
        have e : (wr.alloc (.cells #[.slice none 0 0, .int .i64 0] 36)).heap.size = N := by rw [eN]; simp
        rw [e] at h
        rw [h, ← eE]
        have : k = 0 ∨ k = 1 := by omega
        rcases this with rfl | rfl <;> rfl
      have hE0 : Blk ((wr.alloc (.cells #[.slice none 0 0, .int .i64 0] 36)).alloc (.cells #[.pointer none, .pointer (some ⟨wr.heap.size, 0, none⟩)] 25)) E #[.slice none 0 0, .int .i64 0] 36 := by
        rw [eE]; exact (Blk.new wr _ _).alloc _
      have HB1 : Hid (Below w.heap.size w ((wr.alloc (.cells #[.slice none 0 0, .int .i64 0] 36)).alloc (.cells #[.pointer none, .pointer (some ⟨wr.heap.size, 0, none⟩)] 25))) := (hb.alloc hb.size _).alloc (by have := hb.size; simp; omega) _
      rw [← eE] at hN0 hE0 HB1 ⊢
      rw [show E + 1 = N by rw [eN, eE]]
      have HN0 := Lib.hid hN0
      have HE0 := Lib.hid hE0
      clear hN0 hE0 hb hL eE eN
      go_loopw [9] (fun i wr => ∃ k : Nat, k ≤ 2 ∧ i = .int .i64 k ∧ Below w.heap.size w wr ∧ (∀ k, k < 2 → wr.cell? ⟨N, k, none⟩ = some (nonev E k)) ∧ Blk wr E #[.slice none 0 0, .int .i64 0] 36) (fun i _ => 2 - (intOf i).toNat)
      case atStart => exact ⟨0, by omega, rfl, HB1.out, HN0.out, HE0.out⟩
      case round =>
        clear HB1 HN0 HE0
        obtain ⟨k, hk, rfl, hb, hN⟩ := hrel
        have hk3 : k = 0 ∨ k = 1 ∨ k = 2 := by omega
        rcases hk3 with rfl | rfl | rfl
        · skip
          obtain ⟨hN, hE⟩ := hN
          have EM : ∀ W', Below wr.heap.size wr W' → Emp W' (.pointer none) := fun W' hb' => emp_nil W'
          have EM := Lib.hid EM
          have HN := Lib.hid hN
          have c0 := hN 0 (by omega)
          simp only [nonev] at c0
          have HB := Lib.hid hb
          have HE := Lib.hid hE
          clear hN hE hb
          go_wp2_with fail
          refine (at_emp (.pointer none) wr (EM.out _ (Below.refl _ _))).mono ?_
          rintro e w1 ⟨rfl, hb1⟩
          have c1 := Ext.cell c0 ⟨w1, hb1⟩
          simp only at c1
          go_wp2_with fail
          refine (place_emp (.pointer none) w1 (EM.out _ hb1)).mono ?_
          rintro e w2 ⟨rfl, hb2⟩
          have hb2 := bt hb1 hb2
          have c2 := Ext.cell c0 ⟨w2, hb2⟩
          simp only at c2
          go_wp2_with fail
          refine (line_emp (.pointer none) w2 (EM.out _ hb2)).mono ?_
          rintro e w3 ⟨rfl, hb3⟩
          have hb3 := bt hb2 hb3
          have c3 := Ext.cell c0 ⟨w3, hb3⟩
          simp only at c3
          have HE3 := Lib.hid (HE.out.below hb3 HE.out.lt)
          have HB3 := Lib.hid (bt HB.out hb3)
          have HN3 : Hid (∀ k, k < 2 → w3.cell? ⟨N, k, none⟩ = some (nonev E k)) := fun k hk => Ext.cell (HN.out k hk) ⟨w3, hb3⟩
          have EM3 : ∀ W', Below w3.heap.size w3 W' → Emp W' (.pointer none) := fun W' hb' => EM.out W' (bt hb3 hb')
          have EM3 := Lib.hid EM3
          clear hb1 hb2 hb3 c0 c1 c2
          go_wp2_with fail
          have d0 := fun e => Ext.cell c3 e
          refine wp_region_ext (by kernel_rfl) (by kernel_rfl) ?_
          repeat (first | go_big_quiet_step ((first | (go_at_call 16; exact Calls.ext_of (lines_emp _ _ (EM3.out _ (Ext.grown _)))) | (go_at_call 17; exact Calls.ext_of (len_emp _ _ (EM3.out _ (Ext.grown _)))))) | quiet_step ((first | (go_at_call 16; exact Calls.ext_of (lines_emp _ _ (EM3.out _ (Ext.grown _)))) | (go_at_call 17; exact Calls.ext_of (len_emp _ _ (EM3.out _ (Ext.grown _)))))))
          refine wpQuiet_nil ?_
          intro w4 hw'
          obtain ⟨⟨_, hb4⟩, rfl⟩ := hw'
          have HE4 := Lib.hid (HE3.out.below hb4 HE3.out.lt)
          have HN4 : Hid (∀ k, k < 2 → w4.cell? ⟨N, k, none⟩ = some (nonev E k)) := fun k hk => Ext.cell (HN3.out k hk) ⟨w4, hb4⟩
          have HB4 := Lib.hid (bt HB3.out hb4)
          clear d0 c3 hb4
          go_wp2_with fail
          go_roundw
          case rel =>
            repeat apply Exists.intro
            exact ⟨⟨0 + 1, by omega, rfl, HB4.out, HN4.out, HE4.out⟩, rfl⟩
          case measure => simp [intOf]
        · skip
          obtain ⟨hN, hE⟩ := hN
          have EM : ∀ W', Below wr.heap.size wr W' → Emp W' (.pointer (some ⟨E, 0, none⟩)) := fun W' hb' => emp_ptr W' E (hE.below hb' hE.lt)
          have EM := Lib.hid EM
          have HN := Lib.hid hN
          have c0 := hN 1 (by omega)
          simp only [nonev] at c0
          have HB := Lib.hid hb
          have HE := Lib.hid hE
          clear hN hE hb
          go_wp2_with fail
          refine (at_emp (.pointer (some ⟨E, 0, none⟩)) wr (EM.out _ (Below.refl _ _))).mono ?_
          rintro e w1 ⟨rfl, hb1⟩
          have c1 := Ext.cell c0 ⟨w1, hb1⟩
          simp only at c1
          go_wp2_with fail
          refine (place_emp (.pointer (some ⟨E, 0, none⟩)) w1 (EM.out _ hb1)).mono ?_
          rintro e w2 ⟨rfl, hb2⟩
          have hb2 := bt hb1 hb2
          have c2 := Ext.cell c0 ⟨w2, hb2⟩
          simp only at c2
          go_wp2_with fail
          refine (line_emp (.pointer (some ⟨E, 0, none⟩)) w2 (EM.out _ hb2)).mono ?_
          rintro e w3 ⟨rfl, hb3⟩
          have hb3 := bt hb2 hb3
          have c3 := Ext.cell c0 ⟨w3, hb3⟩
          simp only at c3
          have HE3 := Lib.hid (HE.out.below hb3 HE.out.lt)
          have HB3 := Lib.hid (bt HB.out hb3)
          have HN3 : Hid (∀ k, k < 2 → w3.cell? ⟨N, k, none⟩ = some (nonev E k)) := fun k hk => Ext.cell (HN.out k hk) ⟨w3, hb3⟩
          have EM3 : ∀ W', Below w3.heap.size w3 W' → Emp W' (.pointer (some ⟨E, 0, none⟩)) := fun W' hb' => EM.out W' (bt hb3 hb')
          have EM3 := Lib.hid EM3
          clear hb1 hb2 hb3 c0 c1 c2
          go_wp2_with fail
          have d0 := fun e => Ext.cell c3 e
          refine wp_region_ext (by kernel_rfl) (by kernel_rfl) ?_
          repeat (first | go_big_quiet_step ((first | (go_at_call 16; exact Calls.ext_of (lines_emp _ _ (EM3.out _ (Ext.grown _)))) | (go_at_call 17; exact Calls.ext_of (len_emp _ _ (EM3.out _ (Ext.grown _)))))) | quiet_step ((first | (go_at_call 16; exact Calls.ext_of (lines_emp _ _ (EM3.out _ (Ext.grown _)))) | (go_at_call 17; exact Calls.ext_of (len_emp _ _ (EM3.out _ (Ext.grown _)))))))
          refine wpQuiet_nil ?_
          intro w4 hw'
          obtain ⟨⟨_, hb4⟩, rfl⟩ := hw'
          have HE4 := Lib.hid (HE3.out.below hb4 HE3.out.lt)
          have HN4 : Hid (∀ k, k < 2 → w4.cell? ⟨N, k, none⟩ = some (nonev E k)) := fun k hk => Ext.cell (HN3.out k hk) ⟨w4, hb4⟩
          have HB4 := Lib.hid (bt HB3.out hb4)
          clear d0 c3 hb4
          go_wp2_with fail
          go_roundw
          case rel =>
            repeat apply Exists.intro
            exact ⟨⟨1 + 1, by omega, rfl, HB4.out, HN4.out, HE4.out⟩, rfl⟩
          case measure => simp [intOf]
        · go_wp2_with fail
          refine (awake_any _).mono ?_
          rintro e w1 ⟨rfl, hb1⟩
          go_wp2_with fail
          go_ret
          exact ⟨rfl, bt hb hb1⟩
end Go.Proofs.Ytmllhjgejlbjhaa

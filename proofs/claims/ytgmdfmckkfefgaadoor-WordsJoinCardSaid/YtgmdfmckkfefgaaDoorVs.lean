/- The word that comes next. Made by mk7e.py. -/
import Derived.Test.YtgmdfmckkfefgaaDoorVr
import Derived.Deep.RegionWith
namespace Go.Proofs.YtgmdfmckkfefgaaDoor
open Go Go.RowKit
/-- What is told of the word ahead. -/
def WPost (b p : Nat) (s : ByteArray) (o : Option Wd) (w : World) (e : Ending) (w' : World) : Prop :=
  w.grownBy w' (some b) ∧ ((o = none ∧ e = .returned (.tuple #[.agg wzero, .bool false]) ∧ Rd w' b s p) ∨ ∃ x, o = some x ∧ e = .returned (.tuple #[.agg (wfull x p), .bool true]) ∧ Rd w' b s (p + x.len))
abbrev rowF (b : Nat) : Array Value := #[.func (.func 19) #[.pointer (some ⟨b, 0, none⟩)] #[], .func (.func 20) #[.pointer (some ⟨b, 0, none⟩)] #[], .func (.func 21) #[.pointer (some ⟨b, 0, none⟩)] #[], .func (.func 22) #[.pointer (some ⟨b, 0, none⟩)] #[], .func (.func 23) #[.pointer (some ⟨b, 0, none⟩)] #[]]
theorem wfull_1 {w : World} {B : Nat} {x : Wd} {p : Nat} (h : Blk w B (wtry x) 33) (y : Int) (e : y = (p + x.len : Nat)) : Blk ((w.setCell ⟨B, 1, none⟩ (.int .i64 p)).setCell ⟨B, 2, none⟩ (.int .i64 y)) B (wfull x p) 33 := by
  subst e
  exact heap_setCell_same _ B 2 _ 33 _ (heap_setCell_same w B 1 _ 33 _ h)
theorem grown_drew {a w : World} {r : Option Nat} (h : a.grownBy w r) : a.grownBy w.drew r := ⟨h.os, h.tape, h.output, h.size, h.block⟩
theorem two_grown (w : World) (B i j : Nat) (u v : Value) : w.grownBy ((w.setCell ⟨B, i, none⟩ u).setCell ⟨B, j, none⟩ v) (some B) :=
  ⟨rfl, rfl, rfl, by simp, fun k _ hn => (heap_setCell_other _ ⟨B, j, none⟩ k v (fun e => hn (by rw [e]))).trans (heap_setCell_other w ⟨B, i, none⟩ k u (fun e => hn (by rw [e])))⟩
set_option maxRecDepth 100000 in
set_option maxHeartbeats 16000000 in
theorem word_any (b k : Nat) (s : ByteArray) (l : List Nat) (hs : Str s l) (hl : l.length ≤ 60000) (hk : k ≤ l.length) (w : World) (h : Rd w b s k) (hT : Tab w) (hb0 : b ≠ 0) :
    Calls Tryd.prog 13 #[.pointer (some ⟨b, 0, none⟩)] w (WPost b (k + sk false (l.drop k)) s (wd (l.drop (k + sk false (l.drop k)))) w) := by
  have hbw := h.lt
  have SK := Lib.hid (fun W hW => skip_any b k s l hs hl hk W hW)
  have hsk := sk_le (l.drop k) false
  rw [List.length_drop] at hsk
  obtain ⟨p, ep⟩ : ∃ p, p = k + sk false (l.drop k) := ⟨_, rfl⟩
  rw [← ep] at SK ⊢
  have hp : p ≤ l.length := by omega
  have T0 := Lib.hid (fun W hW (_ : Tab W) => try0 b p s l hs hl hp W hW)
  have T1 := Lib.hid (fun W hW (_ : Tab W) => try1 b p s l hs hl hp W hW)
  have T2 := Lib.hid (fun W hW hTW => try2 b p s l hs hl hp W hW hTW hb0)
  have T3 := Lib.hid (fun W hW hTW => try3 b p s l hs hl hp W hW hTW hb0)
  have T4 := Lib.hid (fun W hW (_ : Tab W) => try4 b p s l hs hl hp W hW)
  have D0 := Lib.hid (fun x => wd_0 (r := l.drop p) (x := x))
  have D1 := Lib.hid (fun x => wd_1 (r := l.drop p) (x := x))
  have D2 := Lib.hid (fun x => wd_2 (r := l.drop p) (x := x))
  have D3 := Lib.hid (fun x => wd_3 (r := l.drop p) (x := x))
  have D4 := Lib.hid (fun x => wd_4 (r := l.drop p) (x := x))
  have D5 := Lib.hid (wd_5 (r := l.drop p))
  have L6 := Lib.hid (fun x (e : wd (l.drop p) = some x) => (wd_ok (fun y hy => hs.lt y (List.mem_of_mem_drop hy)) e).1)
  obtain ⟨d, ed⟩ : ∃ d, d = wd (l.drop p) := ⟨_, rfl⟩
  obtain ⟨a0, e0⟩ : ∃ a, a = o0 (l.drop p) := ⟨_, rfl⟩
  obtain ⟨a1, e1⟩ : ∃ a, a = o1 (l.drop p) := ⟨_, rfl⟩
  obtain ⟨a2, e2⟩ : ∃ a, a = o2 (l.drop p) := ⟨_, rfl⟩
  obtain ⟨a3, e3⟩ : ∃ a, a = o3 (l.drop p) := ⟨_, rfl⟩
  obtain ⟨a4, e4⟩ : ∃ a, a = o4 (l.drop p) := ⟨_, rfl⟩
  rw [← ed] at D0 D1 D2 D3 D4 D5 L6 ⊢
  rw [← e0] at T0 D0 D5
  rw [← e1] at T1 D1 D2 D3 D4 D5
  rw [← e2] at T2 D2 D5
  rw [← e3] at T3 D3 D5
  rw [← e4] at T4 D4 D5
  have HH := Lib.hid (h.below (B1 w (.cells wzero 33)))
  have HT := Lib.hid (hT.below (B1 w (.cells wzero 33)))
  have K0 := Lib.hid (Blk.new w wzero 33)
  have hp6 : (p : Int) ≤ 60000 := by omega
  clear h hT ed e0 e1 e2 e3 e4 hs ep hsk
  go_enter Tryd.func13, Tryd.ntmps13
  go_wp2_with (go_at_call 12; (with_reducible refine (SK.out _ HH.out).mono ?_); rintro e w1 ⟨rfl, hg, hR⟩; have K1 := Lib.hid (K0.out.grown hg (by simp; omega)); have R1 := Lib.hid hR; have U1 := Lib.hid (HT.out.grown hg hb0); have G1 := Lib.hid (grown_trans (below_is_grown (B1 w _) (some b)) hg); have c1 := hR.cells.2; clear hg hR)
  obtain ⟨w2, ew⟩ : ∃ u, u = w1.alloc (.cells (rowF b) 50) := ⟨_, rfl⟩
  obtain ⟨B5, eB⟩ : ∃ B5, B5 = w1.heap.size := ⟨_, rfl⟩
  have F2 : RowKit.Hid (Blk w2 B5 (rowF b) 50) := Lib.hid (by rw [ew, eB]; exact Blk.new _ _ _)
  have K2 : RowKit.Hid (Blk w2 w.heap.size wzero 33) := Lib.hid (by rw [ew]; exact K1.out.alloc _)
  have R2 : RowKit.Hid (Rd w2 b s p) := Lib.hid (by rw [ew]; exact R1.out.below (B1 _ _))
  have U2 : RowKit.Hid (Tab w2) := Lib.hid (by rw [ew]; exact U1.out.below (B1 _ _))
  have G2 : RowKit.Hid (w.grownBy w2 (some b)) := Lib.hid (by rw [ew]; exact grown_on G1.out (B1 _ _))
  have N5 : RowKit.Hid (w.heap.size < B5) := Lib.hid (by rw [eB]; exact K1.out.lt)
  rw [← ew, ← eB]
  clear ew eB c1
  go_loopw [6, 7, 8, 30] (fun _ _ _ i wr => ∃ q : Nat, q ≤ 5 ∧ i = .int .i64 q ∧ Rd wr b s p ∧ Blk wr w.heap.size wzero 33 ∧ Blk wr B5 (rowF b) 50 ∧ w.grownBy wr (some b) ∧ Tab wr ∧ (1 ≤ q → a0 = none) ∧ (2 ≤ q → a1 = none) ∧ (3 ≤ q → a2 = none) ∧ (4 ≤ q → a3 = none) ∧ (5 ≤ q → a4 = none)) (fun _ _ _ i _ => 5 - (intOf i).toNat)
  case atStart => exact ⟨0, by omega, rfl, R2.out, K2.out, F2.out, G2.out, U2.out, fun h => by omega, fun h => by omega, fun h => by omega, fun h => by omega, fun h => by omega⟩
  case round =>
    obtain ⟨q, hq, rfl, hR, hK, hF, hG, hU, z0, z1, z2, z3, z4⟩ := hrel
    have RR := Lib.hid hR
    have KR := Lib.hid hK
    have FR := Lib.hid hF
    have GR := Lib.hid hG
    have UR := Lib.hid hU
    have Z0 := Lib.hid z0
    have Z1 := Lib.hid z1
    have Z2 := Lib.hid z2
    have Z3 := Lib.hid z3
    have Z4 := Lib.hid z4
    clear hR hK hF hG hU z0 z1 z2 z3 z4
    obtain ⟨wa, rfl⟩ : ∃ u, u = wr := ⟨_, rfl⟩
    by_cases hq0 : q = 0
    · subst hq0
      have cc : wa.cell? ⟨B5, 0, none⟩ = some (.func (.func 19) #[.pointer (some ⟨b, 0, none⟩)] #[]) := FR.out.cell 0
      cases ha : a0 with
      | none =>
        have HA := Lib.hid ha
        have CA := Lib.hid ((T0.out wa RR.out UR.out).mono fun e w' h => TPost.no h ha)
        clear ha
        go_wp2_with (first | (go_at_call 19; (with_reducible refine CA.out.mono ?_); rintro e w3 ⟨rfl, hg, j, hj, hR⟩; have K3 := Lib.hid (KR.out.grown hg (by simp; omega)); have F3 := Lib.hid (FR.out.grown hg (by have := N5.out; simp; omega)); have R3 := Lib.hid hR; have U3 := Lib.hid (UR.out.grown hg hb0); have G3 := Lib.hid (grown_trans GR.out hg); have M3 := Lib.hid K3.out.lt; have O3 := Lib.hid F3.out.lt; have KA := Lib.hid (K3.out.alloc (.cells wzero 33)); have FA := Lib.hid (F3.out.alloc (.cells wzero 33)); clear hg hR) | (refine wpList_store_whole rfl 33 (.tmp 7) (.tmp 37) rfl w3.heap.size wzero rfl rfl 33 _ (Blk.new w3 wzero 33) (by kernel_rfl) (by rfl) (by simp [Value.oneCell']) ?_; intro w4 hk2 hg2; have K4 := Lib.hid (KA.out.grown hg2 (by have := M3.out; simp; omega)); have F4 := Lib.hid (FA.out.grown hg2 (by have := O3.out; simp; omega)); have G4 := Lib.hid (grown_new (grown_on G3.out (B1 w3 _)) hg2 (by have := M3.out; omega)); have R4 := Lib.hid ((R3.out.below (B1 w3 _)).grown hg2 (by have := R3.out.lt; omega)); have U4 := Lib.hid ((U3.out.below (B1 w3 _)).grown hg2 (by have := M3.out; omega)); have d1 := R4.out.cells.2; have f1 := Blk.frozen R4.out 1; clear hk2 hg2))
        have qq := Rd.set R4.out p p rfl
        have R5 := Lib.hid qq.1
        have G5 := Lib.hid qq.2
        clear qq
        go_roundw
        case rel => exact ⟨1, by omega, by go_num, R5.out, K4.out.grown G5.out (by simp; omega), F4.out.grown G5.out (by have := N5.out; simp; omega), grown_trans G4.out G5.out, U4.out.grown G5.out hb0, fun h => by first | exact HA.out | trivial, fun h => by omega, fun h => by omega, fun h => by omega, fun h => by omega⟩
        case measure => simp [intOf]
      | some x =>
        have CA := Lib.hid ((T0.out wa RR.out UR.out).mono fun e w' h => TPost.yes h ha)
        have DX : RowKit.Hid (d = some x) := Lib.hid (D0.out x ha)
        have LX := L6.out x DX.out
        rw [List.length_drop] at LX
        have HL6 := Lib.hid (show (p : Int) + x.len ≤ 120000 by omega)
        clear ha LX
        go_wp2_with (first | (go_at_call 19; (with_reducible refine CA.out.mono ?_); rintro e w3 ⟨rfl, hg, hR⟩; have K3 := Lib.hid (KR.out.grown hg (by simp; omega)); have R3 := Lib.hid hR; have G3 := Lib.hid (grown_trans GR.out hg); have M3 := Lib.hid K3.out.lt; have KA := Lib.hid (K3.out.alloc (.cells wzero 33)); clear hg hR) | (refine wpList_store_whole rfl 33 (.tmp 7) (.tmp 37) rfl w3.heap.size (wtry x) rfl rfl 33 _ (Blk.new w3 wzero 33) (by kernel_rfl) (by rfl) (by simp [Value.oneCell']) ?_; intro w4 hk2 hg2; have B4 := Lib.hid hk2; have K4 := Lib.hid (KA.out.grown hg2 (by have := M3.out; simp; omega)); have G4 := Lib.hid (grown_new (grown_on G3.out (B1 w3 _)) hg2 (by have := M3.out; omega)); have R4 := Lib.hid ((R3.out.below (B1 w3 _)).grown hg2 (by have := R3.out.lt; omega)); have d1 := R4.out.cells.2; have f1 := hk2.frozen 1; have f2 := hk2.frozen 2; have g1 := hk2.cell 1; have g2 := hk2.cell 2; simp only [wtry, List.getElem?_toArray, List.getElem?_cons_zero, List.getElem?_cons_succ] at g1 g2; have hne := (show ¬ b = w3.heap.size from by have := R3.out.lt; omega); clear hk2 hg2))
        go_region
        obtain ⟨w5, ew5⟩ : ∃ u, u = ((w4.setCell ⟨w3.heap.size, 1, none⟩ (.int .i64 p)).setCell ⟨w3.heap.size, 2, none⟩ (.int .i64 ((p : Int) + x.len))).drew := ⟨_, rfl⟩
        have g5 : w4.grownBy w5 (some w3.heap.size) := by rw [ew5]; exact grown_drew (two_grown _ _ _ _ _ _)
        have BW : Blk w5 w3.heap.size (wfull x p) 33 := by rw [ew5]; exact wfull_1 B4.out _ (by omega)
        have KW := Lib.hid (K4.out.grown g5 (by have := M3.out; simp; omega))
        have RW := Lib.hid (R4.out.grown g5 hne)
        have GG := Lib.hid (grown_new G4.out g5 (by have := M3.out; omega))
        have n0 := BW.cell 0
        have n1 := BW.cell 1
        have n2 := BW.cell 2
        have n3 := BW.cell 3
        have n4 := BW.cell 4
        have n5 := BW.cell 5
        have n6 := BW.cell 6
        have n7 := BW.cell 7
        have n8 := BW.cell 8
        simp only [wfull, List.getElem?_toArray, List.getElem?_cons_zero, List.getElem?_cons_succ] at n0 n1 n2 n3 n4 n5 n6 n7 n8
        rw [← ew5]
        clear d1 f1 f2 g1 g2 hne g5 BW ew5
        go_wp2_with (refine wpList_store_whole rfl 33 (.tmp 2) (.tmp 48) rfl w.heap.size (wfull x p) rfl rfl 33 _ KW.out (by kernel_rfl) (by rfl) (by simp [Value.oneCell']) ?_; intro w6 hk2 hg2; have K6 := Lib.hid hk2; have G6 := Lib.hid hg2; clear hk2 hg2)
        exact bodyPost_ret (results_cell_tmp rfl _ _ w.heap.size 33 _ _ _ rfl rfl K6.out Tryd.underlying33 rfl (by kernel_rfl)) rfl ⟨grown_new GG.out G6.out (Nat.le_refl _), .inr ⟨x, DX.out, rfl, RW.out.grown G6.out (by omega)⟩⟩

    by_cases hq1 : q = 1
    · subst hq1
      have cc : wa.cell? ⟨B5, 1, none⟩ = some (.func (.func 20) #[.pointer (some ⟨b, 0, none⟩)] #[]) := FR.out.cell 1
      cases ha : a1 with
      | none =>
        have HA := Lib.hid ha
        have CA := Lib.hid ((T1.out wa RR.out UR.out).mono fun e w' h => TPost.no h ha)
        clear ha
        go_wp2_with (first | (go_at_call 20; (with_reducible refine CA.out.mono ?_); rintro e w3 ⟨rfl, hg, j, hj, hR⟩; have K3 := Lib.hid (KR.out.grown hg (by simp; omega)); have F3 := Lib.hid (FR.out.grown hg (by have := N5.out; simp; omega)); have R3 := Lib.hid hR; have U3 := Lib.hid (UR.out.grown hg hb0); have G3 := Lib.hid (grown_trans GR.out hg); have M3 := Lib.hid K3.out.lt; have O3 := Lib.hid F3.out.lt; have KA := Lib.hid (K3.out.alloc (.cells wzero 33)); have FA := Lib.hid (F3.out.alloc (.cells wzero 33)); clear hg hR) | (refine wpList_store_whole rfl 33 (.tmp 7) (.tmp 37) rfl w3.heap.size wzero rfl rfl 33 _ (Blk.new w3 wzero 33) (by kernel_rfl) (by rfl) (by simp [Value.oneCell']) ?_; intro w4 hk2 hg2; have K4 := Lib.hid (KA.out.grown hg2 (by have := M3.out; simp; omega)); have F4 := Lib.hid (FA.out.grown hg2 (by have := O3.out; simp; omega)); have G4 := Lib.hid (grown_new (grown_on G3.out (B1 w3 _)) hg2 (by have := M3.out; omega)); have R4 := Lib.hid ((R3.out.below (B1 w3 _)).grown hg2 (by have := R3.out.lt; omega)); have U4 := Lib.hid ((U3.out.below (B1 w3 _)).grown hg2 (by have := M3.out; omega)); have d1 := R4.out.cells.2; have f1 := Blk.frozen R4.out 1; clear hk2 hg2))
        have qq := Rd.set R4.out p p rfl
        have R5 := Lib.hid qq.1
        have G5 := Lib.hid qq.2
        clear qq
        go_roundw
        case rel => exact ⟨2, by omega, by go_num, R5.out, K4.out.grown G5.out (by simp; omega), F4.out.grown G5.out (by have := N5.out; simp; omega), grown_trans G4.out G5.out, U4.out.grown G5.out hb0, fun h => Z0.out (by omega), fun h => by first | exact HA.out | trivial, fun h => by omega, fun h => by omega, fun h => by omega⟩
        case measure => simp [intOf]
      | some x =>
        have CA := Lib.hid ((T1.out wa RR.out UR.out).mono fun e w' h => TPost.yes h ha)
        have DX : RowKit.Hid (d = some x) := Lib.hid (D1.out x ha)
        have LX := L6.out x DX.out
        rw [List.length_drop] at LX
        have HL6 := Lib.hid (show (p : Int) + x.len ≤ 120000 by omega)
        clear ha LX
        go_wp2_with (first | (go_at_call 20; (with_reducible refine CA.out.mono ?_); rintro e w3 ⟨rfl, hg, hR⟩; have K3 := Lib.hid (KR.out.grown hg (by simp; omega)); have R3 := Lib.hid hR; have G3 := Lib.hid (grown_trans GR.out hg); have M3 := Lib.hid K3.out.lt; have KA := Lib.hid (K3.out.alloc (.cells wzero 33)); clear hg hR) | (refine wpList_store_whole rfl 33 (.tmp 7) (.tmp 37) rfl w3.heap.size (wtry x) rfl rfl 33 _ (Blk.new w3 wzero 33) (by kernel_rfl) (by rfl) (by simp [Value.oneCell']) ?_; intro w4 hk2 hg2; have B4 := Lib.hid hk2; have K4 := Lib.hid (KA.out.grown hg2 (by have := M3.out; simp; omega)); have G4 := Lib.hid (grown_new (grown_on G3.out (B1 w3 _)) hg2 (by have := M3.out; omega)); have R4 := Lib.hid ((R3.out.below (B1 w3 _)).grown hg2 (by have := R3.out.lt; omega)); have d1 := R4.out.cells.2; have f1 := hk2.frozen 1; have f2 := hk2.frozen 2; have g1 := hk2.cell 1; have g2 := hk2.cell 2; simp only [wtry, List.getElem?_toArray, List.getElem?_cons_zero, List.getElem?_cons_succ] at g1 g2; have hne := (show ¬ b = w3.heap.size from by have := R3.out.lt; omega); clear hk2 hg2))
        go_region
        obtain ⟨w5, ew5⟩ : ∃ u, u = ((w4.setCell ⟨w3.heap.size, 1, none⟩ (.int .i64 p)).setCell ⟨w3.heap.size, 2, none⟩ (.int .i64 ((p : Int) + x.len))).drew := ⟨_, rfl⟩
        have g5 : w4.grownBy w5 (some w3.heap.size) := by rw [ew5]; exact grown_drew (two_grown _ _ _ _ _ _)
        have BW : Blk w5 w3.heap.size (wfull x p) 33 := by rw [ew5]; exact wfull_1 B4.out _ (by omega)
        have KW := Lib.hid (K4.out.grown g5 (by have := M3.out; simp; omega))
        have RW := Lib.hid (R4.out.grown g5 hne)
        have GG := Lib.hid (grown_new G4.out g5 (by have := M3.out; omega))
        have n0 := BW.cell 0
        have n1 := BW.cell 1
        have n2 := BW.cell 2
        have n3 := BW.cell 3
        have n4 := BW.cell 4
        have n5 := BW.cell 5
        have n6 := BW.cell 6
        have n7 := BW.cell 7
        have n8 := BW.cell 8
        simp only [wfull, List.getElem?_toArray, List.getElem?_cons_zero, List.getElem?_cons_succ] at n0 n1 n2 n3 n4 n5 n6 n7 n8
        rw [← ew5]
        clear d1 f1 f2 g1 g2 hne g5 BW ew5
        go_wp2_with (refine wpList_store_whole rfl 33 (.tmp 2) (.tmp 48) rfl w.heap.size (wfull x p) rfl rfl 33 _ KW.out (by kernel_rfl) (by rfl) (by simp [Value.oneCell']) ?_; intro w6 hk2 hg2; have K6 := Lib.hid hk2; have G6 := Lib.hid hg2; clear hk2 hg2)
        exact bodyPost_ret (results_cell_tmp rfl _ _ w.heap.size 33 _ _ _ rfl rfl K6.out Tryd.underlying33 rfl (by kernel_rfl)) rfl ⟨grown_new GG.out G6.out (Nat.le_refl _), .inr ⟨x, DX.out, rfl, RW.out.grown G6.out (by omega)⟩⟩

    by_cases hq2 : q = 2
    · subst hq2
      have cc : wa.cell? ⟨B5, 2, none⟩ = some (.func (.func 21) #[.pointer (some ⟨b, 0, none⟩)] #[]) := FR.out.cell 2
      cases ha : a2 with
      | none =>
        have HA := Lib.hid ha
        have CA := Lib.hid ((T2.out wa RR.out UR.out).mono fun e w' h => TPost.no h ha)
        clear ha
        go_wp2_with (first | (go_at_call 21; (with_reducible refine CA.out.mono ?_); rintro e w3 ⟨rfl, hg, j, hj, hR⟩; have K3 := Lib.hid (KR.out.grown hg (by simp; omega)); have F3 := Lib.hid (FR.out.grown hg (by have := N5.out; simp; omega)); have R3 := Lib.hid hR; have U3 := Lib.hid (UR.out.grown hg hb0); have G3 := Lib.hid (grown_trans GR.out hg); have M3 := Lib.hid K3.out.lt; have O3 := Lib.hid F3.out.lt; have KA := Lib.hid (K3.out.alloc (.cells wzero 33)); have FA := Lib.hid (F3.out.alloc (.cells wzero 33)); clear hg hR) | (refine wpList_store_whole rfl 33 (.tmp 7) (.tmp 37) rfl w3.heap.size wzero rfl rfl 33 _ (Blk.new w3 wzero 33) (by kernel_rfl) (by rfl) (by simp [Value.oneCell']) ?_; intro w4 hk2 hg2; have K4 := Lib.hid (KA.out.grown hg2 (by have := M3.out; simp; omega)); have F4 := Lib.hid (FA.out.grown hg2 (by have := O3.out; simp; omega)); have G4 := Lib.hid (grown_new (grown_on G3.out (B1 w3 _)) hg2 (by have := M3.out; omega)); have R4 := Lib.hid ((R3.out.below (B1 w3 _)).grown hg2 (by have := R3.out.lt; omega)); have U4 := Lib.hid ((U3.out.below (B1 w3 _)).grown hg2 (by have := M3.out; omega)); have d1 := R4.out.cells.2; have f1 := Blk.frozen R4.out 1; clear hk2 hg2))
        have qq := Rd.set R4.out p p rfl
        have R5 := Lib.hid qq.1
        have G5 := Lib.hid qq.2
        clear qq
        go_roundw
        case rel => exact ⟨3, by omega, by go_num, R5.out, K4.out.grown G5.out (by simp; omega), F4.out.grown G5.out (by have := N5.out; simp; omega), grown_trans G4.out G5.out, U4.out.grown G5.out hb0, fun h => Z0.out (by omega), fun h => Z1.out (by omega), fun h => by first | exact HA.out | trivial, fun h => by omega, fun h => by omega⟩
        case measure => simp [intOf]
      | some x =>
        have CA := Lib.hid ((T2.out wa RR.out UR.out).mono fun e w' h => TPost.yes h ha)
        have DX : RowKit.Hid (d = some x) := Lib.hid (D2.out x (Z1.out (by omega)) ha)
        have LX := L6.out x DX.out
        rw [List.length_drop] at LX
        have HL6 := Lib.hid (show (p : Int) + x.len ≤ 120000 by omega)
        clear ha LX
        go_wp2_with (first | (go_at_call 21; (with_reducible refine CA.out.mono ?_); rintro e w3 ⟨rfl, hg, hR⟩; have K3 := Lib.hid (KR.out.grown hg (by simp; omega)); have R3 := Lib.hid hR; have G3 := Lib.hid (grown_trans GR.out hg); have M3 := Lib.hid K3.out.lt; have KA := Lib.hid (K3.out.alloc (.cells wzero 33)); clear hg hR) | (refine wpList_store_whole rfl 33 (.tmp 7) (.tmp 37) rfl w3.heap.size (wtry x) rfl rfl 33 _ (Blk.new w3 wzero 33) (by kernel_rfl) (by rfl) (by simp [Value.oneCell']) ?_; intro w4 hk2 hg2; have B4 := Lib.hid hk2; have K4 := Lib.hid (KA.out.grown hg2 (by have := M3.out; simp; omega)); have G4 := Lib.hid (grown_new (grown_on G3.out (B1 w3 _)) hg2 (by have := M3.out; omega)); have R4 := Lib.hid ((R3.out.below (B1 w3 _)).grown hg2 (by have := R3.out.lt; omega)); have d1 := R4.out.cells.2; have f1 := hk2.frozen 1; have f2 := hk2.frozen 2; have g1 := hk2.cell 1; have g2 := hk2.cell 2; simp only [wtry, List.getElem?_toArray, List.getElem?_cons_zero, List.getElem?_cons_succ] at g1 g2; have hne := (show ¬ b = w3.heap.size from by have := R3.out.lt; omega); clear hk2 hg2))
        go_region
        obtain ⟨w5, ew5⟩ : ∃ u, u = ((w4.setCell ⟨w3.heap.size, 1, none⟩ (.int .i64 p)).setCell ⟨w3.heap.size, 2, none⟩ (.int .i64 ((p : Int) + x.len))).drew := ⟨_, rfl⟩
        have g5 : w4.grownBy w5 (some w3.heap.size) := by rw [ew5]; exact grown_drew (two_grown _ _ _ _ _ _)
        have BW : Blk w5 w3.heap.size (wfull x p) 33 := by rw [ew5]; exact wfull_1 B4.out _ (by omega)
        have KW := Lib.hid (K4.out.grown g5 (by have := M3.out; simp; omega))
        have RW := Lib.hid (R4.out.grown g5 hne)
        have GG := Lib.hid (grown_new G4.out g5 (by have := M3.out; omega))
        have n0 := BW.cell 0
        have n1 := BW.cell 1
        have n2 := BW.cell 2
        have n3 := BW.cell 3
        have n4 := BW.cell 4
        have n5 := BW.cell 5
        have n6 := BW.cell 6
        have n7 := BW.cell 7
        have n8 := BW.cell 8
        simp only [wfull, List.getElem?_toArray, List.getElem?_cons_zero, List.getElem?_cons_succ] at n0 n1 n2 n3 n4 n5 n6 n7 n8
        rw [← ew5]
        clear d1 f1 f2 g1 g2 hne g5 BW ew5
        go_wp2_with (refine wpList_store_whole rfl 33 (.tmp 2) (.tmp 48) rfl w.heap.size (wfull x p) rfl rfl 33 _ KW.out (by kernel_rfl) (by rfl) (by simp [Value.oneCell']) ?_; intro w6 hk2 hg2; have K6 := Lib.hid hk2; have G6 := Lib.hid hg2; clear hk2 hg2)
        exact bodyPost_ret (results_cell_tmp rfl _ _ w.heap.size 33 _ _ _ rfl rfl K6.out Tryd.underlying33 rfl (by kernel_rfl)) rfl ⟨grown_new GG.out G6.out (Nat.le_refl _), .inr ⟨x, DX.out, rfl, RW.out.grown G6.out (by omega)⟩⟩

    by_cases hq3 : q = 3
    · subst hq3
      have cc : wa.cell? ⟨B5, 3, none⟩ = some (.func (.func 22) #[.pointer (some ⟨b, 0, none⟩)] #[]) := FR.out.cell 3
      cases ha : a3 with
      | none =>
        have HA := Lib.hid ha
        have CA := Lib.hid ((T3.out wa RR.out UR.out).mono fun e w' h => TPost.no h ha)
        clear ha
        go_wp2_with (first | (go_at_call 22; (with_reducible refine CA.out.mono ?_); rintro e w3 ⟨rfl, hg, j, hj, hR⟩; have K3 := Lib.hid (KR.out.grown hg (by simp; omega)); have F3 := Lib.hid (FR.out.grown hg (by have := N5.out; simp; omega)); have R3 := Lib.hid hR; have U3 := Lib.hid (UR.out.grown hg hb0); have G3 := Lib.hid (grown_trans GR.out hg); have M3 := Lib.hid K3.out.lt; have O3 := Lib.hid F3.out.lt; have KA := Lib.hid (K3.out.alloc (.cells wzero 33)); have FA := Lib.hid (F3.out.alloc (.cells wzero 33)); clear hg hR) | (refine wpList_store_whole rfl 33 (.tmp 7) (.tmp 37) rfl w3.heap.size wzero rfl rfl 33 _ (Blk.new w3 wzero 33) (by kernel_rfl) (by rfl) (by simp [Value.oneCell']) ?_; intro w4 hk2 hg2; have K4 := Lib.hid (KA.out.grown hg2 (by have := M3.out; simp; omega)); have F4 := Lib.hid (FA.out.grown hg2 (by have := O3.out; simp; omega)); have G4 := Lib.hid (grown_new (grown_on G3.out (B1 w3 _)) hg2 (by have := M3.out; omega)); have R4 := Lib.hid ((R3.out.below (B1 w3 _)).grown hg2 (by have := R3.out.lt; omega)); have U4 := Lib.hid ((U3.out.below (B1 w3 _)).grown hg2 (by have := M3.out; omega)); have d1 := R4.out.cells.2; have f1 := Blk.frozen R4.out 1; clear hk2 hg2))
        have qq := Rd.set R4.out p p rfl
        have R5 := Lib.hid qq.1
        have G5 := Lib.hid qq.2
        clear qq
        go_roundw
        case rel => exact ⟨4, by omega, by go_num, R5.out, K4.out.grown G5.out (by simp; omega), F4.out.grown G5.out (by have := N5.out; simp; omega), grown_trans G4.out G5.out, U4.out.grown G5.out hb0, fun h => Z0.out (by omega), fun h => Z1.out (by omega), fun h => Z2.out (by omega), fun h => by first | exact HA.out | trivial, fun h => by omega⟩
        case measure => simp [intOf]
      | some x =>
        have CA := Lib.hid ((T3.out wa RR.out UR.out).mono fun e w' h => TPost.yes h ha)
        have DX : RowKit.Hid (d = some x) := Lib.hid (D3.out x (Z1.out (by omega)) ha)
        have LX := L6.out x DX.out
        rw [List.length_drop] at LX
        have HL6 := Lib.hid (show (p : Int) + x.len ≤ 120000 by omega)
        clear ha LX
        go_wp2_with (first | (go_at_call 22; (with_reducible refine CA.out.mono ?_); rintro e w3 ⟨rfl, hg, hR⟩; have K3 := Lib.hid (KR.out.grown hg (by simp; omega)); have R3 := Lib.hid hR; have G3 := Lib.hid (grown_trans GR.out hg); have M3 := Lib.hid K3.out.lt; have KA := Lib.hid (K3.out.alloc (.cells wzero 33)); clear hg hR) | (refine wpList_store_whole rfl 33 (.tmp 7) (.tmp 37) rfl w3.heap.size (wtry x) rfl rfl 33 _ (Blk.new w3 wzero 33) (by kernel_rfl) (by rfl) (by simp [Value.oneCell']) ?_; intro w4 hk2 hg2; have B4 := Lib.hid hk2; have K4 := Lib.hid (KA.out.grown hg2 (by have := M3.out; simp; omega)); have G4 := Lib.hid (grown_new (grown_on G3.out (B1 w3 _)) hg2 (by have := M3.out; omega)); have R4 := Lib.hid ((R3.out.below (B1 w3 _)).grown hg2 (by have := R3.out.lt; omega)); have d1 := R4.out.cells.2; have f1 := hk2.frozen 1; have f2 := hk2.frozen 2; have g1 := hk2.cell 1; have g2 := hk2.cell 2; simp only [wtry, List.getElem?_toArray, List.getElem?_cons_zero, List.getElem?_cons_succ] at g1 g2; have hne := (show ¬ b = w3.heap.size from by have := R3.out.lt; omega); clear hk2 hg2))
        go_region
        obtain ⟨w5, ew5⟩ : ∃ u, u = ((w4.setCell ⟨w3.heap.size, 1, none⟩ (.int .i64 p)).setCell ⟨w3.heap.size, 2, none⟩ (.int .i64 ((p : Int) + x.len))).drew := ⟨_, rfl⟩
        have g5 : w4.grownBy w5 (some w3.heap.size) := by rw [ew5]; exact grown_drew (two_grown _ _ _ _ _ _)
        have BW : Blk w5 w3.heap.size (wfull x p) 33 := by rw [ew5]; exact wfull_1 B4.out _ (by omega)
        have KW := Lib.hid (K4.out.grown g5 (by have := M3.out; simp; omega))
        have RW := Lib.hid (R4.out.grown g5 hne)
        have GG := Lib.hid (grown_new G4.out g5 (by have := M3.out; omega))
        have n0 := BW.cell 0
        have n1 := BW.cell 1
        have n2 := BW.cell 2
        have n3 := BW.cell 3
        have n4 := BW.cell 4
        have n5 := BW.cell 5
        have n6 := BW.cell 6
        have n7 := BW.cell 7
        have n8 := BW.cell 8
        simp only [wfull, List.getElem?_toArray, List.getElem?_cons_zero, List.getElem?_cons_succ] at n0 n1 n2 n3 n4 n5 n6 n7 n8
        rw [← ew5]
        clear d1 f1 f2 g1 g2 hne g5 BW ew5
        go_wp2_with (refine wpList_store_whole rfl 33 (.tmp 2) (.tmp 48) rfl w.heap.size (wfull x p) rfl rfl 33 _ KW.out (by kernel_rfl) (by rfl) (by simp [Value.oneCell']) ?_; intro w6 hk2 hg2; have K6 := Lib.hid hk2; have G6 := Lib.hid hg2; clear hk2 hg2)
        exact bodyPost_ret (results_cell_tmp rfl _ _ w.heap.size 33 _ _ _ rfl rfl K6.out Tryd.underlying33 rfl (by kernel_rfl)) rfl ⟨grown_new GG.out G6.out (Nat.le_refl _), .inr ⟨x, DX.out, rfl, RW.out.grown G6.out (by omega)⟩⟩

    by_cases hq4 : q = 4
    · subst hq4
      have cc : wa.cell? ⟨B5, 4, none⟩ = some (.func (.func 23) #[.pointer (some ⟨b, 0, none⟩)] #[]) := FR.out.cell 4
      cases ha : a4 with
      | none =>
        have HA := Lib.hid ha
        have CA := Lib.hid ((T4.out wa RR.out UR.out).mono fun e w' h => TPost.no h ha)
        clear ha
        go_wp2_with (first | (go_at_call 23; (with_reducible refine CA.out.mono ?_); rintro e w3 ⟨rfl, hg, j, hj, hR⟩; have K3 := Lib.hid (KR.out.grown hg (by simp; omega)); have F3 := Lib.hid (FR.out.grown hg (by have := N5.out; simp; omega)); have R3 := Lib.hid hR; have U3 := Lib.hid (UR.out.grown hg hb0); have G3 := Lib.hid (grown_trans GR.out hg); have M3 := Lib.hid K3.out.lt; have O3 := Lib.hid F3.out.lt; have KA := Lib.hid (K3.out.alloc (.cells wzero 33)); have FA := Lib.hid (F3.out.alloc (.cells wzero 33)); clear hg hR) | (refine wpList_store_whole rfl 33 (.tmp 7) (.tmp 37) rfl w3.heap.size wzero rfl rfl 33 _ (Blk.new w3 wzero 33) (by kernel_rfl) (by rfl) (by simp [Value.oneCell']) ?_; intro w4 hk2 hg2; have K4 := Lib.hid (KA.out.grown hg2 (by have := M3.out; simp; omega)); have F4 := Lib.hid (FA.out.grown hg2 (by have := O3.out; simp; omega)); have G4 := Lib.hid (grown_new (grown_on G3.out (B1 w3 _)) hg2 (by have := M3.out; omega)); have R4 := Lib.hid ((R3.out.below (B1 w3 _)).grown hg2 (by have := R3.out.lt; omega)); have U4 := Lib.hid ((U3.out.below (B1 w3 _)).grown hg2 (by have := M3.out; omega)); have d1 := R4.out.cells.2; have f1 := Blk.frozen R4.out 1; clear hk2 hg2))
        have qq := Rd.set R4.out p p rfl
        have R5 := Lib.hid qq.1
        have G5 := Lib.hid qq.2
        clear qq
        go_roundw
        case rel => exact ⟨5, by omega, by go_num, R5.out, K4.out.grown G5.out (by simp; omega), F4.out.grown G5.out (by have := N5.out; simp; omega), grown_trans G4.out G5.out, U4.out.grown G5.out hb0, fun h => Z0.out (by omega), fun h => Z1.out (by omega), fun h => Z2.out (by omega), fun h => Z3.out (by omega), fun h => by first | exact HA.out | trivial⟩
        case measure => simp [intOf]
      | some x =>
        have CA := Lib.hid ((T4.out wa RR.out UR.out).mono fun e w' h => TPost.yes h ha)
        have DX : RowKit.Hid (d = some x) := Lib.hid (D4.out x (Z1.out (by omega)) ha)
        have LX := L6.out x DX.out
        rw [List.length_drop] at LX
        have HL6 := Lib.hid (show (p : Int) + x.len ≤ 120000 by omega)
        clear ha LX
        go_wp2_with (first | (go_at_call 23; (with_reducible refine CA.out.mono ?_); rintro e w3 ⟨rfl, hg, hR⟩; have K3 := Lib.hid (KR.out.grown hg (by simp; omega)); have R3 := Lib.hid hR; have G3 := Lib.hid (grown_trans GR.out hg); have M3 := Lib.hid K3.out.lt; have KA := Lib.hid (K3.out.alloc (.cells wzero 33)); clear hg hR) | (refine wpList_store_whole rfl 33 (.tmp 7) (.tmp 37) rfl w3.heap.size (wtry x) rfl rfl 33 _ (Blk.new w3 wzero 33) (by kernel_rfl) (by rfl) (by simp [Value.oneCell']) ?_; intro w4 hk2 hg2; have B4 := Lib.hid hk2; have K4 := Lib.hid (KA.out.grown hg2 (by have := M3.out; simp; omega)); have G4 := Lib.hid (grown_new (grown_on G3.out (B1 w3 _)) hg2 (by have := M3.out; omega)); have R4 := Lib.hid ((R3.out.below (B1 w3 _)).grown hg2 (by have := R3.out.lt; omega)); have d1 := R4.out.cells.2; have f1 := hk2.frozen 1; have f2 := hk2.frozen 2; have g1 := hk2.cell 1; have g2 := hk2.cell 2; simp only [wtry, List.getElem?_toArray, List.getElem?_cons_zero, List.getElem?_cons_succ] at g1 g2; have hne := (show ¬ b = w3.heap.size from by have := R3.out.lt; omega); clear hk2 hg2))
        go_region
        obtain ⟨w5, ew5⟩ : ∃ u, u = ((w4.setCell ⟨w3.heap.size, 1, none⟩ (.int .i64 p)).setCell ⟨w3.heap.size, 2, none⟩ (.int .i64 ((p : Int) + x.len))).drew := ⟨_, rfl⟩
        have g5 : w4.grownBy w5 (some w3.heap.size) := by rw [ew5]; exact grown_drew (two_grown _ _ _ _ _ _)
        have BW : Blk w5 w3.heap.size (wfull x p) 33 := by rw [ew5]; exact wfull_1 B4.out _ (by omega)
        have KW := Lib.hid (K4.out.grown g5 (by have := M3.out; simp; omega))
        have RW := Lib.hid (R4.out.grown g5 hne)
        have GG := Lib.hid (grown_new G4.out g5 (by have := M3.out; omega))
        have n0 := BW.cell 0
        have n1 := BW.cell 1
        have n2 := BW.cell 2
        have n3 := BW.cell 3
        have n4 := BW.cell 4
        have n5 := BW.cell 5
        have n6 := BW.cell 6
        have n7 := BW.cell 7
        have n8 := BW.cell 8
        simp only [wfull, List.getElem?_toArray, List.getElem?_cons_zero, List.getElem?_cons_succ] at n0 n1 n2 n3 n4 n5 n6 n7 n8
        rw [← ew5]
        clear d1 f1 f2 g1 g2 hne g5 BW ew5
        go_wp2_with (refine wpList_store_whole rfl 33 (.tmp 2) (.tmp 48) rfl w.heap.size (wfull x p) rfl rfl 33 _ KW.out (by kernel_rfl) (by rfl) (by simp [Value.oneCell']) ?_; intro w6 hk2 hg2; have K6 := Lib.hid hk2; have G6 := Lib.hid hg2; clear hk2 hg2)
        exact bodyPost_ret (results_cell_tmp rfl _ _ w.heap.size 33 _ _ _ rfl rfl K6.out Tryd.underlying33 rfl (by kernel_rfl)) rfl ⟨grown_new GG.out G6.out (Nat.le_refl _), .inr ⟨x, DX.out, rfl, RW.out.grown G6.out (by omega)⟩⟩

    obtain rfl : q = 5 := by omega
    have DN : RowKit.Hid (d = none) := Lib.hid (D5.out (Z0.out (by omega)) (Z1.out (by omega)) (Z2.out (by omega)) (Z3.out (by omega)) (Z4.out (by omega)))
    clear hq hq0 hq1 hq2 hq3 hq4
    go_wp2_with (refine wpList_store_whole rfl 33 (.tmp 2) (.tmp 55) rfl w.heap.size wzero rfl rfl 33 _ KR.out (by kernel_rfl) (by rfl) (by simp [Value.oneCell']) ?_; intro w5 hk2 hg2; have K5 := Lib.hid hk2; have G5 := Lib.hid hg2; clear hk2 hg2)
    exact bodyPost_ret (results_cell_tmp rfl _ _ w.heap.size 33 _ _ _ rfl rfl K5.out Tryd.underlying33 rfl (by kernel_rfl)) rfl ⟨grown_new GR.out G5.out (Nat.le_refl _), .inl ⟨DN.out, rfl, RR.out.grown G5.out (by omega)⟩⟩
end Go.Proofs.YtgmdfmckkfefgaaDoor

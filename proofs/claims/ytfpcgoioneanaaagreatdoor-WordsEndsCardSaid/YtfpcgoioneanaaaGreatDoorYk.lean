/- The law WordsEnds, walked. -/
import Derived.Test.YtfpcgoioneanaaaGreatDoorG8
set_option linter.unusedSimpArgs false
set_option linter.unusedVariables false
namespace Go.Proofs.YtfpcgoioneanaaaGreatDoor
open Go Go.RowKit
theorem conv1 (w : World) (a : Nat) : (convert 25 9 (.slice (some ⟨w.heap.size, 0, none⟩) 1 1)).run Tryz.prog (w.alloc (.cells #[.int .u8 a] 5)) = .ok (.string (bsv [a])) (w.alloc (.cells #[.int .u8 a] 5)) := by
  have h := run_convert_bytes_arg (P := Tryz.prog) (w.alloc (.cells #[.int .u8 a] 5)) 25 5 Tryz.underlying25 Tryz.underlying5 w.heap.size 0 1 1 ([a].map fun x : Nat => (x : Int)) rfl (fun i hi => by
    rw [(Blk.new w #[.int .u8 a] 5).cell]
    match i, hi with
    | 0, _ => rfl) 9 Tryz.underlying9
  rwa [str_nums] at h
/-- Any text that is not too long is read alike. -/
theorem reads_ok (s : ByteArray) (hz : s.size ≤ 1000) (a : Int) (w : World) (hT : Tab w) :
    Calls Tryz.prog 10 #[.string s, .int .i64 a] w fun e w' => e = .returned (.bool true) ∧ Below w.heap.size w w' :=
  reads_any s (s.data.toList.map UInt8.toNat) rfl (by rw [List.length_map, Array.length_toList]; have : s.data.size = s.size := rfl; omega) a w hT
def hds : Array Value := #[.string ⟨#[]⟩, .string ⟨#[97]⟩, .string ⟨#[97, 58]⟩, .string ⟨#[34]⟩, .string ⟨#[34, 92]⟩, .string ⟨#[91]⟩, .string ⟨#[91, 97, 45]⟩, .string ⟨#[91, 92]⟩, .string ⟨#[60]⟩, .string ⟨#[35]⟩, .string ⟨#[35, 10]⟩, .string ⟨#[34, 92, 120, 52]⟩]
theorem hds_at : ∀ j, j < 12 → ∃ x : ByteArray, hds[j]? = some (.string x) ∧ x.size ≤ 10 := by
  intro j hj
  match j, hj with
  | 0, _ => exact ⟨_, rfl, by decide⟩
  | 1, _ => exact ⟨_, rfl, by decide⟩
  | 2, _ => exact ⟨_, rfl, by decide⟩
  | 3, _ => exact ⟨_, rfl, by decide⟩
  | 4, _ => exact ⟨_, rfl, by decide⟩
  | 5, _ => exact ⟨_, rfl, by decide⟩
  | 6, _ => exact ⟨_, rfl, by decide⟩
  | 7, _ => exact ⟨_, rfl, by decide⟩
  | 8, _ => exact ⟨_, rfl, by decide⟩
  | 9, _ => exact ⟨_, rfl, by decide⟩
  | 10, _ => exact ⟨_, rfl, by decide⟩
  | 11, _ => exact ⟨_, rfl, by decide⟩
def txS : ByteArray := ⟨#[65, 58, 49, 48, 32, 60, 45, 32, 40, 98, 32, 47, 32, 34, 99, 92, 110, 34, 32, 91, 100, 45, 102, 92, 93, 120, 93, 41, 42, 43, 63, 32, 33, 38, 46, 32, 59, 32, 35, 32, 114, 10, 95, 57, 58, 48]⟩
def txO : ByteArray := ⟨#[97, 58, 57, 34, 91, 93, 45, 60, 35, 92, 32, 0]⟩
theorem txS_size : txS.size = 46 := rfl
theorem txO_size : txO.size = 12 := rfl
theorem slice_h (s : ByteArray) (j : Nat) (h : j ≤ s.size) (w : World) : (Instr.slice 9 (.string s) none (some (.int .i64 (j : Int))) none).run Tryz.prog w = .ok (.string (s.extract 0 j)) w := by
  have := run_slice_string_to_if (P := Tryz.prog) w 9 s .i64 (j : Int) Tryz.underlying9
  rw [if_pos (by omega)] at this
  rw [this]
  simp
theorem slice_l (s : ByteArray) (j : Nat) (h : j ≤ s.size) (w : World) : (Instr.slice 9 (.string s) (some (.int .i64 (j : Int))) none none).run Tryz.prog w = .ok (.string (s.extract j s.size)) w := by
  have := run_slice_string_from_if (P := Tryz.prog) w 9 s .i64 (j : Int) Tryz.underlying9
  rw [if_pos (by omega)] at this
  rw [this]
  simp
def nds : Array Value := #[.int .i64 (-9223372036854775808), .int .i64 (-1), .int .i64 3, .int .i64 4, .int .i64 5, .int .i64 9223372036854775807]
theorem nds_at : ∀ j, j < 6 → ∃ z : Int, nds[j]? = some (.int .i64 z) := by
  intro j hj
  match j, hj with
  | 0, _ => exact ⟨_, rfl⟩
  | 1, _ => exact ⟨_, rfl⟩
  | 2, _ => exact ⟨_, rfl⟩
  | 3, _ => exact ⟨_, rfl⟩
  | 4, _ => exact ⟨_, rfl⟩
  | 5, _ => exact ⟨_, rfl⟩
theorem sk_sp : ∀ n, sk false (List.replicate n 32) = n
  | 0 => rfl
  | n + 1 => by
    rw [List.replicate_succ]
    unfold sk
    simp [sk_sp n, bln]
    try omega
theorem beg_sp (n : Nat) : beg (List.replicate n 32) 0 = n := by
  unfold beg pos
  rw [List.drop_zero, sk_sp, Nat.zero_add]
theorem ow_sp (n : Nat) : ow (List.replicate n 32) 0 = some ⟨1, 0, [], 0, no⟩ := by
  unfold ow
  rw [beg_sp, List.drop_of_length_le (by rw [List.length_replicate]; exact Nat.le_refl _)]
  rfl
theorem stp_sp (n : Nat) : stp (List.replicate n 32) 0 = true := by
  unfold stp
  rw [ow_sp]
  rfl
theorem slice_one (lb : Nat) (W : World) : (Instr.slice 25 (.slice (some ⟨lb, 0, none⟩) 16385 16385) (some (.int .i64 1)) none none).run Tryz.prog W = .ok (.slice (some ⟨lb, 1, none⟩) 16384 16384) W := by
  have ht : Tryz.prog.underlying 25 = some (.slice (Tryz.prog.elem 25)) := by kernel_rfl
  rw [run_slice_l W 25 _ _ _ ht .i64 _ (by omega) (by omega), show Tryz.prog.elem 25 = 5 by kernel_rfl, Tryz.sizeOf5]
  simp [sliced, Result.andThen, Addr.add]
theorem conv_sp {w : World} {lb : Nat} (h : w.ownsRow lb 5 1 (.slice (some ⟨lb, 0, none⟩) 16385 16385) 16385 ((List.replicate 16385 32).map natb)) : (convert 25 9 (.slice (some ⟨lb, 0, none⟩) 16385 16385)).run Tryz.prog w = .ok (.string (bsv (List.replicate 16385 32))) w := by
  refine conv_row (xs := List.replicate 16385 32) (base := lb) ?_ (fun x hx => by rw [List.mem_replicate] at hx; omega)
  rw [List.length_replicate]
  exact h
theorem conv_sp1 {w : World} {lb : Nat} (h : w.ownsRow lb 5 1 (.slice (some ⟨lb, 0, none⟩) 16385 16385) 16385 ((List.replicate 16385 32).map natb)) : (convert 25 9 (.slice (some ⟨lb, 1, none⟩) 16384 16384)).run Tryz.prog w = .ok (.string (bsv (List.replicate 16384 32))) w := by
  have := run_convert_bytes_arg (P := Tryz.prog) w 25 5 Tryz.underlying25 Tryz.underlying5 lb 1 16384 16384 ((List.replicate 16384 32).map fun x : Nat => (x : Int)) (by rw [List.length_map, List.length_replicate]) (fun i hi => by
    rw [h.cellAt (1 + i) (by omega), List.getElem?_map, List.getElem?_replicate, if_pos (by omega), List.getD_eq_getElem?_getD, List.getElem?_map, List.getElem?_replicate, if_pos (by omega)]
    rfl) 9 Tryz.underlying9
  rw [str_nums] at this
  exact this
theorem Tryz.info5b : (Tryz.prog.info? 5).map (fun i => (i.zero, i.size, i.bytes)) = some (some (.int .u8 0), 1, 1) := by kernel_rfl
set_option maxRecDepth 100000 in
set_option maxHeartbeats 16000000 in
theorem ends_law (w : World) (hT : Tab w) : Calls Tryz.prog 4 #[] w fun e w' => e = .returned (.bool true) ∧ Below w.heap.size w w' := by
  obtain ⟨i5, hi5, hz50, hz51, hz52⟩ := info_parts Tryz.info5b
  have TH := Lib.hid hT
  have RD := Lib.hid (fun (x : ByteArray) (hz : x.size ≤ 1000) (a : Int) (w' : World) (h : Below w.heap.size w w') => reads_ok x hz a w' (hT.below h))
  obtain ⟨w0, ew0⟩ : ∃ w0, w0 = w.alloc (.cells hds 9) := ⟨_, rfl⟩
  have ED : RowKit.Hid (Blk w0 w.heap.size hds 9) := Lib.hid (by rw [ew0]; exact Blk.new w _ _)
  have B0 : RowKit.Hid (Below w.heap.size w w0) := Lib.hid (by rw [ew0]; exact B1 w _)
  simp only [hds] at ew0
  clear hT
  go_enter Tryz.func4, Tryz.ntmps4
  go_wp2_with fail
  rw [← ew0]
  clear ew0
  go_loopw [2, 3, 4] (fun v2 _ _ wr => ∃ b : Nat, b ≤ 256 ∧ v2 = .int .i64 b ∧ Below w0.heap.size w0 wr) (fun v2 _ _ _ => 256 - (intOf v2).toNat)
  case atStart => exact ⟨0, by omega, rfl, Below.refl _ _⟩
  case round =>
    obtain ⟨b, hb2, rfl, hb⟩ := hrel
    have HB := Lib.hid hb
    clear hb
    obtain ⟨wb, rfl⟩ : ∃ u, u = wr := ⟨_, rfl⟩
    by_cases hb4 : b < 256
    · have hb3 : (b : Int) < 256 := by omega
      have hu : IntKind.u8.wrap (b : Int) = b := u8_in (by omega)
      have hv := fun w => conv1 w b
      have hS : (bsv [b]).size = 1 := rfl
      generalize bsv [b] = S at hv hS
      clear hb4
      go_wp2_with fail
      obtain ⟨wc, ewc⟩ : ∃ wc, wc = wb.alloc (.cells #[.int .u8 b] 5) := ⟨_, rfl⟩
      have BC : RowKit.Hid (Below w0.heap.size w0 wc) := Lib.hid (by rw [ewc]; exact bb HB.out (B1 wb _))
      rw [← ewc]
      clear ewc hv hu
      go_loopw [4] (fun v4 wr => ∃ i : Nat, i ≤ 12 ∧ v4 = .int .i64 i ∧ Below w0.heap.size w0 wr) (fun v4 _ => 12 - (intOf v4).toNat)
      case atStart => exact ⟨0, by omega, rfl, BC.out⟩
      case round =>
        obtain ⟨i, hi, rfl, hb⟩ := hrel
        have HB2 := Lib.hid hb
        clear hb
        by_cases hi4 : i < 12
        · have hi3 : (i : Int) < 12 := by omega
          obtain ⟨x, ex, hx⟩ := hds_at i hi4
          have c1 : wr.cell? ⟨w.heap.size, i, none⟩ = some (.string x) := by rw [(ED.out.below' HB2.out).cell]; exact ex
          have xs1 : ¬ 9223372036854775807 < x.size + S.size := by omega
          have xs2 : ¬ 9223372036854775807 < x.size + S.size + 3 := by omega
          have z1 : (x ++ S : ByteArray).size = x.size + S.size := ByteArray.size_append
          have z2 : (x ++ S ++ ⟨#[49, 93, 34]⟩ : ByteArray).size = x.size + S.size + 3 := by rw [ByteArray.size_append, ByteArray.size_append]; rfl
          have R1 := Lib.hid (fun w' h => RD.out (x ++ S) (by rw [z1]; omega) 0 w' (bb B0.out h))
          have R2 := Lib.hid (fun w' h => RD.out (x ++ S ++ ⟨#[49, 93, 34]⟩) (by rw [z2]; omega) 0 w' (bb B0.out h))
          have ZZ := Lib.hid (And.intro z1 z2)
          clear ex hi4
          go_wp2_with fail
          go_at_call 10
          refine (R1.out _ HB2.out).mono ?_
          rintro e w1 ⟨rfl, hb1⟩
          have H1 := Lib.hid (bb HB2.out hb1)
          have c2 : w1.cell? ⟨w.heap.size, i, none⟩ = some (.string x) := (hb1.cell (p := ⟨w.heap.size, i, none⟩) (World.block_lt_of_cell? _ _ c1)).trans c1
          clear hb1 c1
          go_wp2_with fail
          go_at_call 10
          refine (R2.out _ H1.out).mono ?_
          rintro e w2 ⟨rfl, hb1⟩
          have H2 := Lib.hid (bb H1.out hb1)
          clear hb1 c2
          go_wp2_with fail
          go_roundw
          case rel => exact ⟨i + 1, by omega, by go_num, H2.out⟩
          case measure => simp [intOf]; omega
        · obtain rfl : i = 12 := by omega
          go_wp2_with fail
          go_roundw
          case rel => exact ⟨b + 1, by omega, by go_num, HB2.out⟩
          case measure => simp [intOf]; omega
    · obtain rfl : b = 256 := by omega
      clear hb4
      have BB := Lib.hid (bb B0.out HB.out)
      go_wp2_with fail
      obtain ⟨S, eS⟩ : ∃ S, S = txS := ⟨_, rfl⟩
      obtain ⟨O, eO⟩ : ∃ S, S = txO := ⟨_, rfl⟩
      have zS : S.size = 46 := by rw [eS]; exact txS_size
      have zO : O.size = 12 := by rw [eO]; exact txO_size
      simp only [txS] at eS
      simp only [txO] at eO
      rw [← eS, ← eO]
      have ZS := Lib.hid zS
      have ZO := Lib.hid zO
      clear eS eO zS zO
      go_loopw [7, 8] (fun v7 _ wr => ∃ i : Nat, i ≤ 47 ∧ v7 = .int .i64 i ∧ Below w.heap.size w wr) (fun v7 _ _ => 47 - (intOf v7).toNat)
      case atStart => exact ⟨0, by omega, rfl, BB.out⟩
      case round =>
        obtain ⟨i, hi, rfl, hb⟩ := hrel
        have HC := Lib.hid hb
        clear hb
        obtain ⟨wd, rfl⟩ : ∃ u, u = wr := ⟨_, rfl⟩
        by_cases hi4 : i ≤ 46
        · have zS := ZS.out
          have hi3 : (i : Int) ≤ S.size := by omega
          have h1 := fun w => slice_h S i (by omega) w
          have h2 := fun w => slice_l S i (by omega) w
          have zP : (S.extract 0 i).size = i := by simp; omega
          have zQ : (S.extract i S.size).size = 46 - i := by simp; omega
          generalize S.extract 0 i = P at h1 zP
          generalize S.extract i S.size = Q at h2 zQ
          have R1 := Lib.hid (fun w' h => RD.out P (by omega) i w' h)
          have R2 := Lib.hid (fun w' h => RD.out S (by omega) i w' h)
          have ZP := Lib.hid (And.intro zP zQ)
          clear hi4 zP zQ zS
          go_wp2_with fail
          go_at_call 10
          refine (R1.out _ HC.out).mono ?_
          rintro e w1 ⟨rfl, hb1⟩
          have H1 := Lib.hid (bb HC.out hb1)
          clear hb1
          go_wp2_with fail
          go_at_call 10
          refine (R2.out _ H1.out).mono ?_
          rintro e w2 ⟨rfl, hb1⟩
          have H2 := Lib.hid (bb H1.out hb1)
          clear hb1
          go_wp2_with fail
          go_loopw [8] (fun v8 wr => ∃ k : Nat, k ≤ 12 ∧ v8 = .int .i64 k ∧ Below w.heap.size w wr) (fun v8 _ => 12 - (intOf v8).toNat)
          case atStart => exact ⟨0, by omega, rfl, H2.out⟩
          case round =>
            obtain ⟨k, hk, rfl, hb⟩ := hrel
            have H3 := Lib.hid hb
            clear hb
            obtain ⟨we, rfl⟩ : ∃ u, u = wr := ⟨_, rfl⟩
            by_cases hk4 : k < 12
            · have zO := ZO.out
              obtain ⟨zP, zQ⟩ := ZP.out
              have hk3 : (k : Int) < O.size := by omega
              have w1 : IntKind.i64.wrap ((k : Int) + 1) = (k : Int) + 1 := IntWalk.i64_in _ (by omega)
              have w2 : IntKind.i64.wrap ((i : Int) - 1) = (i : Int) - 1 := IntWalk.i64_in _ (by omega)
              have hsl := fun wx => run_slice_string (P := Tryz.prog) wx 9 O .i64 .i64 (k : Int) ((k : Int) + 1) Tryz.underlying9 (by omega) (by omega) (by omega)
              have zo : (O.extract k (k + 1)).size = 1 := by simp; omega
              rw [show ((k : Int) + 1).toNat = k + 1 by omega, Int.toNat_natCast] at hsl
              generalize O.extract k (k + 1) = o at hsl zo
              have x1 : ¬ 9223372036854775807 < P.size + o.size := by omega
              have x2 : ¬ 9223372036854775807 < P.size + o.size + Q.size := by omega
              have z1 : (P ++ o : ByteArray).size = P.size + o.size := ByteArray.size_append
              have z2 : (P ++ o ++ Q : ByteArray).size = P.size + o.size + Q.size := by rw [ByteArray.size_append, ByteArray.size_append]
              have R3 := Lib.hid (fun (e : Ext we) => RD.out (P ++ o ++ Q) (by omega) ((i : Int) - 1) e.val (bb H3.out e.grown))
              clear hk4 zP zQ zO zo z1 z2
              go_wp2_with fail
              refine wp_region_ext (by kernel_rfl) (by kernel_rfl) ?_
              repeat (first | go_big_quiet_step ((go_at_call 10; exact Calls.ext_of (R3.out _))) | quiet_step ((go_at_call 10; exact Calls.ext_of (R3.out _))))
              refine wpQuiet_nil ?_
              intro _ hw'
              obtain ⟨⟨wg, hbg⟩, rfl⟩ := hw'
              have H4 := Lib.hid (bb H3.out hbg)
              clear hbg hsl x1 x2 w1 w2
              go_wp2_with fail
              go_roundw
              case rel => exact ⟨k + 1, by have := ZO.out; omega, by go_num, H4.out⟩
              case measure => have := ZO.out; simp [intOf]; omega
            · obtain rfl : k = 12 := by omega
              have hk3 : ¬ ((12 : Nat) : Int) < O.size := by have := ZO.out; omega
              go_wp2_with fail
              go_roundw
              case rel => exact ⟨i + 1, by have := ZS.out; omega, by go_num, H3.out⟩
              case measure => have := ZS.out; simp [intOf]; omega
        · obtain rfl : i = 47 := by omega
          have hi3 : ¬ ((47 : Nat) : Int) ≤ S.size := by have := ZS.out; omega
          clear hi4
          go_wp2_with fail
          obtain ⟨L0, eL⟩ : ∃ L : ByteArray, L = ⟨#[97, 58]⟩ := ⟨_, rfl⟩
          have zL : L0.size = 2 := by rw [eL]; rfl
          have ZL := Lib.hid zL
          rw [← eL]
          have BC := Lib.hid (HC.out)
          clear eL zL
          go_loopw [9, 10] (fun v9 v10 wr => ∃ (i : Nat) (L : ByteArray), i ≤ 25 ∧ v10 = .int .i64 i ∧ v9 = .string L ∧ L.size = 2 + i ∧ Below w.heap.size w wr) (fun _ v10 _ => 25 - (intOf v10).toNat)
          case atStart => exact ⟨0, L0, by omega, rfl, rfl, ZL.out, BC.out⟩
          case round =>
            obtain ⟨i, L, hi, rfl, rfl, hL, hb⟩ := hrel
            have HC2 := Lib.hid hb
            clear hb
            obtain ⟨we, rfl⟩ : ∃ u, u = wr := ⟨_, rfl⟩
            by_cases hi4 : i < 25
            · have hi3 : (i : Int) < 25 := by omega
              obtain ⟨j, ej, hj⟩ : ∃ j, j = i % 3 ∧ j < 3 := ⟨_, rfl, Nat.mod_lt _ (by omega)⟩
              have m1 : (i : Int) % 3 = j := by omega
              have m2 : (i : Int).tmod 3 = j := by rw [Int.tmod_eq_emod_of_nonneg (by omega)]; omega
              have j3 : (j : Int) < 3 := by omega
              obtain ⟨x, hx1, hx⟩ : ∃ x : ByteArray, (#[.string ⟨#[48]⟩, .string ⟨#[57]⟩, .string ⟨#[49]⟩] : Array Value)[j]? = some (.string x) ∧ x.size = 1 := by
                match j, hj with
                | 0, _ => exact ⟨_, rfl, rfl⟩
                | 1, _ => exact ⟨_, rfl, rfl⟩
                | 2, _ => exact ⟨_, rfl, rfl⟩
              have KB : RowKit.Hid (Blk (we.alloc (.cells #[.string ⟨#[48]⟩, .string ⟨#[57]⟩, .string ⟨#[49]⟩] 9)) we.heap.size #[.string ⟨#[48]⟩, .string ⟨#[57]⟩, .string ⟨#[49]⟩] 9) := Lib.hid (Blk.new we _ _)
              have c1 : (we.alloc (.cells #[.string ⟨#[48]⟩, .string ⟨#[57]⟩, .string ⟨#[49]⟩] 9)).cell? ⟨we.heap.size, j, none⟩ = some (.string x) := by rw [KB.out.cell]; exact hx1
              have x1 : ¬ 9223372036854775807 < L.size + x.size := by omega
              obtain ⟨M, eM⟩ : ∃ M, M = L ++ x := ⟨_, rfl⟩
              have zM : M.size = 2 + (i + 1) := by rw [eM, ByteArray.size_append]; omega
              have R1 := Lib.hid (fun w' h => RD.out M (by omega) 0 w' h)
              have h2 : ∀ w, (Instr.slice 9 (.string M) (some (.int .i64 2)) none none).run Tryz.prog w = .ok (.string (M.extract 2 M.size)) w := fun w => slice_l M 2 (by omega) w
              have zD : (M.extract 2 M.size).size = i + 1 := by simp; omega
              generalize M.extract 2 M.size = D at h2 zD
              have x2 : ¬ 9223372036854775807 < 6 + D.size := by omega
              have R2 := Lib.hid (fun w' h => RD.out (⟨#[97, 58, 48, 48, 48, 48]⟩ ++ D) (by rw [ByteArray.size_append]; show 6 + D.size ≤ 1000; omega) 0 w' h)
              have ZM := Lib.hid zM
              have z2 : 2 ≤ M.size := by omega
              have z3 : (2 : Int) ≤ M.size := by omega
              clear hi4 hx1 hx ej hj zM zD hL
              go_wp2_with fail
              rw [← eM]
              clear eM c1 m1 m2 j3 x1
              obtain ⟨wf, ewf⟩ : ∃ u, u = we.alloc (.cells #[.string ⟨#[48]⟩, .string ⟨#[57]⟩, .string ⟨#[49]⟩] 9) := ⟨_, rfl⟩
              have HF : RowKit.Hid (Below w.heap.size w wf) := Lib.hid (by rw [ewf]; exact bb HC2.out (B1 we _))
              rw [← ewf]
              clear ewf
              refine (R1.out _ HF.out).mono ?_
              rintro e w1 ⟨rfl, hb1⟩
              have H1 := Lib.hid (bb HF.out hb1)
              clear hb1
              go_wp2_with fail
              go_at_call 10
              refine (R2.out _ H1.out).mono ?_
              rintro e w2 ⟨rfl, hb1⟩
              have H2 := Lib.hid (bb H1.out hb1)
              clear hb1 h2 x2 z2 z3
              go_wp2_with fail
              go_roundw
              case rel => exact ⟨i + 1, M, by omega, by go_num, rfl, ZM.out, H2.out⟩
              case measure => simp [intOf]; omega
            · obtain rfl : i = 25 := by omega
              clear hi4 hL
              go_wp2_with (at_make; refine wpList_make_full _ rfl _ _ 25 rfl we.heap.size 5 i5 (.int .u8 0) 1 Tryz.underlying25 hi5 hz50 hz51 .i64 .i64 _ _ 16385 rfl rfl rfl rfl (by rw [hz52]; decide) (by unfold maxLen; decide) (Nat.le_refl _) ?_; intro w0' hown0 hgrow0; have H0 := Lib.hid (bb HC2.out ((Below.refl we.heap.size we).grown hgrow0 (Nat.le_refl _) (fun k hk => by cases hk))); have O0 := Lib.hid hown0; clear hgrow0 hown0)
              obtain ⟨lb, elb⟩ : ∃ b, b = we.heap.size := ⟨_, rfl⟩
              have LB : RowKit.Hid (w.heap.size ≤ lb) := Lib.hid (by rw [elb]; exact HC2.out.size)
              have OX : RowKit.Hid (∃ xs, xs.length = 16385 ∧ (∀ j, j < 0 → xs[j]? = some (.int .u8 32)) ∧ w0'.ownsRow lb 5 1 (.slice (some ⟨lb, 0, none⟩) 16385 16385) 16385 xs) := Lib.hid ⟨_, by have := O0.out.1; rw [Nat.mul_one] at this; exact this, fun j hj => by omega, by rw [elb]; exact O0.out⟩
              rw [← elb]
              clear elb O0
              go_loopw [12] (fun v12 wr => ∃ i : Nat, i ≤ 16385 ∧ v12 = .int .i64 i ∧ (∃ xs, xs.length = 16385 ∧ (∀ j, j < i → xs[j]? = some (.int .u8 32)) ∧ wr.ownsRow lb 5 1 (.slice (some ⟨lb, 0, none⟩) 16385 16385) 16385 xs) ∧ Below w.heap.size w wr) (fun v12 _ => 16385 - (intOf v12).toNat)
              case atStart => exact ⟨0, by omega, rfl, OX.out, H0.out⟩
              case round =>
                obtain ⟨i, hi, rfl, ⟨xs, hx1, hx2, hx3⟩, hb⟩ := hrel
                have HX := Lib.hid hx2
                have H1 := Lib.hid hb
                have OW := Lib.hid hx3
                have HL := Lib.hid hx1
                clear hb hx2 hx3 hx1
                by_cases hi4 : i < 16385
                · have hi3 : (i : Int) < 16385 := by omega
                  have cc := OW.out.cellAt i (by omega)
                  rw [List.getElem?_eq_getElem (by rw [HL.out]; exact hi4)] at cc
                  have cf := OW.out.frozenAt i
                  have ST := Lib.hid (OW.out.stored i (.int .u8 32)).1
                  generalize xs[i]'(by rw [HL.out]; exact hi4) = v at cc
                  clear hi4
                  go_wp2_with fail
                  go_roundw
                  case rel => exact ⟨i + 1, by omega, by go_num, ⟨xs.set i (.int .u8 32), by rw [List.length_set]; exact HL.out, fun j hj => by
                    rw [List.getElem?_set]
                    by_cases e : i = j
                    · rw [if_pos e, if_pos (by rw [HL.out]; omega)]
                    · rw [if_neg e]; exact HX.out j (by omega), ST.out⟩, H1.out.setCell (p := ⟨lb, i, none⟩) LB.out _⟩
                  case measure => simp [intOf]; omega
                · obtain rfl : i = 16385 := by omega
                  have RX : RowKit.Hid (xs = (List.replicate 16385 32).map natb) := Lib.hid (by
                    refine List.ext_getElem? fun j => ?_
                    by_cases hj : j < 16385
                    · rw [HX.out j hj, List.getElem?_map, List.getElem?_replicate, if_pos hj]; rfl
                    · rw [List.getElem?_eq_none (by rw [HL.out]; omega), List.getElem?_eq_none (by rw [List.length_map, List.length_replicate]; omega)])
                  rw [RX.out] at OW
                  clear HX HL RX hi4
                  go_upto_region 35 with fail
                  have zr1 : (List.replicate 16384 32).length = 16384 := List.length_replicate
                  have zr2 : (List.replicate 16385 32).length = 16385 := List.length_replicate
                  have cv2 := conv_sp OW.out
                  have cv1 := conv_sp1 OW.out
                  have s1 := fun W => slice_one lb W
                  have zB : (bsv (List.replicate 16385 32)).size = 16385 := by rw [(str_bsv (l := List.replicate 16385 32) (fun x hx => by rw [List.mem_replicate] at hx; omega)).size]; exact zr2
                  have A1 := Lib.hid (fun w' (h : Below w.heap.size w w') => (All_any 0 (bsv (List.replicate 16384 32)) (List.replicate 16384 32) (str_bsv (fun x hx => by rw [List.mem_replicate] at hx; omega)) (by rw [zr1]; exact Nat.le_refl _) (stp_sp 16384) (Nat.zero_le _) (fun j hj => by omega) w' (TH.out.below h)).mono fun e w'' h' => h'.is.2 (by rw [ow_sp]; simp))
                  have A2 := Lib.hid (fun w' => All_long (bsv (List.replicate 16385 32)) (by rw [zB]; decide) w')
                  obtain ⟨X1, eX1⟩ : ∃ x, x = bsv (List.replicate 16384 32) := ⟨_, rfl⟩
                  obtain ⟨X2, eX2⟩ : ∃ x, x = bsv (List.replicate 16385 32) := ⟨_, rfl⟩
                  rw [← eX1] at cv1 A1
                  rw [← eX2] at A2 cv2
                  clear zr1 zr2 zB eX1 hi5 hz50 hz51 hz52
                  go_wp2_with fail
                  try go_at_call 11
                  refine (A1.out _ H1.out).mono ?_
                  rintro e w1 ⟨hb1, A, c, rfl, hrows⟩
                  have H2 := Lib.hid (bb H1.out hb1)
                  have cv3 := conv_sp (own_below OW.out hb1)
                  rw [← eX2] at cv3
                  clear hb1 hrows cv1 cv2 s1 eX2
                  go_wp2_with fail
                  try go_at_call 11
                  refine (A2.out _).mono ?_
                  rintro e w2 ⟨rfl, hb1⟩
                  have H3 := Lib.hid (bb H2.out hb1)
                  clear hb1 cv3
                  obtain ⟨w3, ew3⟩ : ∃ u, u = w2.alloc (.cells nds 3) := ⟨_, rfl⟩
                  have KN : RowKit.Hid (Blk w3 w2.heap.size nds 3) := Lib.hid (by rw [ew3]; exact Blk.new w2 _ _)
                  have H4 : RowKit.Hid (Below w.heap.size w w3) := Lib.hid (by rw [ew3]; exact bb H3.out (B1 w2 _))
                  simp only [nds] at ew3
                  go_wp2_with fail
                  rw [← ew3]
                  obtain ⟨nb, enb⟩ : ∃ b, b = w2.heap.size := ⟨_, rfl⟩
                  rw [← enb] at KN ⊢
                  clear ew3 enb
                  go_loopw [20] (fun v20 wr => ∃ i : Nat, i ≤ 6 ∧ v20 = .int .i64 i ∧ Below w3.heap.size w3 wr) (fun v20 _ => 6 - (intOf v20).toNat)
                  case atStart => exact ⟨0, by omega, rfl, Below.refl _ _⟩
                  case round =>
                    obtain ⟨i, hi, rfl, hb⟩ := hrel
                    have HB7 := Lib.hid hb
                    clear hb
                    by_cases hi4 : i < 6
                    · have hi3 : (i : Int) < 6 := by omega
                      obtain ⟨z, ez⟩ := nds_at i hi4
                      have c1 : wr.cell? ⟨nb, i, none⟩ = some (.int .i64 z) := by rw [(KN.out.below' HB7.out).cell]; exact ez
                      have R1 := Lib.hid (fun w' h => RD.out ⟨#[97, 98, 32, 35]⟩ (by decide) z w' h)
                      clear ez hi4
                      go_wp2_with fail
                      try go_at_call 10
                      refine (R1.out _ (bb H4.out HB7.out)).mono ?_
                      rintro e w5 ⟨rfl, hb1⟩
                      have H5 := Lib.hid (bb HB7.out hb1)
                      clear hb1 c1
                      go_wp2_with fail
                      go_roundw
                      case rel => exact ⟨i + 1, by omega, by go_num, H5.out⟩
                      case measure => simp [intOf]; omega
                    · obtain rfl : i = 6 := by omega
                      have H6 := Lib.hid (bb H4.out HB7.out)
                      have AW := Lib.hid (awake_any wr (TH.out.below H6.out))
                      clear hi4
                      go_wp2_with (go_at_call 9; (with_reducible refine (AW.out).mono ?_); rintro e w6 ⟨rfl, hb⟩; have H7 := Lib.hid (bb H6.out hb); clear hb)
                      go_ret
                      exact ⟨rfl, H7.out⟩
end Go.Proofs.YtfpcgoioneanaaaGreatDoor

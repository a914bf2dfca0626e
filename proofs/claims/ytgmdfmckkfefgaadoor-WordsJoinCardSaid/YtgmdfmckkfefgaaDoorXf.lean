/- The law WordsJoin, walked. -/
import Derived.Test.YtgmdfmckkfefgaaDoorXe
namespace Go.Proofs.YtgmdfmckkfefgaaDoor
open Go Go.RowKit
theorem Told.none_ {l : List Nat} {N base : Nat} {A : Option Addr} {n c : Nat} {at_ er : Int} {w : World} (h : Told l N base A n c at_ er w) (ho : ow l N = none) : er = 7 ∧ at_ = beg l N := by
  rcases h with ⟨h1, _, h3⟩ | ⟨_, h2, _⟩
  · exact ⟨h1, h3⟩
  · exact absurd ho h2
theorem Told.some_ {l : List Nat} {N base : Nat} {A : Option Addr} {n c : Nat} {at_ er : Int} {w : World} (h : Told l N base A n c at_ er w) (ho : ow l N ≠ none) : er = 0 ∧ n = N + 1 ∧ ∃ g, A = some ⟨g, 0, none⟩ ∧ w.ownsRow base 33 9 (.slice (some ⟨g, 0, none⟩) (N + 1) c) (N + 1) (wrow l (N + 1)) := by
  rcases h with ⟨_, h2, _⟩ | ⟨h1, _, h3⟩
  · exact absurd h2 ho
  · exact ⟨h1, h3⟩
/-- Where the words of three texts lie. -/
structure Three (a b c : List Nat) (N M K S : Nat) : Prop where
  sum : K = N + M
  left : ∀ i, i < N → beg c i = beg a i ∧ ow c i = ow a i
  right : ∀ j, beg c (N + j) = S + beg b j ∧ ow c (N + j) = ow b j
theorem three {a b x : List Nat} {N M K : Nat} (ha : ∀ y ∈ a, y < 256) (hb : ∀ y ∈ b, y < 256) (hx : Gap x) (hN : stp a N = true) (hNb : ∀ j, j < N → stp a j = false) (hM : stp b M = true) (hMb : ∀ j, j < M → stp b j = false)
    (hK : stp (a ++ (x ++ b)) K = true) (hKb : ∀ j, j < K → stp (a ++ (x ++ b)) j = false) (ho : ow a N ≠ none) : Three a b (a ++ (x ++ b)) N M K (a.length + x.length) := by
  cases h : ow a N with
  | none => exact absurd h ho
  | some e =>
    have hk : e.kind = 1 := by rw [stp_some h] at hN; simpa using hN
    obtain ⟨j1, j2⟩ := join_ends ha hb hx hNb h hk hM hMb
    refine ⟨?_, fun i hi => join_left ha hb hx hNb hi, join_right ha hb hx hNb h hk⟩
    rcases Nat.lt_trichotomy K (N + M) with q | q | q
    · rw [j2 K q] at hK; cases hK
    · exact q
    · rw [hKb (N + M) q] at j1; cases j1
/-- The cells of a word of a row. -/
theorem cells_at {w : World} {base g n c i : Nat} {l : List Nat} {y : Wd} (h : w.ownsRow base 33 9 (.slice (some ⟨g, 0, none⟩) n c) n (wrow l n)) (hi : i < n) (hy : ow l i = some y) (j : Nat) (hj : j < 9) : w.cell? ⟨g, i * 9 + j, none⟩ = (wfull y (beg l i))[j]? := by
  rw [h.cellAt (i * 9 + j) (by omega), Nat.mul_comm i 9, wrow_at l i n j hi hj, wA_some hy]
theorem ow_some {l : List Nat} {N i : Nat} (hNb : ∀ j, j < N → stp l j = false) (hi : i ≤ N) (ho : ow l N ≠ none) : ∃ y, ow l i = some y := by
  cases h : ow l i with
  | some y => exact ⟨y, rfl⟩
  | none =>
    by_cases e : i = N
    · subst e; exact absurd h ho
    · have := hNb i (by omega); rw [stp_none h] at this; cases this
set_option maxRecDepth 100000 in
set_option maxHeartbeats 16000000 in
theorem join_main (s t : ByteArray) (a b : List Nat) (hs : Str s a) (ht : Str t b) (h1 : s.size ≤ 500) (h2 : t.size ≤ 500) (k : Int) (hk : -9223372036854775808 ≤ k ∧ k < 9223372036854775808) (w : World) (hT : Tab w) :
    Calls Tryd.prog 4 #[.string s, .string t, .int .i64 k] w fun e w' => e = .returned (.bool true) ∧ Below w.heap.size w w' := by
  have z1 := hs.size
  have z2 := ht.size
  obtain ⟨N, hNl, hN, hNb⟩ := ends hs.lt
  obtain ⟨M, hMl, hM, hMb⟩ := ends ht.lt
  obtain ⟨j, ej, hj⟩ : ∃ j : Nat, k % 4 = j ∧ j < 4 := ⟨(k % 4).toNat, by omega, by omega⟩
  obtain ⟨gs, x, eg, hgs, hx⟩ := four_at j hj
  have z3 := hgs.size
  have z4 := hx.len
  have hc : Str (s ++ gs ++ t) (a ++ (x ++ b)) := by rw [← List.append_assoc]; exact (hs.append hgs).append ht
  obtain ⟨K, hKl, hK, hKb⟩ := ends hc.lt
  have TH := Lib.hid (fun ho => three (K := K) hs.lt ht.lt hx hN hNb hM hMb hK hKb ho)
  have A1 := Lib.hid (fun W hW => All_told N s a hs (by omega) hN hNl hNb W hW)
  have A2 := Lib.hid (fun W hW => All_told M t b ht (by omega) hM hMl hMb W hW)
  have A3 := Lib.hid (fun W hW => All_told K (s ++ gs ++ t) (a ++ (x ++ b)) hc (by simp; omega) hK hKl hKb W hW)
  have NB := Lib.hid hNb
  have MB := Lib.hid hMb
  have KB := Lib.hid hKb
  have NL := Lib.hid (show N ≤ 500 ∧ M ≤ 500 by omega)
  have BL := Lib.hid (fun i => beg_le ht.lt i)
  have LB := Lib.hid ht.lt
  have ZZ := Lib.hid (And.intro z1 (And.intro z2 (And.intro z3 z4)))
  have AW := Lib.hid (awake_any w hT)
  have TT := Lib.hid hT
  have PK := Lib.hid (fun w => pick_any k 4 hk (by decide) w)
  rw [ej] at PK
  have EG := Lib.hid eg
  have i1 : (s.size : Int) ≤ 500 := by omega
  have i2 : (t.size : Int) ≤ 500 := by omega
  have s1 : ¬ 9223372036854775807 < s.size + gs.size := by omega
  have s2 : ¬ 9223372036854775807 < (s ++ gs).size + t.size := by rw [ByteArray.size_append]; omega
  have s3 : ¬ 9223372036854775807 < s.size + gs.size + t.size := by omega
  have j3 : (j : Int) < 4 := by omega
  obtain ⟨S, eS⟩ : ∃ S : Nat, S = a.length + x.length := ⟨_, rfl⟩
  rw [← eS] at TH
  have hS : IntKind.i64.wrap ((s.size : Int) + gs.size) = S := (IntWalk.i64_in _ (by omega)).trans (by omega)
  have SL := Lib.hid (show S ≤ 1000 by omega)
  generalize hcc : a ++ (x ++ b) = cc at TH A3 KB
  clear hs ht hc hN hNb hM hMb hK hKb hT hk ej eg z1 z2 z3 z4 hx hgs h1 h2 hNl hMl hKl hj eS hcc
  go_enter Tryd.func4, Tryd.ntmps4
  go_wp2_with (go_at_call 5; (with_reducible refine AW.out.mono ?_); rintro e w1 ⟨rfl, hb⟩; have HB := Lib.hid hb; have T1 := Lib.hid (TT.out.below hb); clear hb)
  obtain ⟨w0, ew0⟩ : ∃ u, u = w1.alloc (.cells four 9) := ⟨_, rfl⟩
  have F0 : RowKit.Hid (Blk w0 w1.heap.size four 9) := Lib.hid (by rw [ew0]; exact Blk.new _ _ _)
  have B0 : RowKit.Hid (Below w.heap.size w w0) := Lib.hid (by rw [ew0]; exact bb HB.out (B1 w1 _))
  have T0 : RowKit.Hid (Tab w0) := Lib.hid (by rw [ew0]; exact T1.out.below (B1 w1 _))
  have ew1 := ew0
  simp only [four] at ew1
  rw [← ew1]
  clear ew0 ew1
  refine (PK.out _).mono ?_
  rintro e w2 ⟨rfl, rfl⟩
  have c1 : w0.cell? ⟨w1.heap.size, j, none⟩ = some (.string gs) := by rw [F0.out.cell]; exact EG.out
  go_wp2_with fail
  refine (A1.out _ T0.out).mono ?_
  rintro e w2 ⟨hb2, P1, n1, c1', at1, er1, rfl, q1⟩
  have B2 := Lib.hid (bb B0.out hb2)
  have T2 := Lib.hid (T0.out.below hb2)
  have Q1 := Lib.hid q1
  clear hb2 q1 c1
  go_wp2_with fail
  refine (A2.out _ T2.out).mono ?_
  rintro e w3 ⟨hb3, P2, n2, c2', at2, er2, rfl, q2⟩
  have B23 := Lib.hid hb3
  have B3 := Lib.hid (bb B2.out hb3)
  have T3 := Lib.hid (T2.out.below hb3)
  have Q2 := Lib.hid q2
  clear hb3 q2
  go_wp2_with fail
  refine (A3.out _ T3.out).mono ?_
  rintro e w4 ⟨hb4, P3, n3, c3', at3, er3, rfl, q3⟩
  have B34 := Lib.hid hb4
  have B4 := Lib.hid (bb B3.out hb4)
  have Q3 := Lib.hid q3
  clear hb4 q3 s1 s2 s3
  by_cases ho1 : ow a N = none
  · obtain ⟨rfl, _⟩ := Q1.out.none_ ho1
    clear ho1
    go_wp2_with fail
    go_ret
    exact ⟨rfl, B4.out⟩
  · obtain ⟨rfl, rfl, g1, rfl, o1⟩ := Q1.out.some_ ho1
    have THR := Lib.hid (TH.out ho1)
    have HO1 := Lib.hid ho1
    obtain rfl := THR.out.sum
    by_cases ho2 : ow b M = none
    · obtain ⟨rfl, rfl⟩ := Q2.out.none_ ho2
      obtain ⟨r1, r2⟩ := THR.out.right M
      obtain ⟨rfl, e3⟩ := Q3.out.none_ (r2.trans ho2)
      have bl := BL.out M
      rw [r1] at e3
      generalize beg b M = p at e3 bl
      have hp : IntKind.i64.wrap ((S : Int) + p) = at3 := (IntWalk.i64_in _ (by have := SL.out; have := ZZ.out; omega)).trans (by omega)
      clear ho1 ho2 o1 r1 r2 bl e3
      go_wp2_with fail
      go_ret
      exact ⟨ret_bool (by simp), B4.out⟩
    · obtain ⟨rfl, rfl, g2, rfl, o2⟩ := Q2.out.some_ ho2
      have ho3 : ow cc (N + M) ≠ none := by rw [(THR.out.right M).2]; exact ho2
      obtain ⟨rfl, rfl, g3, rfl, o3⟩ := Q3.out.some_ ho3
      have O1 := Lib.hid (own_below o1 (bb B23.out B34.out))
      have O2 := Lib.hid (own_below o2 B34.out)
      have O3 := Lib.hid o3
      have HO2 := Lib.hid ho2
      have HO3 := Lib.hid ho3
      clear ho1 ho2 ho3 o1 o2 o3
      have n5 := NL.out
      obtain ⟨KK, eKK⟩ : ∃ KK : Nat, KK = N + M := ⟨_, rfl⟩
      rw [← eKK] at O3 KB HO3 ⊢
      have EK := Lib.hid eKK
      have u1 : IntKind.i64.wrap ((N : Int) + 1 + ((M : Int) + 1)) = (KK : Int) + 2 := (IntWalk.i64_in _ (by omega)).trans (by omega)
      have u2 : IntKind.i64.wrap ((KK : Int) + 2 - 1) = (KK : Int) + 1 := (IntWalk.i64_in _ (by omega)).trans (by omega)
      have u3 : IntKind.i64.wrap ((N : Int) + 1 - 1) = N := (IntWalk.i64_in _ (by omega)).trans (by omega)
      clear eKK
      go_wp2_with fail
      clear u1 u2
      go_loopw [18, 19] (fun v18 _ wr => ∃ i : Nat, i ≤ KK + 1 ∧ v18 = .int .i64 i ∧ Below w4.heap.size w4 wr) (fun v18 _ _ => KK + 1 - (intOf v18).toNat)
      case atStart => exact ⟨0, by omega, rfl, Below.refl _ _⟩
      case round =>
        obtain ⟨i, hi, rfl, hb⟩ := hrel
        have HBR := Lib.hid hb
        clear hb
        by_cases hlt : i < KK + 1
        · have hi3 : (i : Int) < KK + 1 := by omega
          by_cases hN : i < N
          · obtain ⟨y, hy⟩ := ow_some NB.out (by omega : i ≤ N) HO1.out
            obtain ⟨l1, l2⟩ := THR.out.left i hN
            have RC := cells_at (own_below O3.out HBR.out) hlt (l2.trans hy)
            rw [l1] at RC
            have RA := fun W (h : Below w4.heap.size w4 W) => cells_at (own_below O1.out h) (show i < N + 1 by omega) hy
            generalize beg a i = p at RA RC
            obtain ⟨z, ez⟩ : ∃ z : Nat, z = p + y.len := ⟨_, rfl⟩
            rw [show wfull y p = #[.int .i64 y.kind, .int .i64 p, .int .i64 z, .string (bsv y.text), .int .i64 y.lev, .int .u64 (cw y.cls 0), .int .u64 (cw y.cls 1), .int .u64 (cw y.cls 2), .int .u64 (cw y.cls 3)] by rw [ez]] at RC
            rw [show wfull y p = #[.int .i64 y.kind, .int .i64 p, .int .i64 z, .string (bsv y.text), .int .i64 y.lev, .int .u64 (cw y.cls 0), .int .u64 (cw y.cls 1), .int .u64 (cw y.cls 2), .int .u64 (cw y.cls 3)] by rw [ez]] at RA
            generalize y.kind = K0 at RA RC
            generalize bsv y.text = X at RA RC
            generalize y.lev = V at RA RC
            generalize (cw y.cls 0 : Int) = C0 at RA RC
            generalize (cw y.cls 1 : Int) = C1 at RA RC
            generalize (cw y.cls 2 : Int) = C2 at RA RC
            generalize (cw y.cls 3 : Int) = C3 at RA RC
            obtain ⟨P, eP⟩ : ∃ P : Int, P = p := ⟨_, rfl⟩
            obtain ⟨Z, eZ⟩ : ∃ Z : Int, Z = z := ⟨_, rfl⟩
            rw [← eP, ← eZ] at RA RC
            have r0 := RC 0 (by omega)
            have r1 := RC 1 (by omega)
            have r2 := RC 2 (by omega)
            have r3 := RC 3 (by omega)
            have r4 := RC 4 (by omega)
            have r5 := RC 5 (by omega)
            have r6 := RC 6 (by omega)
            have r7 := RC 7 (by omega)
            have r8 := RC 8 (by omega)
            simp only [List.getElem?_toArray, List.getElem?_cons_zero, List.getElem?_cons_succ, Nat.add_zero] at r0 r1 r2 r3 r4 r5 r6 r7 r8
            have RA' := Lib.hid RA
            have hN3 : (i : Int) < N := by omega
            have hN4 : (i : Int) < N + 1 := by omega
            clear RC RA l1 l2 hy ez eP eZ
            go_wp2_with (refine wpList_store_whole rfl 33 (.tmp 19) (.tmp 98) rfl wr.heap.size #[.int .i64 K0, .int .i64 P, .int .i64 Z, .string X, .int .i64 V, .int .u64 C0, .int .u64 C1, .int .u64 C2, .int .u64 C3] rfl rfl 33 _ (Blk.new wr wzero 33) (by kernel_rfl) (by rfl) (by simp [Value.oneCell']) ?_; intro w5 hk2 hg2; have K5 := Lib.hid hk2; have H5 := Lib.hid (below_new (HBR.out.alloc HBR.out.size _) (by have := HBR.out.size; simp; omega) hg2 HBR.out.size); clear hk2 hg2; clear r0 r1 r2 r3 r4 r5 r6 r7 r8)
            have RA9 := RA'.out _ H5.out
            have k0 := K5.out.cell 0
            have k1 := K5.out.cell 1
            have k2 := K5.out.cell 2
            have k3 := K5.out.cell 3
            have k4 := K5.out.cell 4
            have k5 := K5.out.cell 5
            have k6 := K5.out.cell 6
            have k7 := K5.out.cell 7
            have k8 := K5.out.cell 8
            simp only [List.getElem?_toArray, List.getElem?_cons_zero, List.getElem?_cons_succ, Nat.add_zero] at k0 k1 k2 k3 k4 k5 k6 k7 k8
            have a0 := RA9 0 (by omega)
            have a1 := RA9 1 (by omega)
            have a2 := RA9 2 (by omega)
            have a3 := RA9 3 (by omega)
            have a4 := RA9 4 (by omega)
            have a5 := RA9 5 (by omega)
            have a6 := RA9 6 (by omega)
            have a7 := RA9 7 (by omega)
            have a8 := RA9 8 (by omega)
            simp only [List.getElem?_toArray, List.getElem?_cons_zero, List.getElem?_cons_succ, Nat.add_zero] at a0 a1 a2 a3 a4 a5 a6 a7 a8
            go_quiet (fail)
            go_wp2_with fail
            go_roundw
            case rel => exact ⟨i + 1, by omega, by go_num, bdrew H5.out⟩
            case measure => simp [intOf]; omega
          · obtain ⟨q, eq⟩ : ∃ q, i = N + q := ⟨i - N, by omega⟩
            have hq : q ≤ M := by have := EK.out; omega
            obtain ⟨y, hy⟩ := ow_some MB.out hq HO2.out
            obtain ⟨l1, l2⟩ := THR.out.right q
            rw [← eq] at l1 l2
            have RC := cells_at (own_below O3.out HBR.out) hlt (l2.trans hy)
            rw [l1] at RC
            have RB := fun W (h : Below w4.heap.size w4 W) => cells_at (own_below O2.out h) (show q < M + 1 by omega) hy
            have e7 := BL.out q
            have e8 := (wd_ok (drop_lt (fun x hx => LB.out x hx) _) (show wd (b.drop (beg b q)) = some y from hy)).1
            rw [List.length_drop] at e8
            generalize beg b q = p at RB RC e7 e8
            obtain ⟨z, ez⟩ : ∃ z : Nat, z = p + y.len := ⟨_, rfl⟩
            obtain ⟨p2, ep2⟩ : ∃ p2 : Nat, p2 = S + p := ⟨_, rfl⟩
            obtain ⟨z2, ez2⟩ : ∃ z2 : Nat, z2 = S + p + y.len := ⟨_, rfl⟩
            rw [← ep2, show wfull y p2 = #[.int .i64 y.kind, .int .i64 p2, .int .i64 z2, .string (bsv y.text), .int .i64 y.lev, .int .u64 (cw y.cls 0), .int .u64 (cw y.cls 1), .int .u64 (cw y.cls 2), .int .u64 (cw y.cls 3)] by rw [ez2, ep2]] at RC
            rw [show wfull y p = #[.int .i64 y.kind, .int .i64 p, .int .i64 z, .string (bsv y.text), .int .i64 y.lev, .int .u64 (cw y.cls 0), .int .u64 (cw y.cls 1), .int .u64 (cw y.cls 2), .int .u64 (cw y.cls 3)] by rw [ez]] at RB
            generalize y.kind = K0 at RB RC
            generalize bsv y.text = X at RB RC
            generalize y.lev = V at RB RC
            generalize (cw y.cls 0 : Int) = C0 at RB RC
            generalize (cw y.cls 1 : Int) = C1 at RB RC
            generalize (cw y.cls 2 : Int) = C2 at RB RC
            generalize (cw y.cls 3 : Int) = C3 at RB RC
            obtain ⟨P, eP⟩ : ∃ P : Int, P = p := ⟨_, rfl⟩
            obtain ⟨Z, eZ⟩ : ∃ Z : Int, Z = z := ⟨_, rfl⟩
            obtain ⟨P2, eP2⟩ : ∃ P2 : Int, P2 = p2 := ⟨_, rfl⟩
            obtain ⟨Z2, eZ2⟩ : ∃ Z2 : Int, Z2 = z2 := ⟨_, rfl⟩
            have v1 : IntKind.i64.wrap (P2 - S) = P := (IntWalk.i64_in _ (by have := SL.out; have := ZZ.out; omega)).trans (by omega)
            have v2 : IntKind.i64.wrap (Z2 - S) = Z := (IntWalk.i64_in _ (by have := SL.out; have := ZZ.out; omega)).trans (by omega)
            rw [← eP, ← eZ] at RB
            rw [← eP2, ← eZ2] at RC
            obtain ⟨D, eD⟩ : ∃ D : Int, D = (i : Int) - (N + 1) := ⟨_, rfl⟩
            have v3 : IntKind.i64.wrap ((i : Int) - (N + 1)) = D := (IntWalk.i64_in _ (by omega)).trans eD.symm
            have v4 : IntKind.i64.wrap (D + 1) = q := (IntWalk.i64_in _ (by omega)).trans (by omega)
            have r0 := RC 0 (by omega)
            have r1 := RC 1 (by omega)
            have r2 := RC 2 (by omega)
            have r3 := RC 3 (by omega)
            have r4 := RC 4 (by omega)
            have r5 := RC 5 (by omega)
            have r6 := RC 6 (by omega)
            have r7 := RC 7 (by omega)
            have r8 := RC 8 (by omega)
            simp only [List.getElem?_toArray, List.getElem?_cons_zero, List.getElem?_cons_succ, Nat.add_zero] at r0 r1 r2 r3 r4 r5 r6 r7 r8
            have RB' := Lib.hid RB
            have hN3 : ¬ (i : Int) < N := by omega
            have hi5 : (i : Int) ≤ 1000 := by have := EK.out; omega
            have hq3 : (q : Int) < M + 1 := by omega
            have V3 := Lib.hid (And.intro v3 v4)
            clear RC RB l1 l2 hy ez eP eZ ep2 ez2 eP2 eZ2 e7 e8 eq eD v3 v4
            go_wp2_with (refine wpList_store_whole rfl 33 (.tmp 19) (.tmp 98) rfl wr.heap.size #[.int .i64 K0, .int .i64 P2, .int .i64 Z2, .string X, .int .i64 V, .int .u64 C0, .int .u64 C1, .int .u64 C2, .int .u64 C3] rfl rfl 33 _ (Blk.new wr wzero 33) (by kernel_rfl) (by rfl) (by simp [Value.oneCell']) ?_; intro w5 hk2 hg2; have K5 := Lib.hid hk2; have H5 := Lib.hid (below_new (HBR.out.alloc HBR.out.size _) (by have := HBR.out.size; simp; omega) hg2 HBR.out.size); have f1 := hk2.frozen 1; have f2 := hk2.frozen 2; have k1 := hk2.cell 1; have k2 := hk2.cell 2; simp only [List.getElem?_toArray, List.getElem?_cons_zero, List.getElem?_cons_succ, Nat.add_zero] at k1 k2; clear hk2 hg2; clear r0 r1 r2 r3 r4 r5 r6 r7 r8)
            generalize hW6 : (World.setCell _ _ _ : World) = w6
            have K6 : RowKit.Hid (Blk w6 wr.heap.size #[.int .i64 K0, .int .i64 P, .int .i64 Z, .string X, .int .i64 V, .int .u64 C0, .int .u64 C1, .int .u64 C2, .int .u64 C3] 33) := Lib.hid (by rw [← hW6]; exact heap_setCell_same _ _ 2 _ _ _ (heap_setCell_same _ _ 1 _ _ _ K5.out))
            have H6 : RowKit.Hid (Below w4.heap.size w4 w6) := Lib.hid (by rw [← hW6]; exact (H5.out.setCell (p := ⟨wr.heap.size, 1, none⟩) HBR.out.size _).setCell (p := ⟨wr.heap.size, 2, none⟩) HBR.out.size _)
            clear hW6 v1 v2 f1 f2 k1 k2
            obtain ⟨v3, v4⟩ := V3.out
            have RB9 := RB'.out _ H6.out
            have k0 := K6.out.cell 0
            have k1 := K6.out.cell 1
            have k2 := K6.out.cell 2
            have k3 := K6.out.cell 3
            have k4 := K6.out.cell 4
            have k5 := K6.out.cell 5
            have k6 := K6.out.cell 6
            have k7 := K6.out.cell 7
            have k8 := K6.out.cell 8
            simp only [List.getElem?_toArray, List.getElem?_cons_zero, List.getElem?_cons_succ, Nat.add_zero] at k0 k1 k2 k3 k4 k5 k6 k7 k8
            have a0 := RB9 0 (by omega)
            have a1 := RB9 1 (by omega)
            have a2 := RB9 2 (by omega)
            have a3 := RB9 3 (by omega)
            have a4 := RB9 4 (by omega)
            have a5 := RB9 5 (by omega)
            have a6 := RB9 6 (by omega)
            have a7 := RB9 7 (by omega)
            have a8 := RB9 8 (by omega)
            simp only [List.getElem?_toArray, List.getElem?_cons_zero, List.getElem?_cons_succ, Nat.add_zero] at a0 a1 a2 a3 a4 a5 a6 a7 a8
            go_quiet (fail)
            go_wp2_with fail
            go_roundw
            case rel => exact ⟨i + 1, by omega, by go_num, bdrew H6.out⟩
            case measure => simp [intOf]; omega
        · obtain rfl : i = KK + 1 := by omega
          go_wp2_with fail
          go_ret
          exact ⟨rfl, bt B4.out HBR.out B4.out.size⟩
end Go.Proofs.YtgmdfmckkfefgaaDoor

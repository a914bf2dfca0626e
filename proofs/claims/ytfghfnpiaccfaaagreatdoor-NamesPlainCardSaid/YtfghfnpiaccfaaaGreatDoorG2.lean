/- strconv's ParseUint at two digits to base 16, at eight bits. -/
import Derived.Test.YtfghfnpiaccfaaaGreatDoorG1
import Derived.Shelf.Strconv.Atoi
import Derived.Shelf.LaysM
import Derived.Shelf.Strconv.Clone
import Derived.Shelf.Strconv.SyntaxError
import Derived.Shelf.LaysC
import Derived.Shelf.Strconv.ToError
import Derived.Shelf.Strings.Prefix
import Derived.Test.YtfghfnpiaccfaaaGreatDoorProg
set_option linter.unusedSimpArgs false
set_option linter.unusedVariables false
namespace Go.Proofs.YtfghfnpiaccfaaaGreatDoor
open Go Go.RowKit
set_option maxRecDepth 100000 in
theorem lw_dg : ∀ c, c < 256 → ¬ (48 ≤ c ∧ c ≤ 57) → (97 ≤ lw c ∧ lw c ≤ 102 → dg c = some (lw c - 87)) ∧ (¬ (97 ≤ lw c ∧ lw c ≤ 102) → dg c = none) ∧ lw c < 256 := by decide
set_option maxRecDepth 100000 in
theorem lw_small : ∀ c, c < 48 → lw c < 97 := by decide
theorem lw_95 : lw 95 = 127 := by decide
theorem u64_in {x : Int} (h : 0 ≤ x ∧ x < 18446744073709551616) : IntKind.u64.wrap x = x := by unfold IntKind.wrap; simp [IntKind.signed, IntKind.bits]; omega
/-- What a row of two digits is told to be. -/
def puE (a b : Nat) : Ending := match dg a, dg b with
  | some x, some y => .returned (.tuple #[.int .u64 (16 * x + y : Nat), .nilIface])
  | _, _ => .returned (.tuple #[.int .u64 0, .iface 345 (.int .i64 2)])
theorem puE_some {a b x y : Nat} (h : dg a = some x) (h' : dg b = some y) : puE a b = .returned (.tuple #[.int .u64 (16 * x + y : Nat), .nilIface]) := by simp only [puE, h, h']
theorem puE_none1 {a b : Nat} (h : dg a = none) : puE a b = .returned (.tuple #[.int .u64 0, .iface 345 (.int .i64 2)]) := by simp only [puE, h]
theorem puE_none2 {a b : Nat} (h' : dg b = none) : puE a b = .returned (.tuple #[.int .u64 0, .iface 345 (.int .i64 2)]) := by
  simp only [puE]
  cases dg a <;> simp [h']
/-- How far the reading of digits has come. -/
def Far (a b : Nat) (k : Nat) (n : Nat) : Prop := (k = 0 ∧ n = 0) ∨ (k = 1 ∧ dg a = some n) ∨ (k = 2 ∧ ∃ x y, dg a = some x ∧ dg b = some y ∧ n = 16 * x + y)
theorem far_step {a b k n c x : Nat} (h : Far a b k n) (hk : k < 2) (hc : c = [a, b].getD k 0) (hx : dg c = some x) : Far a b (k + 1) (16 * n + x) := by
  rcases h with ⟨rfl, rfl⟩ | ⟨rfl, h⟩ | ⟨rfl, _⟩
  · refine .inr (.inl ⟨rfl, ?_⟩)
    rw [← show c = a from hc, hx]
    simp
  · exact .inr (.inr ⟨rfl, n, x, h, by rw [← show c = b from hc]; exact hx, rfl⟩)
  · omega
theorem far_lt {a b k n : Nat} (h : Far a b k n) (hk : k < 2) : n < 16 := by
  rcases h with ⟨rfl, rfl⟩ | ⟨rfl, h⟩ | ⟨rfl, _⟩
  · omega
  · exact dg_lt h
  · omega
theorem far_none {a b k n c : Nat} (h : Far a b k n) (hk : k < 2) (hc : c = [a, b].getD k 0) (hx : dg c = none) : puE a b = .returned (.tuple #[.int .u64 0, .iface 345 (.int .i64 2)]) := by
  rcases h with ⟨rfl, rfl⟩ | ⟨rfl, h⟩ | ⟨rfl, _⟩
  · exact puE_none1 (by rw [← show c = a from hc]; exact hx)
  · exact puE_none2 (by rw [← show c = b from hc]; exact hx)
  · omega
set_option maxHeartbeats 4000000 in
set_option maxRecDepth 100000 in
theorem pu_any (a b : Nat) (ha : a < 256) (hb : b < 256) (w : World) :
    Calls Tryz.prog 301 #[.string (bsv [a, b]), .int .i64 16, .int .i64 8] w fun e w' => e = puE a b ∧ Below w.heap.size w w' := by
  obtain ⟨A, cp, w1, hrun, hb1, hT, _⟩ := conv_txt w [a, b] (by simp; omega)
  obtain ⟨tb, to, rfl, _⟩ := hT.at_ (i := 0) (by simp)
  have hc : ∀ k, k < 2 → w1.cell? ⟨tb, to + k, none⟩ = some (.int .u8 ([a, b].getD k 0 : Nat)) := fun k hk => by
    obtain ⟨_, _, e, c1⟩ := hT.at_ (i := k) (by simpa using hk)
    cases e
    exact c1
  have hz : (bsv [a, b]).toList.isEmpty = false := by
    rw [(str_bsv (l := [a, b]) (by simp; omega)).list]
    rfl
  have hrun2 : (convert 9 70 (.string (bsv [a, b]))).run Tryz.prog w = .ok (.slice (some ⟨tb, to, none⟩) 2 cp) w1 := hrun
  have hlt : ∀ k, [a, b].getD k 0 < 256 := fun k => by
    match k with
    | 0 => exact ha
    | 1 => exact hb
    | k + 2 => simp
  have HL := Lib.hid hlt
  have HC := Lib.hid hc
  have HB := Lib.hid hb1
  generalize bsv [a, b] = S at hz hrun2
  obtain ⟨E, hE⟩ : ∃ E, E = puE a b := ⟨_, rfl⟩
  rw [← hE]
  have EH := Lib.hid hE
  clear hT hrun hb1 hc hlt ha hb hE
  go_enter Tryz.func301, Tryz.ntmps301
  go_wp2_with fail
  go_loopw [12, 13, 15, 16, 17, 101] (fun z n _ _ _ i wr => ∃ k N : Nat, z = .bool false ∧ k ≤ 2 ∧ i = .int .i64 k ∧ n = .int .u64 N ∧ Far a b k N ∧ wr = w1) (fun _ _ _ _ _ i _ => 2 - (intOf i).toNat)
  case atStart => exact ⟨0, 0, rfl, by omega, rfl, rfl, .inl ⟨rfl, rfl⟩, rfl⟩
  case round =>
    obtain ⟨k, N, rfl, hk, rfl, rfl, hF, rfl⟩ := hrel
    by_cases h2 : k < 2
    · have c1 := HC.out k h2
      have hv := HL.out k
      obtain ⟨c, ec⟩ : ∃ c, c = [a, b].getD k 0 := ⟨_, rfl⟩
      rw [← ec] at c1 hv
      have hN := far_lt hF h2
      have hk3 : (k : Int) < 2 := by omega
      have hNc : (N : Int) < 1152921504606846976 := by omega
      have FH := Lib.hid hF
      have EC := Lib.hid ec
      have V := Lib.hid hv
      have LW := Lib.hid (lw_dg c hv)
      by_cases hd : 48 ≤ c ∧ c ≤ 57
      · have hx : dg c = some (c - 48) := by simp [dg, hd]
        have X := Lib.hid hx
        obtain ⟨C, eC⟩ : ∃ C : Int, C = c := ⟨_, rfl⟩
        rw [← eC] at c1
        obtain ⟨v, ev⟩ : ∃ v : Int, v = N := ⟨_, rfl⟩
        rw [← ev] at hNc ⊢
        have q1 : 48 ≤ C := by omega
        have q2 : C ≤ 57 := by omega
        obtain ⟨x, ex⟩ : ∃ x : Int, x = ((c - 48 : Nat) : Int) := ⟨_, rfl⟩
        obtain ⟨M, eM⟩ : ∃ M : Int, M = v * 16 := ⟨_, rfl⟩
        obtain ⟨R, eR⟩ : ∃ R : Int, R = M + x := ⟨_, rfl⟩
        have hw1 : IntKind.u8.wrap (C - 48) = x := (u8_in (by omega)).trans (by omega)
        have hw2 : IntKind.u64.wrap (v * 16) = M := (u64_in (by omega)).trans (by omega)
        have q3 : x < 16 := by omega
        have hw3 : IntKind.u64.wrap x = x := u64_in (by omega)
        have hw4 : IntKind.u64.wrap (M + x) = R := (u64_in (by omega)).trans (by omega)
        have q4 : M ≤ R := by omega
        have q5 : R ≤ 255 := by omega
        have G : RowKit.Hid (R = ((16 * N + (c - 48) : Nat) : Int)) := Lib.hid (by omega)
        clear hF ec hv hN hd hx eM eR eC ev ex
        go_wp2_with fail
        go_roundw
        case rel => exact ⟨k + 1, 16 * N + (c - 48), rfl, by omega, by go_num, by rw [G.out], far_step FH.out h2 EC.out X.out, trivial⟩
        case measure => simp [intOf]; omega
      · obtain ⟨z1, z2, z3⟩ := LW.out hd
        have T := lower_any c hv
        by_cases hlo : c < 48
        · have hx : dg c = none := z2 (by intro h; have := lw_small c hlo; omega)
          have X := Lib.hid hx
          have hlw := lw_small c hlo
          obtain ⟨C, eC⟩ : ∃ C : Int, C = c := ⟨_, rfl⟩
          obtain ⟨L, eL⟩ : ∃ L : Int, L = (lw c : Nat) := ⟨_, rfl⟩
          rw [← eC] at c1 T
          rw [← eL] at T
          have q1 : C < 48 := by omega
          have q2 : L < 97 := by omega
          have T := Lib.hid T
          clear hF ec hv hN hd hx eC eL z1 z2 z3 hlo hlw hNc
          go_wp2_with (go_at_call 306; refine (T.out _).mono ?_; rintro e w2 ⟨rfl, rfl⟩)
          go_ret2
          exact ⟨(EH.out.trans (far_none FH.out h2 EC.out X.out)).symm, HB.out⟩
        · by_cases hl1 : lw c < 97
          · have hx : dg c = none := z2 (by omega)
            have X := Lib.hid hx
            obtain ⟨C, eC⟩ : ∃ C : Int, C = c := ⟨_, rfl⟩
            obtain ⟨L, eL⟩ : ∃ L : Int, L = (lw c : Nat) := ⟨_, rfl⟩
            rw [← eC] at c1 T
            rw [← eL] at T
            have q1 : 57 < C := by omega
            have q1' : 48 ≤ C := by omega
            have q2 : L < 97 := by omega
            have n95 : ¬ C = 95 := fun e => by have := lw_95; rw [show c = 95 by omega] at eL; omega
            have T := Lib.hid T
            clear hF ec hv hN hd hx eC eL z1 z2 z3 hlo hl1 hNc
            go_wp2_with (go_at_call 306; refine (T.out _).mono ?_; rintro e w2 ⟨rfl, rfl⟩)
            go_ret2
            exact ⟨(EH.out.trans (far_none FH.out h2 EC.out X.out)).symm, HB.out⟩
          · by_cases hl2 : lw c ≤ 102
            · have hx : dg c = some (lw c - 87) := z1 (by omega)
              have X := Lib.hid hx
              obtain ⟨C, eC⟩ : ∃ C : Int, C = c := ⟨_, rfl⟩
              obtain ⟨L, eL⟩ : ∃ L : Int, L = (lw c : Nat) := ⟨_, rfl⟩
              obtain ⟨v, ev⟩ : ∃ v : Int, v = N := ⟨_, rfl⟩
              rw [← eC] at c1 T
              rw [← eL] at T
              rw [← ev] at hNc ⊢
              have q1 : 57 < C := by omega
              have q1' : 48 ≤ C := by omega
              have q2 : 97 ≤ L := by omega
              have q2' : L ≤ 122 := by omega
              have n95 : ¬ C = 95 := fun e => by have := lw_95; rw [show c = 95 by omega] at eL; omega
              obtain ⟨x, ex⟩ : ∃ x : Int, x = ((lw c - 87 : Nat) : Int) := ⟨_, rfl⟩
              obtain ⟨y, ey⟩ : ∃ y : Int, y = L - 97 := ⟨_, rfl⟩
              obtain ⟨M, eM⟩ : ∃ M : Int, M = v * 16 := ⟨_, rfl⟩
              obtain ⟨R, eR⟩ : ∃ R : Int, R = M + x := ⟨_, rfl⟩
              have hw1 : IntKind.u8.wrap (L - 97) = y := (u8_in (by omega)).trans (by omega)
              have hw5 : IntKind.u8.wrap (y + 10) = x := (u8_in (by omega)).trans (by omega)
              have hw2 : IntKind.u64.wrap (v * 16) = M := (u64_in (by omega)).trans (by omega)
              have q3 : x < 16 := by omega
              have hw3 : IntKind.u64.wrap x = x := u64_in (by omega)
              have hw4 : IntKind.u64.wrap (M + x) = R := (u64_in (by omega)).trans (by omega)
              have q4 : M ≤ R := by omega
              have q5 : R ≤ 255 := by omega
              have G : RowKit.Hid (R = ((16 * N + (lw c - 87) : Nat) : Int)) := Lib.hid (by omega)
              have T := Lib.hid T
              clear hF ec hv hN hd hx eM eR eC eL ev ex ey z1 z2 z3 hlo hl1 hl2
              go_wp2_with (go_at_call 306; refine (T.out _).mono ?_; rintro e w2 ⟨rfl, rfl⟩)
              go_roundw
              case rel => exact ⟨k + 1, 16 * N + (lw c - 87), rfl, by omega, by go_num, by rw [G.out], far_step FH.out h2 EC.out X.out, trivial⟩
              case measure => simp [intOf]; omega
            · have hx : dg c = none := z2 (by omega)
              have X := Lib.hid hx
              obtain ⟨C, eC⟩ : ∃ C : Int, C = c := ⟨_, rfl⟩
              obtain ⟨L, eL⟩ : ∃ L : Int, L = (lw c : Nat) := ⟨_, rfl⟩
              rw [← eC] at c1 T
              rw [← eL] at T
              have q1 : 57 < C := by omega
              have q1' : 48 ≤ C := by omega
              have q2 : 97 ≤ L := by omega
              by_cases hl3 : lw c ≤ 122
              · have q2' : L ≤ 122 := by omega
                have n95 : ¬ C = 95 := fun e => by have := lw_95; rw [show c = 95 by omega] at eL; omega
                obtain ⟨y, ey⟩ : ∃ y : Int, y = L - 97 := ⟨_, rfl⟩
                obtain ⟨x, ex⟩ : ∃ x : Int, x = L - 87 := ⟨_, rfl⟩
                have hw1 : IntKind.u8.wrap (L - 97) = y := (u8_in (by omega)).trans (by omega)
                have hw5 : IntKind.u8.wrap (y + 10) = x := (u8_in (by omega)).trans (by omega)
                have q3 : 16 ≤ x := by omega
                have T := Lib.hid T
                clear hF ec hv hN hd hx eC eL ex ey z1 z2 z3 hlo hl1 hl2 hl3 hNc
                go_wp2_with (go_at_call 306; refine (T.out _).mono ?_; rintro e w2 ⟨rfl, rfl⟩)
                go_ret2
                exact ⟨(EH.out.trans (far_none FH.out h2 EC.out X.out)).symm, HB.out⟩
              · have q2' : 122 < L := by omega
                have T := Lib.hid T
                clear hF ec hv hN hd hx eL z1 z2 z3 hlo hl1 hl2 hl3 hNc
                by_cases n95 : C = 95
                · subst n95
                  clear eC
                  go_wp2_with (go_at_call 306; refine (T.out _).mono ?_; rintro e w2 ⟨rfl, rfl⟩)
                  go_ret2
                  exact ⟨(EH.out.trans (far_none FH.out h2 EC.out X.out)).symm, HB.out⟩
                · clear eC
                  go_wp2_with (go_at_call 306; refine (T.out _).mono ?_; rintro e w2 ⟨rfl, rfl⟩)
                  go_ret2
                  exact ⟨(EH.out.trans (far_none FH.out h2 EC.out X.out)).symm, HB.out⟩
    · obtain rfl : k = 2 := by omega
      have R : RowKit.Hid (E = .returned (.tuple #[.int .u64 N, .nilIface])) := Lib.hid (by
        rcases hF with ⟨h, _⟩ | ⟨h, _⟩ | ⟨_, x, y, h1, h3, rfl⟩
        · omega
        · omega
        · exact EH.out.trans (puE_some h1 h3))
      clear hF h2 hk
      obtain ⟨v, ev⟩ : ∃ v : Int, v = N := ⟨_, rfl⟩
      rw [← ev]
      have EV := Lib.hid ev
      clear ev
      go_wp2_with fail
      go_ret2
      exact ⟨by rw [R.out, ← EV.out]; rfl, HB.out⟩
end Go.Proofs.YtfghfnpiaccfaaaGreatDoor
namespace Go.Proofs
open Go.Shelf
def Tryz.lays244_ren : Go.Shelf.Ren := ⟨fun | 244 => 275 | 247 => 291 | 287 => 301 | 321 => 306 | 322 => 307 | n => n, fun | 9 => 9 | 3 => 3 | 75 => 138 | 4 => 4 | 5 => 5 | 167 => 345 | 37 => 70 | 0 => 0 | 85 => 346 | 2 => 2 | 53 => 44 | 175 => 356 | 46 => 264 | 21 => 21 | 80 => 76 | n => n, fun | n => n⟩
theorem Tryz.lays244 : Go.Proofs.Lays.n244 Tryz.prog Tryz.lays244_ren := {
  mixed := by kernel_rfl
  f244 := Tryz.func275.trans (congrArg some (by kernel_rfl))
  f247 := Tryz.func291.trans (congrArg some (by kernel_rfl))
  f287 := Tryz.func301.trans (congrArg some (by kernel_rfl))
  f321 := Tryz.func306.trans (congrArg some (by kernel_rfl))
  f322 := Tryz.func307.trans (congrArg some (by kernel_rfl))
  t0 := Tryz.underlying0
  a0 := Tryz.isAgg0
  z0 := Tryz.sizeOf0
  v0 := Tryz.zeroValue0
  t2 := Tryz.underlying2
  a2 := Tryz.isAgg2
  z2 := Tryz.sizeOf2
  v2 := Tryz.zeroValue2
  t3 := Tryz.underlying3
  a3 := Tryz.isAgg3
  z3 := Tryz.sizeOf3
  v3 := Tryz.zeroValue3
  t4 := Tryz.underlying4
  a4 := Tryz.isAgg4
  z4 := Tryz.sizeOf4
  v4 := Tryz.zeroValue4
  t5 := Tryz.underlying5
  a5 := Tryz.isAgg5
  z5 := Tryz.sizeOf5
  v5 := Tryz.zeroValue5
  t9 := Tryz.underlying9
  a9 := Tryz.isAgg9
  z9 := Tryz.sizeOf9
  v9 := Tryz.zeroValue9
  t21 := Tryz.underlying21
  a21 := Tryz.isAgg21
  z21 := Tryz.sizeOf21
  v21 := Tryz.zeroValue21
  t37 := Tryz.underlying70
  a37 := Tryz.isAgg70
  z37 := Tryz.sizeOf70
  v37 := Tryz.zeroValue70
  t46 := Tryz.underlying264
  a46 := Tryz.isAgg264
  z46 := Tryz.sizeOf264
  v46 := Tryz.zeroValue264
  t53 := Tryz.underlying44
  a53 := Tryz.isAgg44
  z53 := Tryz.sizeOf44
  v53 := Tryz.zeroValue44
  t75 := Tryz.underlying138
  a75 := Tryz.isAgg138
  z75 := Tryz.sizeOf138
  v75 := Tryz.zeroValue138
  t85 := Tryz.underlying346
  a85 := Tryz.isAgg346
  z85 := Tryz.sizeOf346
  v85 := Tryz.zeroValue346
  t167 := Tryz.underlying345
  a167 := Tryz.isAgg345
  z167 := Tryz.sizeOf345
  v167 := Tryz.zeroValue345
  t175 := Tryz.underlying356
  a175 := Tryz.isAgg356
  z175 := Tryz.sizeOf356
  v175 := Tryz.zeroValue356 }
open Go.RowKit in
theorem Tryz.internal_strconv_Atoi (s : ByteArray) (n : Int) (hl : s.size ≤ 18) (h : Lib.atoi s.data.toList = some n) (w : World) :
    Calls Tryz.prog 275 #[.string s] w fun e w' => e = .returned (.tuple #[.int .i64 n, .nilIface]) ∧ ∃ t, w' = Lib.bytesWorld w 5 t := Any.internal_strconv_Atoi Tryz.lays244 s n hl h w
def Tryz.lays172_ren : Go.Shelf.Ren := ⟨fun | 172 => 261 | 244 => 275 | 245 => 276 | 247 => 291 | 279 => 292 | 280 => 293 | 281 => 294 | 282 => 295 | 287 => 301 | 316 => 249 | 171 => 185 | 205 => 302 | 321 => 306 | 322 => 307 | 243 => 226 | 246 => 257 | 283 => 270 | 284 => 271 | 285 => 272 | 286 => 273 | 129 => 287 | 317 => 286 | 318 => 288 | 319 => 289 | 320 => 290 | 337 => 300 | 338 => 253 | n => n, fun | 9 => 9 | 3 => 3 | 75 => 138 | 76 => 139 | 4 => 4 | 5 => 5 | 167 => 345 | 37 => 70 | 0 => 0 | 85 => 346 | 2 => 2 | 168 => 348 | 53 => 44 | 175 => 356 | 46 => 264 | 210 => 359 | 127 => 142 | 145 => 368 | 143 => 366 | 21 => 21 | 171 => 327 | 173 => 329 | 212 => 342 | 51 => 268 | 20 => 20 | 213 => 343 | 232 => 364 | 233 => 326 | 80 => 76 | n => n, fun | 15 => 2 | 16 => 3 | 17 => 1 | 18 => 4 | 19 => 0 | n => n⟩
theorem Tryz.lays172 : Go.Proofs.Lays.n172 Tryz.prog Tryz.lays172_ren := {
  mixed := by kernel_rfl
  f129 := Tryz.func287.trans (congrArg some (by kernel_rfl))
  f171 := Tryz.func185.trans (congrArg some (by kernel_rfl))
  f172 := Tryz.func261.trans (congrArg some (by kernel_rfl))
  f205 := Tryz.func302.trans (congrArg some (by kernel_rfl))
  f243 := Tryz.func226.trans (congrArg some (by kernel_rfl))
  f244 := Tryz.func275.trans (congrArg some (by kernel_rfl))
  f245 := Tryz.func276.trans (congrArg some (by kernel_rfl))
  f246 := Tryz.func257.trans (congrArg some (by kernel_rfl))
  f247 := Tryz.func291.trans (congrArg some (by kernel_rfl))
  f279 := Tryz.func292.trans (congrArg some (by kernel_rfl))
  f280 := Tryz.func293.trans (congrArg some (by kernel_rfl))
  f281 := Tryz.func294.trans (congrArg some (by kernel_rfl))
  f282 := Tryz.func295.trans (congrArg some (by kernel_rfl))
  f283 := Tryz.func270.trans (congrArg some (by kernel_rfl))
  f284 := Tryz.func271.trans (congrArg some (by kernel_rfl))
  f285 := Tryz.func272.trans (congrArg some (by kernel_rfl))
  f286 := Tryz.func273.trans (congrArg some (by kernel_rfl))
  f287 := Tryz.func301.trans (congrArg some (by kernel_rfl))
  f316 := Tryz.func249.trans (congrArg some (by kernel_rfl))
  f317 := Tryz.func286.trans (congrArg some (by kernel_rfl))
  f318 := Tryz.func288.trans (congrArg some (by kernel_rfl))
  f319 := Tryz.func289.trans (congrArg some (by kernel_rfl))
  f320 := Tryz.func290.trans (congrArg some (by kernel_rfl))
  f321 := Tryz.func306.trans (congrArg some (by kernel_rfl))
  f322 := Tryz.func307.trans (congrArg some (by kernel_rfl))
  f337 := Tryz.func300.trans (congrArg some (by kernel_rfl))
  f338 := Tryz.func253.trans (congrArg some (by kernel_rfl))
  t0 := Tryz.underlying0
  a0 := Tryz.isAgg0
  z0 := Tryz.sizeOf0
  v0 := Tryz.zeroValue0
  t2 := Tryz.underlying2
  a2 := Tryz.isAgg2
  z2 := Tryz.sizeOf2
  v2 := Tryz.zeroValue2
  t3 := Tryz.underlying3
  a3 := Tryz.isAgg3
  z3 := Tryz.sizeOf3
  v3 := Tryz.zeroValue3
  t4 := Tryz.underlying4
  a4 := Tryz.isAgg4
  z4 := Tryz.sizeOf4
  v4 := Tryz.zeroValue4
  t5 := Tryz.underlying5
  a5 := Tryz.isAgg5
  z5 := Tryz.sizeOf5
  v5 := Tryz.zeroValue5
  t9 := Tryz.underlying9
  a9 := Tryz.isAgg9
  z9 := Tryz.sizeOf9
  v9 := Tryz.zeroValue9
  t20 := Tryz.underlying20
  a20 := Tryz.isAgg20
  z20 := Tryz.sizeOf20
  v20 := Tryz.zeroValue20
  t21 := Tryz.underlying21
  a21 := Tryz.isAgg21
  z21 := Tryz.sizeOf21
  v21 := Tryz.zeroValue21
  t37 := Tryz.underlying70
  a37 := Tryz.isAgg70
  z37 := Tryz.sizeOf70
  v37 := Tryz.zeroValue70
  t46 := Tryz.underlying264
  a46 := Tryz.isAgg264
  z46 := Tryz.sizeOf264
  v46 := Tryz.zeroValue264
  t51 := Tryz.underlying268
  a51 := Tryz.isAgg268
  z51 := Tryz.sizeOf268
  v51 := Tryz.zeroValue268
  t53 := Tryz.underlying44
  a53 := Tryz.isAgg44
  z53 := Tryz.sizeOf44
  v53 := Tryz.zeroValue44
  t75 := Tryz.underlying138
  a75 := Tryz.isAgg138
  z75 := Tryz.sizeOf138
  v75 := Tryz.zeroValue138
  t76 := Tryz.underlying139
  a76 := Tryz.isAgg139
  z76 := Tryz.sizeOf139
  v76 := Tryz.zeroValue139
  t85 := Tryz.underlying346
  a85 := Tryz.isAgg346
  z85 := Tryz.sizeOf346
  v85 := Tryz.zeroValue346
  t127 := Tryz.underlying142
  a127 := Tryz.isAgg142
  z127 := Tryz.sizeOf142
  v127 := Tryz.zeroValue142
  t143 := Tryz.underlying366
  a143 := Tryz.isAgg366
  z143 := Tryz.sizeOf366
  v143 := Tryz.zeroValue366
  t145 := Tryz.underlying368
  a145 := Tryz.isAgg368
  z145 := Tryz.sizeOf368
  v145 := Tryz.zeroValue368
  t167 := Tryz.underlying345
  a167 := Tryz.isAgg345
  z167 := Tryz.sizeOf345
  v167 := Tryz.zeroValue345
  t168 := Tryz.underlying348
  a168 := Tryz.isAgg348
  z168 := Tryz.sizeOf348
  v168 := Tryz.zeroValue348
  t171 := Tryz.underlying327
  a171 := Tryz.isAgg327
  z171 := Tryz.sizeOf327
  v171 := Tryz.zeroValue327
  t173 := Tryz.underlying329
  a173 := Tryz.isAgg329
  z173 := Tryz.sizeOf329
  v173 := Tryz.zeroValue329
  t175 := Tryz.underlying356
  a175 := Tryz.isAgg356
  z175 := Tryz.sizeOf356
  v175 := Tryz.zeroValue356
  t210 := Tryz.underlying359
  a210 := Tryz.isAgg359
  z210 := Tryz.sizeOf359
  v210 := Tryz.zeroValue359
  t212 := Tryz.underlying342
  a212 := Tryz.isAgg342
  z212 := Tryz.sizeOf342
  v212 := Tryz.zeroValue342
  t213 := Tryz.underlying343
  a213 := Tryz.isAgg343
  z213 := Tryz.sizeOf343
  t232 := Tryz.underlying364
  a232 := Tryz.isAgg364
  z232 := Tryz.sizeOf364
  v232 := Tryz.zeroValue364
  t233 := Tryz.underlying326
  a233 := Tryz.isAgg326
  z233 := Tryz.sizeOf326
  v233 := Tryz.zeroValue326
  g15 := by kernel_rfl
  g16 := by kernel_rfl
  g17 := by kernel_rfl
  g18 := by kernel_rfl
  g19 := by kernel_rfl }
open Go.RowKit in
theorem Tryz.strconv_Atoi (s : ByteArray) (n : Int) (hl : s.size ≤ 18) (h : Lib.atoi s.data.toList = some n) (w : World) :
    Calls Tryz.prog 261 #[.string s] w fun e w' => e = .returned (.tuple #[.int .i64 n, .nilIface]) ∧ ∃ t, w' = Lib.bytesWorld w 5 t := Any.strconv_Atoi Tryz.lays172 s n hl h w
def Tryz.laysM316_ren : Go.Shelf.Ren := ⟨fun | 316 => 249 | n => n, fun | 9 => 9 | 3 => 3 | 4 => 4 | 37 => 70 | 0 => 0 | 127 => 142 | 5 => 5 | n => n, fun | n => n⟩
theorem Tryz.laysM316 : Go.Proofs.LaysM.n316 Tryz.prog Tryz.laysM316_ren := {
  mixed := by kernel_rfl
  f316 := Tryz.func249.trans (congrArg some (by kernel_rfl))
  t0 := Tryz.underlying0
  a0 := Tryz.isAgg0
  z0 := Tryz.sizeOf0
  v0 := Tryz.zeroValue0
  t3 := Tryz.underlying3
  a3 := Tryz.isAgg3
  z3 := Tryz.sizeOf3
  v3 := Tryz.zeroValue3
  t4 := Tryz.underlying4
  a4 := Tryz.isAgg4
  z4 := Tryz.sizeOf4
  v4 := Tryz.zeroValue4
  t9 := Tryz.underlying9
  a9 := Tryz.isAgg9
  z9 := Tryz.sizeOf9
  v9 := Tryz.zeroValue9
  t37 := Tryz.underlying70
  a37 := Tryz.isAgg70
  z37 := Tryz.sizeOf70
  v37 := Tryz.zeroValue70
  t127 := Tryz.underlying142
  a127 := Tryz.isAgg142
  z127 := Tryz.sizeOf142
  v127 := Tryz.zeroValue142
  t5 := Tryz.underlying5
  a5 := Tryz.isAgg5
  z5 := Tryz.sizeOf5
  v5 := Tryz.zeroValue5
  i0 := by kernel_rfl
  i3 := by kernel_rfl
  i4 := by kernel_rfl
  i5 := by kernel_rfl
  i9 := by kernel_rfl
  i37 := by kernel_rfl
  i127 := by kernel_rfl }
open Go.RowKit in
theorem Tryz.stringslite_Clone (s : ByteArray) (w : World) (hlim : s.size ≤ 281474976710656) :
    Calls Tryz.prog 249 #[.string s] w fun e w' => e = .returned (.string s) ∧ Below w.heap.size w w' := Any.stringslite_Clone Tryz.laysM316 s w hlim
def Tryz.laysM279_ren : Go.Shelf.Ren := ⟨fun | 279 => 292 | 316 => 249 | n => n, fun | 9 => 9 | 168 => 348 | 75 => 138 | 210 => 359 | 3 => 3 | 4 => 4 | 37 => 70 | 0 => 0 | 127 => 142 | 80 => 76 | 5 => 5 | n => n, fun | 15 => 2 | n => n⟩
theorem Tryz.laysM279 : Go.Proofs.LaysM.n279 Tryz.prog Tryz.laysM279_ren := {
  mixed := by kernel_rfl
  f279 := Tryz.func292.trans (congrArg some (by kernel_rfl))
  f316 := Tryz.func249.trans (congrArg some (by kernel_rfl))
  t0 := Tryz.underlying0
  a0 := Tryz.isAgg0
  z0 := Tryz.sizeOf0
  v0 := Tryz.zeroValue0
  t3 := Tryz.underlying3
  a3 := Tryz.isAgg3
  z3 := Tryz.sizeOf3
  v3 := Tryz.zeroValue3
  t4 := Tryz.underlying4
  a4 := Tryz.isAgg4
  z4 := Tryz.sizeOf4
  v4 := Tryz.zeroValue4
  t9 := Tryz.underlying9
  a9 := Tryz.isAgg9
  z9 := Tryz.sizeOf9
  v9 := Tryz.zeroValue9
  t37 := Tryz.underlying70
  a37 := Tryz.isAgg70
  z37 := Tryz.sizeOf70
  v37 := Tryz.zeroValue70
  t75 := Tryz.underlying138
  a75 := Tryz.isAgg138
  z75 := Tryz.sizeOf138
  v75 := Tryz.zeroValue138
  t127 := Tryz.underlying142
  a127 := Tryz.isAgg142
  z127 := Tryz.sizeOf142
  v127 := Tryz.zeroValue142
  t168 := Tryz.underlying348
  a168 := Tryz.isAgg348
  z168 := Tryz.sizeOf348
  v168 := Tryz.zeroValue348
  t210 := Tryz.underlying359
  a210 := Tryz.isAgg359
  z210 := Tryz.sizeOf359
  v210 := Tryz.zeroValue359
  g15 := by kernel_rfl
  t5 := Tryz.underlying5
  a5 := Tryz.isAgg5
  z5 := Tryz.sizeOf5
  v5 := Tryz.zeroValue5
  t80 := Tryz.underlying76
  a80 := Tryz.isAgg76
  z80 := Tryz.sizeOf76
  v80 := Tryz.zeroValue76
  i0 := by kernel_rfl
  i3 := by kernel_rfl
  i4 := by kernel_rfl
  i5 := by kernel_rfl
  i9 := by kernel_rfl
  i37 := by kernel_rfl
  i75 := by kernel_rfl
  i80 := by kernel_rfl
  i127 := by kernel_rfl
  i168 := by kernel_rfl
  i210 := by kernel_rfl
  m15 := by kernel_rfl }
open Go.RowKit in
theorem Tryz.strconv_syntaxError (fn s : ByteArray) (ev : Value) (w : World) (hlim : s.size ≤ 281474976710656) (hv : w.cell? ⟨2, 0, none⟩ = some ev) (hev : ev = .nilIface ∨ ∃ te pe, ev = .iface te pe) :
    Calls Tryz.prog 292 #[.string fn, .string s] w fun e w' => ∃ N, e = .returned (.pointer (some ⟨N, 0, none⟩)) ∧ w.heap.size ≤ N ∧ w'.heap[N]? = some (.cells #[.string fn, .string s, ev] 359 (0, 0)) ∧ Below w.heap.size w w' := Any.strconv_syntaxError Tryz.laysM279 fn s ev w hlim hv hev
def Tryz.laysC245_ren : Go.Shelf.Ren := ⟨fun | 245 => 276 | 279 => 292 | 280 => 293 | 281 => 294 | 282 => 295 | 316 => 249 | 171 => 185 | 205 => 302 | 243 => 226 | 246 => 257 | 283 => 270 | 284 => 271 | 285 => 272 | 286 => 273 | 129 => 287 | 317 => 286 | 318 => 288 | 319 => 289 | 320 => 290 | 337 => 300 | 338 => 253 | n => n, fun | 9 => 9 | 3 => 3 | 75 => 138 | 167 => 345 | 4 => 4 | 168 => 348 | 210 => 359 | 37 => 70 | 0 => 0 | 127 => 142 | 145 => 368 | 143 => 366 | 2 => 2 | 171 => 327 | 53 => 44 | 5 => 5 | 173 => 329 | 212 => 342 | 51 => 268 | 20 => 20 | 213 => 343 | 46 => 264 | 232 => 364 | 233 => 326 | 80 => 76 | n => n, fun | 15 => 2 | 16 => 3 | 17 => 1 | 18 => 4 | 19 => 0 | n => n⟩
theorem Tryz.laysC245 : Go.Proofs.LaysC.n245 Tryz.prog Tryz.laysC245_ren := {
  mixed := by kernel_rfl
  f129 := Tryz.func287.trans (congrArg some (by kernel_rfl))
  f171 := Tryz.func185.trans (congrArg some (by kernel_rfl))
  f205 := Tryz.func302.trans (congrArg some (by kernel_rfl))
  f243 := Tryz.func226.trans (congrArg some (by kernel_rfl))
  f245 := Tryz.func276.trans (congrArg some (by kernel_rfl))
  f246 := Tryz.func257.trans (congrArg some (by kernel_rfl))
  f279 := Tryz.func292.trans (congrArg some (by kernel_rfl))
  f280 := Tryz.func293.trans (congrArg some (by kernel_rfl))
  f281 := Tryz.func294.trans (congrArg some (by kernel_rfl))
  f282 := Tryz.func295.trans (congrArg some (by kernel_rfl))
  f283 := Tryz.func270.trans (congrArg some (by kernel_rfl))
  f284 := Tryz.func271.trans (congrArg some (by kernel_rfl))
  f285 := Tryz.func272.trans (congrArg some (by kernel_rfl))
  f286 := Tryz.func273.trans (congrArg some (by kernel_rfl))
  f316 := Tryz.func249.trans (congrArg some (by kernel_rfl))
  f317 := Tryz.func286.trans (congrArg some (by kernel_rfl))
  f318 := Tryz.func288.trans (congrArg some (by kernel_rfl))
  f319 := Tryz.func289.trans (congrArg some (by kernel_rfl))
  f320 := Tryz.func290.trans (congrArg some (by kernel_rfl))
  f337 := Tryz.func300.trans (congrArg some (by kernel_rfl))
  f338 := Tryz.func253.trans (congrArg some (by kernel_rfl))
  t0 := Tryz.underlying0
  a0 := Tryz.isAgg0
  z0 := Tryz.sizeOf0
  v0 := Tryz.zeroValue0
  t2 := Tryz.underlying2
  a2 := Tryz.isAgg2
  z2 := Tryz.sizeOf2
  v2 := Tryz.zeroValue2
  t3 := Tryz.underlying3
  a3 := Tryz.isAgg3
  z3 := Tryz.sizeOf3
  v3 := Tryz.zeroValue3
  t4 := Tryz.underlying4
  a4 := Tryz.isAgg4
  z4 := Tryz.sizeOf4
  v4 := Tryz.zeroValue4
  t5 := Tryz.underlying5
  a5 := Tryz.isAgg5
  z5 := Tryz.sizeOf5
  v5 := Tryz.zeroValue5
  t9 := Tryz.underlying9
  a9 := Tryz.isAgg9
  z9 := Tryz.sizeOf9
  v9 := Tryz.zeroValue9
  t20 := Tryz.underlying20
  a20 := Tryz.isAgg20
  z20 := Tryz.sizeOf20
  v20 := Tryz.zeroValue20
  t37 := Tryz.underlying70
  a37 := Tryz.isAgg70
  z37 := Tryz.sizeOf70
  v37 := Tryz.zeroValue70
  t46 := Tryz.underlying264
  a46 := Tryz.isAgg264
  z46 := Tryz.sizeOf264
  v46 := Tryz.zeroValue264
  t51 := Tryz.underlying268
  a51 := Tryz.isAgg268
  z51 := Tryz.sizeOf268
  v51 := Tryz.zeroValue268
  t53 := Tryz.underlying44
  a53 := Tryz.isAgg44
  z53 := Tryz.sizeOf44
  v53 := Tryz.zeroValue44
  t75 := Tryz.underlying138
  a75 := Tryz.isAgg138
  z75 := Tryz.sizeOf138
  v75 := Tryz.zeroValue138
  t127 := Tryz.underlying142
  a127 := Tryz.isAgg142
  z127 := Tryz.sizeOf142
  v127 := Tryz.zeroValue142
  t143 := Tryz.underlying366
  a143 := Tryz.isAgg366
  z143 := Tryz.sizeOf366
  v143 := Tryz.zeroValue366
  t145 := Tryz.underlying368
  a145 := Tryz.isAgg368
  z145 := Tryz.sizeOf368
  v145 := Tryz.zeroValue368
  t167 := Tryz.underlying345
  a167 := Tryz.isAgg345
  z167 := Tryz.sizeOf345
  v167 := Tryz.zeroValue345
  t168 := Tryz.underlying348
  a168 := Tryz.isAgg348
  z168 := Tryz.sizeOf348
  v168 := Tryz.zeroValue348
  t171 := Tryz.underlying327
  a171 := Tryz.isAgg327
  z171 := Tryz.sizeOf327
  v171 := Tryz.zeroValue327
  t173 := Tryz.underlying329
  a173 := Tryz.isAgg329
  z173 := Tryz.sizeOf329
  v173 := Tryz.zeroValue329
  t210 := Tryz.underlying359
  a210 := Tryz.isAgg359
  z210 := Tryz.sizeOf359
  v210 := Tryz.zeroValue359
  t212 := Tryz.underlying342
  a212 := Tryz.isAgg342
  z212 := Tryz.sizeOf342
  v212 := Tryz.zeroValue342
  t213 := Tryz.underlying343
  a213 := Tryz.isAgg343
  z213 := Tryz.sizeOf343
  t232 := Tryz.underlying364
  a232 := Tryz.isAgg364
  z232 := Tryz.sizeOf364
  v232 := Tryz.zeroValue364
  t233 := Tryz.underlying326
  a233 := Tryz.isAgg326
  z233 := Tryz.sizeOf326
  v233 := Tryz.zeroValue326
  g15 := by kernel_rfl
  g16 := by kernel_rfl
  g17 := by kernel_rfl
  g18 := by kernel_rfl
  g19 := by kernel_rfl
  t80 := Tryz.underlying76
  a80 := Tryz.isAgg76
  z80 := Tryz.sizeOf76
  v80 := Tryz.zeroValue76
  i0 := by kernel_rfl
  i2 := by kernel_rfl
  i3 := by kernel_rfl
  i4 := by kernel_rfl
  i5 := by kernel_rfl
  i9 := by kernel_rfl
  i20 := by kernel_rfl
  i37 := by kernel_rfl
  i46 := by kernel_rfl
  i51 := by kernel_rfl
  i53 := by kernel_rfl
  i75 := by kernel_rfl
  i80 := by kernel_rfl
  i127 := by kernel_rfl
  i143 := by kernel_rfl
  i145 := by kernel_rfl
  i167 := by kernel_rfl
  i168 := by kernel_rfl
  i171 := by kernel_rfl
  i173 := by kernel_rfl
  i210 := by kernel_rfl
  i212 := by kernel_rfl
  i232 := by kernel_rfl
  i233 := by kernel_rfl
  m15 := by kernel_rfl
  m16 := by kernel_rfl
  m17 := by kernel_rfl
  m18 := by kernel_rfl
  m19 := by kernel_rfl
  c0 := by kernel_rfl
  c2 := by kernel_rfl
  c3 := by kernel_rfl
  c4 := by kernel_rfl
  c5 := by kernel_rfl
  c9 := by kernel_rfl
  c20 := by kernel_rfl
  c37 := by kernel_rfl
  c46 := by kernel_rfl
  c51 := by kernel_rfl
  c53 := by kernel_rfl
  c75 := by kernel_rfl
  c80 := by kernel_rfl
  c127 := by kernel_rfl
  c143 := by kernel_rfl
  c145 := by kernel_rfl
  c167 := by kernel_rfl
  c168 := by kernel_rfl
  c171 := by kernel_rfl
  c173 := by kernel_rfl
  c210 := by kernel_rfl
  c212 := by kernel_rfl
  c213 := by kernel_rfl
  c232 := by kernel_rfl
  c233 := by kernel_rfl }
open Go.RowKit in
theorem Tryz.strconv_toError_syntax (fn s : ByteArray) (base bits : Int) (ev : Value) (w : World) (hlim : s.size ≤ 281474976710656) (hv : w.cell? ⟨2, 0, none⟩ = some ev) (hev : ev = .nilIface ∨ ∃ te pe, ev = .iface te pe) :
    Calls Tryz.prog 276 #[.string fn, .string s, .int .i64 base, .int .i64 bits, .iface 345 (.int .i64 2)] w fun e w' => ∃ N, e = .returned (.iface 348 (.pointer (some ⟨N, 0, none⟩))) ∧ w.heap.size ≤ N ∧ w'.heap[N]? = some (.cells #[.string fn, .string s, ev] 359 (0, 0)) ∧ Below w.heap.size w w' := Any.strconv_toError_syntax Tryz.laysC245 fn s base bits ev w hlim hv hev
def Tryz.lays206_ren : Go.Shelf.Ren := ⟨fun | 206 => 274 | n => n, fun | 9 => 9 | 4 => 4 | 3 => 3 | n => n, fun | n => n⟩
theorem Tryz.lays206 : Go.Proofs.Lays.n206 Tryz.prog Tryz.lays206_ren := {
  mixed := by kernel_rfl
  f206 := Tryz.func274.trans (congrArg some (by kernel_rfl))
  t3 := Tryz.underlying3
  a3 := Tryz.isAgg3
  z3 := Tryz.sizeOf3
  v3 := Tryz.zeroValue3
  t4 := Tryz.underlying4
  a4 := Tryz.isAgg4
  z4 := Tryz.sizeOf4
  v4 := Tryz.zeroValue4
  t9 := Tryz.underlying9
  a9 := Tryz.isAgg9
  z9 := Tryz.sizeOf9
  v9 := Tryz.zeroValue9 }
open Go.RowKit Go.Lib in
theorem Tryz.stringslite_HasPrefix (s p : ByteArray) (w : World) :
    Calls Tryz.prog 274 #[.string s, .string p] w fun e w' => e = .returned (.bool (Lib.hasPrefix s.data.toList p.data.toList)) ∧ w' = w := Any.stringslite_HasPrefix Tryz.lays206 s p w
def Tryz.lays99_ren : Go.Shelf.Ren := ⟨fun | 99 => 259 | 206 => 274 | n => n, fun | 9 => 9 | 4 => 4 | 3 => 3 | n => n, fun | n => n⟩
theorem Tryz.lays99 : Go.Proofs.Lays.n99 Tryz.prog Tryz.lays99_ren := {
  mixed := by kernel_rfl
  f99 := Tryz.func259.trans (congrArg some (by kernel_rfl))
  f206 := Tryz.func274.trans (congrArg some (by kernel_rfl))
  t3 := Tryz.underlying3
  a3 := Tryz.isAgg3
  z3 := Tryz.sizeOf3
  v3 := Tryz.zeroValue3
  t4 := Tryz.underlying4
  a4 := Tryz.isAgg4
  z4 := Tryz.sizeOf4
  v4 := Tryz.zeroValue4
  t9 := Tryz.underlying9
  a9 := Tryz.isAgg9
  z9 := Tryz.sizeOf9
  v9 := Tryz.zeroValue9 }
open Go.RowKit Go.Lib in
theorem Tryz.strings_HasPrefix (s p : ByteArray) (w : World) :
    Calls Tryz.prog 259 #[.string s, .string p] w fun e w' => e = .returned (.bool (Lib.hasPrefix s.data.toList p.data.toList)) ∧ w' = w := Any.strings_HasPrefix Tryz.lays99 s p w
end Go.Proofs
namespace Go.Proofs.YtfghfnpiaccfaaaGreatDoor
open Go Go.Proofs Go.RowKit
theorem toErr (fn s : ByteArray) (base bits : Int) (ev : Value) (w : World) (hlim : s.size ≤ 281474976710656) (hv : w.cell? ⟨2, 0, none⟩ = some ev) (hev : ev = .nilIface ∨ ∃ te pe, ev = .iface te pe) :
    Calls Tryz.prog 276 #[.string fn, .string s, .int .i64 base, .int .i64 bits, .iface 345 (.int .i64 2)] w fun e w' => ∃ N, e = .returned (.iface 348 (.pointer (some ⟨N, 0, none⟩))) ∧ w.heap.size ≤ N ∧ w'.heap[N]? = some (.cells #[.string fn, .string s, ev] 359 (0, 0)) ∧ Below w.heap.size w w' := Tryz.strconv_toError_syntax fn s base bits ev w hlim hv hev
theorem liteClone_any (s : ByteArray) (hs : s.size ≤ 281474976710656) (w : World) : Calls Tryz.prog 249 #[.string s] w fun e w' => e = .returned (.string s) ∧ Below w.heap.size w w' := Tryz.stringslite_Clone s w hs
theorem clone_any (s : ByteArray) (hs : s.size ≤ 281474976710656) (w : World) : Calls Tryz.prog 221 #[.string s] w fun e w' => e = .returned (.string s) ∧ Below w.heap.size w w' := by
  have C := Lib.hid (fun w => liteClone_any s hs w)
  clear hs
  go_enter Tryz.func221, Tryz.ntmps221
  go_wp2_with (go_at_call 249; refine (C.out _).mono ?_; rintro e w1 ⟨rfl, hb⟩; have HB := Lib.hid hb; clear hb)
  go_ret
  exact ⟨rfl, HB.out⟩
/-- Whether a text begins with another. -/
def isPre : List Nat → List Nat → Bool
  | [], _ => true
  | _ :: _, [] => false
  | a :: p, b :: l => a == b && isPre p l
theorem isPre_u8 : ∀ (p l : List UInt8), p.isPrefixOf l = isPre (p.map UInt8.toNat) (l.map UInt8.toNat)
  | [], l => by cases l <;> rfl
  | a :: p, [] => rfl
  | a :: p, b :: l => by
    simp only [List.isPrefixOf, List.map_cons, isPre, isPre_u8 p l]
    congr 1
    rw [Bool.eq_iff_iff]
    simp [UInt8.toNat_inj]
theorem hasPre_any (s p : ByteArray) (l m : List Nat) (hs : Str s l) (hp : Str p m) (w : World) : Calls Tryz.prog 259 #[.string s, .string p] w fun e w' => e = .returned (.bool (isPre m l)) ∧ w = w' :=
  (Tryz.strings_HasPrefix s p w).mono fun e w' ⟨he, hw⟩ => ⟨by rw [he, show Lib.hasPrefix s.data.toList p.data.toList = isPre m l from (isPre_u8 _ _).trans (by rw [show p.data.toList.map UInt8.toNat = m from hp, show s.data.toList.map UInt8.toNat = l from hs])], hw.symm⟩
end Go.Proofs.YtfghfnpiaccfaaaGreatDoor
namespace Go.Proofs.YtfghfnpiaccfaaaGreatDoor
open Go Go.RowKit Go.Maps
/-- The library's error variable holds an error, or none. -/
def Tab (w : World) : Prop := ∃ ev, w.cell? ⟨2, 0, none⟩ = some ev ∧ (ev = .nilIface ∨ ∃ te pe, ev = .iface te pe)
theorem Tab.below {w w' : World} (h : Tab w) (hb : Below w.heap.size w w') : Tab w' := by
  obtain ⟨ev, h1, h2⟩ := h
  exact ⟨ev, (hb.cell (p := ⟨2, 0, none⟩) (World.block_lt_of_cell? _ _ h1)).trans h1, h2⟩
theorem Tab.pos {w : World} (h : Tab w) : 2 < w.heap.size := by obtain ⟨ev, h1, _⟩ := h; exact World.block_lt_of_cell? _ _ h1
theorem Tab.drewN {w : World} {n : Nat} (h : Tab w) : Tab (w.drewN n) := h
set_option maxHeartbeats 1000000 in
theorem parse_some (a b x y : Nat) (ha : a < 256) (hb : b < 256) (hx : dg a = some x) (hy : dg b = some y) (w : World) :
    Calls Tryz.prog 305 #[.string (bsv [a, b]), .int .i64 16, .int .i64 8] w fun e w' => e = .returned (.tuple #[.int .u64 (16 * x + y : Nat), .nilIface]) ∧ Below w.heap.size w w' := by
  have P := fun w => pu_any a b ha hb w
  rw [puE_some hx hy] at P
  generalize bsv [a, b] = S at P
  obtain ⟨v, ev⟩ : ∃ v : Int, v = (16 * x + y : Nat) := ⟨_, rfl⟩
  rw [← ev] at P ⊢
  have PH := Lib.hid P
  clear P hx hy ha hb ev
  go_enter Tryz.func305, Tryz.ntmps305
  go_wp2_with (go_at_call 301; refine (PH.out _).mono ?_; rintro e w1 ⟨rfl, hb⟩; have HB := Lib.hid hb; clear hb)
  go_ret2
  exact ⟨rfl, HB.out⟩
set_option maxHeartbeats 1000000 in
theorem parse_none (a b : Nat) (ha : a < 256) (hb : b < 256) (h : dg a = none ∨ dg b = none) (w : World) (hT : Tab w) :
    Calls Tryz.prog 305 #[.string (bsv [a, b]), .int .i64 16, .int .i64 8] w fun e w' => ∃ N : Nat, e = .returned (.tuple #[.int .u64 0, .iface 348 (.pointer (some ⟨N, 0, none⟩))]) ∧ Below w.heap.size w w' := by
  have P := fun w => pu_any a b ha hb w
  rw [show puE a b = .returned (.tuple #[.int .u64 0, .iface 345 (.int .i64 2)]) by rcases h with h | h; exact puE_none1 h; exact puE_none2 h] at P
  have hsz : (bsv [a, b]).size ≤ 281474976710656 := by rw [show (bsv [a, b]).size = 2 from rfl]; omega
  generalize bsv [a, b] = S at P hsz
  have PH := Lib.hid P
  have HZ := Lib.hid hsz
  have HT := Lib.hid hT
  clear P hsz hT h ha hb
  go_enter Tryz.func305, Tryz.ntmps305
  go_wp2_with (go_at_call 301; refine (PH.out _).mono ?_; rintro e w1 ⟨rfl, hb⟩; have HB := Lib.hid hb; clear hb)
  obtain ⟨ev, hv1, hv2⟩ := HT.out.below HB.out
  have HV1 := Lib.hid hv1
  have HV2 := Lib.hid hv2
  clear hv1 hv2
  go_wp2_with (go_at_call 276; refine (toErr _ _ _ _ _ _ HZ.out HV1.out HV2.out).mono ?_; rintro e w2 ⟨N, rfl, _, _, hb2⟩; have HB2 := Lib.hid hb2; clear hb2)
  go_ret2
  exact ⟨N, rfl, bb HB.out HB2.out⟩
end Go.Proofs.YtfghfnpiaccfaaaGreatDoor

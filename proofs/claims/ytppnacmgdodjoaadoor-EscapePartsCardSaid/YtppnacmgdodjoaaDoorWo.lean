/- Contract of the document's Read. -/
import Derived.Test.YtppnacmgdodjoaaDoorWm
namespace Go.Proofs.YtppnacmgdodjoaaDoor
open Go Go.RowKit Go.Maps
theorem RE_none {p a : Int} {r : List Nat} (h : rd p r = none) : RE p a r = .returned (.tuple #[.int .u8 0, .int .i64 0, .bool false]) := by simp only [RE, h]
theorem RE_some {p a : Int} {r : List Nat} {x n : Nat} (h : rd p r = some (x, n)) : RE p a r = .returned (.tuple #[.int .u8 x, .int .i64 (a + n), .bool true]) := by simp only [RE, h]
set_option maxRecDepth 100000 in
set_option maxHeartbeats 1000000 in
theorem rread_place (s : ByteArray) (a p : Int) (hk : kn p = false) (w : World) :
    Calls Tryd.prog 21 #[.int .i64 p, .string s, .int .i64 a] w fun e w' => e = .returned (.tuple #[.int .u8 0, .int .i64 0, .bool false]) ∧ w = w' := by
  go_enter Tryd.func21, Tryd.ntmps21
  go_wp2_with (go_at_call 26; refine (is_any p _).mono ?_; rintro e w1 ⟨rfl, rfl⟩)
  go_ret3
  exact ⟨rfl, rfl⟩
set_option maxRecDepth 100000 in
set_option maxHeartbeats 1000000 in
theorem rread_out (s : ByteArray) (a p : Int) (hk : kn p = true) (h : a < 0 ∨ (s.size : Int) ≤ a) (w : World) :
    Calls Tryd.prog 21 #[.int .i64 p, .string s, .int .i64 a] w fun e w' => e = .returned (.tuple #[.int .u8 0, .int .i64 0, .bool false]) ∧ w = w' := by
  by_cases h0 : a < 0
  · clear h
    go_enter Tryd.func21, Tryd.ntmps21
    go_wp2_with (go_at_call 26; refine (is_any p _).mono ?_; rintro e w1 ⟨rfl, rfl⟩)
    go_ret3
    exact ⟨rfl, rfl⟩
  · have h1 : (s.size : Int) ≤ a := by omega
    have h2 : 0 ≤ a := by omega
    clear h h0
    go_enter Tryd.func21, Tryd.ntmps21
    go_wp2_with (go_at_call 26; refine (is_any p _).mono ?_; rintro e w1 ⟨rfl, rfl⟩)
    go_ret3
    exact ⟨rfl, rfl⟩
theorem Str.atI {s : ByteArray} {l : List Nat} (hs : Str s l) (K : Int) (j : Nat) (e : K = j) : ∀ h, (s[K.toNat]'h).toNat = l.getD j 0 := by
  subst e
  intro h
  exact hs.at_ _ h
theorem drop_cons {l : List Nat} {k : Nat} (h : k < l.length) : l.drop k = l.getD k 0 :: l.drop (k + 1) := by
  rw [List.drop_eq_getElem_cons h]
  simp [List.getD, List.getElem?_eq_getElem h]
set_option maxRecDepth 100000 in
set_option maxHeartbeats 1000000 in
theorem rr_plain (s : ByteArray) (p K : Int) (c : Nat) (hk : kn p = true) (p0 : 0 ≤ K) (b0 : K < s.size) (x0 : ∀ h, (s[K.toNat]'h).toNat = c) (K1 : Int) (u1 : IntKind.i64.wrap (K + 1) = K1) (hp : pl p c = true) (w : World) :
    Calls Tryd.prog 21 #[.int .i64 p, .string s, .int .i64 K] w fun e w' => e = .returned (.tuple #[.int .u8 c, .int .i64 K1, .bool true]) ∧ ∃ n, w' = w.drewN n := by
  have b0' : ¬ (s.size : Int) ≤ K := by omega
  go_enter Tryd.func21, Tryd.ntmps21
  go_wp2_with (first | (go_at_call 26; refine (is_any p _).mono ?_; rintro e w1 ⟨rfl, rfl⟩) | (go_at_call 27; refine (special_any p c _).mono ?_; rintro e w1 ⟨rfl, rfl⟩))
  go_ret3
  exact ⟨rfl, 0, rfl⟩
set_option maxRecDepth 100000 in
set_option maxHeartbeats 1000000 in
theorem rr_other (s : ByteArray) (p K : Int) (c : Nat) (hk : kn p = true) (p0 : 0 ≤ K) (b0 : K < s.size) (x0 : ∀ h, (s[K.toNat]'h).toNat = c) (hp : pl p c = false) (h92 : c ≠ 92) (w : World) :
    Calls Tryd.prog 21 #[.int .i64 p, .string s, .int .i64 K] w fun e w' => e = .returned (.tuple #[.int .u8 0, .int .i64 0, .bool false]) ∧ ∃ n, w' = w.drewN n := by
  have b0' : ¬ (s.size : Int) ≤ K := by omega
  have g1 : ((c : Int) == 92) = false := by simp; omega
  have g2 : ((c : Int) != 92) = true := by simp; omega
  clear h92
  go_enter Tryd.func21, Tryd.ntmps21
  go_wp2_with (first | (go_at_call 26; refine (is_any p _).mono ?_; rintro e w1 ⟨rfl, rfl⟩) | (go_at_call 27; refine (special_any p c _).mono ?_; rintro e w1 ⟨rfl, rfl⟩))
  go_ret3
  exact ⟨rfl, 0, rfl⟩
set_option maxRecDepth 100000 in
set_option maxHeartbeats 1000000 in
theorem rr_cut (s : ByteArray) (p K : Int) (hk : kn p = true) (hp : pl p 92 = false) (p0 : 0 ≤ K) (b0 : K < s.size) (x0 : ∀ h, (s[K.toNat]'h).toNat = 92) (K1 : Int) (u1 : IntKind.i64.wrap (K + 1) = K1) (h1 : (s.size : Int) ≤ K1) (w : World) :
    Calls Tryd.prog 21 #[.int .i64 p, .string s, .int .i64 K] w fun e w' => e = .returned (.tuple #[.int .u8 0, .int .i64 0, .bool false]) ∧ ∃ n, w' = w.drewN n := by
  have b0' : ¬ (s.size : Int) ≤ K := by omega
  go_enter Tryd.func21, Tryd.ntmps21
  go_wp2_with (first | (go_at_call 26; refine (is_any p _).mono ?_; rintro e w1 ⟨rfl, rfl⟩) | (go_at_call 27; refine (special_any p 92 _).mono ?_; rintro e w1 ⟨rfl, rfl⟩))
  go_ret3
  exact ⟨rfl, 0, rfl⟩
set_option maxRecDepth 100000 in
set_option maxHeartbeats 1000000 in
theorem rr_n (s : ByteArray) (p K : Int) (hk : kn p = true) (hp : pl p 92 = false) (p0 : 0 ≤ K) (b0 : K < s.size) (x0 : ∀ h, (s[K.toNat]'h).toNat = 92) (K1 K2 : Int) (u1 : IntKind.i64.wrap (K + 1) = K1) (u2 : IntKind.i64.wrap (K + 2) = K2) (p1 : 0 ≤ K1) (b1 : K1 < s.size) (x1 : ∀ h, (s[K1.toNat]'h).toNat = 110) (w : World) :
    Calls Tryd.prog 21 #[.int .i64 p, .string s, .int .i64 K] w fun e w' => e = .returned (.tuple #[.int .u8 10, .int .i64 K2, .bool true]) ∧ ∃ n, w' = w.drewN n := by
  have b0' : ¬ (s.size : Int) ≤ K := by omega
  have b1' : ¬ (s.size : Int) ≤ K1 := by omega
  go_enter Tryd.func21, Tryd.ntmps21
  go_wp2_with (first | (go_at_call 26; refine (is_any p _).mono ?_; rintro e w1 ⟨rfl, rfl⟩) | (go_at_call 27; refine (special_any p 92 _).mono ?_; rintro e w1 ⟨rfl, rfl⟩))
  go_ret3
  exact ⟨rfl, 0, rfl⟩
set_option maxRecDepth 100000 in
set_option maxHeartbeats 1000000 in
theorem rr_r (s : ByteArray) (p K : Int) (hk : kn p = true) (hp : pl p 92 = false) (p0 : 0 ≤ K) (b0 : K < s.size) (x0 : ∀ h, (s[K.toNat]'h).toNat = 92) (K1 K2 : Int) (u1 : IntKind.i64.wrap (K + 1) = K1) (u2 : IntKind.i64.wrap (K + 2) = K2) (p1 : 0 ≤ K1) (b1 : K1 < s.size) (x1 : ∀ h, (s[K1.toNat]'h).toNat = 114) (w : World) :
    Calls Tryd.prog 21 #[.int .i64 p, .string s, .int .i64 K] w fun e w' => e = .returned (.tuple #[.int .u8 13, .int .i64 K2, .bool true]) ∧ ∃ n, w' = w.drewN n := by
  have b0' : ¬ (s.size : Int) ≤ K := by omega
  have b1' : ¬ (s.size : Int) ≤ K1 := by omega
  go_enter Tryd.func21, Tryd.ntmps21
  go_wp2_with (first | (go_at_call 26; refine (is_any p _).mono ?_; rintro e w1 ⟨rfl, rfl⟩) | (go_at_call 27; refine (special_any p 92 _).mono ?_; rintro e w1 ⟨rfl, rfl⟩))
  go_ret3
  exact ⟨rfl, 0, rfl⟩
set_option maxRecDepth 100000 in
set_option maxHeartbeats 1000000 in
theorem rr_t (s : ByteArray) (p K : Int) (hk : kn p = true) (hp : pl p 92 = false) (p0 : 0 ≤ K) (b0 : K < s.size) (x0 : ∀ h, (s[K.toNat]'h).toNat = 92) (K1 K2 : Int) (u1 : IntKind.i64.wrap (K + 1) = K1) (u2 : IntKind.i64.wrap (K + 2) = K2) (p1 : 0 ≤ K1) (b1 : K1 < s.size) (x1 : ∀ h, (s[K1.toNat]'h).toNat = 116) (w : World) :
    Calls Tryd.prog 21 #[.int .i64 p, .string s, .int .i64 K] w fun e w' => e = .returned (.tuple #[.int .u8 9, .int .i64 K2, .bool true]) ∧ ∃ n, w' = w.drewN n := by
  have b0' : ¬ (s.size : Int) ≤ K := by omega
  have b1' : ¬ (s.size : Int) ≤ K1 := by omega
  go_enter Tryd.func21, Tryd.ntmps21
  go_wp2_with (first | (go_at_call 26; refine (is_any p _).mono ?_; rintro e w1 ⟨rfl, rfl⟩) | (go_at_call 27; refine (special_any p 92 _).mono ?_; rintro e w1 ⟨rfl, rfl⟩))
  go_ret3
  exact ⟨rfl, 0, rfl⟩
set_option maxRecDepth 100000 in
set_option maxHeartbeats 1000000 in
theorem rr_92 (s : ByteArray) (p K : Int) (hk : kn p = true) (hp : pl p 92 = false) (p0 : 0 ≤ K) (b0 : K < s.size) (x0 : ∀ h, (s[K.toNat]'h).toNat = 92) (K1 K2 : Int) (u1 : IntKind.i64.wrap (K + 1) = K1) (u2 : IntKind.i64.wrap (K + 2) = K2) (p1 : 0 ≤ K1) (b1 : K1 < s.size) (x1 : ∀ h, (s[K1.toNat]'h).toNat = 92) (w : World) :
    Calls Tryd.prog 21 #[.int .i64 p, .string s, .int .i64 K] w fun e w' => e = .returned (.tuple #[.int .u8 92, .int .i64 K2, .bool true]) ∧ ∃ n, w' = w.drewN n := by
  have b0' : ¬ (s.size : Int) ≤ K := by omega
  have b1' : ¬ (s.size : Int) ≤ K1 := by omega
  go_enter Tryd.func21, Tryd.ntmps21
  go_wp2_with (first | (go_at_call 26; refine (is_any p _).mono ?_; rintro e w1 ⟨rfl, rfl⟩) | (go_at_call 27; refine (special_any p 92 _).mono ?_; rintro e w1 ⟨rfl, rfl⟩))
  go_ret3
  exact ⟨rfl, 0, rfl⟩
set_option maxRecDepth 100000 in
set_option maxHeartbeats 1000000 in
theorem rr_34 (s : ByteArray) (p K : Int) (hk : kn p = true) (hp : pl p 92 = false) (p0 : 0 ≤ K) (b0 : K < s.size) (x0 : ∀ h, (s[K.toNat]'h).toNat = 92) (K1 K2 : Int) (u1 : IntKind.i64.wrap (K + 1) = K1) (u2 : IntKind.i64.wrap (K + 2) = K2) (p1 : 0 ≤ K1) (b1 : K1 < s.size) (x1 : ∀ h, (s[K1.toNat]'h).toNat = 34) (w : World) :
    Calls Tryd.prog 21 #[.int .i64 p, .string s, .int .i64 K] w fun e w' => e = .returned (.tuple #[.int .u8 34, .int .i64 K2, .bool true]) ∧ ∃ n, w' = w.drewN n := by
  have b0' : ¬ (s.size : Int) ≤ K := by omega
  have b1' : ¬ (s.size : Int) ≤ K1 := by omega
  go_enter Tryd.func21, Tryd.ntmps21
  go_wp2_with (first | (go_at_call 26; refine (is_any p _).mono ?_; rintro e w1 ⟨rfl, rfl⟩) | (go_at_call 27; refine (special_any p 92 _).mono ?_; rintro e w1 ⟨rfl, rfl⟩))
  go_ret3
  exact ⟨rfl, 0, rfl⟩
set_option maxRecDepth 100000 in
set_option maxHeartbeats 1000000 in
theorem rr_93 (s : ByteArray) (p K : Int) (hk : kn p = true) (hp : pl p 92 = false) (p0 : 0 ≤ K) (b0 : K < s.size) (x0 : ∀ h, (s[K.toNat]'h).toNat = 92) (K1 K2 : Int) (u1 : IntKind.i64.wrap (K + 1) = K1) (u2 : IntKind.i64.wrap (K + 2) = K2) (p1 : 0 ≤ K1) (b1 : K1 < s.size) (x1 : ∀ h, (s[K1.toNat]'h).toNat = 93) (w : World) :
    Calls Tryd.prog 21 #[.int .i64 p, .string s, .int .i64 K] w fun e w' => e = .returned (.tuple #[.int .u8 93, .int .i64 K2, .bool true]) ∧ ∃ n, w' = w.drewN n := by
  have b0' : ¬ (s.size : Int) ≤ K := by omega
  have b1' : ¬ (s.size : Int) ≤ K1 := by omega
  go_enter Tryd.func21, Tryd.ntmps21
  go_wp2_with (first | (go_at_call 26; refine (is_any p _).mono ?_; rintro e w1 ⟨rfl, rfl⟩) | (go_at_call 27; refine (special_any p 92 _).mono ?_; rintro e w1 ⟨rfl, rfl⟩))
  go_ret3
  exact ⟨rfl, 0, rfl⟩
set_option maxRecDepth 100000 in
set_option maxHeartbeats 1000000 in
theorem rr_45 (s : ByteArray) (p K : Int) (hk : kn p = true) (hp : pl p 92 = false) (p0 : 0 ≤ K) (b0 : K < s.size) (x0 : ∀ h, (s[K.toNat]'h).toNat = 92) (K1 K2 : Int) (u1 : IntKind.i64.wrap (K + 1) = K1) (u2 : IntKind.i64.wrap (K + 2) = K2) (p1 : 0 ≤ K1) (b1 : K1 < s.size) (x1 : ∀ h, (s[K1.toNat]'h).toNat = 45) (w : World) :
    Calls Tryd.prog 21 #[.int .i64 p, .string s, .int .i64 K] w fun e w' => e = .returned (.tuple #[.int .u8 45, .int .i64 K2, .bool true]) ∧ ∃ n, w' = w.drewN n := by
  have b0' : ¬ (s.size : Int) ≤ K := by omega
  have b1' : ¬ (s.size : Int) ≤ K1 := by omega
  go_enter Tryd.func21, Tryd.ntmps21
  go_wp2_with (first | (go_at_call 26; refine (is_any p _).mono ?_; rintro e w1 ⟨rfl, rfl⟩) | (go_at_call 27; refine (special_any p 92 _).mono ?_; rintro e w1 ⟨rfl, rfl⟩))
  go_ret3
  exact ⟨rfl, 0, rfl⟩
set_option maxRecDepth 100000 in
set_option maxHeartbeats 1000000 in
theorem rr_no (s : ByteArray) (p K : Int) (hk : kn p = true) (hp : pl p 92 = false) (p0 : 0 ≤ K) (b0 : K < s.size) (x0 : ∀ h, (s[K.toNat]'h).toNat = 92) (K1 K2 : Int) (u1 : IntKind.i64.wrap (K + 1) = K1) (_ : IntKind.i64.wrap (K + 2) = K2) (p1 : 0 ≤ K1) (b1 : K1 < s.size) (q : Nat) (x1 : ∀ h, (s[K1.toNat]'h).toNat = q) (hq : q ≠ 110 ∧ q ≠ 114 ∧ q ≠ 116 ∧ q ≠ 92 ∧ q ≠ 34 ∧ q ≠ 93 ∧ q ≠ 45 ∧ q ≠ 120) (w : World) :
    Calls Tryd.prog 21 #[.int .i64 p, .string s, .int .i64 K] w fun e w' => e = .returned (.tuple #[.int .u8 0, .int .i64 0, .bool false]) ∧ ∃ n, w' = w.drewN n := by
  have b0' : ¬ (s.size : Int) ≤ K := by omega
  have b1' : ¬ (s.size : Int) ≤ K1 := by omega
  have n110 : ((q : Int) == 110) = false := by simp; omega
  have n114 : ((q : Int) == 114) = false := by simp; omega
  have n116 : ((q : Int) == 116) = false := by simp; omega
  have n92 : ((q : Int) == 92) = false := by simp; omega
  have n34 : ((q : Int) == 34) = false := by simp; omega
  have n93 : ((q : Int) == 93) = false := by simp; omega
  have n45 : ((q : Int) == 45) = false := by simp; omega
  have n120 : ((q : Int) == 120) = false := by simp; omega
  clear hq
  go_enter Tryd.func21, Tryd.ntmps21
  go_wp2_with (first | (go_at_call 26; refine (is_any p _).mono ?_; rintro e w1 ⟨rfl, rfl⟩) | (go_at_call 27; refine (special_any p 92 _).mono ?_; rintro e w1 ⟨rfl, rfl⟩))
  go_ret3
  exact ⟨rfl, 0, rfl⟩
set_option maxRecDepth 100000 in
set_option maxHeartbeats 1000000 in
theorem rr_xcut (s : ByteArray) (p K : Int) (hk : kn p = true) (hp : pl p 92 = false) (p0 : 0 ≤ K) (b0 : K < s.size) (x0 : ∀ h, (s[K.toNat]'h).toNat = 92) (K1 K2 : Int) (u1 : IntKind.i64.wrap (K + 1) = K1) (_ : IntKind.i64.wrap (K + 2) = K2) (p1 : 0 ≤ K1) (b1 : K1 < s.size) (x1 : ∀ h, (s[K1.toNat]'h).toNat = 120) (K3 : Int) (u3 : IntKind.i64.wrap (K + 3) = K3) (h3 : (s.size : Int) ≤ K3) (w : World) :
    Calls Tryd.prog 21 #[.int .i64 p, .string s, .int .i64 K] w fun e w' => e = .returned (.tuple #[.int .u8 0, .int .i64 0, .bool false]) ∧ ∃ n, w' = w.drewN n := by
  have b0' : ¬ (s.size : Int) ≤ K := by omega
  have b1' : ¬ (s.size : Int) ≤ K1 := by omega
  go_enter Tryd.func21, Tryd.ntmps21
  go_wp2_with (first | (go_at_call 26; refine (is_any p _).mono ?_; rintro e w1 ⟨rfl, rfl⟩) | (go_at_call 27; refine (special_any p 92 _).mono ?_; rintro e w1 ⟨rfl, rfl⟩))
  go_ret3
  exact ⟨rfl, 0, rfl⟩
set_option maxRecDepth 100000 in
set_option maxHeartbeats 1000000 in
theorem rr_x1 (s : ByteArray) (p K : Int) (hk : kn p = true) (hp : pl p 92 = false) (p0 : 0 ≤ K) (b0 : K < s.size) (x0 : ∀ h, (s[K.toNat]'h).toNat = 92) (K1 K2 : Int) (u1 : IntKind.i64.wrap (K + 1) = K1) (u2 : IntKind.i64.wrap (K + 2) = K2) (p1 : 0 ≤ K1) (b1 : K1 < s.size) (x1 : ∀ h, (s[K1.toNat]'h).toNat = 120) (K3 : Int) (u3 : IntKind.i64.wrap (K + 3) = K3) (b3 : K3 < s.size) (p2 : 0 ≤ K2) (_ : 0 ≤ K3) (b2 : K2 < s.size) (d1 : Nat) (x2 : ∀ h, (s[K2.toNat]'h).toNat = d1) (hd1 : dg d1 = none) (w : World) :
    Calls Tryd.prog 21 #[.int .i64 p, .string s, .int .i64 K] w fun e w' => e = .returned (.tuple #[.int .u8 0, .int .i64 0, .bool false]) ∧ ∃ n, w' = w.drewN n := by
  have b0' : ¬ (s.size : Int) ≤ K := by omega
  have b1' : ¬ (s.size : Int) ≤ K1 := by omega
  have D1 := Lib.hid (fun w => digit_any d1 w)
  rw [show dv d1 = -1 by simp [dv, hd1]] at D1
  clear hd1
  go_enter Tryd.func21, Tryd.ntmps21
  go_wp2_with (first | (go_at_call 26; refine (is_any p _).mono ?_; rintro e w1 ⟨rfl, rfl⟩) | (go_at_call 27; refine (special_any p 92 _).mono ?_; rintro e w1 ⟨rfl, rfl⟩) | (go_at_call 33; refine (D1.out _).mono ?_; rintro e w1 ⟨rfl, rfl⟩))
  go_ret3
  exact ⟨rfl, 0, rfl⟩
set_option maxRecDepth 100000 in
set_option maxHeartbeats 1000000 in
theorem rr_x2 (s : ByteArray) (p K : Int) (hk : kn p = true) (hp : pl p 92 = false) (p0 : 0 ≤ K) (b0 : K < s.size) (x0 : ∀ h, (s[K.toNat]'h).toNat = 92) (K1 K2 : Int) (u1 : IntKind.i64.wrap (K + 1) = K1) (u2 : IntKind.i64.wrap (K + 2) = K2) (p1 : 0 ≤ K1) (b1 : K1 < s.size) (x1 : ∀ h, (s[K1.toNat]'h).toNat = 120) (K3 : Int) (u3 : IntKind.i64.wrap (K + 3) = K3) (b3 : K3 < s.size) (p2 : 0 ≤ K2) (p3 : 0 ≤ K3) (b2 : K2 < s.size) (d1 : Nat) (x2 : ∀ h, (s[K2.toNat]'h).toNat = d1) (d2 : Nat) (x3 : ∀ h, (s[K3.toNat]'h).toNat = d2) (X : Int) (hX : 0 ≤ X) (hd1 : dv d1 = X) (hd2 : dg d2 = none) (w : World) :
    Calls Tryd.prog 21 #[.int .i64 p, .string s, .int .i64 K] w fun e w' => e = .returned (.tuple #[.int .u8 0, .int .i64 0, .bool false]) ∧ ∃ n, w' = w.drewN n := by
  have b0' : ¬ (s.size : Int) ≤ K := by omega
  have b1' : ¬ (s.size : Int) ≤ K1 := by omega
  have hd3 : dv d2 = -1 := by simp [dv, hd2]
  clear hd2
  go_enter Tryd.func21, Tryd.ntmps21
  go_wp2_with (first | (go_at_call 26; refine (is_any p _).mono ?_; rintro e w1 ⟨rfl, rfl⟩) | (go_at_call 27; refine (special_any p 92 _).mono ?_; rintro e w1 ⟨rfl, rfl⟩) | (go_at_call 33; refine (digit_any _ _).mono ?_; rintro e w1 ⟨rfl, rfl⟩))
  go_ret3
  exact ⟨rfl, 0, rfl⟩
set_option maxRecDepth 100000 in
set_option maxHeartbeats 1000000 in
theorem rr_x3 (s : ByteArray) (p K : Int) (hk : kn p = true) (hp : pl p 92 = false) (p0 : 0 ≤ K) (b0 : K < s.size) (x0 : ∀ h, (s[K.toNat]'h).toNat = 92) (K1 K2 : Int) (u1 : IntKind.i64.wrap (K + 1) = K1) (u2 : IntKind.i64.wrap (K + 2) = K2) (p1 : 0 ≤ K1) (b1 : K1 < s.size) (x1 : ∀ h, (s[K1.toNat]'h).toNat = 120) (K3 : Int) (u3 : IntKind.i64.wrap (K + 3) = K3) (b3 : K3 < s.size) (p2 : 0 ≤ K2) (p3 : 0 ≤ K3) (b2 : K2 < s.size) (d1 : Nat) (x2 : ∀ h, (s[K2.toNat]'h).toNat = d1) (d2 : Nat) (x3 : ∀ h, (s[K3.toNat]'h).toNat = d2) (K4 : Int) (u4 : IntKind.i64.wrap (K + 4) = K4) (X Y M N : Int) (hX : 0 ≤ X) (hY : 0 ≤ Y) (hM : IntKind.i64.wrap (16 * X) = M) (hN : IntKind.i64.wrap (M + Y) = N) (hN8 : IntKind.u8.wrap N = N) (hd1 : dv d1 = X) (hd2 : dv d2 = Y) (w : World) :
    Calls Tryd.prog 21 #[.int .i64 p, .string s, .int .i64 K] w fun e w' => e = .returned (.tuple #[.int .u8 N, .int .i64 K4, .bool true]) ∧ ∃ n, w' = w.drewN n := by
  have b0' : ¬ (s.size : Int) ≤ K := by omega
  have b1' : ¬ (s.size : Int) ≤ K1 := by omega
  go_enter Tryd.func21, Tryd.ntmps21
  go_wp2_with (first | (go_at_call 26; refine (is_any p _).mono ?_; rintro e w1 ⟨rfl, rfl⟩) | (go_at_call 27; refine (special_any p 92 _).mono ?_; rintro e w1 ⟨rfl, rfl⟩) | (go_at_call 33; refine (digit_any _ _).mono ?_; rintro e w1 ⟨rfl, rfl⟩))
  go_quiet ((go_at_call 33; exact (digit_any _ _).mono fun _ _ ⟨he, hm⟩ => ⟨he, _, hm.symm⟩))
  go_wp2_with fail
  go_ret3
  exact ⟨rfl, _, rfl⟩
end Go.Proofs.YtppnacmgdodjoaaDoor

/- The law EscapeTells, walked. -/
import Derived.Test.YtppnacmgdodjoaaDoorWt
import Derived.Test.YtppnacmgdodjoaaDoorKd
namespace Go.Proofs.YtppnacmgdodjoaaDoor
open Go Go.RowKit Go.Maps
theorem Lent.txt {w : World} {g : Nat} {l : List Nat} (h : Lent w g l) (hl : ∀ x ∈ l, x < 256) : Txt w (some ⟨g, 0, none⟩) l :=
  ⟨hl, fun _ => ⟨g, 0, rfl, h.1, fun i hi => by rw [Nat.zero_add, h.2 i (by omega), lent_text hi]⟩⟩
set_option maxHeartbeats 1000000 in
theorem tells_long (p a : Int) (A : Option Addr) (n c : Nat) (s : ByteArray) (h : 1000 < n + s.size) (hn : n ≤ 140737488351232) (hs : s.size ≤ 140737488351232) (w : World) :
    Calls Tryd.prog 3 #[.int .i64 p, .slice A n c, .string s, .int .i64 a] w fun e w' => e = .returned (.bool true) ∧ Below w.heap.size w w' := by
  obtain ⟨Z, eZ⟩ : ∃ Z : Int, Z = (n : Int) + s.size := ⟨_, rfl⟩
  have hw : IntKind.i64.wrap ((n : Int) + s.size) = Z := (IntWalk.i64_in _ (by omega)).trans (by omega)
  have hZ : 1000 < Z := by omega
  clear h hn hs eZ
  go_enter Tryd.func3, Tryd.ntmps3
  go_wp2_with (go_at_call 7; refine (awake_any _).mono ?_; rintro e w1 ⟨rfl, hb1⟩)
  go_ret
  exact ⟨rfl, hb1⟩
set_option maxRecDepth 100000 in
set_option maxHeartbeats 4000000 in
theorem tells_any (p a : Int) (ha : -9223372036854775808 ≤ a ∧ a < 9223372036854775808) (A : Option Addr) (l : List Nat) (c : Nat) (hnc : A = none → c = 0) (s : ByteArray) (t : List Nat) (hs : Str s t) (h : l.length + s.size ≤ 1000) (w : World) (hT : Tab w) (hX : Txt w A l) :
    Calls Tryd.prog 3 #[.int .i64 p, .slice A l.length c, .string s, .int .i64 a] w fun e w' => e = .returned (.bool true) ∧ Below w.heap.size w w' := by
  obtain ⟨Z, eZ⟩ : ∃ Z : Int, Z = (l.length : Int) + s.size := ⟨_, rfl⟩
  have hw : IntKind.i64.wrap ((l.length : Int) + s.size) = Z := (IntWalk.i64_in _ (by omega)).trans (by omega)
  have hZ : Z ≤ 1000 := by omega
  have hz := hs.size
  have HL : RowKit.Hid (l.length ≤ 60000) := Lib.hid (by omega)
  have RD := Lib.hid (fun w hT => reads_any s t a p hs (by omega) ha w hT)
  have TH := Lib.hid hT
  have XH := Lib.hid hX
  have NC := Lib.hid hnc
  clear h eZ hz hs ha hT hX hnc
  go_enter Tryd.func3, Tryd.ntmps3
  go_wp2_with (go_at_call 8; refine (lent_any A l c HL.out NC.out _ XH.out).mono ?_; rintro e w1 ⟨⟨g, cap, rfl, hg, hown⟩, hb1⟩; obtain ⟨hl1, hl2, hl3⟩ := Lent.of_own hown; have L1 := Lib.hid hl1; have L2 := Lib.hid hl2; have L3 := Lib.hid hl3; have B1 := Lib.hid hb1; clear hown hb1 hl1 hl2 hl3 hg)
  go_wp2_with (go_at_call 9; refine (all_any p _ l _ HL.out _ (L1.out.txt XH.out.1)).mono ?_; rintro e w2 ⟨rfl, hb2⟩; have B2 := Lib.hid (bb B1.out hb2); have L4 := Lib.hid (L1.out.below hb2); clear hb2)
  go_wp2_with (go_at_call 10; refine (rall_any p A l c HL.out _ (XH.out.below B2.out)).mono ?_; rintro e w3 ⟨rfl, hb3⟩; have B3 := Lib.hid (bb B2.out hb3); have L5 := Lib.hid (L4.out.below hb3); clear hb3)
  go_wp2_with (go_at_call 11; refine (kept_any A l c g cap HL.out L2.out (by have := L3.out; unfold maxLen at this; omega) _ (XH.out.below B3.out) L5.out).mono ?_; rintro e w4 ⟨rfl, n4, rfl⟩)
  go_wp2_with (go_at_call 12; refine (RD.out _ (TH.out.below B3.out).drewN).mono ?_; rintro e w5 ⟨rfl, hb5⟩; have B5 := Lib.hid (bb (bdrew (n := n4) B3.out) hb5); clear hb5)
  go_wp2_with (go_at_call 7; refine (awake_any _).mono ?_; rintro e w6 ⟨rfl, hb6⟩; have B6 := Lib.hid (bb B5.out hb6); clear hb6)
  go_ret
  exact ⟨rfl, B6.out⟩
end Go.Proofs.YtppnacmgdodjoaaDoor

/- The law's reads. -/
import Derived.Test.YtppnacmgdodjoaaDoorWq
import Derived.Test.YtppnacmgdodjoaaDoorWr
import Derived.Test.YtppnacmgdodjoaaDoorXm
namespace Go.Proofs.YtppnacmgdodjoaaDoor
open Go Go.RowKit Go.Maps
theorem RE_shape (p a : Int) (r : List Nat) : ∃ (x m : Int) (f : Bool), RE p a r = .returned (.tuple #[.int .u8 x, .int .i64 m, .bool f]) := by
  unfold RE
  cases rd p r with
  | none => exact ⟨_, _, _, rfl⟩
  | some xn => exact ⟨_, _, _, rfl⟩
theorem dB_lt {p : Int} {l : List Nat} (hl : ∀ x ∈ l, x < 256) : ∀ x ∈ dB (D p l), x < 256 := by
  rcases h : D p l with ⟨_ | bs, k⟩
  · simp [dB]
  · exact ((D_spec p l.length l (Nat.le_refl _) hl).1 bs k h).1
theorem dB_len {p : Int} {l : List Nat} (hl : ∀ x ∈ l, x < 256) : (dB (D p l)).length ≤ l.length := by
  rcases h : D p l with ⟨_ | bs, k⟩
  · simp [dB]
  · exact ((D_spec p l.length l (Nat.le_refl _) hl).1 bs k h).2.1
set_option maxRecDepth 100000 in
set_option maxHeartbeats 4000000 in
theorem reads_any (s : ByteArray) (l : List Nat) (a p : Int) (hs : Str s l) (hl : l.length ≤ 60000) (ha : -9223372036854775808 ≤ a ∧ a < 9223372036854775808) (w : World) (hT : Tab w) :
    Calls Tryd.prog 12 #[.int .i64 p, .string s, .int .i64 a] w fun e w' => e = .returned (.bool true) ∧ Below w.heap.size w w' := by
  have R := fun w hT => Read_any s l a p hs hl ha w hT
  have RR := fun w => rread_any s l a p hs hl w
  obtain ⟨x, m, f, e⟩ := RE_shape p a (rst a l)
  rw [e] at R RR
  have DC := fun w hT => Decode_any s l p hs hl w hT
  have RD := fun w => rdecode_any s l p hs hl w
  have hB1 := dB_lt (p := p) hs.lt
  have hB2 := dB_len (p := p) hs.lt
  generalize dB (D p l) = B at DC RD hB1 hB2
  obtain ⟨kk, ek⟩ : ∃ kk : Int, kk = dK (D p l) := ⟨_, rfl⟩
  rw [← ek] at DC RD
  generalize dE (D p l) = ee at DC RD
  have R := Lib.hid R
  have RR := Lib.hid RR
  have DC := Lib.hid DC
  have RD := Lib.hid RD
  have TH := Lib.hid hT
  have H1 := Lib.hid hB1
  have H2 : RowKit.Hid (B.length ≤ 65536) := Lib.hid (by omega)
  clear hs hl ha hT e ek hB1 hB2
  go_enter Tryd.func12, Tryd.ntmps12
  go_wp2_with (go_at_call 20; refine (R.out _ TH.out).mono ?_; rintro e w1 ⟨rfl, hb1⟩; have HB1 := Lib.hid hb1; clear hb1)
  go_wp2_with (go_at_call 21; refine (RR.out _).mono ?_; rintro e w2 ⟨rfl, n2, rfl⟩)
  go_wp2_with (go_at_call 15; refine (DC.out (w1.drewN n2) (TH.out.below HB1.out).drewN).mono ?_; rintro e w3 ⟨v3, rfl, ho3, hb3⟩; have HB3 := Lib.hid (show Below w1.heap.size w1 w3 from ⟨hb3.os, hb3.tape, hb3.output, hb3.size, hb3.block⟩); obtain ⟨A3, c3, ev3, ht3, _⟩ := txt_of_own ho3 H1.out; subst ev3; have HT3 := Lib.hid ht3; clear ho3 hb3 ht3)
  go_wp2_with (go_at_call 22; refine (RD.out _).mono ?_; rintro e w4 ⟨v4, rfl, ho4, hb4⟩; have HB4 := Lib.hid hb4; obtain ⟨A4, c4, ev4, ht4, _⟩ := txt_of_own ho4 H1.out; subst ev4; have HT4 := Lib.hid ht4; clear ho4 hb4 ht4)
  go_wp2_with (go_at_call 16; refine (sameb_any A3 A4 B B c3 c4 H2.out H2.out _ (HT3.out.below HB4.out) HT4.out).mono ?_; rintro e w5 ⟨rfl, n5, rfl⟩)
  go_ret
  exact ⟨ret_bool (by simp), bdrew (bb (bb HB1.out HB3.out) HB4.out)⟩
end Go.Proofs.YtppnacmgdodjoaaDoor

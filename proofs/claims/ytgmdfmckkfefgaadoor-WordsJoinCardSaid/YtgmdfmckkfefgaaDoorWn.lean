/- The cursor of layer 7: sorts of bytes; ends, sees, pass. Made by mk7a.py. -/
import Derived.Test.YtgmdfmckkfefgaaDoorWm
import Derived.Test.YtgmdfmckkfefgaaDoorMc
import Derived.Test.YtgmdfmckkfefgaaDoorRq
namespace Go.Proofs.YtgmdfmckkfefgaaDoor
open Go Go.RowKit
theorem q_drew {P : Program} {f : FuncId} {args : Array Value} {w : World} {n : Nat} {v : Value}
    (h : Calls P f args (w.drewN n) fun e w' => e = .returned v ∧ ∃ k, w' = (w.drewN n).drewN k) : Calls P f args (w.drewN n) fun e w'' => e = .returned v ∧ ∃ m, w'' = w.drewN m :=
  h.mono fun _ _ ⟨he, k, hm⟩ => ⟨he, n + k, by rw [hm, World.drewN_drewN]⟩
/-- A reader of a text, at a place. -/
def Rd (w : World) (b : Nat) (s : ByteArray) (k : Nat) : Prop := Blk w b #[.string s, .int .i64 k] 44
theorem Rd.cells {w : World} {b : Nat} {s : ByteArray} {k : Nat} (h : Rd w b s k) : w.cell? ⟨b, 0, none⟩ = some (.string s) ∧ w.cell? ⟨b, 1, none⟩ = some (.int .i64 k) := ⟨Blk.cell h 0, Blk.cell h 1⟩
theorem Rd.drewN {w : World} {b n : Nat} {s : ByteArray} {k : Nat} (h : Rd w b s k) : Rd (w.drewN n) b s k := h
theorem Rd.below {w w' : World} {b : Nat} {s : ByteArray} {k : Nat} (h : Rd w b s k) (hb : Below w.heap.size w w') : Rd w' b s k := Blk.below' h hb
theorem drawn_grown (w : World) (n b : Nat) : w.grownBy (w.drewN n) (some b) := ⟨rfl, rfl, rfl, Nat.le_refl _, fun _ _ _ => rfl⟩
theorem grown_trans {a b c : World} {r : Option Nat} (h : a.grownBy b r) (k : b.grownBy c r) : a.grownBy c r :=
  ⟨k.os.trans h.os, k.tape.trans h.tape, k.output.trans h.output, Nat.le_trans h.size k.size, fun j hj hn => (k.block j (Nat.lt_of_lt_of_le hj h.size) hn).trans (h.block j hj hn)⟩
/-- The place set anew. -/
theorem Rd.set {w : World} {b : Nat} {s : ByteArray} {k : Nat} (h : Rd w b s k) (j : Nat) (v : Int) (e : v = j) : Rd (w.setCell ⟨b, 1, none⟩ (.int .i64 v)) b s j ∧ w.grownBy (w.setCell ⟨b, 1, none⟩ (.int .i64 v)) (some b) := by
  subst e
  exact ⟨heap_setCell_same w b 1 _ 44 _ h, ⟨rfl, rfl, rfl, by simp, fun i hi hne => heap_setCell_other _ _ _ _ (fun e => hne (by rw [e]))⟩⟩
theorem bln_any (c : Nat) (w : World) : Calls Tryd.prog 16 #[.int .u8 c] w fun e w' => e = .returned (.bool (bln c)) ∧ w = w' := by
  go_enter Tryd.func16, Tryd.ntmps16
  go_wp2_with fail
  all_goals go_ret
  all_goals exact ⟨ret_bool (by unfold bln; rw [Bool.eq_iff_iff]; simp; omega), rfl⟩
theorem ltr_any (c : Nat) (w : World) : Calls Tryd.prog 27 #[.int .u8 c] w fun e w' => e = .returned (.bool (ltr c)) ∧ w = w' := by
  go_enter Tryd.func27, Tryd.ntmps27
  go_wp2_with fail
  all_goals go_ret
  all_goals exact ⟨ret_bool (by unfold ltr; rw [Bool.eq_iff_iff]; simp; omega), rfl⟩
theorem dgt_any (c : Nat) (w : World) : Calls Tryd.prog 36 #[.int .u8 c] w fun e w' => e = .returned (.bool (dgt c)) ∧ w = w' := by
  go_enter Tryd.func36, Tryd.ntmps36
  go_wp2_with fail
  all_goals go_ret
  all_goals exact ⟨ret_bool (by unfold dgt; rw [Bool.eq_iff_iff]; simp; omega), rfl⟩
theorem rmk_any (c : Nat) (w : World) : Calls Tryd.prog 18 #[.int .u8 c] w fun e w' => e = .returned (.bool (rmk c)) ∧ w = w' := by
  go_enter Tryd.func18, Tryd.ntmps18
  go_wp2_with fail
  all_goals go_ret
  all_goals exact ⟨ret_bool (by unfold rmk; first | rfl | (rw [Bool.eq_iff_iff]; simp; done) | (rw [Bool.eq_iff_iff]; simp; omega)), rfl⟩
theorem inm_any (c : Nat) (w : World) : Calls Tryd.prog 29 #[.int .u8 c] w fun e w' => e = .returned (.bool (inm c)) ∧ w = w' := by
  have L := fun w => ltr_any c w
  have D := fun w => dgt_any c w
  have e : inm c = (ltr c || dgt c) := rfl
  rw [e]
  clear e
  obtain ⟨x, ex⟩ : ∃ x, x = ltr c := ⟨_, rfl⟩
  obtain ⟨y, ey⟩ : ∃ y, y = dgt c := ⟨_, rfl⟩
  rw [← ex] at L ⊢
  rw [← ey] at D ⊢
  have LH := Lib.hid L
  have DH := Lib.hid D
  clear L D ex ey
  cases x with
  | true =>
    go_enter Tryd.func29, Tryd.ntmps29
    go_wp2_with (first | (go_at_call 27; refine (LH.out _).mono ?_; rintro e w1 ⟨rfl, rfl⟩) | (go_at_call 36; refine (DH.out _).mono ?_; rintro e w1 ⟨rfl, rfl⟩))
    go_ret
    exact ⟨rfl, rfl⟩
  | false =>
    go_enter Tryd.func29, Tryd.ntmps29
    go_wp2_with (first | (go_at_call 27; refine (LH.out _).mono ?_; rintro e w1 ⟨rfl, rfl⟩) | (go_at_call 36; refine (DH.out _).mono ?_; rintro e w1 ⟨rfl, rfl⟩))
    go_ret
    exact ⟨rfl, rfl⟩
theorem ends_yes (b : Nat) (s : ByteArray) (w : World) (h : Rd w b s s.size) : Calls Tryd.prog 26 #[.pointer (some ⟨b, 0, none⟩)] w fun e w' => e = .returned (.bool true) ∧ ∃ n, w' = w.drewN n := by
  obtain ⟨c0, c1⟩ := h.cells
  clear h
  go_enter Tryd.func26, Tryd.ntmps26
  go_wp2_with fail
  go_quiet (fail)
  go_wp2_with fail
  go_ret
  exact ⟨rfl, _, rfl⟩
theorem ends_no (b k : Nat) (s : ByteArray) (w : World) (h : Rd w b s k) (hk : k < s.size) : Calls Tryd.prog 26 #[.pointer (some ⟨b, 0, none⟩)] w fun e w' => e = .returned (.bool false) ∧ ∃ n, w' = w.drewN n := by
  obtain ⟨c0, c1⟩ := h.cells
  have e : ((k : Int) == (s.size : Int)) = false := by simp; omega
  clear h hk
  go_enter Tryd.func26, Tryd.ntmps26
  go_wp2_with fail
  go_quiet (fail)
  go_wp2_with fail
  go_ret
  exact ⟨rfl, _, rfl⟩
theorem sees_bln_no (b : Nat) (s : ByteArray) (w : World) (h : Rd w b s s.size) : Calls Tryd.prog 24 #[.pointer (some ⟨b, 0, none⟩), .func (.func 16) #[] #[]] w fun e w' => e = .returned (.bool false) ∧ ∃ n, w' = w.drewN n := by
  have EE := Lib.hid (fun n => ends_yes b s (w.drewN n) h)
  obtain ⟨c0, c1⟩ := h.cells
  clear h
  go_enter Tryd.func24, Tryd.ntmps24
  go_wp2_with fail
  go_quiet ((go_at_call 26; exact q_drew (EE.out _)))
  go_wp2_with fail
  go_ret
  exact ⟨rfl, _, rfl⟩
theorem sees_bln_at (b k c : Nat) (s : ByteArray) (w : World) (h : Rd w b s k) (hk : k < s.size) (hc : ∀ h, (s[k]'h).toNat = c) : Calls Tryd.prog 24 #[.pointer (some ⟨b, 0, none⟩), .func (.func 16) #[] #[]] w fun e w' => e = .returned (.bool (bln c)) ∧ ∃ n, w' = w.drewN n := by
  have EE := Lib.hid (fun n => ends_no b k s (w.drewN n) h hk)
  obtain ⟨c0, c1⟩ := h.cells
  have P := fun w => bln_any c w
  obtain ⟨x, ex⟩ : ∃ x, x = bln c := ⟨_, rfl⟩
  rw [← ex] at P ⊢
  have PH := Lib.hid P
  have hk2 : (k : Int) < s.size := by omega
  clear h P ex
  go_enter Tryd.func24, Tryd.ntmps24
  go_wp2_with fail
  go_quiet ((first | (go_at_call 26; exact q_drew (EE.out _)) | (go_at_call 16; exact (PH.out _).mono fun _ _ ⟨he, hm⟩ => ⟨he, _, hm.symm⟩)))
  go_wp2_with fail
  go_ret
  exact ⟨rfl, _, rfl⟩
theorem sees_ltr_no (b : Nat) (s : ByteArray) (w : World) (h : Rd w b s s.size) : Calls Tryd.prog 24 #[.pointer (some ⟨b, 0, none⟩), .func (.func 27) #[] #[]] w fun e w' => e = .returned (.bool false) ∧ ∃ n, w' = w.drewN n := by
  have EE := Lib.hid (fun n => ends_yes b s (w.drewN n) h)
  obtain ⟨c0, c1⟩ := h.cells
  clear h
  go_enter Tryd.func24, Tryd.ntmps24
  go_wp2_with fail
  go_quiet ((go_at_call 26; exact q_drew (EE.out _)))
  go_wp2_with fail
  go_ret
  exact ⟨rfl, _, rfl⟩
theorem sees_ltr_at (b k c : Nat) (s : ByteArray) (w : World) (h : Rd w b s k) (hk : k < s.size) (hc : ∀ h, (s[k]'h).toNat = c) : Calls Tryd.prog 24 #[.pointer (some ⟨b, 0, none⟩), .func (.func 27) #[] #[]] w fun e w' => e = .returned (.bool (ltr c)) ∧ ∃ n, w' = w.drewN n := by
  have EE := Lib.hid (fun n => ends_no b k s (w.drewN n) h hk)
  obtain ⟨c0, c1⟩ := h.cells
  have P := fun w => ltr_any c w
  obtain ⟨x, ex⟩ : ∃ x, x = ltr c := ⟨_, rfl⟩
  rw [← ex] at P ⊢
  have PH := Lib.hid P
  have hk2 : (k : Int) < s.size := by omega
  clear h P ex
  go_enter Tryd.func24, Tryd.ntmps24
  go_wp2_with fail
  go_quiet ((first | (go_at_call 26; exact q_drew (EE.out _)) | (go_at_call 27; exact (PH.out _).mono fun _ _ ⟨he, hm⟩ => ⟨he, _, hm.symm⟩)))
  go_wp2_with fail
  go_ret
  exact ⟨rfl, _, rfl⟩
theorem sees_dgt_no (b : Nat) (s : ByteArray) (w : World) (h : Rd w b s s.size) : Calls Tryd.prog 24 #[.pointer (some ⟨b, 0, none⟩), .func (.func 36) #[] #[]] w fun e w' => e = .returned (.bool false) ∧ ∃ n, w' = w.drewN n := by
  have EE := Lib.hid (fun n => ends_yes b s (w.drewN n) h)
  obtain ⟨c0, c1⟩ := h.cells
  clear h
  go_enter Tryd.func24, Tryd.ntmps24
  go_wp2_with fail
  go_quiet ((go_at_call 26; exact q_drew (EE.out _)))
  go_wp2_with fail
  go_ret
  exact ⟨rfl, _, rfl⟩
theorem sees_dgt_at (b k c : Nat) (s : ByteArray) (w : World) (h : Rd w b s k) (hk : k < s.size) (hc : ∀ h, (s[k]'h).toNat = c) : Calls Tryd.prog 24 #[.pointer (some ⟨b, 0, none⟩), .func (.func 36) #[] #[]] w fun e w' => e = .returned (.bool (dgt c)) ∧ ∃ n, w' = w.drewN n := by
  have EE := Lib.hid (fun n => ends_no b k s (w.drewN n) h hk)
  obtain ⟨c0, c1⟩ := h.cells
  have P := fun w => dgt_any c w
  obtain ⟨x, ex⟩ : ∃ x, x = dgt c := ⟨_, rfl⟩
  rw [← ex] at P ⊢
  have PH := Lib.hid P
  have hk2 : (k : Int) < s.size := by omega
  clear h P ex
  go_enter Tryd.func24, Tryd.ntmps24
  go_wp2_with fail
  go_quiet ((first | (go_at_call 26; exact q_drew (EE.out _)) | (go_at_call 36; exact (PH.out _).mono fun _ _ ⟨he, hm⟩ => ⟨he, _, hm.symm⟩)))
  go_wp2_with fail
  go_ret
  exact ⟨rfl, _, rfl⟩
theorem sees_inm_no (b : Nat) (s : ByteArray) (w : World) (h : Rd w b s s.size) : Calls Tryd.prog 24 #[.pointer (some ⟨b, 0, none⟩), .func (.func 29) #[] #[]] w fun e w' => e = .returned (.bool false) ∧ ∃ n, w' = w.drewN n := by
  have EE := Lib.hid (fun n => ends_yes b s (w.drewN n) h)
  obtain ⟨c0, c1⟩ := h.cells
  clear h
  go_enter Tryd.func24, Tryd.ntmps24
  go_wp2_with fail
  go_quiet ((go_at_call 26; exact q_drew (EE.out _)))
  go_wp2_with fail
  go_ret
  exact ⟨rfl, _, rfl⟩
theorem sees_inm_at (b k c : Nat) (s : ByteArray) (w : World) (h : Rd w b s k) (hk : k < s.size) (hc : ∀ h, (s[k]'h).toNat = c) : Calls Tryd.prog 24 #[.pointer (some ⟨b, 0, none⟩), .func (.func 29) #[] #[]] w fun e w' => e = .returned (.bool (inm c)) ∧ ∃ n, w' = w.drewN n := by
  have EE := Lib.hid (fun n => ends_no b k s (w.drewN n) h hk)
  obtain ⟨c0, c1⟩ := h.cells
  have P := fun w => inm_any c w
  obtain ⟨x, ex⟩ : ∃ x, x = inm c := ⟨_, rfl⟩
  rw [← ex] at P ⊢
  have PH := Lib.hid P
  have hk2 : (k : Int) < s.size := by omega
  clear h P ex
  go_enter Tryd.func24, Tryd.ntmps24
  go_wp2_with fail
  go_quiet ((first | (go_at_call 26; exact q_drew (EE.out _)) | (go_at_call 29; exact (PH.out _).mono fun _ _ ⟨he, hm⟩ => ⟨he, _, hm.symm⟩)))
  go_wp2_with fail
  go_ret
  exact ⟨rfl, _, rfl⟩
theorem sees_rmk_no (b : Nat) (s : ByteArray) (w : World) (h : Rd w b s s.size) : Calls Tryd.prog 24 #[.pointer (some ⟨b, 0, none⟩), .func (.func 18) #[] #[]] w fun e w' => e = .returned (.bool false) ∧ ∃ n, w' = w.drewN n := by
  have EE := Lib.hid (fun n => ends_yes b s (w.drewN n) h)
  obtain ⟨c0, c1⟩ := h.cells
  clear h
  go_enter Tryd.func24, Tryd.ntmps24
  go_wp2_with fail
  go_quiet ((go_at_call 26; exact q_drew (EE.out _)))
  go_wp2_with fail
  go_ret
  exact ⟨rfl, _, rfl⟩
theorem sees_rmk_at (b k c : Nat) (s : ByteArray) (w : World) (h : Rd w b s k) (hk : k < s.size) (hc : ∀ h, (s[k]'h).toNat = c) : Calls Tryd.prog 24 #[.pointer (some ⟨b, 0, none⟩), .func (.func 18) #[] #[]] w fun e w' => e = .returned (.bool (rmk c)) ∧ ∃ n, w' = w.drewN n := by
  have EE := Lib.hid (fun n => ends_no b k s (w.drewN n) h hk)
  obtain ⟨c0, c1⟩ := h.cells
  have P := fun w => rmk_any c w
  obtain ⟨x, ex⟩ : ∃ x, x = rmk c := ⟨_, rfl⟩
  rw [← ex] at P ⊢
  have PH := Lib.hid P
  have hk2 : (k : Int) < s.size := by omega
  clear h P ex
  go_enter Tryd.func24, Tryd.ntmps24
  go_wp2_with fail
  go_quiet ((first | (go_at_call 26; exact q_drew (EE.out _)) | (go_at_call 18; exact (PH.out _).mono fun _ _ ⟨he, hm⟩ => ⟨he, _, hm.symm⟩)))
  go_wp2_with fail
  go_ret
  exact ⟨rfl, _, rfl⟩
end Go.Proofs.YtgmdfmckkfefgaaDoor

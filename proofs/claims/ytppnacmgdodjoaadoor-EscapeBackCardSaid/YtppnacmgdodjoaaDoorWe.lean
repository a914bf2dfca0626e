/- A byte, written: One and the document's. -/
import Derived.Test.YtppnacmgdodjoaaDoorWd
import Derived.Laws.BytesArg
namespace Go.Proofs.YtppnacmgdodjoaaDoor
open Go Go.RowKit Go.Maps
theorem str_nums (l : List Nat) : strOfNums (l.map fun x : Nat => (x : Int)) = bsv l := by
  unfold strOfNums bsv
  simp only [List.map_map]
  rfl
theorem conv1 (w : World) (a : Nat) : (convert 22 9 (.slice (some ⟨w.heap.size, 0, none⟩) 1 1)).run Tryd.prog (w.alloc (.cells #[.int .u8 a] 5)) = .ok (.string (bsv [a])) (w.alloc (.cells #[.int .u8 a] 5)) := by
  have h := run_convert_bytes_arg (P := Tryd.prog) (w.alloc (.cells #[.int .u8 a] 5)) 22 5 Tryd.underlying22 Tryd.underlying5 w.heap.size 0 1 1 ([a].map fun x : Nat => (x : Int)) rfl (fun i hi => by
    rw [(Blk.new w #[.int .u8 a] 5).cell]
    match i, hi with
    | 0, _ => rfl) 9 Tryd.underlying9
  rwa [str_nums] at h
theorem conv2 (w : World) (a b : Nat) : (convert 22 9 (.slice (some ⟨w.heap.size, 0, none⟩) 2 2)).run Tryd.prog (w.alloc (.cells #[.int .u8 a, .int .u8 b] 5)) = .ok (.string (bsv [a, b])) (w.alloc (.cells #[.int .u8 a, .int .u8 b] 5)) := by
  have h := run_convert_bytes_arg (P := Tryd.prog) (w.alloc (.cells #[.int .u8 a, .int .u8 b] 5)) 22 5 Tryd.underlying22 Tryd.underlying5 w.heap.size 0 2 2 ([a, b].map fun x : Nat => (x : Int)) rfl (fun i hi => by
    rw [(Blk.new w #[.int .u8 a, .int .u8 b] 5).cell]
    match i, hi with
    | 0, _ => rfl
    | 1, _ => rfl) 9 Tryd.underlying9
  rwa [str_nums] at h
theorem conv4 (w : World) (a b c d : Nat) : (convert 22 9 (.slice (some ⟨w.heap.size, 0, none⟩) 4 4)).run Tryd.prog (w.alloc (.cells #[.int .u8 a, .int .u8 b, .int .u8 c, .int .u8 d] 5)) = .ok (.string (bsv [a, b, c, d])) (w.alloc (.cells #[.int .u8 a, .int .u8 b, .int .u8 c, .int .u8 d] 5)) := by
  have h := run_convert_bytes_arg (P := Tryd.prog) (w.alloc (.cells #[.int .u8 a, .int .u8 b, .int .u8 c, .int .u8 d] 5)) 22 5 Tryd.underlying22 Tryd.underlying5 w.heap.size 0 4 4 ([a, b, c, d].map fun x : Nat => (x : Int)) rfl (fun i hi => by
    rw [(Blk.new w #[.int .u8 a, .int .u8 b, .int .u8 c, .int .u8 d] 5).cell]
    match i, hi with
    | 0, _ => rfl
    | 1, _ => rfl
    | 2, _ => rfl
    | 3, _ => rfl) 9 Tryd.underlying9
  rwa [str_nums] at h
theorem conv2s (w : World) (s : Nat) : (convert 22 9 (.slice (some ⟨w.heap.size, 0, none⟩) 2 2)).run Tryd.prog (w.alloc (.cells #[.int .u8 92, .int .u8 s] 5)) = .ok (.string (bsv [92, s])) (w.alloc (.cells #[.int .u8 92, .int .u8 s] 5)) := conv2 w 92 s
theorem conv4x (w : World) (s t : Nat) : (convert 22 9 (.slice (some ⟨w.heap.size, 0, none⟩) 4 4)).run Tryd.prog (w.alloc (.cells #[.int .u8 92, .int .u8 120, .int .u8 s, .int .u8 t] 5)) = .ok (.string (bsv [92, 120, s, t])) (w.alloc (.cells #[.int .u8 92, .int .u8 120, .int .u8 s, .int .u8 t] 5)) := conv4 w 92 120 s t
theorem conv4d (w : World) (s t : Nat) : (convert 22 9 (.slice (some ⟨w.heap.size, 0, none⟩) 4 4)).run Tryd.prog (w.alloc (.cells #[.int .u8 92, .int .u8 120, .int .u8 s, .int .u8 t] 5)).drew = .ok (.string (bsv [92, 120, s, t])) (w.alloc (.cells #[.int .u8 92, .int .u8 120, .int .u8 s, .int .u8 t] 5)).drew := conv4 w.drew 92 120 s t
theorem hex_at : ∀ X, X < 16 → ∀ h, ((⟨#[48, 49, 50, 51, 52, 53, 54, 55, 56, 57, 97, 98, 99, 100, 101, 102]⟩ : ByteArray)[X]'h).toNat = hx X := by decide
/-- A place that is none. -/
theorem one_none (p : Int) (c : Nat) (hk : kn p = false) (w : World) :
    Calls Tryd.prog 13 #[.int .i64 p, .int .u8 c] w fun e w' => e = .returned (.string (bsv [])) ∧ Below w.heap.size w w' := by
  go_enter Tryd.func13, Tryd.ntmps13
  go_wp2_with (go_at_call 23; refine (known_any p _).mono ?_; rintro e w1 ⟨rfl, rfl⟩)
  go_ret
  exact ⟨rfl, Below.refl _ _⟩
set_option maxHeartbeats 1000000 in
theorem one_plain (p : Int) (c : Nat) (hk : kn p = true) (hp : pl p c = true) (w : World) :
    Calls Tryd.prog 13 #[.int .i64 p, .int .u8 c] w fun e w' => e = .returned (.string (bsv [c])) ∧ Below w.heap.size w w' := by
  have hv := fun w => conv1 w c
  go_enter Tryd.func13, Tryd.ntmps13
  go_wp2_with (go_at_call 23; refine (known_any p _).mono ?_; rintro e w1 ⟨rfl, rfl⟩)
  go_wp2_with (go_at_call 24; refine (plain_any p c _).mono ?_; rintro e w1 ⟨rfl, rfl⟩)
  go_ret
  exact ⟨rfl, B1 _ _⟩
theorem look_d7 {w : World} {b : Nat} (h : w.ownsMap Tryd.prog 5 (plainElem Tryd.prog 5) b 7 d7) (c : Nat) (hc : c < 256) :
    (∀ s, sg c = some s → (Instr.lookup 55 (.map (some b)) (.int .u8 c) true).run Tryd.prog w = .ok (.tuple #[.int .u8 s, .bool true]) w) ∧
    (sg c = none → ∃ v : Int, (Instr.lookup 55 (.map (some b)) (.int .u8 c) true).run Tryd.prog w = .ok (.tuple #[.int .u8 v, .bool false]) w) := by
  obtain ⟨v, ps, hrun, hv⟩ := h.look_ok Tryd.law5 Tryd.underlying55 (z := .int .u8 0) (by first | exact Tryd.zeroValue5 _ | kernel_rfl | rfl) (plainElem_int Tryd.underlying5 (lk_wf (c := 0) (by omega))) (keyOf_int_mk Tryd.underlying5 (lk_wf (c := c) (by omega)))
  obtain ⟨x, rfl, hx, hwx⟩ := plainElem_int_inv Tryd.underlying5 hv
  rw [d7_has] at hrun
  refine ⟨fun s hs => ?_, fun hs => ⟨x, ?_⟩⟩
  · rw [hs] at hrun
    simp only [Prod.mk.injEq, d7_at c s hs] at hx
    have e : x = s := by have := hx.1; simp only [ld, DataW.lit.injEq, Lit.int.injEq, true_and] at this; omega
    rw [hrun, e]
    rfl
  · rw [hs] at hrun
    exact hrun
theorem look_signed {w : World} {b : Nat} (h : Signed w b) (c : Nat) (hc : c < 256) :
    (∀ s, sd c = some s → (Instr.lookup 55 (.map (some b)) (.int .u8 c) true).run Tryd.prog w = .ok (.tuple #[.int .u8 s, .bool true]) w) ∧
    (sd c = none → ∃ v : Int, (Instr.lookup 55 (.map (some b)) (.int .u8 c) true).run Tryd.prog w = .ok (.tuple #[.int .u8 v, .bool false]) w) := by
  obtain ⟨D, h, hD, hA⟩ := h
  obtain ⟨v, ps, hrun, hv⟩ := h.look_ok Tryd.law5 Tryd.underlying55 (z := .int .u8 0) (by first | exact Tryd.zeroValue5 _ | kernel_rfl | rfl) (plainElem_int Tryd.underlying5 (lk_wf (c := 0) (by omega))) (keyOf_int_mk Tryd.underlying5 (lk_wf (c := c) (by omega)))
  obtain ⟨x, rfl, hx, hwx⟩ := plainElem_int_inv Tryd.underlying5 hv
  rw [hD] at hrun
  refine ⟨fun s hs => ?_, fun hs => ⟨x, ?_⟩⟩
  · rw [hs] at hrun
    simp only [Prod.mk.injEq, hA c s _ hs] at hx
    have e : x = s := by have := hx.1; simp only [ld, DataW.lit.injEq, Lit.int.injEq, true_and] at this; omega
    rw [hrun, e]
    rfl
  · rw [hs] at hrun
    exact hrun
set_option maxHeartbeats 1000000 in
theorem one_sign (p : Int) (c s : Nat) (hc : c < 256) (hk : kn p = true) (hp : pl p c = false) (hs : sg c = some s) (w : World) :
    Calls Tryd.prog 13 #[.int .i64 p, .int .u8 c] w fun e w' => e = .returned (.string (bsv [92, s])) ∧ Below w.heap.size w w' := by
  have HS := Lib.hid hs
  have HC := Lib.hid hc
  clear hs hc
  go_enter Tryd.func13, Tryd.ntmps13
  go_wp2_with (go_at_call 23; refine (known_any p _).mono ?_; rintro e w1 ⟨rfl, rfl⟩)
  go_wp2_with (go_at_call 24; refine (plain_any p c _).mono ?_; rintro e w1 ⟨rfl, rfl⟩)
  go_wp2_with (go_at_call 25; refine (signs_any _).mono ?_; rintro e w1 ⟨rfl, hm, hb⟩; have hl := (look_d7 hm c HC.out).1 s HS.out; have H := Lib.hid hb; have hv := fun w => conv2s w s; clear hm hb hk hp)
  go_ret
  exact ⟨rfl, bb H.out (B1 _ _)⟩
set_option maxHeartbeats 1000000 in
theorem one_hex' (p : Int) (c X Y : Nat) (hX : X < 16) (hY : Y < 16) (eX : X = c / 16) (eY : Y = c % 16) (hc : c < 256) (hk : kn p = true) (hp : pl p c = false) (hs : sg c = none) (w : World) :
    Calls Tryd.prog 13 #[.int .i64 p, .int .u8 c] w fun e w' => e = .returned (.string (bsv [92, 120, hx X, hx Y])) ∧ Below w.heap.size w w' := by
  have HS := Lib.hid hs
  have HC := Lib.hid hc
  have HX := Lib.hid hX
  have HY := Lib.hid hY
  have EX := Lib.hid eX
  have EY := Lib.hid eY
  clear hs hc hX hY eX eY
  go_enter Tryd.func13, Tryd.ntmps13
  go_wp2_with (go_at_call 23; refine (known_any p _).mono ?_; rintro e w1 ⟨rfl, rfl⟩)
  go_wp2_with (go_at_call 24; refine (plain_any p c _).mono ?_; rintro e w1 ⟨rfl, rfl⟩)
  go_wp2_with (go_at_call 25; refine (signs_any _).mono ?_; rintro e w1 ⟨rfl, hm, hb⟩; obtain ⟨v, hl⟩ := (look_d7 hm c HC.out).2 HS.out; have H := Lib.hid hb; clear hm hb hk hp)
  have hc := HC.out
  have hX := HX.out
  have hY := HY.out
  have eX := EX.out
  have eY := EY.out
  have hw1 : IntKind.u8.wrap ((c : Int) / 16) = X := (u8_in (by omega)).trans (by omega)
  have hw2 : (c : Int) % 16 = Y := by omega
  have g1 : (X : Int) < 16 := by omega
  have g2 : (Y : Int) < 16 := by omega
  have i1 := hex_at X hX
  have i2 := hex_at Y hY
  have hv := fun w => conv4d w (hx X) (hx Y)
  clear hc eX eY hX hY HC HS hl
  go_region
  go_wp2_with fail
  go_ret
  exact ⟨rfl, bdrew1 (bb H.out (B1 _ _))⟩
theorem one_any (p : Int) (c : Nat) (hc : c < 256) (w : World) :
    Calls Tryd.prog 13 #[.int .i64 p, .int .u8 c] w fun e w' => e = .returned (.string (bsv (one p c))) ∧ Below w.heap.size w w' := by
  cases hk : kn p with
  | false =>
    rw [show one p c = [] by simp [one, hk]]
    exact one_none p c hk w
  | true =>
    rcases one_cases hk c with ⟨h, e⟩ | ⟨h, s, h2, e⟩ | ⟨h, h2, e⟩ <;> rw [e]
    · exact one_plain p c hk h w
    · exact one_sign p c s hc hk h h2 w
    · exact one_hex' p c _ _ (by omega) (by omega) rfl rfl hc hk h h2 w
end Go.Proofs.YtppnacmgdodjoaaDoor

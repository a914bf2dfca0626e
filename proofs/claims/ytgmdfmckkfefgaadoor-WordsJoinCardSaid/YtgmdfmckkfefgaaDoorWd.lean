/- The map of signs, turned round: signed. -/
import Derived.Test.YtgmdfmckkfefgaaDoorWc
namespace Go.Proofs.YtgmdfmckkfefgaaDoor
open Go Go.RowKit Go.Maps
/-- The map of signs' bytes. -/
def Signed (w : World) (b : Nat) : Prop := ∃ D : DataW Unit, w.ownsMap Tryd.prog 5 (plainElem Tryd.prog 5) b 7 D ∧ (∀ c : Nat, Maps.has D (lk c) = (sd c).isSome) ∧ ∀ (c z : Nat) (y : DataW Unit), sd c = some z → D.atKey (lk c) y = ld z
theorem wf_nat {x : Int} (h : (Lit.int .u8 x).wf = true) : ∃ z : Nat, x = z ∧ z < 256 := by
  have e1 : IntKind.u8.min = 0 := by decide
  have e2 : IntKind.u8.max = 255 := by decide
  have e3 : IntKind.u8.min ≤ x ∧ x ≤ IntKind.u8.max := by simpa [Lit.wf] using h
  rw [e1, e2] at e3
  exact ⟨x.toNat, by omega, by omega⟩
/-- A step of the going through the map of signs. -/
theorem sign_step {w : World} {b r cnt : Nat} {left : Lit → Bool} (h : w.ranges Tryd.prog 5 (plainElem Tryd.prog 5) b r 7 d7 left cnt) (hd : ∀ z : Nat, left (lk z) = true → (sg z).isSome = true) :
    ((∀ kl, left kl = false) ∧ ∀ ty, (Instr.next (.pointer (some ⟨r, 0, none⟩)) false ty).run Tryd.prog w = .ok (.tuple #[.bool false]) w) ∨
    ∃ (z s : Nat) (w' : World) (cnt' : Nat), z < 256 ∧ s < 256 ∧ sg z = some s ∧ left (lk z) = true ∧ (∀ ty, (Instr.next (.pointer (some ⟨r, 0, none⟩)) false ty).run Tryd.prog w = .ok (.tuple #[.bool true, .int .u8 z, .int .u8 s]) w') ∧
      w'.ranges Tryd.prog 5 (plainElem Tryd.prog 5) b r 7 d7 (fun x => left x && !x.sameKey (lk z)) cnt' ∧ cnt' < cnt ∧ w.grownBy w' (some r) ∧ w'.heap.size = w.heap.size ∧ (Instr.entry (.pointer (some ⟨r, 0, none⟩))).run Tryd.prog w' = .ok (.tuple #[.int .u8 z, .int .u8 s]) w' := by
  rcases h.next Tryd.law5 0 with ⟨_, h2, h3⟩ | ⟨key, v, kl, y, w', cnt', k1, k2, k3, k4, k5, k6, k7, k8, k9, k10⟩
  · exact .inl ⟨h2, fun _ => h3⟩
  · obtain ⟨x, rfl, rfl, hwx⟩ := Maps.keyOf_int_inv Tryd.underlying5 k1
    obtain ⟨c, rfl, rfl, hwc⟩ := plainElem_int_inv Tryd.underlying5 k3
    obtain ⟨z, rfl, hz⟩ := wf_nat hwx
    obtain ⟨s, rfl, hs⟩ := wf_nat hwc
    obtain ⟨s', es⟩ := Option.isSome_iff_exists.1 (hd z k2)
    have e := k4 (ld 0)
    rw [d7_at z s' es] at e
    have e2 : s' = s := by
      have e3 : (ld (s' : Int)) = ld (s : Int) := e
      simp only [ld, DataW.lit.injEq, Lit.int.injEq, true_and] at e3
      omega
    subst e2
    exact .inr ⟨z, s', w', cnt', hz, hs, es, k2, fun _ => k5, k6, k7, k8, k9, k10⟩
set_option maxRecDepth 100000 in
set_option maxHeartbeats 1000000 in
theorem signed_any (w : World) :
    Calls Tryd.prog 64 #[] w fun e w' => ∃ b, e = .returned (.map (some b)) ∧ Signed w' b ∧ Below w.heap.size w w' := by
  have hmm := @run_makeMap Tryd.prog
  have e1 : (w.alloc (.map #[] 0)).heap.size = w.heap.size + 1 := by simp
  have O0 : (w.alloc (.map #[] 0)).ownsMap Tryd.prog 5 (plainElem Tryd.prog 5) w.heap.size 0 (.map [] : DataW Unit) := World.ownsMap_made w Tryd.prog 5 _
  have OH := Lib.hid O0
  clear O0
  go_enter Tryd.func64, Tryd.ntmps64
  go_wp2_with (go_at_call 69; refine (signs_any _).mono ?_; rintro e w1 ⟨rfl, hm1, hb1⟩)
  have S1 := hb1.size
  rw [e1] at hm1 S1
  obtain ⟨w0, hr0, hrg0, hg0, hs0⟩ := hm1.range Tryd.law5 Tryd.underlying110
  have OW0 : w1.ownsMap Tryd.prog 5 (plainElem Tryd.prog 5) w.heap.size 0 (.map [] : DataW Unit) := OH.out.kept (row := none) ⟨hb1.os, hb1.tape, hb1.output, hb1.size, fun i hi _ => hb1.block i hi⟩ (by simp)
  have OW := Lib.hid (OW0.kept hg0 (by simp))
  have B00 : Below w.heap.size w w1 := bt (B1 w _) hb1 (by simp)
  have B0 := Lib.hid (B00.grown hg0 B00.size (fun j hj => by cases hj))
  have RG := Lib.hid hrg0
  have SZ := hm1.size_le
  clear OW0 B00 hrg0 hg0 hb1 hm1
  obtain ⟨r, er⟩ : ∃ r, r = w1.heap.size := ⟨_, rfl⟩
  rw [← er] at hr0 RG hs0
  have hr1 : w.heap.size + 1 ≤ r := by omega
  clear S1 er
  simp only [hr0, Result.andThen]
  rw [Oper.upon_value]
  go_wp2_with fail
  go_frame
  go_loopw [2, 3] (fun _ _ wr => ∃ (left : Lit → Bool) (cnt : Nat) (D : DataW Unit), wr.ranges Tryd.prog 5 (plainElem Tryd.prog 5) (w.heap.size + 1) r 7 d7 left cnt ∧ cnt ≤ 7 ∧
      wr.ownsMap Tryd.prog 5 (plainElem Tryd.prog 5) w.heap.size (7 - cnt) D ∧ Turned D left ∧ Below w.heap.size w wr)
    (fun _ _ wr => wr.rangeLeft (w.heap.size + 1) r)
  case atStart =>
    exact ⟨_, _, .map [], RG.out, SZ, OW.out.mono (Nat.zero_le _), turned_start, B0.out⟩
  case round =>
    obtain ⟨left, cnt, D, hrg, hcs, hout, hT, hnx⟩ := hrel
    rcases sign_step hrg hT.2.1 with ⟨hl, hnext⟩ | ⟨z, s, w2, cnt2, hz, hs, es, hlz, hnext, hrg1, hlt, hg1, hs1, hen⟩
    · have F1 := Lib.hid (hout.mono (show 7 - cnt ≤ 7 by omega))
      have F2 := Lib.hid hT
      have F3 := Lib.hid hnx
      have F4 := Lib.hid hl
      clear hrg hout hT hnx hl
      go_wp2_with fail
      go_ret
      refine ⟨_, rfl, ⟨D, F1.out, fun c => ?_, fun c z y hc => F2.out.2.2.2 c z y hc (F4.out _)⟩, F3.out⟩
      rw [F2.out.2.2.1 c]
      cases sd c with
      | none => rfl
      | some z => simp [F4.out]
    · have hne : r ≠ w.heap.size := by omega
      have hout1 := hout.kept hg1 (fun e => hne (Option.some.inj e).symm)
      obtain ⟨w3, hr3, hout2, hg2⟩ := ins hout1 s z (by omega) (by omega) (by omega)
      have hrg2 := hrg1.kept hg2 (fun e => by have := Option.some.inj e; omega) (fun e => hne (Option.some.inj e))
      have F1 := Lib.hid (hout2.mono (show 7 - cnt + 1 ≤ 7 - cnt2 by omega))
      have F2 := Lib.hid (turned_step hT es)
      have F3 := Lib.hid ((hnx.grown hg1 hnx.size (fun j hj => by cases hj; omega)).grown hg2 (by have := hnx.size; have := hg1.size; omega) (fun j hj => by cases hj; exact Nat.le_refl _))
      have F4 := Lib.hid hrg2
      have F5 := Lib.hid hrg
      clear hrg hout hT hnx hout1 hout2 hrg1 hrg2 hg1 hg2 hlz
      go_wp2_with fail
      go_roundw
      case rel => exact ⟨_, cnt2, _, F4.out, by omega, F1.out, F2.out, F3.out⟩
      case measure => rw [F4.out.left_eq, F5.out.left_eq]; exact hlt
end Go.Proofs.YtgmdfmckkfefgaaDoor

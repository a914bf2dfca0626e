/- The bag's look at all its rows: but for the rows of numbers they are rows of nothing. -/
import Derived.Test.YtlbjmkljmhfjdaaGreatF3
import Derived.Test.YtlbjmkljmhfjdaaGreatF4
set_option linter.unusedSimpArgs false
set_option linter.unusedVariables false
namespace Go.Proofs.YtlbjmkljmhfjdaaGreat
open Go Go.RowKit Go.Maps
theorem Lw.then {B C : Nat} {w W W' : World} (h : Lw B C w W) (h2 : Lw B C W W') : Lw B C w W' :=
  ⟨h.low.trans h2.low, fun b vs T2 e1 k => h2.keep b vs T2 e1 (h.keep b vs T2 e1 k), fun b h1 h3 => (h2.high b h1 (by have := h.size; omega)).trans (h.high b h1 h3)⟩
set_option maxRecDepth 100000 in
set_option maxHeartbeats 8000000 in
theorem bag_apart (B C bb : Nat) (lv : Value) (vs : List Value) (ms : Nat → List Int) (w : World) (hB : B ≤ w.heap.size) (hb : Blk w bb #[.slice none 0 0, .slice none 0 0, lv, .slice none 0 0, .slice none 0 0, .slice none 0 0, .slice none 0 0, .slice none 0 0, .slice none 0 0, .slice none 0 0, .slice none 0 0, .slice none 0 0, .slice none 0 0, .slice none 0 0] 121) (h : Fl B 38 w lv vs ms) (hn : vs.length ≤ 4096) (hl : ∀ k, k < vs.length → (ms k).length ≤ 100000) (hC : ∀ j q, j < vs.length → (vs.getD j undef).ownBlock = some q → q < C) :
    Calls Tryz.prog 111 #[.pointer (some ⟨bb, 0, none⟩)] w fun e w' => e = .returned (.bool true) ∧ Lw B C w w' := by
  have KB0 := Lib.hid hb
  have P0 := Lib.hid (Lw.refl B C w)
  have HB := Lib.hid hB
  have FA := Lib.hid (fun (W : World) (b : Below w.heap.size w W) => flat_any B C lv vs ms W (Nat.le_trans hB b.size) (h.below b) hn hl hC)
  have Q0 := Lib.hid (Below.refl w.heap.size w)
  clear hb h hn hl hB hC
  have k0 := KB0.out.cell 0
  simp only [List.getElem?_toArray, List.getElem?_cons_zero, List.getElem?_cons_succ] at k0
  go_enter Tryz.func111, Tryz.ntmps111
  go_wp2_with fail
  refine (flatLimbs_nil _).mono ?_
  rintro e w1 ⟨rfl, hw⟩
  have P1 := Lib.hid (P0.out.step (by have := P0.out.size; have := HB.out; omega) hw)
  have KB1 := Lib.hid (KB0.out.below' hw)
  have Q1 := Lib.hid (Q0.out.trans (hw.mono Q0.out.size))
  clear hw k0
  have k1 := KB1.out.cell 1
  simp only [List.getElem?_toArray, List.getElem?_cons_zero, List.getElem?_cons_succ] at k1
  go_wp2_with fail
  refine (flatWords_nil _).mono ?_
  rintro e w2 ⟨rfl, hw⟩
  have P2 := Lib.hid (P1.out.step (by have := P1.out.size; have := HB.out; omega) hw)
  have KB2 := Lib.hid (KB1.out.below' hw)
  have Q2 := Lib.hid (Q1.out.trans (hw.mono Q1.out.size))
  clear hw k1
  have k2 := KB2.out.cell 2
  simp only [List.getElem?_toArray, List.getElem?_cons_zero, List.getElem?_cons_succ] at k2
  go_wp2_with fail
  refine (FA.out _ Q2.out).mono ?_
  rintro e w3 ⟨rfl, hw⟩
  have P3 := Lib.hid (P2.out.then hw)
  have KB3 := Lib.hid (hw.keep _ _ _ (by decide) KB2.out)
  clear hw k2
  have k3 := KB3.out.cell 3
  simp only [List.getElem?_toArray, List.getElem?_cons_zero, List.getElem?_cons_succ] at k3
  go_wp2_with fail
  refine (flatLongs_nil _).mono ?_
  rintro e w4 ⟨rfl, hw⟩
  have P4 := Lib.hid (P3.out.step (by have := P3.out.size; have := HB.out; omega) hw)
  have KB4 := Lib.hid (KB3.out.below' hw)
  clear hw k3
  have k4 := KB4.out.cell 4
  simp only [List.getElem?_toArray, List.getElem?_cons_zero, List.getElem?_cons_succ] at k4
  go_wp2_with fail
  refine (flatTexts_nil _).mono ?_
  rintro e w5 ⟨rfl, hw⟩
  have P5 := Lib.hid (P4.out.step (by have := P4.out.size; have := HB.out; omega) hw)
  have KB5 := Lib.hid (KB4.out.below' hw)
  clear hw k4
  have k5 := KB5.out.cell 5
  simp only [List.getElem?_toArray, List.getElem?_cons_zero, List.getElem?_cons_succ] at k5
  go_wp2_with fail
  refine (flatBytes_nil _).mono ?_
  rintro e w6 ⟨rfl, hw⟩
  have P6 := Lib.hid (P5.out.step (by have := P5.out.size; have := HB.out; omega) hw)
  have KB6 := Lib.hid (KB5.out.below' hw)
  clear hw k5
  have k6 := KB6.out.cell 6
  simp only [List.getElem?_toArray, List.getElem?_cons_zero, List.getElem?_cons_succ] at k6
  go_wp2_with fail
  refine (flatTruths_nil _).mono ?_
  rintro e w7 ⟨rfl, hw⟩
  have P7 := Lib.hid (P6.out.step (by have := P6.out.size; have := HB.out; omega) hw)
  have KB7 := Lib.hid (KB6.out.below' hw)
  clear hw k6
  have k7 := KB7.out.cell 7
  simp only [List.getElem?_toArray, List.getElem?_cons_zero, List.getElem?_cons_succ] at k7
  go_wp2_with fail
  refine (flatTwigs_nil _).mono ?_
  rintro e w8 ⟨rfl, hw⟩
  have P8 := Lib.hid (P7.out.step (by have := P7.out.size; have := HB.out; omega) hw)
  have KB8 := Lib.hid (KB7.out.below' hw)
  clear hw k7
  have k8 := KB8.out.cell 8
  simp only [List.getElem?_toArray, List.getElem?_cons_zero, List.getElem?_cons_succ] at k8
  go_wp2_with fail
  refine (flatNodes_nil _).mono ?_
  rintro e w9 ⟨rfl, hw⟩
  have P9 := Lib.hid (P8.out.step (by have := P8.out.size; have := HB.out; omega) hw)
  have KB9 := Lib.hid (KB8.out.below' hw)
  clear hw k8
  have k9 := KB9.out.cell 9
  simp only [List.getElem?_toArray, List.getElem?_cons_zero, List.getElem?_cons_succ] at k9
  go_wp2_with fail
  refine (flatRules_nil _).mono ?_
  rintro e w10 ⟨rfl, hw⟩
  have P10 := Lib.hid (P9.out.step (by have := P9.out.size; have := HB.out; omega) hw)
  have KB10 := Lib.hid (KB9.out.below' hw)
  clear hw k9
  have k10 := KB10.out.cell 10
  simp only [List.getElem?_toArray, List.getElem?_cons_zero, List.getElem?_cons_succ] at k10
  go_wp2_with fail
  refine (flatSpans_nil _).mono ?_
  rintro e w11 ⟨rfl, hw⟩
  have P11 := Lib.hid (P10.out.step (by have := P10.out.size; have := HB.out; omega) hw)
  have KB11 := Lib.hid (KB10.out.below' hw)
  clear hw k10
  have k11 := KB11.out.cell 11
  simp only [List.getElem?_toArray, List.getElem?_cons_zero, List.getElem?_cons_succ] at k11
  go_wp2_with fail
  refine (flatGrammars_nil _).mono ?_
  rintro e w12 ⟨rfl, hw⟩
  have P12 := Lib.hid (P11.out.step (by have := P11.out.size; have := HB.out; omega) hw)
  have KB12 := Lib.hid (KB11.out.below' hw)
  clear hw k11
  have k12 := KB12.out.cell 12
  simp only [List.getElem?_toArray, List.getElem?_cons_zero, List.getElem?_cons_succ] at k12
  go_wp2_with fail
  refine (flatFounds_nil _).mono ?_
  rintro e w13 ⟨rfl, hw⟩
  have P13 := Lib.hid (P12.out.step (by have := P12.out.size; have := HB.out; omega) hw)
  have KB13 := Lib.hid (KB12.out.below' hw)
  clear hw k12
  have k13 := KB13.out.cell 13
  simp only [List.getElem?_toArray, List.getElem?_cons_zero, List.getElem?_cons_succ] at k13
  go_wp2_with fail
  refine (flatEvents_nil _).mono ?_
  rintro e w14 ⟨rfl, hw⟩
  have P14 := Lib.hid (P13.out.step (by have := P13.out.size; have := HB.out; omega) hw)
  have KB14 := Lib.hid (KB13.out.below' hw)
  clear hw k13
  go_wp2_with fail
  go_ret
  exact ⟨rfl, P14.out⟩
end Go.Proofs.YtlbjmkljmhfjdaaGreat

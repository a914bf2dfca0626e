/- sort: a grammar at work in memory; a rule's part. -/
import Derived.Test.YtlbjmkljmhfjdaaGreatD6
import Derived.Test.YtlbjmkljmhfjdaaGreatF1
import Derived.Test.YtlbjmkljmhfjdaaGreatB2
import Derived.Test.YtlbjmkljmhfjdaaGreatC8
set_option linter.unusedSimpArgs false
set_option linter.unusedVariables false
namespace Go.Proofs.YtlbjmkljmhfjdaaGreat
open Go Go.RowKit Go.Maps
theorem sHas_any (B : Option Addr) (d cb n : Nat) (l : List Int) (a : Int) (hl : l.length ≤ 140737488351232) (w : World) (hB : Lies w B (ints l)) (hc : w.cell? ⟨cb, 0, none⟩ = some (.int .i64 a)) (en : n = l.length) :
    Calls Tryz.prog 193 #[.slice B n d, .pointer (some ⟨cb, 0, none⟩)] w fun e w' => e = .returned (.bool (decide (a ∈ l))) ∧ w' = w := by
  have C := Lib.hid (contains_any B d n l a hl w hB en)
  generalize decide (a ∈ l) = q at C ⊢
  clear hB en hl
  go_enter Tryz.func193, Tryz.ntmps193
  go_wp2_with (go_at_call 118; (with_reducible refine C.out.mono ?_); rintro e w1 ⟨rfl, rfl⟩)
  go_ret
  exact ⟨rfl, rfl⟩
set_option maxRecDepth 100000 in
set_option maxHeartbeats 1000000 in
theorem sIndex_any (A : Option Addr) (c n cb : Nat) (vs : List Value) (L : List (List Int)) (a : Int) (w : World) (hG : Gph w A vs L) (en : n = L.length) (hc : w.cell? ⟨cb, 0, none⟩ = some (.int .i64 a)) :
    Calls Tryz.prog 192 #[.slice A n c, .func (.func 193) #[] #[.pointer (some ⟨cb, 0, none⟩)]] w fun e w' => e = .returned (.int .i64 (idxP L a)) ∧ w' = w := by
  have AT := Lib.hid (fun i (hi : i < n) => hG.at_ (i := i) (by rw [← en]; exact hi))
  have hn : n ≤ 140737488351232 := by rw [en]; exact hG.most
  have MO := Lib.hid (fun i (hi : i < n) => hG.mosts i (by rw [← en]; exact hi))
  have HP := Lib.hid (fun (B : Option Addr) d l (hl : l.length ≤ 140737488351232) (hB : Lies w B (ints l)) => sHas_any B d cb l.length l a hl w hB hc rfl)
  have IS := Lib.hid (fun k (hk : k < n) => idxP_some (L := L) (a := a) (k := k) (by rw [← en]; exact hk))
  have IN := Lib.hid (show (∀ j, j < n → a ∉ L.getD j []) → idxP L a = -1 from fun h => idxP_none (fun j hj => h j (by omega)))
  generalize idxP L a = R at IS IN ⊢
  clear hG en hc
  go_enter Tryz.func192, Tryz.ntmps192
  go_wp2_with fail
  go_loopw [8, 5] (fun i _ wr => ∃ (k : Nat), k ≤ n ∧ i = .int .i64 k ∧ (∀ j, j < k → a ∉ L.getD j []) ∧ wr = w) (fun i _ _ => n - (RowKit.intOf i).toNat)
  case atStart => exact ⟨0, by omega, rfl, fun j h => by omega, rfl⟩
  case round =>
    obtain ⟨k, hk, rfl, hr, rfl⟩ := hrel
    have HR := Lib.hid hr
    clear hr
    by_cases hlt : k < n
    · have hlt2 : (k : Int) < n := by omega
      obtain ⟨b1, o1, B1, d1, rfl, hb1, c1, hl1⟩ := AT.out k hlt
      have W1 := Lib.hid (HP.out B1 d1 _ (MO.out k hlt) hl1)
      obtain ⟨q, eq⟩ : ∃ q, q = decide (a ∈ L.getD k []) := ⟨_, rfl⟩
      have EQ := Lib.hid eq
      rw [← eq] at W1
      generalize (L.getD k []).length = ll at c1 W1
      clear hl1 eq
      cases q with
      | true =>
        go_wp2_with (go_at_call 193; (with_reducible refine W1.out.mono ?_); rintro e w1 ⟨rfl, rfl⟩)
        go_ret
        refine ⟨?_, rfl⟩
        rw [IS.out k hlt (of_decide_eq_true EQ.out.symm) HR.out]; rfl
      | false =>
        go_wp2_with (go_at_call 193; (with_reducible refine W1.out.mono ?_); rintro e w1 ⟨rfl, rfl⟩)
        go_roundw
        case rel =>
          refine ⟨k + 1, by omega, by go_num, fun j hj => ?_, by first | rfl | trivial⟩
          by_cases e : j = k
          · subst e; exact of_decide_eq_false EQ.out.symm
          · exact HR.out j (by omega)
        case measure => simp [RowKit.intOf]; omega
    · obtain rfl : k = n := by omega
      have hlt2 : ¬ (k : Int) < k := by omega
      go_wp2_with fail
      go_ret
      exact ⟨by rw [IN.out HR.out]; rfl, rfl⟩
theorem ptG_len {G : List (List Nat)} (hR : RG G) {i : Nat} (hi : i < G.length) : (ptG G i).length ≤ 64 := by
  obtain ⟨j, hj, _, e, _, _⟩ := place_of hR hi
  rw [← e]; exact ((pG_small hR).2 j hj).2
theorem ptG_self {G : List (List Nat)} (hR : RG G) {i : Nat} (hi : i < G.length) : i ∈ ptG G i := by
  obtain ⟨j, hj, _, e, h, _⟩ := place_of hR hi
  rw [← e]; exact h
/-- The parts of a graph, in memory. -/
structure Pts (W : World) (A : Option Addr) (vs : List Value) (G : List (List Nat)) : Prop where
  g : Gph W A vs ((pG G).map nums)
theorem Pts.below {W W' : World} {A : Option Addr} {vs : List Value} {G : List (List Nat)} (h : Pts W A vs G) (hb : Below W.heap.size W W') : Pts W' A vs G := ⟨h.g.below hb⟩
set_option maxRecDepth 100000 in
set_option maxHeartbeats 1000000 in
/-- A rule's part: one of the rows. -/
theorem with_any (A : Option Addr) (c : Nat) (vs : List Value) (G : List (List Nat)) (hR : RG G) (i : Nat) (hi : i < G.length) (w : World) (hG : Pts w A vs G) :
    Calls Tryz.prog 131 #[.slice A (pG G).length c, .int .i64 i] w fun e w' => (∃ j B d, e = .returned (.slice B (ptG G i).length d) ∧ vs.getD j undef = .slice B (ptG G i).length d ∧ j < (pG G).length ∧ (pG G).getD j [] = ptG G i) ∧ Below w.heap.size w w' := by
  have C := Lib.hid (sIndex_any A c (pG G).length w.heap.size vs ((pG G).map nums) i (w.alloc (.cells #[.int .i64 i] 3)) (hG.g.below (B1 _ _)) (by simp) ((Blk.new w _ _).cell 0))
  have HB := Lib.hid (B1 w (.cells #[.int .i64 i] 3))
  obtain ⟨j, hj, _, e2, e3, e4⟩ := place_of hR hi
  rw [e4] at C
  obtain ⟨b1, o1, B, d, rfl, hb1, c1, hl1⟩ := (hG.g.below (B1 w (.cells #[.int .i64 i] 3))).at_ (i := j) (by simpa using hj)
  obtain ⟨B', d', e5, _⟩ := hG.g.row j (by simpa using hj)
  obtain ⟨_, _, e6, _, c2⟩ := (hG.g.below (B1 w (.cells #[.int .i64 i] 3))).cell (i := j) (by simpa using hj)
  simp only [Option.some.injEq, Addr.mk.injEq, and_true] at e6
  obtain ⟨rfl, rfl⟩ := e6
  have c3 := c1.symm.trans c2
  simp only [Option.some.injEq] at c3
  rw [getD_map_nums, nums_len, e2] at c1 c3
  have E := Lib.hid (show vs.getD j undef = .slice B (ptG G i).length d ∧ j < (pG G).length ∧ (pG G).getD j [] = ptG G i from ⟨c3.symm, hj, e2⟩)
  have hjl : (j : Int) < (pG G).length := by omega
  generalize (ptG G i).length = n at *
  generalize hpn : (pG G).length = m at *
  clear hG hR hl1 e2 e3 e4 e5 c2 c3
  go_enter Tryz.func131, Tryz.ntmps131
  go_wp2_with (go_at_call 192; (with_reducible refine C.out.mono ?_); rintro e w1 ⟨rfl, rfl⟩)
  go_ret
  exact ⟨⟨j, B, d, rfl, E.out⟩, HB.out⟩
end Go.Proofs.YtlbjmkljmhfjdaaGreat
namespace Go.Proofs.YtlbjmkljmhfjdaaGreat
open Go Go.RowKit Go.Maps
noncomputable def selfB (G : List (List Nat)) (i : Nat) : Bool := decide ((i : Int) ∈ nums (adjG G i))
noncomputable def othB (G : List (List Nat)) (i : Nat) : Bool := decide (1 < (ptG G i).length)
noncomputable def sortN (G : List (List Nat)) (i : Nat) : Nat := match selfB G i, othB G i with
  | false, false => 0
  | true, false => 1
  | false, true => 2
  | true, true => 3
theorem others_any (A : Option Addr) (c : Nat) (vs : List Value) (G : List (List Nat)) (hR : RG G) (i : Nat) (hi : i < G.length) (w : World) (hG : Pts w A vs G) :
    Calls Tryz.prog 191 #[.slice A (pG G).length c, .int .i64 i] w fun e w' => e = .returned (.bool (othB G i)) ∧ Below w.heap.size w w' := by
  have C := Lib.hid (with_any A c vs G hR i hi w hG)
  have E := Lib.hid (show othB G i = decide (1 < (ptG G i).length) from rfl)
  generalize othB G i = o at E ⊢
  have hl := ptG_len hR hi
  generalize (ptG G i).length = n at *
  generalize (pG G).length = m at *
  clear hG hR
  go_enter Tryz.func191, Tryz.ntmps191
  go_wp2_with (go_at_call 131; (with_reducible refine C.out.mono ?_); rintro e w1 ⟨⟨j, B, d, rfl, _⟩, hb⟩; have HB := Lib.hid hb; clear hb)
  all_goals go_ret
  all_goals exact ⟨ret_bool (by rw [E.out, Bool.eq_iff_iff]; simp; omega), HB.out⟩
/-- A grammar at work, in memory. -/
structure Sw (B : Nat) (W : World) (p : Nat) (G : List (List Nat)) (A : Option Addr) (c : Nat) (vs : List Value) (GA : Option Addr) (gc : Nat) (gvs : List Value) : Prop where
  box : Blk W p #[.slice A (pG G).length c, .slice GA G.length gc] 142
  pts : Pts W A vs G
  graph : Gph W GA gvs (G.map nums)
  rows : RowsO B W vs (pG G)
  own : W.ownsRow B 38 1 (.slice A (pG G).length c) (pG G).length vs
theorem Sw.below {B : Nat} {W W' : World} {p : Nat} {G : List (List Nat)} {A : Option Addr} {c : Nat} {vs : List Value} {GA : Option Addr} {gc : Nat} {gvs : List Value} (h : Sw B W p G A c vs GA gc gvs) (hb : Below W.heap.size W W') : Sw B W' p G A c vs GA gc gvs :=
  ⟨h.box.below' hb, h.pts.below hb, h.graph.below hb, h.rows.below hb, own_below h.own hb⟩
set_option maxRecDepth 100000 in
theorem itself_any {B : Nat} {w : World} {p : Nat} {G : List (List Nat)} {A : Option Addr} {c : Nat} {vs : List Value} {GA : Option Addr} {gc : Nat} {gvs : List Value} (h : Sw B w p G A c vs GA gc gvs) (hR : RG G) (i : Nat) (hi : i < G.length) :
    Calls Tryz.prog 190 #[.pointer (some ⟨p, 0, none⟩), .int .i64 i] w fun e w' => e = .returned (.bool (selfB G i)) ∧ w' = w := by
  obtain ⟨b2, o2, B2, d2, eA, hb2, c4, hl2⟩ := h.graph.at_ (i := i) (by rw [List.length_map]; omega)
  rw [getD_map_nums, nums_len] at c4
  rw [getD_map_nums] at hl2
  have hll := hR.len i
  unfold adjG at hll
  have CT := Lib.hid (contains_any B2 d2 (G.getD i []).length (nums (G.getD i [])) i (by rw [nums_len]; omega) w hl2 (by rw [nums_len]))
  have hd1 : decide ((i : Int) ∈ nums (G.getD i [])) = selfB G i := rfl
  rw [hd1] at CT
  have c1 := h.box.cell 1
  simp only [List.getElem?_toArray, List.getElem?_cons_zero, List.getElem?_cons_succ] at c1
  have hxl : (i : Int) < G.length := by omega
  rw [eA] at c1
  have hg := hR.most
  generalize selfB G i = s at *
  generalize (G.getD i []).length = gl at *
  generalize G.length = gn at *
  clear h hl2 hd1 eA hR
  go_enter Tryz.func190, Tryz.ntmps190
  go_wp2_with (go_at_call 118; (with_reducible refine CT.out.mono ?_); rintro e w4 ⟨rfl, rfl⟩)
  go_ret
  exact ⟨rfl, rfl⟩
section
variable {B : Nat} {w : World} {p : Nat} {G : List (List Nat)} {A : Option Addr} {c : Nat} {vs : List Value} {GA : Option Addr} {gc : Nat} {gvs : List Value}
set_option maxRecDepth 100000 in
theorem none_any (h : Sw B w p G A c vs GA gc gvs) (hR : RG G) (i : Nat) (hi : i < G.length) :
    Calls Tryz.prog 130 #[.pointer (some ⟨p, 0, none⟩), .int .i64 i] w fun e w' => e = .returned (.bool (!selfB G i && !othB G i)) ∧ Below w.heap.size w w' := by
  have CI := Lib.hid (itself_any h hR i hi)
  have CO := Lib.hid (others_any A c vs G hR i hi w h.pts)
  have c0 := h.box.cell 0
  simp only [List.getElem?_toArray, List.getElem?_cons_zero] at c0
  generalize selfB G i = s at *
  generalize othB G i = o at *
  generalize (pG G).length = m at *
  clear h hR
  have HR := Lib.hid (Below.refl w.heap.size w)
  go_enter Tryz.func130, Tryz.ntmps130
  cases s <;> go_wp2_with (first | (go_at_call 190; (with_reducible refine CI.out.mono ?_); rintro e w4 ⟨rfl, rfl⟩) | (go_at_call 191; (with_reducible refine CO.out.mono ?_); rintro e w5 ⟨rfl, hb⟩; have HB := Lib.hid hb; clear hb))
  all_goals go_ret
  · exact ⟨ret_bool (by simp), HB.out⟩
  · exact ⟨ret_bool (by simp), HR.out⟩
set_option maxRecDepth 100000 in
theorem direct_any (h : Sw B w p G A c vs GA gc gvs) (hR : RG G) (i : Nat) (hi : i < G.length) :
    Calls Tryz.prog 225 #[.pointer (some ⟨p, 0, none⟩), .int .i64 i] w fun e w' => e = .returned (.bool (selfB G i && !othB G i)) ∧ Below w.heap.size w w' := by
  have CI := Lib.hid (itself_any h hR i hi)
  have CO := Lib.hid (others_any A c vs G hR i hi w h.pts)
  have c0 := h.box.cell 0
  simp only [List.getElem?_toArray, List.getElem?_cons_zero] at c0
  generalize selfB G i = s at *
  generalize othB G i = o at *
  generalize (pG G).length = m at *
  clear h hR
  have HR := Lib.hid (Below.refl w.heap.size w)
  go_enter Tryz.func225, Tryz.ntmps225
  cases s <;> go_wp2_with (first | (go_at_call 190; (with_reducible refine CI.out.mono ?_); rintro e w4 ⟨rfl, rfl⟩) | (go_at_call 191; (with_reducible refine CO.out.mono ?_); rintro e w5 ⟨rfl, hb⟩; have HB := Lib.hid hb; clear hb))
  all_goals go_ret
  · exact ⟨ret_bool (by simp), HR.out⟩
  · exact ⟨ret_bool (by simp), HB.out⟩
set_option maxRecDepth 100000 in
theorem indirect_any (h : Sw B w p G A c vs GA gc gvs) (hR : RG G) (i : Nat) (hi : i < G.length) :
    Calls Tryz.prog 226 #[.pointer (some ⟨p, 0, none⟩), .int .i64 i] w fun e w' => e = .returned (.bool (!selfB G i && othB G i)) ∧ Below w.heap.size w w' := by
  have CI := Lib.hid (itself_any h hR i hi)
  have CO := Lib.hid (others_any A c vs G hR i hi w h.pts)
  have c0 := h.box.cell 0
  simp only [List.getElem?_toArray, List.getElem?_cons_zero] at c0
  generalize selfB G i = s at *
  generalize othB G i = o at *
  generalize (pG G).length = m at *
  clear h hR
  have HR := Lib.hid (Below.refl w.heap.size w)
  go_enter Tryz.func226, Tryz.ntmps226
  cases s <;> go_wp2_with (first | (go_at_call 190; (with_reducible refine CI.out.mono ?_); rintro e w4 ⟨rfl, rfl⟩) | (go_at_call 191; (with_reducible refine CO.out.mono ?_); rintro e w5 ⟨rfl, hb⟩; have HB := Lib.hid hb; clear hb))
  all_goals go_ret
  · exact ⟨ret_bool (by simp), HB.out⟩
  · exact ⟨ret_bool (by simp), HR.out⟩
set_option maxRecDepth 100000 in
theorem both_any (h : Sw B w p G A c vs GA gc gvs) (hR : RG G) (i : Nat) (hi : i < G.length) :
    Calls Tryz.prog 227 #[.pointer (some ⟨p, 0, none⟩), .int .i64 i] w fun e w' => e = .returned (.bool (selfB G i && othB G i)) ∧ Below w.heap.size w w' := by
  have CI := Lib.hid (itself_any h hR i hi)
  have CO := Lib.hid (others_any A c vs G hR i hi w h.pts)
  have c0 := h.box.cell 0
  simp only [List.getElem?_toArray, List.getElem?_cons_zero] at c0
  generalize selfB G i = s at *
  generalize othB G i = o at *
  generalize (pG G).length = m at *
  clear h hR
  have HR := Lib.hid (Below.refl w.heap.size w)
  go_enter Tryz.func227, Tryz.ntmps227
  cases s <;> go_wp2_with (first | (go_at_call 190; (with_reducible refine CI.out.mono ?_); rintro e w4 ⟨rfl, rfl⟩) | (go_at_call 191; (with_reducible refine CO.out.mono ?_); rintro e w5 ⟨rfl, hb⟩; have HB := Lib.hid hb; clear hb))
  all_goals go_ret
  · exact ⟨ret_bool (by simp), HR.out⟩
  · exact ⟨ret_bool (by simp), HB.out⟩
end
end Go.Proofs.YtlbjmkljmhfjdaaGreat
namespace Go.Proofs.YtlbjmkljmhfjdaaGreat
open Go Go.RowKit Go.Maps
def lawF : Nat → FuncId
  | 0 => 130
  | 1 => 225
  | 2 => 226
  | _ => 227
def lawV (k : Nat) : Value := .func (.func (lawF k)) #[] #[]
def lawB (s o : Bool) : Nat → Bool
  | 0 => !s && !o
  | 1 => s && !o
  | 2 => !s && o
  | _ => s && o
theorem lawB_at (G : List (List Nat)) (i : Nat) : sortN G i < 4 ∧ lawB (selfB G i) (othB G i) (sortN G i) = true ∧ ∀ k, k < sortN G i → lawB (selfB G i) (othB G i) k = false := by
  unfold sortN
  generalize selfB G i = s
  generalize othB G i = o
  cases s <;> cases o <;> refine ⟨by decide, rfl, fun k hk => ?_⟩
  · simp at hk
  · obtain rfl | rfl : k = 0 ∨ k = 1 := by simp at hk; omega
    all_goals rfl
  · obtain rfl : k = 0 := by simp at hk; omega
    rfl
  · obtain rfl | rfl | rfl : k = 0 ∨ k = 1 ∨ k = 2 := by simp at hk; omega
    all_goals rfl
section
variable {B : Nat} {w : World} {p : Nat} {G : List (List Nat)} {A : Option Addr} {c : Nat} {vs : List Value} {GA : Option Addr} {gc : Nat} {gvs : List Value}
set_option maxRecDepth 100000 in
theorem oneLaw_any (h : Sw B w p G A c vs GA gc gvs) (hR : RG G) (i : Nat) (hi : i < G.length) (c1 c2 : Nat) (hc1 : w.cell? ⟨c1, 0, none⟩ = some (.pointer (some ⟨p, 0, none⟩))) (hc2 : w.cell? ⟨c2, 0, none⟩ = some (.int .i64 i)) (k : Nat) (hk : k < 4) :
    Calls Tryz.prog 189 #[lawV k, .pointer (some ⟨c1, 0, none⟩), .pointer (some ⟨c2, 0, none⟩)] w fun e w' => e = .returned (.bool (lawB (selfB G i) (othB G i) k)) ∧ Below w.heap.size w w' := by
  have C0 := Lib.hid (none_any h hR i hi)
  have C1 := Lib.hid (direct_any h hR i hi)
  have C2 := Lib.hid (indirect_any h hR i hi)
  have C3 := Lib.hid (both_any h hR i hi)
  generalize selfB G i = s at *
  generalize othB G i = o at *
  clear h hR
  obtain rfl | rfl | rfl | rfl : k = 0 ∨ k = 1 ∨ k = 2 ∨ k = 3 := by omega
  · show Calls Tryz.prog 189 #[.func (.func 130) #[] #[], .pointer (some ⟨c1, 0, none⟩), .pointer (some ⟨c2, 0, none⟩)] w _
    go_enter Tryz.func189, Tryz.ntmps189
    go_wp2_with (go_at_call 130; (with_reducible refine C0.out.mono ?_); rintro e w5 ⟨rfl, hb⟩; have HB := Lib.hid hb; clear hb)
    go_ret
    exact ⟨rfl, HB.out⟩
  · show Calls Tryz.prog 189 #[.func (.func 225) #[] #[], .pointer (some ⟨c1, 0, none⟩), .pointer (some ⟨c2, 0, none⟩)] w _
    go_enter Tryz.func189, Tryz.ntmps189
    go_wp2_with (go_at_call 225; (with_reducible refine C1.out.mono ?_); rintro e w5 ⟨rfl, hb⟩; have HB := Lib.hid hb; clear hb)
    go_ret
    exact ⟨rfl, HB.out⟩
  · show Calls Tryz.prog 189 #[.func (.func 226) #[] #[], .pointer (some ⟨c1, 0, none⟩), .pointer (some ⟨c2, 0, none⟩)] w _
    go_enter Tryz.func189, Tryz.ntmps189
    go_wp2_with (go_at_call 226; (with_reducible refine C2.out.mono ?_); rintro e w5 ⟨rfl, hb⟩; have HB := Lib.hid hb; clear hb)
    go_ret
    exact ⟨rfl, HB.out⟩
  · show Calls Tryz.prog 189 #[.func (.func 227) #[] #[], .pointer (some ⟨c1, 0, none⟩), .pointer (some ⟨c2, 0, none⟩)] w _
    go_enter Tryz.func189, Tryz.ntmps189
    go_wp2_with (go_at_call 227; (with_reducible refine C3.out.mono ?_); rintro e w5 ⟨rfl, hb⟩; have HB := Lib.hid hb; clear hb)
    go_ret
    exact ⟨rfl, HB.out⟩
end
set_option maxRecDepth 100000 in
set_option maxHeartbeats 1000000 in
theorem lawIndex_any (lb c1 c2 : Nat) (q : Nat → Bool) (n : Nat) (hn : n < 4) (hq : q n = true) (hlow : ∀ k, k < n → q k = false) (w : World)
    (hc : ∀ W, Below w.heap.size w W → ∀ k, k < 4 → W.cell? ⟨lb, k, none⟩ = some (lawV k))
    (HP : ∀ W, Below w.heap.size w W → ∀ k, k < 4 → Calls Tryz.prog 189 #[lawV k, .pointer (some ⟨c1, 0, none⟩), .pointer (some ⟨c2, 0, none⟩)] W fun e w' => e = .returned (.bool (q k)) ∧ Below W.heap.size W w') :
    Calls Tryz.prog 188 #[.slice (some ⟨lb, 0, none⟩) 4 4, .func (.func 189) #[] #[.pointer (some ⟨c1, 0, none⟩), .pointer (some ⟨c2, 0, none⟩)]] w fun e w' => e = .returned (.int .i64 n) ∧ Below w.heap.size w w' := by
  have HC := Lib.hid hc
  have HPP := Lib.hid HP
  have HQ := Lib.hid hq
  have HL := Lib.hid hlow
  clear hc HP hq hlow
  go_enter Tryz.func188, Tryz.ntmps188
  go_wp2_with fail
  go_loopw [8, 5] (fun i _ wr => ∃ (k : Nat), k ≤ n ∧ i = .int .i64 k ∧ Below w.heap.size w wr) (fun i _ _ => 4 - (RowKit.intOf i).toNat)
  case atStart => exact ⟨0, by omega, rfl, Below.refl _ _⟩
  case round =>
    obtain ⟨k, hk, rfl, hb⟩ := hrel
    have BL := Lib.hid hb
    have hk4 : k < 4 := by omega
    have hlt2 : (k : Int) < 4 := by omega
    have c1 := HC.out wr hb k hk4
    have CP := Lib.hid (HPP.out wr hb k hk4)
    obtain ⟨v, ev⟩ : ∃ v, v = lawV k := ⟨_, rfl⟩
    rw [← ev] at c1 CP
    clear hb ev
    by_cases e : k = n
    · subst e
      rw [HQ.out] at CP
      go_wp2_with (go_at_call 189; (with_reducible refine CP.out.mono ?_); rintro e w5 ⟨rfl, hb⟩; have HB := Lib.hid (BL.out.trans (hb.mono BL.out.size)); clear hb)
      go_ret
      exact ⟨rfl, HB.out⟩
    · rw [HL.out k (by omega)] at CP
      go_wp2_with (go_at_call 189; (with_reducible refine CP.out.mono ?_); rintro e w5 ⟨rfl, hb⟩; have HB := Lib.hid (BL.out.trans (hb.mono BL.out.size)); clear hb)
      go_roundw
      case rel => exact ⟨k + 1, by omega, by go_num, HB.out⟩
      case measure => simp [RowKit.intOf]; omega
end Go.Proofs.YtlbjmkljmhfjdaaGreat
namespace Go.Proofs.YtlbjmkljmhfjdaaGreat
open Go Go.ChangeShapes Go.WideShapes Go.ChangeAt Go.RowKit Go.Joins Go.Deep
end Go.Proofs.YtlbjmkljmhfjdaaGreat
namespace Go.Proofs.YtlbjmkljmhfjdaaGreat
open Go Go.RowKit Go.Maps
theorem graphOf_RG {g : Gr} (hR : Right g) : RG (graphOf g) := by
  have h32 := hR.rules.2
  have e : ∀ i, (graphOf g).getD i [] = if i < g.rules.length then lcal g i else [] := fun i => by
    by_cases h : i < g.rules.length
    · rw [graphOf_at h, if_pos h]
    · rw [if_neg h]
      have := graphOf_len g
      simp [List.getD, List.getElem?_eq_none (show (graphOf g).length ≤ i by omega)]
  refine ⟨by rw [graphOf_len]; omega, fun i => ?_, fun i b hb => ?_⟩
  · rw [e i]
    split
    · exact (List.pairwise_lt_range).filter _
    · exact List.Pairwise.nil
  · rw [e i] at hb
    split at hb
    · rw [graphOf_len]; exact lcal_lt hb
    · cases hb
theorem Rows2.gph {w W : World} {gb : Nat} {vs : List Value} {G : List (List Nat)} (h : Rows2 w W gb vs G) (hl : G.length ≤ 1000) (hls : ∀ i, i < G.length → (G.getD i []).length ≤ 1000) : Gph W (some ⟨gb, 0, none⟩) vs (G.map nums) := by
  refine ⟨by rw [List.length_map]; exact h.len, fun _ => ⟨gb, 0, rfl, h.blk.lt, fun i _ => by rw [Nat.zero_add, h.blk.cell, List.getElem?_toArray]⟩, fun i hi => ?_, by rw [List.length_map]; omega, fun i hi => ?_⟩
  · rw [List.length_map] at hi
    have ho := h.row i hi
    obtain ⟨A, c, e, _, _⟩ := own_slice ho
    rw [e] at ho
    refine ⟨A, c, ?_, ?_⟩
    · rw [e, getD_map_nums, nums_len]
    · rw [getD_map_nums]; exact own_lies1 ho
  · rw [List.length_map] at hi
    rw [getD_map_nums, nums_len]
    have := hls i hi
    omega
/-- What a grammar at work is told by: its place, parts, graph. -/
structure SwAt (B : Nat) (W : World) (p : Nat) (G : List (List Nat)) : Prop where
  out : ∃ A c vs GA gc gvs, Sw B W p G A c vs GA gc gvs
theorem SwAt.below {B : Nat} {W W' : World} {p : Nat} {G : List (List Nat)} (h : SwAt B W p G) (hb : Below W.heap.size W W') : SwAt B W' p G := by
  obtain ⟨A, c, vs, GA, gc, gvs, h⟩ := h.out
  exact ⟨A, c, vs, GA, gc, gvs, h.below hb⟩
set_option maxRecDepth 100000 in
set_option maxHeartbeats 1000000 in
theorem sWork_no (g : Gr) (w : World) (hg : Gr.At w g) (hin : Gr.In g) (hr : rightB g = false) : Calls Tryz.prog 127 #[g.val] w fun e w' => e = .returned (.tuple #[.pointer none, .bool false]) ∧ Below w.heap.size w w' := by
  have RI := Lib.hid (fun (w' : World) (b : Below w.heap.size w w') => by have := right_all g w' (hg.below b) hin; rw [hr] at this; exact this)
  clear hg hin hr
  show Calls Tryz.prog 127 #[.agg #[.slice g.RA g.rules.length g.rc, .slice g.NA g.nodes.length g.nc]] w _
  go_enter Tryz.func127, Tryz.ntmps127
  go_wp2_with (go_at_call 138; (with_reducible refine (RI.out _ (B1 _ _)).mono ?_); rintro e w1 ⟨rfl, hb⟩; have H1 := Lib.hid (bb (B1 w _) hb); clear hb)
  go_ret2
  exact ⟨rfl, H1.out⟩
set_option maxRecDepth 100000 in
set_option maxHeartbeats 1000000 in
theorem sWork_yes (g : Gr) (w : World) (hg : Gr.At w g) (hin : Gr.In g) (hc : Capd g) (hR : Right g) : Calls Tryz.prog 127 #[g.val] w fun e w' => ∃ p, e = .returned (.tuple #[.pointer (some ⟨p, 0, none⟩), .bool true]) ∧ SwAt w.heap.size w' p (graphOf g) ∧ Below w.heap.size w w' := by
  have hr := rightB_true.2 hR
  have RI := Lib.hid (fun (w' : World) (b : Below w.heap.size w w') => by have := right_all g w' (hg.below b) hin; rw [hr] at this; exact this)
  have GR := Lib.hid (fun (w' : World) (b : Below w.heap.size w w') => graph_any g w' (hg.below b) hin hc hR)
  have RGG := Lib.hid (graphOf_RG hR)
  have GL := Lib.hid (graphOf_len g)
  have PR := Lib.hid (fun A c vs W (h : Gph W A vs ((graphOf g).map nums)) => Parts_any A c vs (graphOf g) RGG.out W h)
  have RGP := Lib.hid (fun (W W' : World) gb vs (h : Rows2 W W' gb vs (graphOf g)) => h.gph (by have := RGG.out.most; omega) (fun i _ => by have := RGG.out.len i; unfold adjG at this; omega))
  have PSM := Lib.hid (pG_small RGG.out)
  have h32 := hR.rules.2
  rw [← GL.out] at GR h32
  clear hg hin hc hR hr
  generalize graphOf g = G at *
  obtain ⟨m, em⟩ : ∃ m, m = g.rules.length := ⟨_, rfl⟩
  have EM := Lib.hid em
  rw [GL.out] at GR h32
  show Calls Tryz.prog 127 #[.agg #[.slice g.RA g.rules.length g.rc, .slice g.NA g.nodes.length g.nc]] w _
  have RI2 : RowKit.Hid (∀ (w' : World), Below w.heap.size w w' → Calls Tryz.prog 138 #[.agg #[.slice g.RA m g.rc, .slice g.NA g.nodes.length g.nc]] w' fun e w'' => e = .returned (.bool true) ∧ Below w'.heap.size w' w'') := Lib.hid (by rw [em]; exact RI.out)
  have GR2 : RowKit.Hid (∀ (w' : World), Below w.heap.size w w' → Calls Tryz.prog 23 #[.agg #[.slice g.RA m g.rc, .slice g.NA g.nodes.length g.nc]] w' fun e w'' => ∃ gb vs, e = .returned (.slice (some ⟨gb, 0, none⟩) m m) ∧ Rows2 w' w'' gb vs G) := Lib.hid (by rw [em]; exact GR.out)
  rw [← em] at h32 ⊢
  have GL2 := Lib.hid (GL.out.trans em.symm)
  clear RI GR em GL
  go_enter Tryz.func127, Tryz.ntmps127
  go_wp2_with fail
  refine (RI2.out _ (B1 _ _)).mono ?_
  rintro e w1 ⟨rfl, hb⟩
  have H1 := Lib.hid (bb (B1 w _) hb)
  have K1 := Lib.hid ((Blk.new w #[.slice g.RA m g.rc, .slice g.NA g.nodes.length g.nc] 25).below' hb)
  have a0 := K1.out.cell 0
  have a1 := K1.out.cell 1
  simp only [List.getElem?_toArray, List.getElem?_cons_zero, List.getElem?_cons_succ] at a0 a1
  clear hb
  go_wp2_with fail
  refine (GR2.out _ H1.out).mono ?_
  rintro e w2 ⟨gb, gvs, rfl, hrw⟩
  have HG2 := Lib.hid (RGP.out _ _ _ _ hrw)
  have H2 := Lib.hid (bb H1.out hrw.low)
  have P2 := Lib.hid (PR.out _ m gvs w2 HG2.out)
  rw [GL2.out] at P2
  clear hrw a0 a1
  go_wp2_with fail
  refine P2.out.mono ?_
  rintro e w3 ⟨v3, vs3, rfl, ho3, hr3, hb3⟩
  obtain ⟨A3, c3, rfl, hg3⟩ := gph_parts ho3 hr3 PSM.out.1 (fun i hi => (PSM.out.2 i hi).2)
  have O3 := Lib.hid (own_lower ho3 H2.out.size)
  have R3 := Lib.hid (hr3.lower H2.out.size)
  have G3 := Lib.hid hg3
  have GG3 := Lib.hid (HG2.out.below hb3)
  have H3 := Lib.hid (bb H2.out hb3)
  obtain ⟨pl, epl⟩ : ∃ pl, pl = (pG G).length := ⟨_, rfl⟩
  have EPL := Lib.hid epl
  rw [← epl]
  clear ho3 hr3 hg3 hb3 P2 epl
  go_wp2_with fail
  go_ret2
  refine ⟨_, rfl, ⟨A3, c3, vs3, some ⟨gb, 0, none⟩, m, gvs, ?_⟩, H3.out.trans ((B1 w3 _).mono H3.out.size)⟩
  refine ⟨?_, ⟨G3.out.below (B1 _ _)⟩, GG3.out.below (B1 _ _), R3.out.below (B1 _ _), own_below O3.out (B1 _ _)⟩
  rw [← EPL.out, GL2.out]
  exact Blk.new _ _ _
end Go.Proofs.YtlbjmkljmhfjdaaGreat
namespace Go.Proofs.YtlbjmkljmhfjdaaGreat
open Go Go.RowKit Go.Maps
set_option maxRecDepth 100000 in
theorem sLaws_any (w : World) : Calls Tryz.prog 187 #[] w fun e w' => e = .returned (.agg #[lawV 0, lawV 1, lawV 2, lawV 3]) ∧ Below w.heap.size w w' := by
  go_enter Tryz.func187, Tryz.ntmps187
  go_upto_region 1 with fail
  obtain ⟨w1, ew1⟩ : ∃ u, u = w.alloc (.cells #[.nilFunc, .nilFunc, .nilFunc, .nilFunc] 206) := ⟨_, rfl⟩
  have HB1 := Lib.hid (show Below w.heap.size w w1 from by rw [ew1]; exact B1 _ _)
  have HK1 := Lib.hid (show Blk w1 w.heap.size #[.nilFunc, .nilFunc, .nilFunc, .nilFunc] 206 from by rw [ew1]; exact Blk.new _ _ _)
  rw [← ew1]
  clear ew1
  go_wp2_with (refine wpList_store_whole rfl 206 (.tmp 0) (.tmp 1) rfl w.heap.size #[lawV 0, lawV 1, lawV 2, lawV 3] rfl rfl 206 _ HK1.out (by kernel_rfl) (by rfl) (by simp [Value.oneCell', lawV]) ?_; intro w2 hk2 hg2; have K2 := Lib.hid hk2; have H2 := Lib.hid (grown_below HB1.out (HB1.out.size) hg2 (fun k e => by cases e; exact Nat.le_refl _)); clear hk2 hg2)
  refine bodyPost_ret (results_cell_row rfl _ _ w.heap.size 206 _ (0, 0) _ rfl K2.out Tryz.underlying206 rfl (by kernel_rfl)) rfl ?_
  exact ⟨rfl, H2.out⟩
set_option maxRecDepth 100000 in
set_option maxHeartbeats 1000000 in
theorem sSort_any {B : Nat} {w : World} {p : Nat} {G : List (List Nat)} (h : SwAt B w p G) (hR : RG G) (i : Nat) (hi : i < G.length) :
    Calls Tryz.prog 128 #[.pointer (some ⟨p, 0, none⟩), .int .i64 i] w fun e w' => e = .returned (.int .i64 (sortN G i)) ∧ Below w.heap.size w w' := by
  obtain ⟨A, c, vs, GA, gc, gvs, h⟩ := h.out
  have LI := Lib.hid (fun (W : World) (lb c1 c2 : Nat) (hb : Below w.heap.size w W) (hc1 : W.cell? ⟨c1, 0, none⟩ = some (.pointer (some ⟨p, 0, none⟩))) (hl1 : c1 < W.heap.size) (hc2 : W.cell? ⟨c2, 0, none⟩ = some (.int .i64 i)) (hl2 : c2 < W.heap.size) (hk : Blk W lb #[lawV 0, lawV 1, lawV 2, lawV 3] 206) =>
    lawIndex_any lb c1 c2 (lawB (selfB G i) (othB G i)) (sortN G i) (lawB_at G i).1 (lawB_at G i).2.1 (lawB_at G i).2.2 W
      (fun W' b k hk4 => by
        rw [(hk.below' b).cell]
        obtain rfl | rfl | rfl | rfl : k = 0 ∨ k = 1 ∨ k = 2 ∨ k = 3 := by omega
        all_goals rfl)
      (fun W' b k hk4 => oneLaw_any (h.below (hb.trans (b.mono hb.size))) hR i hi c1 c2 ((b.cell (p := ⟨c1, 0, none⟩) hl1).trans hc1) ((b.cell (p := ⟨c2, 0, none⟩) hl2).trans hc2) k hk4))
  have LW := Lib.hid (fun W => sLaws_any W)
  generalize sortN G i = n at *
  clear h hR
  go_enter Tryz.func128, Tryz.ntmps128
  go_upto_region 2 with (first | (go_at_call 187; (with_reducible refine (LW.out _).mono ?_); rintro e w3 ⟨rfl, hb⟩; have H3 := Lib.hid ((B2 w _ _).trans (hb.mono (by simp; omega))); have Q1 := Lib.hid (((Blk.new w #[.pointer (some ⟨p, 0, none⟩)] 137).alloc (.cells #[.int .i64 i] 3)).below' hb); have Q2 := Lib.hid ((Blk.new (w.alloc (.cells #[.pointer (some ⟨p, 0, none⟩)] 137)) #[.int .i64 i] 3).below' hb); clear hb) | (refine wpList_store_whole rfl 206 (.tmp 5) (.tmp 6) rfl w3.heap.size #[lawV 0, lawV 1, lawV 2, lawV 3] rfl rfl 206 _ (Blk.new _ _ _) (by kernel_rfl) (by rfl) (by simp [Value.oneCell', lawV]) ?_; intro w4 hk2 hg2; have K4 := Lib.hid hk2; have H4 := Lib.hid (grown_below (B1 w3 _) (by simp) hg2 (fun k e => by cases e; exact Nat.le_refl _)); clear hk2 hg2))
  have HB4 := Lib.hid (H3.out.trans (H4.out.mono H3.out.size))
  have Z1 := Lib.hid (Q1.out.below' H4.out)
  have Z2 := Lib.hid (Q2.out.below' H4.out)
  have hsz : (w.alloc (.cells #[.pointer (some ⟨p, 0, none⟩)] 137)).heap.size = w.heap.size + 1 := by simp
  have C4 := Lib.hid (LI.out w4 w3.heap.size w.heap.size (w.heap.size + 1) HB4.out (Z1.out.cell 0) Z1.out.lt (by have := Z2.out.cell 0; rw [hsz] at this; exact this) (by have := Z2.out.lt; rw [hsz] at this; exact this) K4.out)
  clear hsz LI Q1 Q2 H3 H4 K4
  generalize w3.heap.size = lb at *
  go_wp2_with (go_at_call 188; (with_reducible refine C4.out.mono ?_); rintro e w5 ⟨rfl, hb⟩; have H5 := Lib.hid (HB4.out.trans (hb.mono HB4.out.size)); clear hb)
  go_ret
  exact ⟨rfl, H5.out⟩
end Go.Proofs.YtlbjmkljmhfjdaaGreat
namespace Go.Proofs.YtlbjmkljmhfjdaaGreat
open Go Go.RowKit Go.Maps
/-- A right grammar, and a rule of it. -/
def okI (g : Gr) (i : Int) : Prop := rightB g = true ∧ 0 ≤ i ∧ i < g.rules.length
noncomputable def sofN (g : Gr) (i : Int) : Nat := by classical exact if okI g i then sortN (graphOf g) i.toNat else 0
theorem sofN_yes {g : Gr} {i : Int} (h : okI g i) : sofN g i = sortN (graphOf g) i.toNat := by unfold sofN; rw [if_pos h]
theorem sofN_no {g : Gr} {i : Int} (h : ¬ okI g i) : sofN g i = 0 := by unfold sofN; rw [if_neg h]
set_option maxRecDepth 100000 in
set_option maxHeartbeats 1000000 in
theorem sWith_no (g : Gr) (i : Int) (w : World) (hg : Gr.At w g) (hin : Gr.In g) (h : ¬ okI g i) : Calls Tryz.prog 129 #[g.val, .int .i64 i] w fun e w' => e = .returned (.tuple #[.pointer none, .bool false]) ∧ Below w.heap.size w w' := by
  have WN := Lib.hid (fun (w' : World) (b : Below w.heap.size w w') (hr : rightB g = false) => sWork_no g w' (hg.below b) hin hr)
  have OK := Lib.hid h
  have hrl := hg.rl
  clear hg hin h
  obtain ⟨R, eR⟩ : ∃ R, R = g.rules.length := ⟨_, rfl⟩
  have ER := Lib.hid eR
  show Calls Tryz.prog 129 #[.agg #[.slice g.RA g.rules.length g.rc, .slice g.NA g.nodes.length g.nc], .int .i64 i] w _
  have WN2 : RowKit.Hid (∀ (w' : World), Below w.heap.size w w' → rightB g = false → Calls Tryz.prog 127 #[.agg #[.slice g.RA R g.rc, .slice g.NA g.nodes.length g.nc]] w' fun e w'' => e = .returned (.tuple #[.pointer none, .bool false]) ∧ Below w'.heap.size w' w'') := Lib.hid (by rw [eR]; exact WN.out)
  rw [← eR] at hrl ⊢
  clear eR WN
  have HB1 := Lib.hid (B1 w (.cells #[.slice g.RA R g.rc, .slice g.NA g.nodes.length g.nc] 25))
  go_enter Tryz.func129, Tryz.ntmps129
  by_cases h0 : i < 0
  · go_wp2_with fail
    go_ret2
    exact ⟨rfl, HB1.out⟩
  · by_cases h1 : (R : Int) ≤ i
    · go_wp2_with fail
      go_ret2
      exact ⟨rfl, HB1.out⟩
    · cases hr : rightB g with
      | true =>
        exact absurd ⟨hr, by omega, by have := ER.out; omega⟩ OK.out
      | false =>
        have C := Lib.hid (WN2.out _ HB1.out hr)
        clear hr WN2
        go_wp2_with (go_at_call 127; (with_reducible refine C.out.mono ?_); rintro e w1 ⟨rfl, hb⟩; have H1 := Lib.hid (bb HB1.out hb); clear hb)
        go_ret2
        exact ⟨rfl, H1.out⟩
set_option maxRecDepth 100000 in
set_option maxHeartbeats 1000000 in
theorem sWith_yes (g : Gr) (i : Int) (w : World) (hg : Gr.At w g) (hin : Gr.In g) (hc : Capd g) (h : okI g i) : Calls Tryz.prog 129 #[g.val, .int .i64 i] w fun e w' => ∃ p, e = .returned (.tuple #[.pointer (some ⟨p, 0, none⟩), .bool true]) ∧ SwAt w.heap.size w' p (graphOf g) ∧ Below w.heap.size w w' := by
  obtain ⟨hr, h0, h1⟩ := h
  have WN := Lib.hid (fun (w' : World) (b : Below w.heap.size w w') => sWork_yes g w' (hg.below b) hin hc (rightB_true.1 hr))
  have hrl := hg.rl
  clear hg hin hc hr
  obtain ⟨R, eR⟩ : ∃ R, R = g.rules.length := ⟨_, rfl⟩
  show Calls Tryz.prog 129 #[.agg #[.slice g.RA g.rules.length g.rc, .slice g.NA g.nodes.length g.nc], .int .i64 i] w _
  have WN2 : RowKit.Hid (∀ (w' : World), Below w.heap.size w w' → Calls Tryz.prog 127 #[.agg #[.slice g.RA R g.rc, .slice g.NA g.nodes.length g.nc]] w' fun e w'' => ∃ p, e = .returned (.tuple #[.pointer (some ⟨p, 0, none⟩), .bool true]) ∧ SwAt w'.heap.size w'' p (graphOf g) ∧ Below w'.heap.size w' w'') := Lib.hid (by rw [eR]; exact WN.out)
  rw [← eR] at hrl h1 ⊢
  clear eR WN
  have HB1 := Lib.hid (B1 w (.cells #[.slice g.RA R g.rc, .slice g.NA g.nodes.length g.nc] 25))
  have h0' : ¬ i < 0 := by omega
  have h1' : ¬ (R : Int) ≤ i := by omega
  clear h0 h1
  go_enter Tryz.func129, Tryz.ntmps129
  have C := Lib.hid (WN2.out _ HB1.out)
  clear WN2
  go_wp2_with (go_at_call 127; (with_reducible refine C.out.mono ?_); rintro e w1 ⟨p, rfl, hs, hb⟩; have HS := Lib.hid hs; have H1 := Lib.hid (bb HB1.out hb); clear hb hs)
  go_ret2
  obtain ⟨A, c, vs, GA, gc, gvs, h⟩ := HS.out.out
  exact ⟨p, rfl, ⟨A, c, vs, GA, gc, gvs, h.box, h.pts, h.graph, h.rows.lower HB1.out.size, own_lower h.own HB1.out.size⟩, H1.out⟩
set_option maxRecDepth 100000 in
set_option maxHeartbeats 1000000 in
theorem sOf_any (g : Gr) (i : Int) (w : World) (hg : Gr.At w g) (hin : Gr.In g) (hc : Capd g) : Calls Tryz.prog 63 #[g.val, .int .i64 i] w fun e w' => e = .returned (.int .i64 (sofN g i)) ∧ Below w.heap.size w w' := by
  have HB1 := Lib.hid (B1 w (.cells #[.slice g.RA g.rules.length g.rc, .slice g.NA g.nodes.length g.nc] 25))
  have NO := Lib.hid (fun (h : ¬ okI g i) => sWith_no g i _ (hg.below HB1.out) hin h)
  have YES := Lib.hid (fun (h : okI g i) => sWith_yes g i _ (hg.below HB1.out) hin hc h)
  have SS := Lib.hid (fun (h : okI g i) (B : Nat) (W : World) p (hS : SwAt B W p (graphOf g)) => sSort_any hS (graphOf_RG (rightB_true.1 h.1)) i.toNat (by rw [graphOf_len]; have := h.2.1; have := h.2.2; omega))
  have E1 := Lib.hid (fun (h : okI g i) => sofN_yes h)
  have E0 := Lib.hid (fun (h : ¬ okI g i) => sofN_no h)
  have EI := Lib.hid (fun (h : okI g i) => show ((i.toNat : Nat) : Int) = i from Int.toNat_of_nonneg h.2.1)
  generalize sofN g i = n at *
  generalize graphOf g = G at *
  clear hg hin hc
  show Calls Tryz.prog 63 #[.agg #[.slice g.RA g.rules.length g.rc, .slice g.NA g.nodes.length g.nc], .int .i64 i] w _
  go_enter Tryz.func63, Tryz.ntmps63
  by_cases h : okI g i
  · have C1 := Lib.hid (YES.out h)
    have C2 := Lib.hid (SS.out h)
    rw [EI.out h] at C2
    have E := Lib.hid (E1.out h)
    clear NO YES SS E1 E0 EI h
    go_wp2_with (first | (go_at_call 129; (refine C1.out.mono ?_); rintro e w1 ⟨p, rfl, hs, hb⟩; have C3 := Lib.hid (C2.out _ _ _ hs); have H1 := Lib.hid (bb HB1.out hb); clear hb hs) | (go_at_call 128; (with_reducible refine C3.out.mono ?_); rintro e w2 ⟨rfl, hb⟩; have H2 := Lib.hid (H1.out.trans (hb.mono H1.out.size)); clear hb))
    go_ret
    exact ⟨by rw [E.out]; rfl, H2.out⟩
  · have C1 := Lib.hid (NO.out h)
    have E := Lib.hid (E0.out h)
    clear NO YES SS E1 E0 EI h
    go_wp2_with (go_at_call 129; (refine C1.out.mono ?_); rintro e w1 ⟨rfl, hb⟩; have H1 := Lib.hid (bb HB1.out hb); clear hb)
    go_ret
    exact ⟨by rw [E.out]; rfl, H1.out⟩
end Go.Proofs.YtlbjmkljmhfjdaaGreat
namespace Go.Proofs.YtlbjmkljmhfjdaaGreat
open Go Go.Proofs Go.RowKit Go.Lib Go.Maps
theorem getD_in {l : List Nat} {q : Nat} (h : q < l.length) : l.getD q 0 ∈ l := by simp [List.getD, List.getElem?_eq_getElem h]
theorem getD_is {l : List Nat} {q : Nat} (h : q < l.length) : l.getD q 0 = l[q] := by simp [List.getD, List.getElem?_eq_getElem h]
theorem RG_nil : RG [] := ⟨by simp, fun i => by simp, fun i b h => by simp at h⟩
theorem RG_Z (g : Gr) : RG (graphZ g) := by
  by_cases h : rightB g = true
  · rw [graphZ_yes h]; exact graphOf_RG (rightB_true.1 h)
  · rw [graphZ_no h]; exact RG_nil
theorem fw_rG {G : List (List Nat)} (hR : RG G) {a k : Nat} (ha : a < G.length) (hk : k < G.length) : rG G a k = fw (adjG G) G.length a k := by
  rw [Bool.eq_iff_iff, rG_is G G.length a k ha hk]
  exact (fw_is hR.inR a k ha hk).symm
theorem prt_G {G : List (List Nat)} (hR : RG G) : Prt G.length (fw (adjG G) G.length) (pG G) (putG G) where
  zero := fun k hk => by
    rw [Bool.eq_false_iff]
    intro h
    have := (put_iff hR hk (Nat.zero_le _)).1 h
    omega
  len := by
    rw [pG_len]
    unfold sG sccs
    rw [List.length_map]
    have := List.length_filter_le (c_least (rG G)) (List.range G.length)
    rw [List.length_range] at this
    exact this
  next := fun t ht => by
    obtain ⟨h1, h2, h3, h4⟩ := open_least hR (fw_is hR.inR) ht
    have hpt : (pG G).getD t [] = rowOf' G.length (fun k => fw (adjG G) G.length (((pG G).getD t []).getD 0 0) k && fw (adjG G) G.length k (((pG G).getD t []).getD 0 0)) := by
      generalize ((pG G).getD t []).getD 0 0 = a0 at h1 h4
      rw [← h4]
      show rowOf' G.length (fun x => rG G a0 x && rG G x a0) = _
      exact rowOf_congr fun k hk => by rw [fw_rG hR h1 hk, fw_rG hR hk h1]
    refine ⟨_, h1, h2, h3, hpt, fun k hk => ?_⟩
    have hm : (fw (adjG G) G.length (((pG G).getD t []).getD 0 0) k && fw (adjG G) G.length k (((pG G).getD t []).getD 0 0)) = true ↔ k ∈ (pG G).getD t [] := by
      constructor
      · intro h
        rw [hpt]
        exact rowOf_mem.2 ⟨hk, h⟩
      · intro h
        have h5 := h
        rw [hpt] at h5
        exact (rowOf_mem.1 h5).2
    rw [Bool.eq_iff_iff, Bool.or_eq_true_iff, hm, put_iff hR hk (show t + 1 ≤ (pG G).length by omega), put_iff hR hk (show t ≤ (pG G).length by omega)]
    obtain ⟨p1, _, _, p4, _⟩ := pos_of hR hk
    constructor
    · intro h
      by_cases e : posG G k = t
      · right; rw [← e]; exact p4
      · left; omega
    · rintro (h | h)
      · omega
      · have := (pos_eq hR ht h).2; omega
  all := fun k hk => (put_iff hR hk (Nat.le_refl _)).2 (pos_of hR hk).1
theorem r13Parts_any (G : List (List Nat)) (hR : RG G) (A : Option Addr) (c : Nat) (w : World) (hx : RR w A G) :
    Calls Tryz.prog 53 #[.slice A G.length c] w fun e w' => RRE w' (pG G) e ∧ Below w.heap.size w w' :=
  r13Parts_gen G hR (pG G) (putG G) (prt_G hR) A c w hx
theorem ptG_le {G : List (List Nat)} (hR : RG G) (i : Nat) : (ptG G i).length ≤ 64 := by
  have h := rowOf_len (fun x => rG G i x && rG G x i) G.length
  have := hR.most
  show (rowOf' G.length (fun x => rG G i x && rG G x i)).length ≤ 64
  omega
theorem part_le {G : List (List Nat)} (hR : RG G) (j : Nat) : ((pG G).getD j []).length ≤ 64 ∧ (pG G).length ≤ 64 := by
  obtain ⟨h1, h2⟩ := pG_small hR
  refine ⟨?_, h1⟩
  by_cases hj : j < (pG G).length
  · exact (h2 j hj).2
  · simp [List.getD, List.getElem?_eq_none (Nat.le_of_not_lt hj)]
set_option maxRecDepth 100000 in
set_option maxHeartbeats 16000000 in
theorem r13Part_any (G : List (List Nat)) (hR : RG G) (a : Nat) (ha : a < G.length) (A : Option Addr) (c : Nat) (w : World) (hx : RR w A G) :
    Calls Tryz.prog 51 #[.slice A G.length c, .int .i64 a] w fun e w' => e = .returned (.int .i64 (posG G a)) ∧ Below w.heap.size w w' := by
  have PA := Lib.hid (r13Parts_any G hR A c w hx)
  have POS := Lib.hid (fun j (hj : j < (pG G).length) (h : a ∈ (pG G).getD j []) => (pos_eq hR hj h).2)
  have HAS := Lib.hid (show posG G a < (pG G).length ∧ a ∈ (pG G).getD (posG G a) [] from ⟨(pos_of hR ha).1, (pos_of hR ha).2.2.2.1⟩)
  have LE := Lib.hid (fun j => part_le hR j)
  clear hx hR ha
  generalize posG G a = z at POS HAS ⊢
  generalize pG G = P at PA POS HAS LE
  generalize G.length = n at PA ⊢
  go_enter Tryz.func51, Tryz.ntmps51
  go_wp2_with (go_at_call 53; (with_reducible refine PA.out.mono ?_); rintro e w1 ⟨⟨LA, lc, rfl, hr⟩, hb⟩; have HR := Lib.hid hr; have H1 := Lib.hid hb; clear hb hr)
  have hpl := (LE.out 0).2
  go_loopw [6] (fun iv wr => ∃ i : Nat, i ≤ P.length ∧ iv = .int .i64 i ∧ (∀ j, j < i → a ∉ P.getD j []) ∧ wr = w1) (fun iv _ => P.length - (RowKit.intOf iv).toNat)
  case atStart => exact ⟨0, by omega, by go_num, fun j hj => by omega, rfl⟩
  case round =>
    obtain ⟨i, hi, rfl, hno, ew⟩ := hrel
    subst ew
    have HNO := Lib.hid hno
    clear hno
    by_cases hil : i < P.length
    · have hil2 : (i : Int) < P.length := by omega
      obtain ⟨xb, xo, Ai, ci, eA, _, cx, lx⟩ := HR.out i hil
      have LX := Lib.hid lx
      have EA := Lib.hid eA
      have hln := (LE.out i).1
      rw [eA]
      clear lx eA
      go_wp2_with fail
      obtain ⟨wq, rfl⟩ : ∃ u, u = wr := ⟨_, rfl⟩
      go_loopw [7] (fun iv wr => ∃ p : Nat, p ≤ (P.getD i []).length ∧ iv = .int .i64 p ∧ (∀ q, q < p → (P.getD i []).getD q 0 ≠ a) ∧ wr = wq) (fun iv _ => (P.getD i []).length - (RowKit.intOf iv).toNat)
      case atStart => exact ⟨0, by omega, by go_num, fun q hq => by omega, rfl⟩
      case round =>
        obtain ⟨p, hp, rfl, hq, ew⟩ := hrel
        subst ew
        have HQ := Lib.hid hq
        clear hq
        by_cases hpl2 : p < (P.getD i []).length
        · have hpl3 : (p : Int) < (P.getD i []).length := by omega
          obtain ⟨yb, yo, eY, _, cy⟩ := lies_cell (l := nums (P.getD i [])) LX.out (k := p) (by rw [nums_len]; exact hpl2)
          rw [nums_at2 _ p hpl2] at cy
          subst eY
          have hmem : (P.getD i []).getD p 0 ∈ P.getD i [] := getD_in hpl2
          have FOUND := Lib.hid (fun (e : (P.getD i []).getD p 0 = a) => POS.out i hil (by rw [← e]; exact hmem))
          have NX := Lib.hid (fun (e : (P.getD i []).getD p 0 ≠ a) q (hq : q < p + 1) => show (P.getD i []).getD q 0 ≠ a from if e2 : q = p then by rw [e2]; exact e else HQ.out q (by omega))
          generalize (P.getD i []).getD p 0 = y at cy FOUND NX
          clear hmem
          generalize (P.getD i []).length = ak at cx hp hpl2 hpl3 hln
          by_cases e : y = a
          · have EZ := Lib.hid (FOUND.out e)
            have e2 : (y : Int) = a := by omega
            clear FOUND NX
            subst e
            go_wp2_with fail
            go_ret
            exact ⟨by rw [EZ.out]; rfl, H1.out⟩
          · have e2 : ¬ (y : Int) = a := by omega
            have NXX := Lib.hid (NX.out e)
            clear FOUND NX
            go_wp2_with fail
            go_roundw
            case rel =>
              first | exact ⟨p + 1, by omega, by go_num, NXX.out, trivial⟩ | exact ⟨p + 1, by omega, by go_num, NXX.out, rfl⟩ | exact ⟨p + 1, by omega, by go_num, NXX.out⟩ | ((repeat apply Exists.intro); exact ⟨⟨p + 1, by omega, by go_num, NXX.out, rfl⟩, rfl⟩)
            case measure => simp [RowKit.intOf]; omega
        · obtain rfl : p = (P.getD i []).length := by omega
          have hpl3 : ¬ ((P.getD i []).length : Int) < (P.getD i []).length := by omega
          have NN := Lib.hid (show ∀ j, j < i + 1 → a ∉ P.getD j [] from fun j hj => if e : j = i then by
              rw [e]
              intro hm
              obtain ⟨q, hq, eq⟩ := List.getElem_of_mem hm
              exact HQ.out q hq ((getD_is hq).trans eq)
            else HNO.out j (by omega))
          clear HQ
          generalize (P.getD i []).length = ak at cx hpl3 hln
          go_wp2_with fail
          go_roundw
          case rel =>
            first | exact ⟨i + 1, by omega, by go_num, NN.out, trivial⟩ | exact ⟨i + 1, by omega, by go_num, NN.out, rfl⟩ | exact ⟨i + 1, by omega, by go_num, NN.out⟩ | ((repeat apply Exists.intro); exact ⟨⟨i + 1, by omega, by go_num, NN.out, rfl⟩, rfl⟩)
          case measure => simp [RowKit.intOf]; omega
    · exfalso
      exact HNO.out z (by have := HAS.out.1; omega) HAS.out.2
theorem selfB_iff {G : List (List Nat)} {i : Nat} : selfB G i = true ↔ i ∈ adjG G i := by
  unfold selfB
  rw [decide_eq_true_eq]
  constructor
  · intro h
    obtain ⟨x, hx, e⟩ := List.mem_map.1 h
    have : x = i := by have e2 : ((x : Nat) : Int) = (i : Int) := e; omega
    rw [this] at hx; exact hx
  · intro h; exact List.mem_map.2 ⟨i, h, rfl⟩
/-- Whether a number is among the first so many that one leads to. -/
def selfK (cs : List Nat) (i p : Nat) : Bool := (cs.take p).contains i
theorem selfK_zero (cs : List Nat) (i : Nat) : selfK cs i 0 = false := by simp [selfK]
theorem selfK_next {cs : List Nat} {i p : Nat} (h : p < cs.length) : selfK cs i (p + 1) = (selfK cs i p || decide (cs.getD p 0 = i)) := by
  unfold selfK
  rw [List.take_succ_eq_append_getElem h, Bool.eq_iff_iff, Bool.or_eq_true_iff, decide_eq_true_eq, List.contains_iff_mem, List.contains_iff_mem, List.mem_append, List.mem_singleton, getD_is h]
  exact ⟨fun h => h.imp id Eq.symm, fun h => h.imp id Eq.symm⟩
theorem selfK_all (G : List (List Nat)) (i : Nat) : selfK (adjG G i) i (adjG G i).length = selfB G i := by
  rw [Bool.eq_iff_iff, selfB_iff]
  unfold selfK
  rw [List.take_length, List.contains_iff_mem]
set_option maxRecDepth 100000 in
set_option maxHeartbeats 16000000 in
theorem r13Ring_any (G : List (List Nat)) (hR : RG G) (a : Nat) (ha : a < G.length) (A : Option Addr) (c : Nat) (w : World) (hx : RR w A G) :
    Calls Tryz.prog 52 #[.slice A G.length c, .int .i64 a] w fun e w' => e = .returned (.bool (selfB G a || othB G a)) ∧ Below w.heap.size w w' := by
  have PT := Lib.hid (r13Part_any G hR a ha A c w hx)
  have PA := Lib.hid (fun W (b : Below w.heap.size w W) => r13Parts_any G hR A c W (hx.below b))
  have HX := Lib.hid (fun (W : World) (b : Below w.heap.size w W) => (hx.below b).row ha)
  have hpos := (pos_of hR ha).1
  have EPT := Lib.hid (show (pG G).getD (posG G a) [] = ptG G a from (pos_of hR ha).2.2.1)
  have EO := Lib.hid (show othB G a = decide (1 < (ptG G a).length) from rfl)
  have ES := Lib.hid (selfK_all G a)
  have hln : (adjG G a).length ≤ 64 := by
    have h1 := hR.rise a
    have h2 := hR.lt a
    have h3 : (adjG G a).length ≤ G.length := nodup_le0 G.length (adjG G a) (h1.imp (fun h e => by omega)) (fun y hy => h2 y hy)
    have := hR.most
    omega
  have hpl := (part_le hR 0).2
  have hptl := ptG_le hR a
  have ha2 : (a : Int) < G.length := by omega
  clear hx hR
  generalize othB G a = ob at EO ⊢
  generalize selfB G a = sb at ES ⊢
  generalize posG G a = z at PT hpos EPT
  generalize adjG G a = cs at HX ES hln
  generalize G.length = n at PT PA ha ha2 ⊢
  generalize pG G = P at PA hpos EPT hpl
  go_enter Tryz.func52, Tryz.ntmps52
  go_wp2_with (go_at_call 51; (with_reducible refine PT.out.mono ?_); rintro e w1 ⟨rfl, hb⟩; have H1 := Lib.hid hb; clear hb)
  go_loopw [6] (fun iv wr => ∃ p : Nat, p ≤ cs.length ∧ iv = .int .i64 p ∧ selfK cs a p = false ∧ wr = w1) (fun iv _ => cs.length - (RowKit.intOf iv).toNat)
  case atStart => exact ⟨0, by omega, by go_num, selfK_zero cs a, rfl⟩
  case round =>
    obtain ⟨p, hp, rfl, hs, ew⟩ := hrel
    subst ew
    have HS := Lib.hid hs
    clear hs
    obtain ⟨xb, xo, Ai, ci, eA, _, cx, lx⟩ := HX.out wr H1.out
    have LX := Lib.hid lx
    subst eA
    clear lx
    by_cases hpl2 : p < cs.length
    · have hpl3 : (p : Int) < cs.length := by omega
      obtain ⟨yb, yo, eY, _, cy⟩ := lies_cell (l := nums cs) LX.out (k := p) (by rw [nums_len]; exact hpl2)
      rw [nums_at2 _ p hpl2] at cy
      subst eY
      have SN := Lib.hid (selfK_next (cs := cs) (i := a) hpl2)
      have SA := Lib.hid (show selfK cs a (p + 1) = true → sb = true from fun h => by
        rw [← ES.out]
        unfold selfK at h ⊢
        rw [List.contains_iff_mem] at h
        rw [List.take_length, List.contains_iff_mem]
        exact List.mem_of_mem_take h)
      generalize cs.getD p 0 = y at cy SN
      by_cases e : y = a
      · have e2 : (y : Int) = a := by omega
        have EZ := Lib.hid (SA.out (by rw [SN.out, decide_eq_true e, Bool.or_true]))
        clear SN SA
        subst e
        go_wp2_with fail
        go_ret
        rw [EZ.out]
        exact ⟨rfl, H1.out⟩
      · have e2 : ¬ (y : Int) = a := by omega
        have NXX := Lib.hid (show selfK cs a (p + 1) = false from by rw [SN.out, HS.out, decide_eq_false e]; rfl)
        clear SN SA
        go_wp2_with fail
        go_roundw
        case rel =>
          first | exact ⟨p + 1, by omega, by go_num, NXX.out, trivial⟩ | exact ⟨p + 1, by omega, by go_num, NXX.out, rfl⟩ | exact ⟨p + 1, by omega, by go_num, NXX.out⟩ | ((repeat apply Exists.intro); exact ⟨⟨p + 1, by omega, by go_num, NXX.out, rfl⟩, rfl⟩)
        case measure => simp [RowKit.intOf]; omega
    · obtain rfl : p = cs.length := by omega
      have hpl3 : ¬ (cs.length : Int) < cs.length := by omega
      have EZ := Lib.hid (show sb = false from by rw [← ES.out]; exact HS.out)
      go_upto_region 10 with (go_at_call 53; (with_reducible refine (PA.out _ H1.out).mono ?_); rintro e w2 ⟨⟨LA, lc, rfl, hr⟩, hb⟩; have HR := Lib.hid hr; have H2 := Lib.hid (bb H1.out hb); clear hb hr)
      obtain ⟨qb, qo, Qi, qi, eQ, _, cq, _⟩ := HR.out z hpos
      rw [EPT.out] at cq
      subst eQ
      have hz0 : (0 : Int) ≤ (z : Int) := by omega
      have hz2 : (z : Int) < P.length := by omega
      go_wp2_with fail
      go_ret
      rw [EZ.out, EO.out]
      refine ⟨?_, H2.out⟩
      rw [Bool.false_or]
      have ed : decide (1 < (ptG G a).length) = decide ((1 : Int) < ((ptG G a).length : Int)) := decide_eq_decide.2 (by omega)
      first | rfl | (rw [ed]; rfl) | (congr 2; first | rfl | simp | (apply decide_eq_decide.2; omega))
end Go.Proofs.YtlbjmkljmhfjdaaGreat
namespace Go.Proofs.YtlbjmkljmhfjdaaGreat
open Go Go.RowKit Go.Maps
theorem sortN_zero (G : List (List Nat)) (i : Nat) : (!selfB G i && !othB G i) = decide (sortN G i = 0) := by
  unfold sortN
  cases selfB G i <;> cases othB G i <;> rfl
noncomputable def withOf (g : Gr) (i : Int) : List Nat := by classical exact if okI g i ∧ sortN (graphOf g) i.toNat ≠ 0 then ptG (graphOf g) i.toNat else []
theorem withOf_yes {g : Gr} {i : Int} (h : okI g i) (h2 : sortN (graphOf g) i.toNat ≠ 0) : withOf g i = ptG (graphOf g) i.toNat := by unfold withOf; rw [if_pos ⟨h, h2⟩]
theorem withOf_no {g : Gr} {i : Int} (h : ¬ (okI g i ∧ sortN (graphOf g) i.toNat ≠ 0)) : withOf g i = [] := by unfold withOf; rw [if_neg h]
set_option maxRecDepth 100000 in
set_option maxHeartbeats 2000000 in
theorem sWithF_any (g : Gr) (i : Int) (w : World) (hg : Gr.At w g) (hin : Gr.In g) (hc : Capd g) : Calls Tryz.prog 59 #[g.val, .int .i64 i] w (Row w (withOf g i)) := by
  have HB1 := Lib.hid (B1 w (.cells #[.slice g.RA g.rules.length g.rc, .slice g.NA g.nodes.length g.nc] 25))
  have NO := Lib.hid (fun (h : ¬ okI g i) => sWith_no g i _ (hg.below HB1.out) hin h)
  have YES := Lib.hid (fun (h : okI g i) => sWith_yes g i _ (hg.below HB1.out) hin hc h)
  have RGG := Lib.hid (fun (h : okI g i) => graphOf_RG (rightB_true.1 h.1))
  have LT := Lib.hid (fun (h : okI g i) => show i.toNat < (graphOf g).length by rw [graphOf_len]; have := h.2.1; have := h.2.2; omega)
  have E1 := Lib.hid (fun (h : okI g i) (h2 : sortN (graphOf g) i.toNat ≠ 0) => withOf_yes h h2)
  have E0 := Lib.hid (fun (h : ¬ (okI g i ∧ sortN (graphOf g) i.toNat ≠ 0)) => withOf_no h)
  have EI := Lib.hid (fun (h : okI g i) => show ((i.toNat : Nat) : Int) = i from Int.toNat_of_nonneg h.2.1)
  have SZ := Lib.hid (sortN_zero (graphOf g) i.toNat)
  generalize withOf g i = L at *
  generalize graphOf g = G at *
  clear hg hin hc
  show Calls Tryz.prog 59 #[.agg #[.slice g.RA g.rules.length g.rc, .slice g.NA g.nodes.length g.nc], .int .i64 i] w _
  go_enter Tryz.func59, Tryz.ntmps59
  by_cases h : okI g i
  · have C1 := Lib.hid (YES.out h)
    have RG1 := Lib.hid (RGG.out h)
    have LT1 := Lib.hid (LT.out h)
    have EI1 := Lib.hid (EI.out h)
    have F1 := Lib.hid (E1.out h)
    have F0 := Lib.hid (fun (h2 : sortN G i.toNat = 0) => E0.out (fun h3 => h3.2 h2))
    clear NO YES RGG LT E1 E0 EI h
    go_upto_region 2 with (go_at_call 129; (refine C1.out.mono ?_); rintro e w1 ⟨p, rfl, hs, hb⟩; have HS := Lib.hid hs; have H1 := Lib.hid (bb HB1.out hb); clear hb hs)
    obtain ⟨A, c, vs, GA, gc, gvs, hS⟩ := HS.out.out
    have CN := Lib.hid (none_any hS RG1.out i.toNat LT1.out)
    have CW := Lib.hid (fun (W : World) (b : Below w1.heap.size w1 W) => with_any A c vs G RG1.out i.toNat LT1.out W (hS.pts.below b))
    have HW := Lib.hid hS
    rw [EI1.out, SZ.out] at CN
    rw [EI1.out] at CW
    by_cases hz : sortN G i.toNat = 0
    · have hzd : decide (sortN G i.toNat = 0) = true := decide_eq_true hz
      rw [hzd] at CN
      have FL := Lib.hid (F0.out hz)
      clear hS hz hzd SZ F1 F0
      go_wp2_with (go_at_call 130; (with_reducible refine CN.out.mono ?_); rintro e w2 ⟨rfl, hb⟩; have H2 := Lib.hid (H1.out.trans (hb.mono H1.out.size)); clear hb)
      go_ret
      rw [FL.out]
      exact row_nil _ _ H2.out
    · have hzd : decide (sortN G i.toNat = 0) = false := decide_eq_false hz
      rw [hzd] at CN
      have FL := Lib.hid (F1.out hz)
      clear hS hz hzd SZ F1 F0
      go_upto_region 4 with (go_at_call 130; (with_reducible refine CN.out.mono ?_); rintro e w2 ⟨rfl, hb⟩; have H2b := Lib.hid hb; have H2 := Lib.hid (H1.out.trans (hb.mono H1.out.size)); clear hb)
      have HW2 := Lib.hid (HW.out.below H2b.out)
      have C2 := Lib.hid (CW.out _ H2b.out)
      have c0 := HW2.out.box.cell 0
      simp only [List.getElem?_toArray, List.getElem?_cons_zero] at c0
      have PL := Lib.hid (show ptG G i.toNat ≠ [] from fun e => by have := ptG_self RG1.out LT1.out; rw [e] at this; cases this)
      generalize hpl : (pG G).length = m at *
      have HPL := Lib.hid hpl
      clear hpl
      go_wp2_with (go_at_call 131; (with_reducible refine C2.out.mono ?_); rintro e w3 ⟨⟨j, B, d, rfl, ej, hj, ep⟩, hb⟩; have H3b := Lib.hid hb; have H3 := Lib.hid (H2.out.trans (hb.mono H2.out.size)); have EJ := Lib.hid (And.intro ej (And.intro hj ep)); clear hb ej hj ep)
      go_ret
      have ho := (HW2.out.below H3b.out).rows.row j (by rw [HPL.out]; exact EJ.out.2.1)
      rw [EJ.out.1, EJ.out.2.2] at ho
      rw [FL.out]
      refine ⟨⟨_, rfl, own_lower ho HB1.out.size, fun e => ?_, fun e => absurd e PL.out⟩, H3.out⟩
      have hn : (ptG G i.toNat).length = 0 := by
        have := congrArg (fun v => match v with | Value.slice _ n _ => n | _ => 0) e
        simpa using this
      exact List.length_eq_zero_iff.1 hn
  · have C1 := Lib.hid (NO.out h)
    have E := Lib.hid (E0.out (fun h2 => h h2.1))
    clear NO YES RGG LT E1 E0 EI SZ h
    go_wp2_with (go_at_call 129; (refine C1.out.mono ?_); rintro e w1 ⟨rfl, hb⟩; have H1 := Lib.hid (bb HB1.out hb); clear hb)
    go_ret
    rw [E.out]
    exact row_nil _ _ H1.out
noncomputable def freeB (g : Gr) : Bool := rightB g && decide (∀ i, i < g.rules.length → sortN (graphOf g) i = 0)
set_option maxRecDepth 100000 in
set_option maxHeartbeats 2000000 in
theorem sFree_any (g : Gr) (w : World) (hg : Gr.At w g) (hin : Gr.In g) (hc : Capd g) : Calls Tryz.prog 61 #[g.val] w fun e w' => e = .returned (.bool (freeB g)) ∧ Below w.heap.size w w' := by
  have HB1 := Lib.hid (B1 w (.cells #[.slice g.RA g.rules.length g.rc, .slice g.NA g.nodes.length g.nc] 25))
  cases hr : rightB g with
  | false =>
    have C1 := Lib.hid (sWork_no g _ (hg.below HB1.out) hin hr)
    have E := Lib.hid (show freeB g = false by unfold freeB; rw [hr]; rfl)
    rw [E.out]
    clear hg hin hc hr
    show Calls Tryz.prog 61 #[.agg #[.slice g.RA g.rules.length g.rc, .slice g.NA g.nodes.length g.nc]] w _
    go_enter Tryz.func61, Tryz.ntmps61
    go_wp2_with (go_at_call 127; (refine C1.out.mono ?_); rintro e w1 ⟨rfl, hb⟩; have H1 := Lib.hid (bb HB1.out hb); clear hb)
    go_ret
    exact ⟨rfl, H1.out⟩
  | true =>
    have hR := rightB_true.1 hr
    have C1 := Lib.hid (sWork_yes g _ (hg.below HB1.out) hin hc hR)
    have RG1 := Lib.hid (graphOf_RG hR)
    have GL := Lib.hid (graphOf_len g)
    have E := Lib.hid (show freeB g = decide (∀ i, i < g.rules.length → sortN (graphOf g) i = 0) by unfold freeB; rw [hr]; rfl)
    have h32 := hR.rules.2
    rw [← GL.out] at h32 E
    generalize freeB g = fb at *
    generalize graphOf g = G at *
    clear hg hin hc hr hR GL
    show Calls Tryz.prog 61 #[.agg #[.slice g.RA g.rules.length g.rc, .slice g.NA g.nodes.length g.nc]] w _
    go_enter Tryz.func61, Tryz.ntmps61
    go_upto_region 4 with (go_at_call 127; (refine C1.out.mono ?_); rintro e w1 ⟨p, rfl, hs, hb⟩; have HS := Lib.hid hs; have H1 := Lib.hid (bb HB1.out hb); clear hb hs)
    obtain ⟨A, c, vs, GA, gc, gvs, hS⟩ := HS.out.out
    have HW := Lib.hid hS
    have c1 := hS.box.cell 1
    simp only [List.getElem?_toArray, List.getElem?_cons_zero, List.getElem?_cons_succ] at c1
    have CN := Lib.hid (fun (W : World) (b : Below w1.heap.size w1 W) (i : Nat) (hi : i < G.length) => by have := none_any (hS.below b) RG1.out i hi; rw [sortN_zero] at this; exact this)
    obtain ⟨m, em⟩ : ∃ m, m = G.length := ⟨_, rfl⟩
    have EM := Lib.hid em
    rw [← em] at c1 h32
    have CN2 : RowKit.Hid (∀ (W : World), Below w1.heap.size w1 W → ∀ (i : Nat), i < m → Calls Tryz.prog 130 #[.pointer (some ⟨p, 0, none⟩), .int .i64 i] W fun e w' => e = .returned (.bool (decide (sortN G i = 0))) ∧ Below W.heap.size W w') := Lib.hid (by rw [em]; exact CN.out)
    clear hS em CN
    go_wp2_with fail
    go_loopw [18, 5] (fun i _ wr => ∃ (k : Nat), k ≤ m ∧ i = .int .i64 k ∧ (∀ j, j < k → sortN G j = 0) ∧ Below w1.heap.size w1 wr) (fun i _ _ => m - (RowKit.intOf i).toNat)
    case atStart => exact ⟨0, by omega, rfl, fun j h => by omega, Below.refl _ _⟩
    case round =>
      obtain ⟨k, hk, rfl, hz, hb⟩ := hrel
      have HZ := Lib.hid hz
      have BL := Lib.hid hb
      clear hz hb
      by_cases hlt : k < m
      · have hlt2 : (k : Int) < m := by omega
        have CC := Lib.hid (CN2.out wr BL.out k hlt)
        by_cases e0 : sortN G k = 0
        · have ed : decide (sortN G k = 0) = true := decide_eq_true e0
          rw [ed] at CC
          have E0 := Lib.hid e0
          clear ed e0
          go_wp2_with (go_at_call 130; (with_reducible refine CC.out.mono ?_); rintro e w2 ⟨rfl, hb⟩; have HB := Lib.hid (BL.out.trans (hb.mono BL.out.size)); clear hb)
          go_roundw
          case rel =>
            refine ⟨k + 1, by omega, by go_num, fun j hj => ?_, HB.out⟩
            by_cases e : j = k
            · rw [e]; exact E0.out
            · exact HZ.out j (by omega)
          case measure => simp [RowKit.intOf]; omega
        · have ed : decide (sortN G k = 0) = false := decide_eq_false e0
          rw [ed] at CC
          have E0 := Lib.hid e0
          clear ed e0
          go_wp2_with (go_at_call 130; (with_reducible refine CC.out.mono ?_); rintro e w2 ⟨rfl, hb⟩; have HB := Lib.hid (BL.out.trans (hb.mono BL.out.size)); clear hb)
          go_ret
          refine ⟨ret_bool ?_, H1.out.trans (HB.out.mono H1.out.size)⟩
          rw [E.out]
          exact (decide_eq_false (fun h => E0.out (h k (by rw [← EM.out]; exact hlt)))).symm
      · obtain rfl : k = m := by omega
        have hlt2 : ¬ (k : Int) < k := by omega
        go_wp2_with fail
        go_ret
        refine ⟨ret_bool ?_, H1.out.trans (BL.out.mono H1.out.size)⟩
        rw [E.out]
        exact (decide_eq_true (fun i hi => HZ.out i (by rw [EM.out]; exact hi))).symm
end Go.Proofs.YtlbjmkljmhfjdaaGreat

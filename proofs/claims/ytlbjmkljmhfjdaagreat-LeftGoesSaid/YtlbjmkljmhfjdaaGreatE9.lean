/- The document's far and next. (Great seat.) -/
import Derived.Test.YtlbjmkljmhfjdaaGreatE1
import Derived.Test.YtlbjmkljmhfjdaaGreatE8
set_option linter.unusedSimpArgs false
set_option linter.unusedVariables false
namespace Go.Proofs.YtlbjmkljmhfjdaaGreat
open Go Go.Proofs Go.RowKit Go.Lib Go.Maps
/-- Numbers in memory: just those of a function. -/
def Ti (W : World) (b m : Nat) (f : Nat → Int) : Prop := ∃ l : List Int, Blk W b (ints l).toArray 3 ∧ l.length = m ∧ ∀ q, q < m → l.getD q 0 = f q
theorem Ti.below {W W' : World} {b m : Nat} {f : Nat → Int} (h : Ti W b m f) (hb : Below W.heap.size W W') : Ti W' b m f := by
  obtain ⟨l, h1, h2⟩ := h
  exact ⟨l, h1.below' hb, h2⟩
theorem Ti.congr {W : World} {b m : Nat} {f f' : Nat → Int} (h : Ti W b m f) (hf : ∀ q, q < m → f q = f' q) : Ti W b m f' := by
  obtain ⟨l, h1, h2, h3⟩ := h
  exact ⟨l, h1, h2, fun q hq => (h3 q hq).trans (hf q hq)⟩
theorem Ti.cell {W : World} {b m : Nat} {f : Nat → Int} (h : Ti W b m f) {q : Nat} (hq : q < m) : W.cell? ⟨b, q, none⟩ = some (.int .i64 (f q)) := by
  obtain ⟨l, h1, h2, h3⟩ := h
  rw [h1.cell, List.getElem?_toArray, ints_at (by rw [h2]; exact hq), h3 q hq]
theorem Ti.frozen {W : World} {b m : Nat} {f : Nat → Int} (h : Ti W b m f) (q : Nat) : W.frozen? ⟨b, q, none⟩ = false := by
  obtain ⟨l, h1, _⟩ := h
  exact h1.frozen q
theorem Ti.put {W : World} {b m : Nat} {f : Nat → Int} (h : Ti W b m f) {k : Nat} (hk : k < m) (v : Int) : Ti (W.setCell ⟨b, k, none⟩ (.int .i64 v)) b m (fun q => if q = k then v else f q) := by
  obtain ⟨l, h1, h2, h3⟩ := h
  refine ⟨l.set k v, by have := h1.put (k := k) (.int .i64 v); rw [fints_set] at this; exact this, by simpa using h2, fun q hq => ?_⟩
  simp only [List.getD, List.getElem?_set]
  by_cases e : k = q
  · subst e; simp [h2, hk]
  · rw [if_neg e, if_neg (fun h => e h.symm)]
    exact h3 q hq
theorem Ti.zero {W : World} {b m : Nat} (h : Blk W b (List.replicate m (Value.int .i64 0)).toArray 3) : Ti W b m (fun _ => 0) :=
  ⟨List.replicate m 0, by rw [ints_zeros]; exact h, by simp, fun q hq => by simp [List.getD, hq]⟩
theorem Ti.own {w W : World} {b m : Nat} {f : Nat → Int} (h : Ti W b m f) (hw : w.heap.size ≤ b) : b < W.heap.size ∧ w.heap.size ≤ b := by
  obtain ⟨l, h1, _⟩ := h
  exact ⟨h1.lt, hw⟩
theorem RR.at {W : World} {A : Option Addr} {g : Gr} (h : RR W A (graphOf g)) {i : Nat} (hi : i < g.rules.length) : ∃ b o Ai ci, A = some ⟨b, o, none⟩ ∧ b < W.heap.size ∧ W.cell? ⟨b, o + i, none⟩ = some (.slice Ai (lcal g i).length ci) ∧ Lies W Ai (ints (nums (lcal g i))) := by
  have := h i (by rw [graphOf_len]; exact hi)
  rw [graphOf_at hi] at this
  exact this
theorem nums_get (l : List Nat) (q : Nat) (h : q < l.length) : (nums l).getD q 0 = ((l.getD q 0 : Nat) : Int) := by simp [nums, List.getD, List.getElem?_eq_getElem h]
/-- What the round has found for a rule when so many of those it calls are looked at. -/
def Fnd (g : Gr) (k d i p : Nat) (o : Int) : Prop := (0 ≤ farD g k d i ∧ o = farD g k d i) ∨ (farD g k d i < 0 ∧ ((o = -1 ∧ ∀ q, q < p → fl g k ((lcal g i).getD q 0) ≠ d + 1) ∨ (o = (d : Int) + 1 ∧ ∃ nx ∈ lcal g i, fl g k nx = d + 1)))
theorem farD_neg {g : Gr} {k d i : Nat} (h : farD g k d i < 0) : farD g k d i = -1 := by
  unfold farD at h ⊢
  split at h
  · omega
  · rename_i hh; rw [if_neg hh]
theorem Fnd.zero (g : Gr) (k d i : Nat) : Fnd g k d i 0 (farD g k d i) := by
  by_cases h : 0 ≤ farD g k d i
  · exact .inl ⟨h, rfl⟩
  · exact .inr ⟨by omega, .inl ⟨farD_neg (by omega), fun q hq => by omega⟩⟩
theorem Fnd.miss {g : Gr} {k d i p : Nat} {o : Int} (h : Fnd g k d i p o) (ho : o < 0) (hn : fl g k ((lcal g i).getD p 0) ≠ d + 1) : Fnd g k d i (p + 1) o := by
  rcases h with ⟨h1, h2⟩ | ⟨h1, ⟨h2, h3⟩ | ⟨h2, _⟩⟩
  · omega
  · refine .inr ⟨h1, .inl ⟨h2, fun q hq => ?_⟩⟩
    by_cases e : q = p
    · subst e; exact hn
    · exact h3 q (by omega)
  · omega
theorem Fnd.hit {g : Gr} {k d i p : Nat} {o : Int} (h : Fnd g k d i p o) (ho : o < 0) (hp : p < (lcal g i).length) (hn : fl g k ((lcal g i).getD p 0) = d + 1) : Fnd g k d i (p + 1) ((d : Int) + 1) := by
  rcases h with ⟨h1, h2⟩ | ⟨h1, _⟩
  · omega
  · exact .inr ⟨h1, .inr ⟨rfl, _, by simp [List.getD, List.getElem?_eq_getElem hp], hn⟩⟩
theorem Fnd.neg {g : Gr} {k d i p : Nat} {o : Int} (h : Fnd g k d i p o) (ho : o < 0) : o = -1 ∧ farD g k d i < 0 := by
  rcases h with ⟨h1, h2⟩ | ⟨h1, ⟨h2, _⟩ | ⟨h2, _⟩⟩
  · omega
  · exact ⟨h2, h1⟩
  · omega
theorem Fnd.done {g : Gr} (hR : Right g) {k d i p : Nat} (hi : i < g.rules.length) (hk : k < g.rules.length) {o : Int} (h : Fnd g k d i p o) (he : 0 ≤ o ∨ p = (lcal g i).length) : o = farD g k (d + 1) i := by
  rcases h with ⟨h1, h2⟩ | ⟨h1, ⟨h2, h3⟩ | ⟨h2, h3⟩⟩
  · rw [farD_keep h1]; exact h2
  · rw [farD_new hR hi hk h1]
    rcases he with he | he
    · omega
    · rw [if_neg (fun ⟨nx, hn, hf⟩ => by
        obtain ⟨q, hq, eq⟩ := List.getElem_of_mem hn
        have := h3 q (by omega)
        rw [show (lcal g i).getD q 0 = nx by simp [List.getD, List.getElem?_eq_getElem hq, eq]] at this
        exact this hf)]
      exact h2
  · rw [farD_new hR hi hk h1, if_pos h3]; exact h2
/-- What stands in the row while a rule is looked at. -/
noncomputable def farP (g : Gr) (k d i : Nat) (o : Int) (q : Nat) : Int := if q = i then o else farM g k d i q
theorem farP_is {g : Gr} {k d i : Nat} {o : Int} (ho : o = -1) (hi : farD g k d i < 0) {j : Nat} : farP g k d i o j = d ↔ fl g k j = d + 1 := by
  unfold farP
  by_cases e : j = i
  · rw [if_pos e, ho, e]
    constructor
    · intro h; omega
    · intro h
      have := farD_was.2 h
      omega
  · rw [if_neg e]; exact farM_is
theorem farM_zero (g : Gr) (k d q : Nat) : farM g k d 0 q = farD g k d q := by unfold farM; rw [if_neg (by omega)]
theorem farP_zero (g : Gr) (k d i q : Nat) : farM g k d i q = farP g k d i (farD g k d i) q := by
  unfold farP
  by_cases e : q = i
  · rw [if_pos e, e]; unfold farM; rw [if_neg (by omega)]
  · rw [if_neg e]
theorem farP_all {g : Gr} {k d i : Nat} {o : Int} (h : o = farD g k (d + 1) i) (q : Nat) : farP g k d i o q = farM g k d (i + 1) q := by
  unfold farP farM
  by_cases e : q = i
  · rw [if_pos e, if_pos (by omega), h, e]
  · rw [if_neg e]
    by_cases h2 : q < i
    · rw [if_pos h2, if_pos (by omega)]
    · rw [if_neg h2, if_neg (by omega)]
theorem farP_set (g : Gr) (k d i : Nat) (o o' : Int) (q : Nat) : (if q = i then o' else farP g k d i o q) = farP g k d i o' q := by
  unfold farP
  by_cases e : q = i
  · rw [if_pos e, if_pos e]
  · rw [if_neg e, if_neg e, if_neg e]
set_option maxRecDepth 100000 in
set_option maxHeartbeats 16000000 in
theorem r12far_any (g : Gr) (hR : Right g) (k : Nat) (hk : k < g.rules.length) (A : Option Addr) (c : Nat) (w : World) (hx : RR w A (graphOf g)) :
    Calls Tryz.prog 113 #[.slice A g.rules.length c, .int .i64 k] w fun e w' => (∃ b, e = .returned (.slice (some ⟨b, 0, none⟩) g.rules.length g.rules.length) ∧ Ti w' b g.rules.length (away g k) ∧ w.heap.size ≤ b) ∧ Below w.heap.size w w' := by
  have h32 := hR.rules.2
  have hmk := make_n g.rules.length (by omega)
  have HX := Lib.hid (fun (W : World) (b : Below w.heap.size w W) i (hi : i < g.rules.length) => (hx.below b).at hi)
  have LT := Lib.hid (fun i y (hy : y ∈ lcal g i) => lcal_lt hy)
  have LL := Lib.hid (fun i => lcal_len g i)
  have DONE := Lib.hid (fun d i p (hi : i < g.rules.length) o => @Fnd.done g hR k d i p hi hk o)
  have ZERO := Lib.hid (fun j (hj : j < g.rules.length) => farD_zero hR hj hk)
  have ALL := Lib.hid (fun j (hj : j < g.rules.length) d (hd : g.rules.length ≤ d + 1) => farD_all hR hj hk hd)
  clear hx hR
  obtain ⟨r, er⟩ : ∃ r, r = g.rules.length := ⟨_, rfl⟩
  rw [← er] at hk h32 hmk ⊢
  have ER := Lib.hid er
  clear er
  have hk2 : (k : Int) < r := by omega
  go_enter Tryz.func113, Tryz.ntmps113
  go_upto_region 2 with fail
  obtain ⟨ob, eob⟩ : ∃ u, u = w.heap.size := ⟨_, rfl⟩
  have T0 := Lib.hid (show Ti (w.alloc (.cells (List.replicate r (Value.int .i64 0)).toArray 3)) ob r (fun _ => 0) from by rw [eob]; exact Ti.zero (Blk.new _ _ _))
  have B0 := Lib.hid (B1 w (.cells (List.replicate r (Value.int .i64 0)).toArray 3))
  have er2 : (List.replicate r (Value.int .i64 0)).toArray = Array.replicate r (Value.int .i64 0) := by simp
  first | rw [er2] at T0 B0 | skip
  have OBW : RowKit.Hid (w.heap.size ≤ ob) := Lib.hid (by omega)
  rw [← eob]
  generalize w.alloc (.cells (Array.replicate r (Value.int .i64 0)) 3) = w0 at T0 B0 ⊢
  clear hmk eob er2
  go_wp2_with fail
  go_loopw [6] (fun iv wr => ∃ j : Nat, j ≤ r ∧ iv = .int .i64 j ∧ Ti wr ob r (fun q => if q < j then -1 else 0) ∧ Below w.heap.size w wr) (fun iv _ => r - (RowKit.intOf iv).toNat)
  case atStart => exact ⟨0, by omega, by go_num, T0.out.congr (fun q _ => by rw [if_neg (by omega)]), B0.out⟩
  case round =>
    clear T0 B0
    obtain ⟨j, hj, rfl, ht, hb⟩ := hrel
    have HT := Lib.hid ht
    have HB := Lib.hid hb
    clear ht hb
    by_cases hlt : j < r
    · have hlt2 : (j : Int) < r := by omega
      have c1 := HT.out.cell hlt
      have f1 := HT.out.frozen j
      go_wp2_with fail
      go_roundw
      case rel =>
        refine ⟨j + 1, by omega, by go_num, (HT.out.put hlt (-1)).congr (fun q _ => ?_), HB.out.setCell (p := ⟨ob, j, none⟩) OBW.out _⟩
        by_cases e : q = j
        · rw [if_pos e, if_pos (by omega)]
        · rw [if_neg e]
          by_cases h2 : q < j
          · rw [if_pos h2, if_pos (by omega)]
          · rw [if_neg h2, if_neg (by omega)]
      case measure => simp [RowKit.intOf]; omega
    · obtain rfl : j = r := by omega
      have hlt2 : ¬ (j : Int) < j := by omega
      have c1 := HT.out.cell hk
      have f1 := HT.out.frozen k
      obtain ⟨wa, ewa⟩ : ∃ u, u = wr.setCell ⟨ob, k, none⟩ (.int .i64 0) := ⟨_, rfl⟩
      have T1 := Lib.hid (show Ti wa ob j (farD g k 0) from by
        rw [ewa]
        refine (HT.out.put hk 0).congr (fun q hq => ?_)
        rw [ZERO.out q (by rw [← ER.out]; exact hq)]
        by_cases e : q = k
        · rw [if_pos e, if_pos e]
        · rw [if_neg e, if_neg e, if_pos hq])
      have B1' := Lib.hid (show Below w.heap.size w wa from by rw [ewa]; exact HB.out.setCell (p := ⟨ob, k, none⟩) OBW.out _)
      go_upto_region 7 with fail
      rw [← ewa]
      clear ewa c1 f1 HT HB hlt hlt2
      go_wp2_with fail
      go_loopw [7] (fun iv wr => ∃ d : Nat, d + 1 ≤ j ∧ iv = .int .i64 ((d : Int) + 1) ∧ Ti wr ob j (farD g k d) ∧ Below w.heap.size w wr) (fun iv _ => j - (RowKit.intOf iv).toNat)
      case atStart => exact ⟨0, by omega, by go_num, T1.out, B1'.out⟩
      case round =>
        clear T1 B1'
        obtain ⟨d, hd, rfl, ht, hb⟩ := hrel
        have HT := Lib.hid ht
        have HB := Lib.hid hb
        clear ht hb
        by_cases hlt : d + 1 < j
        · have hlt2 : (d : Int) + 1 < j := by omega
          obtain ⟨wb, ewb⟩ : ∃ u, u = wr := ⟨_, rfl⟩
          subst ewb
          go_wp2_with fail
          go_loopw [8] (fun iv wr => ∃ i : Nat, i ≤ j ∧ iv = .int .i64 i ∧ Ti wr ob j (farM g k d i) ∧ Below w.heap.size w wr) (fun iv _ => j - (RowKit.intOf iv).toNat)
          case atStart => exact ⟨0, by omega, by go_num, HT.out.congr (fun q _ => (farM_zero g k d q).symm), HB.out⟩
          case round =>
            clear HT HB
            obtain ⟨i, hi, rfl, ht, hb⟩ := hrel
            have HT := Lib.hid ht
            have HB := Lib.hid hb
            clear ht hb
            by_cases hil : i < j
            · have hil2 : (i : Int) < j := by omega
              obtain ⟨wc, ewc⟩ : ∃ u, u = wr := ⟨_, rfl⟩
              subst ewc
              go_wp2_with fail
              go_loopw [9] (fun iv wr => ∃ (p : Nat) (o : Int), p ≤ (lcal g i).length ∧ iv = .int .i64 p ∧ Fnd g k d i p o ∧ Ti wr ob j (farP g k d i o) ∧ Below w.heap.size w wr) (fun iv _ => (lcal g i).length - (RowKit.intOf iv).toNat)
              case atStart => exact ⟨0, _, by omega, by go_num, Fnd.zero _ _ _ _, HT.out.congr (fun q _ => farP_zero g k d i q), HB.out⟩
              case round =>
                clear HT HB
                obtain ⟨p, o, hp, rfl, hf, ht, hb⟩ := hrel
                obtain ⟨xb, xo, Ai, ci, eA, hxb, cx, lx⟩ := HX.out wr hb i (by rw [← ER.out]; exact hil)
                have HT := Lib.hid ht
                have HB := Lib.hid hb
                have HF := Lib.hid hf
                have c1 := ht.cell hil
                have f1 := ht.frozen i
                have e1 : farP g k d i o i = o := by unfold farP; rw [if_pos rfl]
                rw [e1] at c1
                have LX := Lib.hid lx
                have LTI := Lib.hid (LT.out i)
                have hll := LL.out i
                have DN := Lib.hid (fun (he : 0 ≤ o ∨ p = (lcal g i).length) => DONE.out d i p (by rw [← ER.out]; exact hil) o hf he)
                have MS := Lib.hid (fun (ho : o < 0) (hn : fl g k ((lcal g i).getD p 0) ≠ d + 1) => hf.miss ho hn)
                have HI := Lib.hid (fun (ho : o < 0) (h2 : p < (lcal g i).length) (hn : fl g k ((lcal g i).getD p 0) = d + 1) => hf.hit ho h2 hn)
                have IS := Lib.hid (fun (ho : o < 0) (y : Nat) => farP_is (g := g) (k := k) (d := d) (i := i) (hf.neg ho).1 (hf.neg ho).2 (j := y))
                clear ht hb lx hf e1 HF
                generalize (lcal g i) = cs at hp cx LX LTI hll DN MS HI
                subst eA
                by_cases hpl : p < cs.length
                · have hpl2 : (p : Int) < cs.length := by omega
                  have hp63 : (p : Int) + 1 ≤ 32 := by have := ER.out; omega
                  by_cases ho : o < 0
                  · obtain ⟨yb, yo, eY, hyb, cy⟩ := lies_cell (l := nums cs) LX.out (k := p) (by rw [nums_len]; exact hpl)
                    subst eY
                    rw [nums_get cs p hpl] at cy
                    have hy := LTI.out (cs.getD p 0) (by simp [List.getD, List.getElem?_eq_getElem hpl])
                    generalize cs.getD p 0 = y at cy hy MS HI
                    have hyj : y < j := by rw [ER.out]; exact hy
                    have hyj2 : (y : Int) < j := by omega
                    have c2 := HT.out.cell hyj
                    have IS2 := Lib.hid (IS.out ho y)
                    have hw1 : IntKind.i64.wrap ((d : Int) + 1 - 1) = (d : Int) := by rw [show (d : Int) + 1 - 1 = (d : Int) by omega]; exact IntWalk.i64_in _ (by omega)
                    have hw2 : IntKind.i64.wrap (d : Int) = (d : Int) := IntWalk.i64_in _ (by omega)
                    generalize farP g k d i o y = fy at c2 IS2
                    by_cases hh : fl g k y = d + 1
                    · have hfy := IS2.out.2 hh
                      rw [hfy] at c2
                      have NF := Lib.hid (HI.out ho hpl hh)
                      have NT := Lib.hid ((HT.out.put hil ((d : Int) + 1)).congr (fun q _ => farP_set g k d i o _ q))
                      have NB := Lib.hid (HB.out.setCell (p := ⟨ob, i, none⟩) OBW.out (.int .i64 ((d : Int) + 1)))
                      clear MS HI IS DN IS2 hfy hh
                      go_wp2_with fail
                      go_roundw
                      case rel => exact ⟨p + 1, _, by omega, by go_num, NF.out, NT.out, NB.out⟩
                      case measure => simp [RowKit.intOf]; omega
                    · have hfy : ¬ fy = (d : Int) := fun e => hh (IS2.out.1 e)
                      have NF := Lib.hid (MS.out ho hh)
                      clear MS HI IS DN IS2 hh
                      go_wp2_with fail
                      go_roundw
                      case rel => exact ⟨p + 1, _, by omega, by go_num, NF.out, HT.out, HB.out⟩
                      case measure => simp [RowKit.intOf]; omega
                  · have ho2 : ¬ o < 0 := ho
                    have FA := Lib.hid (DN.out (.inl (by omega)))
                    clear MS HI IS DN
                    go_wp2_with fail
                    go_roundw
                    case rel => exact ⟨i + 1, by omega, by go_num, HT.out.congr (fun q _ => farP_all FA.out q), HB.out⟩
                    case measure => simp [RowKit.intOf]; omega
                · obtain rfl : p = cs.length := by omega
                  have hpl2 : ¬ (cs.length : Int) < cs.length := by omega
                  have FA := Lib.hid (DN.out (.inr rfl))
                  clear MS HI IS DN
                  go_wp2_with fail
                  go_roundw
                  case rel => exact ⟨i + 1, by omega, by go_num, HT.out.congr (fun q _ => farP_all FA.out q), HB.out⟩
                  case measure => simp [RowKit.intOf]; omega
            · obtain rfl : i = j := by omega
              have hil2 : ¬ (i : Int) < i := by omega
              go_wp2_with fail
              go_roundw
              case rel => exact ⟨d + 1, by omega, by go_num, HT.out.congr (fun q hq => by unfold farM; rw [if_pos hq]), HB.out⟩
              case measure => simp [RowKit.intOf]; omega
        · obtain rfl : j = d + 1 := by omega
          have hlt2 : ¬ (d : Int) + 1 < ((d + 1 : Nat) : Int) := by omega
          have hlt3 : ¬ (d : Int) + 1 < (d : Int) + 1 := by omega
          go_wp2_with fail
          go_ret
          exact ⟨⟨ob, rfl, HT.out.congr (fun q hq => ALL.out q (by rw [← ER.out]; exact hq) d (by rw [← ER.out]; omega)), OBW.out⟩, HB.out⟩
end Go.Proofs.YtlbjmkljmhfjdaaGreat
namespace Go.Proofs.YtlbjmkljmhfjdaaGreat
open Go Go.Proofs Go.RowKit Go.Lib Go.Maps
theorem Best.known {g : Gr} {k i p : Nat} {b : Int} (h : Best (fl g k) (lcal g i) p b) (hp : p ≤ (lcal g i).length) : b = -1 ∨ ∃ s : Nat, b = s ∧ s < g.rules.length := by
  rcases h with ⟨h1, _⟩ | ⟨s, h1, h2, _⟩
  · exact .inl h1
  · exact .inr ⟨_, h2, lcal_lt (r := i) (by simp [List.getD, List.getElem?_eq_getElem (show s < (lcal g i).length by omega)])⟩
set_option maxRecDepth 100000 in
set_option maxHeartbeats 16000000 in
theorem r12next_any (g : Gr) (hR : Right g) (i k : Nat) (hi : i < g.rules.length) (hk : k < g.rules.length) (A : Option Addr) (c b cb : Nat) (w : World) (hx : RR w A (graphOf g)) (ht : Ti w b g.rules.length (away g k)) :
    Calls Tryz.prog 112 #[.slice A g.rules.length c, .int .i64 i, .slice (some ⟨b, 0, none⟩) g.rules.length cb] w fun e w' => e = .returned (.int .i64 (nxt g i k)) ∧ Below w.heap.size w w' := by
  have h32 := hR.rules.2
  obtain ⟨xb, xo, Ai, ci, eA, hxb, cx, lx⟩ := hx.at hi
  subst eA
  have HT := Lib.hid ht
  have LX := Lib.hid lx
  have CX := Lib.hid cx
  have LTI := Lib.hid (fun y (hy : y ∈ lcal g i) => lcal_lt hy)
  have hll := lcal_len g i
  have END := Lib.hid (fun b => best_nxt hR hi hk (b := b))
  have KN := Lib.hid (fun p b => @Best.known g k i p b)
  clear hx ht cx lx hR
  generalize nxt g i k = Z at END ⊢
  obtain ⟨r, er⟩ : ∃ r, r = g.rules.length := ⟨_, rfl⟩
  rw [← er] at hi hk h32 hll HT ⊢
  have ER := Lib.hid er
  clear er
  generalize lcal g i = cs at LX CX LTI hll END KN
  have hi2 : (i : Int) < r := by omega
  have hi0 : (0 : Int) ≤ (i : Int) := by omega
  go_enter Tryz.func112, Tryz.ntmps112
  go_wp2_with fail
  go_loopw [7, 8] (fun bv iv wr => ∃ (p : Nat) (bs : Int), p ≤ cs.length ∧ iv = .int .i64 p ∧ bv = .int .i64 bs ∧ Best (fl g k) cs p bs ∧ Below w.heap.size w wr) (fun _ iv _ => cs.length - (RowKit.intOf iv).toNat)
  case atStart => exact ⟨0, -1, by omega, by go_num, by go_num, Best.zero _ _, Below.refl _ _⟩
  case round =>
    obtain ⟨p, bs, hp, rfl, rfl, hbest, hb⟩ := hrel
    have HB := Lib.hid hb
    have BE := Lib.hid hbest
    have cx := (hb.cell (p := ⟨xb, _, none⟩) (by exact hxb)).trans CX.out
    have HTW := Lib.hid (HT.out.below hb)
    have hkn := KN.out p bs hbest hp
    clear hb hbest
    by_cases hlt : p < cs.length
    · have hlt2 : (p : Int) < cs.length := by omega
      have hp63 : (p : Int) + 1 ≤ 32 := by omega
      obtain ⟨yb, yo, eY, hyb, cy0⟩ := lies_cell (l := nums cs) LX.out (k := p) (by rw [nums_len]; exact hlt)
      have cy := (HB.out.cell (p := ⟨yb, _, none⟩) (by exact hyb)).trans cy0
      rw [nums_get cs p hlt] at cy
      rw [eY] at cx
      have EY := Lib.hid eY
      clear eY cy0
      have hy := LTI.out (cs.getD p 0) (by simp [List.getD, List.getElem?_eq_getElem hlt])
      have STAY := Lib.hid (fun h => BE.out.stay (p := p) h)
      have TAKE := Lib.hid (fun h0 h => BE.out.take (p := p) h0 h)
      generalize cs.getD p 0 = y at cy hy STAY TAKE
      have hyr : y < r := by rw [ER.out]; exact hy
      have hyr2 : (y : Int) < r := by omega
      have hy0 : (0 : Int) ≤ (y : Int) := by omega
      have c2 := HTW.out.cell hyr
      have AY := Lib.hid (show away g k y = (fl g k y : Int) - 1 from rfl)
      generalize away g k y = ay at c2 AY
      have f0 := fun (e : Ext wr) => Ext.cell cx e
      have f1 := fun (e : Ext wr) => Ext.cell cy e
      have f2 := fun (e : Ext wr) => Ext.cell c2 e
      by_cases h0 : fl g k y = 0
      · have hay : ¬ 0 ≤ ay := by have := AY.out; omega
        have hay2 : ay < 0 := by omega
        have hd0 : decide (0 ≤ ay) = false := decide_eq_false hay
        have NB := Lib.hid (STAY.out (.inl h0))
        clear STAY TAKE h0 hkn hy
        go_wp2_with fail
        refine wp_region_ext (by kernel_rfl) (by kernel_rfl) ?_
        repeat (first | go_big_quiet_step (fail) | quiet_step (fail))
        refine wpQuiet_nil ?_
        intro w13 hw'
        obtain ⟨⟨_, hb13⟩, rfl⟩ := hw'
        have H13 := Lib.hid (HB.out.trans (hb13.mono HB.out.size))
        clear hb13 f0 f1 f2
        clear cx cy c2
        go_wp2_with fail
        go_roundw
        case rel =>
          have fin : ∃ (p' : Nat) (bs' : Int), p' ≤ cs.length ∧ Value.int .i64 ((p : Int) + 1) = .int .i64 p' ∧ Value.int .i64 bs = .int .i64 bs' ∧ Best (fl g k) cs p' bs' ∧ Below w.heap.size w w13 := ⟨p + 1, bs, by omega, by go_num, rfl, NB.out, H13.out⟩
          first | exact fin | ((repeat apply Exists.intro); exact ⟨fin, rfl⟩)
        case measure => simp [RowKit.intOf]; omega
      · have hay : 0 ≤ ay := by have := AY.out; omega
        have hd0 : decide (0 ≤ ay) = true := decide_eq_true hay
        rcases hkn with rfl | ⟨s, rfl, hs⟩
        · have NB := Lib.hid (TAKE.out (by omega) (.inl (by omega)))
          clear STAY TAKE h0 hy
          go_wp2_with fail
          refine wp_region_ext (by kernel_rfl) (by kernel_rfl) ?_
          repeat (first | go_big_quiet_step (fail) | quiet_step (fail))
          refine wpQuiet_nil ?_
          intro w13 hw'
          obtain ⟨⟨_, hb13⟩, rfl⟩ := hw'
          have H13 := Lib.hid (HB.out.trans (hb13.mono HB.out.size))
          clear hb13 f0 f1 f2
          clear cx cy c2
          go_wp2_with fail
          go_roundw
          case rel =>
            have fin : ∃ (p' : Nat) (bs' : Int), p' ≤ cs.length ∧ Value.int .i64 ((p : Int) + 1) = .int .i64 p' ∧ Value.int .i64 y = .int .i64 bs' ∧ Best (fl g k) cs p' bs' ∧ Below w.heap.size w w13 := ⟨p + 1, _, by omega, by go_num, rfl, NB.out, H13.out⟩
            first | exact fin | ((repeat apply Exists.intro); exact ⟨fin, rfl⟩)
          case measure => simp [RowKit.intOf]; omega
        · have hsr : s < r := by rw [ER.out]; exact hs
          have hsr2 : (s : Int) < r := by omega
          have hs0 : (0 : Int) ≤ (s : Int) := by omega
          have hs1 : ¬ (s : Int) < 0 := by omega
          have hd1 : decide ((s : Int) < 0) = false := decide_eq_false hs1
          have c3 := HTW.out.cell hsr
          have AS := Lib.hid (show away g k s = (fl g k s : Int) - 1 from rfl)
          generalize away g k s = av at c3 AS
          have f3 := fun (e : Ext wr) => Ext.cell c3 e
          by_cases hl : fl g k y < fl g k s
          · have hl2 : ay < av := by have := AY.out; have := AS.out; omega
            have hd2 : decide (ay < av) = true := decide_eq_true hl2
            have NB := Lib.hid (TAKE.out (by omega) (.inr (by rw [Int.toNat_natCast]; exact hl)))
            clear STAY TAKE h0 hy hl hs
            go_wp2_with fail
            refine wp_region_ext (by kernel_rfl) (by kernel_rfl) ?_
            repeat (first | go_big_quiet_step (fail) | quiet_step (fail))
            refine wpQuiet_nil ?_
            intro w13 hw'
            obtain ⟨⟨_, hb13⟩, rfl⟩ := hw'
            have H13 := Lib.hid (HB.out.trans (hb13.mono HB.out.size))
            clear hb13 f0 f1 f2
            clear cx cy c2 c3 f3
            go_wp2_with fail
            go_roundw
            case rel =>
              have fin : ∃ (p' : Nat) (bs' : Int), p' ≤ cs.length ∧ Value.int .i64 ((p : Int) + 1) = .int .i64 p' ∧ Value.int .i64 y = .int .i64 bs' ∧ Best (fl g k) cs p' bs' ∧ Below w.heap.size w w13 := ⟨p + 1, _, by omega, by go_num, rfl, NB.out, H13.out⟩
              first | exact fin | ((repeat apply Exists.intro); exact ⟨fin, rfl⟩)
            case measure => simp [RowKit.intOf]; omega
          · have hl2 : ¬ ay < av := by have := AY.out; have := AS.out; omega
            have hd2 : decide (ay < av) = false := decide_eq_false hl2
            have NB := Lib.hid (STAY.out (.inr ⟨by omega, by rw [Int.toNat_natCast]; omega⟩))
            clear STAY TAKE h0 hy hl hs
            go_wp2_with fail
            refine wp_region_ext (by kernel_rfl) (by kernel_rfl) ?_
            repeat (first | go_big_quiet_step (fail) | quiet_step (fail))
            refine wpQuiet_nil ?_
            intro w13 hw'
            obtain ⟨⟨_, hb13⟩, rfl⟩ := hw'
            have H13 := Lib.hid (HB.out.trans (hb13.mono HB.out.size))
            clear hb13 f0 f1 f2
            clear cx cy c2 c3 f3
            go_wp2_with fail
            go_roundw
            case rel =>
              have fin : ∃ (p' : Nat) (bs' : Int), p' ≤ cs.length ∧ Value.int .i64 ((p : Int) + 1) = .int .i64 p' ∧ Value.int .i64 s = .int .i64 bs' ∧ Best (fl g k) cs p' bs' ∧ Below w.heap.size w w13 := ⟨p + 1, _, by omega, by go_num, rfl, NB.out, H13.out⟩
              first | exact fin | ((repeat apply Exists.intro); exact ⟨fin, rfl⟩)
            case measure => simp [RowKit.intOf]; omega
    · obtain rfl : p = cs.length := by omega
      have hlt2 : ¬ (cs.length : Int) < cs.length := by omega
      have E := Lib.hid (END.out bs BE.out)
      clear hkn
      go_wp2_with fail
      go_ret
      rw [← E.out]
      exact ⟨rfl, HB.out⟩
end Go.Proofs.YtlbjmkljmhfjdaaGreat
namespace Go.Proofs.YtlbjmkljmhfjdaaGreat
open Go Go.Proofs Go.RowKit Go.Lib Go.Maps
theorem start_no (k : Nat) : (startB 0).1.getD k false = false := by
  simp only [startB, List.getD, List.getElem?_replicate]
  split <;> rfl
theorem srch_no {g : Gr} {i : Int} (h : ¬ (rightB g = true ∧ 0 ≤ i ∧ i < g.rules.length)) : srch g i = startB 0 := by unfold srch; rw [if_neg h]
theorem toOf_no {g : Gr} {i : Int} (h : ¬ (rightB g = true ∧ 0 ≤ i ∧ i < g.rules.length)) : toOf g i = [] := by
  refine List.eq_nil_iff_forall_not_mem.2 fun x hx => ?_
  unfold toOf at hx
  have := (rowOf_mem.1 hx).2
  rw [srch_no h, start_no] at this
  cases this
theorem wayOf_no {g : Gr} {i k : Int} (h : ¬ (rightB g = true ∧ (0 ≤ i ∧ i < g.rules.length) ∧ 0 ≤ k ∧ k < g.rules.length)) : wayOf g i k = [] := by
  refine way_no fun hc => ?_
  obtain ⟨h0, h1, h2⟩ := hc
  by_cases hi : rightB g = true ∧ 0 ≤ i ∧ i < g.rules.length
  · obtain ⟨r1, r2, r3⟩ := hi
    obtain ⟨n, rfl⟩ : ∃ n : Nat, i = n := ⟨i.toNat, by omega⟩
    have : tB g n k.toNat = true := h2
    have := ((tB_iff (rightB_true.1 r1) (by omega)).1 this).lt
    exact h ⟨r1, ⟨r2, r3⟩, h0, by omega⟩
  · rw [srch_no hi, start_no] at h2
    cases h2
theorem graphZ_len {g : Gr} (h : rightB g = true) : (graphZ g).length = g.rules.length := by rw [graphZ_yes h, graphOf_len]
theorem graphZ_len0 {g : Gr} (h : ¬ rightB g = true) : (graphZ g).length = 0 := by rw [graphZ_no h]; rfl
theorem nums_one (l : List Nat) (k : Nat) : nums (l ++ [k]) = nums l ++ [(k : Int)] := by simp [nums]
set_option maxRecDepth 100000 in
set_option maxHeartbeats 16000000 in
theorem r12To_any (g : Gr) (n : Int) (hn : -9223372036854775808 ≤ n ∧ n < 9223372036854775808) (w : World) (hg : Gr.At w g) (hin : Gr.In g) : Calls Tryz.prog 37 #[g.val, .int .i64 n] w fun e w' => RowE w' w.heap.size (toOf g n) e ∧ Below w.heap.size w w' := by
  obtain ⟨i0, hi, hz0, hz1, hz2⟩ := info_parts Tryz.info3
  have GR := Lib.hid (fun (w' : World) (b : Below w.heap.size w w') => r12Graph_any g w' (hg.below b) hin)
  clear hg hin
  have NONE : RowKit.Hid (∀ W, toOf g n = [] → Below w.heap.size w W → RowE W w.heap.size (toOf g n) (.returned (.slice none 0 0)) ∧ Below w.heap.size w W) := Lib.hid (fun W e b => by rw [e]; exact ⟨RowE.nil _ _, b⟩)
  show Calls Tryz.prog 37 #[.agg #[.slice g.RA g.rules.length g.rc, .slice g.NA g.nodes.length g.nc], .int .i64 n] w _
  by_cases h0 : n < 0
  · have HV := Lib.hid (toOf_no (g := g) (i := n) (by omega))
    generalize (graphZ g) = G at GR
    go_enter Tryz.func37, Tryz.ntmps37
    go_wp2_with (go_at_call 36; (with_reducible refine (GR.out _ (B1 _ _)).mono ?_); rintro e w1 ⟨⟨A, c, rfl, hx⟩, hb⟩; have HX := Lib.hid hx; have H1 := Lib.hid (bb (B1 w _) hb); clear hb hx)
    go_ret
    exact NONE.out _ HV.out H1.out
  · by_cases h1 : ((graphZ g).length : Int) ≤ n
    · have HV := Lib.hid (toOf_no (g := g) (i := n) (fun h => by have := graphZ_len h.1; omega))
      generalize (graphZ g) = G at GR h1
      go_enter Tryz.func37, Tryz.ntmps37
      go_wp2_with (go_at_call 36; (with_reducible refine (GR.out _ (B1 _ _)).mono ?_); rintro e w1 ⟨⟨A, c, rfl, hx⟩, hb⟩; have HX := Lib.hid hx; have H1 := Lib.hid (bb (B1 w _) hb); clear hb hx)
      go_ret
      exact NONE.out _ HV.out H1.out
    · have hr : rightB g = true := by
        by_cases hr : rightB g = true
        · exact hr
        · exfalso; have := graphZ_len0 hr; omega
      have hR := rightB_true.1 hr
      have hl := graphZ_len hr
      rw [graphZ_yes hr] at GR hl
      obtain ⟨i, rfl⟩ : ∃ i : Nat, n = i := ⟨n.toNat, by omega⟩
      have hil : i < g.rules.length := by rw [graphZ_yes hr, graphOf_len] at h1; omega
      have HV := Lib.hid (to_row hR hil)
      have h32 := hR.rules.2
      have FAR := Lib.hid (fun k (hk : k < g.rules.length) A c W (hx : RR W A (graphOf g)) => r12far_any g hR k hk A c W hx)
      have NXT := Lib.hid (fun k (hk : k < g.rules.length) A c b cb W (hx : RR W A (graphOf g)) (ht : Ti W b g.rules.length (away g k)) => r12next_any g hR i k hil hk A c b cb W hx ht)
      generalize toOf g i = Z at HV ⊢
      clear NONE h1 hR hn
      generalize graphOf g = G at GR FAR NXT hl
      obtain ⟨r, er⟩ : ∃ r, r = g.rules.length := ⟨_, rfl⟩
      rw [← er] at hl hil h32
      have ER := Lib.hid er
      have HL := Lib.hid hl
      clear er hr
      have hil2 : (i : Int) < r := by omega
      have hi0 : ¬ (i : Int) < 0 := by omega
      have hig : ¬ (r : Int) ≤ i := by omega
      go_enter Tryz.func37, Tryz.ntmps37
      go_upto_region 4 with (go_at_call 36; (with_reducible refine (GR.out _ (B1 _ _)).mono ?_); rintro e w1 ⟨⟨A, c, rfl, hx⟩, hb⟩; rw [HL.out]; have HX := Lib.hid hx; have H1 := Lib.hid (bb (B1 w _) hb); clear hb hx)
      try generalize decide (r ≤ i) = bz1
      try generalize decide ((i : Int) < 0) = bz2
      go_wp2_with fail
      obtain ⟨q, eq⟩ : ∃ q : Nat → Bool, q = fun k => decide (0 ≤ nxt g i k) := ⟨_, rfl⟩
      have EQ := Lib.hid (fun k => show q k = decide (0 ≤ nxt g i k) from by rw [eq])
      have EZ := Lib.hid (show Z = rowOf' r q from by rw [HV.out, ER.out, eq])
      clear eq hl h0
      go_loopw [6, 7] (fun l iv wr => ∃ k : Nat, k ≤ r ∧ iv = .int .i64 k ∧ wr.ownsRow w1.heap.size 3 1 l (rowOf' k q).length (ints (nums (rowOf' k q))) ∧ Below w1.heap.size w1 wr) (fun _ iv _ => r - (RowKit.intOf iv).toNat)
      case atStart => exact ⟨0, by omega, by go_num, World.ownsRow_nil _ _ _ _, Below.refl _ _⟩
      case round =>
        obtain ⟨k, hk, rfl, hown, hb⟩ := hrel
        obtain ⟨LA, lc, rfl, _, _⟩ := own_slice hown
        have HO := Lib.hid hown
        have HB := Lib.hid hb
        have HXR := Lib.hid (HX.out.below hb)
        have RS := Lib.hid (rowOf_succ k q)
        have RL := Lib.hid (rowOf_len q k)
        clear hown hb
        by_cases hlt : k < r
        · have hlt2 : (k : Int) < r := by omega
          have F1 := Lib.hid (show Calls Tryz.prog 113 #[.slice A r c, .int .i64 k] wr fun e w' => (∃ b, e = .returned (.slice (some ⟨b, 0, none⟩) r r) ∧ Ti w' b r (away g k) ∧ wr.heap.size ≤ b) ∧ Below wr.heap.size wr w' from by
            have h := FAR.out k (by rw [← ER.out]; exact hlt) A c wr HXR.out
            rw [← ER.out] at h
            exact h)
          have N1 := Lib.hid (fun W (b : Below wr.heap.size wr W) ob (ht : Ti W ob r (away g k)) => show Calls Tryz.prog 112 #[.slice A r c, .int .i64 i, .slice (some ⟨ob, 0, none⟩) r r] W fun e w' => e = .returned (.int .i64 (nxt g i k)) ∧ Below W.heap.size W w' from by
            have h := NXT.out k (by rw [← ER.out]; exact hlt) A c ob r W (HXR.out.below b) (by rw [← ER.out]; exact ht)
            rw [← ER.out] at h
            exact h)
          have hq := EQ.out k
          generalize nxt g i k = z at N1 hq
          by_cases hz : 0 ≤ z
          · have QK := Lib.hid (show q k = true from hq.trans (decide_eq_true hz))
            clear hq
            go_wp2_with (first | (go_at_call 113; (with_reducible refine F1.out.mono ?_); rintro e w3 ⟨⟨ob, rfl, ht, _⟩, hb3⟩; have HT := Lib.hid ht; have B3 := Lib.hid hb3; clear ht hb3) | (go_at_call 112; (with_reducible refine (N1.out _ B3.out ob HT.out).mono ?_); rintro e w4 ⟨rfl, hb4⟩; have B4 := Lib.hid (bb B3.out hb4); have BW := Lib.hid (HB.out.trans ((bb B3.out hb4).mono HB.out.size)); have O1 := Lib.hid (own_below HO.out (bb B3.out hb4)); clear hb4) | (at_builtin; refine wpList_append_own _ rfl _ _ 38 rfl w1.heap.size 3 i0 (.int .i64 0) 1 8 Tryz.underlying38 hi hz0 hz1 hz2 rfl (by decide) _ _ _ rfl (O1.out.alloc _) ⟨w4.heap.size, 0, none⟩ 1 1 [.int .i64 k] rfl rfl (cell_one_new _ _ _) (by simp [Value.oneCell']) (by unfold maxLen; have := RL.out; omega) (by have := RL.out; omega) (by have := BW.out.size; simp; omega) ?_; intro v' w9 hown' hgrow hnil'; have O9 := Lib.hid hown'; have G9 := Lib.hid hgrow; clear hown' hgrow hnil'))
            go_roundw
            case rel =>
              have fin : ∃ k' : Nat, k' ≤ r ∧ Value.int .i64 ((k : Int) + 1) = .int .i64 k' ∧ w9.ownsRow w1.heap.size 3 1 v' (rowOf' k' q).length (ints (nums (rowOf' k' q))) ∧ Below w1.heap.size w1 w9 := by
                refine ⟨k + 1, by omega, by go_num, ?_, ?_⟩
                · rw [RS.out, QK.out, if_pos rfl, List.length_append, nums_app]
                  have := O9.out
                  simpa [ints] using this
                · exact grown_below (w := w4.alloc _) (BW.out.trans ((B1 w4 _).mono BW.out.size)) (by have := BW.out.size; simp; omega) G9.out (fun j e => (O1.out.lt j e).1)
              first | exact fin | ((repeat apply Exists.intro); exact ⟨fin, rfl⟩)
            case measure => simp [RowKit.intOf]; omega
          · have QK := Lib.hid (show q k = false from hq.trans (decide_eq_false hz))
            clear hq
            go_wp2_with (first | (go_at_call 113; (with_reducible refine F1.out.mono ?_); rintro e w3 ⟨⟨ob, rfl, ht, _⟩, hb3⟩; have HT := Lib.hid ht; have B3 := Lib.hid hb3; clear ht hb3) | (go_at_call 112; (with_reducible refine (N1.out _ B3.out ob HT.out).mono ?_); rintro e w4 ⟨rfl, hb4⟩; have B4 := Lib.hid (bb B3.out hb4); clear hb4))
            go_roundw
            case rel =>
              have fin : ∃ k' : Nat, k' ≤ r ∧ Value.int .i64 ((k : Int) + 1) = .int .i64 k' ∧ w4.ownsRow w1.heap.size 3 1 (.slice LA (rowOf' k q).length lc) (rowOf' k' q).length (ints (nums (rowOf' k' q))) ∧ Below w1.heap.size w1 w4 := ⟨k + 1, by omega, by go_num, by rw [RS.out, QK.out]; exact own_below HO.out B4.out, HB.out.trans (B4.out.mono HB.out.size)⟩
              first | exact fin | ((repeat apply Exists.intro); exact ⟨fin, rfl⟩)
            case measure => simp [RowKit.intOf]; omega
        · obtain rfl : k = r := by omega
          have hlt2 : ¬ (k : Int) < k := by omega
          go_wp2_with fail
          go_ret
          rw [EZ.out]
          exact ⟨⟨_, rfl, own_lower HO.out H1.out.size⟩, H1.out.trans (HB.out.mono H1.out.size)⟩
set_option maxRecDepth 100000 in
set_option maxHeartbeats 16000000 in
theorem r12Way_any (g : Gr) (n m : Int) (hn : -9223372036854775808 ≤ n ∧ n < 9223372036854775808) (hm : -9223372036854775808 ≤ m ∧ m < 9223372036854775808) (w : World) (hg : Gr.At w g) (hin : Gr.In g) : Calls Tryz.prog 39 #[g.val, .int .i64 n, .int .i64 m] w fun e w' => RowE w' w.heap.size (wayOf g n m) e ∧ Below w.heap.size w w' := by
  obtain ⟨i0, hi, hz0, hz1, hz2⟩ := info_parts Tryz.info3
  have GR := Lib.hid (fun (w' : World) (b : Below w.heap.size w w') => r12Graph_any g w' (hg.below b) hin)
  clear hg hin
  have NONE : RowKit.Hid (∀ W, wayOf g n m = [] → Below w.heap.size w W → RowE W w.heap.size (wayOf g n m) (.returned (.slice none 0 0)) ∧ Below w.heap.size w W) := Lib.hid (fun W e b => by rw [e]; exact ⟨RowE.nil _ _, b⟩)
  show Calls Tryz.prog 39 #[.agg #[.slice g.RA g.rules.length g.rc, .slice g.NA g.nodes.length g.nc], .int .i64 n, .int .i64 m] w _
  by_cases h0 : n < 0
  · have HV := Lib.hid (wayOf_no (g := g) (i := n) (k := m) (by omega))
    generalize (graphZ g) = G at GR
    go_enter Tryz.func39, Tryz.ntmps39
    go_wp2_with (go_at_call 36; (with_reducible refine (GR.out _ (B1 _ _)).mono ?_); rintro e w1 ⟨⟨A, c, rfl, hx⟩, hb⟩; have HX := Lib.hid hx; have H1 := Lib.hid (bb (B1 w _) hb); clear hb hx)
    go_ret
    exact NONE.out _ HV.out H1.out
  · by_cases h1 : ((graphZ g).length : Int) ≤ n
    · have HV := Lib.hid (wayOf_no (g := g) (i := n) (k := m) (fun h => by have := graphZ_len h.1; omega))
      generalize (graphZ g) = G at GR h1
      go_enter Tryz.func39, Tryz.ntmps39
      go_wp2_with (go_at_call 36; (with_reducible refine (GR.out _ (B1 _ _)).mono ?_); rintro e w1 ⟨⟨A, c, rfl, hx⟩, hb⟩; have HX := Lib.hid hx; have H1 := Lib.hid (bb (B1 w _) hb); clear hb hx)
      go_ret
      exact NONE.out _ HV.out H1.out
    · by_cases h2 : m < 0
      · have HV := Lib.hid (wayOf_no (g := g) (i := n) (k := m) (by omega))
        generalize (graphZ g) = G at GR h1
        go_enter Tryz.func39, Tryz.ntmps39
        go_wp2_with (go_at_call 36; (with_reducible refine (GR.out _ (B1 _ _)).mono ?_); rintro e w1 ⟨⟨A, c, rfl, hx⟩, hb⟩; have HX := Lib.hid hx; have H1 := Lib.hid (bb (B1 w _) hb); clear hb hx)
        go_ret
        exact NONE.out _ HV.out H1.out
      · by_cases h3 : ((graphZ g).length : Int) ≤ m
        · have HV := Lib.hid (wayOf_no (g := g) (i := n) (k := m) (fun h => by have := graphZ_len h.1; omega))
          generalize (graphZ g) = G at GR h1 h3
          go_enter Tryz.func39, Tryz.ntmps39
          go_wp2_with (go_at_call 36; (with_reducible refine (GR.out _ (B1 _ _)).mono ?_); rintro e w1 ⟨⟨A, c, rfl, hx⟩, hb⟩; have HX := Lib.hid hx; have H1 := Lib.hid (bb (B1 w _) hb); clear hb hx)
          go_ret
          exact NONE.out _ HV.out H1.out
        · have hr : rightB g = true := by
            by_cases hr : rightB g = true
            · exact hr
            · exfalso; have := graphZ_len0 hr; omega
          have hR := rightB_true.1 hr
          have hl := graphZ_len hr
          rw [hl] at h1 h3
          rw [graphZ_yes hr] at GR hl
          obtain ⟨i, rfl⟩ : ∃ i : Nat, n = i := ⟨n.toNat, by omega⟩
          obtain ⟨k, rfl⟩ : ∃ k : Nat, m = k := ⟨m.toNat, by omega⟩
          have hil : i < g.rules.length := by omega
          have hkl : k < g.rules.length := by omega
          have h32 := hR.rules.2
          have FAR := Lib.hid (fun A c W (hx : RR W A (graphOf g)) => r12far_any g hR k hkl A c W hx)
          have NXT := Lib.hid (fun a (ha : a < g.rules.length) A c b cb W (hx : RR W A (graphOf g)) (ht : Ti W b g.rules.length (away g k)) => r12next_any g hR a k ha hkl A c b cb W hx ht)
          have STEP := Lib.hid (fun a (ha : a < g.rules.length) (h : tB g a k = true) => rest_next hR ha hkl h)
          have WL := Lib.hid (way_le g i k)
          have NN := Lib.hid (nxt_none (g := g) (i := i) (k := k))
          have RK := Lib.hid (show rest g k k = [k] from by unfold rest; rw [if_pos rfl])
          have RN := Lib.hid (fun a (ha : a ≠ k) => show rest g k a = wayOf g a k from by unfold rest; rw [if_neg ha])
          generalize graphOf g = G at GR FAR NXT hl
          obtain ⟨r, er⟩ : ∃ r, r = g.rules.length := ⟨_, rfl⟩
          rw [← er] at hl hil hkl h32 h1 h3
          have ER := Lib.hid er
          have HL := Lib.hid hl
          clear er hr hR hl hn hm
          have hil2 : (i : Int) < r := by omega
          have hkl2 : (k : Int) < r := by omega
          have GARM2 : RowKit.Hid (∀ W, Below w.heap.size w W → Calls Tryz.prog 36 #[.agg #[.slice g.RA g.rules.length g.rc, .slice g.NA g.nodes.length g.nc]] W fun e w' => (∃ A c, e = .returned (.slice A r c) ∧ RR w' A G) ∧ Below W.heap.size W w') := Lib.hid (fun W b => (GR.out W b).mono (by rintro e w' ⟨⟨A, c, rfl, hx⟩, hb⟩; exact ⟨⟨A, c, by rw [HL.out], hx⟩, hb⟩))
          have F1 := Lib.hid (fun A c W (hx : RR W A G) => show Calls Tryz.prog 113 #[.slice A r c, .int .i64 k] W fun e w' => (∃ b, e = .returned (.slice (some ⟨b, 0, none⟩) r r) ∧ Ti w' b r (away g k) ∧ W.heap.size ≤ b) ∧ Below W.heap.size W w' from by
            have h := FAR.out A c W hx
            rw [← ER.out] at h
            exact h)
          have N1 := Lib.hid (fun a (ha : a < r) A c W (hx : RR W A G) ob (ht : Ti W ob r (away g k)) => show Calls Tryz.prog 112 #[.slice A r c, .int .i64 a, .slice (some ⟨ob, 0, none⟩) r r] W fun e w' => e = .returned (.int .i64 (nxt g a k)) ∧ Below W.heap.size W w' from by
            have h := NXT.out a (by rw [← ER.out]; exact ha) A c ob r W hx (by rw [← ER.out]; exact ht)
            rw [← ER.out] at h
            exact h)
          clear GR FAR NXT
          cases ht : tB g i k with
          | false =>
            have hv : wayOf g i k = [] := way_none ht
            have HV := Lib.hid hv
            have hnx := NN.out ht
            have N2 := Lib.hid (N1.out i hil)
            rw [hnx] at N2
            clear hnx hv STEP N1
            go_enter Tryz.func39, Tryz.ntmps39
            go_wp2_with (first | (go_at_call 36; (with_reducible refine (GARM2.out _ (B1 _ _)).mono ?_); rintro e w1 ⟨⟨A, c, rfl, hx⟩, hb⟩; have HX := Lib.hid hx; have H1 := Lib.hid (bb (B1 w _) hb); clear hb hx) | (go_at_call 113; (with_reducible refine (F1.out _ _ _ HX.out).mono ?_); rintro e w3 ⟨⟨ob, rfl, ht3, _⟩, hb3⟩; have HT := Lib.hid ht3; have B3 := Lib.hid hb3; clear ht3 hb3) | (go_at_call 112; (with_reducible refine (N2.out _ _ _ (HX.out.below B3.out) ob HT.out).mono ?_); rintro e w4 ⟨rfl, hb4⟩; have B4 := Lib.hid (bb B3.out hb4); clear hb4))
            go_ret
            exact NONE.out _ HV.out (H1.out.trans (B4.out.mono H1.out.size))
          | true =>
            obtain ⟨x, x1, x2, x3, x4⟩ := STEP.out i (by rw [← ER.out]; exact hil) ht
            have N2 := Lib.hid (N1.out i hil)
            rw [x1] at N2
            have X3 := Lib.hid x3
            have X4 := Lib.hid x4
            have X2 := Lib.hid (show x < r by rw [ER.out]; exact x2)
            have hxn : ¬ (x : Int) < 0 := by omega
            clear x1 x2 x3 x4 NONE ht
            go_enter Tryz.func39, Tryz.ntmps39
            go_upto_region 7 with (first | (go_at_call 36; (with_reducible refine (GARM2.out _ (B1 _ _)).mono ?_); rintro e w1 ⟨⟨A, c, rfl, hx⟩, hb⟩; have HX := Lib.hid hx; have H1 := Lib.hid (bb (B1 w _) hb); clear hb hx) | (go_at_call 113; (with_reducible refine (F1.out _ _ _ HX.out).mono ?_); rintro e w3 ⟨⟨ob, rfl, ht3, _⟩, hb3⟩; have HT := Lib.hid ht3; have B3 := Lib.hid hb3; clear ht3 hb3) | (go_at_call 112; (with_reducible refine (N2.out _ _ _ (HX.out.below B3.out) ob HT.out).mono ?_); rintro e w4 ⟨rfl, hb4⟩; have B4 := Lib.hid (bb B3.out hb4); have T4 := Lib.hid (HT.out.below hb4); have X4b := Lib.hid (HX.out.below (bb B3.out hb4)); clear hb4))
            obtain ⟨s4, es4⟩ : ∃ s, s = w4.heap.size := ⟨_, rfl⟩
            have ES4 := Lib.hid es4
            have OA := Lib.hid (show (w4.alloc (.cells #[.int .i64 i] 3)).ownsRow s4 3 1 (.slice (some ⟨s4, 0, none⟩) 1 1) 1 [.int .i64 i] from by rw [es4]; exact own_built w4 3 1 1 [.int .i64 i] rfl (by unfold maxLen; omega))
            obtain ⟨w5, ew5⟩ : ∃ u, u = w4.alloc (.cells #[.int .i64 i] 3) := ⟨_, rfl⟩
            have B5 := Lib.hid (show Below s4 w4 w5 from by rw [ew5, es4]; exact B1 _ _)
            rw [← ew5] at OA
            go_upto_region 8 with fail
            rw [← ew5, ← es4]
            have S4W := Lib.hid (show w.heap.size ≤ s4 from by have h1 := H1.out.size; have h2 := B4.out.size; omega)
            have W4 := Lib.hid (H1.out.trans (B4.out.mono H1.out.size))
            have S45 := Lib.hid (show s4 ≤ w5.heap.size from by have := B5.out.size; omega)
            have XB := Lib.hid (fun W (b : Below s4 w4 W) => X4b.out.below (by rw [es4] at b; exact b))
            have TB := Lib.hid (fun W (b : Below s4 w4 W) => T4.out.below (by rw [es4] at b; exact b))
            clear ew5 es4
            go_wp2_with (go_at_call 112; (with_reducible refine (N2.out _ _ _ (XB.out _ B5.out) ob (TB.out _ B5.out)).mono ?_); rintro e w6 ⟨rfl, hb6⟩; have B6 := Lib.hid (B5.out.trans (hb6.mono S45.out)); have O6 := Lib.hid (own_below OA.out hb6); have S46 := Lib.hid (show s4 ≤ w6.heap.size from by have := hb6.size; have := S45.out; omega); clear hb6)
            go_loopw [9, 10] (fun l av wr => ∃ (a : Nat) (O : List Nat), av = .int .i64 a ∧ a < r ∧ (a = k ∨ tB g a k = true) ∧ O ++ rest g k a = wayOf g i k ∧ wr.ownsRow s4 3 1 l O.length (ints (nums O)) ∧ Below s4 w4 wr ∧ s4 ≤ wr.heap.size) (fun _ av _ => (rest g k (RowKit.intOf av).toNat).length)
            case atStart => exact ⟨x, [i], by go_num, X2.out, X4.out, X3.out.symm, O6.out, B6.out, S46.out⟩
            case round =>
              obtain ⟨a, O, rfl, ha, hat, hrest, hown, hb, hs4⟩ := hrel
              obtain ⟨LA, lc, rfl, _, _⟩ := own_slice hown
              have HO := Lib.hid hown
              have HB := Lib.hid hb
              have hol : O.length ≤ 34 := by
                have h1 := WL.out
                rw [← hrest, List.length_append] at h1
                omega
              have S4R := Lib.hid hs4
              clear hown hb hs4
              by_cases hak : a = k
              · subst hak
                have EW := Lib.hid (show wayOf g i a = O ++ [a] from by rw [← hrest, RK.out])
                clear hrest hat
                go_wp2_with (at_builtin; refine wpList_append_own _ rfl _ _ 38 rfl s4 3 i0 (.int .i64 0) 1 8 Tryz.underlying38 hi hz0 hz1 hz2 rfl (by decide) _ _ _ rfl (HO.out.alloc _) ⟨wr.heap.size, 0, none⟩ 1 1 [.int .i64 a] rfl rfl (cell_one_new _ _ _) (by simp [Value.oneCell']) (by unfold maxLen; omega) (by omega) (by have := S4R.out; simp; omega) ?_; intro v' w9 hown' hgrow hnil'; have O9 := Lib.hid hown'; have G9 := Lib.hid hgrow; have BLL := Lib.hid (grown_below (w := wr.alloc _) (HB.out.trans ((B1 wr _).mono S4R.out)) (by have := S4R.out; simp; omega) hgrow (fun j e => (HO.out.lt j e).1)); have BLS := Lib.hid (show s4 ≤ w9.heap.size from by have h1 := hgrow.size; have h2 := S4R.out; simp at h1; omega); clear hown' hgrow hnil')
                go_ret
                rw [EW.out]
                refine ⟨⟨_, rfl, ?_⟩, ?_⟩
                · have h1 := O9.out
                  rw [List.length_append, List.length_singleton, nums_one]
                  refine own_lower (base' := w.heap.size) (show w9.ownsRow s4 3 1 _ (O.length + 1) (ints (nums O ++ [(a : Int)])) from ?_) S4W.out
                  simpa [ints] using h1
                · exact W4.out.trans (BLL.out.mono S4W.out)
              · have hne : ¬ (a : Int) = (k : Int) := by omega
                obtain ⟨y, y1, y2, y3, y4⟩ := STEP.out a (by rw [← ER.out]; exact ha) (hat.resolve_left hak)
                have RA := Lib.hid (show rest g k a = a :: rest g k y from by rw [RN.out a hak, y3])
                have N3 := Lib.hid (N1.out a ha)
                rw [y1] at N3
                have Y4 := Lib.hid y4
                have Y2 := Lib.hid (show y < r by rw [ER.out]; exact y2)
                have HRE := Lib.hid (show (O ++ [a]) ++ rest g k y = wayOf g i k from by rw [← hrest, RA.out]; simp)
                clear y1 y2 y3 y4 hat hrest hak
                go_wp2_with (first | (go_at_call 112; (with_reducible refine (N3.out _ _ _ (XB.out _ BLL.out) ob (TB.out _ BLL.out)).mono ?_); rintro e w10 ⟨rfl, hb10⟩; have B10 := Lib.hid hb10; clear hb10) | (at_builtin; refine wpList_append_own _ rfl _ _ 38 rfl s4 3 i0 (.int .i64 0) 1 8 Tryz.underlying38 hi hz0 hz1 hz2 rfl (by decide) _ _ _ rfl (HO.out.alloc _) ⟨wr.heap.size, 0, none⟩ 1 1 [.int .i64 a] rfl rfl (cell_one_new _ _ _) (by simp [Value.oneCell']) (by unfold maxLen; omega) (by omega) (by have := S4R.out; simp; omega) ?_; intro v' w9 hown' hgrow hnil'; have O9 := Lib.hid hown'; have G9 := Lib.hid hgrow; have BLL := Lib.hid (grown_below (w := wr.alloc _) (HB.out.trans ((B1 wr _).mono S4R.out)) (by have := S4R.out; simp; omega) hgrow (fun j e => (HO.out.lt j e).1)); have BLS := Lib.hid (show s4 ≤ w9.heap.size from by have h1 := hgrow.size; have h2 := S4R.out; simp at h1; omega); clear hown' hgrow hnil'))
                go_roundw
                case rel =>
                  have fin : ∃ (a' : Nat) (O' : List Nat), Value.int .i64 (y : Int) = .int .i64 a' ∧ a' < r ∧ (a' = k ∨ tB g a' k = true) ∧ O' ++ rest g k a' = wayOf g i k ∧ w10.ownsRow s4 3 1 v' O'.length (ints (nums O')) ∧ Below s4 w4 w10 ∧ s4 ≤ w10.heap.size := by
                    refine ⟨y, O ++ [a], rfl, Y2.out, Y4.out, HRE.out, ?_, ?_, ?_⟩
                    · rw [List.length_append, List.length_singleton, nums_one]
                      have h1 := own_below O9.out B10.out
                      simpa [ints] using h1
                    · exact BLL.out.trans (B10.out.mono BLS.out)
                    · have h1 := BLS.out; have h2 := B10.out.size; omega
                  first | exact fin | ((repeat apply Exists.intro); exact ⟨fin, rfl⟩)
                case measure => simp [RowKit.intOf, RA.out]
end Go.Proofs.YtlbjmkljmhfjdaaGreat
namespace Go.Proofs.YtlbjmkljmhfjdaaGreat
open Go Go.Proofs Go.RowKit Go.Lib Go.Maps
set_option maxRecDepth 100000 in
set_option maxHeartbeats 4000000 in
theorem r12Goes_any (g : Gr) (n : Int) (hn : -9223372036854775808 ≤ n ∧ n < 9223372036854775808) (w : World) (hg : Gr.At w g) (hin : Gr.In g) : Calls Tryz.prog 38 #[g.val, .int .i64 n] w fun e w' => e = .returned (.bool (goesB g n)) ∧ Below w.heap.size w w' := by
  have WY := Lib.hid (fun (w' : World) (b : Below w.heap.size w w') => r12Way_any g n n hn hn w' (hg.below b) hin)
  have EG := Lib.hid (show goesB g n = decide (0 < (wayOf g n n).length) from rfl)
  generalize goesB g n = z at EG ⊢
  generalize wayOf g n n = L at WY EG
  clear hg hin hn
  show Calls Tryz.prog 38 #[.agg #[.slice g.RA g.rules.length g.rc, .slice g.NA g.nodes.length g.nc], .int .i64 n] w _
  go_enter Tryz.func38, Tryz.ntmps38
  go_wp2_with (go_at_call 39; (with_reducible refine (WY.out _ (B1 _ _)).mono ?_); rintro e w1 ⟨⟨v, rfl, ho⟩, hb⟩; obtain ⟨A, c, rfl, _, _⟩ := own_slice ho; have H1 := Lib.hid (bb (B1 w _) hb); clear hb ho)
  go_ret
  rw [EG.out]
  refine ⟨?_, H1.out⟩
  first | rfl | (congr 2; first | rfl | simp | (apply decide_eq_decide.2; omega))
/-- Rows, no two of which lie in one block. -/
def Apt (vs : List Value) : Prop := ∀ j k q, j < vs.length → k < vs.length → j ≠ k → (vs.getD j undef).ownBlock = some q → (vs.getD k undef).ownBlock ≠ some q
theorem Apt.zero (n : Nat) : Apt (List.replicate n (Value.slice none 0 0)) := by
  intro j k q hj hk _ h1
  rw [List.length_replicate] at hj
  have : (List.replicate n (Value.slice none 0 0)).getD j undef = .slice none 0 0 := by simp [List.getD, hj]
  rw [this] at h1
  cases h1
theorem Apt.set {vs : List Value} {k : Nat} {v : Value} {B : Nat} (h : Apt vs) (hk : k < vs.length) (hold : ∀ j q, j < vs.length → (vs.getD j undef).ownBlock = some q → q < B) (hnew : ∀ q, v.ownBlock = some q → B ≤ q) : Apt (vs.set k v) := by
  have at_ : ∀ j, j < vs.length → (vs.set k v).getD j undef = if j = k then v else vs.getD j undef := fun j hj => by
    simp only [List.getD, List.getElem?_set]
    by_cases e : k = j
    · subst e; simp [hk]
    · rw [if_neg e, if_neg (fun h => e h.symm)]
  intro i j q hi hj hne h1 h2
  rw [List.length_set] at hi hj
  rw [at_ i hi] at h1
  rw [at_ j hj] at h2
  by_cases ei : i = k
  · rw [if_pos ei] at h1
    rw [if_neg (fun e => hne (ei.trans e.symm))] at h2
    have := hnew q h1
    have := hold j q hj h2
    omega
  · rw [if_neg ei] at h1
    by_cases ej : j = k
    · rw [if_pos ej] at h2
      have := hnew q h2
      have := hold i q hi h1
      omega
    · rw [if_neg ej] at h2
      exact h i j q hi hj hne h1 h2
set_option maxRecDepth 100000 in
set_option maxHeartbeats 4000000 in
theorem graph3_any (g : Gr) (w : World) (hg : Gr.At w g) (hin : Gr.In g) (hc : Capd g) (hR : Right g) : Calls Tryz.prog 23 #[g.val] w fun e w' => ∃ gb vs, e = .returned (.slice (some ⟨gb, 0, none⟩) g.rules.length g.rules.length) ∧ Rows2 w w' gb vs (graphOf g) ∧ Apt vs := by
  obtain ⟨i0, hi, hz0, hz1, hz2⟩ := info_parts Tryz.info_sH
  have WW := Lib.hid (fun (w' : World) (b : Below w.heap.size w w') => lworkOf_any g w' (hg.below b) hin hR)
  have BC := Lib.hid (fun (w1 : World) (p nb : Nat) (hW : Wk w1 p g nb) i hi => bodyCalls_any hW hR hc i hi)
  have h32 := hR.rules.2
  have GA := Lib.hid (graphTo_all g)
  have GZ := Lib.hid (fun i (h : i < g.rules.length) => graphTo_at (g := g) (k := 0) h)
  have GL := Lib.hid (graphTo_len g)
  clear hg hin hR hc
  show Calls Tryz.prog 23 #[.agg #[.slice g.RA g.rules.length g.rc, .slice g.NA g.nodes.length g.nc]] w _
  obtain ⟨m, em⟩ : ∃ m, m = g.rules.length := ⟨_, rfl⟩
  have EM := Lib.hid em
  rw [← em] at h32 ⊢
  have WW2 : RowKit.Hid (∀ (w' : World) (b : Below w.heap.size w w'), Calls Tryz.prog 91 #[.agg #[.slice g.RA m g.rc, .slice g.NA g.nodes.length g.nc]] w' fun e w'' => ∃ p nb, e = .returned (.tuple #[.pointer (some ⟨p, 0, none⟩), .bool true]) ∧ Wk w'' p g nb ∧ Below w'.heap.size w' w'') := Lib.hid (by rw [em]; exact WW.out)
  clear WW em
  go_enter Tryz.func23, Tryz.ntmps23
  go_upto_region 4 with (go_at_call 91; with_reducible refine (WW2.out _ (B1 _ _)).mono ?_; rintro e w1 ⟨p, nb, rfl, hW, hb⟩; have H1 := Lib.hid (bb (B1 w _) hb); have HW := Lib.hid hW; clear hb hW)
  have c0 := HW.out.box.cell 0
  simp only [List.getElem?_toArray, List.getElem?_cons_zero, List.getElem?_cons_succ] at c0
  rw [← EM.out] at c0
  have hmk : ∀ W : World, (Instr.makeSlice 31 (.int .i64 m) (.int .i64 m)).run Tryz.prog W = .ok (.slice (some ⟨W.heap.size, 0, none⟩) m m) (W.alloc (.cells (List.replicate m (Value.slice none 0 0)).toArray 38)) := fun W => by
    have hr := run_make (P := Tryz.prog) W 31 38 i0 (.slice none 0 0) Tryz.underlying31 hi hz0 .i64 .i64 (m : Nat) (m : Nat) (by omega) (by omega) (by rw [hz2]; omega) (by omega)
    have e : madeCells (Value.slice none 0 0).cells (m * 1) = (List.replicate m (Value.slice none 0 0)).toArray := by
      apply Array.ext
      · simp [madeCells]
      · intro k h1 h2
        simp [madeCells, Value.cells, Nat.mod_one]
    rw [hz1, Int.toNat_natCast, e] at hr
    exact hr
  go_wp2_with fail
  obtain ⟨gb, egb⟩ : ∃ u, u = w1.heap.size := ⟨_, rfl⟩
  have R0 : RowKit.Hid (Rows2 w (w1.alloc (.cells (Array.replicate m (Value.slice none 0 0)) 38)) gb (List.replicate m (Value.slice none 0 0)) (graphTo g 0)) := Lib.hid (by
    refine ⟨?_, by rw [egb]; exact H1.out.size, by rw [GL.out 0, List.length_replicate, EM.out], fun i hi => ?_, H1.out.trans ((B1 w1 _).mono H1.out.size)⟩
    · rw [egb, show (List.replicate m (Value.slice none 0 0)).toArray = Array.replicate m (Value.slice none 0 0) from by simp]
      exact Blk.new _ _ _
    · rw [GL.out 0] at hi
      rw [GZ.out i hi, if_neg (by omega)]
      have : (List.replicate m (Value.slice none 0 0)).getD i undef = .slice none 0 0 := by have := EM.out; simp [List.getD, show i < m by omega]
      rw [this]
      exact World.ownsRow_nil _ _ _ _)
  have EGB := Lib.hid (show w1.heap.size ≤ gb by omega)
  have hb12 := B1 w1 (.cells (Array.replicate m (Value.slice none 0 0)) 38)
  first | rw [← egb] | skip
  generalize w1.alloc (.cells (Array.replicate m (Value.slice none 0 0)) 38) = w2 at R0 hb12 ⊢
  have HB12 := Lib.hid hb12
  clear hb12 c0 hmk GZ egb
  go_loopw [23, 6] (fun i _ wr => ∃ (k : Nat) (vs : List Value), k ≤ m ∧ i = .int .i64 k ∧ Rows2 w wr gb vs (graphTo g k) ∧ Below w1.heap.size w1 wr ∧ Apt vs) (fun i _ _ => m - (RowKit.intOf i).toNat)
  case atStart => exact ⟨0, _, by omega, rfl, R0.out, HB12.out, Apt.zero _⟩
  case round =>
    obtain ⟨k, vs, hk, rfl, hrw, hbl, hapt⟩ := hrel
    have HAP := Lib.hid hapt
    have HRW := Lib.hid hrw
    have BL := Lib.hid hbl
    clear hrw hbl hapt
    by_cases hlt : k < m
    · have hlt2 : (k : Int) < m := by omega
      have B0 := Lib.hid (BC.out wr p nb (HW.out.below BL.out) k (by have := EM.out; omega))
      go_wp2_with fail
      refine B0.out.mono ?_
      rintro e w5 ⟨⟨v5, rfl, ho, _⟩, hb5⟩
      have HS := Lib.hid (HRW.out.step (by have := EM.out; omega) hb5 ho)
      have HA5 := Lib.hid (show Apt (vs.set k v5) from HAP.out.set (by have := HRW.out.len; rw [this, GL.out k]; have := EM.out; omega) (fun j q hj e => ((HRW.out.row j (by rw [GL.out k]; have h1 := HRW.out.len; rw [GL.out k] at h1; omega)).lt q e).2) (fun q e => (ho.lt q e).1))
      have h5 := HRW.out.below hb5
      have hvl : vs.length = m := by rw [h5.len, GL.out k]; exact EM.out.symm
      have c5 := h5.blk.cell k
      have f5 := h5.blk.frozen k
      obtain ⟨A6, n6, e6, _, _⟩ := own_slice (h5.row k (by rw [GL.out k]; have := EM.out; omega))
      have e7 : vs[k]? = some (vs.getD k undef) := by simp [List.getD, List.getElem?_eq_getElem (show k < vs.length by omega)]
      rw [List.getElem?_toArray, e7, e6] at c5
      generalize ((graphTo g k).getD k []).length = q6 at c5
      obtain ⟨A5, n5, rfl, _, _⟩ := own_slice ho
      have HB5 := Lib.hid (BL.out.trans (hb5.mono BL.out.size))
      generalize (lcal g k).length = q5 at HS HA5 ⊢
      clear h5 ho hb5 hvl e6 e7
      go_wp2_with fail
      go_roundw
      case rel => exact ⟨k + 1, _, by omega, by go_num, HS.out, HB5.out.setCell (p := ⟨gb, k, none⟩) EGB.out _, HA5.out⟩
      case measure => simp [RowKit.intOf]; omega
    · obtain rfl : k = m := by omega
      have hlt2 : ¬ (k : Int) < k := by omega
      go_wp2_with fail
      go_ret
      refine ⟨gb, rfl, vs, ?_⟩
      have := HRW.out
      rw [EM.out, GA.out] at this
      exact ⟨this, HAP.out⟩
end Go.Proofs.YtlbjmkljmhfjdaaGreat

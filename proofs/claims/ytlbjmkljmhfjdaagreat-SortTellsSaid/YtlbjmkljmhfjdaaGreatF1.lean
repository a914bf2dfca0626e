/- The document's comp: leads, walked. (Great seat.) -/
import Derived.Test.YtlbjmkljmhfjdaaGreatE9
import Derived.Deep.RegionHeld3
import Derived.Test.YtlbjmkljmhfjdaaGreatC9
import Derived.Test.YtlbjmkljmhfjdaaGreatD2
import Derived.KernelRfl
import Derived.Deep.CutRange
set_option linter.unusedSimpArgs false
set_option linter.unusedVariables false
namespace Go.Proofs.YtlbjmkljmhfjdaaGreat
open Go Go.Proofs Go.RowKit Go.Lib Go.Maps
theorem RR.row {W : World} {A : Option Addr} {G : List (List Nat)} (h : RR W A G) {i : Nat} (hi : i < G.length) : ∃ b o Ai ci, A = some ⟨b, o, none⟩ ∧ b < W.heap.size ∧ W.cell? ⟨b, o + i, none⟩ = some (.slice Ai (adjG G i).length ci) ∧ Lies W Ai (ints (nums (adjG G i))) := h i hi
theorem nums_at2 (l : List Nat) (q : Nat) (h : q < l.length) : (nums l).getD q 0 = ((l.getD q 0 : Nat) : Int) := by simp [nums, List.getD, List.getElem?_eq_getElem h]
theorem Mk.lt {W : World} {b n : Nat} {f : Nat → Bool} (h : Mk W b n f) : b < W.heap.size := by
  obtain ⟨vs, h1⟩ := h.blk
  exact h1.lt
/-- A table of Bools told. -/
def BRE (w : World) (n : Nat) (F : Nat → Nat → Bool) (e : Ending) : Prop := ∃ A c bs, e = .returned (.slice A n c) ∧ BR w A n bs F
set_option maxRecDepth 100000 in
set_option maxHeartbeats 16000000 in
theorem r13leads_any (G : List (List Nat)) (hR : RG G) (A : Option Addr) (c : Nat) (w : World) (hx : RR w A G) :
    Calls Tryz.prog 124 #[.slice A G.length c] w fun e w' => BRE w' G.length (fw (adjG G) G.length) e ∧ Below w.heap.size w w' := by
  obtain ⟨i1, ji, jz0, jz1, jz2⟩ := info_parts Tryz.info_b
  obtain ⟨i2, ki, kz0, kz1, kz2⟩ := info_parts Tryz.info_bs
  have HX := Lib.hid (fun (W : World) (b : Below w.heap.size w W) i (hi : i < G.length) => (hx.below b).row hi)
  have HLT := Lib.hid (fun i y (hy : y ∈ adjG G i) => (hR.inR i y hy).2)
  have HLN := Lib.hid (fun i => show (adjG G i).length ≤ 64 from by
    have h1 := hR.rise i
    have h2 := hR.lt i
    have h3 : (adjG G i).length ≤ G.length := nodup_le0 G.length (adjG G i) (h1.imp (fun h e => by omega)) (fun y hy => h2 y hy)
    have := hR.most
    omega)
  have hn := hR.most
  generalize adjG G = adj at HX HLT HLN ⊢
  clear hx hR
  obtain ⟨n, en⟩ : ∃ n, n = G.length := ⟨_, rfl⟩
  rw [← en] at hn HX HLT ⊢
  have hmk : ∀ W : World, (Instr.makeSlice 82 (.int .i64 n) (.int .i64 n)).run Tryz.prog W = .ok (.slice (some ⟨W.heap.size, 0, none⟩) n n) (W.alloc (.cells (List.replicate n (Value.bool false)).toArray 4)) := fun W => by
    have hr := run_make (P := Tryz.prog) W 82 4 i1 (.bool false) Tryz.underlying82 ji jz0 .i64 .i64 (n : Nat) (n : Nat) (by omega) (by omega) (by rw [jz2]; omega) (by omega)
    rw [jz1, Int.toNat_natCast, made_bool] at hr
    exact hr
  have HMK := Lib.hid hmk
  clear en hmk
  go_enter Tryz.func124, Tryz.ntmps124
  go_wp2_with fail
  go_loopw [3, 4] (fun l iv wr => ∃ (k : Nat) (vs : List Value) (bs : Nat → Nat), k ≤ n ∧ iv = .int .i64 k ∧ vs.length = k ∧ OwnBs wr w.heap.size l vs n bs (fw adj 0) ∧ Below w.heap.size w wr ∧ ∀ j, j < k → w.heap.size ≤ bs j) (fun _ iv _ => n - (RowKit.intOf iv).toNat)
  case atStart => exact ⟨0, [], fun _ => 0, by omega, by go_num, rfl, ⟨World.ownsRow_nil _ _ _ _, fun j hj => by simp at hj, fun i j hi => by simp at hi⟩, Below.refl _ _, fun j hj => by omega⟩
  case round =>
    obtain ⟨k, vs, bs, hk, rfl, hvl, hown, hb, hbsw⟩ := hrel
    have BSW := Lib.hid hbsw
    clear hbsw
    obtain ⟨LA, lc, rfl, _, _⟩ := own_slice hown.row
    rw [hvl] at hown ⊢
    have HO := Lib.hid hown
    have HB := Lib.hid hb
    have HVL := Lib.hid hvl
    clear hown hb
    by_cases hlt : k < n
    · have hlt2 : (k : Int) < n := by omega
      obtain ⟨bz, ebz⟩ : ∃ u, u = wr.heap.size := ⟨_, rfl⟩
      have hmk := HMK.out
      obtain ⟨w5, ew5⟩ : ∃ u, u = wr.alloc (.cells (List.replicate n (Value.bool false)).toArray 4) := ⟨_, rfl⟩
      have B5 := Lib.hid (show Below wr.heap.size wr w5 from by rw [ew5]; exact B1 _ _)
      have M5 := Lib.hid (show Mk w5 bz n (fun _ => false) from by
        rw [ew5, ebz]
        refine Mk.zero ?_
        have := Blk.new wr (List.replicate n (Value.bool false)).toArray 4
        simpa [bls] using this)
      have NB := Lib.hid (show ∀ j, j < vs.length → bs j ≠ bz from fun j hj => by have := (HO.out.each j hj).2.lt; omega)
      have er2 : (List.replicate n (Value.bool false)).toArray = Array.replicate n (Value.bool false) := by simp
      go_upto_region 6 with fail
      first | rw [← er2] | skip
      rw [← ew5, ← ebz]
      have BZ := Lib.hid (show w.heap.size ≤ bz from by have := HB.out.size; omega)
      clear ew5 ebz hmk er2
      have c5 := M5.out.cell hlt
      have f5 := M5.out.frozen k
      obtain ⟨w6, ew6⟩ : ∃ u, u = w5.setCell ⟨bz, k, none⟩ (.bool true) := ⟨_, rfl⟩
      have M6 := Lib.hid (show Mk w6 bz n (rowS adj k 0) from by rw [ew6]; exact (M5.out.put hlt true).congr (fun q _ => (rowS_zero adj k q).symm))
      have O6 := Lib.hid (show OwnBs w6 w.heap.size (.slice LA k lc) vs n bs (fw adj 0) from by rw [ew6]; exact (HO.out.below B5.out).elsewhere NB.out M5.out)
      have B6 := Lib.hid (show Below w.heap.size w w6 from by rw [ew6]; exact (HB.out.trans (B5.out.mono HB.out.size)).setCell (p := ⟨bz, k, none⟩) BZ.out _)
      go_upto_region 7 with fail
      rw [← ew6]
      clear ew6 c5 f5
      go_wp2_with fail
      go_loopw [6] (fun iv wr => ∃ p : Nat, p ≤ (adj k).length ∧ iv = .int .i64 p ∧ Mk wr bz n (rowS adj k p) ∧ OwnBs wr w.heap.size (.slice LA k lc) vs n bs (fw adj 0) ∧ Below w.heap.size w wr) (fun iv _ => (adj k).length - (RowKit.intOf iv).toNat)
      case atStart => exact ⟨0, by omega, by go_num, M6.out, O6.out, B6.out⟩
      case round =>
        clear M6 O6 B6
        obtain ⟨p, hp, rfl, hm, ho, hb⟩ := hrel
        obtain ⟨xb, xo, Ai, ci, eA, hxb, cx, lx⟩ := HX.out wr hb k hlt
        subst eA
        have HM := Lib.hid hm
        have HO2 := Lib.hid ho
        have HB2 := Lib.hid hb
        have LX := Lib.hid lx
        have hln := HLN.out k
        clear hm ho hb lx
        by_cases hpl : p < (adj k).length
        · have hpl2 : (p : Int) < (adj k).length := by omega
          have hp63 : (p : Int) + 1 ≤ 64 := by omega
          obtain ⟨yb, yo, eY, hyb, cy⟩ := lies_cell (l := nums (adj k)) LX.out (k := p) (by rw [nums_len]; exact hpl)
          subst eY
          rw [nums_at2 _ p hpl] at cy
          have hy := HLT.out k ((adj k).getD p 0) (by simp [List.getD, List.getElem?_eq_getElem hpl])
          have RN := Lib.hid (rowS_next (adj := adj) (i := k) hpl)
          generalize (adj k).getD p 0 = y at cy hy RN
          have hy2 : (y : Int) < n := by omega
          have c1 := HM.out.cell hy
          have f1 := HM.out.frozen y
          have NM := Lib.hid ((HM.out.put hy true).congr (fun q _ => RN.out q))
          have NO := Lib.hid (HO2.out.elsewhere (k := y) (u := .bool true) NB.out HM.out)
          have NBB := Lib.hid (HB2.out.setCell (p := ⟨bz, y, none⟩) BZ.out (.bool true))
          generalize (adj k).length = ak at hp hpl hpl2 cx hln
          generalize rowS adj k p y = ov at c1
          go_wp2_with fail
          go_roundw
          case rel =>
            have fin : ∃ p' : Nat, p' ≤ ak ∧ Value.int .i64 ((p : Int) + 1) = .int .i64 p' ∧ Mk (wr.setCell ⟨bz, y, none⟩ (.bool true)) bz n (rowS adj k p') ∧ OwnBs (wr.setCell ⟨bz, y, none⟩ (.bool true)) w.heap.size (.slice LA k lc) vs n bs (fw adj 0) ∧ Below w.heap.size w (wr.setCell ⟨bz, y, none⟩ (.bool true)) := ⟨p + 1, by omega, by go_num, NM.out, NO.out, NBB.out⟩
            first | exact fin | ((repeat apply Exists.intro); exact ⟨fin, rfl⟩)
          case measure => simp [RowKit.intOf]; omega
        · obtain rfl : p = (adj k).length := by omega
          have hpl2 : ¬ ((adj k).length : Int) < (adj k).length := by omega
          have HM2 := Lib.hid (HM.out.congr (fun q _ => rowS_all adj k q))
          generalize (adj k).length = ak at cx hpl2 hln
          go_wp2_with (at_builtin; refine wpList_append_own _ rfl _ _ 114 rfl w.heap.size 82 i2 (.slice none 0 0) 1 24 Tryz.underlying114 ki kz0 kz1 kz2 rfl (by decide) _ _ _ rfl (by have h := own_below HO2.out.row (B1 wr (.cells #[.slice (some ⟨bz, 0, none⟩) n n] 82)); rw [HVL.out] at h; exact h) ⟨wr.heap.size, 0, none⟩ 1 1 [.slice (some ⟨bz, 0, none⟩) n n] rfl rfl (cell_one_new _ _ _) (by simp [Value.oneCell']) (by unfold maxLen; omega) (by omega) (by have := HB2.out.size; simp; omega) ?_; intro v9 w9 hown9 hgrow9 hnil9; have O9 := Lib.hid hown9; have G9 := Lib.hid hgrow9; clear hown9 hgrow9 hnil9)
          go_roundw
          case rel =>
            have fin : ∃ (k' : Nat) (vs' : List Value) (bs' : Nat → Nat), k' ≤ n ∧ Value.int .i64 ((k : Int) + 1) = .int .i64 k' ∧ vs'.length = k' ∧ OwnBs w9 w.heap.size v9 vs' n bs' (fw adj 0) ∧ Below w.heap.size w w9 ∧ ∀ j, j < k' → w.heap.size ≤ bs' j := by
              refine ⟨k + 1, _, _, by omega, by go_num, ?_, HO2.out.add (b := bz) (by rw [HVL.out]; exact HM2.out) NB.out (B1 wr (.cells #[.slice (some ⟨bz, 0, none⟩) n n] 82)) (by rw [HVL.out]; exact O9.out) G9.out, ?_, fun j hj => ?_⟩
              · rw [List.length_append, HVL.out]; rfl
              · exact grown_below (HB2.out.trans ((B1 wr _).mono HB2.out.size)) (by have := HB2.out.size; simp; omega) G9.out (fun q e => (HO2.out.row.lt q e).1)
              · show w.heap.size ≤ (if j = vs.length then bz else bs j)
                split
                · exact BZ.out
                · exact BSW.out j (by have := HVL.out; omega)
            first | exact fin | ((repeat apply Exists.intro); exact ⟨fin, rfl⟩)
          case measure => simp [RowKit.intOf]; omega
    · obtain rfl : k = n := by omega
      have hlt2 : ¬ (k : Int) < k := by omega
      have BR0 := Lib.hid (show BR wr LA k bs (fw adj 0) from OwnBs.br (c := lc) (by rw [hvl]; exact HO.out) hvl)
      clear HO hvl HVL
      go_wp2_with fail
      go_loopw [7] (fun iv wr => ∃ m : Nat, m ≤ k ∧ iv = .int .i64 m ∧ BR wr LA k bs (fw adj m) ∧ Below w.heap.size w wr) (fun iv _ => k - (RowKit.intOf iv).toNat)
      case atStart => exact ⟨0, by omega, by go_num, BR0.out, HB.out⟩
      case round =>
        clear BR0 HB hlt2 hlt
        obtain ⟨m, hm, rfl, hbr, hb⟩ := hrel
        have HBR := Lib.hid hbr
        have HB := Lib.hid hb
        clear hbr hb
        by_cases hml : m < k
        · have hml2 : (m : Int) < k := by omega
          obtain ⟨wa, ewa⟩ : ∃ u, u = wr := ⟨_, rfl⟩
          subst ewa
          go_wp2_with fail
          go_loopw [8] (fun iv wr => ∃ i : Nat, i ≤ k ∧ iv = .int .i64 i ∧ BR wr LA k bs (fwM adj m i) ∧ Below w.heap.size w wr) (fun iv _ => k - (RowKit.intOf iv).toNat)
          case atStart => exact ⟨0, by omega, by go_num, HBR.out.congr (fun j q _ _ => (fwM_zero adj m j q).symm), HB.out⟩
          case round =>
            clear HBR HB
            obtain ⟨i, hi, rfl, hbr, hb⟩ := hrel
            have HBR := Lib.hid hbr
            have HB := Lib.hid hb
            clear hbr hb
            by_cases hil : i < k
            · have hil2 : (i : Int) < k := by omega
              obtain ⟨wa, ewa⟩ : ∃ u, u = wr := ⟨_, rfl⟩
              subst ewa
              go_wp2_with fail
              go_loopw [9] (fun iv wr => ∃ p : Nat, p ≤ k ∧ iv = .int .i64 p ∧ (fw adj m i m = true ∨ p = 0) ∧ BR wr LA k bs (fwP adj m i p) ∧ Below w.heap.size w wr) (fun iv _ => k - (RowKit.intOf iv).toNat)
              case atStart => exact ⟨0, by omega, by go_num, .inr rfl, HBR.out.congr (fun j q _ _ => (fwP_zero adj m i j q).symm), HB.out⟩
              case round =>
                clear HBR HB
                obtain ⟨p, hp, rfl, hgate, hbr, hb⟩ := hrel
                have HBR := Lib.hid hbr
                have HB := Lib.hid hb
                clear hbr hb
                obtain ⟨cb, co, eA, hcb, ci⟩ := HBR.out.cell i hil
                subst eA
                have HGT := Lib.hid hgate
                by_cases hpl : p < k
                · have hpl2 : (p : Int) < k := by omega
                  have g1 := (HBR.out.at hil hml).1
                  cases hg : fw adj m i m with
                  | false =>
                    obtain rfl : p = 0 := by
                      rcases HGT.out with h | h
                      · rw [hg] at h; cases h
                      · exact h
                    have e0 : fwP adj m i 0 i m = false := by rw [fwP_zero]; unfold fwM; rw [if_neg (by omega)]; exact hg
                    rw [e0] at g1
                    have NB := Lib.hid (HBR.out.congr (F' := fwM adj m (i + 1)) (fun j q _ _ => (fwP_zero adj m i j q).trans (fwM_skip hg j q)))
                    clear hgate HGT e0
                    go_wp2_with fail
                    go_roundw
                    case rel =>
                      have fin : ∃ i' : Nat, i' ≤ k ∧ Value.int .i64 ((i : Int) + 1) = .int .i64 i' ∧ BR wr (some ⟨cb, co, none⟩) k bs (fwM adj m i') ∧ Below w.heap.size w wr := ⟨i + 1, by omega, by go_num, NB.out, HB.out⟩
                      first | exact fin | ((repeat apply Exists.intro); exact ⟨fin, rfl⟩)
                    case measure => simp [RowKit.intOf]; omega
                  | true =>
                    rw [fwP_gate hg] at g1
                    obtain ⟨cb', co', eA', _, cm⟩ := HBR.out.cell m hml
                    obtain ⟨rfl, rfl⟩ : cb = cb' ∧ co = co' := by
                      have := Option.some.inj eA'
                      simp only [Addr.mk.injEq] at this
                      exact ⟨this.1, this.2.1⟩
                    have g2 := (HBR.out.at hil hpl).1
                    have f2 := (HBR.out.at hil hpl).2
                    have g3 := (HBR.out.at hml hpl).1
                    rw [fwP_here] at g2
                    rw [fwP_mid] at g3
                    have NB := Lib.hid (show BR (wr.setCell ⟨bs i, p, none⟩ (.bool (fw adj m i p || fw adj m m p))) (some ⟨cb, co, none⟩) k bs (fwP adj m i (p + 1)) from (HBR.out.put hil hpl _).congr (fun j q _ _ => fwP_put hg j q))
                    have NBB := Lib.hid (fun x => show Below w.heap.size w (wr.setCell ⟨bs i, p, none⟩ (.bool x)) from HB.out.setCell (p := ⟨bs i, p, none⟩) (BSW.out i hil) _)
                    clear hgate HGT eA'
                    generalize fw adj m m p = xm at g3 NB
                    cases hx : fw adj m i p with
                    | true =>
                      rw [hx] at g2 NB
                      rw [Bool.true_or] at NB
                      go_upto_region 21 with fail
                      go_region
                      all_goals (
                        go_wp2_with fail
                        go_roundw
                        case rel =>
                          have bd : ∀ W : World, Below W.heap.size W W.drew := fun W => bdrew1 (Below.refl _ _)
                          first
                          | exact ⟨p + 1, by omega, by go_num, .inl (by first | exact hg | trivial), NB.out.below (bd _), bdrew1 (NBB.out _)⟩
                          | exact ⟨p + 1, by omega, by go_num, .inl (by first | exact hg | trivial), NB.out, NBB.out _⟩
                          | ((repeat apply Exists.intro); exact ⟨⟨p + 1, by omega, by go_num, .inl (by first | exact hg | trivial), NB.out.below (bd _), bdrew1 (NBB.out _)⟩, rfl⟩)
                        case measure => simp [RowKit.intOf]; omega)
                    | false =>
                      rw [hx] at g2 NB
                      rw [Bool.false_or] at NB
                      go_upto_region 21 with fail
                      go_region
                      all_goals (
                        go_wp2_with fail
                        go_roundw
                        case rel =>
                          have bd : ∀ W : World, Below W.heap.size W W.drew := fun W => bdrew1 (Below.refl _ _)
                          first
                          | exact ⟨p + 1, by omega, by go_num, .inl (by first | exact hg | trivial), NB.out.below (bd _), bdrew1 (NBB.out _)⟩
                          | exact ⟨p + 1, by omega, by go_num, .inl (by first | exact hg | trivial), NB.out, NBB.out _⟩
                          | ((repeat apply Exists.intro); exact ⟨⟨p + 1, by omega, by go_num, .inl (by first | exact hg | trivial), NB.out.below (bd _), bdrew1 (NBB.out _)⟩, rfl⟩)
                        case measure => simp [RowKit.intOf]; omega)
                · obtain rfl : p = k := by omega
                  have hpl2 : ¬ (p : Int) < p := by omega
                  have NB := Lib.hid (show BR wr (some ⟨cb, co, none⟩) p bs (fwM adj m (i + 1)) from HBR.out.congr (fun j q _ hq => fwP_all hq))
                  clear hgate HGT
                  go_wp2_with fail
                  go_roundw
                  case rel =>
                    have fin : ∃ i' : Nat, i' ≤ p ∧ Value.int .i64 ((i : Int) + 1) = .int .i64 i' ∧ BR wr (some ⟨cb, co, none⟩) p bs (fwM adj m i') ∧ Below w.heap.size w wr := ⟨i + 1, by omega, by go_num, NB.out, HB.out⟩
                    first | exact fin | ((repeat apply Exists.intro); exact ⟨fin, rfl⟩)
                  case measure => simp [RowKit.intOf]; omega
            · obtain rfl : i = k := by omega
              have hil2 : ¬ (i : Int) < i := by omega
              have NB := Lib.hid (show BR wr LA i bs (fw adj (m + 1)) from HBR.out.congr (fun j q hj _ => by unfold fwM; rw [if_pos hj]))
              go_wp2_with fail
              go_roundw
              case rel =>
                have fin : ∃ m' : Nat, m' ≤ i ∧ Value.int .i64 ((m : Int) + 1) = .int .i64 m' ∧ BR wr LA i bs (fw adj m') ∧ Below w.heap.size w wr := ⟨m + 1, by omega, by go_num, NB.out, HB.out⟩
                first | exact fin | ((repeat apply Exists.intro); exact ⟨fin, rfl⟩)
              case measure => simp [RowKit.intOf]; omega
        · obtain rfl : m = k := by omega
          have hml2 : ¬ (m : Int) < m := by omega
          go_wp2_with fail
          go_ret
          exact ⟨⟨LA, lc, bs, rfl, HBR.out⟩, HB.out⟩
end Go.Proofs.YtlbjmkljmhfjdaaGreat
namespace Go.Proofs.YtlbjmkljmhfjdaaGreat
open Go Go.Proofs Go.RowKit Go.Lib Go.Maps
theorem openB_no {r : Nat → Nat → Bool} {put : Nat → Bool} {n a k : Nat} (hk : k < n) (h : (r a k && !put k && !r k a) = true) : openB r put n a = false := by
  unfold openB
  rw [Bool.and_eq_false_iff]
  right
  rw [Bool.eq_false_iff]
  intro hall
  have := List.all_eq_true.1 hall k (List.mem_range.2 hk)
  rw [h] at this
  cases this
theorem openB_yes {r : Nat → Nat → Bool} {put : Nat → Bool} {n a : Nat} (hp : put a = false) (h : ∀ k, k < n → (r a k && !put k && !r k a) = false) : openB r put n a = true := by
  unfold openB
  rw [hp, Bool.not_false, Bool.true_and]
  refine List.all_eq_true.2 fun k hk => ?_
  rw [h k (List.mem_range.1 hk)]; rfl
set_option maxRecDepth 100000 in
set_option maxHeartbeats 8000000 in
theorem r13open_any (n : Nat) (hn : n ≤ 64) (A : Option Addr) (c pb cp : Nat) (bs : Nat → Nat) (r : Nat → Nat → Bool) (put : Nat → Bool) (a : Nat) (ha : a < n) (w : World) (hl : BR w A n bs r) (hp : Mk w pb n put) :
    Calls Tryz.prog 125 #[.slice A n c, .slice (some ⟨pb, 0, none⟩) n cp, .int .i64 a] w fun e w' => e = .returned (.bool (openB r put n a)) ∧ Below w.heap.size w w' := by
  have HL := Lib.hid hl
  have HP := Lib.hid hp
  have NO := Lib.hid (fun k (hk : k < n) => @openB_no r put n a k hk)
  have YES := Lib.hid (@openB_yes r put n a)
  have NOP := Lib.hid (show put a = true → openB r put n a = false from fun h => by unfold openB; rw [h]; rfl)
  generalize openB r put n a = z at NO YES NOP ⊢
  have c0 := hp.cell ha
  have ha2 : (a : Int) < n := by omega
  clear hl hp
  cases hpa : put a with
  | true =>
    rw [hpa] at c0
    have HZ := Lib.hid (NOP.out hpa)
    clear NO YES NOP
    go_enter Tryz.func125, Tryz.ntmps125
    go_wp2_with fail
    go_ret
    exact ⟨ret_bool HZ.out.symm, Below.refl _ _⟩
  | false =>
    rw [hpa] at c0
    go_enter Tryz.func125, Tryz.ntmps125
    go_wp2_with fail
    go_loopw [7] (fun iv wr => ∃ k : Nat, k ≤ n ∧ iv = .int .i64 k ∧ (∀ q, q < k → (r a q && !put q && !r q a) = false) ∧ wr = w) (fun iv _ => n - (RowKit.intOf iv).toNat)
    case atStart => exact ⟨0, by omega, by go_num, fun q hq => by omega, rfl⟩
    case round =>
      obtain ⟨k, hk, rfl, hq, ew⟩ := hrel
      subst ew
      have HQ := Lib.hid hq
      clear hq
      by_cases hlt : k < n
      · have hlt2 : (k : Int) < n := by omega
        obtain ⟨cb, co, eA, _, ca⟩ := HL.out.cell a ha
        obtain ⟨cb', co', eA', _, ck⟩ := HL.out.cell k hlt
        rw [eA] at eA'
        obtain ⟨rfl, rfl⟩ : cb = cb' ∧ co = co' := by
          have := Option.some.inj eA'
          simp only [Addr.mk.injEq] at this
          exact ⟨this.1, this.2.1⟩
        clear eA'
        have EA := Lib.hid eA
        rw [eA]
        clear eA
        have g1 := (HL.out.at ha hlt).1
        have g2 := HP.out.cell hlt
        have g3 := (HL.out.at hlt ha).1
        have NOK := Lib.hid (NO.out k hlt)
        cases h1 : r a k with
        | false =>
          rw [h1] at g1
          have NX := Lib.hid (show ∀ q, q < k + 1 → (r a q && !put q && !r q a) = false from fun q hq => if e : q = k then by rw [e, h1]; rfl else HQ.out q (by omega))
          clear NO YES NOP NOK
          go_wp2_with fail
          go_roundw
          case rel =>
            have fin : ∃ k' : Nat, k' ≤ n ∧ Value.int .i64 ((k : Int) + 1) = .int .i64 k' ∧ (∀ q, q < k' → (r a q && !put q && !r q a) = false) ∧ wr = wr := ⟨k + 1, by omega, by go_num, NX.out, rfl⟩
            first | exact fin | exact ⟨k + 1, by omega, by go_num, NX.out, trivial⟩ | exact ⟨k + 1, by omega, by go_num, NX.out⟩ | ((repeat apply Exists.intro); exact ⟨fin, rfl⟩)
          case measure => simp [RowKit.intOf]; omega
        | true =>
          rw [h1] at g1
          cases h2 : put k with
          | true =>
            rw [h2] at g2
            have NX := Lib.hid (show ∀ q, q < k + 1 → (r a q && !put q && !r q a) = false from fun q hq => if e : q = k then by rw [e, h1, h2]; rfl else HQ.out q (by omega))
            clear NO YES NOP NOK
            go_wp2_with fail
            go_roundw
            case rel =>
              have fin : ∃ k' : Nat, k' ≤ n ∧ Value.int .i64 ((k : Int) + 1) = .int .i64 k' ∧ (∀ q, q < k' → (r a q && !put q && !r q a) = false) ∧ wr = wr := ⟨k + 1, by omega, by go_num, NX.out, rfl⟩
              first | exact fin | exact ⟨k + 1, by omega, by go_num, NX.out, trivial⟩ | exact ⟨k + 1, by omega, by go_num, NX.out⟩ | ((repeat apply Exists.intro); exact ⟨fin, rfl⟩)
            case measure => simp [RowKit.intOf]; omega
          | false =>
            rw [h2] at g2
            cases h3 : r k a with
            | true =>
              rw [h3] at g3
              have NX := Lib.hid (show ∀ q, q < k + 1 → (r a q && !put q && !r q a) = false from fun q hq => if e : q = k then by rw [e, h1, h2, h3]; rfl else HQ.out q (by omega))
              clear NO YES NOP NOK
              go_wp2_with fail
              go_roundw
              case rel =>
                have fin : ∃ k' : Nat, k' ≤ n ∧ Value.int .i64 ((k : Int) + 1) = .int .i64 k' ∧ (∀ q, q < k' → (r a q && !put q && !r q a) = false) ∧ wr = wr := ⟨k + 1, by omega, by go_num, NX.out, rfl⟩
                first | exact fin | exact ⟨k + 1, by omega, by go_num, NX.out, trivial⟩ | exact ⟨k + 1, by omega, by go_num, NX.out⟩ | ((repeat apply Exists.intro); exact ⟨fin, rfl⟩)
              case measure => simp [RowKit.intOf]; omega
            | false =>
              rw [h3] at g3
              have HZ := Lib.hid (NOK.out (by rw [h1, h2, h3]; rfl))
              clear NO YES NOP NOK
              go_wp2_with fail
              go_ret
              exact ⟨ret_bool HZ.out.symm, Below.refl _ _⟩
      · obtain rfl : k = n := by omega
        have hlt2 : ¬ (k : Int) < k := by omega
        have HZ := Lib.hid (YES.out hpa (fun q hq => HQ.out q hq))
        go_wp2_with fail
        go_ret
        exact ⟨ret_bool HZ.out.symm, Below.refl _ _⟩
end Go.Proofs.YtlbjmkljmhfjdaaGreat
namespace Go.Proofs.YtlbjmkljmhfjdaaGreat
open Go Go.Proofs Go.RowKit Go.Lib Go.Maps
/-- Only one block that there was is turned. -/
structure But (W W' : World) (pb : Nat) : Prop where
  size : W.heap.size ≤ W'.heap.size
  same : ∀ b, b < W.heap.size → b ≠ pb → W'.heap[b]? = W.heap[b]?
theorem But.refl (W : World) (pb : Nat) : But W W pb := ⟨Nat.le_refl _, fun _ _ _ => rfl⟩
theorem But.step {W W1 W2 : World} {pb : Nat} (h : But W W1 pb) (hb : Below W1.heap.size W1 W2) : But W W2 pb :=
  ⟨Nat.le_trans h.size hb.size, fun b h1 h2 => (hb.block b (by have := h.size; omega)).trans (h.same b h1 h2)⟩
theorem But.set {W W1 : World} {pb : Nat} (h : But W W1 pb) (k : Nat) (v : Value) : But W (W1.setCell ⟨pb, k, none⟩ v) pb :=
  ⟨by simpa [World.setCell] using h.size, fun b h1 h2 => (heap_setCell_other W1 ⟨pb, k, none⟩ b v h2).trans (h.same b h1 h2)⟩
theorem But.grown {W W1 W2 : World} {pb : Nat} {row : Option Nat} (h : But W W1 pb) (hg : W1.grownBy W2 row) (hr : ∀ q, row = some q → W.heap.size ≤ q) : But W W2 pb :=
  ⟨Nat.le_trans h.size hg.size, fun b h1 h2 => (hg.block b (by have := h.size; omega) (fun e => by have := hr b e.symm; omega)).trans (h.same b h1 h2)⟩
theorem But.own {W W' : World} {pb B e z n m : Nat} {v : Value} {xs : List Value} {f : Nat → Bool} (k : But W W' pb) (h : W.ownsRow B e z v n xs) (hm : Mk W pb m f) (he : (4 : TypeId) ≠ e) : W'.ownsRow B e z v n xs := by
  obtain ⟨us, hb⟩ := hm.blk
  exact own_kept h (fun q e => k.same q (h.lt q e).2 (fun e2 => own_ne h hb he (by rw [e, e2])))
theorem But.owns {W W' : World} {pb B m : Nat} {v : Value} {vs : List Value} {L : Nat → List Nat} {f : Nat → Bool} (k : But W W' pb) (h : OwnRs W B v vs L) (hm : Mk W pb m f) : OwnRs W' B v vs L :=
  ⟨k.own h.row hm (by decide), fun j hj => k.own (h.each j hj) hm (by decide)⟩
theorem But.cell {W W' : World} {pb : Nat} {a : Addr} {v : Value} (k : But W W' pb) (h : W.cell? a = some v) (hb : a.block < W.heap.size) (hne : a.block ≠ pb) : W'.cell? a = some v := by
  rw [← h]
  unfold World.cell?
  rw [k.same a.block hb hne]
theorem But.mark {W W' : World} {pb b m : Nat} {f : Nat → Bool} (k : But W W' pb) (h : Mk W b m f) (hne : b ≠ pb) : Mk W' b m f := by
  obtain ⟨ml, h1, h2⟩ := h
  exact ⟨ml, (k.same b h1.lt hne).trans h1, h2⟩
theorem But.br {W W' : World} {pb n m : Nat} {A : Option Addr} {bs : Nat → Nat} {F : Nat → Nat → Bool} {f : Nat → Bool} (k : But W W' pb) (h : BR W A n bs F) (hm : Mk W pb m f) (hne : ∀ i, i < n → bs i ≠ pb) : BR W' A n bs F := by
  refine ⟨fun i hi => ?_, fun i hi => k.mark (h.mks i hi) (hne i hi), h.inj, fun b o e hn => by
    obtain ⟨vs, hv⟩ := h.out b o e hn
    obtain ⟨us, hu⟩ := hm.blk
    refine ⟨vs, (k.same b hv.lt (fun e2 => ?_)).trans hv⟩
    rw [e2] at hv
    unfold Blk at hv hu
    rw [hv] at hu
    have h2 := Option.some.inj hu
    simp only [Obj.cells.injEq] at h2
    exact absurd h2.2.1 (by decide)⟩
  obtain ⟨b, o, e, h1, h2⟩ := h.cell i hi
  exact ⟨b, o, e, by have := k.size; omega, k.cell h2 h1 (hm.apart h2 (fun x e => nomatch e))⟩
set_option maxRecDepth 100000 in
set_option maxHeartbeats 16000000 in
theorem r13Right_any (G : List (List Nat)) (hR : RG G) (A : Option Addr) (c : Nat) (w : World) (hx : RR w A G) :
    Calls Tryz.prog 49 #[.slice A G.length c] w fun e w' => e = .returned (.bool true) ∧ Below w.heap.size w w' := by
  have HX := Lib.hid (fun (W : World) (b : Below w.heap.size w W) i (hi : i < G.length) => (hx.below b).row hi)
  have HLT := Lib.hid (fun i y (hy : y ∈ adjG G i) => (hR.inR i y hy).2)
  have HRI := Lib.hid (fun i p q (h1 : p < q) (h2 : q < (adjG G i).length) => show (adjG G i).getD p 0 < (adjG G i).getD q 0 from by
    have := List.pairwise_iff_getElem.1 (hR.rise i) p q (by show p < (adjG G i).length; omega) h2 h1
    simp only [List.getD, List.getElem?_eq_getElem (show p < (adjG G i).length by omega), List.getElem?_eq_getElem h2, Option.getD_some]
    exact this)
  have HLN := Lib.hid (fun i => show (adjG G i).length ≤ 64 from by
    have h1 := hR.rise i
    have h2 := hR.lt i
    have h3 : (adjG G i).length ≤ G.length := nodup_le0 G.length (adjG G i) (h1.imp (fun h e => by omega)) (fun y hy => h2 y hy)
    have := hR.most
    omega)
  have hn := hR.most
  generalize adjG G = adj at HX HLT HLN HRI
  clear hx hR
  obtain ⟨n, en⟩ : ∃ n, n = G.length := ⟨_, rfl⟩
  rw [← en] at hn HX HLT ⊢
  have hn2 : ¬ (64 : Int) < n := by omega
  clear en
  go_enter Tryz.func49, Tryz.ntmps49
  go_wp2_with fail
  go_loopw [3] (fun iv wr => ∃ i : Nat, i ≤ n ∧ iv = .int .i64 i ∧ Below w.heap.size w wr) (fun iv _ => n - (RowKit.intOf iv).toNat)
  case atStart => exact ⟨0, by omega, by go_num, Below.refl _ _⟩
  case round =>
    obtain ⟨i, hi, rfl, hb⟩ := hrel
    have HB := Lib.hid hb
    clear hb
    by_cases hil : i < n
    · have hil2 : (i : Int) < n := by omega
      go_wp2_with fail
      go_loopw [4] (fun iv wr => ∃ p : Nat, p ≤ (adj i).length ∧ iv = .int .i64 p ∧ Below w.heap.size w wr) (fun iv _ => (adj i).length - (RowKit.intOf iv).toNat)
      case atStart => exact ⟨0, by omega, by go_num, HB.out⟩
      case round =>
        clear HB
        obtain ⟨p, hp, rfl, hb⟩ := hrel
        obtain ⟨xb, xo, Ai, ci, eA, hxb, cx, lx⟩ := HX.out wr hb i hil
        subst eA
        have HB := Lib.hid hb
        have LX := Lib.hid lx
        have hln := HLN.out i
        clear hb lx
        by_cases hpl : p < (adj i).length
        · have hpl2 : (p : Int) < (adj i).length := by omega
          have hp63 : (p : Int) + 1 ≤ 64 := by omega
          obtain ⟨yb, yo, eY, hyb, cy⟩ := lies_cell (l := nums (adj i)) LX.out (k := p) (by rw [nums_len]; exact hpl)
          rw [nums_at2 _ p hpl] at cy
          have hy := HLT.out i ((adj i).getD p 0) (by simp [List.getD, List.getElem?_eq_getElem hpl])
          have RI := Lib.hid (fun q (h : q < p) => HRI.out i q p h hpl)
          have hca : p = 0 ∨ ∃ q, p = q + 1 := by cases p with | zero => exact .inl rfl | succ q => exact .inr ⟨q, rfl⟩
          generalize (adj i).getD p 0 = y at cy hy RI
          have hy1 : decide ((y : Int) < 0) = false := decide_eq_false (by omega)
          have hy2 : decide ((n : Int) ≤ (y : Int)) = false := decide_eq_false (by omega)
          have hy3 : ¬ (n : Int) ≤ (y : Int) := by omega
          have hy2n : decide (n ≤ y) = false := decide_eq_false (by omega)
          have hy4 : ¬ (y : Int) < 0 := by omega
          rcases hca with rfl | ⟨q, rfl⟩
          · subst eY
            simp only [Nat.add_zero] at cy
            generalize (adj i).length = ak at hp hpl hpl2 cx hln
            have f0 := fun (e : Ext wr) => Ext.cell cx e
            have f1 := fun (e : Ext wr) => Ext.cell cy e
            go_wp2_with fail
            refine wp_region_ext (by kernel_rfl) (by kernel_rfl) ?_
            repeat (first | go_big_quiet_step (fail) | quiet_step (fail))
            refine wpQuiet_nil ?_
            intro w13 hw'
            obtain ⟨⟨_, hb13⟩, rfl⟩ := hw'
            have H13 := Lib.hid (HB.out.trans (hb13.mono HB.out.size))
            clear hb13 f0 f1
            go_wp2_with fail
            go_roundw
            case rel =>
              have fin : ∃ p' : Nat, p' ≤ ak ∧ Value.int .i64 (((0 : Nat) : Int) + 1) = .int .i64 p' ∧ Below w.heap.size w w13 := ⟨1, by omega, by go_num, H13.out⟩
              first | exact fin | ((repeat apply Exists.intro); exact ⟨fin, rfl⟩)
            case measure => simp [RowKit.intOf]; omega
          · obtain ⟨yb', yo', eY', _, cz⟩ := lies_cell (l := nums (adj i)) LX.out (k := q) (by rw [nums_len]; omega)
            rw [eY] at eY'
            obtain ⟨rfl, rfl⟩ : yb = yb' ∧ yo = yo' := by
              have := Option.some.inj eY'
              simp only [Addr.mk.injEq] at this
              exact ⟨this.1, this.2.1⟩
            clear eY'
            subst eY
            rw [nums_at2 _ q (by omega)] at cz
            have hzy := RI.out q (by omega)
            generalize (adj i).getD q 0 = z at cz hzy
            have hd1 : decide ((y : Int) ≤ (z : Int)) = false := decide_eq_false (by omega)
            have hd2 : ¬ (y : Int) ≤ (z : Int) := by omega
            have hd1n : decide (y ≤ z) = false := decide_eq_false (by omega)
            have hw1 : IntKind.i64.wrap (((q + 1 : Nat) : Int) - 1) = (q : Int) := by rw [show ((q + 1 : Nat) : Int) - 1 = (q : Int) by omega]; exact IntWalk.i64_in _ (by omega)
            obtain ⟨p, ep⟩ : ∃ p, p = q + 1 := ⟨_, rfl⟩
            have EP := Lib.hid ep
            rw [← ep] at hp hpl hpl2 hp63 cy hw1 ⊢
            have hp0 : (0 : Int) < (p : Int) := by omega
            have hd0 : decide ((0 : Int) < (p : Int)) = true := decide_eq_true hp0
            have hd0n : decide (0 < p) = true := decide_eq_true (by omega)
            have hq0 : (q : Int) < (adj i).length := by omega
            clear ep RI
            generalize (adj i).length = ak at hp hpl hpl2 cx hln hq0
            have f0 := fun (e : Ext wr) => Ext.cell cx e
            have f1 := fun (e : Ext wr) => Ext.cell cy e
            have f2 := fun (e : Ext wr) => Ext.cell cz e
            go_wp2_with fail
            refine wp_region_ext (by kernel_rfl) (by kernel_rfl) ?_
            repeat (first | go_big_quiet_step (fail) | quiet_step (fail))
            refine wpQuiet_nil ?_
            intro w13 hw'
            obtain ⟨⟨_, hb13⟩, rfl⟩ := hw'
            have H13 := Lib.hid (HB.out.trans (hb13.mono HB.out.size))
            clear hb13 f0 f1 f2
            go_wp2_with fail
            go_roundw
            case rel =>
              have fin : ∃ p' : Nat, p' ≤ ak ∧ Value.int .i64 ((p : Int) + 1) = .int .i64 p' ∧ Below w.heap.size w w13 := ⟨p + 1, by omega, by go_num, H13.out⟩
              first | exact fin | ((repeat apply Exists.intro); exact ⟨fin, rfl⟩)
            case measure => simp [RowKit.intOf]; omega
        · obtain rfl : p = (adj i).length := by omega
          have hpl2 : ¬ ((adj i).length : Int) < (adj i).length := by omega
          generalize (adj i).length = ak at cx hpl2 hln
          go_wp2_with fail
          go_roundw
          case rel =>
            have fin : ∃ i' : Nat, i' ≤ n ∧ Value.int .i64 ((i : Int) + 1) = .int .i64 i' ∧ Below w.heap.size w wr := ⟨i + 1, by omega, by go_num, HB.out⟩
            first | exact fin | ((repeat apply Exists.intro); exact ⟨fin, rfl⟩)
          case measure => simp [RowKit.intOf]; omega
    · obtain rfl : i = n := by omega
      have hil2 : ¬ (i : Int) < i := by omega
      go_wp2_with fail
      go_ret
      exact ⟨rfl, HB.out⟩
end Go.Proofs.YtlbjmkljmhfjdaaGreat
namespace Go.Proofs.YtlbjmkljmhfjdaaGreat
open Go Go.Proofs Go.RowKit Go.Lib Go.Maps
/-- What is asked of parts, of what is put: see Parts. -/
structure Prt (n : Nat) (r : Nat → Nat → Bool) (P : List (List Nat)) (pt : Nat → Nat → Bool) : Prop where
  zero : ∀ k, k < n → pt 0 k = false
  len : P.length ≤ n
  next : ∀ t, t < P.length → ∃ a0, a0 < n ∧ openB r (pt t) n a0 = true ∧ (∀ a, a < a0 → openB r (pt t) n a = false) ∧ P.getD t [] = rowOf' n (fun k => r a0 k && r k a0) ∧ ∀ k, k < n → pt (t + 1) k = (pt t k || (r a0 k && r k a0))
  all : ∀ k, k < n → pt P.length k = true
theorem openB_put {r : Nat → Nat → Bool} {put : Nat → Bool} {n a : Nat} (h : put a = true) : openB r put n a = false := by unfold openB; rw [h]; rfl
theorem Prt.closed {n : Nat} {r : Nat → Nat → Bool} {P : List (List Nat)} {pt : Nat → Nat → Bool} (h : Prt n r P pt) {a : Nat} (ha : a < n) : openB r (pt P.length) n a = false := openB_put (h.all a ha)
/-- The numbers of a part that are put so far. -/
def ptk (pt : Nat → Bool) (q : Nat → Bool) (k x : Nat) : Bool := pt x || (decide (x < k) && q x)
theorem ptk_zero (pt q : Nat → Bool) (x : Nat) : ptk pt q 0 x = pt x := by unfold ptk; simp
theorem ptk_skip {pt q : Nat → Bool} {k : Nat} (h : q k = false) (x : Nat) : ptk pt q k x = ptk pt q (k + 1) x := by
  unfold ptk
  by_cases e : x = k
  · subst e; rw [h]; simp
  · have : decide (x < k) = decide (x < k + 1) := decide_eq_decide.2 (by omega)
    rw [this]
theorem ptk_put {pt q : Nat → Bool} {k : Nat} (h : q k = true) (x : Nat) : (if x = k then true else ptk pt q k x) = ptk pt q (k + 1) x := by
  unfold ptk
  by_cases e : x = k
  · subst e; rw [if_pos rfl, h, decide_eq_true (by omega)]; simp
  · rw [if_neg e]
    have : decide (x < k) = decide (x < k + 1) := decide_eq_decide.2 (by omega)
    rw [this]
/-- A table of Bools beside a row of rows of numbers that grows. -/
theorem BR_grown {W W' : World} {B n m : Nat} {A : Option Addr} {bs : Nat → Nat} {F : Nat → Nat → Bool} {v : Value} {xs : List Value} (h : BR W A n bs F) (ho : W.ownsRow B 38 1 v m xs) (hg : W.grownBy W' v.ownBlock) : BR W' A n bs F := by
  refine ⟨fun i hi => ?_, fun i hi => (h.mks i hi).grown ho (by decide) hg, h.inj, fun b o e hn => by
    obtain ⟨vs, hv⟩ := h.out b o e hn
    exact ⟨vs, hv.grown hg (fun e2 => own_ne ho hv (by decide) e2.symm)⟩⟩
  obtain ⟨b, o, e, h1, h2⟩ := h.cell i hi
  obtain ⟨vs, hv⟩ := h.out b o e (by omega)
  refine ⟨b, o, e, by have := hg.size; omega, ?_⟩
  rw [← h2]
  unfold World.cell?
  rw [hg.block b h1 (fun e2 => own_ne ho hv (by decide) e2.symm)]
set_option maxRecDepth 100000 in
set_option maxHeartbeats 32000000 in
theorem r13Parts_gen (G : List (List Nat)) (hR : RG G) (P : List (List Nat)) (pt : Nat → Nat → Bool) (hP : Prt G.length (fw (adjG G) G.length) P pt) (A : Option Addr) (c : Nat) (w : World) (hx : RR w A G) :
    Calls Tryz.prog 53 #[.slice A G.length c] w fun e w' => RRE w' P e ∧ Below w.heap.size w w' := by
  obtain ⟨i0, hi, hz0, hz1, hz2⟩ := info_parts Tryz.info3
  obtain ⟨i1, ji, jz0, jz1, jz2⟩ := info_parts Tryz.info_b
  obtain ⟨i2, ki, kz0, kz1, kz2⟩ := info_parts Tryz.info_sH
  have RI := Lib.hid (r13Right_any G hR A c w hx)
  have LE := Lib.hid (fun W (b : Below w.heap.size w W) => r13leads_any G hR A c W (hx.below b))
  have hn := hR.most
  clear hx hR
  generalize fw (adjG G) G.length = r at hP LE
  obtain ⟨n, en⟩ : ∃ n, n = G.length := ⟨_, rfl⟩
  rw [← en] at hn hP RI LE ⊢
  have HP := Lib.hid hP
  have hPl := hP.len
  have hmk : ∀ W : World, (Instr.makeSlice 82 (.int .i64 n) (.int .i64 n)).run Tryz.prog W = .ok (.slice (some ⟨W.heap.size, 0, none⟩) n n) (W.alloc (.cells (List.replicate n (Value.bool false)).toArray 4)) := fun W => by
    have hr := run_make (P := Tryz.prog) W 82 4 i1 (.bool false) Tryz.underlying82 ji jz0 .i64 .i64 (n : Nat) (n : Nat) (by omega) (by omega) (by rw [jz2]; omega) (by omega)
    rw [jz1, Int.toNat_natCast, made_bool] at hr
    exact hr
  clear en hP
  go_enter Tryz.func53, Tryz.ntmps53
  go_upto_region 4 with (first | (go_at_call 49; (with_reducible refine RI.out.mono ?_); rintro e w1 ⟨rfl, hb⟩; have H1 := Lib.hid hb; clear hb) | (go_at_call 124; (with_reducible refine (LE.out _ H1.out).mono ?_); rintro e w2 ⟨⟨LA, lc, bs, rfl, hbr⟩, hb⟩; have HBR2 := Lib.hid hbr; have H2 := Lib.hid (bb H1.out hb); clear hb hbr))
  obtain ⟨pb, epb⟩ : ∃ u, u = w2.heap.size := ⟨_, rfl⟩
  obtain ⟨w3, ew3⟩ : ∃ u, u = w2.alloc (.cells (List.replicate n (Value.bool false)).toArray 4) := ⟨_, rfl⟩
  have B3 := Lib.hid (show Below w2.heap.size w2 w3 from by rw [ew3]; exact B1 _ _)
  have M3 := Lib.hid (show Mk w3 pb n (pt 0) from by
    rw [ew3, epb]
    refine (Mk.zero ?_).congr (fun q hq => (HP.out.zero q hq).symm)
    have := Blk.new w2 (List.replicate n (Value.bool false)).toArray 4
    simpa [bls] using this)
  have BR3 := Lib.hid (HBR2.out.below B3.out)
  have H3 := Lib.hid (bb H2.out B3.out)
  have NE := Lib.hid (show ∀ i, i < n → bs i ≠ pb from fun i hi => by have := (HBR2.out.mks i hi).lt; omega)
  have PBW := Lib.hid (show w.heap.size ≤ pb from by have := H2.out.size; omega)
  have er2 : (List.replicate n (Value.bool false)).toArray = Array.replicate n (Value.bool false) := by simp
  go_upto_region 5 with fail
  first | rw [← er2] | skip
  rw [← ew3, ← epb]
  clear ew3 epb hmk er2 HBR2
  go_wp2_with fail
  go_loopw [5, 6] (fun l iv wr => ∃ (t : Nat) (vs : List Value), t ≤ P.length ∧ iv = .int .i64 t ∧ vs.length = t ∧ OwnRs wr w.heap.size l vs (fun j => P.getD j []) ∧ Mk wr pb n (pt t) ∧ BR wr LA n bs r ∧ Below w.heap.size w wr) (fun _ iv _ => n - (RowKit.intOf iv).toNat)
  case atStart => exact ⟨0, [], by omega, by go_num, rfl, ⟨World.ownsRow_nil _ _ _ _, fun j hj => by simp at hj⟩, M3.out, BR3.out, H3.out⟩
  case round =>
    clear M3 BR3 H3
    obtain ⟨t, vs, ht, rfl, hvl, hown, hmk, hbr, hb⟩ := hrel
    obtain ⟨OA, oc, rfl, _, _⟩ := own_slice hown.row
    have HVL := Lib.hid hvl
    rw [hvl]
    have HO := Lib.hid hown
    have HM := Lib.hid hmk
    have HBR := Lib.hid hbr
    have HB := Lib.hid hb
    clear hown hmk hbr hb
    have FIN := Lib.hid (fun (W : World) (b : Below wr.heap.size wr W) (e : t = P.length) => show RRE W P (.returned (.slice OA t oc)) ∧ Below w.heap.size w W from ⟨⟨OA, oc, by rw [e], (OwnRs.rr (HO.out.below b) (by rw [HVL.out, e]) (fun i _ => rfl))⟩, HB.out.trans (b.mono HB.out.size)⟩)
    clear hvl
    by_cases htn : t < n
    · have htn2 : (t : Int) < n := by omega
      go_wp2_with fail
      obtain ⟨wq, rfl⟩ : ∃ u, u = wr := ⟨_, rfl⟩
      go_loopw [7] (fun iv wr => ∃ a : Nat, a ≤ n ∧ iv = .int .i64 a ∧ (∀ b, b < a → openB r (pt t) n b = false) ∧ Below wq.heap.size wq wr) (fun iv _ => n - (RowKit.intOf iv).toNat)
      case atStart => exact ⟨0, by omega, by go_num, fun b hb => by omega, Below.refl _ _⟩
      case round =>
        obtain ⟨a, ha, rfl, hcl, hbq⟩ := hrel
        have HBQ := Lib.hid hbq
        have HCL := Lib.hid hcl
        clear hbq hcl
        by_cases han : a < n
        · have han2 : (a : Int) < n := by omega
          have han3 : ¬ (a : Int) = (n : Int) := by omega
          have hbe : ((a : Int) == (n : Int)) = false := by rw [beq_eq_false_iff_ne]; omega
          have OP := Lib.hid (r13open_any n hn LA lc pb n bs r (pt t) a han wr (HBR.out.below HBQ.out) (HM.out.below HBQ.out))
          cases ho : openB r (pt t) n a with
          | false =>
            rw [ho] at OP
            have NCL := Lib.hid (show ∀ b, b < a + 1 → openB r (pt t) n b = false from fun b hb => if e : b = a then e ▸ ho else HCL.out b (by omega))
            go_wp2_with (go_at_call 125; (with_reducible refine OP.out.mono ?_); rintro e w4 ⟨rfl, hb4⟩; have B4 := Lib.hid (HBQ.out.trans (hb4.mono HBQ.out.size)); clear hb4)
            go_roundw
            case rel =>
              have fin : ∃ a' : Nat, a' ≤ n ∧ Value.int .i64 ((a : Int) + 1) = .int .i64 a' ∧ (∀ b, b < a' → openB r (pt t) n b = false) ∧ Below wq.heap.size wq w4 := ⟨a + 1, by omega, by go_num, NCL.out, B4.out⟩
              first | exact fin | ((repeat apply Exists.intro); exact ⟨fin, rfl⟩)
            case measure => simp [RowKit.intOf]; omega
          | true =>
            rw [ho] at OP
            have htl : t < P.length := by
              rcases Nat.lt_or_ge t P.length with h | h
              · exact h
              · exfalso
                have e : t = P.length := by omega
                rw [e] at ho
                rw [HP.out.closed han] at ho
                cases ho
            obtain ⟨a0, z1, z2, z3, z4, z5⟩ := HP.out.next t htl
            obtain rfl : a0 = a := by
              rcases Nat.lt_trichotomy a0 a with h | h | h
              · rw [HCL.out a0 h] at z2; cases z2
              · exact h
              · rw [z3 a h] at ho; cases ho
            have Z4 := Lib.hid z4
            have Z5 := Lib.hid z5
            obtain ⟨q, eq⟩ : ∃ q : Nat → Bool, q = fun k => r a0 k && r k a0 := ⟨_, rfl⟩
            have EQ := Lib.hid (fun k => show q k = (r a0 k && r k a0) from by rw [eq])
            have Z4' := Lib.hid (show P.getD t [] = rowOf' n q from by rw [eq]; exact z4)
            have Z5' := Lib.hid (show ∀ k, k < n → pt (t + 1) k = ptk (pt t) q n k from fun k hk => by unfold ptk; rw [z5 k hk, eq, decide_eq_true hk, Bool.true_and])
            clear z1 z2 z3 z4 z5 eq Z4 Z5
            go_wp2_with (go_at_call 125; (with_reducible refine OP.out.mono ?_); rintro e w4 ⟨rfl, hb4⟩; have B4 := Lib.hid (HBQ.out.trans (hb4.mono HBQ.out.size)); clear hb4)
            have O4 := Lib.hid (HO.out.below B4.out)
            have M4 := Lib.hid (HM.out.below B4.out)
            have BR4 := Lib.hid (HBR.out.below B4.out)
            have W4 := Lib.hid (HB.out.trans (B4.out.mono HB.out.size))
            clear HCL OP ho
            obtain ⟨wp, rfl⟩ : ∃ u, u = w4 := ⟨_, rfl⟩
            go_loopw [8, 9] (fun l iv wr => ∃ k : Nat, k ≤ n ∧ iv = .int .i64 k ∧ wr.ownsRow wp.heap.size 3 1 l (rowOf' k q).length (ints (nums (rowOf' k q))) ∧ Mk wr pb n (ptk (pt t) q k) ∧ But wp wr pb ∧ Below w.heap.size w wr) (fun _ iv _ => n - (RowKit.intOf iv).toNat)
            case atStart => exact ⟨0, by omega, by go_num, World.ownsRow_nil _ _ _ _, M4.out.congr (fun x _ => (ptk_zero _ _ x).symm), But.refl _ _, W4.out⟩
            case round =>
              obtain ⟨k, hk, rfl, hown, hmk, hbut, hb⟩ := hrel
              obtain ⟨PA, pc, rfl, _, _⟩ := own_slice hown
              have HO2 := Lib.hid hown
              have HM2 := Lib.hid hmk
              have HBU := Lib.hid hbut
              have HB2 := Lib.hid hb
              have HBR2 := Lib.hid (hbut.br BR4.out M4.out NE.out)
              have RS := Lib.hid (rowOf_succ k q)
              have RL := Lib.hid (rowOf_len q k)
              clear hown hmk hbut hb
              by_cases hkn : k < n
              · have hkn2 : (k : Int) < n := by omega
                obtain ⟨cb, co, eA, _, ca⟩ := HBR2.out.cell a0 han
                obtain ⟨cb', co', eA', _, ck⟩ := HBR2.out.cell k hkn
                rw [eA] at eA'
                obtain ⟨rfl, rfl⟩ : cb = cb' ∧ co = co' := by
                  have := Option.some.inj eA'
                  simp only [Addr.mk.injEq] at this
                  exact ⟨this.1, this.2.1⟩
                clear eA'
                subst eA
                have g1 := (HBR2.out.at han hkn).1
                have g2 := (HBR2.out.at hkn han).1
                have hq := EQ.out k
                cases h1 : r a0 k with
                | false =>
                  rw [h1] at g1 hq
                  have QK := Lib.hid (show q k = false from hq.trans rfl)
                  have NM := Lib.hid (HM2.out.congr (fun x _ => ptk_skip QK.out x))
                  clear hq
                  go_wp2_with fail
                  go_roundw
                  case rel =>
                    have fin : ∃ k' : Nat, k' ≤ n ∧ Value.int .i64 ((k : Int) + 1) = .int .i64 k' ∧ wr.ownsRow wp.heap.size 3 1 (.slice PA (rowOf' k q).length pc) (rowOf' k' q).length (ints (nums (rowOf' k' q))) ∧ Mk wr pb n (ptk (pt t) q k') ∧ But wp wr pb ∧ Below w.heap.size w wr := ⟨k + 1, by omega, by go_num, by rw [RS.out, QK.out]; exact HO2.out, NM.out, HBU.out, HB2.out⟩
                    first | exact fin | ((repeat apply Exists.intro); exact ⟨fin, rfl⟩)
                  case measure => simp [RowKit.intOf]; omega
                | true =>
                  rw [h1] at g1 hq
                  cases h2 : r k a0 with
                  | false =>
                    rw [h2] at g2 hq
                    have QK := Lib.hid (show q k = false from hq.trans rfl)
                    have NM := Lib.hid (HM2.out.congr (fun x _ => ptk_skip QK.out x))
                    clear hq
                    go_wp2_with fail
                    go_roundw
                    case rel =>
                      have fin : ∃ k' : Nat, k' ≤ n ∧ Value.int .i64 ((k : Int) + 1) = .int .i64 k' ∧ wr.ownsRow wp.heap.size 3 1 (.slice PA (rowOf' k q).length pc) (rowOf' k' q).length (ints (nums (rowOf' k' q))) ∧ Mk wr pb n (ptk (pt t) q k') ∧ But wp wr pb ∧ Below w.heap.size w wr := ⟨k + 1, by omega, by go_num, by rw [RS.out, QK.out]; exact HO2.out, NM.out, HBU.out, HB2.out⟩
                      first | exact fin | ((repeat apply Exists.intro); exact ⟨fin, rfl⟩)
                    case measure => simp [RowKit.intOf]; omega
                  | true =>
                    rw [h2] at g2 hq
                    have QK := Lib.hid (show q k = true from hq.trans rfl)
                    clear hq
                    go_upto_region 19 with (at_builtin; refine wpList_append_own _ rfl _ _ 38 rfl wp.heap.size 3 i0 (.int .i64 0) 1 8 Tryz.underlying38 hi hz0 hz1 hz2 rfl (by decide) _ _ _ rfl (HO2.out.alloc _) ⟨wr.heap.size, 0, none⟩ 1 1 [.int .i64 k] rfl rfl (cell_one_new _ _ _) (by simp [Value.oneCell']) (by unfold maxLen; have := RL.out; omega) (by have := RL.out; omega) (by have := HBU.out.size; simp; omega) ?_; intro v9 w9 hown9 hgrow9 hnil9; have O9 := Lib.hid hown9; have G9 := Lib.hid hgrow9; clear hown9 hgrow9 hnil9)
                    have M9 := Lib.hid ((HM2.out.below (B1 wr (.cells #[.int .i64 k] 3))).grown (HO2.out.alloc _) (by decide) G9.out)
                    have BU9 := Lib.hid ((HBU.out.step (B1 wr (.cells #[.int .i64 k] 3))).grown G9.out (fun j e => (HO2.out.lt j e).1))
                    have W9 := Lib.hid (grown_below (w := wr.alloc _) (HB2.out.trans ((B1 wr (.cells #[.int .i64 k] 3)).mono HB2.out.size)) (by have := HB2.out.size; simp; omega) G9.out (fun j e => by have h1 := (HO2.out.lt j e).1; have h2 := W4.out.size; omega))
                    have c9 := M9.out.cell hkn
                    have f9 := M9.out.frozen k
                    have NM := Lib.hid (show Mk (w9.setCell ⟨pb, k, none⟩ (.bool true)) pb n (ptk (pt t) q (k + 1)) from (M9.out.put hkn true).congr (fun x _ => ptk_put QK.out x))
                    have NB := Lib.hid (BU9.out.set k (.bool true))
                    have NW := Lib.hid (W9.out.setCell (p := ⟨pb, k, none⟩) PBW.out (.bool true))
                    have NO9 := Lib.hid (show (w9.setCell ⟨pb, k, none⟩ (.bool true)).ownsRow wp.heap.size 3 1 v9 (rowOf' (k + 1) q).length (ints (nums (rowOf' (k + 1) q))) from by
                      obtain ⟨us, hub⟩ := M9.out.blk
                      have h1 := own_kept (w' := w9.setCell ⟨pb, k, none⟩ (.bool true)) O9.out (fun x e => heap_setCell_other w9 ⟨pb, k, none⟩ x _ (fun e2 => own_ne O9.out hub (by decide) (by rw [e]; exact congrArg some e2)))
                      rw [RS.out, QK.out, if_pos rfl, List.length_append, nums_app]
                      simpa [ints] using h1)
                    generalize ptk (pt t) q k k = ov at c9
                    go_wp2_with fail
                    go_roundw
                    case rel =>
                      have fin : ∃ k' : Nat, k' ≤ n ∧ Value.int .i64 ((k : Int) + 1) = .int .i64 k' ∧ (w9.setCell ⟨pb, k, none⟩ (.bool true)).ownsRow wp.heap.size 3 1 v9 (rowOf' k' q).length (ints (nums (rowOf' k' q))) ∧ Mk (w9.setCell ⟨pb, k, none⟩ (.bool true)) pb n (ptk (pt t) q k') ∧ But wp (w9.setCell ⟨pb, k, none⟩ (.bool true)) pb ∧ Below w.heap.size w (w9.setCell ⟨pb, k, none⟩ (.bool true)) := ⟨k + 1, by omega, by go_num, NO9.out, NM.out, NB.out, NW.out⟩
                      first | exact fin | ((repeat apply Exists.intro); exact ⟨fin, rfl⟩)
                    case measure => simp [RowKit.intOf]; omega
              · obtain rfl : k = n := by omega
                have hkn2 : ¬ (k : Int) < k := by omega
                have OR := Lib.hid (HBU.out.owns O4.out M4.out)
                have MN := Lib.hid (show Mk wr pb k (pt (t + 1)) from HM2.out.congr (fun x hx => (Z5'.out x hx).symm))
                have PO := Lib.hid (show wr.ownsRow w.heap.size 3 1 (.slice PA (rowOf' k q).length pc) (P.getD vs.length []).length (ints (nums (P.getD vs.length []))) from by
                  rw [HVL.out, Z4'.out]
                  exact own_lower HO2.out W4.out.size)
                have hoL := HVL.out
                go_wp2_with (at_builtin; refine wpList_append_own _ rfl _ _ 31 rfl w.heap.size 38 i2 (.slice none 0 0) 1 24 Tryz.underlying31 ki kz0 kz1 kz2 rfl (by decide) _ _ _ rfl (by have h := own_below OR.out.row (B1 wr (.cells #[.slice PA (rowOf' k q).length pc] 38)); rw [HVL.out] at h; exact h) ⟨wr.heap.size, 0, none⟩ 1 1 [.slice PA (rowOf' k q).length pc] rfl rfl (cell_one_new _ _ _) (by simp [Value.oneCell']) (by unfold maxLen; omega) (by omega) (by have := HB2.out.size; simp; omega) ?_; intro v9 w9 hown9 hgrow9 hnil9; have O9 := Lib.hid hown9; have G9 := Lib.hid hgrow9; clear hown9 hgrow9 hnil9)
                go_roundw
                case rel =>
                  have fin : ∃ (t' : Nat) (vs' : List Value), t' ≤ P.length ∧ Value.int .i64 ((t : Int) + 1) = .int .i64 t' ∧ vs'.length = t' ∧ OwnRs w9 w.heap.size v9 vs' (fun j => P.getD j []) ∧ Mk w9 pb k (pt t') ∧ BR w9 LA k bs r ∧ Below w.heap.size w w9 := by
                    refine ⟨t + 1, vs ++ [.slice PA (rowOf' k q).length pc], by omega, by go_num, by rw [List.length_append, HVL.out]; rfl, OR.out.add PO.out (B1 wr (.cells #[.slice PA (rowOf' k q).length pc] 38)) (by rw [HVL.out]; exact O9.out) (by rw [HVL.out]; exact G9.out), ?_, ?_, ?_⟩
                    · exact (MN.out.below (B1 wr (.cells #[.slice PA (rowOf' k q).length pc] 38))).grown (own_below OR.out.row (B1 wr _)) (by decide) (by rw [HVL.out]; exact G9.out)
                    · exact BR_grown (HBR2.out.below (B1 wr (.cells #[.slice PA (rowOf' k q).length pc] 38))) (own_below OR.out.row (B1 wr _)) (by rw [HVL.out]; exact G9.out)
                    · exact grown_below (HB2.out.trans ((B1 wr (.cells #[.slice PA (rowOf' k q).length pc] 38)).mono HB2.out.size)) (by have := HB2.out.size; simp; omega) G9.out (fun x e => (OR.out.row.lt x (by rw [HVL.out]; exact e)).1)
                  first | exact fin | ((repeat apply Exists.intro); exact ⟨fin, rfl⟩)
                case measure => simp [RowKit.intOf]; omega
        · obtain rfl : a = n := by omega
          have han2 : ¬ (a : Int) < a := by omega
          have et : t = P.length := by
            rcases Nat.lt_or_ge t P.length with h | h
            · exfalso
              obtain ⟨a0, z1, z2, _⟩ := HP.out.next t h
              rw [HCL.out a0 z1] at z2; cases z2
            · omega
          have FN := Lib.hid (FIN.out wr HBQ.out et)
          clear et
          go_wp2_with fail
          go_ret
          exact FN.out
    · have et : t = P.length := by omega
      have htn2 : ¬ (t : Int) < n := by omega
      have FN := Lib.hid (FIN.out wr (Below.refl _ _) et)
      clear et
      go_wp2_with fail
      go_ret
      exact FN.out
end Go.Proofs.YtlbjmkljmhfjdaaGreat
namespace Go.Proofs.YtlbjmkljmhfjdaaGreat
open Go Go.RowKit
theorem fsts_kz (x : Nd) (may : Int → Bool) : fsts x.kz may = fsts x may := rfl
theorem ownF_kz (l : List Nd) (may : Int → Bool) : ∀ (f : Nat) (n : Int), ownF (l.map Nd.kz) may f n = ownF l may f n
  | 0, _ => rfl
  | f + 1, n => by
    unfold ownF
    rw [kz_getD, fsts_kz, show ownF (l.map Nd.kz) may f = ownF l may f from funext (ownF_kz l may f)]
theorem ownN_kz (l : List Nd) (may : Int → Bool) (n : Int) : ownN (l.map Nd.kz) may n = ownN l may n := by
  unfold ownN
  rw [List.length_map, ownF_kz]
theorem callsB_kz (l : List Nd) (may : Int → Bool) (n : Int) (r : Nat) : callsB (l.map Nd.kz) may n r = callsB l may n r := by
  unfold callsB
  rw [ownN_kz]
  congr 1
  funext m
  rw [kz_getD]
  rfl
theorem mayG_kz (g : Gr) : mayG g.kz = mayG g := by
  unfold mayG
  rw [ranks_kz]
  funext n
  exact mayN_kz g.nodes _ n
theorem callsOf_kz (g : Gr) (n : Int) : callsOf g.kz n = callsOf g n := by
  unfold callsOf
  rw [mayG_kz]
  show rowOf' g.rules.length (callsB (g.nodes.map Nd.kz) (mayG g) n) = _
  rw [show callsB (g.nodes.map Nd.kz) (mayG g) n = callsB g.nodes (mayG g) n from funext fun r => callsB_kz _ _ _ r]
theorem lcal_kz (g : Gr) : lcal g.kz = lcal g := by
  funext r
  unfold lcal
  rw [callsOf_kz]
  rfl
theorem graphOf_kz (g : Gr) : graphOf g.kz = graphOf g := by
  unfold graphOf
  rw [lcal_kz]
  rfl
end Go.Proofs.YtlbjmkljmhfjdaaGreat
namespace Go.Proofs.YtlbjmkljmhfjdaaGreat
open Go Go.RowKit
end Go.Proofs.YtlbjmkljmhfjdaaGreat
namespace Go.Proofs.YtlbjmkljmhfjdaaGreat
open Go Go.RowKit
theorem row_told {w w' : World} {L M : List Nat} {e : Ending} (h : Row w L e w') (hL : L = M) : ∃ A c, e = .returned (.slice A M.length c) ∧ Lies w' A (ints (nums M)) ∧ Below w.heap.size w w' := by
  subst hL
  obtain ⟨⟨v, rfl, ho, hn⟩, hb⟩ := h
  obtain ⟨A, c, rfl, _, _⟩ := own_slice ho
  exact ⟨A, c, rfl, own_lies1 ho, hb⟩
end Go.Proofs.YtlbjmkljmhfjdaaGreat
namespace Go.Proofs.YtlbjmkljmhfjdaaGreat
open Go Go.RowKit Go.Maps
end Go.Proofs.YtlbjmkljmhfjdaaGreat
namespace Go.Proofs.YtlbjmkljmhfjdaaGreat
open Go Go.RowKit Go.Maps Go.Shelf
end Go.Proofs.YtlbjmkljmhfjdaaGreat

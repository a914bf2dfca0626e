/- The law's own copy of a node's nodes: their kids counted from it on. -/
import Derived.Test.YtjelgmdjmjnnfaaG1
import Derived.Test.YtjelgmdjmjnnfaaX6
import Derived.Deep.CutRange
import Derived.Deep.RegionHeld3
set_option linter.unusedSimpArgs false
set_option linter.unusedVariables false
namespace Go.Proofs.Ytjelgmdjmjnnfaa
open Go Go.RowKit Go.Maps Go.Shelf
theorem Nodes.part {w : World} {b o : Nat} {l : List Nd} (h : Nodes w (some ⟨b, o, none⟩) l) {f s : Nat} (hs : f + s ≤ l.length) : Nodes w (some ⟨b, o + f * 9, none⟩) ((l.drop f).take s) := by
  intro h0
  have hl : ((l.drop f).take s).length = s := by simp; omega
  rw [hl] at h0 ⊢
  obtain ⟨b', o', e, hb, hc⟩ := h (by omega)
  simp only [Option.some.injEq, Addr.mk.injEq] at e
  obtain ⟨rfl, rfl, _⟩ := e
  refine ⟨b, o + f * 9, rfl, hb, fun i hi j hj => ?_⟩
  have := hc (f + i) (by omega) j hj
  rw [show o + f * 9 + i * 9 + j = o + (f + i) * 9 + j by omega, this]
  congr 1
  simp only [List.getD_eq_getElem?_getD, List.getElem?_take, if_pos hi, List.getElem?_drop]
theorem Mvd.fin3 {w W : World} {l cl : List Nd} {n K : Int} {A : Option Addr} {c m : Nat} (h : Mvd w W cl n (.slice A m c) m m 0) (hm : m = cl.length) (hl : cl.length = l.length) (ht : ∀ j, j < l.length → Twin (l.getD j Nd.zero) (cl.getD j Nd.zero)) (hk : ∀ x ∈ cl, x.A = none → x.cap = 0)
    (hb : ∀ x ∈ l, x.kids.length ≤ 1000 ∧ ∀ k ∈ x.kids, 0 ≤ k + n ∧ k + n < K) (hx : ∀ x ∈ l, x.text.size ≤ 9223372036854775807) (hs : l.length ≤ 100000) :
    ∃ l', Moved n l l' ∧ Bod W A l' K ∧ W.ownsRow w.heap.size 41 9 (.slice A l'.length c) l'.length (ncells l') ∧ (∀ x ∈ l', W.ownsRow w.heap.size 3 1 (.slice x.A x.kids.length x.cap) x.kids.length (ints x.kids)) ∧ (∀ j, (l'.getD j Nd.zero).A = (cl.getD j Nd.zero).A) := by
  let f : Nd → Nd := fun x => { x with kids := x.kids.map (· + n) }
  have fc : ∀ x : Nd, (f x).cells = x.cells := fun x => by simp [f, Nd.cells]
  have fl : ∀ l : List Nd, ncells (l.map f) = ncells l := fun l => by
    induction l with
    | nil => rfl
    | cons x l ih => simp only [List.map_cons, ncells, fc, ih]
  have hlen : (cl.map f).length = m := by rw [List.length_map, hm]
  have hfj : ∀ j, j < cl.length → (cl.map f).getD j Nd.zero = f (cl.getD j Nd.zero) := fun j hj => by simp [List.getD, hj]
  have hrow : W.ownsRow w.heap.size 41 9 (.slice A (cl.map f).length c) (cl.map f).length (ncells (cl.map f)) := by
    rw [hlen, fl]; exact h.row
  have hkid : ∀ x ∈ cl.map f, W.ownsRow w.heap.size 3 1 (.slice x.A x.kids.length x.cap) x.kids.length (ints x.kids) := by
    intro x hx'
    obtain ⟨y, hy, rfl⟩ := List.mem_map.1 hx'
    obtain ⟨j, hj, rfl⟩ := List.getElem_of_mem hy
    have := h.kids j (by omega)
    rw [mst_all cl n m j (by omega)] at this
    have e : cl.getD j Nd.zero = cl[j] := by simp [List.getD, hj]
    rw [e] at this
    simpa [f] using this
  have htw : ∀ j, j < l.length → ∃ A' c', cl.getD j Nd.zero = (l.getD j Nd.zero).at_ A' c' := ht
  refine ⟨cl.map f, ⟨by rw [hlen, hm, hl], fun j hj => ?_⟩, ⟨own_nodes hrow, fun x hx' => ?_, fun x hx' => ?_, by rw [hlen, hm, hl]; exact hs⟩, hrow, hkid, fun j => ?_⟩
  · obtain ⟨A', c', e⟩ := htw j hj
    refine ⟨A', c', ?_⟩
    rw [hfj j (by omega), e]
    rfl
  · have hk1 := hkid x hx'
    obtain ⟨y, hy, rfl⟩ := List.mem_map.1 hx'
    obtain ⟨j, hj, rfl⟩ := List.getElem_of_mem hy
    obtain ⟨A', c', e⟩ := htw j (by omega)
    have e0 : cl.getD j Nd.zero = cl[j] := by simp [List.getD, hj]
    have hmem : l.getD j Nd.zero ∈ l := getD_mem (by omega)
    have hks : cl[j].kids = (l.getD j Nd.zero).kids := by rw [← e0, e]; first | done | rfl
    obtain ⟨b1, b2⟩ := hb _ hmem
    rw [← hks] at b1 b2
    refine ⟨⟨own_lies1 hk1, fun hA => hk cl[j] (List.getElem_mem hj) hA, ?_⟩, ?_, fun k hk' => ?_⟩
    · simp only [f, List.length_map]; omega
    · simp only [f, List.length_map]; exact b1
    · obtain ⟨z, hz, rfl⟩ := List.mem_map.1 (show k ∈ cl[j].kids.map (· + n) from hk')
      have := b2 z hz
      exact this
  · obtain ⟨y, hy, rfl⟩ := List.mem_map.1 hx'
    obtain ⟨j, hj, rfl⟩ := List.getElem_of_mem hy
    obtain ⟨A', c', e⟩ := htw j (by omega)
    have e0 : cl.getD j Nd.zero = cl[j] := by simp [List.getD, hj]
    have : cl[j].text = (l.getD j Nd.zero).text := by rw [← e0, e]; first | done | rfl
    show cl[j].text.size ≤ _
    rw [this]
    exact hx _ (getD_mem (by omega))
  · simp only [List.getD_eq_getElem?_getD, List.getElem?_map]
    cases cl[j]? <;> rfl
set_option maxRecDepth 100000 in
set_option maxHeartbeats 4000000 in
theorem part15_any (g : Gr) (hR : Right g) (hc : Capd g) (hkl : ∀ x ∈ g.nodes, x.kids.length ≤ 1000) (fr : Nat) (hfl : fr < g.nodes.length) (w : World) (hg : Gr.At w g) (hin : Gr.In g) :
    Calls Try.prog 20 #[g.val, .int .i64 fr] w fun e w' => ∃ A' c' s l', e = .returned (.slice A' l'.length c') ∧ (measOf g fr).1 = (s : Nat) ∧ fr + s ≤ g.nodes.length ∧ Moved (-(fr : Int)) ((g.nodes.drop fr).take s) l' ∧ Owd w w' (.slice A' l'.length c') l' 2048 ∧ (A' = none → c' = 0) ∧ (∀ i j, i < j → j < l'.length → ∀ a b, (l'.getD i Nd.zero).A = some a → (l'.getD j Nd.zero).A = some b → a.block ≠ b.block) ∧ Below w.heap.size w w' := by
  obtain ⟨ms, hm, _⟩ := hR.pre
  have hms := hm fr (by omega) hfl
  have hme := measOf_yes hR hm hfl
  obtain ⟨s, hs⟩ : ∃ s : Nat, (measOf g fr).1 = s := ⟨(measOf g fr).1.toNat, by rw [hme]; omega⟩
  have hfs : fr + s ≤ g.nodes.length := by rw [hme] at hs; omega
  have hs1 : 1 ≤ s := by rw [hme] at hs; omega
  have hN := hR.nodes
  have hcap := hc.nodes
  have SZ := Lib.hid (fun (w' : World) (b : Below w.heap.size w w') => by have := size_of g fr w' (hg.below b) hin; rw [hs] at this; exact this)
  obtain ⟨nb, no, eN, _, _⟩ := hg.nodes.nine hfl
  obtain ⟨L, eL⟩ : ∃ L, L = (g.nodes.drop fr).take s := ⟨_, rfl⟩
  have hLl : L.length = s := by rw [eL]; simp; omega
  have hLm : ∀ j, j < s → L.getD j Nd.zero = g.nodes.getD (fr + j) Nd.zero := fun j hj => by
    rw [eL]
    simp only [List.getD_eq_getElem?_getD, List.getElem?_take, if_pos hj, List.getElem?_drop]
  have hLin : ∀ x ∈ L, x ∈ g.nodes := fun x hx => by rw [eL] at hx; exact List.mem_of_mem_drop (List.mem_of_mem_take hx)
  have LK := Lib.hid (fun x (hx : x ∈ L) => show x.kids.length ≤ 1000 ∧ ∀ k ∈ x.kids, 0 ≤ k + -(fr : Int) ∧ k + -(fr : Int) < 2048 from by
    refine ⟨hkl x (hLin x hx), fun k hk => ?_⟩
    obtain ⟨j, hj, rfl⟩ := List.getElem_of_mem hx
    have e : L[j] = g.nodes.getD (fr + j) Nd.zero := by rw [← hLm j (by omega)]; simp [List.getD, List.getElem?_eq_getElem hj]
    rw [e] at hk
    have := hR.kidsUp (fr + j) (by omega) k hk
    omega)
  have LT := Lib.hid (fun x (hx : x ∈ L) => hg.texts x (hLin x hx))
  have CN := Lib.hid (fun (w' : World) (b : Below w.heap.size w w') (c : Nat) => copyNodes2_any (some ⟨nb, no + fr * 9, none⟩) L c (by omega) w' (by
    have h := (hg.below b).nodes
    rw [eN] at h
    rw [eL]
    exact h.part hfs) (fun x hx => ⟨(hg.below b).kids x (hLin x hx), by have := hkl x (hLin x hx); omega⟩))
  have HG := Lib.hid hg
  have FIN := Lib.hid (And.intro hs hfs)
  have EL := Lib.hid eL
  have hLs : L.length ≤ 100000 := by omega
  rw [hLl] at CN
  have HLL := Lib.hid hLl
  obtain ⟨N, enn⟩ : ∃ N, N = g.nodes.length := ⟨_, rfl⟩
  obtain ⟨R, err⟩ : ∃ R, R = g.rules.length := ⟨_, rfl⟩
  show Calls Try.prog 20 #[.agg #[.slice g.RA g.rules.length g.rc, .slice g.NA g.nodes.length g.nc], .int .i64 fr] w _
  have hSZ : RowKit.Hid (∀ (w' : World), Below w.heap.size w w' → Calls Try.prog 41 #[.agg #[.slice g.RA R g.rc, .slice (some ⟨nb, no, none⟩) N g.nc], .int .i64 fr] w' fun e w'' => e = .returned (.int .i64 s) ∧ Below w'.heap.size w' w'') := Lib.hid (fun w' b => by
    have := SZ.out w' b
    rw [err, enn, ← eN]
    exact this)
  rw [eN, ← err, ← enn]
  rw [← enn] at hfs hfl hN hcap
  clear SZ eL hLl hLm hLin hm hms hme hs hR hc hg hin eN enn err hkl
  go_enter Try.func20, Try.ntmps20
  go_upto_region 1 with fail
  obtain ⟨wb, ewb⟩ : ∃ u, u = w.alloc (.cells #[.slice g.RA R g.rc, .slice (some ⟨nb, no, none⟩) N g.nc] 25) := ⟨_, rfl⟩
  have KB := Lib.hid (show Blk wb w.heap.size #[.slice g.RA R g.rc, .slice (some ⟨nb, no, none⟩) N g.nc] 25 from by rw [ewb]; exact Blk.new _ _ _)
  have BW := Lib.hid (show Below w.heap.size w wb from by rw [ewb]; exact B1 _ _)
  rw [← ewb]
  clear ewb
  obtain ⟨e, ee⟩ : ∃ e, e = fr + s := ⟨_, rfl⟩
  have hwr : IntKind.wrap .i64 ((fr : Int) + s) = e := by rw [IntKind.wrap_i64]; omega
  have he1 : fr ≤ e := by omega
  have he2 : (fr : Int) ≤ e := by omega
  have he3 : e ≤ g.nc := by omega
  have he4 : (e : Int) ≤ g.nc := by omega
  have he5 : e - fr = s := by omega
  have he6 : ¬ g.nc = fr := by omega
  have he7 : (0 : Int) ≤ fr := by omega
  have he8 : ¬ g.nc - fr = 0 := by omega
  have SF := Lib.hid (fun (W' : World) (hb : Below wb.heap.size wb W') => (⟨by have := (KB.out.below' hb).cell 0; simp only [List.getElem?_toArray, List.getElem?_cons_zero, List.getElem?_cons_succ] at this; exact this, by have := (KB.out.below' hb).cell 1; simp only [List.getElem?_toArray, List.getElem?_cons_zero, List.getElem?_cons_succ] at this; exact this⟩ : W'.cell? ⟨w.heap.size, 0, none⟩ = some (.slice g.RA R g.rc) ∧ W'.cell? ⟨w.heap.size, 1, none⟩ = some (.slice (some ⟨nb, no, none⟩) N g.nc)))
  have hsl : s ≤ 2048 := by omega
  have FS := Lib.hid hfs
  clear ee hfs hfl
  go_cut [5] from 8 to 17 (fun s5 wx => ∃ A1 c1, s5 = .slice A1 s c1 ∧ ∃ cl : List Nd, cl.length = s ∧ (∀ j, j < s → Twin (L.getD j Nd.zero) (cl.getD j Nd.zero)) ∧ wx.ownsRow w.heap.size 41 9 (.slice A1 s c1) s (ncells cl) ∧ (∀ x ∈ cl, Kid wx w.heap.size (.slice A1 s c1) x) ∧ (∀ i j, i < j → j < cl.length → ∀ a b, (cl.getD i Nd.zero).A = some a → (cl.getD j Nd.zero).A = some b → a.block ≠ b.block) ∧ (A1 = none → c1 = 0) ∧ Below w.heap.size w wx)
  case first =>
    go_region_held3 (fun W' => W'.cell? ⟨w.heap.size, 0, none⟩ = some (.slice g.RA R g.rc) ∧ W'.cell? ⟨w.heap.size, 1, none⟩ = some (.slice (some ⟨nb, no, none⟩) N g.nc)) (first | exact SF.out _ P2.out | exact SF.out _ P1.out | exact SF.out _ (bdrew1 (Below.refl _ _)) | exact SF.out _ (Below.refl _ _)) (first | (go_at_call 41; (refine (hSZ.out _ (by first | exact BW.out | exact bdrew1 BW.out)).mono ?_); rintro e w3 ⟨rfl, hb'⟩; have P1 := Lib.hid (show Below wb.heap.size wb w3 from (by first | exact hb' | exact (bdrew1 (Below.refl _ _)).trans hb')); clear hb') | (go_at_call 40; (refine (CN.out _ (bb BW.out P1.out) _).mono ?_); rintro e w4 ⟨A1, c1, rfl, cl, h1, h2, h3, h4, h5, h6, h7⟩; have C1 := Lib.hid h1; have C2 := Lib.hid h2; have C3 := Lib.hid (own_lower h3 (bb BW.out P1.out).size); have C4 := Lib.hid h4; have C5 := Lib.hid h5; have C6 := Lib.hid h6; have P2 := Lib.hid (bb P1.out h7); clear h1 h2 h3 h4 h5 h6 h7))
    all_goals go_simp
    all_goals (first | go_meet | (go_wp2_with fail; go_meet) | skip)
    all_goals exact ⟨_, _, rfl, cl, C1.out, C2.out, C3.out, fun x hx => ⟨own_lower (C4.out x hx).1 (bb BW.out P1.out).size, (C4.out x hx).2⟩, C5.out, C6.out, bb BW.out P2.out⟩
  case rest =>
  obtain ⟨A1, c1, rfl, cl, h1, h2, h3, h4, h5, h6, h7⟩ := hcut
  have C1 := Lib.hid h1; have C2 := Lib.hid h2; have C3 := Lib.hid h3; have C4 := Lib.hid h4; have C5 := Lib.hid h5; have C6 := Lib.hid h6; have C7 := Lib.hid h7
  clear h1 h2 h3 h4 h5 h6 h7 CN SF KB BW hSZ hwr he1 he2 he3 he4 he5 he6 he7 he8
  have M0 : RowKit.Hid (Mvd w wc cl (-(fr : Int)) (.slice A1 s c1) s 0 0) := Lib.hid ⟨C3.out, fun j hj => by
    rw [mst_zero]
    exact (C4.out _ (getD_mem (by have := C1.out; omega))).1, C7.out⟩
  have hcl : cl.length = s := C1.out
  have HKB := Lib.hid (fun i (hi : i < s) => show (cl.getD i Nd.zero).kids.length ≤ 1000 ∧ ∀ k, k < (cl.getD i Nd.zero).kids.length → 0 ≤ (cl.getD i Nd.zero).kids.getD k 0 + -(fr : Int) ∧ (cl.getD i Nd.zero).kids.getD k 0 + -(fr : Int) < 2048 from by
    obtain ⟨A', c', e⟩ := C2.out i hi
    have hm : L.getD i Nd.zero ∈ L := getD_mem (by have := HLL.out; omega)
    rw [e]
    exact ⟨(LK.out _ hm).1, fun k hk => (LK.out _ hm).2 _ (getD_mem_int hk)⟩)
  go_wp2_with fail
  go_loopw [6] (fun i wr => ∃ k : Nat, k ≤ s ∧ i = .int .i64 k ∧ Mvd w wr cl (-(fr : Int)) (.slice A1 s c1) s k 0) (fun i _ => s - (intOf i).toNat)
  case atStart => exact ⟨0, by omega, by go_num, M0.out⟩
  case round =>
    obtain ⟨i, hi, rfl, hM⟩ := hrel
    by_cases hlt : i < s
    · have hlt2 : (i : Int) < s := by omega
      have hM0 := Lib.hid hM
      obtain ⟨hk1, hk2⟩ := HKB.out i hlt
      have HK2 := Lib.hid hk2
      clear hM hk2
      obtain ⟨kl, ekl⟩ : ∃ kl, kl = (cl.getD i Nd.zero).kids.length := ⟨_, rfl⟩
      have EKL := Lib.hid ekl
      rw [← ekl] at hk1
      clear ekl
      go_wp2_with fail
      go_loopw [7] (fun q wr => ∃ k : Nat, k ≤ kl ∧ q = .int .i64 k ∧ Mvd w wr cl (-(fr : Int)) (.slice A1 s c1) s i k) (fun q _ => kl - (intOf q).toNat)
      case atStart => exact ⟨0, by omega, by go_num, hM0.out⟩
      case round =>
        obtain ⟨k, hk, rfl, hM⟩ := hrel
        obtain ⟨g0, cap0, e0, _, _, _, _⟩ := own_shape hM.row (by omega)
        simp only [Value.slice.injEq, true_and] at e0
        obtain ⟨eA, eC⟩ := e0
        have hN : Nodes wr A1 cl := own_nodes (by rw [C1.out]; exact hM.row)
        obtain ⟨b1, o1, eA1, hb1, _, _, _, _, _, _, _, _, c9⟩ := hN.nine (show i < cl.length by omega)
        rw [← EKL.out] at c9
        by_cases hltk : k < kl
        · have hltk2 : (k : Int) < kl := by omega
          have hrow := hM.kids i hlt
          obtain ⟨gk, capk, ek, _, _, _, _⟩ := own_shape hrow (by have := EKL.out; omega)
          simp only [Value.slice.injEq, true_and] at ek
          obtain ⟨eKA, eKC⟩ := ek
          rw [eKA] at hrow c9
          obtain ⟨s1, s2⟩ := mst_set cl (-(fr : Int)) i k (by have := EKL.out; omega)
          have ck : wr.cell? ⟨gk, k, none⟩ = some (.int .i64 ((cl.getD i Nd.zero).kids.getD k 0)) := by
            rw [hrow.cellAt k (by have := EKL.out; omega), ← s1]
            exact ints_at (by rw [mst_length]; have := EKL.out; omega)
          have fk := hrow.frozenAt k
          obtain ⟨v1, v2⟩ := HK2.out k (by have := EKL.out; omega)
          have ST := Lib.hid (eA1 ▸ hM.step hlt (by omega) (by have := EKL.out; omega) eKA C5.out)
          generalize (cl.getD i Nd.zero).kids.getD k 0 = xv at ck v1 v2 ST
          have hw : IntKind.wrap .i64 (xv - fr) = xv - fr := by rw [IntKind.wrap_i64]; omega
          have hsb : xv + -(fr : Int) = xv - fr := by omega
          rw [hsb] at ST
          clear hsb
          generalize (cl.getD i Nd.zero).cap = capq at c9
          rw [eA1]
          clear hM hN hrow s1 s2 eKA eKC eA eC
          go_wp2_with fail
          go_region_with (fail)
          all_goals (
            go_wp2_with fail
            go_roundw
            case rel => exact ⟨k + 1, by omega, by go_num, (by first | exact ST.out | exact ST.out.below (bdrew1 (Below.refl _ _)) | exact ST.out.below (bdrew1 (bdrew1 (Below.refl _ _))) | exact ST.out.below (bdrew (Below.refl _ _)))⟩
            case measure => simp [intOf]; omega)
        · obtain rfl : k = kl := by omega
          have hneg : ¬ (k : Int) < k := by omega
          have hM1 := Lib.hid hM
          generalize (cl.getD i Nd.zero).cap = capq at c9
          generalize (cl.getD i Nd.zero).A = Aq at c9
          rw [eA1]
          clear hM hN eA eC
          go_wp2_with fail
          go_roundw
          case rel => exact ⟨i + 1, by omega, by go_num, by have := hM1.out; rw [EKL.out, eA1] at this; exact this.next⟩
          case measure => simp [intOf]; omega
    · obtain rfl : i = s := by omega
      have hneg : ¬ (i : Int) < i := by omega
      have hM0 := Lib.hid hM
      clear hM
      go_wp2_with fail
      go_ret
      obtain ⟨l', q1, q2, q3, q4, q5⟩ := hM0.out.fin3 C1.out.symm (by have := C1.out; have := HLL.out; omega) (fun j hj => C2.out j (by have := HLL.out; omega)) (fun x hx => (C4.out x hx).2.1) LK.out LT.out hLs
      have e : i = l'.length := by have := q1.1; have := HLL.out; omega
      rw [e]
      exact ⟨A1, c1, i, l', by rw [← e]; rfl, FIN.out.1, FS.out, by rw [← EL.out]; exact q1, ⟨q3, fun x hx => ⟨q4 x hx, (q2.kids x hx).1.2.1⟩, fun x hx => ⟨(q2.kids x hx).2.1, (q2.kids x hx).2.2, q2.texts x hx⟩, hM0.out.low⟩, C6.out, (fun i' j' hij hj' a b ha hb' => by
        have ha2 : (cl.getD i' Nd.zero).A = some a := (q5 i').symm.trans ha
        have hb2 : (cl.getD j' Nd.zero).A = some b := (q5 j').symm.trans hb'
        exact C5.out i' j' hij (by have := C1.out; omega) a b ha2 hb2), hM0.out.low⟩
end Go.Proofs.Ytjelgmdjmjnnfaa

/- The laws' own copy of a rule's body: its nodes, their kids counted from it on. -/
import Derived.Test.YtmlaepbmdfmgbaaC2
import Derived.Test.YtmlaepbmdfmgbaaL9
import Derived.Deep.CutRange
import Derived.Deep.RegionHeld3
import Derived.Test.YtmlaepbmdfmgbaaB5
set_option linter.unusedSimpArgs false
set_option linter.unusedVariables false
namespace Go.Proofs.Ytmlaepbmdfmgbaa
open Go Go.RowKit Go.Maps Go.Shelf
theorem Nodes.part {w : World} {b o : Nat} {l : List Nd} (h : Nodes w (some ⟨b, o, none⟩) l) {f s : Nat} (hs : f + s ≤ l.length) : Nodes w (some ⟨b, o + f * 9, none⟩) ((l.drop f).take s) := by
  intro h0
  have hl : ((l.drop f).take s).length = s := by simp; omega
  rw [hl] at h0 ⊢
  obtain ⟨b', o', e, hb, hc⟩ := h (by omega)
  simp only [Option.some.injEq, Addr.mk.injEq] at e
  obtain ⟨rfl, rfl, _⟩ := e
  refine ⟨b, o + f * 9, rfl, hb, fun i hi j hj => ?_⟩
  have := hc (f + i) (by omega) j hj
  rw [show o + f * 9 + i * 9 + j = o + (f + i) * 9 + j by omega, this]
  congr 1
  simp only [List.getD_eq_getElem?_getD, List.getElem?_take, if_pos hi, List.getElem?_drop]
theorem Mvd.fin2 {w W : World} {l cl : List Nd} {n K : Int} {A : Option Addr} {c m : Nat} (h : Mvd w W cl n (.slice A m c) m m 0) (hm : m = cl.length) (hl : cl.length = l.length) (ht : ∀ j, j < l.length → Twin (l.getD j Nd.zero) (cl.getD j Nd.zero)) (hk : ∀ x ∈ cl, x.A = none → x.cap = 0)
    (hb : ∀ x ∈ l, x.kids.length ≤ 1000 ∧ ∀ k ∈ x.kids, 0 ≤ k + n ∧ k + n < K) (hx : ∀ x ∈ l, x.text.size ≤ 9223372036854775807) (hs : l.length ≤ 100000) :
    ∃ l', Moved n l l' ∧ Bod W A l' K ∧ W.ownsRow w.heap.size 44 9 (.slice A l'.length c) l'.length (ncells l') ∧ (∀ x ∈ l', W.ownsRow w.heap.size 3 1 (.slice x.A x.kids.length x.cap) x.kids.length (ints x.kids)) := by
  let f : Nd → Nd := fun x => { x with kids := x.kids.map (· + n) }
  have fc : ∀ x : Nd, (f x).cells = x.cells := fun x => by simp [f, Nd.cells]
  have fl : ∀ l : List Nd, ncells (l.map f) = ncells l := fun l => by
    induction l with
    | nil => rfl
    | cons x l ih => simp only [List.map_cons, ncells, fc, ih]
  have hlen : (cl.map f).length = m := by rw [List.length_map, hm]
  have hfj : ∀ j, j < cl.length → (cl.map f).getD j Nd.zero = f (cl.getD j Nd.zero) := fun j hj => by simp [List.getD, hj]
  have hrow : W.ownsRow w.heap.size 44 9 (.slice A (cl.map f).length c) (cl.map f).length (ncells (cl.map f)) := by
    rw [hlen, fl]; exact h.row
  have hkid : ∀ x ∈ cl.map f, W.ownsRow w.heap.size 3 1 (.slice x.A x.kids.length x.cap) x.kids.length (ints x.kids) := by
    intro x hx'
    obtain ⟨y, hy, rfl⟩ := List.mem_map.1 hx'
    obtain ⟨j, hj, rfl⟩ := List.getElem_of_mem hy
    have := h.kids j (by omega)
    rw [mst_all cl n m j (by omega)] at this
    have e : cl.getD j Nd.zero = cl[j] := by simp [List.getD, hj]
    rw [e] at this
    simpa [f] using this
  have htw : ∀ j, j < l.length → ∃ A' c', cl.getD j Nd.zero = (l.getD j Nd.zero).at_ A' c' := ht
  refine ⟨cl.map f, ⟨by rw [hlen, hm, hl], fun j hj => ?_⟩, ⟨own_nodes hrow, fun x hx' => ?_, fun x hx' => ?_, by rw [hlen, hm, hl]; exact hs⟩, hrow, hkid⟩
  · obtain ⟨A', c', e⟩ := htw j hj
    refine ⟨A', c', ?_⟩
    rw [hfj j (by omega), e]
    rfl
  · have hk1 := hkid x hx'
    obtain ⟨y, hy, rfl⟩ := List.mem_map.1 hx'
    obtain ⟨j, hj, rfl⟩ := List.getElem_of_mem hy
    obtain ⟨A', c', e⟩ := htw j (by omega)
    have e0 : cl.getD j Nd.zero = cl[j] := by simp [List.getD, hj]
    have hmem : l.getD j Nd.zero ∈ l := getD_mem (by omega)
    have hks : cl[j].kids = (l.getD j Nd.zero).kids := by rw [← e0, e]; first | done | rfl
    obtain ⟨b1, b2⟩ := hb _ hmem
    rw [← hks] at b1 b2
    refine ⟨⟨own_lies1 hk1, fun hA => hk cl[j] (List.getElem_mem hj) hA, ?_⟩, ?_, fun k hk' => ?_⟩
    · simp only [f, List.length_map]; omega
    · simp only [f, List.length_map]; exact b1
    · obtain ⟨z, hz, rfl⟩ := List.mem_map.1 (show k ∈ cl[j].kids.map (· + n) from hk')
      have := b2 z hz
      exact this
  · obtain ⟨y, hy, rfl⟩ := List.mem_map.1 hx'
    obtain ⟨j, hj, rfl⟩ := List.getElem_of_mem hy
    obtain ⟨A', c', e⟩ := htw j (by omega)
    have e0 : cl.getD j Nd.zero = cl[j] := by simp [List.getD, hj]
    have : cl[j].text = (l.getD j Nd.zero).text := by rw [← e0, e]; first | done | rfl
    show cl[j].text.size ≤ _
    rw [this]
    exact hx _ (getD_mem (by omega))
set_option maxRecDepth 100000 in
set_option maxHeartbeats 4000000 in
theorem body11_any (g : Gr) (hR : Right g) (hc : Capd g) (hkl : ∀ x ∈ g.nodes, x.kids.length ≤ 1000) (q : Nat) (hq : q < g.rules.length) (w : World) (hg : Gr.At w g) (hin : Gr.In g) :
    Calls Try.prog 8 #[g.val, .int .i64 q] w fun e w' => ∃ A' c' fr s l', e = .returned (.slice A' l'.length c') ∧ (g.rules.getD q Rl.zero).body = (fr : Nat) ∧ (measOf g fr).1 = (s : Nat) ∧ fr + s ≤ g.nodes.length ∧ Moved (-(fr : Int)) ((g.nodes.drop fr).take s) l' ∧ Owd w w' (.slice A' l'.length c') l' 2048 ∧ (A' = none → c' = 0) ∧ Below w.heap.size w w' := by
  obtain ⟨fr, hfr, hfl⟩ : ∃ fr : Nat, (g.rules.getD q Rl.zero).body = fr ∧ fr < g.nodes.length := by
    have := hR.body q hq
    exact ⟨(g.rules.getD q Rl.zero).body.toNat, by omega, by omega⟩
  obtain ⟨ms, hm, _⟩ := hR.pre
  have hms := hm fr (by omega) hfl
  have hme := measOf_yes hR hm hfl
  obtain ⟨s, hs⟩ : ∃ s : Nat, (measOf g fr).1 = s := ⟨(measOf g fr).1.toNat, by rw [hme]; omega⟩
  have hfs : fr + s ≤ g.nodes.length := by rw [hme] at hs; omega
  have hs1 : 1 ≤ s := by rw [hme] at hs; omega
  have hN := hR.nodes
  have hcap := hc.nodes
  have SZ := Lib.hid (fun (w' : World) (b : Below w.heap.size w w') => by have := size_of g fr w' (hg.below b) hin; rw [hs] at this; exact this)
  obtain ⟨nb, no, eN, _, _⟩ := hg.nodes.nine hfl
  obtain ⟨rb, ro, eR, hrb, _, hrbody⟩ := hg.rules.two hq
  rw [hfr] at hrbody
  obtain ⟨L, eL⟩ : ∃ L, L = (g.nodes.drop fr).take s := ⟨_, rfl⟩
  have hLl : L.length = s := by rw [eL]; simp; omega
  have hLm : ∀ j, j < s → L.getD j Nd.zero = g.nodes.getD (fr + j) Nd.zero := fun j hj => by
    rw [eL]
    simp only [List.getD_eq_getElem?_getD, List.getElem?_take, if_pos hj, List.getElem?_drop]
  have hLin : ∀ x ∈ L, x ∈ g.nodes := fun x hx => by rw [eL] at hx; exact List.mem_of_mem_drop (List.mem_of_mem_take hx)
  have LK := Lib.hid (fun x (hx : x ∈ L) => show x.kids.length ≤ 1000 ∧ ∀ k ∈ x.kids, 0 ≤ k + -(fr : Int) ∧ k + -(fr : Int) < 2048 from by
    refine ⟨hkl x (hLin x hx), fun k hk => ?_⟩
    obtain ⟨j, hj, rfl⟩ := List.getElem_of_mem hx
    have e : L[j] = g.nodes.getD (fr + j) Nd.zero := by rw [← hLm j (by omega)]; simp [List.getD, List.getElem?_eq_getElem hj]
    rw [e] at hk
    have := hR.kidsUp (fr + j) (by omega) k hk
    omega)
  have LT := Lib.hid (fun x (hx : x ∈ L) => hg.texts x (hLin x hx))
  have CN := Lib.hid (fun (w' : World) (b : Below w.heap.size w w') (c : Nat) => copyNodes2_any (some ⟨nb, no + fr * 9, none⟩) L c (by omega) w' (by
    have h := (hg.below b).nodes
    rw [eN] at h
    rw [eL]
    exact h.part hfs) (fun x hx => ⟨(hg.below b).kids x (hLin x hx), by have := hkl x (hLin x hx); omega⟩))
  have HG := Lib.hid hg
  have FIN := Lib.hid (And.intro hfr (And.intro hs hfs))
  have EL := Lib.hid eL
  have hLs : L.length ≤ 100000 := by omega
  rw [hLl] at CN
  have HLL := Lib.hid hLl
  obtain ⟨N, enn⟩ : ∃ N, N = g.nodes.length := ⟨_, rfl⟩
  obtain ⟨R, err⟩ : ∃ R, R = g.rules.length := ⟨_, rfl⟩
  show Calls Try.prog 8 #[.agg #[.slice g.RA g.rules.length g.rc, .slice g.NA g.nodes.length g.nc], .int .i64 q] w _
  have hSZ : RowKit.Hid (∀ (w' : World), Below w.heap.size w w' → Calls Try.prog 31 #[.agg #[.slice (some ⟨rb, ro, none⟩) R g.rc, .slice (some ⟨nb, no, none⟩) N g.nc], .int .i64 fr] w' fun e w'' => e = .returned (.int .i64 s) ∧ Below w'.heap.size w' w'') := Lib.hid (fun w' b => by
    have := SZ.out w' b
    rw [err, enn, ← eR, ← eN]
    exact this)
  rw [eR, eN, ← err, ← enn]
  rw [← err] at hq
  rw [← enn] at hfs hfl hN hcap
  have hrb2 : rb < w.heap.size := hrb
  clear SZ eL hLl hLm hLin hm hms hme hs hfr hR hc hg hin eN eR enn err hkl
  go_enter Try.func8, Try.ntmps8
  have hqi : (q : Int) < R := by omega
  go_upto_region 2 with fail
  obtain ⟨wb, ewb⟩ : ∃ u, u = w.alloc (.cells #[.slice (some ⟨rb, ro, none⟩) R g.rc, .slice (some ⟨nb, no, none⟩) N g.nc] 25) := ⟨_, rfl⟩
  have KB := Lib.hid (show Blk wb w.heap.size #[.slice (some ⟨rb, ro, none⟩) R g.rc, .slice (some ⟨nb, no, none⟩) N g.nc] 25 from by rw [ewb]; exact Blk.new _ _ _)
  have BW := Lib.hid (show Below w.heap.size w wb from by rw [ewb]; exact B1 _ _)
  rw [← ewb]
  clear ewb hrbody hrb hrb2
  obtain ⟨e, ee⟩ : ∃ e, e = fr + s := ⟨_, rfl⟩
  have hwr : IntKind.wrap .i64 ((fr : Int) + s) = e := by rw [IntKind.wrap_i64]; omega
  have he1 : fr ≤ e := by omega
  have he2 : (fr : Int) ≤ e := by omega
  have he3 : e ≤ g.nc := by omega
  have he4 : (e : Int) ≤ g.nc := by omega
  have he5 : e - fr = s := by omega
  have he6 : ¬ g.nc = fr := by omega
  have he7 : (0 : Int) ≤ fr := by omega
  have he8 : ¬ g.nc - fr = 0 := by omega
  have SF := Lib.hid (fun (W' : World) (hb : Below wb.heap.size wb W') => (⟨by have := (KB.out.below' hb).cell 0; simp only [List.getElem?_toArray, List.getElem?_cons_zero, List.getElem?_cons_succ] at this; exact this, by have := (KB.out.below' hb).cell 1; simp only [List.getElem?_toArray, List.getElem?_cons_zero, List.getElem?_cons_succ] at this; exact this⟩ : W'.cell? ⟨w.heap.size, 0, none⟩ = some (.slice (some ⟨rb, ro, none⟩) R g.rc) ∧ W'.cell? ⟨w.heap.size, 1, none⟩ = some (.slice (some ⟨nb, no, none⟩) N g.nc)))
  have hsl : s ≤ 2048 := by omega
  have FS := Lib.hid hfs
  clear ee hfs hfl
  go_cut [6] from 15 to 24 (fun s6 wx => ∃ A1 c1, s6 = .slice A1 s c1 ∧ ∃ cl : List Nd, cl.length = s ∧ (∀ j, j < s → Twin (L.getD j Nd.zero) (cl.getD j Nd.zero)) ∧ wx.ownsRow w.heap.size 44 9 (.slice A1 s c1) s (ncells cl) ∧ (∀ x ∈ cl, Kid wx w.heap.size (.slice A1 s c1) x) ∧ (∀ i j, i < j → j < cl.length → ∀ a b, (cl.getD i Nd.zero).A = some a → (cl.getD j Nd.zero).A = some b → a.block ≠ b.block) ∧ (A1 = none → c1 = 0) ∧ Below w.heap.size w wx)
  case first =>
    go_region_held3 (fun W' => W'.cell? ⟨w.heap.size, 0, none⟩ = some (.slice (some ⟨rb, ro, none⟩) R g.rc) ∧ W'.cell? ⟨w.heap.size, 1, none⟩ = some (.slice (some ⟨nb, no, none⟩) N g.nc)) (first | exact SF.out _ P2.out | exact SF.out _ P1.out | exact SF.out _ (bdrew1 (Below.refl _ _)) | exact SF.out _ (Below.refl _ _)) (first | (go_at_call 31; (refine (hSZ.out _ (by first | exact BW.out | exact bdrew1 BW.out)).mono ?_); rintro e w3 ⟨rfl, hb'⟩; have P1 := Lib.hid (show Below wb.heap.size wb w3 from (by first | exact hb' | exact (bdrew1 (Below.refl _ _)).trans hb')); clear hb') | (go_at_call 30; (refine (CN.out _ (bb BW.out P1.out) _).mono ?_); rintro e w4 ⟨A1, c1, rfl, cl, h1, h2, h3, h4, h5, h6, h7⟩; have C1 := Lib.hid h1; have C2 := Lib.hid h2; have C3 := Lib.hid (own_lower h3 (bb BW.out P1.out).size); have C4 := Lib.hid h4; have C5 := Lib.hid h5; have C6 := Lib.hid h6; have P2 := Lib.hid (bb P1.out h7); clear h1 h2 h3 h4 h5 h6 h7))
    all_goals go_simp
    all_goals (first | go_meet | (go_wp2_with fail; go_meet) | skip)
    all_goals exact ⟨_, _, rfl, cl, C1.out, C2.out, C3.out, fun x hx => ⟨own_lower (C4.out x hx).1 (bb BW.out P1.out).size, (C4.out x hx).2⟩, C5.out, C6.out, bb BW.out P2.out⟩
  case rest =>
  obtain ⟨A1, c1, rfl, cl, h1, h2, h3, h4, h5, h6, h7⟩ := hcut
  have C1 := Lib.hid h1; have C2 := Lib.hid h2; have C3 := Lib.hid h3; have C4 := Lib.hid h4; have C5 := Lib.hid h5; have C6 := Lib.hid h6; have C7 := Lib.hid h7
  clear h1 h2 h3 h4 h5 h6 h7 CN SF KB BW hSZ hwr he1 he2 he3 he4 he5 he6 he7 he8
  have M0 : RowKit.Hid (Mvd w wc cl (-(fr : Int)) (.slice A1 s c1) s 0 0) := Lib.hid ⟨C3.out, fun j hj => by
    rw [mst_zero]
    exact (C4.out _ (getD_mem (by have := C1.out; omega))).1, C7.out⟩
  have hcl : cl.length = s := C1.out
  have HKB := Lib.hid (fun i (hi : i < s) => show (cl.getD i Nd.zero).kids.length ≤ 1000 ∧ ∀ k, k < (cl.getD i Nd.zero).kids.length → 0 ≤ (cl.getD i Nd.zero).kids.getD k 0 + -(fr : Int) ∧ (cl.getD i Nd.zero).kids.getD k 0 + -(fr : Int) < 2048 from by
    obtain ⟨A', c', e⟩ := C2.out i hi
    have hm : L.getD i Nd.zero ∈ L := getD_mem (by have := HLL.out; omega)
    rw [e]
    exact ⟨(LK.out _ hm).1, fun k hk => (LK.out _ hm).2 _ (getD_mem_int hk)⟩)
  go_wp2_with fail
  go_loopw [7] (fun i wr => ∃ k : Nat, k ≤ s ∧ i = .int .i64 k ∧ Mvd w wr cl (-(fr : Int)) (.slice A1 s c1) s k 0) (fun i _ => s - (intOf i).toNat)
  case atStart => exact ⟨0, by omega, by go_num, M0.out⟩
  case round =>
    obtain ⟨i, hi, rfl, hM⟩ := hrel
    by_cases hlt : i < s
    · have hlt2 : (i : Int) < s := by omega
      have hM0 := Lib.hid hM
      obtain ⟨hk1, hk2⟩ := HKB.out i hlt
      have HK2 := Lib.hid hk2
      clear hM hk2
      obtain ⟨kl, ekl⟩ : ∃ kl, kl = (cl.getD i Nd.zero).kids.length := ⟨_, rfl⟩
      have EKL := Lib.hid ekl
      rw [← ekl] at hk1
      clear ekl
      go_wp2_with fail
      go_loopw [8] (fun q wr => ∃ k : Nat, k ≤ kl ∧ q = .int .i64 k ∧ Mvd w wr cl (-(fr : Int)) (.slice A1 s c1) s i k) (fun q _ => kl - (intOf q).toNat)
      case atStart => exact ⟨0, by omega, by go_num, hM0.out⟩
      case round =>
        obtain ⟨k, hk, rfl, hM⟩ := hrel
        obtain ⟨g0, cap0, e0, _, _, _, _⟩ := own_shape hM.row (by omega)
        simp only [Value.slice.injEq, true_and] at e0
        obtain ⟨eA, eC⟩ := e0
        have hN : Nodes wr A1 cl := own_nodes (by rw [C1.out]; exact hM.row)
        obtain ⟨b1, o1, eA1, hb1, _, _, _, _, _, _, _, _, c9⟩ := hN.nine (show i < cl.length by omega)
        rw [← EKL.out] at c9
        by_cases hltk : k < kl
        · have hltk2 : (k : Int) < kl := by omega
          have hrow := hM.kids i hlt
          obtain ⟨gk, capk, ek, _, _, _, _⟩ := own_shape hrow (by have := EKL.out; omega)
          simp only [Value.slice.injEq, true_and] at ek
          obtain ⟨eKA, eKC⟩ := ek
          rw [eKA] at hrow c9
          obtain ⟨s1, s2⟩ := mst_set cl (-(fr : Int)) i k (by have := EKL.out; omega)
          have ck : wr.cell? ⟨gk, k, none⟩ = some (.int .i64 ((cl.getD i Nd.zero).kids.getD k 0)) := by
            rw [hrow.cellAt k (by have := EKL.out; omega), ← s1]
            exact ints_at (by rw [mst_length]; have := EKL.out; omega)
          have fk := hrow.frozenAt k
          obtain ⟨v1, v2⟩ := HK2.out k (by have := EKL.out; omega)
          have ST := Lib.hid (eA1 ▸ hM.step hlt (by omega) (by have := EKL.out; omega) eKA C5.out)
          generalize (cl.getD i Nd.zero).kids.getD k 0 = xv at ck v1 v2 ST
          have hw : IntKind.wrap .i64 (xv - fr) = xv - fr := by rw [IntKind.wrap_i64]; omega
          have hsb : xv + -(fr : Int) = xv - fr := by omega
          rw [hsb] at ST
          clear hsb
          generalize (cl.getD i Nd.zero).cap = capq at c9
          rw [eA1]
          clear hM hN hrow s1 s2 eKA eKC eA eC
          go_wp2_with fail
          go_region_with (fail)
          all_goals (
            go_wp2_with fail
            go_roundw
            case rel => exact ⟨k + 1, by omega, by go_num, (by first | exact ST.out | exact ST.out.below (bdrew1 (Below.refl _ _)) | exact ST.out.below (bdrew1 (bdrew1 (Below.refl _ _))) | exact ST.out.below (bdrew (Below.refl _ _)))⟩
            case measure => simp [intOf]; omega)
        · obtain rfl : k = kl := by omega
          have hneg : ¬ (k : Int) < k := by omega
          have hM1 := Lib.hid hM
          generalize (cl.getD i Nd.zero).cap = capq at c9
          generalize (cl.getD i Nd.zero).A = Aq at c9
          rw [eA1]
          clear hM hN eA eC
          go_wp2_with fail
          go_roundw
          case rel => exact ⟨i + 1, by omega, by go_num, by have := hM1.out; rw [EKL.out, eA1] at this; exact this.next⟩
          case measure => simp [intOf]; omega
    · obtain rfl : i = s := by omega
      have hneg : ¬ (i : Int) < i := by omega
      have hM0 := Lib.hid hM
      clear hM
      go_wp2_with fail
      go_ret
      obtain ⟨l', q1, q2, q3, q4⟩ := hM0.out.fin2 C1.out.symm (by have := C1.out; have := HLL.out; omega) (fun j hj => C2.out j (by have := HLL.out; omega)) (fun x hx => (C4.out x hx).2.1) LK.out LT.out hLs
      have e : i = l'.length := by have := q1.1; have := HLL.out; omega
      rw [e]
      exact ⟨A1, c1, fr, i, l', by rw [← e]; rfl, FIN.out.1, FIN.out.2.1, FS.out, by rw [← EL.out]; exact q1, ⟨q3, fun x hx => ⟨q4 x hx, (q2.kids x hx).1.2.1⟩, fun x hx => ⟨(q2.kids x hx).2.1, (q2.kids x hx).2.2, q2.texts x hx⟩, hM0.out.low⟩, C6.out, hM0.out.low⟩
end Go.Proofs.Ytmlaepbmdfmgbaa
namespace Go.Proofs.Ytmlaepbmdfmgbaa
open Go Go.RowKit Go.Maps
set_option maxRecDepth 100000 in
set_option maxHeartbeats 8000000 in
theorem gram_full (A : Option Addr) (bl : List Bdy) (c : Nat) (K : Int) (w : World) (h : Bds w A bl K) (hl : bl.length ≤ 60) (hK : 0 ≤ K ∧ K ≤ 100000000) :
    Calls Try.prog 13 #[.slice A bl.length c] w fun e w' => ∃ g : Gr, e = .returned g.val ∧ Stands w.heap.size w' g ∧ (g.rules, g.nodes.map Nd.kz) = gramL (bl.map fun b => b.2.2.map Nd.kz) ∧ (∀ x ∈ g.nodes, x.kids.length ≤ 1000) ∧ Capd g ∧ (w'.ownsRow w.heap.size 55 2 (.slice g.RA g.rules.length g.rc) g.rules.length (rcells g.rules) ∧ w'.ownsRow w.heap.size 44 9 (.slice g.NA g.nodes.length g.nc) g.nodes.length (ncells g.nodes) ∧ ∀ x ∈ g.nodes, w'.ownsRow w.heap.size 3 1 (.slice x.A x.kids.length x.cap) x.kids.length (ints x.kids) ∧ (x.A = none → x.cap = 0)) ∧ Below w.heap.size w w' := by
  obtain ⟨i0, hi, hz0, hz1, hz2⟩ := info_parts Try.info55
  obtain ⟨i1, ji, jz0, jz1, jz2⟩ := info_parts Try.info44
  have HH := Lib.hid h
  obtain ⟨m, em⟩ : ∃ m, m = bl.length := ⟨_, rfl⟩
  have EM := Lib.hid em
  rw [← em] at hl ⊢
  clear h em
  go_enter Try.func13, Try.ntmps13
  go_wp2_with fail
  obtain ⟨wb, ewb⟩ : ∃ u, u = (w.alloc (.cells #[.slice none 0 0, .slice none 0 0] 25)).alloc (.cells #[.slice none 0 0, .slice none 0 0] 25) := ⟨_, rfl⟩
  have hb2 : Below w.heap.size w wb := by rw [ewb]; exact B2 _ _ _
  have R0 : RowKit.Hid (Blk wb w.heap.size #[.slice none 0 0, .slice none 0 0] 25) := Lib.hid (by rw [ewb]; exact (Blk.new _ _ _).alloc _)
  obtain ⟨gb, egb⟩ : ∃ u, u = w.heap.size + 1 := ⟨_, rfl⟩
  have G0 : RowKit.Hid (GrS w wb gb [] [] (.slice none 0 0) (.slice none 0 0) (K + 1000000)) := Lib.hid ⟨by rw [ewb, egb]; have := Blk.new (w.alloc (.cells #[.slice none 0 0, .slice none 0 0] 25)) #[.slice none 0 0, .slice none 0 0] 25; rwa [World.size_alloc] at this, by omega, World.ownsRow_nil _ _ _ _, ⟨World.ownsRow_nil _ _ _ _, by simp, by simp, hb2⟩⟩
  rw [← egb]
  rw [← ewb]
  have GB := Lib.hid (show w.heap.size < gb by omega)
  clear ewb hb2 egb
  go_loopw [4] (fun i wr => ∃ (k : Nat) (R : List Rl) (L : List Nd) (rv nv : Value), k ≤ m ∧ i = .int .i64 k ∧ GrS w wr gb R L rv nv (K + 1000000) ∧ (R, L.map Nd.kz) = ((bl.map fun b => b.2.2.map Nd.kz).take k).foldl gramN ([], []) ∧ L.length ≤ 1000 * k ∧ R.length = k ∧ Blk wr w.heap.size #[.slice none 0 0, .slice none 0 0] 25) (fun i _ => m - (intOf i).toNat)
  case atStart => exact ⟨0, [], [], _, _, by omega, by go_num, G0.out, by simp, by simp, rfl, R0.out⟩
  case round =>
    obtain ⟨k, R, L, rv, nv, hk, rfl, hG, hsp, hln, hrl, hr0⟩ := hrel
    obtain ⟨rA, rc, rfl, hrA, _⟩ := own_slice hG.rules
    obtain ⟨nA, nc, rfl, hnA, _⟩ := own_slice hG.nodes.row
    have g0 := hG.blk.cell 0
    have g1 := hG.blk.cell 1
    simp only [List.getElem?_toArray, List.getElem?_cons_zero, List.getElem?_cons_succ] at g0 g1
    have HSP := Lib.hid hsp
    have HR0 := Lib.hid hr0
    have HRL := Lib.hid hrl
    have HNA := Lib.hid hnA
    have HRA := Lib.hid hrA
    obtain ⟨n, en⟩ : ∃ n, n = L.length := ⟨_, rfl⟩
    obtain ⟨r, er⟩ : ∃ n, n = R.length := ⟨_, rfl⟩
    have EN := Lib.hid en
    have ER := Lib.hid er
    have hr60 : r ≤ 60 := by omega
    rw [← en] at hln g1
    rw [← er] at g0
    have HG := Lib.hid (show GrS w wr gb R L (.slice rA r rc) (.slice nA n nc) (K + 1000000) from by rw [en, er]; exact hG)
    clear hG hsp hr0 hrl hnA hrA en er
    by_cases hlt : k < m
    · have hlt2 : (k : Int) < m := by omega
      have hw1 : IntKind.wrap .u8 (k : Int) = k := by rw [IntKind.wrap_u8]; omega
      have hw2 : IntKind.wrap .u8 (65 + (k : Int)) = 65 + k := by rw [IntKind.wrap_u8]; omega
      have KC := fun W => kconv W k
      have hkb : k < bl.length := by have := EM.out; omega
      obtain ⟨b1, o1, eA, hb1, hcells⟩ := HH.out.lies (by simp; omega)
      have cb := hcells k (by simpa using hkb)
      obtain ⟨q0, q1, q2⟩ := HH.out.bod _ (show bl.getD k (none, 0, []) ∈ bl by simp [List.getD, List.getElem?_eq_getElem hkb])
      have eb : (bl.map fun b => Value.slice b.1 b.2.2.length b.2.1)[k]? = some (Value.slice (bl.getD k (none, 0, [])).1 (bl.getD k (none, 0, [])).2.2.length (bl.getD k (none, 0, [])).2.1) := by simp [List.getElem?_map, List.getElem?_eq_getElem hkb, List.getD]
      have es : (bl.map fun b => b.2.2.map Nd.kz)[k]? = some ((bl.getD k (none, 0, [])).2.2.map Nd.kz) := by simp [List.getElem?_map, List.getElem?_eq_getElem hkb, List.getD]
      rw [eb] at cb
      obtain ⟨⟨BA, bc, B⟩, eB⟩ : ∃ q, q = bl.getD k (none, 0, []) := ⟨_, rfl⟩
      rw [← eB] at cb q0 q1 q2 es
      dsimp only at cb q0 q1 q2 es
      have cbA := fun (W : World) (b : Below w.heap.size w W) => (b.cell (p := ⟨b1, o1 + k, none⟩) hb1).trans cb
      have CB := Lib.hid cbA
      have Q0 := Lib.hid q0
      have ES := Lib.hid es
      rw [eA]
      clear eb eB hcells cbA q0 es eA cb
      have RR := Lib.hid (show wr.ownsRow w.heap.size 55 2 (.slice rA r rc) r (rcells R) from by have h := HG.out.rules; rw [← ER.out] at h; exact h)
      go_upto_region 7 with (at_builtin; refine wpList_append_onto _ rfl (.tmp 16) (.tmp 24) 22 rfl w.heap.size 55 i0 _ 2 24 Try.underlying22 hi hz0 hz1 hz2 rfl (by decide) (.slice rA r rc) r (rcells R) rfl (own_below RR.out (B2 wr _ _)) (some ⟨wr.heap.size + 1, 0, none⟩) 1 1 [.string (nameB k), .int .i64 n] rfl rfl (by have q := new_news (wr.alloc (.cells #[.int .u8 (65 + (k : Int))] 5)) [.string (nameB k), .int .i64 n] 55; rw [World.size_alloc] at q; exact q) (fun h => nomatch h) (by simp [Value.oneCell']) (by unfold maxLen; omega) (by omega) (by have := HG.out.nodes.low.size; simp; omega) ?_; intro v1 w9 ho hg hf; obtain ⟨A1, c1, rfl, _, _⟩ := own_slice ho; have KD := Lib.hid (HG.out.rule_more (r := ⟨nameB k, n⟩) (B2 wr _ _) hg (by rw [← ER.out]; exact ho)); have X9 := Lib.hid (show Blk w9 w.heap.size #[.slice none 0 0, .slice none 0 0] 25 from (HR0.out.below' (B2 wr (.cells #[.int .u8 (65 + (k : Int))] 5) (.cells #[.string (nameB k), .int .i64 n] 55))).grown hg (fun e => own_ne (own_below RR.out (B2 wr (.cells #[.int .u8 (65 + (k : Int))] 5) (.cells #[.string (nameB k), .int .i64 n] 55))) (HR0.out.below' (B2 wr (.cells #[.int .u8 (65 + (k : Int))] 5) (.cells #[.string (nameB k), .int .i64 n] 55))) (by decide) e.symm)); have g0' := KD.out.2.1; have f0' := KD.out.2.2; clear ho hg hf)
      obtain ⟨W2, eW2⟩ : ∃ W, W = w9.setCell ⟨gb, 0, none⟩ (.slice A1 (r + 1) c1) := ⟨_, rfl⟩
      have G2 := Lib.hid (show GrS w W2 gb (R ++ [⟨nameB k, n⟩]) L (.slice A1 (r + 1) c1) (.slice nA n nc) (K + 1000000) from by rw [eW2]; exact KD.out.1)
      have X2 := Lib.hid (show Blk W2 w.heap.size #[.slice none 0 0, .slice none 0 0] 25 from by rw [eW2]; exact (heap_setCell_other w9 ⟨gb, 0, none⟩ w.heap.size _ (by have := GB.out; show w.heap.size ≠ gb; omega)).trans X9.out)
      rw [← eW2]
      have cb := CB.out W2 G2.out.nodes.low
      have h1 := G2.out.blk.cell 1
      simp only [List.getElem?_toArray, List.getElem?_cons_zero, List.getElem?_cons_succ] at h1
      have MV := Lib.hid (fun (W : World) (b : Below W2.heap.size W2 W) => moved_any BA B bc n K W (Q0.out.below (G2.out.nodes.low.trans (b.mono G2.out.nodes.low.size))) (by omega) ⟨by omega, by omega⟩ (by omega))
      clear eW2 KD g0 g1 g0' f0' KC hw1 hw2
      refine wp_mono (Q := calm _) ?_ (calm_le _)
      have enM : ∀ args w, (callFunc 33 args).run Try.prog w = .ok (.enter 33 args) w := fun _ _ => by kernel_rfl
      go_region_law (first | (refine step_call rfl 33 _ _ #[.slice BA B.length bc, .int .i64 n] rfl enM (by simp [Act.eval, Act.put]) ((MV.out _ (by first | exact bdrew1 (Below.refl _ _) | exact bdrew1 (bdrew1 (Below.refl _ _)) | exact Below.refl _ _)).mono ?_); rintro e w3 ⟨A', c', l', rfl, hm, hB, hrw, hkr, hnn, hb3⟩; refine ⟨_, rfl, ?_⟩; have HM := Lib.hid hm; have HBo := Lib.hid (hB.mono (K' := K + 1000000) (by omega)); have HKR := Lib.hid hkr; have HB3 := Lib.hid (show Below W2.heap.size W2 w3 from ⟨hb3.os, hb3.tape, hb3.output, hb3.size, hb3.block⟩); have NEWS := Lib.hid (own_news hrw); have ROW3 := Lib.hid (show w3.ownsRow w.heap.size 44 9 (.slice nA n nc) n (ncells L) from (by have q := own_below G2.out.nodes.row HB3.out; rw [← EN.out] at q; exact q)); have hl' : l'.length ≤ 1000 := (by rw [hm.1]; exact q1); have h1' : w3.cell? ⟨gb, 1, none⟩ = some (.slice nA n nc) := (G2.out.blk.below' HB3.out).cell 1; clear hm hB hkr hb3 hrw hnn) | (refine step_append_any rfl (.tmp 28) (.tmp 34) 23 rfl w.heap.size 44 i1 Nd.zero.val 9 96 Try.underlying23 ji jz0 jz1 jz2 rfl (by decide) (.slice nA n nc) n (ncells L) (by simp [Act.eval, Act.put]) ROW3.out A' l'.length c' (ncells l') (by simp [Act.eval, Act.put]) (ncells_length l') NEWS.out.1 NEWS.out.2 (ncells_one l') (by unfold maxLen; omega) (by omega) (by have := G2.out.nodes.low.size; have := HB3.out.size; omega) ?_; intro v4 w4 ho hg hf; obtain ⟨A4, c4, rfl, _, _⟩ := own_slice ho; have HO4 := Lib.hid ho; have HG4 := Lib.hid hg; have K4 := Lib.hid (G2.out.nodes_more HB3.out HKR.out HBo.out (Int.le_refl _) hg (by rw [← EN.out]; exact ho)); have X4 := Lib.hid (show Blk w4 w.heap.size #[.slice none 0 0, .slice none 0 0] 25 from (X2.out.below' HB3.out).grown hg (fun e => own_ne ROW3.out (X2.out.below' HB3.out) (by decide) e.symm)); have h4 := K4.out.2.1; have f4 := K4.out.2.2; clear ho hg hf))
      all_goals (
        simp only [calm]
        go_wp2_with fail
        go_roundw
        case rel =>
          have HMn : Moved (L.length : Nat) B l' := by have h := HM.out; rw [EN.out] at h; exact h
          refine ⟨k + 1, R ++ [⟨nameB k, n⟩], L ++ l', _, _, by omega, by go_num, K4.out.1, ?_, ?_, ?_, ?_⟩
          · have h := gram_step HSP.out ES.out HMn
            rw [← EN.out, HRL.out] at h
            exact h
          · rw [List.length_append, ← EN.out]; omega
          · rw [List.length_append, HRL.out]; rfl
          · exact (heap_setCell_other w4 ⟨gb, 1, none⟩ w.heap.size _ (by have := GB.out; show w.heap.size ≠ gb; omega)).trans X4.out
        case measure => simp [intOf]; omega)
    · obtain rfl : k = m := by omega
      have hneg : ¬ (k : Int) < k := by omega
      go_wp2_with (refine wpList_store_whole rfl 25 (.tmp 2) (.tmp 37) rfl w.heap.size #[.slice rA r rc, .slice nA n nc] rfl rfl 25 _ HR0.out (by kernel_rfl) (by rfl) (by simp [Value.oneCell']) ?_; intro w5 hk5 hg5; have K5 := Lib.hid hk5; have G5 := Lib.hid hg5; clear hk5 hg5)
      have hG := HG.out
      have ra := own_off hG.rules HR0.out (by decide) G5.out
      have na := hG.nodes.off HR0.out ⟨by decide, by decide⟩ (Nat.le_refl _) G5.out
      rw [EN.out] at na
      rw [ER.out] at ra
      have hrl : R.length ≤ 60 := by have := HRL.out; omega
      have hnm : ∀ q ∈ R, q.name.size ≤ 9223372036854775807 := fun q hq => by
        have hq' : q ∈ (((bl.map fun b => b.2.2.map Nd.kz).take k).foldl gramN ([], [])).1 := by rw [← HSP.out]; exact hq
        have := gram_names _ ([], []) (by simp) q hq'
        omega
      have key : Stands w.heap.size w5 ⟨rA, rc, R, nA, nc, L⟩ := fun W' hz hkb => by
        have ra' := own_kept ra (fun q e => hkb q (ra.lt q e).1 (ra.lt q e).2)
        have na' := own_kept na.row (fun q e => hkb q (na.row.lt q e).1 (na.row.lt q e).2)
        refine ⟨own_rules ra', own_nodes na', fun x hx => ?_, by show R.length ≤ _; omega, by show L.length ≤ _; have := EN.out; omega, fun h => (HRA.out h).2, fun h => (HNA.out h).2, fun x hx => (na.bnd x hx).2.2, hnm⟩
        have kx := (na.kids x hx).1
        have kx' := own_kept kx (fun q e => hkb q (kx.lt q e).1 (kx.lt q e).2)
        exact ⟨own_lies1 kx', (na.kids x hx).2, by have := (na.bnd x hx).1; omega⟩
      refine bodyPost_ret (results_cell_row rfl _ _ w.heap.size 25 _ (0, 0) _ rfl K5.out Try.underlying25 rfl (by kernel_rfl)) rfl ?_
      refine ⟨⟨rA, rc, R, nA, nc, L⟩, by show _ = Ending.returned (.agg #[.slice rA R.length rc, .slice nA L.length nc]); rw [← ER.out, ← EN.out], key, ?_, fun x hx => (na.bnd x hx).1, ⟨own_cap na.row, fun x hx => own_cap (na.kids x hx).1⟩, ⟨ra, na.row, fun x hx => na.kids x hx⟩, na.low⟩
      · show (R, L.map Nd.kz) = _
        rw [HSP.out, EM.out]
        unfold gramL
        rw [List.take_of_length_le (by simp)]
end Go.Proofs.Ytmlaepbmdfmgbaa
namespace Go.Proofs.Ytmlaepbmdfmgbaa
open Go Go.RowKit Go.Maps
/-- The first so many rules renamed. -/
def mixR (xs gs : List Rl) (i : Nat) : List Rl := (List.range xs.length).map fun j => if j < i then ⟨(gs.getD j Rl.zero).name, (xs.getD j Rl.zero).body⟩ else xs.getD j Rl.zero
theorem mixR_length (xs gs : List Rl) (i : Nat) : (mixR xs gs i).length = xs.length := by simp [mixR]
theorem mixR_at {xs gs : List Rl} {i j : Nat} (h : j < xs.length) : (mixR xs gs i).getD j Rl.zero = if j < i then ⟨(gs.getD j Rl.zero).name, (xs.getD j Rl.zero).body⟩ else xs.getD j Rl.zero := by simp [mixR, List.getD, h]
theorem mixR_zero (xs gs : List Rl) : mixR xs gs 0 = xs := by
  apply List.ext_getElem
  · simp [mixR]
  · intro i h1 h2
    simp [mixR, List.getD, List.getElem?_eq_getElem h2]
theorem mixR_next {xs gs : List Rl} {i : Nat} (h : i < xs.length) : (mixR xs gs i).set i ⟨(gs.getD i Rl.zero).name, (xs.getD i Rl.zero).body⟩ = mixR xs gs (i + 1) := by
  apply List.ext_getElem
  · simp [mixR]
  · intro j h1 h2
    rw [List.getElem_set]
    by_cases e : i = j
    · subst e; simp [mixR]
    · rw [if_neg e]
      simp only [mixR, List.getElem_map, List.getElem_range]
      by_cases e2 : j < i
      · rw [if_pos e2, if_pos (by omega)]
      · rw [if_neg e2, if_neg (by omega)]
theorem rcells_set : ∀ (l : List Rl) (i : Nat) (nm : ByteArray), i < l.length → (rcells l).set (i * 2) (.string nm) = rcells (l.set i ⟨nm, (l.getD i Rl.zero).body⟩)
  | [], i, nm, h => by simp at h
  | r :: l, 0, nm, _ => by simp [rcells]
  | r :: l, i + 1, nm, h => by
    have ih := rcells_set l i nm (by simpa using h)
    rw [show (i + 1) * 2 = i * 2 + 1 + 1 by omega]
    simp only [rcells, List.set_cons_succ, List.getD_cons_succ, ih]
/-- While names are put in. -/
structure Nam (B : Nat) (w W : World) (x g : Gr) (b : Nat) (i : Nat) : Prop where
  row : W.ownsRow B 55 2 (.slice x.RA x.rules.length x.rc) x.rules.length (rcells (mixR x.rules g.rules i))
  low : Below B w W
  bx : Blk W b #[.slice x.RA x.rules.length x.rc, .slice x.NA x.nodes.length x.nc] 25
  bg : Blk W (b + 1) #[.slice g.RA g.rules.length g.rc, .slice g.NA g.nodes.length g.nc] 25
  br : Blk W (b + 2) #[.slice none 0 0, .slice none 0 0] 25
  kept : ∀ (B' e z n : Nat) (v : Value) (xs : List Value), e ≠ 55 → w.ownsRow B' e z v n xs → W.ownsRow B' e z v n xs
theorem Nam.below {B : Nat} {w W W' : World} {x g : Gr} {b i : Nat} (h : Nam B w W x g b i) (hB : B ≤ W.heap.size) (hb : Below W.heap.size W W') : Nam B w W' x g b i :=
  ⟨own_below h.row hb, h.low.trans (hb.mono hB), h.bx.below' hb, h.bg.below' hb, h.br.below' hb, fun _ _ _ _ _ _ he ho => own_below (h.kept _ _ _ _ _ _ he ho) hb⟩
theorem Nam.step {B : Nat} {w W : World} {x g : Gr} {b i gb : Nat} (h : Nam B w W x g b i) (hi : i < x.rules.length) (hA : x.RA = some ⟨gb, 0, none⟩) : Nam B w (W.setCell ⟨gb, i * 2, none⟩ (.string (g.rules.getD i Rl.zero).name)) x g b (i + 1) := by
  have hr := h.row
  rw [hA] at hr
  obtain ⟨s1, s2⟩ := hr.stored (i * 2) (.string (g.rules.getD i Rl.zero).name)
  have hm : mixR x.rules g.rules (i + 1) = (mixR x.rules g.rules i).set i ⟨(g.rules.getD i Rl.zero).name, ((mixR x.rules g.rules i).getD i Rl.zero).body⟩ := by
    rw [← mixR_next hi, mixR_at hi, if_neg (Nat.lt_irrefl _)]
  rw [rcells_set _ _ _ (by rw [mixR_length]; exact hi), ← hm, ← hA] at s1
  have hgb := (hr.lt gb rfl).1
  have hne : ∀ {d : Nat} {us : Array Value}, Blk W d us 25 → d ≠ gb := fun hd e => own_ne hr hd (by decide) (by rw [e]; rfl)
  refine ⟨s1, h.low.setCell hgb _, (heap_setCell_other W ⟨gb, i * 2, none⟩ _ _ (hne h.bx)).trans h.bx, (heap_setCell_other W ⟨gb, i * 2, none⟩ _ _ (hne h.bg)).trans h.bg, (heap_setCell_other W ⟨gb, i * 2, none⟩ _ _ (hne h.br)).trans h.br, fun B' e z n v xs he ho => ?_⟩
  have ho2 := h.kept B' e z n v xs he ho
  exact ho2.kept s2 (by
    cases hv : v.ownBlock with
    | none => exact .inl rfl
    | some q => exact .inr fun e' => he (own_same ho2 hr hv (by rw [e']; rfl)))
set_option maxRecDepth 100000 in
set_option maxHeartbeats 4000000 in
theorem named11_any (B : Nat) (x g : Gr) (w : World) (hB : B ≤ w.heap.size) (hlen : x.rules.length = g.rules.length) (hl : g.rules.length ≤ 32) (hx : w.ownsRow B 55 2 (.slice x.RA x.rules.length x.rc) x.rules.length (rcells x.rules)) (hg : ∀ W' : World, Below B w W' → Gr.At W' g) :
    Calls Try.prog 12 #[x.val, g.val] w fun e w' => e = .returned ({ x with rules := mixR x.rules g.rules x.rules.length } : Gr).val ∧ w'.ownsRow B 55 2 (.slice x.RA x.rules.length x.rc) x.rules.length (rcells (mixR x.rules g.rules x.rules.length)) ∧ (∀ (B' e z n : Nat) (v : Value) (xs : List Value), e ≠ 55 → e ≠ 25 → w.ownsRow B' e z v n xs → w'.ownsRow B' e z v n xs) ∧ Below B w w' := by
  obtain ⟨n, en⟩ : ∃ n, n = g.rules.length := ⟨_, rfl⟩
  have EN := Lib.hid en
  have EXN := Lib.hid (show x.rules.length = n from by rw [en]; exact hlen)
  have HG := Lib.hid hg
  have N0 := Lib.hid (show Nam B w (((w.alloc (.cells #[.slice x.RA x.rules.length x.rc, .slice x.NA x.nodes.length x.nc] 25)).alloc (.cells #[.slice g.RA g.rules.length g.rc, .slice g.NA g.nodes.length g.nc] 25)).alloc (.cells #[.slice none 0 0, .slice none 0 0] 25)) x g w.heap.size 0 from by
    have hb : Below w.heap.size w (((w.alloc (.cells #[.slice x.RA x.rules.length x.rc, .slice x.NA x.nodes.length x.nc] 25)).alloc (.cells #[.slice g.RA g.rules.length g.rc, .slice g.NA g.nodes.length g.nc] 25)).alloc (.cells #[.slice none 0 0, .slice none 0 0] 25)) := ((B1 w _).alloc (by simp) _).alloc (by simp; omega) _
    refine ⟨by rw [mixR_zero]; exact own_below hx hb, hb.mono hB, ((Blk.new _ _ _).alloc _).alloc _, ?_, ?_, fun _ _ _ _ _ _ _ ho => own_below ho hb⟩
    · have := (Blk.new (w.alloc (.cells #[.slice x.RA x.rules.length x.rc, .slice x.NA x.nodes.length x.nc] 25)) #[.slice g.RA g.rules.length g.rc, .slice g.NA g.nodes.length g.nc] 25).alloc (.cells #[.slice none 0 0, .slice none 0 0] 25)
      rw [World.size_alloc] at this
      exact this
    · have := Blk.new ((w.alloc (.cells #[.slice x.RA x.rules.length x.rc, .slice x.NA x.nodes.length x.nc] 25)).alloc (.cells #[.slice g.RA g.rules.length g.rc, .slice g.NA g.nodes.length g.nc] 25)) #[.slice none 0 0, .slice none 0 0] 25
      rw [World.size_alloc, World.size_alloc] at this
      exact this)
  have HB := Lib.hid hB
  rw [← en] at hl
  show Calls Try.prog 12 #[.agg #[.slice x.RA x.rules.length x.rc, .slice x.NA x.nodes.length x.nc], .agg #[.slice g.RA g.rules.length g.rc, .slice g.NA g.nodes.length g.nc]] w _
  rw [EXN.out, ← en] at N0 ⊢
  clear hlen hx hg en hB
  go_enter Try.func12, Try.ntmps12
  go_wp2_with fail
  obtain ⟨wb, ewb⟩ : ∃ u, u = (((w.alloc (.cells #[.slice x.RA n x.rc, .slice x.NA x.nodes.length x.nc] 25)).alloc (.cells #[.slice g.RA n g.rc, .slice g.NA g.nodes.length g.nc] 25)).alloc (.cells #[.slice none 0 0, .slice none 0 0] 25)) := ⟨_, rfl⟩
  obtain ⟨b, ebb⟩ : ∃ b, b = w.heap.size := ⟨_, rfl⟩
  have EBB := Lib.hid ebb
  rw [← ewb, ← ebb] at N0
  rw [← ebb]
  try rw [← ewb]
  clear ewb ebb
  go_loopw [5] (fun ix wr => ∃ i : Nat, i ≤ n ∧ ix = .int .i64 i ∧ Nam B w wr x g b i) (fun ix _ => n - (intOf ix).toNat)
  case atStart => exact ⟨0, by omega, rfl, N0.out⟩
  case round =>
    obtain ⟨i, hi, rfl, hM⟩ := hrel
    have c0 := hM.bx.cell 0
    have c1 := hM.bx.cell 1
    have d0 := hM.bg.cell 0
    simp only [List.getElem?_toArray, List.getElem?_cons_zero, List.getElem?_cons_succ] at c0 c1 d0
    rw [EXN.out] at c0
    rw [← EN.out] at d0
    by_cases hlt : i < n
    · have hlt2 : (i : Int) < n := by omega
      have hix : i < x.rules.length := by rw [EXN.out]; exact hlt
      have hig : i < g.rules.length := by rw [← EN.out]; exact hlt
      obtain ⟨gb, cap0, e0, _, _, _, _⟩ := own_shape hM.row (by omega)
      simp only [Value.slice.injEq, true_and] at e0
      obtain ⟨eA, eC⟩ := e0
      clear eC
      obtain ⟨b1, o1, eG, _, nm, _⟩ := (HG.out _ hM.low).rules.two hig
      have hrow := hM.row
      rw [eA] at hrow
      have ck : wr.cell? ⟨gb, i * 2, none⟩ = some (.string ((mixR x.rules g.rules i).getD i Rl.zero).name) := by
        rw [hrow.cellAt (i * 2) (by omega)]
        exact (rcells_at _ i (by rw [mixR_length]; exact hix)).1
      have fk := hrow.frozenAt (i * 2)
      have ST := Lib.hid (hM.step hix eA)
      generalize ((mixR x.rules g.rules i).getD i Rl.zero).name = old at ck
      generalize (g.rules.getD i Rl.zero).name = nw at nm ST
      rw [eA] at c0
      rw [eG] at d0
      clear hM hrow eA eG
      go_wp2_with fail
      go_region_with (fail)
      all_goals (
        go_wp2_with fail
        go_roundw
        case rel => exact ⟨i + 1, by omega, by go_num, (by first | exact ST.out | exact ST.out.below (by have := ST.out.low.size; have := HB.out; omega) (bdrew1 (Below.refl _ _)) | exact ST.out.below (by have := ST.out.low.size; have := HB.out; omega) (bdrew (Below.refl _ _)))⟩
        case measure => simp [intOf]; omega)
    · obtain rfl : i = n := by omega
      have hlt2 : ¬ (i : Int) < i := by omega
      have HM := Lib.hid hM
      clear hM
      go_wp2_with (refine wpList_store_whole rfl 25 (.tmp 4) (.tmp 24) rfl (b + 2) #[.slice x.RA i x.rc, .slice x.NA x.nodes.length x.nc] rfl rfl 25 _ HM.out.br (by kernel_rfl) (by rfl) (by simp [Value.oneCell']) ?_; intro w5 hk5 hg5; have K5 := Lib.hid hk5; have G5 := Lib.hid hg5; clear hk5 hg5)
      have hM := HM.out
      have hbs := EBB.out
      have hBl := HB.out
      have hsz := hM.low.size
      have hbt : B ≤ b + 2 := by omega
      refine bodyPost_ret (results_cell_row rfl _ _ (b + 2) 25 _ (0, 0) _ rfl K5.out Try.underlying25 rfl (by kernel_rfl)) rfl ⟨?_, ?_, ?_, ?_⟩
      · show _ = Ending.returned (.agg #[.slice x.RA (mixR x.rules g.rules i).length x.rc, .slice x.NA x.nodes.length x.nc])
        rw [mixR_length, EXN.out]
      · have := own_off hM.row hM.br (by decide) G5.out
        rw [EXN.out] at this
        exact this
      · exact fun B' e z n v xs he he2 ho => own_off (hM.kept B' e z n v xs he ho) hM.br (fun e' => he2 e'.symm) G5.out
      · exact grown_below hM.low (by omega) G5.out (fun k e => by cases e; exact hbt)
end Go.Proofs.Ytmlaepbmdfmgbaa
namespace Go.Proofs.Ytmlaepbmdfmgbaa
open Go Go.RowKit Go.Maps Go.Shelf
set_option maxRecDepth 100000 in
set_option maxHeartbeats 4000000 in
theorem body12_any (g : Gr) (hR : Right g) (hc : Capd g) (hkl : ∀ x ∈ g.nodes, x.kids.length ≤ 1000) (q : Nat) (hq : q < g.rules.length) (w : World) (hg : Gr.At w g) (hin : Gr.In g) :
    Calls Try.prog 19 #[g.val, .int .i64 q] w fun e w' => ∃ A' c' fr s l', e = .returned (.slice A' l'.length c') ∧ (g.rules.getD q Rl.zero).body = (fr : Nat) ∧ (measOf g fr).1 = (s : Nat) ∧ fr + s ≤ g.nodes.length ∧ Moved (-(fr : Int)) ((g.nodes.drop fr).take s) l' ∧ Owd w w' (.slice A' l'.length c') l' 2048 ∧ (A' = none → c' = 0) ∧ Below w.heap.size w w' := by
  obtain ⟨fr, hfr, hfl⟩ : ∃ fr : Nat, (g.rules.getD q Rl.zero).body = fr ∧ fr < g.nodes.length := by
    have := hR.body q hq
    exact ⟨(g.rules.getD q Rl.zero).body.toNat, by omega, by omega⟩
  obtain ⟨ms, hm, _⟩ := hR.pre
  have hms := hm fr (by omega) hfl
  have hme := measOf_yes hR hm hfl
  obtain ⟨s, hs⟩ : ∃ s : Nat, (measOf g fr).1 = s := ⟨(measOf g fr).1.toNat, by rw [hme]; omega⟩
  have hfs : fr + s ≤ g.nodes.length := by rw [hme] at hs; omega
  have hs1 : 1 ≤ s := by rw [hme] at hs; omega
  have hN := hR.nodes
  have hcap := hc.nodes
  have SZ := Lib.hid (fun (w' : World) (b : Below w.heap.size w w') => by have := size_of g fr w' (hg.below b) hin; rw [hs] at this; exact this)
  obtain ⟨nb, no, eN, _, _⟩ := hg.nodes.nine hfl
  obtain ⟨rb, ro, eR, hrb, _, hrbody⟩ := hg.rules.two hq
  rw [hfr] at hrbody
  obtain ⟨L, eL⟩ : ∃ L, L = (g.nodes.drop fr).take s := ⟨_, rfl⟩
  have hLl : L.length = s := by rw [eL]; simp; omega
  have hLm : ∀ j, j < s → L.getD j Nd.zero = g.nodes.getD (fr + j) Nd.zero := fun j hj => by
    rw [eL]
    simp only [List.getD_eq_getElem?_getD, List.getElem?_take, if_pos hj, List.getElem?_drop]
  have hLin : ∀ x ∈ L, x ∈ g.nodes := fun x hx => by rw [eL] at hx; exact List.mem_of_mem_drop (List.mem_of_mem_take hx)
  have LK := Lib.hid (fun x (hx : x ∈ L) => show x.kids.length ≤ 1000 ∧ ∀ k ∈ x.kids, 0 ≤ k + -(fr : Int) ∧ k + -(fr : Int) < 2048 from by
    refine ⟨hkl x (hLin x hx), fun k hk => ?_⟩
    obtain ⟨j, hj, rfl⟩ := List.getElem_of_mem hx
    have e : L[j] = g.nodes.getD (fr + j) Nd.zero := by rw [← hLm j (by omega)]; simp [List.getD, List.getElem?_eq_getElem hj]
    rw [e] at hk
    have := hR.kidsUp (fr + j) (by omega) k hk
    omega)
  have LT := Lib.hid (fun x (hx : x ∈ L) => hg.texts x (hLin x hx))
  have CN := Lib.hid (fun (w' : World) (b : Below w.heap.size w w') (c : Nat) => copyNodes2_any (some ⟨nb, no + fr * 9, none⟩) L c (by omega) w' (by
    have h := (hg.below b).nodes
    rw [eN] at h
    rw [eL]
    exact h.part hfs) (fun x hx => ⟨(hg.below b).kids x (hLin x hx), by have := hkl x (hLin x hx); omega⟩))
  have HG := Lib.hid hg
  have FIN := Lib.hid (And.intro hfr (And.intro hs hfs))
  have EL := Lib.hid eL
  have hLs : L.length ≤ 100000 := by omega
  rw [hLl] at CN
  have HLL := Lib.hid hLl
  obtain ⟨N, enn⟩ : ∃ N, N = g.nodes.length := ⟨_, rfl⟩
  obtain ⟨R, err⟩ : ∃ R, R = g.rules.length := ⟨_, rfl⟩
  show Calls Try.prog 19 #[.agg #[.slice g.RA g.rules.length g.rc, .slice g.NA g.nodes.length g.nc], .int .i64 q] w _
  have hSZ : RowKit.Hid (∀ (w' : World), Below w.heap.size w w' → Calls Try.prog 31 #[.agg #[.slice (some ⟨rb, ro, none⟩) R g.rc, .slice (some ⟨nb, no, none⟩) N g.nc], .int .i64 fr] w' fun e w'' => e = .returned (.int .i64 s) ∧ Below w'.heap.size w' w'') := Lib.hid (fun w' b => by
    have := SZ.out w' b
    rw [err, enn, ← eR, ← eN]
    exact this)
  rw [eR, eN, ← err, ← enn]
  rw [← err] at hq
  rw [← enn] at hfs hfl hN hcap
  have hrb2 : rb < w.heap.size := hrb
  clear SZ eL hLl hLm hLin hm hms hme hs hfr hR hc hg hin eN eR enn err hkl
  go_enter Try.func19, Try.ntmps19
  have hqi : (q : Int) < R := by omega
  go_upto_region 2 with fail
  obtain ⟨wb, ewb⟩ : ∃ u, u = w.alloc (.cells #[.slice (some ⟨rb, ro, none⟩) R g.rc, .slice (some ⟨nb, no, none⟩) N g.nc] 25) := ⟨_, rfl⟩
  have KB := Lib.hid (show Blk wb w.heap.size #[.slice (some ⟨rb, ro, none⟩) R g.rc, .slice (some ⟨nb, no, none⟩) N g.nc] 25 from by rw [ewb]; exact Blk.new _ _ _)
  have BW := Lib.hid (show Below w.heap.size w wb from by rw [ewb]; exact B1 _ _)
  rw [← ewb]
  clear ewb hrbody hrb hrb2
  obtain ⟨e, ee⟩ : ∃ e, e = fr + s := ⟨_, rfl⟩
  have hwr : IntKind.wrap .i64 ((fr : Int) + s) = e := by rw [IntKind.wrap_i64]; omega
  have he1 : fr ≤ e := by omega
  have he2 : (fr : Int) ≤ e := by omega
  have he3 : e ≤ g.nc := by omega
  have he4 : (e : Int) ≤ g.nc := by omega
  have he5 : e - fr = s := by omega
  have he6 : ¬ g.nc = fr := by omega
  have he7 : (0 : Int) ≤ fr := by omega
  have he8 : ¬ g.nc - fr = 0 := by omega
  have SF := Lib.hid (fun (W' : World) (hb : Below wb.heap.size wb W') => (⟨by have := (KB.out.below' hb).cell 0; simp only [List.getElem?_toArray, List.getElem?_cons_zero, List.getElem?_cons_succ] at this; exact this, by have := (KB.out.below' hb).cell 1; simp only [List.getElem?_toArray, List.getElem?_cons_zero, List.getElem?_cons_succ] at this; exact this⟩ : W'.cell? ⟨w.heap.size, 0, none⟩ = some (.slice (some ⟨rb, ro, none⟩) R g.rc) ∧ W'.cell? ⟨w.heap.size, 1, none⟩ = some (.slice (some ⟨nb, no, none⟩) N g.nc)))
  have hsl : s ≤ 2048 := by omega
  have FS := Lib.hid hfs
  clear ee hfs hfl
  go_cut [6] from 15 to 24 (fun s6 wx => ∃ A1 c1, s6 = .slice A1 s c1 ∧ ∃ cl : List Nd, cl.length = s ∧ (∀ j, j < s → Twin (L.getD j Nd.zero) (cl.getD j Nd.zero)) ∧ wx.ownsRow w.heap.size 44 9 (.slice A1 s c1) s (ncells cl) ∧ (∀ x ∈ cl, Kid wx w.heap.size (.slice A1 s c1) x) ∧ (∀ i j, i < j → j < cl.length → ∀ a b, (cl.getD i Nd.zero).A = some a → (cl.getD j Nd.zero).A = some b → a.block ≠ b.block) ∧ (A1 = none → c1 = 0) ∧ Below w.heap.size w wx)
  case first =>
    go_region_held3 (fun W' => W'.cell? ⟨w.heap.size, 0, none⟩ = some (.slice (some ⟨rb, ro, none⟩) R g.rc) ∧ W'.cell? ⟨w.heap.size, 1, none⟩ = some (.slice (some ⟨nb, no, none⟩) N g.nc)) (first | exact SF.out _ P2.out | exact SF.out _ P1.out | exact SF.out _ (bdrew1 (Below.refl _ _)) | exact SF.out _ (Below.refl _ _)) (first | (go_at_call 31; (refine (hSZ.out _ (by first | exact BW.out | exact bdrew1 BW.out)).mono ?_); rintro e w3 ⟨rfl, hb'⟩; have P1 := Lib.hid (show Below wb.heap.size wb w3 from (by first | exact hb' | exact (bdrew1 (Below.refl _ _)).trans hb')); clear hb') | (go_at_call 30; (refine (CN.out _ (bb BW.out P1.out) _).mono ?_); rintro e w4 ⟨A1, c1, rfl, cl, h1, h2, h3, h4, h5, h6, h7⟩; have C1 := Lib.hid h1; have C2 := Lib.hid h2; have C3 := Lib.hid (own_lower h3 (bb BW.out P1.out).size); have C4 := Lib.hid h4; have C5 := Lib.hid h5; have C6 := Lib.hid h6; have P2 := Lib.hid (bb P1.out h7); clear h1 h2 h3 h4 h5 h6 h7))
    all_goals go_simp
    all_goals (first | go_meet | (go_wp2_with fail; go_meet) | skip)
    all_goals exact ⟨_, _, rfl, cl, C1.out, C2.out, C3.out, fun x hx => ⟨own_lower (C4.out x hx).1 (bb BW.out P1.out).size, (C4.out x hx).2⟩, C5.out, C6.out, bb BW.out P2.out⟩
  case rest =>
  obtain ⟨A1, c1, rfl, cl, h1, h2, h3, h4, h5, h6, h7⟩ := hcut
  have C1 := Lib.hid h1; have C2 := Lib.hid h2; have C3 := Lib.hid h3; have C4 := Lib.hid h4; have C5 := Lib.hid h5; have C6 := Lib.hid h6; have C7 := Lib.hid h7
  clear h1 h2 h3 h4 h5 h6 h7 CN SF KB BW hSZ hwr he1 he2 he3 he4 he5 he6 he7 he8
  have M0 : RowKit.Hid (Mvd w wc cl (-(fr : Int)) (.slice A1 s c1) s 0 0) := Lib.hid ⟨C3.out, fun j hj => by
    rw [mst_zero]
    exact (C4.out _ (getD_mem (by have := C1.out; omega))).1, C7.out⟩
  have hcl : cl.length = s := C1.out
  have HKB := Lib.hid (fun i (hi : i < s) => show (cl.getD i Nd.zero).kids.length ≤ 1000 ∧ ∀ k, k < (cl.getD i Nd.zero).kids.length → 0 ≤ (cl.getD i Nd.zero).kids.getD k 0 + -(fr : Int) ∧ (cl.getD i Nd.zero).kids.getD k 0 + -(fr : Int) < 2048 from by
    obtain ⟨A', c', e⟩ := C2.out i hi
    have hm : L.getD i Nd.zero ∈ L := getD_mem (by have := HLL.out; omega)
    rw [e]
    exact ⟨(LK.out _ hm).1, fun k hk => (LK.out _ hm).2 _ (getD_mem_int hk)⟩)
  go_wp2_with fail
  go_loopw [7] (fun i wr => ∃ k : Nat, k ≤ s ∧ i = .int .i64 k ∧ Mvd w wr cl (-(fr : Int)) (.slice A1 s c1) s k 0) (fun i _ => s - (intOf i).toNat)
  case atStart => exact ⟨0, by omega, by go_num, M0.out⟩
  case round =>
    obtain ⟨i, hi, rfl, hM⟩ := hrel
    by_cases hlt : i < s
    · have hlt2 : (i : Int) < s := by omega
      have hM0 := Lib.hid hM
      obtain ⟨hk1, hk2⟩ := HKB.out i hlt
      have HK2 := Lib.hid hk2
      clear hM hk2
      obtain ⟨kl, ekl⟩ : ∃ kl, kl = (cl.getD i Nd.zero).kids.length := ⟨_, rfl⟩
      have EKL := Lib.hid ekl
      rw [← ekl] at hk1
      clear ekl
      go_wp2_with fail
      go_loopw [8] (fun q wr => ∃ k : Nat, k ≤ kl ∧ q = .int .i64 k ∧ Mvd w wr cl (-(fr : Int)) (.slice A1 s c1) s i k) (fun q _ => kl - (intOf q).toNat)
      case atStart => exact ⟨0, by omega, by go_num, hM0.out⟩
      case round =>
        obtain ⟨k, hk, rfl, hM⟩ := hrel
        obtain ⟨g0, cap0, e0, _, _, _, _⟩ := own_shape hM.row (by omega)
        simp only [Value.slice.injEq, true_and] at e0
        obtain ⟨eA, eC⟩ := e0
        have hN : Nodes wr A1 cl := own_nodes (by rw [C1.out]; exact hM.row)
        obtain ⟨b1, o1, eA1, hb1, _, _, _, _, _, _, _, _, c9⟩ := hN.nine (show i < cl.length by omega)
        rw [← EKL.out] at c9
        by_cases hltk : k < kl
        · have hltk2 : (k : Int) < kl := by omega
          have hrow := hM.kids i hlt
          obtain ⟨gk, capk, ek, _, _, _, _⟩ := own_shape hrow (by have := EKL.out; omega)
          simp only [Value.slice.injEq, true_and] at ek
          obtain ⟨eKA, eKC⟩ := ek
          rw [eKA] at hrow c9
          obtain ⟨s1, s2⟩ := mst_set cl (-(fr : Int)) i k (by have := EKL.out; omega)
          have ck : wr.cell? ⟨gk, k, none⟩ = some (.int .i64 ((cl.getD i Nd.zero).kids.getD k 0)) := by
            rw [hrow.cellAt k (by have := EKL.out; omega), ← s1]
            exact ints_at (by rw [mst_length]; have := EKL.out; omega)
          have fk := hrow.frozenAt k
          obtain ⟨v1, v2⟩ := HK2.out k (by have := EKL.out; omega)
          have ST := Lib.hid (eA1 ▸ hM.step hlt (by omega) (by have := EKL.out; omega) eKA C5.out)
          generalize (cl.getD i Nd.zero).kids.getD k 0 = xv at ck v1 v2 ST
          have hw : IntKind.wrap .i64 (xv - fr) = xv - fr := by rw [IntKind.wrap_i64]; omega
          have hsb : xv + -(fr : Int) = xv - fr := by omega
          rw [hsb] at ST
          clear hsb
          generalize (cl.getD i Nd.zero).cap = capq at c9
          rw [eA1]
          clear hM hN hrow s1 s2 eKA eKC eA eC
          go_wp2_with fail
          go_region_with (fail)
          all_goals (
            go_wp2_with fail
            go_roundw
            case rel => exact ⟨k + 1, by omega, by go_num, (by first | exact ST.out | exact ST.out.below (bdrew1 (Below.refl _ _)) | exact ST.out.below (bdrew1 (bdrew1 (Below.refl _ _))) | exact ST.out.below (bdrew (Below.refl _ _)))⟩
            case measure => simp [intOf]; omega)
        · obtain rfl : k = kl := by omega
          have hneg : ¬ (k : Int) < k := by omega
          have hM1 := Lib.hid hM
          generalize (cl.getD i Nd.zero).cap = capq at c9
          generalize (cl.getD i Nd.zero).A = Aq at c9
          rw [eA1]
          clear hM hN eA eC
          go_wp2_with fail
          go_roundw
          case rel => exact ⟨i + 1, by omega, by go_num, by have := hM1.out; rw [EKL.out, eA1] at this; exact this.next⟩
          case measure => simp [intOf]; omega
    · obtain rfl : i = s := by omega
      have hneg : ¬ (i : Int) < i := by omega
      have hM0 := Lib.hid hM
      clear hM
      go_wp2_with fail
      go_ret
      obtain ⟨l', q1, q2, q3, q4⟩ := hM0.out.fin2 C1.out.symm (by have := C1.out; have := HLL.out; omega) (fun j hj => C2.out j (by have := HLL.out; omega)) (fun x hx => (C4.out x hx).2.1) LK.out LT.out hLs
      have e : i = l'.length := by have := q1.1; have := HLL.out; omega
      rw [e]
      exact ⟨A1, c1, fr, i, l', by rw [← e]; rfl, FIN.out.1, FIN.out.2.1, FS.out, by rw [← EL.out]; exact q1, ⟨q3, fun x hx => ⟨q4 x hx, (q2.kids x hx).1.2.1⟩, fun x hx => ⟨(q2.kids x hx).2.1, (q2.kids x hx).2.2, q2.texts x hx⟩, hM0.out.low⟩, C6.out, hM0.out.low⟩
set_option maxRecDepth 100000 in
set_option maxHeartbeats 4000000 in
theorem named12_any (B : Nat) (x g : Gr) (w : World) (hB : B ≤ w.heap.size) (hlen : x.rules.length = g.rules.length) (hl : g.rules.length ≤ 32) (hx : w.ownsRow B 55 2 (.slice x.RA x.rules.length x.rc) x.rules.length (rcells x.rules)) (hg : ∀ W' : World, Below B w W' → Gr.At W' g) :
    Calls Try.prog 20 #[x.val, g.val] w fun e w' => e = .returned ({ x with rules := mixR x.rules g.rules x.rules.length } : Gr).val ∧ w'.ownsRow B 55 2 (.slice x.RA x.rules.length x.rc) x.rules.length (rcells (mixR x.rules g.rules x.rules.length)) ∧ (∀ (B' e z n : Nat) (v : Value) (xs : List Value), e ≠ 55 → e ≠ 25 → w.ownsRow B' e z v n xs → w'.ownsRow B' e z v n xs) ∧ Below B w w' := by
  obtain ⟨n, en⟩ : ∃ n, n = g.rules.length := ⟨_, rfl⟩
  have EN := Lib.hid en
  have EXN := Lib.hid (show x.rules.length = n from by rw [en]; exact hlen)
  have HG := Lib.hid hg
  have N0 := Lib.hid (show Nam B w (((w.alloc (.cells #[.slice x.RA x.rules.length x.rc, .slice x.NA x.nodes.length x.nc] 25)).alloc (.cells #[.slice g.RA g.rules.length g.rc, .slice g.NA g.nodes.length g.nc] 25)).alloc (.cells #[.slice none 0 0, .slice none 0 0] 25)) x g w.heap.size 0 from by
    have hb : Below w.heap.size w (((w.alloc (.cells #[.slice x.RA x.rules.length x.rc, .slice x.NA x.nodes.length x.nc] 25)).alloc (.cells #[.slice g.RA g.rules.length g.rc, .slice g.NA g.nodes.length g.nc] 25)).alloc (.cells #[.slice none 0 0, .slice none 0 0] 25)) := ((B1 w _).alloc (by simp) _).alloc (by simp; omega) _
    refine ⟨by rw [mixR_zero]; exact own_below hx hb, hb.mono hB, ((Blk.new _ _ _).alloc _).alloc _, ?_, ?_, fun _ _ _ _ _ _ _ ho => own_below ho hb⟩
    · have := (Blk.new (w.alloc (.cells #[.slice x.RA x.rules.length x.rc, .slice x.NA x.nodes.length x.nc] 25)) #[.slice g.RA g.rules.length g.rc, .slice g.NA g.nodes.length g.nc] 25).alloc (.cells #[.slice none 0 0, .slice none 0 0] 25)
      rw [World.size_alloc] at this
      exact this
    · have := Blk.new ((w.alloc (.cells #[.slice x.RA x.rules.length x.rc, .slice x.NA x.nodes.length x.nc] 25)).alloc (.cells #[.slice g.RA g.rules.length g.rc, .slice g.NA g.nodes.length g.nc] 25)) #[.slice none 0 0, .slice none 0 0] 25
      rw [World.size_alloc, World.size_alloc] at this
      exact this)
  have HB := Lib.hid hB
  rw [← en] at hl
  show Calls Try.prog 20 #[.agg #[.slice x.RA x.rules.length x.rc, .slice x.NA x.nodes.length x.nc], .agg #[.slice g.RA g.rules.length g.rc, .slice g.NA g.nodes.length g.nc]] w _
  rw [EXN.out, ← en] at N0 ⊢
  clear hlen hx hg en hB
  go_enter Try.func20, Try.ntmps20
  go_wp2_with fail
  obtain ⟨wb, ewb⟩ : ∃ u, u = (((w.alloc (.cells #[.slice x.RA n x.rc, .slice x.NA x.nodes.length x.nc] 25)).alloc (.cells #[.slice g.RA n g.rc, .slice g.NA g.nodes.length g.nc] 25)).alloc (.cells #[.slice none 0 0, .slice none 0 0] 25)) := ⟨_, rfl⟩
  obtain ⟨b, ebb⟩ : ∃ b, b = w.heap.size := ⟨_, rfl⟩
  have EBB := Lib.hid ebb
  rw [← ewb, ← ebb] at N0
  rw [← ebb]
  try rw [← ewb]
  clear ewb ebb
  go_loopw [5] (fun ix wr => ∃ i : Nat, i ≤ n ∧ ix = .int .i64 i ∧ Nam B w wr x g b i) (fun ix _ => n - (intOf ix).toNat)
  case atStart => exact ⟨0, by omega, rfl, N0.out⟩
  case round =>
    obtain ⟨i, hi, rfl, hM⟩ := hrel
    have c0 := hM.bx.cell 0
    have c1 := hM.bx.cell 1
    have d0 := hM.bg.cell 0
    simp only [List.getElem?_toArray, List.getElem?_cons_zero, List.getElem?_cons_succ] at c0 c1 d0
    rw [EXN.out] at c0
    rw [← EN.out] at d0
    by_cases hlt : i < n
    · have hlt2 : (i : Int) < n := by omega
      have hix : i < x.rules.length := by rw [EXN.out]; exact hlt
      have hig : i < g.rules.length := by rw [← EN.out]; exact hlt
      obtain ⟨gb, cap0, e0, _, _, _, _⟩ := own_shape hM.row (by omega)
      simp only [Value.slice.injEq, true_and] at e0
      obtain ⟨eA, eC⟩ := e0
      clear eC
      obtain ⟨b1, o1, eG, _, nm, _⟩ := (HG.out _ hM.low).rules.two hig
      have hrow := hM.row
      rw [eA] at hrow
      have ck : wr.cell? ⟨gb, i * 2, none⟩ = some (.string ((mixR x.rules g.rules i).getD i Rl.zero).name) := by
        rw [hrow.cellAt (i * 2) (by omega)]
        exact (rcells_at _ i (by rw [mixR_length]; exact hix)).1
      have fk := hrow.frozenAt (i * 2)
      have ST := Lib.hid (hM.step hix eA)
      generalize ((mixR x.rules g.rules i).getD i Rl.zero).name = old at ck
      generalize (g.rules.getD i Rl.zero).name = nw at nm ST
      rw [eA] at c0
      rw [eG] at d0
      clear hM hrow eA eG
      go_wp2_with fail
      go_region_with (fail)
      all_goals (
        go_wp2_with fail
        go_roundw
        case rel => exact ⟨i + 1, by omega, by go_num, (by first | exact ST.out | exact ST.out.below (by have := ST.out.low.size; have := HB.out; omega) (bdrew1 (Below.refl _ _)) | exact ST.out.below (by have := ST.out.low.size; have := HB.out; omega) (bdrew (Below.refl _ _)))⟩
        case measure => simp [intOf]; omega)
    · obtain rfl : i = n := by omega
      have hlt2 : ¬ (i : Int) < i := by omega
      have HM := Lib.hid hM
      clear hM
      go_wp2_with (refine wpList_store_whole rfl 25 (.tmp 4) (.tmp 24) rfl (b + 2) #[.slice x.RA i x.rc, .slice x.NA x.nodes.length x.nc] rfl rfl 25 _ HM.out.br (by kernel_rfl) (by rfl) (by simp [Value.oneCell']) ?_; intro w5 hk5 hg5; have K5 := Lib.hid hk5; have G5 := Lib.hid hg5; clear hk5 hg5)
      have hM := HM.out
      have hbs := EBB.out
      have hBl := HB.out
      have hsz := hM.low.size
      have hbt : B ≤ b + 2 := by omega
      refine bodyPost_ret (results_cell_row rfl _ _ (b + 2) 25 _ (0, 0) _ rfl K5.out Try.underlying25 rfl (by kernel_rfl)) rfl ⟨?_, ?_, ?_, ?_⟩
      · show _ = Ending.returned (.agg #[.slice x.RA (mixR x.rules g.rules i).length x.rc, .slice x.NA x.nodes.length x.nc])
        rw [mixR_length, EXN.out]
      · have := own_off hM.row hM.br (by decide) G5.out
        rw [EXN.out] at this
        exact this
      · exact fun B' e z n v xs he he2 ho => own_off (hM.kept B' e z n v xs he ho) hM.br (fun e' => he2 e'.symm) G5.out
      · exact grown_below hM.low (by omega) G5.out (fun k e => by cases e; exact hbt)
end Go.Proofs.Ytmlaepbmdfmgbaa
namespace Go.Proofs.Ytmlaepbmdfmgbaa
open Go Go.RowKit Go.Maps
theorem climb_cover {len : Nat} {ms : Nat → Meas} (n0 : Nat) (hs : ∀ m : Nat, n0 ≤ m → m < len → 1 ≤ (ms m).1 ∧ 1 ≤ (ms m).2 ∧ m + (ms m).1 ≤ len) : ∀ (r : List Int) (next high top hh : Int), (n0 : Int) ≤ next → climb len ms r next high = some (top, hh) → ∀ m : Int, next ≤ m → m < top → ∃ k : Nat, (k : Int) ∈ r ∧ k < len ∧ n0 ≤ k ∧ k ≤ m ∧ m < k + (ms k).1 ∧ k + (ms k).1 ≤ top
  | [], next, high, top, hh, _, h, m, h1, h2 => by simp [climb] at h; omega
  | k :: r, next, high, top, hh, hn, h, m, h1, h2 => by
    unfold climb at h
    split at h
    · rename_i hk
      obtain ⟨rfl, hk2⟩ := hk
      obtain ⟨a, ha⟩ : ∃ a : Nat, k = a := ⟨k.toNat, by omega⟩
      subst ha
      rw [Int.toNat_natCast] at h
      have h3 := hs a (by omega) (by omega)
      have hup := climb_up n0 hs r _ _ top hh (by omega) h
      by_cases hm : m < a + (ms a).1
      · exact ⟨a, by simp, by omega, by omega, h1, hm, hup.1⟩
      · obtain ⟨q, q1, q2⟩ := climb_cover n0 hs r _ _ top hh (by omega) h m (by omega) h2
        exact ⟨q, List.mem_cons_of_mem _ q1, q2⟩
    · cases h
theorem nested {l : List Nd} {ms : Nat → Meas} (h : Measured l ms 0) : ∀ (d n : Nat), n < l.length → l.length - n ≤ d → ∀ m : Nat, n ≤ m → (m : Int) < n + (ms n).1 → (m : Int) + (ms m).1 ≤ n + (ms n).1
  | 0, n, h1, hd, _, _, _ => by omega
  | d + 1, n, h1, hd, m, hm1, hm2 => by
    by_cases e : m = n
    · subst e; omega
    · obtain ⟨_, _, _, hc⟩ := h n (by omega) h1
      obtain ⟨k, _, k2, k3, k4, k5, k6⟩ := climb_cover (n + 1) (fun q hq hql => by have := h q (by omega) hql; exact ⟨this.1, this.2.1, this.2.2.1⟩) _ _ _ _ _ (by omega) hc m (by omega) hm2
      have := nested h d k k2 (by omega) m (by omega) k5
      omega
theorem kids_in {l : List Nd} {ms : Nat → Meas} (h : Measured l ms 0) {n m : Nat} (hn : n < l.length) (hm1 : n ≤ m) (hm2 : (m : Int) < n + (ms n).1) {k : Int} (hk : k ∈ (l.getD m Nd.zero).kids) : (m : Int) < k ∧ k < n + (ms n).1 := by
  have hb := h n (by omega) hn
  have hml : m < l.length := by omega
  have h1 := nested h _ n hn (Nat.le_refl _) m hm1 hm2
  have h2 := h.kidsUp m hml k hk
  have h3 : k ∈ ownN l (fun _ => true) m := by
    rw [ownN_eq h.kidsUp _ (by omega) (by omega), fsts_all, Int.toNat_natCast]
    exact List.mem_cons_of_mem _ (List.mem_flatMap.2 ⟨k, hk, own_self h.kidsUp _ (by omega) (by omega)⟩)
  have h4 := own_bound h _ (by omega) (by omega) h3
  rw [Int.toNat_natCast] at h4
  omega
/-- A part of one row of nodes stands in another one. -/
structure Shf (l l' : List Nd) (fr s o : Nat) : Prop where
  up : KidsUp l
  up' : KidsUp l'
  len : fr + s ≤ l.length
  len' : o + s ≤ l'.length
  same : ∀ t, t < s → (l'.getD (o + t) Nd.zero).kz = mvk ((o : Int) - fr) (l.getD (fr + t) Nd.zero).kz
  shut : ∀ t, t < s → ∀ k ∈ (l.getD (fr + t) Nd.zero).kids, ((fr + t : Nat) : Int) < k ∧ k < fr + s
theorem step_mvk (x : Nd) (d : Int) (f inn : Int → Bool) : stepMay (mvk d x) f inn = stepMay x (fun k => f (k + d)) inn := by
  unfold stepMay mvk
  simp only [List.all_map, List.any_map, Function.comp_def]
theorem Shf.may {l l' : List Nd} {fr s o : Nat} (h : Shf l l' fr s o) (inn : Int → Bool) : ∀ (d t : Nat), t < s → s - t ≤ d → mayN l' inn ((o + t : Nat) : Int) = mayN l inn ((fr + t : Nat) : Int)
  | 0, t, ht, hd => by omega
  | d + 1, t, ht, hd => by
    have h1 := h.len; have h2 := h.len'
    rw [mayN_eq h.up' inn (by omega) (by omega), mayN_eq h.up inn (by omega) (by omega), Int.toNat_natCast, Int.toNat_natCast, ← step_kz, h.same t ht, step_mvk, step_kz]
    refine stepMay_congr (fun k hk => ?_) (fun _ => rfl)
    have hk2 := h.shut t ht k hk
    obtain ⟨u, rfl⟩ : ∃ u : Nat, k = ((fr + u : Nat) : Int) := ⟨(k - fr).toNat, by omega⟩
    have := h.may inn d u (by omega) (by omega)
    rw [← this]
    congr 1
    omega
theorem upTo_map (d : Int) (may : Int → Bool) : ∀ l : List Int, upTo may (l.map (· + d)) = (upTo (fun k => may (k + d)) l).map (· + d)
  | [] => rfl
  | k :: r => by
    simp only [List.map_cons, upTo]
    split
    · rw [upTo_map d may r]
    · rfl
theorem fsts_mvk (x : Nd) (d : Int) (may : Int → Bool) : fsts (mvk d x) may = (fsts x (fun k => may (k + d))).map (· + d) := by
  unfold fsts
  show (if x.kind = 6 then upTo may (x.kids.map (· + d)) else x.kids.map (· + d)) = _
  split
  · exact upTo_map d may _
  · rfl
theorem upTo_congr {m m' : Int → Bool} : ∀ {l : List Int}, (∀ k ∈ l, m k = m' k) → upTo m l = upTo m' l
  | [], _ => rfl
  | k :: r, h => by
    unfold upTo
    rw [h k (List.mem_cons_self ..), upTo_congr fun j hj => h j (List.mem_cons_of_mem _ hj)]
theorem fsts_congr {x : Nd} {m m' : Int → Bool} (h : ∀ k ∈ x.kids, m k = m' k) : fsts x m = fsts x m' := by
  unfold fsts; rw [upTo_congr h]
theorem Shf.own {l l' : List Nd} {fr s o : Nat} (h : Shf l l' fr s o) {may may' : Int → Bool} (hm : ∀ t : Nat, t < s → may' ((o + t : Nat) : Int) = may ((fr + t : Nat) : Int)) : ∀ (d t : Nat), t < s → s - t ≤ d → ownN l' may' ((o + t : Nat) : Int) = (ownN l may ((fr + t : Nat) : Int)).map (· + ((o : Int) - fr))
  | 0, t, ht, hd => by omega
  | d + 1, t, ht, hd => by
    have h1 := h.len; have h2 := h.len'
    rw [ownN_eq h.up' may' (by omega) (by omega), ownN_eq h.up may (by omega) (by omega), Int.toNat_natCast, Int.toNat_natCast, List.map_cons]
    have e1 : fsts (l'.getD (o + t) Nd.zero) may' = (fsts (l.getD (fr + t) Nd.zero) may).map (· + ((o : Int) - fr)) := by
      rw [← show fsts (l'.getD (o + t) Nd.zero).kz may' = fsts (l'.getD (o + t) Nd.zero) may' from rfl, h.same t ht, fsts_mvk]
      congr 1
      show fsts (l.getD (fr + t) Nd.zero) _ = _
      refine fsts_congr fun k hk => ?_
      have hk2 := h.shut t ht k hk
      obtain ⟨u, rfl⟩ : ∃ u : Nat, k = ((fr + u : Nat) : Int) := ⟨(k - fr).toNat, by omega⟩
      rw [← hm u (by omega)]
      congr 1
      omega
    rw [e1, List.flatMap_map, List.map_flatMap]
    congr 1
    · omega
    · refine flatMap_same fun k hk => ?_
      have hk2 := h.shut t ht k (fsts_mem hk)
      obtain ⟨u, rfl⟩ : ∃ u : Nat, k = ((fr + u : Nat) : Int) := ⟨(k - fr).toNat, by omega⟩
      have := h.own hm d u (by omega) (by omega)
      rw [← this]
      congr 1
      omega
theorem Shf.calls {l l' : List Nd} {fr s o : Nat} (h : Shf l l' fr s o) {may may' : Int → Bool} (hm : ∀ t : Nat, t < s → may' ((o + t : Nat) : Int) = may ((fr + t : Nat) : Int)) (hs : 0 < s) (hin : ∀ m ∈ ownN l may (fr : Int), (fr : Int) ≤ m ∧ m < fr + s) (r : Nat) : callsB l' may' (o : Int) r = callsB l may (fr : Int) r := by
  have e := h.own hm s 0 hs (by omega)
  unfold callsB
  rw [Nat.add_zero, Nat.add_zero] at e
  rw [e, List.any_map]
  refine any_same fun m hmem => ?_
  have := hin m hmem
  obtain ⟨u, rfl⟩ : ∃ u : Nat, m = ((fr + u : Nat) : Int) := ⟨(m - fr).toNat, by omega⟩
  have h2 := h.same u (by omega)
  have e2 : (((fr + u : Nat) : Int) + ((o : Int) - fr)).toNat = o + u := by omega
  show (decide ((l'.getD (((fr + u : Nat) : Int) + ((o : Int) - fr)).toNat Nd.zero).kind = 5) && decide ((l'.getD (((fr + u : Nat) : Int) + ((o : Int) - fr)).toNat Nd.zero).rule = (r : Int))) = _
  rw [e2, Int.toNat_natCast]
  have k1 : (l'.getD (o + u) Nd.zero).kind = (l.getD (fr + u) Nd.zero).kind := by have e5 := congrArg (fun x => x.kind) h2; exact e5
  have k2 : (l'.getD (o + u) Nd.zero).rule = (l.getD (fr + u) Nd.zero).rule := by have e5 := congrArg (fun x => x.rule) h2; exact e5
  rw [k1, k2]
/-- Whose bodies may as another one's, of them the ranks are the same. -/
theorem rk_same {g y : Gr} (hl : y.rules.length = g.rules.length) (hm : ∀ i inn, i < g.rules.length → mayN y.nodes inn (y.rules.getD i Rl.zero).body = mayN g.nodes inn (g.rules.getD i Rl.zero).body) : ∀ k, rk y k = rk g k
  | 0 => by unfold rk; rw [hl]
  | k + 1 => by
    unfold rk
    rw [rk_same hl hm k, hl]
    refine List.map_congr_left fun i hi => ?_
    have hi2 : i < g.rules.length := by simpa using hi
    have : comB y (rk g k) i = comB g (rk g k) i := by unfold comB; rw [hm i _ hi2]
    rw [this]
theorem soft6_eq (b : List Nd) : ofL 6 [ofL 12 [[leafN 1]], b] = { leafN 6 with kids := [1, 3] } :: { leafN 12 with kids := [2] } :: leafN 1 :: b.map (mvk 3) := by
  simp [ofL, ofN, mvk, leafN, Nd.zero]
/-- Behind an Any nobody is called. -/
theorem hard_calls {x : Gr} {bl : List (List Nd)} (hR : Right x) (h : Built x bl) (i : Nat) (hi : i < bl.length) (b : List Nd) (hb : bl.getD i [] = ofL 6 [[leafN 2], b]) : lcal x i = [] := by
  have hlen : (bl.getD i []).length = b.length + 2 := by rw [hb, hard_eq]; simp
  obtain ⟨o, h1, h2, h3⟩ := h.at_ i hi (by omega)
  have n0 := h3 0 (by omega)
  have n1 := h3 1 (by omega)
  rw [hb, hard_eq] at n0 n1
  simp only [List.getD_cons_zero, List.getD_cons_succ, Nat.add_zero] at n0 n1
  have hu := hR.kidsUp
  have m1 : mayG x ((o : Int) + 1) = false := by
    unfold mayG
    rw [mayN_eq hu _ (by omega) (by omega), show ((o : Int) + 1).toNat = o + 1 by omega, ← step_kz, n1]
    unfold stepMay
    simp [mvk, leafN]
  have f1 : fsts (x.nodes.getD (o + 1) Nd.zero) (mayG x) = [] := by
    rw [← show fsts (x.nodes.getD (o + 1) Nd.zero).kz (mayG x) = fsts (x.nodes.getD (o + 1) Nd.zero) (mayG x) from rfl, n1]
    simp [fsts, mvk, leafN, Nd.zero]
  have f0 : fsts (x.nodes.getD o Nd.zero) (mayG x) = [(o : Int) + 1] := by
    rw [← show fsts (x.nodes.getD o Nd.zero).kz (mayG x) = fsts (x.nodes.getD o Nd.zero) (mayG x) from rfl, n0]
    simp [fsts, mvk, leafN, Nd.zero, upTo]
    rw [show (1 : Int) + o = o + 1 by omega, m1]
    simp
  have k0 : (x.nodes.getD o Nd.zero).kind = 6 := by have := congrArg (fun y => y.kind) n0; exact this
  have k1 : (x.nodes.getD (o + 1) Nd.zero).kind = 2 := by have := congrArg (fun y => y.kind) n1; exact this
  have hc : ∀ r, callsB x.nodes (mayG x) (o : Int) r = false := fun r => by
    unfold callsB
    rw [ownN_eq hu _ (by omega) (by omega), Int.toNat_natCast, f0]
    simp only [List.flatMap_cons, List.flatMap_nil, List.append_nil]
    rw [ownN_eq hu _ (by omega) (by omega), show ((o : Int) + 1).toNat = o + 1 by omega, f1]
    simp only [List.flatMap_nil, List.any_cons, List.any_nil]
    rw [Int.toNat_natCast, show ((o : Int) + 1).toNat = o + 1 by omega, k0, k1]
    simp
  unfold lcal callsOf
  rw [h1]
  refine List.eq_nil_iff_forall_not_mem.2 fun r hr => ?_
  have := (rowOf_mem.1 hr).2
  rw [hc] at this
  cases this
/-- Behind an And of an Empty a moved body stands as it stood. -/
theorem soft_shf {g y : Gr} {bl : List (List Nd)} (hg : Right g) (hy : Right y) (h : Built y bl) (i : Nat) (hi : i < bl.length) {fr s : Nat} (hfr : fr + s ≤ g.nodes.length) (hs : 0 < s) (hms : ∃ ms, Measured g.nodes ms 0 ∧ (ms fr).1 = s) (hb : bl.getD i [] = ofL 6 [ofL 12 [[leafN 1]], (((g.nodes.drop fr).take s).map Nd.kz).map (mvk (-(fr : Int)))]) :
    ∃ o : Nat, (y.rules.getD i Rl.zero).body = o ∧ Shf g.nodes y.nodes fr s (o + 3) ∧ (y.nodes.getD o Nd.zero).kz = { leafN 6 with kids := [1 + (o : Int), 3 + o] } ∧ (y.nodes.getD (o + 1) Nd.zero).kz = { leafN 12 with kids := [2 + (o : Int)] } ∧ (y.nodes.getD (o + 2) Nd.zero).kz = leafN 1 := by
  have hlen : (bl.getD i []).length = s + 3 := by rw [hb, soft6_eq]; simp; omega
  obtain ⟨o, h1, h2, h3⟩ := h.at_ i hi (by omega)
  rw [hlen] at h2 h3
  refine ⟨o, h1, ⟨hg.kidsUp, hy.kidsUp, hfr, by omega, fun t ht => ?_, fun t ht k hk => ?_⟩, ?_, ?_, ?_⟩
  · have := h3 (t + 3) (by omega)
    rw [hb, soft6_eq] at this
    simp only [List.getD_cons_succ] at this
    rw [show o + 3 + t = o + (t + 3) by omega, this]
    have e : (((((g.nodes.drop fr).take s).map Nd.kz).map (mvk (-(fr : Int)))).map (mvk 3)).getD t Nd.zero = mvk 3 (mvk (-(fr : Int)) (g.nodes.getD (fr + t) Nd.zero).kz) := by
      have hl : t < ((g.nodes.drop fr).take s).length := by simp; omega
      simp only [List.getD_eq_getElem?_getD, List.getElem?_map, List.getElem?_take, if_pos ht, List.getElem?_drop]
      rw [List.getElem?_eq_getElem (by omega)]
      rfl
    rw [e]
    simp only [mvk, List.map_map]
    congr 1
    refine List.map_congr_left fun k _ => ?_
    show k + -(fr : Int) + 3 + o = k + (((o + 3 : Nat) : Int) - fr)
    omega
  · obtain ⟨ms, hm, he⟩ := hms
    have := kids_in hm (n := fr) (m := fr + t) (by omega) (by omega) (by omega) hk
    omega
  · have := h3 0 (by omega)
    rw [hb, soft6_eq] at this
    simpa [mvk] using this
  · have := h3 1 (by omega)
    rw [hb, soft6_eq] at this
    simpa [mvk] using this
  · have := h3 2 (by omega)
    rw [hb, soft6_eq] at this
    simpa [mvk, leafN, Nd.zero] using this
end Go.Proofs.Ytmlaepbmdfmgbaa
namespace Go.Proofs.Ytmlaepbmdfmgbaa
open Go Go.RowKit Go.Maps
theorem soft_calls {g y : Gr} {bl : List (List Nd)} (hg : Right g) (hy : Right y) (h : Built y bl) (hl : bl.length = g.rules.length)
    (hb : ∀ i, i < bl.length → ∃ fr s : Nat, (g.rules.getD i Rl.zero).body = fr ∧ (measOf g fr).1 = s ∧ fr + s ≤ g.nodes.length ∧ bl.getD i [] = ofL 6 [ofL 12 [[leafN 1]], (((g.nodes.drop fr).take s).map Nd.kz).map (mvk (-(fr : Int)))]) : ∀ i, i < g.rules.length → lcal y i = lcal g i := by
  obtain ⟨ms, hm, _⟩ := hg.pre
  have huy := hy.kidsUp
  have hlen : y.rules.length = g.rules.length := by rw [h.len, hl]
  have key : ∀ i, i < g.rules.length → ∃ fr s o : Nat, (g.rules.getD i Rl.zero).body = fr ∧ (y.rules.getD i Rl.zero).body = o ∧ 0 < s ∧ fr < g.nodes.length ∧ (ms fr).1 = s ∧ Shf g.nodes y.nodes fr s (o + 3) ∧ (y.nodes.getD o Nd.zero).kz = { leafN 6 with kids := [1 + (o : Int), 3 + o] } ∧ (y.nodes.getD (o + 1) Nd.zero).kz = { leafN 12 with kids := [2 + (o : Int)] } ∧ (y.nodes.getD (o + 2) Nd.zero).kz = leafN 1 := fun i hi => by
    obtain ⟨fr, s, h1, h2, h3, h4⟩ := hb i (by omega)
    have hfl : fr < g.nodes.length := by have := hg.body i hi; omega
    have hmf := hm fr (by omega) hfl
    have hms : (ms fr).1 = s := by rw [← measOf_yes hg hm hfl]; exact h2
    obtain ⟨o, k1, k2, k3, k4, k5⟩ := soft_shf hg hy h i (by omega) h3 (by omega) ⟨ms, hm, hms⟩ h4
    exact ⟨fr, s, o, h1, k1, by omega, hfl, hms, k2, k3, k4, k5⟩
  -- of each such body: the And may match nothing, so the whole as the moved one
  have may1 : ∀ (o : Nat) (inn : Int → Bool), o + 3 ≤ y.nodes.length → (y.nodes.getD (o + 1) Nd.zero).kz = { leafN 12 with kids := [2 + (o : Int)] } → mayN y.nodes inn (1 + (o : Int)) = true := fun o inn ho e => by
    rw [mayN_eq huy inn (by omega) (by omega), show (1 + (o : Int)).toNat = o + 1 by omega, ← step_kz, e]
    simp [stepMay, leafN]
  have mayB : ∀ i inn, i < g.rules.length → mayN y.nodes inn (y.rules.getD i Rl.zero).body = mayN g.nodes inn (g.rules.getD i Rl.zero).body := fun i inn hi => by
    obtain ⟨fr, s, o, e1, e2, hs, hfl, _, hsh, n0, n1, _⟩ := key i hi
    have hl' := hsh.len'
    have hsm := hsh.may inn s 0 hs (by omega)
    simp only [Nat.add_zero] at hsm
    rw [e1, e2, mayN_eq huy inn (by omega) (by omega), Int.toNat_natCast, ← step_kz, n0, ← hsm]
    have := may1 o inn (by omega) n1
    rw [show ((o + 3 : Nat) : Int) = 3 + (o : Int) by omega]
    simp [stepMay, leafN, this]
  have hrk : ranks y = ranks g := by unfold ranks; rw [rk_same hlen mayB, hlen]
  intro i hi
  obtain ⟨fr, s, o, e1, e2, hs, hfl, hms, hsh, n0, n1, n2⟩ := key i hi
  have hl' := hsh.len'
  have hmt : ∀ t : Nat, t < s → mayG y ((o + 3 + t : Nat) : Int) = mayG g ((fr + t : Nat) : Int) := fun t ht => by
    unfold mayG
    rw [hrk]
    exact hsh.may _ s t ht (by omega)
  have hin : ∀ m ∈ ownN g.nodes (mayG g) (fr : Int), (fr : Int) ≤ m ∧ m < fr + s := fun m hmm => by
    have := own_bound hm (mayG g) (n := (fr : Int)) (by omega) (by omega) hmm
    rw [Int.toNat_natCast, hms] at this
    omega
  have hc := fun r => hsh.calls hmt hs hin r
  have m1 : mayG y (1 + (o : Int)) = true := may1 o _ (by omega) n1
  have f0 : fsts (y.nodes.getD o Nd.zero) (mayG y) = [1 + (o : Int), 3 + o] := by
    rw [← show fsts (y.nodes.getD o Nd.zero).kz (mayG y) = fsts (y.nodes.getD o Nd.zero) (mayG y) from rfl, n0]
    simp [fsts, leafN, upTo, m1]
  have f1 : fsts (y.nodes.getD (o + 1) Nd.zero) (mayG y) = [2 + (o : Int)] := by
    rw [← show fsts (y.nodes.getD (o + 1) Nd.zero).kz (mayG y) = fsts (y.nodes.getD (o + 1) Nd.zero) (mayG y) from rfl, n1]
    simp [fsts, leafN]
  have f2 : fsts (y.nodes.getD (o + 2) Nd.zero) (mayG y) = [] := by
    rw [← show fsts (y.nodes.getD (o + 2) Nd.zero).kz (mayG y) = fsts (y.nodes.getD (o + 2) Nd.zero) (mayG y) from rfl, n2]
    simp [fsts, leafN, Nd.zero]
  have k0 : (y.nodes.getD o Nd.zero).kind = 6 := by have := congrArg (fun y => y.kind) n0; exact this
  have k1 : (y.nodes.getD (o + 1) Nd.zero).kind = 12 := by have := congrArg (fun y => y.kind) n1; exact this
  have k2 : (y.nodes.getD (o + 2) Nd.zero).kind = 1 := by have := congrArg (fun y => y.kind) n2; exact this
  have own2 : ownN y.nodes (mayG y) (2 + (o : Int)) = [2 + (o : Int)] := by
    rw [ownN_eq huy _ (by omega) (by omega), show (2 + (o : Int)).toNat = o + 2 by omega, f2]; rfl
  have own1 : ownN y.nodes (mayG y) (1 + (o : Int)) = [1 + (o : Int), 2 + o] := by
    rw [ownN_eq huy _ (by omega) (by omega), show (1 + (o : Int)).toNat = o + 1 by omega, f1]
    simp [own2]
  have own0 : ownN y.nodes (mayG y) (o : Int) = (o : Int) :: (1 + (o : Int)) :: (2 + (o : Int)) :: ownN y.nodes (mayG y) (3 + (o : Int)) := by
    rw [ownN_eq huy _ (by omega) (by omega), Int.toNat_natCast, f0]
    simp [own1]
  have hcc : ∀ r, callsB y.nodes (mayG y) (o : Int) r = callsB g.nodes (mayG g) (fr : Int) r := fun r => by
    rw [← hc r]
    unfold callsB
    rw [own0, show ((o + 3 : Nat) : Int) = 3 + (o : Int) by omega]
    simp only [List.any_cons]
    rw [Int.toNat_natCast, show (1 + (o : Int)).toNat = o + 1 by omega, show (2 + (o : Int)).toNat = o + 2 by omega, k0, k1, k2]
    simp
  unfold lcal callsOf
  rw [e1, e2, hlen]
  exact rowOf_congr fun r _ => hcc r
end Go.Proofs.Ytmlaepbmdfmgbaa

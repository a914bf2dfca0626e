/- The law WellMore: true of any grammar and number. -/
import Derived.Test.YtjelgmdjmjnnfaaC3
import Derived.Test.YtjelgmdjmjnnfaaX9
import Derived.Test.YtjelgmdjmjnnfaaG3
import Derived.Deep.CutRange
set_option linter.unusedSimpArgs false
set_option linter.unusedVariables false
namespace Go.Proofs.Ytjelgmdjmjnnfaa
open Go Go.RowKit Go.Maps
theorem two_rule {w : World} {b : Nat} {x y : Value} {T : TypeId} (h : Blk w b #[x, y] T) : ∀ a, some (⟨b, 0, none⟩ : Addr) = some a → ∀ j u, [x, y][j]? = some u → w.cell? (a.add j) = some u := by
  intro a ha j u hu
  cases ha
  rw [Addr.add_lit, Nat.zero_add, h.cell]
  simpa using hu
set_option maxRecDepth 100000 in
set_option maxHeartbeats 16000000 in
theorem wmore_law (g : Gr) (nn : Int) (hnn : -9223372036854775808 ≤ nn ∧ nn < 9223372036854775808) (w : World) (hg : Gr.At w g) (hin : Gr.In g) (hcp : Capd g) : Calls Try.prog 5 #[g.val, .int .i64 nn] w fun e w' => e = .returned (.bool true) ∧ Below w.heap.size w w' := by
  obtain ⟨i0, ri, rz0, rz1, rz2⟩ := info_parts Try.info47
  obtain ⟨i1, ni, nz0, nz1, nz2⟩ := info_parts Try.info41
  have HG := Lib.hid hg
  have HIN := Lib.hid hin
  have HCP := Lib.hid hcp
  have HNN := Lib.hid hnn
  have SZ := Lib.hid (fun (w' : World) (b : Below w.heap.size w w') => size15_all g w' (hg.below b))
  have RI := Lib.hid (fun (w' : World) (b : Below w.heap.size w w') => right_all g w' (hg.below b) hin)
  clear hg hin hcp hnn
  cases hr : rightB g with
  | false =>
    rw [hr] at RI
    clear hr
    go_enter Try.func5, Try.ntmps5
    go_wp2_with (first | (go_at_call 6; (with_reducible refine (wawake_any _).mono ?_); rintro e w1 ⟨rfl, hb⟩; have H1 := Lib.hid (bb (B1 w _) hb); have K1 := Lib.hid ((Blk.new w _ _).below' hb); have a0 := K1.out.cell 0; have a1 := K1.out.cell 1; simp only [List.getElem?_toArray, List.getElem?_cons_zero, List.getElem?_cons_succ] at a0 a1; clear hb) | (go_at_call 7; (with_reducible refine (SZ.out _ H1.out).mono ?_); rintro e w2 ⟨⟨z, rfl, hz⟩, hb⟩; have HZ := Lib.hid hz; have H2 := Lib.hid (bb H1.out hb); have K2 := Lib.hid (K1.out.below' hb); have b0 := K2.out.cell 0; have b1 := K2.out.cell 1; simp only [List.getElem?_toArray, List.getElem?_cons_zero, List.getElem?_cons_succ] at b0 b1; clear hb hz a0 a1) | (go_at_call 9; (with_reducible refine (RI.out _ H2.out).mono ?_); rintro e w3 ⟨rfl, hb⟩; have H3 := Lib.hid (bb H2.out hb); clear hb b0 b1))
    all_goals
      go_ret
      exact ⟨rfl, by first | exact H3.out | exact H2.out⟩
  | true =>
    rw [hr] at RI
    have HR := Lib.hid (rightB_true.1 hr)
    clear hr
    go_enter Try.func5, Try.ntmps5
    go_upto_region 5 with (first | (go_at_call 6; (with_reducible refine (wawake_any _).mono ?_); rintro e w1 ⟨rfl, hb⟩; have H1 := Lib.hid (bb (B1 w _) hb); have K1 := Lib.hid ((Blk.new w _ _).below' hb); have a0 := K1.out.cell 0; have a1 := K1.out.cell 1; simp only [List.getElem?_toArray, List.getElem?_cons_zero, List.getElem?_cons_succ] at a0 a1; clear hb) | (go_at_call 7; (with_reducible refine (SZ.out _ H1.out).mono ?_); rintro e w2 ⟨⟨z, rfl, hz⟩, hb⟩; have HZ := Lib.hid hz; have H2 := Lib.hid (bb H1.out hb); have K2 := Lib.hid (K1.out.below' hb); have b0 := K2.out.cell 0; have b1 := K2.out.cell 1; simp only [List.getElem?_toArray, List.getElem?_cons_zero, List.getElem?_cons_succ] at b0 b1; clear hb hz a0 a1) | (go_at_call 9; (with_reducible refine (RI.out _ H2.out).mono ?_); rintro e w3 ⟨rfl, hb⟩; have H3 := Lib.hid (bb H2.out hb); have K3 := Lib.hid (K2.out.below' hb); clear hb b0 b1; have b0 := K3.out.cell 0; have b1 := K3.out.cell 1; simp only [List.getElem?_toArray, List.getElem?_cons_zero, List.getElem?_cons_succ] at b0 b1))
    · have hz : z ≤ 300 := by assumption
      have hsz := HZ.out hz
      have hR := HR.out
      have hR1 := hR.rules
      have hN0 : 0 < g.nodes.length := by have := hR.body 0 (by omega); omega
      obtain ⟨gb, egb⟩ : ∃ u, u = w.heap.size := ⟨_, rfl⟩
      obtain ⟨N, eN⟩ : ∃ u, u = g.nodes.length := ⟨_, rfl⟩
      obtain ⟨R, eR⟩ : ∃ u, u = g.rules.length := ⟨_, rfl⟩
      have hNR : N ≤ 300 ∧ R ≤ 32 ∧ 0 < N := by rw [eN, eR]; omega
      have HKL := Lib.hid (fun (x : Nd) (hx : x ∈ g.nodes) => show x.kids.length ≤ 300 from by have := hsz.2 x hx; omega)
      have KG := Lib.hid (show Blk w3 gb #[.slice g.RA R g.rc, .slice g.NA N g.nc] 25 from by rw [egb, eR, eN]; exact K3.out)
      have GV := Lib.hid (show g.val = .agg #[.slice g.RA R g.rc, .slice g.NA N g.nc] from by unfold Gr.val; rw [eN, eR])
      have EN := Lib.hid eN
      have ER := Lib.hid eR
      rw [← egb] at b0 b1 ⊢
      rw [← EN.out] at b1
      rw [← ER.out] at b0
      have G3 := Lib.hid (HG.out.below H3.out)
      -- the node that is meant
      have PK := Lib.hid (fun (w' : World) => pick_any nn N HNN.out (by omega) w')
      have hq1 := Int.emod_nonneg nn (show (N : Int) ≠ 0 by omega)
      have hq2 := Int.emod_lt_of_pos nn (show (0 : Int) < N by omega)
      obtain ⟨c, hc⟩ : ∃ c : Nat, nn % (N : Int) = c := ⟨(nn % (N : Int)).toNat, by omega⟩
      rw [hc] at PK hq2
      have hcN : c < N := by omega
      have CG := Lib.hid (fun (w' : World) (b : Below w3.heap.size w3 w') => show Calls Try.prog 19 #[.agg #[.slice g.RA R g.rc, .slice g.NA N g.nc]] w' (fun e w'' => (∃ h : Gr, e = .returned (.agg #[.slice h.RA R h.rc, .slice h.NA N h.nc]) ∧ Fresh w'' w'.heap.size h ∧ GTwin g h) ∧ Below w'.heap.size w' w'') from by
        have := copyGram2_any g w' (G3.out.below b) (by rw [← ER.out]; omega) (by rw [← EN.out]; omega) (fun x hx => by have := HKL.out x hx; omega)
        rw [GV.out] at this
        refine this.mono ?_
        rintro e w'' ⟨⟨h, he, hf, ht⟩, hb⟩
        refine ⟨⟨h, ?_, hf, ht⟩, hb⟩
        rw [he]
        unfold Gr.val
        rw [ht.rules, ht.len, ER.out, EN.out])
      clear hsz hz HZ hc hq1 hq2 egb eN eR K1 K2 K3 H1 H2 SZ RI hR hR1 hN0 HNN
      go_upto_region 7 with (first | (go_at_call 18; (with_reducible refine (PK.out _).mono ?_); rintro e w4 ⟨rfl, rfl⟩) | (go_at_call 19; (with_reducible refine (CG.out _ (Below.refl _ _)).mono ?_); rintro e w4 ⟨⟨h, rfl, hf, ht⟩, hb⟩; have F4 := Lib.hid hf; have HT := Lib.hid ht; have H4 := Lib.hid hb; have KG4 := Lib.hid (KG.out.below' hb); clear hf ht hb b0 b1) | (refine wpList_store_whole rfl 25 (.tmp 6) (.tmp 27) rfl w4.heap.size #[.slice h.RA R h.rc, .slice h.NA N h.nc] rfl rfl 25 _ (Blk.new _ _ _) (by kernel_rfl) (by rfl) (by simp [Value.oneCell']) ?_; intro w5 hk hgr; have H45 := Lib.hid (show Below w4.heap.size w4 w5 from grown_below (B1 w4 _) (by simp) hgr (fun k e => by cases e; exact Nat.le_refl _)); have KX0 := Lib.hid hk; clear hk hgr))
      obtain ⟨xb, exb⟩ : ∃ u, u = w4.heap.size := ⟨_, rfl⟩
      have HS34 := Lib.hid H4.out.size
      have P5 := Lib.hid (show Below w3.heap.size w3 w5 from H4.out.trans (H45.out.mono H4.out.size))
      have KX5 := Lib.hid (show Blk w5 xb #[.slice h.RA R h.rc, .slice h.NA N h.nc] 25 from by rw [exb]; exact KX0.out)
      have F5 := Lib.hid (show Fresh w5 w3.heap.size { h with rules := g.rules } from by
        have := F4.out.below H45.out
        have e : ({ h with rules := g.rules } : Gr) = h := by rw [← HT.out.rules]
        rw [e]; exact this)
      have KG5 := Lib.hid (KG4.out.below' H45.out)
      have HXB := Lib.hid (show w3.heap.size ≤ xb by rw [exb]; exact HS34.out)
      have HLN := Lib.hid (show h.nodes.length = N by rw [HT.out.len, EN.out])
      rw [← exb]
      have KG3 := Lib.hid KG.out
      clear exb KX0 H45 KG4 KG F4 H4 PK CG HS34
      have b0 := KG5.out.cell 0; have b1 := KG5.out.cell 1
      have x0 := KX5.out.cell 0; have x1 := KX5.out.cell 1
      simp only [List.getElem?_toArray, List.getElem?_cons_zero, List.getElem?_cons_succ] at b0 b1 x0 x1
      -- a rule more
      have hm63 : R + 1 ≤ maxLen := by unfold maxLen; omega
      have hmb : (R + 1) * 24 ≤ 140737488355328 := by omega
      have hbs : w3.heap.size ≤ w5.heap.size := P5.out.size
      have OR5 := Lib.hid (show w5.ownsRow w3.heap.size 47 2 (.slice h.RA R h.rc) R (rcells g.rules) from by
        have := F5.out.rules
        rw [show ({ h with rules := g.rules } : Gr).rules.length = R from ER.out.symm] at this
        exact this)
      go_upto_region 8 with (first | (at_builtin; refine wpList_append_onto _ rfl (.tmp 29) (.tmp 34) 22 rfl w3.heap.size 47 i0 _ 2 24 Try.underlying22 ri rz0 rz1 rz2 rfl (by decide) (.slice h.RA R h.rc) R (rcells g.rules) rfl (own_below OR5.out (B1 w5 _)) (some ⟨w5.heap.size, 0, none⟩) 1 1 [.string moreN, .int .i64 N] rfl rfl (two_rule (Blk.new w5 _ _)) (fun h => nomatch h) (by simp [Value.oneCell']) hm63 hmb (by simp; omega) ?_; intro v6 w6 ho hgr _; obtain ⟨A6, c6, rfl, hn6, _⟩ := own_slice ho; have OR6 := Lib.hid ho; have HN6 := Lib.hid (fun e => (hn6 e).2); have GR6 := Lib.hid hgr; clear ho hgr hn6 b0 b1 x0 x1) | (refine wpList_store_blk rfl 22 (.tmp 36) (.tmp 35) rfl xb 0 _ rfl rfl rfl 25 _ (show Blk w6 xb #[.slice h.RA R h.rc, .slice h.NA N h.nc] 25 from blk_away (KX5.out.below' (B1 w5 _)) (own_below OR5.out (B1 w5 _)) (by decide) GR6.out) (by first | simp | (show 0 < 2; omega)) (by kernel_rfl) #[.slice A6 (R + 1) c6, .slice h.NA N h.nc] rfl ?_; intro w7 hk hgr; have KX7 := Lib.hid hk; have GR7 := Lib.hid hgr; clear hk hgr))
      have KB6 := Lib.hid (show Blk w6 xb #[.slice h.RA R h.rc, .slice h.NA N h.nc] 25 from blk_away (KX5.out.below' (B1 w5 _)) (own_below OR5.out (B1 w5 _)) (by decide) GR6.out)
      have P6 := Lib.hid (show Below w3.heap.size w3 w6 from grown_below (P5.out.trans ((B1 w5 _).mono P5.out.size)) (by have := P5.out.size; simp; omega) GR6.out (fun k e => (OR5.out.lt k e).1))
      have P7 := Lib.hid (show Below w3.heap.size w3 w7 from grown_below P6.out P6.out.size GR7.out (fun k e => by cases e; exact HXB.out))
      have F7 := Lib.hid (show Fresh w7 w3.heap.size { h with RA := A6, rc := c6, rules := g.rules ++ [⟨moreN, N⟩] } from by
        have f6 := (F5.out.below (B1 w5 (.cells #[.string moreN, .int .i64 N] 47))).addRule (r := ⟨moreN, N⟩) (A' := A6) (c' := c6) (W' := w6) (by rw [show ({ h with rules := g.rules } : Gr).rules.length = R from ER.out.symm]; exact OR6.out) (by rw [show ({ h with rules := g.rules } : Gr).rules.length = R from ER.out.symm]; exact GR6.out) HN6.out
        exact f6.offBox KB6.out GR7.out)
      have KG7 := Lib.hid (show Blk w7 gb #[.slice g.RA R g.rc, .slice g.NA N g.nc] 25 from KG3.out.below' P7.out)
      clear KB6 P6 OR6 GR6 GR7 HN6 OR5 P5 KX5 KG5 F5 hmb hm63 hbs
      obtain ⟨kb, ekb⟩ : ∃ u, u = w7.heap.size := ⟨_, rfl⟩
      have OS := Lib.hid (own_built w7 3 1 1 [.int .i64 ((N : Int) + 1)] rfl (by unfold maxLen; omega))
      have ON := Lib.hid (own_built (w7.alloc (.cells #[.int .i64 ((N : Int) + 1)] 3)) 41 1 9 (starN kb N).cells rfl (by unfold maxLen; omega))
      have b0 := KG7.out.cell 0; have b1 := KG7.out.cell 1
      have x0 := KX7.out.cell 0; have x1 := KX7.out.cell 1
      simp only [List.getElem?_toArray, List.getElem?_cons_zero, List.getElem?_cons_succ] at b0 b1 x0 x1
      have hNb : (N : Int) ≤ 300 := by omega
      have hm63 : N + 1 ≤ maxLen := by unfold maxLen; omega
      have hmb : (N + 1) * 96 ≤ 140737488355328 := by omega
      have OX7 := Lib.hid (show w7.ownsRow w3.heap.size 41 9 (.slice h.NA N h.nc) N (ncells h.nodes) from by
        have := F7.out.nodes
        rw [show ({ h with RA := A6, rc := c6, rules := g.rules ++ [⟨moreN, N⟩] } : Gr).nodes.length = N from HLN.out] at this
        exact this)
      have hbs : w3.heap.size ≤ w7.heap.size := P7.out.size
      have h1c : ∀ u ∈ (starN kb N).cells, u.oneCell' = true := by intro u hu; simp [starN, Nd.cells, Nd.zero] at hu; rcases hu with rfl | rfl | rfl | rfl | rfl <;> rfl
      rw [ekb] at ON h1c
      clear ekb
      have HNW := Lib.hid (show ∀ a, some (⟨w7.heap.size + 1, 0, none⟩ : Addr) = some a → ∀ j u, (starN w7.heap.size N).cells[j]? = some u → ((w7.alloc (.cells #[.int .i64 ((N : Int) + 1)] 3)).alloc (.cells (starN w7.heap.size N).cells.toArray 41)).cell? (a.add j) = some u from by
        have := (own_news ON.out).1
        rw [World.size_alloc] at this
        exact this)
      go_upto_region 9 with (first | (at_builtin; go_loud (refine wpList_append_onto _ rfl (.tmp 38) (.tmp 45) 23 rfl w3.heap.size 41 i1 _ 9 96 Try.underlying23 ni nz0 nz1 nz2 rfl (by decide) (.slice h.NA N h.nc) N (ncells h.nodes) rfl (own_below (own_below OX7.out (B1 w7 _)) (B1 _ _)) (some ⟨w7.heap.size + 1, 0, none⟩) 1 1 (starN w7.heap.size N).cells rfl rfl HNW.out (fun h => nomatch h) h1c hm63 hmb (by simp; omega) ?_; intro v8 w8 ho hgr _; obtain ⟨A8, c8, rfl, hn8, _⟩ := own_slice ho; have OX8 := Lib.hid ho; have HN8 := Lib.hid (fun e => (hn8 e).2); have GR8 := Lib.hid hgr; clear ho hgr hn8 b0 b1 x0 x1)) | (refine wpList_store_blk rfl 23 (.tmp 47) (.tmp 46) rfl xb 1 _ rfl rfl rfl 25 _ (show Blk w8 xb #[.slice A6 (R + 1) c6, .slice h.NA N h.nc] 25 from blk_away ((KX7.out.below' (B1 w7 _)).alloc _) (own_below (own_below OX7.out (B1 w7 _)) (B1 _ _)) (by decide) GR8.out) (by first | simp | (show 1 < 2; omega)) (by kernel_rfl) #[.slice A6 (R + 1) c6, .slice A8 (N + 1) c8] rfl ?_; intro w9 hk hgr; have KX9 := Lib.hid hk; have GR9 := Lib.hid hgr; clear hk hgr))
      have KB8 := Lib.hid (show Blk w8 xb #[.slice A6 (R + 1) c6, .slice h.NA N h.nc] 25 from blk_away ((KX7.out.below' (B1 w7 _)).alloc _) (own_below (own_below OX7.out (B1 w7 _)) (B1 _ _)) (by decide) GR8.out)
      have P8 := Lib.hid (show Below w3.heap.size w3 w8 from grown_below (P7.out.trans ((B2 w7 _ _).mono P7.out.size)) (by have := P7.out.size; simp; omega) GR8.out (fun k e => (OX7.out.lt k e).1))
      have P9 := Lib.hid (show Below w3.heap.size w3 w9 from grown_below P8.out P8.out.size GR9.out (fun k e => by cases e; exact HXB.out))
      have F9 := Lib.hid (show Fresh w9 w3.heap.size { h with RA := A6, rc := c6, rules := g.rules ++ [⟨moreN, N⟩], NA := A8, nc := c8, nodes := h.nodes ++ [starN w7.heap.size N] } from by
        have f8 := ((F7.out.below (B1 w7 (.cells #[.int .i64 ((N : Int) + 1)] 3))).below (B1 _ (.cells (starN w7.heap.size N).cells.toArray 41))).addNodes (l := [starN w7.heap.size N]) (A' := A8) (c' := c8) (W' := w8) (by
          rw [show ({ h with RA := A6, rc := c6, rules := g.rules ++ [⟨moreN, N⟩] } : Gr).nodes.length = N from HLN.out]
          show w8.ownsRow _ _ 9 (.slice A8 (N + 1) c8) (N + 1) (ncells h.nodes ++ ((starN w7.heap.size N).cells ++ []))
          rw [List.append_nil]
          exact OX8.out) (by rw [show ({ h with RA := A6, rc := c6, rules := g.rules ++ [⟨moreN, N⟩] } : Gr).nodes.length = N from HLN.out]; exact GR8.out) HN8.out (fun x hx => by
          simp only [List.mem_singleton] at hx
          subst hx
          exact ⟨own_below (own_lower OS.out hbs) (B1 _ _), fun h => nomatch h⟩)
        exact f8.offBox KB8.out GR9.out)
      have KG9 := Lib.hid (show Blk w9 gb #[.slice g.RA R g.rc, .slice g.NA N g.nc] 25 from KG3.out.below' P9.out)
      have P09 := Lib.hid (show Below w.heap.size w w9 from bb H3.out P9.out)
      have PT := Lib.hid (show Calls Try.prog 20 #[.agg #[.slice g.RA R g.rc, .slice g.NA N g.nc], .int .i64 c] w9 (fun e w' => ∃ A' c' s l', e = .returned (.slice A' s c') ∧ l'.length = s ∧ (measOf g c).1 = (s : Nat) ∧ c + s ≤ N ∧ Moved (-(c : Int)) ((g.nodes.drop c).take s) l' ∧ Owd w9 w' (.slice A' s c') l' 2048 ∧ (A' = none → c' = 0) ∧ (∀ i j, i < j → j < l'.length → ∀ a b, (l'.getD i Nd.zero).A = some a → (l'.getD j Nd.zero).A = some b → a.block ≠ b.block) ∧ Below w9.heap.size w9 w') from by
        have := part15_any g HR.out HCP.out (fun x hx => by have := HKL.out x hx; omega) c (by rw [← EN.out]; exact hcN) w9 (HG.out.below P09.out) HIN.out
        rw [GV.out] at this
        refine this.mono ?_
        rintro e w' ⟨A', c', s, l', he, h1, h2, h3, h4, h5, h6, h7⟩
        have hl : l'.length = s := by rw [h3.1]; simp; omega
        refine ⟨A', c', s, l', by rw [he, hl], hl, h1, by rw [EN.out]; exact h2, h3, by rw [← hl]; exact h4, h5, h6, h7⟩)
      clear KB8 P8 OX8 GR8 GR9 HN8 OX7 P7 KX7 KG7 F7 hmb hm63 hbs h1c HNW ON OS
      have b0 := KG9.out.cell 0; have b1 := KG9.out.cell 1
      simp only [List.getElem?_toArray, List.getElem?_cons_zero, List.getElem?_cons_succ] at b0 b1
      go_wp2_with (go_at_call 20; (with_reducible refine PT.out.mono ?_); rintro e w10 ⟨A1, c1, s, l', rfl, hl, hms, hcs, hmv, how, hn1, hap, hb⟩; have HL := Lib.hid hl; have MS := Lib.hid hms; have HCS := Lib.hid hcs; have HMV := Lib.hid hmv; have HOW := Lib.hid how; have HN1 := Lib.hid hn1; have HAP := Lib.hid hap; have P10 := Lib.hid hb; clear hl hms hcs hmv how hn1 hap hb b0 b1)
      have M0 : RowKit.Hid (Mvd w9 w10 l' ((N : Int) + 1) (.slice A1 s c1) s 0 0) := Lib.hid ⟨by have := HOW.out.row; rw [HL.out] at this; exact this, fun j hj => by
        rw [mst_zero]
        exact (HOW.out.kids _ (getD_mem (by have := HL.out; omega))).1, HOW.out.low⟩
      have HKB := Lib.hid (fun i (hi : i < s) => show (l'.getD i Nd.zero).kids.length ≤ 1000 ∧ ∀ k, k < (l'.getD i Nd.zero).kids.length → 0 ≤ (l'.getD i Nd.zero).kids.getD k 0 ∧ (l'.getD i Nd.zero).kids.getD k 0 < 2048 from by
        have hm : l'.getD i Nd.zero ∈ l' := getD_mem (by have := HL.out; omega)
        obtain ⟨q1, q2, _⟩ := HOW.out.bnd _ hm
        exact ⟨q1, fun k hk => q2 _ (getD_mem_int hk)⟩)
      have hss : s ≤ 300 := by have := HCS.out; omega
      go_loopw [8] (fun i wr => ∃ k : Nat, k ≤ s ∧ i = .int .i64 k ∧ Mvd w9 wr l' ((N : Int) + 1) (.slice A1 s c1) s k 0) (fun i _ => s - (intOf i).toNat)
      case atStart => exact ⟨0, by omega, by go_num, M0.out⟩
      case round =>
        obtain ⟨i, hi, rfl, hM⟩ := hrel
        by_cases hlt : i < s
        · have hlt2 : (i : Int) < s := by omega
          have hM0 := Lib.hid hM
          obtain ⟨hk1, hk2⟩ := HKB.out i hlt
          have HK2 := Lib.hid hk2
          clear hM hk2
          obtain ⟨kl, ekl⟩ : ∃ kl, kl = (l'.getD i Nd.zero).kids.length := ⟨_, rfl⟩
          have EKL := Lib.hid ekl
          rw [← ekl] at hk1
          clear ekl
          go_wp2_with fail
          go_loopw [9] (fun q wr => ∃ k : Nat, k ≤ kl ∧ q = .int .i64 k ∧ Mvd w9 wr l' ((N : Int) + 1) (.slice A1 s c1) s i k) (fun q _ => kl - (intOf q).toNat)
          case atStart => exact ⟨0, by omega, by go_num, hM0.out⟩
          case round =>
            obtain ⟨k, hk, rfl, hM⟩ := hrel
            have kg := KG9.out.below' hM.low
            have b0 := kg.cell 0; have b1 := kg.cell 1
            simp only [List.getElem?_toArray, List.getElem?_cons_zero, List.getElem?_cons_succ] at b0 b1
            obtain ⟨g0, cap0, e0, _, _, _, _⟩ := own_shape hM.row (by omega)
            simp only [Value.slice.injEq, true_and] at e0
            obtain ⟨eA, eC⟩ := e0
            have hNd : Nodes wr A1 l' := own_nodes (by rw [HL.out]; exact hM.row)
            obtain ⟨b1', o1, eA1, hb1, _, _, _, _, _, _, _, _, c9'⟩ := hNd.nine (show i < l'.length by have := HL.out; omega)
            rw [← EKL.out] at c9'
            by_cases hltk : k < kl
            · have hltk2 : (k : Int) < kl := by omega
              have hrow := hM.kids i hlt
              obtain ⟨gk, capk, ek, _, _, _, _⟩ := own_shape hrow (by have := EKL.out; omega)
              simp only [Value.slice.injEq, true_and] at ek
              obtain ⟨eKA, eKC⟩ := ek
              rw [eKA] at hrow c9'
              obtain ⟨s1, s2⟩ := mst_set l' ((N : Int) + 1) i k (by have := EKL.out; omega)
              have ck : wr.cell? ⟨gk, k, none⟩ = some (.int .i64 ((l'.getD i Nd.zero).kids.getD k 0)) := by
                rw [hrow.cellAt k (by have := EKL.out; omega), ← s1]
                exact ints_at (by rw [mst_length]; have := EKL.out; omega)
              have fk := hrow.frozenAt k
              obtain ⟨v1, v2⟩ := HK2.out k (by have := EKL.out; omega)
              have ST := Lib.hid (eA1 ▸ hM.step hlt (by have := HL.out; omega) (by have := EKL.out; omega) eKA HAP.out)
              generalize (l'.getD i Nd.zero).kids.getD k 0 = xv at ck v1 v2 ST
              have hw : IntKind.wrap .i64 (xv + N) = xv + N := by rw [IntKind.wrap_i64]; omega
              have hw2 : IntKind.wrap .i64 (xv + N + 1) = xv + N + 1 := by rw [IntKind.wrap_i64]; omega
              have hsb : xv + ((N : Int) + 1) = xv + N + 1 := by omega
              rw [hsb] at ST
              clear hsb
              generalize (l'.getD i Nd.zero).cap = capq at c9'
              rw [eA1]
              clear hM hNd hrow s1 s2 eKA eKC eA eC kg
              go_wp2_with fail
              go_region_with (fail)
              all_goals (
                go_wp2_with fail
                go_roundw
                case rel => exact ⟨k + 1, by omega, by go_num, (by first | exact ST.out | exact ST.out.below (bdrew1 (Below.refl _ _)) | exact ST.out.below (bdrew1 (bdrew1 (Below.refl _ _))) | exact ST.out.below (bdrew (Below.refl _ _)))⟩
                case measure => simp [intOf]; omega)
            · obtain rfl : k = kl := by omega
              have hneg : ¬ (k : Int) < k := by omega
              have hM1 := Lib.hid hM
              generalize (l'.getD i Nd.zero).cap = capq at c9'
              generalize (l'.getD i Nd.zero).A = Aq at c9'
              rw [eA1]
              clear hM hNd eA eC kg
              go_wp2_with fail
              go_roundw
              case rel => exact ⟨i + 1, by omega, by go_num, by have := hM1.out; rw [EKL.out, eA1] at this; exact this.next⟩
              case measure => simp [intOf]; omega
        · obtain rfl : i = s := by omega
          have hneg : ¬ (i : Int) < i := by omega
          have hM0 := Lib.hid hM
          clear hM
          go_upto_region 17 with fail
          obtain ⟨l2, q1, q2, q3, q4, _⟩ := hM0.out.fin3 (l := l') (K := 4000) HL.out.symm rfl (fun j _ => ⟨(l'.getD j Nd.zero).A, (l'.getD j Nd.zero).cap, rfl⟩) (fun x hx => (HOW.out.kids x hx).2) (fun x hx => ⟨(HOW.out.bnd x hx).1, fun k hk => by have := (HOW.out.bnd x hx).2.1 k hk; omega⟩) (fun x hx => (HOW.out.bnd x hx).2.2) (by have := HL.out; omega)
          have hl2 : l2.length = i := by rw [q1.1]; exact HL.out
          have KXR := Lib.hid (KX9.out.below' hM0.out.low)
          have FR := Lib.hid (F9.out.below hM0.out.low)
          have PR := Lib.hid (show Below w3.heap.size w3 wr from P9.out.trans (hM0.out.low.mono P9.out.size))
          have HS9 := Lib.hid P9.out.size
          rw [hl2] at q3
          have Q3 := Lib.hid q3
          have Q4 := Lib.hid (fun (x : Nd) (hx : x ∈ l2) => show wr.ownsRow w3.heap.size 3 1 (.slice x.A x.kids.length x.cap) x.kids.length (ints x.kids) ∧ (x.A = none → x.cap = 0) from ⟨own_lower (q4 x hx) HS9.out, (q2.kids x hx).1.2.1⟩)
          have QB := Lib.hid (fun (x : Nd) (hx : x ∈ l2) => show x.kids.length ≤ 1000 ∧ x.text.size ≤ 9223372036854775807 from ⟨(q2.kids x hx).2.1, q2.texts x hx⟩)
          have ON := Lib.hid (own_news q3)
          have MVX := Lib.hid (show Moved ((g.nodes.length : Int) + 1) l' l2 from by rw [← EN.out]; exact q1)
          have OXR := Lib.hid (show wr.ownsRow w3.heap.size 41 9 (.slice A8 (N + 1) c8) (N + 1) (ncells (h.nodes ++ [starN w7.heap.size N])) from by
            have := FR.out.nodes
            rw [show ({ h with RA := A6, rc := c6, rules := g.rules ++ [⟨moreN, N⟩], NA := A8, nc := c8, nodes := h.nodes ++ [starN w7.heap.size N] } : Gr).nodes.length = N + 1 from by show (h.nodes ++ [starN w7.heap.size N]).length = _; rw [List.length_append, HLN.out]; rfl] at this
            exact this)
          have HO2 := Lib.hid (show (ncells l2).length = i * 9 from by rw [ncells_length, hl2])
          have N1 := Lib.hid (ncells_one l2)
          have hm63 : N + 1 + i ≤ maxLen := by unfold maxLen; omega
          have hmb : (N + 1 + i) * 96 ≤ 140737488355328 := by omega
          have hbs : w3.heap.size ≤ wr.heap.size := PR.out.size
          have x0 := KXR.out.cell 0; have x1 := KXR.out.cell 1
          simp only [List.getElem?_toArray, List.getElem?_cons_zero, List.getElem?_cons_succ] at x0 x1
          clear q1 q2 q3 q4 hl2 M0 hM0 HKB KX9 F9 HAP HOW HN1 P10 HS9
          go_upto_region 18 with (first | (at_builtin; refine wpList_append_onto _ rfl (.tmp 88) (.tmp 89) 23 rfl w3.heap.size 41 i1 _ 9 96 Try.underlying23 ni nz0 nz1 nz2 rfl (by decide) (.slice A8 (N + 1) c8) (N + 1) (ncells (h.nodes ++ [starN w7.heap.size N])) rfl OXR.out A1 i c1 (ncells l2) rfl HO2.out ON.out.1 ON.out.2 N1.out hm63 hmb hbs ?_; intro v11 w11 ho hgr _; obtain ⟨A9, c9, rfl, hn9, _⟩ := own_slice ho; have OX9 := Lib.hid ho; have HN9 := Lib.hid (fun e => (hn9 e).2); have GR9 := Lib.hid hgr; clear ho hgr hn9 x0 x1) | (refine wpList_store_blk rfl 23 (.tmp 91) (.tmp 90) rfl xb 1 _ rfl rfl rfl 25 _ (show Blk w11 xb #[.slice A6 (R + 1) c6, .slice A8 (N + 1) c8] 25 from blk_away KXR.out OXR.out (by decide) GR9.out) (by first | simp | (show 1 < 2; omega)) (by kernel_rfl) #[.slice A6 (R + 1) c6, .slice A9 (N + 1 + i) c9] rfl ?_; intro w12 hk hgr; have KX12 := Lib.hid hk; have GR12 := Lib.hid hgr; clear hk hgr))
          have KB11 := Lib.hid (show Blk w11 xb #[.slice A6 (R + 1) c6, .slice A8 (N + 1) c8] 25 from blk_away KXR.out OXR.out (by decide) GR9.out)
          have P12 := Lib.hid (show Below w3.heap.size w3 w12 from grown_below (grown_below PR.out PR.out.size GR9.out (fun k e => (OXR.out.lt k e).1)) (by have := PR.out.size; have := GR9.out.size; omega) GR12.out (fun k e => by cases e; exact HXB.out))
          obtain ⟨X, eX⟩ : ∃ X : Gr, X = ⟨A6, c6, g.rules ++ [⟨moreN, g.nodes.length⟩], A9, c9, (h.nodes ++ [starN w7.heap.size g.nodes.length]) ++ l2⟩ := ⟨_, rfl⟩
          have MX := Lib.hid (show MoreX g X c i from by rw [eX]; exact moreX_of HT.out HMV.out MVX.out)
          have XIN := Lib.hid (show Gr.In X from by rw [eX]; exact more_in HT.out HIN.out HMV.out MVX.out)
          have F12 := Lib.hid (show Fresh w12 w3.heap.size X from by
            have f11 := FR.out.addNodes (l := l2) (A' := A9) (c' := c9) (W' := w11) (by
              rw [show ({ h with RA := A6, rc := c6, rules := g.rules ++ [⟨moreN, N⟩], NA := A8, nc := c8, nodes := h.nodes ++ [starN w7.heap.size N] } : Gr).nodes.length = N + 1 from by show (h.nodes ++ [starN w7.heap.size N]).length = _; rw [List.length_append, HLN.out]; rfl, show l2.length = i from by have := HO2.out; rw [ncells_length] at this; omega]
              exact OX9.out) (by
              rw [show ({ h with RA := A6, rc := c6, rules := g.rules ++ [⟨moreN, N⟩], NA := A8, nc := c8, nodes := h.nodes ++ [starN w7.heap.size N] } : Gr).nodes.length = N + 1 from by show (h.nodes ++ [starN w7.heap.size N]).length = _; rw [List.length_append, HLN.out]; rfl]
              exact GR9.out) HN9.out Q4.out
            rw [eX, ← EN.out]
            exact f11.offBox KB11.out GR12.out)
          have hXl : X.nodes.length = N + 1 + i := by rw [MX.out.len (by rw [← EN.out]; exact HCS.out), EN.out]
          have hXr : X.rules.length = R + 1 := by rw [MX.out.rlen, ER.out]
          have X12 := Lib.hid (show Gr.At w12 X from F12.out.at_ (by omega) (by omega) (fun x hx => by
            rw [eX] at hx
            rcases List.mem_append.1 hx with hx | hx
            · rcases List.mem_append.1 hx with hx | hx
              · obtain ⟨y, hy, A', c', rfl⟩ := HT.out.mem hx
                exact ⟨by have := HKL.out y hy; show y.kids.length ≤ _; omega, HG.out.texts y hy⟩
              · simp only [List.mem_singleton] at hx
                subst hx
                exact ⟨by show (1 : Nat) ≤ _; omega, by show (0 : Nat) ≤ _; omega⟩
            · have := QB.out x hx
              exact ⟨by omega, this.2⟩) (fun r hr => by
            rw [eX] at hr
            rcases List.mem_append.1 hr with hr | hr
            · exact HG.out.names r hr
            · simp only [List.mem_singleton] at hr
              subst hr
              show moreN.size ≤ _
              decide))
          have XV := Lib.hid (show X.val = .agg #[.slice A6 (R + 1) c6, .slice A9 (N + 1 + i) c9] from by
            unfold Gr.val
            rw [hXl, hXr, eX])
          have KG12 := Lib.hid (show Blk w12 gb #[.slice g.RA R g.rc, .slice g.NA N g.nc] 25 from KG3.out.below' P12.out)
          have L12 := Lib.hid (bb H3.out P12.out)
          clear KB11 GR9 GR12 OX9 HN9 OXR HO2 N1 hm63 hmb hbs KXR FR PR Q3 Q4 QB ON MVX hXl hXr eX F12 KG9 P9 P09 HT
          have KX := Lib.hid KX12.out
          have b0 := KG12.out.cell 0; have b1 := KG12.out.cell 1
          have x0 := KX.out.cell 0; have x1 := KX.out.cell 1
          simp only [List.getElem?_toArray, List.getElem?_cons_zero, List.getElem?_cons_succ] at b0 b1 x0 x1
          have RX := Lib.hid (show Calls Try.prog 9 #[.agg #[.slice A6 (R + 1) c6, .slice A9 (N + 1 + i) c9]] w12 (fun e w' => e = .returned (.bool (rightB X)) ∧ Below w12.heap.size w12 w') from by
            have := right_all X w12 X12.out XIN.out
            rw [XV.out] at this
            exact this)
          cases hx : rightB X with
          | false =>
            have WY := more_why HR.out MX.out (show c < g.nodes.length by rw [← EN.out]; exact hcN) MS.out hx (by rw [← EN.out]; omega)
            rw [hx] at RX
            have RUC := Lib.hid (fun (w' : World) (b : Below w.heap.size w w') => show Calls Try.prog 21 #[.agg #[.slice g.RA R g.rc, .slice g.NA N g.nc], .string { data := #[95, 109, 111, 114, 101] }] w' (fun e w'' => e = .returned (.int .i64 (ruleAt g.rules moreN)) ∧ Below w'.heap.size w' w'') from by
              have := rule_any g moreN w' (HG.out.below b)
              rw [GV.out] at this
              exact this)
            have HGT := Lib.hid (fun (w' : World) (b : Below w.heap.size w w') => show Calls Try.prog 22 #[.agg #[.slice g.RA R g.rc, .slice g.NA N g.nc], .int .i64 c] w' (fun e w'' => e = .returned (.int .i64 (measOf g c).2) ∧ Below w'.heap.size w' w'') from by
              have := height_of g c w' (HG.out.below b) HIN.out
              rw [GV.out] at this
              exact this)
            rw [← ER.out] at WY
            generalize ruleAt g.rules moreN = ru at RUC WY
            generalize (measOf g c).2 = ht at HGT WY
            clear hx MS
            by_cases h32 : R = 32
            · have h32i : (R : Int) = 32 := by omega
              have h32b : ((R : Int) == 32) = true := by simp [h32i]
              clear WY h32 h32i
              go_wp2_with (go_at_call 9; (with_reducible refine RX.out.mono ?_); rintro e w13 ⟨rfl, hb⟩; have L13 := Lib.hid (bb L12.out hb); have kg := KG12.out.below' hb; have kx := KX.out.below' hb; clear hb b0 b1 x0 x1; have b0 := kg.cell 0; have b1 := kg.cell 1; have x0 := kx.cell 0; have x1 := kx.cell 1; simp only [List.getElem?_toArray, List.getElem?_cons_zero, List.getElem?_cons_succ] at b0 b1 x0 x1; clear kg kx)
              go_ret
              exact ⟨rfl, L13.out⟩
            · have h32i : ¬ (R : Int) = 32 := by omega
              have h32b : ((R : Int) == 32) = false := by simp [h32i]
              by_cases hru : 0 ≤ ru
              · clear WY h32
                go_wp2_with (first | (go_at_call 9; (with_reducible refine RX.out.mono ?_); rintro e w13 ⟨rfl, hb⟩; have L13 := Lib.hid (bb L12.out hb); have kg := KG12.out.below' hb; have kx := KX.out.below' hb; clear hb b0 b1 x0 x1; have b0 := kg.cell 0; have b1 := kg.cell 1; have x0 := kx.cell 0; have x1 := kx.cell 1; simp only [List.getElem?_toArray, List.getElem?_cons_zero, List.getElem?_cons_succ] at b0 b1 x0 x1; clear kg kx) | (go_at_call 21; (with_reducible refine (RUC.out _ L13.out).mono ?_); rintro e w14 ⟨rfl, hb⟩; have L14 := Lib.hid (bb L13.out hb); clear hb))
                go_ret
                exact ⟨rfl, L14.out⟩
              · have hht : ht = 16 := by omega
                subst hht
                clear WY h32
                go_wp2_with (first | (go_at_call 9; (with_reducible refine RX.out.mono ?_); rintro e w13 ⟨rfl, hb⟩; have L13 := Lib.hid (bb L12.out hb); have kg := KG12.out.below' hb; have KG13 := Lib.hid (KG12.out.below' hb); have kx := KX.out.below' hb; clear hb b0 b1 x0 x1; have b0 := kg.cell 0; have b1 := kg.cell 1; have x0 := kx.cell 0; have x1 := kx.cell 1; simp only [List.getElem?_toArray, List.getElem?_cons_zero, List.getElem?_cons_succ] at b0 b1 x0 x1; clear kg kx) | (go_at_call 21; (with_reducible refine (RUC.out _ L13.out).mono ?_); rintro e w14 ⟨rfl, hb⟩; have L14 := Lib.hid (bb L13.out hb); have kg := KG13.out.below' hb; clear hb b0 b1 x0 x1; have b0 := kg.cell 0; have b1 := kg.cell 1; simp only [List.getElem?_toArray, List.getElem?_cons_zero, List.getElem?_cons_succ] at b0 b1; clear kg) | (go_at_call 22; (with_reducible refine (HGT.out _ L14.out).mono ?_); rintro e w15 ⟨rfl, hb⟩; have L15 := Lib.hid (bb L14.out hb); clear hb))
                go_ret
                exact ⟨rfl, L15.out⟩
          | true =>
            have hXR := rightB_true.1 hx
            rw [hx] at RX
            have SV := Lib.hid (more_star' HR.out hXR MX.out (show c < g.nodes.length by rw [← EN.out]; exact hcN) MS.out)
            have IV := Lib.hid (fun (m : Nat) (hm : m < N) => more_idle HR.out hXR MX.out (by rw [← EN.out]; exact HCS.out) (m := m) (by rw [← EN.out]; exact hm))
            have IXC := Lib.hid (fun (n : Nat) (hn : n ≤ N) (w' : World) (b : Below w12.heap.size w12 w') => show Calls Try.prog 15 #[.agg #[.slice A6 (R + 1) c6, .slice A9 (N + 1 + i) c9], .int .i64 n] w' (fun e w'' => e = .returned (.bool (idleB X n)) ∧ Below w'.heap.size w' w'') from by
              have := wellIdle_any X n (by omega) w' (X12.out.below b) XIN.out
              rw [XV.out] at this
              exact this)
            have IGC := Lib.hid (fun (n : Nat) (hn : n ≤ N) (w' : World) (b : Below w12.heap.size w12 w') => show Calls Try.prog 15 #[.agg #[.slice g.RA R g.rc, .slice g.NA N g.nc], .int .i64 n] w' (fun e w'' => e = .returned (.bool (idleB g n)) ∧ Below w'.heap.size w' w'') from by
              have := wellIdle_any g n (by omega) w' (HG.out.below (bb L12.out b)) HIN.out
              rw [GV.out] at this
              exact this)
            have NDC := Lib.hid (fun (w' : World) (b : Below w12.heap.size w12 w') => show Calls Try.prog 17 #[.agg #[.slice g.RA R g.rc, .slice g.NA N g.nc], .int .i64 c] w' (fun e w'' => e = .returned (.bool (nodeB g c)) ∧ Below w'.heap.size w' w'') from by
              have := node_of g c (by omega) w' (HG.out.below (bb L12.out b)) HIN.out
              rw [GV.out] at this
              exact this)
            clear hx hXR MS
            go_upto_region 20 with (go_at_call 9; (with_reducible refine RX.out.mono ?_); rintro e w13 ⟨rfl, hb⟩; have HB13 := Lib.hid hb; clear hb b0 b1 x0 x1)
            have kg := KG12.out.below' HB13.out
            have kx := KX.out.below' HB13.out
            have b0 := kg.cell 0; have b1 := kg.cell 1
            have x0 := kx.cell 0; have x1 := kx.cell 1
            simp only [List.getElem?_toArray, List.getElem?_cons_zero, List.getElem?_cons_succ] at b0 b1 x0 x1
            have c0' := fun e => Ext.cell b0 e
            have c1' := fun e => Ext.cell b1 e
            have x0' := fun e => Ext.cell x0 e
            have x1' := fun e => Ext.cell x1 e
            obtain ⟨v, ev⟩ : ∃ v, v = nodeB g c := ⟨_, rfl⟩
            have C1 := Lib.hid (fun (e : Ext w13) => show Calls Try.prog 15 #[.agg #[.slice A6 (R + 1) c6, .slice A9 (N + 1 + i) c9], .int .i64 N] e.val (fun x w' => x = .returned (.bool v) ∧ Below e.val.heap.size e.val w') from by
              have := IXC.out N (Nat.le_refl _) e.val (bb HB13.out e.grown)
              rw [show idleB X N = v from by rw [ev, ← SV.out, EN.out]] at this
              exact this)
            have C2 := Lib.hid (fun (e : Ext w13) => show Calls Try.prog 17 #[.agg #[.slice g.RA R g.rc, .slice g.NA N g.nc], .int .i64 c] e.val (fun x w' => x = .returned (.bool v) ∧ Below e.val.heap.size e.val w') from by
              have := NDC.out e.val (bb HB13.out e.grown)
              rw [← ev] at this
              exact this)
            clear ev b0 b1 x0 x1 kg kx
            refine wp_region_ext (by kernel_rfl) (by kernel_rfl) ?_
            repeat (first | go_big_quiet_step (first | (go_at_call 15; with_reducible exact Calls.ext_of (C1.out _)) | (go_at_call 17; with_reducible exact Calls.ext_of (C2.out _))) | quiet_step (first | (go_at_call 15; with_reducible exact Calls.ext_of (C1.out _)) | (go_at_call 17; with_reducible exact Calls.ext_of (C2.out _))))
            refine wpQuiet_nil ?_
            intro w14 hw'
            obtain ⟨⟨_, hb14⟩, rfl⟩ := hw'
            have B14 := Lib.hid (bb HB13.out hb14)
            clear hb14 c0' c1' x0' x1' C1 C2 SV NDC
            go_wp2_with fail
            go_loopw [10] (fun q wr => ∃ m : Nat, m ≤ N ∧ q = .int .i64 m ∧ Below w12.heap.size w12 wr) (fun q _ => N - (intOf q).toNat)
            case atStart => exact ⟨0, by omega, by go_num, B14.out⟩
            case round =>
              obtain ⟨m, hm, rfl, hbl⟩ := hrel
              have BL := Lib.hid hbl
              clear hbl
              have kg := KG12.out.below' BL.out
              have kx := KX.out.below' BL.out
              have b0 := kg.cell 0; have b1 := kg.cell 1
              have x0 := kx.cell 0; have x1 := kx.cell 1
              simp only [List.getElem?_toArray, List.getElem?_cons_zero, List.getElem?_cons_succ] at b0 b1 x0 x1
              clear kg kx
              by_cases hlm : m < N
              · have hlm2 : (m : Int) < N := by omega
                obtain ⟨u, eu⟩ : ∃ u, u = idleB g m := ⟨_, rfl⟩
                have C1 := Lib.hid (fun (e : Ext wr) => show Calls Try.prog 15 #[.agg #[.slice A6 (R + 1) c6, .slice A9 (N + 1 + i) c9], .int .i64 m] e.val (fun x w' => x = .returned (.bool u) ∧ Below e.val.heap.size e.val w') from by
                  have := IXC.out m hm e.val (bb BL.out e.grown)
                  rw [show idleB X m = u from by rw [eu]; exact IV.out m hlm] at this
                  exact this)
                have C2 := Lib.hid (fun (e : Ext wr) => show Calls Try.prog 15 #[.agg #[.slice g.RA R g.rc, .slice g.NA N g.nc], .int .i64 m] e.val (fun x w' => x = .returned (.bool u) ∧ Below e.val.heap.size e.val w') from by
                  have := IGC.out m hm e.val (bb BL.out e.grown)
                  rw [← eu] at this
                  exact this)
                have c0' := fun e => Ext.cell b0 e
                have c1' := fun e => Ext.cell b1 e
                have x0' := fun e => Ext.cell x0 e
                have x1' := fun e => Ext.cell x1 e
                clear eu
                go_upto_region 25 with fail
                clear b0 b1 x0 x1
                refine wp_region_ext (by kernel_rfl) (by kernel_rfl) ?_
                repeat (first | go_big_quiet_step (first | (go_at_call 15; with_reducible exact Calls.ext_of (C1.out _)) | (go_at_call 15; with_reducible exact Calls.ext_of (C2.out _))) | quiet_step (first | (go_at_call 15; with_reducible exact Calls.ext_of (C1.out _)) | (go_at_call 15; with_reducible exact Calls.ext_of (C2.out _))))
                refine wpQuiet_nil ?_
                intro w15 hw'
                obtain ⟨⟨_, hb15⟩, rfl⟩ := hw'
                have B15 := Lib.hid (bb BL.out hb15)
                clear hb15 c0' c1' x0' x1' C1 C2
                go_wp2_with fail
                go_roundw
                case rel => exact ⟨m + 1, by omega, by go_num, B15.out⟩
                case measure => simp [intOf]; omega
              · obtain rfl : m = N := by omega
                have hneg2 : ¬ (m : Int) < m := by omega
                go_wp2_with fail
                go_ret
                exact ⟨rfl, bb L12.out BL.out⟩
    · go_ret
      exact ⟨rfl, H2.out⟩
end Go.Proofs.Ytjelgmdjmjnnfaa

/- The same of the laws of null: size, naming. -/
import Derived.Test.YtmlaepbmdfmgbaaQ1
import Derived.Test.YtmlaepbmdfmgbaaN2
set_option linter.unusedSimpArgs false
set_option linter.unusedVariables false
namespace Go.Proofs.Ytmlaepbmdfmgbaa
open Go Go.RowKit Go.Maps
set_option maxRecDepth 100000 in
set_option maxHeartbeats 2000000 in
theorem size11_all (g : Gr) (w : World) (hg : Gr.At w g) : Calls Try.prog 6 #[g.val] w fun e w' => (∃ z : Int, e = .returned (.int .i64 z) ∧ (z ≤ 300 → g.rules.length + g.nodes.length ≤ 300 ∧ ∀ x ∈ g.nodes, x.kids.length ≤ 300)) ∧ Below w.heap.size w w' := by
  have HG := Lib.hid hg
  have h1 := hg.rl
  have h2 := hg.nl
  obtain ⟨RA, rc, rules, NA, nc, nodes⟩ := g
  dsimp only at h1 h2
  obtain ⟨m, em⟩ : ∃ m, m = nodes.length := ⟨_, rfl⟩
  obtain ⟨r, er⟩ : ∃ m, m = rules.length := ⟨_, rfl⟩
  show Calls Try.prog 6 #[.agg #[.slice RA rules.length rc, .slice NA nodes.length nc]] w _
  have EM := Lib.hid em
  have ER := Lib.hid er
  rw [← em, ← er]
  rw [← em] at h2
  rw [← er] at h1
  clear hg em er
  go_enter Try.func6, Try.ntmps6
  go_wp2_with fail
  obtain ⟨wb, ewb⟩ : ∃ u, u = w.alloc (.cells #[.slice RA r rc, .slice NA m nc] 25) := ⟨_, rfl⟩
  have hb2 : Below w.heap.size w wb := by rw [ewb]; exact B1 _ _
  have c0 : wb.cell? ⟨w.heap.size, 0, none⟩ = some (.slice RA r rc) := by rw [ewb]; exact (Blk.new _ _ _).cell 0
  have c1 : wb.cell? ⟨w.heap.size, 1, none⟩ = some (.slice NA m nc) := by rw [ewb]; exact (Blk.new _ _ _).cell 1
  rw [← ewb]
  have BB := Lib.hid hb2
  clear ewb hb2
  go_loopw [3, 4] (fun s i wr => ∃ (k : Nat) (n : Int), k ≤ m ∧ s = .int .i64 n ∧ i = .int .i64 k ∧ n ≤ 500000000000000 ∧ (r + m : Nat) ≤ n ∧ (∀ j, j < k → ((nodes.getD j Nd.zero).kids.length : Int) ≤ n) ∧ wr = wb) (fun _ i _ => m - (intOf i).toNat)
  case atStart => exact ⟨0, r + m, by omega, rfl, rfl, by omega, by omega, fun j h => by omega, rfl⟩
  case round =>
    obtain ⟨k, n, hk, rfl, rfl, hn, hn0, hkk, rfl⟩ := hrel
    have HK := Lib.hid hkk
    clear hkk
    by_cases hlt : k < m
    · have hlt2 : (k : Int) < m := by omega
      by_cases hle : n ≤ 300
      · obtain ⟨b1, o1, eA, _, _, _, _, _, _, _, _, _, c9⟩ := (HG.out.below BB.out).nodes.nine (show k < nodes.length by have := EM.out; omega)
        have hx := ((HG.out.below BB.out).node (show k < nodes.length by have := EM.out; omega)).2.2
        dsimp only at eA c9 hx
        rw [eA] at c1
        generalize hxx : nodes.getD k Nd.zero = x at c9 hx
        have HX := Lib.hid hxx
        clear eA hxx
        go_wp2_with fail
        go_roundw
        case rel => exact ⟨k + 1, n + x.kids.length, by omega, by first | rfl | go_num, by go_num, by omega, by omega, fun j hj => (by
          by_cases ej : j = k
          · subst ej; rw [HX.out]; omega
          · have := HK.out j (by omega); omega), by first | trivial | rfl⟩
        case measure => simp [intOf]; omega
      · have hle2 : 300 < n := by omega
        go_wp2_with fail
        go_ret
        exact ⟨⟨n, rfl, fun h => absurd h (by omega)⟩, BB.out⟩
    · obtain rfl : k = m := by omega
      have hlt2 : ¬ (k : Int) < k := by omega
      go_wp2_with fail
      go_ret
      exact ⟨⟨n, rfl, fun h => ⟨by have := EM.out; have := ER.out; omega, fun x hx => by
        obtain ⟨j, hj, rfl⟩ := List.getElem_of_mem hx
        have := HK.out j (by have := EM.out; omega)
        simp only [List.getD, List.getElem?_eq_getElem hj, Option.getD_some] at this
        skip
        omega⟩⟩, BB.out⟩
set_option maxRecDepth 100000 in
set_option maxHeartbeats 4000000 in
theorem nameds11_any (B : Nat) (x g : Gr) (w : World) (hB : B ≤ w.heap.size) (hlen : x.rules.length = g.rules.length) (hl : g.rules.length ≤ 32) (hx : w.ownsRow B 55 2 (.slice x.RA x.rules.length x.rc) x.rules.length (rcells x.rules)) (hg : ∀ W' : World, Below B w W' → Gr.At W' g) :
    Calls Try.prog 12 #[x.val, g.val] w fun e w' => e = .returned ({ x with rules := mixR x.rules g.rules x.rules.length } : Gr).val ∧ w'.ownsRow B 55 2 (.slice x.RA x.rules.length x.rc) x.rules.length (rcells (mixR x.rules g.rules x.rules.length)) ∧ (∀ (B' e z n : Nat) (v : Value) (xs : List Value), e ≠ 55 → e ≠ 25 → w.ownsRow B' e z v n xs → w'.ownsRow B' e z v n xs) ∧ Below B w w' ∧ (∀ q, q < w.heap.size → (Value.slice x.RA x.rules.length x.rc).ownBlock ≠ some q → w'.heap[q]? = w.heap[q]?) := by
  obtain ⟨n, en⟩ : ∃ n, n = g.rules.length := ⟨_, rfl⟩
  have EN := Lib.hid en
  have EXN := Lib.hid (show x.rules.length = n from by rw [en]; exact hlen)
  have HG := Lib.hid hg
  have N0 := Lib.hid (show Nam B w (((w.alloc (.cells #[.slice x.RA x.rules.length x.rc, .slice x.NA x.nodes.length x.nc] 25)).alloc (.cells #[.slice g.RA g.rules.length g.rc, .slice g.NA g.nodes.length g.nc] 25)).alloc (.cells #[.slice none 0 0, .slice none 0 0] 25)) x g w.heap.size 0 from by
    have hb : Below w.heap.size w (((w.alloc (.cells #[.slice x.RA x.rules.length x.rc, .slice x.NA x.nodes.length x.nc] 25)).alloc (.cells #[.slice g.RA g.rules.length g.rc, .slice g.NA g.nodes.length g.nc] 25)).alloc (.cells #[.slice none 0 0, .slice none 0 0] 25)) := ((B1 w _).alloc (by simp) _).alloc (by simp; omega) _
    refine ⟨by rw [mixR_zero]; exact own_below hx hb, hb.mono hB, ((Blk.new _ _ _).alloc _).alloc _, ?_, ?_, fun _ _ _ _ _ _ _ ho => own_below ho hb⟩
    · have := (Blk.new (w.alloc (.cells #[.slice x.RA x.rules.length x.rc, .slice x.NA x.nodes.length x.nc] 25)) #[.slice g.RA g.rules.length g.rc, .slice g.NA g.nodes.length g.nc] 25).alloc (.cells #[.slice none 0 0, .slice none 0 0] 25)
      rw [World.size_alloc] at this
      exact this
    · have := Blk.new ((w.alloc (.cells #[.slice x.RA x.rules.length x.rc, .slice x.NA x.nodes.length x.nc] 25)).alloc (.cells #[.slice g.RA g.rules.length g.rc, .slice g.NA g.nodes.length g.nc] 25)) #[.slice none 0 0, .slice none 0 0] 25
      rw [World.size_alloc, World.size_alloc] at this
      exact this)
  have N0 := Lib.hid (Nay.mk N0.out (fun q hq _ => (((B1 w _).alloc (by simp) _).alloc (by simp; omega) _ : Below w.heap.size w _).block q hq))
  have HB := Lib.hid hB
  rw [← en] at hl
  show Calls Try.prog 12 #[.agg #[.slice x.RA x.rules.length x.rc, .slice x.NA x.nodes.length x.nc], .agg #[.slice g.RA g.rules.length g.rc, .slice g.NA g.nodes.length g.nc]] w _
  rw [EXN.out, ← en] at N0 ⊢
  clear hlen hx hg en hB
  go_enter Try.func12, Try.ntmps12
  go_wp2_with fail
  obtain ⟨wb, ewb⟩ : ∃ u, u = (((w.alloc (.cells #[.slice x.RA n x.rc, .slice x.NA x.nodes.length x.nc] 25)).alloc (.cells #[.slice g.RA n g.rc, .slice g.NA g.nodes.length g.nc] 25)).alloc (.cells #[.slice none 0 0, .slice none 0 0] 25)) := ⟨_, rfl⟩
  obtain ⟨b, ebb⟩ : ∃ b, b = w.heap.size := ⟨_, rfl⟩
  have EBB := Lib.hid ebb
  rw [← ewb, ← ebb] at N0
  rw [← ebb]
  try rw [← ewb]
  clear ewb ebb
  go_loopw [5] (fun ix wr => ∃ i : Nat, i ≤ n ∧ ix = .int .i64 i ∧ Nay B w wr x g b i) (fun ix _ => n - (intOf ix).toNat)
  case atStart => exact ⟨0, by omega, rfl, N0.out⟩
  case round =>
    obtain ⟨i, hi, rfl, hM⟩ := hrel
    have c0 := hM.nam.bx.cell 0
    have c1 := hM.nam.bx.cell 1
    have d0 := hM.nam.bg.cell 0
    simp only [List.getElem?_toArray, List.getElem?_cons_zero, List.getElem?_cons_succ] at c0 c1 d0
    rw [EXN.out] at c0
    rw [← EN.out] at d0
    by_cases hlt : i < n
    · have hlt2 : (i : Int) < n := by omega
      have hix : i < x.rules.length := by rw [EXN.out]; exact hlt
      have hig : i < g.rules.length := by rw [← EN.out]; exact hlt
      obtain ⟨gb, cap0, e0, _, _, _, _⟩ := own_shape hM.nam.row (by omega)
      simp only [Value.slice.injEq, true_and] at e0
      obtain ⟨eA, eC⟩ := e0
      clear eC
      obtain ⟨b1, o1, eG, _, nm, _⟩ := (HG.out _ hM.nam.low).rules.two hig
      have hrow := hM.nam.row
      rw [eA] at hrow
      have ck : wr.cell? ⟨gb, i * 2, none⟩ = some (.string ((mixR x.rules g.rules i).getD i Rl.zero).name) := by
        rw [hrow.cellAt (i * 2) (by omega)]
        exact (rcells_at _ i (by rw [mixR_length]; exact hix)).1
      have fk := hrow.frozenAt (i * 2)
      have ST := Lib.hid (hM.step hix eA)
      generalize ((mixR x.rules g.rules i).getD i Rl.zero).name = old at ck
      generalize (g.rules.getD i Rl.zero).name = nw at nm ST
      rw [eA] at c0
      rw [eG] at d0
      clear hM hrow eA eG
      go_wp2_with fail
      go_region_with (fail)
      all_goals (
        go_wp2_with fail
        go_roundw
        case rel => exact ⟨i + 1, by omega, by go_num, (by first | exact ST.out | exact ST.out.below (by have := ST.out.nam.low.size; have := HB.out; omega) (bdrew1 (Below.refl _ _)) | exact ST.out.below (by have := ST.out.nam.low.size; have := HB.out; omega) (bdrew (Below.refl _ _)))⟩
        case measure => simp [intOf]; omega)
    · obtain rfl : i = n := by omega
      have hlt2 : ¬ (i : Int) < i := by omega
      have HM := Lib.hid hM
      clear hM
      go_wp2_with (refine wpList_store_whole rfl 25 (.tmp 4) (.tmp 24) rfl (b + 2) #[.slice x.RA i x.rc, .slice x.NA x.nodes.length x.nc] rfl rfl 25 _ HM.out.nam.br (by kernel_rfl) (by rfl) (by simp [Value.oneCell']) ?_; intro w5 hk5 hg5; have K5 := Lib.hid hk5; have G5 := Lib.hid hg5; clear hk5 hg5)
      have hM := HM.out
      have hbs := EBB.out
      have hBl := HB.out
      have hsz := hM.nam.low.size
      have hbt : B ≤ b + 2 := by omega
      refine bodyPost_ret (results_cell_row rfl _ _ (b + 2) 25 _ (0, 0) _ rfl K5.out Try.underlying25 rfl (by kernel_rfl)) rfl ⟨?_, ?_, ?_, ?_, ?_⟩
      · show _ = Ending.returned (.agg #[.slice x.RA (mixR x.rules g.rules i).length x.rc, .slice x.NA x.nodes.length x.nc])
        rw [mixR_length, EXN.out]
      · have := own_off hM.nam.row hM.nam.br (by decide) G5.out
        rw [EXN.out] at this
        exact this
      · exact fun B' e z n v xs he he2 ho => own_off (hM.nam.kept B' e z n v xs he ho) hM.nam.br (fun e' => he2 e'.symm) G5.out
      · exact grown_below hM.nam.low (by omega) G5.out (fun k e => by cases e; exact hbt)
      · exact fun q hq hne => (G5.out.block q (by omega) (fun e => by have := Option.some.inj e; omega)).trans (hM.same q hq (by rw [EXN.out]; exact hne))
set_option maxHeartbeats 1000000 in
theorem dy_named11 {B : Nat} {x g : Gr} {w : World} {bl : List (List Nd)} (h : Gx B w x bl) (hB : B ≤ w.heap.size) (hl : g.rules.length ≤ 32) (hbl : bl.length = g.rules.length) (hg : ∀ W' : World, Below B w W' → Gr.At W' g) (hk : ∀ b ∈ bl, ∀ y ∈ b, 1 ≤ y.kind ∧ y.kind ≤ 12) :
    Calls Try.prog 12 #[x.val, g.val] w fun e w' => (∃ y : Gr, e = .returned y.val ∧ Dy B w' y g bl) ∧ Below B w w' ∧ (∀ q, q < w.heap.size → (Value.slice x.RA x.rules.length x.rc).ownBlock ≠ some q → w'.heap[q]? = w.heap[q]?) := by
  have hsp := h.sp
  simp only [Prod.ext_iff] at hsp
  have hlen : x.rules.length = g.rules.length := by rw [hsp.1, ← hbl]; exact gramL_rules _ bl rfl
  have hgw := hg w (Below.refl _ _)
  refine Calls.mono (nameds11_any B x g w hB hlen hl h.row hg) ?_
  rintro e w' ⟨rfl, hrow, _, hb, hs⟩
  have hm := mixR_length x.rules g.rules x.rules.length
  have keep : ∀ {e' z n : Nat} {v : Value} {xs : List Value}, w.ownsRow B e' z v n xs → e' ≠ 55 → w'.ownsRow B e' z v n xs := fun {e' z n v xs} ho he => own_kept ho fun k hk' => hs k (ho.lt k hk').2 fun e2 => he (own_same ho h.row hk' e2)
  have hat := h.at_
  refine ⟨⟨_, rfl, ⟨⟨own_rules (by rw [hm]; exact hrow), own_nodes (keep h.nds (by decide)), fun y hy => ⟨own_lies1 (keep (h.kds y hy).1 (by decide)), (h.kds y hy).2, by have := h.kl y hy; omega⟩, by show (mixR x.rules g.rules x.rules.length).length ≤ _; omega, hat.nl, hat.rn, hat.nn, hat.texts, fun r hr => ?_⟩, fun y hy => ?_, ⟨h.cap.nodes, h.cap.kids⟩, ⟨hsp.2, by show (mixR x.rules g.rules x.rules.length).length = _; omega, fun i hi => ?_⟩, mixR_names hlen⟩, by show w'.ownsRow B _ 2 (.slice x.RA (mixR x.rules g.rules x.rules.length).length x.rc) (mixR x.rules g.rules x.rules.length).length _; rw [hm]; exact hrow, keep h.nds (by decide), fun y hy => ⟨keep (h.kds y hy).1 (by decide), (h.kds y hy).2⟩⟩, hb, hs⟩
  · have hr : r ∈ mixR x.rules g.rules x.rules.length := hr
    obtain ⟨i, hi, rfl⟩ := List.getElem_of_mem hr
    have hi2 : i < x.rules.length := by rw [hm] at hi; exact hi
    have e : (mixR x.rules g.rules x.rules.length)[i] = (mixR x.rules g.rules x.rules.length).getD i Rl.zero := by simp [List.getD, List.getElem?_eq_getElem hi]
    rw [e, mixR_at hi2, if_pos hi2]
    show (g.rules.getD i Rl.zero).name.size ≤ _
    have hgi : i < g.rules.length := by omega
    have := hgw.names g.rules[i] (List.getElem_mem hgi)
    simpa [List.getD, List.getElem?_eq_getElem hgi] using this
  · have h1 := gramL_all (fun y => 1 ≤ y.kind ∧ y.kind ≤ 12) (fun d y h => h) _ bl rfl hk y.kz (by rw [← hsp.2]; exact List.mem_map_of_mem hy)
    have h1 : 1 ≤ y.kind ∧ y.kind ≤ 12 := h1
    exact ⟨by omega, hat.texts y hy⟩
  · have : i < x.rules.length := by omega
    show ((mixR x.rules g.rules x.rules.length).getD i Rl.zero).body = _
    rw [mixR_body this, ← hsp.1]
end Go.Proofs.Ytmlaepbmdfmgbaa
namespace Go.Proofs.Ytmlaepbmdfmgbaa
open Go Go.RowKit Go.Maps
structure IS (wr : World) (g : Gr) (v1 v2 : Value) (bl1 bl2 : List (List Nd)) (L : Nat → Bool) (f : Nat → Value) (w : World) : Prop where
  low : Below wr.heap.size wr w
  s0 : L 0 = true → f 42 = v1
  s2 : L 2 = true → f 44 = g.val
  s4 : L 4 = true → f 46 = v2
  s6 : L 6 = true → f 48 = g.val
  d5 : L 5 = true → L 3 = true
  d7 : L 7 = true → L 5 = true
  d10 : L 10 = true → L 7 = true ∧ L 8 = true ∧ L 9 = true
  d11 : L 11 = true → L 10 = true
  p1 : L 1 = true → L 3 = false → ∃ x : Gr, f 43 = x.val ∧ Gx wr.heap.size w x bl1
  p3 : L 3 = true → L 5 = false → ∃ x : Gr, f 45 = x.val ∧ Dy wr.heap.size w x g bl1
  p5 : L 5 = true → L 7 = false → ∃ (x y : Gr) (u : World), f 45 = x.val ∧ f 47 = y.val ∧ Below wr.heap.size wr u ∧ Dy wr.heap.size u x g bl1 ∧ Below u.heap.size u w ∧ Gx u.heap.size w y bl2
  p7 : L 7 = true → ∃ x y : Gr, f 45 = x.val ∧ f 49 = y.val ∧ Dy wr.heap.size w x g bl1 ∧ Dy wr.heap.size w y g bl2
  b8 : L 8 = true → ∃ b, f 7 = bptr b ∧ wr.heap.size ≤ b ∧ (L 9 = true → f 8 ≠ f 7) ∧ ∃ vs : Array Value, Blk w b vs 25 ∧ vs.size = 2 ∧ (L 10 = true → Value.agg vs = f 45)
  b9 : L 9 = true → ∃ b, f 8 = bptr b ∧ wr.heap.size ≤ b ∧ ∃ vs : Array Value, Blk w b vs 25 ∧ vs.size = 2 ∧ (L 11 = true → Value.agg vs = f 49)
section
variable {wr w w' : World} {g : Gr} {v1 v2 : Value} {bl1 bl2 : List (List Nd)} {L : Nat → Bool} {f : Nat → Value}
theorem IS.start (hb : Below wr.heap.size wr w) (hL : ∀ i, L i = false) : IS wr g v1 v2 bl1 bl2 L f w := by
  refine ⟨hb, ?_, ?_, ?_, ?_, ?_, ?_, ?_, ?_, ?_, ?_, ?_, ?_, ?_, ?_⟩ <;> (intro e; rw [hL] at e; cases e)
theorem IS.grow (h : IS wr g v1 v2 bl1 bl2 L f w) (hb : Below w.heap.size w w') : IS wr g v1 v2 bl1 bl2 L f w' :=
  ⟨bb h.low hb, h.s0, h.s2, h.s4, h.s6, h.d5, h.d7, h.d10, h.d11,
    fun a b => by obtain ⟨x, e, k⟩ := h.p1 a b; exact ⟨x, e, k.below hb⟩,
    fun a b => by obtain ⟨x, e, k⟩ := h.p3 a b; exact ⟨x, e, k.below hb⟩,
    fun a b => by obtain ⟨x, y, u, e1, e2, k1, k2, k3, k4⟩ := h.p5 a b; exact ⟨x, y, u, e1, e2, k1, k2, bb k3 hb, k4.below hb⟩,
    fun a => by obtain ⟨x, y, e1, e2, k1, k2⟩ := h.p7 a; exact ⟨x, y, e1, e2, k1.below hb, k2.below hb⟩,
    fun a => by obtain ⟨b, e1, e2, e3, vs, k1, k2⟩ := h.b8 a; exact ⟨b, e1, e2, e3, vs, k1.below' hb, k2⟩,
    fun a => by obtain ⟨b, e1, e2, vs, k1, k2⟩ := h.b9 a; exact ⟨b, e1, e2, vs, k1.below' hb, k2⟩⟩
set_option maxHeartbeats 1000000 in
theorem IS.up0 (h : IS wr g v1 v2 bl1 bl2 L f w) : IS wr g v1 v2 bl1 bl2 (upped L 0) (setF f 42 v1) w := by
  exact {
    low := by simpa [upped, setF] using h.low
    s0 := fun _ => by simp [setF]
    s2 := by simpa [upped, setF] using h.s2
    s4 := by simpa [upped, setF] using h.s4
    s6 := by simpa [upped, setF] using h.s6
    d5 := by simpa [upped, setF] using h.d5
    d7 := by simpa [upped, setF] using h.d7
    d10 := by simpa [upped, setF] using h.d10
    d11 := by simpa [upped, setF] using h.d11
    p1 := by simpa [upped, setF] using h.p1
    p3 := by simpa [upped, setF] using h.p3
    p5 := by simpa [upped, setF] using h.p5
    p7 := by simpa [upped, setF] using h.p7
    b8 := by simpa [upped, setF] using h.b8
    b9 := by simpa [upped, setF] using h.b9 }
set_option maxHeartbeats 1000000 in
theorem IS.up2 (h : IS wr g v1 v2 bl1 bl2 L f w) : IS wr g v1 v2 bl1 bl2 (upped L 2) (setF f 44 g.val) w := by
  exact {
    low := by simpa [upped, setF] using h.low
    s0 := by simpa [upped, setF] using h.s0
    s2 := fun _ => by simp [setF]
    s4 := by simpa [upped, setF] using h.s4
    s6 := by simpa [upped, setF] using h.s6
    d5 := by simpa [upped, setF] using h.d5
    d7 := by simpa [upped, setF] using h.d7
    d10 := by simpa [upped, setF] using h.d10
    d11 := by simpa [upped, setF] using h.d11
    p1 := by simpa [upped, setF] using h.p1
    p3 := by simpa [upped, setF] using h.p3
    p5 := by simpa [upped, setF] using h.p5
    p7 := by simpa [upped, setF] using h.p7
    b8 := by simpa [upped, setF] using h.b8
    b9 := by simpa [upped, setF] using h.b9 }
set_option maxHeartbeats 1000000 in
theorem IS.up4 (h : IS wr g v1 v2 bl1 bl2 L f w) : IS wr g v1 v2 bl1 bl2 (upped L 4) (setF f 46 v2) w := by
  exact {
    low := by simpa [upped, setF] using h.low
    s0 := by simpa [upped, setF] using h.s0
    s2 := by simpa [upped, setF] using h.s2
    s4 := fun _ => by simp [setF]
    s6 := by simpa [upped, setF] using h.s6
    d5 := by simpa [upped, setF] using h.d5
    d7 := by simpa [upped, setF] using h.d7
    d10 := by simpa [upped, setF] using h.d10
    d11 := by simpa [upped, setF] using h.d11
    p1 := by simpa [upped, setF] using h.p1
    p3 := by simpa [upped, setF] using h.p3
    p5 := by simpa [upped, setF] using h.p5
    p7 := by simpa [upped, setF] using h.p7
    b8 := by simpa [upped, setF] using h.b8
    b9 := by simpa [upped, setF] using h.b9 }
set_option maxHeartbeats 1000000 in
theorem IS.up6 (h : IS wr g v1 v2 bl1 bl2 L f w) : IS wr g v1 v2 bl1 bl2 (upped L 6) (setF f 48 g.val) w := by
  exact {
    low := by simpa [upped, setF] using h.low
    s0 := by simpa [upped, setF] using h.s0
    s2 := by simpa [upped, setF] using h.s2
    s4 := by simpa [upped, setF] using h.s4
    s6 := fun _ => by simp [setF]
    d5 := by simpa [upped, setF] using h.d5
    d7 := by simpa [upped, setF] using h.d7
    d10 := by simpa [upped, setF] using h.d10
    d11 := by simpa [upped, setF] using h.d11
    p1 := by simpa [upped, setF] using h.p1
    p3 := by simpa [upped, setF] using h.p3
    p5 := by simpa [upped, setF] using h.p5
    p7 := by simpa [upped, setF] using h.p7
    b8 := by simpa [upped, setF] using h.b8
    b9 := by simpa [upped, setF] using h.b9 }
set_option maxHeartbeats 1000000 in
theorem IS.up1 (h : IS wr g v1 v2 bl1 bl2 L f w) (hb : Below w.heap.size w w') {x : Gr} (hx : Gx wr.heap.size w' x bl1) : IS wr g v1 v2 bl1 bl2 (upped L 1) (setF f 43 x.val) w' := by
  have h := h.grow hb
  exact {
    low := by simpa [upped, setF] using h.low
    s0 := by simpa [upped, setF] using h.s0
    s2 := by simpa [upped, setF] using h.s2
    s4 := by simpa [upped, setF] using h.s4
    s6 := by simpa [upped, setF] using h.s6
    d5 := by simpa [upped, setF] using h.d5
    d7 := by simpa [upped, setF] using h.d7
    d10 := by simpa [upped, setF] using h.d10
    d11 := by simpa [upped, setF] using h.d11
    p1 := fun _ _ => ⟨x, by simp [setF], hx⟩
    p3 := by simpa [upped, setF] using h.p3
    p5 := by simpa [upped, setF] using h.p5
    p7 := by simpa [upped, setF] using h.p7
    b8 := by simpa [upped, setF] using h.b8
    b9 := by simpa [upped, setF] using h.b9 }
set_option maxHeartbeats 1000000 in
theorem IS.up3 (h : IS wr g v1 v2 bl1 bl2 L f w) (h3 : L 3 = false) (hb : Below wr.heap.size w w') (hk : ∀ (b : Nat) (vs : Array Value), Blk w b vs 25 → Blk w' b vs 25) {x : Gr} (hx : Dy wr.heap.size w' x g bl1) : IS wr g v1 v2 bl1 bl2 (upped L 3) (setF f 45 x.val) w' := by
  have h5 : L 5 = false := by cases e : L 5 with | false => rfl | true => rw [h.d5 e] at h3; cases h3
  have h7 : L 7 = false := by cases e : L 7 with | false => rfl | true => rw [h.d7 e] at h5; cases h5
  have hA : L 10 = false := by cases e : L 10 with | false => rfl | true => rw [(h.d10 e).1] at h7; cases h7
  have hC : L 11 = false := by cases e : L 11 with | false => rfl | true => rw [h.d11 e] at hA; cases hA
  exact {
    low := h.low.trans hb
    s0 := by simpa [upped, setF] using h.s0
    s2 := by simpa [upped, setF] using h.s2
    s4 := by simpa [upped, setF] using h.s4
    s6 := by simpa [upped, setF] using h.s6
    d5 := fun _ => by simp [upped]
    d7 := by simpa [upped, setF] using h.d7
    d10 := by simpa [upped, setF] using h.d10
    d11 := by simpa [upped, setF] using h.d11
    p1 := fun _ e => by simp [upped] at e
    p3 := fun _ _ => ⟨x, by simp [setF], hx⟩
    p5 := fun e _ => by simp [upped, h5] at e
    p7 := fun e => by simp [upped, h7] at e
    b8 := fun e => by obtain ⟨b, e1, e2, e3, vs, k1, k2, k3⟩ := h.b8 (by simpa [upped] using e); exact ⟨b, by simpa [setF] using e1, e2, by simpa [upped, setF] using e3, vs, hk b vs k1, k2, fun e => by simp [upped, hA] at e⟩
    b9 := fun e => by obtain ⟨b, e1, e2, vs, k1, k2, k3⟩ := h.b9 (by simpa [upped] using e); exact ⟨b, by simpa [setF] using e1, e2, vs, hk b vs k1, k2, fun e => by simp [upped, hC] at e⟩ }
set_option maxHeartbeats 1000000 in
theorem IS.up5 (h : IS wr g v1 v2 bl1 bl2 L f w) (h3 : L 3 = true) (h5 : L 5 = false) (hb : Below w.heap.size w w') {y : Gr} (hy : Gx w.heap.size w' y bl2) : IS wr g v1 v2 bl1 bl2 (upped L 5) (setF f 47 y.val) w' := by
  obtain ⟨x, ex, kx⟩ := h.p3 h3 h5
  have h7 : L 7 = false := by cases e : L 7 with | false => rfl | true => rw [h.d7 e] at h5; cases h5
  have hl := h.low
  have h := h.grow hb
  exact {
    low := by simpa [upped, setF] using h.low
    s0 := by simpa [upped, setF] using h.s0
    s2 := by simpa [upped, setF] using h.s2
    s4 := by simpa [upped, setF] using h.s4
    s6 := by simpa [upped, setF] using h.s6
    d5 := fun _ => by simp [upped, h3]
    d7 := fun _ => by simp [upped]
    d10 := by simpa [upped, setF] using h.d10
    d11 := by simpa [upped, setF] using h.d11
    p1 := by simpa [upped, setF] using h.p1
    p3 := fun _ e => by simp [upped] at e
    p5 := fun _ _ => ⟨x, y, w, by simpa [setF] using ex, by simp [setF], hl, kx, hb, hy⟩
    p7 := fun e => by simp [upped, h7] at e
    b8 := by simpa [upped, setF] using h.b8
    b9 := by simpa [upped, setF] using h.b9 }
set_option maxHeartbeats 1000000 in
theorem IS.up7 (h : IS wr g v1 v2 bl1 bl2 L f w) (h5 : L 5 = true) (h7 : L 7 = false) (hb : Below wr.heap.size w w') (hk : ∀ (b : Nat) (vs : Array Value), Blk w b vs 25 → Blk w' b vs 25) {x y : Gr} (ex : f 45 = x.val) (hx : Dy wr.heap.size w' x g bl1) (hy : Dy wr.heap.size w' y g bl2) : IS wr g v1 v2 bl1 bl2 (upped L 7) (setF f 49 y.val) w' := by
  have h3 := h.d5 h5
  have hA : L 10 = false := by cases e : L 10 with | false => rfl | true => rw [(h.d10 e).1] at h7; cases h7
  have hC : L 11 = false := by cases e : L 11 with | false => rfl | true => rw [h.d11 e] at hA; cases hA
  exact {
    low := h.low.trans hb
    s0 := by simpa [upped, setF] using h.s0
    s2 := by simpa [upped, setF] using h.s2
    s4 := by simpa [upped, setF] using h.s4
    s6 := by simpa [upped, setF] using h.s6
    d5 := by simpa [upped, setF] using h.d5
    d7 := fun _ => by simp [upped, h5]
    d10 := fun e => by simp [upped, hA] at e
    d11 := by simpa [upped, setF] using h.d11
    p1 := fun _ e => by simp [upped, h3] at e
    p3 := fun _ e => by simp [upped, h5] at e
    p5 := fun _ e => by simp [upped] at e
    p7 := fun _ => ⟨x, y, by simpa [setF] using ex, by simp [setF], hx, hy⟩
    b8 := fun e => by obtain ⟨b, e1, e2, e3, vs, k1, k2, k3⟩ := h.b8 (by simpa [upped] using e); exact ⟨b, by simpa [setF] using e1, e2, by simpa [upped, setF] using e3, vs, hk b vs k1, k2, fun e => by simp [upped, hA] at e⟩
    b9 := fun e => by obtain ⟨b, e1, e2, vs, k1, k2, k3⟩ := h.b9 (by simpa [upped] using e); exact ⟨b, by simpa [setF] using e1, e2, vs, hk b vs k1, k2, fun e => by simp [upped, hC] at e⟩ }
set_option maxHeartbeats 1000000 in
theorem IS.up8 (h : IS wr g v1 v2 bl1 bl2 L f w) (h8 : L 8 = false) : IS wr g v1 v2 bl1 bl2 (upped L 8) (setF f 7 (bptr w.heap.size)) (w.alloc (.cells #[.slice none 0 0, .slice none 0 0] 25)) := by
  have hA : L 10 = false := by cases e : L 10 with | false => rfl | true => rw [(h.d10 e).2.1] at h8; cases h8
  have hn : ∀ b, f 8 = bptr b → L 9 = true → b < w.heap.size := fun b e e9 => by obtain ⟨b', e1, _, vs, k1, _⟩ := h.b9 e9; rw [bptr_inj (e.symm.trans e1)]; exact k1.lt
  have hl := h.low.size
  have h9 := h.b9
  have h := h.grow (B1 w (.cells #[.slice none 0 0, .slice none 0 0] 25))
  exact {
    low := by simpa [upped, setF] using h.low
    s0 := by simpa [upped, setF] using h.s0
    s2 := by simpa [upped, setF] using h.s2
    s4 := by simpa [upped, setF] using h.s4
    s6 := by simpa [upped, setF] using h.s6
    d5 := by simpa [upped, setF] using h.d5
    d7 := by simpa [upped, setF] using h.d7
    d10 := fun e => by simp [upped, hA] at e
    d11 := by simpa [upped, setF] using h.d11
    p1 := by simpa [upped, setF] using h.p1
    p3 := by simpa [upped, setF] using h.p3
    p5 := by simpa [upped, setF] using h.p5
    p7 := by simpa [upped, setF] using h.p7
    b8 := fun _ => ⟨w.heap.size, by simp [setF], hl, fun e9 e => by
      have e9 : L 9 = true := by simpa [upped] using e9
      have e : f 8 = bptr w.heap.size := by simpa [setF] using e
      have := hn _ e e9
      omega, #[.slice none 0 0, .slice none 0 0], Blk.new _ _ _, rfl, fun e => by simp [upped, hA] at e⟩
    b9 := by simpa [upped, setF] using h.b9 }
set_option maxHeartbeats 1000000 in
theorem IS.up9 (h : IS wr g v1 v2 bl1 bl2 L f w) (h9 : L 9 = false) : IS wr g v1 v2 bl1 bl2 (upped L 9) (setF f 8 (bptr w.heap.size)) (w.alloc (.cells #[.slice none 0 0, .slice none 0 0] 25)) := by
  have hA : L 10 = false := by cases e : L 10 with | false => rfl | true => rw [(h.d10 e).2.2] at h9; cases h9
  have hC : L 11 = false := by cases e : L 11 with | false => rfl | true => rw [h.d11 e] at hA; cases hA
  have hl := h.low.size
  have h8 := h.b8
  have h := h.grow (B1 w (.cells #[.slice none 0 0, .slice none 0 0] 25))
  exact {
    low := by simpa [upped, setF] using h.low
    s0 := by simpa [upped, setF] using h.s0
    s2 := by simpa [upped, setF] using h.s2
    s4 := by simpa [upped, setF] using h.s4
    s6 := by simpa [upped, setF] using h.s6
    d5 := by simpa [upped, setF] using h.d5
    d7 := by simpa [upped, setF] using h.d7
    d10 := fun e => by simp [upped, hA] at e
    d11 := by simpa [upped, setF] using h.d11
    p1 := by simpa [upped, setF] using h.p1
    p3 := by simpa [upped, setF] using h.p3
    p5 := by simpa [upped, setF] using h.p5
    p7 := by simpa [upped, setF] using h.p7
    b8 := fun e => by
      have e : L 8 = true := by simpa [upped] using e
      obtain ⟨b, e1, e2, e3, vs, k1, k2, k3⟩ := h8 e
      refine ⟨b, by simpa [setF] using e1, e2, fun _ e' => ?_, vs, k1.alloc _, k2, fun e => by simp [upped, hA] at e⟩
      have e' : bptr w.heap.size = f 7 := by simpa [setF] using e'
      rw [e1] at e'
      have := bptr_inj e'
      have := k1.lt
      omega
    b9 := fun _ => ⟨w.heap.size, by simp [setF], hl, #[.slice none 0 0, .slice none 0 0], Blk.new _ _ _, rfl, fun e => by simp [upped, hC] at e⟩ }
set_option maxHeartbeats 1000000 in
theorem IS.up10 (h : IS wr g v1 v2 bl1 bl2 L f w) (h7 : L 7 = true) (h8 : L 8 = true) (h9 : L 9 = true) (hA : L 10 = false) {b : Nat} (eb : f 7 = bptr b) (hlo : wr.heap.size ≤ b) {vs ns : Array Value} (ho : Blk w b vs 25) (hs : ns.size = 2) (en : Value.agg ns = f 45) (hn : Blk w' b ns 25) (hg : w.grownBy w' (some b)) : IS wr g v1 v2 bl1 bl2 (upped L 10) f w' := by
  have h5 := h.d7 h7
  have h3 := h.d5 h5
  have hC : L 11 = false := by cases e : L 11 with | false => rfl | true => rw [h.d11 e] at hA; cases hA
  exact {
    low := grown_below h.low h.low.size hg (fun k e => by cases e; exact hlo)
    s0 := by simpa [upped, setF] using h.s0
    s2 := by simpa [upped, setF] using h.s2
    s4 := by simpa [upped, setF] using h.s4
    s6 := by simpa [upped, setF] using h.s6
    d5 := by simpa [upped, setF] using h.d5
    d7 := by simpa [upped, setF] using h.d7
    d10 := fun _ => by simp [upped, h7, h8, h9]
    d11 := fun e => by simp [upped]
    p1 := fun _ e => by simp [upped, h3] at e
    p3 := fun _ e => by simp [upped, h5] at e
    p5 := fun _ e => by simp [upped, h7] at e
    p7 := fun _ => by obtain ⟨x, y, e1, e2, k1, k2⟩ := h.p7 h7; exact ⟨x, y, e1, e2, k1.off ho hg, k2.off ho hg⟩
    b8 := fun _ => by obtain ⟨b0, e1, e2, e3, _⟩ := h.b8 h8; exact ⟨b, eb, hlo, fun _ => e3 h9, ns, hn, hs, fun _ => en⟩
    b9 := fun _ => by
      obtain ⟨b0, e1, e2, e3, _⟩ := h.b8 h8
      obtain ⟨b9, q1, q2, vs, k1, k2, k3⟩ := h.b9 h9
      exact ⟨b9, q1, q2, vs, k1.grown hg (fun e => e3 h9 (by rw [q1, eb, Option.some.inj e])), k2, fun e => by simp [upped, hC] at e⟩ }
set_option maxHeartbeats 1000000 in
theorem IS.up11 (h : IS wr g v1 v2 bl1 bl2 L f w) (h7 : L 7 = true) (h8 : L 8 = true) (h9 : L 9 = true) (hA : L 10 = true) {b : Nat} (eb : f 8 = bptr b) (hlo : wr.heap.size ≤ b) {vs ns : Array Value} (ho : Blk w b vs 25) (hs : ns.size = 2) (en : Value.agg ns = f 49) (hn : Blk w' b ns 25) (hg : w.grownBy w' (some b)) : IS wr g v1 v2 bl1 bl2 (upped L 11) f w' := by
  have h5 := h.d7 h7
  have h3 := h.d5 h5
  exact {
    low := grown_below h.low h.low.size hg (fun k e => by cases e; exact hlo)
    s0 := by simpa [upped, setF] using h.s0
    s2 := by simpa [upped, setF] using h.s2
    s4 := by simpa [upped, setF] using h.s4
    s6 := by simpa [upped, setF] using h.s6
    d5 := by simpa [upped, setF] using h.d5
    d7 := by simpa [upped, setF] using h.d7
    d10 := by simpa [upped, setF] using h.d10
    d11 := fun _ => by simp [upped, hA]
    p1 := fun _ e => by simp [upped, h3] at e
    p3 := fun _ e => by simp [upped, h5] at e
    p5 := fun _ e => by simp [upped, h7] at e
    p7 := fun _ => by obtain ⟨x, y, e1, e2, k1, k2⟩ := h.p7 h7; exact ⟨x, y, e1, e2, k1.off ho hg, k2.off ho hg⟩
    b8 := fun _ => by
      obtain ⟨b0, e1, e2, e3, vs0, k1, k2, k3⟩ := h.b8 h8
      exact ⟨b0, e1, e2, fun _ => e3 h9, vs0, k1.grown hg (fun e => e3 h9 (by rw [eb, e1, Option.some.inj e])), k2, fun _ => k3 hA⟩
    b9 := fun _ => ⟨b, eb, hlo, ns, hn, hs, fun _ => en⟩ }
end
section
variable {a : Act} {w : World} {o : Oper}
variable {wr : World} {g : Gr} {v1 v2 : Value} {bl1 bl2 : List (List Nd)} {L : Nat → Bool}
theorem sn0 (h : IS wr g v1 v2 bl1 bl2 L (slots a) w) {x : Operand} (ho : o.op = .move x) (hd : o.dst = some 42) (hx : a.eval x = v1) : Gives Try.prog (fun v w' => IS wr g v1 v2 bl1 bl2 (upped L 0) (slotted (slots a) o v) w') ((execOp a.eval o).run Try.prog w) :=
  q_move ho (by rw [slotted_some hd, hx]; exact h.up0)
theorem sn4 (h : IS wr g v1 v2 bl1 bl2 L (slots a) w) {x : Operand} (ho : o.op = .move x) (hd : o.dst = some 46) (hx : a.eval x = v2) : Gives Try.prog (fun v w' => IS wr g v1 v2 bl1 bl2 (upped L 4) (slotted (slots a) o v) w') ((execOp a.eval o).run Try.prog w) :=
  q_move ho (by rw [slotted_some hd, hx]; exact h.up4)
theorem sn2 (h : IS wr g v1 v2 bl1 bl2 L (slots a) w) {x : Operand} {q : Nat} (ho : o.op = .load 25 x) (hd : o.dst = some 44) (hx : a.eval x = bptr q) (hk : Blk wr q #[.slice g.RA g.rules.length g.rc, .slice g.NA g.nodes.length g.nc] 25) : Gives Try.prog (fun v w' => IS wr g v1 v2 bl1 bl2 (upped L 2) (slotted (slots a) o v) w') ((execOp a.eval o).run Try.prog w) := by
  have k := hk.below' h.low
  have k0 := k.cell 0
  have k1 := k.cell 1
  simp only [List.getElem?_toArray, List.getElem?_cons_zero, List.getElem?_cons_succ] at k0 k1
  exact q_load2 ho hx k0 k1 (by rw [slotted_some hd]; exact h.up2)
theorem sn6 (h : IS wr g v1 v2 bl1 bl2 L (slots a) w) {x : Operand} {q : Nat} (ho : o.op = .load 25 x) (hd : o.dst = some 48) (hx : a.eval x = bptr q) (hk : Blk wr q #[.slice g.RA g.rules.length g.rc, .slice g.NA g.nodes.length g.nc] 25) : Gives Try.prog (fun v w' => IS wr g v1 v2 bl1 bl2 (upped L 6) (slotted (slots a) o v) w') ((execOp a.eval o).run Try.prog w) := by
  have k := hk.below' h.low
  have k0 := k.cell 0
  have k1 := k.cell 1
  simp only [List.getElem?_toArray, List.getElem?_cons_zero, List.getElem?_cons_succ] at k0 k1
  exact q_load2 ho hx k0 k1 (by rw [slotted_some hd]; exact h.up6)
theorem enterNamed11 : ∀ args w, (callFunc 12 args).run Try.prog w = .ok (.enter 12 args) w := fun _ _ => by kernel_rfl
theorem sn1 {A : Option Addr} {c : Nat} {hs : List Bdy} {K : Int} (h : IS wr g v1 v2 (hs.map fun b => b.2.2.map Nd.kz) bl2 L (slots a) w) {ts : Array TypeId} (ho : o.op = .call { callee := .value (.func 13), args := #[.tmp 42], argTypes := ts }) (hd : o.dst = some 43) (h0 : L 0 = true)
    (e1 : v1 = .slice A hs.length c) (hB : ∀ W, Below wr.heap.size wr W → Bds W A hs K) (hl : hs.length ≤ 60) (hK : 0 ≤ K ∧ K ≤ 100000000) : Gives Try.prog (fun v w' => IS wr g v1 v2 (hs.map fun b => b.2.2.map Nd.kz) bl2 (upped L 1) (slotted (slots a) o v) w') ((execOp a.eval o).run Try.prog w) := by
  refine q_call (args := #[.slice A hs.length c]) ho enterGram (by simp only [List.map_toArray, List.map_cons, List.map_nil]; rw [← e1, ← h.s0 h0]; rfl) ?_
  refine (gx_gram A hs c hs.length rfl K w (hB w h.low) hl hK).mono ?_
  rintro e w' ⟨⟨x, rfl, hx⟩, hb⟩
  exact ⟨_, rfl, by rw [slotted_some hd]; exact h.up1 hb (hx.lower h.low.size)⟩
theorem sn5 {A : Option Addr} {c : Nat} {hs : List Bdy} {K : Int} (h : IS wr g v1 v2 bl1 (hs.map fun b => b.2.2.map Nd.kz) L (slots a) w) {ts : Array TypeId} (ho : o.op = .call { callee := .value (.func 13), args := #[.tmp 46], argTypes := ts }) (hd : o.dst = some 47) (h4 : L 4 = true) (h3 : L 3 = true) (h5 : L 5 = false)
    (e1 : v2 = .slice A hs.length c) (hB : ∀ W, Below wr.heap.size wr W → Bds W A hs K) (hl : hs.length ≤ 60) (hK : 0 ≤ K ∧ K ≤ 100000000) : Gives Try.prog (fun v w' => IS wr g v1 v2 bl1 (hs.map fun b => b.2.2.map Nd.kz) (upped L 5) (slotted (slots a) o v) w') ((execOp a.eval o).run Try.prog w) := by
  refine q_call (args := #[.slice A hs.length c]) ho enterGram (by simp only [List.map_toArray, List.map_cons, List.map_nil]; rw [← e1, ← h.s4 h4]; rfl) ?_
  refine (gx_gram A hs c hs.length rfl K w (hB w h.low) hl hK).mono ?_
  rintro e w' ⟨⟨x, rfl, hx⟩, hb⟩
  exact ⟨_, rfl, by rw [slotted_some hd]; exact h.up5 h3 h5 hb hx⟩
theorem sn3 (h : IS wr g v1 v2 bl1 bl2 L (slots a) w) {ts : Array TypeId} (ho : o.op = .call { callee := .value (.func 12), args := #[.tmp 43, .tmp 44], argTypes := ts }) (hd : o.dst = some 45) (h1 : L 1 = true) (h2 : L 2 = true) (h3 : L 3 = false)
    (hl : g.rules.length ≤ 32) (hbl : bl1.length = g.rules.length) (hg : ∀ W, Below wr.heap.size wr W → Gr.At W g) (hk : ∀ b ∈ bl1, ∀ y ∈ b, 1 ≤ y.kind ∧ y.kind ≤ 12) : Gives Try.prog (fun v w' => IS wr g v1 v2 bl1 bl2 (upped L 3) (slotted (slots a) o v) w') ((execOp a.eval o).run Try.prog w) := by
  obtain ⟨x, ex, hx⟩ := h.p1 h1 h3
  refine q_call (args := #[x.val, g.val]) ho enterNamed11 (by simp only [List.map_toArray, List.map_cons, List.map_nil]; rw [← ex, ← h.s2 h2]; rfl) ?_
  refine (dy_named11 hx h.low.size hl hbl (fun W hb => hg W (h.low.trans hb)) hk).mono ?_
  rintro e w' ⟨⟨y, rfl, hy⟩, hb, hs⟩
  exact ⟨_, rfl, by rw [slotted_some hd]; exact h.up3 h3 hb (keep_row hx hs) hy⟩
theorem sn7 (h : IS wr g v1 v2 bl1 bl2 L (slots a) w) {ts : Array TypeId} (ho : o.op = .call { callee := .value (.func 12), args := #[.tmp 47, .tmp 48], argTypes := ts }) (hd : o.dst = some 49) (h5 : L 5 = true) (h6 : L 6 = true) (h7 : L 7 = false)
    (hl : g.rules.length ≤ 32) (hbl : bl2.length = g.rules.length) (hg : ∀ W, Below wr.heap.size wr W → Gr.At W g) (hk : ∀ b ∈ bl2, ∀ y ∈ b, 1 ≤ y.kind ∧ y.kind ≤ 12) : Gives Try.prog (fun v w' => IS wr g v1 v2 bl1 bl2 (upped L 7) (slotted (slots a) o v) w') ((execOp a.eval o).run Try.prog w) := by
  obtain ⟨x, y, u, ex, ey, hu, hx, huw, hy⟩ := h.p5 h5 h7
  refine q_call (args := #[y.val, g.val]) ho enterNamed11 (by simp only [List.map_toArray, List.map_cons, List.map_nil]; rw [← ey, ← h.s6 h6]; rfl) ?_
  refine (dy_named11 hy huw.size hl hbl (fun W hb => hg W (h.low.trans (hb.mono hu.size))) hk).mono ?_
  rintro e w' ⟨⟨z, rfl, hz⟩, hb, hs⟩
  exact ⟨_, rfl, by rw [slotted_some hd]; exact h.up7 h5 h7 (hb.mono hu.size) (keep_row hy hs) ex (hx.below (huw.trans hb)) (hz.lower hu.size)⟩
theorem sn8 (h : IS wr g v1 v2 bl1 bl2 L (slots a) w) (ho : o.op = .alloc 25) (hd : o.dst = some 7) (h8 : L 8 = false) : Gives Try.prog (fun v w' => IS wr g v1 v2 bl1 bl2 (upped L 8) (slotted (slots a) o v) w') ((execOp a.eval o).run Try.prog w) :=
  q_alloc ho (by rw [slotted_some hd]; exact h.up8 h8)
theorem sn9 (h : IS wr g v1 v2 bl1 bl2 L (slots a) w) (ho : o.op = .alloc 25) (hd : o.dst = some 8) (h9 : L 9 = false) : Gives Try.prog (fun v w' => IS wr g v1 v2 bl1 bl2 (upped L 9) (slotted (slots a) o v) w') ((execOp a.eval o).run Try.prog w) :=
  q_alloc ho (by rw [slotted_some hd]; exact h.up9 h9)
theorem sn10 (h : IS wr g v1 v2 bl1 bl2 L (slots a) w) (ho : o.op = .store 25 (.tmp 7) (.tmp 45)) (hd : o.dst = none) (h7 : L 7 = true) (h8 : L 8 = true) (h9 : L 9 = true) (hA : L 10 = false) : Gives Try.prog (fun v w' => IS wr g v1 v2 bl1 bl2 (upped L 10) (slotted (slots a) o v) w') ((execOp a.eval o).run Try.prog w) := by
  obtain ⟨b, eb, hlo, _, vs, k1, k2, _⟩ := h.b8 h8
  obtain ⟨x, y, ex, ey, hx, hy⟩ := h.p7 h7
  exact q_store (ns := #[.slice x.RA x.rules.length x.rc, .slice x.NA x.nodes.length x.nc]) ho eb ex k1 k2 rfl (by simp [Value.oneCell']) fun w' hn hg => by
    rw [slotted_none hd]
    exact h.up10 h7 h8 h9 hA eb hlo k1 rfl ex.symm hn hg
theorem sn11 (h : IS wr g v1 v2 bl1 bl2 L (slots a) w) (ho : o.op = .store 25 (.tmp 8) (.tmp 49)) (hd : o.dst = none) (h7 : L 7 = true) (h8 : L 8 = true) (h9 : L 9 = true) (hA : L 10 = true) : Gives Try.prog (fun v w' => IS wr g v1 v2 bl1 bl2 (upped L 11) (slotted (slots a) o v) w') ((execOp a.eval o).run Try.prog w) := by
  obtain ⟨b, eb, hlo, vs, k1, k2, _⟩ := h.b9 h9
  obtain ⟨x, y, ex, ey, hx, hy⟩ := h.p7 h7
  exact q_store (ns := #[.slice y.RA y.rules.length y.rc, .slice y.NA y.nodes.length y.nc]) ho eb ey k1 k2 rfl (by simp [Value.oneCell']) fun w' hn hg => by
    rw [slotted_none hd]
    exact h.up11 h7 h8 h9 hA eb hlo k1 rfl ey.symm hn hg
end
/-- What lies there at the end. -/
theorem IS.done {wr w : World} {g : Gr} {v1 v2 : Value} {bl1 bl2 : List (List Nd)} {L : Nat → Bool} {f : Nat → Value} (h : IS wr g v1 v2 bl1 bl2 L f w) (hL : ∀ i, i < 12 → L i = true) :
    ∃ (x y : Gr) (b c : Nat), f 7 = bptr b ∧ f 8 = bptr c ∧ Blk w b #[.slice x.RA x.rules.length x.rc, .slice x.NA x.nodes.length x.nc] 25 ∧ Blk w c #[.slice y.RA y.rules.length y.rc, .slice y.NA y.nodes.length y.nc] 25 ∧ Dx w x g bl1 ∧ Dx w y g bl2 ∧ Below wr.heap.size wr w := by
  obtain ⟨x, y, ex, ey, hx, hy⟩ := h.p7 (hL 7 (by decide))
  obtain ⟨b, eb, _, _, vs, k1, k2, k3⟩ := h.b8 (hL 8 (by decide))
  obtain ⟨c, ec, _, us, q1, q2, q3⟩ := h.b9 (hL 9 (by decide))
  have e1 := (k3 (hL 10 (by decide))).trans ex
  have e2 := (q3 (hL 11 (by decide))).trans ey
  cases e1
  cases e2
  exact ⟨x, y, b, c, eb, ec, k1, q1, hx.dx, hy.dx, h.low⟩
end Go.Proofs.Ytmlaepbmdfmgbaa

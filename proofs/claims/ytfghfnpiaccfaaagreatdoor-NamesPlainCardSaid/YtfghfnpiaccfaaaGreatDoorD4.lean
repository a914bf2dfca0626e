/- The map of each name's first rule; whether a tree is whole; what is named: the program's answers. -/
import Derived.Test.YtfghfnpiaccfaaaGreatDoorD3
import Derived.Test.YtfghfnpiaccfaaaGreatDoorGA
import Derived.Test.YtfghfnpiaccfaaaGreatDoorH1
set_option linter.unusedSimpArgs false
set_option linter.unusedVariables false
namespace Go.Proofs.YtfghfnpiaccfaaaGreatDoor.J
open Go Go.RowKit Go.Shelf Go.Maps
abbrev bkey (s : ByteArray) : Lit := .string s.data.toList
theorem bkey_inj {s t : ByteArray} : s.data.toList = t.data.toList ↔ s = t := by rw [← ByteArray.toList_eq, ← ByteArray.toList_eq]; exact tl_inj
/-- What the map tells: the first rule of each name, of the first k ones. -/
structure FD (D : DataW Unit) (l : List Rl) (k : Nat) : Prop where
  map : IsMap D
  has : ∀ s : ByteArray, Maps.has D (bkey s) = (fst l s k).isSome
  val : ∀ (s : ByteArray) (z : DataW Unit), D.atKey (bkey s) z = match fst l s k with | some i => kd i | none => z
theorem FD.nil (l : List Rl) : FD (.map []) l 0 := ⟨⟨[], rfl⟩, fun s => rfl, fun s z => by simp [fst, DataW.atKey]⟩
theorem FD.keep {D : DataW Unit} {l : List Rl} {k : Nat} (h : FD D l k) (hk : fst l (l.getD k Rl.zero).name k ≠ none) : FD D l (k + 1) := ⟨h.map, fun s => by rw [fst_keep hk]; exact h.has s, fun s z => by rw [fst_keep hk]; exact h.val s z⟩
theorem FD.put {D : DataW Unit} {l : List Rl} {k : Nat} (h : FD D l k) (hk : fst l (l.getD k Rl.zero).name k = none) : FD (D.put (bkey (l.getD k Rl.zero).name) (kd k)) l (k + 1) := by
  refine ⟨h.map.put _ _, fun s => ?_, fun s z => ?_⟩
  · rw [shas_put _ h.map, fst_put hk, h.has]
    by_cases e : s = (l.getD k Rl.zero).name
    · rw [if_pos (by rw [e]), if_pos e]; rfl
    · rw [if_neg (fun h => e (bkey_inj.1 h)), if_neg e]
  · rw [sat_put _ h.map, fst_put hk, h.val]
    by_cases e : s = (l.getD k Rl.zero).name
    · rw [if_pos (by rw [e]), if_pos e]
    · rw [if_neg (fun h => e (bkey_inj.1 h)), if_neg e]
abbrev Own (w : World) (mb n : Nat) (D : DataW Unit) : Prop := w.ownsMap Tryz.prog 9 (plainElem Tryz.prog 3) mb n D
theorem own_look {w : World} {mb n k : Nat} {D : DataW Unit} {l : List Rl} (h : Own w mb n D) (f : FD D l k) (s : ByteArray) (hs : s.size ≤ 9223372036854775807) :
    (Instr.lookup 112 (.map (some mb)) (.string s) true).run Tryz.prog w = .ok (.tuple #[.int .i64 ((fst l s k).getD 0 : Nat), .bool (fst l s k).isSome]) w := by
  obtain ⟨v, ps, hrun, hv⟩ := World.ownsMap.look_ok h (string_keyed Tryz.underlying9) Tryz.underlying112 (z := .int .i64 0) (by kernel_rfl) (zd := kd 0) (zp := []) (plainElem_int Tryz.underlying3 (by decide)) (WideMaps.keyOf_string_mk Tryz.underlying9 (s := s) (by unfold maxLen; omega))
  rw [f.val] at hv
  rw [f.has] at hrun
  obtain ⟨c, rfl, ec, _⟩ := plainElem_int_inv Tryz.underlying3 hv
  rw [hrun]
  have : c = ((fst l s k).getD 0 : Nat) := by
    cases hf : fst l s k with
    | none => rw [hf] at ec; simp only [kd, DataW.lit.injEq, Lit.int.injEq, true_and] at ec; exact (show c = _ ∧ _ from by simpa using ec.symm).1
    | some d => rw [hf] at ec; simp only [kd, DataW.lit.injEq, Lit.int.injEq, true_and] at ec; exact (show c = _ ∧ _ from by simpa using ec.symm).1
  rw [this]
theorem own_look1 {w : World} {mb n k : Nat} {D : DataW Unit} {l : List Rl} (h : Own w mb n D) (f : FD D l k) (s : ByteArray) (hs : s.size ≤ 9223372036854775807) :
    (Instr.lookup 112 (.map (some mb)) (.string s) false).run Tryz.prog w = .ok (.int .i64 ((fst l s k).getD 0 : Nat)) w := by
  obtain ⟨c, hrun, hat, _⟩ := World.ownsMap.lookup_int h (string_keyed Tryz.underlying9) Tryz.underlying112 Tryz.underlying3 (by kernel_rfl) (WideMaps.keyOf_string_mk Tryz.underlying9 (s := s) (by unfold maxLen; omega))
  rw [f.val] at hat
  rw [hrun]
  have : c = ((fst l s k).getD 0 : Nat) := by
    cases hf : fst l s k with
    | none => rw [hf] at hat; simp only [DataW.lit.injEq, Lit.int.injEq, true_and] at hat; exact hat.symm
    | some d => rw [hf] at hat; simp only [kd, DataW.lit.injEq, Lit.int.injEq, true_and] at hat; exact hat.symm
  rw [this]
theorem own_ins {w : World} {mb n k : Nat} {D : DataW Unit} {l : List Rl} (h : Own w mb n D) (f : FD D l k) (hk : fst l (l.getD k Rl.zero).name k = none) (hn : n < 9223372036854775807) (hk2 : k < 9223372036854775807) (hs : (l.getD k Rl.zero).name.size ≤ 9223372036854775807) :
    ∃ w' D', (Instr.mapUpdate 112 (.map (some mb)) (.string (l.getD k Rl.zero).name) (.int .i64 k)).run Tryz.prog w = .ok () w' ∧ Own w' mb (n + 1) D' ∧ FD D' l (k + 1) ∧ w.grownBy w' (some mb) := by
  obtain ⟨w', h1, h2, h3⟩ := h.update (string_keyed Tryz.underlying9) Tryz.underlying112 (by unfold maxLen; omega) (WideMaps.keyOf_string_mk Tryz.underlying9 (s := (l.getD k Rl.zero).name) (by unfold maxLen; omega)) (plainElem_int Tryz.underlying3 (a := (k : Int)) (WalkArith.wf_i64 (by omega)))
  exact ⟨w', _, h1, h2, f.put hk, h3⟩
theorem own_map_below {w w' : World} {mb n : Nat} {D : DataW Unit} (h : Own w mb n D) (hb : Below w.heap.size w w') : Own w' mb n D := by
  obtain ⟨es, clock, h1, F, h2, h3⟩ := h
  exact ⟨es, clock, (hb.block mb (Array.getElem?_eq_some_iff.1 h1).1).trans h1, F, h2, h3⟩
/-- The map of a tree's rules, in memory. -/
def FMap (w : World) (mb : Nat) (l : List Rl) : Prop := ∃ n D, Own w mb n D ∧ FD D l l.length
theorem FMap.below {w w' : World} {mb : Nat} {l : List Rl} (h : FMap w mb l) (hb : Below w.heap.size w w') : FMap w' mb l := by
  obtain ⟨n, D, h1, h2⟩ := h
  exact ⟨n, D, own_map_below h1 hb, h2⟩
theorem FMap.lt {w : World} {mb : Nat} {l : List Rl} (h : FMap w mb l) : mb < w.heap.size := by
  obtain ⟨n, D, ⟨es, clock, h1, _⟩, _⟩ := h
  exact (Array.getElem?_eq_some_iff.1 h1).1
abbrev treC (t : Tre) : Array Value := #[.slice t.g.RA t.g.rules.length t.g.rc, .slice t.g.NA t.g.nodes.length t.g.nc, .slice t.PA t.rp.length t.pc, .slice t.QA t.np.length t.qc, .slice t.MA t.nm.length t.mc]
abbrev namC (t : Tre) (mb : Nat) : Array Value := #[.slice t.g.RA t.g.rules.length t.g.rc, .slice t.g.NA t.g.nodes.length t.g.nc, .slice t.PA t.rp.length t.pc, .slice t.QA t.np.length t.qc, .slice t.MA t.nm.length t.mc, .map (some mb)]
abbrev namZ : Array Value := #[.slice none 0 0, .slice none 0 0, .slice none 0 0, .slice none 0 0, .slice none 0 0, .map none]
/-- Is a tree whole? -/
def wholeB (t : Tre) : Bool := decide (t.rp.length = t.g.rules.length ∧ t.np.length = t.g.nodes.length ∧ t.nm.length = t.g.nodes.length)
theorem whole_any (t : Tre) (w : World) : Calls Tryz.prog 118 #[t.val] w fun e w' => e = .returned (.bool (wholeB t)) ∧ Below w.heap.size w w' := by
  have EB : RowKit.Hid (wholeB t = decide (t.rp.length = t.g.rules.length ∧ t.np.length = t.g.nodes.length ∧ t.nm.length = t.g.nodes.length)) := Lib.hid rfl
  show Calls Tryz.prog 118 #[.agg #[.slice t.g.RA t.g.rules.length t.g.rc, .slice t.g.NA t.g.nodes.length t.g.nc, .slice t.PA t.rp.length t.pc, .slice t.QA t.np.length t.qc, .slice t.MA t.nm.length t.mc]] w _
  generalize wholeB t = v at EB ⊢
  generalize t.g.rules.length = a at EB ⊢
  generalize t.g.nodes.length = b at EB ⊢
  generalize t.rp.length = c at EB ⊢
  generalize t.np.length = d at EB ⊢
  generalize t.nm.length = f at EB ⊢
  by_cases h1 : c = a
  · have h1' : ((c : Int) == (a : Int)) = true := by simp; omega
    by_cases h2 : d = b
    · have h2' : ((d : Int) == (b : Int)) = true := by simp; omega
      obtain ⟨q, eq⟩ : ∃ q, q = ((f : Int) == (b : Int)) := ⟨_, rfl⟩
      have EV : RowKit.Hid (v = q) := Lib.hid (by rw [EB.out, eq]; simp only [h1, h2, true_and]; by_cases h : f = b <;> simp [h]; omega)
      go_enter Tryz.func118, Tryz.ntmps118
      rw [EV.out]
      have eq' := eq.symm
      clear eq
      go_wp2_with fail
      go_ret
      exact ⟨rfl, B1 _ _⟩
    · have h2' : ((d : Int) == (b : Int)) = false := by simp; omega
      have EV : RowKit.Hid (v = false) := Lib.hid (by rw [EB.out]; simp [h2])
      go_enter Tryz.func118, Tryz.ntmps118
      rw [EV.out]
      go_wp2_with fail
      go_ret
      exact ⟨rfl, B1 _ _⟩
  · have h1' : ((c : Int) == (a : Int)) = false := by simp; omega
    have EV : RowKit.Hid (v = false) := Lib.hid (by rw [EB.out]; simp [h1])
    go_enter Tryz.func118, Tryz.ntmps118
    rw [EV.out]
    go_wp2_with fail
    go_ret
    exact ⟨rfl, B1 _ _⟩
end Go.Proofs.YtfghfnpiaccfaaaGreatDoor.J
namespace Go.Proofs.YtfghfnpiaccfaaaGreatDoor.J
open Go Go.RowKit Go.Shelf Go.Maps
theorem nam_set {w W : World} {b : Nat} {T : TypeId} {a0 a1 a2 a3 a4 a5 : Value} (h : Blk W b #[a0, a1, a2, a3, a4, a5] T) (hw : Below w.heap.size w W) (hb : w.heap.size ≤ b) (x0 x1 x2 x3 x4 x5 : Value) (W' : World) (e : W' = (((((W.setCell ⟨b, 0, none⟩ x0).setCell ⟨b, 1, none⟩ x1).setCell ⟨b, 2, none⟩ x2).setCell ⟨b, 3, none⟩ x3).setCell ⟨b, 4, none⟩ x4).setCell ⟨b, 5, none⟩ x5) :
    Blk W' b #[x0, x1, x2, x3, x4, x5] T ∧ Below w.heap.size w W' ∧ ∀ k, k ≠ b → W'.heap[k]? = W.heap[k]? := by
  subst e
  have h0 : Blk (W.setCell ⟨b, 0, none⟩ x0) b #[x0, a1, a2, a3, a4, a5] T := heap_setCell_same W b 0 #[a0, a1, a2, a3, a4, a5] T x0 h
  have h1 : Blk ((W.setCell ⟨b, 0, none⟩ x0).setCell ⟨b, 1, none⟩ x1) b #[x0, x1, a2, a3, a4, a5] T := heap_setCell_same _ b 1 #[x0, a1, a2, a3, a4, a5] T x1 h0
  have h2 : Blk (((W.setCell ⟨b, 0, none⟩ x0).setCell ⟨b, 1, none⟩ x1).setCell ⟨b, 2, none⟩ x2) b #[x0, x1, x2, a3, a4, a5] T := heap_setCell_same _ b 2 #[x0, x1, a2, a3, a4, a5] T x2 h1
  have h3 : Blk ((((W.setCell ⟨b, 0, none⟩ x0).setCell ⟨b, 1, none⟩ x1).setCell ⟨b, 2, none⟩ x2).setCell ⟨b, 3, none⟩ x3) b #[x0, x1, x2, x3, a4, a5] T := heap_setCell_same _ b 3 #[x0, x1, x2, a3, a4, a5] T x3 h2
  have h4 : Blk (((((W.setCell ⟨b, 0, none⟩ x0).setCell ⟨b, 1, none⟩ x1).setCell ⟨b, 2, none⟩ x2).setCell ⟨b, 3, none⟩ x3).setCell ⟨b, 4, none⟩ x4) b #[x0, x1, x2, x3, x4, a5] T := heap_setCell_same _ b 4 #[x0, x1, x2, x3, a4, a5] T x4 h3
  have h5 := heap_setCell_same _ b 5 #[x0, x1, x2, x3, x4, a5] T x5 h4
  refine ⟨h5, (((((hw.setCell (p := ⟨b, 0, none⟩) hb _).setCell (p := ⟨b, 1, none⟩) hb _).setCell (p := ⟨b, 2, none⟩) hb _).setCell (p := ⟨b, 3, none⟩) hb _).setCell (p := ⟨b, 4, none⟩) hb _).setCell (p := ⟨b, 5, none⟩) hb _, fun k hk => ?_⟩
  exact (heap_setCell_other _ ⟨b, 5, none⟩ k _ hk).trans ((heap_setCell_other _ ⟨b, 4, none⟩ k _ hk).trans ((heap_setCell_other _ ⟨b, 3, none⟩ k _ hk).trans ((heap_setCell_other _ ⟨b, 2, none⟩ k _ hk).trans ((heap_setCell_other _ ⟨b, 1, none⟩ k _ hk).trans (heap_setCell_other _ ⟨b, 0, none⟩ k _ hk)))))
/-- What making a name's map tells. -/
def NamPost (t : Tre) (w : World) (e : Ending) (w' : World) : Prop :=
  Below w.heap.size w w' ∧ ((wholeB t = true ∧ ∃ mb, e = .returned (.tuple #[.agg (namC t mb), .bool true]) ∧ FMap w' mb t.g.rules) ∨ (wholeB t = false ∧ e = .returned (.tuple #[.agg namZ, .bool false])))
set_option maxRecDepth 100000 in
set_option maxHeartbeats 4000000 in
theorem namingOf_any (t : Tre) (w : World) (hR : Rules w t.g.RA t.g.rules) (hl : t.g.rules.length ≤ 140737488351232) (hns : ∀ r ∈ t.g.rules, r.name.size ≤ 9223372036854775807) : Calls Tryz.prog 66 #[t.val] w (NamPost t w) := by
  obtain ⟨W2, eW2⟩ : ∃ u, u = (w.alloc (.cells (treC t) 36)).alloc (.cells namZ 114) := ⟨_, rfl⟩
  have hb2 : Below w.heap.size w W2 := by rw [eW2]; exact B2 _ _ _
  have k1 : Blk W2 w.heap.size (treC t) 36 := by rw [eW2]; exact (Blk.new w _ _).alloc _
  have k2 : Blk W2 (w.heap.size + 1) namZ 114 := by
    rw [eW2]; have := Blk.new (w.alloc (.cells (treC t) 36)) namZ 114; rw [World.size_alloc] at this; exact this
  have WH := Lib.hid (whole_any t W2)
  have K1 := Lib.hid k1
  have K2 := Lib.hid k2
  have HB2 := Lib.hid hb2
  have HZ : RowKit.Hid (W2.heap.size = w.heap.size + 2) := Lib.hid (by rw [eW2]; simp)
  have HR := Lib.hid hR
  have HN := Lib.hid hns
  have done : ∀ (W : World) (tmps : Array Value) (cs : Array Value) (v : Bool), Blk W (w.heap.size + 1) cs 114 → cs.size = 6 → tmps.getD 2 undef = .pointer (some ⟨w.heap.size + 1, 0, none⟩) → tmps.getD 3 undef = .bool v → (results Tryz.f66 tmps).run Tryz.prog W = .ok (.tuple #[.agg cs, .bool v]) W := fun W tmps cs v h hs h4 h5 =>
    results_cell_tmp rfl _ _ (w.heap.size + 1) 114 cs _ _ h5 h4 h Tryz.underlying114 rfl (by rw [hs]; kernel_rfl)
  have DN := Lib.hid done
  clear hR hns k1 k2 hb2 done
  show Calls Tryz.prog 66 #[.agg #[.slice t.g.RA t.g.rules.length t.g.rc, .slice t.g.NA t.g.nodes.length t.g.nc, .slice t.PA t.rp.length t.pc, .slice t.QA t.np.length t.qc, .slice t.MA t.nm.length t.mc]] w _
  go_enter Tryz.func66, Tryz.ntmps66
  go_upto_region 1 with fail
  rw [← eW2]
  clear eW2
  have q0 := K1.out.cell 0
  have q1 := K1.out.cell 1
  have q2 := K1.out.cell 2
  have q3 := K1.out.cell 3
  have q4 := K1.out.cell 4
  simp only [List.getElem?_toArray, List.getElem?_cons_zero, List.getElem?_cons_succ] at q0 q1 q2 q3 q4
  cases hb : wholeB t with
  | false =>
    rw [hb] at WH
    have HF := Lib.hid hb
    clear hb
    go_upto_region 2 with (go_at_call 118; (with_reducible refine WH.out.mono ?_); rintro e w1 ⟨rfl, hb1⟩; have B1' := Lib.hid hb1; clear hb1)
    have K3 := Lib.hid (K2.out.below' B1'.out)
    have z0 := K3.out.cell 0; have z1 := K3.out.cell 1; have z2 := K3.out.cell 2; have z3 := K3.out.cell 3; have z4 := K3.out.cell 4; have z5 := K3.out.cell 5
    have g0 := K3.out.frozen 0; have g1 := K3.out.frozen 1; have g2 := K3.out.frozen 2; have g3 := K3.out.frozen 3; have g4 := K3.out.frozen 4; have g5 := K3.out.frozen 5
    simp only [List.getElem?_toArray, List.getElem?_cons_zero, List.getElem?_cons_succ] at z0 z1 z2 z3 z4 z5
    clear q0 q1 q2 q3 q4
    go_wp2_with fail
    obtain ⟨k, hk, _⟩ := nam_set K3.out (HB2.out.trans (B1'.out.mono HB2.out.size)) (by omega) (.slice none 0 0) (.slice none 0 0) (.slice none 0 0) (.slice none 0 0) (.slice none 0 0) (.map none) _ rfl
    exact ⟨rfl, _, DN.out _ _ _ _ k rfl rfl rfl, hk, .inr ⟨HF.out, rfl⟩⟩
  | true =>
    rw [hb] at WH
    have HT := Lib.hid hb
    clear hb
    have hmm := @run_makeMap Tryz.prog
    go_upto_region 3 with (go_at_call 118; (with_reducible refine WH.out.mono ?_); rintro e w1 ⟨rfl, hb1⟩; have B1' := Lib.hid hb1; clear hb1)
    have K3 := Lib.hid (K1.out.below' B1'.out)
    have K4 := Lib.hid (K2.out.below' B1'.out)
    have HB1 := Lib.hid (HB2.out.trans (B1'.out.mono HB2.out.size))
    have HZ1 : RowKit.Hid (w.heap.size + 2 ≤ w1.heap.size) := Lib.hid (by rw [← HZ.out]; exact B1'.out.size)
    have M0 : RowKit.Hid (Own (w1.alloc (.map #[] 0)) w1.heap.size 0 (.map [])) := Lib.hid (World.ownsMap_made w1 Tryz.prog 9 _)
    clear q0 q1 q2 q3 q4
    have q0 := fun o => ((B1 w1 o).cell (p := ⟨w.heap.size, 0, none⟩) K3.out.lt).trans (K3.out.cell 0)
    simp only [List.getElem?_toArray, List.getElem?_cons_zero, List.getElem?_cons_succ] at q0
    obtain ⟨m, em⟩ : ∃ m, m = t.g.rules.length := ⟨_, rfl⟩
    rw [← em] at hl q0
    have EM := Lib.hid em
    clear em
    go_wp2_with fail
    obtain ⟨mb, emb⟩ : ∃ u, u = w1.heap.size := ⟨_, rfl⟩
    rw [← emb] at M0 ⊢
    have EMB := Lib.hid emb
    clear q0 emb hmm
    go_loopw [18] (fun i wr => ∃ (k n : Nat) (D : DataW Unit), k ≤ m ∧ i = .int .i64 k ∧ Own wr mb n D ∧ n ≤ k ∧ FD D t.g.rules k ∧ Below w.heap.size w wr ∧ Blk wr w.heap.size (treC t) 36 ∧ Blk wr (w.heap.size + 1) namZ 114) (fun i _ => m - (intOf i).toNat)
    case atStart => exact ⟨0, 0, _, by omega, by go_num, M0.out, by omega, FD.nil _, HB1.out.trans ((B1 w1 _).mono HB1.out.size), K3.out.below' (B1 w1 _), K4.out.below' (B1 w1 _)⟩
    case round =>
      obtain ⟨k, n, D, hk, rfl, hO, hn, hF, hB, hK1, hK2⟩ := hrel
      by_cases hlt : k < m
      · have hlt2 : (k : Int) < m := by omega
        have hkl : k < t.g.rules.length := by have := EM.out; omega
        obtain ⟨b1, o1, eA, hb1, n1, n2⟩ := (HR.out.below hB).two hkl
        have hsz := HN.out (t.g.rules.getD k Rl.zero) (getD_mem hkl)
        have HO := Lib.hid hO
        have HF := Lib.hid hF
        have HB := Lib.hid hB
        have HK1 := Lib.hid hK1
        have HK2 := Lib.hid hK2
        have HNK := Lib.hid hn
        rw [eA]
        obtain ⟨W, eW⟩ : ∃ u, u = wr.alloc (.cells #[.string (t.g.rules.getD k Rl.zero).name, .int .i64 (t.g.rules.getD k Rl.zero).body] 50) := ⟨_, rfl⟩
        have hOW : Own W mb n D := by rw [eW]; exact own_map_below hO (B1 wr _)
        have hBW : Below wr.heap.size wr W := by rw [eW]; exact B1 wr _
        have lk := own_look hOW hF (t.g.rules.getD k Rl.zero).name hsz
        rw [eW] at lk
        have HBW := Lib.hid hBW
        have HOW := Lib.hid hOW
        have FK := Lib.hid (@FD.keep D t.g.rules k hF)
        have IN := Lib.hid (fun h => own_ins hOW hF h (by omega) (by omega) hsz)
        rw [eW] at IN
        have EW := Lib.hid eW
        clear hO hF hB hK1 hK2 hn hsz hOW hBW eA eW
        cases hf : fst t.g.rules (t.g.rules.getD k Rl.zero).name k with
        | none =>
          rw [hf] at lk
          obtain ⟨w', D', r1, r2, r3, r4⟩ := IN.out hf
          have R2 := Lib.hid r2
          have R3 := Lib.hid r3
          have R4 := Lib.hid r4
          clear r2 r3 r4 hf IN FK
          generalize (t.g.rules.getD k Rl.zero).name = s at lk n1 r1 EW R4
          generalize (t.g.rules.getD k Rl.zero).body = bd at lk n2 r1 EW R4
          go_wp2_with fail
          go_roundw
          case rel =>
            have hz := HZ1.out
            have em := EMB.out
            exact ⟨k + 1, n + 1, D', by omega, by go_num, R2.out, by have := HNK.out; omega, R3.out, below_map (HB.out.trans ((B1 wr _).mono HB.out.size)) R4.out (by omega), Blk.grown (HK1.out.alloc _) R4.out (fun e => by have := Option.some.inj e; omega), Blk.grown (HK2.out.alloc _) R4.out (fun e => by have := Option.some.inj e; omega)⟩
          case measure => simp [intOf]; omega
        | some j =>
          rw [hf] at lk
          have F2 := Lib.hid (FK.out (by rw [hf]; simp))
          clear hf IN FK
          generalize (t.g.rules.getD k Rl.zero).name = s at lk n1 EW
          generalize (t.g.rules.getD k Rl.zero).body = bd at lk n2 EW
          go_wp2_with fail
          go_roundw
          case rel => exact ⟨k + 1, n, D, by omega, by go_num, by have := HOW.out; rw [EW.out] at this; exact this, by have := HNK.out; omega, F2.out, HB.out.trans ((B1 wr _).mono HB.out.size), HK1.out.alloc _, HK2.out.alloc _⟩
          case measure => simp [intOf]; omega
      · obtain rfl : k = m := by omega
        have HB := Lib.hid hB
        have HK2 := Lib.hid hK2
        have FM := Lib.hid (show FMap wr mb t.g.rules from ⟨n, D, hO, by rw [EM.out] at hF; exact hF⟩)
        have q0 := hK1.cell 0; have q1 := hK1.cell 1; have q2 := hK1.cell 2; have q3 := hK1.cell 3; have q4 := hK1.cell 4
        have z0 := hK2.cell 0; have z1 := hK2.cell 1; have z2 := hK2.cell 2; have z3 := hK2.cell 3; have z4 := hK2.cell 4; have z5 := hK2.cell 5
        have g0 := hK2.frozen 0; have g1 := hK2.frozen 1; have g2 := hK2.frozen 2; have g3 := hK2.frozen 3; have g4 := hK2.frozen 4; have g5 := hK2.frozen 5
        simp only [List.getElem?_toArray, List.getElem?_cons_zero, List.getElem?_cons_succ] at q0 q1 q2 q3 q4 z0 z1 z2 z3 z4 z5
        have hneg : ¬ (k : Int) < k := by omega
        clear hO hn hF hB hK1 hK2
        go_wp2_with fail
        generalize hW5 : (World.setCell _ _ _ : World) = W5
        obtain ⟨q, hq, hkp⟩ := nam_set HK2.out HB.out (by omega) (.slice t.g.RA t.g.rules.length t.g.rc) (.slice t.g.NA t.g.nodes.length t.g.nc) (.slice t.PA t.rp.length t.pc) (.slice t.QA t.np.length t.qc) (.slice t.MA t.nm.length t.mc) (.map (some mb)) W5 hW5.symm
        have hz := HZ1.out
        have em := EMB.out
        obtain ⟨n', D', ⟨es, clock, h1, F, h2, h3⟩, hFD⟩ := FM.out
        exact ⟨rfl, _, DN.out _ _ _ _ q rfl rfl rfl, hq, .inl ⟨HT.out, mb, rfl, n', D', ⟨es, clock, (hkp mb (by omega)).trans h1, F, h2, h3⟩, hFD⟩⟩
end Go.Proofs.YtfghfnpiaccfaaaGreatDoor.J
namespace Go.Proofs.YtfghfnpiaccfaaaGreatDoor.J
open Go Go.RowKit Go.Shelf Go.Maps
/-- What is named lies in memory. -/
structure NamAt (w : World) (t : Tre) (mb : Nat) : Prop where
  tre : Tre.At w t
  map : FMap w mb t.g.rules
  names : ∀ s ∈ t.nm, s.size ≤ 9223372036854775807
  nml : t.nm.length ≤ 140737488351232
theorem NamAt.below {w w' : World} {t : Tre} {mb : Nat} (h : NamAt w t mb) (hb : Below w.heap.size w w') : NamAt w' t mb := ⟨h.tre.below hb, h.map.below hb, h.names, h.nml⟩
abbrev namV (t : Tre) (mb : Nat) : Value := .agg (namC t mb)
theorem lies_at {w : World} {A : Option Addr} {l : List ByteArray} (h : Lies w A (strs l)) {k : Nat} (hk : k < l.length) : ∃ b o, A = some ⟨b, o, none⟩ ∧ b < w.heap.size ∧ w.cell? ⟨b, o + k, none⟩ = some (.string (l.getD k ByteArray.empty)) := by
  obtain ⟨b, o, e, hb, hc⟩ := h (by simp [strs]; omega)
  refine ⟨b, o, e, hb, (hc k (by simp [strs]; omega)).trans ?_⟩
  simp [strs, List.getD, List.getElem?_eq_getElem hk]
set_option maxRecDepth 100000 in
set_option maxHeartbeats 2000000 in
theorem iscall_any (t : Tre) (mb n : Nat) (w : World) (h : NamAt w t mb) (hn : n < t.g.nodes.length) :
    Calls Tryz.prog 177 #[namV t mb, .int .i64 n] w fun e w' => e = .returned (.bool (isCall (t.g.nodes.getD n Nd.zero))) ∧ Below w.heap.size w w' := by
  obtain ⟨b1, o1, eA, hb1, n1, _⟩ := h.tre.g.nodes.nine hn
  have hl := h.tre.g.nl
  have q1 := fun o => ((B1 w o).cell (p := ⟨b1, o1 + n * 9, none⟩) hb1).trans n1
  have EI : RowKit.Hid (isCall (t.g.nodes.getD n Nd.zero) = ((t.g.nodes.getD n Nd.zero).kind == 5)) := Lib.hid (by unfold isCall; cases hd : ((t.g.nodes.getD n Nd.zero).kind == 5) <;> simp_all)
  clear h n1
  show Calls Tryz.prog 177 #[.agg #[.slice t.g.RA t.g.rules.length t.g.rc, .slice t.g.NA t.g.nodes.length t.g.nc, .slice t.PA t.rp.length t.pc, .slice t.QA t.np.length t.qc, .slice t.MA t.nm.length t.mc, .map (some mb)], .int .i64 n] w _
  rw [eA, EI.out]
  generalize (t.g.nodes.getD n Nd.zero).kind = kd at q1 ⊢
  obtain ⟨m, em⟩ : ∃ m, m = t.g.nodes.length := ⟨_, rfl⟩
  rw [← em] at hn hl ⊢
  have hn2 : (n : Int) < m := by omega
  clear EI em
  go_enter Tryz.func177, Tryz.ntmps177
  go_wp2_with fail
  go_ret
  exact ⟨rfl, B1 _ _⟩
/-- Whom a node calls: the first rule of its name. -/
def whom (t : Tre) (n : Nat) : Option Nat := fst t.g.rules (t.nm.getD n ByteArray.empty) t.g.rules.length
set_option maxRecDepth 100000 in
set_option maxHeartbeats 2000000 in
theorem ncalled_any (t : Tre) (mb n : Nat) (w : World) (h : NamAt w t mb) (hn : n < t.g.nodes.length) (hm : n < t.nm.length) :
    Calls Tryz.prog 123 #[namV t mb, .int .i64 n] w fun e w' => e = .returned (.tuple #[.int .i64 ((whom t n).getD 0 : Nat), .bool ((whom t n).isSome && isCall (t.g.nodes.getD n Nd.zero))]) ∧ Below w.heap.size w w' := by
  obtain ⟨b1, o1, eA, hb1, n1⟩ := lies_at h.tre.nm hm
  have hnl := h.nml
  have hsz := h.names (t.nm.getD n ByteArray.empty) (getD_mem hm)
  have q1 := fun o => ((B1 w o).cell (p := ⟨b1, o1 + n, none⟩) hb1).trans n1
  obtain ⟨nn, D, hO, hF⟩ := h.map
  have lk := fun (o : Obj) (j : Nat) => own_look (w := (w.alloc o).drewN j) (own_map_below hO (bdrewN (B1 w o))) hF (t.nm.getD n ByteArray.empty) hsz
  have EW : RowKit.Hid (whom t n = fst t.g.rules (t.nm.getD n ByteArray.empty) t.g.rules.length) := Lib.hid rfl
  have IC := Lib.hid (fun W (b : Below w.heap.size w W) => iscall_any t mb n W (h.below b) hn)
  generalize isCall (t.g.nodes.getD n Nd.zero) = ic at IC ⊢
  rw [EW.out]
  generalize fst t.g.rules (t.nm.getD n ByteArray.empty) t.g.rules.length = f at lk ⊢
  generalize t.nm.getD n ByteArray.empty = s at lk q1
  show Calls Tryz.prog 123 #[.agg #[.slice t.g.RA t.g.rules.length t.g.rc, .slice t.g.NA t.g.nodes.length t.g.nc, .slice t.PA t.rp.length t.pc, .slice t.QA t.np.length t.qc, .slice t.MA t.nm.length t.mc, .map (some mb)], .int .i64 n] w _
  have IC2 : RowKit.Hid (∀ W, Below w.heap.size w W → Calls Tryz.prog 177 #[.agg #[.slice t.g.RA t.g.rules.length t.g.rc, .slice t.g.NA t.g.nodes.length t.g.nc, .slice t.PA t.rp.length t.pc, .slice t.QA t.np.length t.qc, .slice t.MA t.nm.length t.mc, .map (some mb)], .int .i64 n] W fun e w' => e = .returned (.bool ic) ∧ Below W.heap.size W w') := Lib.hid IC.out
  rw [eA] at IC2 ⊢
  obtain ⟨m, em⟩ : ∃ m, m = t.nm.length := ⟨_, rfl⟩
  rw [← em] at hm hnl IC2 ⊢
  have hm2 : (n : Int) < m := by omega
  clear h hO hF n1 eA EW em IC hsz
  go_enter Tryz.func123, Tryz.ntmps123
  go_upto_region 1 with fail
  go_quiet (fail)
  cases f with
  | none =>
    go_wp2_with fail
    go_ret2
    exact ⟨rfl, bdrewN (B1 _ _)⟩
  | some j =>
    go_wp2_with (go_at_call 177; (with_reducible refine (IC2.out _ (bdrewN (B1 _ _))).mono ?_); rintro e w1 ⟨rfl, hb1⟩; have HB := Lib.hid (show Below w.heap.size w w1 from bb (bdrewN (B1 _ _)) hb1); clear hb1)
    go_ret2
    exact ⟨by simp, HB.out⟩
set_option maxRecDepth 100000 in
set_option maxHeartbeats 2000000 in
theorem one_twice (t : Tre) (mb n : Nat) (w : World) (h : NamAt w t mb) (hn : n < t.g.rules.length) :
    Calls Tryz.prog 120 #[namV t mb, .int .i64 n] w fun e w' => e = .returned (.bool (twiceP t.g.rules n)) ∧ Below w.heap.size w w' := by
  obtain ⟨b1, o1, eA, hb1, n1, _⟩ := h.tre.g.rules.two hn
  have hl := h.tre.g.rl
  have hsz := h.tre.g.names (t.g.rules.getD n Rl.zero) (getD_mem hn)
  have q1 := fun o => ((B1 w o).cell (p := ⟨b1, o1 + n * 2, none⟩) hb1).trans n1
  obtain ⟨nn, D, hO, hF⟩ := h.map
  have lk := fun (o : Obj) (j : Nat) => own_look1 (w := (w.alloc o).drewN j) (own_map_below hO (bdrewN (B1 w o))) hF (t.g.rules.getD n Rl.zero).name hsz
  have ET : RowKit.Hid (twiceP t.g.rules n = !(((fst t.g.rules (t.g.rules.getD n Rl.zero).name t.g.rules.length).getD 0 : Int) == (n : Int))) := Lib.hid (by
    unfold twiceP
    cases hf : fst t.g.rules (t.g.rules.getD n Rl.zero).name t.g.rules.length with
    | none => exact absurd rfl (fst_none.1 hf n hn)
    | some j =>
      by_cases e : j = n
      · subst e; simp
      · have e2 : ((j : Int) == (n : Int)) = false := by simp; omega
        simp [e, e2])
  rw [ET.out]
  generalize fst t.g.rules (t.g.rules.getD n Rl.zero).name t.g.rules.length = f at lk ⊢
  generalize (t.g.rules.getD n Rl.zero).name = s at lk q1
  obtain ⟨fi, efi⟩ : ∃ fi : Nat, fi = f.getD 0 := ⟨_, rfl⟩
  rw [← efi] at lk ⊢
  show Calls Tryz.prog 120 #[.agg #[.slice t.g.RA t.g.rules.length t.g.rc, .slice t.g.NA t.g.nodes.length t.g.nc, .slice t.PA t.rp.length t.pc, .slice t.QA t.np.length t.qc, .slice t.MA t.nm.length t.mc, .map (some mb)], .int .i64 n] w _
  rw [eA]
  obtain ⟨m, em⟩ : ∃ m, m = t.g.rules.length := ⟨_, rfl⟩
  rw [← em] at hn hl ⊢
  have hn2 : (n : Int) < m := by omega
  clear h hO hF n1 eA em hsz ET efi
  go_enter Tryz.func120, Tryz.ntmps120
  go_upto_region 1 with fail
  go_quiet (fail)
  go_wp2_with fail
  go_ret
  exact ⟨rfl, bdrewN (B1 _ _)⟩
set_option maxRecDepth 100000 in
set_option maxHeartbeats 2000000 in
theorem one_lost (t : Tre) (mb n : Nat) (w : World) (h : NamAt w t mb) (hn : n < t.g.nodes.length) (hm : n < t.nm.length) :
    Calls Tryz.prog 121 #[namV t mb, .int .i64 n] w fun e w' => e = .returned (.bool (lostP t.g t.nm n)) ∧ Below w.heap.size w w' := by
  have NC := Lib.hid (fun W (b : Below w.heap.size w W) => ncalled_any t mb n W (h.below b) hn hm)
  have IC := Lib.hid (fun W (b : Below w.heap.size w W) => iscall_any t mb n W (h.below b) hn)
  have EL : RowKit.Hid (lostP t.g t.nm n = (isCall (t.g.nodes.getD n Nd.zero) && (whom t n).isNone)) := Lib.hid rfl
  rw [EL.out]
  generalize isCall (t.g.nodes.getD n Nd.zero) = ic at IC NC ⊢
  generalize whom t n = f at NC ⊢
  clear h EL hn hm
  show Calls Tryz.prog 121 #[.agg #[.slice t.g.RA t.g.rules.length t.g.rc, .slice t.g.NA t.g.nodes.length t.g.nc, .slice t.PA t.rp.length t.pc, .slice t.QA t.np.length t.qc, .slice t.MA t.nm.length t.mc, .map (some mb)], .int .i64 n] w _
  cases ic with
  | false =>
    go_enter Tryz.func121, Tryz.ntmps121
    go_wp2_with (first | (go_at_call 123; (with_reducible refine (NC.out _ (B1 _ _)).mono ?_); rintro e w1 ⟨rfl, hb1⟩; have H1 := Lib.hid (bb (B1 w _) hb1); have K1 := Lib.hid ((Blk.new w _ _).below' hb1); have c0 := K1.out.cell 0; have c1 := K1.out.cell 1; have c2 := K1.out.cell 2; have c3 := K1.out.cell 3; have c4 := K1.out.cell 4; have c5 := K1.out.cell 5; simp only [List.getElem?_toArray, List.getElem?_cons_zero, List.getElem?_cons_succ] at c0 c1 c2 c3 c4 c5; clear hb1) | (go_at_call 177; (with_reducible refine (IC.out _ H1.out).mono ?_); rintro e w2 ⟨rfl, hb2⟩; have H2 := Lib.hid (bb H1.out hb2); clear hb2))
    go_ret
    exact ⟨rfl, H2.out⟩
  | true =>
    cases f with
    | none =>
      go_enter Tryz.func121, Tryz.ntmps121
      go_wp2_with (first | (go_at_call 123; (with_reducible refine (NC.out _ (B1 _ _)).mono ?_); rintro e w1 ⟨rfl, hb1⟩; have H1 := Lib.hid (bb (B1 w _) hb1); have K1 := Lib.hid ((Blk.new w _ _).below' hb1); have c0 := K1.out.cell 0; have c1 := K1.out.cell 1; have c2 := K1.out.cell 2; have c3 := K1.out.cell 3; have c4 := K1.out.cell 4; have c5 := K1.out.cell 5; simp only [List.getElem?_toArray, List.getElem?_cons_zero, List.getElem?_cons_succ] at c0 c1 c2 c3 c4 c5; clear hb1) | (go_at_call 177; (with_reducible refine (IC.out _ H1.out).mono ?_); rintro e w2 ⟨rfl, hb2⟩; have H2 := Lib.hid (bb H1.out hb2); clear hb2))
      go_ret
      exact ⟨rfl, H2.out⟩
    | some j =>
      go_enter Tryz.func121, Tryz.ntmps121
      go_wp2_with (first | (go_at_call 123; (with_reducible refine (NC.out _ (B1 _ _)).mono ?_); rintro e w1 ⟨rfl, hb1⟩; have H1 := Lib.hid (bb (B1 w _) hb1); have K1 := Lib.hid ((Blk.new w _ _).below' hb1); have c0 := K1.out.cell 0; have c1 := K1.out.cell 1; have c2 := K1.out.cell 2; have c3 := K1.out.cell 3; have c4 := K1.out.cell 4; have c5 := K1.out.cell 5; simp only [List.getElem?_toArray, List.getElem?_cons_zero, List.getElem?_cons_succ] at c0 c1 c2 c3 c4 c5; clear hb1) | (go_at_call 177; (with_reducible refine (IC.out _ H1.out).mono ?_); rintro e w2 ⟨rfl, hb2⟩; have H2 := Lib.hid (bb H1.out hb2); clear hb2))
      go_ret
      exact ⟨rfl, H2.out⟩
set_option maxRecDepth 100000 in
set_option maxHeartbeats 2000000 in
theorem first_twice (m : Nat) (rv : Value) (p : Nat → Bool) (w : World) (hm : m ≤ 140737488351232)
    (hP : ∀ W, Below w.heap.size w W → ∀ r, r < m → Calls Tryz.prog 120 #[rv, .int .i64 r] W fun e w' => e = .returned (.bool (p r)) ∧ Below W.heap.size W w') :
    Calls Tryz.prog 119 #[.int .i64 m, .func (.func 120) #[rv] #[]] w fun e w' => e = .returned (.tuple #[.int .i64 ((firstOf p m).getD 0 : Nat), .bool (firstOf p m).isSome]) ∧ Below w.heap.size w w' := by
  have HP := Lib.hid hP
  clear hP
  go_enter Tryz.func119, Tryz.ntmps119
  go_wp2_with fail
  go_loopw [8] (fun i wr => ∃ k : Nat, k ≤ m ∧ i = .int .i64 k ∧ (∀ j, j < k → p j = false) ∧ Below w.heap.size w wr) (fun i _ => m - (intOf i).toNat)
  case atStart => exact ⟨0, by omega, by go_num, fun j h => by omega, Below.refl _ _⟩
  case round =>
    obtain ⟨k, hk, rfl, hnone, hb⟩ := hrel
    have HN := Lib.hid hnone
    have HB := Lib.hid hb
    by_cases hlt : k < m
    · have hlt2 : (k : Int) < m := by omega
      have C := Lib.hid (HP.out wr hb k hlt)
      clear hnone hb
      cases hp : p k with
      | false =>
        rw [hp] at C
        have HPK := Lib.hid hp
        clear hp
        go_wp2_with (go_at_call 120; (with_reducible refine C.out.mono ?_); rintro e w1 ⟨rfl, hb1⟩; have B1' := Lib.hid hb1; clear hb1)
        go_roundw
        case rel => exact ⟨k + 1, by omega, by go_num, fun j hj => by
          rcases Nat.lt_or_ge j k with h | h
          · exact HN.out j h
          · have : j = k := by omega
            rw [this]; exact HPK.out, HB.out.trans (B1'.out.mono HB.out.size)⟩
        case measure => simp [intOf]; omega
      | true =>
        rw [hp] at C
        have HF := Lib.hid (show firstOf p m = some k from firstOf_some.2 ⟨hlt, hp, HN.out⟩)
        clear hp
        go_wp2_with (go_at_call 120; (with_reducible refine C.out.mono ?_); rintro e w1 ⟨rfl, hb1⟩; have B1' := Lib.hid hb1; clear hb1)
        go_ret2
        rw [HF.out]
        exact ⟨rfl, HB.out.trans (B1'.out.mono HB.out.size)⟩
    · obtain rfl : k = m := by omega
      have HF := Lib.hid (show firstOf p k = none from firstOf_none.2 HN.out)
      have hneg : ¬ (k : Int) < k := by omega
      clear hnone hb
      go_wp2_with fail
      go_ret2
      rw [HF.out]
      exact ⟨rfl, HB.out⟩
set_option maxRecDepth 100000 in
set_option maxHeartbeats 2000000 in
theorem first_lost (m : Nat) (rv : Value) (p : Nat → Bool) (w : World) (hm : m ≤ 140737488351232)
    (hP : ∀ W, Below w.heap.size w W → ∀ r, r < m → Calls Tryz.prog 121 #[rv, .int .i64 r] W fun e w' => e = .returned (.bool (p r)) ∧ Below W.heap.size W w') :
    Calls Tryz.prog 119 #[.int .i64 m, .func (.func 121) #[rv] #[]] w fun e w' => e = .returned (.tuple #[.int .i64 ((firstOf p m).getD 0 : Nat), .bool (firstOf p m).isSome]) ∧ Below w.heap.size w w' := by
  have HP := Lib.hid hP
  clear hP
  go_enter Tryz.func119, Tryz.ntmps119
  go_wp2_with fail
  go_loopw [8] (fun i wr => ∃ k : Nat, k ≤ m ∧ i = .int .i64 k ∧ (∀ j, j < k → p j = false) ∧ Below w.heap.size w wr) (fun i _ => m - (intOf i).toNat)
  case atStart => exact ⟨0, by omega, by go_num, fun j h => by omega, Below.refl _ _⟩
  case round =>
    obtain ⟨k, hk, rfl, hnone, hb⟩ := hrel
    have HN := Lib.hid hnone
    have HB := Lib.hid hb
    by_cases hlt : k < m
    · have hlt2 : (k : Int) < m := by omega
      have C := Lib.hid (HP.out wr hb k hlt)
      clear hnone hb
      cases hp : p k with
      | false =>
        rw [hp] at C
        have HPK := Lib.hid hp
        clear hp
        go_wp2_with (go_at_call 121; (with_reducible refine C.out.mono ?_); rintro e w1 ⟨rfl, hb1⟩; have B1' := Lib.hid hb1; clear hb1)
        go_roundw
        case rel => exact ⟨k + 1, by omega, by go_num, fun j hj => by
          rcases Nat.lt_or_ge j k with h | h
          · exact HN.out j h
          · have : j = k := by omega
            rw [this]; exact HPK.out, HB.out.trans (B1'.out.mono HB.out.size)⟩
        case measure => simp [intOf]; omega
      | true =>
        rw [hp] at C
        have HF := Lib.hid (show firstOf p m = some k from firstOf_some.2 ⟨hlt, hp, HN.out⟩)
        clear hp
        go_wp2_with (go_at_call 121; (with_reducible refine C.out.mono ?_); rintro e w1 ⟨rfl, hb1⟩; have B1' := Lib.hid hb1; clear hb1)
        go_ret2
        rw [HF.out]
        exact ⟨rfl, HB.out.trans (B1'.out.mono HB.out.size)⟩
    · obtain rfl : k = m := by omega
      have HF := Lib.hid (show firstOf p k = none from firstOf_none.2 HN.out)
      have hneg : ¬ (k : Int) < k := by omega
      clear hnone hb
      go_wp2_with fail
      go_ret2
      rw [HF.out]
      exact ⟨rfl, HB.out⟩
set_option maxRecDepth 100000 in
set_option maxHeartbeats 2000000 in
theorem firstTwice_any (t : Tre) (mb : Nat) (w : World) (h : NamAt w t mb) (hw : wholeB t = true) :
    Calls Tryz.prog 67 #[namV t mb] w fun e w' => e = .returned (.tuple #[.int .i64 ((twiceAt t.g.rules).getD 0 : Nat), .bool (twiceAt t.g.rules).isSome]) ∧ Below w.heap.size w w' := by
  have hw2 : t.rp.length = t.g.rules.length ∧ t.np.length = t.g.nodes.length ∧ t.nm.length = t.g.nodes.length := by simpa [wholeB] using hw
  have hl := h.tre.g.rl
  have hnl := h.tre.g.nl
  have FI := Lib.hid (fun W (b : Below w.heap.size w W) => first_twice t.rp.length (namV t mb) (twiceP t.g.rules) W (by omega) (fun W' b' r hr => one_twice t mb r W' ((h.below b).below b') (by omega)))
  have ER : RowKit.Hid (twiceAt t.g.rules = firstOf (twiceP t.g.rules) t.rp.length) := Lib.hid (by show firstOf _ _ = _; rw [hw2.1])
  rw [ER.out]
  generalize firstOf (twiceP t.g.rules) t.rp.length = f at FI ⊢
  clear h hw hw2 ER hl hnl
  show Calls Tryz.prog 67 #[.agg #[.slice t.g.RA t.g.rules.length t.g.rc, .slice t.g.NA t.g.nodes.length t.g.nc, .slice t.PA t.rp.length t.pc, .slice t.QA t.np.length t.qc, .slice t.MA t.nm.length t.mc, .map (some mb)]] w _
  go_enter Tryz.func67, Tryz.ntmps67
  go_wp2_with (go_at_call 119; (with_reducible refine (FI.out _ (B1 _ _)).mono ?_); rintro e w1 ⟨rfl, hb1⟩; have H1 := Lib.hid (bb (B1 w _) hb1); clear hb1)
  go_ret2
  exact ⟨rfl, H1.out⟩
set_option maxRecDepth 100000 in
set_option maxHeartbeats 2000000 in
theorem firstLost_any (t : Tre) (mb : Nat) (w : World) (h : NamAt w t mb) (hw : wholeB t = true) :
    Calls Tryz.prog 68 #[namV t mb] w fun e w' => e = .returned (.tuple #[.int .i64 ((lostAt t.g t.nm).getD 0 : Nat), .bool (lostAt t.g t.nm).isSome]) ∧ Below w.heap.size w w' := by
  have hw2 : t.rp.length = t.g.rules.length ∧ t.np.length = t.g.nodes.length ∧ t.nm.length = t.g.nodes.length := by simpa [wholeB] using hw
  have hl := h.tre.g.rl
  have hnl := h.tre.g.nl
  have FI := Lib.hid (fun W (b : Below w.heap.size w W) => first_lost t.np.length (namV t mb) (lostP t.g t.nm) W (by omega) (fun W' b' r hr => one_lost t mb r W' ((h.below b).below b') (by omega) (by omega)))
  have ER : RowKit.Hid (lostAt t.g t.nm = firstOf (lostP t.g t.nm) t.np.length) := Lib.hid (by show firstOf _ _ = _; rw [hw2.2.1])
  rw [ER.out]
  generalize firstOf (lostP t.g t.nm) t.np.length = f at FI ⊢
  clear h hw hw2 ER hl hnl
  show Calls Tryz.prog 68 #[.agg #[.slice t.g.RA t.g.rules.length t.g.rc, .slice t.g.NA t.g.nodes.length t.g.nc, .slice t.PA t.rp.length t.pc, .slice t.QA t.np.length t.qc, .slice t.MA t.nm.length t.mc, .map (some mb)]] w _
  go_enter Tryz.func68, Tryz.ntmps68
  go_wp2_with (go_at_call 119; (with_reducible refine (FI.out _ (B1 _ _)).mono ?_); rintro e w1 ⟨rfl, hb1⟩; have H1 := Lib.hid (bb (B1 w _) hb1); clear hb1)
  go_ret2
  exact ⟨rfl, H1.out⟩
end Go.Proofs.YtfghfnpiaccfaaaGreatDoor.J

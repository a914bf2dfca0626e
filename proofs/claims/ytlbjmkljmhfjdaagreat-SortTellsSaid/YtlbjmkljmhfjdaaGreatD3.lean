/- A search that goes through a graph, and puts aside those at whose end it is. -/
import Derived.Test.YtlbjmkljmhfjdaaGreatD2
import Derived.Shelf.Abstract
set_option linter.unusedSimpArgs false
set_option linter.unusedVariables false
namespace Go.Proofs.YtlbjmkljmhfjdaaGreat
open Go Go.RowKit Go.Maps
def searchCells (gv : Value) (m : Nat → Bool) : List Value := gv :: (List.range 64).map fun k => Value.bool (m k)
theorem searchCells_at {gv : Value} {m : Nat → Bool} {k : Nat} (h : k < 64) : (searchCells gv m)[1 + k]? = some (.bool (m k)) := by
  rw [Nat.add_comm]
  simp [searchCells, h]
theorem searchCells_set {gv : Value} {m : Nat → Bool} {k : Nat} (h : k < 64) : (searchCells gv m).set (1 + k) (.bool true) = searchCells gv (mset m k) := by
  rw [Nat.add_comm]
  simp only [searchCells, List.set_cons_succ, List.cons.injEq, true_and]
  refine List.ext_getElem (by simp) fun i h1 h2 => ?_
  have hi : i < 64 := by simpa using h1
  rw [List.getElem_set]
  by_cases e : k = i
  · subst e; rw [if_pos rfl]; simp [mset]
  · rw [if_neg e]
    have : (i == k) = false := by simpa using fun h => e h.symm
    simp [mset, this]
def c_unmet (m : Nat → Bool) : Nat := (List.range 64).countP fun k => !m k
theorem c_unmet_set {m : Nat → Bool} {a : Nat} (ha : a < 64) (h : m a = false) : c_unmet (mset m a) + 1 = c_unmet m := by
  unfold c_unmet
  have : ∀ l : List Nat, l.Nodup → a ∈ l → (l.countP fun k => !mset m a k) + 1 = l.countP fun k => !m k := by
    intro l
    induction l with
    | nil => intro _ h; cases h
    | cons x l ih =>
      intro hn hm
      obtain ⟨h1, h2⟩ := List.nodup_cons.1 hn
      simp only [List.countP_cons]
      rcases List.mem_cons.1 hm with rfl | hm
      · have e : (l.countP fun k => !mset m a k) = l.countP fun k => !m k := List.countP_congr fun y hy => by
          have : (y == a) = false := by simpa using fun e : y = a => h1 (e ▸ hy)
          simp [mset, this]
        rw [e]
        simp [mset, h]
      · have := ih h2 hm
        have hne : (x == a) = false := by simpa using fun e : x = a => h1 (e ▸ hm)
        simp only [mset, hne, Bool.false_or] at this ⊢
        omega
  exact this _ List.nodup_range (List.mem_range.2 ha)
theorem Thr.unmet {adj : Nat → List Nat} {n : Nat} (hi : InR adj n) (hn : n ≤ 64) {m m' : Nat → Bool} {l N : List Nat} (h : Thr adj m l N m') : (∀ a ∈ l, a < n) → N.length + YtlbjmkljmhfjdaaGreat.c_unmet m' ≤ YtlbjmkljmhfjdaaGreat.c_unmet m := by
  induction h with
  | nil m => intro _; simp
  | met _ _ ih => intro hl; exact ih fun a ha => hl a (List.mem_cons_of_mem _ ha)
  | @new m m1 m2 a l N1 N2 h1 h2 h3 ih1 ih2 =>
    intro hl
    have ha := hl a (List.mem_cons_self ..)
    have e := c_unmet_set (m := m) (a := a) (by omega) h1
    have e1 := ih1 fun b hb => (hi a b hb).2
    have e2 := ih2 fun b hb => hl b (List.mem_cons_of_mem _ hb)
    simp only [List.length_append, List.length_cons]
    omega
/-- What a graph stands on: T is what may not turn. -/
structure GT (w0 : World) (T : Nat → Prop) (A : Option Addr) (c : Nat) (vs : List Value) (G : List (List Nat)) : Prop where
  at_ : ∀ W' : World, w0.heap.size ≤ W'.heap.size → (∀ j, T j → W'.heap[j]? = w0.heap[j]?) → Gph W' A vs (G.map nums)
  lt : ∀ j, T j → j < w0.heap.size
/-- A search, its stack, in memory. -/
structure Sch (T : Nat → Prop) (w0 : World) (b sb : Nat) (gv : Value) (B : Nat) (W : World) (v : Value) (m : Nat → Bool) (O : List Nat) : Prop where
  blk : Blk W b (searchCells gv m).toArray 200
  stk : Stk B W sb v O
  size : w0.heap.size ≤ W.heap.size
  keep : ∀ j, T j → W.heap[j]? = w0.heap[j]?
  nb : ¬ T b
  ns : ¬ T sb
  nv : ∀ j, T j → v.ownBlock ≠ some j
  lo : B ≤ W.heap.size
  tl : ∀ j, T j → j < w0.heap.size
theorem Sch.ne {T : Nat → Prop} {w0 W : World} {b sb B : Nat} {gv v : Value} {m : Nat → Bool} {O : List Nat} (h : Sch T w0 b sb gv B W v m O) : b ≠ sb := fun e => by
  subst e
  have := h.blk.symm.trans h.stk.box
  simp at this
theorem Sch.set {T : Nat → Prop} {w0 W : World} {b sb B : Nat} {gv v : Value} {m : Nat → Bool} {O : List Nat} (h : Sch T w0 b sb gv B W v m O) {a : Nat} (ha : a < 64) :
    Sch T w0 b sb gv B (W.setCell ⟨b, 1 + a, none⟩ (.bool true)) v (mset m a) O ∧ OffS b sb v W (W.setCell ⟨b, 1 + a, none⟩ (.bool true)) := by
  have hne := h.ne
  have oth : ∀ k, k ≠ b → (W.setCell ⟨b, 1 + a, none⟩ (.bool true)).heap[k]? = W.heap[k]? := fun k hk => heap_setCell_other W ⟨b, 1 + a, none⟩ k _ hk
  refine ⟨⟨?_, ⟨(oth sb (fun e => hne e.symm)).trans h.stk.box, ?_⟩, by simpa [World.setCell] using h.size, fun j hj => (oth j (fun e => h.nb (e ▸ hj))).trans (h.keep j hj), h.nb, h.ns, h.nv, by simpa [World.setCell] using h.lo, h.tl⟩, ⟨rfl, rfl, rfl, by simp [World.setCell], fun k _ hk _ _ => oth k hk⟩⟩
  · have := heap_setCell_same W b (1 + a) _ _ (.bool true) h.blk
    unfold Blk
    rw [this, List.setIfInBounds_toArray, searchCells_set ha]
  · exact own_kept h.stk.own (fun j hj => oth j (fun e => own_ne h.stk.own h.blk (by decide) (by rw [hj]; exact congrArg some e)))
theorem Sch.put {T : Nat → Prop} {w0 W W' : World} {b sb B : Nat} {gv v v' : Value} {m : Nat → Bool} {O O' : List Nat} (h : Sch T w0 b sb gv B W v m O) (hs : Stk B W' sb v' O') (ho : OffS sb sb v W W') (hf : c_Fresh W v v') : Sch T w0 b sb gv B W' v' m O' := by
  have hlt : ∀ j, T j → j < W.heap.size := fun j hj => Nat.lt_of_lt_of_le (h.tl j hj) h.size
  refine ⟨?_, hs, Nat.le_trans h.size ho.size, fun j hj => ?_, h.nb, h.ns, fun j hj e => ?_, Nat.le_trans h.lo ho.size, h.tl⟩
  · exact (ho.block b h.blk.lt h.ne h.ne (own_ne h.stk.own h.blk (by decide))).trans h.blk
  · exact (ho.block j (hlt j hj) (fun e => h.ns (e ▸ hj)) (fun e => h.ns (e ▸ hj)) (h.nv j hj)).trans (h.keep j hj)
  · rcases hf j e with h1 | h1
    · exact h.nv j hj h1
    · have := hlt j hj; omega
theorem OffS.wide {b sb : Nat} {v : Value} {w w' : World} (h : OffS sb sb v w w') : OffS b sb v w w' := ⟨h.os, h.tape, h.output, h.size, fun k hk _ h2 h3 => h.block k hk h2 h2 h3⟩
set_option maxRecDepth 100000 in
set_option maxHeartbeats 4000000 in
theorem through_any {T : Nat → Prop} {w0 : World} {A : Option Addr} {c : Nat} {vs : List Value} {G : List (List Nat)} (hR : RG G) (hT : GT w0 T A c vs G) (b sb B : Nat) : ∀ (d : Nat) (w : World) (v : Value) (m : Nat → Bool) (O : List Nat) (a : Nat), a < G.length → c_unmet m ≤ d → O.length + c_unmet m ≤ 1000 →
    Sch T w0 b sb (.slice A G.length c) B w v m O →
    Calls Tryz.prog 182 #[.pointer (some ⟨b, 0, none⟩), .int .i64 a, .func (.func 183) #[.pointer (some ⟨sb, 0, none⟩)] #[]] w fun e w' =>
      ∃ v' N m', (∃ u, e = .returned u) ∧ Thr (adjG G) m [a] N m' ∧ Sch T w0 b sb (.slice A G.length c) B w' v' m' (O ++ N) ∧ OffS b sb v w w' ∧ c_Fresh w v v' := by
  intro d
  induction d with
  | zero =>
    intro w v m O a ha hd hO hS
    have hm : m a = true := by
      cases e : m a with
      | true => rfl
      | false => have := c_unmet_set (m := m) (a := a) (by have := hR.most; omega) e; omega
    have c1 := hS.blk.cell (1 + a)
    rw [List.getElem?_toArray, searchCells_at (by have := hR.most; omega), hm] at c1
    have HS := Lib.hid hS
    have ha64 : (a : Int) < 64 := by have := hR.most; omega
    have HM := Lib.hid hm
    clear hS hT hR hm
    go_enter Tryz.func182, Tryz.ntmps182
    go_wp2_with fail
    exact bodyPost_ret (results_none rfl _ _ _) rfl ⟨v, [], m, ⟨_, rfl⟩, .met HM.out (.nil m), by rw [List.append_nil]; exact HS.out, OffS.refl _ _ _ _, c_Fresh.refl _ _⟩
  | succ d ih =>
    intro w v m O a ha hd hO hS
    have hn := hR.most
    have ha64 : (a : Int) < 64 := by omega
    have c1 := hS.blk.cell (1 + a)
    rw [List.getElem?_toArray, searchCells_at (by omega)] at c1
    have f1 := hS.blk.frozen (1 + a)
    have HS := Lib.hid hS
    cases hm : m a with
    | true =>
      rw [hm] at c1
      have HM := Lib.hid hm
      clear hS hT hR hm ih
      go_enter Tryz.func182, Tryz.ntmps182
      go_wp2_with fail
      exact bodyPost_ret (results_none rfl _ _ _) rfl ⟨v, [], m, ⟨_, rfl⟩, .met HM.out (.nil m), by rw [List.append_nil]; exact HS.out, OffS.refl _ _ _ _, c_Fresh.refl _ _⟩
    | false =>
      rw [hm] at c1
      have HM := Lib.hid hm
      have S1 := Lib.hid (hS.set (a := a) (by omega))
      have HU := Lib.hid (c_unmet_set (m := m) (a := a) (by omega) hm)
      have IH := Lib.hid ih
      have HT := Lib.hid hT
      have HI := Lib.hid hR.inR
      have UN := Lib.hid (fun N m' l (h : Thr (adjG G) (mset m a) l N m') => Thr.unmet hR.inR hn h)
      have c2 := S1.out.1.blk.cell 0
      rw [List.getElem?_toArray] at c2
      simp only [searchCells, List.getElem?_cons_zero] at c2
      have hGw := hT.at_ _ S1.out.1.size S1.out.1.keep
      obtain ⟨B1, d1, eB, _⟩ := hGw.row a (by rw [List.length_map]; exact ha)
      rw [getD_map_nums, nums_len] at eB
      have TO := Lib.hid (c_to_any A c vs (G.map nums) a (by rw [List.length_map]; exact ha) _ hGw)
      rw [List.length_map, eB] at TO
      have GL := Lib.hid (show ∀ W' : World, w0.heap.size ≤ W'.heap.size → (∀ j, T j → W'.heap[j]? = w0.heap[j]?) → Lies W' B1 (ints (nums (adjG G a))) from fun W' h1 h2 => by
        have := ((hT.at_ W' h1 h2).lies (i := a) (by rw [List.length_map]; exact ha) eB).2
        rw [getD_map_nums] at this
        exact this)
      obtain ⟨l, el⟩ : ∃ l, l = (G.getD a []).length := ⟨_, rfl⟩
      have EL := Lib.hid (show l = (adjG G a).length from el)
      have hl64 : l ≤ 64 := by rw [el]; exact hR.len a
      have TK := Lib.hid (fun j (hj : j < l) => take_oneN (a := adjG G a) (k := j) (by show j < (G.getD a []).length; omega))
      have TA := Lib.hid (show (adjG G a).take l = adjG G a from List.take_of_length_le (by show (G.getD a []).length ≤ l; omega))
      have AD := Lib.hid (fun j (hj : j < l) => show (adjG G a).getD j 0 < G.length from by
        have hjj : j < (adjG G a).length := by show j < (G.getD a []).length; omega
        exact (hR.inR a _ (by simp only [List.getD, List.getElem?_eq_getElem hjj, Option.getD_some]; exact List.getElem_mem hjj)).2)
      rw [← el] at TO
      have HAL := Lib.hid ha
      have HOM := Lib.hid hO
      have HDD := Lib.hid hd
      obtain ⟨w1, ew1⟩ : ∃ u, u = w.setCell ⟨b, 1 + a, none⟩ (.bool true) := ⟨_, rfl⟩
      have EW1 := Lib.hid ew1
      rw [← ew1] at S1 c2 TO
      clear hS hT hR hm ih hGw eB el ha hO hd
      go_enter Tryz.func182, Tryz.ntmps182
      go_upto_region 2 with fail
      rw [← EW1.out]
      clear ew1
      go_wp2_with (first | (go_at_call 223; (with_reducible refine TO.out.mono ?_); rintro e w3 ⟨rfl, rfl⟩))
      go_loopw [26, 7] (fun i _ wr => ∃ (j : Nat) (v' : Value) (N : List Nat) (m' : Nat → Bool), j ≤ l ∧ i = .int .i64 j ∧ Thr (adjG G) (mset m a) ((adjG G a).take j) N m' ∧ Sch T w0 b sb (.slice A G.length c) B wr v' m' (O ++ N) ∧ OffS b sb v w wr ∧ c_Fresh w v v') (fun i _ _ => l - (RowKit.intOf i).toNat)
      case atStart => exact ⟨0, v, [], mset m a, by omega, rfl, .nil _, by rw [List.append_nil]; exact S1.out.1, S1.out.2, c_Fresh.refl _ _⟩
      case round =>
        obtain ⟨j, v', N, m', hj, rfl, hth, hsc, hof, hfr⟩ := hrel
        have HTH := Lib.hid hth
        have HSC := Lib.hid hsc
        have HOF := Lib.hid hof
        have HFR := Lib.hid hfr
        by_cases hlt : j < l
        · have hlt2 : (j : Int) < l := by omega
          obtain ⟨b2, o2, rfl, hb2, c3⟩ := lies_cell (GL.out wr hsc.size hsc.keep) (k := j) (by rw [nums_len, ← EL.out]; exact hlt)
          rw [nums_at] at c3
          have hun := UN.out N m' _ hth (fun x hx => by
            have hx2 := List.mem_of_mem_take hx
            exact (HI.out a x hx2).2)
          have HC := Lib.hid (IH.out wr v' m' (O ++ N) ((adjG G a).getD j 0) (AD.out j hlt) (by have := HU.out; have := HDD.out; omega) (by rw [List.length_append]; have := HU.out; have := HOM.out; omega) hsc)
          have TKJ := Lib.hid (TK.out j hlt)
          generalize (adjG G a).getD j 0 = x at c3 HC TKJ
          clear hth hsc hof hfr hun
          go_wp2_with fail
          refine HC.out.mono ?_
          rintro e w4 ⟨v4, N4, m4, ⟨u4, rfl⟩, ht4, hs4, ho4, hf4⟩
          have H4 := Lib.hid (And.intro ht4 (And.intro hs4 (And.intro ho4 hf4)))
          clear ht4 hs4 ho4 hf4 HC c3
          go_wp2_with fail
          go_roundw
          case rel =>
            obtain ⟨ht4, hs4, ho4, hf4⟩ := H4.out
            exact ⟨j + 1, v4, N ++ N4, m4, by omega, by go_num, by rw [TKJ.out]; exact HTH.out.app ht4, by rw [← List.append_assoc]; exact hs4, HOF.out.trans HFR.out ho4, HFR.out.trans HOF.out.size hf4⟩
          case measure => simp [RowKit.intOf]; omega
        · obtain rfl : j = l := by omega
          have hlt2 : ¬ (j : Int) < j := by omega
          have hth2 := hth
          rw [TA.out] at hth2
          have hun := UN.out N m' _ hth2 (fun x hx => (HI.out a x hx).2)
          have HP := Lib.hid (put_any B sb sb v' (O ++ N) a wr hsc.stk (by rw [List.length_append]; have := HU.out; have := HOM.out; omega) hsc.lo)
          have HTH2 := Lib.hid hth2
          clear hth hth2 hsc hof hfr hun
          go_wp2_with fail
          refine HP.out.mono ?_
          rintro e w4 ⟨v4, ⟨u4, rfl⟩, hs4, ho4, hf4⟩
          have H4 := Lib.hid (And.intro hs4 (And.intro ho4 hf4))
          clear hs4 ho4 hf4 HP
          go_wp2_with fail
          go_end0
          obtain ⟨hs4, ho4, hf4⟩ := H4.out
          refine ⟨v4, N ++ [a], m', ⟨_, rfl⟩, ?_, ?_, HOF.out.trans HFR.out ho4.wide, HFR.out.trans HOF.out.size hf4⟩
          · have := Thr.new (l := []) (N2 := []) (m2 := m') HM.out HTH2.out (.nil _)
            exact this
          · rw [← List.append_assoc]
            exact HSC.out.put hs4 ho4 hf4
end Go.Proofs.YtlbjmkljmhfjdaaGreat
namespace Go.Proofs.YtlbjmkljmhfjdaaGreat
open Go Go.RowKit Go.Maps Go.Shelf
attribute [local go_sem] Oper.semAt_some
theorem madeZero (m : Nat) : madeCells (Value.slice none 0 0).cells (m * 1) = (List.replicate m (Value.slice none 0 0)).toArray := by
  apply Array.ext
  · simp [madeCells]
  · intro k h1 h2
    simp [madeCells, Value.cells, Nat.mod_one]
set_option maxRecDepth 100000 in
set_option maxHeartbeats 4000000 in
theorem turned_any (A : Option Addr) (c : Nat) (vs : List Value) (G : List (List Nat)) (hR : RG G) (w : World) (hG : Gph w A vs (G.map nums)) :
    Calls Tryz.prog 122 #[.slice A G.length c] w fun e w' => ∃ gb vs', e = .returned (.slice (some ⟨gb, 0, none⟩) G.length G.length) ∧ Blk w' gb vs'.toArray 38 ∧ RowsO w.heap.size w' vs' (trnG G) ∧ w.heap.size ≤ gb ∧ Below w.heap.size w w' := by
  obtain ⟨i0, hi, hz0, hz1, hz2⟩ := info_parts Tryz.info_sH
  have hn : G.length ≤ 64 := hR.most
  have LI := Lib.hid (fun (w' : World) bx T (hO : LnkR w' bx A c vs G T) => links_in w' bx A c vs G T hR hO)
  have HG := Lib.hid hG
  obtain ⟨n, en⟩ : ∃ n, n = G.length := ⟨_, rfl⟩
  have EN := Lib.hid en
  have LM := Lib.hid (fun w' => links_make A n c w')
  have TE := Lib.hid (show trnG G = trnTo (lnkG G) n (lnkG G).length from by rw [en]; rfl)
  have EL := Lib.hid (fun k (hk : k < (lnkG G).length) => show ((lnkG G).getD k (0, 0)).1 < n ∧ ((lnkG G).getD k (0, 0)).2 < n from by
    rw [en]
    exact lnk_lt hR.inR (e := (lnkG G).getD k (0, 0)) (by simp only [List.getD, List.getElem?_eq_getElem hk, Option.getD_some]; exact List.getElem_mem hk))
  have EM := Lib.hid (lnkG_len hR)
  have EV := Lib.hid (show ∀ w' bx, LnkR w' bx A c vs G = LnkR w' bx A c vs G from fun _ _ => rfl)
  rw [← en] at hn ⊢
  clear hG en
  refine (callsIn_wide (n := 12)).1 ?_
  refine callsIn_of_wp_marks Tryz.func122 rfl trivial ?_ rfl
  simp only [Tryz.ntmps122, List.size_toArray, List.length_cons, List.length_nil, Nat.reduceAdd, Nat.reduceSub, Array.replicate_succ, Array.replicate_zero, List.push_toArray, List.append_toArray, List.nil_append, List.cons_append]
  have hmk : ∀ W : World, (Instr.makeSlice 127 (.int .i64 n) (.int .i64 n)).run Tryz.prog W = .ok (.slice (some ⟨W.heap.size, 0, none⟩) n n) (W.alloc (.cells (List.replicate n (Value.slice none 0 0)).toArray 38)) := fun W => by
    have hr := run_make (P := Tryz.prog) W 127 38 i0 (.slice none 0 0) Tryz.underlying127 hi hz0 .i64 .i64 (n : Nat) (n : Nat) (by omega) (by omega) (by rw [hz2]; omega) (by omega)
    rw [hz1, Int.toNat_natCast, madeZero] at hr
    exact hr
  gi_wp2_with (refine ⟨trivial, ?_⟩; gi_at_call 177; refine (callsIn_wide.2 (LM.out _)).mono ?_; rintro e w5 ⟨rfl, e5⟩; have E5 := Lib.hid e5; clear e5)
  obtain ⟨gb, egb⟩ : ∃ u, u = w.heap.size := ⟨_, rfl⟩
  obtain ⟨tb, etb⟩ : ∃ u, u = w.heap.size + 1 := ⟨_, rfl⟩
  obtain ⟨bx, ebx⟩ : ∃ u, u = w.heap.size + 1 + 1 := ⟨_, rfl⟩
  have e5 := E5.out
  have hb5 : Below w.heap.size w w5 := by
    rw [e5]; exact (B2 _ _ _).trans ((B1 _ _).mono (by simp; omega))
  have hz5 : w5.heap.size = bx + 1 := by rw [e5, ebx]; simp
  have k1 : Blk w5 gb (List.replicate n (Value.slice none 0 0)).toArray 38 := by
    rw [e5, egb]; exact ((Blk.new w _ _).alloc _).alloc _
  have k2 : Blk w5 tb #[.slice (some ⟨gb, 0, none⟩) n n] 127 := by
    rw [e5, etb, egb]
    have := (Blk.new (w.alloc (.cells (List.replicate n (Value.slice none 0 0)).toArray 38)) #[.slice (some ⟨w.heap.size, 0, none⟩) n n] 127)
    rw [World.size_alloc] at this
    exact this.alloc _
  have k3 : Blk w5 bx #[.slice A n c] 127 := by
    rw [e5, ebx]
    have := Blk.new ((w.alloc (.cells (List.replicate n (Value.slice none 0 0)).toArray 38)).alloc (.cells #[.slice (some ⟨w.heap.size, 0, none⟩) n n] 127)) #[.slice A n c] 127
    rw [World.size_alloc, World.size_alloc] at this
    exact this
  have S0 : RowKit.Hid (TS w w5 gb tb n (List.replicate n (Value.slice none 0 0)) (trnTo (lnkG G) n 0)) := Lib.hid ⟨k2, k1, by rw [trnTo_zero]; exact RowsO.empty _ _ _, hb5⟩
  have L0 := Lib.hid (seqX_any (m' := 12 - 1) (LI.out w5 bx (fun j => j < w.heap.size ∨ j = bx) ⟨fun W' hs hk => by
    refine ⟨?_, ?_⟩
    · rw [← EN.out]
      exact (hk bx (.inr rfl)).trans k3
    · have hbl : Below w.heap.size w { w with heap := W'.heap } := ⟨rfl, rfl, rfl, Nat.le_trans hb5.size hs, fun j hj => (hk j (.inl hj)).trans (hb5.block j hj)⟩
      have := HG.out.below hbl
      exact ⟨this.len, this.out, this.row, this.most, this.mosts⟩, fun j hj => by
    rcases hj with h | rfl
    · exact Nat.lt_of_lt_of_le h hb5.size
    · omega⟩))
  have HB5 := Lib.hid hb5
  have HZ5 := Lib.hid hz5
  have EGB := Lib.hid egb
  have ETB := Lib.hid etb
  have EBX := Lib.hid ebx
  rw [← ebx, ← etb, ← egb]
  clear e5 hb5 hz5 k1 k2 k3 egb etb ebx hmk
  refine wpIn_rangeFunc_own (by decide) (gf := 222) (lb := #[.pointer (some ⟨bx, 0, none⟩)]) rfl (enters_of Tryz.func222 (by kernel_rfl) rfl) L0.out (Below.refl _ _) (fun _ => rfl)
    (fun k A' => ∃ vs', TS w A' gb tb n vs' (trnTo (lnkG G) n k)) (ownC gb n) (TS.fair (fun k => trnTo_len _ _ _) (HB5.out.size)) (fun j hj hc => ?tt) ⟨_, S0.out⟩
    (fun k => { tmps := #[.slice A n c, undef, .slice none 0 0, .pointer (some ⟨tb, 0, none⟩), .int .i64 ((lnkG G).getD k (0, 0)).1, .int .i64 ((lnkG G).getD k (0, 0)).2, .slice A n c, .int .i64 n, .slice (some ⟨gb, 0, none⟩) n n, .slice A n c, .func (.func 222) #[] #[.pointer (some ⟨bx, 0, none⟩)], .int .i64 ((lnkG G).getD k (0, 0)).1, .int .i64 ((lnkG G).getD k (0, 0)).2, undef, undef, undef, undef, undef, undef, undef, undef, undef, undef, undef], defers := [] }) ?assign ?body ?done
  case tt =>
    rcases hc with rfl | ⟨b, v, h1, h2, h3⟩
    · have := EGB.out; have := EBX.out; omega
    · rw [S0.out.cells (by rw [trnTo_len]; exact h1)] at h2
      obtain rfl := Option.some.inj h2
      simp [List.getD, h1, Value.ownBlock] at h3
  case assign =>
    intro l2 k Wa K hK2
    unfold encE
    gi_wp2
    exact hK2
  case body =>
    rintro l2 k Wb ⟨vs', h⟩ hk
    have hE := EL.out k hk
    have ST := Lib.hid (trnTo_step hk (n := n) hE.2)
    obtain ⟨x, ex⟩ : ∃ x, x = ((lnkG G).getD k (0, 0)).1 := ⟨_, rfl⟩
    obtain ⟨y, ey⟩ : ∃ y, y = ((lnkG G).getD k (0, 0)).2 := ⟨_, rfl⟩
    rw [← ex, ← ey] at ST ⊢
    have hy : y < n := by rw [ey]; exact hE.2
    gi_wp2_with fail
    refine wpIn_region_round (by kernel_rfl) (by kernel_rfl) ?_
    have hyl : y < (trnTo (lnkG G) n k).length := by rw [trnTo_len]; exact hy
    have hcy := h.cells hyl
    have hro := h.rows.row y hyl
    have hxs : ((trnTo (lnkG G) n k).getD y []).length ≤ 4096 := by
      rw [trnTo_at hy, List.length_map]
      refine Nat.le_trans (List.length_filter_le _ _) (Nat.le_trans (List.length_take_le' _ _) EM.out)
    obtain ⟨v0, ev0⟩ : ∃ v0, v0 = vs'.getD y undef := ⟨_, rfl⟩
    obtain ⟨xs, exs⟩ : ∃ xs, xs = (trnTo (lnkG G) n k).getD y [] := ⟨_, rfl⟩
    rw [← ev0] at hcy hro
    rw [← exs] at hro hxs
    obtain ⟨W1, eW1⟩ : ∃ W1, W1 = Wb.drew.alloc (.cells #[.int .i64 x] 3) := ⟨_, rfl⟩
    have hB1 : Below Wb.heap.size Wb W1 := by rw [eW1]; exact ⟨rfl, rfl, rfl, by simp, fun k hk => heap_alloc_old Wb.drew _ hk⟩
    obtain ⟨j0, ji, jz0, jz1, jz2⟩ := info_parts Tryz.info3
    obtain ⟨A0, c0, eA0, _, _⟩ := own_slice hro
    obtain ⟨v', W2, hrun, hown', hgrow, hfr⟩ := run_append_onto (P := Tryz.prog) W1 w.heap.size 38 38 3 j0 (.int .i64 0) 1 8 Tryz.underlying38 ji jz0 jz1 jz2 rfl (by decide) v0 xs.length (ints (nums xs)) (own_below hro hB1) (some ⟨Wb.heap.size, 0, none⟩) 1 1 [.int .i64 x] rfl
      (fun ad had jj u hu => by
        cases had
        rw [eW1]
        exact cell_one_new Wb.drew (.int .i64 x) 3 jj u hu) (fun h => by cases h) (by simp [Value.oneCell']) (by unfold maxLen; omega) (by omega) (by have := h.low.size; have := hB1.size; omega)
    obtain ⟨W3, eW3⟩ : ∃ W3, W3 = W2.setCell ⟨gb, y, none⟩ v' := ⟨_, rfl⟩
    have hT2 : Blk W2 tb #[.slice (some ⟨gb, 0, none⟩) n n] 127 := (h.tb.below' hB1).grown hgrow (fun e => own_ne hro h.tb (by decide) e.symm)
    have hG2 : Blk W2 gb vs'.toArray 38 := (h.blk.below' hB1).grown hgrow (fun e => own_ne hro h.blk (by decide) e.symm)
    have htg : tb ≠ gb := by rw [EGB.out, ETB.out]; omega
    have hT3 : Blk W3 tb #[.slice (some ⟨gb, 0, none⟩) n n] 127 := by
      rw [eW3]; exact (heap_setCell_other W2 ⟨gb, y, none⟩ tb _ htg).trans hT2
    have hG3 : Blk W3 gb (vs'.set y v').toArray 38 := by
      rw [eW3]
      have := heap_setCell_same W2 gb y _ _ v' hG2
      simp only [List.setIfInBounds_toArray] at this
      exact this
    obtain ⟨A1, c1, eA1, _, _⟩ := own_slice hown'
    have hf2 := hG2.frozen y
    have hcc2 : W2.cell? ⟨gb, y, none⟩ = some v0 := by
      rw [hG2.cell, ← h.blk.cell]; exact hcy
    obtain ⟨Ws, w0e, w1e, w2e, w3e⟩ : ∃ Ws : Nat → World, Ws 0 = Wb.drew ∧ Ws 1 = W1 ∧ Ws 2 = W2 ∧ Ws 3 = W3 := ⟨fun p => match p with | 0 => Wb.drew | 1 => W1 | 2 => W2 | _ => W3, rfl, rfl, rfl, rfl⟩
    have cT : ∀ p, p ≤ 3 → (Ws p).cell? ⟨tb, 0, none⟩ = some (.slice (some ⟨gb, 0, none⟩) n n) := fun p hp => by
      match p, hp with
      | 0, _ => rw [w0e]; exact h.tb.cell 0
      | 1, _ => rw [w1e]; exact (h.tb.below' hB1).cell 0
      | 2, _ => rw [w2e]; exact hT2.cell 0
      | 3, _ => rw [w3e]; exact hT3.cell 0
    have cG : ∀ p, p ≤ 1 → (Ws p).cell? ⟨gb, y, none⟩ = some v0 := fun p hp => by
      match p, hp with
      | 0, _ => rw [w0e]; exact hcy
      | 1, _ => rw [w1e, (h.blk.below' hB1).cell, ← h.blk.cell]; exact hcy
    have hyn : (y : Int) < n := by omega
    have WE := Lib.hid (And.intro w0e (And.intro w1e (And.intro w2e w3e)))
    have HS := Lib.hid h
    have EB := Lib.hid (show Blk W2 gb vs'.toArray 38 from hG2)
    have EX := Lib.hid ex
    have EY := Lib.hid ey
    have EV0 := Lib.hid ev0
    have EXS := Lib.hid exs
    have EW1 := Lib.hid eW1
    have EW3 := Lib.hid eW3
    have EA1 := Lib.hid eA1
    have hny : ¬ n ≤ y := by omega
    clear ex ey ev0 exs eW1 eW3 eA1 eA0
    refine wpAnyIn_phases (by kernel_rfl) (by kernel_rfl) 3 Ws (fun q => match q with | 0 => 7 | 1 => 8 | _ => 10)
      (fun j => match j with | 0 => .slice (some ⟨gb, 0, none⟩) n n | 1 => .int .i64 y | 2 => .slice (some ⟨gb, 0, none⟩) n n | 3 => .int .i64 y | 4 => .pointer (some ⟨gb, y, none⟩) | 5 => v0 | 6 => .int .i64 x | 7 => .slice (some ⟨Wb.heap.size, 0, none⟩) 1 1 | 8 => v' | 9 => .pointer (some ⟨gb, y, none⟩) | _ => undef)
      w0e (by kernel_rfl) ?hop ?hend
    case hend =>
      intro a _ _ _ _
      rw [w3e]
      have hg0 : W1.grownBy W2 v0.ownBlock := hgrow
      have hWsz : Wb.heap.size ≤ W2.heap.size := Nat.le_trans hB1.size hgrow.size
      have hcg : ∀ j, j < Wb.heap.size → ¬ ownC gb n j Wb → W3.heap[j]? = Wb.heap[j]? := fun j hj hc => by
        rw [EW3.out]
        refine (heap_setCell_other W2 ⟨gb, y, none⟩ j _ (fun e => hc (.inl e))).trans ((hgrow.block j (Nat.lt_of_lt_of_le hj hB1.size) (fun e => hc (.inr ⟨y, v0, hy, hcy, e.symm⟩))).trans (hB1.block j hj))
      have hl := h.rows.len
      have hr2 : RowsO w.heap.size W2 (vs'.set y v') ((trnTo (lnkG G) n k).set y (xs ++ [x])) := by
        have hW1 := h.rows.below hB1
        refine hW1.grow hyl ?_ (by rw [← EV0.out]; exact hgrow) (by rw [← EV0.out]; exact hfr)
        rw [nums_app]
        have e1 : ints (nums xs ++ [(x : Int)]) = ints (nums xs) ++ [.int .i64 x] := by simp [ints]
        rw [e1, List.length_append]
        exact hown'
      have hr3 : RowsO w.heap.size W3 (vs'.set y v') ((trnTo (lnkG G) n k).set y (xs ++ [x])) := by
        refine hr2.kept fun i q hi hq => ?_
        rw [EW3.out]
        exact heap_setCell_other W2 ⟨gb, y, none⟩ q _ (fun e => own_ne (hr2.row i hi) hG2 (by decide) (by rw [hq]; exact congrArg some e))
      have hlow : Below w.heap.size w W3 := by
        rw [EW3.out]
        refine Below.setCell ?_ (p := ⟨gb, y, none⟩) (by show w.heap.size ≤ gb; rw [EGB.out]; exact Nat.le_refl _) _
        exact grown_below (h.low.trans (hB1.mono h.low.size)) (Nat.le_trans h.low.size hB1.size) hgrow (fun q hq => (hro.lt q hq).1)
      refine ⟨⟨by rw [EW3.out]; simpa [World.setCell] using hWsz, hcg, fun j hj hc => ?_⟩, vs'.set y v', hT3, hG3, by rw [ST.out, ← EXS.out]; exact hr3, hlow⟩
      rcases hc with hc | ⟨b, v, h1, h2, h3⟩
      · exact .inl hc
      · rw [hG3.cell, List.getElem?_toArray] at h2
        by_cases e : b = y
        · subst e
          rw [List.getElem?_set_self (by omega)] at h2
          obtain rfl := Option.some.inj h2
          rcases hfr j h3 with h4 | h4
          · exact .inr ⟨b, v0, hy, hcy, h4⟩
          · have := hB1.size; omega
        · rw [List.getElem?_set_ne (fun h => e h.symm)] at h2
          exact .inr ⟨b, v, h1, by rw [h.blk.cell, List.getElem?_toArray]; exact h2, h3⟩
    case hop =>
      intro j o hj p a hp e1 e2 e3 hrest hdep
      have hj11 : j < 11 := (Array.getElem?_eq_some_iff.1 hj).1
      have q3 : a.tmps[3]?.getD undef = .pointer (some ⟨tb, 0, none⟩) := by have := hrest 3 (by kernel_rfl); rw [Array.getD_eq_getD_getElem?] at this; exact this
      have q4 : a.tmps[4]?.getD undef = .int .i64 x := by have := hrest 4 (by kernel_rfl); rw [Array.getD_eq_getD_getElem?] at this; exact this
      have q5 : a.tmps[5]?.getD undef = .int .i64 y := by have := hrest 5 (by kernel_rfl); rw [Array.getD_eq_getD_getElem?] at this; exact this
      have cTp := cT p hp
      have H1 := Lib.hid e1
      have H3 := Lib.hid e3
      have HD := Lib.hid hdep
      clear hrest e1 e2 e3 hdep w0e w1e w2e w3e h hT2 hG2 hT3 hG3 cT hcy
      rcases (show j = 0 ∨ j = 1 ∨ j = 2 ∨ j = 3 ∨ j = 4 ∨ j = 5 ∨ j = 6 ∨ j = 7 ∨ j = 8 ∨ j = 9 ∨ j = 10 by omega) with rfl | rfl | rfl | rfl | rfl | rfl | rfl | rfl | rfl | rfl | rfl
      all_goals (simp only [List.getElem?_toArray, List.getElem?_cons_zero, List.getElem?_cons_succ, Option.some.injEq] at hj; subst hj)
      · refine Gives.value (v := .slice (some ⟨gb, 0, none⟩) n n) (w := Ws p) ?_ ⟨rfl, rfl⟩
        go_simp
      · refine Gives.value (v := .int .i64 y) (w := Ws p) ?_ ⟨rfl, rfl⟩
        go_simp
      · refine Gives.value (v := .slice (some ⟨gb, 0, none⟩) n n) (w := Ws p) ?_ ⟨rfl, rfl⟩
        go_simp
      · refine Gives.value (v := .int .i64 y) (w := Ws p) ?_ ⟨rfl, rfl⟩
        go_simp
      · have d15 : a.tmps[15]?.getD undef = .slice (some ⟨gb, 0, none⟩) n n := by have := HD.out 2 _ 15 rfl rfl (by kernel_rfl); rw [Array.getD_eq_getD_getElem?] at this; exact this
        have d16 : a.tmps[16]?.getD undef = .int .i64 y := by have := HD.out 3 _ 16 rfl rfl (by kernel_rfl); rw [Array.getD_eq_getD_getElem?] at this; exact this
        refine Gives.value (v := .pointer (some ⟨gb, y, none⟩)) (w := Ws p) ?_ ⟨rfl, rfl⟩
        go_simp
      · have d17 : a.tmps[17]?.getD undef = .pointer (some ⟨gb, y, none⟩) := by have := HD.out 4 _ 17 rfl rfl (by kernel_rfl); rw [Array.getD_eq_getD_getElem?] at this; exact this
        have hp1 : p ≤ 1 := H3.out 1 (by omega) (by kernel_rfl)
        have cGp := cG p hp1
        refine Gives.value (v := v0) (w := Ws p) ?_ ⟨rfl, rfl⟩
        go_simp
      · refine Gives.value (v := .int .i64 x) (w := Ws p) ?_ ⟨rfl, rfl⟩
        go_simp
      · have d19 : a.tmps[19]?.getD undef = .int .i64 x := by have := HD.out 6 _ 19 rfl rfl (by kernel_rfl); rw [Array.getD_eq_getD_getElem?] at this; exact this
        obtain rfl : p = 0 := H1.out 0 (by omega) rfl
        obtain ⟨w0e, w1e, w2e, w3e⟩ := WE.out
        refine Gives.value (v := .slice (some ⟨Wb.heap.size, 0, none⟩) 1 1) (w := W1) ?_ ⟨rfl, w1e.symm⟩
        rw [w0e, EW1.out]
        go_simp
      · have d18 : a.tmps[18]?.getD undef = v0 := by have := HD.out 5 _ 18 rfl rfl (by kernel_rfl); rw [Array.getD_eq_getD_getElem?] at this; exact this
        have d20 : a.tmps[20]?.getD undef = .slice (some ⟨Wb.heap.size, 0, none⟩) 1 1 := by have := HD.out 7 _ 20 rfl rfl (by kernel_rfl); rw [Array.getD_eq_getD_getElem?] at this; exact this
        obtain rfl : p = 1 := H1.out 1 (by omega) rfl
        obtain ⟨w0e, w1e, w2e, w3e⟩ := WE.out
        refine Gives.value (v := v') (w := W2) ?_ ⟨rfl, w2e.symm⟩
        rw [w1e]
        have d18' : a.eval (.tmp 18) = v0 := HD.out 5 _ 18 rfl rfl (by kernel_rfl)
        have d20' : a.eval (.tmp 20) = .slice (some ⟨Wb.heap.size, 0, none⟩) 1 1 := HD.out 7 _ 20 rfl rfl (by kernel_rfl)
        simp only [execOp, resolve, invoke, builtin, Sem.run_bind, Sem.run_pure, Result.andThen_ok, List.map_toArray, List.map_cons, List.map_nil, d18', d20', hrun]
      · have d13 : a.tmps[13]?.getD undef = .slice (some ⟨gb, 0, none⟩) n n := by have := HD.out 0 _ 13 rfl rfl (by kernel_rfl); rw [Array.getD_eq_getD_getElem?] at this; exact this
        have d14 : a.tmps[14]?.getD undef = .int .i64 y := by have := HD.out 1 _ 14 rfl rfl (by kernel_rfl); rw [Array.getD_eq_getD_getElem?] at this; exact this
        refine Gives.value (v := .pointer (some ⟨gb, y, none⟩)) (w := Ws p) ?_ ⟨rfl, rfl⟩
        go_simp
      · have d22 : a.tmps[22]?.getD undef = .pointer (some ⟨gb, y, none⟩) := by have := HD.out 9 _ 22 rfl rfl (by kernel_rfl); rw [Array.getD_eq_getD_getElem?] at this; exact this
        have d21 : a.tmps[21]?.getD undef = v' := by have := HD.out 8 _ 21 rfl rfl (by kernel_rfl); rw [Array.getD_eq_getD_getElem?] at this; exact this
        obtain rfl : p = 2 := H1.out 2 (by omega) rfl
        obtain ⟨w0e, w1e, w2e, w3e⟩ := WE.out
        rw [w2e]
        refine Gives.skip (w := W3) ?_ ⟨rfl, w3e.symm⟩
        rw [EW3.out, EA1.out]
        rw [EA1.out] at d21
        clear hrun hown' hfr hgrow
        go_simp
  case done =>
    rintro D W6 rfl ⟨vs', h⟩ hk hd
    have HS := Lib.hid h
    have HD := Lib.hid hd
    have c1 := h.tb.cell 0
    simp only [List.getElem?_toArray, List.getElem?_cons_zero, List.getElem?_cons_succ] at c1
    clear h hd hk
    gi_wp2_with fail
    show LeavesInM _ _ _ _ _ _ _ _ _
    refine leaves_one (D := w5.heap.size) HD.out (fun o => ?_)
    have hn : NoCells W6 w5.heap.size := nc_def HD.out
    refine ⟨_, by simp [results, Tryz.f122, go_sem], gb, vs', rfl, blk_putX HS.out.blk hn o, ?_, by have := EGB.out; omega, below_putX HS.out.low o HB5.out.size⟩
    rw [TE.out]
    exact HS.out.rows.putX hn o
end Go.Proofs.YtlbjmkljmhfjdaaGreat
namespace Go.Proofs.YtlbjmkljmhfjdaaGreat
open Go Go.RowKit Go.Maps
def idxI (l : List Int) (x : Int) : Int := match l.findIdx? fun y => y == x with | some i => i | none => -1
theorem idxI_some {l : List Int} {x : Int} {k : Nat} (h : k < l.length) (he : l.getD k 0 = x) (hn : ∀ j, j < k → l.getD j 0 ≠ x) : idxI l x = k := by
  have : (l.findIdx? fun y => y == x) = some k := by
    rw [List.findIdx?_eq_some_iff_getElem]
    refine ⟨h, ?_, fun j hj => ?_⟩
    · have : l[k] = l.getD k 0 := by simp [List.getD, List.getElem?_eq_getElem h]
      rw [this, he]; simp
    · have h2 := hn j hj
      have : l[j]'(by omega) = l.getD j 0 := by simp [List.getD, List.getElem?_eq_getElem (show j < l.length by omega)]
      rw [this]; simpa using h2
  unfold idxI
  rw [this]
theorem idxI_none {l : List Int} {x : Int} (hn : ∀ j, j < l.length → l.getD j 0 ≠ x) : idxI l x = -1 := by
  have : (l.findIdx? fun y => y == x) = none := by
    rw [List.findIdx?_eq_none_iff]
    intro y hy
    obtain ⟨j, hj, rfl⟩ := List.getElem_of_mem hy
    have h2 := hn j hj
    have : l[j] = l.getD j 0 := by simp [List.getD, List.getElem?_eq_getElem hj]
    rw [this]; simpa using h2
  unfold idxI
  rw [this]
theorem idxI_mem (l : List Int) (x : Int) : 0 ≤ idxI l x ↔ x ∈ l := by
  unfold idxI
  cases h : l.findIdx? fun y => y == x with
  | none =>
    rw [List.findIdx?_eq_none_iff] at h
    refine ⟨fun h => by simp at h, fun hm => ?_⟩
    have := h x hm
    simp at this
  | some i =>
    rw [List.findIdx?_eq_some_iff_getElem] at h
    obtain ⟨hi, h1, _⟩ := h
    simp only [beq_iff_eq] at h1
    exact ⟨fun _ => h1 ▸ List.getElem_mem hi, fun _ => by show (0 : Int) ≤ (i : Int); omega⟩
set_option maxRecDepth 100000 in
set_option maxHeartbeats 1000000 in
theorem c_index_any (A : Option Addr) (c n : Nat) (l : List Int) (x : Int) (hl : l.length ≤ 140737488351232) (w : World) (hA : Lies w A (ints l)) (en : n = l.length) :
    Calls Tryz.prog 181 #[.slice A n c, .int .i64 x] w fun e w' => e = .returned (.int .i64 (idxI l x)) ∧ w' = w := by
  have CL := Lib.hid (fun k (hk : k < n) => lies_cell hA (k := k) (by rw [← en]; exact hk))
  have IS := Lib.hid (fun k (hk : k < n) => idxI_some (l := l) (x := x) (k := k) (by rw [← en]; exact hk))
  have IN := Lib.hid (show (∀ j, j < n → l.getD j 0 ≠ x) → idxI l x = -1 from fun h => idxI_none (fun j hj => h j (by omega)))
  rw [← en] at hl
  generalize idxI l x = R at IS IN ⊢
  clear hA en
  go_enter Tryz.func181, Tryz.ntmps181
  go_wp2_with fail
  go_loopw [8, 5] (fun i _ wr => ∃ (k : Nat), k ≤ n ∧ i = .int .i64 k ∧ (∀ j, j < k → l.getD j 0 ≠ x) ∧ wr = w) (fun i _ _ => n - (RowKit.intOf i).toNat)
  case atStart => exact ⟨0, by omega, rfl, fun j h => by omega, rfl⟩
  case round =>
    obtain ⟨k, hk, rfl, hr, rfl⟩ := hrel
    have HR := Lib.hid hr
    clear hr
    by_cases hlt : k < n
    · have hlt2 : (k : Int) < n := by omega
      obtain ⟨b1, o1, rfl, hb1, c1⟩ := CL.out k hlt
      obtain ⟨y, ey⟩ : ∃ y, y = l.getD k 0 := ⟨_, rfl⟩
      have EY := Lib.hid ey
      rw [← ey] at c1
      clear ey
      by_cases hxy : x = y
      · obtain rfl : y = x := hxy.symm
        go_wp2_with fail
        go_ret
        refine ⟨?_, rfl⟩
        rw [IS.out k hlt EY.out.symm HR.out]; rfl
      · go_wp2_with fail
        go_roundw
        case rel =>
          refine ⟨k + 1, by omega, by go_num, fun j hj => ?_, by first | rfl | trivial⟩
          by_cases e : j = k
          · subst e; rw [← EY.out]; exact fun h => hxy h.symm
          · exact HR.out j (by omega)
        case measure => simp [RowKit.intOf]; omega
    · obtain rfl : k = n := by omega
      have hlt2 : ¬ (k : Int) < k := by omega
      go_wp2_with fail
      go_ret
      exact ⟨by rw [IN.out HR.out]; rfl, rfl⟩
theorem contains_any (A : Option Addr) (c n : Nat) (l : List Int) (x : Int) (hl : l.length ≤ 140737488351232) (w : World) (hA : Lies w A (ints l)) (en : n = l.length) :
    Calls Tryz.prog 118 #[.slice A n c, .int .i64 x] w fun e w' => e = .returned (.bool (decide (x ∈ l))) ∧ w' = w := by
  have C := Lib.hid (c_index_any A c n l x hl w hA en)
  have I := Lib.hid (idxI_mem l x)
  generalize idxI l x = r at C I
  obtain ⟨q, eq⟩ : ∃ q, q = decide (x ∈ l) := ⟨_, rfl⟩
  have EQ := Lib.hid eq
  rw [← eq]
  clear hA en hl eq
  go_enter Tryz.func118, Tryz.ntmps118
  go_wp2_with (go_at_call 181; (with_reducible refine C.out.mono ?_); rintro e w1 ⟨rfl, rfl⟩)
  go_ret
  exact ⟨ret_bool (by rw [EQ.out]; exact decide_eq_decide.2 I.out), rfl⟩
theorem GT.of_gph {w : World} {A : Option Addr} {c : Nat} {vs : List Value} {G : List (List Nat)} (h : Gph w A vs (G.map nums)) : GT w (fun j => j < w.heap.size) A c vs G :=
  ⟨fun W' hs hk => by
    have hb : Below w.heap.size w { w with heap := W'.heap } := ⟨rfl, rfl, rfl, hs, fun j hj => hk j hj⟩
    have := h.below hb
    exact ⟨this.len, this.out, this.row, this.most, this.mosts⟩, fun _ h => h⟩
theorem Tryz.made_search (gv : Value) : Tryz.zeroCells200.setIfInBounds 0 gv = (searchCells gv fun _ => false).toArray := by rfl
theorem Tryz.ones_search (gv : Value) (h : gv.oneCell' = true := by rfl) : (searchCells gv fun _ => false).toArray.all (·.oneCell') = true := by
  rw [List.all_toArray]
  simp only [searchCells, List.all_cons, h, Bool.true_and, List.all_map]
  rw [List.all_eq_true]
  intro x _
  rfl
theorem unmet_none : c_unmet (fun _ => false) = 64 := by decide
theorem c_mem_nums {L : List Nat} {k : Int} : k ∈ nums L ↔ 0 ≤ k ∧ k.toNat ∈ L := by
  unfold nums
  rw [List.mem_map]
  constructor
  · rintro ⟨x, hx, rfl⟩; exact ⟨by omega, by simpa using hx⟩
  · rintro ⟨h1, h2⟩; exact ⟨_, h2, by omega⟩
end Go.Proofs.YtlbjmkljmhfjdaaGreat
namespace Go.Proofs.YtlbjmkljmhfjdaaGreat
open Go Go.Proofs Go.Shelf Go.RowKit Go.Lib Go.Maps
theorem sorted_heap {α : Type} [Inhabited α] (enc : α → Value) (w : World) (g m : Nat) (d : Array α) (os : Array Obj) (k : Nat) (hk : k < w.heap.size) :
    (Go.Sort.grow (Go.Sort.putRow enc (Go.Sort.ahead w m) g 0 d) os).heap[k]? = if k = g then (w.heap[k]?).map (Go.Sort.onCells (Go.Sort.putCells enc 0 d)) else w.heap[k]? := by
  unfold Go.Sort.putRow
  rw [Go.Sort.heap_grow_old _ _ (by simpa [Go.Sort.mapBlock] using hk)]
  simp only [Go.Sort.mapBlock, Array.getElem?_modify]
  by_cases h : g = k
  · subst h; simp
  · rw [if_neg h, if_neg (Ne.symm h)]; rfl
theorem sorted_grown {α : Type} [Inhabited α] (enc : α → Value) (w : World) (g m : Nat) (d : Array α) (os : Array Obj) : w.grownBy (Go.Sort.grow (Go.Sort.putRow enc (Go.Sort.ahead w m) g 0 d) os) (some g) := by
  refine ⟨rfl, rfl, rfl, ?_, fun k hk hne => ?_⟩
  · unfold Go.Sort.putRow
    simp [Go.Sort.mapBlock, Go.Sort.ahead]
  · rw [sorted_heap _ _ _ _ _ _ _ hk, if_neg (fun e => hne (by rw [e]))]
theorem own_sorted {α : Type} [Inhabited α] (enc : α → Value) {w : World} {base e g cap n m : Nat} {xs : List Value} {d : Array α} {os : Array Obj} (h : w.ownsRow base e 1 (.slice (some ⟨g, 0, none⟩) n cap) n xs) (hn : d.size = n) :
    (Go.Sort.grow (Go.Sort.putRow enc (Go.Sort.ahead w m) g 0 d) os).ownsRow base e 1 (.slice (some ⟨g, 0, none⟩) n cap) n (d.toList.map enc) := by
  refine ⟨by simp [hn], ?_⟩
  rcases h.2 with ⟨h0, _⟩ | ⟨g', cap', cur, h1, h2, h3, h4, h5, h6, h7⟩
  · cases h0
  · cases h1
    have hg : g < w.heap.size := (Array.getElem?_eq_some_iff.1 h3).1
    refine .inr ⟨g, cap, Go.Sort.putCells enc 0 d cur, rfl, h2, ?_, h4, h5, ?_, ?_⟩
    · rw [sorted_heap _ _ _ _ _ _ _ hg, if_pos rfl, h3]; rfl
    · simp [Go.Sort.putCells, h6]
    · apply List.ext_getElem?
      intro j
      rw [List.getElem?_take]
      split
      · rename_i hj
        have hj2 : j < d.size := by omega
        have hc : j < cur.size := by rw [h6]; omega
        simp only [Go.Sort.putCells, Array.getElem?_toList, Array.getElem?_mapIdx, Array.getElem?_eq_getElem hc, Option.map_some, Nat.zero_le, true_and, Nat.zero_add, if_pos hj2, Nat.sub_zero, List.getElem?_map]
        rw [Array.getElem?_eq_getElem hj2, getElem!_pos d j hj2]
        rfl
      · rename_i hj
        rw [List.getElem?_eq_none]
        simp; omega
theorem holds_own {α : Type} [Inhabited α] (enc : α → Value) {w : World} {base e g cap : Nat} {d : Array α} (h : w.ownsRow base e 1 (.slice (some ⟨g, 0, none⟩) d.size cap) d.size (d.toList.map enc)) : Go.Sort.Holds enc w g 0 d := by
  intro j hj
  rw [Nat.zero_add]
  refine ⟨?_, h.frozenAt j⟩
  rw [h.cellAt j (by omega), List.getElem?_map, Array.getElem?_toList, Array.getElem?_eq_getElem hj, getElem!_pos d j hj]
  rfl
def srt (l : List Int) : List Int := l.mergeSort fun x y => decide (x ≤ y)
theorem sort_ints (base g cap : Nat) (xs : List Int) (w : World) (hl : xs.length ≤ 100000) (h : w.ownsRow base 3 1 (.slice (some ⟨g, 0, none⟩) xs.length cap) xs.length (ints xs)) :
    Calls Tryz.prog 218 #[.slice (some ⟨g, 0, none⟩) xs.length cap] w fun e w' => (∃ u, e = .returned u) ∧ w'.ownsRow base 3 1 (.slice (some ⟨g, 0, none⟩) xs.length cap) xs.length (ints (srt xs)) ∧ w.grownBy w' (some g) := by
  have hcon := Tryz.slices_Sort_int g 0 cap xs w (holds_own (.int .i64) (base := base) (e := 3) (cap := cap) (by simpa [ints] using h)) (h.lt g rfl).2 (by omega)
  refine hcon.mono ?_
  rintro e w' ⟨rfl, m, os, rfl⟩
  refine ⟨⟨_, rfl⟩, ?_, sorted_grown _ _ _ _ _ _⟩
  have := own_sorted (.int .i64) (m := m) (os := os) (d := (xs.mergeSort fun x y => decide (x ≤ y)).toArray) h (by simp)
  simpa [ints, srt] using this
/-- Compare, as rows of numbers. -/
def cmpL : List Int → List Int → Int
  | [], [] => 0
  | [], _ :: _ => -1
  | _ :: _, [] => 1
  | a :: l, b :: k => if a < b then -1 else if b < a then 1 else cmpL l k
theorem isNaN_any (a : Int) (w : World) : Calls Tryz.prog 254 #[.int .i64 a] w fun e w' => e = .returned (.bool false) ∧ w' = w := by
  go_enter Tryz.func254, Tryz.ntmps254
  go_wp2_with fail
  all_goals go_ret
  all_goals exact ⟨ret_bool (by simp), rfl⟩
theorem cmpInt_any (a b : Int) (w : World) : Calls Tryz.prog 221 #[.int .i64 a, .int .i64 b] w fun e w' => e = .returned (.int .i64 (if a < b then -1 else if b < a then 1 else 0)) ∧ w' = w := by
  have N := Lib.hid (fun x => isNaN_any x w)
  by_cases h1 : a < b
  · rw [if_pos h1]
    go_enter Tryz.func221, Tryz.ntmps221
    go_wp2_with (go_at_call 254; (with_reducible refine (N.out _).mono ?_); rintro e w1 ⟨rfl, rfl⟩)
    go_ret
    exact ⟨rfl, rfl⟩
  · rw [if_neg h1]
    by_cases h2 : b < a
    · rw [if_pos h2]
      go_enter Tryz.func221, Tryz.ntmps221
      go_wp2_with (go_at_call 254; (with_reducible refine (N.out _).mono ?_); rintro e w1 ⟨rfl, rfl⟩)
      go_ret
      exact ⟨rfl, rfl⟩
    · rw [if_neg h2]
      go_enter Tryz.func221, Tryz.ntmps221
      go_wp2_with (go_at_call 254; (with_reducible refine (N.out _).mono ?_); rintro e w1 ⟨rfl, rfl⟩)
      go_ret
      exact ⟨rfl, rfl⟩
set_option maxRecDepth 100000 in
set_option maxHeartbeats 2000000 in
theorem compare_any (A B : Option Addr) (c d : Nat) (a b : List Int) (ha : a.length ≤ 140737488351232) (hb : b.length ≤ 140737488351232) (w : World) (hA : Lies w A (ints a)) (hB : Lies w B (ints b)) :
    Calls Tryz.prog 176 #[.slice A a.length c, .slice B b.length d] w fun e w' => e = .returned (.int .i64 (cmpL a b)) ∧ w' = w := by
  obtain ⟨n, en⟩ : ∃ n, n = a.length := ⟨_, rfl⟩
  obtain ⟨m, em⟩ : ∃ m, m = b.length := ⟨_, rfl⟩
  have CA := Lib.hid (fun k (hk : k < n) => lies_cell hA (k := k) (by rw [← en]; exact hk))
  have CB := Lib.hid (fun k (hk : k < m) => lies_cell hB (k := k) (by rw [← em]; exact hk))
  have DA := Lib.hid (fun k (hk : k < n) => drop_getD (l := a) (j := k) (d := 0) (by rw [← en]; exact hk))
  have DB := Lib.hid (fun k (hk : k < m) => drop_getD (l := b) (j := k) (d := 0) (by rw [← em]; exact hk))
  have EA := Lib.hid (fun k (hk : n ≤ k) => show a.drop k = [] from List.drop_eq_nil_of_le (by rw [← en]; exact hk))
  have EB := Lib.hid (fun k (hk : m ≤ k) => show b.drop k = [] from List.drop_eq_nil_of_le (by rw [← em]; exact hk))
  obtain ⟨R, eR⟩ : ∃ R, R = cmpL a b := ⟨_, rfl⟩
  have ER := Lib.hid eR
  have CI := Lib.hid (fun x y w' => cmpInt_any x y w')
  rw [← en, ← em, ← eR]
  rw [← en] at ha
  rw [← em] at hb
  clear hA hB en em eR
  go_enter Tryz.func176, Tryz.ntmps176
  go_wp2_with fail
  go_loopw [11, 5, 6, 7, 8] (fun i _ _ _ _ wr => ∃ (k : Nat), k ≤ n ∧ k ≤ m ∧ i = .int .i64 k ∧ cmpL (a.drop k) (b.drop k) = R ∧ wr = w) (fun i _ _ _ _ _ => n - (RowKit.intOf i).toNat)
  case atStart => exact ⟨0, by omega, by omega, rfl, by rw [ER.out]; rfl, rfl⟩
  case round =>
    obtain ⟨k, hk, hkm, rfl, hr, rfl⟩ := hrel
    by_cases hlt : k < n
    · have hlt2 : (k : Int) < n := by omega
      obtain ⟨b1, o1, eA, hb1, c1⟩ := CA.out k hlt
      rw [DA.out k hlt] at hr
      rw [eA]
      clear eA
      by_cases hlm : k < m
      · have hlm2 : (k : Int) < m := by omega
        obtain ⟨b2, o2, eB, hb2, c2⟩ := CB.out k hlm
        rw [DB.out k hlm] at hr
        rw [eB]
        clear eB
        generalize a.getD k 0 = x at c1 hr
        generalize b.getD k 0 = y at c2 hr
        have hr2 : (if x < y then (-1 : Int) else if y < x then 1 else cmpL (a.drop (k + 1)) (b.drop (k + 1))) = R := hr
        have C0 := Lib.hid (CI.out x y wr)
        clear hr
        by_cases h1 : x < y
        · rw [if_pos h1] at hr2 C0
          have HR := Lib.hid hr2
          clear hr2
          go_wp2_with (go_at_call 221; (with_reducible refine C0.out.mono ?_); rintro e w1 ⟨rfl, rfl⟩)
          go_ret
          exact ⟨by rw [← HR.out]; rfl, rfl⟩
        · rw [if_neg h1] at hr2 C0
          by_cases h2 : y < x
          · rw [if_pos h2] at hr2 C0
            have HR := Lib.hid hr2
            clear hr2
            go_wp2_with (go_at_call 221; (with_reducible refine C0.out.mono ?_); rintro e w1 ⟨rfl, rfl⟩)
            go_ret
            exact ⟨by rw [← HR.out]; rfl, rfl⟩
          · rw [if_neg h2] at hr2 C0
            have HR := Lib.hid hr2
            clear hr2
            go_wp2_with (go_at_call 221; (with_reducible refine C0.out.mono ?_); rintro e w1 ⟨rfl, rfl⟩)
            go_roundw
            case rel => exact ⟨k + 1, by omega, by omega, by go_num, HR.out, by first | rfl | trivial⟩
            case measure => simp [RowKit.intOf]; omega
      · have hlm2 : ¬ (k : Int) < m := by omega
        have hlm3 : (m : Int) ≤ k := by omega
        rw [EB.out k (by omega)] at hr
        have hr2 : (1 : Int) = R := hr
        have HR := Lib.hid hr2
        clear hr hr2
        go_wp2_with fail
        go_ret
        exact ⟨by rw [← HR.out]; rfl, rfl⟩
    · obtain rfl : k = n := by omega
      have hlt2 : ¬ (k : Int) < k := by omega
      rw [EA.out k (Nat.le_refl _)] at hr
      by_cases hlm : k < m
      · have hlm2 : (k : Int) < m := by omega
        rw [DB.out k hlm] at hr
        have hr2 : (-1 : Int) = R := hr
        have HR := Lib.hid hr2
        clear hr hr2
        go_wp2_with fail
        go_ret
        exact ⟨by rw [← HR.out]; rfl, rfl⟩
      · have hlm2 : ¬ (k : Int) < m := by omega
        rw [EB.out k (by omega)] at hr
        have hr2 : (0 : Int) = R := hr
        have HR := Lib.hid hr2
        clear hr hr2
        go_wp2_with fail
        go_ret
        exact ⟨by rw [← HR.out]; rfl, rfl⟩
end Go.Proofs.YtlbjmkljmhfjdaaGreat
namespace Go.Proofs.YtlbjmkljmhfjdaaGreat
open Go Go.Proofs Go.Shelf Go.RowKit Go.Lib Go.Maps
theorem cmp_heads {l k : List Nat} (hl : l ≠ []) (hk : k ≠ []) (h : l = k ∨ l.getD 0 0 ≠ k.getD 0 0) : decide (cmpL (nums l) (nums k) < 0) = decide (l.getD 0 0 < k.getD 0 0) := by
  have self : ∀ x : List Int, cmpL x x = 0 := fun x => by
    induction x with
    | nil => rfl
    | cons a x ih => simp [cmpL, ih]
  rcases h with rfl | h
  · rw [self]; simp
  · cases l with
    | nil => exact absurd rfl hl
    | cons a l =>
      cases k with
      | nil => exact absurd rfl hk
      | cons b k =>
        have hab : a ≠ b := by simpa using h
        simp only [nums, List.map_cons, cmpL]
        by_cases h1 : a < b
        · rw [if_pos (by omega)]
          simp [h1]
        · rw [if_neg (by omega), if_pos (by omega)]
          simp; omega
theorem perm_getD {α : Type} (l : List α) (d : α) : (List.range l.length).map (fun i => l.getD i d) = l := by
  refine List.ext_getElem (by simp) fun i h1 h2 => ?_
  simp [List.getD, List.getElem?_eq_getElem h2]
/-- Rows in another order. -/
theorem RowsO.order {B : Nat} {W : World} {vs : List Value} {L : List (List Nat)} {s : List Nat} (h : RowsO B W vs L) (hs : s.Nodup) (hl : ∀ i ∈ s, i < L.length) : RowsO B W (s.map fun i => vs.getD i undef) (s.map fun i => L.getD i []) := by
  have e : ∀ i, (hi : i < s.length) → (s.map fun i => vs.getD i undef).getD i undef = vs.getD s[i] undef ∧ (s.map fun i => L.getD i []).getD i [] = L.getD s[i] [] ∧ s[i] < L.length := fun i hi => by
    refine ⟨?_, ?_, hl _ (List.getElem_mem hi)⟩ <;> simp [List.getD, List.getElem?_eq_getElem hi]
  refine ⟨by simp, fun i hi => ?_, fun i j k hi hj hij hk => ?_⟩
  · have hi' : i < s.length := by simpa using hi
    obtain ⟨e1, e2, e3⟩ := e i hi'
    rw [e1, e2]
    exact h.row _ e3
  · have hi' : i < s.length := by simpa using hi
    have hj' : j < s.length := by simpa using hj
    obtain ⟨e1, _, e3⟩ := e i hi'
    obtain ⟨f1, _, f3⟩ := e j hj'
    rw [e1] at hk
    rw [f1]
    exact h.apart _ _ k e3 f3 (fun e => hij ((List.getElem_inj hs).1 e)) hk
set_option maxRecDepth 100000 in
set_option maxHeartbeats 1000000 in
theorem sort_rows (B B' g cap k : Nat) (vs : List Value) (L : List (List Nat)) (w : World) (hk : k = L.length) (h0 : 0 < k) (hm : k ≤ 1000) (hms : ∀ i, i < L.length → (L.getD i []).length ≤ 1000) (hne : ∀ i, i < L.length → L.getD i [] ≠ []) (hd : ∀ i j, i < L.length → j < L.length → i ≠ j → (L.getD i []).getD 0 0 ≠ (L.getD j []).getD 0 0)
    (ho : w.ownsRow B 38 1 (.slice (some ⟨g, 0, none⟩) k cap) k vs) (hR : RowsO B' w vs L) :
    Calls Tryz.prog 175 #[.slice (some ⟨g, 0, none⟩) k cap, .func (.func 176) #[] #[]] w fun e w' => ∃ vs' L', (∃ u, e = .returned u) ∧ L'.Perm L ∧ (L'.Pairwise fun p q => p.getD 0 0 ≤ q.getD 0 0) ∧ w'.ownsRow B 38 1 (.slice (some ⟨g, 0, none⟩) k cap) k vs' ∧ RowsO B' w' vs' L' ∧ w.grownBy w' (some g) := by
  let cl : Nat → Nat := fun i => if i < k then i else 0
  have hcl : ∀ i, cl i < k := fun i => by simp only [cl]; split <;> omega
  have hcl2 : ∀ i, i < k → cl i = i := fun i hi => by simp only [cl]; rw [if_pos hi]
  let enc : Nat → Value := fun i => vs.getD (cl i) undef
  let cf : Nat → Nat → Int := fun i j => cmpL (nums (L.getD (cl i) [])) (nums (L.getD (cl j) []))
  let hdd : Nat → Nat := fun i => (L.getD (cl i) []).getD 0 0
  have hlv := hR.len
  have hrows : ∀ i, ∃ A c, enc i = .slice A (nums (L.getD (cl i) [])).length c ∧ w.ownsRow B' 3 1 (.slice A (nums (L.getD (cl i) [])).length c) (nums (L.getD (cl i) [])).length (ints (nums (L.getD (cl i) []))) := fun i => by
    have := hR.row (cl i) (by have := hcl i; omega)
    obtain ⟨A, c, e, _, _⟩ := own_slice this
    rw [e] at this
    exact ⟨A, c, by rw [nums_len]; exact e, by rw [nums_len]; exact this⟩
  have hone : OneCell enc := fun x => by
    obtain ⟨A, c, e, _⟩ := hrows x
    show (enc x).oneCell' = true
    rw [e]; rfl
  have hlt : ∀ i j, ltOf cf i j = decide (hdd i < hdd j) := fun i j => by
    have h1 := hcl i
    have h2 := hcl j
    refine cmp_heads (hne _ (by omega)) (hne _ (by omega)) ?_
    by_cases e : cl i = cl j
    · exact .inl (by rw [e])
    · exact .inr (hd _ _ (by omega) (by omega) e)
  have hswo : Go.Sort.SWO (ltOf cf) := by
    refine ⟨fun x => ?_, fun x y z h1 h2 => ?_, fun x y z h1 h2 => ?_⟩
    · rw [hlt]; simp
    · rw [hlt, decide_eq_true_eq] at *; omega
    · rw [hlt, decide_eq_false_iff_not] at *; omega
  have eg : ∀ args w, (callFunc 176 args).run Tryz.prog w = .ok (.enter 176 args) w := enters_of Tryz.func176 (by kernel_rfl) rfl
  have emap : (Array.range k).toList.map enc = vs := by
    rw [Array.toList_range]
    conv => rhs; rw [← perm_getD vs undef]
    rw [hlv, ← hk]
    refine List.map_congr_left fun i hi => ?_
    show vs.getD (cl i) undef = _
    rw [hcl2 i (List.mem_range.1 hi)]
  have hgt : ∀ i q, i < L.length → (vs.getD i undef).ownBlock = some q → q ≠ g := fun i q hi hq e => by
    subst e
    obtain ⟨g', cap', e1, _, _, _, _⟩ := own_shape ho h0
    rcases ho.2 with ⟨e2, _⟩ | ⟨g2, cap2, cur2, e2, _, hg2, _⟩
    · cases e2
    · simp only [Value.slice.injEq, Option.some.injEq, Addr.mk.injEq, and_true, true_and] at e2
      obtain ⟨rfl, rfl⟩ := e2
      exact own_ne (hR.row i hi) (b := q) (vs := cur2) (T := 38) hg2 (by decide) hq
  have hcmp : CmpLays1 Tryz.prog 176 #[] enc cf g 0 (Array.range k).size w := by
    intro m os dk _ x y
    obtain ⟨A1, c1, e1, o1⟩ := hrows x
    obtain ⟨A2, c2, e2, o2⟩ := hrows y
    have hgr := sorted_grown enc w g m dk os
    have keepS : ∀ {n : Nat} {v : Value} {xs : List Value} (i : Nat), i < L.length → v = vs.getD i undef → w.ownsRow B' 3 1 v n xs → (Go.Sort.grow (Go.Sort.putRow enc (Go.Sort.ahead w m) g 0 dk) os).ownsRow B' 3 1 v n xs := fun {n v xs} i hi ev o =>
      own_kept o fun q hq => hgr.block q (o.lt q hq).2 (fun e => hgt i q hi (by rw [← ev]; exact hq) (Option.some.inj e))
    have l1 := own_lies1 (keepS (cl x) (by have := hcl x; omega) e1.symm o1)
    have l2 := own_lies1 (keepS (cl y) (by have := hcl y; omega) e2.symm o2)
    rw [show (#[enc x, enc y] ++ #[] : Array Value) = #[enc x, enc y] from rfl, e1, e2]
    refine (compare_any A1 A2 c1 c2 _ _ (by rw [nums_len]; have := hms (cl x) (by have := hcl x; omega); omega) (by rw [nums_len]; have := hms (cl y) (by have := hcl y; omega); omega) _ l1 l2).mono ?_
    rintro e w' ⟨rfl, rfl⟩
    exact ⟨rfl, 0, #[], by rw [Go.Sort.grow_empty]; rfl⟩
  have hcon := Tryz.slices_SortFunc enc hone cf hswo 176 #[] g 0 cap (Array.range k) w eg hcmp (holds_own enc (by rw [emap]; simpa using ho)) (ho.lt g rfl).2 (by simp; omega)
  rw [Array.size_range] at hcon
  refine hcon.mono ?_
  rintro e w' ⟨rfl, d', m, os, hp, hs, rfl⟩
  have hz : d'.size = k := by simpa using hp.1
  have hpm : d'.toList.Perm (List.range k) := by
    have h3 := hp.2.2
    have e1 : (d'.extract 0 k).toList = d'.toList := by rw [← hz]; simp
    have e2 : ((Array.range k).extract 0 k).toList = List.range k := by
      have := Array.extract_size (xs := Array.range k)
      rw [Array.size_range] at this
      rw [this, Array.toList_range]
    rw [e1, e2] at h3
    exact h3
  have hnd : d'.toList.Nodup := (hpm.nodup_iff).2 List.nodup_range
  have hlt' : ∀ i ∈ d'.toList, i < k := fun i hi => List.mem_range.1 (hpm.mem_iff.1 hi)
  have hgr := sorted_grown enc w g m d' os
  have hown := own_sorted enc (m := m) (os := os) (d := d') ho hz
  have ev : d'.toList.map enc = d'.toList.map fun i => vs.getD i undef := List.map_congr_left fun i hi => by
    show vs.getD (cl i) undef = _
    rw [hcl2 i (hlt' i hi)]
  have hR2 : RowsO B' (Go.Sort.grow (Go.Sort.putRow enc (Go.Sort.ahead w m) g 0 d') os) vs L := hR.kept fun i q hi hq => hgr.block q ((hR.row i hi).lt q hq).2 (fun e => hgt i q hi hq (Option.some.inj e))
  refine ⟨d'.toList.map enc, d'.toList.map fun i => L.getD i [], ⟨_, rfl⟩, ?_, ?_, hown, ?_, hgr⟩
  · have h3 := hpm.map fun i => L.getD i []
    rw [hk, perm_getD L []] at h3
    exact h3
  · rw [List.pairwise_map]
    rw [List.pairwise_iff_getElem]
    intro i j hi hj hij
    have h4 := hs i j (Nat.zero_le _) hij (by rw [← hz]; simpa using hj)
    have hi2 : i < d'.size := by simpa using hi
    have hj2 : j < d'.size := by simpa using hj
    rw [hlt, decide_eq_false_iff_not, getElem!_pos d' i hi2, getElem!_pos d' j hj2] at h4
    simp only [hdd] at h4
    rw [hcl2 _ (hlt' _ (by simp)), hcl2 _ (hlt' _ (by simp))] at h4
    simp only [Array.getElem_toList]
    omega
  · rw [ev]
    exact hR2.order hnd (fun i hi => by rw [← hk]; exact hlt' i hi)
end Go.Proofs.YtlbjmkljmhfjdaaGreat

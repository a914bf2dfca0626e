/- A LAW FOR A REGION THAT DRAWS ITS ORDER, BY AN INVARIANT: what is known hangs on which operations have come up, on the slots that they write, and on the world; each operation is shown once, to keep it; no order is gone through. Nothing here speaks of one program. -/
import Derived.Test.YtmlaepbmdfmgbaaB3
import Derived.Test.YtmlaepbmdfmgbaaA1
import Derived.Test.YtmlaepbmdfmgbaaN1
import Derived.Test.YtmlaepbmdfmgbaaN2
import Derived.Test.YtmlaepbmdfmgbaaC2
set_option linter.unusedSimpArgs false
set_option linter.unusedVariables false
namespace Go.Proofs.Ytmlaepbmdfmgbaa
open Go Go.RowKit
abbrev Known3 := (Nat → Bool) → (Nat → Value) → World → Prop
/-- The slots behind an operation. -/
def slots (a : Act) (t : Nat) : Value := a.tmps.getD t undef
def slotted (f : Nat → Value) (o : Oper) (v : Value) (t : Nat) : Value := if o.dst = some t then v else f t
def upped (L : Nat → Bool) (j i : Nat) : Bool := L i || i == j
structure KnownI (ops : Array Oper) (Inv : Known3) (a0 : Act) (listed : Array Bool) (a : Act) (w : World) : Prop where
  inv : Inv (fun i => listed.getD i false) (slots a) w
  size : listed.size = ops.size
  tsize : a.tmps.size = a0.tmps.size
  defers : a.defers = a0.defers
  rest : ∀ (t : Tmp), writesB ops t = false → a.tmps[t]? = a0.tmps[t]?
theorem KnownI.put {ops : Array Oper} {Inv : Known3} {a0 : Act} {listed : Array Bool} {a : Act} {w w' : World} {j : Nat} {o : Oper} {v : Value} (hin : ∀ d, o.dst = some d → d < a0.tmps.size) (k : KnownI ops Inv a0 listed a w) (ho : ops[j]? = some o)
    (h : Inv (upped (fun i => listed.getD i false) j) (slotted (slots a) o v) w') : KnownI ops Inv a0 (listed.setIfInBounds j true) (a.put o.dst v) w' := by
  have hj : j < listed.size := by rw [k.size]; exact (Array.getElem?_eq_some_iff.1 ho).1
  have e1 : (fun i => (listed.setIfInBounds j true).getD i false) = upped (fun i => listed.getD i false) j := by
    funext i
    unfold upped
    by_cases e : i = j
    · subst e
      simp [Array.getD_eq_getD_getElem?, Array.getElem?_setIfInBounds, hj]
    · simp [Array.getD_eq_getD_getElem?, Array.getElem?_setIfInBounds, Ne.symm e, e]
  have e2 : slots (a.put o.dst v) = slotted (slots a) o v := by
    funext t
    unfold slots slotted
    cases hd : o.dst with
    | none => simp [Act.put]
    | some d =>
      by_cases e : d = t
      · subst e
        have := hin d hd
        simp [Act.put, Array.getD_eq_getD_getElem?, Array.getElem?_setIfInBounds, k.tsize, this]
      · rw [getD_put v e]
        simp [e]
  refine ⟨by rw [e1, e2]; exact h, by simp [k.size], ?_, ?_, fun t ht => ?_⟩
  · cases hd : o.dst <;> simp [Act.put, k.tsize]
  · cases hd : o.dst <;> simp [Act.put, k.defers]
  · cases hd : o.dst with
    | none => exact k.rest t ht
    | some d =>
      have hne : d ≠ t := fun e => by
        have := Array.any_eq_false.1 ht j (Array.getElem?_eq_some_iff.1 ho).1
        rw [(Array.getElem?_eq_some_iff.1 ho).2, hd, e] at this
        simp at this
      simp [Act.put, Array.getElem?_setIfInBounds_ne hne, k.rest t ht]
theorem wp_region_inv {P : Program} {Q : Exit → Act → World → Prop} {id : Nat} {l : List Oper} {a0 : Act} {w0 : World} (Inv : Known3) (hm : P.follows .mixedOrders = true)
    (hs : shapeB l.toArray = true) (hng : (l.all fun o => o.guard.isNone) = true) (hin : (l.all fun o => match o.dst with | some d => decide (d < a0.tmps.size) | none => true) = true)
    (h0 : Inv (fun _ => false) (slots a0) { w0 with drawn := w0.drawn + 1 })
    (hop : ∀ (j : Nat) (o : Oper), l[j]? = some o → ∀ (L : Nat → Bool) (a : Act) (w : World), Inv L (slots a) w → L j = false → (∀ e ∈ o.after, Region.binds .any e = true → L e.on = true) → (∀ t, writesB l.toArray t = false → a.eval (.tmp t) = a0.eval (.tmp t)) →
      Gives P (fun v w' => Inv (upped L j) (slotted (slots a) o v) w') ((execOp a.eval o).run P w))
    (hend : ∀ (L : Nat → Bool) (f : Nat → Value) (w : World), (∀ i, i < l.length → L i = true) → Inv L f w → Q .normal (putOps l f a0) w) :
    (Code.region id l.toArray true).wp P Q a0 w0 := by
  refine wp_region_any hm ?_
  have hin' : ∀ (j : Nat) (o : Oper), l.toArray[j]? = some o → ∀ d, o.dst = some d → d < a0.tmps.size := fun j o ho d hd => by
    have hm : o ∈ l := by rw [List.getElem?_toArray] at ho; exact List.mem_of_getElem? ho
    have := List.all_eq_true.1 hin o hm
    rw [hd] at this
    exact of_decide_eq_true this
  have key : ∀ (fuel : Nat) (listed : Array Bool) (a : Act) (w : World), left l.toArray listed ≤ fuel → KnownI l.toArray Inv a0 listed a w → wpAny P .any l.toArray Q fuel listed a w := by
    have fin : ∀ (listed : Array Bool) (a : Act) (w : World), KnownI l.toArray Inv a0 listed a w → Region.ready .any l.toArray listed = [] → Q .normal a w := by
      intro listed a w k hr
      have hl := all_listed hs k.size hr
      have e : a = putOps l (slots a) a0 := by
        cases a with
        | mk tmps defers =>
          have hz := k.tsize
          have hd := k.defers
          have hrr := k.rest
          dsimp only at hz hd hrr
          have h2 : (putOps l (slots ⟨tmps, defers⟩) a0).defers = defers := (putOps_defers _ _ _).trans hd.symm
          have h1 : (putOps l (slots ⟨tmps, defers⟩) a0).tmps = tmps := by
            apply Array.ext_getElem?
            intro t
            by_cases ht : t < a0.tmps.size
            · rw [putOps_at _ _ _ _ ht]
              split
              · simp [slots, Array.getD_eq_getD_getElem?, hz, ht]
              · rename_i hw
                exact (hrr t (by simpa [writesB] using hw)).symm
            · rw [Array.getElem?_eq_none (by rw [putOps_size]; omega), Array.getElem?_eq_none (by omega)]
          cases hp : putOps l (slots ⟨tmps, defers⟩) a0 with
          | mk t2 d2 =>
            rw [hp] at h1 h2
            dsimp only at h1 h2 ⊢
            subst h1 h2
            rfl
      rw [e]
      refine hend _ _ w (fun i hi => ?_) k.inv
      have hi2 : i < listed.size := by rw [k.size]; simpa using hi
      have := hl i (by simpa using hi)
      simpa [Array.getD_eq_getD_getElem?, hi2] using this
    intro fuel
    induction fuel with
    | zero =>
      intro listed a w hf k
      have hr : Region.ready .any l.toArray listed = [] := by
        cases h : Region.ready .any l.toArray listed with
        | nil => rfl
        | cons j l' =>
          have hj : j ∈ Region.ready .any l.toArray listed := by rw [h]; simp
          obtain ⟨h0, o, ho, _⟩ := mem_ready.1 hj
          have := left_set (ops := l.toArray) (Array.getElem?_eq_some_iff.1 ho).1 h0
          omega
      exact ⟨hr, fin listed a w k hr⟩
    | succ fuel ih =>
      intro listed a w hf k
      refine ⟨fin listed a w k, fun j hj => ?_⟩
      obtain ⟨h0, o, ho, hdep⟩ := mem_ready.1 hj
      have hl := left_set (ops := l.toArray) (Array.getElem?_eq_some_iff.1 ho).1 h0
      have hjs : j < listed.size := by rw [k.size]; exact (Array.getElem?_eq_some_iff.1 ho).1
      have hun' : ∀ t, writesB l.toArray t = false → a.eval (.tmp t) = a0.eval (.tmp t) := by
        intro t ht
        have := k.rest t ht
        simp [Act.eval, Array.getD_eq_getD_getElem?, this]
      have hgn : o.guard = none := by
        have hm : o ∈ l := by rw [List.getElem?_toArray] at ho; exact List.mem_of_getElem? ho
        have := List.all_eq_true.1 hng o hm
        cases hg : o.guard with
        | none => rfl
        | some x => rw [hg] at this; cases this
      have hw : Region.wanted o (yielded l.toArray a.tmps) = true := by
        unfold Region.wanted
        simp [hgn]
      unfold wpOp
      simp only [ho, hw, if_true]
      refine .inl ?_
      have hgv := hop j o (by rw [List.getElem?_toArray] at ho; exact ho) (fun i => listed.getD i false) a w k.inv (by
        have : listed.getD j true = false := h0
        simpa [Array.getD_eq_getD_getElem?, hjs] using this) (fun e he hb => by
        have h1 := hdep e he hb
        by_cases hlt : e.on < listed.size
        · simpa [Array.getD_eq_getD_getElem?, hlt] using h1
        · exfalso
          have hsh := ((shape_at hs ho).1 e he hb)
          omega) hun'
      unfold Oper.wp
      generalize (execOp a.eval o).run P w = r at hgv
      cases r with
      | halt x w' => exact hgv.elim
      | ok n w' =>
        cases n <;> simp only [Gives] at hgv <;> simp only [Oper.upon]
        case value v => exact ih _ _ _ (by omega) (k.put (hin' j o ho) ho hgv)
        case skip => exact ih _ _ _ (by omega) (k.put (hin' j o ho) ho hgv)
        case enter f args =>
          refine hgv.mono ?_
          rintro e w'' ⟨v, rfl, h1⟩
          exact ih _ _ _ (by omega) (k.put (hin' j o ho) ho h1)
  refine key _ _ _ _ ?_ ⟨?_, by simp, rfl, rfl, fun t _ => rfl⟩
  · unfold left
    have := List.countP_le_length (p := fun i => !(Array.replicate l.toArray.size false).getD i true) (l := List.range l.toArray.size)
    simpa using this
  · have e : (fun i => (Array.replicate l.toArray.size false).getD i false) = fun _ => false := by
      funext i
      simp [Array.getD_eq_getD_getElem?, Array.getElem?_replicate]
      split <;> rfl
    rw [e]
    exact h0
end Go.Proofs.Ytmlaepbmdfmgbaa
namespace Go.Proofs.Ytmlaepbmdfmgbaa
open Go Go.RowKit Go.Maps
structure Nay (B : Nat) (w W : World) (x g : Gr) (b : Nat) (i : Nat) : Prop where
  nam : Nam B w W x g b i
  same : ∀ q, q < w.heap.size → (Value.slice x.RA x.rules.length x.rc).ownBlock ≠ some q → W.heap[q]? = w.heap[q]?
theorem Nay.below {B : Nat} {w W W' : World} {x g : Gr} {b i : Nat} (h : Nay B w W x g b i) (hB : B ≤ W.heap.size) (hb : Below W.heap.size W W') : Nay B w W' x g b i :=
  ⟨h.nam.below hB hb, fun q hq hne => (hb.block q (Nat.lt_of_lt_of_le hq h.nam.low.size)).trans (h.same q hq hne)⟩
theorem Nay.step {B : Nat} {w W : World} {x g : Gr} {b i gb : Nat} (h : Nay B w W x g b i) (hi : i < x.rules.length) (hA : x.RA = some ⟨gb, 0, none⟩) : Nay B w (W.setCell ⟨gb, i * 2, none⟩ (.string (g.rules.getD i Rl.zero).name)) x g b (i + 1) :=
  ⟨h.nam.step hi hA, fun q hq hne => (heap_setCell_other W ⟨gb, i * 2, none⟩ q _ (fun e => hne (by rw [hA]; show some gb = some q; rw [e]))).trans (h.same q hq hne)⟩
set_option maxRecDepth 100000 in
set_option maxHeartbeats 4000000 in
theorem nameds12_any (B : Nat) (x g : Gr) (w : World) (hB : B ≤ w.heap.size) (hlen : x.rules.length = g.rules.length) (hl : g.rules.length ≤ 32) (hx : w.ownsRow B 55 2 (.slice x.RA x.rules.length x.rc) x.rules.length (rcells x.rules)) (hg : ∀ W' : World, Below B w W' → Gr.At W' g) :
    Calls Try.prog 20 #[x.val, g.val] w fun e w' => e = .returned ({ x with rules := mixR x.rules g.rules x.rules.length } : Gr).val ∧ w'.ownsRow B 55 2 (.slice x.RA x.rules.length x.rc) x.rules.length (rcells (mixR x.rules g.rules x.rules.length)) ∧ (∀ (B' e z n : Nat) (v : Value) (xs : List Value), e ≠ 55 → e ≠ 25 → w.ownsRow B' e z v n xs → w'.ownsRow B' e z v n xs) ∧ Below B w w' ∧ (∀ q, q < w.heap.size → (Value.slice x.RA x.rules.length x.rc).ownBlock ≠ some q → w'.heap[q]? = w.heap[q]?) := by
  obtain ⟨n, en⟩ : ∃ n, n = g.rules.length := ⟨_, rfl⟩
  have EN := Lib.hid en
  have EXN := Lib.hid (show x.rules.length = n from by rw [en]; exact hlen)
  have HG := Lib.hid hg
  have N0 := Lib.hid (show Nam B w (((w.alloc (.cells #[.slice x.RA x.rules.length x.rc, .slice x.NA x.nodes.length x.nc] 25)).alloc (.cells #[.slice g.RA g.rules.length g.rc, .slice g.NA g.nodes.length g.nc] 25)).alloc (.cells #[.slice none 0 0, .slice none 0 0] 25)) x g w.heap.size 0 from by
    have hb : Below w.heap.size w (((w.alloc (.cells #[.slice x.RA x.rules.length x.rc, .slice x.NA x.nodes.length x.nc] 25)).alloc (.cells #[.slice g.RA g.rules.length g.rc, .slice g.NA g.nodes.length g.nc] 25)).alloc (.cells #[.slice none 0 0, .slice none 0 0] 25)) := ((B1 w _).alloc (by simp) _).alloc (by simp; omega) _
    refine ⟨by rw [mixR_zero]; exact own_below hx hb, hb.mono hB, ((Blk.new _ _ _).alloc _).alloc _, ?_, ?_, fun _ _ _ _ _ _ _ ho => own_below ho hb⟩
    · have := (Blk.new (w.alloc (.cells #[.slice x.RA x.rules.length x.rc, .slice x.NA x.nodes.length x.nc] 25)) #[.slice g.RA g.rules.length g.rc, .slice g.NA g.nodes.length g.nc] 25).alloc (.cells #[.slice none 0 0, .slice none 0 0] 25)
      rw [World.size_alloc] at this
      exact this
    · have := Blk.new ((w.alloc (.cells #[.slice x.RA x.rules.length x.rc, .slice x.NA x.nodes.length x.nc] 25)).alloc (.cells #[.slice g.RA g.rules.length g.rc, .slice g.NA g.nodes.length g.nc] 25)) #[.slice none 0 0, .slice none 0 0] 25
      rw [World.size_alloc, World.size_alloc] at this
      exact this)
  have N0 := Lib.hid (Nay.mk N0.out (fun q hq _ => (((B1 w _).alloc (by simp) _).alloc (by simp; omega) _ : Below w.heap.size w _).block q hq))
  have HB := Lib.hid hB
  rw [← en] at hl
  show Calls Try.prog 20 #[.agg #[.slice x.RA x.rules.length x.rc, .slice x.NA x.nodes.length x.nc], .agg #[.slice g.RA g.rules.length g.rc, .slice g.NA g.nodes.length g.nc]] w _
  rw [EXN.out, ← en] at N0 ⊢
  clear hlen hx hg en hB
  go_enter Try.func20, Try.ntmps20
  go_wp2_with fail
  obtain ⟨wb, ewb⟩ : ∃ u, u = (((w.alloc (.cells #[.slice x.RA n x.rc, .slice x.NA x.nodes.length x.nc] 25)).alloc (.cells #[.slice g.RA n g.rc, .slice g.NA g.nodes.length g.nc] 25)).alloc (.cells #[.slice none 0 0, .slice none 0 0] 25)) := ⟨_, rfl⟩
  obtain ⟨b, ebb⟩ : ∃ b, b = w.heap.size := ⟨_, rfl⟩
  have EBB := Lib.hid ebb
  rw [← ewb, ← ebb] at N0
  rw [← ebb]
  try rw [← ewb]
  clear ewb ebb
  go_loopw [5] (fun ix wr => ∃ i : Nat, i ≤ n ∧ ix = .int .i64 i ∧ Nay B w wr x g b i) (fun ix _ => n - (intOf ix).toNat)
  case atStart => exact ⟨0, by omega, rfl, N0.out⟩
  case round =>
    obtain ⟨i, hi, rfl, hM⟩ := hrel
    have c0 := hM.nam.bx.cell 0
    have c1 := hM.nam.bx.cell 1
    have d0 := hM.nam.bg.cell 0
    simp only [List.getElem?_toArray, List.getElem?_cons_zero, List.getElem?_cons_succ] at c0 c1 d0
    rw [EXN.out] at c0
    rw [← EN.out] at d0
    by_cases hlt : i < n
    · have hlt2 : (i : Int) < n := by omega
      have hix : i < x.rules.length := by rw [EXN.out]; exact hlt
      have hig : i < g.rules.length := by rw [← EN.out]; exact hlt
      obtain ⟨gb, cap0, e0, _, _, _, _⟩ := own_shape hM.nam.row (by omega)
      simp only [Value.slice.injEq, true_and] at e0
      obtain ⟨eA, eC⟩ := e0
      clear eC
      obtain ⟨b1, o1, eG, _, nm, _⟩ := (HG.out _ hM.nam.low).rules.two hig
      have hrow := hM.nam.row
      rw [eA] at hrow
      have ck : wr.cell? ⟨gb, i * 2, none⟩ = some (.string ((mixR x.rules g.rules i).getD i Rl.zero).name) := by
        rw [hrow.cellAt (i * 2) (by omega)]
        exact (rcells_at _ i (by rw [mixR_length]; exact hix)).1
      have fk := hrow.frozenAt (i * 2)
      have ST := Lib.hid (hM.step hix eA)
      generalize ((mixR x.rules g.rules i).getD i Rl.zero).name = old at ck
      generalize (g.rules.getD i Rl.zero).name = nw at nm ST
      rw [eA] at c0
      rw [eG] at d0
      clear hM hrow eA eG
      go_wp2_with fail
      go_region_with (fail)
      all_goals (
        go_wp2_with fail
        go_roundw
        case rel => exact ⟨i + 1, by omega, by go_num, (by first | exact ST.out | exact ST.out.below (by have := ST.out.nam.low.size; have := HB.out; omega) (bdrew1 (Below.refl _ _)) | exact ST.out.below (by have := ST.out.nam.low.size; have := HB.out; omega) (bdrew (Below.refl _ _)))⟩
        case measure => simp [intOf]; omega)
    · obtain rfl : i = n := by omega
      have hlt2 : ¬ (i : Int) < i := by omega
      have HM := Lib.hid hM
      clear hM
      go_wp2_with (refine wpList_store_whole rfl 25 (.tmp 4) (.tmp 24) rfl (b + 2) #[.slice x.RA i x.rc, .slice x.NA x.nodes.length x.nc] rfl rfl 25 _ HM.out.nam.br (by kernel_rfl) (by rfl) (by simp [Value.oneCell']) ?_; intro w5 hk5 hg5; have K5 := Lib.hid hk5; have G5 := Lib.hid hg5; clear hk5 hg5)
      have hM := HM.out
      have hbs := EBB.out
      have hBl := HB.out
      have hsz := hM.nam.low.size
      have hbt : B ≤ b + 2 := by omega
      refine bodyPost_ret (results_cell_row rfl _ _ (b + 2) 25 _ (0, 0) _ rfl K5.out Try.underlying25 rfl (by kernel_rfl)) rfl ⟨?_, ?_, ?_, ?_, ?_⟩
      · show _ = Ending.returned (.agg #[.slice x.RA (mixR x.rules g.rules i).length x.rc, .slice x.NA x.nodes.length x.nc])
        rw [mixR_length, EXN.out]
      · have := own_off hM.nam.row hM.nam.br (by decide) G5.out
        rw [EXN.out] at this
        exact this
      · exact fun B' e z n v xs he he2 ho => own_off (hM.nam.kept B' e z n v xs he ho) hM.nam.br (fun e' => he2 e'.symm) G5.out
      · exact grown_below hM.nam.low (by omega) G5.out (fun k e => by cases e; exact hbt)
      · exact fun q hq hne => (G5.out.block q (by omega) (fun e => by have := Option.some.inj e; omega)).trans (hM.same q hq (by rw [EXN.out]; exact hne))
end Go.Proofs.Ytmlaepbmdfmgbaa
namespace Go.Proofs.Ytmlaepbmdfmgbaa
open Go Go.RowKit Go.Maps
theorem mixR_names {xs gs : List Rl} (h : xs.length = gs.length) : (mixR xs gs xs.length).map Rl.name = gs.map Rl.name := by
  apply List.ext_getElem
  · simp [mixR_length, h]
  · intro i h1 h2
    have hi : i < xs.length := by simpa [mixR_length] using h1
    have := mixR_at (gs := gs) (i := xs.length) hi
    rw [if_pos hi] at this
    simp only [List.getElem_map]
    have e : (mixR xs gs xs.length)[i]'(by rw [mixR_length]; exact hi) = (mixR xs gs xs.length).getD i Rl.zero := by simp [List.getD, mixR_length, hi]
    rw [e, this]
    simp [List.getD, show i < gs.length by omega]
theorem mixR_body {xs gs : List Rl} {i k : Nat} (h : i < xs.length) : ((mixR xs gs k).getD i Rl.zero).body = (xs.getD i Rl.zero).body := by
  rw [mixR_at h]
  split <;> rfl
theorem gramL_all (P : Nd → Prop) (hP : ∀ d x, P x → P (mvk d x)) : ∀ (n : Nat) (bl : List (List Nd)), bl.length = n → (∀ b ∈ bl, ∀ y ∈ b, P y) → ∀ y ∈ (gramL bl).2, P y
  | 0, bl, h, _, y, hy => by rw [List.length_eq_zero_iff.1 h] at hy; cases hy
  | n + 1, bl, h, hB, y, hy => by
    obtain ⟨l, b, rfl⟩ : ∃ l b, bl = l ++ [b] := ⟨bl.dropLast, bl.getLast (by intro e; simp [e] at h), (List.dropLast_concat_getLast _).symm⟩
    rw [gramL_snoc] at hy
    have hy : y ∈ (gramL l).2 ++ b.map (mvk (gramL l).2.length) := hy
    rcases List.mem_append.1 hy with hy | hy
    · exact gramL_all P hP n l (by simpa using h) (fun b hb => hB b (by simp [hb])) y hy
    · obtain ⟨z, hz, rfl⟩ := List.mem_map.1 hy
      exact hP _ _ (hB b (by simp) z hz)
/-- Built, and not named yet. -/
structure Gx (B : Nat) (W : World) (x : Gr) (bl : List (List Nd)) : Prop where
  sp : (x.rules, x.nodes.map Nd.kz) = gramL bl
  kl : ∀ y ∈ x.nodes, y.kids.length ≤ 1000
  cap : Capd x
  row : W.ownsRow B 55 2 (.slice x.RA x.rules.length x.rc) x.rules.length (rcells x.rules)
  nds : W.ownsRow B 44 9 (.slice x.NA x.nodes.length x.nc) x.nodes.length (ncells x.nodes)
  kds : ∀ y ∈ x.nodes, W.ownsRow B 3 1 (.slice y.A y.kids.length y.cap) y.kids.length (ints y.kids) ∧ (y.A = none → y.cap = 0)
  at_ : Gr.At W x
theorem Gx.below {B : Nat} {W W' : World} {x : Gr} {bl : List (List Nd)} (h : Gx B W x bl) (hb : Below W.heap.size W W') : Gx B W' x bl :=
  ⟨h.sp, h.kl, h.cap, own_below h.row hb, own_below h.nds hb, fun y hy => ⟨own_below (h.kds y hy).1 hb, (h.kds y hy).2⟩, h.at_.below hb⟩
/-- Built and named. -/
structure Dx (W : World) (x g : Gr) (bl : List (List Nd)) : Prop where
  at_ : Gr.At W x
  in_ : Gr.In x
  cap : Capd x
  built : Built x bl
  names : x.rules.map Rl.name = g.rules.map Rl.name
theorem Dx.below {W W' : World} {x g : Gr} {bl : List (List Nd)} (h : Dx W x g bl) (hb : Below W.heap.size W W') : Dx W' x g bl := ⟨h.at_.below hb, h.in_, h.cap, h.built, h.names⟩
/-- Built and named, in rows of the call's own. -/
structure Dy (B : Nat) (w : World) (x g : Gr) (bl : List (List Nd)) : Prop where
  dx : Dx w x g bl
  row : w.ownsRow B 55 2 (.slice x.RA x.rules.length x.rc) x.rules.length (rcells x.rules)
  nds : w.ownsRow B 44 9 (.slice x.NA x.nodes.length x.nc) x.nodes.length (ncells x.nodes)
  kds : ∀ y ∈ x.nodes, w.ownsRow B 3 1 (.slice y.A y.kids.length y.cap) y.kids.length (ints y.kids) ∧ (y.A = none → y.cap = 0)
theorem Dy.below {B : Nat} {w W' : World} {x g : Gr} {bl : List (List Nd)} (h : Dy B w x g bl) (hb : Below w.heap.size w W') : Dy B W' x g bl :=
  ⟨h.dx.below hb, own_below h.row hb, own_below h.nds hb, fun y hy => ⟨own_below (h.kds y hy).1 hb, (h.kds y hy).2⟩⟩
theorem Dy.lower {B B' : Nat} {w : World} {x g : Gr} {bl : List (List Nd)} (h : Dy B w x g bl) (hb : B' ≤ B) : Dy B' w x g bl :=
  ⟨h.dx, own_lower h.row hb, own_lower h.nds hb, fun y hy => ⟨own_lower (h.kds y hy).1 hb, (h.kds y hy).2⟩⟩
theorem Dy.off {B b : Nat} {w W' : World} {x g : Gr} {bl : List (List Nd)} {vs : Array Value} (h : Dy B w x g bl) (hb : Blk w b vs 25) (hg : w.grownBy W' (some b)) : Dy B W' x g bl := by
  have r := own_off h.row hb (by decide) hg
  have n := own_off h.nds hb (by decide) hg
  have k := fun y hy => own_off (h.kds y hy).1 hb (by decide) hg
  have a := h.dx.at_
  exact ⟨⟨⟨own_rules r, own_nodes n, fun y hy => ⟨own_lies1 (k y hy), (a.kids y hy).2⟩, a.rl, a.nl, a.rn, a.nn, a.texts, a.names⟩, h.dx.in_, h.dx.cap, h.dx.built, h.dx.names⟩, r, n, fun y hy => ⟨k y hy, (h.kds y hy).2⟩⟩
theorem gx_gram (A : Option Addr) (bs : List Bdy) (c n : Nat) (en : n = bs.length) (K : Int) (w : World) (h : Bds w A bs K) (hl : bs.length ≤ 60) (hK : 0 ≤ K ∧ K ≤ 100000000) :
    Calls Try.prog 13 #[.slice A n c] w fun e w' => (∃ x : Gr, e = .returned x.val ∧ Gx w.heap.size w' x (bs.map fun b => b.2.2.map Nd.kz)) ∧ Below w.heap.size w w' := by
  rw [en]
  refine Calls.mono (gram_full A bs c K w h hl hK) ?_
  rintro e w' ⟨x, rfl, hst, hsp, hkl, hcp, ⟨h1, h2, h3⟩, hb⟩
  exact ⟨⟨x, rfl, hsp, hkl, hcp, h1, h2, h3, hst w' (Nat.le_refl _) fun _ _ _ => rfl⟩, hb⟩
set_option maxHeartbeats 1000000 in
theorem dy_named {B : Nat} {x g : Gr} {w : World} {bl : List (List Nd)} (h : Gx B w x bl) (hB : B ≤ w.heap.size) (hl : g.rules.length ≤ 32) (hbl : bl.length = g.rules.length) (hg : ∀ W' : World, Below B w W' → Gr.At W' g) (hk : ∀ b ∈ bl, ∀ y ∈ b, 1 ≤ y.kind ∧ y.kind ≤ 12) :
    Calls Try.prog 20 #[x.val, g.val] w fun e w' => (∃ y : Gr, e = .returned y.val ∧ Dy B w' y g bl) ∧ Below B w w' ∧ (∀ q, q < w.heap.size → (Value.slice x.RA x.rules.length x.rc).ownBlock ≠ some q → w'.heap[q]? = w.heap[q]?) := by
  have hsp := h.sp
  simp only [Prod.ext_iff] at hsp
  have hlen : x.rules.length = g.rules.length := by rw [hsp.1, ← hbl]; exact gramL_rules _ bl rfl
  have hgw := hg w (Below.refl _ _)
  refine Calls.mono (nameds12_any B x g w hB hlen hl h.row hg) ?_
  rintro e w' ⟨rfl, hrow, _, hb, hs⟩
  have hm := mixR_length x.rules g.rules x.rules.length
  have keep : ∀ {e' z n : Nat} {v : Value} {xs : List Value}, w.ownsRow B e' z v n xs → e' ≠ 55 → w'.ownsRow B e' z v n xs := fun {e' z n v xs} ho he => own_kept ho fun k hk' => hs k (ho.lt k hk').2 fun e2 => he (own_same ho h.row hk' e2)
  have hat := h.at_
  refine ⟨⟨_, rfl, ⟨⟨own_rules (by rw [hm]; exact hrow), own_nodes (keep h.nds (by decide)), fun y hy => ⟨own_lies1 (keep (h.kds y hy).1 (by decide)), (h.kds y hy).2, by have := h.kl y hy; omega⟩, by show (mixR x.rules g.rules x.rules.length).length ≤ _; omega, hat.nl, hat.rn, hat.nn, hat.texts, fun r hr => ?_⟩, fun y hy => ?_, ⟨h.cap.nodes, h.cap.kids⟩, ⟨hsp.2, by show (mixR x.rules g.rules x.rules.length).length = _; omega, fun i hi => ?_⟩, mixR_names hlen⟩, by show w'.ownsRow B _ 2 (.slice x.RA (mixR x.rules g.rules x.rules.length).length x.rc) (mixR x.rules g.rules x.rules.length).length _; rw [hm]; exact hrow, keep h.nds (by decide), fun y hy => ⟨keep (h.kds y hy).1 (by decide), (h.kds y hy).2⟩⟩, hb, hs⟩
  · have hr : r ∈ mixR x.rules g.rules x.rules.length := hr
    obtain ⟨i, hi, rfl⟩ := List.getElem_of_mem hr
    have hi2 : i < x.rules.length := by rw [hm] at hi; exact hi
    have e : (mixR x.rules g.rules x.rules.length)[i] = (mixR x.rules g.rules x.rules.length).getD i Rl.zero := by simp [List.getD, List.getElem?_eq_getElem hi]
    rw [e, mixR_at hi2, if_pos hi2]
    show (g.rules.getD i Rl.zero).name.size ≤ _
    have hgi : i < g.rules.length := by omega
    have := hgw.names g.rules[i] (List.getElem_mem hgi)
    simpa [List.getD, List.getElem?_eq_getElem hgi] using this
  · have h1 := gramL_all (fun y => 1 ≤ y.kind ∧ y.kind ≤ 12) (fun d y h => h) _ bl rfl hk y.kz (by rw [← hsp.2]; exact List.mem_map_of_mem hy)
    have h1 : 1 ≤ y.kind ∧ y.kind ≤ 12 := h1
    exact ⟨by omega, hat.texts y hy⟩
  · have : i < x.rules.length := by omega
    show ((mixR x.rules g.rules x.rules.length).getD i Rl.zero).body = _
    rw [mixR_body this, ← hsp.1]
end Go.Proofs.Ytmlaepbmdfmgbaa
namespace Go.Proofs.Ytmlaepbmdfmgbaa
open Go Go.RowKit Go.Maps
def setF (f : Nat → Value) (d : Nat) (v : Value) : Nat → Value := fun t => if t = d then v else f t
theorem slotted_some {f : Nat → Value} {o : Oper} {v : Value} {d : Nat} (h : o.dst = some d) : slotted f o v = setF f d v := by
  funext t
  unfold slotted setF
  rw [h]
  by_cases e : t = d
  · subst e; simp
  · rw [if_neg (fun e' => e (Option.some.inj e').symm), if_neg e]
theorem slotted_none {f : Nat → Value} {o : Oper} {v : Value} (h : o.dst = none) : slotted f o v = f := by
  funext t
  unfold slotted
  rw [h]
  rfl
def bptr (b : Nat) : Value := .pointer (some ⟨b, 0, none⟩)
theorem bptr_inj {a b : Nat} (h : bptr a = bptr b) : a = b := by
  unfold bptr at h
  simpa using h
structure IR (wr : World) (g : Gr) (v1 v2 : Value) (bl1 bl2 : List (List Nd)) (L : Nat → Bool) (f : Nat → Value) (w : World) : Prop where
  low : Below wr.heap.size wr w
  s0 : L 0 = true → f 44 = v1
  s2 : L 2 = true → f 46 = g.val
  s4 : L 4 = true → f 48 = v2
  s6 : L 6 = true → f 50 = g.val
  d5 : L 5 = true → L 3 = true
  d7 : L 7 = true → L 5 = true
  d10 : L 10 = true → L 7 = true ∧ L 8 = true ∧ L 9 = true
  d11 : L 11 = true → L 10 = true
  p1 : L 1 = true → L 3 = false → ∃ x : Gr, f 45 = x.val ∧ Gx wr.heap.size w x bl1
  p3 : L 3 = true → L 5 = false → ∃ x : Gr, f 47 = x.val ∧ Dy wr.heap.size w x g bl1
  p5 : L 5 = true → L 7 = false → ∃ (x y : Gr) (u : World), f 47 = x.val ∧ f 49 = y.val ∧ Below wr.heap.size wr u ∧ Dy wr.heap.size u x g bl1 ∧ Below u.heap.size u w ∧ Gx u.heap.size w y bl2
  p7 : L 7 = true → ∃ x y : Gr, f 47 = x.val ∧ f 51 = y.val ∧ Dy wr.heap.size w x g bl1 ∧ Dy wr.heap.size w y g bl2
  b8 : L 8 = true → ∃ b, f 7 = bptr b ∧ wr.heap.size ≤ b ∧ (L 9 = true → f 8 ≠ f 7) ∧ ∃ vs : Array Value, Blk w b vs 25 ∧ vs.size = 2 ∧ (L 10 = true → Value.agg vs = f 47)
  b9 : L 9 = true → ∃ b, f 8 = bptr b ∧ wr.heap.size ≤ b ∧ ∃ vs : Array Value, Blk w b vs 25 ∧ vs.size = 2 ∧ (L 11 = true → Value.agg vs = f 51)
section
variable {wr w w' : World} {g : Gr} {v1 v2 : Value} {bl1 bl2 : List (List Nd)} {L : Nat → Bool} {f : Nat → Value}
theorem IR.start (hb : Below wr.heap.size wr w) (hL : ∀ i, L i = false) : IR wr g v1 v2 bl1 bl2 L f w := by
  refine ⟨hb, ?_, ?_, ?_, ?_, ?_, ?_, ?_, ?_, ?_, ?_, ?_, ?_, ?_, ?_⟩ <;> (intro e; rw [hL] at e; cases e)
theorem IR.grow (h : IR wr g v1 v2 bl1 bl2 L f w) (hb : Below w.heap.size w w') : IR wr g v1 v2 bl1 bl2 L f w' :=
  ⟨bb h.low hb, h.s0, h.s2, h.s4, h.s6, h.d5, h.d7, h.d10, h.d11,
    fun a b => by obtain ⟨x, e, k⟩ := h.p1 a b; exact ⟨x, e, k.below hb⟩,
    fun a b => by obtain ⟨x, e, k⟩ := h.p3 a b; exact ⟨x, e, k.below hb⟩,
    fun a b => by obtain ⟨x, y, u, e1, e2, k1, k2, k3, k4⟩ := h.p5 a b; exact ⟨x, y, u, e1, e2, k1, k2, bb k3 hb, k4.below hb⟩,
    fun a => by obtain ⟨x, y, e1, e2, k1, k2⟩ := h.p7 a; exact ⟨x, y, e1, e2, k1.below hb, k2.below hb⟩,
    fun a => by obtain ⟨b, e1, e2, e3, vs, k1, k2⟩ := h.b8 a; exact ⟨b, e1, e2, e3, vs, k1.below' hb, k2⟩,
    fun a => by obtain ⟨b, e1, e2, vs, k1, k2⟩ := h.b9 a; exact ⟨b, e1, e2, vs, k1.below' hb, k2⟩⟩
set_option maxHeartbeats 1000000 in
theorem IR.up0 (h : IR wr g v1 v2 bl1 bl2 L f w) : IR wr g v1 v2 bl1 bl2 (upped L 0) (setF f 44 v1) w := by
  exact {
    low := by simpa [upped, setF] using h.low
    s0 := fun _ => by simp [setF]
    s2 := by simpa [upped, setF] using h.s2
    s4 := by simpa [upped, setF] using h.s4
    s6 := by simpa [upped, setF] using h.s6
    d5 := by simpa [upped, setF] using h.d5
    d7 := by simpa [upped, setF] using h.d7
    d10 := by simpa [upped, setF] using h.d10
    d11 := by simpa [upped, setF] using h.d11
    p1 := by simpa [upped, setF] using h.p1
    p3 := by simpa [upped, setF] using h.p3
    p5 := by simpa [upped, setF] using h.p5
    p7 := by simpa [upped, setF] using h.p7
    b8 := by simpa [upped, setF] using h.b8
    b9 := by simpa [upped, setF] using h.b9 }
set_option maxHeartbeats 1000000 in
theorem IR.up2 (h : IR wr g v1 v2 bl1 bl2 L f w) : IR wr g v1 v2 bl1 bl2 (upped L 2) (setF f 46 g.val) w := by
  exact {
    low := by simpa [upped, setF] using h.low
    s0 := by simpa [upped, setF] using h.s0
    s2 := fun _ => by simp [setF]
    s4 := by simpa [upped, setF] using h.s4
    s6 := by simpa [upped, setF] using h.s6
    d5 := by simpa [upped, setF] using h.d5
    d7 := by simpa [upped, setF] using h.d7
    d10 := by simpa [upped, setF] using h.d10
    d11 := by simpa [upped, setF] using h.d11
    p1 := by simpa [upped, setF] using h.p1
    p3 := by simpa [upped, setF] using h.p3
    p5 := by simpa [upped, setF] using h.p5
    p7 := by simpa [upped, setF] using h.p7
    b8 := by simpa [upped, setF] using h.b8
    b9 := by simpa [upped, setF] using h.b9 }
set_option maxHeartbeats 1000000 in
theorem IR.up4 (h : IR wr g v1 v2 bl1 bl2 L f w) : IR wr g v1 v2 bl1 bl2 (upped L 4) (setF f 48 v2) w := by
  exact {
    low := by simpa [upped, setF] using h.low
    s0 := by simpa [upped, setF] using h.s0
    s2 := by simpa [upped, setF] using h.s2
    s4 := fun _ => by simp [setF]
    s6 := by simpa [upped, setF] using h.s6
    d5 := by simpa [upped, setF] using h.d5
    d7 := by simpa [upped, setF] using h.d7
    d10 := by simpa [upped, setF] using h.d10
    d11 := by simpa [upped, setF] using h.d11
    p1 := by simpa [upped, setF] using h.p1
    p3 := by simpa [upped, setF] using h.p3
    p5 := by simpa [upped, setF] using h.p5
    p7 := by simpa [upped, setF] using h.p7
    b8 := by simpa [upped, setF] using h.b8
    b9 := by simpa [upped, setF] using h.b9 }
set_option maxHeartbeats 1000000 in
theorem IR.up6 (h : IR wr g v1 v2 bl1 bl2 L f w) : IR wr g v1 v2 bl1 bl2 (upped L 6) (setF f 50 g.val) w := by
  exact {
    low := by simpa [upped, setF] using h.low
    s0 := by simpa [upped, setF] using h.s0
    s2 := by simpa [upped, setF] using h.s2
    s4 := by simpa [upped, setF] using h.s4
    s6 := fun _ => by simp [setF]
    d5 := by simpa [upped, setF] using h.d5
    d7 := by simpa [upped, setF] using h.d7
    d10 := by simpa [upped, setF] using h.d10
    d11 := by simpa [upped, setF] using h.d11
    p1 := by simpa [upped, setF] using h.p1
    p3 := by simpa [upped, setF] using h.p3
    p5 := by simpa [upped, setF] using h.p5
    p7 := by simpa [upped, setF] using h.p7
    b8 := by simpa [upped, setF] using h.b8
    b9 := by simpa [upped, setF] using h.b9 }
set_option maxHeartbeats 1000000 in
theorem IR.up1 (h : IR wr g v1 v2 bl1 bl2 L f w) (hb : Below w.heap.size w w') {x : Gr} (hx : Gx wr.heap.size w' x bl1) : IR wr g v1 v2 bl1 bl2 (upped L 1) (setF f 45 x.val) w' := by
  have h := h.grow hb
  exact {
    low := by simpa [upped, setF] using h.low
    s0 := by simpa [upped, setF] using h.s0
    s2 := by simpa [upped, setF] using h.s2
    s4 := by simpa [upped, setF] using h.s4
    s6 := by simpa [upped, setF] using h.s6
    d5 := by simpa [upped, setF] using h.d5
    d7 := by simpa [upped, setF] using h.d7
    d10 := by simpa [upped, setF] using h.d10
    d11 := by simpa [upped, setF] using h.d11
    p1 := fun _ _ => ⟨x, by simp [setF], hx⟩
    p3 := by simpa [upped, setF] using h.p3
    p5 := by simpa [upped, setF] using h.p5
    p7 := by simpa [upped, setF] using h.p7
    b8 := by simpa [upped, setF] using h.b8
    b9 := by simpa [upped, setF] using h.b9 }
set_option maxHeartbeats 1000000 in
theorem IR.up3 (h : IR wr g v1 v2 bl1 bl2 L f w) (h3 : L 3 = false) (hb : Below wr.heap.size w w') (hk : ∀ (b : Nat) (vs : Array Value), Blk w b vs 25 → Blk w' b vs 25) {x : Gr} (hx : Dy wr.heap.size w' x g bl1) : IR wr g v1 v2 bl1 bl2 (upped L 3) (setF f 47 x.val) w' := by
  have h5 : L 5 = false := by cases e : L 5 with | false => rfl | true => rw [h.d5 e] at h3; cases h3
  have h7 : L 7 = false := by cases e : L 7 with | false => rfl | true => rw [h.d7 e] at h5; cases h5
  have hA : L 10 = false := by cases e : L 10 with | false => rfl | true => rw [(h.d10 e).1] at h7; cases h7
  have hC : L 11 = false := by cases e : L 11 with | false => rfl | true => rw [h.d11 e] at hA; cases hA
  exact {
    low := h.low.trans hb
    s0 := by simpa [upped, setF] using h.s0
    s2 := by simpa [upped, setF] using h.s2
    s4 := by simpa [upped, setF] using h.s4
    s6 := by simpa [upped, setF] using h.s6
    d5 := fun _ => by simp [upped]
    d7 := by simpa [upped, setF] using h.d7
    d10 := by simpa [upped, setF] using h.d10
    d11 := by simpa [upped, setF] using h.d11
    p1 := fun _ e => by simp [upped] at e
    p3 := fun _ _ => ⟨x, by simp [setF], hx⟩
    p5 := fun e _ => by simp [upped, h5] at e
    p7 := fun e => by simp [upped, h7] at e
    b8 := fun e => by obtain ⟨b, e1, e2, e3, vs, k1, k2, k3⟩ := h.b8 (by simpa [upped] using e); exact ⟨b, by simpa [setF] using e1, e2, by simpa [upped, setF] using e3, vs, hk b vs k1, k2, fun e => by simp [upped, hA] at e⟩
    b9 := fun e => by obtain ⟨b, e1, e2, vs, k1, k2, k3⟩ := h.b9 (by simpa [upped] using e); exact ⟨b, by simpa [setF] using e1, e2, vs, hk b vs k1, k2, fun e => by simp [upped, hC] at e⟩ }
set_option maxHeartbeats 1000000 in
theorem IR.up5 (h : IR wr g v1 v2 bl1 bl2 L f w) (h3 : L 3 = true) (h5 : L 5 = false) (hb : Below w.heap.size w w') {y : Gr} (hy : Gx w.heap.size w' y bl2) : IR wr g v1 v2 bl1 bl2 (upped L 5) (setF f 49 y.val) w' := by
  obtain ⟨x, ex, kx⟩ := h.p3 h3 h5
  have h7 : L 7 = false := by cases e : L 7 with | false => rfl | true => rw [h.d7 e] at h5; cases h5
  have hl := h.low
  have h := h.grow hb
  exact {
    low := by simpa [upped, setF] using h.low
    s0 := by simpa [upped, setF] using h.s0
    s2 := by simpa [upped, setF] using h.s2
    s4 := by simpa [upped, setF] using h.s4
    s6 := by simpa [upped, setF] using h.s6
    d5 := fun _ => by simp [upped, h3]
    d7 := fun _ => by simp [upped]
    d10 := by simpa [upped, setF] using h.d10
    d11 := by simpa [upped, setF] using h.d11
    p1 := by simpa [upped, setF] using h.p1
    p3 := fun _ e => by simp [upped] at e
    p5 := fun _ _ => ⟨x, y, w, by simpa [setF] using ex, by simp [setF], hl, kx, hb, hy⟩
    p7 := fun e => by simp [upped, h7] at e
    b8 := by simpa [upped, setF] using h.b8
    b9 := by simpa [upped, setF] using h.b9 }
set_option maxHeartbeats 1000000 in
theorem IR.up7 (h : IR wr g v1 v2 bl1 bl2 L f w) (h5 : L 5 = true) (h7 : L 7 = false) (hb : Below wr.heap.size w w') (hk : ∀ (b : Nat) (vs : Array Value), Blk w b vs 25 → Blk w' b vs 25) {x y : Gr} (ex : f 47 = x.val) (hx : Dy wr.heap.size w' x g bl1) (hy : Dy wr.heap.size w' y g bl2) : IR wr g v1 v2 bl1 bl2 (upped L 7) (setF f 51 y.val) w' := by
  have h3 := h.d5 h5
  have hA : L 10 = false := by cases e : L 10 with | false => rfl | true => rw [(h.d10 e).1] at h7; cases h7
  have hC : L 11 = false := by cases e : L 11 with | false => rfl | true => rw [h.d11 e] at hA; cases hA
  exact {
    low := h.low.trans hb
    s0 := by simpa [upped, setF] using h.s0
    s2 := by simpa [upped, setF] using h.s2
    s4 := by simpa [upped, setF] using h.s4
    s6 := by simpa [upped, setF] using h.s6
    d5 := by simpa [upped, setF] using h.d5
    d7 := fun _ => by simp [upped, h5]
    d10 := fun e => by simp [upped, hA] at e
    d11 := by simpa [upped, setF] using h.d11
    p1 := fun _ e => by simp [upped, h3] at e
    p3 := fun _ e => by simp [upped, h5] at e
    p5 := fun _ e => by simp [upped] at e
    p7 := fun _ => ⟨x, y, by simpa [setF] using ex, by simp [setF], hx, hy⟩
    b8 := fun e => by obtain ⟨b, e1, e2, e3, vs, k1, k2, k3⟩ := h.b8 (by simpa [upped] using e); exact ⟨b, by simpa [setF] using e1, e2, by simpa [upped, setF] using e3, vs, hk b vs k1, k2, fun e => by simp [upped, hA] at e⟩
    b9 := fun e => by obtain ⟨b, e1, e2, vs, k1, k2, k3⟩ := h.b9 (by simpa [upped] using e); exact ⟨b, by simpa [setF] using e1, e2, vs, hk b vs k1, k2, fun e => by simp [upped, hC] at e⟩ }
set_option maxHeartbeats 1000000 in
theorem IR.up8 (h : IR wr g v1 v2 bl1 bl2 L f w) (h8 : L 8 = false) : IR wr g v1 v2 bl1 bl2 (upped L 8) (setF f 7 (bptr w.heap.size)) (w.alloc (.cells #[.slice none 0 0, .slice none 0 0] 25)) := by
  have hA : L 10 = false := by cases e : L 10 with | false => rfl | true => rw [(h.d10 e).2.1] at h8; cases h8
  have hn : ∀ b, f 8 = bptr b → L 9 = true → b < w.heap.size := fun b e e9 => by obtain ⟨b', e1, _, vs, k1, _⟩ := h.b9 e9; rw [bptr_inj (e.symm.trans e1)]; exact k1.lt
  have hl := h.low.size
  have h9 := h.b9
  have h := h.grow (B1 w (.cells #[.slice none 0 0, .slice none 0 0] 25))
  exact {
    low := by simpa [upped, setF] using h.low
    s0 := by simpa [upped, setF] using h.s0
    s2 := by simpa [upped, setF] using h.s2
    s4 := by simpa [upped, setF] using h.s4
    s6 := by simpa [upped, setF] using h.s6
    d5 := by simpa [upped, setF] using h.d5
    d7 := by simpa [upped, setF] using h.d7
    d10 := fun e => by simp [upped, hA] at e
    d11 := by simpa [upped, setF] using h.d11
    p1 := by simpa [upped, setF] using h.p1
    p3 := by simpa [upped, setF] using h.p3
    p5 := by simpa [upped, setF] using h.p5
    p7 := by simpa [upped, setF] using h.p7
    b8 := fun _ => ⟨w.heap.size, by simp [setF], hl, fun e9 e => by
      have e9 : L 9 = true := by simpa [upped] using e9
      have e : f 8 = bptr w.heap.size := by simpa [setF] using e
      have := hn _ e e9
      omega, #[.slice none 0 0, .slice none 0 0], Blk.new _ _ _, rfl, fun e => by simp [upped, hA] at e⟩
    b9 := by simpa [upped, setF] using h.b9 }
set_option maxHeartbeats 1000000 in
theorem IR.up9 (h : IR wr g v1 v2 bl1 bl2 L f w) (h9 : L 9 = false) : IR wr g v1 v2 bl1 bl2 (upped L 9) (setF f 8 (bptr w.heap.size)) (w.alloc (.cells #[.slice none 0 0, .slice none 0 0] 25)) := by
  have hA : L 10 = false := by cases e : L 10 with | false => rfl | true => rw [(h.d10 e).2.2] at h9; cases h9
  have hC : L 11 = false := by cases e : L 11 with | false => rfl | true => rw [h.d11 e] at hA; cases hA
  have hl := h.low.size
  have h8 := h.b8
  have h := h.grow (B1 w (.cells #[.slice none 0 0, .slice none 0 0] 25))
  exact {
    low := by simpa [upped, setF] using h.low
    s0 := by simpa [upped, setF] using h.s0
    s2 := by simpa [upped, setF] using h.s2
    s4 := by simpa [upped, setF] using h.s4
    s6 := by simpa [upped, setF] using h.s6
    d5 := by simpa [upped, setF] using h.d5
    d7 := by simpa [upped, setF] using h.d7
    d10 := fun e => by simp [upped, hA] at e
    d11 := by simpa [upped, setF] using h.d11
    p1 := by simpa [upped, setF] using h.p1
    p3 := by simpa [upped, setF] using h.p3
    p5 := by simpa [upped, setF] using h.p5
    p7 := by simpa [upped, setF] using h.p7
    b8 := fun e => by
      have e : L 8 = true := by simpa [upped] using e
      obtain ⟨b, e1, e2, e3, vs, k1, k2, k3⟩ := h8 e
      refine ⟨b, by simpa [setF] using e1, e2, fun _ e' => ?_, vs, k1.alloc _, k2, fun e => by simp [upped, hA] at e⟩
      have e' : bptr w.heap.size = f 7 := by simpa [setF] using e'
      rw [e1] at e'
      have := bptr_inj e'
      have := k1.lt
      omega
    b9 := fun _ => ⟨w.heap.size, by simp [setF], hl, #[.slice none 0 0, .slice none 0 0], Blk.new _ _ _, rfl, fun e => by simp [upped, hC] at e⟩ }
set_option maxHeartbeats 1000000 in
theorem IR.up10 (h : IR wr g v1 v2 bl1 bl2 L f w) (h7 : L 7 = true) (h8 : L 8 = true) (h9 : L 9 = true) (hA : L 10 = false) {b : Nat} (eb : f 7 = bptr b) (hlo : wr.heap.size ≤ b) {vs ns : Array Value} (ho : Blk w b vs 25) (hs : ns.size = 2) (en : Value.agg ns = f 47) (hn : Blk w' b ns 25) (hg : w.grownBy w' (some b)) : IR wr g v1 v2 bl1 bl2 (upped L 10) f w' := by
  have h5 := h.d7 h7
  have h3 := h.d5 h5
  have hC : L 11 = false := by cases e : L 11 with | false => rfl | true => rw [h.d11 e] at hA; cases hA
  exact {
    low := grown_below h.low h.low.size hg (fun k e => by cases e; exact hlo)
    s0 := by simpa [upped, setF] using h.s0
    s2 := by simpa [upped, setF] using h.s2
    s4 := by simpa [upped, setF] using h.s4
    s6 := by simpa [upped, setF] using h.s6
    d5 := by simpa [upped, setF] using h.d5
    d7 := by simpa [upped, setF] using h.d7
    d10 := fun _ => by simp [upped, h7, h8, h9]
    d11 := fun e => by simp [upped]
    p1 := fun _ e => by simp [upped, h3] at e
    p3 := fun _ e => by simp [upped, h5] at e
    p5 := fun _ e => by simp [upped, h7] at e
    p7 := fun _ => by obtain ⟨x, y, e1, e2, k1, k2⟩ := h.p7 h7; exact ⟨x, y, e1, e2, k1.off ho hg, k2.off ho hg⟩
    b8 := fun _ => by obtain ⟨b0, e1, e2, e3, _⟩ := h.b8 h8; exact ⟨b, eb, hlo, fun _ => e3 h9, ns, hn, hs, fun _ => en⟩
    b9 := fun _ => by
      obtain ⟨b0, e1, e2, e3, _⟩ := h.b8 h8
      obtain ⟨b9, q1, q2, vs, k1, k2, k3⟩ := h.b9 h9
      exact ⟨b9, q1, q2, vs, k1.grown hg (fun e => e3 h9 (by rw [q1, eb, Option.some.inj e])), k2, fun e => by simp [upped, hC] at e⟩ }
set_option maxHeartbeats 1000000 in
theorem IR.up11 (h : IR wr g v1 v2 bl1 bl2 L f w) (h7 : L 7 = true) (h8 : L 8 = true) (h9 : L 9 = true) (hA : L 10 = true) {b : Nat} (eb : f 8 = bptr b) (hlo : wr.heap.size ≤ b) {vs ns : Array Value} (ho : Blk w b vs 25) (hs : ns.size = 2) (en : Value.agg ns = f 51) (hn : Blk w' b ns 25) (hg : w.grownBy w' (some b)) : IR wr g v1 v2 bl1 bl2 (upped L 11) f w' := by
  have h5 := h.d7 h7
  have h3 := h.d5 h5
  exact {
    low := grown_below h.low h.low.size hg (fun k e => by cases e; exact hlo)
    s0 := by simpa [upped, setF] using h.s0
    s2 := by simpa [upped, setF] using h.s2
    s4 := by simpa [upped, setF] using h.s4
    s6 := by simpa [upped, setF] using h.s6
    d5 := by simpa [upped, setF] using h.d5
    d7 := by simpa [upped, setF] using h.d7
    d10 := by simpa [upped, setF] using h.d10
    d11 := fun _ => by simp [upped, hA]
    p1 := fun _ e => by simp [upped, h3] at e
    p3 := fun _ e => by simp [upped, h5] at e
    p5 := fun _ e => by simp [upped, h7] at e
    p7 := fun _ => by obtain ⟨x, y, e1, e2, k1, k2⟩ := h.p7 h7; exact ⟨x, y, e1, e2, k1.off ho hg, k2.off ho hg⟩
    b8 := fun _ => by
      obtain ⟨b0, e1, e2, e3, vs0, k1, k2, k3⟩ := h.b8 h8
      exact ⟨b0, e1, e2, fun _ => e3 h9, vs0, k1.grown hg (fun e => e3 h9 (by rw [eb, e1, Option.some.inj e])), k2, fun _ => k3 hA⟩
    b9 := fun _ => ⟨b, eb, hlo, ns, hn, hs, fun _ => en⟩ }
end
end Go.Proofs.Ytmlaepbmdfmgbaa
namespace Go.Proofs.Ytmlaepbmdfmgbaa
open Go Go.RowKit Go.Maps
theorem Gx.lower {B B' : Nat} {W : World} {x : Gr} {bl : List (List Nd)} (h : Gx B W x bl) (hb : B' ≤ B) : Gx B' W x bl :=
  ⟨h.sp, h.kl, h.cap, own_lower h.row hb, own_lower h.nds hb, fun y hy => ⟨own_lower (h.kds y hy).1 hb, (h.kds y hy).2⟩, h.at_⟩
section
variable {a : Act} {w : World} {o : Oper}
theorem q_move {Q : Value → World → Prop} {x : Operand} (ho : o.op = .move x) (h : Q (a.eval x) w) : Gives Try.prog Q ((execOp a.eval o).run Try.prog w) :=
  .value (v := a.eval x) (w := w) (by simp [execOp, ho]) h
theorem q_load2 {Q : Value → World → Prop} {x : Operand} {b : Nat} {u v : Value} (ho : o.op = .load 25 x) (hx : a.eval x = bptr b) (h0 : w.cell? ⟨b, 0, none⟩ = some u) (h1 : w.cell? ⟨b, 1, none⟩ = some v) (h : Q (.agg #[u, v]) w) : Gives Try.prog Q ((execOp a.eval o).run Try.prog w) := by
  unfold bptr at hx
  refine .value (v := .agg #[u, v]) (w := w) ?_ h
  generalize a.eval = ρ at *
  simp only [execOp, ho, hx]
  go_simp
theorem q_call {Q : Value → World → Prop} {f : FuncId} {xs : Array Operand} {ts : Array TypeId} {args : Array Value} (ho : o.op = .call { callee := .value (.func f), args := xs, argTypes := ts })
    (he : ∀ args w, (callFunc f args).run Try.prog w = .ok (.enter f args) w) (hx : xs.map a.eval = args) (h : Calls Try.prog f args w fun e w' => ∃ v, e = .returned v ∧ Q v w') :
    Gives Try.prog Q ((execOp a.eval o).run Try.prog w) := by
  refine .enter (f := f) (args := args) (w := w) ?_ h
  simp only [execOp, ho, resolve, Act.eval] at hx ⊢
  rw [hx]
  simp [invoke, Deferred.ofValue, he, go_sem]
theorem q_alloc {Q : Value → World → Prop} (ho : o.op = .alloc 25) (h : Q (bptr w.heap.size) (w.alloc (.cells #[.slice none 0 0, .slice none 0 0] 25))) : Gives Try.prog Q ((execOp a.eval o).run Try.prog w) := by
  refine .value (v := bptr w.heap.size) (w := w.alloc (.cells #[.slice none 0 0, .slice none 0 0] 25)) ?_ h
  generalize a.eval = ρ at *
  simp only [execOp, ho, bptr]
  go_simp
theorem q_store {Q : Value → World → Prop} {x y : Operand} {b : Nat} {vs ns : Array Value} (ho : o.op = .store 25 x y) (hx : a.eval x = bptr b) (hy : a.eval y = .agg ns) (hb : Blk w b vs 25) (hv : vs.size = 2) (hn : ns.size = 2) (h1 : ns.all (·.oneCell') = true)
    (h : ∀ w', Blk w' b ns 25 → w.grownBy w' (some b) → Q undef w') : Gives Try.prog Q ((execOp a.eval o).run Try.prog w) := by
  have hi : (Try.prog.info? 25).map (·.size) = some 2 := by kernel_rfl
  have e2 : vs.toList.length = 2 := by simpa using hv
  have e3 : ns.toList.length = 2 := by simpa using hn
  have hst := run_storeCells_at Try.prog b 0 25 ns.toList 0 vs w hb (by omega) (fun u hu => (Array.all_eq_true.1 h1 |> fun k => by obtain ⟨i, hi, rfl⟩ := List.getElem_of_mem hu; exact k i (by simpa using hi)))
  have hc : (vs.toList.take 0 ++ ns.toList ++ vs.toList.drop (0 + ns.toList.length)).toArray = ns := by
    rw [List.drop_eq_nil_of_le (by omega)]
    simp
  rw [show 0 + 0 = 0 from rfl, hc] at hst
  have hr : (execOp a.eval o).run Try.prog w = .ok .skip (w.setRow b ns) := by
    unfold bptr at hx
    generalize a.eval = ρ at *
    unfold execOp
    cases hq : Try.prog.info? 25 with
    | none => rw [hq] at hi; cases hi
    | some i =>
      have hs2 : i.size = 2 := by rw [hq] at hi; simpa using hi
      have hsv : (storeVar 25 ⟨b, 0, none⟩ (.agg ns)).run Try.prog w = .ok () (w.setRow b ns) := by
        simp [storeVar, sizeOf, typeInfo, hq, Value.cells, hs2, hn, hst]
      simp only [ho, hx, hy, Instr.storeAt, Instr.sureAddr, Sem.run_bind, Sem.run_pure, Result.andThen_ok, hsv]
  rw [hr]
  exact h _ hb.setRow (setRow_grown w b ns)
variable {wr : World} {g : Gr} {v1 v2 : Value} {bl1 bl2 : List (List Nd)} {L : Nat → Bool}
theorem st0 (h : IR wr g v1 v2 bl1 bl2 L (slots a) w) {x : Operand} (ho : o.op = .move x) (hd : o.dst = some 44) (hx : a.eval x = v1) : Gives Try.prog (fun v w' => IR wr g v1 v2 bl1 bl2 (upped L 0) (slotted (slots a) o v) w') ((execOp a.eval o).run Try.prog w) :=
  q_move ho (by rw [slotted_some hd, hx]; exact h.up0)
theorem st4 (h : IR wr g v1 v2 bl1 bl2 L (slots a) w) {x : Operand} (ho : o.op = .move x) (hd : o.dst = some 48) (hx : a.eval x = v2) : Gives Try.prog (fun v w' => IR wr g v1 v2 bl1 bl2 (upped L 4) (slotted (slots a) o v) w') ((execOp a.eval o).run Try.prog w) :=
  q_move ho (by rw [slotted_some hd, hx]; exact h.up4)
theorem st2 (h : IR wr g v1 v2 bl1 bl2 L (slots a) w) {x : Operand} {q : Nat} (ho : o.op = .load 25 x) (hd : o.dst = some 46) (hx : a.eval x = bptr q) (hk : Blk wr q #[.slice g.RA g.rules.length g.rc, .slice g.NA g.nodes.length g.nc] 25) : Gives Try.prog (fun v w' => IR wr g v1 v2 bl1 bl2 (upped L 2) (slotted (slots a) o v) w') ((execOp a.eval o).run Try.prog w) := by
  have k := hk.below' h.low
  have k0 := k.cell 0
  have k1 := k.cell 1
  simp only [List.getElem?_toArray, List.getElem?_cons_zero, List.getElem?_cons_succ] at k0 k1
  exact q_load2 ho hx k0 k1 (by rw [slotted_some hd]; exact h.up2)
theorem st6 (h : IR wr g v1 v2 bl1 bl2 L (slots a) w) {x : Operand} {q : Nat} (ho : o.op = .load 25 x) (hd : o.dst = some 50) (hx : a.eval x = bptr q) (hk : Blk wr q #[.slice g.RA g.rules.length g.rc, .slice g.NA g.nodes.length g.nc] 25) : Gives Try.prog (fun v w' => IR wr g v1 v2 bl1 bl2 (upped L 6) (slotted (slots a) o v) w') ((execOp a.eval o).run Try.prog w) := by
  have k := hk.below' h.low
  have k0 := k.cell 0
  have k1 := k.cell 1
  simp only [List.getElem?_toArray, List.getElem?_cons_zero, List.getElem?_cons_succ] at k0 k1
  exact q_load2 ho hx k0 k1 (by rw [slotted_some hd]; exact h.up6)
theorem enterGram : ∀ args w, (callFunc 13 args).run Try.prog w = .ok (.enter 13 args) w := fun _ _ => by kernel_rfl
theorem enterNamed : ∀ args w, (callFunc 20 args).run Try.prog w = .ok (.enter 20 args) w := fun _ _ => by kernel_rfl
theorem st1 {A : Option Addr} {c : Nat} {hs : List Bdy} {K : Int} (h : IR wr g v1 v2 (hs.map fun b => b.2.2.map Nd.kz) bl2 L (slots a) w) {ts : Array TypeId} (ho : o.op = .call { callee := .value (.func 13), args := #[.tmp 44], argTypes := ts }) (hd : o.dst = some 45) (h0 : L 0 = true)
    (e1 : v1 = .slice A hs.length c) (hB : ∀ W, Below wr.heap.size wr W → Bds W A hs K) (hl : hs.length ≤ 60) (hK : 0 ≤ K ∧ K ≤ 100000000) : Gives Try.prog (fun v w' => IR wr g v1 v2 (hs.map fun b => b.2.2.map Nd.kz) bl2 (upped L 1) (slotted (slots a) o v) w') ((execOp a.eval o).run Try.prog w) := by
  refine q_call (args := #[.slice A hs.length c]) ho enterGram (by simp only [List.map_toArray, List.map_cons, List.map_nil]; rw [← e1, ← h.s0 h0]; rfl) ?_
  refine (gx_gram A hs c hs.length rfl K w (hB w h.low) hl hK).mono ?_
  rintro e w' ⟨⟨x, rfl, hx⟩, hb⟩
  exact ⟨_, rfl, by rw [slotted_some hd]; exact h.up1 hb (hx.lower h.low.size)⟩
theorem st5 {A : Option Addr} {c : Nat} {hs : List Bdy} {K : Int} (h : IR wr g v1 v2 bl1 (hs.map fun b => b.2.2.map Nd.kz) L (slots a) w) {ts : Array TypeId} (ho : o.op = .call { callee := .value (.func 13), args := #[.tmp 48], argTypes := ts }) (hd : o.dst = some 49) (h4 : L 4 = true) (h3 : L 3 = true) (h5 : L 5 = false)
    (e1 : v2 = .slice A hs.length c) (hB : ∀ W, Below wr.heap.size wr W → Bds W A hs K) (hl : hs.length ≤ 60) (hK : 0 ≤ K ∧ K ≤ 100000000) : Gives Try.prog (fun v w' => IR wr g v1 v2 bl1 (hs.map fun b => b.2.2.map Nd.kz) (upped L 5) (slotted (slots a) o v) w') ((execOp a.eval o).run Try.prog w) := by
  refine q_call (args := #[.slice A hs.length c]) ho enterGram (by simp only [List.map_toArray, List.map_cons, List.map_nil]; rw [← e1, ← h.s4 h4]; rfl) ?_
  refine (gx_gram A hs c hs.length rfl K w (hB w h.low) hl hK).mono ?_
  rintro e w' ⟨⟨x, rfl, hx⟩, hb⟩
  exact ⟨_, rfl, by rw [slotted_some hd]; exact h.up5 h3 h5 hb hx⟩
theorem keep_row {B : Nat} {w w' : World} {x : Gr} {bl : List (List Nd)} (hx : Gx B w x bl) (hs : ∀ q, q < w.heap.size → (Value.slice x.RA x.rules.length x.rc).ownBlock ≠ some q → w'.heap[q]? = w.heap[q]?) (b : Nat) (vs : Array Value) (hb : Blk w b vs 25) : Blk w' b vs 25 :=
  (hs b hb.lt (own_ne hx.row hb (by decide))).trans hb
theorem st3 (h : IR wr g v1 v2 bl1 bl2 L (slots a) w) {ts : Array TypeId} (ho : o.op = .call { callee := .value (.func 20), args := #[.tmp 45, .tmp 46], argTypes := ts }) (hd : o.dst = some 47) (h1 : L 1 = true) (h2 : L 2 = true) (h3 : L 3 = false)
    (hl : g.rules.length ≤ 32) (hbl : bl1.length = g.rules.length) (hg : ∀ W, Below wr.heap.size wr W → Gr.At W g) (hk : ∀ b ∈ bl1, ∀ y ∈ b, 1 ≤ y.kind ∧ y.kind ≤ 12) : Gives Try.prog (fun v w' => IR wr g v1 v2 bl1 bl2 (upped L 3) (slotted (slots a) o v) w') ((execOp a.eval o).run Try.prog w) := by
  obtain ⟨x, ex, hx⟩ := h.p1 h1 h3
  refine q_call (args := #[x.val, g.val]) ho enterNamed (by simp only [List.map_toArray, List.map_cons, List.map_nil]; rw [← ex, ← h.s2 h2]; rfl) ?_
  refine (dy_named hx h.low.size hl hbl (fun W hb => hg W (h.low.trans hb)) hk).mono ?_
  rintro e w' ⟨⟨y, rfl, hy⟩, hb, hs⟩
  exact ⟨_, rfl, by rw [slotted_some hd]; exact h.up3 h3 hb (keep_row hx hs) hy⟩
theorem st7 (h : IR wr g v1 v2 bl1 bl2 L (slots a) w) {ts : Array TypeId} (ho : o.op = .call { callee := .value (.func 20), args := #[.tmp 49, .tmp 50], argTypes := ts }) (hd : o.dst = some 51) (h5 : L 5 = true) (h6 : L 6 = true) (h7 : L 7 = false)
    (hl : g.rules.length ≤ 32) (hbl : bl2.length = g.rules.length) (hg : ∀ W, Below wr.heap.size wr W → Gr.At W g) (hk : ∀ b ∈ bl2, ∀ y ∈ b, 1 ≤ y.kind ∧ y.kind ≤ 12) : Gives Try.prog (fun v w' => IR wr g v1 v2 bl1 bl2 (upped L 7) (slotted (slots a) o v) w') ((execOp a.eval o).run Try.prog w) := by
  obtain ⟨x, y, u, ex, ey, hu, hx, huw, hy⟩ := h.p5 h5 h7
  refine q_call (args := #[y.val, g.val]) ho enterNamed (by simp only [List.map_toArray, List.map_cons, List.map_nil]; rw [← ey, ← h.s6 h6]; rfl) ?_
  refine (dy_named hy huw.size hl hbl (fun W hb => hg W (h.low.trans (hb.mono hu.size))) hk).mono ?_
  rintro e w' ⟨⟨z, rfl, hz⟩, hb, hs⟩
  exact ⟨_, rfl, by rw [slotted_some hd]; exact h.up7 h5 h7 (hb.mono hu.size) (keep_row hy hs) ex (hx.below (huw.trans hb)) (hz.lower hu.size)⟩
theorem st8 (h : IR wr g v1 v2 bl1 bl2 L (slots a) w) (ho : o.op = .alloc 25) (hd : o.dst = some 7) (h8 : L 8 = false) : Gives Try.prog (fun v w' => IR wr g v1 v2 bl1 bl2 (upped L 8) (slotted (slots a) o v) w') ((execOp a.eval o).run Try.prog w) :=
  q_alloc ho (by rw [slotted_some hd]; exact h.up8 h8)
theorem st9 (h : IR wr g v1 v2 bl1 bl2 L (slots a) w) (ho : o.op = .alloc 25) (hd : o.dst = some 8) (h9 : L 9 = false) : Gives Try.prog (fun v w' => IR wr g v1 v2 bl1 bl2 (upped L 9) (slotted (slots a) o v) w') ((execOp a.eval o).run Try.prog w) :=
  q_alloc ho (by rw [slotted_some hd]; exact h.up9 h9)
theorem st10 (h : IR wr g v1 v2 bl1 bl2 L (slots a) w) (ho : o.op = .store 25 (.tmp 7) (.tmp 47)) (hd : o.dst = none) (h7 : L 7 = true) (h8 : L 8 = true) (h9 : L 9 = true) (hA : L 10 = false) : Gives Try.prog (fun v w' => IR wr g v1 v2 bl1 bl2 (upped L 10) (slotted (slots a) o v) w') ((execOp a.eval o).run Try.prog w) := by
  obtain ⟨b, eb, hlo, _, vs, k1, k2, _⟩ := h.b8 h8
  obtain ⟨x, y, ex, ey, hx, hy⟩ := h.p7 h7
  exact q_store (ns := #[.slice x.RA x.rules.length x.rc, .slice x.NA x.nodes.length x.nc]) ho eb ex k1 k2 rfl (by simp [Value.oneCell']) fun w' hn hg => by
    rw [slotted_none hd]
    exact h.up10 h7 h8 h9 hA eb hlo k1 rfl ex.symm hn hg
theorem st11 (h : IR wr g v1 v2 bl1 bl2 L (slots a) w) (ho : o.op = .store 25 (.tmp 8) (.tmp 51)) (hd : o.dst = none) (h7 : L 7 = true) (h8 : L 8 = true) (h9 : L 9 = true) (hA : L 10 = true) : Gives Try.prog (fun v w' => IR wr g v1 v2 bl1 bl2 (upped L 11) (slotted (slots a) o v) w') ((execOp a.eval o).run Try.prog w) := by
  obtain ⟨b, eb, hlo, vs, k1, k2, _⟩ := h.b9 h9
  obtain ⟨x, y, ex, ey, hx, hy⟩ := h.p7 h7
  exact q_store (ns := #[.slice y.RA y.rules.length y.rc, .slice y.NA y.nodes.length y.nc]) ho eb ey k1 k2 rfl (by simp [Value.oneCell']) fun w' hn hg => by
    rw [slotted_none hd]
    exact h.up11 h7 h8 h9 hA eb hlo k1 rfl ey.symm hn hg
end
/-- What lies there at the end. -/
theorem IR.done {wr w : World} {g : Gr} {v1 v2 : Value} {bl1 bl2 : List (List Nd)} {L : Nat → Bool} {f : Nat → Value} (h : IR wr g v1 v2 bl1 bl2 L f w) (hL : ∀ i, i < 12 → L i = true) :
    ∃ (x y : Gr) (b c : Nat), f 7 = bptr b ∧ f 8 = bptr c ∧ Blk w b #[.slice x.RA x.rules.length x.rc, .slice x.NA x.nodes.length x.nc] 25 ∧ Blk w c #[.slice y.RA y.rules.length y.rc, .slice y.NA y.nodes.length y.nc] 25 ∧ Dx w x g bl1 ∧ Dx w y g bl2 ∧ Below wr.heap.size wr w := by
  obtain ⟨x, y, ex, ey, hx, hy⟩ := h.p7 (hL 7 (by decide))
  obtain ⟨b, eb, _, _, vs, k1, k2, k3⟩ := h.b8 (hL 8 (by decide))
  obtain ⟨c, ec, _, us, q1, q2, q3⟩ := h.b9 (hL 9 (by decide))
  have e1 := (k3 (hL 10 (by decide))).trans ex
  have e2 := (q3 (hL 11 (by decide))).trans ey
  cases e1
  cases e2
  exact ⟨x, y, b, c, eb, ec, k1, q1, hx.dx, hy.dx, h.low⟩
end Go.Proofs.Ytmlaepbmdfmgbaa

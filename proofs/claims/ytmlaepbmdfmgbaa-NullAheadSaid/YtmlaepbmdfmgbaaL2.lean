/- A grammar at work. -/
import Derived.Test.YtmlaepbmdfmgbaaL1
import Derived.Test.YtmlaepbmdfmgbaaC2
import Derived.Deep.CutRange
set_option linter.unusedSimpArgs false
set_option linter.unusedVariables false
namespace Go.Proofs.Ytmlaepbmdfmgbaa
open Go Go.RowKit Go.Maps Go.Shelf
theorem Try.info_b : (Try.prog.info? 4).map (fun i => (i.zero, i.size, i.bytes)) = some (some (.bool false), 1, 1) := by kernel_rfl
set_option maxRecDepth 100000 in
theorem lworkOf_no (g : Gr) (w : World) (hg : Gr.At w g) (hin : Gr.In g) (hR : rightB g = false) : Calls Try.prog 42 #[g.val] w fun e w' => e = .returned (.tuple #[.pointer none, .bool false]) ∧ Below w.heap.size w w' := by
  have RA := Lib.hid (fun (w' : World) (b : Below w.heap.size w w') => by have := right_all g w' (hg.below b) hin; rw [hR] at this; exact this)
  clear hg hin hR
  show Calls Try.prog 42 #[.agg #[.slice g.RA g.rules.length g.rc, .slice g.NA g.nodes.length g.nc]] w _
  go_enter Try.func42, Try.ntmps42
  go_wp2_with (go_at_call 7; with_reducible refine (RA.out _ (B1 _ _)).mono ?_; rintro e w1 ⟨rfl, hb⟩; have H1 := Lib.hid (bb (B1 w _) hb); clear hb)
  refine bodyPost_ret (v := .tuple #[.pointer none, .bool false]) (by simp [results, Try.f42, go_sem]) rfl ?_
  exact ⟨rfl, H1.out⟩
theorem made_bool (n : Nat) : madeCells (Value.bool false).cells (n * 1) = (List.replicate n (Value.bool false)).toArray := by
  apply Array.ext
  · simp [madeCells]
  · intro k h1 h2
    simp [madeCells, Value.cells, Nat.mod_one]
set_option maxRecDepth 100000 in
set_option maxHeartbeats 4000000 in
theorem lworkOf_any (g : Gr) (w : World) (hg : Gr.At w g) (hin : Gr.In g) (hR : Right g) : Calls Try.prog 42 #[g.val] w fun e w' => ∃ p nb, e = .returned (.tuple #[.pointer (some ⟨p, 0, none⟩), .bool true]) ∧ Wk w' p g nb ∧ Below w.heap.size w w' := by
  obtain ⟨i0, hi, hz0, hz1, hz2⟩ := info_parts Try.info_b
  have RA := Lib.hid (fun (w' : World) (b : Below w.heap.size w w') => by have := right_all g w' (hg.below b) hin; rw [rightB_true.2 hR] at this; exact this)
  have NA := Lib.hid (fun (w' : World) (b : Below w.heap.size w w') => nodes_any g w' (hg.below b) hin)
  have ND := Lib.hid (nodesOf_of hR)
  have HG := Lib.hid hg
  have h48 := hR.nodes
  obtain ⟨m, em⟩ : ∃ m, m = g.nodes.length := ⟨_, rfl⟩
  have EM := Lib.hid em
  rw [← em] at h48
  have RA2 : RowKit.Hid (∀ (w' : World), Below w.heap.size w w' → Calls Try.prog 7 #[.agg #[.slice g.RA g.rules.length g.rc, .slice g.NA m g.nc]] w' fun e w'' => e = .returned (.bool true) ∧ Below w'.heap.size w' w'') := Lib.hid (by rw [em]; exact RA.out)
  have NA2 : RowKit.Hid (∀ (w' : World), Below w.heap.size w w' → Calls Try.prog 28 #[.agg #[.slice g.RA g.rules.length g.rc, .slice g.NA m g.nc]] w' (Row w' (nodesOf g))) := Lib.hid (by rw [em]; exact NA.out)
  show Calls Try.prog 42 #[.agg #[.slice g.RA g.rules.length g.rc, .slice g.NA g.nodes.length g.nc]] w _
  rw [← em]
  clear hg hR hin RA NA em
  go_enter Try.func42, Try.ntmps42
  go_upto_region 3 with (go_at_call 7; with_reducible refine (RA2.out _ (B1 _ _)).mono ?_; rintro e w1 ⟨rfl, hb⟩; have KB := Lib.hid ((Blk.new w #[.slice g.RA g.rules.length g.rc, .slice g.NA m g.nc] 25).below' hb); have H1 := Lib.hid (bb (B1 w _) hb); clear hb)
  have k0 := KB.out.cell 0
  have k1 := KB.out.cell 1
  simp only [List.getElem?_toArray, List.getElem?_cons_zero, List.getElem?_cons_succ] at k0 k1
  have hmk : ∀ W : World, (Instr.makeSlice 74 (.int .i64 m) (.int .i64 m)).run Try.prog W = .ok (.slice (some ⟨W.heap.size, 0, none⟩) m m) (W.alloc (.cells (List.replicate m (Value.bool false)).toArray 4)) := fun W => by
    have hr := run_make (P := Try.prog) W 74 4 i0 (.bool false) Try.underlying74 hi hz0 .i64 .i64 (m : Nat) (m : Nat) (by omega) (by omega) (by rw [hz2]; omega) (by omega)
    rw [hz1, Int.toNat_natCast, made_bool] at hr
    exact hr
  have k0' : ∀ o, (w1.alloc o).cell? ⟨w.heap.size, 0, none⟩ = some (.slice g.RA g.rules.length g.rc) := fun o => (KB.out.alloc o).cell 0
  have k1' : ∀ o, (w1.alloc o).cell? ⟨w.heap.size, 1, none⟩ = some (.slice g.NA m g.nc) := fun o => (KB.out.alloc o).cell 1
  go_region
  obtain ⟨nb, enb⟩ : ∃ u, u = w1.heap.size := ⟨_, rfl⟩
  obtain ⟨w2, ew2⟩ : ∃ u, u = ((w1.alloc (Obj.cells (Array.replicate m (Value.bool false)) 4)).alloc (Obj.cells #[Value.slice g.RA g.rules.length g.rc, Value.slice g.NA m g.nc, Value.slice (some { block := w1.heap.size, off := 0 }) m m] 76)).drew := ⟨_, rfl⟩
  have hb2 : Below w1.heap.size w1 w2 := by rw [ew2]; exact bdrew1 (B2 _ _ _)
  have kr : Blk w2 nb (bls (List.replicate m false)).toArray 4 := by
    rw [ew2, enb, show (bls (List.replicate m false)).toArray = Array.replicate m (Value.bool false) from by simp [bls]]
    exact (Blk.new _ _ _).alloc _
  have kp : Blk w2 (nb + 1) #[Value.slice g.RA g.rules.length g.rc, Value.slice g.NA m g.nc, Value.slice (some { block := nb, off := 0 }) m m] 76 := by
    rw [ew2, enb]
    have := Blk.new (w1.alloc (Obj.cells (Array.replicate m (Value.bool false)) 4)) #[Value.slice g.RA g.rules.length g.rc, Value.slice g.NA m g.nc, Value.slice (some { block := w1.heap.size, off := 0 }) m m] 76
    rw [World.size_alloc] at this
    exact this
  rw [← ew2, ← enb]
  have K2 := KB.out.below' hb2
  have q0 := K2.cell 0
  have q1 := K2.cell 1
  simp only [List.getElem?_toArray, List.getElem?_cons_zero, List.getElem?_cons_succ] at q0 q1
  have hz2' : w2.heap.size = nb + 2 := by rw [ew2, enb]; simp
  have H2 := Lib.hid (bb H1.out hb2)
  have HS := Lib.hid hz2'
  have KR := Lib.hid kr
  have KP := Lib.hid kp
  have ENB := Lib.hid (show w.heap.size ≤ nb by rw [enb]; exact H1.out.size)
  obtain ⟨L, eL⟩ : ∃ L, L = nodesOf g := ⟨_, rfl⟩
  have hld := ND.out
  rw [← eL] at NA2 hld
  have N3 := Lib.hid (NA2.out w2 H2.out)
  clear NA2 ND eL ew2 enb hb2 kr kp K2 hz2' k0 k1 k0' k1' hmk
  have hld2 := Lib.hid hld
  clear hld
  go_wp2_with fail
  refine N3.out.mono ?_
  rintro e w5 ⟨⟨v5, rfl, ho5, _⟩, hb5⟩
  obtain ⟨A, c, rfl, _, _⟩ := own_slice ho5
  have O5 := Lib.hid ho5
  have G5 := Lib.hid hb5
  clear ho5 hb5
  have hln := (show L.length ≤ m by rw [hld2.out, EM.out]; exact rowOf_len _ _)
  go_wp2_with fail
  have MS := Lib.hid (fun (wr : World) (ml : List Bool) (h : MidM w5 wr nb L L.length ml m) => show ml = mayL g from by
    have hld := hld2.out
    rw [hld, EM.out] at h
    refine List.ext_getElem (by rw [h.len, mayL_len]) fun q h1 h2 => ?_
    have hq : q < g.nodes.length := by rw [mayL_len] at h2; exact h2
    have := MidM.done h q hq
    have h3 := mayL_at hq
    simp only [List.getD, List.getElem?_eq_getElem h1, List.getElem?_eq_getElem h2, Option.getD_some] at this h3
    rw [this, h3]
    rfl)
  have LM := Lib.hid (fun (k : Nat) (hk : k < L.length) => show L.getD k 0 < m from by
    have : L.getD k 0 ∈ L := by simp [List.getD, List.getElem?_eq_getElem hk]
    rw [hld2.out] at this
    rw [EM.out, hld2.out]
    exact (rowOf_mem.1 this).1)
  have LN := Lib.hid (show L.length ≤ m by rw [hld2.out, EM.out]; exact rowOf_len _ _)
  have R5 := Lib.hid (KR.out.below' G5.out)
  have P5 := Lib.hid (KP.out.below' G5.out)
  clear hln
  go_loopw [20, 6] (fun i _ wr => ∃ (k : Nat) (ml : List Bool), k ≤ L.length ∧ i = .int .i64 k ∧ MidM w5 wr nb L k ml m ∧ Below w.heap.size w wr) (fun i _ _ => L.length - (intOf i).toNat)
  case atStart => exact ⟨0, List.replicate m false, by omega, rfl, MidM.start R5.out, bb H2.out G5.out⟩
  case round =>
    obtain ⟨k, ml, hk, rfl, hmm, hbl⟩ := hrel
    have HM := Lib.hid hmm
    have BL := Lib.hid hbl
    have hln := LN.out
    clear hmm hbl
    by_cases hlt : k < L.length
    · have hlt2 : (k : Int) < L.length := by omega
      have hq := LM.out k hlt
      have hro : wr.ownsRow w2.heap.size 3 1 (.slice A L.length c) L.length (ints (nums L)) := own_kept O5.out (fun b hb => HM.out.other b (fun e => by have := (O5.out.lt b hb).1; have := HS.out; omega))
      have hlies : Lies wr A (ints (nums L)) := own_lies (xs := ints (nums L)) (by rw [ints_length, nums_len]; exact hro)
      obtain ⟨b2, o2, eA2, _, c2⟩ := lies_cell hlies (k := k) (by rw [nums_len]; exact hlt)
      rw [nums_at] at c2
      have kp := ((HM.out.other (nb + 1) (by omega)).trans P5.out)
      have c3 : wr.cell? ⟨nb + 1, 2, none⟩ = some (.slice (some ⟨nb, 0, none⟩) m m) := Blk.cell kp 2
      have hml : L.getD k 0 < ml.length := by rw [HM.out.len]; exact hq
      have c4 := (HM.out.row.cell (L.getD k 0)).trans (by rw [List.getElem?_toArray, bls_at hml])
      have f4 := HM.out.row.frozen (L.getD k 0)
      have HN := Lib.hid (HM.out.step hlt)
      generalize L.getD k 0 = x at c2 c4 f4 HN hq
      have hxi : (x : Int) < m := by omega
      rw [eA2]
      clear hro hlies kp hml
      go_wp2_with fail
      go_roundw
      case rel => exact ⟨k + 1, _, by omega, by go_num, HN.out, BL.out.setCell (p := ⟨nb, x, none⟩) ENB.out _⟩
      case measure => simp [intOf]; omega
    · obtain rfl : k = L.length := by omega
      have hlt2 : ¬ (L.length : Int) < L.length := by omega
      go_wp2_with fail
      refine bodyPost_ret (v := .tuple #[.pointer (some ⟨nb + 1, 0, none⟩), .bool true]) (by simp [results, Try.f42, go_sem]) rfl ?_
      have kp := ((HM.out.other (nb + 1) (by omega)).trans P5.out)
      refine ⟨nb + 1, rfl, ⟨nb, ⟨?_, HG.out.below BL.out, ?_⟩⟩, BL.out⟩
      · rw [← EM.out]; exact kp
      · rw [← MS.out wr ml HM.out]; exact HM.out.row
end Go.Proofs.Ytmlaepbmdfmgbaa
namespace Go.Proofs.Ytmlaepbmdfmgbaa
open Go Go.RowKit Go.Maps Go.Shelf
attribute [local go_sem] Oper.semAt_some
theorem has_any (b i : Nat) (x : Bool) (hi : i < 32) (w : World) (hc : w.cell? ⟨b, i, none⟩ = some (.bool x)) : Calls Try.prog 57 #[.pointer (some ⟨b, 0, none⟩), .int .i64 i] w fun e w' => e = .returned (.bool x) ∧ w' = w := by
  have hi2 : (i : Int) < 32 := by omega
  go_enter Try.func57, Try.ntmps57
  go_wp2_with fail
  go_ret
  exact ⟨rfl, rfl⟩
set_option maxRecDepth 100000 in
set_option maxHeartbeats 2000000 in
theorem rising_has (m p : Nat) (q : Nat → Bool) (hm : m ≤ 100000) (w : World)
    (hP : ∀ W, Below w.heap.size w W → ∀ r, r < m → Calls Try.prog 57 #[.pointer (some ⟨p, 0, none⟩), .int .i64 r] W fun e w' => e = .returned (.bool (q r)) ∧ Below W.heap.size W w') :
    Calls Try.prog 55 #[.int .i64 m, .func (.func 57) #[.pointer (some ⟨p, 0, none⟩)] #[]] w (Row w (rowOf' m q)) := by
  obtain ⟨i0, hi, hz0, hz1, hz2⟩ := info_parts Try.info3
  have HP := Lib.hid hP
  clear hP
  go_enter Try.func55, Try.ntmps55
  go_wp2_with fail
  go_loopw [5, 8] (fun l i wr => ∃ k : Nat, k ≤ m ∧ i = .int .i64 k ∧ wr.ownsRow w.heap.size 3 1 l (rowOf' k q).length (ints (nums (rowOf' k q))) ∧ (l = .slice none 0 0 ↔ rowOf' k q = []) ∧ Below w.heap.size w wr) (fun _ i _ => m - (intOf i).toNat)
  case atStart => exact ⟨0, by omega, by go_num, World.ownsRow_nil _ _ _ _, by simp [rowOf'], Below.refl _ _⟩
  case round =>
    obtain ⟨k, hk, rfl, hown, hnil, hb⟩ := hrel
    by_cases hlt : k < m
    · have hlt2 : (k : Int) < m := by omega
      have C := Lib.hid (HP.out wr hb k hlt)
      have RS := Lib.hid (rowOf_succ k q)
      have RL := Lib.hid (rowOf_len q k)
      have HO := Lib.hid hown
      have HN := Lib.hid hnil
      have HB := Lib.hid hb
      clear hown hnil hb
      cases hp : q k with
      | false =>
        rw [hp] at C RS
        clear hp
        go_wp2_with (go_at_call 57; (with_reducible refine C.out.mono ?_); rintro e w1 ⟨rfl, hb1⟩; have B1' := Lib.hid hb1; clear hb1)
        go_roundw
        case rel => exact ⟨k + 1, by omega, by go_num, by rw [RS.out]; exact own_below HO.out B1'.out, by rw [RS.out]; exact HN.out, HB.out.trans (B1'.out.mono HB.out.size)⟩
        case measure => simp [intOf]; omega
      | true =>
        rw [hp] at C RS
        clear hp
        go_wp2_with (first | (go_at_call 57; (with_reducible refine C.out.mono ?_); rintro e w1 ⟨rfl, hb1⟩; have B1' := Lib.hid hb1; have O1 := Lib.hid (own_below HO.out hb1); have BW := Lib.hid (HB.out.trans (hb1.mono HB.out.size)); clear hb1) | (at_builtin; refine wpList_append_own _ rfl _ _ 37 rfl w.heap.size 3 i0 (.int .i64 0) 1 8 Try.underlying37 hi hz0 hz1 hz2 rfl (by decide) _ _ _ rfl (O1.out.alloc _) ⟨w1.heap.size, 0, none⟩ 1 1 [.int .i64 k] rfl rfl (cell_one_new _ _ _) (by simp [Value.oneCell']) (by unfold maxLen; have := RL.out; omega) (by have := RL.out; omega) (by have := BW.out.size; simp; omega) ?_; intro v' w9 hown' hgrow hnil'; have O9 := Lib.hid hown'; have G9 := Lib.hid hgrow; have N9 := Lib.hid hnil'; clear hown' hgrow hnil'))
        go_roundw
        case rel =>
          refine ⟨k + 1, by omega, by go_num, ?_, ?_, ?_⟩
          · rw [RS.out, if_pos trivial, List.length_append, nums_app]
            have := O9.out
            simpa [ints] using this
          · rw [RS.out, if_pos trivial, N9.out]
            simp
          · refine grown_below (w := w1.alloc _) (BW.out.trans ((B1 w1 _).mono BW.out.size)) (by have := BW.out.size; simp; omega) G9.out (fun j e => (O1.out.lt j e).1)
        case measure => simp [intOf]; omega
    · obtain rfl : k = m := by omega
      have hlt2 : ¬ (k : Int) < k := by omega
      have HO := Lib.hid hown
      have HN := Lib.hid hnil
      have HB := Lib.hid hb
      clear hown hnil hb
      go_wp2_with fail
      go_ret
      exact ⟨⟨_, rfl, HO.out, HN.out⟩, HB.out⟩
/-- Whether a node is a Call of a rule. -/
def isC (l : List Nd) (r : Nat) (m : Int) : Bool := decide ((l.getD m.toNat Nd.zero).kind = 5) && decide ((l.getD m.toNat Nd.zero).rule = (r : Int))
theorem isC_no {l : List Nd} {r : Nat} {m : Int} (h : (l.getD m.toNat Nd.zero).kind ≠ 5) : isC l r m = false := by
  unfold isC; rw [decide_eq_false h]; rfl
theorem isC_yes {l : List Nd} {r i : Nat} {m : Int} (h : (l.getD m.toNat Nd.zero).kind = 5) (hr : (l.getD m.toNat Nd.zero).rule = (r : Int)) : isC l i m = decide (r = i) := by
  unfold isC; rw [decide_eq_true h, hr, Bool.true_and]
  exact decide_eq_decide.2 ⟨fun h => by omega, fun h => by omega⟩
/-- Which rules were called by the first so many of some nodes. -/
def callM (l : List Nd) (a : List Int) (k : Nat) : List Bool := (List.range 32).map fun r => (a.take k).any (isC l r)
theorem callM_len (l : List Nd) (a : List Int) (k : Nat) : (callM l a k).length = 32 := by simp [callM]
theorem callM_get {l : List Nd} {a : List Int} {k r : Nat} (h : r < (callM l a k).length) : (callM l a k)[r] = (a.take k).any (isC l r) := by
  simp [callM]
theorem callM_at {l : List Nd} {a : List Int} {k r : Nat} (h : r < 32) : (callM l a k).getD r false = (a.take k).any (isC l r) := by
  rw [← callM_get (by rw [callM_len]; exact h)]
  simp [List.getD, List.getElem?_eq_getElem (show r < (callM l a k).length by rw [callM_len]; exact h)]
theorem callM_zero (l : List Nd) (a : List Int) : callM l a 0 = List.replicate 32 false := by
  refine List.ext_getElem (by rw [callM_len, List.length_replicate]) fun i h1 h2 => ?_
  rw [callM_get, List.getElem_replicate, List.take_zero]
  rfl
theorem take_one {a : List Int} {k : Nat} (h : k < a.length) : a.take (k + 1) = a.take k ++ [a.getD k 0] := by
  rw [List.take_add_one]
  simp [List.getD, List.getElem?_eq_getElem h]
theorem any_one (l : List Int) (q : Int) (f : Int → Bool) : (l ++ [q]).any f = (l.any f || f q) := by
  rw [List.any_append]; simp
theorem callM_no {l : List Nd} {a : List Int} {k : Nat} (h : k < a.length) (hk : (l.getD (a.getD k 0).toNat Nd.zero).kind ≠ 5) : callM l a (k + 1) = callM l a k := by
  refine List.ext_getElem (by rw [callM_len, callM_len]) fun i h1 h2 => ?_
  rw [callM_get, callM_get, take_one h, any_one, isC_no hk, Bool.or_false]
theorem callM_yes {l : List Nd} {a : List Int} {k r : Nat} (h : k < a.length) (hk : (l.getD (a.getD k 0).toNat Nd.zero).kind = 5) (hr : (l.getD (a.getD k 0).toNat Nd.zero).rule = (r : Int)) : callM l a (k + 1) = (callM l a k).set r true := by
  refine List.ext_getElem (by rw [List.length_set, callM_len, callM_len]) fun i h1 h2 => ?_
  rw [callM_get, take_one h, any_one, isC_yes hk hr, List.getElem_set]
  by_cases e : r = i
  · rw [if_pos e, decide_eq_true e, Bool.or_true]
  · rw [if_neg e, decide_eq_false e, Bool.or_false, callM_get]
theorem callM_all {l : List Nd} {a : List Int} {may : Int → Bool} {n : Int} {r : Nat} (h : r < 32) (ha : a = ownN l may n) : (callM l a a.length).getD r false = callsB l may n r := by
  rw [callM_at h, List.take_length, ha]
  rfl
end Go.Proofs.Ytmlaepbmdfmgbaa
namespace Go.Proofs.Ytmlaepbmdfmgbaa
open Go Go.RowKit Go.Maps Go.Shelf
attribute [local go_sem] Oper.semAt_some
theorem blk_putX {W : World} {d b : Nat} {vs : Array Value} {T : TypeId} (h : Blk W d vs T) (hb : NoCells W b) (o : Obj) : Blk (W.putObj b o) d vs T := (World.putObj_heap_other (hb.ne h)).trans h
theorem own_putX {W : World} {base e size n b : Nat} {v : Value} {xs : List Value} (h : W.ownsRow base e size v n xs) (hb : NoCells W b) (o : Obj) : (W.putObj b o).ownsRow base e size v n xs :=
  own_kept h fun k hk => by
    rcases h.2 with ⟨rfl, _⟩ | ⟨g, cap, cur, rfl, _, hg, _⟩
    · simp [Value.ownBlock] at hk
    · simp only [Value.ownBlock, Option.some.injEq] at hk
      subst hk
      exact World.putObj_heap_other (hb.ne hg)
theorem leaves_one {F : Fence} {n D : Nat} {P : Program} {fn : Func} {tmps : Array Value} {R : Ending → World → Prop} {W : World} (h : W.heap[D]? = some (.deferred (some []))) (hk : ∀ o, LeavesIn F n P fn tmps R [] .returning (W.putObj D o)) : LeavesInM F n P fn tmps R [mkDf D] .returning W :=
  ⟨by simp, .inl ⟨D, _, rfl, run_takeDeferred h, hk _⟩⟩
set_option maxRecDepth 100000 in
set_option maxHeartbeats 4000000 in
theorem calls_any {w : World} {p nb : Nat} {g : Gr} (h : Wk w p g nb) (hR : Right g) (hc : Capd g) (n : Nat) (hn : n < g.nodes.length) :
    Calls Try.prog 60 #[.pointer (some ⟨p, 0, none⟩), .int .i64 n] w (Row w (callsOf g n)) := by
  have HW := Lib.hid h
  have h32 := hR.rules.2
  have OM := Lib.hid (fun w' => own_make p n w')
  have OI := Lib.hid (fun w' bx bn T (h : OwnR w' p g nb bx bn n T) => own_in g hR hc g.nodes.length n hn (by omega) w' p nb bx bn T h)
  have CL := Lib.hid (fun r (hr : r < 32) => callM_all (l := g.nodes) (a := ownN g.nodes (mayG g) n) (may := mayG g) (n := n) (r := r) hr rfl)
  have OWB := Lib.hid (fun k (hk : k < (ownN g.nodes (mayG g) n).length) => show 0 ≤ (ownN g.nodes (mayG g) n).getD k 0 ∧ (ownN g.nodes (mayG g) n).getD k 0 < g.nodes.length from by
    obtain ⟨ms, hm, _⟩ := hR.pre
    have h1 := (own_rises hm (mayG g) _ n hn (Nat.le_refl _)).each _ (getD_mem_int hk)
    have h2 := hm n (by omega) hn
    omega)
  have CRU := Lib.hid (fun m (hm : m < g.nodes.length) (hk : (g.nodes.getD m Nd.zero).kind = 5) => show 0 ≤ (g.nodes.getD m Nd.zero).rule ∧ (g.nodes.getD m Nd.zero).rule < g.rules.length from by
    have := hR.all m hm
    rcases (nodeOk_iff _ _).1 this with h | h | h | h | h | h <;> omega)
  have EC := Lib.hid (show callsOf g n = rowOf' g.rules.length (callsB g.nodes (mayG g) n) from rfl)
  generalize callsOf g n = R at EC ⊢
  generalize ownN g.nodes (mayG g) n = L at OI CL OWB
  obtain ⟨r, er⟩ : ∃ r, r = g.rules.length := ⟨_, rfl⟩
  have ER := Lib.hid er
  rw [← er] at h32
  clear h hR hc hn er
  refine (callsIn_wide (n := 12)).1 ?_
  refine callsIn_of_wp_marks Try.func60 rfl trivial ?_ rfl
  simp only [Try.ntmps60, List.size_toArray, List.length_cons, List.length_nil, Nat.reduceAdd, Nat.reduceSub, Array.replicate_succ, Array.replicate_zero, List.push_toArray, List.append_toArray, List.nil_append, List.cons_append]
  gi_wp2_with (refine ⟨trivial, ?_⟩; gi_at_call 76; refine (callsIn_wide.2 (OM.out _)).mono ?_; rintro e w3 ⟨rfl, e3⟩; have E3 := Lib.hid e3; clear e3)
  obtain ⟨b, eb⟩ : ∃ b, b = w.heap.size + 1 := ⟨_, rfl⟩
  have hz3 : w3.heap.size = b + 3 := by rw [E3.out, eb]; simp
  have kb : Blk w3 b (bls (List.replicate 32 false)).toArray 95 := by
    rw [E3.out, eb]
    have := Blk.new (w.alloc (.cells #[.pointer (some ⟨p, 0, none⟩)] 71)) (bls (List.replicate 32 false)).toArray 95
    rw [World.size_alloc] at this
    exact (this.alloc _).alloc _
  have k2 : Blk w3 w.heap.size #[.pointer (some ⟨p, 0, none⟩)] 71 := by rw [E3.out]; exact (((Blk.new _ _ _).alloc _).alloc _).alloc _
  have hb3 : Below w.heap.size w w3 := by rw [E3.out]; exact (((B1 w _).alloc (by simp) _).alloc (by simp; omega) _).alloc (by simp; omega) _
  have q1 : Blk w3 (b + 1) #[.pointer (some ⟨p, 0, none⟩)] 71 := by
    rw [E3.out, eb]
    have := Blk.new ((w.alloc (.cells #[.pointer (some ⟨p, 0, none⟩)] 71)).alloc (.cells (bls (List.replicate 32 false)).toArray 95)) #[.pointer (some ⟨p, 0, none⟩)] 71
    rw [World.size_alloc, World.size_alloc] at this
    exact this.alloc _
  have q2 : Blk w3 (b + 2) #[.int .i64 n] 3 := by
    rw [E3.out, eb]
    have := Blk.new (((w.alloc (.cells #[.pointer (some ⟨p, 0, none⟩)] 71)).alloc (.cells (bls (List.replicate 32 false)).toArray 95)).alloc (.cells #[.pointer (some ⟨p, 0, none⟩)] 71)) #[.int .i64 n] 3
    rw [World.size_alloc, World.size_alloc, World.size_alloc] at this
    exact this
  have hOR : OwnR w3 p g nb (b + 1) (b + 2) n (fun j => j < w3.heap.size ∧ j ≠ b) :=
    ⟨fun W' hs ha => HW.out.heap (Nat.le_trans hb3.size hs) (fun k hk => (ha k ⟨Nat.lt_of_lt_of_le hk hb3.size, by omega⟩).trans (hb3.block k hk)), fun j h => h.1, ⟨by omega, by omega⟩, ⟨by omega, by omega⟩, q1, q2⟩
  have SQ := Lib.hid (seqX_any (m' := 12 - 1) (OI.out w3 (b + 1) (b + 2) _ hOR))
  have I0 : RowKit.Hid (Blk w3 b (bls (callM g.nodes L 0)).toArray 95 ∧ Below w.heap.size w w3 ∧ Blk w3 w.heap.size #[.pointer (some ⟨p, 0, none⟩)] 71) := Lib.hid ⟨by rw [callM_zero]; exact kb, hb3, k2⟩
  have hbw : w.heap.size < b := by omega
  have HZ3 := Lib.hid hz3
  rw [← eb]
  clear hz3 kb k2 hb3 q1 q2 hOR eb
  refine wpIn_rangeFunc_own (by decide) (gf := 91) (lb := #[.pointer (some ⟨b + 2, 0, none⟩), .pointer (some ⟨b + 1, 0, none⟩)]) rfl (enters_of Try.func91 (by kernel_rfl) rfl) SQ.out (Below.refl _ _) (fun _ => rfl)
    (fun k A => Blk A b (bls (callM g.nodes L k)).toArray 95 ∧ Below w.heap.size w A ∧ Blk A w.heap.size #[.pointer (some ⟨p, 0, none⟩)] 71) (fun j _ => j = b) ?fair (fun j h => h.2) I0.out
    (fun k => { tmps := #[.pointer (some ⟨p, 0, none⟩), .int .i64 n, .pointer (some ⟨w.heap.size, 0, none⟩), undef, .slice none 0 0, .pointer (some ⟨b, 0, none⟩), .int .i64 (L.getD k 0), undef, .pointer (some ⟨p, 0, none⟩), .int .i64 n, .func (.func 91) #[] #[.pointer (some ⟨b + 2, 0, none⟩), .pointer (some ⟨b + 1, 0, none⟩)], .int .i64 (L.getD k 0), undef, undef, undef, undef, undef, undef, undef, undef, undef, undef, undef, undef, undef, undef, undef, undef, undef, undef, undef, undef, undef, undef], defers := [] }) ?assign ?body ?done
  case fair =>
    constructor
    · rintro k A A' ⟨h1, h2, h3⟩ hb
      exact ⟨h1.below' hb, h2.trans (hb.mono h2.size), h3.below' hb⟩
    · rintro k d A o hd ⟨h1, h2, h3⟩ hn
      exact ⟨blk_putX h1 hn o, h2.trans (below_putObj A d _ o (by have := HZ3.out; omega)), blk_putX h3 hn o⟩
    · rintro k A A' j _ _ hc; exact hc
    · rintro k d A o j _ _ _ hc; exact hc
    · rintro k A j ⟨h1, _, _⟩ rfl
      exact ⟨_, _, _, h1⟩
  case assign =>
    intro l2 k Wa K hK2
    unfold encI
    gi_wp2
    exact hK2
  case body =>
    rintro l2 k A ⟨h1, h2, h3⟩ hk
    have hwk := HW.out.below h2
    have c1 := h3.cell 0
    have c2 := hwk.box.cell 1
    simp only [List.getElem?_toArray, List.getElem?_cons_zero, List.getElem?_cons_succ] at c1 c2
    have hob := OWB.out k hk
    obtain ⟨m, em⟩ : ∃ m : Nat, L.getD k 0 = m := ⟨(L.getD k 0).toNat, by omega⟩
    have hm : m < g.nodes.length := by omega
    obtain ⟨b1, o1, eA, hlt, d0, d1, d2, d3, d4, d5, d6, d7, d8⟩ := hwk.gr.nodes.nine hm
    have CR := CRU.out m hm
    have CN := Lib.hid (callM_no (l := g.nodes) hk)
    have CY := Lib.hid (fun r => callM_yes (l := g.nodes) (r := r) hk)
    have CLN := callM_len g.nodes L k
    rw [em, Int.toNat_natCast] at CN CY
    rw [em]
    rw [eA] at c2
    generalize callM g.nodes L k = M at CN CY h1 CLN
    generalize g.nodes.getD m Nd.zero = x at d0 d1 d2 d3 d4 d5 d6 d7 d8 CR CN CY
    obtain ⟨kd, z0, z1, z2, z3, t, ru, lv, AA, cap, ks⟩ := x
    dsimp only at d0 d1 d2 d3 d4 d5 d6 d7 d8 CR CN CY
    obtain ⟨nn, en⟩ : ∃ nn, nn = g.nodes.length := ⟨_, rfl⟩
    rw [← en] at c2 hm
    have hm2 : (m : Int) < nn := by omega
    have HB := Lib.hid h1
    have HL := Lib.hid h2
    have HX := Lib.hid h3
    clear hwk h1 h2 h3 en hob em
    by_cases hk5 : kd = 5
    · subst hk5
      obtain ⟨hr0, hr1⟩ := CR rfl
      obtain ⟨r', er'⟩ : ∃ r' : Nat, ru = r' := ⟨ru.toNat, by omega⟩
      subst er'
      have hr32 : (r' : Int) < 32 := by have := ER.out; omega
      have hr32' : r' < 32 := by omega
      have e4 : ∀ o, (A.alloc o).cell? ⟨b, r', none⟩ = some (.bool (M.getD r' false)) := fun o => ((HB.out.alloc o).cell r').trans (by rw [List.getElem?_toArray]; exact bls_at (by rw [CLN]; exact hr32'))
      have e5 : ∀ o, (A.alloc o).frozen? ⟨b, r', none⟩ = false := fun o => (HB.out.alloc o).frozen r'
      generalize M.getD r' false = mb at e4
      have CY2 := Lib.hid (CY.out r' rfl rfl)
      clear CR CN CY hr0 hr1
      gi_wp2_with fail
      refine ⟨⟨by simp [World.setCell], fun j hj hne => (heap_setCell_other _ ⟨b, r', none⟩ j _ hne).trans (Below.heap_alloc A _ j hj), fun _ _ h => h⟩, ?_, ?_, ?_⟩
      · rw [CY2.out, ← bls_set]
        have := (HB.out.alloc (.cells #[Value.int IntKind.i64 5, Value.int IntKind.u64 z0, Value.int IntKind.u64 z1, Value.int IntKind.u64 z2, Value.int IntKind.u64 z3, Value.string t, Value.int IntKind.i64 r', Value.int IntKind.i64 lv, Value.slice AA ks.length cap] 44)).put (k := r') (.bool true)
        exact this
      · exact ((HL.out.trans ((B1 A _).mono HL.out.size))).setCell (p := ⟨b, r', none⟩) (by show w.heap.size ≤ b; omega) _
      · exact (heap_setCell_other _ ⟨b, r', none⟩ w.heap.size _ (by show w.heap.size ≠ b; omega)).trans (HX.out.alloc _)
    · have CN2 := Lib.hid (CN.out hk5)
      clear CR CN CY
      gi_wp2_with fail
      refine ⟨⟨by simp, fun j hj _ => Below.heap_alloc A _ j hj, fun _ _ h => h⟩, ?_, HL.out.trans ((B1 A _).mono HL.out.size), HX.out.alloc _⟩
      rw [CN2.out]
      exact HB.out.alloc _
  case done =>
    rintro _ W6 rfl ⟨h1, h2, h3⟩ _ hd
    have c1 := h3.cell 0
    have hwk := HW.out.below h2
    have c2 := hwk.box.cell 0
    simp only [List.getElem?_toArray, List.getElem?_cons_zero, List.getElem?_cons_succ] at c1 c2
    have RI := Lib.hid (rising_has g.rules.length b (callsB g.nodes (mayG g) n) (by have := ER.out; omega) W6 (fun W hb i hi => by
      have hi32 : i < 32 := by have := ER.out; omega
      have hcell := (h1.below' hb).cell i
      rw [List.getElem?_toArray, bls_at (by rw [callM_len]; exact hi32), CL.out i hi32] at hcell
      exact (has_any b i _ hi32 W hcell).mono fun e w' ⟨q1, q2⟩ => ⟨q1, by rw [q2]; exact Below.refl _ _⟩))
    rw [← EC.out, ← ER.out] at RI
    have HD := Lib.hid hd
    have H2 := Lib.hid h2
    rw [← ER.out] at c2
    clear hwk h1 h2 h3 hd
    gi_wp2_with (refine ⟨trivial, ?_⟩; gi_at_call 55; refine (callsIn_wide.2 RI.out).mono ?_; rintro e w7 ⟨⟨v7, rfl, ho7, hn7⟩, hb7⟩; have O7 := Lib.hid ho7; have N7 := Lib.hid hn7; have B7 := Lib.hid hb7; clear ho7 hn7 hb7)
    show LeavesInM _ _ _ _ _ _ _ _ _
    refine leaves_one (D := w3.heap.size) (B7.out.block w3.heap.size (Array.getElem?_eq_some_iff.1 HD.out).1 |>.trans HD.out) (fun o => ?_)
    have hn : NoCells w7 w3.heap.size := nc_def ((B7.out.block w3.heap.size (Array.getElem?_eq_some_iff.1 HD.out).1).trans HD.out)
    have hl7 := H2.out.trans (B7.out.mono H2.out.size)
    refine ⟨v7, by simp [results, Try.f60, go_sem], ⟨v7, rfl, own_putX (own_lower O7.out H2.out.size) hn o, N7.out⟩, hl7.trans (below_putObj w7 w3.heap.size _ o (by have := HZ3.out; omega))⟩
end Go.Proofs.Ytmlaepbmdfmgbaa

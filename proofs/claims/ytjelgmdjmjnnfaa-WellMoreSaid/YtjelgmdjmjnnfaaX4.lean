/- A grammar at work in well: which of its nodes repeat what may match nothing. -/
import Derived.Test.YtjelgmdjmjnnfaaC2
import Derived.Deep.CutRange
import Derived.Test.YtjelgmdjmjnnfaaX2
import Derived.Test.YtjelgmdjmjnnfaaL1
import Derived.LoopNIn
import Derived.LoopIn
import Derived.Shelf.Abstract
import Derived.Shelf.RegionOpen
set_option linter.unusedSimpArgs false
set_option linter.unusedVariables false
namespace Go.Proofs.Ytjelgmdjmjnnfaa
open Go Go.RowKit Go.Maps
/-- A Star, a Plus. -/
def repB (k : Int) : Bool := decide (k = 8) || decide (k = 9)
theorem repB_true {k : Int} : repB k = true ↔ k = 8 ∨ k = 9 := by simp [repB]
/-- A node's first kid. -/
def kid0 (x : Nd) : Int := x.kids.getD 0 0
noncomputable def idleN (g : Gr) (n : Nat) : Bool := repB (g.nodes.getD n Nd.zero).kind && mayN g.nodes (inB (ranks g)) (kid0 (g.nodes.getD n Nd.zero))
noncomputable def idles (g : Gr) : List Nat := rowOf' g.nodes.length (idleN g)
theorem one_kid {x : Nd} {r : Int} (h : nodeOk x r = true) (hk : repB x.kind = true) : x.kids.length = 1 := by
  have hn := (nodeOk_iff x r).1 h
  have := repB_true.1 hk
  unfold NodeIs at hn
  omega
theorem kid0_in {g : Gr} (hR : Right g) (n : Nat) (hn : n < g.nodes.length) (hk : repB (g.nodes.getD n Nd.zero).kind = true) : (n : Int) < kid0 (g.nodes.getD n Nd.zero) ∧ kid0 (g.nodes.getD n Nd.zero) < g.nodes.length := by
  have h1 := one_kid (hR.all n hn) hk
  have h2 := hR.kidsUp n hn
  generalize g.nodes.getD n Nd.zero = x at h1 h2 ⊢
  exact h2 _ (by unfold kid0; rw [List.getD_eq_getElem?_getD, List.getElem?_eq_getElem (by omega)]; exact List.getElem_mem _)
/-- The grammar at work, in memory: with a mark for each node that may match nothing. -/
structure Wel (w : World) (p : Nat) (g : Gr) (mb : Nat) (ml : List Bool) : Prop where
  box : Blk w p #[.slice g.RA g.rules.length g.rc, .slice g.NA g.nodes.length g.nc, .slice (some ⟨mb, 0, none⟩) g.nodes.length g.nodes.length] 96
  gr : Gr.At w g
  row : Blk w mb (bls ml).toArray 4
  len : ml.length = g.nodes.length
  val : ∀ q, q < g.nodes.length → ml.getD q false = mayN g.nodes (inB (ranks g)) q
theorem Wel.below {w w' : World} {p mb : Nat} {g : Gr} {ml : List Bool} (h : Wel w p g mb ml) (hb : Below w.heap.size w w') : Wel w' p g mb ml :=
  ⟨h.box.below' hb, h.gr.below hb, h.row.below' hb, h.len, h.val⟩
set_option maxRecDepth 100000 in
set_option maxHeartbeats 2000000 in
theorem repeats_any {w : World} {p mb : Nat} {g : Gr} {ml : List Bool} (h : Wel w p g mb ml) (n : Nat) (hn : n < g.nodes.length) :
    Calls Try.prog 62 #[.pointer (some ⟨p, 0, none⟩), .int .i64 n] w fun e w' => e = .returned (.bool (repB (g.nodes.getD n Nd.zero).kind)) ∧ w' = w := by
  have c1 := h.box.cell 1
  simp only [List.getElem?_toArray, List.getElem?_cons_zero, List.getElem?_cons_succ] at c1
  obtain ⟨b1, o1, eA, _, k1, _, _, _, _, _, _, _, _⟩ := h.gr.nodes.nine hn
  rw [eA] at c1
  obtain ⟨m, em⟩ : ∃ m, m = g.nodes.length := ⟨_, rfl⟩
  rw [← em] at c1 hn
  have hn2 : (n : Int) < m := by omega
  generalize (g.nodes.getD n Nd.zero).kind = kd at k1 ⊢
  have RB := Lib.hid (show repB kd = (decide (kd = 8) || decide (kd = 9)) from rfl)
  generalize repB kd = v at RB ⊢
  clear h eA em
  go_enter Try.func62, Try.ntmps62
  by_cases h8 : kd = 8
  · have HV := Lib.hid (show v = true from by rw [RB.out]; simp [h8])
    subst h8
    clear RB
    go_wp2_with fail
    go_ret
    exact ⟨ret_bool HV.out.symm, rfl⟩
  · by_cases h9 : kd = 9
    · have HV := Lib.hid (show v = true from by rw [RB.out]; simp [h9])
      subst h9
      clear RB h8
      go_wp2_with fail
      go_ret
      exact ⟨ret_bool HV.out.symm, rfl⟩
    · have HV := Lib.hid (show v = false from by rw [RB.out]; simp [h8, h9])
      have e8 : (kd == 8) = false := by simpa using h8
      have e9 : (kd == 9) = false := by simpa using h9
      clear RB h8 h9
      go_wp2_with fail
      go_ret
      exact ⟨ret_bool HV.out.symm, rfl⟩
set_option maxRecDepth 100000 in
set_option maxHeartbeats 2000000 in
theorem empties_any {w : World} {p mb : Nat} {g : Gr} {ml : List Bool} (h : Wel w p g mb ml) (hR : Right g) (n : Nat) (hn : n < g.nodes.length) (hk : repB (g.nodes.getD n Nd.zero).kind = true) :
    Calls Try.prog 63 #[.pointer (some ⟨p, 0, none⟩), .int .i64 n] w fun e w' => e = .returned (.bool (mayN g.nodes (inB (ranks g)) (kid0 (g.nodes.getD n Nd.zero)))) ∧ ∃ k, w' = w.drewN k := by
  have c1 := h.box.cell 1
  have c2 := h.box.cell 2
  simp only [List.getElem?_toArray, List.getElem?_cons_zero, List.getElem?_cons_succ] at c1 c2
  have hlen := one_kid (hR.all n hn) hk
  have hin := kid0_in hR n hn hk
  obtain ⟨b1, o1, eA, _, _, _, _, _, _, _, _, _, k9⟩ := h.gr.nodes.nine hn
  have hx : g.nodes.getD n Nd.zero ∈ g.nodes := by simp [List.getD, List.getElem?_eq_getElem hn]
  obtain ⟨b2, o2, eK, _, k0⟩ := lies_cell (h.gr.kids _ hx).1 (show 0 < (g.nodes.getD n Nd.zero).kids.length by omega)
  obtain ⟨q, hq⟩ : ∃ q : Nat, kid0 (g.nodes.getD n Nd.zero) = q := ⟨(kid0 (g.nodes.getD n Nd.zero)).toNat, by omega⟩
  have hval := h.val q (by omega)
  have km : w.cell? ⟨mb, q, none⟩ = some (.bool (ml.getD q false)) := (h.row.cell q).trans (by rw [List.getElem?_toArray]; exact bls_at (by rw [h.len]; omega))
  rw [hval] at km
  have k0' : w.cell? ⟨b2, o2, none⟩ = some (.int .i64 q) := by rw [← hq]; exact k0
  rw [eA] at c1
  rw [eK, hlen] at k9
  rw [hq] at hin ⊢
  have hq2 := hin.2
  generalize mayN g.nodes (inB (ranks g)) q = v at km ⊢
  obtain ⟨m, em⟩ : ∃ m, m = g.nodes.length := ⟨_, rfl⟩
  rw [← em] at c1 c2 hn hq2
  have hn2 : (n : Int) < m := by omega
  generalize (g.nodes.getD n Nd.zero).cap = cp at k9
  clear h eA em hval hx eK k0 hq hlen hin hR hk
  go_enter Try.func63, Try.ntmps63
  go_upto_region 1 with fail
  go_quiet (fail)
  go_wp2_with fail
  go_ret
  exact ⟨rfl, _, rfl⟩
set_option maxRecDepth 100000 in
theorem questions_any (w : World) : Calls Try.prog 38 #[] w fun e w' => e = .returned (.agg #[.func (.func 62) #[] #[], .func (.func 63) #[] #[]]) ∧ Below w.heap.size w w' := by
  go_enter Try.func38, Try.ntmps38
  go_wp2_with (refine wpList_store_whole rfl 79 (.tmp 0) (.tmp 1) rfl w.heap.size #[.func (.func 62) #[] #[], .func (.func 63) #[] #[]] rfl rfl 79 _ (Blk.new _ _ _) (by kernel_rfl) (by rfl) (by simp [Value.oneCell']) ?_; intro w2 hk hg; have K2 := Lib.hid hk; have H2 := Lib.hid (grown_below (B1 w _) (by simp) hg (fun k e => by cases e; exact Nat.le_refl _)); clear hk hg)
  exact bodyPost_ret (results_cell_row rfl _ _ w.heap.size 79 _ (0, 0) _ rfl K2.out Try.underlying79 rfl (by kernel_rfl)) rfl ⟨rfl, H2.out⟩
@[go_sem] theorem idxQ_0 (x0 x1 : Value) (w : World) : (Instr.index 79 (.agg #[x0, x1]) (.int .i64 0)).run Try.prog w = .ok x0 w := by kernel_rfl
@[go_sem] theorem idxQ_1 (x0 x1 : Value) (w : World) : (Instr.index 79 (.agg #[x0, x1]) (.int .i64 1)).run Try.prog w = .ok x1 w := by kernel_rfl
set_option maxRecDepth 100000 in
set_option maxHeartbeats 4000000 in
theorem is_any {w : World} {p mb : Nat} {g : Gr} {ml : List Bool} (h : Wel w p g mb ml) (hR : Right g) (n : Nat) (hn : n < g.nodes.length) :
    Calls Try.prog 37 #[.pointer (some ⟨p, 0, none⟩), .int .i64 n, .agg #[.func (.func 62) #[] #[], .func (.func 63) #[] #[]]] w fun e w' => e = .returned (.bool (idleN g n)) ∧ Below w.heap.size w w' := by
  have RP := Lib.hid (fun (w' : World) (b : Below w.heap.size w w') => repeats_any (h.below b) n hn)
  have EM := Lib.hid (fun (w' : World) (b : Below w.heap.size w w') => empties_any (h.below b) hR n hn)
  have ID := Lib.hid (show idleN g n = (repB (g.nodes.getD n Nd.zero).kind && mayN g.nodes (inB (ranks g)) (kid0 (g.nodes.getD n Nd.zero))) from rfl)
  generalize idleN g n = v at ID ⊢
  generalize repB (g.nodes.getD n Nd.zero).kind = r at RP EM ID
  generalize mayN g.nodes (inB (ranks g)) (kid0 (g.nodes.getD n Nd.zero)) = q at EM ID
  clear h hR hn
  go_enter Try.func37, Try.ntmps37
  go_wp2_with fail
  obtain ⟨wb, ewb⟩ : ∃ u, u = w.alloc (.cells #[.func (.func 62) #[] #[], .func (.func 63) #[] #[]] 79) := ⟨_, rfl⟩
  have BB := Lib.hid (show Below w.heap.size w wb by rw [ewb]; exact B1 _ _)
  rw [← ewb]
  clear ewb
  go_loopw [10] (fun i wr => (i = .int .i64 0 ∨ i = .int .i64 1 ∧ r = true ∨ i = .int .i64 2 ∧ r = true ∧ q = true) ∧ Below w.heap.size w wr) (fun i _ => 2 - (intOf i).toNat)
  case atStart => exact ⟨.inl rfl, BB.out⟩
  case round =>
    obtain ⟨hi, hbw⟩ := hrel
    have BW := Lib.hid hbw
    clear hbw
    rcases hi with rfl | ⟨rfl, rfl⟩ | ⟨rfl, rfl, rfl⟩
    · cases r with
      | true =>
        go_wp2_with (go_at_call 62; with_reducible refine (RP.out _ BW.out).mono ?_; rintro e w1 ⟨rfl, rfl⟩)
        go_roundw
        case rel => exact ⟨.inr (.inl ⟨by go_num, by trivial⟩), BW.out⟩
        case measure => simp [intOf]
      | false =>
        go_wp2_with (go_at_call 62; with_reducible refine (RP.out _ BW.out).mono ?_; rintro e w1 ⟨rfl, rfl⟩)
        go_ret
        exact ⟨ret_bool (by rw [ID.out]; rfl), BW.out⟩
    · have EM2 := Lib.hid (fun (w' : World) (b : Below w.heap.size w w') => EM.out w' b rfl)
      clear EM
      cases q with
      | true =>
        go_wp2_with (go_at_call 63; with_reducible refine (EM2.out _ BW.out).mono ?_; rintro e w1 ⟨rfl, kd, rfl⟩; have DB := Lib.hid (bdrew (n := kd) BW.out))
        go_roundw
        case rel => exact ⟨.inr (.inr ⟨by go_num, by trivial, by trivial⟩), DB.out⟩
        case measure => simp [intOf]
      | false =>
        go_wp2_with (go_at_call 63; with_reducible refine (EM2.out _ BW.out).mono ?_; rintro e w1 ⟨rfl, kd, rfl⟩; have DB := Lib.hid (bdrew (n := kd) BW.out))
        go_ret
        exact ⟨ret_bool (by rw [ID.out]; rfl), DB.out⟩
    · go_wp2_with fail
      go_ret
      exact ⟨ret_bool (by rw [ID.out]; rfl), BW.out⟩
end Go.Proofs.Ytjelgmdjmjnnfaa
namespace Go.Proofs.Ytjelgmdjmjnnfaa
open Go Go.RowKit Go.Maps Go.Shelf
/-- How the making of a right grammar at work ends. -/
def WelP (w : World) (g : Gr) (e : Ending) (w' : World) : Prop := ∃ p nb ml, e = .returned (.tuple #[.pointer (some ⟨p, 0, none⟩), .bool true]) ∧ Wel w' p g nb ml ∧ Below w.heap.size w w'
theorem Try.info_b : (Try.prog.info? 4).map (fun i => (i.zero, i.size, i.bytes)) = some (some (.bool false), 1, 1) := by kernel_rfl
set_option maxRecDepth 100000 in
theorem wellOf_no (g : Gr) (w : World) (hg : Gr.At w g) (hin : Gr.In g) (hR : rightB g = false) : Calls Try.prog 27 #[g.val] w fun e w' => e = .returned (.tuple #[.pointer none, .bool false]) ∧ Below w.heap.size w w' := by
  have RA := Lib.hid (fun (w' : World) (b : Below w.heap.size w w') => by have := right_all g w' (hg.below b) hin; rw [hR] at this; exact this)
  clear hg hin hR
  show Calls Try.prog 27 #[.agg #[.slice g.RA g.rules.length g.rc, .slice g.NA g.nodes.length g.nc]] w _
  go_enter Try.func27, Try.ntmps27
  go_wp2_with (go_at_call 9; with_reducible refine (RA.out _ (B1 _ _)).mono ?_; rintro e w1 ⟨rfl, hb⟩; have H1 := Lib.hid (bb (B1 w _) hb); clear hb)
  refine bodyPost_ret (v := .tuple #[.pointer none, .bool false]) (by simp [results, Try.f27, go_sem]) rfl ?_
  exact ⟨rfl, H1.out⟩
theorem made_bool (n : Nat) : madeCells (Value.bool false).cells (n * 1) = (List.replicate n (Value.bool false)).toArray := by
  apply Array.ext
  · simp [madeCells]
  · intro k h1 h2
    simp [madeCells, Value.cells, Nat.mod_one]
set_option maxRecDepth 100000 in
set_option maxHeartbeats 4000000 in
theorem wellOf_any (g : Gr) (w : World) (hg : Gr.At w g) (hin : Gr.In g) (hR : Right g) : Calls Try.prog 27 #[g.val] w (WelP w g) := by
  obtain ⟨i0, hi, hz0, hz1, hz2⟩ := info_parts Try.info_b
  have RA := Lib.hid (fun (w' : World) (b : Below w.heap.size w w') => by have := right_all g w' (hg.below b) hin; rw [rightB_true.2 hR] at this; exact this)
  have NA := Lib.hid (fun (w' : World) (b : Below w.heap.size w w') => nodes_any g w' (hg.below b) hin)
  have ND := Lib.hid (nodesOf_of hR)
  have HG := Lib.hid hg
  have h48 := hR.nodes
  obtain ⟨m, em⟩ : ∃ m, m = g.nodes.length := ⟨_, rfl⟩
  have EM := Lib.hid em
  rw [← em] at h48
  have RA2 : RowKit.Hid (∀ (w' : World), Below w.heap.size w w' → Calls Try.prog 9 #[.agg #[.slice g.RA g.rules.length g.rc, .slice g.NA m g.nc]] w' fun e w'' => e = .returned (.bool true) ∧ Below w'.heap.size w' w'') := Lib.hid (by rw [em]; exact RA.out)
  have NA2 : RowKit.Hid (∀ (w' : World), Below w.heap.size w w' → Calls Try.prog 13 #[.agg #[.slice g.RA g.rules.length g.rc, .slice g.NA m g.nc]] w' (Row w' (nodesOf g))) := Lib.hid (by rw [em]; exact NA.out)
  show Calls Try.prog 27 #[.agg #[.slice g.RA g.rules.length g.rc, .slice g.NA g.nodes.length g.nc]] w _
  rw [← em]
  clear hg hR hin RA NA em
  go_enter Try.func27, Try.ntmps27
  go_upto_region 3 with (go_at_call 9; with_reducible refine (RA2.out _ (B1 _ _)).mono ?_; rintro e w1 ⟨rfl, hb⟩; have KB := Lib.hid ((Blk.new w #[.slice g.RA g.rules.length g.rc, .slice g.NA m g.nc] 25).below' hb); have H1 := Lib.hid (bb (B1 w _) hb); clear hb)
  have k0 := KB.out.cell 0
  have k1 := KB.out.cell 1
  simp only [List.getElem?_toArray, List.getElem?_cons_zero, List.getElem?_cons_succ] at k0 k1
  have hmk : ∀ W : World, (Instr.makeSlice 94 (.int .i64 m) (.int .i64 m)).run Try.prog W = .ok (.slice (some ⟨W.heap.size, 0, none⟩) m m) (W.alloc (.cells (List.replicate m (Value.bool false)).toArray 4)) := fun W => by
    have hr := run_make (P := Try.prog) W 94 4 i0 (.bool false) Try.underlying94 hi hz0 .i64 .i64 (m : Nat) (m : Nat) (by omega) (by omega) (by rw [hz2]; omega) (by omega)
    rw [hz1, Int.toNat_natCast, made_bool] at hr
    exact hr
  have k0' : ∀ o, (w1.alloc o).cell? ⟨w.heap.size, 0, none⟩ = some (.slice g.RA g.rules.length g.rc) := fun o => (KB.out.alloc o).cell 0
  have k1' : ∀ o, (w1.alloc o).cell? ⟨w.heap.size, 1, none⟩ = some (.slice g.NA m g.nc) := fun o => (KB.out.alloc o).cell 1
  go_region
  obtain ⟨nb, enb⟩ : ∃ u, u = w1.heap.size := ⟨_, rfl⟩
  obtain ⟨w2, ew2⟩ : ∃ u, u = ((w1.alloc (Obj.cells (Array.replicate m (Value.bool false)) 4)).alloc (Obj.cells #[Value.slice g.RA g.rules.length g.rc, Value.slice g.NA m g.nc, Value.slice (some { block := w1.heap.size, off := 0 }) m m] 96)).drew := ⟨_, rfl⟩
  have hb2 : Below w1.heap.size w1 w2 := by rw [ew2]; exact bdrew1 (B2 _ _ _)
  have kr : Blk w2 nb (bls (List.replicate m false)).toArray 4 := by
    rw [ew2, enb, show (bls (List.replicate m false)).toArray = Array.replicate m (Value.bool false) from by simp [bls]]
    exact (Blk.new _ _ _).alloc _
  have kp : Blk w2 (nb + 1) #[Value.slice g.RA g.rules.length g.rc, Value.slice g.NA m g.nc, Value.slice (some { block := nb, off := 0 }) m m] 96 := by
    rw [ew2, enb]
    have := Blk.new (w1.alloc (Obj.cells (Array.replicate m (Value.bool false)) 4)) #[Value.slice g.RA g.rules.length g.rc, Value.slice g.NA m g.nc, Value.slice (some { block := w1.heap.size, off := 0 }) m m] 96
    rw [World.size_alloc] at this
    exact this
  rw [← ew2, ← enb]
  have K2 := KB.out.below' hb2
  have q0 := K2.cell 0
  have q1 := K2.cell 1
  simp only [List.getElem?_toArray, List.getElem?_cons_zero, List.getElem?_cons_succ] at q0 q1
  have hz2' : w2.heap.size = nb + 2 := by rw [ew2, enb]; simp
  have H2 := Lib.hid (bb H1.out hb2)
  have HS := Lib.hid hz2'
  have KR := Lib.hid kr
  have KP := Lib.hid kp
  have ENB := Lib.hid (show w.heap.size ≤ nb by rw [enb]; exact H1.out.size)
  obtain ⟨L, eL⟩ : ∃ L, L = nodesOf g := ⟨_, rfl⟩
  have hld := ND.out
  rw [← eL] at NA2 hld
  have N3 := Lib.hid (NA2.out w2 H2.out)
  clear NA2 ND eL ew2 enb hb2 kr kp K2 hz2' k0 k1 k0' k1' hmk
  have hld2 := Lib.hid hld
  clear hld
  go_wp2_with fail
  refine N3.out.mono ?_
  rintro e w5 ⟨⟨v5, rfl, ho5, _⟩, hb5⟩
  obtain ⟨A, c, rfl, _, _⟩ := own_slice ho5
  have O5 := Lib.hid ho5
  have G5 := Lib.hid hb5
  clear ho5 hb5
  have hln := (show L.length ≤ m by rw [hld2.out, EM.out]; exact rowOf_len _ _)
  go_wp2_with fail
  have MS := Lib.hid (fun (wr : World) (ml : List Bool) (h : MidM w5 wr nb L L.length ml m) => show (∀ q, q < g.nodes.length → ml.getD q false = mayN g.nodes (inB (ranks g)) q) from by
    have hld := hld2.out
    rw [hld, EM.out] at h
    exact fun q hq => MidM.done h q hq)
  have LM := Lib.hid (fun (k : Nat) (hk : k < L.length) => show L.getD k 0 < m from by
    have : L.getD k 0 ∈ L := by simp [List.getD, List.getElem?_eq_getElem hk]
    rw [hld2.out] at this
    rw [EM.out, hld2.out]
    exact (rowOf_mem.1 this).1)
  have LN := Lib.hid (show L.length ≤ m by rw [hld2.out, EM.out]; exact rowOf_len _ _)
  have R5 := Lib.hid (KR.out.below' G5.out)
  have P5 := Lib.hid (KP.out.below' G5.out)
  clear hln
  go_loopw [20, 6] (fun i _ wr => ∃ (k : Nat) (ml : List Bool), k ≤ L.length ∧ i = .int .i64 k ∧ MidM w5 wr nb L k ml m ∧ Below w.heap.size w wr) (fun i _ _ => L.length - (intOf i).toNat)
  case atStart => exact ⟨0, List.replicate m false, by omega, rfl, MidM.start R5.out, bb H2.out G5.out⟩
  case round =>
    obtain ⟨k, ml, hk, rfl, hmm, hbl⟩ := hrel
    have HM := Lib.hid hmm
    have BL := Lib.hid hbl
    have hln := LN.out
    clear hmm hbl
    by_cases hlt : k < L.length
    · have hlt2 : (k : Int) < L.length := by omega
      have hq := LM.out k hlt
      have hro : wr.ownsRow w2.heap.size 3 1 (.slice A L.length c) L.length (ints (nums L)) := own_kept O5.out (fun b hb => HM.out.other b (fun e => by have := (O5.out.lt b hb).1; have := HS.out; omega))
      have hlies : Lies wr A (ints (nums L)) := own_lies (xs := ints (nums L)) (by rw [ints_length, nums_len]; exact hro)
      obtain ⟨b2, o2, eA2, _, c2⟩ := lies_cell hlies (k := k) (by rw [nums_len]; exact hlt)
      rw [nums_at] at c2
      have kp := ((HM.out.other (nb + 1) (by omega)).trans P5.out)
      have c3 : wr.cell? ⟨nb + 1, 2, none⟩ = some (.slice (some ⟨nb, 0, none⟩) m m) := Blk.cell kp 2
      have hml : L.getD k 0 < ml.length := by rw [HM.out.len]; exact hq
      have c4 := (HM.out.row.cell (L.getD k 0)).trans (by rw [List.getElem?_toArray, bls_at hml])
      have f4 := HM.out.row.frozen (L.getD k 0)
      have HN := Lib.hid (HM.out.step hlt)
      generalize L.getD k 0 = x at c2 c4 f4 HN hq
      have hxi : (x : Int) < m := by omega
      rw [eA2]
      clear hro hlies kp hml
      go_wp2_with fail
      go_roundw
      case rel => exact ⟨k + 1, _, by omega, by go_num, HN.out, BL.out.setCell (p := ⟨nb, x, none⟩) ENB.out _⟩
      case measure => simp [intOf]; omega
    · obtain rfl : k = L.length := by omega
      have hlt2 : ¬ (L.length : Int) < L.length := by omega
      go_wp2_with fail
      refine bodyPost_ret (v := .tuple #[.pointer (some ⟨nb + 1, 0, none⟩), .bool true]) (by simp [results, Try.f27, go_sem]) rfl ?_
      have kp := ((HM.out.other (nb + 1) (by omega)).trans P5.out)
      refine ⟨nb + 1, nb, ml, rfl, ⟨?_, HG.out.below BL.out, HM.out.row, by rw [HM.out.len, EM.out], MS.out wr ml HM.out⟩, BL.out⟩
      rw [← EM.out]; exact kp
end Go.Proofs.Ytjelgmdjmjnnfaa
namespace Go.Proofs.Ytjelgmdjmjnnfaa
open Go Go.RowKit Go.Maps Go.Shelf
attribute [local go_sem] Oper.semAt_some
theorem rowOf_mono (q : Nat → Bool) (m : Nat) : ∀ d, (rowOf' m q).length ≤ (rowOf' (m + d) q).length ∧ (rowOf' (m + d) q).take (rowOf' m q).length = rowOf' m q
  | 0 => ⟨Nat.le_refl _, by simp⟩
  | d + 1 => by
    obtain ⟨h1, h2⟩ := rowOf_mono q m d
    rw [show m + (d + 1) = (m + d) + 1 by omega, rowOf_succ]
    split
    · refine ⟨by simp; omega, ?_⟩
      rw [List.take_append_of_le_length h1, h2]
    · exact ⟨h1, h2⟩
/-- The next one of those of which something holds. -/
theorem rowOf_next {q : Nat → Bool} {m n : Nat} (hm : m < n) (hq : q m = true) : (rowOf' m q).length < (rowOf' n q).length ∧ (rowOf' n q).getD (rowOf' m q).length 0 = m := by
  obtain ⟨h1, h2⟩ := rowOf_mono q (m + 1) (n - (m + 1))
  rw [show m + 1 + (n - (m + 1)) = n by omega] at h1 h2
  rw [rowOf_succ, if_pos hq] at h1 h2
  have hl : (rowOf' m q ++ [m]).length = (rowOf' m q).length + 1 := by simp
  refine ⟨by omega, ?_⟩
  have h3 : (rowOf' n q)[(rowOf' m q).length]? = (rowOf' m q ++ [m])[(rowOf' m q).length]? := by
    rw [← h2, List.getElem?_take, if_pos (by omega)]
  rw [List.getD_eq_getElem?_getD, h3]
  simp
/-- The two questions. -/
def asks : Array Value := #[.func (.func 62) #[] #[], .func (.func 63) #[] #[]]
theorem blk_two {w : World} {b : Nat} {x y u v : Value} {T : TypeId} (h : Blk w b #[x, y] T) : Blk ((w.setCell ⟨b, 0, none⟩ u).setCell ⟨b, 1, none⟩ v) b #[u, v] T := by
  have k1 : Blk (w.setCell ⟨b, 0, none⟩ u) b #[u, y] T := heap_setCell_same w b 0 #[x, y] T _ h
  exact heap_setCell_same _ b 1 #[u, y] T _ k1
theorem wpListIn_store_two {F : Fence} {k : Nat} {P : Program} {w : World} {ops : Array Oper} {rest : List Oper} {o : Oper} {ac : Act} {Q : Exit → Act → World → Prop}
    (hgd : o.guard = none) (ty : TypeId) (x y : Operand) (hop : o.op = .store ty x y) (b : Nat) (u v u0 v0 : Value) (T : TypeId) (hb : Blk w b #[u0, v0] T) (hx : ac.eval x = .pointer (some ⟨b, 0, none⟩)) (hy : ac.eval y = .agg #[u, v])
    (hi : (P.info? ty).map (·.size) = some 2) (h1 : u.oneCell' = true ∧ v.oneCell' = true)
    (hK : ∀ w', Blk w' b #[u, v] T → w.grownBy w' (some b) → wpListIn F k P ops Q rest (ac.put o.dst undef) w') : wpListIn F k P ops Q (o :: rest) ac w := by
  refine wpListIn_store_mid hgd ty x y hop b 0 #[u, v] hx hy ?_ hi (by simp [h1.1, h1.2]) (hK _ ?_ ?_)
  · intro j hj
    have hj2 : j < 2 := hj
    refine ⟨?_, by have := hb.frozen (0 + j); exact this⟩
    have := hb.cell (0 + j)
    show (w.cell? ⟨b, 0 + j, none⟩).isSome = true
    rw [this]
    rcases (show j = 0 ∨ j = 1 by omega) with rfl | rfl <;> rfl
  · simp only [World.setCells]
    exact blk_two hb
  · simp only [World.setCells]
    exact ⟨rfl, rfl, rfl, by simp [World.setCell], fun k hk hne => (heap_setCell_other _ ⟨b, 1, none⟩ k _ (fun e => hne (by rw [e]))).trans (heap_setCell_other w ⟨b, 0, none⟩ k _ (fun e => hne (by rw [e])))⟩
set_option maxRecDepth 100000 in
set_option maxHeartbeats 4000000 in
theorem idle_core (n : Nat) (hn : 1 ≤ n) (l cb p mb : Nat) (g : Gr) (ml : List Bool) (hR : Right g) (J Jx : Nat → World → Prop) (S : World → Prop) (N : Nat → World → Prop) (R : World → World → Prop)
    (hS : ∀ A, S A → Blk A cb #[.pointer (some ⟨p, 0, none⟩)] 56 ∧ Wel A p g mb ml)
    (hG : ∀ k A A', J k A → S A → Below A.heap.size A A' → J k A' ∧ S A')
    (hN0 : ∀ k A A', J k A → S A → Below A.heap.size A A' → N A.heap.size A')
    (hNG : ∀ k b A A', J k A → N b A → b < A.heap.size → Below A.heap.size A A' → N b A')
    (hNR : ∀ b vs T A A', N b A → Blk A b vs T → R A A' → N b A' ∧ Blk A' b vs T)
    (hY : ∀ k W1, J k W1 → S W1 → k < (idles g).length → YieldAt Fence.wide (n - 1) Try.prog l #[.int .i64 ((idles g).getD k 0 : Nat)] W1 fun e W' =>
      (e = .returned (.bool true) ∧ J (k + 1) W' ∧ S W' ∧ R W1 W') ∨ (e = .returned (.bool false) ∧ Jx (k + 1) W'))
    (W : World) (h0 : J 0 W) (hs : S W) :
    CallsIn Fence.wide n Try.prog 52 #[.func (.yield l) #[] #[], .pointer (some ⟨cb, 0, none⟩)] W fun e W' => (∃ v, e = .returned v) ∧ ((J (idles g).length W' ∧ S W') ∨ ∃ k, k ≤ (idles g).length ∧ Jx k W') := by
  have HS := Lib.hid hS
  have HG := Lib.hid hG
  have HN0 := Lib.hid hN0
  have HNG := Lib.hid hNG
  have HNR := Lib.hid hNR
  have HY := Lib.hid hY
  have HJ0 := Lib.hid h0
  have HS0 := Lib.hid hs
  have QU := Lib.hid (questions_any W)
  have IS := Lib.hid (fun (A : World) (h : Wel A p g mb ml) (m : Nat) (hm : m < g.nodes.length) => is_any h hR m hm)
  have NX := Lib.hid (fun (m : Nat) (hm : m < g.nodes.length) (hq : idleN g m = true) => rowOf_next (n := g.nodes.length) hm hq)
  have SC := Lib.hid (fun m => rowOf_succ m (idleN g))
  have h48 := hR.nodes
  clear hS hG hN0 hNG hNR hY h0 hs hR
  refine callsIn_of_wp Try.func52 rfl trivial ?_ rfl
  simp only [Try.ntmps52, List.size_toArray, List.length_cons, List.length_nil, Nat.reduceAdd, Nat.reduceSub, Array.replicate_succ, Array.replicate_zero, List.push_toArray, List.append_toArray, List.nil_append, List.cons_append]
  gi_wp2_with fail
  refine ⟨trivial, ?_⟩
  with_reducible refine CallsIn.mono (callsIn_wide.2 QU.out) ?_
  rintro e w1 ⟨rfl, hb1⟩
  obtain ⟨J1, S1⟩ := HG.out 0 W w1 HJ0.out HS0.out hb1
  obtain ⟨ab, eab⟩ : ∃ u, u = w1.heap.size := ⟨_, rfl⟩
  have HJ1 := Lib.hid J1
  have HS1 := Lib.hid S1
  clear QU J1 S1 hb1
  gi_wp2_with (refine wpListIn_store_two rfl 79 (.tmp 3) (.tmp 5) rfl w1.heap.size (.func (.func 62) #[] #[]) (.func (.func 63) #[] #[]) _ _ 79 (Blk.new w1 _ _) rfl rfl (by kernel_rfl) ⟨rfl, rfl⟩ ?_; intro w2 hk hgr; have KB := Lib.hid hk; have HB2 := Lib.hid (show Below w1.heap.size w1 w2 from grown_below (B1 w1 _) (by simp) hgr (fun k e => by cases e; exact Nat.le_refl _)); have NB := Lib.hid (HN0.out 0 w1 w2 HJ1.out HS1.out HB2.out); obtain ⟨J2, S2⟩ := HG.out 0 w1 w2 HJ1.out HS1.out HB2.out; have HJ2 := Lib.hid J2; have HS2 := Lib.hid S2; obtain ⟨cbx, wl⟩ := HS.out w2 S2; have c0 := cbx.cell 0; have c1 := wl.box.cell 1; simp only [List.getElem?_toArray, List.getElem?_cons_zero, List.getElem?_cons_succ] at c0 c1; clear hk hgr J2 S2 cbx wl)
  clear c0 c1
  rw [← eab] at NB KB ⊢
  obtain ⟨m, em⟩ : ∃ m, m = g.nodes.length := ⟨_, rfl⟩
  rw [← em] at h48 IS NX
  have EM := Lib.hid em
  rw [← em]
  clear eab em HJ0 HS0 HB2
  have Z0 := Lib.hid (show J (rowOf' 0 (idleN g)).length w2 from HJ2.out)
  have IDL := Lib.hid (show idles g = rowOf' m (idleN g) from by rw [EM.out]; rfl)
  gi_loopw [12] (fun i wr => ∃ k : Nat, k ≤ m ∧ i = .int .i64 k ∧ J (rowOf' k (idleN g)).length wr ∧ S wr ∧ Blk wr ab #[.func (.func 62) #[] #[], .func (.func 63) #[] #[]] 79 ∧ N ab wr) (fun i _ => m - (intOf i).toNat)
  case atStart => exact ⟨0, by omega, by go_num, Z0.out, HS2.out, KB.out, NB.out⟩
  case round =>
    obtain ⟨k, hk, rfl, hJ, hs, hkb, hnb⟩ := hrel
    have HJ := Lib.hid hJ
    have HSK := Lib.hid hs
    have HKB := Lib.hid hkb
    have HNB := Lib.hid hnb
    by_cases hlt : k < m
    · have hlt2 : (k : Int) < m := by omega
      obtain ⟨cbx, wl⟩ := HS.out wr hs
      have c0 := cbx.cell 0
      have q0 := hkb.cell 0
      have q1 := hkb.cell 1
      simp only [List.getElem?_toArray, List.getElem?_cons_zero, List.getElem?_cons_succ] at c0 q0 q1
      have C := Lib.hid (IS.out wr wl k hlt)
      have SCK := Lib.hid (SC.out k)
      have NXK := Lib.hid (NX.out k hlt)
      have HYK := Lib.hid (fun W1 h1 h2 h3 => HY.out (rowOf' k (idleN g)).length W1 h1 h2 h3)
      have GK := Lib.hid (fun w' b => HG.out _ wr w' hJ hs b)
      have NK := Lib.hid (fun w' b => HNG.out _ ab wr w' hJ hnb hkb.lt b)
      clear hJ hs hkb hnb cbx wl
      cases hq : idleN g k with
      | false =>
        rw [hq] at C SCK
        clear NXK HYK hq
        gi_wp2_with fail
        refine ⟨trivial, ?_⟩
        gi_at_call 37
        with_reducible refine CallsIn.mono (callsIn_wide.2 C.out) ?_
        rintro e w3 ⟨rfl, hb3⟩
        obtain ⟨j3, s3⟩ := GK.out w3 hb3
        have HJ3 := Lib.hid j3
        have HS3 := Lib.hid s3
        have KB3 := Lib.hid (HKB.out.below' hb3)
        have NB3 := Lib.hid (NK.out w3 hb3)
        clear j3 s3 hb3
        gi_wp2_with fail
        refine ⟨(fun f h => nomatch h), ?_⟩
        gi_wp2_with fail
        go_roundw
        case rel => exact ⟨k + 1, by omega, by go_num, by rw [SCK.out]; exact HJ3.out, HS3.out, KB3.out, NB3.out⟩
        case measure => simp [intOf]; try omega
      | true =>
        rw [hq] at C SCK
        have NXT := Lib.hid (NXK.out hq)
        clear NXK hq
        gi_wp2_with fail
        refine ⟨trivial, ?_⟩
        gi_at_call 37
        with_reducible refine CallsIn.mono (callsIn_wide.2 C.out) ?_
        rintro e w3 ⟨rfl, hb3⟩
        obtain ⟨j3, s3⟩ := GK.out w3 hb3
        have KB3 := Lib.hid (HKB.out.below' hb3)
        have NB3 := Lib.hid (NK.out w3 hb3)
        have HLL := Lib.hid (show (rowOf' k (idleN g)).length < (idles g).length from by rw [IDL.out]; exact NXT.out.1)
        have hy0 := HYK.out w3 j3 s3 HLL.out
        rw [show (idles g).getD (rowOf' k (idleN g)).length 0 = k from by rw [IDL.out]; exact NXT.out.2] at hy0
        obtain ⟨fn, tmps, assign, body, hy, hR⟩ := hy0
        have HR := Lib.hid hR
        clear j3 s3 hb3 hR
        gi_wp2_with fail
        refine HR.out.mono ?_
        rintro e W3 (⟨rfl, hj4, hs4, hr4⟩ | ⟨rfl, hx4⟩)
        · obtain ⟨n4, k4⟩ := HNR.out ab _ _ w3 W3 NB3.out KB3.out hr4
          have HJ4 := Lib.hid hj4
          have HS4 := Lib.hid hs4
          have KB4 := Lib.hid k4
          have NB4 := Lib.hid n4
          clear hj4 hs4 hr4 n4 k4 hy
          gi_wp2_with fail
          go_roundw
          case rel => exact ⟨k + 1, by omega, by go_num, by rw [SCK.out, if_pos trivial, List.length_append]; exact HJ4.out, HS4.out, KB4.out, NB4.out⟩
          case measure => simp [intOf]; try omega
        · have HX4 := Lib.hid hx4
          clear hx4 hy
          gi_wp2_with fail
          refine bodyPost_ret (results_none rfl _ _ _) rfl ?_
          exact ⟨⟨_, rfl⟩, .inr ⟨_, by have := HLL.out; omega, HX4.out⟩⟩
    · obtain rfl : k = m := by omega
      have hlt2 : ¬ (k : Int) < k := by omega
      clear hJ hs hkb hnb
      gi_wp2_with fail
      go_end0
      exact ⟨⟨_, rfl⟩, .inl ⟨by rw [IDL.out]; exact HJ.out, HSK.out⟩⟩
end Go.Proofs.Ytjelgmdjmjnnfaa

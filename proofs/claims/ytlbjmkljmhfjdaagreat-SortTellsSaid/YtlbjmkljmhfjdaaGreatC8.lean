/- The kit's Gram. -/
import Derived.Test.YtlbjmkljmhfjdaaGreatC7
import Derived.Laws.BytesArg
import Derived.Deep.CutRange
import Derived.Deep.RegionLaw
set_option linter.unusedSimpArgs false
set_option linter.unusedVariables false
namespace Go.Proofs.YtlbjmkljmhfjdaaGreat
open Go Go.RowKit
theorem step_append_any {P : Program} {ops : Array Oper} {o : Oper} {a : Act} {w : World} {K : Act → World → Prop} {Q : Exit → Act → World → Prop} {E : Prop}
    (hg : o.guard = none) (s x : Operand) (t : TypeId) (hop : o.op = Op.call { callee := Callee.builtin Builtin.append, args := #[s, x], argTypes := #[t, t] })
    (base : Nat) (e : TypeId) (i : TypeInfo) (z : Value) (size bytes : Nat) (h1 : P.underlying t = some (.slice e)) (h2 : P.info? e = some i) (h3 : i.zero = some z) (h4 : i.size = size) (h5 : i.bytes = bytes) (h6 : z.cells.size = size) (h7 : 0 < size)
    (v : Value) (n : Nat) (xs : List Value) (hs : a.eval s = v) (hown : w.ownsRow base e size v n xs)
    (A : Option Addr) (m c : Nat) (news : List Value) (hx : a.eval x = .slice A m c) (hn : news.length = m * size) (hc : ∀ ad, A = some ad → ∀ j u, news[j]? = some u → w.cell? (ad.add j) = some u) (hnone : A = none → m = 0 ∧ c = 0) (h1c : ∀ u ∈ news, u.oneCell' = true)
    (b1 : n + m ≤ maxLen) (b2 : (n + m) * bytes ≤ 140737488355328) (hbase : base ≤ w.heap.size)
    (hK : ∀ v' w', w'.ownsRow base e size v' (n + m) (xs ++ news) → w.grownBy w' v.ownBlock → (∀ k, v'.ownBlock = some k → v.ownBlock = some k ∨ w.heap.size ≤ k) → K (a.put o.dst v') w') :
    if Region.wanted o (yielded ops a.tmps) = true then Oper.wp P o a w K Q else E := by
  have hw : Region.wanted o (yielded ops a.tmps) = true := by simp [Region.wanted, hg]
  rw [if_pos hw]
  obtain ⟨v', w', hrun, r1, r2, r3⟩ := run_append_onto (P := P) w base t o.type e i z size bytes h1 h2 h3 h4 h5 h6 h7 v n xs hown A m c news hn hc hnone h1c b1 b2 hbase
  unfold Oper.wp
  simp [execOp, hop, resolve, invoke, builtin, hs, hx, hrun, Result.andThen]
  exact hK v' w' r1 r2 r3
theorem step_call {P : Program} {ops : Array Oper} {o : Oper} {a : Act} {w : World} {K : Act → World → Prop} {Q : Exit → Act → World → Prop} {E : Prop}
    (hg : o.guard = none) (f : FuncId) (xs : Array Operand) (ts : Array TypeId) (args : Array Value) (hop : o.op = Op.call { callee := Callee.value (.func f), args := xs, argTypes := ts })
    (he : ∀ args w, (callFunc f args).run P w = .ok (.enter f args) w) (hx : xs.map a.eval = args) (h : Calls P f args w fun e w' => ∃ v, e = .returned v ∧ K (a.put o.dst v) w') :
    if Region.wanted o (yielded ops a.tmps) = true then Oper.wp P o a w K Q else E := by
  have hw : Region.wanted o (yielded ops a.tmps) = true := by simp [Region.wanted, hg]
  rw [if_pos hw]
  have hr : (execOp a.eval o).run P w = .ok (.enter f args) w := by
    simp only [execOp, hop, resolve, Act.eval] at hx ⊢
    rw [hx]
    simp [invoke, Deferred.ofValue, he, go_sem]
  unfold Oper.wp
  rw [hr]
  simp only [Oper.upon]
  refine h.mono ?_
  rintro e w' ⟨v, rfl, hk⟩
  exact hk
/-- A grammar all of whose blocks lie from B on. -/
def Stands (B : Nat) (w : World) (g : Gr) : Prop := ∀ W' : World, w.heap.size ≤ W'.heap.size → (∀ b, B ≤ b → b < w.heap.size → W'.heap[b]? = w.heap[b]?) → Gr.At W' g
/-- Rows have room for what they have. -/
structure Capd (g : Gr) : Prop where
  nodes : g.nodes.length ≤ g.nc
  kids : ∀ x ∈ g.nodes, x.kids.length ≤ x.cap
theorem own_cap {w : World} {base e size n c : Nat} {A : Option Addr} {xs : List Value} (h : w.ownsRow base e size (.slice A n c) n xs) : n ≤ c := by
  obtain ⟨A', c', e1, _, h2⟩ := own_slice h
  simp only [Value.slice.injEq] at e1
  omega
theorem gram_names : ∀ (bl : List (List Nd)) (a : List Rl × List Nd), (∀ q ∈ a.1, q.name.size ≤ 1) → ∀ q ∈ (bl.foldl gramN a).1, q.name.size ≤ 1
  | [], a, h, q, hq => h q hq
  | b :: bl, a, h, q, hq => gram_names bl (gramN a b) (fun x hx => by
      rcases List.mem_append.1 (show x ∈ a.1 ++ [⟨nameB a.1.length, (a.2.length : Int)⟩] from hx) with hx | hx
      · exact h x hx
      · simp only [List.mem_singleton] at hx
        subst hx
        simp [nameB, ByteArray.size]) q hq
theorem kconv (w : World) (i : Nat) : (convert 151 9 (.slice (some ⟨w.heap.size, 0, none⟩) 1 1)).run Tryz.prog (w.alloc (.cells #[.int .u8 (65 + (i : Int))] 5)) = .ok (.string (nameB i)) (w.alloc (.cells #[.int .u8 (65 + (i : Int))] 5)) := by
  have h := run_convert_bytes_arg (P := Tryz.prog) (w.alloc (.cells #[.int .u8 (65 + (i : Int))] 5)) 151 5 Tryz.underlying151 Tryz.underlying5 w.heap.size 0 1 1 [65 + (i : Int)] rfl (fun j hj => by
    rw [(Blk.new w #[.int .u8 (65 + (i : Int))] 5).cell]
    match j, hj with
    | 0, _ => rfl) 9 Tryz.underlying9
  rw [h]
  have e : (65 + (i : Int)).toNat = 65 + i := by omega
  unfold strOfNums nameB
  simp only [List.map_cons, List.map_nil, e]
set_option maxRecDepth 100000 in
set_option maxHeartbeats 8000000 in
theorem gram_any (A : Option Addr) (bl : List Bdy) (c : Nat) (K : Int) (w : World) (h : Bds w A bl K) (hl : bl.length ≤ 60) (hK : 0 ≤ K ∧ K ≤ 100000000) :
    Calls Tryz.prog 73 #[.slice A bl.length c] w fun e w' => ∃ g : Gr, e = .returned g.val ∧ Stands w.heap.size w' g ∧ (g.rules, g.nodes.map Nd.kz) = gramL (bl.map fun b => b.2.2.map Nd.kz) ∧ (∀ x ∈ g.nodes, x.kids.length ≤ 1000) ∧ Capd g ∧ Below w.heap.size w w' := by
  obtain ⟨i0, hi, hz0, hz1, hz2⟩ := info_parts Tryz.info124
  obtain ⟨i1, ji, jz0, jz1, jz2⟩ := info_parts Tryz.info40
  have HH := Lib.hid h
  obtain ⟨m, em⟩ : ∃ m, m = bl.length := ⟨_, rfl⟩
  have EM := Lib.hid em
  rw [← em] at hl ⊢
  clear h em
  go_enter Tryz.func73, Tryz.ntmps73
  go_wp2_with fail
  obtain ⟨wb, ewb⟩ : ∃ u, u = (w.alloc (.cells #[.slice none 0 0, .slice none 0 0] 25)).alloc (.cells #[.slice none 0 0, .slice none 0 0] 25) := ⟨_, rfl⟩
  have hb2 : Below w.heap.size w wb := by rw [ewb]; exact B2 _ _ _
  have R0 : RowKit.Hid (Blk wb w.heap.size #[.slice none 0 0, .slice none 0 0] 25) := Lib.hid (by rw [ewb]; exact (Blk.new _ _ _).alloc _)
  obtain ⟨gb, egb⟩ : ∃ u, u = w.heap.size + 1 := ⟨_, rfl⟩
  have G0 : RowKit.Hid (GrS w wb gb [] [] (.slice none 0 0) (.slice none 0 0) (K + 1000000)) := Lib.hid ⟨by rw [ewb, egb]; have := Blk.new (w.alloc (.cells #[.slice none 0 0, .slice none 0 0] 25)) #[.slice none 0 0, .slice none 0 0] 25; rwa [World.size_alloc] at this, by omega, World.ownsRow_nil _ _ _ _, ⟨World.ownsRow_nil _ _ _ _, by simp, by simp, hb2⟩⟩
  rw [← egb]
  rw [← ewb]
  have GB := Lib.hid (show w.heap.size < gb by omega)
  clear ewb hb2 egb
  go_loopw [4] (fun i wr => ∃ (k : Nat) (R : List Rl) (L : List Nd) (rv nv : Value), k ≤ m ∧ i = .int .i64 k ∧ GrS w wr gb R L rv nv (K + 1000000) ∧ (R, L.map Nd.kz) = ((bl.map fun b => b.2.2.map Nd.kz).take k).foldl gramN ([], []) ∧ L.length ≤ 1000 * k ∧ R.length = k ∧ Blk wr w.heap.size #[.slice none 0 0, .slice none 0 0] 25) (fun i _ => m - (RowKit.intOf i).toNat)
  case atStart => exact ⟨0, [], [], _, _, by omega, by go_num, G0.out, by simp, by simp, rfl, R0.out⟩
  case round =>
    obtain ⟨k, R, L, rv, nv, hk, rfl, hG, hsp, hln, hrl, hr0⟩ := hrel
    obtain ⟨rA, rc, rfl, hrA, _⟩ := own_slice hG.rules
    obtain ⟨nA, nc, rfl, hnA, _⟩ := own_slice hG.nodes.row
    have g0 := hG.blk.cell 0
    have g1 := hG.blk.cell 1
    simp only [List.getElem?_toArray, List.getElem?_cons_zero, List.getElem?_cons_succ] at g0 g1
    have HSP := Lib.hid hsp
    have HR0 := Lib.hid hr0
    have HRL := Lib.hid hrl
    have HNA := Lib.hid hnA
    have HRA := Lib.hid hrA
    obtain ⟨n, en⟩ : ∃ n, n = L.length := ⟨_, rfl⟩
    obtain ⟨r, er⟩ : ∃ n, n = R.length := ⟨_, rfl⟩
    have EN := Lib.hid en
    have ER := Lib.hid er
    have hr60 : r ≤ 60 := by omega
    rw [← en] at hln g1
    rw [← er] at g0
    have HG := Lib.hid (show GrS w wr gb R L (.slice rA r rc) (.slice nA n nc) (K + 1000000) from by rw [en, er]; exact hG)
    clear hG hsp hr0 hrl hnA hrA en er
    by_cases hlt : k < m
    · have hlt2 : (k : Int) < m := by omega
      have hw1 : IntKind.wrap .u8 (k : Int) = k := by rw [IntKind.wrap_u8]; omega
      have hw2 : IntKind.wrap .u8 (65 + (k : Int)) = 65 + k := by rw [IntKind.wrap_u8]; omega
      have KC := fun W => kconv W k
      have hkb : k < bl.length := by have := EM.out; omega
      obtain ⟨b1, o1, eA, hb1, hcells⟩ := HH.out.lies (by simp; omega)
      have cb := hcells k (by simpa using hkb)
      obtain ⟨q0, q1, q2⟩ := HH.out.bod _ (show bl.getD k (none, 0, []) ∈ bl by simp [List.getD, List.getElem?_eq_getElem hkb])
      have eb : (bl.map fun b => Value.slice b.1 b.2.2.length b.2.1)[k]? = some (Value.slice (bl.getD k (none, 0, [])).1 (bl.getD k (none, 0, [])).2.2.length (bl.getD k (none, 0, [])).2.1) := by simp [List.getElem?_map, List.getElem?_eq_getElem hkb, List.getD]
      have es : (bl.map fun b => b.2.2.map Nd.kz)[k]? = some ((bl.getD k (none, 0, [])).2.2.map Nd.kz) := by simp [List.getElem?_map, List.getElem?_eq_getElem hkb, List.getD]
      rw [eb] at cb
      obtain ⟨⟨BA, bc, B⟩, eB⟩ : ∃ q, q = bl.getD k (none, 0, []) := ⟨_, rfl⟩
      rw [← eB] at cb q0 q1 q2 es
      dsimp only at cb q0 q1 q2 es
      have cbA := fun (W : World) (b : Below w.heap.size w W) => (b.cell (p := ⟨b1, o1 + k, none⟩) hb1).trans cb
      have CB := Lib.hid cbA
      have Q0 := Lib.hid q0
      have ES := Lib.hid es
      rw [eA]
      clear eb eB hcells cbA q0 es eA cb
      have RR := Lib.hid (show wr.ownsRow w.heap.size 124 2 (.slice rA r rc) r (rcells R) from by have h := HG.out.rules; rw [← ER.out] at h; exact h)
      go_upto_region 7 with (at_builtin; refine wpList_append_onto _ rfl (.tmp 16) (.tmp 24) 22 rfl w.heap.size 124 i0 _ 2 24 Tryz.underlying22 hi hz0 hz1 hz2 rfl (by decide) (.slice rA r rc) r (rcells R) rfl (own_below RR.out (B2 wr _ _)) (some ⟨wr.heap.size + 1, 0, none⟩) 1 1 [.string (nameB k), .int .i64 n] rfl rfl (by have q := new_news (wr.alloc (.cells #[.int .u8 (65 + (k : Int))] 5)) [.string (nameB k), .int .i64 n] 124; rw [World.size_alloc] at q; exact q) (fun h => nomatch h) (by simp [Value.oneCell']) (by unfold maxLen; omega) (by omega) (by have := HG.out.nodes.low.size; simp; omega) ?_; intro v1 w9 ho hg hf; obtain ⟨A1, c1, rfl, _, _⟩ := own_slice ho; have KD := Lib.hid (HG.out.rule_more (r := ⟨nameB k, n⟩) (B2 wr _ _) hg (by rw [← ER.out]; exact ho)); have X9 := Lib.hid (show Blk w9 w.heap.size #[.slice none 0 0, .slice none 0 0] 25 from (HR0.out.below' (B2 wr (.cells #[.int .u8 (65 + (k : Int))] 5) (.cells #[.string (nameB k), .int .i64 n] 124))).grown hg (fun e => own_ne (own_below RR.out (B2 wr (.cells #[.int .u8 (65 + (k : Int))] 5) (.cells #[.string (nameB k), .int .i64 n] 124))) (HR0.out.below' (B2 wr (.cells #[.int .u8 (65 + (k : Int))] 5) (.cells #[.string (nameB k), .int .i64 n] 124))) (by decide) e.symm)); have g0' := KD.out.2.1; have f0' := KD.out.2.2; clear ho hg hf)
      obtain ⟨W2, eW2⟩ : ∃ W, W = w9.setCell ⟨gb, 0, none⟩ (.slice A1 (r + 1) c1) := ⟨_, rfl⟩
      have G2 := Lib.hid (show GrS w W2 gb (R ++ [⟨nameB k, n⟩]) L (.slice A1 (r + 1) c1) (.slice nA n nc) (K + 1000000) from by rw [eW2]; exact KD.out.1)
      have X2 := Lib.hid (show Blk W2 w.heap.size #[.slice none 0 0, .slice none 0 0] 25 from by rw [eW2]; exact (heap_setCell_other w9 ⟨gb, 0, none⟩ w.heap.size _ (by have := GB.out; show w.heap.size ≠ gb; omega)).trans X9.out)
      rw [← eW2]
      have cb := CB.out W2 G2.out.nodes.low
      have h1 := G2.out.blk.cell 1
      simp only [List.getElem?_toArray, List.getElem?_cons_zero, List.getElem?_cons_succ] at h1
      have MV := Lib.hid (fun (W : World) (b : Below W2.heap.size W2 W) => moved_any BA B bc n K W (Q0.out.below (G2.out.nodes.low.trans (b.mono G2.out.nodes.low.size))) (by omega) ⟨by omega, by omega⟩ (by omega))
      clear eW2 KD g0 g1 g0' f0' KC hw1 hw2
      refine wp_mono (Q := calm _) ?_ (calm_le _)
      have enM : ∀ args w, (callFunc 137 args).run Tryz.prog w = .ok (.enter 137 args) w := fun _ _ => by kernel_rfl
      go_region_law (first | (refine step_call rfl 137 _ _ #[.slice BA B.length bc, .int .i64 n] rfl enM (by simp [Act.eval, Act.put]) ((MV.out _ (by first | exact bdrew1 (Below.refl _ _) | exact bdrew1 (bdrew1 (Below.refl _ _)) | exact Below.refl _ _)).mono ?_); rintro e w3 ⟨A', c', l', rfl, hm, hB, hrw, hkr, hnn, hb3⟩; refine ⟨_, rfl, ?_⟩; have HM := Lib.hid hm; have HBo := Lib.hid (hB.mono (K' := K + 1000000) (by omega)); have HKR := Lib.hid hkr; have HB3 := Lib.hid (show Below W2.heap.size W2 w3 from ⟨hb3.os, hb3.tape, hb3.output, hb3.size, hb3.block⟩); have NEWS := Lib.hid (own_news hrw); have ROW3 := Lib.hid (show w3.ownsRow w.heap.size 40 9 (.slice nA n nc) n (ncells L) from (by have q := own_below G2.out.nodes.row HB3.out; rw [← EN.out] at q; exact q)); have hl' : l'.length ≤ 1000 := (by rw [hm.1]; exact q1); have h1' : w3.cell? ⟨gb, 1, none⟩ = some (.slice nA n nc) := (G2.out.blk.below' HB3.out).cell 1; clear hm hB hkr hb3 hrw hnn) | (refine step_append_any rfl (.tmp 28) (.tmp 34) 23 rfl w.heap.size 40 i1 Nd.zero.val 9 96 Tryz.underlying23 ji jz0 jz1 jz2 rfl (by decide) (.slice nA n nc) n (ncells L) (by simp [Act.eval, Act.put]) ROW3.out A' l'.length c' (ncells l') (by simp [Act.eval, Act.put]) (ncells_length l') NEWS.out.1 NEWS.out.2 (ncells_one l') (by unfold maxLen; omega) (by omega) (by have := G2.out.nodes.low.size; have := HB3.out.size; omega) ?_; intro v4 w4 ho hg hf; obtain ⟨A4, c4, rfl, _, _⟩ := own_slice ho; have HO4 := Lib.hid ho; have HG4 := Lib.hid hg; have K4 := Lib.hid (G2.out.nodes_more HB3.out HKR.out HBo.out (Int.le_refl _) hg (by rw [← EN.out]; exact ho)); have X4 := Lib.hid (show Blk w4 w.heap.size #[.slice none 0 0, .slice none 0 0] 25 from (X2.out.below' HB3.out).grown hg (fun e => own_ne ROW3.out (X2.out.below' HB3.out) (by decide) e.symm)); have h4 := K4.out.2.1; have f4 := K4.out.2.2; clear ho hg hf))
      all_goals (
        simp only [calm]
        go_wp2_with fail
        go_roundw
        case rel =>
          have HMn : Moved (L.length : Nat) B l' := by have h := HM.out; rw [EN.out] at h; exact h
          refine ⟨k + 1, R ++ [⟨nameB k, n⟩], L ++ l', _, _, by omega, by go_num, K4.out.1, ?_, ?_, ?_, ?_⟩
          · have h := gram_step HSP.out ES.out HMn
            rw [← EN.out, HRL.out] at h
            exact h
          · rw [List.length_append, ← EN.out]; omega
          · rw [List.length_append, HRL.out]; rfl
          · exact (heap_setCell_other w4 ⟨gb, 1, none⟩ w.heap.size _ (by have := GB.out; show w.heap.size ≠ gb; omega)).trans X4.out
        case measure => simp [RowKit.intOf]; omega)
    · obtain rfl : k = m := by omega
      have hneg : ¬ (k : Int) < k := by omega
      go_wp2_with (refine wpList_store_whole rfl 25 (.tmp 2) (.tmp 37) rfl w.heap.size #[.slice rA r rc, .slice nA n nc] rfl rfl 25 _ HR0.out (by kernel_rfl) (by rfl) (by simp [Value.oneCell']) ?_; intro w5 hk5 hg5; have K5 := Lib.hid hk5; have G5 := Lib.hid hg5; clear hk5 hg5)
      have hG := HG.out
      have ra := own_off hG.rules HR0.out (by decide) G5.out
      have na := hG.nodes.off HR0.out ⟨by decide, by decide⟩ (Nat.le_refl _) G5.out
      rw [EN.out] at na
      rw [ER.out] at ra
      have hrl : R.length ≤ 60 := by have := HRL.out; omega
      have hnm : ∀ q ∈ R, q.name.size ≤ 9223372036854775807 := fun q hq => by
        have hq' : q ∈ (((bl.map fun b => b.2.2.map Nd.kz).take k).foldl gramN ([], [])).1 := by rw [← HSP.out]; exact hq
        have := gram_names _ ([], []) (by simp) q hq'
        omega
      have key : Stands w.heap.size w5 ⟨rA, rc, R, nA, nc, L⟩ := fun W' hz hkb => by
        have ra' := own_kept ra (fun q e => hkb q (ra.lt q e).1 (ra.lt q e).2)
        have na' := own_kept na.row (fun q e => hkb q (na.row.lt q e).1 (na.row.lt q e).2)
        refine ⟨own_rules ra', own_nodes na', fun x hx => ?_, by show R.length ≤ _; omega, by show L.length ≤ _; have := EN.out; omega, fun h => (HRA.out h).2, fun h => (HNA.out h).2, fun x hx => (na.bnd x hx).2.2, hnm⟩
        have kx := (na.kids x hx).1
        have kx' := own_kept kx (fun q e => hkb q (kx.lt q e).1 (kx.lt q e).2)
        exact ⟨own_lies1 kx', (na.kids x hx).2, by have := (na.bnd x hx).1; omega⟩
      refine bodyPost_ret (results_cell_row rfl _ _ w.heap.size 25 _ (0, 0) _ rfl K5.out Tryz.underlying25 rfl (by kernel_rfl)) rfl ?_
      refine ⟨⟨rA, rc, R, nA, nc, L⟩, by show _ = Ending.returned (.agg #[.slice rA R.length rc, .slice nA L.length nc]); rw [← ER.out, ← EN.out], key, ?_, fun x hx => (na.bnd x hx).1, ⟨own_cap na.row, fun x hx => own_cap (na.kids x hx).1⟩, na.low⟩
      · show (R, L.map Nd.kz) = _
        rw [HSP.out, EM.out]
        unfold gramL
        rw [List.take_of_length_le (by simp)]
end Go.Proofs.YtlbjmkljmhfjdaaGreat

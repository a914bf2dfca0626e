/- First: the program's answer. -/
import Derived.Test.YtjelgmdjmjnnfaaX5
import Derived.Test.YtjelgmdjmjnnfaaX7
set_option linter.unusedSimpArgs false
set_option linter.unusedVariables false
namespace Go.Proofs.Ytjelgmdjmjnnfaa
open Go Go.RowKit Go.Maps Go.Shelf
attribute [local go_sem] Oper.semAt_some
def firstVal (L : List Nat) : Value := .tuple #[.int .i64 (L.getD 0 0 : Nat), .bool (decide (0 < L.length))]
/-- What First's two results hold. -/
structure TwoR (w wr : World) (f : Nat) (x : Int) (b : Bool) : Prop where
  num : Blk wr f #[.int .i64 x] 3
  yes : Blk wr (f + 1) #[.bool b] 4
  low : Below w.heap.size w wr
theorem TwoR.below {w A A' : World} {B f : Nat} {x : Int} {b : Bool} (h : TwoR w A f x b) (hf : f + 1 < B) (hw : w.heap.size ≤ B) (hb : Below B A A') : TwoR w A' f x b :=
  ⟨(hb.block f (by omega)).trans h.num, (hb.block (f + 1) hf).trans h.yes, h.low.trans (hb.mono hw)⟩
theorem results_nb {fn : Func} {p q : Tmp} (h : fn.results = #[.cell p 3, .cell q 4]) (tmps : Array Value) (w : World) (a b : Nat) (x : Int) (y : Bool) (hp : tmps.getD p undef = .pointer (some ⟨a, 0, none⟩)) (hq : tmps.getD q undef = .pointer (some ⟨b, 0, none⟩))
    (h1 : w.cell? ⟨a, 0, none⟩ = some (.int .i64 x)) (h2 : w.cell? ⟨b, 0, none⟩ = some (.bool y)) : (results fn tmps).run Try.prog w = .ok (.tuple #[.int .i64 x, .bool y]) w := by
  have hp' : tmps[p]?.getD undef = .pointer (some ⟨a, 0, none⟩) := by simpa using hp
  have hq' : tmps[q]?.getD undef = .pointer (some ⟨b, 0, none⟩) := by simpa using hq
  simp [results, h, hp', hq', asAddr]
  go_simp
theorem TwoR.step {w wr : World} {f : Nat} {x : Int} {b : Bool} (h : TwoR w wr f x b) (hf : w.heap.size ≤ f) (y : Int) (c : Bool) : TwoR w ((wr.setCell ⟨f, 0, none⟩ (.int .i64 y)).setCell ⟨f + 1, 0, none⟩ (.bool c)) f y c where
  num := (heap_setCell_other _ ⟨f + 1, 0, none⟩ f _ (by show f ≠ f + 1; omega)).trans (heap_setCell_same wr f 0 #[.int .i64 x] 3 (.int .i64 y) h.num)
  yes := heap_setCell_same _ (f + 1) 0 #[.bool b] 4 (.bool c) ((heap_setCell_other wr ⟨f, 0, none⟩ (f + 1) _ (by show f + 1 ≠ f; omega)).trans h.yes)
  low := (h.low.setCell (p := ⟨f, 0, none⟩) hf _).setCell (p := ⟨f + 1, 0, none⟩) (by show w.heap.size ≤ f + 1; omega) _
theorem TwoR.facts {w wr : World} {f : Nat} {x : Int} {b : Bool} (h : TwoR w wr f x b) : wr.cell? ⟨f, 0, none⟩ = some (.int .i64 x) ∧ wr.frozen? ⟨f, 0, none⟩ = false ∧ (∀ v, (wr.setCell ⟨f, 0, none⟩ v).cell? ⟨f + 1, 0, none⟩ = some (.bool b)) ∧ (∀ v, (wr.setCell ⟨f, 0, none⟩ v).frozen? ⟨f + 1, 0, none⟩ = false) := by
  refine ⟨h.num.cell 0, h.num.frozen 0, fun v => ?_, fun v => ?_⟩
  · exact Blk.cell (show Blk (wr.setCell ⟨f, 0, none⟩ v) (f + 1) #[.bool b] 4 from (heap_setCell_other wr ⟨f, 0, none⟩ (f + 1) _ (by show f + 1 ≠ f; omega)).trans h.yes) 0
  · exact Blk.frozen (show Blk (wr.setCell ⟨f, 0, none⟩ v) (f + 1) #[.bool b] 4 from (heap_setCell_other wr ⟨f, 0, none⟩ (f + 1) _ (by show f + 1 ≠ f; omega)).trans h.yes) 0
theorem firstStart {w w0 : World} {RA NA : Option Addr} {r n rc nc f b : Nat} (ef : f = w.heap.size + 1) (eb : b = w.heap.size) (e : w0 = ((w.alloc (.cells #[.slice RA r rc, .slice NA n nc] 25)).alloc (.cells #[.int .i64 0] 3)).alloc (.cells #[.bool false] 4)) :
    Blk w0 b #[.slice RA r rc, .slice NA n nc] 25 ∧ TwoR w w0 f 0 false := by
  subst e ef eb
  refine ⟨((Blk.new w _ _).alloc _).alloc _, ?_, ?_, ?_⟩
  · have := (Blk.new (w.alloc (.cells #[.slice RA r rc, .slice NA n nc] 25)) #[.int .i64 0] 3).alloc (.cells #[.bool false] 4)
    rw [World.size_alloc] at this
    exact this
  · have := Blk.new ((w.alloc (.cells #[.slice RA r rc, .slice NA n nc] 25)).alloc (.cells #[.int .i64 0] 3)) #[.bool false] 4
    rw [World.size_alloc, World.size_alloc] at this
    exact this
  · exact bb (B2 _ _ _) (B1 _ _)
set_option maxRecDepth 100000 in
set_option maxHeartbeats 4000000 in
theorem wellFirst_any (g : Gr) (w : World) (hg : Gr.At w g) (hin : Gr.In g) : Calls Try.prog 16 #[g.val] w fun e w' => e = .returned (firstVal (idleRow g)) ∧ Below w.heap.size w w' := by
  cases hr : rightB g with
  | false =>
    rw [show idleRow g = [] by unfold idleRow; rw [hr]; rfl]
    have WN := Lib.hid (fun (w' : World) (b : Below w.heap.size w w') => wellOf_no g w' (hg.below b) hin hr)
    clear hg hin hr
    show Calls Try.prog 16 #[.agg #[.slice g.RA g.rules.length g.rc, .slice g.NA g.nodes.length g.nc]] w _
    refine (callsIn_wide (n := 12)).1 ?_
    refine callsIn_of_wp_marks Try.func16 rfl trivial ?_ rfl
    simp only [Try.ntmps16, List.size_toArray, List.length_cons, List.length_nil, Nat.reduceAdd, Nat.reduceSub, Array.replicate_succ, Array.replicate_zero, List.push_toArray, List.append_toArray, List.nil_append, List.cons_append]
    refine wpIn_wide.2 ?_
    go_upto_region 1 with fail
    obtain ⟨f, ef⟩ : ∃ u, u = w.heap.size + 1 := ⟨_, rfl⟩
    obtain ⟨b, eb⟩ : ∃ u, u = w.heap.size := ⟨_, rfl⟩
    obtain ⟨w0, ew0⟩ : ∃ u, u = ((w.alloc (.cells #[.slice g.RA g.rules.length g.rc, .slice g.NA g.nodes.length g.nc] 25)).alloc (.cells #[.int .i64 0] 3)).alloc (.cells #[.bool false] 4) := ⟨_, rfl⟩
    have K0 := Lib.hid (firstStart ef eb ew0)
    rw [← ew0, ← ef, ← eb]
    have k0 := K0.out.1.cell 0
    have k1 := K0.out.1.cell 1
    simp only [List.getElem?_toArray, List.getElem?_cons_zero, List.getElem?_cons_succ] at k0 k1
    have HF := Lib.hid (show w.heap.size ≤ f by omega)
    have HFZ := Lib.hid (show f + 1 < w0.heap.size by have := K0.out.2.yes.lt; omega)
    clear ew0 ef eb
    go_wp2_with (go_at_call 27; (with_reducible refine (WN.out w0 K0.out.2.low).mono ?_); rintro e w1 ⟨rfl, hb⟩; have T1 := Lib.hid (K0.out.2.below HFZ.out K0.out.2.low.size hb); obtain ⟨c1, f1, c2, f2⟩ := T1.out.facts; clear hb k0 k1)
    have T2 := T1.out.step HF.out 0 false
    exact ⟨_, results_nb rfl _ _ f (f + 1) 0 false rfl rfl (T2.num.cell 0) (T2.yes.cell 0), rfl, T2.low⟩
  | true =>
    rw [show idleRow g = idles g by unfold idleRow; rw [hr]; rfl]
    have hR := rightB_true.1 hr
    have WY := Lib.hid (fun (w' : World) (b : Below w.heap.size w w') => wellOf_any g w' (hg.below b) hin hR)
    have IA := Lib.hid idle_any
    have SQ := Lib.hid (fun (w1 : World) (p nb : Nat) (ml : List Bool) (hW : Wel w1 p g nb ml) => idle_seqN 11 (by decide) w1.heap.size p nb g ml hR w1 (w1.alloc (.cells #[.pointer (some ⟨p, 0, none⟩)] 56)) (fun k => k < w1.heap.size + 1) hW (by simp) (fun k hk => Below.heap_alloc _ _ k hk) (Blk.new _ _ _) (fun k hk => by omega) (by omega))
    have LE := Lib.hid (idles_len hR)
    clear hg hin hR hr
    show Calls Try.prog 16 #[.agg #[.slice g.RA g.rules.length g.rc, .slice g.NA g.nodes.length g.nc]] w _
    refine (callsIn_wide (n := 12)).1 ?_
    refine callsIn_of_wp_marks Try.func16 rfl trivial ?_ rfl
    simp only [Try.ntmps16, List.size_toArray, List.length_cons, List.length_nil, Nat.reduceAdd, Nat.reduceSub, Array.replicate_succ, Array.replicate_zero, List.push_toArray, List.append_toArray, List.nil_append, List.cons_append]
    refine wpIn_wide.2 ?_
    go_upto_region 1 with fail
    obtain ⟨f, ef⟩ : ∃ u, u = w.heap.size + 1 := ⟨_, rfl⟩
    obtain ⟨b, eb⟩ : ∃ u, u = w.heap.size := ⟨_, rfl⟩
    obtain ⟨w0, ew0⟩ : ∃ u, u = ((w.alloc (.cells #[.slice g.RA g.rules.length g.rc, .slice g.NA g.nodes.length g.nc] 25)).alloc (.cells #[.int .i64 0] 3)).alloc (.cells #[.bool false] 4) := ⟨_, rfl⟩
    have K0 := Lib.hid (firstStart ef eb ew0)
    rw [← ew0, ← ef, ← eb]
    have k0 := K0.out.1.cell 0
    have k1 := K0.out.1.cell 1
    simp only [List.getElem?_toArray, List.getElem?_cons_zero, List.getElem?_cons_succ] at k0 k1
    have HF := Lib.hid (show w.heap.size ≤ f by omega)
    have HFZ := Lib.hid (show f + 1 < w0.heap.size by have := K0.out.2.yes.lt; omega)
    clear ew0 ef eb
    go_wp2_with (first | (go_at_call 27; (with_reducible refine (WY.out w0 K0.out.2.low).mono ?_); rintro e w1 ⟨p, mb, ml, rfl, hW, hb⟩; have T1 := Lib.hid (K0.out.2.below HFZ.out K0.out.2.low.size hb); have HW := Lib.hid hW; have HZ1 := Lib.hid (show f + 1 < w1.heap.size by have := HFZ.out; have := hb.size; omega); skip; clear hb hW k0 k1) | (go_at_call 29; (with_reducible refine (IA.out _ _).mono ?_); rintro e w2 ⟨rfl, rfl⟩))
    obtain ⟨w2, ew2⟩ : ∃ u, u = w1.alloc (.cells #[.pointer (some ⟨p, 0, none⟩)] 56) := ⟨_, rfl⟩
    have S2 := Lib.hid (SQ.out w1 p mb ml HW.out)
    have T2 := Lib.hid (show TwoR w w2 f 0 false from by rw [ew2]; exact T1.out.below HZ1.out T1.out.low.size (B1 _ _))
    have hz2 : w2.heap.size = w1.heap.size + 1 := by rw [ew2]; simp
    rw [← ew2] at S2
    rw [← ew2]
    obtain ⟨cb, ecb⟩ : ∃ u, u = w1.heap.size := ⟨_, rfl⟩
    rw [← ecb] at S2 hz2
    rw [← ecb]
    have NZ := Lib.hid (show f + 1 < w2.heap.size ∧ w.heap.size ≤ w2.heap.size ∧ w2.heap.size = cb + 1 by have := HZ1.out; have := T2.out.low.size; omega)
    clear ew2 ecb hz2 T1 HW HZ1 SQ WY IA K0 HFZ
    refine (wpIn_wide (n := 12)).1 ?_
    refine wpIn_rangeFunc_n (n := 12) (by omega) (gf := 52) (lb := #[.pointer (some ⟨cb, 0, none⟩)]) rfl (enters_of Try.func52 (by kernel_rfl) rfl)
      S2.out (Below.refl _ _) (fun _ => rfl) (fun k h => by have := NZ.out; omega)
      (fun k W => k = 0 ∧ TwoR w W f 0 false) (fun cd _ W => cd = .ret ∧ 0 < (idles g).length ∧ TwoR w W f ((idles g).getD 0 0 : Nat) true)
      ?low ?lowx ⟨rfl, T2.out⟩
      (fun k => { tmps := #[.agg #[.slice g.RA g.rules.length g.rc, .slice g.NA g.nodes.length g.nc], .pointer (some ⟨b, 0, none⟩), .pointer (some ⟨f, 0, none⟩), .pointer (some ⟨f + 1, 0, none⟩), .pointer (some ⟨p, 0, none⟩), .bool true, .int .i64 ((nums (idles g)).getD k 0), .tuple #[.pointer (some ⟨p, 0, none⟩), .bool true], .agg #[.slice g.RA g.rules.length g.rc, .slice g.NA g.nodes.length g.nc], .tuple #[.pointer (some ⟨p, 0, none⟩), .bool true], .pointer (some ⟨p, 0, none⟩), .bool true, .bool true, .bool false, .pointer (some ⟨p, 0, none⟩), .func (.func 52) #[] #[.pointer (some ⟨cb, 0, none⟩)], .int .i64 ((nums (idles g)).getD k 0), undef], defers := [] }) ?assign ?body ?done ?stop
    case low =>
      rintro s A A' ⟨h1, h2⟩ hb
      exact ⟨h1, h2.below NZ.out.1 NZ.out.2.1 hb⟩
    case lowx =>
      rintro c s A A' ⟨h1, h2, h3⟩ hb
      exact ⟨h1, h2, h3.below NZ.out.1 NZ.out.2.1 hb⟩
    case assign =>
      intro l2 k Wa K hK2
      unfold encI
      gi_wp2
      exact hK2
    case body =>
      rintro l2 k A ⟨rfl, h⟩ hz hk
      have HK := Lib.hid hk
      have HT := Lib.hid (h.step HF.out ((nums (idles g)).getD 0 0) true)
      have LF := Lib.hid (show Left (fun _ => False) w2.heap.size A ((A.setCell ⟨f, 0, none⟩ (.int .i64 ((nums (idles g)).getD 0 0))).setCell ⟨f + 1, 0, none⟩ (.bool true)) from
        (Left.setCell A f 0 _ (fun h => h) (by have := NZ.out; omega)).trans (Left.setCell _ (f + 1) 0 _ (fun h => h) NZ.out.1))
      obtain ⟨c1, f1, c2, f2⟩ := h.facts
      have NA := Lib.hid (nums_at (l := idles g) (i := 0))
      generalize (nums (idles g)).getD 0 0 = x at HT LF NA ⊢
      clear h hz hk
      gi_wp2_with fail
      exact ⟨LF.out, by trivial, HK.out, by rw [← NA.out]; exact HT.out⟩
    case done =>
      rintro D W hD ⟨hN, h⟩ hK
      have HT := Lib.hid (h.step HF.out 0 false)
      have HD := Lib.hid (show ((W.setCell ⟨f, 0, none⟩ (.int .i64 0)).setCell ⟨f + 1, 0, none⟩ (.bool false)).heap[D]? = some (.deferred (some [])) from
        (heap_setCell_other _ ⟨f + 1, 0, none⟩ D _ (by show D ≠ f + 1; have := NZ.out; omega)).trans ((heap_setCell_other W ⟨f, 0, none⟩ D _ (by show D ≠ f; have := NZ.out; omega)).trans hK))
      obtain ⟨c1, f1, c2, f2⟩ := h.facts
      have HN := Lib.hid hN
      have HDD := Lib.hid (show D ≠ f ∧ D ≠ f + 1 ∧ w.heap.size ≤ D by have := NZ.out; omega)
      clear h hK hD hN
      go_wp2_with fail
      have q := HT.out
      refine ⟨by simp, .inl ⟨_, _, rfl, run_takeDeferred HD.out, ?_⟩⟩
      have n1 := HDD.out
      obtain ⟨W2, eW2⟩ : ∃ u, u = (W.setCell ⟨f, 0, none⟩ (.int .i64 0)).setCell ⟨f + 1, 0, none⟩ (.bool false) := ⟨_, rfl⟩
      rw [← eW2] at q ⊢
      have keep : ∀ k, k ≠ D → (W2.putObj D (.deferred none)).heap[k]? = W2.heap[k]? := fun k hk => World.putObj_heap_other hk
      have z2 : Blk (W2.putObj D (.deferred none)) f #[.int .i64 0] 3 := (keep f (fun e => n1.1 e.symm)).trans q.num
      have z3 : Blk (W2.putObj D (.deferred none)) (f + 1) #[.bool false] 4 := (keep (f + 1) (fun e => n1.2.1 e.symm)).trans q.yes
      refine ⟨_, results_nb rfl _ _ f (f + 1) 0 false rfl rfl (z2.cell 0) (z3.cell 0), ?_, q.low.trans (below_putObj _ D _ _ n1.2.2)⟩
      rw [List.length_eq_zero_iff.1 HN.out]
      rfl
    case stop =>
      rintro D cd k W hD hk ⟨rfl, hN, h⟩ hK
      have HT := Lib.hid h
      have HD := Lib.hid hK
      have HN := Lib.hid hN
      have HDD := Lib.hid (show D ≠ f ∧ D ≠ f + 1 ∧ w.heap.size ≤ D by have := NZ.out; omega)
      clear h hK hD hN hk
      gi_wp2
      have q := HT.out
      have n1 := HDD.out
      refine ⟨by simp, .inl ⟨_, _, rfl, run_takeDeferred HD.out, ?_⟩⟩
      have keep : ∀ k, k ≠ D → (W.putObj D (.deferred none)).heap[k]? = W.heap[k]? := fun k hk => World.putObj_heap_other hk
      have z2 : Blk (W.putObj D (.deferred none)) f #[.int .i64 ((idles g).getD 0 0 : Nat)] 3 := (keep f (fun e => n1.1 e.symm)).trans q.num
      have z3 : Blk (W.putObj D (.deferred none)) (f + 1) #[.bool true] 4 := (keep (f + 1) (fun e => n1.2.1 e.symm)).trans q.yes
      refine ⟨_, results_nb rfl _ _ f (f + 1) _ true rfl rfl (z2.cell 0) (z3.cell 0), ?_, q.low.trans (below_putObj _ D _ _ n1.2.2)⟩
      unfold firstVal
      rw [decide_eq_true HN.out]
end Go.Proofs.Ytjelgmdjmjnnfaa
namespace Go.Proofs.Ytjelgmdjmjnnfaa
open Go Go.RowKit Go.Maps Go.Shelf
attribute [local go_sem] Oper.semAt_some
noncomputable def wellB (g : Gr) : Bool := rightB g && decide ((idleRow g).length = 0)
set_option maxRecDepth 100000 in
set_option maxHeartbeats 2000000 in
theorem wellWell_any (g : Gr) (w : World) (hg : Gr.At w g) (hin : Gr.In g) : Calls Try.prog 11 #[g.val] w fun e w' => e = .returned (.bool (wellB g)) ∧ Below w.heap.size w w' := by
  have FI := Lib.hid (fun (w' : World) (b : Below w.heap.size w w') => wellFirst_any g w' (hg.below b) hin)
  have RA := Lib.hid (fun (w' : World) (b : Below w.heap.size w w') => right_all g w' (hg.below b) hin)
  have EV := Lib.hid (show wellB g = (rightB g && decide ((idleRow g).length = 0)) from rfl)
  generalize wellB g = v at EV ⊢
  unfold firstVal at FI
  generalize idleRow g = L at FI EV
  generalize rightB g = r at RA EV
  clear hg hin
  show Calls Try.prog 11 #[.agg #[.slice g.RA g.rules.length g.rc, .slice g.NA g.nodes.length g.nc]] w _
  obtain ⟨b, eb⟩ : ∃ b, b = decide (0 < L.length) := ⟨_, rfl⟩
  rw [← eb] at FI
  have hv : v = (r && !b) := by rw [EV.out, eb]; congr 1; cases L <;> simp
  have HV := Lib.hid hv
  generalize ((L.getD 0 0 : Nat) : Int) = x at FI
  clear EV eb hv
  go_enter Try.func11, Try.ntmps11
  cases r <;> cases b <;> (
    go_wp2_with (first | (go_at_call 16; (with_reducible refine (FI.out _ (B1 _ _)).mono ?_); rintro e w1 ⟨rfl, hb⟩; have H1 := Lib.hid (bb (B1 w _) hb); have K1 := Lib.hid ((Blk.new w _ _).below' hb); have a0 := K1.out.cell 0; have a1 := K1.out.cell 1; simp only [List.getElem?_toArray, List.getElem?_cons_zero, List.getElem?_cons_succ] at a0 a1; clear hb) | (go_at_call 9; (with_reducible refine (RA.out _ H1.out).mono ?_); rintro e w2 ⟨rfl, hb⟩; have H2 := Lib.hid (bb H1.out hb); clear hb))
    go_ret
    exact ⟨ret_bool (by rw [HV.out]; rfl), H2.out⟩)
theorem opts_mem {l : List Nd} {L : List Nat} {x : Nd} (hx : x ∈ opts l L) : ∃ z ∈ l, x = z ∨ x = z.opt := by
  obtain ⟨i, hi, rfl⟩ := List.mem_iff_getElem.1 hx
  have hi2 : i < l.length := by rw [opts_len] at hi; exact hi
  have := opts_at L l i hi2
  rw [List.getD_eq_getElem?_getD, List.getElem?_eq_getElem hi, Option.getD_some] at this
  refine ⟨l.getD i Nd.zero, by rw [List.getD_eq_getElem?_getD, List.getElem?_eq_getElem hi2]; exact List.getElem_mem _, ?_⟩
  rw [this]
  split
  · exact .inr rfl
  · exact .inl rfl
theorem Fresh.low {W W' w5 : World} {B : Nat} {h : Gr} {L : List Nat} (f : Fresh W B (h.opts L)) (f0 : Fresh w5 B h) (hb : Below w5.heap.size W W') : Fresh W' B (h.opts L) := by
  refine ⟨own_kept f.rules (fun k hk => hb.block k (f0.rules.lt k hk).2), own_kept f.nodes (fun k hk => hb.block k (f0.nodes.lt k ?_).2), fun x hx => ?_, f.rn, f.nn⟩
  · rw [← show (h.opts L).nodes.length = h.nodes.length from opts_len L h.nodes]
    exact hk
  · have q := f.kids x hx
    obtain ⟨z, hz, e⟩ := opts_mem hx
    have q0 := f0.kids z hz
    have e2 : (Value.slice z.A z.kids.length z.cap) = .slice x.A x.kids.length x.cap := by rcases e with rfl | rfl <;> rfl
    have e3 : z.kids = x.kids := by rcases e with rfl | rfl <;> rfl
    rw [e2, e3] at q0
    exact ⟨own_kept q.1 (fun k hk => hb.block k (q0.1.lt k hk).2), q.2⟩
theorem Fresh.grownBlk {W W' w5 : World} {B b : Nat} {h : Gr} {L : List Nat} (f : Fresh W B (h.opts L)) (f0 : Fresh w5 B h) (hg : W.grownBy W' (some b)) (hb : b < B) : Fresh W' B (h.opts L) :=
  ⟨own_blk f.rules hb hg, own_blk f.nodes hb hg, fun x hx => ⟨own_blk (f.kids x hx).1 hb hg, (f.kids x hx).2⟩, f.rn, f.nn⟩
theorem Fresh.lower {W : World} {B B' : Nat} {h : Gr} (f : Fresh W B h) (hb : B' ≤ B) : Fresh W B' h :=
  ⟨own_lower f.rules hb, own_lower f.nodes hb, fun x hx => ⟨own_lower (f.kids x hx).1 hb, (f.kids x hx).2⟩, f.rn, f.nn⟩
theorem results_gm {fn : Func} {p q : Tmp} (h : fn.results = #[.cell p 25, .tmp q]) (tmps : Array Value) (w : World) (b : Nat) (u v : Value) (y : Value) (hp : tmps.getD p undef = .pointer (some ⟨b, 0, none⟩)) (hq : tmps.getD q undef = y)
    (hb : Blk w b #[u, v] 25) : (results fn tmps).run Try.prog w = .ok (.tuple #[.agg #[u, v], y]) w := by
  have hp' : tmps[p]?.getD undef = .pointer (some ⟨b, 0, none⟩) := by simpa using hp
  have hq' : tmps[q]?.getD undef = y := by simpa using hq
  have c0 : w.cell? ⟨b, 0, none⟩ = some u := hb.cell 0
  have c1 : w.cell? ⟨b, 1, none⟩ = some v := hb.cell 1
  simp [results, h, hp', hq', asAddr, c0, c1, go_sem]
/-- How mending ends. -/
def MendP (w : World) (g : Gr) (e : Ending) (w' : World) : Prop :=
  (rightB g = true → ∃ h, e = .returned (.tuple #[(h.opts (idles g)).val, .bool true]) ∧ GTwin g h ∧ Fresh w' w.heap.size (h.opts (idles g))) ∧
  (rightB g = false → e = .returned (.tuple #[.agg #[.slice none 0 0, .slice none 0 0], .bool false])) ∧ Below w.heap.size w w'
theorem mendStart {w w0 : World} {RA NA : Option Addr} {r n rc nc b : Nat} (eb : b = w.heap.size) (e : w0 = (w.alloc (.cells #[.slice RA r rc, .slice NA n nc] 25)).alloc (.cells #[.slice none 0 0, .slice none 0 0] 25)) :
    Blk w0 b #[.slice RA r rc, .slice NA n nc] 25 ∧ Blk w0 (b + 1) #[.slice none 0 0, .slice none 0 0] 25 ∧ Below w.heap.size w w0 := by
  subst e eb
  refine ⟨(Blk.new w _ _).alloc _, ?_, B2 _ _ _⟩
  have := Blk.new (w.alloc (.cells #[.slice RA r rc, .slice NA n nc] 25)) #[.slice none 0 0, .slice none 0 0] 25
  rw [World.size_alloc] at this
  exact this
set_option maxRecDepth 100000 in
set_option maxHeartbeats 4000000 in
theorem wellMend_any (g : Gr) (w : World) (hg : Gr.At w g) (hin : Gr.In g) : Calls Try.prog 8 #[g.val] w (MendP w g) := by
  cases hr : rightB g with
  | false =>
    have WN := Lib.hid (fun (w' : World) (b : Below w.heap.size w w') => wellOf_no g w' (hg.below b) hin hr)
    have HR := Lib.hid hr
    clear hg hin hr
    show Calls Try.prog 8 #[.agg #[.slice g.RA g.rules.length g.rc, .slice g.NA g.nodes.length g.nc]] w _
    refine (callsIn_wide (n := 12)).1 ?_
    refine callsIn_of_wp_marks Try.func8 rfl trivial ?_ rfl
    simp only [Try.ntmps8, List.size_toArray, List.length_cons, List.length_nil, Nat.reduceAdd, Nat.reduceSub, Array.replicate_succ, Array.replicate_zero, List.push_toArray, List.append_toArray, List.nil_append, List.cons_append]
    refine wpIn_wide.2 ?_
    go_upto_region 1 with fail
    obtain ⟨b, eb⟩ : ∃ u, u = w.heap.size := ⟨_, rfl⟩
    obtain ⟨w0, ew0⟩ : ∃ u, u = (w.alloc (.cells #[.slice g.RA g.rules.length g.rc, .slice g.NA g.nodes.length g.nc] 25)).alloc (.cells #[.slice none 0 0, .slice none 0 0] 25) := ⟨_, rfl⟩
    have K0 := Lib.hid (mendStart eb ew0)
    rw [← ew0, ← eb]
    have k0 := K0.out.1.cell 0
    have k1 := K0.out.1.cell 1
    simp only [List.getElem?_toArray, List.getElem?_cons_zero, List.getElem?_cons_succ] at k0 k1
    have HB := Lib.hid (show w.heap.size ≤ b by omega)
    clear ew0 eb
    go_wp2_with (first | (go_at_call 27; (with_reducible refine (WN.out w0 K0.out.2.2).mono ?_); rintro e w1 ⟨rfl, hb⟩; have H1 := Lib.hid (bb K0.out.2.2 hb); have KM := Lib.hid (K0.out.2.1.below' hb); clear hb k0 k1) | (refine wpList_store_whole rfl 25 (.tmp 2) (.tmp 15) rfl (b + 1) #[.slice none 0 0, .slice none 0 0] rfl rfl 25 _ KM.out (by kernel_rfl) (by rfl) (by simp [Value.oneCell']) ?_; intro w2 hk hgr; have K2 := Lib.hid hk; have H2 := Lib.hid (grown_below H1.out H1.out.size hgr (fun k e => by cases e; have := HB.out; omega)); clear hk hgr))
    exact ⟨_, results_gm rfl _ _ (b + 1) _ _ (.bool false) rfl rfl K2.out, (fun h => by rw [HR.out] at h; cases h), (fun _ => rfl), H2.out⟩
  | true =>
    have hR := rightB_true.1 hr
    have hN0 : 0 < g.nodes.length := by have := hR.body 0 (by have := hR.rules; omega); omega
    have WY := Lib.hid (fun (w' : World) (b : Below w.heap.size w w') => wellOf_any g w' (hg.below b) hin hR)
    have GC := Lib.hid (fun (w' : World) (b : Below w.heap.size w w') => gcopy_any g w' (hg.below b) (right_small hR))
    have IA := Lib.hid idle_any
    have SQ := Lib.hid (fun (w1 w5 : World) (cb p nb : Nat) (ml : List Bool) (G : Nat → Prop) (hW : Wel w1 p g nb ml) h1 h2 h3 h4 h5 => idle_seqN 11 (by decide) cb p nb g ml hR w1 w5 G hW h1 h2 h3 h4 h5)
    have HR := Lib.hid hr
    have LI := Lib.hid (fun (k : Nat) (hk : k < (idles g).length) => show (idles g).getD k 0 < g.nodes.length ∧ (idles g).take (k + 1) = (idles g).take k ++ [(idles g).getD k 0] from by
      have e : (idles g).getD k 0 = (idles g)[k] := by rw [List.getD_eq_getElem?_getD, List.getElem?_eq_getElem hk]; rfl
      refine ⟨?_, ?_⟩
      · rw [e]
        exact (rowOf_mem.1 (List.getElem_mem hk)).1
      · rw [List.take_add_one, e, List.getElem?_eq_getElem hk]; rfl)
    have hlen := hR.nodes
    clear hg hin hR hr
    show Calls Try.prog 8 #[.agg #[.slice g.RA g.rules.length g.rc, .slice g.NA g.nodes.length g.nc]] w _
    refine (callsIn_wide (n := 12)).1 ?_
    refine callsIn_of_wp_marks Try.func8 rfl trivial ?_ rfl
    simp only [Try.ntmps8, List.size_toArray, List.length_cons, List.length_nil, Nat.reduceAdd, Nat.reduceSub, Array.replicate_succ, Array.replicate_zero, List.push_toArray, List.append_toArray, List.nil_append, List.cons_append]
    refine wpIn_wide.2 ?_
    go_upto_region 1 with fail
    obtain ⟨b, eb⟩ : ∃ u, u = w.heap.size := ⟨_, rfl⟩
    obtain ⟨w0, ew0⟩ : ∃ u, u = (w.alloc (.cells #[.slice g.RA g.rules.length g.rc, .slice g.NA g.nodes.length g.nc] 25)).alloc (.cells #[.slice none 0 0, .slice none 0 0] 25) := ⟨_, rfl⟩
    have K0 := Lib.hid (mendStart eb ew0)
    rw [← ew0, ← eb]
    have k0 := K0.out.1.cell 0
    have k1 := K0.out.1.cell 1
    simp only [List.getElem?_toArray, List.getElem?_cons_zero, List.getElem?_cons_succ] at k0 k1
    have HB := Lib.hid (show w.heap.size ≤ b by omega)
    have HB2 := Lib.hid (show b + 1 < w0.heap.size by have := K0.out.2.1.lt; omega)
    clear ew0 eb
    go_wp2_with (first | (go_at_call 27; (with_reducible refine (WY.out w0 K0.out.2.2).mono ?_); rintro e w1 ⟨p, mb, ml, rfl, hW, hb⟩; have H1 := Lib.hid (bb K0.out.2.2 hb); have KB1 := Lib.hid (K0.out.1.below' hb); have KM1 := Lib.hid (K0.out.2.1.below' hb); have HW := Lib.hid hW; have HZ1 := Lib.hid (show b + 1 < w1.heap.size by have := HB2.out; have := hb.size; omega); clear k0 k1; have k0 := KB1.out.cell 0; have k1 := KB1.out.cell 1; simp only [List.getElem?_toArray, List.getElem?_cons_zero, List.getElem?_cons_succ] at k0 k1; clear hb hW) | (go_at_call 28; (with_reducible refine (GC.out w1 H1.out).mono ?_); rintro e w2 ⟨⟨h, rfl, ht, hf⟩, hb⟩; have HT := Lib.hid ht; have HF := Lib.hid hf; have HB12 := Lib.hid hb; have KM2 := Lib.hid (KM1.out.below' hb); clear ht hf hb k0 k1) | (refine wpList_store_whole rfl 25 (.tmp 6) (.tmp 17) rfl w2.heap.size #[.slice h.RA h.rules.length h.rc, .slice h.NA h.nodes.length h.nc] rfl rfl 25 _ (Blk.new _ _ _) (by kernel_rfl) (by rfl) (by simp [Value.oneCell']) ?_; intro w4 hk hgr; have KX := Lib.hid hk; have H24 := Lib.hid (show Below w2.heap.size w2 w4 from grown_below (B1 w2 _) (by simp) hgr (fun k e => by cases e; exact Nat.le_refl _)); clear hk hgr) | (go_at_call 29; (with_reducible refine (IA.out _ _).mono ?_); rintro e w5 ⟨rfl, rfl⟩))
    obtain ⟨w5, ew5⟩ : ∃ u, u = w4.alloc (.cells #[.pointer (some ⟨p, 0, none⟩)] 56) := ⟨_, rfl⟩
    obtain ⟨cb, ecb⟩ : ∃ u, u = w4.heap.size := ⟨_, rfl⟩
    obtain ⟨xb, exb⟩ : ∃ u, u = w2.heap.size := ⟨_, rfl⟩
    have hx1 := KX.out
    rw [← exb] at hx1
    have KX5 := Lib.hid (show Blk w5 xb #[.slice h.RA h.rules.length h.rc, .slice h.NA h.nodes.length h.nc] 25 from by rw [ew5]; exact hx1.alloc _)
    have B45 : Below w4.heap.size w4 w5 := by rw [ew5]; exact B1 _ _
    have B25 : Below w2.heap.size w2 w5 := H24.out.trans (B45.mono H24.out.size)
    have B15 : Below w1.heap.size w1 w5 := HB12.out.trans (B25.mono HB12.out.size)
    have hz5 : w5.heap.size = cb + 1 := by rw [ew5, ecb]; simp
    have KC5 := Lib.hid (show Blk w5 cb #[.pointer (some ⟨p, 0, none⟩)] 56 from by rw [ew5, ecb]; exact Blk.new _ _ _)
    have KM5 := Lib.hid (show Blk w5 (b + 1) #[.slice none 0 0, .slice none 0 0] 25 from KM2.out.below' B25)
    have F5 := Lib.hid (show Fresh w5 w1.heap.size h from HF.out.below B25)
    have H5 := Lib.hid (show Below w.heap.size w w5 from bb H1.out B15)
    obtain ⟨gb, egb, hgb, hgb2⟩ := HF.out.shape (by rw [HT.out.len]; exact hN0)
    have NZ := Lib.hid (show b + 1 < w1.heap.size ∧ w.heap.size ≤ b ∧ w1.heap.size ≤ gb ∧ gb < xb ∧ xb < cb ∧ w5.heap.size = cb + 1 ∧ w1.heap.size ≤ w2.heap.size ∧ w.heap.size ≤ w1.heap.size by
      have := HZ1.out; have := HB.out; have := hx1.lt; have := HB12.out.size; have := H1.out.size; omega)
    have S5 := Lib.hid (SQ.out w1 w5 cb p mb ml (fun k => k < w5.heap.size ∧ k ≠ gb) HW.out B15.size (fun k hk => B15.block k hk) KC5.out (fun k hk => by have := NZ.out; omega) (by have := NZ.out; omega))
    rw [← ew5, ← ecb, ← exb]
    have EGB := Lib.hid egb
    have HN := Lib.hid (And.intro hN0 hlen)
    clear ew5 ecb exb hx1 B45 B25 B15 hz5 hgb hgb2 egb hN0 hlen WY GC IA SQ K0 KB1 KM1 HB2 HZ1 HF HB12 KM2 KX H24
    refine (wpIn_wide (n := 12)).1 ?_
    refine wpIn_rangeFunc_n (n := 12) (by omega) (gf := 52) (lb := #[.pointer (some ⟨cb, 0, none⟩)]) rfl (enters_of Try.func52 (by kernel_rfl) rfl)
      S5.out (Below.refl _ _) (fun _ => rfl) (fun k h => h.1)
      (fun k W => k ≤ (idles g).length ∧ Fresh W w1.heap.size (h.opts ((idles g).take k)) ∧ Blk W xb #[.slice h.RA h.rules.length h.rc, .slice h.NA h.nodes.length h.nc] 25 ∧ Blk W (b + 1) #[.slice none 0 0, .slice none 0 0] 25 ∧ Below w.heap.size w W) (fun _ _ _ => False)
      ?low (fun _ _ _ _ h _ => h) ⟨Nat.zero_le _, F5.out, KX5.out, KM5.out, H5.out⟩
      (fun k => { tmps := #[.agg #[.slice g.RA g.rules.length g.rc, .slice g.NA g.nodes.length g.nc], .pointer (some ⟨b, 0, none⟩), .pointer (some ⟨b + 1, 0, none⟩), .bool false, .pointer (some ⟨p, 0, none⟩), .bool true, .pointer (some ⟨xb, 0, none⟩), .int .i64 ((nums (idles g)).getD k 0), .tuple #[.pointer (some ⟨p, 0, none⟩), .bool true], .agg #[.slice g.RA g.rules.length g.rc, .slice g.NA g.nodes.length g.nc], .tuple #[.pointer (some ⟨p, 0, none⟩), .bool true], .pointer (some ⟨p, 0, none⟩), .bool true, .bool true, .bool false, undef, .agg #[.slice g.RA g.rules.length g.rc, .slice g.NA g.nodes.length g.nc], .agg #[.slice h.RA h.rules.length h.rc, .slice h.NA h.nodes.length h.nc], .pointer (some ⟨p, 0, none⟩), .func (.func 52) #[] #[.pointer (some ⟨cb, 0, none⟩)], .int .i64 ((nums (idles g)).getD k 0), undef, undef, undef, undef, undef, undef], defers := [] }) ?assign ?body ?done (fun _ _ _ _ _ _ h _ => h.elim)
    case low =>
      rintro s A A' ⟨h1, h2, h3, h4, h5⟩ hb
      have := NZ.out
      exact ⟨h1, h2.low F5.out hb, (hb.block xb (by omega)).trans h3, (hb.block (b + 1) (by omega)).trans h4, h5.trans (hb.mono (by omega))⟩
    case assign =>
      intro l2 k Wa K hK2
      unfold encI
      gi_wp2
      exact hK2
    case body =>
      rintro l2 k A ⟨hk1, h2, h3, h4, h5⟩ hz hk
      obtain ⟨q1, q2⟩ := LI.out k hk
      rw [nums_at]
      have c1 : A.cell? ⟨xb, 1, none⟩ = some (.slice h.NA h.nodes.length h.nc) := h3.cell 1
      rw [EGB.out] at c1
      obtain ⟨n, en⟩ : ∃ n, n = (idles g).getD k 0 := ⟨_, rfl⟩
      rw [← en] at q1 q2 ⊢
      have hnl : n < h.nodes.length := by rw [HT.out.len]; exact q1
      have hnl2 : n < (h.opts ((idles g).take k)).nodes.length := by rw [show (h.opts ((idles g).take k)).nodes.length = h.nodes.length from opts_len _ _]; exact hnl
      have hni : (n : Int) < h.nodes.length := by omega
      obtain ⟨t1, t2, t3⟩ := h2.kind (g := gb) EGB.out hnl2
      have T1 := Lib.hid (show Fresh (A.setCell ⟨gb, n * 9, none⟩ (.int .i64 10)) w1.heap.size (h.opts ((idles g).take (k + 1))) from by
        rw [q2]
        show Fresh _ _ { h with nodes := opts h.nodes _ }
        rw [opts_snoc]
        exact t1)
      have TH : A.there gb (n * 9) 9 := by
        have := h2.nodes
        rw [show (h.opts ((idles g).take k)).NA = some ⟨gb, 0, none⟩ from EGB.out] at this
        exact own_there this 9 (by omega)
      obtain ⟨u, hu⟩ := Option.isSome_iff_exists.1 (TH 0 (by omega)).1
      have f0 := (TH 0 (by omega)).2
      rw [Nat.add_zero] at hu f0
      have HX := Lib.hid (show Blk (A.setCell ⟨gb, n * 9, none⟩ (.int .i64 10)) xb #[.slice h.RA h.rules.length h.rc, .slice h.NA h.nodes.length h.nc] 25 from (heap_setCell_other A ⟨gb, n * 9, none⟩ xb _ (by show xb ≠ gb; have := NZ.out; omega)).trans h3)
      have HM := Lib.hid (show Blk (A.setCell ⟨gb, n * 9, none⟩ (.int .i64 10)) (b + 1) #[.slice none 0 0, .slice none 0 0] 25 from (heap_setCell_other A ⟨gb, n * 9, none⟩ (b + 1) _ (by show b + 1 ≠ gb; have := NZ.out; omega)).trans h4)
      have HL := Lib.hid (show Below w.heap.size w (A.setCell ⟨gb, n * 9, none⟩ (.int .i64 10)) from h5.setCell (p := ⟨gb, n * 9, none⟩) (by show w.heap.size ≤ gb; have := NZ.out; omega) _)
      have LF := Lib.hid (show Left (fun k => k < w5.heap.size ∧ k ≠ gb) w5.heap.size A (A.setCell ⟨gb, n * 9, none⟩ (.int .i64 10)) from Left.setCell A gb (n * 9) _ (fun h => h.2 rfl) (by have := NZ.out; omega))
      have HKK := Lib.hid (show k + 1 ≤ (idles g).length from hk)
      clear hk1 h2 h3 h4 h5 hz hk q1 q2 en hnl hnl2 t1 t2 t3 TH
      gi_wp2_with fail
      exact ⟨LF.out, HKK.out, T1.out, HX.out, HM.out, HL.out⟩
    case done =>
      rintro D W hD ⟨_, h2, h3, h4, h5⟩ hK
      rw [List.take_length] at h2
      have HF2 := Lib.hid h2
      have HM4 := Lib.hid h4
      have HL5 := Lib.hid h5
      have HD := Lib.hid hK
      have c0 : W.cell? ⟨xb, 0, none⟩ = some (.slice h.RA h.rules.length h.rc) := h3.cell 0
      have c1 : W.cell? ⟨xb, 1, none⟩ = some (.slice h.NA h.nodes.length h.nc) := h3.cell 1
      have HDD := Lib.hid (show D ≠ b + 1 ∧ w.heap.size ≤ D ∧ w1.heap.size ≤ D ∧ w5.heap.size ≤ D by have := NZ.out; omega)
      clear h2 h3 h4 h5 hK hD
      go_wp2_with (refine wpList_store_whole rfl 25 (.tmp 2) (.tmp 26) rfl (b + 1) #[.slice h.RA h.rules.length h.rc, .slice h.NA h.nodes.length h.nc] rfl rfl 25 _ HM4.out (by kernel_rfl) (by rfl) (by simp [Value.oneCell']) ?_; intro W2 hk hgr; have K2 := Lib.hid hk; have G2 := Lib.hid hgr; clear hk hgr)
      have g2 := G2.out
      have n1 := HDD.out
      have n2 := NZ.out
      have hd2 : W2.heap[D]? = some (.deferred (some [])) := (g2.block D (Array.getElem?_eq_some_iff.1 HD.out).1 (by intro e; cases e; omega)).trans HD.out
      have f2 : Fresh W2 w1.heap.size (h.opts (idles g)) := (HF2.out.low F5.out (Below.refl _ _)).grownBlk F5.out g2 (by omega)
      have l2 : Below w.heap.size w W2 := grown_below HL5.out HL5.out.size g2 (fun k e => by cases e; omega)
      refine ⟨by simp, .inl ⟨_, _, rfl, run_takeDeferred hd2, ?_⟩⟩
      have kp : Below w5.heap.size W2 (W2.putObj D (.deferred none)) := below_putObj W2 D _ _ n1.2.2.2
      have z2 : Blk (W2.putObj D (.deferred none)) (b + 1) #[.slice h.RA h.rules.length h.rc, .slice h.NA h.nodes.length h.nc] 25 := (kp.block (b + 1) (by omega)).trans K2.out
      have f3 := (f2.low F5.out kp)
      refine ⟨_, results_gm rfl _ _ (b + 1) _ _ (.bool true) rfl rfl z2, (fun _ => ⟨h, ?_, HT.out, f3.lower (by omega)⟩), (fun h => by rw [HR.out] at h; cases h), l2.trans (below_putObj _ D _ _ n1.2.1)⟩
      show _ = Ending.returned (.tuple #[.agg #[.slice h.RA h.rules.length h.rc, .slice h.NA (opts h.nodes (idles g)).length h.nc], .bool true])
      rw [opts_len]
theorem wellB_kz (g : Gr) : wellB g.kz = wellB g := by
  unfold wellB
  rw [rightB_kz, idleRow_kz]
theorem mended_well {g : Gr} (hR : Right g) : wellB (mended g) = true := by
  unfold wellB
  rw [rightB_true.2 (mended_right hR), mended_row hR]
  rfl
end Go.Proofs.Ytjelgmdjmjnnfaa

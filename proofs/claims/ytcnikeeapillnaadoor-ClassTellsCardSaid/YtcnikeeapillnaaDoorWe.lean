/- Contracts of layer 1: Runs. -/
import Derived.Test.YtcnikeeapillnaaDoorWd
import Derived.Test.YtcnikeeapillnaaDoorMd
namespace Go.Proofs.YtcnikeeapillnaaDoor
open Go.RowKit Go.Shelf
attribute [local go_sem] Oper.semAt_some

theorem Tryd.info38 : (Tryd.prog.info? 38).map (fun i => (i.zero, i.size, i.bytes)) = some (some (.agg #[.int .u8 0, .int .u8 0]), 2, 2) := by kernel_rfl
theorem cell_two_new (w : World) (x y : Value) (t : TypeId) : ∀ j u, [x, y][j]? = some u → (w.alloc (.cells #[x, y] t)).cell? ((⟨w.heap.size, 0, none⟩ : Addr).add j) = some u := by
  intro j u hj
  match j, hj with
  | 0, hj => simp at hj; subst hj; simp [Addr.add]
  | 1, hj => simp at hj; subst hj; simp [Addr.add]
  | (j + 2), hj => simp at hj
/-- The cells of runs. -/
def rcells (rs : List (Nat × Nat)) : List Value := rs.flatMap fun r => [.int .u8 (r.1 : Int), .int .u8 (r.2 : Int)]
theorem rcells_app (a b : List (Nat × Nat)) : rcells (a ++ b) = rcells a ++ rcells b := by simp [rcells]
theorem rcells_one (a b : Nat) : rcells [(a, b)] = [.int .u8 (a : Int), .int .u8 (b : Int)] := rfl
theorem rcells_length (rs : List (Nat × Nat)) : (rcells rs).length = rs.length * 2 := by
  induction rs with
  | nil => rfl
  | cons r rs ih => rw [show r :: rs = [r] ++ rs from rfl, rcells_app, List.length_append, ih]; simp [rcells]; omega
theorem rcells_last (q : List (Nat × Nat)) (a z : Nat) : (rcells (q ++ [(a, z)]))[q.length * 2 + 1]? = some (.int .u8 (z : Int)) := by
  rw [rcells_app, List.getElem?_append_right (by rw [rcells_length]; omega), rcells_length]; simp [rcells, show q.length * 2 + 1 - q.length * 2 = 1 by omega]
theorem rcells_set (q : List (Nat × Nat)) (a z b : Nat) : (rcells (q ++ [(a, z)])).set (q.length * 2 + 1) (.int .u8 (b : Int)) = rcells (q ++ [(a, b)]) := by
  rw [rcells_app, List.set_append_right _ _ (by rw [rcells_length]; omega), rcells_length, rcells_app]; simp [rcells, show q.length * 2 + 1 - q.length * 2 = 1 by omega]
theorem u8_pred (z b : Nat) (hz : z < 256) (hb : b < 256) : ((z : Int) == (((b : Int) - 1) % 256)) = decide (z = (b + 255) % 256) := by
  rw [Bool.eq_iff_iff]; simp; omega

set_option maxRecDepth 100000 in
set_option maxHeartbeats 4000000 in
theorem runs_any (s : Nat → Bool) (w : World) (hT : Tab w) :
    Calls Tryd.prog 12 #[.agg #[.int .u64 (wd s 0), .int .u64 (wd s 1), .int .u64 (wd s 2), .int .u64 (wd s 3)]] w fun e W' => ∃ v, e = .returned v ∧ W'.ownsRow w.heap.size 38 2 v (runsOf (elems s 256)).length (rcells (runsOf (elems s 256))) ∧ (v = .slice none 0 0 ↔ runsOf (elems s 256) = []) ∧ Below w.heap.size w W' := by
  refine (callsIn_wide (n := 3)).1 ?_
  obtain ⟨i0, hi, hz0, hz1, hz2⟩ := info_parts Tryd.info38
  have hT0 := hT.1
  have HT := Lib.hid hT
  clear hT
  refine callsIn_of_wp_marks Tryd.func12 rfl trivial ?_ rfl
  simp only [Tryd.ntmps12, List.size_toArray, List.length_cons, List.length_nil, Nat.reduceAdd, Nat.reduceSub, Array.replicate_succ, Array.replicate_zero, List.push_toArray, List.append_toArray, List.nil_append, List.cons_append]
  gi_wp2_with (refine ⟨trivial, ?_⟩; gi_at_call 33; refine (callsIn_wide.2 (bytes_any s _)).mono ?_; rintro e w' ⟨rfl, rfl⟩)
  have bO : Boxed ((w.alloc (.cells #[.int .u64 (wd s 0), .int .u64 (wd s 1), .int .u64 (wd s 2), .int .u64 (wd s 3)] 25)).alloc (.cells #[.slice none 0 0] 30)) (w.heap.size + 1) 30 (.slice none 0 0) := by
    have := Boxed.new (w.alloc (.cells #[.int .u64 (wd s 0), .int .u64 (wd s 1), .int .u64 (wd s 2), .int .u64 (wd s 3)] 25)) 30 (.slice none 0 0)
    rwa [World.size_alloc] at this
  have bN : Blk (((w.alloc (.cells #[.int .u64 (wd s 0), .int .u64 (wd s 1), .int .u64 (wd s 2), .int .u64 (wd s 3)] 25)).alloc (.cells #[.slice none 0 0] 30)).alloc (.cells #[.int .u64 (wd s 0), .int .u64 (wd s 1), .int .u64 (wd s 2), .int .u64 (wd s 3)] 55)) (w.heap.size + 1 + 1) #[.int .u64 (wd s 0), .int .u64 (wd s 1), .int .u64 (wd s 2), .int .u64 (wd s 3)] 55 := by
    have := Blk.new ((w.alloc (.cells #[.int .u64 (wd s 0), .int .u64 (wd s 1), .int .u64 (wd s 2), .int .u64 (wd s 3)] 25)).alloc (.cells #[.slice none 0 0] 30)) #[.int .u64 (wd s 0), .int .u64 (wd s 1), .int .u64 (wd s 2), .int .u64 (wd s 3)] 55
    rwa [World.size_alloc, World.size_alloc] at this
  have hB0 := below3 w (.cells #[.int .u64 (wd s 0), .int .u64 (wd s 1), .int .u64 (wd s 2), .int .u64 (wd s 3)] 25) (.cells #[.slice none 0 0] 30) (.cells #[.int .u64 (wd s 0), .int .u64 (wd s 1), .int .u64 (wd s 2), .int .u64 (wd s 3)] 55)
  refine wpIn_rangeFunc_ownG rfl (by omega) (gf := 41) (lb := #[.pointer (some ⟨w.heap.size + 1 + 1, 0, none⟩)]) rfl trivial (enters_of Tryd.func41 (by kernel_rfl) rfl)
    (bytes_stops 2 (by omega) (w.heap.size + 1 + 1) w.heap.size hT0 s _ bN (HT.out.below hB0)) belowK_t (belowK_b (by simp; omega)) (Below.refl _ _) (fun _ => rfl)
    (fun pre W => (∃ v, Boxed W (w.heap.size + 1) 30 v ∧ W.ownsRow w.heap.size 38 2 v (runsOf (vals pre)).length (rcells (runsOf (vals pre))) ∧ (v = .slice none 0 0 ↔ runsOf (vals pre) = [])) ∧ Below w.heap.size w W)
    (fun _ _ _ => False)
    (OwnFrom.and (Own.from (holdsRow_own w.heap.size (w.heap.size + 1) 30 38 2 (fun pre => (runsOf (vals pre)).length) (fun pre => rcells (runsOf (vals pre))) (fun pre v => v = .slice none 0 0 ↔ runsOf (vals pre) = [])) _) (ownFrom_below (Nat.le_refl _) (by simp; omega)))
    (fun _ _ _ _ _ hs _ _ => hs)
    ⟨⟨_, bO.alloc _, World.ownsRow_nil _ _ _ _, by simp [runsOf, vals]⟩, hB0⟩
    (fun x => { tmps := #[.agg #[.int .u64 (wd s 0), .int .u64 (wd s 1), .int .u64 (wd s 2), .int .u64 (wd s 3)], .pointer (some ⟨w.heap.size, 0, none⟩), .slice none 0 0, .pointer (some ⟨w.heap.size + 1, 0, none⟩), .int .u8 (x.1 : Int), undef, .agg #[.int .u64 (wd s 0), .int .u64 (wd s 1), .int .u64 (wd s 2), .int .u64 (wd s 3)], .func (.func 41) #[] #[.pointer (some ⟨w.heap.size + 1 + 1, 0, none⟩)], .int .u8 (x.1 : Int), undef, undef, undef, undef, undef, undef, undef, undef, undef, undef, undef, undef, undef, undef, undef, undef, undef, undef, undef, undef, undef, undef, undef, undef, undef, undef, undef, undef], defers := [] }) ?assign ?body ?done ?stop
  case assign =>
    intro l x W K hK
    gi_wp2
    exact hK
  case body =>
    rintro l pre ⟨b, hb⟩ W ⟨⟨v, hv, hrow, hnil⟩, hB⟩ hlt
    have hc := hv.cell
    have hpl := runsOf_length (vals pre)
    rw [vals_length] at hpl
    have hsm : Small (runsOf (vals pre)) := runsOf_small fun x hx => by
      simp only [vals, List.mem_map] at hx; obtain ⟨y, _, rfl⟩ := hx; exact y.2
    have HS := Lib.hid (runsOf_snoc (vals pre) b)
    have HV := Lib.hid (vals_snoc pre ⟨b, hb⟩)
    obtain ⟨rs, hrs⟩ : ∃ rs, rs = runsOf (vals pre) := ⟨_, rfl⟩
    rw [← hrs] at hrow hnil hpl HS hsm
    clear hrs
    rcases List.eq_nil_or_concat rs with rfl | ⟨q, ⟨a, z⟩, rfl⟩
    · obtain rfl : v = .slice none 0 0 := hnil.2 rfl
      clear hnil
      gi_wp2_with (gi_at_builtin; refine wpListIn_append_own _ rfl _ _ 30 rfl w.heap.size 38 i0 (.agg #[.int .u8 0, .int .u8 0]) 2 2 Tryd.underlying30 hi hz0 hz1 hz2 rfl (by decide) _ _ _ rfl (hrow.alloc _) ⟨W.heap.size, 0, none⟩ 1 1 [.int .u8 (b : Int), .int .u8 (b : Int)] rfl rfl (cell_two_new _ _ _ _) (by simp [Value.oneCell']) (by simp [maxLen]) (by simp) (by have := hB.size; simp; omega) ?_; intro v' w1 hown' hgrow _; obtain ⟨g', cap', rfl⟩ := ownsRow_succ hown'; obtain ⟨hv1, hv2, hr2, hk2, hb2⟩ := hv.appended (by decide) hrow hB.size (by omega) hown' hgrow; have hc1 := hv1.cell; have hf1 := hv1.frozen)
      exact ⟨hk2.from _, hb2, ⟨_, hv2, by rw [HV.out, HS.out]; simpa [rcells, rstep_nil] using hr2, by rw [HV.out, HS.out]; simp [rstep_nil]⟩, hB.trans hb2⟩
    · rw [List.concat_eq_append] at *
      have hz := (hsm (a, z) (by simp)).2
      have hlen : (q ++ [(a, z)]).length = q.length + 1 := by simp
      rw [hlen] at hrow hpl
      obtain ⟨g, cap, rfl⟩ := ownsRow_succ hrow
      have hcell := (hrow.cellAt (q.length * 2 + 1) (by omega)).trans (rcells_last q a z)
      have hfr := hrow.frozenAt (q.length * 2 + 1)
      have hst := hrow.stored (q.length * 2 + 1) (.int .u8 (b : Int))
      rw [rcells_set] at hst
      have hu := u8_pred z b hz hb
      have HL := Lib.hid hlen
      have hgl := hrow.lt g rfl
      have hne := hv.not_row (by decide) hrow
      have HSM := Lib.hid hsm
      have HST := Lib.hid hst
      clear hsm hnil hlen hst
      by_cases hzb : z = (b + 255) % 256
      · have HZ := Lib.hid hzb
        rw [show decide (z = (b + 255) % 256) = true by simp [hzb]] at hu
        clear hzb
        gi_wp2
        have hb2 : Below w.heap.size W (W.setCell ⟨g, q.length * 2 + 1, none⟩ (.int .u8 (b : Int))) := (Below.refl _ _).setCell (p := ⟨g, q.length * 2 + 1, none⟩) hgl.1 _
        exact ⟨(KeepsOthers.setCell _ _ _).from _, hb2, ⟨_, hv.kept HST.out.2 hne, by rw [HV.out, HS.out, rstep_long q a z b HZ.out]; simpa using HST.out.1, by rw [HV.out, HS.out, rstep_long q a z b HZ.out]; simp⟩, hB.trans hb2⟩
      · have HZ := Lib.hid hzb
        rw [show decide (z = (b + 255) % 256) = false by simp [hzb]] at hu
        clear hzb
        gi_wp2_with (gi_at_builtin; refine wpListIn_append_own _ rfl _ _ 30 rfl w.heap.size 38 i0 (.agg #[.int .u8 0, .int .u8 0]) 2 2 Tryd.underlying30 hi hz0 hz1 hz2 rfl (by decide) _ _ _ rfl (hrow.alloc _) ⟨W.heap.size, 0, none⟩ 1 1 [.int .u8 (b : Int), .int .u8 (b : Int)] rfl rfl (cell_two_new _ _ _ _) (by simp [Value.oneCell']) (by unfold maxLen; omega) (by omega) (by have := hB.size; simp; omega) ?_; intro v' w1 hown' hgrow _; obtain ⟨g', cap', rfl⟩ := ownsRow_succ hown'; obtain ⟨hv1, hv2, hr2, hk2, hb2⟩ := hv.appended (by decide) hrow hB.size (by omega) hown' hgrow; have hc1 := hv1.cell; have hf1 := hv1.frozen)
        exact ⟨hk2.from _, hb2, ⟨_, hv2, by rw [HV.out, HS.out, rstep_new q a z b HZ.out, rcells_app]; simpa [rcells_one] using hr2, by rw [HV.out, HS.out, rstep_new q a z b HZ.out]; simp⟩, hB.trans hb2⟩
  case done =>
    rintro D ys W hD hys ⟨⟨v, hv, hrow, hnil⟩, hB⟩ hK
    have hc := hv.cell
    rw [hys] at hrow hnil
    have HN := Lib.hid hnil
    clear hnil hys
    gi_wp2
    refine ⟨by simp, .inl ⟨_, _, rfl, run_takeDeferred hK, ?_⟩⟩
    exact ⟨_, results_tmp rfl _ _ _, v, rfl, ownsRow_putObj hrow _ hK rfl, HN.out, hB.trans (belowK_b (w := w) (Nat.le_refl _) W D _ _ (by simp at hD; omega) hK rfl rfl)⟩
  case stop =>
    rintro D c pre W _ _ h _
    exact h.elim
end Go.Proofs.YtcnikeeapillnaaDoor

/- The contracts of besides, of Gaps. -/
import Derived.Test.YtgploogflhfolaaWg
import Derived.Shelf.SlSortCmp.NoneTotal
namespace Go.Proofs.Ytgploogflhfolaa
open Go Go.Proofs Go.RowKit Go.Shelf
attribute [local go_sem] Oper.semAt_some

theorem sortNone : SortNone := fun w => AnyF.slices_SortFunc_none Try.sortP none 0 (.func (.func 34) #[] #[]) w

set_option maxHeartbeats 1000000 in
theorem besides_sl (x y : Int) (p : Option Addr) (n c : Nat) (w : World) :
    Calls Try.prog 36 #[.agg #[.int .i64 x, .int .i64 y], .slice p n c] w fun e w' => e = .returned (.func (.func 42) #[] #[.pointer (some ⟨w.heap.size, 0, none⟩), .pointer (some ⟨w.heap.size + 1, 0, none⟩)]) ∧ w' = (w.alloc (.cells #[.int .i64 x, .int .i64 y] 23)).alloc (.cells #[.slice p n c] 57) := by
  go_enter Try.func36, Try.ntmps36
  go_wp2
  go_ret
  exact ⟨rfl, rfl⟩
theorem besides_any (x y : Int) {v : Value} {w : World} {base n : Nat} {xs : List Value} (h : w.ownsRow base 51 2 v n xs) :
    Calls Try.prog 36 #[.agg #[.int .i64 x, .int .i64 y], v] w fun e w' => e = .returned (.func (.func 42) #[] #[.pointer (some ⟨w.heap.size, 0, none⟩), .pointer (some ⟨w.heap.size + 1, 0, none⟩)]) ∧ w' = (w.alloc (.cells #[.int .i64 x, .int .i64 y] 23)).alloc (.cells #[v] 57) := by
  rcases h.2 with ⟨rfl, _⟩ | ⟨g, cap, cur, rfl, _⟩
  · exact besides_sl x y none 0 0 w
  · exact besides_sl x y _ _ _ w

theorem own_mono {w : World} {B base e size n : Nat} {v : Value} {xs : List Value} (h : w.ownsRow base e size v n xs) (hB : B ≤ base) : w.ownsRow B e size v n xs := by
  obtain ⟨h1, h2⟩ := h
  refine ⟨h1, ?_⟩
  rcases h2 with h2 | ⟨g, cap, cur, a, b, c, d⟩
  · exact .inl h2
  · exact .inr ⟨g, cap, cur, a, Nat.le_trans hB b, c, d⟩

/-- A row of parts, of the call's own. -/
def rowSt (base : Nat) (xs : List (Int × Int)) : Stay Bel := ⟨fun v W => W.ownsRow base 51 2 v xs.length (scells xs), fun _ _ _ hb h => own_below h hb⟩
/-- The gaps beside a row of parts, as a function. -/
def CloAt (W : World) (base : Nat) (x y : Int) (xs : List (Int × Int)) (b1 b2 : Nat) (v : Value) : Prop :=
  base ≤ b1 ∧ v.ownBlock ≠ some b1 ∧ Blk W b1 #[.int .i64 x, .int .i64 y] 23 ∧ Boxed W b2 57 v ∧ W.ownsRow base 51 2 v xs.length (scells xs)
theorem CloAt.below {W W' : World} {base b1 b2 : Nat} {x y : Int} {xs : List (Int × Int)} {v : Value} (h : CloAt W base x y xs b1 b2 v) (hb : Below W.heap.size W W') : CloAt W' base x y xs b1 b2 v := by
  obtain ⟨h1, h2, h3, h4, h5⟩ := h
  exact ⟨h1, h2, h3.below hb h3.lt, (hb.block _ h4.lt).trans h4, own_below h5 hb⟩
def cloSt (base : Nat) (x y : Int) (xs : List (Int × Int)) : Stay Bel := ⟨fun f W => ∃ b1 b2 v, f = .func (.func 42) #[] #[.pointer (some ⟨b1, 0, none⟩), .pointer (some ⟨b2, 0, none⟩)] ∧ CloAt W base x y xs b1 b2 v,
  fun _ _ _ hb ⟨b1, b2, v, e, h⟩ => ⟨b1, b2, v, e, h.below hb⟩⟩
theorem clo_new {W : World} {base : Nat} {x y : Int} {xs : List (Int × Int)} {v : Value} (hB : base ≤ W.heap.size) (h : W.ownsRow base 51 2 v xs.length (scells xs)) :
    CloAt ((W.alloc (.cells #[.int .i64 x, .int .i64 y] 23)).alloc (.cells #[v] 57)) base x y xs W.heap.size (W.heap.size + 1) v := by
  refine ⟨hB, fun e => ?_, (Blk.new W _ _).alloc _, Blk.new2 W _ _ _, (h.alloc _).alloc _⟩
  have := (h.lt _ e).2
  omega

theorem besides_seq (n : Nat) (hn : 1 ≤ n) {b1 b2 base : Nat} {x y : Int} (hs : Inr (x, y)) {xs : List (Int × Int)} (hxs : Inrs xs) (hlen : xs.length ≤ 65536) {v : Value} {W : World} (P0 : Nat → Prop) (h : CloAt W base x y xs b1 b2 v) (hbase : base ≤ W.heap.size) (hP1 : P0 b1) (hPG : ∀ r, v.ownBlock = some r → P0 r) :
    SeqG n Try.prog 42 #[.pointer (some ⟨b1, 0, none⟩), .pointer (some ⟨b2, 0, none⟩)] (fun z : Int × Int => #[.agg #[.int .i64 z.1, .int .i64 z.2]]) (fun ys => ys = sweep y x (xs ++ [(y, y)])) (xs.length + 1) (fun r => v.ownBlock = some r) P0 W :=
  fun l J W' hW hJ hY h0 => by
    have h' := h.below hW
    exact besides1_in n hn l b1 b2 base x y hs xs hxs hlen v P0 J hJ hP1 hPG h.2.1 hY W' h'.2.2.1 h'.2.2.2.1 (Nat.le_trans hbase hW.size) h'.2.2.2.2 h0

/-- The caller's invariant: its row is boxed at gb, and lies from block B on; neither is guarded. -/
def GapI (w : World) (B gb : Nat) (Pr : Nat → Prop) (pre : List (Int × Int)) (W : World) : Prop :=
  (∃ v, Boxed W gb 32 v ∧ W.ownsRow w.heap.size 23 2 v pre.length (scells pre) ∧ ∀ g, v.ownBlock = some g → ¬ Pr g ∧ B ≤ g) ∧ ¬ Pr gb ∧ (∀ k, Pr k → k < W.heap.size) ∧ Below w.heap.size w W ∧ B ≤ W.heap.size
theorem GapI.bears {w : World} {B gb : Nat} {Gb : Nat → Prop} (hB : w.heap.size ≤ B) (hgb : gb < B) (hG : ∀ r, Gb r → w.heap.size ≤ r ∧ r ≠ gb ∧ r < B) : Bears (fun r A => Gb r ∨ (B ≤ r ∧ ∃ o : Obj, A.heap[r]? = some o ∧ o.isCells = false)) (GapI w B gb) := by
  rintro Pr Pr' s A C row ⟨⟨v, hv, hrow, hng⟩, hgp, hlt, hbw, hsz⟩ hg hr hP
  have ngb : some gb ≠ row := fun e => by
    rcases hr gb e.symm with h | ⟨h, _⟩
    · exact (hG _ h).2.1 rfl
    · omega
  refine ⟨⟨v, hv.kept hg ngb, hrow.kept hg ?_, fun g hgv => ⟨fun h => ?_, (hng g hgv).2⟩⟩, fun h => ?_, fun k hk => ?_, hbw.grown hg hbw.size (fun k e => ?_), Nat.le_trans hsz hg.size⟩
  · rcases hrow.2 with ⟨rfl, _⟩ | ⟨g, cap, cur, rfl, _, hgh, _⟩
    · exact .inl rfl
    · refine .inr fun e => ?_
      have e' : row = some g := e.symm
      have := (hng g rfl).2
      rcases hr g e' with h | ⟨_, o, ho, hc⟩
      · have := (hG _ h).2.2; omega
      · rw [hgh] at ho; cases ho; cases hc
  · rcases hP g h with h | ⟨h, _⟩
    · exact (hng g hgv).1 h
    · have := (hrow.lt g hgv).2; omega
  · rcases hP gb h with h | ⟨h, _⟩
    · exact hgp h
    · have := hv.lt; omega
  · rcases hP k hk with h | ⟨_, h⟩
    · exact Nat.lt_of_lt_of_le (hlt k h) hg.size
    · exact h
  · rcases hr k e with h | ⟨h, _⟩
    · exact (hG _ h).1
    · omega

set_option maxHeartbeats 2000000 in
theorem gaps_no (x y : Int) (A : Option Addr) (n c : Nat) (hr : rt x y = false) (w : World) :
    Calls Try.prog 22 #[.agg #[.int .i64 x, .int .i64 y], .slice A n c] w fun e w' => e = .returned (.slice none 0 0) ∧ Below w.heap.size w w' := by
  have R := fun w => right_any x y w
  rw [hr] at R
  have R := Lib.hid R
  clear hr
  go_enter Try.func22, Try.ntmps22
  go_wp2_with fail
  refine (R.out _).mono ?_
  rintro e w1 ⟨rfl, hb⟩
  go_wp2_with fail
  go_ret
  exact ⟨rfl, bt (B1 _ _) hb (by simp)⟩

/-- What a span has, and some have not. -/
def gapsF (x y : Int) (l : List (Int × Int)) : List (Int × Int) := if rt x y then sweep y x (srt (parts l) ++ [(y, y)]) else []
theorem Try.info23' : (Try.prog.info? 23).map (fun i => (i.zero, i.size, i.bytes)) = some (some (.agg #[.int .i64 0, .int .i64 0]), 2, 16) := by kernel_rfl
set_option maxRecDepth 100000 in
set_option maxHeartbeats 4000000 in
theorem gaps_yes (x y : Int) (hs : Inr (x, y)) (A : Option Addr) (l : List (Int × Int)) (c : Nat) (hl : l.length ≤ 65536) (hr : Inrs l) (hrt : rt x y = true) (w : World) (h : Spn w A l) :
    Calls Try.prog 22 #[.agg #[.int .i64 x, .int .i64 y], .slice A l.length c] w fun e w' => ∃ v, e = .returned v ∧ w'.ownsRow w.heap.size 23 2 v (sweep y x (srt (parts l) ++ [(y, y)])).length (scells (sweep y x (srt (parts l) ++ [(y, y)]))) ∧ Below w.heap.size w w' := by
  refine (callsIn_wide (n := 3)).1 ?_
  have en37 : ∀ args w, (callFunc 37 args).run Try.prog w = .ok (.enter 37 args) w := fun _ _ => by kernel_rfl
  have en36 : ∀ args w, (callFunc 36 args).run Try.prog w = .ok (.enter 36 args) w := fun _ _ => by kernel_rfl
  obtain ⟨i0, hi, hz0, hz1, hz2⟩ := info_parts Try.info23
  have R := fun w => right_any x y w
  rw [hrt] at R
  have R := Lib.hid R
  have HT := Lib.hid h
  have HR := Lib.hid hr
  have HS := Lib.hid hs
  have HV := Lib.hid (fun W h => inOrder_any sortNone A l c hl hr W h)
  have hxl : (srt (parts l)).length ≤ 65536 := by rw [srt_length]; exact Nat.le_trans (parts_length l) hl
  have hxr : Inrs (srt (parts l)) := fun z hz => hr z (List.mem_filter.1 ((srt_perm _).mem_iff.1 hz)).1
  obtain ⟨xs, exs⟩ : ∃ xs, xs = srt (parts l) := ⟨_, rfl⟩
  rw [← exs] at hxl hxr HV ⊢
  have HXR := Lib.hid hxr
  clear h hr hrt hs hxr exs
  refine callsIn_of_wp_marks Try.func22 rfl trivial ?_ rfl
  simp only [Try.ntmps22, List.size_toArray, List.length_cons, List.length_nil, Nat.reduceAdd, Nat.reduceSub, Array.replicate_succ, Array.replicate_zero, List.push_toArray, List.append_toArray, List.nil_append, List.cons_append]
  gi_wp2_with fail
  refine ⟨trivial, (callsIn_wide.2 (R.out _)).mono ?_⟩
  rintro e w1 ⟨rfl, hb⟩
  have hBs := (Blk.new w #[.int .i64 x, .int .i64 y] 23).below hb (by simp)
  have hb1 := bt (B1 w _) hb (by simp)
  clear hb
  gi_wp2_with fail
  obtain ⟨w2, e2⟩ : ∃ w2, w2 = w1.alloc (.cells #[.slice none 0 0] 32) := ⟨_, rfl⟩
  have hBs2 : Blk w2 w.heap.size #[.int .i64 x, .int .i64 y] 23 := by rw [e2]; exact hBs.alloc _
  have hbx : Boxed w2 w1.heap.size 32 (.slice none 0 0) := by rw [e2]; exact Boxed.new _ _ _
  have hb2 : Below w.heap.size w w2 := by rw [e2]; exact hb1.alloc hb1.size _
  obtain ⟨gb, egb⟩ : ∃ gb, gb = w1.heap.size := ⟨_, rfl⟩
  have hgb : w.heap.size ≤ gb := by rw [egb]; exact hb1.size
  rw [← e2]
  rw [← egb] at hbx ⊢
  have hgb2 := hbx.lt
  obtain ⟨c0, c1⟩ := hBs2.two
  clear e2 egb hBs hb1
  refine wpIn_wide.2 ?_
  refine wp_region_puts Grow.ofBelow [some (.is (.agg #[.int .i64 x, .int .i64 y])), some (.is (.slice A l.length c)), some (.st (rowSt w2.heap.size xs)), some (.st (cloSt w2.heap.size x y xs))] (by kernel_rfl) (by kernel_rfl) (by kernel_rfl) (by kernel_rfl) ⟨by
    intro _ act W hS hun hd
    have h2 : act.eval (.tmp 2) = .pointer (some ⟨w.heap.size, 0, none⟩) := hun 2 (by kernel_rfl)
    exact g_load23 Grow.ofBelow rfl h2 (Ext.cell c0 ⟨W, hS⟩) (Ext.cell c1 ⟨W, hS⟩) rfl,
    by
    intro _ act W hS hun hd
    have h1 : act.eval (.tmp 1) = .slice A l.length c := hun 1 (by kernel_rfl)
    exact g_move Grow.ofBelow (v := .slice A l.length c) rfl h1 rfl,
    by
    intro _ act W hS hun hd
    have h11 : act.eval (.tmp 11) = .slice A l.length c := hd 1 _ 11 rfl rfl (by kernel_rfl)
    exact g_call (G := Bel) (f := 37) (args := #[.slice A l.length c]) rfl en37 (by simp only [List.map_toArray, List.map_cons, List.map_nil, h11]) ((HV.out W (HT.out.below (bt hb2 hS hb2.size))).mono fun _ w' ⟨v, he, ho, hb⟩ => ⟨v, he, hb, own_mono ho hS.size⟩),
    by
    intro _ act W hS hun hd
    have h10 : act.eval (.tmp 10) = .agg #[.int .i64 x, .int .i64 y] := hd 0 _ 10 rfl rfl (by kernel_rfl)
    have h12 : (Sp.st (rowSt w2.heap.size xs)).holds (act.eval (.tmp 12)) W := hd 2 _ 12 rfl rfl (by kernel_rfl)
    obtain ⟨v, ev⟩ : ∃ v, v = act.eval (.tmp 12) := ⟨_, rfl⟩
    rw [← ev] at h12
    exact g_call (G := Bel) (f := 36) (args := #[.agg #[.int .i64 x, .int .i64 y], v]) rfl en36 (by simp only [List.map_toArray, List.map_cons, List.map_nil, h10, ← ev]) ((besides_any x y h12).mono fun _ w' ⟨he, hw⟩ => ⟨_, he, by rw [hw]; exact B2 _ _ _, by rw [hw]; exact ⟨_, _, v, rfl, clo_new hS.size h12⟩⟩),
    trivial⟩ ?_
  intro f W hS hf
  obtain ⟨b1, b2, v, e13, hclo⟩ : (Sp.st (cloSt w2.heap.size x y xs)).holds (f 13) W := hf 3 _ 13 rfl rfl
  have HBX : Boxed W gb 32 (.slice none 0 0) := (hS.block _ hgb2).trans hbx
  have hb3 := bt hb2 hS hb2.size
  have hzW : w2.heap.size ≤ W.heap.size := hS.size
  have HCL := Lib.hid hclo
  have HBX := Lib.hid HBX
  have HB3 := Lib.hid hb3
  clear hf hS hclo hb3 hbx hb2 hBs2 c0 c1 HT HR HV R en36 en37
  simp only [putOps]
  go_simp
  gi_wp2_with fail

  generalize f 10 = f10
  generalize f 11 = f11
  generalize f 12 = f12
  clear e13 f
  have hvl : ∀ r, v.ownBlock = some r → w2.heap.size ≤ r ∧ r < W.heap.size := fun r e => HCL.out.2.2.2.2.lt r e
  have hgW : gb < W.heap.size := by omega
  have HVL := Lib.hid hvl
  clear hvl
  refine wpIn_rangeFunc_guard (by omega) (gf := 42) (lb := #[.pointer (some ⟨b1, 0, none⟩), .pointer (some ⟨b2, 0, none⟩)]) rfl (enters_of Try.func42 (by kernel_rfl) rfl)
    (besides_seq 2 (by omega) HS.out HXR.out hxl (fun k => k < W.heap.size ∧ k ≠ gb) HCL.out hzW ⟨HCL.out.2.2.1.lt, by have := HCL.out.1; omega⟩ (fun r e => ⟨(HVL.out r e).2, by have := (HVL.out r e).1; omega⟩))
    (Below.refl _ _) (fun _ => rfl) (fun r e => (HVL.out r e).2) (fun k hk => hk.1)
    (GapI w W.heap.size gb) (GapI.bears HB3.out.size hgW (fun r e => ⟨by have := (HVL.out r e).1; have := HB3.out.size; omega, by have := (HVL.out r e).1; omega, (HVL.out r e).2⟩))
    ⟨⟨_, HBX.out, World.ownsRow_nil _ _ _ _, fun g hg => by cases hg⟩, fun h => h.2 rfl, fun k hk => hk.1, HB3.out, Nat.le_refl _⟩ (fun _ _ _ h => h.2.2.1)
    (fun z a' W' => ∃ b6, a' = { tmps := #[.agg #[.int .i64 x, .int .i64 y], .slice A l.length c, .pointer (some ⟨w.heap.size, 0, none⟩), undef, .slice none 0 0, .pointer (some ⟨gb, 0, none⟩), .pointer (some ⟨b6, 0, none⟩), .agg #[.int .i64 x, .int .i64 y], .bool true, .bool false, f10, f11, f12, .func (.func 42) #[] #[.pointer (some ⟨b1, 0, none⟩), .pointer (some ⟨b2, 0, none⟩)], .agg #[.int .i64 z.1, .int .i64 z.2], undef, undef, undef, undef, undef], defers := [] } ∧ Blk W' b6 #[.int .i64 z.1, .int .i64 z.2] 23)
    ?ax ?assign ?body ?done
  case ax =>
    rintro z a' W' l o o' ⟨b6, e, hb⟩ hl ho
    refine ⟨b6, e, ?_⟩
    have hne : b6 ≠ l := fun e => by subst e; rw [show W'.heap[b6]? = _ from hb] at hl; cases hl; cases ho
    exact (World.putObj_heap_other hne).trans hb
  case assign =>
    intro l z W' K hK
    gi_wp2_with fail
    exact hK _ _ (B1 _ _) ⟨W'.heap.size, rfl, Blk.new _ _ _⟩
  case body =>
    rintro l Pr pre ⟨z1, z2⟩ a' W' ⟨⟨u, hv, hrow, hng⟩, hgp, hlt, hbw, hsz⟩ ⟨b6, rfl, hb6⟩ hN
    have hc := hv.cell
    obtain ⟨c0, c1⟩ := hb6.two
    have hz6 := hb6.lt
    dsimp only at c0 c1
    have HG := Lib.hid hng
    have HP := Lib.hid hlt
    have HGP := Lib.hid hgp
    clear hng hlt hgp hb6 HVL HBX HCL HS HXR
    gi_wp2_with (gi_at_builtin; refine wpListIn_append_where _ rfl _ _ 32 rfl w.heap.size 23 i0 (.agg #[.int .i64 0, .int .i64 0]) 2 16 Try.underlying32 hi hz0 hz1 hz2 rfl (by decide) _ _ _ rfl (hrow.alloc _) ⟨W'.heap.size, 0, none⟩ 1 1 [.int .i64 z1, .int .i64 z2] rfl rfl (cell_two_new _ _ _ _) (by simp [Value.oneCell']) (by unfold maxLen; omega) (by omega) (by have := hbw.size; simp; omega) (by omega) ?_; intro g' cap' w4 hown' hgrow hwhere; obtain ⟨hv1, hv2, hr2, hk2, hb2⟩ := hv.appended (by decide) hrow hbw.size hgb hown' hgrow; have hc1 := hv1.cell; have hf1 := hv1.frozen)
    have hg4 : (W'.alloc (.cells #[.int .i64 z1, .int .i64 z2] 23)).grownBy w4 u.ownBlock := hgrow
    have hw4 : u.ownBlock = some g' ∨ ((W'.alloc (.cells #[.int .i64 z1, .int .i64 z2] 23)).heap.size ≤ g' ∧ g' < w4.heap.size) := hwhere
    clear hgrow hwhere
    simp only [World.size_alloc] at hw4
    have hs4 := hb2.size
    refine ⟨hk2.from _, fun k hk => ?_, ⟨_, hv2, by rw [scells_app, List.length_append]; exact hr2, fun g e => ?_⟩, HGP.out, fun k hk => Nat.lt_of_lt_of_le (HP.out k hk) hs4, hbw.trans hb2, Nat.le_trans hsz hs4⟩
    · have h1 := HP.out k hk
      have h2 : k < (W'.alloc (.cells #[.int .i64 z1, .int .i64 z2] 23)).heap.size := by simp; omega
      exact ((grownBy_setCell' w4 gb _).block k (Nat.lt_of_lt_of_le h2 hg4.size) (fun e => HGP.out (by cases e; exact hk))).trans
        ((hg4.block k h2 (fun e => (HG.out k e.symm).1 hk)).trans (Below.heap_alloc _ _ _ h1))
    · have e : g' = g := by simpa [Value.ownBlock] using e
      subst e
      rcases hw4 with h | h
      · exact HG.out g' h
      · exact ⟨fun hp => by have := HP.out g' hp; omega, by omega⟩
  case done =>
    rintro D Pr ys W' hD rfl ⟨⟨u, hv, hrow, hng⟩, hgp, hlt, hbw, hsz⟩ hK
    have hc := hv.cell
    gi_wp2_with fail
    refine ⟨by simp, .inl ⟨_, _, rfl, run_takeDeferred hK, ?_⟩⟩
    exact ⟨_, results_tmp rfl _ _ _, u, rfl, ownsRow_putObj hrow _ hK rfl, hbw.trans (belowK_b (w := w) (Nat.le_refl _) W' D _ _ (by have := HB3.out.size; omega) hK rfl rfl)⟩
end Go.Proofs.Ytgploogflhfolaa

/- Layer 3: the law SpanGaps, walked: its rows. -/
import Derived.Test.YtgploogflhfolaaLc
import Derived.Test.YtgploogflhfolaaMc
namespace Go.Proofs.Ytgploogflhfolaa
open Go Go.Proofs Go.RowKit
theorem own_empty {B : Nat} (W : World) (hB : B ≤ W.heap.size) : (W.alloc (.cells #[] 23)).ownsRow B 23 2 (.slice (some ⟨W.heap.size, 0, none⟩) 0 0) 0 [] :=
  ⟨rfl, .inr ⟨W.heap.size, 0, #[], rfl, hB, heap_alloc_new W _, Nat.le_refl _, Nat.zero_le _, rfl, rfl⟩⟩
def moreSt (B n : Nat) (l : List (Int × Int)) (x : Int × Int) (i : Nat) : Stay Bel := ⟨MoreF B n l x i, fun v w w' h => MoreF.grows B n l x i v w w' h⟩
def glSt (B : Nat) (xs : List (Int × Int)) : Stay Bel := ⟨fun v W => W.ownsRow B 23 2 v xs.length (scells xs), fun _ _ _ hb h => own_below h hb⟩
theorem rr_of {P : Program} {B n x j : Nat} {l : List (Int × Int)} {y : Int × Int} {w : World} {Φ : Value → World → Prop} {r : Result Next} (hj : j ≠ x) (h : Gives P (fun v w' => Bel w w' ∧ Φ v w') r) :
    Gives P (fun v w' => ((j = x → Keeps B (MoreF B n l y) w w') ∧ (j ≠ x → Bel w w')) ∧ Φ v w') r := by
  have key : ∀ v w', (Bel w w' ∧ Φ v w') → ((j = x → Keeps B (MoreF B n l y) w w') ∧ (j ≠ x → Bel w w')) ∧ Φ v w' := fun v w' h => ⟨⟨fun e => absurd e hj, fun _ => h.1⟩, h.2⟩
  cases r with
  | halt x w' => exact h
  | ok n w' =>
    cases n <;> simp only [Gives] at h ⊢
    case value v => exact key _ _ h
    case skip => exact key _ _ h
    case enter f args => exact h.mono fun e w'' ⟨v, he, hh⟩ => ⟨v, he, key _ _ hh⟩

theorem rr_is {P : Program} {B n x : Nat} {l : List (Int × Int)} {y : Int × Int} {w : World} {Φ : Value → World → Prop} {r : Result Next} (h : Gives P (fun v w' => Keeps B (MoreF B n l y) w w' ∧ Φ v w') r) :
    Gives P (fun v w' => ((x = x → Keeps B (MoreF B n l y) w w') ∧ (x ≠ x → Bel w w')) ∧ Φ v w') r := by
  cases r with
  | halt x w' => exact h
  | ok n w' =>
    cases n <;> simp only [Gives] at h ⊢
    case value v => exact ⟨⟨fun _ => h.1, fun e => absurd rfl e⟩, h.2⟩
    case skip => exact ⟨⟨fun _ => h.1, fun e => absurd rfl e⟩, h.2⟩
    case enter f args => exact h.mono fun e w'' ⟨v, he, hh⟩ => ⟨v, he, ⟨fun _ => hh.1, fun e => absurd rfl e⟩, hh.2⟩

/-- What stays over the law's loops. -/
def GSt (w0 : World) (x y : Int) (A : Option Addr) (l : List (Int × Int)) (A7 : Option Addr) (gs : List (Int × Int)) (A8 : Option Addr) (hz : List (Int × Int)) (W : World) : Prop :=
  Below w0.heap.size w0 W ∧ Blk W w0.heap.size #[.int .i64 x, .int .i64 y] 23 ∧ Spn W A l ∧ Spn W A7 gs ∧ Spn W A8 hz
theorem GSt.below {w0 : World} {x y : Int} {A : Option Addr} {l : List (Int × Int)} {A7 : Option Addr} {gs : List (Int × Int)} {A8 : Option Addr} {hz : List (Int × Int)} {W W' : World} (h : GSt w0 x y A l A7 gs A8 hz W) (hb : Below W.heap.size W W') : GSt w0 x y A l A7 gs A8 hz W' :=
  ⟨bt h.1 hb h.1.size, h.2.1.below hb h.2.1.lt, h.2.2.1.below hb, h.2.2.2.1.below hb, h.2.2.2.2.below hb⟩

set_option maxRecDepth 100000 in
set_option maxHeartbeats 4000000 in
theorem gl_main (x y x' y' : Int) (hs : Inr (x, y)) (hm : Inr (x', y')) (A : Option Addr) (l : List (Int × Int)) (c : Nat) (hl : l.length ≤ 60) (hr : Inrs l) (hnc : A = none → c = 0) (hx0 : 0 ≤ x) (hx1 : x ≤ 1099511627776) (hx2 : ln x y ≤ 200) (w : World) (h : Spn w A l) :
    Calls Try.prog 6 #[.agg #[.int .i64 x, .int .i64 y], .slice A l.length c, .agg #[.int .i64 x', .int .i64 y']] w fun e w' => e = .returned (.bool true) ∧ Below w.heap.size w w' := by
  have en22 : ∀ args w, (callFunc 22 args).run Try.prog w = .ok (.enter 22 args) w := fun _ _ => by kernel_rfl
  have hrm : Inrs (l ++ [(x', y')]) := by
    intro z hz
    rcases List.mem_append.1 hz with h | h
    · exact hr z h
    · simp at h; subst h; exact hm
  have HG := Lib.hid (fun w (h : Spn w A l) => gaps_any (x, y) hs A l c (by omega) hr w h)
  have HGG := Lib.hid (fun A' c' w (h : Spn w A' (l ++ [(x', y')])) => gaps_any (x, y) hs A' (l ++ [(x', y')]) c' (by rw [List.length_append]; simp; omega) hrm w h)
  have L := fun w => len_any x y hs.2.2.2 w
  obtain ⟨q, eq⟩ : ∃ q, q = ln x y := ⟨_, rfl⟩
  rw [← eq] at L hx2
  have L := Lib.hid L
  have EQ := Lib.hid eq
  have HT := Lib.hid h
  have HR := Lib.hid hr
  have HS := Lib.hid hs
  have HNC := hnc
  clear eq h hr hs hm hrm
  go_enter Try.func6, Try.ntmps6
  go_wp2_with fail
  refine (awake_any _).mono ?_
  rintro e w1 ⟨rfl, hb⟩
  have BA := ((Blk.new w #[.int .i64 x, .int .i64 y] 23).alloc (.cells #[.int .i64 x', .int .i64 y'] 23)).below hb (by simp; omega)
  have BM := (Blk.new2 w (.cells #[.int .i64 x, .int .i64 y] 23) #[.int .i64 x', .int .i64 y'] 23).below hb (by simp)
  have hb1 := bt (B2 _ _ _) hb (by simp; omega)
  obtain ⟨a0, a1⟩ := BA.two
  have BA := Lib.hid BA
  have BM := Lib.hid BM
  clear hb
  go_wp2_with fail
  refine (L.out _).mono ?_
  rintro e w2 ⟨rfl, hb2⟩
  have BA2 := BA.out.below hb2 BA.out.lt
  have BM2 := BM.out.below hb2 BM.out.lt
  have hb3 := bt hb1 hb2 hb1.size
  obtain ⟨a0, a1⟩ := BA2.two
  have BA2 := Lib.hid BA2
  have BM2 := Lib.hid BM2
  clear hb2 hb1 BA BM L
  go_wp2_with fail
  refine (HG.out w2 (HT.out.below hb3)).mono ?_
  rintro e w3 ⟨v7, rfl, hown, hb4⟩
  have BA3 := BA2.out.below hb4 BA2.out.lt
  have BM3 := BM2.out.below hb4 BM2.out.lt
  have hb5 := bt hb3 hb4 hb3.size
  have hT3 := HT.out.below hb5
  have HT := Lib.hid hT3
  obtain ⟨A7, c7, rfl, hs7⟩ := spn_of_own hown
  have HS7 := Lib.hid hs7
  have HB5 := Lib.hid hb5
  have BA3 := Lib.hid BA3
  have BM3 := Lib.hid BM3
  obtain ⟨a0, a1⟩ := BA3.out.two
  obtain ⟨b0, b1⟩ := BM3.out.two
  clear hown hs7 hb3 hb4 hb5 hT3 HG BA2 BM2
  go_wp2_with fail
  refine wp_region_putsx (fun j u u' => (j = 6 → Keeps w3.heap.size (MoreF w3.heap.size l.length l (x', y')) u u') ∧ (j ≠ 6 → Bel u u')) [some (.is (.agg #[.int .i64 x, .int .i64 y])), some (.st (moreSt w3.heap.size l.length l (x', y') 1)), some (.is (.slice A l.length c)), some (.st (moreSt w3.heap.size l.length l (x', y') 3)), some (.is (.agg #[.int .i64 x', .int .i64 y'])), some (.st (moreSt w3.heap.size l.length l (x', y') 5)), some (.st (moreSt w3.heap.size l.length l (x', y') 6)), some (.st (glSt w3.heap.size (gapsF x y (l ++ [(x', y')])))), some (.st (glSt w3.heap.size (gapsF x y (l ++ [(x', y')]))))] (by kernel_rfl) (by kernel_rfl) (by kernel_rfl) (by kernel_rfl) ⟨by
    intro _ act W hS hun hd
    have h3 : act.eval (.tmp 3) = .pointer (some ⟨w.heap.size, 0, none⟩) := hun 3 (by kernel_rfl)
    refine rr_of (by decide) ?_
    exact g_load23 Grow.ofBelow rfl h3 (Ext.cell a0 ⟨W, hS⟩) (Ext.cell a1 ⟨W, hS⟩) rfl,
    by
    intro _ act W hS hun hd
    refine rr_of (by decide) ?_
    exact g_build32 rfl ⟨_, rfl, own_empty _ hS.size⟩,
    by
    intro _ act W hS hun hd
    have h1 : act.eval (.tmp 1) = .slice A l.length c := hun 1 (by kernel_rfl)
    refine rr_of (by decide) ?_
    exact g_move Grow.ofBelow (v := .slice A l.length c) rfl h1 rfl,
    by
    intro _ act W hS hun hd
    have h41 : MoreF w3.heap.size l.length l (x', y') 1 (act.eval (.tmp 41)) W := hd 1 _ 41 rfl rfl (by kernel_rfl)
    have h42 : act.eval (.tmp 42) = .slice A l.length c := hd 2 _ 42 rfl rfl (by kernel_rfl)
    obtain ⟨g, e, ho⟩ := h41
    rw [e] at ho
    obtain ⟨g2, cap2, w2, r1, r2, r3⟩ := run_append_first W w3.heap.size g 32 A l c hnc (by omega) hS.size ho (HT.out.below hS)
    refine rr_of (by decide) ?_
    exact g_append rfl e h42 r1 r3 ⟨g2, cap2, rfl, r2⟩,
    by
    intro _ act W hS hun hd
    have h5 : act.eval (.tmp 5) = .pointer (some ⟨w.heap.size + 1, 0, none⟩) := hun 5 (by kernel_rfl)
    refine rr_of (by decide) ?_
    exact g_load23 Grow.ofBelow rfl h5 (Ext.cell b0 ⟨W, hS⟩) (Ext.cell b1 ⟨W, hS⟩) rfl,
    by
    intro _ act W hS hun hd
    have h44 : act.eval (.tmp 44) = .agg #[.int .i64 x', .int .i64 y'] := hd 4 _ 44 rfl rfl (by kernel_rfl)
    refine rr_of (by decide) ?_
    exact g_one32 rfl h44 ⟨_, rfl, (Blk.new W _ _).two.1, (Blk.new W _ _).two.2⟩,
    by
    intro _ act W hS hun hd
    have h43 : MoreF w3.heap.size l.length l (x', y') 3 (act.eval (.tmp 43)) W := hd 3 _ 43 rfl rfl (by kernel_rfl)
    have h45 : MoreF w3.heap.size l.length l (x', y') 5 (act.eval (.tmp 45)) W := hd 5 _ 45 rfl rfl (by kernel_rfl)
    obtain ⟨g, cp, e, ho⟩ := h43
    obtain ⟨k, e5, k0, k1⟩ := h45
    rw [e] at ho
    obtain ⟨v2, w2, r1, r2, r3⟩ := run_append_more W w3.heap.size g cp k 32 l (x', y') (by omega) hS.size ho k0 k1
    exact rr_is (g_append rfl e e5 r1 r3 r2),
    by
    intro _ act W hS hun hd
    have h40 : act.eval (.tmp 40) = .agg #[.int .i64 x, .int .i64 y] := hd 0 _ 40 rfl rfl (by kernel_rfl)
    have h46 : MoreF w3.heap.size l.length l (x', y') 6 (act.eval (.tmp 46)) W := hd 6 _ 46 rfl rfl (by kernel_rfl)
    obtain ⟨g, cp, e, ho⟩ := h46
    obtain ⟨g3, c3, e3, hsp⟩ := spn_of_own (xs := l ++ [(x', y')]) (v := .slice (some ⟨g, 0, none⟩) (l.length + 1) cp) (by rw [List.length_append]; rw [e] at ho; exact ho)
    rw [e3] at e
    refine rr_of (by decide) ?_
    exact g_call (G := Bel) (f := 22) (args := #[.agg #[.int .i64 x, .int .i64 y], .slice g3 (l ++ [(x', y')]).length c3]) rfl en22 (by simp only [List.map_toArray, List.map_cons, List.map_nil, h40, e]) ((HGG.out g3 c3 W hsp).mono fun _ w' ⟨v, he, ho, hb⟩ => ⟨v, he, hb, own_mono ho hS.size⟩),
    by
    intro _ act W hS hun hd
    have h47 : (Sp.st (glSt w3.heap.size (gapsF x y (l ++ [(x', y')])))).holds (act.eval (.tmp 47)) W := hd 7 _ 47 rfl rfl (by kernel_rfl)
    refine rr_of (by decide) ?_
    exact g_assign Grow.ofBelow rfl rfl h47,
    trivial⟩ (fun j u => ⟨fun _ => (Keeps.grow (MoreF.grows _ _ _ _)).refl u, fun _ => Below.refl _ _⟩) (fun j u u' hS h => ?_) (fun i j v u u' hn hS h hv => ?_) ?_
  · by_cases hj : j = 6
    · exact hS.trans (h.1 hj).1
    · exact bt hS (h.2 hj) hS.size
  · by_cases hj : j = 6
    · subst hj
      have hk := (h.1 rfl).2
      match i, hn, hv with
      | 0, _, hv => exact hv
      | 1, _, hv => exact hk 1 v hv
      | 2, _, hv => exact hv
      | 3, _, hv => exact hk 3 v hv
      | 4, _, hv => exact hv
      | 5, _, hv => exact hk 5 v hv
      | 6, _, hv => exact hk 6 v hv
      | 7, hn, _ => exact absurd ⟨_, rfl, { on := 6, ground := .data }, by simp, rfl, rfl⟩ hn
      | 8, hn, _ => exact absurd ⟨_, rfl, { on := 6, ground := .phase }, by simp, rfl, rfl⟩ hn
      | (i + 9), _, hv => exact hv
    · exact (rowOf _ i).mono v u u' (h.2 hj) hv
  intro f W hS hf
  have h8 : (Sp.st (glSt w3.heap.size (gapsF x y (l ++ [(x', y')])))).holds (f 8) W := hf 8 _ 8 rfl rfl
  obtain ⟨A8, c8, e8, hs8⟩ := spn_of_own h8
  have HS8 := Lib.hid hs8
  have HT4 := Lib.hid (HT.out.below hS)
  have HS74 := Lib.hid (HS7.out.below hS)
  have BA4 := Lib.hid (BA3.out.below hS BA3.out.lt)
  have HB6 := Lib.hid (bt HB5.out hS HB5.out.size)
  clear hf hS h8 hs8 HS7 HT BA3 BM3 HB5 a0 a1 b0 b1 HGG en22
  simp only [putOps]
  go_simp
  clear e8
  generalize f 40 = f40
  generalize f 41 = f41
  generalize f 42 = f42
  generalize f 43 = f43
  generalize f 44 = f44
  generalize f 45 = f45
  generalize f 46 = f46
  generalize f 47 = f47
  clear f
  have hgl := gapsF_len x y l
  have hhl := gapsF_len x y (l ++ [(x', y')])
  rw [List.length_append] at hhl
  simp only [List.length_cons, List.length_nil] at hhl
  have GA := Lib.hid (fun i hi => gaps_at (x := x) (y := y) l (i := i) hi)
  have GN := Lib.hid (fun i hi => gaps_next (x := x) (y := y) l (i := i) hi)
  have GC := Lib.hid (fun h p h1 h2 => gaps_cnt (x := x) (y := y) l h (p := p) h1 h2)
  have GF := Lib.hid (fun h p h1 h2 => gaps_fewer (x := x) (y := y) l (x', y') h (p := p) h1 h2)
  obtain ⟨gs, egs⟩ : ∃ gs, gs = gapsF x y l := ⟨_, rfl⟩
  obtain ⟨hz, ehz⟩ : ∃ hz, hz = gapsF x y (l ++ [(x', y')]) := ⟨_, rfl⟩
  rw [← egs] at GA GN GC GF HS74 hgl ⊢
  rw [← ehz] at GF HS8 hhl ⊢
  clear egs ehz
  have IN := Lib.hid (fun a1 a2 b1 b2 w => in_raw a1 a2 b1 b2 w)
  have LN := Lib.hid (fun a1 a2 h w => len_any a1 a2 h w)
  have HA := Lib.hid (fun a1 a2 p w => has_any a1 a2 p w)
  have h0 : GSt w x y A l A7 gs A8 hz W := ⟨HB6.out, BA4.out, HT4.out, HS74.out, HS8.out⟩
  have H0 := Lib.hid h0
  clear h0 HB6 BA4 HT4 HS74 HS8
  go_wp2_with fail
  obtain ⟨W0, rfl⟩ : ∃ wo : World, wo = W := ⟨_, rfl⟩
  go_loopw [9] (fun i wr => ∃ k : Nat, k ≤ gs.length ∧ i = .int .i64 k ∧ GSt w x y A l A7 gs A8 hz wr) (fun i _ => gs.length - (intOf i).toNat)
  case atStart => exact ⟨0, by omega, rfl, H0.out⟩
  case round =>
    obtain ⟨k, hk, rfl, hst⟩ := hrel
    have HST := Lib.hid hst
    clear hst H0
    by_cases hlt : k < gs.length
    · obtain ⟨g1, g2, g3, g4, g5⟩ := GA.out k hlt
      obtain ⟨gb, go, rfl, hgl2, hgc⟩ := HST.out.2.2.2.1 (by omega)
      obtain ⟨c0, c1⟩ := hgc k hlt
      obtain ⟨s0, s1⟩ := HST.out.2.1.two
      obtain ⟨z, ez⟩ : ∃ z, z = gs.getD k (0, 0) := ⟨_, rfl⟩
      rw [← ez] at c0 c1 g3 g4 g5
      have EZ := Lib.hid ez
      have HGC := Lib.hid hgc
      clear hgc ez
      obtain ⟨z1, z2⟩ := z
      dsimp only at c0 c1 g3 g4 g5
      have hlt2 : (k : Int) < gs.length := by omega
      have eI : (rt z1 z2 && rt x y && decide (x ≤ z1) && decide (z2 ≤ y)) = true := by
        simp [rt]; simp [rt] at g1; omega
      have I := fun w => IN.out z1 z2 x y w
      rw [eI] at I
      have hyy : z2 < 9223372036854775808 := by have := HS.out.2.2.2; simp only at this; omega
      have M := fun w => LN.out z1 z2 hyy w
      have eL : ln z1 z2 = z2 - z1 := by unfold ln rt; rw [if_pos (by simp; omega)]
      obtain ⟨m, em⟩ : ∃ m, m = ln z1 z2 := ⟨_, rfl⟩
      rw [← em] at M
      have hm0 : (m == 0) = false := by simp; omega
      have I := Lib.hid I
      have M := Lib.hid M
      clear eI eL em g1
      have d2 := fun e => Ext.cell s0 e
      have d3 := fun e => Ext.cell s1 e
      by_cases hk0 : k = 0
      · subst hk0
        simp only [Nat.zero_mul, Nat.add_zero] at c0 c1
        have hlt3 : (0 : Int) < gs.length := by omega
        have d0 := fun e => Ext.cell c0 e
        have d1 := fun e => Ext.cell c1 e
        clear hlt2
        go_wp2_with fail
        refine wp_region_ext (by kernel_rfl) (by kernel_rfl) ?_
        repeat (first | go_big_quiet_step (first | (go_at_call 16; exact Calls.ext_of (I.out _)) | (go_at_call 12; exact Calls.ext_of (M.out _))) | quiet_step (first | (go_at_call 16; exact Calls.ext_of (I.out _)) | (go_at_call 12; exact Calls.ext_of (M.out _))))
        refine wpQuiet_nil ?_
        intro W4 hw'
        obtain ⟨⟨_, hb4⟩, rfl⟩ := hw'
        have HST4 := Lib.hid (HST.out.below hb4)
        clear d0 d1 d2 d3 c0 c1 s0 s1 hb4 HST
        go_wp2_with fail
        go_roundw
        case rel => exact ⟨1, by omega, rfl, HST4.out⟩
        case measure => simp [intOf]; omega
      · obtain ⟨k', rfl⟩ : ∃ k', k = k' + 1 := ⟨k - 1, by omega⟩
        obtain ⟨e0, e1⟩ := HGC.out k' (by omega)
        have hnx := GN.out k' hlt
        rw [← EZ.out] at hnx
        dsimp only at hnx
        generalize (gs.getD k' (0, 0)).1 = p1 at e0
        generalize (gs.getD k' (0, 0)).2 = p2 at e1 hnx
        have hw1 : IntKind.i64.wrap (((k' + 1 : Nat) : Int) - 1) = (k' : Int) := by
          rw [IntWalk.i64_in _ (by omega)]; omega
        have hk1 : (k' : Int) < gs.length := by omega
        have hk2 : decide ((0 : Int) < ((k' + 1 : Nat) : Int)) = true := by simp <;> omega
        have d0 := fun e => Ext.cell c0 e
        have d1 := fun e => Ext.cell c1 e
        have d4 := fun e => Ext.cell e0 e
        have d5 := fun e => Ext.cell e1 e
        go_wp2_with fail
        refine wp_region_ext (by kernel_rfl) (by kernel_rfl) ?_
        repeat (first | go_big_quiet_step (first | (go_at_call 16; exact Calls.ext_of (I.out _)) | (go_at_call 12; exact Calls.ext_of (M.out _))) | quiet_step (first | (go_at_call 16; exact Calls.ext_of (I.out _)) | (go_at_call 12; exact Calls.ext_of (M.out _))))
        refine wpQuiet_nil ?_
        intro W4 hw'
        obtain ⟨⟨_, hb4⟩, rfl⟩ := hw'
        have HST4 := Lib.hid (HST.out.below hb4)
        clear d0 d1 d2 d3 d4 d5 c0 c1 s0 s1 e0 e1 hb4 HST
        go_wp2_with fail
        go_roundw
        case rel => exact ⟨k' + 2, by omega, by go_num, HST4.out⟩
        case measure => simp [intOf]; omega
    · obtain rfl : k = gs.length := by omega
      obtain ⟨s0, s1⟩ := HST.out.2.1.two
      go_wp2_with fail
      obtain ⟨W5, rfl⟩ : ∃ wo : World, wo = wr := ⟨_, rfl⟩
      clear s0 s1
      go_loopw [10] (fun i wr => ∃ p : Int, x ≤ p ∧ (p ≤ y ∨ p = x) ∧ i = .int .i64 p ∧ GSt w x y A l A7 gs A8 hz wr) (fun i _ => (y - intOf i).toNat)
      case atStart => exact ⟨x, by omega, .inr rfl, rfl, HST.out⟩
      case round =>
        obtain ⟨p, hp1, hp2, rfl, hst⟩ := hrel
        have HST := Lib.hid hst
        clear hst
        obtain ⟨s0, s1⟩ := HST.out.2.1.two
        have hys := HS.out.2.2.2
        simp only at hys
        by_cases hpy : p < y
        · have hrt : rt x y = true := by simp [rt]; omega
          obtain ⟨gc1, gc2⟩ := GC.out hrt p hp1 hpy
          have gf := GF.out hrt p hp1 hpy
          have GC1 := Lib.hid gc1
          have GC2 := Lib.hid gc2
          have GFF := Lib.hid gf
          clear gc1 gc2 gf
          go_wp2_with fail
          obtain ⟨W6, rfl⟩ : ∃ wo : World, wo = wr := ⟨_, rfl⟩
          clear s0 s1
          go_loopw [11, 14] (fun b i wr => ∃ k : Nat, k ≤ l.length ∧ i = .int .i64 k ∧ b = .bool (anyH (l.take k) p) ∧ GSt w x y A l A7 gs A8 hz wr) (fun _ i _ => l.length - (intOf i).toNat)
          case atStart => exact ⟨0, by omega, rfl, rfl, HST.out⟩
          case round =>
            obtain ⟨k, hk, rfl, rfl, hst⟩ := hrel
            have HST := Lib.hid hst
            clear hst
            by_cases hlt : k < l.length
            · have hat := anyH_take hlt p
              obtain ⟨lb, lo, rfl, hll, hlc⟩ := HST.out.2.2.1 (by omega)
              obtain ⟨c0, c1⟩ := hlc k hlt
              obtain ⟨z, ez⟩ : ∃ z, z = l.getD k (0, 0) := ⟨_, rfl⟩
              rw [← ez] at c0 c1 hat
              clear hlc ez
              obtain ⟨z1, z2⟩ := z
              have H := fun w => HA.out z1 z2 p w
              have eh : hs z1 z2 p = hasz p (z1, z2) := rfl
              rw [eh] at H
              generalize hasz p (z1, z2) = hh at H hat
              have H := Lib.hid H
              have HAT := Lib.hid hat
              have hlt2 : (k : Int) < l.length := by omega
              dsimp only at c0 c1
              cases hb : anyH (l.take k) p with
              | true =>
                have HBb := Lib.hid hb
                clear hat hb eh
                go_wp2_with fail
                go_roundw
                case rel => exact ⟨k + 1, by omega, by go_num, by rw [HAT.out, HBb.out]; rfl, HST.out⟩
                case measure => simp [intOf]; omega
              | false =>
                have HBb := Lib.hid hb
                clear hat hb eh
                go_wp2_with fail
                refine (H.out _).mono ?_
                rintro e W7 ⟨rfl, hb7⟩
                have HST7 := Lib.hid (HST.out.below hb7)
                clear hb7 c0 c1 HST
                go_wp2_with fail
                go_roundw
                case rel => exact ⟨k + 1, by omega, by go_num, by rw [HAT.out, HBb.out]; simp, HST7.out⟩
                case measure => simp [intOf]; omega
            · obtain rfl : k = l.length := by omega
              rw [List.take_length]
              generalize anyH l p = bin at GC1 GC2
              go_wp2_with fail
              obtain ⟨W8, rfl⟩ : ∃ wo : World, wo = wr := ⟨_, rfl⟩
              go_loopw [12, 15] (fun b i wr => ∃ k : Nat, k ≤ gs.length ∧ i = .int .i64 k ∧ b = .int .i64 (cntH (gs.take k) p : Nat) ∧ GSt w x y A l A7 gs A8 hz wr) (fun _ i _ => gs.length - (intOf i).toNat)
              case atStart => exact ⟨0, by omega, rfl, rfl, HST.out⟩
              case round =>
                clear HST
                obtain ⟨k, hk, rfl, rfl, hst⟩ := hrel
                have HST := Lib.hid hst
                clear hst
                have hck := cntH_le (gs.take k) p
                rw [List.length_take, Nat.min_eq_left hk] at hck
                by_cases hlt : k < gs.length
                · have hat := cntH_take hlt p
                  obtain ⟨lb, lo, rfl, hll, hlc⟩ := HST.out.2.2.2.1 (by omega)
                  obtain ⟨c0, c1⟩ := hlc k hlt
                  obtain ⟨z, ez⟩ : ∃ z, z = gs.getD k (0, 0) := ⟨_, rfl⟩
                  rw [← ez] at c0 c1 hat
                  clear hlc ez
                  obtain ⟨z1, z2⟩ := z
                  have H := fun w => HA.out z1 z2 p w
                  have eh : hs z1 z2 p = hasz p (z1, z2) := rfl
                  rw [eh] at H
                  generalize hasz p (z1, z2) = hh at H hat
                  generalize cntH (gs.take k) p = cn at hat hck
                  have H := Lib.hid H
                  have HAT := Lib.hid hat
                  have hlt2 : (k : Int) < gs.length := by omega
                  dsimp only at c0 c1
                  clear hat eh
                  cases hh with
                  | true =>
                    go_wp2_with fail
                    refine (H.out _).mono ?_
                    rintro e W7 ⟨rfl, hb7⟩
                    have HST7 := Lib.hid (HST.out.below hb7)
                    clear hb7 c0 c1 HST
                    go_wp2_with fail
                    go_roundw
                    case rel => exact ⟨k + 1, by omega, by go_num, by rw [HAT.out]; go_num, HST7.out⟩
                    case measure => simp [intOf]; omega
                  | false =>
                    go_wp2_with fail
                    refine (H.out _).mono ?_
                    rintro e W7 ⟨rfl, hb7⟩
                    have HST7 := Lib.hid (HST.out.below hb7)
                    clear hb7 c0 c1 HST
                    go_wp2_with fail
                    go_roundw
                    case rel => exact ⟨k + 1, by omega, by go_num, by rw [HAT.out]; go_num, HST7.out⟩
                    case measure => simp [intOf]; omega
                · obtain rfl : k = gs.length := by omega
                  rw [List.take_length] at *
                  go_wp2_with fail
                  obtain ⟨W9, rfl⟩ : ∃ wo : World, wo = wr := ⟨_, rfl⟩
                  go_loopw [13, 16] (fun b i wr => ∃ k : Nat, k ≤ hz.length ∧ i = .int .i64 k ∧ b = .int .i64 (cntH (hz.take k) p : Nat) ∧ GSt w x y A l A7 gs A8 hz wr) (fun _ i _ => hz.length - (intOf i).toNat)
                  case atStart => exact ⟨0, by omega, rfl, rfl, HST.out⟩
                  case round =>
                    clear HST
                    obtain ⟨k, hk, rfl, rfl, hst⟩ := hrel
                    have HST := Lib.hid hst
                    clear hst
                    have hck := cntH_le (hz.take k) p
                    rw [List.length_take, Nat.min_eq_left hk] at hck
                    by_cases hlt : k < hz.length
                    · have hat := cntH_take hlt p
                      obtain ⟨lb, lo, rfl, hll, hlc⟩ := HST.out.2.2.2.2 (by omega)
                      obtain ⟨c0, c1⟩ := hlc k hlt
                      obtain ⟨z, ez⟩ : ∃ z, z = hz.getD k (0, 0) := ⟨_, rfl⟩
                      rw [← ez] at c0 c1 hat
                      clear hlc ez
                      obtain ⟨z1, z2⟩ := z
                      have H := fun w => HA.out z1 z2 p w
                      have eh : hs z1 z2 p = hasz p (z1, z2) := rfl
                      rw [eh] at H
                      generalize hasz p (z1, z2) = hh at H hat
                      generalize cntH (hz.take k) p = cn at hat hck
                      have H := Lib.hid H
                      have HAT := Lib.hid hat
                      have hlt2 : (k : Int) < hz.length := by omega
                      dsimp only at c0 c1
                      clear hat eh
                      cases hh with
                      | true =>
                        go_wp2_with fail
                        refine (H.out _).mono ?_
                        rintro e W7 ⟨rfl, hb7⟩
                        have HST7 := Lib.hid (HST.out.below hb7)
                        clear hb7 c0 c1 HST
                        go_wp2_with fail
                        go_roundw
                        case rel => exact ⟨k + 1, by omega, by go_num, by rw [HAT.out]; go_num, HST7.out⟩
                        case measure => simp [intOf]; omega
                      | false =>
                        go_wp2_with fail
                        refine (H.out _).mono ?_
                        rintro e W7 ⟨rfl, hb7⟩
                        have HST7 := Lib.hid (HST.out.below hb7)
                        clear hb7 c0 c1 HST
                        go_wp2_with fail
                        go_roundw
                        case rel => exact ⟨k + 1, by omega, by go_num, by rw [HAT.out]; go_num, HST7.out⟩
                        case measure => simp [intOf]; omega
                    · obtain rfl : k = hz.length := by omega
                      rw [List.take_length] at *
                      obtain ⟨s0, s1⟩ := HST.out.2.1.two
                      have gc1 := GC1.out
                      have gc2 := GC2.out
                      have gf := GFF.out
                      generalize cntH gs p = no at gc1 gc2 gf
                      generalize cntH hz p = nf at gf
                      have hgf : decide ((no : Int) < (nf : Int)) = false := by simp; omega
                      cases bin with
                      | true =>
                        obtain rfl : no = 0 := gc1 rfl
                        obtain rfl : nf = 0 := by omega
                        clear gc1 gc2 gf hgf
                        go_wp2_with fail
                        go_roundw
                        case rel => exact ⟨p + 1, by omega, .inl (by omega), rfl, HST.out⟩
                        case measure => simp [intOf]; omega
                      | false =>
                        obtain rfl : no = 1 := gc2 rfl
                        have hnf : nf = 0 ∨ nf = 1 := by omega
                        clear gc1 gc2 gf hgf
                        rcases hnf with rfl | rfl
                        · go_wp2_with fail
                          go_roundw
                          case rel => exact ⟨p + 1, by omega, .inl (by omega), rfl, HST.out⟩
                          case measure => simp [intOf]; omega
                        · go_wp2_with fail
                          go_roundw
                          case rel => exact ⟨p + 1, by omega, .inl (by omega), rfl, HST.out⟩
                          case measure => simp [intOf]; omega
        · go_wp2_with fail
          go_ret
          exact ⟨rfl, HST.out.1⟩
end Go.Proofs.Ytgploogflhfolaa

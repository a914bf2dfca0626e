/- Preorder, measured from the last node on: the program's answer. -/
import Derived.Test.YtlbjmkljmhfjdaaGreatA7
set_option linter.unusedSimpArgs false
set_option linter.unusedVariables false
namespace Go.Proofs.YtlbjmkljmhfjdaaGreat
open Go Go.RowKit Go.Shelf
attribute [local go_sem] Oper.semAt_some
theorem Tryz.info291 : (Tryz.prog.info? 291).map (fun i => (i.zero, i.size, i.bytes)) = some (some (.agg #[.int .i64 0, .int .i64 0]), 2, 16) := by kernel_rfl
/-- What lies while nodes are measured, from the last one on down to j. -/
structure PSt (w : World) (a : List Nd) (A : Option Addr) (c m t1 t2 t3 t4 g j : Nat) (W : World) : Prop where
  b1 : Blk W t1 #[.slice A m c] 23
  b2 : Blk W t2 #[.slice none 0 0] 215
  b3 : Blk W t3 #[.bool false] 4
  b4 : Blk W t4 #[.slice (some ⟨g, 0, none⟩) m m] 215
  row : ∃ cs ms, Blk W g cs 291 ∧ cs.size = m * 2 ∧ Measured a ms j ∧ ∀ i, j ≤ i → i < m → cs[i * 2]? = some (.int .i64 (ms i).1) ∧ cs[i * 2 + 1]? = some (.int .i64 (ms i).2)
  low : Below w.heap.size w W
theorem PSt.keep {w W W' : World} {a : List Nd} {A : Option Addr} {c m t1 t2 t3 t4 g j B : Nat} (h : PSt w a A c m t1 t2 t3 t4 g j W) (hb : Below B W W') (hB : t1 < B ∧ t2 < B ∧ t3 < B ∧ t4 < B ∧ g < B ∧ w.heap.size ≤ B) : PSt w a A c m t1 t2 t3 t4 g j W' := by
  obtain ⟨cs, ms, h1, h2, h3, h4⟩ := h.row
  exact ⟨h.b1.below hb hB.1, h.b2.below hb hB.2.1, h.b3.below hb hB.2.2.1, h.b4.below hb hB.2.2.2.1, ⟨cs, ms, h1.below hb hB.2.2.2.2.1, h2, h3, h4⟩, h.low.trans (hb.mono hB.2.2.2.2.2)⟩
/-- Measures in memory. -/
def MeasAt (W : World) (v : Value) (m : Nat) (ms : Nat → Meas) : Prop := ∃ g, v = .slice (some ⟨g, 0, none⟩) m m ∧ g < W.heap.size ∧ ∀ i, i < m → W.cell? ⟨g, i * 2, none⟩ = some (.int .i64 (ms i).1) ∧ W.cell? ⟨g, i * 2 + 1, none⟩ = some (.int .i64 (ms i).2)
theorem MeasAt.below {W W' : World} {v : Value} {m : Nat} {ms : Nat → Meas} (h : MeasAt W v m ms) (hb : Below W.heap.size W W') : MeasAt W' v m ms := by
  obtain ⟨g, e, hg, hc⟩ := h
  exact ⟨g, e, Nat.lt_of_lt_of_le hg hb.size, fun i hi => ⟨(hb.cell (p := ⟨g, i * 2, none⟩) hg).trans (hc i hi).1, (hb.cell (p := ⟨g, i * 2 + 1, none⟩) hg).trans (hc i hi).2⟩⟩
def PreEnd (w : World) (a : List Nd) (e : Ending) (w' : World) : Prop :=
  ∃ v, e = .returned (.tuple #[v, .bool (preB a)]) ∧ Below w.heap.size w w' ∧ (preB a = true → ∃ ms, Measured a ms 0 ∧ MeasAt w' v a.length ms) ∧ (preB a = false → v = .slice none 0 0)
theorem results_two {tmps : Array Value} {w : World} {b d : Nat} {v u : Value} (hp : tmps.getD 2 undef = .pointer (some ⟨b, 0, none⟩)) (hq : tmps.getD 3 undef = .pointer (some ⟨d, 0, none⟩))
    (c1 : w.cell? ⟨b, 0, none⟩ = some v) (c2 : w.cell? ⟨d, 0, none⟩ = some u) : (results Tryz.f236 tmps).run Tryz.prog w = .ok (.tuple #[v, u]) w := by
  have hp' : tmps[2]?.getD undef = .pointer (some ⟨b, 0, none⟩) := by simpa using hp
  have hq' : tmps[3]?.getD undef = .pointer (some ⟨d, 0, none⟩) := by simpa using hq
  have a64 := Tryz.isAgg215
  have a4 := Tryz.isAgg4
  simp [results, Tryz.results236, hp', hq', go_sem, c1, c2]
set_option maxRecDepth 100000 in
set_option maxHeartbeats 8000000 in
theorem pre_any (A : Option Addr) (c : Nat) (a : List Nd) (ha : a.length ≤ 2048) (w : World) (hA : Nodes w A a) (hk : ∀ x ∈ a, Nd.At w x) :
    Calls Tryz.prog 236 #[.slice A a.length c] w (PreEnd w a) := by
  obtain ⟨i0, hi, hz0, hz1, hz2⟩ := info_parts Tryz.info291
  have HA := Lib.hid hA
  have HK := Lib.hid hk
  obtain ⟨m, em⟩ : ∃ m, m = a.length := ⟨_, rfl⟩
  rw [← em] at ha ⊢
  have EM := Lib.hid em
  clear hA hk em
  obtain ⟨W3, eW3⟩ : ∃ u, u = ((w.alloc (.cells #[.slice A m c] 23)).alloc (.cells #[.slice none 0 0] 215)).alloc (.cells #[.bool false] 4) := ⟨_, rfl⟩
  have hs3 : W3.heap.size = w.heap.size + 3 := by rw [eW3]; simp
  have b3 : Below w.heap.size w W3 := by rw [eW3]; exact (B2 _ _ _).alloc (by simp; omega) _
  have k1 : Blk W3 w.heap.size #[.slice A m c] 23 := by rw [eW3]; exact ((Blk.new w _ _).alloc _).alloc _
  have k2 : Blk W3 (w.heap.size + 1) #[.slice none 0 0] 215 := by
    rw [eW3]; have := (Blk.new (w.alloc (.cells #[.slice A m c] 23)) #[.slice none 0 0] 215).alloc (.cells #[.bool false] 4); rw [World.size_alloc] at this; exact this
  have k3 : Blk W3 (w.heap.size + 1 + 1) #[.bool false] 4 := by
    rw [eW3]; have := (Blk.new ((w.alloc (.cells #[.slice A m c] 23)).alloc (.cells #[.slice none 0 0] 215)) #[.bool false] 4); rw [World.size_alloc, World.size_alloc] at this; exact this
  have P3 := Lib.hid (And.intro hs3 (And.intro b3 (And.intro k1 (And.intro k2 k3))))
  have E3 := Lib.hid eW3
  clear eW3 hs3 b3 k1 k2 k3
  refine (callsIn_wide (n := 12)).1 ?_
  refine callsIn_of_wp_marks Tryz.func236 rfl trivial ?_ rfl
  simp only [Tryz.ntmps236, List.size_toArray, List.length_cons, List.length_nil, Nat.reduceAdd, Nat.reduceSub, Array.replicate_succ, Array.replicate_zero, List.push_toArray, List.append_toArray, List.nil_append, List.cons_append]
  refine wpIn_wide.2 ?_
  go_wp2_with (first | (at_make; refine wpList_make_full _ rfl _ _ 215 rfl w.heap.size 291 i0 (.agg #[.int .i64 0, .int .i64 0]) 2 Tryz.underlying215 hi hz0 hz1 .i64 .i64 _ _ m rfl rfl rfl rfl (by rw [hz2]; omega) (by unfold maxLen; omega) (by simp; omega) ?_; intro w0 hown0 hgrow0; rw [← E3.out] at hgrow0; have hb0 := (Below.refl W3.heap.size W3).grown hgrow0 (Nat.le_refl _) (fun k hk => by cases hk); have K1 := fun o => ((P3.out.2.2.1.below' hb0).alloc o).cell 0; simp only [List.getElem?_toArray, List.getElem?_cons_zero] at K1; have H0 := Lib.hid hb0; have O0 := Lib.hid hown0; clear hgrow0 hown0 hb0) | (go_at_call 263; refine (back_node_any _ _ _ _).mono ?_; rintro e w8 ⟨rfl, rfl⟩))
  clear K1
  obtain ⟨g, eg⟩ : ∃ g, g = w.heap.size + 1 + 1 + 1 := ⟨_, rfl⟩
  obtain ⟨t1, et1⟩ : ∃ g, g = w.heap.size := ⟨_, rfl⟩
  obtain ⟨t2, et2⟩ : ∃ g, g = w.heap.size + 1 := ⟨_, rfl⟩
  obtain ⟨t3, et3⟩ : ∃ g, g = w.heap.size + 1 + 1 := ⟨_, rfl⟩
  obtain ⟨t4, et4⟩ : ∃ g, g = w0.heap.size := ⟨_, rfl⟩
  have ep : (w0.alloc (.cells #[.slice (some ⟨g, 0, none⟩) m m] 215)).heap.size = t4 + 1 := by rw [et4]; simp
  obtain ⟨wl, ewl⟩ : ∃ u, u = (w0.alloc (.cells #[.slice (some ⟨g, 0, none⟩) m m] 215)).alloc (.cells #[.slice A m c] 23) := ⟨_, rfl⟩
  have hbl : Below w0.heap.size w0 wl := by rw [ewl]; exact B2 _ _ _
  have hg0 : g < w0.heap.size ∧ ∃ cs, Blk w0 g cs 291 ∧ cs.size = m * 2 := by
    rcases O0.out.2 with ⟨hn, _⟩ | ⟨g', cap', cur, hv, hbg, hgh, hnc, hcm, hcs, htake⟩
    · cases hn
    · simp only [Value.slice.injEq, Option.some.injEq, Addr.mk.injEq, and_true, true_and] at hv
      obtain ⟨hv1, hv2⟩ := hv
      simp only [World.size_alloc] at hv1
      rw [← eg] at hv1
      subst hv1 hv2
      exact ⟨(Array.getElem?_eq_some_iff.1 hgh).1, cur, hgh, hcs⟩
  have hz0' : w.heap.size + 3 ≤ w0.heap.size := by have := H0.out.size; have := P3.out.1; omega
  have F0 : RowKit.Hid (PSt w a A c m t1 t2 t3 t4 g m wl) := Lib.hid (by
    obtain ⟨q1, q2, q3, q4, q5⟩ := P3.out
    obtain ⟨cs, hcs1, hcs2⟩ := hg0.2
    have hb3 : Below W3.heap.size W3 wl := H0.out.trans (hbl.mono H0.out.size)
    refine ⟨by rw [et1]; exact q3.below' hb3, by rw [et2]; exact q4.below' hb3, by rw [et3]; exact q5.below' hb3, by rw [ewl, et4]; exact (Blk.new w0 _ _).alloc _, ⟨cs, fun _ => (0, 0), hcs1.below' hbl, hcs2, fun i h1 h2 => by have := EM.out; omega, fun i h1 h2 => by omega⟩, q2.trans (hb3.mono (by omega))⟩)
  have BP : RowKit.Hid (Blk wl (t4 + 1) #[.slice A m c] 23) := Lib.hid (by rw [ewl, ← ep]; exact Blk.new _ _ _)
  have NE : RowKit.Hid (t1 = w.heap.size ∧ t2 = w.heap.size + 1 ∧ t3 = w.heap.size + 2 ∧ g = w.heap.size + 3 ∧ g < t4 ∧ wl.heap.size = t4 + 2 ∧ w.heap.size + 3 ≤ t4) := Lib.hid ⟨by omega, by omega, by omega, by omega, by omega, by rw [ewl, et4]; simp, by omega⟩
  have AN : RowKit.Hid (∀ b o, A = some ⟨b, o, none⟩ → 0 < a.length → b < w.heap.size) := Lib.hid (fun b o e h0 => by
    obtain ⟨b', o', e', hb', _⟩ := HA.out h0
    rw [e] at e'
    cases e'
    exact hb')
  rw [← eg, ← ewl, ← et3, ← et2, ← et1, ← et4]
  clear eg et1 et2 et3 et4 ep ewl hbl hg0 hz0' P3 E3 H0 O0
  refine (wpIn_wide (n := 12)).1 ?_
  refine wpIn_rangeFunc_x (n := 12) (by omega) (gf := 297) (lb := #[.pointer (some ⟨t4 + 1, 0, none⟩)]) rfl (enters_of Tryz.func297 (by kernel_rfl) rfl)
    (G := fun k => k < wl.heap.size ∧ k ≠ g) (by have := back_node_seq 11 (by omega) (t4 + 1) A c a (by have := EM.out; omega) (fun k => k < wl.heap.size ∧ k ≠ g) ⟨by have := NE.out; omega, by have := NE.out; omega⟩ (fun b o e h0 => ⟨by have := AN.out b o e h0; have := NE.out; omega, by have := AN.out b o e h0; have := NE.out; omega⟩) wl (by rw [← EM.out]; exact BP.out) (HA.out.below (F0.out.low)); rw [← EM.out] at this; exact this)
    (Below.refl _ _) (fun _ => rfl) (fun k h => h.1)
    (fun k W => PSt w a A c m t1 t2 t3 t4 g (m - k) W) (fun cd _ W => cd = .ret ∧ Blk W t2 #[.slice none 0 0] 215 ∧ Blk W t3 #[.bool false] 4 ∧ Below w.heap.size w W ∧ preB a = false)
    ?low ?lowx (by simpa using F0.out)
    (fun k b => { tmps := #[.slice A m c, .pointer (some ⟨t1, 0, none⟩), .pointer (some ⟨t2, 0, none⟩), .pointer (some ⟨t3, 0, none⟩), .pointer (some ⟨t4, 0, none⟩), .int .i64 ((m - 1 - k : Nat) : Int), .pointer (some ⟨b, 0, none⟩), undef, undef, undef, undef, .slice A m c, .int .i64 m, .slice (some ⟨g, 0, none⟩) m m, .slice A m c, .func (.func 297) #[] #[.pointer (some ⟨t4 + 1, 0, none⟩)], .int .i64 ((m - 1 - k : Nat) : Int), (a.getD (m - 1 - k) Nd.zero).val, undef, undef, undef, undef, undef, undef, undef, undef, undef, undef, undef, undef, undef, undef, undef, undef, undef, undef, undef, undef, undef, undef, undef, undef, undef, undef, undef, undef, undef, undef, undef, undef, undef, undef, undef, undef, undef, undef, undef, undef, undef, undef, undef], defers := [] }) (fun k => .cells #[.int .i64 (a.getD (m - 1 - k) Nd.zero).kind, .int .u64 (a.getD (m - 1 - k) Nd.zero).c0, .int .u64 (a.getD (m - 1 - k) Nd.zero).c1, .int .u64 (a.getD (m - 1 - k) Nd.zero).c2, .int .u64 (a.getD (m - 1 - k) Nd.zero).c3, .string (a.getD (m - 1 - k) Nd.zero).text, .int .i64 (a.getD (m - 1 - k) Nd.zero).rule, .int .i64 (a.getD (m - 1 - k) Nd.zero).level, .slice (a.getD (m - 1 - k) Nd.zero).A (a.getD (m - 1 - k) Nd.zero).kids.length (a.getD (m - 1 - k) Nd.zero).cap] 40) ?assign ?body ?done ?stop
  case low =>
    intro s X X' h hb
    exact h.keep hb ⟨by have := NE.out; omega, by have := NE.out; omega, by have := NE.out; omega, by have := NE.out; omega, by have := NE.out; omega, by have := NE.out; omega⟩
  case lowx =>
    rintro cd s X X' ⟨h1, h2, h3, h4, h5⟩ hb
    exact ⟨h1, h2.below hb (by have := NE.out; omega), h3.below hb (by have := NE.out; omega), h4.trans (hb.mono (by have := NE.out; omega)), h5⟩
  case assign =>
    intro l2 k W K hK
    gi_wp2
    exact hK
  case body =>
    rintro l2 k b W hF hz hob hkm
    have hkm2 : k < m := hkm
    obtain ⟨i, hi⟩ : ∃ i : Nat, i = m - 1 - k := ⟨_, rfl⟩
    rw [← hi] at hob ⊢
    rw [show m - k = i + 1 by omega] at hF
    have hfin : m - (k + 1) = i := by omega
    have HFIN := Lib.hid hfin
    have him : i < m := by omega
    have hx := HK.out (a.getD i Nd.zero) (getD_mem (by have := EM.out; omega))
    have hks : kidsOf a i = (a.getD i Nd.zero).kids := rfl
    generalize a.getD i Nd.zero = x at hob hx hks ⊢
    have HX := Lib.hid (hx.below hF.low)
    have HKS := Lib.hid hks
    obtain ⟨cs, ms, r1, r2, r3, r4⟩ := hF.row
    have hob' : Blk W b #[.int .i64 x.kind, .int .u64 x.c0, .int .u64 x.c1, .int .u64 x.c2, .int .u64 x.c3, .string x.text, .int .i64 x.rule, .int .i64 x.level, .slice x.A x.kids.length x.cap] 40 := hob
    have c8 : W.cell? ⟨b, 8, none⟩ = some (.slice x.A x.kids.length x.cap) := hob'.cell 8
    have c1 : W.cell? ⟨t1, 0, none⟩ = some (.slice A m c) := hF.b1.cell 0
    have c4 : W.cell? ⟨t4, 0, none⟩ = some (.slice (some ⟨g, 0, none⟩) m m) := hF.b4.cell 0
    have hkl : x.kids.length ≤ 140737488351232 := hx.2.2
    have i0' : (0 : Int) ≤ i := by omega
    have i1' : (i : Int) < m := by omega
    have HF := Lib.hid hF
    have R1 := Lib.hid r1
    have R2 := Lib.hid r2
    have R3 := Lib.hid r3
    have R4 := Lib.hid r4
    have HI := Lib.hid hi
    have HZ := Lib.hid hz
    clear hF r1 r2 r3 r4 hx hks hob hob' hi hz hfin hkm
    obtain ⟨F, eF⟩ : ∃ F, F = climb m ms x.kids (i + 1) 0 := ⟨_, rfl⟩
    have HFF := Lib.hid eF
    clear eF
    have HS := Lib.hid (fun (j : Nat) (h1 : i + 1 ≤ j) (h2 : j < m) => And.intro (R3.out j h1 (by rw [← EM.out]; exact h2)) (measured_le R3.out j h1 (by rw [← EM.out]; exact h2)))
    gi_wp2_with fail
    gi_loopw [23, 7, 8, 10] (fun q nx hg _ wr => ∃ (j n h : Nat), j ≤ x.kids.length ∧ q = .int .i64 j ∧ nx = .int .i64 n ∧ hg = .int .i64 h ∧ i + 1 ≤ n ∧ n ≤ m ∧ h + i + 1 ≤ n ∧ climb m ms (x.kids.drop j) n h = F ∧ wr = W) (fun q _ _ _ _ => x.kids.length - (RowKit.intOf q).toNat)
    case atStart => exact ⟨0, i + 1, 0, by omega, rfl, by go_num, rfl, by omega, by omega, by omega, by rw [HFF.out]; simp, rfl⟩
    case round =>
      obtain ⟨j, n, h, hj, rfl, rfl, rfl, hn1, hn2, hh, hcl, rfl⟩ := hrel
      by_cases hlt : j < x.kids.length
      · have hlt2 : (j : Int) < x.kids.length := by omega
        obtain ⟨bk, ok, ek, _, ck⟩ := lies_cell HX.out.1 hlt
        rw [List.drop_eq_getElem_cons hlt] at hcl
        have hgd : x.kids[j] = x.kids.getD j 0 := by simp [List.getD, List.getElem?_eq_getElem hlt]
        rw [hgd] at hcl
        rw [ek]
        generalize x.kids.getD j 0 = kd at hcl ck
        unfold climb at hcl
        by_cases hkd : kd = n ∧ kd < m
        · rw [if_pos hkd] at hcl
          obtain ⟨rfl, hk2⟩ := hkd
          have hnm : n < m := by omega
          obtain ⟨⟨s1, s2, s3, _⟩, s4⟩ := HS.out n hn1 hnm
          obtain ⟨rc1, rc2⟩ := R4.out n hn1 hnm
          have d1 : wr.cell? ⟨g, n * 2, none⟩ = some (.int .i64 (ms n).1) := by rw [R1.out.cell]; exact rc1
          have d2 : wr.cell? ⟨g, n * 2 + 1, none⟩ = some (.int .i64 (ms n).2) := by rw [R1.out.cell]; exact rc2
          rw [Int.toNat_natCast] at hcl
          rw [← EM.out] at s3
          generalize ms n = mn at s1 s2 s3 s4 d1 d2 hcl
          obtain ⟨sz, ht⟩ := mn
          dsimp only at s1 s2 s3 s4 d1 d2 hcl
          have HCL := Lib.hid hcl
          clear hcl hgd rc1 rc2
          obtain ⟨n', hn'⟩ : ∃ n' : Nat, (n' : Int) = n + sz := ⟨(n + sz).toNat, by omega⟩
          obtain ⟨h', hh'⟩ : ∃ h' : Nat, (h' : Int) = max (h : Int) ht := ⟨(max (h : Int) ht).toNat, by omega⟩
          rw [← hn', ← hh'] at HCL
          have HN' := Lib.hid hn'
          have HH' := Lib.hid hh'
          clear hn' hh'
          gi_wp2_with fail
          go_roundw
          case rel => exact ⟨j + 1, n', h', by omega, by go_num, by have := HN'.out; simp only [Value.int.injEq, true_and]; omega, by have := HH'.out; simp only [Value.int.injEq, true_and]; split <;> omega, by have := HN'.out; omega, by have := HN'.out; omega, by have := HN'.out; have := HH'.out; omega, HCL.out, by first | trivial | rfl⟩
          case measure => simp [RowKit.intOf]; try omega
        · rw [if_neg hkd] at hcl
          have HBAD : RowKit.Hid (preB a = false) := Lib.hid (by
            refine preB_false.2 fun ⟨ms', h'⟩ => ?_
            refine measured_none (ms := ms) (n := i) (by rw [← EM.out]; exact him) R3.out ?_ h'
            rw [← EM.out, HKS.out, ← HFF.out, ← hcl])
          have c2 : wr.cell? ⟨t2, 0, none⟩ = some (.slice none 0 0) := HF.out.b2.cell 0
          have f2 := HF.out.b2.frozen 0
          have nt : t3 ≠ t2 := by have := NE.out; omega
          have hB3 : Blk (wr.setCell ⟨t2, 0, none⟩ (.slice none 0 0)) t3 #[.bool false] 4 := (heap_setCell_other wr ⟨t2, 0, none⟩ t3 _ nt).trans HF.out.b3
          have c3' : (wr.setCell ⟨t2, 0, none⟩ (.slice none 0 0)).cell? ⟨t3, 0, none⟩ = some (.bool false) := hB3.cell 0
          have f3' := hB3.frozen 0
          have FIN : RowKit.Hid (Left (fun _ => False) wl.heap.size wr ((wr.setCell ⟨t2, 0, none⟩ (.slice none 0 0)).setCell ⟨t3, 0, none⟩ (.bool false)) ∧ Blk ((wr.setCell ⟨t2, 0, none⟩ (.slice none 0 0)).setCell ⟨t3, 0, none⟩ (.bool false)) t2 #[.slice none 0 0] 215 ∧
              Blk ((wr.setCell ⟨t2, 0, none⟩ (.slice none 0 0)).setCell ⟨t3, 0, none⟩ (.bool false)) t3 #[.bool false] 4 ∧ Below w.heap.size w ((wr.setCell ⟨t2, 0, none⟩ (.slice none 0 0)).setCell ⟨t3, 0, none⟩ (.bool false))) := Lib.hid ⟨(Left.setCell _ t2 0 _ (fun h => h) (by have := NE.out; omega)).trans (Left.setCell _ t3 0 _ (fun h => h) (by have := NE.out; omega)),
              (heap_setCell_other _ ⟨t3, 0, none⟩ t2 _ (fun e => nt e.symm)).trans (heap_setCell_same wr t2 0 #[.slice none 0 0] 215 _ HF.out.b2), heap_setCell_same _ t3 0 #[.bool false] 4 _ hB3, (HF.out.low.setCell (p := ⟨t2, 0, none⟩) (show w.heap.size ≤ t2 by have := NE.out; omega) _).setCell (p := ⟨t3, 0, none⟩) (show w.heap.size ≤ t3 by have := NE.out; omega) _⟩
          clear hcl hgd hB3
          by_cases hk1 : kd = n
          · subst hk1
            have hge : (m : Int) ≤ n := by omega
            have hge2 : m ≤ n := by omega
            clear hkd
            gi_wp2_with fail
            exact ⟨FIN.out.1, rfl, FIN.out.2.1, FIN.out.2.2.1, FIN.out.2.2.2, HBAD.out⟩
          · have hb : (kd != (n : Int)) = true := by simpa using hk1
            clear hkd hk1
            gi_wp2_with fail
            exact ⟨FIN.out.1, rfl, FIN.out.2.1, FIN.out.2.2.1, FIN.out.2.2.2, HBAD.out⟩
      · obtain rfl : j = x.kids.length := by omega
        have hlt2 : ¬ (x.kids.length : Int) < x.kids.length := by omega
        rw [List.drop_length, climb] at hcl
        have HM := Lib.hid (measured_step (to := n) (hh := h) (by rw [← EM.out]; exact him) R3.out (by rw [← EM.out, HKS.out, ← HFF.out, ← hcl]))
        have e1 : cs[i * 2]? = some (cs[i * 2]'(by have := R2.out; omega)) := Array.getElem?_eq_getElem _
        have e2 : cs[i * 2 + 1]? = some (cs[i * 2 + 1]'(by have := R2.out; omega)) := Array.getElem?_eq_getElem _
        have d1 : wr.cell? ⟨g, i * 2, none⟩ = some (cs[i * 2]'(by have := R2.out; omega)) := by rw [R1.out.cell]; exact e1
        have d2 : wr.cell? ⟨g, i * 2 + 1, none⟩ = some (cs[i * 2 + 1]'(by have := R2.out; omega)) := by rw [R1.out.cell]; exact e2
        generalize cs[i * 2]'(by have := R2.out; omega) = y1 at d1
        generalize cs[i * 2 + 1]'(by have := R2.out; omega) = y2 at d2
        have fg := R1.out.frozen
        have hwn : IntKind.i64.wrap ((n : Int) - i) = (n : Int) - i := IntWalk.i64_in _ (by omega)
        have FIN : RowKit.Hid (Left (fun k => k < wl.heap.size ∧ k ≠ g) wl.heap.size wr ((wr.setCell ⟨g, i * 2, none⟩ (.int .i64 ((n : Int) - i))).setCell ⟨g, i * 2 + 1, none⟩ (.int .i64 ((h : Int) + 1))) ∧ PSt w a A c m t1 t2 t3 t4 g i ((wr.setCell ⟨g, i * 2, none⟩ (.int .i64 ((n : Int) - i))).setCell ⟨g, i * 2 + 1, none⟩ (.int .i64 ((h : Int) + 1)))) := Lib.hid (by
          have n1 := NE.out
          have hc1 := heap_setCell_same wr g (i * 2) cs 291 (.int .i64 ((n : Int) - i)) R1.out
          have hc2 := heap_setCell_same _ g (i * 2 + 1) _ 291 (.int .i64 ((h : Int) + 1)) hc1
          have ho : ∀ k, k ≠ g → ((wr.setCell ⟨g, i * 2, none⟩ (.int .i64 ((n : Int) - i))).setCell ⟨g, i * 2 + 1, none⟩ (.int .i64 ((h : Int) + 1))).heap[k]? = wr.heap[k]? := fun k hk => (heap_setCell_other _ ⟨g, i * 2 + 1, none⟩ k _ hk).trans (heap_setCell_other wr ⟨g, i * 2, none⟩ k _ hk)
          refine ⟨(Left.setCell _ g (i * 2) _ (fun h => h.2 rfl) (by omega)).trans (Left.setCell _ g (i * 2 + 1) _ (fun h => h.2 rfl) (by omega)), (ho t1 (by omega)).trans HF.out.b1, (ho t2 (by omega)).trans HF.out.b2, (ho t3 (by omega)).trans HF.out.b3, (ho t4 (by omega)).trans HF.out.b4, ⟨_, _, hc2, by simpa using R2.out, HM.out, fun q hq1 hq2 => ?_⟩, (HF.out.low.setCell (p := ⟨g, i * 2, none⟩) (show w.heap.size ≤ g by omega) _).setCell (p := ⟨g, i * 2 + 1, none⟩) (show w.heap.size ≤ g by omega) _⟩
          have r2 := R2.out
          by_cases hq : q = i
          · subst hq
            simp only [if_true]
            exact ⟨by rw [Array.getElem?_setIfInBounds_ne (by omega), Array.getElem?_setIfInBounds_self_of_lt (by omega)], by rw [Array.getElem?_setIfInBounds_self_of_lt (by simp; omega)]⟩
          · simp only [if_neg hq]
            have := R4.out q (by omega) hq2
            exact ⟨by rw [Array.getElem?_setIfInBounds_ne (by omega), Array.getElem?_setIfInBounds_ne (by omega)]; exact this.1, by rw [Array.getElem?_setIfInBounds_ne (by omega), Array.getElem?_setIfInBounds_ne (by omega)]; exact this.2⟩)
        clear hcl e1 e2
        gi_wp2_with fail
        exact ⟨FIN.out.1, by dsimp only; rw [HFIN.out]; exact FIN.out.2⟩
  case done =>
    rintro D W hD hF hK
    rw [Nat.sub_self] at hF
    obtain ⟨cs, ms, r1, r2, r3, r4⟩ := hF.row
    have c4 : W.cell? ⟨t4, 0, none⟩ = some (.slice (some ⟨g, 0, none⟩) m m) := hF.b4.cell 0
    have c2 : W.cell? ⟨t2, 0, none⟩ = some (.slice none 0 0) := hF.b2.cell 0
    have f2 := hF.b2.frozen 0
    have c3 : W.cell? ⟨t3, 0, none⟩ = some (.bool false) := hF.b3.cell 0
    have f3 := hF.b3.frozen 0
    have HN : RowKit.Hid (t2 ≠ t3 ∧ t2 ≠ D ∧ t3 ≠ D ∧ g ≠ D ∧ g ≠ t2 ∧ g ≠ t3 ∧ w.heap.size ≤ t2 ∧ w.heap.size ≤ t3 ∧ w.heap.size ≤ D) := Lib.hid (by have := NE.out; omega)
    have hB2 : Blk (W.setCell ⟨t2, 0, none⟩ (.slice (some ⟨g, 0, none⟩) m m)) t2 #[.slice (some ⟨g, 0, none⟩) m m] 215 := heap_setCell_same W t2 0 #[.slice none 0 0] 215 _ hF.b2
    have hB3 : Blk (W.setCell ⟨t2, 0, none⟩ (.slice (some ⟨g, 0, none⟩) m m)) t3 #[.bool false] 4 := (heap_setCell_other W ⟨t2, 0, none⟩ t3 _ (fun e => HN.out.1 e.symm)).trans hF.b3
    obtain ⟨W2, eW2⟩ : ∃ u, u = (W.setCell ⟨t2, 0, none⟩ (.slice (some ⟨g, 0, none⟩) m m)).setCell ⟨t3, 0, none⟩ (.bool true) := ⟨_, rfl⟩
    have hC2 : Blk W2 t2 #[.slice (some ⟨g, 0, none⟩) m m] 215 := by rw [eW2]; exact (heap_setCell_other _ ⟨t3, 0, none⟩ t2 _ HN.out.1).trans hB2
    have hC3 : Blk W2 t3 #[.bool true] 4 := by rw [eW2]; exact heap_setCell_same _ t3 0 #[.bool false] 4 _ hB3
    have hCG : Blk W2 g cs 291 := by rw [eW2]; exact (heap_setCell_other _ ⟨t3, 0, none⟩ g _ HN.out.2.2.2.2.2.1).trans ((heap_setCell_other W ⟨t2, 0, none⟩ g _ HN.out.2.2.2.2.1).trans r1)
    have hCD : W2.heap[D]? = some (.deferred (some [])) := by rw [eW2]; exact (heap_setCell_other _ ⟨t3, 0, none⟩ D _ (fun e => HN.out.2.2.1 e.symm)).trans ((heap_setCell_other W ⟨t2, 0, none⟩ D _ (fun e => HN.out.2.1 e.symm)).trans hK)
    have hCL : Below w.heap.size w W2 := by rw [eW2]; exact (hF.low.setCell (p := ⟨t2, 0, none⟩) HN.out.2.2.2.2.2.2.1 _).setCell (p := ⟨t3, 0, none⟩) HN.out.2.2.2.2.2.2.2.1 _
    have HC := Lib.hid (And.intro hC2 (And.intro hC3 (And.intro hCG (And.intro hCD hCL))))
    have R2 := Lib.hid r2
    have R3 := Lib.hid r3
    have R4 := Lib.hid r4
    have EW := Lib.hid eW2
    have c3' : (W.setCell ⟨t2, 0, none⟩ (.slice (some ⟨g, 0, none⟩) m m)).cell? ⟨t3, 0, none⟩ = some (.bool false) := hB3.cell 0
    have f3' := hB3.frozen 0
    clear c3 f3 hF r1 r2 r3 r4 hB2 hB3 eW2 hC2 hC3 hCG hCD hCL hK
    go_wp2_with fail
    rw [← EW.out]
    obtain ⟨q2, q3, qg, qd, ql⟩ := HC.out
    have n1 := HN.out
    refine ⟨by simp, .inl ⟨_, _, rfl, run_takeDeferred qd, ?_⟩⟩
    have keep : ∀ k, k ≠ D → (W2.putObj D (.deferred none)).heap[k]? = W2.heap[k]? := fun k hk => World.putObj_heap_other hk
    have z2 : Blk (W2.putObj D (.deferred none)) t2 #[.slice (some ⟨g, 0, none⟩) m m] 215 := (keep t2 n1.2.1).trans q2
    have z3 : Blk (W2.putObj D (.deferred none)) t3 #[.bool true] 4 := (keep t3 n1.2.2.1).trans q3
    have zg : Blk (W2.putObj D (.deferred none)) g cs 291 := (keep g n1.2.2.2.1).trans qg
    have hpre : preB a = true := preB_true.2 ⟨ms, R3.out⟩
    refine ⟨_, results_two rfl rfl (z2.cell 0) (z3.cell 0), _, by rw [hpre]; rfl, ql.trans (below_putObj _ D _ _ n1.2.2.2.2.2.2.2.2), fun _ => ⟨ms, R3.out, g, by rw [← EM.out]; rfl, zg.lt, fun i hi => ?_⟩, fun h => by rw [hpre] at h; cases h⟩
    rw [zg.cell, zg.cell]
    exact R4.out i (by omega) (by rw [EM.out]; exact hi)
  case stop =>
    rintro D cd k W hD hk ⟨rfl, h2, h3, h4, h5⟩ hK
    have HN : RowKit.Hid (t2 ≠ D ∧ t3 ≠ D ∧ w.heap.size ≤ D) := Lib.hid (by have := NE.out; omega)
    have HC := Lib.hid (And.intro h2 (And.intro h3 (And.intro h4 h5)))
    have HD := Lib.hid hK
    clear h2 h3 h4 h5 hK
    gi_wp2
    obtain ⟨q2, q3, q4, q5⟩ := HC.out
    have n1 := HN.out
    refine ⟨by simp, .inl ⟨_, _, rfl, run_takeDeferred HD.out, ?_⟩⟩
    have keep : ∀ k, k ≠ D → (W.putObj D (.deferred none)).heap[k]? = W.heap[k]? := fun k hk => World.putObj_heap_other hk
    have z2 : Blk (W.putObj D (.deferred none)) t2 #[.slice none 0 0] 215 := (keep t2 n1.1).trans q2
    have z3 : Blk (W.putObj D (.deferred none)) t3 #[.bool false] 4 := (keep t3 n1.2.1).trans q3
    exact ⟨_, results_two rfl rfl (z2.cell 0) (z3.cell 0), _, by rw [q5]; rfl, q4.trans (below_putObj _ D _ _ n1.2.2), (fun h => by rw [q5] at h; cases h), (fun _ => rfl)⟩
end Go.Proofs.YtlbjmkljmhfjdaaGreat

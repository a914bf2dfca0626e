/- Whose body has a node: the program's answer. -/
import Derived.Test.YtfdfcagkfnckmaaVb
namespace Go.Proofs.Ytfdfcagkfnckmaa
open Go Go.RowKit Go.Shelf
attribute [local go_sem] Oper.semAt_some
/-- The last rule whose body is not behind n. -/
def lastFrom (n : Int) : Nat → Int → List Rl → Int
  | _, acc, [] => acc
  | i, acc, r :: l => lastFrom n (i + 1) (if r.body ≤ n then (i : Int) else acc) l
def lastLe (l : List Rl) (n : Int) : Int := lastFrom n 0 (-1) l
theorem lastFrom_miss (n : Int) : ∀ (l : List Rl) (i : Nat) (acc : Int), (∀ j, j < l.length → n < (l.getD j Rl.zero).body) → lastFrom n i acc l = acc
  | [], _, _, _ => rfl
  | r :: l, i, acc, h => by
    have h0 : n < r.body := by have := h 0 (by simp); simpa using this
    rw [lastFrom, if_neg (by omega)]
    exact lastFrom_miss n l (i + 1) acc (fun j hj => by have := h (j + 1) (by simpa using hj); simpa using this)
theorem lastFrom_hit (n : Int) : ∀ (l : List Rl) (i k : Nat) (acc : Int), k < l.length → (l.getD k Rl.zero).body ≤ n → (∀ j, k < j → j < l.length → n < (l.getD j Rl.zero).body) → lastFrom n i acc l = (i + k : Nat)
  | [], _, _, _, h, _, _ => by simp at h
  | r :: l, i, 0, acc, _, h2, h3 => by
    have h0 : r.body ≤ n := by simpa using h2
    rw [lastFrom, if_pos h0, lastFrom_miss n l (i + 1) i (fun j hj => by have := h3 (j + 1) (by omega) (by simpa using hj); simpa using this)]
    simp
  | r :: l, i, k + 1, acc, h1, h2, h3 => by
    rw [lastFrom, lastFrom_hit n l (i + 1) k _ (by simpa using h1) (by simpa using h2) (fun j h4 h5 => by have := h3 (j + 1) (by omega) (by simpa using h5); simpa using this)]
    congr 1
    omega
theorem lastLe_hit {l : List Rl} {n : Int} (k : Nat) (h1 : k < l.length) (h2 : (l.getD k Rl.zero).body ≤ n) (h3 : ∀ j, k < j → j < l.length → n < (l.getD j Rl.zero).body) : lastLe l n = k := by
  have := lastFrom_hit n l 0 k (-1) h1 h2 h3
  rw [Nat.zero_add] at this
  exact this
theorem lastLe_miss {l : List Rl} {n : Int} (h : ∀ j, j < l.length → n < (l.getD j Rl.zero).body) : lastLe l n = -1 := lastFrom_miss n l 0 (-1) h
noncomputable def ownerOf (g : Gr) (n : Int) : Int := by classical exact if Right g ∧ 0 ≤ n ∧ n < g.nodes.length then lastLe g.rules n else -1
theorem ownerOf_yes {g : Gr} {n : Int} (h : Right g ∧ 0 ≤ n ∧ n < g.nodes.length) : ownerOf g n = lastLe g.rules n := by unfold ownerOf; rw [if_pos h]
theorem ownerOf_no {g : Gr} {n : Int} (h : ¬ (Right g ∧ 0 ≤ n ∧ n < g.nodes.length)) : ownerOf g n = -1 := by unfold ownerOf; rw [if_neg h]
theorem res27 {tmps : Array Value} {w : World} {b : Nat} {x : Value} (hp : tmps.getD 4 undef = .pointer (some ⟨b, 0, none⟩)) (c1 : w.cell? ⟨b, 0, none⟩ = some x) : (results Try.f27 tmps).run Try.prog w = .ok x w := by
  have hp' : tmps[4]?.getD undef = .pointer (some ⟨b, 0, none⟩) := by simpa using hp
  have a3 := Try.isAgg3
  simp [results, Try.results27, hp', go_sem, c1]
/-- What lies while rules are gone through from the last one on. -/
structure OSt (w : World) (rules : List Rl) (n : Int) (t3 t4 j : Nat) (W : World) : Prop where
  b3 : Blk W t3 #[.int .i64 n] 3
  b4 : Blk W t4 #[.int .i64 0] 3
  low : Below w.heap.size w W
  all : ∀ i, j ≤ i → i < rules.length → n < (rules.getD i Rl.zero).body
set_option maxRecDepth 100000 in
set_option maxHeartbeats 8000000 in
theorem owner_of (g : Gr) (n : Int) (w : World) (hg : Gr.At w g) (hin : Gr.In g) : Calls Try.prog 27 #[g.val, .int .i64 n] w fun e w' => e = .returned (.int .i64 (ownerOf g n)) ∧ Below w.heap.size w w' := by
  have M := Lib.hid (fun (w' : World) (b : Below w.heap.size w w') => size_of g n w' (hg.below b) hin)
  have hrl := hg.rl
  have HR := Lib.hid hg.rules
  have OY := Lib.hid (ownerOf_yes (g := g) (n := n))
  have ON := Lib.hid (ownerOf_no (g := g) (n := n))
  obtain ⟨ov, eov⟩ : ∃ ov, ov = ownerOf g n := ⟨_, rfl⟩
  rw [← eov] at OY ON ⊢
  by_cases hyes : Right g ∧ 0 ≤ n ∧ n < g.nodes.length
  · have HO := Lib.hid (OY.out hyes)
    obtain ⟨sz, esz⟩ : ∃ sz, sz = (measOf g n).1 := ⟨_, rfl⟩
    rw [← esz] at M
    have hsz : (sz == 0) = false := by
      obtain ⟨hr, h0, h1⟩ := hyes
      obtain ⟨ms, hm, _⟩ := hr.pre
      obtain ⟨k, rfl⟩ : ∃ k : Nat, n = k := ⟨n.toNat, by omega⟩
      rw [esz, measOf_yes hr hm (by omega)]
      have := (hm k (by omega) (by omega)).1
      simp; omega
    clear esz hyes OY ON eov hg hin
    obtain ⟨RA, rc, rules, NA, nc, nodes⟩ := g
    dsimp only at HR HO hrl
    obtain ⟨m, em⟩ : ∃ m, m = rules.length := ⟨_, rfl⟩
    obtain ⟨ln, eln⟩ : ∃ m, m = nodes.length := ⟨_, rfl⟩
    have M2 : RowKit.Hid (∀ (w' : World), Below w.heap.size w w' → Calls Try.prog 25 #[.agg #[.slice RA m rc, .slice NA ln nc], .int .i64 n] w' fun e w'' => e = .returned (.int .i64 sz) ∧ Below w'.heap.size w' w'') := Lib.hid (by rw [em, eln]; exact M.out)
    show Calls Try.prog 27 #[.agg #[.slice RA rules.length rc, .slice NA nodes.length nc], .int .i64 n] w _
    have EM := Lib.hid em
    rw [← em, ← eln]
    rw [← em] at hrl
    clear M em eln
    obtain ⟨W3, eW3⟩ : ∃ u, u = ((w.alloc (.cells #[.slice RA m rc, .slice NA ln nc] 25)).alloc (.cells #[.int .i64 n] 3)).alloc (.cells #[.int .i64 0] 3) := ⟨_, rfl⟩
    have hs3 : W3.heap.size = w.heap.size + 3 := by rw [eW3]; simp
    have b3 : Below w.heap.size w W3 := by rw [eW3]; exact (B2 _ _ _).alloc (by simp; omega) _
    have k1 : Blk W3 w.heap.size #[.slice RA m rc, .slice NA ln nc] 25 := by rw [eW3]; exact ((Blk.new w _ _).alloc _).alloc _
    have k2 : Blk W3 (w.heap.size + 1) #[.int .i64 n] 3 := by
      rw [eW3]; have := (Blk.new (w.alloc (.cells #[.slice RA m rc, .slice NA ln nc] 25)) #[.int .i64 n] 3).alloc (.cells #[.int .i64 0] 3); rw [World.size_alloc] at this; exact this
    have k3 : Blk W3 (w.heap.size + 1 + 1) #[.int .i64 0] 3 := by
      rw [eW3]; have := (Blk.new ((w.alloc (.cells #[.slice RA m rc, .slice NA ln nc] 25)).alloc (.cells #[.int .i64 n] 3)) #[.int .i64 0] 3); rw [World.size_alloc, World.size_alloc] at this; exact this
    have P3 := Lib.hid (And.intro hs3 (And.intro b3 (And.intro k1 (And.intro k2 k3))))
    have E3 := Lib.hid eW3
    clear eW3 hs3 b3 k1 k2 k3
    refine (callsIn_wide (n := 12)).1 ?_
    refine callsIn_of_wp_marks Try.func27 rfl trivial ?_ rfl
    simp only [Try.ntmps27, List.size_toArray, List.length_cons, List.length_nil, Nat.reduceAdd, Nat.reduceSub, Array.replicate_succ, Array.replicate_zero, List.push_toArray, List.append_toArray, List.nil_append, List.cons_append]
    refine wpIn_wide.2 ?_
    go_wp2_with (first | (go_at_call 25; rw [← E3.out]; refine (M2.out _ P3.out.2.1).mono ?_; rintro e w0 ⟨rfl, hb⟩; have H0 := Lib.hid hb; have d0 := (P3.out.2.2.1.below' hb).cell 0; simp only [List.getElem?_toArray, List.getElem?_cons_zero] at d0; clear hb) | (go_at_call 53; refine (back_rule_any _ _ _ _).mono ?_; rintro e w8 ⟨rfl, rfl⟩))
    clear d0
    obtain ⟨t2, et2⟩ : ∃ g, g = w.heap.size := ⟨_, rfl⟩
    obtain ⟨t3, et3⟩ : ∃ g, g = w.heap.size + 1 := ⟨_, rfl⟩
    obtain ⟨t4, et4⟩ : ∃ g, g = w.heap.size + 1 + 1 := ⟨_, rfl⟩
    obtain ⟨p, ep⟩ : ∃ g, g = w0.heap.size := ⟨_, rfl⟩
    obtain ⟨wl, ewl⟩ : ∃ u, u = w0.alloc (.cells #[.slice RA m rc] 22) := ⟨_, rfl⟩
    have hbl : Below w0.heap.size w0 wl := by rw [ewl]; exact B1 _ _
    have hz0' : w.heap.size + 3 ≤ w0.heap.size := by have := H0.out.size; have := P3.out.1; omega
    have F0 : RowKit.Hid (OSt w rules n t3 t4 m wl) := Lib.hid (by
      obtain ⟨q1, q2, q3, q4, q5⟩ := P3.out
      have hb3 : Below W3.heap.size W3 wl := H0.out.trans (hbl.mono H0.out.size)
      exact ⟨by rw [et3]; exact q4.below' hb3, by rw [et4]; exact q5.below' hb3, q2.trans (hb3.mono (by omega)), fun i h1 h2 => by have := EM.out; omega⟩)
    have BP : RowKit.Hid (Blk wl p #[.slice RA m rc] 22) := Lib.hid (by rw [ewl, ep]; exact Blk.new _ _ _)
    have NE : RowKit.Hid (t3 = w.heap.size + 1 ∧ t4 = w.heap.size + 2 ∧ wl.heap.size = p + 1 ∧ w.heap.size + 3 ≤ p) := Lib.hid ⟨by omega, by omega, by rw [ewl, ep]; simp, by omega⟩
    have AN : RowKit.Hid (∀ b o, RA = some ⟨b, o, none⟩ → 0 < rules.length → b < w.heap.size) := Lib.hid (fun b o e h0 => by
      obtain ⟨b', o', e', hb', _⟩ := HR.out h0
      rw [e] at e'
      cases e'
      exact hb')
    rw [← ewl, ← et4, ← et3, ← et2, ← ep]
    clear et2 et3 et4 ep ewl hbl hz0' P3 E3 H0
    refine (wpIn_wide (n := 12)).1 ?_
    refine wpIn_rangeFunc_x (n := 12) (by omega) (gf := 71) (lb := #[.pointer (some ⟨p, 0, none⟩)]) rfl (enters_of Try.func71 (by kernel_rfl) rfl)
      (G := fun k => k < wl.heap.size ∧ k ≠ t4) (by have := back_rule_seq 11 (by omega) p RA rc rules (by have := EM.out; omega) (fun k => k < wl.heap.size ∧ k ≠ t4) ⟨by have := NE.out; omega, by have := NE.out; omega⟩ (fun b o e h0 => ⟨by have := AN.out b o e h0; have := NE.out; omega, by have := AN.out b o e h0; have := NE.out; omega⟩) wl (by rw [← EM.out]; exact BP.out) (HR.out.below (F0.out.low)); rw [← EM.out] at this; exact this)
      (Below.refl _ _) (fun _ => rfl) (fun k h => h.1)
      (fun k W => OSt w rules n t3 t4 (m - k) W) (fun cd _ W => cd = .ret ∧ Blk W t4 #[.int .i64 ov] 3 ∧ Below w.heap.size w W)
      ?low ?lowx (by simpa using F0.out)
      (fun k b => { tmps := #[.agg #[.slice RA m rc, .slice NA ln nc], .int .i64 n, .pointer (some ⟨t2, 0, none⟩), .pointer (some ⟨t3, 0, none⟩), .pointer (some ⟨t4, 0, none⟩), .int .i64 ((m - 1 - k : Nat) : Int), .pointer (some ⟨b, 0, none⟩), .agg #[.slice RA m rc, .slice NA ln nc], .int .i64 n, .int .i64 sz, .bool false, .pointer (some ⟨t2, 0, none⟩), .slice RA m rc, .func (.func 71) #[] #[.pointer (some ⟨p, 0, none⟩)], .int .i64 ((m - 1 - k : Nat) : Int), .agg #[.string (rules.getD (m - 1 - k) Rl.zero).name, .int .i64 (rules.getD (m - 1 - k) Rl.zero).body], undef, undef, undef, undef, undef], defers := [] }) (fun k => .cells #[.string (rules.getD (m - 1 - k) Rl.zero).name, .int .i64 (rules.getD (m - 1 - k) Rl.zero).body] 45) ?assign ?body ?done ?stop
    case low =>
      intro s X X' h hb
      exact ⟨h.b3.below hb (by have := NE.out; omega), h.b4.below hb (by have := NE.out; omega), h.low.trans (hb.mono (by have := NE.out; omega)), h.all⟩
    case lowx =>
      rintro cd s X X' ⟨h1, h2, h3⟩ hb
      exact ⟨h1, h2.below hb (by have := NE.out; omega), h3.trans (hb.mono (by have := NE.out; omega))⟩
    case assign =>
      intro l2 k W K hK
      unfold Rl.val
      gi_wp2
      exact hK
    case body =>
      rintro l2 k b W hF hz hob hkm
      have hkm2 : k < m := hkm
      obtain ⟨i, hi⟩ : ∃ i : Nat, i = m - 1 - k := ⟨_, rfl⟩
      rw [← hi] at hob ⊢
      rw [show m - k = i + 1 by omega] at hF
      have HFIN := Lib.hid (show m - (k + 1) = i by omega)
      have him : i < m := by omega
      have HL := Lib.hid (lastLe_hit (l := rules) (n := n) i (by have := EM.out; omega))
      generalize hx : rules.getD i Rl.zero = x at hob HL ⊢
      have HX := Lib.hid hx
      have hob' : Blk W b #[.string x.name, .int .i64 x.body] 45 := hob
      have c1 : W.cell? ⟨b, 1, none⟩ = some (.int .i64 x.body) := hob'.cell 1
      have c3 : W.cell? ⟨t3, 0, none⟩ = some (.int .i64 n) := hF.b3.cell 0
      have c4 : W.cell? ⟨t4, 0, none⟩ = some (.int .i64 0) := hF.b4.cell 0
      have f4 := hF.b4.frozen 0
      have HF := Lib.hid hF
      clear hF hob hob' hx hi hz hkm
      by_cases hle : x.body ≤ n
      · have HV : RowKit.Hid (ov = i) := Lib.hid (by rw [HO.out]; exact HL.out hle (fun j h1 h2 => HF.out.all j (by omega) h2))
        have FIN : RowKit.Hid (Left (fun _ => False) wl.heap.size W (W.setCell ⟨t4, 0, none⟩ (.int .i64 i)) ∧ Blk (W.setCell ⟨t4, 0, none⟩ (.int .i64 i)) t4 #[.int .i64 i] 3 ∧ Below w.heap.size w (W.setCell ⟨t4, 0, none⟩ (.int .i64 i))) := Lib.hid ⟨Left.setCell _ t4 0 _ (fun h => h) (by have := NE.out; omega), heap_setCell_same W t4 0 #[.int .i64 0] 3 _ HF.out.b4, HF.out.low.setCell (p := ⟨t4, 0, none⟩) (show w.heap.size ≤ t4 by have := NE.out; omega) _⟩
        gi_wp2_with fail
        exact ⟨FIN.out.1, rfl, by rw [HV.out]; exact FIN.out.2.1, FIN.out.2.2⟩
      · have hle2 : n < x.body := by omega
        have FIN : RowKit.Hid (OSt w rules n t3 t4 i W) := Lib.hid ⟨HF.out.b3, HF.out.b4, HF.out.low, fun j h1 h2 => by
          by_cases hj : j = i
          · subst hj; rw [HX.out]; exact hle2
          · exact HF.out.all j (by omega) h2⟩
        clear hle
        gi_wp2_with fail
        exact ⟨Left.refl _ _ _, by dsimp only; rw [HFIN.out]; exact FIN.out⟩
    case done =>
      rintro D W hD hF hK
      rw [Nat.sub_self] at hF
      have c4 : W.cell? ⟨t4, 0, none⟩ = some (.int .i64 0) := hF.b4.cell 0
      have f4 := hF.b4.frozen 0
      have HV : RowKit.Hid (ov = -1) := Lib.hid (by rw [HO.out]; exact lastLe_miss (fun j hj => hF.all j (by omega) hj))
      have q4 : Blk (W.setCell ⟨t4, 0, none⟩ (.int .i64 (-1))) t4 #[.int .i64 (-1)] 3 := heap_setCell_same W t4 0 #[.int .i64 0] 3 _ hF.b4
      have n4 : t4 ≠ D ∧ w.heap.size ≤ D ∧ w.heap.size ≤ t4 := by have := NE.out; omega
      have qd : (W.setCell ⟨t4, 0, none⟩ (.int .i64 (-1))).heap[D]? = some (.deferred (some [])) := (heap_setCell_other W ⟨t4, 0, none⟩ D _ (fun e => n4.1 e.symm)).trans hK
      have ql : Below w.heap.size w (W.setCell ⟨t4, 0, none⟩ (.int .i64 (-1))) := hF.low.setCell (p := ⟨t4, 0, none⟩) n4.2.2 _
      have HC := Lib.hid (And.intro q4 (And.intro qd (And.intro ql n4)))
      clear hF hK q4 qd ql n4
      go_wp2_with fail
      obtain ⟨q4, qd, ql, n4⟩ := HC.out
      refine ⟨by simp, .inl ⟨_, _, rfl, run_takeDeferred qd, ?_⟩⟩
      have z4 : Blk ((W.setCell ⟨t4, 0, none⟩ (.int .i64 (-1))).putObj D (.deferred none)) t4 #[.int .i64 (-1)] 3 := (World.putObj_heap_other n4.1).trans q4
      exact ⟨_, res27 rfl (z4.cell 0), by rw [HV.out]; rfl, ql.trans (below_putObj _ D _ _ n4.2.1)⟩
    case stop =>
      rintro D cd k W hD hk ⟨rfl, h2, h3⟩ hK
      have n4 : t4 ≠ D ∧ w.heap.size ≤ D := by have := NE.out; omega
      have HC := Lib.hid (And.intro h2 (And.intro h3 (And.intro hK n4)))
      clear h2 h3 hK n4
      gi_wp2
      obtain ⟨q4, ql, qd, n4⟩ := HC.out
      refine ⟨by simp, .inl ⟨_, _, rfl, run_takeDeferred qd, ?_⟩⟩
      have z4 : Blk (W.putObj D (.deferred none)) t4 #[.int .i64 ov] 3 := (World.putObj_heap_other n4.1).trans q4
      exact ⟨_, res27 rfl (z4.cell 0), rfl, ql.trans (below_putObj _ D _ _ n4.2)⟩
  · have HV := Lib.hid (ON.out hyes)
    have hm := measOf_no hyes
    rw [hm] at M
    dsimp only at M
    have H3 := Lib.hid ((B2 w (.cells #[.slice g.RA g.rules.length g.rc, .slice g.NA g.nodes.length g.nc] 25) (.cells #[.int .i64 n] 3)).alloc (by simp; omega) (.cells #[.int .i64 0] 3))
    clear hm hyes OY ON eov hg hin HR
    refine (callsIn_wide (n := 12)).1 ?_
    refine callsIn_of_wp_marks Try.func27 rfl trivial ?_ rfl
    simp only [Try.ntmps27, List.size_toArray, List.length_cons, List.length_nil, Nat.reduceAdd, Nat.reduceSub, Array.replicate_succ, Array.replicate_zero, List.push_toArray, List.append_toArray, List.nil_append, List.cons_append]
    refine wpIn_wide.2 ?_
    go_wp2_with (go_at_call 25; refine (M.out _ H3.out).mono ?_; rintro e w0 ⟨rfl, hb⟩; have KB := Lib.hid (by have := (Blk.new ((w.alloc _).alloc _) _ _).below' hb; rw [World.size_alloc, World.size_alloc] at this; exact this); have c4 := KB.out.cell 0; have f4 := KB.out.frozen 0; simp only [List.getElem?_toArray, List.getElem?_cons_zero] at c4; have H0 := Lib.hid (H3.out.trans (hb.mono H3.out.size)); clear hb)
    have z4 : Blk (w0.setCell ⟨w.heap.size + 1 + 1, 0, none⟩ (.int .i64 (-1))) (w.heap.size + 1 + 1) #[.int .i64 (-1)] 3 := heap_setCell_same w0 _ 0 #[.int .i64 0] 3 _ KB.out
    exact ⟨_, res27 rfl (z4.cell 0), by rw [HV.out]; rfl, H0.out.setCell (p := ⟨w.heap.size + 1 + 1, 0, none⟩) (show w.heap.size ≤ w.heap.size + 1 + 1 by omega) _⟩
end Go.Proofs.Ytfdfcagkfnckmaa

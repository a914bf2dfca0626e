/- gram's copies of nodes, as a row. -/
import Derived.Test.YtlbjmkljmhfjdaaGreatD6
import Derived.Test.YtlbjmkljmhfjdaaGreatC2
set_option linter.unusedSimpArgs false
set_option linter.unusedVariables false
namespace Go.Proofs.YtlbjmkljmhfjdaaGreat
open Go Go.RowKit Go.Shelf
attribute [local go_sem] Oper.semAt_some
theorem own_put {w : World} {base e size n b : Nat} {v : Value} {xs : List Value} {lp : Loop} (h : w.ownsRow base e size v n xs) (hl : w.heap[b]? = some (.loop lp)) (o : Obj) : (w.putObj b o).ownsRow base e size v n xs := by
  refine ⟨h.1, ?_⟩
  rcases h.2 with hn | ⟨g, cap, cur, rfl, hbg, hgg, rest⟩
  · exact .inl hn
  · exact .inr ⟨g, cap, cur, rfl, hbg, (World.putObj_heap_other (by intro e; subst e; rw [hl] at hgg; cases hgg)).trans hgg, rest⟩
theorem own_putD {w : World} {base e size n b : Nat} {v : Value} {xs : List Value} {d : Option (List Deferred)} (h : w.ownsRow base e size v n xs) (hl : w.heap[b]? = some (.deferred d)) (o : Obj) : (w.putObj b o).ownsRow base e size v n xs := by
  refine ⟨h.1, ?_⟩
  rcases h.2 with hn | ⟨g, cap, cur, rfl, hbg, hgg, rest⟩
  · exact .inl hn
  · exact .inr ⟨g, cap, cur, rfl, hbg, (World.putObj_heap_other (by intro e; subst e; rw [hl] at hgg; cases hgg)).trans hgg, rest⟩
theorem Blk.putLp {w : World} {b d : Nat} {vs : Array Value} {T : TypeId} {lp : Loop} (h : Blk w d vs T) (hl : w.heap[b]? = some (.loop lp)) (o : Obj) : Blk (w.putObj b o) d vs T :=
  (World.putObj_heap_other (by intro e; subst e; have h' : w.heap[d]? = some (.cells vs T (0, 0)) := h; rw [hl] at h'; cases h')).trans h
theorem below_put {B b : Nat} {w0 w : World} (h : Below B w0 w) (hb : B ≤ b) (o : Obj) : Below B w0 (w.putObj b o) := h.trans (below_putObj w b B o hb)
/-- What lies as copies are laid into a row. -/
structure CN (w : World) (l : List Nd) (t3 : Nat) (v : Value) (m k : Nat) (W : World) : Prop where
  row : ∃ cl : List Nd, cl.length = k ∧ (∀ j, j < k → Twin (l.getD j Nd.zero) (cl.getD j Nd.zero)) ∧ W.ownsRow w.heap.size 40 9 v m (ncells (cl ++ l.drop k)) ∧ (∀ x ∈ cl, Kid W w.heap.size v x)
  box : Blk W t3 #[v] 23
  low : Below w.heap.size w W
theorem CN.grow {w W W' : World} {l : List Nd} {t3 m k : Nat} {v : Value} (h : CN w l t3 v m k W) (hb : Below W.heap.size W W') : CN w l t3 v m k W' := by
  obtain ⟨⟨cl, h1, h2, h3, h4⟩, h5, h6⟩ := h
  exact ⟨⟨cl, h1, h2, own_below h3 hb, fun x hx => (h4 x hx).below hb⟩, h5.below' hb, bb h6 hb⟩
theorem CN.put {w W : World} {l : List Nd} {t3 m k b : Nat} {v : Value} {lp : Loop} (h : CN w l t3 v m k W) (hl : W.heap[b]? = some (.loop lp)) (hb : w.heap.size ≤ b) (o : Obj) : CN w l t3 v m k (W.putObj b o) := by
  obtain ⟨⟨cl, h1, h2, h3, h4⟩, h5, h6⟩ := h
  exact ⟨⟨cl, h1, h2, own_put h3 hl o, fun x hx => ⟨own_put (h4 x hx).1 hl o, (h4 x hx).2⟩⟩, h5.putLp hl o, below_put h6 hb o⟩
theorem ncells_more : ∀ (a b : List Nd), ncells (a ++ b) = ncells a ++ ncells b
  | [], b => rfl
  | x :: a, b => by simp [ncells, ncells_more a b]
/-- One copy more. -/
theorem CN.next {w W : World} {l : List Nd} {t3 g rc m k : Nat} {A1 : Option Addr} {c1 B : Nat} (h : CN w l t3 (.slice (some ⟨g, 0, none⟩) m rc) m k W) (hk : k < l.length) (hm : m = l.length) (hB : g < B) (ht : t3 < B ∧ t3 ≠ g) (hg : w.heap.size ≤ g)
    (hc : CopyIs B l k (A1, c1) W) (hwB : w.heap.size ≤ B) : CN w l t3 (.slice (some ⟨g, 0, none⟩) m rc) m (k + 1) (W.setCells g (k * 9) ((l.getD k Nd.zero).at_ A1 c1).cells) := by
  obtain ⟨⟨cl, h1, h2, h3, h4⟩, h5, h6⟩ := h
  obtain ⟨c2, c3⟩ := hc
  have hlen : (ncells (cl ++ l.drop k)).length = l.length * 9 := by rw [ncells_length]; simp; omega
  obtain ⟨o1, o2⟩ := own_set (w := W) ((l.getD k Nd.zero).at_ A1 c1).cells (k * 9) W _ h3 (by rw [hlen]; simp [Nd.cells]; omega)
  have hcat : (ncells (cl ++ l.drop k)).take (k * 9) ++ ((l.getD k Nd.zero).at_ A1 c1).cells ++ (ncells (cl ++ l.drop k)).drop (k * 9 + ((l.getD k Nd.zero).at_ A1 c1).cells.length) = ncells ((cl ++ [(l.getD k Nd.zero).at_ A1 c1]) ++ l.drop (k + 1)) := by
    have hl9 : (ncells cl).length = k * 9 := by rw [ncells_length, h1]
    have hx9 : ∀ x : Nd, x.cells.length = 9 := fun x => rfl
    rw [List.drop_eq_getElem_cons hk, ncells_more, ncells, List.take_append_of_le_length (by omega), List.take_of_length_le (by omega), hx9, List.drop_append, List.drop_of_length_le (by omega), hl9, List.nil_append, show k * 9 + 9 - k * 9 = 9 by omega, List.drop_append_of_le_length (by rw [hx9]; omega), List.drop_of_length_le (by rw [hx9]; omega), List.nil_append, ncells_more, ncells_app]
  rw [hcat] at o1
  have hgk : ∀ x : Nd, Kid W w.heap.size (.slice (some ⟨g, 0, none⟩) m rc) x → Kid (W.setCells g (k * 9) ((l.getD k Nd.zero).at_ A1 c1).cells) w.heap.size (.slice (some ⟨g, 0, none⟩) m rc) x := fun x hx => hx.grown (by simpa [Value.ownBlock] using o2) (fun k e => .inl e)
  refine ⟨⟨cl ++ [(l.getD k Nd.zero).at_ A1 c1], by simp [h1], fun j hj => ?_, o1, fun x hx => ?_⟩, h5.grown o2 (fun e => ht.2 (by simpa using e)), grown_below h6 h6.size o2 (fun q e => by cases e; exact hg)⟩
  · by_cases ej : j = k
    · have e : (cl ++ [(l.getD k Nd.zero).at_ A1 c1]).getD k Nd.zero = (l.getD k Nd.zero).at_ A1 c1 := by
        rw [List.getD_eq_getElem?_getD, List.getElem?_append_right (by omega), h1]
        simp
      rw [ej, e]
      exact ⟨A1, c1, rfl⟩
    · have e : (cl ++ [(l.getD k Nd.zero).at_ A1 c1]).getD j Nd.zero = cl.getD j Nd.zero := by
        rw [List.getD_eq_getElem?_getD, List.getElem?_append_left (by omega), List.getD_eq_getElem?_getD]
      rw [e]
      exact h2 j (by omega)
  · rcases List.mem_append.1 hx with hx | hx
    · exact hgk x (h4 x hx)
    · simp at hx
      subst hx
      refine hgk _ ⟨own_lower c2 hwB, c3, fun a ha e => ?_⟩
      have q2 := (c2.lt a.block (by dsimp only [Nd.at_] at ha; dsimp only; rw [ha]; rfl)).1
      simp only [Value.ownBlock, Option.some.injEq] at e
      omega
set_option maxRecDepth 100000 in
set_option maxHeartbeats 8000000 in
theorem gcopyNodes_any (A : Option Addr) (l : List Nd) (c : Nat) (hl : l.length ≤ 1000000) (hnc : A = none → c = 0) (w : World) (h : Nodes w A l) (hx : ∀ x ∈ l, Nd.At w x) (hks : ∀ x ∈ l, x.kids.length ≤ 1000000 ∧ x.text.size ≤ 281474976710656) :
    Calls Tryz.prog 197 #[.slice A l.length c] w fun e w' => ∃ A' c', e = .returned (.slice A' l.length c') ∧ ∃ cl : List Nd, cl.length = l.length ∧ (∀ j, j < l.length → Twin (l.getD j Nd.zero) (cl.getD j Nd.zero)) ∧ w'.ownsRow w.heap.size 40 9 (.slice A' l.length c') l.length (ncells cl) ∧ (∀ x ∈ cl, Kid w' w.heap.size (.slice A' l.length c') x) ∧ (A' = none → c' = 0) ∧ Below w.heap.size w w' := by
  have CL := Lib.hid (cloneNodes_any A l c hl hnc w h)
  have HN := Lib.hid h
  have HX := Lib.hid hx
  have HKS := Lib.hid hks
  obtain ⟨m, em⟩ : ∃ m, m = l.length := ⟨_, rfl⟩
  have EM := Lib.hid em
  rw [← em] at hl CL ⊢
  clear h hx hks em hnc
  refine (callsIn_wide (n := 12)).1 ?_
  refine callsIn_of_wp_marks Tryz.func197 rfl trivial ?_ rfl
  simp only [Tryz.ntmps197, List.size_toArray, List.length_cons, List.length_nil, Nat.reduceAdd, Nat.reduceSub, Array.replicate_succ, Array.replicate_zero, List.push_toArray, List.append_toArray, List.nil_append, List.cons_append]
  refine wpIn_wide.2 ?_
  go_wp2_with (first | (go_at_call 230; refine CL.out.mono ?_; rintro e w1 ⟨RA, rc, rfl, ho, hnn, hb⟩; have HO := Lib.hid ho; have HNN := Lib.hid hnn; have H1 := Lib.hid hb; clear ho hnn hb) | (go_at_call 231; refine (copies_any _ _ _ _ _).mono ?_; rintro e w8 ⟨rfl, rfl⟩))
  obtain ⟨wl, ewl⟩ : ∃ u, u = ((w1.alloc (.cells #[.slice RA m rc] 23)).alloc (.cells #[.slice A m c] 23)).alloc (.cells #[.int .i64 0] 3) := ⟨_, rfl⟩
  obtain ⟨t3, et3⟩ : ∃ g, g = w1.heap.size := ⟨_, rfl⟩
  obtain ⟨p, ep⟩ : ∃ g, g = w1.heap.size + 1 := ⟨_, rfl⟩
  obtain ⟨q, eq⟩ : ∃ g, g = w1.heap.size + 1 + 1 := ⟨_, rfl⟩
  have hbl : Below w1.heap.size w1 wl := by rw [ewl]; exact (B2 _ _ _).alloc (by simp; omega) _
  have k3 : Blk wl t3 #[.slice RA m rc] 23 := by rw [ewl, et3]; exact ((Blk.new _ _ _).alloc _).alloc _
  have kp : Blk wl p #[.slice A m c] 23 := by
    rw [ewl, ep]; have := (Blk.new (w1.alloc (.cells #[.slice RA m rc] 23)) #[.slice A m c] 23).alloc (.cells #[.int .i64 0] 3); rw [World.size_alloc] at this; exact this
  have kq : Blk wl q #[.int .i64 ((0 : Nat) : Int)] 3 := by
    rw [ewl, eq]; have := Blk.new ((w1.alloc (.cells #[.slice RA m rc] 23)).alloc (.cells #[.slice A m c] 23)) #[.int .i64 0] 3; rw [World.size_alloc, World.size_alloc] at this; exact this
  have hz : wl.heap.size = w1.heap.size + 3 := by rw [ewl]; simp
  have F0 : RowKit.Hid (CN w l t3 (.slice RA m rc) m 0 wl) := Lib.hid ⟨⟨[], rfl, fun j hj => by omega, by simpa using own_below HO.out hbl, by simp⟩, k3, bb H1.out hbl⟩
  have BP := Lib.hid kp
  have BQ := Lib.hid kq
  have NE : RowKit.Hid (t3 = w1.heap.size ∧ p = w1.heap.size + 1 ∧ q = w1.heap.size + 2 ∧ wl.heap.size = w1.heap.size + 3 ∧ w.heap.size ≤ w1.heap.size) := Lib.hid ⟨et3, ep, by omega, hz, H1.out.size⟩
  have RG : RowKit.Hid (∀ g, RA = some ⟨g, 0, none⟩ → w.heap.size ≤ g ∧ g < w1.heap.size) := Lib.hid (fun g e => HO.out.lt g (by rw [e]; rfl))
  have NL := Lib.hid (HN.out.below (bb H1.out hbl))
  have XL := Lib.hid (fun x hx => (HX.out x hx).below (bb H1.out hbl))
  rw [← ewl, ← eq, ← ep, ← et3]
  clear ewl et3 ep eq hbl k3 kp kq hz
  have GN : RowKit.Hid (∀ b o, A = some ⟨b, o, none⟩ → 0 < l.length → b < w.heap.size) := Lib.hid (fun b o e h0 => by
    obtain ⟨b', o', e', hb', _⟩ := HN.out h0
    rw [e] at e'
    cases e'
    exact hb')
  have GK : RowKit.Hid (∀ x ∈ l, ∀ b o, x.A = some ⟨b, o, none⟩ → 0 < x.kids.length → b < w.heap.size) := Lib.hid (fun x hx b o e h0 => by
    obtain ⟨b', o', e', hb', _⟩ := (HX.out x hx).1 (by rwa [ints_length])
    rw [e] at e'
    cases e'
    exact hb')
  refine (wpIn_wide (n := 12)).1 ?_
  refine wpIn_rangeFunc_e (ε := Option Addr × Nat) (encs := fun k x => #[.int .i64 ((0 + k : Nat) : Int), ((l.getD k Nd.zero).at_ x.1 x.2).val]) (R := CopyIs wl.heap.size l) (n := 12) (by omega) (gf := 256) (lb := #[.pointer (some ⟨p, 0, none⟩), .pointer (some ⟨q, 0, none⟩)]) rfl (enters_of Tryz.func256 (by kernel_rfl) rfl)
    (G := fun k => k < wl.heap.size ∧ RA ≠ some ⟨k, 0, none⟩)
    (by
      have hne : ∀ b, (b < w.heap.size ∨ w1.heap.size ≤ b) → b < wl.heap.size → (b < wl.heap.size ∧ RA ≠ some ⟨b, 0, none⟩) := fun b h1 h2 => ⟨h2, fun e => by have := RG.out b e; omega⟩
      have := copies_seq 11 (by omega) p q A c 0 l (by have := EM.out; omega) (by omega) HKS.out (fun k => k < wl.heap.size ∧ RA ≠ some ⟨k, 0, none⟩) (hne p (by have := NE.out; omega) (by have := NE.out; omega)) (hne q (by have := NE.out; omega) (by have := NE.out; omega))
        (fun b o e h0 => hne b (.inl (GN.out b o e h0)) (by have := GN.out b o e h0; have := NE.out; omega)) (fun x hx b o e h0 => hne b (.inl (GK.out x hx b o e h0)) (by have := GK.out x hx b o e h0; have := NE.out; omega)) wl (by rw [← EM.out]; exact BP.out) BQ.out NL.out XL.out
      rw [← EM.out] at this
      exact this)
    (Below.refl _ _) (fun _ _ => rfl) (fun k h => h.1)
    (fun k W => CN w l t3 (.slice RA m rc) m k W) (fun _ _ _ => False)
    (fun k W W' h hb => h.grow hb) (fun _ _ _ _ h _ => h) (fun k b W lp o hb h hl => h.put hl (by have := NE.out; omega) o) (fun _ _ _ _ _ _ _ h _ => h)
    (fun x k W W' h hb => ⟨own_below h.1 hb, h.2⟩) (fun x k b W lp o hb h hl => ⟨own_put h.1 hl o, h.2⟩) F0.out
    (fun k x b => { tmps := #[.slice A m c, undef, .slice none 0 0, .pointer (some ⟨t3, 0, none⟩), .int .i64 (k : Int), .pointer (some ⟨b, 0, none⟩), .slice A m c, .slice RA m rc, .slice A m c, .func (.func 256) #[] #[.pointer (some ⟨p, 0, none⟩), .pointer (some ⟨q, 0, none⟩)], .int .i64 (k : Int), ((l.getD k Nd.zero).at_ x.1 x.2).val, undef, undef, undef, undef, undef], defers := [] })
    (fun k x => .cells ((l.getD k Nd.zero).at_ x.1 x.2).cells.toArray 40) ?assign ?body ?done ?stop
  case assign =>
    intro l2 k x W K hK
    unfold Nd.val
    gi_wp2
    exact hK
  case stop =>
    rintro D cd k W hD hk h hK
    exact h.elim
  case done =>
    rintro D W hD hF hK
    have c3 := hF.box.cell 0
    simp only [List.getElem?_toArray, List.getElem?_cons_zero] at c3
    have HF := Lib.hid hF
    have HC := Lib.hid (And.intro hK hD)
    clear hF hK hD
    go_wp2_with fail
    obtain ⟨hK, hD⟩ := HC.out
    obtain ⟨cl, q1, q2, q3, q4⟩ := HF.out.row
    rw [List.drop_of_length_le (by have := EM.out; omega), List.append_nil] at q3
    refine ⟨by simp, .inl ⟨_, _, rfl, run_takeDeferred hK, ?_⟩⟩
    exact ⟨_, results_tmp rfl _ _ _, RA, rc, rfl, cl, q1, q2, own_putD q3 hK _, fun x hx => ⟨own_putD (q4 x hx).1 hK _, (q4 x hx).2⟩, HNN.out, below_put HF.out.low (by have := NE.out; omega) _⟩
  case body =>
    rintro l2 k b ⟨A1, c1⟩ W hF hR hz hob hkm
    have hk2 : k < m := hkm
    obtain ⟨g, eg⟩ : ∃ g, RA = some ⟨g, 0, none⟩ := by
      rcases HO.out.2 with ⟨_, h2⟩ | ⟨g, cap, cur, h1, _⟩
      · omega
      · simp only [Value.slice.injEq] at h1
        exact ⟨g, h1.1⟩
    have hgb := RG.out g eg
    have hob' : Blk W b ((l.getD k Nd.zero).at_ A1 c1).cells.toArray 40 := hob
    rw [eg] at hF
    have FIN := Lib.hid (CN.next hF (by have := EM.out; omega) EM.out (B := wl.heap.size) (by have := NE.out; omega) ⟨by have := NE.out; omega, by have := NE.out; omega⟩ hgb.1 hR (by have := NE.out; omega))
    obtain ⟨cl, q1, q2, q3, q4⟩ := hF.row
    have TH := Lib.hid (own_there q3 (o := k * 9) 9 (by omega))
    have GB := Lib.hid (own_set (w := W) ((l.getD k Nd.zero).at_ A1 c1).cells (k * 9) W _ q3 (by rw [q3.1]; simp [Nd.cells]; omega)).2
    have c3 := hF.box.cell 0
    simp only [List.getElem?_toArray, List.getElem?_cons_zero] at c3
    generalize l.getD k Nd.zero = x at hob' FIN GB ⊢
    have e0 := hob'.cell 0; have e1 := hob'.cell 1; have e2 := hob'.cell 2; have e3 := hob'.cell 3; have e4 := hob'.cell 4; have e5 := hob'.cell 5; have e6 := hob'.cell 6; have e7 := hob'.cell 7; have e8 := hob'.cell 8
    simp only [Nd.cells, List.getElem?_toArray, List.getElem?_cons_zero, List.getElem?_cons_succ] at e0 e1 e2 e3 e4 e5 e6 e7 e8
    rw [eg]
    simp only [Nat.zero_add]
    have hkm3 : (k : Int) < m := by omega
    have EGG := Lib.hid eg
    have HGB := Lib.hid hgb
    clear hF hR hz hob hob' q1 q2 q3 q4 eg hgb hkm
    gi_wp2_with (refine wpListIn_store_mid rfl 40 (.tmp 15) (.tmp 14) rfl g (k * 9) (x.at_ A1 c1).cells.toArray rfl rfl TH.out (by kernel_rfl) (by simp [Nd.cells, Value.oneCell']) ?_)
    exact ⟨⟨GB.out.size, fun j hj hgj => GB.out.block j hj (fun e => by
      have e' := Option.some.inj e
      subst e'
      rcases hgj with h | h
      · exact h.2 rfl
      · have := HGB.out; have := NE.out; omega)⟩, FIN.out⟩
end Go.Proofs.YtlbjmkljmhfjdaaGreat

/- gram's copies of nodes, as a row. -/
import Derived.Test.YtjelgmdjmjnnfaaX2
import Derived.Deep.CutRange
set_option linter.unusedSimpArgs false
set_option linter.unusedVariables false
namespace Go.Proofs.Ytjelgmdjmjnnfaa
open Go Go.RowKit Go.Shelf
attribute [local go_sem] Oper.semAt_some
theorem own_put {w : World} {base e size n b : Nat} {v : Value} {xs : List Value} {lp : Loop} (h : w.ownsRow base e size v n xs) (hl : w.heap[b]? = some (.loop lp)) (o : Obj) : (w.putObj b o).ownsRow base e size v n xs := by
  refine ⟨h.1, ?_⟩
  rcases h.2 with hn | ⟨g, cap, cur, rfl, hbg, hgg, rest⟩
  · exact .inl hn
  · exact .inr ⟨g, cap, cur, rfl, hbg, (World.putObj_heap_other (by intro e; subst e; rw [hl] at hgg; cases hgg)).trans hgg, rest⟩
theorem own_putD {w : World} {base e size n b : Nat} {v : Value} {xs : List Value} {d : Option (List Deferred)} (h : w.ownsRow base e size v n xs) (hl : w.heap[b]? = some (.deferred d)) (o : Obj) : (w.putObj b o).ownsRow base e size v n xs := by
  refine ⟨h.1, ?_⟩
  rcases h.2 with hn | ⟨g, cap, cur, rfl, hbg, hgg, rest⟩
  · exact .inl hn
  · exact .inr ⟨g, cap, cur, rfl, hbg, (World.putObj_heap_other (by intro e; subst e; rw [hl] at hgg; cases hgg)).trans hgg, rest⟩
theorem Blk.putLp {w : World} {b d : Nat} {vs : Array Value} {T : TypeId} {lp : Loop} (h : Blk w d vs T) (hl : w.heap[b]? = some (.loop lp)) (o : Obj) : Blk (w.putObj b o) d vs T :=
  (World.putObj_heap_other (by intro e; subst e; have h' : w.heap[d]? = some (.cells vs T (0, 0)) := h; rw [hl] at h'; cases h')).trans h
theorem below_put {B b : Nat} {w0 w : World} (h : Below B w0 w) (hb : B ≤ b) (o : Obj) : Below B w0 (w.putObj b o) := h.trans (below_putObj w b B o hb)
/-- What lies as copies are laid into a row. -/
structure CN (w : World) (l : List Nd) (t3 : Nat) (v : Value) (m k : Nat) (W : World) : Prop where
  row : ∃ cl : List Nd, cl.length = k ∧ (∀ j, j < k → Twin (l.getD j Nd.zero) (cl.getD j Nd.zero)) ∧ W.ownsRow w.heap.size 41 9 v m (ncells (cl ++ l.drop k)) ∧ (∀ x ∈ cl, Kid W w.heap.size v x)
  box : Blk W t3 #[v] 23
  low : Below w.heap.size w W
theorem CN.grow {w W W' : World} {l : List Nd} {t3 m k : Nat} {v : Value} (h : CN w l t3 v m k W) (hb : Below W.heap.size W W') : CN w l t3 v m k W' := by
  obtain ⟨⟨cl, h1, h2, h3, h4⟩, h5, h6⟩ := h
  exact ⟨⟨cl, h1, h2, own_below h3 hb, fun x hx => (h4 x hx).below hb⟩, h5.below' hb, bb h6 hb⟩
theorem CN.put {w W : World} {l : List Nd} {t3 m k b : Nat} {v : Value} {lp : Loop} (h : CN w l t3 v m k W) (hl : W.heap[b]? = some (.loop lp)) (hb : w.heap.size ≤ b) (o : Obj) : CN w l t3 v m k (W.putObj b o) := by
  obtain ⟨⟨cl, h1, h2, h3, h4⟩, h5, h6⟩ := h
  exact ⟨⟨cl, h1, h2, own_put h3 hl o, fun x hx => ⟨own_put (h4 x hx).1 hl o, (h4 x hx).2⟩⟩, h5.putLp hl o, below_put h6 hb o⟩
theorem ncells_more : ∀ (a b : List Nd), ncells (a ++ b) = ncells a ++ ncells b
  | [], b => rfl
  | x :: a, b => by simp [ncells, ncells_more a b]
/-- One copy more. -/
theorem CN.next {w W : World} {l : List Nd} {t3 g rc m k : Nat} {A1 : Option Addr} {c1 B : Nat} (h : CN w l t3 (.slice (some ⟨g, 0, none⟩) m rc) m k W) (hk : k < l.length) (hm : m = l.length) (hB : g < B) (ht : t3 < B ∧ t3 ≠ g) (hg : w.heap.size ≤ g)
    (hc : CopyIs B l k (A1, c1) W) (hwB : w.heap.size ≤ B) : CN w l t3 (.slice (some ⟨g, 0, none⟩) m rc) m (k + 1) (W.setCells g (k * 9) ((l.getD k Nd.zero).at_ A1 c1).cells) := by
  obtain ⟨⟨cl, h1, h2, h3, h4⟩, h5, h6⟩ := h
  obtain ⟨c2, c3⟩ := hc
  have hlen : (ncells (cl ++ l.drop k)).length = l.length * 9 := by rw [ncells_length]; simp; omega
  obtain ⟨o1, o2⟩ := own_set (w := W) ((l.getD k Nd.zero).at_ A1 c1).cells (k * 9) W _ h3 (by rw [hlen]; simp [Nd.cells]; omega)
  have hcat : (ncells (cl ++ l.drop k)).take (k * 9) ++ ((l.getD k Nd.zero).at_ A1 c1).cells ++ (ncells (cl ++ l.drop k)).drop (k * 9 + ((l.getD k Nd.zero).at_ A1 c1).cells.length) = ncells ((cl ++ [(l.getD k Nd.zero).at_ A1 c1]) ++ l.drop (k + 1)) := by
    have hl9 : (ncells cl).length = k * 9 := by rw [ncells_length, h1]
    have hx9 : ∀ x : Nd, x.cells.length = 9 := fun x => rfl
    rw [List.drop_eq_getElem_cons hk, ncells_more, ncells, List.take_append_of_le_length (by omega), List.take_of_length_le (by omega), hx9, List.drop_append, List.drop_of_length_le (by omega), hl9, List.nil_append, show k * 9 + 9 - k * 9 = 9 by omega, List.drop_append_of_le_length (by rw [hx9]; omega), List.drop_of_length_le (by rw [hx9]; omega), List.nil_append, ncells_more, ncells_app]
  rw [hcat] at o1
  have hgk : ∀ x : Nd, Kid W w.heap.size (.slice (some ⟨g, 0, none⟩) m rc) x → Kid (W.setCells g (k * 9) ((l.getD k Nd.zero).at_ A1 c1).cells) w.heap.size (.slice (some ⟨g, 0, none⟩) m rc) x := fun x hx => hx.grown (by simpa [Value.ownBlock] using o2) (fun k e => .inl e)
  refine ⟨⟨cl ++ [(l.getD k Nd.zero).at_ A1 c1], by simp [h1], fun j hj => ?_, o1, fun x hx => ?_⟩, h5.grown o2 (fun e => ht.2 (by simpa using e)), grown_below h6 h6.size o2 (fun q e => by cases e; exact hg)⟩
  · by_cases ej : j = k
    · have e : (cl ++ [(l.getD k Nd.zero).at_ A1 c1]).getD k Nd.zero = (l.getD k Nd.zero).at_ A1 c1 := by
        rw [List.getD_eq_getElem?_getD, List.getElem?_append_right (by omega), h1]
        simp
      rw [ej, e]
      exact ⟨A1, c1, rfl⟩
    · have e : (cl ++ [(l.getD k Nd.zero).at_ A1 c1]).getD j Nd.zero = cl.getD j Nd.zero := by
        rw [List.getD_eq_getElem?_getD, List.getElem?_append_left (by omega), List.getD_eq_getElem?_getD]
      rw [e]
      exact h2 j (by omega)
  · rcases List.mem_append.1 hx with hx | hx
    · exact hgk x (h4 x hx)
    · simp at hx
      subst hx
      refine hgk _ ⟨own_lower c2 hwB, c3, fun a ha e => ?_⟩
      have q2 := (c2.lt a.block (by dsimp only [Nd.at_] at ha; dsimp only; rw [ha]; rfl)).1
      simp only [Value.ownBlock, Option.some.injEq] at e
      omega
set_option maxRecDepth 100000 in
set_option maxHeartbeats 8000000 in
theorem gcopyNodes_any (A : Option Addr) (l : List Nd) (c : Nat) (hl : l.length ≤ 1000000) (hnc : A = none → c = 0) (w : World) (h : Nodes w A l) (hx : ∀ x ∈ l, Nd.At w x) (hks : ∀ x ∈ l, x.kids.length ≤ 1000000 ∧ x.text.size ≤ 281474976710656) :
    Calls Try.prog 51 #[.slice A l.length c] w fun e w' => ∃ A' c', e = .returned (.slice A' l.length c') ∧ ∃ cl : List Nd, cl.length = l.length ∧ (∀ j, j < l.length → Twin (l.getD j Nd.zero) (cl.getD j Nd.zero)) ∧ w'.ownsRow w.heap.size 41 9 (.slice A' l.length c') l.length (ncells cl) ∧ (∀ x ∈ cl, Kid w' w.heap.size (.slice A' l.length c') x) ∧ (A' = none → c' = 0) ∧ Below w.heap.size w w' := by
  have CL := Lib.hid (cloneNodes_any A l c hl hnc w h)
  have HN := Lib.hid h
  have HX := Lib.hid hx
  have HKS := Lib.hid hks
  obtain ⟨m, em⟩ : ∃ m, m = l.length := ⟨_, rfl⟩
  have EM := Lib.hid em
  rw [← em] at hl CL ⊢
  clear h hx hks em hnc
  refine (callsIn_wide (n := 12)).1 ?_
  refine callsIn_of_wp_marks Try.func51 rfl trivial ?_ rfl
  simp only [Try.ntmps51, List.size_toArray, List.length_cons, List.length_nil, Nat.reduceAdd, Nat.reduceSub, Array.replicate_succ, Array.replicate_zero, List.push_toArray, List.append_toArray, List.nil_append, List.cons_append]
  refine wpIn_wide.2 ?_
  go_wp2_with (first | (go_at_call 67; refine CL.out.mono ?_; rintro e w1 ⟨RA, rc, rfl, ho, hnn, hb⟩; have HO := Lib.hid ho; have HNN := Lib.hid hnn; have H1 := Lib.hid hb; clear ho hnn hb) | (go_at_call 68; refine (copies_any _ _ _ _ _).mono ?_; rintro e w8 ⟨rfl, rfl⟩))
  obtain ⟨wl, ewl⟩ : ∃ u, u = ((w1.alloc (.cells #[.slice RA m rc] 23)).alloc (.cells #[.slice A m c] 23)).alloc (.cells #[.int .i64 0] 3) := ⟨_, rfl⟩
  obtain ⟨t3, et3⟩ : ∃ g, g = w1.heap.size := ⟨_, rfl⟩
  obtain ⟨p, ep⟩ : ∃ g, g = w1.heap.size + 1 := ⟨_, rfl⟩
  obtain ⟨q, eq⟩ : ∃ g, g = w1.heap.size + 1 + 1 := ⟨_, rfl⟩
  have hbl : Below w1.heap.size w1 wl := by rw [ewl]; exact (B2 _ _ _).alloc (by simp; omega) _
  have k3 : Blk wl t3 #[.slice RA m rc] 23 := by rw [ewl, et3]; exact ((Blk.new _ _ _).alloc _).alloc _
  have kp : Blk wl p #[.slice A m c] 23 := by
    rw [ewl, ep]; have := (Blk.new (w1.alloc (.cells #[.slice RA m rc] 23)) #[.slice A m c] 23).alloc (.cells #[.int .i64 0] 3); rw [World.size_alloc] at this; exact this
  have kq : Blk wl q #[.int .i64 ((0 : Nat) : Int)] 3 := by
    rw [ewl, eq]; have := Blk.new ((w1.alloc (.cells #[.slice RA m rc] 23)).alloc (.cells #[.slice A m c] 23)) #[.int .i64 0] 3; rw [World.size_alloc, World.size_alloc] at this; exact this
  have hz : wl.heap.size = w1.heap.size + 3 := by rw [ewl]; simp
  have F0 : RowKit.Hid (CN w l t3 (.slice RA m rc) m 0 wl) := Lib.hid ⟨⟨[], rfl, fun j hj => by omega, by simpa using own_below HO.out hbl, by simp⟩, k3, bb H1.out hbl⟩
  have BP := Lib.hid kp
  have BQ := Lib.hid kq
  have NE : RowKit.Hid (t3 = w1.heap.size ∧ p = w1.heap.size + 1 ∧ q = w1.heap.size + 2 ∧ wl.heap.size = w1.heap.size + 3 ∧ w.heap.size ≤ w1.heap.size) := Lib.hid ⟨et3, ep, by omega, hz, H1.out.size⟩
  have RG : RowKit.Hid (∀ g, RA = some ⟨g, 0, none⟩ → w.heap.size ≤ g ∧ g < w1.heap.size) := Lib.hid (fun g e => HO.out.lt g (by rw [e]; rfl))
  have NL := Lib.hid (HN.out.below (bb H1.out hbl))
  have XL := Lib.hid (fun x hx => (HX.out x hx).below (bb H1.out hbl))
  rw [← ewl, ← eq, ← ep, ← et3]
  clear ewl et3 ep eq hbl k3 kp kq hz
  have GN : RowKit.Hid (∀ b o, A = some ⟨b, o, none⟩ → 0 < l.length → b < w.heap.size) := Lib.hid (fun b o e h0 => by
    obtain ⟨b', o', e', hb', _⟩ := HN.out h0
    rw [e] at e'
    cases e'
    exact hb')
  have GK : RowKit.Hid (∀ x ∈ l, ∀ b o, x.A = some ⟨b, o, none⟩ → 0 < x.kids.length → b < w.heap.size) := Lib.hid (fun x hx b o e h0 => by
    obtain ⟨b', o', e', hb', _⟩ := (HX.out x hx).1 (by rwa [ints_length])
    rw [e] at e'
    cases e'
    exact hb')
  refine (wpIn_wide (n := 12)).1 ?_
  refine wpIn_rangeFunc_e (ε := Option Addr × Nat) (encs := fun k x => #[.int .i64 ((0 + k : Nat) : Int), ((l.getD k Nd.zero).at_ x.1 x.2).val]) (R := CopyIs wl.heap.size l) (n := 12) (by omega) (gf := 82) (lb := #[.pointer (some ⟨p, 0, none⟩), .pointer (some ⟨q, 0, none⟩)]) rfl (enters_of Try.func82 (by kernel_rfl) rfl)
    (G := fun k => k < wl.heap.size ∧ RA ≠ some ⟨k, 0, none⟩)
    (by
      have hne : ∀ b, (b < w.heap.size ∨ w1.heap.size ≤ b) → b < wl.heap.size → (b < wl.heap.size ∧ RA ≠ some ⟨b, 0, none⟩) := fun b h1 h2 => ⟨h2, fun e => by have := RG.out b e; omega⟩
      have := copies_seq 11 (by omega) p q A c 0 l (by have := EM.out; omega) (by omega) HKS.out (fun k => k < wl.heap.size ∧ RA ≠ some ⟨k, 0, none⟩) (hne p (by have := NE.out; omega) (by have := NE.out; omega)) (hne q (by have := NE.out; omega) (by have := NE.out; omega))
        (fun b o e h0 => hne b (.inl (GN.out b o e h0)) (by have := GN.out b o e h0; have := NE.out; omega)) (fun x hx b o e h0 => hne b (.inl (GK.out x hx b o e h0)) (by have := GK.out x hx b o e h0; have := NE.out; omega)) wl (by rw [← EM.out]; exact BP.out) BQ.out NL.out XL.out
      rw [← EM.out] at this
      exact this)
    (Below.refl _ _) (fun _ _ => rfl) (fun k h => h.1)
    (fun k W => CN w l t3 (.slice RA m rc) m k W) (fun _ _ _ => False)
    (fun k W W' h hb => h.grow hb) (fun _ _ _ _ h _ => h) (fun k b W lp o hb h hl => h.put hl (by have := NE.out; omega) o) (fun _ _ _ _ _ _ _ h _ => h)
    (fun x k W W' h hb => ⟨own_below h.1 hb, h.2⟩) (fun x k b W lp o hb h hl => ⟨own_put h.1 hl o, h.2⟩) F0.out
    (fun k x b => { tmps := #[.slice A m c, undef, .slice none 0 0, .pointer (some ⟨t3, 0, none⟩), .int .i64 (k : Int), .pointer (some ⟨b, 0, none⟩), .slice A m c, .slice RA m rc, .slice A m c, .func (.func 82) #[] #[.pointer (some ⟨p, 0, none⟩), .pointer (some ⟨q, 0, none⟩)], .int .i64 (k : Int), ((l.getD k Nd.zero).at_ x.1 x.2).val, undef, undef, undef, undef, undef], defers := [] })
    (fun k x => .cells ((l.getD k Nd.zero).at_ x.1 x.2).cells.toArray 41) ?assign ?body ?done ?stop
  case assign =>
    intro l2 k x W K hK
    unfold Nd.val
    gi_wp2
    exact hK
  case stop =>
    rintro D cd k W hD hk h hK
    exact h.elim
  case done =>
    rintro D W hD hF hK
    have c3 := hF.box.cell 0
    simp only [List.getElem?_toArray, List.getElem?_cons_zero] at c3
    have HF := Lib.hid hF
    have HC := Lib.hid (And.intro hK hD)
    clear hF hK hD
    go_wp2_with fail
    obtain ⟨hK, hD⟩ := HC.out
    obtain ⟨cl, q1, q2, q3, q4⟩ := HF.out.row
    rw [List.drop_of_length_le (by have := EM.out; omega), List.append_nil] at q3
    refine ⟨by simp, .inl ⟨_, _, rfl, run_takeDeferred hK, ?_⟩⟩
    exact ⟨_, results_tmp rfl _ _ _, RA, rc, rfl, cl, q1, q2, own_putD q3 hK _, fun x hx => ⟨own_putD (q4 x hx).1 hK _, (q4 x hx).2⟩, HNN.out, below_put HF.out.low (by have := NE.out; omega) _⟩
  case body =>
    rintro l2 k b ⟨A1, c1⟩ W hF hR hz hob hkm
    have hk2 : k < m := hkm
    obtain ⟨g, eg⟩ : ∃ g, RA = some ⟨g, 0, none⟩ := by
      rcases HO.out.2 with ⟨_, h2⟩ | ⟨g, cap, cur, h1, _⟩
      · omega
      · simp only [Value.slice.injEq] at h1
        exact ⟨g, h1.1⟩
    have hgb := RG.out g eg
    have hob' : Blk W b ((l.getD k Nd.zero).at_ A1 c1).cells.toArray 41 := hob
    rw [eg] at hF
    have FIN := Lib.hid (CN.next hF (by have := EM.out; omega) EM.out (B := wl.heap.size) (by have := NE.out; omega) ⟨by have := NE.out; omega, by have := NE.out; omega⟩ hgb.1 hR (by have := NE.out; omega))
    obtain ⟨cl, q1, q2, q3, q4⟩ := hF.row
    have TH := Lib.hid (own_there q3 (o := k * 9) 9 (by omega))
    have GB := Lib.hid (own_set (w := W) ((l.getD k Nd.zero).at_ A1 c1).cells (k * 9) W _ q3 (by rw [q3.1]; simp [Nd.cells]; omega)).2
    have c3 := hF.box.cell 0
    simp only [List.getElem?_toArray, List.getElem?_cons_zero] at c3
    generalize l.getD k Nd.zero = x at hob' FIN GB ⊢
    have e0 := hob'.cell 0; have e1 := hob'.cell 1; have e2 := hob'.cell 2; have e3 := hob'.cell 3; have e4 := hob'.cell 4; have e5 := hob'.cell 5; have e6 := hob'.cell 6; have e7 := hob'.cell 7; have e8 := hob'.cell 8
    simp only [Nd.cells, List.getElem?_toArray, List.getElem?_cons_zero, List.getElem?_cons_succ] at e0 e1 e2 e3 e4 e5 e6 e7 e8
    rw [eg]
    simp only [Nat.zero_add]
    have hkm3 : (k : Int) < m := by omega
    have EGG := Lib.hid eg
    have HGB := Lib.hid hgb
    clear hF hR hz hob hob' q1 q2 q3 q4 eg hgb hkm
    gi_wp2_with (refine wpListIn_store_mid rfl 41 (.tmp 15) (.tmp 14) rfl g (k * 9) (x.at_ A1 c1).cells.toArray rfl rfl TH.out (by kernel_rfl) (by simp [Nd.cells, Value.oneCell']) ?_)
    exact ⟨⟨GB.out.size, fun j hj hgj => GB.out.block j hj (fun e => by
      have e' := Option.some.inj e
      subst e'
      rcases hgj with h | h
      · exact h.2 rfl
      · have := HGB.out; have := NE.out; omega)⟩, FIN.out⟩
end Go.Proofs.Ytjelgmdjmjnnfaa
namespace Go.Proofs.Ytjelgmdjmjnnfaa
open Go Go.RowKit
/-- A grammar that lies in rows of the call's own. -/
structure Fresh (w : World) (B : Nat) (h : Gr) : Prop where
  rules : w.ownsRow B 47 2 (.slice h.RA h.rules.length h.rc) h.rules.length (rcells h.rules)
  nodes : w.ownsRow B 41 9 (.slice h.NA h.nodes.length h.nc) h.nodes.length (ncells h.nodes)
  kids : ∀ x ∈ h.nodes, w.ownsRow B 3 1 (.slice x.A x.kids.length x.cap) x.kids.length (ints x.kids) ∧ (x.A = none → x.cap = 0)
  rn : h.RA = none → h.rc = 0
  nn : h.NA = none → h.nc = 0
theorem Fresh.below {w w' : World} {B : Nat} {h : Gr} (f : Fresh w B h) (hb : Below w.heap.size w w') : Fresh w' B h :=
  ⟨own_below f.rules hb, own_below f.nodes hb, fun x hx => ⟨own_below (f.kids x hx).1 hb, (f.kids x hx).2⟩, f.rn, f.nn⟩
theorem Fresh.lies {w w' : World} {B : Nat} {g h : Gr} (f : Fresh w' B h) (t : GTwin g h) (hg : Gr.At w g) : Gr.At w' h :=
  t.lies hg (own_rules f.rules) (own_nodes f.nodes) (fun x hx => ⟨own_lies1 (f.kids x hx).1, (f.kids x hx).2⟩) f.rn f.nn
/-- What is wanted of a grammar that is to be copied. -/
structure Small (g : Gr) : Prop where
  rules : g.rules.length ≤ 1000000
  nodes : g.nodes.length ≤ 1000000
  kids : ∀ x ∈ g.nodes, x.kids.length ≤ 1000000 ∧ x.text.size ≤ 281474976710656
  names : ∀ r ∈ g.rules, r.name.size ≤ 281474976710656
theorem gcopy_done {w w4 : World} {B b : Nat} {RA NA : Option Addr} {rc nc m n : Nat} {xs : List Value} {cl : List Nd} (h1 : w4.ownsRow B 47 2 (.slice RA m rc) m xs) (h2 : w4.ownsRow B 41 9 (.slice NA n nc) n (ncells cl)) (h3 : ∀ x ∈ cl, Kid w4 B (.slice NA n nc) x)
    (hb : b < B) (kr : Blk w4 b #[.slice none 0 0, .slice none 0 0] 25) (hw : w.heap.size ≤ b) (h4 : Below w.heap.size w w4) (W5 : World) (eW : W5 = (w4.setCell ⟨b, 0, none⟩ (.slice RA m rc)).setCell ⟨b, 1, none⟩ (.slice NA n nc)) :
    Blk W5 b #[.slice RA m rc, .slice NA n nc] 25 ∧ W5.ownsRow B 47 2 (.slice RA m rc) m xs ∧ W5.ownsRow B 41 9 (.slice NA n nc) n (ncells cl) ∧ (∀ x ∈ cl, Kid W5 B (.slice NA n nc) x) ∧ Below w.heap.size w W5 := by
  have k1 : Blk (w4.setCell ⟨b, 0, none⟩ (.slice RA m rc)) b #[.slice RA m rc, .slice none 0 0] 25 := heap_setCell_same w4 b 0 #[.slice none 0 0, .slice none 0 0] 25 _ kr
  have k2 : Blk W5 b #[.slice RA m rc, .slice NA n nc] 25 := by rw [eW]; exact heap_setCell_same _ b 1 #[.slice RA m rc, .slice none 0 0] 25 _ k1
  have g : w4.grownBy W5 (some b) := by
    rw [eW]
    exact ⟨rfl, rfl, rfl, by simp, fun k hk hne => (heap_setCell_other _ ⟨b, 1, none⟩ k _ (fun e => hne (by rw [e]))).trans (heap_setCell_other w4 ⟨b, 0, none⟩ k _ (fun e => hne (by rw [e])))⟩
  exact ⟨k2, own_blk h1 hb g, own_blk h2 hb g, fun x hx => (h3 x hx).blk hb g, grown_below h4 h4.size g (fun k e => by cases e; exact hw)⟩
set_option maxRecDepth 100000 in
set_option maxHeartbeats 8000000 in
theorem gcopy_any (g : Gr) (w : World) (hg : Gr.At w g) (hs : Small g) :
    Calls Try.prog 28 #[g.val] w fun e w' => (∃ h : Gr, e = .returned h.val ∧ GTwin g h ∧ Fresh w' w.heap.size h) ∧ Below w.heap.size w w' := by
  have CR := Lib.hid (fun (w' : World) (b : Below w.heap.size w w') => gcopyRules_any g.RA g.rules g.rc hs.rules hg.rn hs.names w' (hg.below b).rules)
  have CNN := Lib.hid (fun (w' : World) (b : Below w.heap.size w w') => gcopyNodes_any g.NA g.nodes g.nc hs.nodes hg.nn w' (hg.below b).nodes (hg.below b).kids hs.kids)
  clear hg hs
  show Calls Try.prog 28 #[.agg #[.slice g.RA g.rules.length g.rc, .slice g.NA g.nodes.length g.nc]] w _
  go_enter Try.func28, Try.ntmps28
  go_upto_region 1 with fail
  obtain ⟨w2, ew2⟩ : ∃ u, u = (w.alloc (.cells #[.slice g.RA g.rules.length g.rc, .slice g.NA g.nodes.length g.nc] 25)).alloc (.cells #[.slice none 0 0, .slice none 0 0] 25) := ⟨_, rfl⟩
  obtain ⟨r, er⟩ : ∃ r, r = w.heap.size + 1 := ⟨_, rfl⟩
  obtain ⟨b, eb⟩ : ∃ r, r = w.heap.size := ⟨_, rfl⟩
  have hb2 : Below w.heap.size w w2 := by rw [ew2]; exact B2 _ _ _
  have hkb : Blk w2 b #[.slice g.RA g.rules.length g.rc, .slice g.NA g.nodes.length g.nc] 25 := by rw [ew2, eb]; exact (Blk.new _ _ _).alloc _
  have hkr : Blk w2 r #[.slice none 0 0, .slice none 0 0] 25 := by
    rw [ew2, er]; have := Blk.new (w.alloc (.cells #[.slice g.RA g.rules.length g.rc, .slice g.NA g.nodes.length g.nc] 25)) #[.slice none 0 0, .slice none 0 0] 25; rw [World.size_alloc] at this; exact this
  have hz : w2.heap.size = w.heap.size + 2 := by rw [ew2]; simp
  rw [← ew2, ← er, ← eb]
  have KB := Lib.hid hkb
  have KR := Lib.hid hkr
  have HB2 := Lib.hid hb2
  have NE := Lib.hid (And.intro er (And.intro eb hz))
  have a0 := hkb.cell 0
  have a1 := hkb.cell 1
  simp only [List.getElem?_toArray, List.getElem?_cons_zero, List.getElem?_cons_succ] at a0 a1
  clear ew2 er eb hb2 hkb hkr hz
  go_region_with (first | (go_at_call 50; refine (CR.out _ (by first | exact HB2.out | exact bdrew1 HB2.out | exact bdrew1 (bdrew1 HB2.out))).mono ?_; rintro e w3 ⟨A1, c1, rfl, ho, hnn, hb⟩; have KB3 := Lib.hid (Blk.below' (b := b) (vs := #[.slice g.RA g.rules.length g.rc, .slice g.NA g.nodes.length g.nc]) (T := 25) (h := by exact KB.out) hb); have KR3 := Lib.hid (Blk.below' (b := r) (vs := #[.slice none 0 0, .slice none 0 0]) (T := 25) (h := by exact KR.out) hb); have H3 := Lib.hid (show Below w.heap.size w w3 from by first | exact bb HB2.out hb | exact bb (bdrew1 HB2.out) hb | exact bb (bdrew1 (bdrew1 HB2.out)) hb); have HO := Lib.hid (own_lower (base' := r + 1) ho (by have := NE.out; first | (show r + 1 ≤ w2.heap.size; omega) | (simp; omega))); have HNN := Lib.hid hnn; have d0 := KB3.out.cell 0; have d1 := KB3.out.cell 1; simp only [List.getElem?_toArray, List.getElem?_cons_zero, List.getElem?_cons_succ] at d0 d1; clear ho hnn hb) | (go_at_call 51; refine (CNN.out _ (by first | exact H3.out | exact bdrew1 H3.out | exact bdrew1 (bdrew1 H3.out))).mono ?_; rintro e w4 ⟨A2, c2, rfl, cl, hcl, htw, hno, hki, hnn2, hb⟩; have HO4 := Lib.hid (show w4.ownsRow (r + 1) 47 2 _ _ _ from own_below (by exact HO.out) hb); have KR4 := Lib.hid (Blk.below' (b := r) (vs := #[.slice none 0 0, .slice none 0 0]) (T := 25) (h := by exact KR3.out) hb); have H4 := Lib.hid (show Below w.heap.size w w4 from by first | exact bb H3.out hb | exact bb (bdrew1 H3.out) hb | exact bb (bdrew1 (bdrew1 H3.out)) hb); have HCL := Lib.hid hcl; have HTW := Lib.hid htw; have R3 : r + 1 ≤ w3.heap.size := (by have := KR3.out.lt; omega); have HNO := Lib.hid (own_lower (base' := r + 1) hno R3); have HKI := Lib.hid (fun x hx => (show Kid w4 (r + 1) _ x from ⟨own_lower (hki x hx).1 R3, (hki x hx).2⟩)); have HNN2 := Lib.hid hnn2; have k0 := KR4.out.cell 0; have k1 := KR4.out.cell 1; have m0 := KR4.out.frozen 0; have m1 := KR4.out.frozen 1; simp only [List.getElem?_toArray, List.getElem?_cons_zero, List.getElem?_cons_succ] at k0 k1; clear hcl htw hno hki hnn2 hb d0 d1 R3))
  all_goals (
    generalize hW5 : (World.setCell _ _ _ : World) = W5
    have hr : w.heap.size ≤ r := by have := NE.out; omega
    obtain ⟨q1, q2, q3, q4, q5⟩ := gcopy_done HO4.out HNO.out HKI.out (Nat.lt_succ_self r) KR4.out hr H4.out W5 hW5.symm
    have hr2 : w.heap.size ≤ r + 1 := by omega
    have K5 := Lib.hid q1
    have T : RowKit.Hid (GTwin g ⟨A1, c1, g.rules, A2, c2, cl⟩) := Lib.hid ⟨rfl, HCL.out, HTW.out⟩
    have F : RowKit.Hid (Fresh W5 w.heap.size ⟨A1, c1, g.rules, A2, c2, cl⟩) := Lib.hid ⟨own_lower q2 hr2, by show W5.ownsRow w.heap.size 41 9 (.slice A2 cl.length c2) cl.length (ncells cl); rw [HCL.out]; exact own_lower q3 hr2, fun x hx => ⟨own_lower (q4 x hx).1 hr2, (q4 x hx).2.1⟩, HNN.out, HNN2.out⟩
    have H5 := Lib.hid q5
    clear hW5 q1 q2 q3 q4 q5 hr hr2 m0 m1 k0 k1 a0 a1
    go_wp2_with fail
    refine bodyPost_ret (results_cell_row rfl _ _ r 25 _ (0, 0) _ rfl K5.out Try.underlying25 rfl (by kernel_rfl)) rfl ⟨⟨⟨A1, c1, g.rules, A2, c2, cl⟩, ?_, T.out, F.out⟩, H5.out⟩
    show Ending.returned (.agg #[.slice A1 g.rules.length c1, .slice A2 g.nodes.length c2]) = .returned (.agg #[.slice A1 g.rules.length c1, .slice A2 cl.length c2])
    rw [HCL.out])
end Go.Proofs.Ytjelgmdjmjnnfaa

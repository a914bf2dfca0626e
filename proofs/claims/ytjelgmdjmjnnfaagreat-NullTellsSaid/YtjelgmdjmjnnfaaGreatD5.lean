/- A leaf turned into another leaf, plainly: what may match nothing then. -/
import Derived.Test.YtjelgmdjmjnnfaaGreatD4
import Derived.Test.YtjelgmdjmjnnfaaGreatD1
import Derived.Test.YtjelgmdjmjnnfaaGreatC4
import Derived.Deep.MidRow
import Derived.Test.YtjelgmdjmjnnfaaGreatC3
set_option linter.unusedSimpArgs false
set_option linter.unusedVariables false
namespace Go.Proofs.YtjelgmdjmjnnfaaGreat
open Go Go.RowKit Go.Maps
/-- A grammar with one node turned into another. -/
def Gr.turn (g : Gr) (c : Nat) (y : Nd) : Gr := { g with nodes := g.nodes.set c y }
theorem turn_len (g : Gr) (c : Nat) (y : Nd) : (g.turn c y).nodes.length = g.nodes.length := by simp [Gr.turn]
theorem turn_at {g : Gr} {c : Nat} {y : Nd} (hc : c < g.nodes.length) : (g.turn c y).nodes.getD c Nd.zero = y := by
  simp only [Gr.turn, List.getD]
  rw [List.getElem?_set_self hc]; rfl
theorem turn_other {g : Gr} {c j : Nat} {y : Nd} (h : j ≠ c) : (g.turn c y).nodes.getD j Nd.zero = g.nodes.getD j Nd.zero := by
  simp only [Gr.turn, List.getD]
  rw [List.getElem?_set_ne (fun e => h e.symm)]
theorem turn_kids {g : Gr} {c : Nat} {y : Nd} (hc : c < g.nodes.length) (h : y.kids = (g.nodes.getD c Nd.zero).kids) (j : Nat) : kidsOf (g.turn c y).nodes j = kidsOf g.nodes j := by
  unfold kidsOf
  by_cases e : j = c
  · subst e; rw [turn_at hc, h]
  · rw [turn_other e]
theorem turn_meas {g : Gr} {c : Nat} {y : Nd} (hc : c < g.nodes.length) (h : y.kids = (g.nodes.getD c Nd.zero).kids) {ms : Nat → Meas} (hm : Measured g.nodes ms 0) : Measured (g.turn c y).nodes ms 0 := by
  intro m h1 h2
  rw [turn_len] at h2
  have := hm m h1 h2
  rw [turn_kids hc h, turn_len]
  exact this
theorem turn_right {g : Gr} {c : Nat} {y : Nd} (hR : Right g) (hc : c < g.nodes.length) (h : y.kids = (g.nodes.getD c Nd.zero).kids) (hy : nodeOk y g.rules.length = true) : Right (g.turn c y) := by
  obtain ⟨ms, hm, hb⟩ := hR.pre
  refine ⟨hR.rules, by rw [turn_len]; exact hR.nodes, hR.named, fun i hi => ?_, ms, turn_meas hc h hm, ?_⟩
  · rw [turn_len] at hi
    show nodeOk ((g.turn c y).nodes.getD i Nd.zero) g.rules.length = true
    by_cases e : i = c
    · subst e; rw [turn_at hc]; exact hy
    · rw [turn_other e]; exact hR.all i hi
  · rw [turn_len]
    exact hb
theorem turn_up_kids {g : Gr} {c : Nat} {y : Nd} (hR : Right g) (hc : c < g.nodes.length) (h : y.kids = (g.nodes.getD c Nd.zero).kids) : KidsUp (g.turn c y).nodes := by
  intro m hm2 k hk
  rw [turn_len] at hm2
  have := turn_kids hc h m
  unfold kidsOf at this
  rw [this] at hk
  have := hR.kidsUp m hm2 k hk
  rw [turn_len]
  exact this
/-- One that never may, turned: what may, may still. -/
theorem turn_up {g : Gr} {c : Nat} {y : Nd} (hR : Right g) (hc : c < g.nodes.length) (h : y.kids = (g.nodes.getD c Nd.zero).kids) (inn inn' : Int → Bool)
    (hy : ∀ f, stepMay (g.nodes.getD c Nd.zero) f inn = false) (hi : ∀ k, inn k = true → inn' k = true) :
    ∀ (d n : Nat), n < g.nodes.length → g.nodes.length - n ≤ d → mayN g.nodes inn n = true → mayN (g.turn c y).nodes inn' n = true
  | 0, n, hn, hd, _ => by omega
  | d + 1, n, hn, hd, hm => by
    rw [mayN_eq hR.kidsUp inn (n := n) (by omega) (by omega), Int.toNat_natCast] at hm
    rw [mayN_eq (turn_up_kids hR hc h) inn' (n := n) (by omega) (by rw [turn_len]; omega), Int.toNat_natCast]
    by_cases e : n = c
    · subst e
      rw [hy] at hm
      cases hm
    · rw [turn_other e]
      refine stepMay_mono (fun k hk hv => ?_) (hi _) hm
      have := hR.kidsUp n hn k hk
      obtain ⟨j, rfl⟩ : ∃ j : Nat, k = j := ⟨k.toNat, by omega⟩
      exact turn_up hR hc h inn inn' hy hi d j (by omega) (by omega) hv
/-- One that never may, turned into one that never may: nothing changes. -/
theorem turn_same {g : Gr} {c : Nat} {y : Nd} (hR : Right g) (hc : c < g.nodes.length) (h : y.kids = (g.nodes.getD c Nd.zero).kids) (inn : Int → Bool)
    (hy : ∀ f, stepMay (g.nodes.getD c Nd.zero) f inn = false) (hy2 : ∀ f, stepMay y f inn = false) (n : Int) (h0 : 0 ≤ n) (h1 : n < g.nodes.length) :
    mayN (g.turn c y).nodes inn n = mayN g.nodes inn n := by
  refine mayN_unique hR.kidsUp inn (mayN (g.turn c y).nodes inn) (lo := 0) (by omega) (fun m a b => ?_) (g.nodes.length) n h0 h1 (by omega)
  rw [mayN_eq (turn_up_kids hR hc h) inn a (by rw [turn_len]; exact b)]
  by_cases e : m.toNat = c
  · rw [e, turn_at hc, hy, hy2]
  · rw [turn_other e]
theorem turn_rules (g : Gr) (c : Nat) (y : Nd) : (g.turn c y).rules = g.rules := rfl
theorem rk_full (g : Gr) (k : Nat) : ∀ i, g.rules.length ≤ i → (rk g k).getD i 0 = 0 := fun i hi => by
  simp only [List.getD]
  rw [List.getElem?_eq_none (by rw [rk_length]; exact hi)]
  rfl
/-- Who is in is in, as soon, behind the turn. -/
theorem turn_in {g : Gr} {c : Nat} {y : Nd} (hR : Right g) (hc : c < g.nodes.length) (h : y.kids = (g.nodes.getD c Nd.zero).kids)
    (hy : ∀ f inn, stepMay (g.nodes.getD c Nd.zero) f inn = false) : ∀ (k i : Nat), 0 < (rk g k).getD i 0 → 0 < (rk (g.turn c y) k).getD i 0
  | 0, i, hi => by rw [rk_zero] at hi; omega
  | k + 1, i, hi => by
    by_cases hl : i < g.rules.length
    · have hb := in_body k i hl hi
      have hbd := hR.body i hl
      obtain ⟨q, hq⟩ : ∃ q : Nat, (g.rules.getD i Rl.zero).body = q := ⟨(g.rules.getD i Rl.zero).body.toNat, by omega⟩
      rw [hq] at hb
      have hu := turn_up hR hc h (inB (rk g k)) (inB (rk (g.turn c y) k)) (fun f => hy f _) (fun r hr => by
        simp only [inB, decide_eq_true_eq] at hr ⊢
        exact turn_in hR hc h hy k _ hr) g.nodes.length q (by omega) (by omega) hb
      have := body_in (g := g.turn c y) k i hl
      rw [turn_rules, hq, hu] at this
      simpa using this.symm
    · rw [rk_full g (k + 1) i (by omega)] at hi
      omega
/-- Ranks don't rise. -/
theorem turn_rank {g : Gr} {c : Nat} {y : Nd} (hR : Right g) (hc : c < g.nodes.length) (h : y.kids = (g.nodes.getD c Nd.zero).kids)
    (hy : ∀ f inn, stepMay (g.nodes.getD c Nd.zero) f inn = false) (i : Nat) (hi : 0 < (ranks g).getD i 0) : 0 < (ranks (g.turn c y)).getD i 0 ∧ (ranks (g.turn c y)).getD i 0 ≤ (ranks g).getD i 0 := by
  have hle := ranks_le g i
  obtain ⟨a, ha⟩ : ∃ a : Nat, (ranks g).getD i 0 = a := ⟨((ranks g).getD i 0).toNat, by omega⟩
  have h1 := rk_below g i (g.rules.length - a) a
  rw [show a + (g.rules.length - a) = g.rules.length by omega] at h1
  have h2 : (rk g a).getD i 0 = a := by
    rw [h1]
    show (if (ranks g).getD i 0 ≤ (a : Int) then (ranks g).getD i 0 else 0) = a
    rw [if_pos (by omega), ha]
  have h3 := turn_in hR hc h hy a i (by omega)
  have h4 := rk_keep (g.turn c y) a i h3 (g.rules.length - a)
  rw [show a + (g.rules.length - a) = (g.turn c y).rules.length by rw [turn_rules]; omega] at h4
  have h5 := (rk_bound (g.turn c y) a i).2
  have h6 : (ranks (g.turn c y)).getD i 0 = (rk (g.turn c y) a).getD i 0 := h4
  rw [h6, ha]
  exact ⟨h3, h5⟩
/-- A call of a rule that never comes in, turned into one that never may: the same rounds. -/
theorem turn_rk {g : Gr} {c : Nat} {y : Nd} (hR : Right g) (hc : c < g.nodes.length) (h : y.kids = (g.nodes.getD c Nd.zero).kids)
    (hy : ∀ f k, stepMay (g.nodes.getD c Nd.zero) f (inB (rk g k)) = false) (hy2 : ∀ f inn, stepMay y f inn = false) : ∀ k, rk (g.turn c y) k = rk g k
  | 0 => rfl
  | k + 1 => by
    have ih := turn_rk hR hc h hy hy2 k
    apply ext_getD
    · rw [rk_length, rk_length, turn_rules]
    · intro i hi
      rw [rk_length, turn_rules] at hi
      rw [rk_next _ k i (by rw [turn_rules]; exact hi), rk_next g k i hi]
      have hbd := hR.body i hi
      have : comB (g.turn c y) (rk (g.turn c y) k) i = comB g (rk g k) i := by
        unfold comB
        rw [ih, turn_rules, turn_same hR hc h (inB (rk g k)) (fun f => hy f k) (fun f => hy2 f _) _ hbd.1 hbd.2]
      rw [this, ih]
end Go.Proofs.YtjelgmdjmjnnfaaGreat
namespace Go.Proofs.YtjelgmdjmjnnfaaGreat
open Go Go.RowKit Go.Maps
theorem own_blkT {w : World} {B e size n b : Nat} {v : Value} {xs : List Value} (h : w.ownsRow B e size v n xs) (hv : v.ownBlock = some b) : ∃ vs, Blk w b vs e ∧ n * size ≤ vs.size := by
  rcases h.2 with ⟨rfl, _⟩ | ⟨g, cap, cur, rfl, hbg, hgg, hn, hc, hs, rest⟩
  · cases hv
  · simp only [Value.ownBlock, Option.some.injEq] at hv
    subst hv
    exact ⟨cur, hgg, by rw [hs]; exact Nat.mul_le_mul_right _ hn⟩
theorem Blk.same_T {w : World} {b : Nat} {vs vs' : Array Value} {T T' : TypeId} (h : Blk w b vs T) (h' : Blk w b vs' T') : T = T' := by
  have e : some (Obj.cells vs T (0, 0)) = some (Obj.cells vs' T' (0, 0)) := h.symm.trans h'
  simp only [Option.some.injEq, Obj.cells.injEq] at e
  exact e.2.1
theorem wpList_store_mid2 {P : Program} {ops : Array Oper} {rest : List Oper} {op : Oper} {a : Act} {w : World} {Q : Exit → Act → World → Prop} (hgd : op.guard = none) (ty : TypeId) (x y : Operand) (ho : op.op = .store ty x y)
    (b o : Nat) (cells : Array Value) (hx : a.eval x = .pointer (some ⟨b, o, none⟩)) (hy : a.eval y = .agg cells)
    (ht : w.there b o cells.size) (hi : (P.info? ty).map (·.size) = some cells.size) (h1 : cells.all (·.oneCell') = true)
    (h : ∀ W, W = w.setCells b o cells.toList → wpList P ops Q rest (a.put op.dst undef) W) : wpList P ops Q (op :: rest) a w :=
  wpList_store_mid hgd ty x y ho b o cells hx hy ht hi h1 (h _ rfl)
theorem ncells_set : ∀ (l : List Nd) (c : Nat) (y : Nd), c < l.length → (ncells l).take (c * 9) ++ y.cells ++ (ncells l).drop (c * 9 + y.cells.length) = ncells (l.set c y)
  | [], c, y, h => by simp at h
  | x :: l, 0, y, _ => by
    simp only [ncells, Nat.zero_mul, List.take_zero, List.nil_append, List.set_cons_zero, Nat.zero_add]
    rw [show y.cells.length = x.cells.length from rfl, List.drop_left]
  | x :: l, c + 1, y, h => by
    have ih := ncells_set l c y (by simpa using h)
    simp only [ncells, List.set_cons_succ]
    rw [← ih]
    have hx : x.cells.length = 9 := rfl
    rw [List.take_append, List.drop_append, List.take_of_length_le (by rw [hx]; omega), List.drop_of_length_le (by rw [hx]; omega), hx]
    rw [show (c + 1) * 9 - 9 = c * 9 by omega, show (c + 1) * 9 + y.cells.length - 9 = c * 9 + y.cells.length by omega]
    simp [List.append_assoc]
/-- A node without kids stored into a grammar of one's own. -/
theorem Fresh.turn {w : World} {B g c : Nat} {h : Gr} {y : Nd} (f : Fresh w B h) (e : h.NA = some ⟨g, 0, none⟩) (hc : c < h.nodes.length) (hy : y.kids = []) (hy2 : y.A = none) (hy3 : y.cap = 0) :
    Fresh (w.setCells g (c * 9) y.cells) B (h.turn c y) ∧ Below B w (w.setCells g (c * 9) y.cells) ∧ w.grownBy (w.setCells g (c * 9) y.cells) (some g) := by
  have f2 := f.nodes
  rw [e] at f2
  obtain ⟨h1, h2⟩ := own_set (w := w) y.cells (c * 9) w _ f2 (by rw [ncells_length]; show c * 9 + 9 ≤ _; omega)
  rw [ncells_set _ _ _ hc] at h1
  obtain ⟨vs, k1, _⟩ := own_blkT (b := g) f.nodes (by rw [e]; rfl)
  have hgb : B ≤ g := (f.nodes.lt g (by rw [e]; rfl)).1
  refine ⟨⟨?_, ?_, fun x hx => ?_, f.rn, f.nn⟩, ?_, h2⟩
  · refine own_kept f.rules (fun k hk => h2.block k (f.rules.lt k hk).2 (fun e2 => ?_))
    simp only [Option.some.injEq] at e2
    subst e2
    obtain ⟨vs2, k2, _⟩ := own_blkT f.rules hk
    exact absurd (k1.same_T k2) (by decide)
  · show World.ownsRow _ B _ 9 (.slice h.NA (h.nodes.set c y).length h.nc) (h.nodes.set c y).length (ncells (h.nodes.set c y))
    rw [List.length_set, e]
    exact h1
  · rcases List.mem_or_eq_of_mem_set hx with hx | rfl
    · refine ⟨own_kept (f.kids x hx).1 (fun k hk => h2.block k ((f.kids x hx).1.lt k hk).2 (fun e2 => ?_)), (f.kids x hx).2⟩
      simp only [Option.some.injEq] at e2
      subst e2
      obtain ⟨vs2, k2, _⟩ := own_blkT (f.kids x hx).1 hk
      exact absurd (k1.same_T k2) (by decide)
    · rw [hy, hy2, hy3]
      exact ⟨World.ownsRow_nil _ _ _ _, fun _ => rfl⟩
  · exact (Below.refl B w).grown h2 (Nat.le_trans hgb (Nat.le_of_lt (f.nodes.lt g (by rw [e]; rfl)).2)) (fun k hk => by cases hk; exact hgb)
theorem Fresh.shape {w : World} {B : Nat} {h : Gr} (f : Fresh w B h) (h0 : 0 < h.nodes.length) : ∃ g, h.NA = some ⟨g, 0, none⟩ ∧ B ≤ g ∧ g < w.heap.size := by
  obtain ⟨g, cap, e, h1, _, _, h2⟩ := own_shape f.nodes h0
  simp only [Value.slice.injEq] at e
  exact ⟨g, e.1, h1, h2⟩
theorem Fresh.at_turn {w w' : World} {B c : Nat} {g h : Gr} {y : Nd} (f : Fresh w' B (h.turn c y)) (t : GTwin g h) (hg : Gr.At w g) (hy : y.kids = []) (hy2 : y.text.size ≤ 9223372036854775807) : Gr.At w' (h.turn c y) where
  rules := own_rules f.rules
  nodes := own_nodes f.nodes
  kids := fun x hx => by
    refine ⟨own_lies1 (f.kids x hx).1, (f.kids x hx).2, ?_⟩
    rcases List.mem_or_eq_of_mem_set hx with hx | rfl
    · obtain ⟨z, hz, A, c, rfl⟩ := t.mem hx
      exact (hg.kids z hz).2.2
    · rw [hy]; simp
  rl := by show h.rules.length ≤ _; rw [t.rules]; exact hg.rl
  nl := by rw [turn_len, t.len]; exact hg.nl
  rn := f.rn
  nn := f.nn
  texts := fun x hx => by
    rcases List.mem_or_eq_of_mem_set hx with hx | rfl
    · obtain ⟨z, hz, A, c, rfl⟩ := t.mem hx
      exact hg.texts z hz
    · exact hy2
  names := by show ∀ r ∈ h.rules, _; rw [t.rules]; exact hg.names
end Go.Proofs.YtjelgmdjmjnnfaaGreat
namespace Go.Proofs.YtjelgmdjmjnnfaaGreat
open Go Go.Proofs Go.RowKit Go.Lib Go.Maps
theorem none_kids {w : World} {x : Nd} (h : Nd.At w x) (e : x.A = none) : x.kids.length = 0 := by
  by_cases h0 : 0 < (ints x.kids).length
  · obtain ⟨b, o, e2, _⟩ := h.1 h0
    rw [e] at e2; cases e2
  · rw [ints_length] at h0; omega
theorem own_awayX {W W' : World} {B B' e e' z z' n n' : Nat} {v v' : Value} {xs xs' : List Value} (h : W.ownsRow B e z v n xs) (h' : W.ownsRow B' e' z' v' n' xs') (hT : e ≠ e') (hg : W.grownBy W' v'.ownBlock) : W'.ownsRow B e z v n xs := by
  refine own_kept h (fun k hk => hg.block k (h.lt k hk).2 (fun e2 => ?_))
  obtain ⟨vs, k1, _⟩ := own_blkT h hk
  obtain ⟨vs2, k2, _⟩ := own_blkT h' (b := k) (by first | exact e2 | exact e2.symm)
  exact hT (k1.same_T k2)
set_option maxRecDepth 100000 in
set_option maxHeartbeats 4000000 in
theorem lentNode_any (x : Nd) (hl : x.kids.length ≤ 100000) (w : World) (h : Nd.At w x) :
    Calls Tryz.prog 116 #[x.val] w fun e w' => ∃ A' c', e = .returned (x.at_ A' c').val ∧ w'.ownsRow w.heap.size 3 1 (.slice A' (x.kids.length + 12) c') (x.kids.length + 12) (ints x.kids ++ marks 12) ∧ Below w.heap.size w w' := by
  have CI := Lib.hid (fun (w' : World) (b : Below w.heap.size w w') => lentints_any x.A x.cap x.kids.length x.kids rfl hl (fun e => ⟨none_kids h e, h.2.1 e⟩) w' (h.below b).1)
  clear h hl
  go_enter Tryz.func116, Tryz.ntmps116
  go_wp2_with (first | (go_at_call 159; refine (CI.out _ (B2 _ _ _)).mono ?_; rintro e w1 ⟨A1, c1, rfl, ho, hb⟩; have HO := Lib.hid (own_lower (base' := w.heap.size + 2) ho (by simp)); have KB := Lib.hid (((Blk.new w _ _).alloc _).below' hb); have KR := Lib.hid (by have := (Blk.new (w.alloc _) _ _).below' hb; rw [World.size_alloc] at this; exact this); have H1 := Lib.hid (bb (B2 w _ _) hb); clear ho hb) | (refine wpList_store_blk rfl 41 (.tmp 6) (.tmp 5) rfl w.heap.size 8 _ rfl rfl rfl 47 _ KB.out (by first | simp | (show 8 < 9; omega)) (by kernel_rfl) (x.at_ A1 c1).cells.toArray rfl ?_; intro w2 hk hg; have HO2 := Lib.hid (HO.out.kept hg (by have hlt := HO.out.lt; cases hv : Value.ownBlock (.slice A1 (x.kids.length + 12) c1) with | none => exact .inl rfl | some k => exact .inr (fun e => by have := (hlt k hv).1; cases e; omega))); have KR2 := Lib.hid (KR.out.grown hg (by intro e; have := Option.some.inj e; omega)); have H2 := Lib.hid (grown_below H1.out H1.out.size hg (fun k e => by cases e; omega)); have d0 := hk.cell 0; have d1 := hk.cell 1; have d2 := hk.cell 2; have d3 := hk.cell 3; have d4 := hk.cell 4; have d5 := hk.cell 5; have d6 := hk.cell 6; have d7 := hk.cell 7; have d8 := hk.cell 8; simp only [Nd.cells, List.getElem?_toArray, List.getElem?_cons_zero, List.getElem?_cons_succ] at d0 d1 d2 d3 d4 d5 d6 d7 d8; clear hk hg) | (refine wpList_store_whole rfl 47 (.tmp 2) (.tmp 7) rfl (w.heap.size + 1) (x.at_ A1 c1).cells.toArray rfl rfl 47 _ KR2.out (by kernel_rfl) (by rfl) (by simp [Nd.cells, Value.oneCell']) ?_; intro w3 hk hg; have K3 := Lib.hid hk; have HO3 := Lib.hid (HO2.out.kept hg (by have hlt := HO2.out.lt; cases hv : Value.ownBlock (.slice A1 (x.kids.length + 12) c1) with | none => exact .inl rfl | some k => exact .inr (fun e => by have := (hlt k hv).1; cases e; omega))); have H3 := Lib.hid (grown_below H2.out H2.out.size hg (fun k e => by cases e; omega)); clear hk hg d0 d1 d2 d3 d4 d5 d6 d7 d8))
  exact bodyPost_ret (results_cell_row rfl _ _ (w.heap.size + 1) 47 _ (0, 0) _ rfl K3.out Tryz.underlying47 rfl (by kernel_rfl)) rfl ⟨A1, c1, rfl, own_lower HO3.out (by omega), H3.out⟩
def mkR (i : Nat) : Rl := ⟨ByteArray.empty, mrk 1 i⟩
def marksR (j : Nat) : List Rl := (List.range j).map mkR
theorem marksR_next (j : Nat) : marksR (j + 1) = marksR j ++ [mkR j] := by simp [marksR, List.range_succ]
theorem marksR_len (j : Nat) : (marksR j).length = j := by simp [marksR]
def lmkN (i : Nat) : Nd := { Nd.zero with rule := mrk 1 i }
def marksN (j : Nat) : List Nd := (List.range j).map lmkN
theorem marksN_next (j : Nat) : marksN (j + 1) = marksN j ++ [lmkN j] := by simp [marksN, List.range_succ]
theorem marksN_len (j : Nat) : (marksN j).length = j := by simp [marksN]
theorem rcells_apps : ∀ (a b : List Rl), rcells (a ++ b) = rcells a ++ rcells b
  | [], b => rfl
  | x :: a, b => by simp [rcells, rcells_apps a b]
set_option maxRecDepth 100000 in
theorem markRule_any (i : Nat) (hi : i < 12) (w : World) : Calls Tryz.prog 115 #[.int .i64 1, .int .i64 i] w fun e w' => e = .returned (.agg #[.string ByteArray.empty, .int .i64 (mrk 1 i)]) ∧ Below w.heap.size w w' := by
  have MK := Lib.hid (fun w' => show Calls Tryz.prog 158 #[.int .i64 1, .int .i64 (i : Nat)] w' fun e w'' => e = .returned (.int .i64 (mrk 1 i)) ∧ w'' = w' from xmark_any 1 i (by omega) (by omega) w')
  clear hi
  go_enter Tryz.func115, Tryz.ntmps115
  go_wp2_with (first | (go_at_call 158; (with_reducible refine (MK.out _).mono ?_); rintro e w3 ⟨rfl, rfl⟩) | (refine wpList_store_whole rfl 72 (.tmp 4) (.tmp 8) rfl w.heap.size #[.string ByteArray.empty, .int .i64 (mrk 1 i)] rfl rfl 72 _ (Blk.new _ _ _) (by kernel_rfl) (by rfl) (by simp [Value.oneCell']) ?_; intro w2 hk hg; have K2 := Lib.hid hk; have H2 := Lib.hid (grown_below (B1 w _) (by simp) hg (fun k e => by cases e; exact Nat.le_refl _)); clear hk hg))
  exact bodyPost_ret (results_cell_row rfl _ _ w.heap.size 72 _ (0, 0) _ rfl K2.out Tryz.underlying72 rfl (by kernel_rfl)) rfl ⟨rfl, H2.out⟩
set_option maxRecDepth 100000 in
theorem markNode_any (i : Nat) (hi : i < 12) (w : World) : Calls Tryz.prog 117 #[.int .i64 1, .int .i64 i] w fun e w' => e = .returned (lmkN i).val ∧ Below w.heap.size w w' := by
  have MK := Lib.hid (fun w' => show Calls Tryz.prog 158 #[.int .i64 1, .int .i64 (i : Nat)] w' fun e w'' => e = .returned (.int .i64 (mrk 1 i)) ∧ w'' = w' from xmark_any 1 i (by omega) (by omega) w')
  clear hi
  go_enter Tryz.func117, Tryz.ntmps117
  go_wp2_with (first | (go_at_call 158; (with_reducible refine (MK.out _).mono ?_); rintro e w3 ⟨rfl, rfl⟩) | (refine wpList_store_whole rfl 47 (.tmp 4) (.tmp 8) rfl w.heap.size (lmkN i).cells.toArray rfl rfl 47 _ (Blk.new _ _ _) (by kernel_rfl) (by rfl) (by simp [Nd.cells, Value.oneCell']) ?_; intro w2 hk hg; have K2 := Lib.hid hk; have H2 := Lib.hid (grown_below (B1 w _) (by simp) hg (fun k e => by cases e; exact Nat.le_refl _)); clear hk hg))
  exact bodyPost_ret (results_cell_row rfl _ _ w.heap.size 47 _ (0, 0) _ rfl K2.out Tryz.underlying47 rfl (by kernel_rfl)) rfl ⟨rfl, H2.out⟩
end Go.Proofs.YtjelgmdjmjnnfaaGreat
namespace Go.Proofs.YtjelgmdjmjnnfaaGreat
open Go Go.Proofs Go.RowKit Go.Lib Go.Maps
theorem own_roomT (w : World) (T size cap : Nat) (cs : Array Value) (hc : cs.size = cap * size) (hn : cap ≤ maxLen) : (w.alloc (.cells cs T)).ownsRow w.heap.size T size (.slice (some ⟨w.heap.size, 0, none⟩) 0 cap) 0 [] :=
  World.ownsRow_made w cs cap (Nat.le_refl _) hn hc
theorem rule_news (w : World) (x y : Value) (T : TypeId) : ∀ a, some (⟨w.heap.size, 0, none⟩ : Addr) = some a → ∀ j u, [x, y][j]? = some u → (w.alloc (.cells #[x, y] T)).cell? (a.add j) = some u := new_news w [x, y] T
set_option maxRecDepth 100000 in
set_option maxHeartbeats 4000000 in
theorem lentRules_any (A : Option Addr) (c m : Nat) (l : List Rl) (em : m = l.length) (hl : m ≤ 100000) (hc : A = none → m = 0 ∧ c = 0) (w : World) (hA : Rules w A l) :
    Calls Tryz.prog 78 #[.slice A m c] w fun e w' => ∃ A' c', e = .returned (.slice A' m c') ∧ w'.ownsRow w.heap.size 72 2 (.slice A' (m + 12) c') (m + 12) (rcells l ++ rcells (marksR 12)) ∧ Below w.heap.size w w' := by
  obtain ⟨i0, hi, hz0, hz1, hz2⟩ := info_parts Tryz.info72
  have NW := Lib.hid (show ∀ w', Below w.heap.size w w' → ∀ a, A = some a → ∀ j u, (rcells l)[j]? = some u → w'.cell? (a.add j) = some u from fun w' hb => (hA.below hb).news)
  have HC := Lib.hid hc
  have HL := Lib.hid (show (rcells l).length = m * 2 by rw [rcells_length]; omega)
  have H1 := Lib.hid (rcells_one l)
  have MK := Lib.hid (fun i (hi : i < 12) w' => markRule_any i hi w')
  have hw12 : IntKind.i64.wrap ((m : Int) + 12) = (m : Int) + 12 := IntWalk.i64_in _ (by omega)
  have hmk : ∀ W : World, (Instr.makeSlice 22 (.int .i64 0) (.int .i64 ((m : Int) + 12))).run Tryz.prog W = .ok (.slice (some ⟨W.heap.size, 0, none⟩) 0 (m + 12)) (W.alloc (.cells (madeCells (Value.agg #[.string ByteArray.empty, .int .i64 0]).cells ((m + 12) * 2)) 72)) := fun W => by
    have hr := run_make (P := Tryz.prog) W 22 72 i0 (.agg #[.string ByteArray.empty, .int .i64 0]) Tryz.underlying22 hi hz0 .i64 .i64 ((0 : Nat) : Int) ((m + 12 : Nat) : Int) (by omega) (by omega) (by rw [hz2]; omega) (by omega)
    rw [hz1, Int.toNat_natCast, Int.toNat_natCast, Int.natCast_add] at hr
    exact hr
  clear hA hc em
  have hli : (m : Int) + 12 ≤ 100012 := by omega
  go_enter Tryz.func78, Tryz.ntmps78
  obtain ⟨ca, eca⟩ : ∃ ca, ca = madeCells (Value.agg #[.string ByteArray.empty, .int .i64 0]).cells ((m + 12) * 2) := ⟨_, rfl⟩
  have hcs : ca.size = (m + 12) * 2 := by rw [eca]; simp [madeCells]
  rw [← eca] at hmk
  have OR := Lib.hid (own_roomT w 72 2 (m + 12) ca hcs (by unfold maxLen; omega))
  clear eca hcs
  go_wp2_with (at_builtin; refine wpList_append_onto _ rfl _ _ 22 rfl w.heap.size 72 i0 (.agg #[.string ByteArray.empty, .int .i64 0]) 2 24 Tryz.underlying22 hi hz0 hz1 hz2 rfl (by decide) _ _ _ rfl OR.out A m c (rcells l) rfl HL.out (NW.out _ (B1 w _)) HC.out H1.out (by unfold maxLen; omega) (by omega) (by simp) ?_; intro v9 w9 hown9 hgrow9 hfr9; have O9 := Lib.hid hown9; have G9 := Lib.hid hgrow9; clear hown9 hgrow9 hfr9)
  have HB9 := Lib.hid (grown_below (B1 w (.cells ca 72)) (by simp) G9.out (fun q hq => (OR.out.lt q hq).1))
  have O9' := O9.out
  rw [Nat.zero_add, List.nil_append] at O9'
  have O0 := Lib.hid O9'
  clear O9' hmk O9 G9 OR
  go_loopw [3, 4] (fun ov iv wr => ∃ (k : Nat) (v : Value), k ≤ 12 ∧ iv = .int .i64 k ∧ ov = v ∧ wr.ownsRow w.heap.size 72 2 v (m + k) (rcells l ++ rcells (marksR k)) ∧ Below w.heap.size w wr) (fun _ iv _ => 12 - (RowKit.intOf iv).toNat)
  case atStart => exact ⟨0, _, by omega, rfl, rfl, by simpa [marksR, rcells] using O0.out, HB9.out⟩
  case round =>
    clear O0 HB9
    obtain ⟨k, v, hk, rfl, rfl, ho, hb⟩ := hrel
    have OW := Lib.hid ho
    have HB := Lib.hid hb
    obtain ⟨Av, cv, rfl, _, _⟩ := own_slice ho
    by_cases hlt : k < 12
    · have hlt2 : (k : Int) < 12 := by omega
      have M1 := Lib.hid (MK.out k hlt wr)
      clear ho hb
      go_wp2_with (first | (go_at_call 115; (with_reducible refine M1.out.mono ?_); rintro e w3 ⟨rfl, hb3⟩; have HB3 := Lib.hid hb3; clear hb3) | (at_builtin; refine wpList_append_onto _ rfl _ _ 22 rfl w.heap.size 72 i0 (.agg #[.string ByteArray.empty, .int .i64 0]) 2 24 Tryz.underlying22 hi hz0 hz1 hz2 rfl (by decide) _ _ _ rfl (own_below (own_below OW.out HB3.out) (B1 _ _)) (some ⟨w3.heap.size, 0, none⟩) 1 1 [.string ByteArray.empty, .int .i64 (mrk 1 k)] rfl rfl (rule_news w3 _ _ _) (fun h => by cases h) (by simp [Value.oneCell']) (by unfold maxLen; omega) (by omega) (by have h1 := HB.out.size; have h2 := HB3.out.size; simp; omega) ?_; intro v9 w9 hown9 hgrow9 hfr9; have O9 := Lib.hid hown9; have G9 := Lib.hid hgrow9; clear hown9 hgrow9 hfr9))
      go_roundw
      case rel => exact ⟨k + 1, v9, by omega, by go_num, rfl, by rw [marksR_next, rcells_apps, ← List.append_assoc]; exact O9.out, grown_below ((HB.out.trans (HB3.out.mono HB.out.size)).trans ((B1 _ _).mono (by have := HB.out.size; have := HB3.out.size; omega))) (by have := HB.out.size; have := HB3.out.size; simp; omega) G9.out (fun q hq => (OW.out.lt q hq).1)⟩
      case measure => simp [RowKit.intOf]; omega
    · obtain rfl : k = 12 := by omega
      have hlt2 : ¬ ((12 : Nat) : Int) < 12 := by omega
      have hcv : m ≤ cv := by
        obtain ⟨A', c', e', _, h'⟩ := own_slice ho
        cases e'; omega
      have hcv2 : (m : Int) ≤ cv := by omega
      clear ho hb
      go_wp2_with fail
      go_ret
      exact ⟨_, _, rfl, OW.out, HB.out⟩
end Go.Proofs.YtjelgmdjmjnnfaaGreat

/- A leaf turned into another leaf, plainly: what may match nothing then. -/
import Derived.Test.YtlbjmkljmhfjdaaGreatD2
import Derived.Test.YtlbjmkljmhfjdaaGreatD8
import Derived.Test.YtlbjmkljmhfjdaaGreatB7
import Derived.Deep.MidRow
import Derived.Test.YtlbjmkljmhfjdaaGreatC3
import Derived.Test.YtlbjmkljmhfjdaaGreatD4
set_option linter.unusedSimpArgs false
set_option linter.unusedVariables false
namespace Go.Proofs.YtlbjmkljmhfjdaaGreat
open Go Go.RowKit Go.Maps
/-- A grammar with one node turned into another. -/
def Gr.turn (g : Gr) (c : Nat) (y : Nd) : Gr := { g with nodes := g.nodes.set c y }
theorem turn_len (g : Gr) (c : Nat) (y : Nd) : (g.turn c y).nodes.length = g.nodes.length := by simp [Gr.turn]
theorem turn_at {g : Gr} {c : Nat} {y : Nd} (hc : c < g.nodes.length) : (g.turn c y).nodes.getD c Nd.zero = y := by
  simp only [Gr.turn, List.getD]
  rw [List.getElem?_set_self hc]; rfl
theorem turn_other {g : Gr} {c j : Nat} {y : Nd} (h : j ≠ c) : (g.turn c y).nodes.getD j Nd.zero = g.nodes.getD j Nd.zero := by
  simp only [Gr.turn, List.getD]
  rw [List.getElem?_set_ne (fun e => h e.symm)]
theorem turn_kids {g : Gr} {c : Nat} {y : Nd} (hc : c < g.nodes.length) (h : y.kids = (g.nodes.getD c Nd.zero).kids) (j : Nat) : kidsOf (g.turn c y).nodes j = kidsOf g.nodes j := by
  unfold kidsOf
  by_cases e : j = c
  · subst e; rw [turn_at hc, h]
  · rw [turn_other e]
theorem turn_meas {g : Gr} {c : Nat} {y : Nd} (hc : c < g.nodes.length) (h : y.kids = (g.nodes.getD c Nd.zero).kids) {ms : Nat → Meas} (hm : Measured g.nodes ms 0) : Measured (g.turn c y).nodes ms 0 := by
  intro m h1 h2
  rw [turn_len] at h2
  have := hm m h1 h2
  rw [turn_kids hc h, turn_len]
  exact this
theorem turn_right {g : Gr} {c : Nat} {y : Nd} (hR : Right g) (hc : c < g.nodes.length) (h : y.kids = (g.nodes.getD c Nd.zero).kids) (hy : nodeOk y g.rules.length = true) : Right (g.turn c y) := by
  obtain ⟨ms, hm, hb⟩ := hR.pre
  refine ⟨hR.rules, by rw [turn_len]; exact hR.nodes, hR.named, fun i hi => ?_, ms, turn_meas hc h hm, ?_⟩
  · rw [turn_len] at hi
    show nodeOk ((g.turn c y).nodes.getD i Nd.zero) g.rules.length = true
    by_cases e : i = c
    · subst e; rw [turn_at hc]; exact hy
    · rw [turn_other e]; exact hR.all i hi
  · rw [turn_len]
    exact hb
theorem turn_up_kids {g : Gr} {c : Nat} {y : Nd} (hR : Right g) (hc : c < g.nodes.length) (h : y.kids = (g.nodes.getD c Nd.zero).kids) : KidsUp (g.turn c y).nodes := by
  intro m hm2 k hk
  rw [turn_len] at hm2
  have := turn_kids hc h m
  unfold kidsOf at this
  rw [this] at hk
  have := hR.kidsUp m hm2 k hk
  rw [turn_len]
  exact this
/-- One that never may, turned: what may, may still. -/
theorem turn_up {g : Gr} {c : Nat} {y : Nd} (hR : Right g) (hc : c < g.nodes.length) (h : y.kids = (g.nodes.getD c Nd.zero).kids) (inn inn' : Int → Bool)
    (hy : ∀ f, stepMay (g.nodes.getD c Nd.zero) f inn = false) (hi : ∀ k, inn k = true → inn' k = true) :
    ∀ (d n : Nat), n < g.nodes.length → g.nodes.length - n ≤ d → mayN g.nodes inn n = true → mayN (g.turn c y).nodes inn' n = true
  | 0, n, hn, hd, _ => by omega
  | d + 1, n, hn, hd, hm => by
    rw [mayN_eq hR.kidsUp inn (n := n) (by omega) (by omega), Int.toNat_natCast] at hm
    rw [mayN_eq (turn_up_kids hR hc h) inn' (n := n) (by omega) (by rw [turn_len]; omega), Int.toNat_natCast]
    by_cases e : n = c
    · subst e
      rw [hy] at hm
      cases hm
    · rw [turn_other e]
      refine stepMay_mono (fun k hk hv => ?_) (hi _) hm
      have := hR.kidsUp n hn k hk
      obtain ⟨j, rfl⟩ : ∃ j : Nat, k = j := ⟨k.toNat, by omega⟩
      exact turn_up hR hc h inn inn' hy hi d j (by omega) (by omega) hv
/-- One that never may, turned into one that never may: nothing changes. -/
theorem turn_same {g : Gr} {c : Nat} {y : Nd} (hR : Right g) (hc : c < g.nodes.length) (h : y.kids = (g.nodes.getD c Nd.zero).kids) (inn : Int → Bool)
    (hy : ∀ f, stepMay (g.nodes.getD c Nd.zero) f inn = false) (hy2 : ∀ f, stepMay y f inn = false) (n : Int) (h0 : 0 ≤ n) (h1 : n < g.nodes.length) :
    mayN (g.turn c y).nodes inn n = mayN g.nodes inn n := by
  refine mayN_unique hR.kidsUp inn (mayN (g.turn c y).nodes inn) (lo := 0) (by omega) (fun m a b => ?_) (g.nodes.length) n h0 h1 (by omega)
  rw [mayN_eq (turn_up_kids hR hc h) inn a (by rw [turn_len]; exact b)]
  by_cases e : m.toNat = c
  · rw [e, turn_at hc, hy, hy2]
  · rw [turn_other e]
theorem turn_rules (g : Gr) (c : Nat) (y : Nd) : (g.turn c y).rules = g.rules := rfl
theorem rk_full (g : Gr) (k : Nat) : ∀ i, g.rules.length ≤ i → (rk g k).getD i 0 = 0 := fun i hi => by
  simp only [List.getD]
  rw [List.getElem?_eq_none (by rw [rk_length]; exact hi)]
  rfl
/-- Who is in is in, as soon, behind the turn. -/
theorem turn_in {g : Gr} {c : Nat} {y : Nd} (hR : Right g) (hc : c < g.nodes.length) (h : y.kids = (g.nodes.getD c Nd.zero).kids)
    (hy : ∀ f inn, stepMay (g.nodes.getD c Nd.zero) f inn = false) : ∀ (k i : Nat), 0 < (rk g k).getD i 0 → 0 < (rk (g.turn c y) k).getD i 0
  | 0, i, hi => by rw [rk_zero] at hi; omega
  | k + 1, i, hi => by
    by_cases hl : i < g.rules.length
    · have hb := in_body k i hl hi
      have hbd := hR.body i hl
      obtain ⟨q, hq⟩ : ∃ q : Nat, (g.rules.getD i Rl.zero).body = q := ⟨(g.rules.getD i Rl.zero).body.toNat, by omega⟩
      rw [hq] at hb
      have hu := turn_up hR hc h (inB (rk g k)) (inB (rk (g.turn c y) k)) (fun f => hy f _) (fun r hr => by
        simp only [inB, decide_eq_true_eq] at hr ⊢
        exact turn_in hR hc h hy k _ hr) g.nodes.length q (by omega) (by omega) hb
      have := body_in (g := g.turn c y) k i hl
      rw [turn_rules, hq, hu] at this
      simpa using this.symm
    · rw [rk_full g (k + 1) i (by omega)] at hi
      omega
/-- Ranks don't rise. -/
theorem turn_rank {g : Gr} {c : Nat} {y : Nd} (hR : Right g) (hc : c < g.nodes.length) (h : y.kids = (g.nodes.getD c Nd.zero).kids)
    (hy : ∀ f inn, stepMay (g.nodes.getD c Nd.zero) f inn = false) (i : Nat) (hi : 0 < (ranks g).getD i 0) : 0 < (ranks (g.turn c y)).getD i 0 ∧ (ranks (g.turn c y)).getD i 0 ≤ (ranks g).getD i 0 := by
  have hle := ranks_le g i
  obtain ⟨a, ha⟩ : ∃ a : Nat, (ranks g).getD i 0 = a := ⟨((ranks g).getD i 0).toNat, by omega⟩
  have h1 := rk_below g i (g.rules.length - a) a
  rw [show a + (g.rules.length - a) = g.rules.length by omega] at h1
  have h2 : (rk g a).getD i 0 = a := by
    rw [h1]
    show (if (ranks g).getD i 0 ≤ (a : Int) then (ranks g).getD i 0 else 0) = a
    rw [if_pos (by omega), ha]
  have h3 := turn_in hR hc h hy a i (by omega)
  have h4 := rk_keep (g.turn c y) a i h3 (g.rules.length - a)
  rw [show a + (g.rules.length - a) = (g.turn c y).rules.length by rw [turn_rules]; omega] at h4
  have h5 := (rk_bound (g.turn c y) a i).2
  have h6 : (ranks (g.turn c y)).getD i 0 = (rk (g.turn c y) a).getD i 0 := h4
  rw [h6, ha]
  exact ⟨h3, h5⟩
/-- A call of a rule that never comes in, turned into one that never may: the same rounds. -/
theorem turn_rk {g : Gr} {c : Nat} {y : Nd} (hR : Right g) (hc : c < g.nodes.length) (h : y.kids = (g.nodes.getD c Nd.zero).kids)
    (hy : ∀ f k, stepMay (g.nodes.getD c Nd.zero) f (inB (rk g k)) = false) (hy2 : ∀ f inn, stepMay y f inn = false) : ∀ k, rk (g.turn c y) k = rk g k
  | 0 => rfl
  | k + 1 => by
    have ih := turn_rk hR hc h hy hy2 k
    apply ext_getD
    · rw [rk_length, rk_length, turn_rules]
    · intro i hi
      rw [rk_length, turn_rules] at hi
      rw [rk_next _ k i (by rw [turn_rules]; exact hi), rk_next g k i hi]
      have hbd := hR.body i hi
      have : comB (g.turn c y) (rk (g.turn c y) k) i = comB g (rk g k) i := by
        unfold comB
        rw [ih, turn_rules, turn_same hR hc h (inB (rk g k)) (fun f => hy f k) (fun f => hy2 f _) _ hbd.1 hbd.2]
      rw [this, ih]
end Go.Proofs.YtlbjmkljmhfjdaaGreat
namespace Go.Proofs.YtlbjmkljmhfjdaaGreat
open Go Go.RowKit Go.Maps
theorem own_blkT {w : World} {B e size n b : Nat} {v : Value} {xs : List Value} (h : w.ownsRow B e size v n xs) (hv : v.ownBlock = some b) : ∃ vs, Blk w b vs e ∧ n * size ≤ vs.size := by
  rcases h.2 with ⟨rfl, _⟩ | ⟨g, cap, cur, rfl, hbg, hgg, hn, hc, hs, rest⟩
  · cases hv
  · simp only [Value.ownBlock, Option.some.injEq] at hv
    subst hv
    exact ⟨cur, hgg, by rw [hs]; exact Nat.mul_le_mul_right _ hn⟩
theorem Blk.same_T {w : World} {b : Nat} {vs vs' : Array Value} {T T' : TypeId} (h : Blk w b vs T) (h' : Blk w b vs' T') : T = T' := by
  have e : some (Obj.cells vs T (0, 0)) = some (Obj.cells vs' T' (0, 0)) := h.symm.trans h'
  simp only [Option.some.injEq, Obj.cells.injEq] at e
  exact e.2.1
theorem wpList_store_mid2 {P : Program} {ops : Array Oper} {rest : List Oper} {op : Oper} {a : Act} {w : World} {Q : Exit → Act → World → Prop} (hgd : op.guard = none) (ty : TypeId) (x y : Operand) (ho : op.op = .store ty x y)
    (b o : Nat) (cells : Array Value) (hx : a.eval x = .pointer (some ⟨b, o, none⟩)) (hy : a.eval y = .agg cells)
    (ht : w.there b o cells.size) (hi : (P.info? ty).map (·.size) = some cells.size) (h1 : cells.all (·.oneCell') = true)
    (h : ∀ W, W = w.setCells b o cells.toList → wpList P ops Q rest (a.put op.dst undef) W) : wpList P ops Q (op :: rest) a w :=
  wpList_store_mid hgd ty x y ho b o cells hx hy ht hi h1 (h _ rfl)
theorem ncells_set : ∀ (l : List Nd) (c : Nat) (y : Nd), c < l.length → (ncells l).take (c * 9) ++ y.cells ++ (ncells l).drop (c * 9 + y.cells.length) = ncells (l.set c y)
  | [], c, y, h => by simp at h
  | x :: l, 0, y, _ => by
    simp only [ncells, Nat.zero_mul, List.take_zero, List.nil_append, List.set_cons_zero, Nat.zero_add]
    rw [show y.cells.length = x.cells.length from rfl, List.drop_left]
  | x :: l, c + 1, y, h => by
    have ih := ncells_set l c y (by simpa using h)
    simp only [ncells, List.set_cons_succ]
    rw [← ih]
    have hx : x.cells.length = 9 := rfl
    rw [List.take_append, List.drop_append, List.take_of_length_le (by rw [hx]; omega), List.drop_of_length_le (by rw [hx]; omega), hx]
    rw [show (c + 1) * 9 - 9 = c * 9 by omega, show (c + 1) * 9 + y.cells.length - 9 = c * 9 + y.cells.length by omega]
    simp [List.append_assoc]
/-- A node without kids stored into a grammar of one's own. -/
theorem Fresh.turn {w : World} {B g c : Nat} {h : Gr} {y : Nd} (f : Fresh w B h) (e : h.NA = some ⟨g, 0, none⟩) (hc : c < h.nodes.length) (hy : y.kids = []) (hy2 : y.A = none) (hy3 : y.cap = 0) :
    Fresh (w.setCells g (c * 9) y.cells) B (h.turn c y) ∧ Below B w (w.setCells g (c * 9) y.cells) ∧ w.grownBy (w.setCells g (c * 9) y.cells) (some g) := by
  have f2 := f.nodes
  rw [e] at f2
  obtain ⟨h1, h2⟩ := own_set (w := w) y.cells (c * 9) w _ f2 (by rw [ncells_length]; show c * 9 + 9 ≤ _; omega)
  rw [ncells_set _ _ _ hc] at h1
  obtain ⟨vs, k1, _⟩ := own_blkT (b := g) f.nodes (by rw [e]; rfl)
  have hgb : B ≤ g := (f.nodes.lt g (by rw [e]; rfl)).1
  refine ⟨⟨?_, ?_, fun x hx => ?_, f.rn, f.nn⟩, ?_, h2⟩
  · refine own_kept f.rules (fun k hk => h2.block k (f.rules.lt k hk).2 (fun e2 => ?_))
    simp only [Option.some.injEq] at e2
    subst e2
    obtain ⟨vs2, k2, _⟩ := own_blkT f.rules hk
    exact absurd (k1.same_T k2) (by decide)
  · show World.ownsRow _ B _ 9 (.slice h.NA (h.nodes.set c y).length h.nc) (h.nodes.set c y).length (ncells (h.nodes.set c y))
    rw [List.length_set, e]
    exact h1
  · rcases List.mem_or_eq_of_mem_set hx with hx | rfl
    · refine ⟨own_kept (f.kids x hx).1 (fun k hk => h2.block k ((f.kids x hx).1.lt k hk).2 (fun e2 => ?_)), (f.kids x hx).2⟩
      simp only [Option.some.injEq] at e2
      subst e2
      obtain ⟨vs2, k2, _⟩ := own_blkT (f.kids x hx).1 hk
      exact absurd (k1.same_T k2) (by decide)
    · rw [hy, hy2, hy3]
      exact ⟨World.ownsRow_nil _ _ _ _, fun _ => rfl⟩
  · exact (Below.refl B w).grown h2 (Nat.le_trans hgb (Nat.le_of_lt (f.nodes.lt g (by rw [e]; rfl)).2)) (fun k hk => by cases hk; exact hgb)
theorem Fresh.shape {w : World} {B : Nat} {h : Gr} (f : Fresh w B h) (h0 : 0 < h.nodes.length) : ∃ g, h.NA = some ⟨g, 0, none⟩ ∧ B ≤ g ∧ g < w.heap.size := by
  obtain ⟨g, cap, e, h1, _, _, h2⟩ := own_shape f.nodes h0
  simp only [Value.slice.injEq] at e
  exact ⟨g, e.1, h1, h2⟩
theorem Fresh.at_turn {w w' : World} {B c : Nat} {g h : Gr} {y : Nd} (f : Fresh w' B (h.turn c y)) (t : GTwin g h) (hg : Gr.At w g) (hy : y.kids = []) (hy2 : y.text.size ≤ 9223372036854775807) : Gr.At w' (h.turn c y) where
  rules := own_rules f.rules
  nodes := own_nodes f.nodes
  kids := fun x hx => by
    refine ⟨own_lies1 (f.kids x hx).1, (f.kids x hx).2, ?_⟩
    rcases List.mem_or_eq_of_mem_set hx with hx | rfl
    · obtain ⟨z, hz, A, c, rfl⟩ := t.mem hx
      exact (hg.kids z hz).2.2
    · rw [hy]; simp
  rl := by show h.rules.length ≤ _; rw [t.rules]; exact hg.rl
  nl := by rw [turn_len, t.len]; exact hg.nl
  rn := f.rn
  nn := f.nn
  texts := fun x hx => by
    rcases List.mem_or_eq_of_mem_set hx with hx | rfl
    · obtain ⟨z, hz, A, c, rfl⟩ := t.mem hx
      exact hg.texts z hz
    · exact hy2
  names := by show ∀ r ∈ h.rules, _; rw [t.rules]; exact hg.names
end Go.Proofs.YtlbjmkljmhfjdaaGreat
namespace Go.Proofs.YtlbjmkljmhfjdaaGreat
open Go Go.RowKit Go.Maps
end Go.Proofs.YtlbjmkljmhfjdaaGreat
namespace Go.Proofs.YtlbjmkljmhfjdaaGreat
open Go Go.RowKit Go.Maps
theorem leaf_kids {x : Nd} {r : Int} (h : nodeOk x r = true) (hk : x.kind = 2 ∨ x.kind = 3 ∨ x.kind = 4 ∨ x.kind = 5) : x.kids = [] := by
  rcases hk with e | e | e | e
  · rw [nodeOk_of (n := 290) (by rw [e]; decide)] at h
    simp [tk, sameNd, bare] at h
    exact h.2.2.2.2
  · rw [nodeOk_of (n := 291) (by rw [e]; decide)] at h
    simp [tk, sameNd, bare] at h
    exact h.2.2.2.2
  · rw [nodeOk_of (n := 292) (by rw [e]; decide)] at h
    simp [tk, sameNd, bare] at h
    exact h.2.2.2.2
  · rw [nodeOk_of (n := 293) (by rw [e]; decide)] at h
    simp [tk, sameNd, bare] at h
    exact h.2.2.2
theorem k234 {k : Int} (h : k = 2 ∨ k = 3 ∨ k = 4) : k = 2 ∨ k = 3 ∨ k = 4 ∨ k = 5 := by omega
theorem bare_ok (k r : Int) (hk : k = 1 ∨ k = 2) : nodeOk (bare k) r = true := by
  rcases hk with rfl | rfl
  · rw [nodeOk_of (n := 290) (by decide)]
    simp [tk, sameNd, bare]
  · rw [nodeOk_of (n := 290) (by decide)]
    simp [tk, sameNd, bare]
theorem never {x : Nd} (hk : x.kind = 2 ∨ x.kind = 3 ∨ x.kind = 4) (f inn : Int → Bool) : stepMay x f inn = false := by
  unfold stepMay
  rcases hk with e | e | e <;> simp [e]
theorem bare1_may (f inn : Int → Bool) : stepMay (bare 1) f inn = true := by unfold stepMay; simp [bare]
theorem call_step {x : Nd} (hk : x.kind = 5) (f inn : Int → Bool) : stepMay x f inn = inn x.rule := by unfold stepMay; simp [hk]
theorem bare_in (k : Int) (hk : 1 ≤ k ∧ k ≤ 12) : Nd.In (bare k) := by
  refine ⟨by simp only [bare]; omega, by show (0 : Nat) ≤ _; omega⟩
theorem twin_kz {g h : Gr} (t : GTwin g h) : h.kz = g.kz := by
  unfold Gr.kz
  rw [t.rules]
  congr 1
  apply List.ext_getElem (by simp [t.len])
  intro i h1 h2
  simp only [List.length_map] at h1 h2
  have := t.node i h2
  simp only [List.getD, List.getElem?_eq_getElem h1, List.getElem?_eq_getElem h2, Option.getD_some] at this
  obtain ⟨A, c, e⟩ := this
  simp only [List.getElem_map]
  rw [e]
  rfl
theorem turn_kz {g h : Gr} (t : GTwin g h) (c : Nat) (y : Nd) : (h.turn c y).kz = (g.turn c y).kz := by
  have := twin_kz t
  unfold Gr.kz at this ⊢
  simp only [Gr.mk.injEq, true_and] at this
  simp only [Gr.turn, List.map_set]
  rw [this.1, this.2]
theorem rulesOf_kz (g : Gr) : rulesOf g.kz = rulesOf g := by
  unfold rulesOf
  rw [rightB_kz, ranks_kz]
  rfl
theorem rankOf_pos (g : Gr) (i : Int) : 0 ≤ rankOf g i := by
  unfold rankOf
  split
  · exact ranks_pos g _
  · omega
set_option maxHeartbeats 1000000 in
theorem ints_same (A B : Option Addr) (c d : Nat) (a b : List Int) (ha : a.length ≤ 140737488351232) (hb : b.length ≤ 140737488351232) (w : World) (hA : Lies w A (ints a)) (hB : Lies w B (ints b)) :
    Calls Tryz.prog 58 #[.slice A a.length c, .slice B b.length d] w fun e w' => e = .returned (.bool (decide (a = b))) ∧ ∃ n, w' = w.drewN n := by
  have HA := Lib.hid hA
  have HB := Lib.hid hB
  clear hA hB
  by_cases hl : a.length = b.length
  · have HL := Lib.hid hl
    obtain ⟨m, em⟩ : ∃ m, m = b.length := ⟨_, rfl⟩
    rw [← em] at hl hb ⊢
    rw [hl] at ha ⊢
    have EM := Lib.hid em
    clear em hl
    go_enter Tryz.func58, Tryz.ntmps58
    go_wp2_with fail
    go_loopw [5] (fun i wr => ∃ (k n : Nat), k ≤ m ∧ i = .int .i64 k ∧ a.take k = b.take k ∧ wr = w.drewN n) (fun i _ => m - (intOf i).toNat)
    case atStart => exact ⟨0, 0, by omega, rfl, by simp, rfl⟩
    case round =>
      obtain ⟨k, n, hk, rfl, ht, rfl⟩ := hrel
      have HT := Lib.hid ht
      clear ht
      by_cases hlt : k < m
      · have hlt2 : (k : Int) < m := by omega
        obtain ⟨b1, o1, rfl, _, c1⟩ := lies_cell HA.out (show k < a.length by have := HL.out; have := EM.out; omega)
        obtain ⟨b2, o2, rfl, _, c2⟩ := lies_cell HB.out (show k < b.length by have := EM.out; omega)
        have HS := Lib.hid (take_same (a := a) (b := b) (k := k) (by have := HL.out; have := EM.out; omega) HL.out HT.out)
        have HN := Lib.hid (@getD_ne a b k)
        generalize a.getD k 0 = x at c1 HS HN
        generalize b.getD k 0 = y at c2 HS HN
        by_cases hxy : x = y
        · have HK := Lib.hid (HS.out.2 hxy)
          have hb : (x == y) = true := by simpa using hxy
          have hb2 : (x != y) = false := by simpa using hxy
          clear HS HN hxy
          go_wp2_with fail
          go_quiet (fail)
          go_wp2_with fail
          go_roundw
          case rel => exact ⟨k + 1, n + nq, by omega, by go_num, HK.out, by first | rfl | exact World.drewN_drewN _ _ _⟩
          case measure => simp [intOf]; omega
        · have HK := Lib.hid (HN.out hxy)
          have hb : (x == y) = false := by simpa using hxy
          have hb2 : (x != y) = true := by simpa using hxy
          clear HS HN hxy
          go_wp2_with fail
          go_quiet (fail)
          go_wp2_with fail
          go_ret
          exact ⟨ret_bool (by simpa using HK.out), n + nq, by first | rfl | exact World.drewN_drewN _ _ _⟩
      · obtain rfl : k = m := by omega
        have hlt2 : ¬ (k : Int) < k := by omega
        go_wp2_with fail
        go_ret
        exact ⟨ret_bool (by have := HT.out; rw [List.take_of_length_le (by have := HL.out; have := EM.out; omega), List.take_of_length_le (by have := EM.out; omega)] at this; simp [this]), n, rfl⟩
  · have hne : ¬ (a.length : Int) = b.length := by omega
    have hv : decide (a = b) = false := by simp; intro e; rw [e] at hl; exact hl rfl
    rw [hv]
    clear hv hl
    go_enter Tryz.func58, Tryz.ntmps58
    go_wp2_with fail
    go_ret
    exact ⟨rfl, 0, rfl⟩
theorem rows_le (g : Gr) (hR : Right g) : (rulesOf g).length ≤ 140737488351232 ∧ (nodesOf g).length ≤ 140737488351232 := by
  have h1 := hR.rules.2
  have h2 := hR.nodes
  rw [nodesOf_of hR]
  unfold rulesOf
  rw [rightB_true.2 hR]
  have h3 := rowOf_len (fun i => inB (ranks g) i) g.rules.length
  have h4 := rowOf_len (fun n => mayN g.nodes (inB (ranks g)) n) g.nodes.length
  exact ⟨by simp only [if_true]; omega, by omega⟩
theorem same_row (A B : Option Addr) (c d : Nat) (L : List Nat) (hl : L.length ≤ 140737488351232) (w : World) (hA : Lies w A (ints (nums L))) (hB : Lies w B (ints (nums L))) :
    Calls Tryz.prog 58 #[.slice A L.length c, .slice B L.length d] w fun e w' => e = .returned (.bool true) ∧ Below w.heap.size w w' := by
  have := ints_same A B c d (nums L) (nums L) (by rw [nums_len]; exact hl) (by rw [nums_len]; exact hl) w hA hB
  rw [nums_len] at this
  refine this.mono ?_
  rintro e w' ⟨rfl, n, rfl⟩
  exact ⟨by rw [decide_eq_true rfl], bdrew (Below.refl _ _)⟩
theorem turn_in_ {g h : Gr} (t : GTwin g h) (hi : Gr.In g) (c : Nat) (k : Int) (hk : 1 ≤ k ∧ k ≤ 12) : Gr.In (h.turn c (bare k)) := by
  intro x hx
  rcases List.mem_or_eq_of_mem_set hx with hx | rfl
  · exact (t.within hi) x hx
  · exact bare_in k hk
/-- A Text, a Set, an Any made an Empty. -/
theorem more_empty {g h : Gr} {c : Nat} (hR : Right g) (t : GTwin g h) (hc : c < g.nodes.length) (hk : (g.nodes.getD c Nd.zero).kind = 2 ∨ (g.nodes.getD c Nd.zero).kind = 3 ∨ (g.nodes.getD c Nd.zero).kind = 4) :
    nodeB (h.turn c (bare 1)) c = true ∧ nodeB g c = false ∧ ∀ i, i < g.rules.length → 0 < (ranks g).getD i 0 → 0 < rankOf (h.turn c (bare 1)) i ∧ rankOf (h.turn c (bare 1)) i ≤ (ranks g).getD i 0 := by
  have hkids : (bare 1).kids = (g.nodes.getD c Nd.zero).kids := by
    rw [leaf_kids (hR.all c hc) (k234 hk)]; rfl
  have hR2 : Right (g.turn c (bare 1)) := turn_right hR hc hkids (bare_ok 1 _ (.inl rfl))
  refine ⟨?_, ?_, fun i hi h0 => ?_⟩
  · rw [← nodeB_kz, turn_kz t, nodeB_kz, nodeB_of hR2 c (by rw [turn_len]; exact hc), mayN_eq (turn_up_kids hR hc hkids) _ (by omega) (by rw [turn_len]; omega), Int.toNat_natCast, turn_at hc]
    exact bare1_may _ _
  · rw [nodeB_of hR c hc, mayN_eq hR.kidsUp _ (by omega) (by omega), Int.toNat_natCast]
    exact never hk _ _
  · rw [← rankOf_kz, turn_kz t, rankOf_kz, rank_of hR2 i hi]
    exact turn_rank hR hc hkids (fun f inn => never hk f inn) i h0
/-- A Call of a rule that may not made an Any. -/
theorem more_any {g h : Gr} {c : Nat} (hR : Right g) (t : GTwin g h) (hc : c < g.nodes.length) (hk : (g.nodes.getD c Nd.zero).kind = 5) (h0 : ¬ 0 < (ranks g).getD (g.nodes.getD c Nd.zero).rule.toNat 0) :
    rulesOf (h.turn c (bare 2)) = rulesOf g ∧ nodesOf (h.turn c (bare 2)) = nodesOf g := by
  have hkids : (bare 2).kids = (g.nodes.getD c Nd.zero).kids := by
    rw [leaf_kids (hR.all c hc) (.inr (.inr (.inr hk)))]; rfl
  have hR2 : Right (g.turn c (bare 2)) := turn_right hR hc hkids (bare_ok 2 _ (.inr rfl))
  have hn : ∀ f k, stepMay (g.nodes.getD c Nd.zero) f (inB (rk g k)) = false := fun f k => by
    rw [call_step hk]
    unfold inB
    apply decide_eq_false
    intro hp
    apply h0
    by_cases hkl : k ≤ g.rules.length
    · have := rk_keep g k _ hp (g.rules.length - k)
      rw [show k + (g.rules.length - k) = g.rules.length by omega] at this
      show 0 < (rk g g.rules.length).getD _ 0
      rw [this]; exact hp
    · have : rk g k = ranks g := by
        obtain ⟨N, n1, n2, _⟩ := rounds_end g
        have e := rk_stay g N n2 (k - N)
        rw [show N + (k - N) = k by omega] at e
        rw [e, ranks_fix g n1 n2]
      rw [this] at hp
      exact hp
  have hrk : ranks (g.turn c (bare 2)) = ranks g := turn_rk hR hc hkids hn (fun f inn => never (.inl rfl) f inn) _
  constructor
  · rw [← rulesOf_kz, turn_kz t, rulesOf_kz]
    unfold rulesOf
    rw [rightB_true.2 hR, rightB_true.2 hR2, hrk, turn_rules]
  · rw [← nodesOf_kz, turn_kz t, nodesOf_kz, nodesOf_of hR, nodesOf_of hR2, hrk, turn_len]
    apply rowOf_congr
    intro i hi
    exact turn_same hR hc hkids _ (fun f => hn f g.rules.length) (fun f => never (.inl rfl) f _) i (by omega) (by omega)
end Go.Proofs.YtlbjmkljmhfjdaaGreat
namespace Go.Proofs.YtlbjmkljmhfjdaaGreat
open Go Go.RowKit Go.Maps
set_option maxRecDepth 100000 in
set_option maxHeartbeats 2000000 in
theorem size12_any (g : Gr) (w : World) (hg : Gr.At w g) : Calls Tryz.prog 8 #[g.val] w fun e w' => (∃ z : Int, e = .returned (.int .i64 z)) ∧ Below w.heap.size w w' := by
  have HG := Lib.hid hg
  have h1 := hg.rl
  have h2 := hg.nl
  obtain ⟨RA, rc, rules, NA, nc, nodes⟩ := g
  dsimp only at h1 h2
  obtain ⟨m, em⟩ : ∃ m, m = nodes.length := ⟨_, rfl⟩
  obtain ⟨r, er⟩ : ∃ m, m = rules.length := ⟨_, rfl⟩
  show Calls Tryz.prog 8 #[.agg #[.slice RA rules.length rc, .slice NA nodes.length nc]] w _
  have EM := Lib.hid em
  rw [← em, ← er]
  rw [← em] at h2
  rw [← er] at h1
  clear hg em er
  go_enter Tryz.func8, Tryz.ntmps8
  go_wp2_with fail
  obtain ⟨wb, ewb⟩ : ∃ u, u = w.alloc (.cells #[.slice RA r rc, .slice NA m nc] 25) := ⟨_, rfl⟩
  have hb2 : Below w.heap.size w wb := by rw [ewb]; exact B1 _ _
  have c0 : wb.cell? ⟨w.heap.size, 0, none⟩ = some (.slice RA r rc) := by rw [ewb]; exact (Blk.new _ _ _).cell 0
  have c1 : wb.cell? ⟨w.heap.size, 1, none⟩ = some (.slice NA m nc) := by rw [ewb]; exact (Blk.new _ _ _).cell 1
  rw [← ewb]
  have BB := Lib.hid hb2
  clear ewb hb2
  go_loopw [3, 4] (fun s i wr => ∃ (k : Nat) (n : Int), k ≤ m ∧ s = .int .i64 n ∧ i = .int .i64 k ∧ n ≤ 500000000000000 ∧ 0 ≤ n ∧ wr = wb) (fun _ i _ => m - (intOf i).toNat)
  case atStart => exact ⟨0, r + m, by omega, rfl, rfl, by omega, by omega, rfl⟩
  case round =>
    obtain ⟨k, n, hk, rfl, rfl, hn, hn0, rfl⟩ := hrel
    by_cases hlt : k < m
    · have hlt2 : (k : Int) < m := by omega
      by_cases hle : n ≤ 300
      · obtain ⟨b1, o1, eA, _, _, _, _, _, _, _, _, _, c9⟩ := (HG.out.below BB.out).nodes.nine (show k < nodes.length by have := EM.out; omega)
        have hx := ((HG.out.below BB.out).node (show k < nodes.length by have := EM.out; omega)).2.2
        dsimp only at eA c9 hx
        rw [eA] at c1
        generalize nodes.getD k Nd.zero = x at c9 hx
        clear eA
        go_wp2_with fail
        go_roundw
        case rel => exact ⟨k + 1, n + x.kids.length, by omega, by first | rfl | go_num, by go_num, by omega, by omega, by first | trivial | rfl⟩
        case measure => simp [intOf]; omega
      · have hle2 : 300 < n := by omega
        go_wp2_with fail
        go_ret
        exact ⟨⟨n, rfl⟩, BB.out⟩
    · obtain rfl : k = m := by omega
      have hlt2 : ¬ (k : Int) < k := by omega
      go_wp2_with fail
      go_ret
      exact ⟨⟨n, rfl⟩, BB.out⟩
theorem lsame_any (A B : Option Addr) (c d : Nat) (a b : List Int) (ha : a.length ≤ 140737488351232) (hb : b.length ≤ 140737488351232) (w : World) (hA : Lies w A (ints a)) (hB : Lies w B (ints b)) :
    Calls Tryz.prog 24 #[.slice A a.length c, .slice B b.length d] w fun e w' => e = .returned (.bool (decide (a = b))) ∧ Below w.heap.size w w' := by
  have I := Lib.hid (ints_same A B c d a b ha hb w hA hB)
  generalize decide (a = b) = bo at I ⊢
  obtain ⟨x, ex⟩ : ∃ x, x = a.length := ⟨_, rfl⟩
  obtain ⟨y, ey⟩ : ∃ x, x = b.length := ⟨_, rfl⟩
  rw [← ex, ← ey] at I ⊢
  clear hA hB ex ey
  go_enter Tryz.func24, Tryz.ntmps24
  go_wp2_with (go_at_call 58; with_reducible refine I.out.mono ?_; rintro e w1 ⟨rfl, n, rfl⟩)
  go_ret
  exact ⟨rfl, bdrew (Below.refl _ _)⟩
def hasN (a : List Int) (k : Int) (j : Nat) : Bool := (a.take j).any fun x => x == k
theorem hasN_next {a : List Int} {k : Int} {j : Nat} (h : j < a.length) : hasN a k (j + 1) = (hasN a k j || (a.getD j 0 == k)) := by
  unfold hasN; rw [take_one h, any_one]
theorem hasN_all (a : List Int) (k : Int) : hasN a k a.length = decide (k ∈ a) := by
  unfold hasN
  rw [List.take_length, Bool.eq_iff_iff]
  simp
end Go.Proofs.YtlbjmkljmhfjdaaGreat
namespace Go.Proofs.YtlbjmkljmhfjdaaGreat
open Go Go.RowKit
/-- What the example stands on. -/
structure Awk (w W : World) (g : Gr) (kb gb : Nat) (A0 A1 A2 : Option Addr) (c0 c1 c2 : Nat) : Prop where
  ka : Blk W kb #[.slice g.RA g.rules.length g.rc, .slice g.NA g.nodes.length g.nc] 25
  gr : Gr.At W g
  xb : Blk W gb #[.slice A0 3 c0, .slice A1 0 c1, .slice A2 1 c2] 38
  x0 : Lies W A0 (ints [0, 1, 2])
  x2 : Lies W A2 (ints [2])
  low : Below w.heap.size w W
theorem Awk.below {w W W' : World} {g : Gr} {kb gb : Nat} {A0 A1 A2 : Option Addr} {c0 c1 c2 : Nat} (h : Awk w W g kb gb A0 A1 A2 c0 c1 c2) (hb : Below W.heap.size W W') : Awk w W' g kb gb A0 A1 A2 c0 c1 c2 :=
  ⟨h.ka.below' hb, h.gr.below hb, h.xb.below' hb, h.x0.below hb, h.x2.below hb, h.low.trans (hb.mono h.low.size)⟩
theorem lx_in : Gr.In lx0 := by
  intro x hx
  simp only [lx0, lxN, List.mem_cons, List.not_mem_nil, or_false] at hx
  rcases hx with rfl | rfl | rfl | rfl | rfl | rfl | rfl | rfl | rfl | rfl | rfl | rfl | rfl | rfl | rfl | rfl | rfl
  all_goals exact ⟨by decide, by decide⟩
theorem lsame_yes (A B : Option Addr) (c d n : Nat) (a : List Int) (ha : a.length = n) (hn : n ≤ 1000) (w : World) (hA : Lies w A (ints a)) (hB : Lies w B (ints a)) :
    Calls Tryz.prog 24 #[.slice A n c, .slice B n d] w fun e w' => e = .returned (.bool true) ∧ Below w.heap.size w w' := by
  have := lsame_any A B c d a a (by omega) (by omega) w hA hB
  rw [ha, decide_eq_true rfl] at this
  exact this
theorem row_told {w w' : World} {L M : List Nat} {e : Ending} (h : Row w L e w') (hL : L = M) : ∃ A c, e = .returned (.slice A M.length c) ∧ Lies w' A (ints (nums M)) ∧ Below w.heap.size w w' := by
  subst hL
  obtain ⟨⟨v, rfl, ho, hn⟩, hb⟩ := h
  obtain ⟨A, c, rfl, _, _⟩ := own_slice ho
  exact ⟨A, c, rfl, own_lies1 ho, hb⟩
set_option maxRecDepth 100000 in
set_option maxHeartbeats 8000000 in
theorem lawake_any (w : World) : Calls Tryz.prog 9 #[] w fun e w' => e = .returned (.bool true) ∧ Below w.heap.size w w' := by
  go_enter Tryz.func9, Tryz.ntmps9
  go_upto_region 2 with (first | (go_at_call 22; (refine (lexample_any _).mono ?_); rintro e w1 ⟨g, rfl, h1, h2, h3, hb⟩; have GA := Lib.hid h1; have EA := Lib.hid h2; have CP := Lib.hid h3; have HWa := Lib.hid (show Below w.heap.size w w1 from hb); clear h1 h2 h3 hb) | (refine wpList_store_whole rfl 25 (.tmp 1) (.tmp 3) rfl w1.heap.size #[.slice g.RA g.rules.length g.rc, .slice g.NA g.nodes.length g.nc] rfl rfl 25 _ (Blk.new _ _ _) (by kernel_rfl) (by rfl) (by simp [Value.oneCell']) ?_; intro w2 hk2 hg2; have KA := Lib.hid hk2; have HG2 := Lib.hid (grown_below (B1 w1 _) (by simp) hg2 (fun k e => by cases e; exact Nat.le_refl _)); clear hk2 hg2))
  have HW2 := Lib.hid (show Below w.heap.size w w2 from HWa.out.trans (HG2.out.mono HWa.out.size))
  have GA2 := Lib.hid (GA.out.below HG2.out)
  obtain ⟨kb, ekb⟩ : ∃ u, u = w1.heap.size := ⟨_, rfl⟩
  rw [← ekb] at KA ⊢
  have KA2 := Lib.hid (show Blk w2 kb #[.slice g.RA g.rules.length g.rc, .slice g.NA g.nodes.length g.nc] 25 from KA.out)
  have hR : Right g := (right_kz g).1 (by rw [EA.out]; exact lx_right)
  have hin : Gr.In g := in_of EA.out lx_in
  have hr3 : g.rules.length = 3 := by
    have : g.kz.rules.length = 3 := by rw [EA.out]; rfl
    exact this
  have GR := Lib.hid (show Calls Tryz.prog 23 #[.agg #[.slice g.RA g.rules.length g.rc, .slice g.NA g.nodes.length g.nc]] w2 (fun e w' => ∃ gb vs, e = .returned (.slice (some ⟨gb, 0, none⟩) 3 3) ∧ Rows2 w2 w' gb vs [[0, 1, 2], [], [2]]) from by
    have := graph_any g w2 GA2.out hin CP.out hR
    rw [show graphOf g = [[0, 1, 2], [], [2]] from by rw [← graphOf_kz, EA.out]; exact lx_graph] at this
    refine this.mono ?_
    rintro e w' ⟨gb, vs, h1, h2⟩
    exact ⟨gb, vs, by rw [h1, hr3], h2⟩)
  have TOX := Lib.hid (fun (W : World) (h : Gr.At W g) => (to_any g 0 (by decide) W h hin CP.out).mono (fun e w' h => row_told h (M := [0, 1, 2]) (by rw [← toOf_kz, EA.out]; exact lx_to)))
  have WAX := Lib.hid (fun (W : World) (h : Gr.At W g) => (way_any g 0 2 (by decide) (by decide) W h hin CP.out).mono (fun e w' h => row_told h (M := [0, 2]) (by rw [← wayOf_kz, EA.out]; exact lx_way)))
  have GO0 := Lib.hid (fun (W : World) (h : Gr.At W g) => by have := goes_any g 0 (by decide) W h hin CP.out; rw [← goesB_kz, EA.out, lx_goes.1] at this; exact this)
  have GO1 := Lib.hid (fun (W : World) (h : Gr.At W g) => by have := goes_any g 1 (by decide) W h hin CP.out; rw [← goesB_kz, EA.out, lx_goes.2.1] at this; exact this)
  have GO2 := Lib.hid (fun (W : World) (h : Gr.At W g) => by have := goes_any g 2 (by decide) W h hin CP.out; rw [← goesB_kz, EA.out, lx_goes.2.2] at this; exact this)
  have q0 := KA2.out.cell 0
  have q1 := KA2.out.cell 1
  simp only [List.getElem?_toArray, List.getElem?_cons_zero, List.getElem?_cons_succ] at q0 q1
  clear hR hin ekb hr3 KA GA HWa HG2
  go_wp2_with fail
  refine GR.out.mono ?_
  rintro e v0 ⟨gb, vs, rfl, hr⟩
  obtain ⟨u0, u1, u2, rfl⟩ : ∃ u0 u1 u2, vs = [u0, u1, u2] := by
    have hl := hr.len
    match vs, hl with
    | [a, b, c], _ => exact ⟨a, b, c, rfl⟩
  have r0 := hr.row 0 (by decide)
  have r1 := hr.row 1 (by decide)
  have r2 := hr.row 2 (by decide)
  obtain ⟨A0, c0, e0, _, _⟩ := own_slice r0
  obtain ⟨A1, c1, e1, _, _⟩ := own_slice r1
  obtain ⟨A2, c2, e2, _, _⟩ := own_slice r2
  simp only [List.getD_cons_zero, List.getD_cons_succ, List.length_cons, List.length_nil] at e0 e1 e2
  subst e0 e1 e2
  have K_0 := Lib.hid (show Awk w v0 g kb gb A0 A1 A2 c0 c1 c2 from ⟨KA2.out.below' hr.low, GA2.out.below hr.low, hr.blk, own_lies1 r0, own_lies1 r2, HW2.out.trans (hr.low.mono HW2.out.size)⟩)
  clear hr r0 r1 r2 GR q0 q1 KA2 HW2 GA2
  have a0 := K_0.out.ka.cell 0; have a1 := K_0.out.ka.cell 1; have b0 := K_0.out.xb.cell 0; have b1 := K_0.out.xb.cell 1; have b2 := K_0.out.xb.cell 2
  simp only [List.getElem?_toArray, List.getElem?_cons_zero, List.getElem?_cons_succ] at a0 a1 b0 b1 b2
  have C := Lib.hid (lsame_yes A0 (some ⟨v0.heap.size, 0, none⟩) c0 3 3 [0, 1, 2] rfl (by decide) (v0.alloc (.cells #[.int .i64 0, .int .i64 1, .int .i64 2] 3)) (K_0.out.x0.below (B1 _ _)) (lies_three (Blk.new _ _ _)))
  go_wp2_with fail
  refine C.out.mono ?_
  rintro e v1 ⟨rfl, hb⟩
  have K_1 := Lib.hid ((K_0.out.below (B1 v0 _)).below hb)
  clear hb C a0 a1 b0 b1 b2
  have a0 := K_1.out.ka.cell 0; have a1 := K_1.out.ka.cell 1; have b0 := K_1.out.xb.cell 0; have b1 := K_1.out.xb.cell 1; have b2 := K_1.out.xb.cell 2
  simp only [List.getElem?_toArray, List.getElem?_cons_zero, List.getElem?_cons_succ] at a0 a1 b0 b1 b2
  have C := Lib.hid (lsame_yes A2 (some ⟨v1.heap.size, 0, none⟩) c2 1 1 [2] rfl (by decide) (v1.alloc (.cells #[.int .i64 2] 3)) (K_1.out.x2.below (B1 _ _)) (lies_one (Blk.new _ _ _)))
  go_wp2_with fail
  refine C.out.mono ?_
  rintro e v2 ⟨rfl, hb⟩
  have K_2 := Lib.hid ((K_1.out.below (B1 v1 _)).below hb)
  clear hb C a0 a1 b0 b1 b2
  have a0 := K_2.out.ka.cell 0; have a1 := K_2.out.ka.cell 1; have b0 := K_2.out.xb.cell 0; have b1 := K_2.out.xb.cell 1; have b2 := K_2.out.xb.cell 2
  simp only [List.getElem?_toArray, List.getElem?_cons_zero, List.getElem?_cons_succ] at a0 a1 b0 b1 b2
  go_wp2_with fail
  refine (TOX.out v2 K_2.out.gr).mono ?_
  rintro e v3 ⟨At, ct, rfl, hl, hb⟩
  have K_3 := Lib.hid (K_2.out.below hb); have Lt := Lib.hid hl
  clear hb hl a0 a1 b0 b1 b2
  have a0 := K_3.out.ka.cell 0; have a1 := K_3.out.ka.cell 1; have b0 := K_3.out.xb.cell 0; have b1 := K_3.out.xb.cell 1; have b2 := K_3.out.xb.cell 2
  simp only [List.getElem?_toArray, List.getElem?_cons_zero, List.getElem?_cons_succ] at a0 a1 b0 b1 b2
  have C := Lib.hid (lsame_yes At (some ⟨v3.heap.size, 0, none⟩) ct 3 3 [0, 1, 2] rfl (by decide) (v3.alloc (.cells #[.int .i64 0, .int .i64 1, .int .i64 2] 3)) (Lt.out.below (B1 _ _)) (lies_three (Blk.new _ _ _)))
  go_wp2_with fail
  refine C.out.mono ?_
  rintro e v4 ⟨rfl, hb⟩
  have K_4 := Lib.hid ((K_3.out.below (B1 v3 _)).below hb)
  clear hb C a0 a1 b0 b1 b2
  have a0 := K_4.out.ka.cell 0; have a1 := K_4.out.ka.cell 1; have b0 := K_4.out.xb.cell 0; have b1 := K_4.out.xb.cell 1; have b2 := K_4.out.xb.cell 2
  simp only [List.getElem?_toArray, List.getElem?_cons_zero, List.getElem?_cons_succ] at a0 a1 b0 b1 b2
  go_wp2_with fail
  refine (GO0.out v4 K_4.out.gr).mono ?_
  rintro e v5 ⟨rfl, hb⟩
  have K_5 := Lib.hid (K_4.out.below hb)
  clear hb a0 a1 b0 b1 b2
  have a0 := K_5.out.ka.cell 0; have a1 := K_5.out.ka.cell 1; have b0 := K_5.out.xb.cell 0; have b1 := K_5.out.xb.cell 1; have b2 := K_5.out.xb.cell 2
  simp only [List.getElem?_toArray, List.getElem?_cons_zero, List.getElem?_cons_succ] at a0 a1 b0 b1 b2
  go_wp2_with fail
  refine (GO1.out v5 K_5.out.gr).mono ?_
  rintro e v6 ⟨rfl, hb⟩
  have K_6 := Lib.hid (K_5.out.below hb)
  clear hb a0 a1 b0 b1 b2
  have a0 := K_6.out.ka.cell 0; have a1 := K_6.out.ka.cell 1; have b0 := K_6.out.xb.cell 0; have b1 := K_6.out.xb.cell 1; have b2 := K_6.out.xb.cell 2
  simp only [List.getElem?_toArray, List.getElem?_cons_zero, List.getElem?_cons_succ] at a0 a1 b0 b1 b2
  go_wp2_with fail
  refine (GO2.out v6 K_6.out.gr).mono ?_
  rintro e v7 ⟨rfl, hb⟩
  have K_7 := Lib.hid (K_6.out.below hb)
  clear hb a0 a1 b0 b1 b2
  have a0 := K_7.out.ka.cell 0; have a1 := K_7.out.ka.cell 1; have b0 := K_7.out.xb.cell 0; have b1 := K_7.out.xb.cell 1; have b2 := K_7.out.xb.cell 2
  simp only [List.getElem?_toArray, List.getElem?_cons_zero, List.getElem?_cons_succ] at a0 a1 b0 b1 b2
  go_wp2_with fail
  refine (WAX.out v7 K_7.out.gr).mono ?_
  rintro e v8 ⟨Ay, cy, rfl, hl, hb⟩
  have K_8 := Lib.hid (K_7.out.below hb); have Ly := Lib.hid hl
  clear hb hl a0 a1 b0 b1 b2
  have a0 := K_8.out.ka.cell 0; have a1 := K_8.out.ka.cell 1; have b0 := K_8.out.xb.cell 0; have b1 := K_8.out.xb.cell 1; have b2 := K_8.out.xb.cell 2
  simp only [List.getElem?_toArray, List.getElem?_cons_zero, List.getElem?_cons_succ] at a0 a1 b0 b1 b2
  have C := Lib.hid (lsame_yes Ay (some ⟨v8.heap.size, 0, none⟩) cy 2 2 [0, 2] rfl (by decide) (v8.alloc (.cells #[.int .i64 0, .int .i64 2] 3)) (Ly.out.below (B1 _ _)) (lies_two' (Blk.new _ _ _)))
  go_wp2_with fail
  refine C.out.mono ?_
  rintro e v9 ⟨rfl, hb⟩
  have K_9 := Lib.hid ((K_8.out.below (B1 v8 _)).below hb)
  clear hb C a0 a1 b0 b1 b2
  have a0 := K_9.out.ka.cell 0; have a1 := K_9.out.ka.cell 1; have b0 := K_9.out.xb.cell 0; have b1 := K_9.out.xb.cell 1; have b2 := K_9.out.xb.cell 2
  simp only [List.getElem?_toArray, List.getElem?_cons_zero, List.getElem?_cons_succ] at a0 a1 b0 b1 b2
  go_wp2_with fail
  go_ret
  exact ⟨rfl, K_9.out.low⟩
end Go.Proofs.YtlbjmkljmhfjdaaGreat
namespace Go.Proofs.YtlbjmkljmhfjdaaGreat
open Go Go.RowKit Go.Maps
/-- Whether a rule goes to another one. -/
noncomputable def tB (g : Gr) (i q : Nat) : Bool := (srch g i).1.getD q false
theorem tB_iff {g : Gr} (hR : Right g) {i q : Nat} (hi : i < g.rules.length) : tB g i q = true ↔ To (lcal g) i q := by
  unfold tB
  rw [srch_yes hR hi]
  exact bfs_met (lcal32 hR) i q
theorem To.lt {g : Gr} {i q : Nat} (h : To (lcal g) i q) : q < g.rules.length := by
  obtain ⟨k, hk, _⟩ := h.last
  exact lcal_lt hk
theorem toOf_mem {g : Gr} (hR : Right g) {i q : Nat} (hi : i < g.rules.length) : q ∈ toOf g i ↔ tB g i q = true := by
  unfold toOf
  rw [rowOf_mem]
  refine ⟨fun h => h.2, fun h => ⟨?_, h⟩⟩
  have := ((tB_iff hR hi).1 h).lt
  have := hR.rules.2
  omega
theorem toOf_lt {g : Gr} (hR : Right g) {i q : Nat} (hi : i < g.rules.length) (h : q ∈ toOf g i) : q < g.rules.length := ((tB_iff hR hi).1 ((toOf_mem hR hi).1 h)).lt
theorem goesB_iff {g : Gr} (hR : Right g) {i : Nat} (hi : i < g.rules.length) : goesB g i = tB g i i := by
  have h32 := hR.rules.2
  unfold goesB tB
  cases h : (srch g i).1.getD i false with
  | true =>
    rw [way_yes (by omega) (by omega) (by rw [Int.toNat_natCast]; exact h)]
    simp [wayB]
  | false =>
    rw [way_no (fun hc => by have := hc.2.2; rw [Int.toNat_natCast, h] at this; cases this)]
    rfl
/-- The marks behind so many of those that are called. -/
noncomputable def inK (g : Gr) (L : List Nat) (k q : Nat) : Bool := (L.take k).any fun a => (q == a) || tB g a q
theorem inK_next {g : Gr} {L : List Nat} {k : Nat} (h : k < L.length) (q : Nat) : inK g L (k + 1) q = (inK g L k q || ((q == L.getD k 0) || tB g (L.getD k 0) q)) := by
  unfold inK
  rw [List.take_add_one, List.getElem?_eq_getElem h, Option.toList_some, List.any_append]
  simp [List.getD, List.getElem?_eq_getElem h]
theorem inK_all {g : Gr} (hR : Right g) {i q : Nat} (hi : i < g.rules.length) : inK g (lcal g i) (lcal g i).length q = tB g i q := by
  unfold inK
  rw [List.take_length, Bool.eq_iff_iff, List.any_eq_true, tB_iff hR hi, To.iff]
  constructor
  · rintro ⟨a, ha, h⟩
    rw [Bool.or_eq_true, beq_iff_eq] at h
    rcases h with rfl | h
    · exact .inl ha
    · exact .inr ⟨a, ha, (tB_iff hR (lcal_lt ha)).1 h⟩
  · rintro (h | ⟨k, hk, h⟩)
    · exact ⟨q, h, by simp⟩
    · exact ⟨k, hk, by rw [(tB_iff hR (lcal_lt hk)).2 h]; simp⟩
/-- Whether one goes back, so far. -/
noncomputable def backK (g : Gr) (i k : Nat) : Bool := (List.range k).any fun q => tB g i q && decide ((i : Int) ∈ nums (lcal g q)) && goesB g q
theorem backK_next (g : Gr) (i k : Nat) : backK g i (k + 1) = (backK g i k || (tB g i k && decide ((i : Int) ∈ nums (lcal g k)) && goesB g k)) := by
  unfold backK
  rw [List.range_succ, List.any_append]
  simp
theorem mem_nums {L : List Nat} {k : Nat} : (k : Int) ∈ nums L ↔ k ∈ L := by
  unfold nums
  rw [List.mem_map]
  constructor
  · rintro ⟨a, ha, h⟩
    have : a = k := by omega
    subst this; exact ha
  · intro h; exact ⟨k, h, rfl⟩
theorem backK_all {g : Gr} (hR : Right g) {i : Nat} (hi : i < g.rules.length) (h : tB g i i = true) : backK g i g.rules.length = true := by
  unfold backK
  rw [List.any_eq_true]
  have ht := (tB_iff hR hi).1 h
  obtain ⟨k, hk, h2⟩ := ht.last
  rcases h2 with rfl | h2
  · refine ⟨k, by simpa using hi, ?_⟩
    rw [h, goesB_iff hR hi, h, decide_eq_true (mem_nums.2 hk)]
    rfl
  · have hkl := h2.lt
    refine ⟨k, by simpa using hkl, ?_⟩
    rw [(tB_iff hR hi).2 h2, goesB_iff hR hkl, (tB_iff hR hkl).2 (To.head hk h2), decide_eq_true (mem_nums.2 hk)]
    rfl
end Go.Proofs.YtlbjmkljmhfjdaaGreat

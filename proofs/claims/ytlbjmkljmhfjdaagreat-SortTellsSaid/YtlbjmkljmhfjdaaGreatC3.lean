/- ROWS GROWN BESIDE ROWS: each told row is appended to; the grown one lies in the told one's own block, under the same room, or in a new one; the told rows stay what they are. Nothing here speaks of one program. -/
import Derived.Test.YtlbjmkljmhfjdaaGreatC2
import Derived.Test.YtlbjmkljmhfjdaaGreatA3
import Derived.Test.YtlbjmkljmhfjdaaGreatB2
set_option linter.unusedSimpArgs false
set_option linter.unusedVariables false
namespace Go.Proofs.YtlbjmkljmhfjdaaGreat
open Go Go.RowKit Go.Maps
theorem own_prefix {W : World} {B e b n m cap : Nat} {xs : List Value} (h : W.ownsRow B e 1 (.slice (some ⟨b, 0, none⟩) n cap) n xs) (hm : m ≤ n) : W.ownsRow B e 1 (.slice (some ⟨b, 0, none⟩) m cap) m (xs.take m) := by
  have hl := h.1
  rcases h.2 with ⟨h', _⟩ | ⟨g', cap', cur, h', hb, hg, hnc, hcm, hcs, htake⟩
  · simp at h'
  · simp only [Value.slice.injEq, Option.some.injEq, Addr.mk.injEq, and_true, true_and] at h'
    obtain ⟨rfl, rfl⟩ := h'
    refine ⟨by simp; omega, .inr ⟨b, cap, cur, rfl, hb, hg, by omega, hcm, hcs, ?_⟩⟩
    rw [← htake, List.take_take]
    congr 1
    omega
theorem ints_take (l : List Int) (n : Nat) : (ints l).take n = ints (l.take n) := by
  unfold ints
  rw [List.map_take]
/-- In the same block, with the same room. -/
def Near (v v' : Value) (n n' : Nat) : Prop := ∃ b cap, v = .slice (some ⟨b, 0, none⟩) n cap ∧ v' = .slice (some ⟨b, 0, none⟩) n' cap
/-- The grown rows so far. -/
structure Gs (B T : Nat) (W : World) (lv : Value) (vs : List Value) (ms : Nat → List Int) (gv : Value) (gvs : List Value) (hs : Nat → List Int) (k : Nat) : Prop where
  fl : Fl B T W lv vs ms
  gout : W.ownsRow B T 1 gv gvs.length gvs
  glen : gvs.length = vs.length
  gl : ∀ q, gv.ownBlock = some q → lv.ownBlock ≠ some q
  grow : ∀ j, j < k → W.ownsRow B 3 1 (gvs.getD j undef) (hs j).length (ints (hs j))
  cross : ∀ j i q, j < k → i < vs.length → i ≠ j → (gvs.getD j undef).ownBlock = some q → (vs.getD i undef).ownBlock ≠ some q
  gap : ∀ j i q, j < k → i < k → i ≠ j → (gvs.getD j undef).ownBlock = some q → (gvs.getD i undef).ownBlock ≠ some q
theorem Gs.below {B T : Nat} {W W' : World} {lv : Value} {vs : List Value} {ms : Nat → List Int} {gv : Value} {gvs : List Value} {hs : Nat → List Int} {k : Nat} (h : Gs B T W lv vs ms gv gvs hs k) (hb : Below W.heap.size W W') : Gs B T W' lv vs ms gv gvs hs k :=
  ⟨h.fl.below hb, own_below h.gout hb, h.glen, h.gl, fun j hj => own_below (h.grow j hj) hb, h.cross, h.gap⟩
/-- The one that grows now. -/
structure Cur (B : Nat) (W : World) (vs : List Value) (ms : Nat → List Int) (gvs : List Value) (k : Nat) (g : Value) (l : List Int) : Prop where
  own : W.ownsRow B 3 1 g l.length (ints l)
  pre : l.take (ms k).length = ms k
  rel : Near (vs.getD k undef) g (ms k).length l.length ∨ ∀ j q, j < vs.length → (vs.getD j undef).ownBlock = some q → g.ownBlock ≠ some q
  oth : ∀ j q, j < k → (gvs.getD j undef).ownBlock = some q → g.ownBlock ≠ some q
theorem Cur.below {B : Nat} {W W' : World} {vs : List Value} {ms : Nat → List Int} {gvs : List Value} {k : Nat} {g : Value} {l : List Int} (h : Cur B W vs ms gvs k g l) (hb : Below W.heap.size W W') : Cur B W' vs ms gvs k g l :=
  ⟨own_below h.own hb, h.pre, h.rel, h.oth⟩
section
variable {B T : Nat} {W W' : World} {lv : Value} {vs : List Value} {ms : Nat → List Int} {gv : Value} {gvs : List Value} {hs : Nat → List Int} {k : Nat}
theorem Gs.begin (h : Gs B T W lv vs ms gv gvs hs k) (hk : k < vs.length) : Cur B W vs ms gvs k (vs.getD k undef) (ms k) := by
  refine ⟨h.fl.rows k hk, List.take_length, ?_, fun j q hj hq => h.cross j k q hj hk (by omega) hq⟩
  obtain ⟨A, c, e, hn, _⟩ := own_slice (h.fl.rows k hk)
  have hr := h.fl.rows k hk
  rcases hr.2 with ⟨e1, _⟩ | ⟨b, cap, cur, e1, _⟩
  · exact .inr fun j q _ _ => by rw [e1]; simp [Value.ownBlock]
  · exact .inl ⟨b, cap, e1, e1⟩
/-- It is appended to: what was told stays. -/
theorem Gs.app (h : Gs B T W lv vs ms gv gvs hs k) (hT : T ≠ 3) (hk : k < vs.length) {g g' : Value} {l news : List Int} (hc : Cur B W vs ms gvs k g l) (hm : 0 < news.length) (ho : W'.ownsRow B 3 1 g' (l.length + news.length) (ints l ++ ints news))
    (hg : (∃ b cap, g = .slice (some ⟨b, 0, none⟩) l.length cap ∧ g' = .slice (some ⟨b, 0, none⟩) (l.length + news.length) cap ∧ W.grownBy W' (some b)) ∨ (g'.ownBlock = some W.heap.size ∧ W.grownBy W' none) ∨ (news.length = 0 ∧ g' = g ∧ W' = W)) :
    Gs B T W' lv vs ms gv gvs hs k ∧ Cur B W' vs ms gvs k g' (l ++ news) := by
  have hll : (l ++ news).length = l.length + news.length := List.length_append
  have hoo : W'.ownsRow B 3 1 g' (l ++ news).length (ints (l ++ news)) := by
    rw [hll]
    have e : ints (l ++ news) = ints l ++ ints news := by unfold ints; rw [List.map_append]
    rw [e]
    exact ho
  have hple : (ms k).length ≤ l.length := by
    have := congrArg List.length hc.pre
    rw [List.length_take] at this
    omega
  have hpre : (l ++ news).take (ms k).length = ms k := by
    rw [List.take_append_of_le_length hple]
    exact hc.pre
  rcases hg with ⟨b, cap, rfl, rfl, hgr⟩ | ⟨hnew, hgr⟩ | ⟨h0, _⟩
  · have hgb : (Value.slice (some ⟨b, 0, none⟩) l.length cap).ownBlock = some b := rfl
    have outT : ∀ {v : Value} {n : Nat} {xs : List Value}, W.ownsRow B T 1 v n xs → W'.ownsRow B T 1 v n xs := fun {v n xs} hv => own_beside hv hgr (fun q hq e => by cases e; exact hT (own_type hv hc.own hq hgb))
    have hgs : ∀ j, j < k → W'.ownsRow B 3 1 (gvs.getD j undef) (hs j).length (ints (hs j)) := fun j hj => own_beside (h.grow j hj) hgr (fun q hq e => by cases e; exact hc.oth j b hj hq hgb)
    rcases hc.rel with ⟨b', cap', e1, e2⟩ | hap
    · simp only [Value.slice.injEq, Option.some.injEq, Addr.mk.injEq, and_true, true_and] at e2
      obtain ⟨rfl, rfl⟩ := e2
      refine ⟨⟨⟨outT h.fl.outer, fun j hj => ?_, h.fl.apart⟩, outT h.gout, h.glen, h.gl, hgs, h.cross, h.gap⟩, ⟨hoo, hpre, .inl ⟨b, cap, e1, by rw [hll]⟩, fun j q hj hq => hc.oth j q hj hq⟩⟩
      by_cases ejk : j = k
      · subst ejk
        rw [e1]
        have h9 := own_prefix (m := (ms j).length) ho (by omega)
        have e : ints l ++ ints news = ints (l ++ news) := by unfold ints; rw [List.map_append]
        rw [e, ints_take, hpre] at h9
        exact h9
      · exact own_beside (h.fl.rows j hj) hgr (fun q hq e => by cases e; exact h.fl.apart j k b hj hk ejk hq (by rw [e1]; rfl))
    · exact ⟨⟨⟨outT h.fl.outer, fun j hj => own_beside (h.fl.rows j hj) hgr (fun q hq e => by cases e; exact hap j b hj hq hgb), h.fl.apart⟩, outT h.gout, h.glen, h.gl, hgs, h.cross, h.gap⟩, ⟨hoo, hpre, .inr fun j q hj hq => hap j q hj hq, fun j q hj hq => hc.oth j q hj hq⟩⟩
  · have keep : ∀ {e n : Nat} {v : Value} {xs : List Value}, W.ownsRow B e 1 v n xs → W'.ownsRow B e 1 v n xs := fun {e n v xs} hv => own_beside hv hgr (fun q _ e => by cases e)
    refine ⟨⟨⟨keep h.fl.outer, fun j hj => keep (h.fl.rows j hj), h.fl.apart⟩, keep h.gout, h.glen, h.gl, fun j hj => keep (h.grow j hj), h.cross, h.gap⟩, ⟨hoo, hpre, .inr fun j q hj hq e => ?_, fun j q hj hq e => ?_⟩⟩
    · rw [hnew] at e
      have := ((h.fl.rows j hj).lt q hq).2
      cases e
      omega
    · rw [hnew] at e
      have := ((h.grow j hj).lt q hq).2
      cases e
      omega
  · omega
/-- It is put into the row of grown ones. -/
theorem Gs.fin (h : Gs B T W lv vs ms gv gvs hs k) (hT : T ≠ 3) (hk : k < vs.length) {g : Value} {l : List Int} (hc : Cur B W vs ms gvs k g l) {gb n cap : Nat} (e : gv = .slice (some ⟨gb, 0, none⟩) n cap) :
    Gs B T (W.setCell ⟨gb, k, none⟩ g) lv vs ms gv (gvs.set k g) (updL hs k l) (k + 1) := by
  have hgr := store_grown W gb k g
  have hgo : gv.ownBlock = some gb := by rw [e]; rfl
  have keep : ∀ {n : Nat} {v : Value} {xs : List Value}, W.ownsRow B 3 1 v n xs → (W.setCell ⟨gb, k, none⟩ g).ownsRow B 3 1 v n xs := fun {n v xs} hv => own_beside hv hgr (fun q hq e' => by cases e'; exact hT (own_type h.gout hv hgo hq))
  have hn : n = gvs.length := by
    obtain ⟨A, c, e', _, _⟩ := own_slice h.gout
    rw [e] at e'
    simp only [Value.slice.injEq] at e'
    exact e'.2.1
  have at_k : (gvs.set k g).getD k undef = g := by
    simp only [List.getD]
    rw [List.getElem?_set_self (by rw [h.glen]; exact hk)]
    rfl
  have at_j : ∀ j, j ≠ k → (gvs.set k g).getD j undef = gvs.getD j undef := fun j hj => by
    simp only [List.getD]
    rw [List.getElem?_set_ne (fun e => hj e.symm)]
  have hgv : ∀ i q, i < vs.length → i ≠ k → g.ownBlock = some q → (vs.getD i undef).ownBlock ≠ some q := fun i q hi hne hq => by
    rcases hc.rel with ⟨b, c, e1, e2⟩ | hap
    · have hqb : q = b := by rw [e2] at hq; exact (Option.some.inj hq).symm
      subst hqb
      exact h.fl.apart k i q hk hi (fun e => hne e.symm) (by rw [e1]; rfl)
    · exact fun e' => hap i q hi e' hq
  refine ⟨⟨own_beside h.fl.outer hgr (fun q hq e' => by cases e'; exact h.gl gb hgo hq), fun j hj => keep (h.fl.rows j hj), h.fl.apart⟩, ?_, by rw [List.length_set]; exact h.glen, h.gl, fun j hj => ?_, fun j i q hj hi hne hq => ?_, fun j i q hj hi hne hq => ?_⟩
  · rw [List.length_set]
    have hg2 := h.gout
    rw [e, hn] at hg2 ⊢
    exact own_store hg2 g
  · unfold updL
    by_cases ej : j = k
    · subst ej
      rw [if_pos rfl, at_k]
      exact keep hc.own
    · rw [if_neg ej, at_j j ej]
      exact keep (h.grow j (by omega))
  · by_cases ej : j = k
    · subst ej
      rw [at_k] at hq
      exact hgv i q hi hne hq
    · rw [at_j j ej] at hq
      exact h.cross j i q (by omega) hi hne hq
  · by_cases ej : j = k
    · subst ej
      rw [at_k] at hq
      rw [at_j i hne]
      exact fun e' => hc.oth i q (by omega) e' hq
    · rw [at_j j ej] at hq
      by_cases ei : i = k
      · subst ei
        rw [at_k]
        exact hc.oth j q (by omega) hq
      · rw [at_j i ei]
        exact h.gap j i q (by omega) (by omega) hne hq
end
end Go.Proofs.YtlbjmkljmhfjdaaGreat
namespace Go.Proofs.YtlbjmkljmhfjdaaGreat
open Go Go.RowKit Go.Maps
theorem mark_any (k i : Int) (hk : 0 ≤ k ∧ k ≤ 1000000) (hi : 0 ≤ i ∧ i ≤ 1000000000) (w : World) : Calls Tryz.prog 184 #[.int .i64 k, .int .i64 i] w fun e w' => e = .returned (.int .i64 (mkN k i)) ∧ w = w' := by
  have w1 : IntKind.i64.wrap (k + 7) = k + 7 := IntWalk.i64_in _ (by omega)
  have w2 : IntKind.i64.wrap (1000003 * (k + 7)) = 1000003 * (k + 7) := IntWalk.i64_in _ (by omega)
  have w3 : IntKind.i64.wrap (1000003 * (k + 7) + i) = 1000003 * (k + 7) + i := IntWalk.i64_in _ (by omega)
  unfold mkN
  clear hk hi
  go_enter Tryz.func184, Tryz.ntmps184
  go_wp2_with fail
  go_ret
  exact ⟨rfl, rfl⟩
end Go.Proofs.YtlbjmkljmhfjdaaGreat
namespace Go.Proofs.YtlbjmkljmhfjdaaGreat
open Go Go.RowKit
/-- What the document's 'after' answers. -/
def afterVal (o : Option Meas) : Value := match o with
  | some (p, h) => .tuple #[.int .i64 p, .int .i64 h]
  | none => .tuple #[.int .i64 (-1), .int .i64 0]
theorem after_hi {l : List Nd} {f : Nat} {n : Int} (h : (l.length : Int) ≤ n) : after l f n = none := by
  cases f with
  | zero => rfl
  | succ f => rw [after, if_neg (by omega)]
set_option maxRecDepth 100000 in
set_option maxHeartbeats 4000000 in
theorem after_any (RA : Option Addr) (lr rc : Nat) (NA : Option Addr) (nc m : Nat) (l : List Nd) (em : m = l.length) (hl : m ≤ 140737488351232) : ∀ (f : Nat) (n : Int) (w : World), f ≤ 1000 → 0 ≤ n → n < 4611686018427387904 → Nodes w NA l → (∀ x ∈ l, Nd.At w x) →
    Calls Tryz.prog 157 #[.agg #[.slice RA lr rc, .slice NA m nc], .int .i64 n, .int .i64 f] w fun e w' => e = .returned (afterVal (after l f n)) ∧ Below w.heap.size w w' := by
  intro f
  induction f with
  | zero =>
    intro n w _ h0 h1 _ _
    have hv : afterVal (after l 0 n) = .tuple #[.int .i64 (-1), .int .i64 0] := rfl
    rw [hv]
    clear hv em h1
    by_cases hn : (m : Int) ≤ n
    · go_enter Tryz.func157, Tryz.ntmps157
      go_wp2_with fail
      go_ret2
      exact ⟨rfl, B1 _ _⟩
    · have hn2 : n < m := by omega
      go_enter Tryz.func157, Tryz.ntmps157
      go_wp2_with fail
      go_ret2
      exact ⟨rfl, B1 _ _⟩
  | succ f ih =>
    intro n w hf h0 h1 hA hk
    by_cases hn : (m : Int) ≤ n
    · have hv : afterVal (after l (f + 1) n) = .tuple #[.int .i64 (-1), .int .i64 0] := by rw [after_hi (by omega)]; rfl
      rw [hv]
      clear hv em ih hA hk h1
      go_enter Tryz.func157, Tryz.ntmps157
      go_wp2_with fail
      go_ret2
      exact ⟨rfl, B1 _ _⟩
    · obtain ⟨i, rfl⟩ : ∃ i : Nat, n = i := ⟨n.toNat, by omega⟩
      have him : i < m := by omega
      have him2 : (i : Int) < m := by omega
      have him3 : ¬ m ≤ i := by omega
      obtain ⟨fl, efl⟩ : ∃ fl : Int, fl = ((f + 1 : Nat) : Int) := ⟨_, rfl⟩
      have hf1 : ¬ fl < 1 := by omega
      have hf2 : (1 : Int) ≤ fl := by omega
      have hfw : IntKind.i64.wrap (fl - 1) = f := (IntWalk.i64_in _ (by omega)).trans (by omega)
      rw [← efl]
      have IH := Lib.hid (fun (n : Int) (w' : World) (h0 : 0 ≤ n) (h1 : n < 4611686018427387904) (b : Below w.heap.size w w') => ih n w' (by omega) h0 h1 (hA.below b) (fun x hx => (hk x hx).below b))
      have CV := Lib.hid (fun (n : Nat) (p h : Int) (e : after l f n = some (p, h)) => after_cover f n p h e)
      obtain ⟨F, eF⟩ : ∃ F, F = after l (f + 1) i := ⟨_, rfl⟩
      have HF : RowKit.Hid (F = afterKids (after l f) (kidsOf l i) (i + 1) 1) := Lib.hid (by rw [eF, after, if_pos (by omega), Int.toNat_natCast])
      rw [← eF]
      have HA := Lib.hid hA
      have hx := hk (l.getD i Nd.zero) (getD_mem (by omega))
      have HXX := Lib.hid hx
      have hkl := hx.2.2
      have EM := Lib.hid em
      have hks : kidsOf l i = (l.getD i Nd.zero).kids := rfl
      rw [hks] at HF
      generalize hxx : l.getD i Nd.zero = x at HF HXX hkl
      have HX := Lib.hid hxx
      clear ih hA hk eF hx em hks hxx hn h1 efl
      go_enter Tryz.func157, Tryz.ntmps157
      go_wp2_with fail
      obtain ⟨wb, ewb⟩ : ∃ u, u = w.alloc (.cells #[.slice RA lr rc, .slice NA m nc] 25) := ⟨_, rfl⟩
      have hb2 : Below w.heap.size w wb := by rw [ewb]; exact B1 _ _
      have KB : RowKit.Hid (Blk wb w.heap.size #[.slice RA lr rc, .slice NA m nc] 25) := Lib.hid (by rw [ewb]; exact Blk.new _ _ _)
      rw [← ewb]
      have BB := Lib.hid hb2
      clear ewb hb2
      go_loopw [10, 8, 9] (fun q nx hg wr => ∃ (j n h : Nat), j ≤ x.kids.length ∧ q = .int .i64 j ∧ nx = .int .i64 n ∧ hg = .int .i64 h ∧ n ≤ m ∧ h ≤ f + 1 ∧ afterKids (after l f) (x.kids.drop j) n h = F ∧ Below wb.heap.size wb wr) (fun q _ _ _ => x.kids.length - (RowKit.intOf q).toNat)
      case atStart => exact ⟨0, i + 1, 1, by omega, rfl, by go_num, rfl, by omega, by omega, by rw [HF.out]; simp, Below.refl _ _⟩
      case round =>
        obtain ⟨j, n, h, hj, rfl, rfl, rfl, hn1, hh, hcl, hbl⟩ := hrel
        have BL := Lib.hid (bb BB.out hbl)
        have HBL := Lib.hid hbl
        have c0 : wr.cell? ⟨w.heap.size, 0, none⟩ = some (.slice RA lr rc) := (KB.out.below' hbl).cell 0
        have c1 : wr.cell? ⟨w.heap.size, 1, none⟩ = some (.slice NA m nc) := (KB.out.below' hbl).cell 1
        clear hbl
        obtain ⟨b1, o1, eA, _, _, _, _, _, _, _, _, _, c9⟩ := (HA.out.below BL.out).nine (show i < l.length by have := EM.out; omega)
        rw [HX.out] at c9
        rw [eA] at c1
        by_cases hlt : j < x.kids.length
        · have hlt2 : (j : Int) < x.kids.length := by omega
          obtain ⟨bk, ok, ek, _, ck⟩ := lies_cell (HXX.out.below BL.out).1 hlt
          rw [List.drop_eq_getElem_cons hlt] at hcl
          have hgd : x.kids[j] = x.kids.getD j 0 := by simp [List.getD, List.getElem?_eq_getElem hlt]
          rw [hgd] at hcl
          rw [ek] at c9
          generalize x.kids.getD j 0 = kd at hcl ck
          unfold afterKids at hcl
          by_cases hkd : kd = n
          · rw [if_pos hkd] at hcl
            subst hkd
            have IHn := Lib.hid (IH.out n wr (by omega) (by omega) BL.out)
            rw [eA] at IHn
            have hbne : ((n : Int) != n) = false := by simp
            generalize hq : after l f n = q at hcl IHn
            cases q with
            | none =>
              have hcl2 : F = none := hcl.symm
              unfold afterVal at IHn
              have HN := Lib.hid hcl2
              clear hcl hcl2 hgd ek hq eA
              go_wp2_with (go_at_call 157; refine IHn.out.mono ?_; rintro e w2 ⟨rfl, hb⟩; have H1 := Lib.hid (bb BL.out hb); clear hb)
              go_ret2
              exact ⟨by rw [HN.out]; rfl, H1.out⟩
            | some r =>
              obtain ⟨p, hh2⟩ := r
              obtain ⟨v1, v2, v3, v4, _⟩ := CV.out n p hh2 hq
              unfold afterVal at IHn
              dsimp only at hcl IHn
              obtain ⟨p', rfl⟩ : ∃ k : Nat, p = k := ⟨p.toNat, by omega⟩
              obtain ⟨h', hh'⟩ : ∃ k : Nat, (k : Int) = max (h : Int) (1 + hh2) := ⟨(max (h : Int) (1 + hh2)).toNat, by omega⟩
              rw [← hh'] at hcl
              have HCL := Lib.hid hcl
              have HH' := Lib.hid hh'
              have hpm : p' ≤ m := by have := EM.out; omega
              have hp0 : ¬ (p' : Int) < 0 := by omega
              clear hcl hgd hh' ek hq eA
              go_wp2_with (go_at_call 157; refine IHn.out.mono ?_; rintro e w2 ⟨rfl, hb⟩; have H1 := Lib.hid (bb HBL.out hb); clear hb)
              all_goals go_roundw
              all_goals first
                | exact ⟨j + 1, p', h', by omega, by go_num, rfl, by have := HH'.out; simp only [Value.int.injEq, true_and]; omega, by omega, by have := HH'.out; omega, HCL.out, H1.out⟩
                | (simp [RowKit.intOf]; omega)
          · rw [if_neg hkd] at hcl
            have HN := Lib.hid hcl
            have hb : (kd != (n : Int)) = true := by simpa using hkd
            clear hcl hgd hkd ek eA
            go_wp2_with fail
            go_ret2
            exact ⟨by rw [← HN.out]; rfl, BL.out⟩
        · obtain rfl : j = x.kids.length := by omega
          have hlt2 : ¬ (x.kids.length : Int) < x.kids.length := by omega
          rw [List.drop_length, afterKids] at hcl
          have HN := Lib.hid hcl
          clear hcl eA
          go_wp2_with fail
          go_ret2
          exact ⟨by rw [← HN.out]; rfl, BL.out⟩
end Go.Proofs.YtlbjmkljmhfjdaaGreat

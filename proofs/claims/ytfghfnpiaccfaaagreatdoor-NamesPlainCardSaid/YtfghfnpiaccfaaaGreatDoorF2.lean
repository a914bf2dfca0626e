/- The law of names alone: texts that are too long, that can't be read. -/
import Derived.Test.YtfghfnpiaccfaaaGreatDoorF1
import Derived.Test.YtfghfnpiaccfaaaGreatDoorD7
import Derived.Deep.CutRange
set_option linter.unusedSimpArgs false
set_option linter.unusedVariables false
namespace Go.Proofs.YtfghfnpiaccfaaaGreatDoor.J
open Go Go.RowKit
set_option maxRecDepth 100000 in
set_option maxHeartbeats 8000000 in
theorem plain_long (s wd : ByteArray) (by_ : Int) (h : 1000 < s.size) (w : World) (hT : Tab w) :
    Calls Tryz.prog 9 #[.string s, .string wd, .int .i64 by_] w fun e w' => e = .returned (.bool true) ∧ Below w.heap.size w w' := by
  have AW := Lib.hid (awake_any w hT)
  have hlt : (1000 : Int) < s.size := by omega
  clear hT
  go_enter Tryz.func9, Tryz.ntmps9
  go_upto_region 3 with (go_at_call 20; (with_reducible refine AW.out.mono ?_); rintro e w0 ⟨rfl, hb⟩; have B0 := Lib.hid (show Below w.heap.size w w0 from hb); clear hb)
  go_wp2_with fail
  go_ret
  exact ⟨rfl, B0.out⟩
set_option maxRecDepth 100000 in
set_option maxHeartbeats 8000000 in
theorem plain_bad (s wd : ByteArray) (by_ er : Int) (a : Nat) (hz : s.size ≤ 1000) (he : er ≠ 0) (hX : ∀ W, Tab W → Calls Tryz.prog 15 #[.string s] W fun e w' => Below W.heap.size W w' ∧ e = .returned (.tuple #[.agg #[.slice none 0 0, .slice none 0 0, .slice none 0 0, .slice none 0 0, .slice none 0 0], dgv er a])) (w : World) (hT : Tab w) :
    Calls Tryz.prog 9 #[.string s, .string wd, .int .i64 by_] w fun e w' => e = .returned (.bool true) ∧ Below w.heap.size w w' := by
  have AW := Lib.hid (awake_any w hT)
  have hlt : ¬ (1000 : Int) < s.size := by omega
  have TT := Lib.hid hT
  have XX := Lib.hid hX
  clear hT hX hz
  go_enter Tryz.func9, Tryz.ntmps9
  go_upto_region 3 with (go_at_call 20; (with_reducible refine AW.out.mono ?_); rintro e w0 ⟨rfl, hb⟩; have B0 := Lib.hid (show Below w.heap.size w w0 from hb); clear hb)
  have XA := Lib.hid (XX.out w0 (TT.out.below B0.out))
  go_upto_region 5 with fail
  go_upto_region 6 with (first | (go_at_call 15; (with_reducible refine (XA.out).mono ?_); rintro e w1 ⟨hb, rfl⟩; have B1 := Lib.hid (show Below w.heap.size w w1 from B0.out.trans (hb.mono B0.out.size)); have C1 := Lib.hid hb; skip; clear hb) | (refine wpList_store_whole rfl 36 (.tmp 7) (.tmp 31) rfl w1.heap.size #[.slice none 0 0, .slice none 0 0, .slice none 0 0, .slice none 0 0, .slice none 0 0] rfl rfl 36 _ (two_blksg w1 #[.slice none 0 0, .slice none 0 0, .slice none 0 0, .slice none 0 0, .slice none 0 0] #[.int .i64 0, .int .i64 0] 36 38).1 (by kernel_rfl) (by rfl) (by simp [Value.oneCell']) ?_; intro x1 hk2 hg2; have K2 := Lib.hid hk2; have G2 := Lib.hid hg2; have D2 := Lib.hid ((two_blksg w1 #[.slice none 0 0, .slice none 0 0, .slice none 0 0, .slice none 0 0, .slice none 0 0] #[.int .i64 0, .int .i64 0] 36 38).2.grown hg2 (by simp)); clear hk2 hg2) | (refine wpList_store_whole rfl 38 (.tmp 8) (.tmp 32) rfl (w1.heap.size + 1) #[.int .i64 er, .int .i64 a] rfl rfl 38 _ D2.out (by kernel_rfl) (by rfl) (by simp [Value.oneCell']) ?_; intro u1 hk3 hg3; have H1 := Lib.hid (pair_setg B1.out B1.out.size G2.out K2.out hg3 hk3); clear hk3 hg3))
  clear K2 G2 D2
  have L1 := Lib.hid H1.out.1
  have N1 := Lib.hid (C1.out.trans (H1.out.2.1.mono C1.out.size))
  have d0 := H1.out.2.2.2.cell 0
  have d1 := H1.out.2.2.2.cell 1
  simp only [List.getElem?_toArray, List.getElem?_cons_zero, List.getElem?_cons_succ] at d0 d1
  have hne : (er == 0) = false := by simpa using he
  go_wp2_with fail
  go_ret
  exact ⟨rfl, L1.out⟩
end Go.Proofs.YtfghfnpiaccfaaaGreatDoor.J
namespace Go.Proofs.YtfghfnpiaccfaaaGreatDoor.J
open Go Go.RowKit
/-- Why a tree can't be resolved, and where. -/
def why (t : Tre) : Option (Int × Int) := match twiceAt t.g.rules with
  | some i => some (8, t.rp.getD i 0)
  | none => match lostAt t.g t.nm with
    | some n => some (5, t.np.getD n 0)
    | none => none
theorem res_at {t : Tre} {w w' : World} {B : Nat} {g : Gr} (hT : GTwin (resG t) g) (hF : Fresh w' B g) (ht : Gr.At w t.g) : Gr.At w' g := by
  have hl : g.nodes.length = t.g.nodes.length := hT.len.trans (part_len _ _ _)
  have hr : g.rules = t.g.rules := hT.rules
  have hx : ∀ x ∈ g.nodes, ∃ y ∈ t.g.nodes, x.kids = y.kids ∧ x.text = y.text := fun x hx => by
    obtain ⟨i, hi, rfl⟩ := List.mem_iff_getElem.1 hx
    have hi2 : i < t.g.nodes.length := by omega
    obtain ⟨A, c, e⟩ := hT.node i (by rw [show (resG t).nodes.length = t.g.nodes.length from part_len _ _ _]; exact hi2)
    refine ⟨t.g.nodes.getD i Nd.zero, getD_mem hi2, ?_⟩
    have e2 : g.nodes[i] = (rs t i (t.g.nodes.getD i Nd.zero)).at_ A c := by
      rw [show g.nodes[i] = g.nodes.getD i Nd.zero by simp [List.getD, List.getElem?_eq_getElem hi], e]
      show ((part t t.g.nodes t.g.nodes.length).getD i Nd.zero).at_ A c = _
      rw [part_at t _ _ hi2, if_pos hi2]
    rw [e2]
    unfold rs
    split <;> exact ⟨rfl, rfl⟩
  refine ⟨own_rules hF.rules, own_nodes hF.nodes, fun x h => ⟨own_lies1 (hF.kids x h).1, (hF.kids x h).2, ?_⟩, by rw [hr]; exact ht.rl, by rw [hl]; exact ht.nl, hF.rn, hF.nn, fun x h => ?_, fun r h => ht.names r (by rw [← hr]; exact h)⟩
  · obtain ⟨y, hy, e1, _⟩ := hx x h; rw [e1]; exact (ht.kids y hy).2.2
  · obtain ⟨y, hy, _, e2⟩ := hx x h; rw [e2]; exact ht.texts y hy
theorem res_cap {w' : World} {B : Nat} {g : Gr} (hF : Fresh w' B g) : g.rules.length ≤ g.rc ∧ g.nodes.length ≤ g.nc := by
  obtain ⟨A, c, e, _, hc⟩ := own_slice hF.rules
  obtain ⟨A', c', e', _, hc'⟩ := own_slice hF.nodes
  simp only [Value.slice.injEq] at e e'
  rw [e.2.2, e'.2.2]; exact ⟨hc, hc'⟩
def gr0 : Gr := ⟨none, 0, [], none, 0, []⟩
theorem gr0_at (w : World) : Gr.At w gr0 := ⟨fun h => by simp [gr0] at h, fun h => by simp [gr0] at h, fun x hx => by simp [gr0] at hx, by simp [gr0], by simp [gr0], by simp [gr0], by simp [gr0], fun x hx => by simp [gr0] at hx, fun x hx => by simp [gr0] at hx⟩
def ResB (t : Tre) (w : World) (e : Ending) (w' : World) : Prop :=
  Below w.heap.size w w' ∧ ∃ g : Gr, e = .returned (.tuple #[.agg #[.slice g.RA g.rules.length g.rc, .slice g.NA g.nodes.length g.nc], dgv ((why t).getD (0, 0)).1 ((why t).getD (0, 0)).2]) ∧ Gr.At w' g ∧
    (why t ≠ none → g = gr0) ∧ (why t = none → GTwin (resG t) g ∧ g.rules.length ≤ g.rc ∧ g.nodes.length ≤ g.nc)
theorem res_any {t : Tre} {w : World} (hw : wholeB t = true) (hat : Gr.At w t.g) {e : Ending} {w' : World} (h : ResPost t w e w') : ResB t w e w' := by
  obtain ⟨hb, ⟨h1, _⟩ | ⟨_, i, h2, he⟩ | ⟨_, h2, n, h3, he⟩ | ⟨_, h2, h3, g, he, T, F⟩⟩ := h
  · rw [hw] at h1; cases h1
  · have e1 : why t = some (8, t.rp.getD i 0) := by unfold why; rw [h2]
    refine ⟨hb, gr0, by rw [he, e1]; rfl, gr0_at _, fun _ => rfl, fun h => by rw [e1] at h; cases h⟩
  · have e1 : why t = some (5, t.np.getD n 0) := by unfold why; rw [h2, h3]
    refine ⟨hb, gr0, by rw [he, e1]; rfl, gr0_at _, fun _ => rfl, fun h => by rw [e1] at h; cases h⟩
  · have e1 : why t = none := by unfold why; rw [h2, h3]
    exact ⟨hb, g, by rw [he, e1]; rfl, res_at T F hat, fun h => absurd e1 h, fun _ => ⟨T, (res_cap F).1, (res_cap F).2⟩⟩
theorem getD_map_lt {l : List Int} {m : Int} {i : Nat} (h : i < l.length) : (l.map fun x => x + m).getD i 0 = l.getD i 0 + m := by
  simp [List.getD, List.getElem?_eq_getElem h]
/-- All places moved on, what is wrong is as wrong, so much farther on. -/
theorem why_moved {t u : Tre} (h : Like t u) (hw : wholeB t = true) {m : Int} (hr : u.rp = t.rp.map fun x => x + m) (hn : u.np = t.np.map fun x => x + m) : why u = (why t).map fun p => (p.1, p.2 + m) := by
  have W : t.rp.length = t.g.rules.length ∧ t.np.length = t.g.nodes.length ∧ t.nm.length = t.g.nodes.length := by unfold wholeB at hw; simpa using hw
  unfold why
  rw [h.twice, h.lost, hr, hn]
  cases e1 : twiceAt t.g.rules with
  | some i =>
    have hi : i < t.rp.length := by rw [W.1]; exact (firstOf_some.1 e1).1
    simp only [Option.map_some]
    rw [getD_map_lt hi]
  | none =>
    cases e2 : lostAt t.g t.nm with
    | none => rfl
    | some n =>
      have hn2 : n < t.np.length := by rw [W.2.1]; exact (firstOf_some.1 e2).1
      simp only [Option.map_some]
      rw [getD_map_lt hn2]
/-- Two grammars that trees that say alike are resolved to, are the same, resolved or not. -/
theorem res_same {t u : Tre} (h : Like t u) (hw : why u = none ↔ why t = none) {g k : Gr} (g1 : why t ≠ none → g = gr0) (g2 : why t = none → GTwin (resG t) g) (k1 : why u ≠ none → k = gr0) (k2 : why u = none → GTwin (resG u) k) : sameGr g k = true := by
  by_cases c : why t = none
  · exact h.same (g2 c) (k2 (hw.2 c))
  · rw [g1 c, k1 (fun e => c (hw.1 e))]; exact sameGr_iff.2 ⟨rfl, rfl⟩
theorem why_kind {t : Tre} {p : Int × Int} (h : why t = some p) : p.1 = 8 ∨ p.1 = 5 := by
  unfold why at h
  cases e1 : twiceAt t.g.rules with
  | some i => rw [e1] at h; cases h; exact .inl rfl
  | none =>
    rw [e1] at h
    cases e2 : lostAt t.g t.nm with
    | none => rw [e2] at h; cases h
    | some n => rw [e2] at h; cases h; exact .inr rfl
end Go.Proofs.YtfghfnpiaccfaaaGreatDoor.J
namespace Go.Proofs.YtfghfnpiaccfaaaGreatDoor
open Go Go.RowKit
def kidRow (x : Nd) : Rw := ⟨3, 1, .slice x.A x.kids.length x.cap, x.kids.length, ints x.kids⟩
/-- The rows of a tree. -/
def tRows (t : Tre) : List Rw := [⟨50, 2, .slice t.g.RA t.g.rules.length t.g.rc, t.g.rules.length, J.rcells t.g.rules⟩, ⟨3, 1, .slice t.PA t.rp.length t.pc, t.rp.length, ints t.rp⟩] ++ ⟨48, 9, .slice t.g.NA t.g.nodes.length t.g.nc, t.g.nodes.length, J.ncells t.g.nodes⟩ :: ⟨3, 1, .slice t.QA t.np.length t.qc, t.np.length, ints t.np⟩ :: ⟨9, 1, .slice t.MA t.nm.length t.mc, t.nm.length, strs t.nm⟩ :: t.g.nodes.map kidRow
theorem rcells_zip : ∀ L : List (Ru × Nat), (L.flatMap fun x => [Value.string (bsv x.1.name), .int .i64 ((x.2 : Nat) : Int)]) = J.rcells (L.map fun x => (⟨bsv x.1.name, (x.2 : Int)⟩ : Rl))
  | [] => rfl
  | x :: L => by rw [List.flatMap_cons, List.map_cons, J.rcells, rcells_zip L]; rfl
theorem ncells_map : ∀ NL : List Nw, ncl NL = J.ncells (NL.map ndOf)
  | [] => rfl
  | y :: NL => by
    have := ncells_map NL
    rw [List.map_cons, J.ncells, ← this]
    show y.cells ++ ncl NL = _
    congr 1
    simp [Nw.cells, Nd.cells, ndOf]
theorem tre_sep {l : List Nat} {N : Nat} {us : List Ru} {v : Value} {B : Nat} {w : World} (G : Got l N us) (hz : l.length ≤ 16384) (hN : N ≤ l.length) (h : TreeAt l us v B w) : ∃ t : Tre, v = t.val ∧ t.At w ∧ t.Says l us ∧ ∃ tb, B ≤ tb ∧ Rws w tb tb (tRows t) := by
  obtain ⟨vr, vrp, vn, vp, vm, NL, tb, rfl, hBt, hT, hs⟩ := h
  have o1 : w.ownsRow tb 50 2 vr us.length (rlc us (roots 0 (bod us))) := hT.rows.own ⟨50, 2, vr, us.length, rlc us (roots 0 (bod us))⟩ (List.mem_append.2 (.inl List.mem_cons_self))
  have o2 : w.ownsRow tb 3 1 vrp us.length (rpv l us) := hT.rows.own ⟨3, 1, vrp, us.length, rpv l us⟩ (List.mem_append.2 (.inl (List.mem_cons_of_mem _ List.mem_cons_self)))
  have o3 := hT.own_n
  have o4 := hT.own_p
  have o5 := hT.own_m
  have o6 : ∀ y ∈ NL, w.ownsRow tb 3 1 y.kv y.kids.length (numv y.kids) := fun y hy => hT.rows.own (krow y) (by
    simp only [trows, List.mem_append, List.mem_cons, List.mem_map]
    exact .inr (.inr (.inr (.inr ⟨y, hy, rfl⟩))))
  obtain ⟨A1, c1, rfl, n1, _⟩ := own_slice o1
  obtain ⟨A2, c2, rfl, n2, _⟩ := own_slice o2
  obtain ⟨A3, c3, rfl, n3, _⟩ := own_slice o3
  obtain ⟨A4, c4, rfl, n4, _⟩ := own_slice o4
  obtain ⟨A5, c5, rfl, n5, _⟩ := own_slice o5
  have hroots : (roots 0 (bod us)).length = us.length := by rw [roots_len, bod_len]
  have hrl : (rlsOf us).length = us.length := by rw [rlsOf, List.length_map, List.length_zip, hroots, Nat.min_self]
  have hNL : NL.length = (bod us).nodes := by have := congrArg List.length hs; rwa [said, List.length_map, flat_length] at this
  have hus : us.length ≤ (bod us).nodes := by rw [← bod_len]; exact Fr.len_le _
  have hnd := G.nodes
  have p1 : (us.map fun u => ((beg l u.at_ : Nat) : Int)).length = us.length := List.length_map _
  have e4 : plv l NL = ints ((flat 0 (bod us)).map fun p => ((beg l p.1.at_ : Nat) : Int)) := by
    rw [← hs]; simp [plv, ints, said]
  have e5 : nmv NL = strs ((flat 0 (bod us)).map fun p => bsv p.1.name) := by
    rw [← hs]; simp [nmv, strs, said]
  have e2 : rpv l us = ints (us.map fun u => ((beg l u.at_ : Nat) : Int)) := by simp [rpv, ints]
  refine ⟨⟨⟨A1, c1, rlsOf us, A3, c3, NL.map ndOf⟩, A2, c2, us.map fun u => ((beg l u.at_ : Nat) : Int), A4, c4, (flat 0 (bod us)).map fun p => ((beg l p.1.at_ : Nat) : Int), A5, c5, (flat 0 (bod us)).map fun p => bsv p.1.name⟩, ?_, ⟨⟨?_, nodes_of o3, ?_, ?_, ?_, ?_, ?_, ?_, ?_⟩, ?_, ?_, ?_⟩, ⟨rfl, ⟨NL, rfl, hs⟩, rfl, rfl, rfl⟩, tb, hBt, ?_⟩
  · simp only [Tre.val, hrl, List.length_map, flat_length, hNL]
  · exact rules_of hroots o1
  · intro x hx
    obtain ⟨y, hy, rfl⟩ := List.mem_map.1 hx
    obtain ⟨K, hK⟩ := said_at hs hy
    have o := o6 y hy
    obtain ⟨g, c, e, n0, hle⟩ := own_slice o
    refine ⟨?_, ?_, ?_⟩
    · have := lies_row (A := y.A) (c := y.cap) o (by simp [numv])
      have e : numv y.kids = ints (ndOf y).kids := by simp [numv, ints, ndOf]
      rw [← e]; exact this
    · intro hA
      simp only [Nw.kv, Value.slice.injEq] at e
      have := (n0 (by rw [← e.1]; exact hA)).2
      show y.cap = 0
      omega
    · have hm := List.mem_iff_getElem?.1 hy
      obtain ⟨i, hi⟩ := hm
      have h1 := congrArg (fun l => l[i]?) hs
      simp only [flat_parts] at h1
      rw [said, List.getElem?_map, hi] at h1
      cases h2 : (bod us).parts[i]? with
      | none => rw [h2] at h1; cases h1
      | some z =>
        rw [h2] at h1
        simp only [Option.map_some, Option.some.injEq, Prod.mk.injEq] at h1
        have h3 : y.kids.length = z.2.len := by rw [h1.2, roots_len]
        have h4 := Fr.len_le z.2
        have h5 : z.2.nodes ≤ (bod us).nodes := by
          obtain ⟨rest, hr⟩ := parts_drop (bod us) i z.1 z.2 h2
          have := congrArg List.length hr
          rw [List.length_drop, List.length_append, parts_length, parts_length] at this
          omega
        show (y.kids.map fun (k : Nat) => (k : Int)).length ≤ _
        rw [List.length_map]
        omega
  · show (rlsOf us).length ≤ _; omega
  · show (NL.map ndOf).length ≤ _; rw [List.length_map]; omega
  · intro hA; exact (n1 hA).2
  · intro hA; exact (n3 hA).2
  · intro x hx
    obtain ⟨y, hy, rfl⟩ := List.mem_map.1 hx
    obtain ⟨K, hK⟩ := said_at hs hy
    have := parts_all _ G.tx _ hK
    show (bsv y.x.text).size ≤ _
    rw [(str_bsv this.1.2).size]
    have := this.1.1
    omega
  · intro r hr
    obtain ⟨z, hz', rfl⟩ := List.mem_map.1 hr
    have hu := (List.of_mem_zip hz').1
    show (bsv z.1.name).size ≤ _
    rw [(G.rules _ hu).1, (str_bsv (tkn_ok G.lt _).2.1).size]
    have := (tkn_ok G.lt z.1.at_).1
    omega
  · rw [← e2]; exact lies_row o2 (by simp [rpv])
  · rw [← e4]; exact lies_row o4 (by simp [plv])
  · rw [← e5]; exact lies_row o5 (by simp [nmv])
  · have r1 : rlc us (roots 0 (bod us)) = J.rcells (rlsOf us) := rcells_zip _
    have r3 : ncl NL = J.ncells (NL.map ndOf) := ncells_map NL
    have r6 : NL.map krow = (NL.map ndOf).map kidRow := by
      rw [List.map_map]
      refine List.map_congr_left fun y _ => ?_
      simp [krow, kidRow, ndOf, numv, ints]
    have h := hT.rows
    simp only [trows, r1, e2, r3, e4, e5, r6] at h
    simp only [tRows, hrl, List.length_map, flat_length, ← hNL]
    rw [hNL] at h ⊢
    exact h

end Go.Proofs.YtfghfnpiaccfaaaGreatDoor
namespace Go.Proofs.YtfghfnpiaccfaaaGreatDoor
open Go Go.RowKit
theorem Rws.put {w : World} {base tb : Nat} {A B : List Rw} {Ad : Option Addr} {e n c : Nat} {xs : List Value} (h : Rws w base tb (A ++ ⟨e, 1, .slice Ad n c, n, xs⟩ :: B)) {k : Nat} (hk : k < n) (u : Value) :
    ∃ g, Ad = some ⟨g, 0, none⟩ ∧ w.cell? ⟨g, k, none⟩ = xs[k]? ∧ w.frozen? ⟨g, k, none⟩ = false ∧ base ≤ g ∧ g < w.heap.size ∧ Rws (w.setCell ⟨g, k, none⟩ u) base tb (A ++ ⟨e, 1, .slice Ad n c, n, xs.set k u⟩ :: B) := by
  have hr := h.own ⟨e, 1, .slice Ad n c, n, xs⟩ (by simp)
  obtain ⟨g, cap, e1, hbg, _, _, hg⟩ := own_shape hr (by show 0 < n; omega)
  simp only [Value.slice.injEq] at e1
  obtain ⟨eA, _, ec⟩ := e1
  have hr2 : w.ownsRow base e 1 (.slice Ad n c) n xs := hr
  rw [eA, ec] at hr2
  have hown : (Value.slice Ad n c).ownBlock = some g := by rw [eA]; rfl
  have hlt := (hr.lt g hown)
  refine ⟨g, eA, hr2.cellAt k (by omega), hr2.frozenAt k, hlt.1, hlt.2, ?_⟩
  have hs := (hr2.stored k u).1
  refine h.upd (r' := ⟨e, 1, .slice Ad n c, n, xs.set k u⟩) ?_ ?_ (fun q hq => .inl hq)
  · show w.grownBy _ (Value.slice Ad n c).ownBlock
    rw [hown]
    exact ⟨rfl, rfl, rfl, by simp, fun i hi hne => heap_setCell_other _ _ _ _ (fun e => hne (by rw [e]))⟩
  · show (w.setCell ⟨g, k, none⟩ u).ownsRow base e 1 (.slice Ad n c) n (xs.set k u)
    rw [eA, ec]
    exact hs
theorem at_sep {t : Tre} {w w' : World} {tb : Nat} (h0 : Gr.At w t.g) (h : Rws w' tb tb (tRows t)) : Tre.At w' t := by
  have own := h.own
  have hf : J.Fresh w' tb t.g := ⟨own ⟨50, 2, .slice t.g.RA t.g.rules.length t.g.rc, t.g.rules.length, J.rcells t.g.rules⟩ (by simp [tRows]), own ⟨48, 9, .slice t.g.NA t.g.nodes.length t.g.nc, t.g.nodes.length, J.ncells t.g.nodes⟩ (by simp [tRows]), fun x hx => ⟨own (kidRow x) (by simp only [tRows, List.mem_append, List.mem_cons, List.mem_map]; exact .inr (.inr (.inr (.inr ⟨x, hx, rfl⟩)))), (h0.kids x hx).2.1⟩, h0.rn, h0.nn⟩
  refine ⟨hf.lies (g := t.g) ⟨rfl, rfl, fun j _ => ⟨(t.g.nodes.getD j Nd.zero).A, (t.g.nodes.getD j Nd.zero).cap, rfl⟩⟩ h0, ?_, ?_, ?_⟩
  · exact lies_row (own ⟨3, 1, .slice t.PA t.rp.length t.pc, t.rp.length, ints t.rp⟩ (by simp [tRows])) (by simp [ints])
  · exact lies_row (own ⟨3, 1, .slice t.QA t.np.length t.qc, t.np.length, ints t.np⟩ (by simp [tRows])) (by simp [ints])
  · exact lies_row (own ⟨9, 1, .slice t.MA t.nm.length t.mc, t.nm.length, strs t.nm⟩ (by simp [tRows])) (by simp [strs])
theorem ints_set (l : List Int) (k : Nat) (v : Int) : (ints l).set k (.int .i64 v) = ints (l.set k v) := by simp [ints, List.map_set]
theorem strs_set (l : List ByteArray) (k : Nat) (v : ByteArray) : (strs l).set k (.string v) = strs (l.set k v) := by simp [strs, List.map_set]
theorem sep_nm {t : Tre} {w : World} {tb : Nat} (h : Rws w tb tb (tRows t)) {k : Nat} (hk : k < t.nm.length) (s : ByteArray) :
    ∃ g, t.MA = some ⟨g, 0, none⟩ ∧ w.cell? ⟨g, k, none⟩ = some (.string (t.nm.getD k ByteArray.empty)) ∧ w.frozen? ⟨g, k, none⟩ = false ∧ tb ≤ g ∧ g < w.heap.size ∧ Rws (w.setCell ⟨g, k, none⟩ (.string s)) tb tb (tRows { t with nm := t.nm.set k s }) := by
  obtain ⟨g, a, b, c, d, d2, e⟩ := Rws.put (A := [⟨50, 2, .slice t.g.RA t.g.rules.length t.g.rc, t.g.rules.length, J.rcells t.g.rules⟩, ⟨3, 1, .slice t.PA t.rp.length t.pc, t.rp.length, ints t.rp⟩, ⟨48, 9, .slice t.g.NA t.g.nodes.length t.g.nc, t.g.nodes.length, J.ncells t.g.nodes⟩, ⟨3, 1, .slice t.QA t.np.length t.qc, t.np.length, ints t.np⟩]) (B := t.g.nodes.map kidRow) (Ad := t.MA) (e := 9) (n := t.nm.length) (c := t.mc) (xs := strs t.nm) h hk (.string s)
  refine ⟨g, a, by rw [b]; simp [strs, List.getD, List.getElem?_eq_getElem hk], c, d, d2, ?_⟩
  rw [strs_set] at e
  simpa [tRows] using e
theorem sep_np {t : Tre} {w : World} {tb : Nat} (h : Rws w tb tb (tRows t)) {k : Nat} (hk : k < t.np.length) (s : Int) :
    ∃ g, t.QA = some ⟨g, 0, none⟩ ∧ w.cell? ⟨g, k, none⟩ = some (.int .i64 (t.np.getD k 0)) ∧ w.frozen? ⟨g, k, none⟩ = false ∧ tb ≤ g ∧ g < w.heap.size ∧ Rws (w.setCell ⟨g, k, none⟩ (.int .i64 s)) tb tb (tRows { t with np := t.np.set k s }) := by
  obtain ⟨g, a, b, c, d, d2, e⟩ := Rws.put (A := [⟨50, 2, .slice t.g.RA t.g.rules.length t.g.rc, t.g.rules.length, J.rcells t.g.rules⟩, ⟨3, 1, .slice t.PA t.rp.length t.pc, t.rp.length, ints t.rp⟩, ⟨48, 9, .slice t.g.NA t.g.nodes.length t.g.nc, t.g.nodes.length, J.ncells t.g.nodes⟩]) (B := ⟨9, 1, .slice t.MA t.nm.length t.mc, t.nm.length, strs t.nm⟩ :: t.g.nodes.map kidRow) (Ad := t.QA) (e := 3) (n := t.np.length) (c := t.qc) (xs := ints t.np) h hk (.int .i64 s)
  refine ⟨g, a, by rw [b]; simp [ints, List.getD, List.getElem?_eq_getElem hk], c, d, d2, ?_⟩
  rw [ints_set] at e
  simpa [tRows] using e
theorem sep_rp {t : Tre} {w : World} {tb : Nat} (h : Rws w tb tb (tRows t)) {k : Nat} (hk : k < t.rp.length) (s : Int) :
    ∃ g, t.PA = some ⟨g, 0, none⟩ ∧ w.cell? ⟨g, k, none⟩ = some (.int .i64 (t.rp.getD k 0)) ∧ w.frozen? ⟨g, k, none⟩ = false ∧ tb ≤ g ∧ g < w.heap.size ∧ Rws (w.setCell ⟨g, k, none⟩ (.int .i64 s)) tb tb (tRows { t with rp := t.rp.set k s }) := by
  obtain ⟨g, a, b, c, d, d2, e⟩ := Rws.put (A := [⟨50, 2, .slice t.g.RA t.g.rules.length t.g.rc, t.g.rules.length, J.rcells t.g.rules⟩]) (B := ⟨48, 9, .slice t.g.NA t.g.nodes.length t.g.nc, t.g.nodes.length, J.ncells t.g.nodes⟩ :: ⟨3, 1, .slice t.QA t.np.length t.qc, t.np.length, ints t.np⟩ :: ⟨9, 1, .slice t.MA t.nm.length t.mc, t.nm.length, strs t.nm⟩ :: t.g.nodes.map kidRow) (Ad := t.PA) (e := 3) (n := t.rp.length) (c := t.pc) (xs := ints t.rp) h hk (.int .i64 s)
  refine ⟨g, a, by rw [b]; simp [ints, List.getD, List.getElem?_eq_getElem hk], c, d, d2, ?_⟩
  rw [ints_set] at e
  simpa [tRows] using e
end Go.Proofs.YtfghfnpiaccfaaaGreatDoor
namespace Go.Proofs.YtfghfnpiaccfaaaGreatDoor.J
open Go Go.RowKit
/-- What reading a text that can be read tells, with the rows apart. -/
def RdS (l : List Nat) (us : List Ru) (w : World) (e : Ending) (w' : World) : Prop := Below w.heap.size w w' ∧ ∃ (t : Tre) (tb : Nat), e = .returned (.tuple #[.agg #[.slice t.g.RA t.g.rules.length t.g.rc, .slice t.g.NA t.g.nodes.length t.g.nc, .slice t.PA t.rp.length t.pc, .slice t.QA t.np.length t.qc, .slice t.MA t.nm.length t.mc], dgv 0 0]) ∧ t.At w' ∧ t.Says l us ∧ w.heap.size ≤ tb ∧ Rws w' tb tb (tRows t)
theorem text_sep {N : Nat} {s : ByteArray} {l : List Nat} {us : List Ru} {j0 : Nat} (hs : Str s l) (hl : l.length ≤ 16384) (hN : stp l N = true) (hNl : N ≤ l.length) (hNb : ∀ j, j < N → stp l j = false) (ho : ow l N ≠ none) (hr : trd l N = .ok us j0) (w : World) (hT : Tab w) :
    Calls Tryz.prog 15 #[.string s] w (RdS l us w) := by
  refine (readText_any N s l hs hl hN hNl hNb w hT).mono fun e w' h => ?_
  obtain ⟨hb, ⟨h1, _⟩ | ⟨_, er, j, h2, _⟩ | ⟨h1, us', j, v, h2, h3, h4⟩⟩ := h
  · exact absurd h1 ho
  · rw [hr] at h2; cases h2
  · rw [hr] at h2; cases h2
    obtain ⟨t, rfl, a, b, tb, c, d⟩ := tre_sep (got hs.lt hl hN hNl hNb ho hr) hl hNl h4
    exact ⟨hb, t, tb, h3, a, b, c, d⟩
theorem resolve_says {t : Tre} {w : World} {l : List Nat} {N : Nat} {us : List Ru} (ha : t.At w) (h : t.Says l us) (G : Got l N us) (hz : l.length ≤ 16384) (hN : N ≤ l.length) :
    Calls Tryz.prog 25 #[t.val] w (ResB t w) := by
  obtain ⟨a, b, c, d⟩ := says_small h G hz hN
  exact (resolve_any t w ha b c a).mono fun e w' r => res_any d ha.g r
/-- Names where nobody is called, turned, the first k ones. -/
def nmk (t : Tre) (s : ByteArray) (k : Nat) : List ByteArray := (List.range t.nm.length).map fun i => if i < k && !isCall (t.g.nodes.getD i Nd.zero) then s else t.nm.getD i ByteArray.empty
def mvk (l : List Int) (m : Int) (k : Nat) : List Int := (List.range l.length).map fun i => if i < k then l.getD i 0 + m else l.getD i 0
theorem nmk_len (t : Tre) (s : ByteArray) (k : Nat) : (nmk t s k).length = t.nm.length := by simp [nmk]
theorem mvk_len (l : List Int) (m : Int) (k : Nat) : (mvk l m k).length = l.length := by simp [mvk]
theorem nmk_zero (t : Tre) (s : ByteArray) : nmk t s 0 = t.nm := by
  apply List.ext_getElem
  · simp [nmk]
  · intro i h1 h2; simp [nmk, List.getD, h2]
theorem mvk_zero (l : List Int) (m : Int) : mvk l m 0 = l := by
  apply List.ext_getElem
  · simp [mvk]
  · intro i h1 h2; simp [mvk, List.getD, h2]
theorem mvk_all (l : List Int) (m : Int) : mvk l m l.length = l.map fun x => x + m := by
  apply List.ext_getElem
  · simp [mvk]
  · intro i h1 h2
    have h3 : i < l.length := by simpa using h2
    simp [mvk, List.getD, h3]
theorem mvk_at {l : List Int} {m : Int} {k : Nat} (hk : k < l.length) : (mvk l m k).getD k 0 = l.getD k 0 := by simp [mvk, List.getD, hk]
theorem mvk_next {l : List Int} {m : Int} {k : Nat} (hk : k < l.length) : mvk l m (k + 1) = (mvk l m k).set k (l.getD k 0 + m) := by
  apply List.ext_getElem
  · simp [mvk]
  · intro i h1 h2
    rw [List.getElem_set]
    simp only [mvk, List.getElem_map, List.getElem_range]
    by_cases e : k = i
    · subst e; simp
    · rw [if_neg e]
      by_cases h : i < k
      · rw [if_pos (by omega), if_pos h]
      · rw [if_neg (by omega), if_neg h]
theorem nmk_next {t : Tre} {s : ByteArray} {k : Nat} (hk : k < t.nm.length) (hc : isCall (t.g.nodes.getD k Nd.zero) = false) : nmk t s (k + 1) = (nmk t s k).set k s := by
  apply List.ext_getElem
  · simp [nmk]
  · intro i h1 h2
    rw [List.getElem_set]
    simp only [nmk, List.getElem_map, List.getElem_range]
    by_cases e : k = i
    · subst e; rw [List.getD_eq_getElem?_getD] at hc; simp [hc]
    · rw [if_neg e]
      by_cases h : i < k
      · simp [h, show i < k + 1 by omega]
      · simp [h, show ¬ i < k + 1 by omega]
theorem nmk_keep {t : Tre} {s : ByteArray} {k : Nat} (hc : isCall (t.g.nodes.getD k Nd.zero) = true) : nmk t s (k + 1) = nmk t s k := by
  apply List.ext_getElem
  · simp [nmk]
  · intro i h1 h2
    simp only [nmk, List.getElem_map, List.getElem_range]
    by_cases e : k = i
    · subst e; rw [List.getD_eq_getElem?_getD] at hc; simp [hc]
    · by_cases h : i < k
      · simp [h, show i < k + 1 by omega]
      · simp [h, show ¬ i < k + 1 by omega]
/-- The tree, the first k nodes' names and places and the first r rules' places turned. -/
def turned (t : Tre) (s : ByteArray) (m : Int) (k r : Nat) : Tre := { t with nm := nmk t s k, np := mvk t.np m k, rp := mvk t.rp m r }
theorem turned_zero (t : Tre) (s : ByteArray) (m : Int) : turned t s m 0 0 = t := by unfold turned; rw [nmk_zero, mvk_zero, mvk_zero]
/-- All turned, it is a tree that says alike, with its places moved on. -/
theorem turned_like (t : Tre) (s : ByteArray) (m : Int) (h : t.nm.length = t.g.nodes.length) : Like t (turned t s m t.np.length t.rp.length) := by
  refine ⟨rfl, rfl, fun n hn hc => ?_⟩
  show (nmk t s t.np.length).getD n ByteArray.empty = _
  rw [List.getD_eq_getElem?_getD] at hc
  simp [nmk, List.getD, show n < t.nm.length by omega, hc]
theorem turned_moved (t : Tre) (s : ByteArray) (m : Int) : (turned t s m t.np.length t.rp.length).rp = t.rp.map (fun x => x + m) ∧ (turned t s m t.np.length t.rp.length).np = t.np.map (fun x => x + m) := ⟨mvk_all _ _, mvk_all _ _⟩
end Go.Proofs.YtfghfnpiaccfaaaGreatDoor.J
namespace Go.Proofs.YtfghfnpiaccfaaaGreatDoor.J
open Go Go.RowKit
def tn (t : Tre) (s : ByteArray) (m : Int) (a k q : Nat) : Tre := { t with nm := nmk t s a, np := mvk t.np m k, rp := mvk t.rp m q }
/-- Where a tree's rows begin. -/
structure Spots (t : Tre) (b tb gN gP gQ gM : Nat) (w2 : World) : Prop where
  hN : t.g.NA = some ⟨gN, 0, none⟩
  hP : t.PA = some ⟨gP, 0, none⟩
  hQ : t.QA = some ⟨gQ, 0, none⟩
  hM : t.MA = some ⟨gM, 0, none⟩
  lP : gP < b
  lQ : gQ < b
  lM : gM < b
  lo : w2.heap.size ≤ tb
  e1 : t.rp.length = t.g.rules.length
  e2 : t.np.length = t.g.nodes.length
  e3 : t.nm.length = t.g.nodes.length
structure TS (t : Tre) (s : ByteArray) (m : Int) (w2 : World) (b tb gN gP gQ gM a k q : Nat) (W : World) : Prop where
  rows : Rws W tb tb (tRows (tn t s m a k q))
  low : Below w2.heap.size w2 W
  blk : Blk W b #[.slice t.g.RA t.g.rules.length t.g.rc, .slice (some ⟨gN, 0, none⟩) t.g.nodes.length t.g.nc, .slice (some ⟨gP, 0, none⟩) t.g.rules.length t.pc, .slice (some ⟨gQ, 0, none⟩) t.g.nodes.length t.qc, .slice (some ⟨gM, 0, none⟩) t.g.nodes.length t.mc] 36
section
variable {t : Tre} {s : ByteArray} {m : Int} {w2 W : World} {b tb gN gP gQ gM a k q : Nat}
theorem TS.below (h : TS t s m w2 b tb gN gP gQ gM a k q W) {W' : World} (hb : Below W.heap.size W W') : TS t s m w2 b tb gN gP gQ gM a k q W' :=
  ⟨h.rows.below hb, h.low.trans (hb.mono h.low.size), h.blk.below' hb⟩
theorem TS.name (h : TS t s m w2 b tb gN gP gQ gM a k q W) (S : Spots t b tb gN gP gQ gM w2) (ha : a < t.g.nodes.length) (hc : isCall (t.g.nodes.getD a Nd.zero) = false) :
    (∃ v, W.cell? ⟨gM, a, none⟩ = some (.string v)) ∧ W.frozen? ⟨gM, a, none⟩ = false ∧ TS t s m w2 b tb gN gP gQ gM (a + 1) k q (W.setCell ⟨gM, a, none⟩ (.string s)) := by
  obtain ⟨g, e, c, f, l1, l2, r⟩ := sep_nm h.rows (k := a) (by show a < (nmk t s a).length; rw [nmk_len, S.e3]; exact ha) s
  obtain rfl : gM = g := by have := S.hM.symm.trans e; simpa using this
  refine ⟨⟨_, c⟩, f, ?_, h.low.setCell (p := ⟨gM, a, none⟩) (Nat.le_trans S.lo l1) _, blk_cell h.blk (by have := S.lM; omega) _ _⟩
  have : (tn t s m (a + 1) k q) = { tn t s m a k q with nm := (tn t s m a k q).nm.set a s } := by
    show _ = { tn t s m a k q with nm := (nmk t s a).set a s }
    rw [← nmk_next (by rw [S.e3]; exact ha) hc]; rfl
  rw [this]; exact r
theorem TS.skip (h : TS t s m w2 b tb gN gP gQ gM a k q W) (hc : isCall (t.g.nodes.getD a Nd.zero) = true) : TS t s m w2 b tb gN gP gQ gM (a + 1) k q W :=
  ⟨by have := h.rows; unfold tn at this ⊢; rw [nmk_keep hc]; exact this, h.low, h.blk⟩
theorem TS.place (h : TS t s m w2 b tb gN gP gQ gM a k q W) (S : Spots t b tb gN gP gQ gM w2) (hk : k < t.g.nodes.length) :
    W.cell? ⟨gQ, k, none⟩ = some (.int .i64 (t.np.getD k 0)) ∧ W.frozen? ⟨gQ, k, none⟩ = false ∧ TS t s m w2 b tb gN gP gQ gM a (k + 1) q (W.setCell ⟨gQ, k, none⟩ (.int .i64 (t.np.getD k 0 + m))) := by
  have hk2 : k < t.np.length := by rw [S.e2]; exact hk
  obtain ⟨g, e, c, f, l1, l2, r⟩ := sep_np h.rows (k := k) (by show k < (mvk t.np m k).length; rw [mvk_len]; exact hk2) (t.np.getD k 0 + m)
  obtain rfl : gQ = g := by have := S.hQ.symm.trans e; simpa using this
  have c2 : W.cell? ⟨gQ, k, none⟩ = some (.int .i64 ((mvk t.np m k).getD k 0)) := c
  rw [mvk_at hk2] at c2
  refine ⟨c2, f, ?_, h.low.setCell (p := ⟨gQ, k, none⟩) (Nat.le_trans S.lo l1) _, blk_cell h.blk (by have := S.lQ; omega) _ _⟩
  have : (tn t s m a (k + 1) q) = { tn t s m a k q with np := (tn t s m a k q).np.set k (t.np.getD k 0 + m) } := by
    show _ = { tn t s m a k q with np := (mvk t.np m k).set k (t.np.getD k 0 + m) }
    rw [← mvk_next hk2]; rfl
  rw [this]; exact r
theorem TS.rule_ (h : TS t s m w2 b tb gN gP gQ gM a k q W) (S : Spots t b tb gN gP gQ gM w2) (hk : q < t.g.rules.length) :
    W.cell? ⟨gP, q, none⟩ = some (.int .i64 (t.rp.getD q 0)) ∧ W.frozen? ⟨gP, q, none⟩ = false ∧ TS t s m w2 b tb gN gP gQ gM a k (q + 1) (W.setCell ⟨gP, q, none⟩ (.int .i64 (t.rp.getD q 0 + m))) := by
  have hk2 : q < t.rp.length := by rw [S.e1]; exact hk
  obtain ⟨g, e, c, f, l1, l2, r⟩ := sep_rp h.rows (k := q) (by show q < (mvk t.rp m q).length; rw [mvk_len]; exact hk2) (t.rp.getD q 0 + m)
  obtain rfl : gP = g := by have := S.hP.symm.trans e; simpa using this
  have c2 : W.cell? ⟨gP, q, none⟩ = some (.int .i64 ((mvk t.rp m q).getD q 0)) := c
  rw [mvk_at hk2] at c2
  refine ⟨c2, f, ?_, h.low.setCell (p := ⟨gP, q, none⟩) (Nat.le_trans S.lo l1) _, blk_cell h.blk (by have := S.lP; omega) _ _⟩
  have : (tn t s m a k (q + 1)) = { tn t s m a k q with rp := (tn t s m a k q).rp.set q (t.rp.getD q 0 + m) } := by
    show _ = { tn t s m a k q with rp := (mvk t.rp m q).set q (t.rp.getD q 0 + m) }
    rw [← mvk_next hk2]; rfl
  rw [this]; exact r
theorem TS.kind (h : TS t s m w2 b tb gN gP gQ gM a k q W) (S : Spots t b tb gN gP gQ gM w2) {i : Nat} (hi : i < t.g.nodes.length) : W.cell? ⟨gN, i * 9, none⟩ = some (.int .i64 (t.g.nodes.getD i Nd.zero).kind) := by
  have o := h.rows.own ⟨48, 9, .slice t.g.NA t.g.nodes.length t.g.nc, t.g.nodes.length, ncells t.g.nodes⟩ (by simp [tRows, tn])
  have o2 : W.ownsRow tb 48 9 (.slice t.g.NA t.g.nodes.length t.g.nc) t.g.nodes.length (ncells t.g.nodes) := o
  rw [S.hN] at o2
  have := o2.cellAt (i * 9 + 0) (by omega)
  rw [ncells_at _ i 0 hi (by omega)] at this
  exact this
theorem TS.done (h : TS t s m w2 b tb gN gP gQ gM t.g.nodes.length t.g.nodes.length t.g.rules.length W) (S : Spots t b tb gN gP gQ gM w2) (h0 : ∃ w, Gr.At w t.g) :
    Tre.At W (turned t s m t.np.length t.rp.length) := by
  obtain ⟨w, h0⟩ := h0
  have e : tn t s m t.g.nodes.length t.g.nodes.length t.g.rules.length = turned t s m t.np.length t.rp.length := by unfold tn turned; rw [S.e1, S.e2]
  have := h.rows
  rw [e] at this
  exact at_sep h0 this
end
theorem ts_start {t : Tre} {s : ByteArray} {m : Int} {w2 W : World} {b tb : Nat} (h : Rws W tb tb (tRows t)) (hl : Below w2.heap.size w2 W) (hlo : w2.heap.size ≤ tb)
    (hb : Blk W b #[.slice t.g.RA t.g.rules.length t.g.rc, .slice t.g.NA t.g.nodes.length t.g.nc, .slice t.PA t.rp.length t.pc, .slice t.QA t.np.length t.qc, .slice t.MA t.nm.length t.mc] 36)
    {w3 : World} (h3 : Rws w3 tb tb (tRows t)) (hb3 : w3.heap.size ≤ b) (e1 : t.rp.length = t.g.rules.length) (e2 : t.np.length = t.g.nodes.length) (e3 : t.nm.length = t.g.nodes.length) (n0 : 0 < t.g.nodes.length) (r0 : 0 < t.g.rules.length) :
    ∃ gN gP gQ gM, Spots t b tb gN gP gQ gM w2 ∧ TS t s m w2 b tb gN gP gQ gM 0 0 0 W := by
  obtain ⟨gM, a1, _, _, _, a2, _⟩ := sep_nm h3 (k := 0) (by omega) s
  obtain ⟨gQ, b1, _, _, _, b2, _⟩ := sep_np h3 (k := 0) (by omega) 0
  obtain ⟨gP, c1, _, _, _, c2, _⟩ := sep_rp h3 (k := 0) (by omega) 0
  have o := h3.own ⟨48, 9, .slice t.g.NA t.g.nodes.length t.g.nc, t.g.nodes.length, ncells t.g.nodes⟩ (by simp [tRows])
  obtain ⟨gN, cap, e, _⟩ := own_shape o n0
  have hN : t.g.NA = some ⟨gN, 0, none⟩ := by
    have e' : Value.slice t.g.NA t.g.nodes.length t.g.nc = .slice (some ⟨gN, 0, none⟩) t.g.nodes.length cap := e
    simp only [Value.slice.injEq] at e'; exact e'.1
  refine ⟨gN, gP, gQ, gM, ⟨hN, c1, b1, a1, by omega, by omega, by omega, hlo, e1, e2, e3⟩, ⟨?_, hl, ?_⟩⟩
  · have : tn t s m 0 0 0 = t := by unfold tn; rw [nmk_zero, mvk_zero, mvk_zero]
    rw [this]; exact h
  · rw [hN, c1, b1, a1, e1, e2, e3] at hb; exact hb
end Go.Proofs.YtfghfnpiaccfaaaGreatDoor.J
namespace Go.Proofs.YtfghfnpiaccfaaaGreatDoor.J
open Go Go.RowKit
theorem like_trans {t u v : Tre} (h : Like t u) (k : Like u v) : Like t v :=
  ⟨k.rules.trans h.rules, k.keys.trans h.keys, fun n hn hc => (k.calls n (by rw [h.len]; exact hn) (by rw [h.call hn]; exact hc)).trans (h.calls n hn hc)⟩
theorem map_zero (l : List Int) : l = l.map fun x => x + 0 := by simp
theorem says_why {l : List Nat} {us : List Ru} {t u : Tre} (h : t.Says l us) (k : u.Says l us) (hw : wholeB t = true) : why u = why t := by
  have := why_moved (says_like h k) hw (m := 0) (by rw [h.rp, k.rp]; exact map_zero _) (by rw [h.np, k.np]; exact map_zero _)
  rw [this]
  cases why t <;> simp
theorem turned_any {t u : Tre} {s : ByteArray} {m : Int} {W : World} {l : List Nat} {N : Nat} {us : List Ru} (h : u.Says l us) (k : t.Says l us) (G : Got l N us) (hz : l.length ≤ 16384) (hN : N ≤ l.length) (hs : s.size ≤ 9223372036854775807)
    (ha : Tre.At W (turned u s m u.np.length u.rp.length)) :
    Calls Tryz.prog 25 #[(turned u s m u.np.length u.rp.length).val] W (ResB (turned u s m u.np.length u.rp.length) W) ∧ Like t (turned u s m u.np.length u.rp.length) ∧ why (turned u s m u.np.length u.rp.length) = (why t).map fun p => (p.1, p.2 + m) := by
  obtain ⟨a, b, c, d⟩ := says_small h G hz hN
  obtain ⟨_, _, _, d'⟩ := says_small k G hz hN
  have W3 : u.rp.length = u.g.rules.length ∧ u.np.length = u.g.nodes.length ∧ u.nm.length = u.g.nodes.length := by unfold wholeB at d; simpa using d
  have L := turned_like u s m W3.2.2
  have hd : wholeB (turned u s m u.np.length u.rp.length) = true := by
    unfold wholeB
    simp only [decide_eq_true_eq]
    exact ⟨by show (mvk u.rp m _).length = _; rw [mvk_len]; exact W3.1, by show (mvk u.np m _).length = _; rw [mvk_len]; exact W3.2.1, by show (nmk u s _).length = _; rw [nmk_len]; exact W3.2.2⟩
  refine ⟨(resolve_any _ W ha (fun x hx => ?_) (by show (nmk u s _).length ≤ _; rw [nmk_len]; exact c) a).mono fun e w' r => res_any hd ha.g r, like_trans (says_like k h) L, ?_⟩
  · have hx2 : x ∈ nmk u s u.np.length := hx
    unfold nmk at hx2
    obtain ⟨i, hi, rfl⟩ := List.mem_map.1 hx2
    split
    · exact hs
    · exact b _ (getD_mem (List.mem_range.1 hi))
  · rw [why_moved L d (turned_moved u s m).1 (turned_moved u s m).2, says_why k h d']
/-- The numbers of both. -/
theorem why_nums {o : Option (Int × Int)} {m : Int} (hk : ∀ p, o = some p → p.1 = 8 ∨ p.1 = 5) :
    ((o.map fun p => (p.1, p.2 + m)).getD (0, 0)).1 = (o.getD (0, 0)).1 ∧ (o = none → (o.getD (0, 0)).1 = 0 ∧ (o.getD (0, 0)).2 = 0) ∧ (o ≠ none → (o.getD (0, 0)).1 ≠ 0 ∧ ((o.map fun p => (p.1, p.2 + m)).getD (0, 0)).2 = (o.getD (0, 0)).2 + m) := by
  cases o with
  | none => exact ⟨rfl, fun _ => ⟨rfl, rfl⟩, fun h => absurd rfl h⟩
  | some p =>
    refine ⟨rfl, (fun h => by cases h), fun _ => ⟨?_, rfl⟩⟩
    have := hk p rfl
    show p.1 ≠ 0
    omega
theorem why_none {t : Tre} (h : why t = none) : twiceAt t.g.rules = none ∧ lostAt t.g t.nm = none := by
  unfold why at h
  cases e1 : twiceAt t.g.rules with
  | some i => rw [e1] at h; cases h
  | none =>
    rw [e1] at h
    cases e2 : lostAt t.g t.nm with
    | none => exact ⟨rfl, rfl⟩
    | some n => rw [e2] at h; cases h
theorem why_bound {t : Tre} {l : List Nat} (hB : (∀ k, 0 ≤ t.np.getD k 0 ∧ t.np.getD k 0 ≤ l.length) ∧ ∀ k, 0 ≤ t.rp.getD k 0 ∧ t.rp.getD k 0 ≤ l.length) : 0 ≤ ((why t).getD (0, 0)).2 ∧ ((why t).getD (0, 0)).2 ≤ l.length := by
  unfold why
  cases twiceAt t.g.rules with
  | some i => exact hB.2 i
  | none =>
    cases lostAt t.g t.nm with
    | some n => exact hB.1 n
    | none => simp
end Go.Proofs.YtfghfnpiaccfaaaGreatDoor.J
namespace Go.Proofs.YtfghfnpiaccfaaaGreatDoor.J
open Go Go.RowKit
theorem str_more : Str ⟨#[10, 95, 110, 101, 119, 32, 60, 45, 32, 40, 41, 59]⟩ ([10] ++ newL) := rfl
theorem bsv_new : bsv newNm = ⟨#[95, 110, 101, 119]⟩ := by rfl
theorem rule_fresh {l : List Rl} {s : ByteArray} (h : ruleAt l s < 0) : ∀ i, i < l.length → (l.getD i Rl.zero).name ≠ s := by
  intro i
  induction i using Nat.strongRecOn with
  | ind i ih =>
    intro hi e
    have := ruleAt_hit (l := l) (s := s) i (fun j hj => ih j hj (by omega)) hi e
    omega
theorem why_more {t v : Tre} {r : Rl} {k : Key} (h : More t v r k) (e : why t = none) : why v = none := by
  obtain ⟨a, b⟩ := why_none e
  unfold why
  rw [h.twice a, h.lost b]
def ResOk (t : Tre) (w : World) (e : Ending) (w' : World) : Prop :=
  Below w.heap.size w w' ∧ ∃ g : Gr, e = .returned (.tuple #[.agg #[.slice g.RA g.rules.length g.rc, .slice g.NA g.nodes.length g.nc], dgv 0 0]) ∧ Gr.At w' g ∧ GTwin (resG t) g ∧ g.rules.length ≤ g.rc ∧ g.nodes.length ≤ g.nc
theorem resOk_of {t : Tre} {w : World} {e : Ending} {w' : World} (hy : why t = none) (h : ResB t w e w') : ResOk t w e w' := by
  obtain ⟨hb, g, he, ha, _, h2⟩ := h
  rw [hy] at he
  obtain ⟨a, b, c⟩ := h2 hy
  exact ⟨hb, g, he, ha, a, b, c⟩
theorem getD_take {α : Type} {l : List α} {n i : Nat} {d : α} (h : i < n) : (l.take n).getD i d = l.getD i d := by
  simp only [List.getD_eq_getElem?_getD, List.getElem?_take, if_pos h]
theorem gr_cut {w : World} {g : Gr} (h : Gr.At w g) (a b : Nat) : Gr.At w ⟨g.RA, g.rc, g.rules.take a, g.NA, g.nc, g.nodes.take b⟩ := by
  refine ⟨fun h0 => ?_, fun h0 => ?_, fun x hx => h.kids x (List.mem_of_mem_take hx), ?_, ?_, h.rn, h.nn, fun x hx => h.texts x (List.mem_of_mem_take hx), fun x hx => h.names x (List.mem_of_mem_take hx)⟩
  · have h1 : 0 < (g.rules.take a).length := h0
    rw [List.length_take] at h1
    obtain ⟨b', o', e, hb, hc⟩ := h.rules (by omega)
    refine ⟨b', o', e, hb, fun i hi => ?_⟩
    have hi' : i < (g.rules.take a).length := hi
    rw [List.length_take] at hi'
    show _ = some (Value.string ((g.rules.take a).getD i Rl.zero).name) ∧ _ = some (Value.int .i64 ((g.rules.take a).getD i Rl.zero).body)
    rw [getD_take (by omega)]
    exact hc i (by omega)
  · have h1 : 0 < (g.nodes.take b).length := h0
    rw [List.length_take] at h1
    obtain ⟨b', o', e, hb, hc⟩ := h.nodes (by omega)
    refine ⟨b', o', e, hb, fun i hi j hj => ?_⟩
    have hi' : i < (g.nodes.take b).length := hi
    rw [List.length_take] at hi'
    show _ = ((g.nodes.take b).getD i Nd.zero).cells[j]?
    rw [getD_take (by omega)]
    exact hc i (by omega) j hj
  · show (g.rules.take a).length ≤ _
    rw [List.length_take]
    have := h.rl
    omega
  · show (g.nodes.take b).length ≤ _
    rw [List.length_take]
    have := h.nl
    omega
end Go.Proofs.YtfghfnpiaccfaaaGreatDoor.J

/- What all rows share whose arguments lie on as they lay.  -/
import Derived.ProofKit
import Derived.OpenShut
import Derived.WideKeyArgs
import Derived.Carry
import Derived.Below
import Derived.ChangeSlices
import Derived.Deep.Slices
import Derived.Test.YtcnikeeapillnaaDoorPa
import Derived.Test.YtcnikeeapillnaaDoorXg
namespace Go.Proofs.YtcnikeeapillnaaDoor
open Go Go.ChangeShapes Go.WideShapes Go.ChangeAt Go.RowKit
section
variable {H : Type} {enc : TypeId × Value → H} {P : Program}
theorem trodAll_stays (hl : laidOutB P = true) {W W' : World} {sp' : Nat → Bool} : ∀ {ts : List TypeId} {vs : List Value} {ds : List (DataW H)} {ps : List MemPlace},
    (ts.all fun t => P.readableRec t && decide (t < P.types.size)) = true → DataW.TrodAll enc P W 0 (fun _ => true) true ts vs ds ps → (∀ p ∈ ps, W.sameAt W' p) → (∀ p ∈ ps, sp' p.block = true) → DataW.TrodAll enc P W' 0 sp' true ts vs ds ps
  | [], [], [], _, _, h, _, _ => h
  | t :: ts, _ :: _, _ :: _, _, hT, ⟨p, q, h1, h2, e⟩, hsame, hs => by
    simp only [List.all_cons, Bool.and_eq_true, decide_eq_true_eq] at hT
    exact ⟨p, q, WideElems.Trod_stays hl hT.1.1 hT.1.2 h1 (fun x hx => hsame x (by rw [e]; exact List.mem_append_left _ hx)) (fun x hx => hs x (by rw [e]; exact List.mem_append_left _ hx)),
      trodAll_stays hl hT.2 h2 (fun x hx => hsame x (by rw [e]; exact List.mem_append_right _ hx)) (fun x hx => hs x (by rw [e]; exact List.mem_append_right _ hx)), e⟩

/-- A law that answered true, behind which all lies as it lay. -/
theorem post_true {f : Func} {s : ChangeSpec} {apart fresh handsOn again : Bool} {W W' : World} {args : Array Value} {ds : List (DataW H)} {before : List MemPlace} {tb : TypeId}
    (hl : laidOutB P = true) (hT : (f.params.toList.all fun t => P.readableRec t && decide (t < P.types.size)) = true) (hv : s.vars = []) (hrt : f.resultTypes = #[tb]) (htb : P.underlying tb = some .bool)
    (hW : DataW.Whole enc P f.params.toList s.vars apart W args.toList ds [] before)
    (hA : DataW.TrodAll enc P W 0 (fun _ => true) true f.params.toList args.toList ds before)
    (hr : (s.fn H (ds ++ [])).results = [.lit (.bool true)]) (ha : (s.fn H (ds ++ [])).args = ds) (hvs : (s.fn H (ds ++ [])).vars = []) (hb : Below W.heap.size W W') :
    s.post enc P f apart fresh handsOn again W args (.bool true) W' := by
  refine post_of_below (pa := before) (pv := []) hW (fun _ _ _ => ?_) (fun sp hsp => ?_) (fun _ _ => ?_) (by simp) hb ?_
  · rw [hr, hrt]
    exact trodAll_mk1 (shut_bool htb _)
  · rw [ha]
    exact trodAll_stays hl hT hA (fun x hx => hb.same (hW.lt x hx)) hsp
  · rw [hv, hvs]; rfl
  · exact ok_one hrt rfl (okWide_bool_mk htb _)

end
/-- Where a slice that came in leads. -/
theorem slice_at {P : Program} {W : World} {b0 : Nat} {t e : TypeId} {a : Addr} {n c : Nat} (ht : P.underlying t = some (.slice e)) (h : Value.okWide P W .any b0 t (.slice (some a) n c)) : a.spot = none ∧ a.block < W.heap.size := by
  simp only [Value.okWide, ht, Cell.okWide, Cell.ok, World.has] at h
  obtain ⟨_, _, _, hs, row, cells, hsh, _⟩ := h
  refine ⟨hs, ?_⟩
  unfold World.shape? at hsh
  cases hw : W.heap[a.block]? with
  | none => rw [hw] at hsh; cases hsh
  | some o => exact (Array.getElem?_eq_some_iff.1 hw).1
theorem cells30 : Tryd.prog.cellsOf 38 = 2 := by kernel_rfl
theorem list2 {α : Type} (l : List α) (h : l.length = 2) : ∃ a b, l = [a, b] := by
  match l, h with
  | [a, b], _ => exact ⟨a, b, rfl⟩
theorem list4' {α : Type} (l : List α) (h : l.length = 4) : ∃ a b c d, l = [a, b, c, d] := by
  match l, h with
  | [a, b, c, d], _ => exact ⟨a, b, c, d, rfl⟩
theorem ccells_range (f : Nat → Nat → Bool) (n j i : Nat) (hj : j < n) (hi : i < 4) : (ccells ((List.range n).map f))[j * 4 + i]? = some (.int .u64 (wd (f j) i)) := by
  have h := ccells_at ((List.range n).map f) j i (by simpa using hj) hi
  have e : getS ((List.range n).map f) j = f j := by simp [getS, hj]
  rw [e] at h
  exact h
theorem open_clss {H : Type} {enc : TypeId × Value → H} {W : World} {base : Nat} {v : Value} {d : DataW H} {p : List MemPlace}
    (hv : Value.okWide Tryd.prog W .any base 41 v) (h0 : DataW.Trod enc Tryd.prog W 0 (fun _ => true) true 41 v d p) :
    ∃ (A : Option Addr) (ss : List (Nat → Bool)) (c : Nat), v = .slice A ss.length c ∧ ss.length ≤ maxLen ∧ SrcAt W W.heap.size v ss.length 4 (ccells ss) ∧ (ss.length = 0 ∨ ∃ e sp, d = .slice e sp ∧ e.length = ss.length) := by
  obtain ⟨A, len, cap, rfl⟩ := okWide_slice Tryd.underlying41 hv
  obtain ⟨fuel, hf⟩ := h0
  rcases Go.Deep.open_slice Tryd.underlying41 hf with ⟨hcs, hx⟩ | ⟨a, len', cap', m, n, D, Pl, hcs, _, hl, hm, hmm, hx, hel⟩
  · simp [Value.cells] at hcs
    obtain ⟨rfl, rfl, rfl⟩ := hcs
    exact ⟨none, [], 0, rfl, by simp, .inl ⟨rfl, rfl, rfl⟩, .inl rfl⟩
  · simp [Value.cells] at hcs
    obtain ⟨rfl, rfl, rfl⟩ := hcs
    simp only [if_true] at hmm
    subst hmm
    rw [cells25] at hel
    obtain ⟨hsp, hblk⟩ := slice_at Tryd.underlying41 hv
    obtain ⟨b, off, spot⟩ := a
    dsimp only at hsp hblk
    subst hsp
    have key : ∀ i, i < len → ∃ s : Nat → Bool, ∀ k, k < 4 → W.cell? ⟨b, off + (i * 4 + k), none⟩ = some (.int .u64 (wd s k)) := by
      intro i hi
      obtain ⟨cs', h1, h2⟩ := hel i (by omega)
      obtain ⟨_, hlen, hcell⟩ := World.cells?_some h1
      obtain ⟨c0, c1, c2, c3, rfl⟩ := list4' cs' hlen
      obtain ⟨y0, y1, y2, y3, m, hx, hy0, hy1, hy2, hy3⟩ := trod_array4 Tryd.underlying25 cells23 h2
      obtain ⟨x0, e0, _, w0⟩ := DataW.trod_int Tryd.underlying23 hy0
      obtain ⟨x1, e1, _, w1⟩ := DataW.trod_int Tryd.underlying23 hy1
      obtain ⟨x2, e2, _, w2⟩ := DataW.trod_int Tryd.underlying23 hy2
      obtain ⟨x3, e3, _, w3⟩ := DataW.trod_int Tryd.underlying23 hy3
      simp at e0 e1 e2 e3
      subst e0 e1 e2 e3
      have q0 := word_of_wf w0; have q1 := word_of_wf w1; have q2 := word_of_wf w2; have q3 := word_of_wf w3
      refine ⟨setOf (pick4 x0.toNat x1.toNat x2.toNat x3.toNat), fun k hk => ?_⟩
      have hc := hcell k hk
      rw [Addr.add_lit, Addr.add_lit] at hc
      rw [← Nat.add_assoc, hc]
      have hk4 : k = 0 ∨ k = 1 ∨ k = 2 ∨ k = 3 := by omega
      rcases hk4 with rfl | rfl | rfl | rfl
      · rw [wd_setOf (x := pick4 x0.toNat x1.toNat x2.toNat x3.toNat) (k := 0) (show x0.toNat < 18446744073709551616 by omega)]; simp [pick4]; omega
      · rw [wd_setOf (x := pick4 x0.toNat x1.toNat x2.toNat x3.toNat) (k := 1) (show x1.toNat < 18446744073709551616 by omega)]; simp [pick4]; omega
      · rw [wd_setOf (x := pick4 x0.toNat x1.toNat x2.toNat x3.toNat) (k := 2) (show x2.toNat < 18446744073709551616 by omega)]; simp [pick4]; omega
      · rw [wd_setOf (x := pick4 x0.toNat x1.toNat x2.toNat x3.toNat) (k := 3) (show x3.toNat < 18446744073709551616 by omega)]; simp [pick4]; omega
    obtain ⟨f, hfk⟩ := Go.Deep.choose_lt key
    have hlen : ((List.range len).map f).length = len := by simp
    refine ⟨some ⟨b, off, none⟩, (List.range len).map f, m, by rw [hlen], by rw [hlen]; omega, .inr ⟨b, off, m, by rw [hlen], hblk, fun j hj => ?_⟩, .inr ⟨_, _, (Prod.mk.inj hx).1, by rw [hlen]; simp⟩⟩
    rw [hlen] at hj
    have e := ccells_range f len (j / 4) (j % 4) (by omega) (by omega)
    have hc := hfk (j / 4) (by omega) (j % 4) (by omega)
    rw [show j / 4 * 4 + j % 4 = j by omega] at e hc
    rw [hc, e]
theorem rcells_range (f : Nat → Nat × Nat) (n j : Nat) (hj : j < n) : (rcells ((List.range n).map f))[j * 2]? = some (.int .u8 ((f j).1 : Int)) ∧ (rcells ((List.range n).map f))[j * 2 + 1]? = some (.int .u8 ((f j).2 : Int)) := by
  have h := rcells_at ((List.range n).map f) j (by simpa using hj)
  have e : rget ((List.range n).map f) j = f j := by simp [rget, hj]
  rw [e] at h
  exact h
theorem open_runs {H : Type} {enc : TypeId × Value → H} {W : World} {base : Nat} {v : Value} {d : DataW H} {p : List MemPlace}
    (hv : Value.okWide Tryd.prog W .any base 30 v) (h0 : DataW.Trod enc Tryd.prog W 0 (fun _ => true) true 30 v d p) :
    ∃ (A : Option Addr) (rs : List (Nat × Nat)) (c : Nat), v = .slice A rs.length c ∧ rs.length ≤ maxLen ∧ Small rs ∧ SrcAt W W.heap.size v rs.length 2 (rcells rs) ∧ (rs.length = 0 ∨ ∃ e sp, d = .slice e sp ∧ e.length = rs.length) := by
  obtain ⟨A, len, cap, rfl⟩ := okWide_slice Tryd.underlying30 hv
  obtain ⟨fuel, hf⟩ := h0
  rcases Go.Deep.open_slice Tryd.underlying30 hf with ⟨hcs, hx⟩ | ⟨a, len', cap', m, n, D, Pl, hcs, _, hl, hm, hmm, hx, hel⟩
  · simp [Value.cells] at hcs
    obtain ⟨rfl, rfl, rfl⟩ := hcs
    exact ⟨none, [], 0, rfl, by simp, by intro r hr; simp at hr, .inl ⟨rfl, rfl, rfl⟩, .inl rfl⟩
  · simp [Value.cells] at hcs
    obtain ⟨rfl, rfl, rfl⟩ := hcs
    simp only [if_true] at hmm
    subst hmm
    rw [cells30] at hel
    obtain ⟨hsp, hblk⟩ := slice_at Tryd.underlying30 hv
    obtain ⟨b, off, spot⟩ := a
    dsimp only at hsp hblk
    subst hsp
    have key : ∀ i, i < len → ∃ r : Nat × Nat, (r.1 < 256 ∧ r.2 < 256) ∧ W.cell? ⟨b, off + i * 2, none⟩ = some (.int .u8 (r.1 : Int)) ∧ W.cell? ⟨b, off + (i * 2 + 1), none⟩ = some (.int .u8 (r.2 : Int)) := by
      intro i hi
      obtain ⟨cs', h1, h2⟩ := hel i (by omega)
      obtain ⟨_, hlen, hcell⟩ := World.cells?_some h1
      obtain ⟨c0, c1, rfl⟩ := list2 cs' hlen
      obtain ⟨xs, m, _, _, _, hn2, hel2⟩ := DataW.trod_array Tryd.underlying38 h2
      have g0 := hel2 0 (by omega)
      have g1 := hel2 1 (by omega)
      rw [cells5] at g0 g1
      simp at g0 g1
      rw [List.getElem?_eq_getElem (show 0 < xs.length by omega)] at g0
      rw [List.getElem?_eq_getElem (show 1 < xs.length by omega)] at g1
      obtain ⟨x0, e0, _, w0⟩ := DataW.trod_int Tryd.underlying5 g0
      obtain ⟨x1, e1, _, w1⟩ := DataW.trod_int Tryd.underlying5 g1
      simp at e0 e1
      subst e0 e1
      have q0 := bounds_u8 w0
      have q1 := bounds_u8 w1
      have k0 := hcell 0 (by omega)
      have k1 := hcell 1 (by omega)
      rw [Addr.add_lit, Addr.add_lit] at k0 k1
      refine ⟨(x0.toNat, x1.toNat), by simp; omega, ?_, ?_⟩
      · rw [Nat.add_zero] at k0; rw [k0]; simp; omega
      · rw [← Nat.add_assoc, k1]; simp; omega
    obtain ⟨f, hfk⟩ := Go.Deep.choose_lt key
    have hlen : ((List.range len).map f).length = len := by simp
    refine ⟨some ⟨b, off, none⟩, (List.range len).map f, m, by rw [hlen], by rw [hlen]; omega, fun r hr => ?_, .inr ⟨b, off, m, by rw [hlen], hblk, fun j hj => ?_⟩, .inr ⟨_, _, (Prod.mk.inj hx).1, by rw [hlen]; simp⟩⟩
    · obtain ⟨i, hi, rfl⟩ := List.mem_map.1 hr
      exact (hfk i (by simpa using hi)).1
    · rw [hlen] at hj
      obtain ⟨r1, r2⟩ := rcells_range f len (j / 2) (by omega)
      obtain ⟨_, q1, q2⟩ := hfk (j / 2) (by omega)
      have hj2 : j % 2 = 0 ∨ j % 2 = 1 := by omega
      rcases hj2 with h | h
      · rw [show j / 2 * 2 = j by omega] at r1 q1
        rw [q1, r1]
      · rw [show j / 2 * 2 + 1 = j by omega] at r2 q2
        rw [q2, r2]
end Go.Proofs.YtcnikeeapillnaaDoor

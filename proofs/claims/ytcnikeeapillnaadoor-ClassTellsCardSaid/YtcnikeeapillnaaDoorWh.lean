/- Contracts of layer 1: Next. -/
import Derived.Test.YtcnikeeapillnaaDoorWg
namespace Go.Proofs.YtcnikeeapillnaaDoor
open Go.RowKit Go.Shelf
attribute [local go_sem] Oper.semAt_some

theorem cell_new_l (W : World) (v : Value) (t : TypeId) : (W.alloc (.cells #[v] t)).cell? ⟨W.heap.size, 0, none⟩ = some v ∧ (W.alloc (.cells #[v] t)).frozen? ⟨W.heap.size, 0, none⟩ = false :=
  ⟨(Boxed.new W t v).cell, (Boxed.new W t v).frozen⟩
theorem cell_alloc_l {W : World} {a : Addr} {v : Value} (o : Obj) (h : W.cell? a = some v) : (W.alloc o).cell? a = some v := cell_kept h (World.grownBy_alloc W o none) (fun r e => by cases e)
theorem frozen_alloc_l {W : World} {a : Addr} {v : Value} (o : Obj) (h : W.cell? a = some v) (hf : W.frozen? a = false) : (W.alloc o).frozen? a = false := (frozen_kept h (World.grownBy_alloc W o none) (fun r e => by cases e)).trans hf
theorem elems_prefix (s : Nat → Bool) {q p : Nat} (h : q ≤ p) : elems s q <+: elems s p := by
  obtain ⟨d, rfl⟩ : ∃ d, p = q + d := ⟨p - q, by omega⟩
  clear h
  induction d with
  | zero => exact List.prefix_rfl
  | succ d ih => rw [← Nat.add_assoc, elems_succ]; exact ih.trans (List.prefix_append _ _)
/-- The least byte of s that is at least n. -/
def nextOf (s : Nat → Bool) (n : Int) : Option Nat := (elems s 256).find? fun x => decide (n ≤ (x : Int))
def nextB (s : Nat → Bool) (n : Int) : Nat := (nextOf s n).getD 0
def nextOk (s : Nat → Bool) (n : Int) : Bool := (nextOf s n).isSome
theorem next_some {s : Nat → Bool} {n : Int} {q : Nat} {l : List Nat} {x : Nat} (hq : q ≤ 256) (he : elems s q = l ++ [x]) (hx : n ≤ (x : Int)) (hl : ∀ y ∈ l, (y : Int) < n) : nextOf s n = some x := by
  obtain ⟨r, hr⟩ := elems_prefix s hq
  unfold nextOf
  rw [← hr, he, List.append_assoc, List.find?_append, List.find?_eq_none.2 (fun y hy => by simpa using hl y hy)]
  simp [hx]
theorem next_none {s : Nat → Bool} {n : Int} (hl : ∀ y ∈ elems s 256, (y : Int) < n) : nextOf s n = none := by
  unfold nextOf
  exact List.find?_eq_none.2 (fun y hy => by simpa using hl y hy)

def NxIx (n : Int) (B : Nat) (c : Code) (pre : List Byt) (W : World) : Prop :=
  c = .ret ∧ ∃ (l : List Nat) (x : Nat), vals pre = l ++ [x] ∧ n ≤ (x : Int) ∧ (∀ y ∈ l, (y : Int) < n) ∧ W.cell? ⟨B + 1 + 1, 0, none⟩ = some (.int .u8 (x : Int)) ∧ W.cell? ⟨B + 1 + 1 + 1, 0, none⟩ = some (.bool true)
theorem own_nxIx (n : Int) (B : Nat) (c : Code) : Own (NxIx n B c) := by
  rintro s X Y row ⟨h1, l, x, h2, h3, h4, h5, h6⟩ hg hr
  exact ⟨h1, l, x, h2, h3, h4, cell_kept h5 hg hr, cell_kept h6 hg hr⟩
set_option maxRecDepth 100000 in
set_option maxHeartbeats 4000000 in
theorem next_any (s : Nat → Bool) (n : Int) (w : World) (hT : Tab w) :
    Calls Tryd.prog 10 #[.agg #[.int .u64 (wd s 0), .int .u64 (wd s 1), .int .u64 (wd s 2), .int .u64 (wd s 3)], .int .i64 n] w fun e W' => e = .returned (.tuple #[.int .u8 (nextB s n), .bool (nextOk s n)]) ∧ Below w.heap.size w W' := by
  refine (callsIn_wide (n := 3)).1 ?_
  have hT0 := hT.1
  have HT := Lib.hid hT
  clear hT
  refine callsIn_of_wp_marks Tryd.func10 rfl trivial ?_ rfl
  simp only [Tryd.ntmps10, List.size_toArray, List.length_cons, List.length_nil, Nat.reduceAdd, Nat.reduceSub, Array.replicate_succ, Array.replicate_zero, List.push_toArray, List.append_toArray, List.nil_append, List.cons_append]
  gi_wp2_with (refine ⟨trivial, ?_⟩; gi_at_call 33; refine (callsIn_wide.2 (bytes_any s _)).mono ?_; rintro e w' ⟨rfl, rfl⟩)
  have c1 := cell_new_l (w.alloc (.cells #[.int .u64 (wd s 0), .int .u64 (wd s 1), .int .u64 (wd s 2), .int .u64 (wd s 3)] 25)) (.int .i64 n) 3
  have c2 := cell_new_l ((w.alloc (.cells #[.int .u64 (wd s 0), .int .u64 (wd s 1), .int .u64 (wd s 2), .int .u64 (wd s 3)] 25)).alloc (.cells #[.int .i64 n] 3)) (.int .u8 0) 5
  have c3 := cell_new_l (((w.alloc (.cells #[.int .u64 (wd s 0), .int .u64 (wd s 1), .int .u64 (wd s 2), .int .u64 (wd s 3)] 25)).alloc (.cells #[.int .i64 n] 3)).alloc (.cells #[.int .u8 0] 5)) (.bool false) 4
  have bN := Blk.new ((((w.alloc (.cells #[.int .u64 (wd s 0), .int .u64 (wd s 1), .int .u64 (wd s 2), .int .u64 (wd s 3)] 25)).alloc (.cells #[.int .i64 n] 3)).alloc (.cells #[.int .u8 0] 5)).alloc (.cells #[.bool false] 4)) #[.int .u64 (wd s 0), .int .u64 (wd s 1), .int .u64 (wd s 2), .int .u64 (wd s 3)] 55
  simp only [World.size_alloc] at c1 c2 c3 bN
  have hB0 : Below w.heap.size w (((((w.alloc (.cells #[.int .u64 (wd s 0), .int .u64 (wd s 1), .int .u64 (wd s 2), .int .u64 (wd s 3)] 25)).alloc (.cells #[.int .i64 n] 3)).alloc (.cells #[.int .u8 0] 5)).alloc (.cells #[.bool false] 4)).alloc (.cells #[.int .u64 (wd s 0), .int .u64 (wd s 1), .int .u64 (wd s 2), .int .u64 (wd s 3)] 55)) := ((below3 w _ _ _).alloc (by simp; omega) _).alloc (by simp; omega) _
  refine wpIn_rangeFunc_ownF rfl (by omega) (gf := 41) (lb := #[.pointer (some ⟨w.heap.size + 1 + 1 + 1 + 1, 0, none⟩)]) rfl trivial (enters_of Tryd.func41 (by kernel_rfl) rfl)
    (bytes_stops 2 (by omega) (w.heap.size + 1 + 1 + 1 + 1) w.heap.size hT0 s _ bN (HT.out.below hB0)) belowK_t (belowK_b (by simp; omega)) (Below.refl _ _) (fun _ => rfl)
    (fun pre W => ((∀ y ∈ vals pre, (y : Int) < n) ∧ W.cell? ⟨w.heap.size + 1, 0, none⟩ = some (.int .i64 n) ∧ (W.cell? ⟨w.heap.size + 1 + 1, 0, none⟩ = some (.int .u8 0) ∧ W.frozen? ⟨w.heap.size + 1 + 1, 0, none⟩ = false) ∧ W.cell? ⟨w.heap.size + 1 + 1 + 1, 0, none⟩ = some (.bool false) ∧ W.frozen? ⟨w.heap.size + 1 + 1 + 1, 0, none⟩ = false) ∧ Below w.heap.size w W)
    (fun c pre W => NxIx n w.heap.size c pre W ∧ Below w.heap.size w W)
    (OwnFrom.and (Own.from (fun s A B row hs hg hr => ⟨hs.1, cell_kept hs.2.1 hg hr, ⟨cell_kept hs.2.2.1.1 hg hr, (frozen_kept hs.2.2.1.1 hg hr).trans hs.2.2.1.2⟩, cell_kept hs.2.2.2.1 hg hr, (frozen_kept hs.2.2.2.1 hg hr).trans hs.2.2.2.2⟩) _) (ownFrom_below (Nat.le_refl _) (by simp; omega)))
    (fun c => OwnFrom.and (Own.from (own_nxIx n w.heap.size c) _) (ownFrom_below (Nat.le_refl _) (by simp; omega)))
    ⟨⟨by simp [vals], cell_alloc_l _ (cell_alloc_l _ (cell_alloc_l _ c1.1)), ⟨cell_alloc_l _ (cell_alloc_l _ c2.1), frozen_alloc_l _ (cell_alloc_l _ c2.1) (frozen_alloc_l _ c2.1 c2.2)⟩, cell_alloc_l _ c3.1, frozen_alloc_l _ c3.1 c3.2⟩, hB0⟩
    (fun x => { tmps := #[.agg #[.int .u64 (wd s 0), .int .u64 (wd s 1), .int .u64 (wd s 2), .int .u64 (wd s 3)], .int .i64 n, .pointer (some ⟨w.heap.size, 0, none⟩), .pointer (some ⟨w.heap.size + 1, 0, none⟩), .pointer (some ⟨w.heap.size + 1 + 1, 0, none⟩), .pointer (some ⟨w.heap.size + 1 + 1 + 1, 0, none⟩), .int .u8 (x.1 : Int), .agg #[.int .u64 (wd s 0), .int .u64 (wd s 1), .int .u64 (wd s 2), .int .u64 (wd s 3)], .func (.func 41) #[] #[.pointer (some ⟨w.heap.size + 1 + 1 + 1 + 1, 0, none⟩)], .int .u8 (x.1 : Int), undef, undef, undef, undef, undef], defers := [] }) ?assign ?body ?done ?stop
  case assign =>
    intro l x W K hK
    gi_wp2
    exact hK
  case body =>
    rintro l pre ⟨b, hb⟩ W ⟨⟨hp, hcn, ⟨hcb, hfb⟩, hco, hfo⟩, hB⟩ _
    have HP := Lib.hid hp
    have HV := Lib.hid (vals_snoc pre ⟨b, hb⟩)
    clear hp
    by_cases hx : n ≤ (b : Int)
    · gi_wp2
      refine ⟨KeepsOthers.trans (KeepsOthers.setCell _ _ _) (KeepsOthers.setCell _ _ _), ⟨rfl, vals pre, b, HV.out, hx, HP.out, ?_, ?_⟩, (hB.setCell (p := ⟨w.heap.size + 1 + 1, 0, none⟩) (by simp; omega) _).setCell (p := ⟨w.heap.size + 1 + 1 + 1, 0, none⟩) (by simp; omega) _⟩
      · go_simp
      · go_simp
    · gi_wp2
      exact ⟨KeepsOthers.refl _, Below.refl _ _, ⟨fun y hy => by rw [HV.out] at hy; exact (List.mem_append.1 hy).elim (HP.out y) (fun e => by simp at e; subst e; omega), hcn, ⟨hcb, hfb⟩, hco, hfo⟩, hB⟩
  case done =>
    rintro D ys W hD hys ⟨⟨hp, _, ⟨hcb, hfb⟩, hco, hfo⟩, hB⟩ hK
    rw [hys] at hp
    have HN := Lib.hid (next_none hp)
    clear hp hys
    gi_wp2
    have hk2 := KeepsOthers.trans (KeepsOthers.setCell W ⟨w.heap.size + 1 + 1, 0, none⟩ (.int .u8 0)) (KeepsOthers.setCell (W.setCell ⟨w.heap.size + 1 + 1, 0, none⟩ (.int .u8 0)) ⟨w.heap.size + 1 + 1 + 1, 0, none⟩ (.bool false))
    have hK' := hk2.same D _ hK rfl
    have g5 : ((W.setCell ⟨w.heap.size + 1 + 1, 0, none⟩ (.int .u8 0)).setCell ⟨w.heap.size + 1 + 1 + 1, 0, none⟩ (.bool false)).cell? ⟨w.heap.size + 1 + 1, 0, none⟩ = some (.int .u8 0) := by go_simp
    have g6 : ((W.setCell ⟨w.heap.size + 1 + 1, 0, none⟩ (.int .u8 0)).setCell ⟨w.heap.size + 1 + 1 + 1, 0, none⟩ (.bool false)).cell? ⟨w.heap.size + 1 + 1 + 1, 0, none⟩ = some (.bool false) := by go_simp
    refine ⟨by simp, .inl ⟨_, _, rfl, run_takeDeferred hK', ?_⟩⟩
    have hc5 := cell_kept g5 (grownBy_putObj' _ D (.deferred none)) (fun r e => by cases e; exact ⟨_, hK', rfl⟩)
    have hc6 := cell_kept g6 (grownBy_putObj' _ D (.deferred none)) (fun r e => by cases e; exact ⟨_, hK', rfl⟩)
    refine ⟨.tuple #[.int .u8 0, .bool false], ?_, by rw [nextB, nextOk, HN.out]; rfl, ((hB.setCell (p := ⟨w.heap.size + 1 + 1, 0, none⟩) (by simp; omega) _).setCell (p := ⟨w.heap.size + 1 + 1 + 1, 0, none⟩) (by simp; omega) _).trans (belowK_b (w := w) (Nat.le_refl _) _ D _ _ (by simp at hD; omega) hK' rfl rfl)⟩
    simp [results, Tryd.results10, go_sem, hc5, hc6]
  case stop =>
    rintro D c pre W hD ⟨q, hq, hpre⟩ ⟨⟨rfl, l, x, hl, hx, hy, hcb, hco⟩, hB⟩ hK
    have HN := Lib.hid (next_some hq (hpre.symm.trans hl) hx hy)
    clear hl hpre hx hy
    gi_wp2
    refine ⟨by simp, .inl ⟨_, _, rfl, run_takeDeferred hK, ?_⟩⟩
    have hc5 := cell_kept hcb (grownBy_putObj' _ D (.deferred none)) (fun r e => by cases e; exact ⟨_, hK, rfl⟩)
    have hc6 := cell_kept hco (grownBy_putObj' _ D (.deferred none)) (fun r e => by cases e; exact ⟨_, hK, rfl⟩)
    refine ⟨.tuple #[.int .u8 (x : Int), .bool true], ?_, by rw [nextB, nextOk, HN.out]; rfl, hB.trans (belowK_b (w := w) (Nat.le_refl _) W D _ _ (by simp at hD; omega) hK rfl rfl)⟩
    simp [results, Tryd.results10, go_sem, hc5, hc6]
end Go.Proofs.YtcnikeeapillnaaDoor

/- Layer 3: the operations of the law SpanGaps that make a row with one span more. -/
import Derived.Test.YtgploogflhfolaaLb
namespace Go.Proofs.Ytgploogflhfolaa
open Go Go.Proofs Go.RowKit
section
variable {a : Act} {w : World} {o : Oper} {Φ : Value → World → Prop}
theorem g_build32 (ho : o.op = .buildSlice 32 0 #[]) (h : Φ (.slice (some ⟨w.heap.size, 0, none⟩) 0 0) (w.alloc (.cells #[] 23))) :
    Gives Try.prog (fun v w' => Bel w w' ∧ Φ v w') ((execOp a.eval o).run Try.prog w) := by
  refine .value (v := .slice (some ⟨w.heap.size, 0, none⟩) 0 0) (w := w.alloc (.cells #[] 23)) ?_ ⟨B1 _ _, h⟩
  generalize a.eval = ρ at *
  simp only [execOp, ho, List.map_toArray, List.map_nil]
  go_simp
theorem g_one32 {x : Operand} {p q : Int} (ho : o.op = .buildSlice 32 1 #[(0, x)]) (hx : a.eval x = .agg #[.int .i64 p, .int .i64 q]) (h : Φ (.slice (some ⟨w.heap.size, 0, none⟩) 1 1) (w.alloc (.cells #[.int .i64 p, .int .i64 q] 23))) :
    Gives Try.prog (fun v w' => Bel w w' ∧ Φ v w') ((execOp a.eval o).run Try.prog w) := by
  refine .value (v := .slice (some ⟨w.heap.size, 0, none⟩) 1 1) (w := w.alloc (.cells #[.int .i64 p, .int .i64 q] 23)) ?_ ⟨B1 _ _, h⟩
  generalize a.eval = ρ at *
  simp only [execOp, ho, hx, List.map_toArray, List.map_cons, List.map_nil]
  go_simp
/-- append: what is run. -/
theorem g_append {R : World → World → Prop} {x y : Operand} {vx vy v : Value} {w' : World} (ho : o.op = .call { callee := .builtin .append, args := #[x, y], argTypes := #[32, 32] }) (hx : a.eval x = vx) (hy : a.eval y = vy)
    (hr : (Builtin.append_ #[32, 32] o.type #[vx, vy]).run Try.prog w = .ok v w') (hR : R w w') (h : Φ v w') :
    Gives Try.prog (fun v w' => R w w' ∧ Φ v w') ((execOp a.eval o).run Try.prog w) := by
  refine .value (v := v) (w := w') ?_ ⟨hR, h⟩
  simp only [execOp, ho, resolve, invoke, builtin, Sem.run_bind, Sem.run_pure, Result.andThen_ok, List.map_toArray, List.map_cons, List.map_nil, hx, hy, hr]
end
theorem scells_one' {l : List (Int × Int)} : ∀ u ∈ scells l, u.oneCell' = true := by
  intro u hu
  obtain ⟨x, _, hx⟩ := List.mem_flatMap.1 hu
  simp [encS] at hx
  rcases hx with rfl | rfl <;> rfl
theorem Spn.news {w : World} {b o : Nat} {l : List (Int × Int)} (hc : ∀ i, i < l.length → w.cell? ⟨b, o + i * 2, none⟩ = some (.int .i64 (l.getD i (0, 0)).1) ∧ w.cell? ⟨b, o + i * 2 + 1, none⟩ = some (.int .i64 (l.getD i (0, 0)).2)) :
    ∀ j u, (scells l)[j]? = some u → w.cell? ((⟨b, o, none⟩ : Addr).add j) = some u := by
  intro j u hu
  have hj : j < l.length * 2 := by rw [← scells_length]; exact (List.getElem?_eq_some_iff.1 hu).1
  have h1 := hc (j / 2) (by omega)
  have h2 := scells_at (xs := l) (i := j / 2) (by omega)
  rw [Addr.add_lit, ← hu]
  rcases Nat.mod_two_eq_zero_or_one j with h | h
  · rw [show j / 2 * 2 = j by omega] at h1 h2
    rw [h1.1, h2.1]
  · rw [show j / 2 * 2 + 1 = j by omega] at h2
    rw [show o + j / 2 * 2 + 1 = o + j by omega] at h1
    rw [h1.2, h2.2]
/-- append of spans onto an empty row of the call's own. -/
theorem run_append_first (w : World) (B g : Nat) (ty : TypeId) (A : Option Addr) (l : List (Int × Int)) (c : Nat) (hnc : A = none → c = 0) (hl : l.length ≤ 65536) (hB : B ≤ w.heap.size) (hown : w.ownsRow B 23 2 (.slice (some ⟨g, 0, none⟩) 0 0) 0 []) (h : Spn w A l) :
    ∃ g' cap' w', (Builtin.append_ #[32, 32] ty #[.slice (some ⟨g, 0, none⟩) 0 0, .slice A l.length c]).run Try.prog w = .ok (.slice (some ⟨g', 0, none⟩) l.length cap') w' ∧ w'.ownsRow B 23 2 (.slice (some ⟨g', 0, none⟩) l.length cap') l.length (scells l) ∧ Below w.heap.size w w' := by
  obtain ⟨i0, hi, hz0, hz1, hz2⟩ := info_parts Try.info23
  cases A with
  | none =>
    have h0 : l = [] := by
      cases l with
      | nil => rfl
      | cons y l => obtain ⟨b, o, e, _⟩ := h (by simp); cases e
    subst h0
    obtain rfl := hnc rfl
    exact ⟨g, 0, w, run_append_owned_none (P := Try.prog) (w := w) B 32 ty 23 i0 2 Try.underlying32 hi _ 0 [] hown, hown, Below.refl _ _⟩
  | some ad =>
    have hnews : ∀ j u, (scells l)[j]? = some u → w.cell? (ad.add j) = some u := by
      intro j u hu
      have hj := (List.getElem?_eq_some_iff.1 hu).1
      rw [scells_length] at hj
      obtain ⟨b, o, e, _, hc⟩ := h (by omega)
      cases e
      exact Spn.news hc j u hu
    obtain ⟨g', cap', w', h1, h2, _, h4⟩ := run_append_frame (P := Try.prog) w B 32 ty 23 i0 (.agg #[.int .i64 0, .int .i64 0]) 2 16 Try.underlying32 hi hz0 hz1 hz2 rfl (by decide) g 0 0 [] hown ad l.length c (scells l) (scells_length l) hnews scells_one' (by unfold maxLen; omega) (by omega) hB
    rw [Nat.zero_add] at h1 h2
    exact ⟨g', cap', w', h1, by simpa using h2, h4 rfl⟩
/-- The facts of the region, by the operations' places. -/
def MoreF (B n : Nat) (l : List (Int × Int)) (x : Int × Int) : Nat → Value → World → Prop
  | 1, v, W => ∃ g, v = .slice (some ⟨g, 0, none⟩) 0 0 ∧ W.ownsRow B 23 2 v 0 []
  | 3, v, W => ∃ g cap, v = .slice (some ⟨g, 0, none⟩) n cap ∧ W.ownsRow B 23 2 v n (scells l)
  | 5, v, W => ∃ g, v = .slice (some ⟨g, 0, none⟩) 1 1 ∧ W.cell? ⟨g, 0, none⟩ = some (.int .i64 x.1) ∧ W.cell? ⟨g, 1, none⟩ = some (.int .i64 x.2)
  | 6, v, W => ∃ g cap, v = .slice (some ⟨g, 0, none⟩) (n + 1) cap ∧ W.ownsRow B 23 2 v (n + 1) (scells (l ++ [x]))
  | _, _, _ => True
theorem MoreF.grows (B n : Nat) (l : List (Int × Int)) (x : Int × Int) : Grows (MoreF B n l x) := by
  intro i v w w' hb h
  match i, h with
  | 1, ⟨g, e, h⟩ => exact ⟨g, e, own_below h hb⟩
  | 3, ⟨g, cap, e, h⟩ => exact ⟨g, cap, e, own_below h hb⟩
  | 5, ⟨g, e, h1, h2⟩ => exact ⟨g, e, (hb.cell (p := ⟨g, 0, none⟩) (World.block_lt_of_cell? _ _ h1)).trans h1, (hb.cell (p := ⟨g, 1, none⟩) (World.block_lt_of_cell? _ _ h2)).trans h2⟩
  | 6, ⟨g, cap, e, h⟩ => exact ⟨g, cap, e, own_below h hb⟩
  | 0, _ => trivial
  | 2, _ => trivial
  | 4, _ => trivial
  | (j + 7), _ => trivial
/-- append of one span more. -/
theorem run_append_more (w : World) (B g cap q : Nat) (ty : TypeId) (l : List (Int × Int)) (x : Int × Int) (hl : l.length ≤ 65536) (hB : B ≤ w.heap.size) (hown : w.ownsRow B 23 2 (.slice (some ⟨g, 0, none⟩) l.length cap) l.length (scells l))
    (h0 : w.cell? ⟨q, 0, none⟩ = some (.int .i64 x.1)) (h1 : w.cell? ⟨q, 1, none⟩ = some (.int .i64 x.2)) :
    ∃ v w', (Builtin.append_ #[32, 32] ty #[.slice (some ⟨g, 0, none⟩) l.length cap, .slice (some ⟨q, 0, none⟩) 1 1]).run Try.prog w = .ok v w' ∧ MoreF B l.length l x 6 v w' ∧ Keeps B (MoreF B l.length l x) w w' := by
  obtain ⟨i0, hi, hz0, hz1, hz2⟩ := info_parts Try.info23
  obtain ⟨g', cap', w', r1, r2, r3, _⟩ := run_append_frame (P := Try.prog) w B 32 ty 23 i0 (.agg #[.int .i64 0, .int .i64 0]) 2 16 Try.underlying32 hi hz0 hz1 hz2 rfl (by decide) g l.length cap (scells l) hown ⟨q, 0, none⟩ 1 1 [.int .i64 x.1, .int .i64 x.2] rfl
    (fun j u hu => by
      rw [Addr.add_lit, Nat.zero_add]
      match j, hu with
      | 0, hu => simp at hu; subst hu; exact h0
      | 1, hu => simp at hu; subst hu; exact h1
      | (j + 2), hu => simp at hu) (by simp [Value.oneCell']) (by unfold maxLen; omega) (by omega) hB
  have hgB := (hown.lt g rfl).1
  have hcur : ∃ cur, w.heap[g]? = some (.cells cur 23 (0, 0)) := by
    rcases hown.2 with ⟨e, _⟩ | ⟨g2, cap2, cur, e, _, hg, _⟩
    · cases e
    · cases e; exact ⟨cur, hg⟩
  have hsc : scells (l ++ [x]) = scells l ++ [.int .i64 x.1, .int .i64 x.2] := by rw [scells_app]; rfl
  refine ⟨_, w', r1, ⟨g', cap', rfl, by rw [hsc]; exact r2⟩, (Below.refl B w).grown r3.1 hB (fun k e => by cases e; exact hgB), fun i v h => ?_⟩
  match i, h with
  | 1, ⟨k, e, h⟩ => exact ⟨k, e, r3.own h (fun j _ _ hj => by omega)⟩
  | 3, ⟨k, cp, e, h⟩ => exact ⟨k, cp, e, r3.own h (fun j a _ hj => by omega)⟩
  | 5, ⟨k, e, c0, c1⟩ =>
    refine ⟨k, e, r3.cell hcur c0 (fun a _ => ?_), r3.cell hcur c1 (fun a _ => ?_)⟩
    · have : l.length * 2 = 0 := by omega
      rw [this]; rfl
    · have : l.length * 2 = 0 := by omega
      rw [this]; rfl
  | 6, ⟨k, cp, e, h⟩ =>
    refine ⟨k, cp, e, r3.own h (fun j a _ hj => ?_)⟩
    rw [hsc, List.getElem?_append_right (by rw [scells_length]; exact a), scells_length]
  | 0, _ => trivial
  | 2, _ => trivial
  | 4, _ => trivial
  | (j + 7), _ => trivial
end Go.Proofs.Ytgploogflhfolaa

/- Texts in memory; a text onto a row of the call's own. -/
import Derived.Test.YtgmdfmckkfefgaaDoorWa
import Derived.Laws.AppendOwnNone
import Derived.Laws.MakeOwn
namespace Go.Proofs.YtgmdfmckkfefgaaDoor
open Go Go.RowKit
/-- A text in memory. -/
def Txt (w : World) (A : Option Addr) (l : List Nat) : Prop :=
  (∀ x ∈ l, x < 256) ∧ (0 < l.length → ∃ b o, A = some ⟨b, o, none⟩ ∧ b < w.heap.size ∧ ∀ i, i < l.length → w.cell? ⟨b, o + i, none⟩ = some (.int .u8 (l.getD i 0 : Nat)))
theorem Txt.below {w w' : World} {A : Option Addr} {l : List Nat} (h : Txt w A l) (hb : Below w.heap.size w w') : Txt w' A l := by
  refine ⟨h.1, fun h0 => ?_⟩
  obtain ⟨b, o, e, hl, hc⟩ := h.2 h0
  exact ⟨b, o, e, Nat.lt_of_lt_of_le hl hb.size, fun i hi => (hb.cell (p := ⟨b, o + i, none⟩) hl).trans (hc i hi)⟩

theorem cell_one_new (w : World) (x : Value) (t : TypeId) : ∀ j u, [x][j]? = some u → (w.alloc (.cells #[x] t)).cell? ((⟨w.heap.size, 0, none⟩ : Addr).add j) = some u := by
  intro j u h
  match j, h with
  | 0, h =>
    simp only [List.getElem?_cons_zero, Option.some.injEq] at h
    subst h
    rw [Addr.add_lit, (Blk.new w _ _).cell]
    rfl
def natb (x : Nat) : Value := .int .u8 (x : Int)
theorem natb_one (l : List Nat) : ∀ u ∈ l.map natb, u.oneCell' = true := by
  intro u hu
  obtain ⟨x, _, rfl⟩ := List.mem_map.1 hu
  rfl
theorem Tryd.info5 : (Tryd.prog.info? 5).map (fun i => (i.zero, i.size, i.bytes)) = some (some (.int .u8 0), 1, 1) := by kernel_rfl
theorem getD_natb {l : List Nat} {i : Nat} (h : i < l.length) : (l.map natb)[i]? = some (.int .u8 (l.getD i 0 : Nat)) := by
  simp [natb, List.getElem?_map, List.getElem?_eq_getElem h, List.getD]

/-- 'append(own, text...)', the text nil or not. -/
theorem wpList_append_txt (w : World) {ops : Array Oper} {rest : List Oper} {o : Oper} {a : Act} {Q : Exit → Act → World → Prop}
    (hg : o.guard = none) (s x : Operand) (hop : o.op = Op.call { callee := Callee.builtin Builtin.append, args := #[s, x], argTypes := #[60, 60] })
    (base : Nat) (v : Value) (xs : List Nat) (hs : a.eval s = v) (hown : w.ownsRow base 5 1 v xs.length (xs.map natb)) (A : Option Addr) (l : List Nat) (c : Nat) (hx : a.eval x = .slice A l.length c) (ht : Txt w A l) (hnc : A = none → c = 0)
    (hl : xs.length + l.length ≤ 65536) (b3 : base ≤ w.heap.size)
    (hK : ∀ v' w', w'.ownsRow base 5 1 v' (xs ++ l).length ((xs ++ l).map natb) → w.grownBy w' v.ownBlock → wpList Tryd.prog ops Q rest (a.put o.dst v') w') :
    wpList Tryd.prog ops Q (o :: rest) a w := by
  obtain ⟨i0, hi, hz0, hz1, hz2⟩ := info_parts Tryd.info5
  cases A with
  | none =>
    have h0 : l = [] := by
      cases l with
      | nil => rfl
      | cons y l => obtain ⟨b, o, e, _⟩ := ht.2 (by simp); cases e
    subst h0
    obtain rfl := hnc rfl
    refine wpList_append_own_none hg s x 60 hop base 5 i0 1 Tryd.underlying60 hi v xs.length _ hs hown hx (hK v w (by simpa using hown) (World.grownBy.refl _ _))
  | some ad =>
    refine wpList_append_own w hg s x 60 hop base 5 i0 (.int .u8 0) 1 1 Tryd.underlying60 hi hz0 hz1 hz2 rfl (by decide) v xs.length _ hs hown ad l.length c (l.map natb) hx (by simp) (fun j u hu => ?_) (natb_one l) (by unfold maxLen; omega) (by omega) b3
      (fun v' w' a b _ => hK v' w' (by rw [List.length_append, List.map_append]; exact a) b)
    have hj : j < l.length := by simpa using (List.getElem?_eq_some_iff.1 hu).1
    obtain ⟨tb, to, e, _, hc⟩ := ht.2 (by omega)
    cases e
    rw [Addr.add_lit, hc j hj, ← getD_natb hj, hu]
theorem txt_of_own {w : World} {base : Nat} {xs : List Nat} {v : Value} (h : w.ownsRow base 5 1 v xs.length (xs.map natb)) (hx : ∀ x ∈ xs, x < 256) : ∃ A c, v = .slice A xs.length c ∧ Txt w A xs ∧ (A = none → c = 0) := by
  rcases h.2 with ⟨rfl, hn⟩ | ⟨g, cap, cur, rfl, hb, hh, _⟩
  · exact ⟨none, 0, by rw [hn], ⟨hx, fun h0 => by omega⟩, fun _ => rfl⟩
  · refine ⟨_, cap, rfl, ⟨hx, fun _ => ⟨g, 0, rfl, (Array.getElem?_eq_some_iff.1 hh).1, fun i hi => ?_⟩⟩, fun h => by cases h⟩
    rw [Nat.zero_add, h.cellAt i (by omega), getD_natb hi]
theorem Txt.at_ {w : World} {A : Option Addr} {l : List Nat} (h : Txt w A l) {i : Nat} (hi : i < l.length) : ∃ b o, A = some ⟨b, o, none⟩ ∧ w.cell? ⟨b, o + i, none⟩ = some (.int .u8 (l.getD i 0 : Nat)) := by
  obtain ⟨b, o, e, _, hc⟩ := h.2 (by omega)
  exact ⟨b, o, e, hc i hi⟩

end Go.Proofs.YtgmdfmckkfefgaaDoor

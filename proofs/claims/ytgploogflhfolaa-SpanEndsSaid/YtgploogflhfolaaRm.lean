/- append onto a row of the call's own, within a region that draws its order: what stays. Nothing here speaks of one program. -/
import Derived.Test.YtgploogflhfolaaRp
import Derived.Laws.OwnMore
import Derived.Laws.AppendOwnNone
import Derived.Maps.AppendAt
namespace Go.Proofs.Ytgploogflhfolaa
open Go Go.RowKit
/-- Block g may be written from cell lo on up to hi, with news; new blocks may come; nothing else. -/
def Frame (w w' : World) (g : Nat) (e : TypeId) (lo hi : Nat) (news : List Value) : Prop :=
  w.grownBy w' (some g) ∧ ∀ cur, w.heap[g]? = some (.cells cur e (0, 0)) → ∃ cur', w'.heap[g]? = some (.cells cur' e (0, 0)) ∧ cur'.size = cur.size ∧ ∀ j u, cur[j]? = some u → (lo ≤ j → j < hi → news[j - lo]? = some u) → cur'[j]? = some u
theorem Frame.same {w w' : World} {g : Nat} {e : TypeId} {lo hi : Nat} {news : List Value} (h : Below w.heap.size w w') : Frame w w' g e lo hi news :=
  ⟨⟨h.os, h.tape, h.output, h.size, fun k hk _ => h.block k hk⟩, fun cur hc => ⟨cur, (h.block g (Array.getElem?_eq_some_iff.1 hc).1).trans hc, rfl, fun _ _ hj _ => hj⟩⟩
/-- What a row of the call's own reads stays. -/
theorem Frame.own {w w' : World} {g : Nat} {e : TypeId} {lo hi : Nat} {news : List Value} (h : Frame w w' g e lo hi news) {base size k : Nat} {v : Value} {ys : List Value} (ho : w.ownsRow base e size v k ys)
    (hy : ∀ j, lo ≤ j → j < hi → j < k * size → news[j - lo]? = ys[j]?) : w'.ownsRow base e size v k ys := by
  obtain ⟨h1, h2⟩ := ho
  refine ⟨h1, ?_⟩
  rcases h2 with h2 | ⟨q, cap, cur, rfl, hb, hq, hk, hc, hs, ht⟩
  · exact .inl h2
  · refine .inr ?_
    by_cases e : q = g
    · subst e
      obtain ⟨cur', hq', hs', hj⟩ := h.2 cur hq
      refine ⟨q, cap, cur', rfl, hb, hq', hk, hc, hs'.trans hs, ?_⟩
      rw [← ht]
      apply List.ext_getElem?
      intro j
      rw [List.getElem?_take, List.getElem?_take]
      split
      · rename_i hlt
        have hjs : j < cur.size := by rw [hs]; exact Nat.lt_of_lt_of_le hlt (Nat.mul_le_mul_right _ hk)
        have hcj : cur[j]? = some cur[j] := Array.getElem?_eq_getElem hjs
        have hyj : ys[j]? = some cur[j] := by rw [← ht, List.getElem?_take, if_pos hlt]; simp
        have := hj j _ hcj (fun a b => by rw [hy j a b hlt, hyj])
        simp only [Array.getElem?_toList]
        rw [this, hcj]
      · rfl
    · exact ⟨q, cap, cur, rfl, hb, (h.1.block q (Array.getElem?_eq_some_iff.1 hq).1 (fun e' => e (by cases e'; rfl))).trans hq, hk, hc, hs, ht⟩
/-- A cell stays. -/
theorem Frame.cell {w w' : World} {g : Nat} {e : TypeId} {lo hi : Nat} {news : List Value} (h : Frame w w' g e lo hi news) (hg : ∃ cur, w.heap[g]? = some (.cells cur e (0, 0))) {k j : Nat} {u : Value} (hc : w.cell? ⟨k, j, none⟩ = some u)
    (hy : lo ≤ j → j < hi → news[j - lo]? = some u) : w'.cell? ⟨k, j, none⟩ = some u := by
  by_cases e : k = g
  · subst e
    obtain ⟨cur, hg⟩ := hg
    obtain ⟨cur', hq', _, hj⟩ := h.2 cur hg
    have h1 : cur[j]? = some u := by simpa [World.cell?, hg] using hc
    have := hj j u h1 hy
    simpa [World.cell?, hq'] using this
  · exact (World.cell?_of_block (w := w) (a := ⟨k, j, none⟩) (h.1.block k (World.block_lt_of_cell? _ _ hc) (fun e' => e (by cases e'; rfl)))).trans hc

theorem run_append_frame {P : Program} (w : World) (base : Nat) (t ty e : TypeId) (i : TypeInfo) (z : Value) (size bytes : Nat) (ht : P.underlying t = some (.slice e)) (hi : P.info? e = some i) (hz : i.zero = some z)
    (hsize : i.size = size) (hby : i.bytes = bytes) (hzs : z.cells.size = size) (hsz : 0 < size)
    (g n cap : Nat) (xs : List Value) (hown : w.ownsRow base e size (.slice (some ⟨g, 0, none⟩) n cap) n xs)
    (a : Addr) (m c : Nat) (news : List Value) (hl : news.length = m * size) (hnews : ∀ j u, news[j]? = some u → w.cell? (a.add j) = some u) (h1 : ∀ u ∈ news, u.oneCell' = true)
    (h63 : n + m ≤ maxLen) (hbytes : (n + m) * bytes ≤ 140737488355328) (hbase : base ≤ w.heap.size) :
    ∃ g' cap' w', (Builtin.append_ #[t, t] ty #[.slice (some ⟨g, 0, none⟩) n cap, .slice (some a) m c]).run P w = .ok (.slice (some ⟨g', 0, none⟩) (n + m) cap') w' ∧ w'.ownsRow base e size (.slice (some ⟨g', 0, none⟩) (n + m) cap') (n + m) (xs ++ news) ∧
      Frame w w' g e (n * size) ((n + m) * size) news ∧ (cap = 0 → Below w.heap.size w w') := by
  obtain ⟨v', w', hrun, hown', hg, _⟩ := run_append_own (P := P) w base t ty e i z size bytes ht hi hz hsize hby hzs hsz _ n xs hown a m c news hl hnews h1 h63 hbytes hbase
  subst hsize hby
  rcases hown.2 with ⟨h0, _⟩ | ⟨g1, cap1, cur, e1, hbg, hgh, hnc, hcm, hcs, htake⟩
  · cases h0
  · cases e1
    by_cases hroom : n + m ≤ cap
    · have hfit : n * i.size + news.length ≤ cur.size := by rw [hl, hcs, ← Nat.add_mul]; exact Nat.mul_le_mul_right _ hroom
      have hr := run_append_room (P := P) w t ty e i ht hi g n cap cur hgh a m c news hl hnews h1 hroom hfit
      rw [hr] at hrun
      cases hrun
      have key : ∀ j u, cur[j]? = some u → (n * i.size ≤ j → j < (n + m) * i.size → news[j - n * i.size]? = some u) → (cur.toList.take (n * i.size) ++ news ++ cur.toList.drop (n * i.size + news.length)).toArray[j]? = some u := by
        intro j u hj hn
        have hjs := (Array.getElem?_eq_some_iff.1 hj).1
        have hlt : (cur.toList.take (n * i.size)).length = n * i.size := by simp; omega
        simp only [List.getElem?_toArray]
        by_cases q1 : j < n * i.size
        · rw [List.append_assoc, List.getElem?_append_left (by omega), List.getElem?_take, if_pos q1]
          simpa using hj
        · by_cases q2 : j < n * i.size + news.length
          · rw [List.getElem?_append_left (by simp; omega), List.getElem?_append_right (by omega), hlt]
            exact hn (by omega) (by rw [Nat.add_mul, ← hl]; exact q2)
          · rw [List.getElem?_append_right (by simp; omega), List.getElem?_drop]
            have : n * i.size + news.length + (j - (cur.toList.take (n * i.size) ++ news).length) = j := by simp; omega
            rw [this]
            simpa using hj
      refine ⟨_, _, _, hr, hown', ⟨hg, fun cur2 hc2 => ?_⟩, fun h0 => ?_⟩
      · rw [hgh] at hc2
        cases hc2
        refine ⟨_, setRow_heap w g cur _ e _ hgh, ?_, key⟩
        simp only [List.size_toArray, List.length_append, List.length_take, List.length_drop, Array.length_toList]
        omega
      · subst h0
        have hz : cur.size = 0 := by simpa using hcs
        have hcur : cur = #[] := Array.eq_empty_of_size_eq_zero hz
        refine ⟨hg.os, hg.tape, hg.output, hg.size, fun k hk => ?_⟩
        by_cases ek : k = g
        · subst ek
          rw [setRow_heap w k cur _ e _ hgh, hgh]
          have hn0 : news = [] := List.eq_nil_of_length_eq_zero (by rw [hl, show m = 0 by omega, Nat.zero_mul])
          subst hcur hn0
          simp
        · exact hg.block k hk (fun e' => ek (by cases e'; rfl))
    · have holds : ∀ j u, xs[j]? = some u → w.cell? ((⟨g, 0, none⟩ : Addr).add j) = some u := hown.cells (g := g) rfl
      have hr := run_append_grow (P := P) w t ty e i z ht hi hz ⟨g, 0, none⟩ n cap xs hown.1 holds a m c news hl hnews (by omega) (by simp only [maxLen] at h63; omega) (growslice_fits (by omega) hbytes)
      rw [hr] at hrun
      cases hrun
      have hB : ∀ o : Obj, Below w.heap.size w (w.drew.alloc o) := fun o => ⟨rfl, rfl, rfl, by simp, fun k hk => heap_alloc_old w.drew _ k hk⟩
      exact ⟨_, _, _, hr, hown', Frame.same (hB _), fun _ => hB _⟩

/-- A relation under which some facts stay. -/
def Keeps (B : Nat) (F : Nat → Value → World → Prop) (w w' : World) : Prop := Below B w w' ∧ ∀ i v, F i v w → F i v w'
/-- Facts that stay as the world grows. -/
def Grows (F : Nat → Value → World → Prop) : Prop := ∀ i v w w', Below w.heap.size w w' → F i v w → F i v w'
theorem Keeps.of_below {B : Nat} {F : Nat → Value → World → Prop} (hF : Grows F) {w w' : World} (hB : B ≤ w.heap.size) (h : Below w.heap.size w w') : Keeps B F w w' := ⟨h.mono hB, fun i v => hF i v w w' h⟩
theorem Keeps.grow {B : Nat} {F : Nat → Value → World → Prop} (hF : Grows F) : Grow (Keeps B F) :=
  ⟨fun _ => ⟨Below.refl _ _, fun _ _ h => h⟩, fun _ _ _ h k => ⟨h.1.trans k.1, fun i v hi => k.2 i v (h.2 i v hi)⟩, fun _ => ⟨⟨rfl, rfl, rfl, Nat.le_refl _, fun _ _ => rfl⟩, fun i v => hF i v _ _ ⟨rfl, rfl, rfl, Nat.le_refl _, fun _ _ => rfl⟩⟩⟩
def Keeps.stay {B : Nat} {F : Nat → Value → World → Prop} (i : Nat) : Stay (Keeps B F) := ⟨F i, fun v _ _ h => h.2 i v⟩
end Go.Proofs.Ytgploogflhfolaa

/- A grammar that comes in. -/
import Derived.Test.YtfdfcagkfnckmaaPa
namespace Go.Proofs.Ytfdfcagkfnckmaa
open Go Go.ChangeShapes Go.WideShapes Go.ChangeAt Go.RowKit Go.Joins Go.Deep
theorem list2 {α : Type} (l : List α) (h : l.length = 2) : ∃ a b, l = [a, b] := by
  match l, h with
  | [a, b], _ => exact ⟨a, b, rfl⟩
set_option maxRecDepth 100000 in
theorem open_rule {H : Type} {enc : TypeId × Value → H} {W : World} {fuel : Nat} {cs : List Value} {x : DataW H × List MemPlace} (h : DataW.trod enc Try.prog W 0 (fun _ => true) true fuel 45 cs = some x) :
    ∃ r : Rl, cs = [.string r.name, .int .i64 r.body] ∧ r.name.size ≤ 9223372036854775807 := by
  obtain ⟨xs, n, _, rfl, hl, hlen, hf⟩ := DataW.trod_struct Try.underlying45 h
  rw [cells45] at hl
  obtain ⟨v0, v1, rfl⟩ := list2 cs hl
  obtain ⟨y0, y1, rfl⟩ := list2 xs hlen
  have g0 := hf 0 _ rfl
  have g1 := hf 1 _ rfl
  have k9 : Try.prog.cellsOf 9 = 1 := by kernel_rfl
  simp only [k9, cells3, List.drop_zero, List.drop_succ_cons, List.take_succ_cons, List.take_zero, List.getElem?_cons_zero, List.getElem?_cons_succ] at g0 g1
  obtain ⟨s, e0, _, hs⟩ := DataW.trod_string Try.underlying9 g0
  obtain ⟨a1, e1, _, _⟩ := DataW.trod_int Try.underlying3 g1
  obtain rfl := (List.cons.inj e0).1
  obtain rfl := (List.cons.inj e1).1
  exact ⟨⟨s, a1⟩, rfl, by unfold maxLen at hs; exact hs⟩
set_option maxRecDepth 100000 in
theorem open_rules {H : Type} {enc : TypeId × Value → H} {W : World} {fuel : Nat} {u : Value} {x : DataW H × List MemPlace} (h : DataW.trod enc Try.prog W 0 (fun _ => true) true fuel 22 [u] = some x) (hw : ∀ n ∈ x.1.weights Try.prog 22, n ≤ reachBytes) :
    ∃ (A : Option Addr) (l : List Rl) (c : Nat), u = .slice A l.length c ∧ (A = none → c = 0) ∧ l.length ≤ 140737488351232 ∧ Rules W A l ∧ ∀ r ∈ l, r.name.size ≤ 9223372036854775807 := by
  rcases Go.Deep.open_slice Try.underlying22 h with ⟨hcs, hx⟩ | ⟨a, len, cap, m, n, D, Pl, hcs, _, hl, hm, hmm, hx, hel⟩
  · simp at hcs
    subst hcs
    exact ⟨none, [], 0, rfl, fun _ => rfl, by simp, fun h => by simp at h, by simp⟩
  · simp at hcs
    subst hcs
    simp only [if_true] at hmm
    subst hmm
    rw [cells45] at hel
    subst hx
    have hlen8 : len ≤ 140737488351232 := by
      have h1 := hw ((((List.range len).map D).length + ((List.range (m - len)).map fun j => D (len + j)).length) * Try.prog.bytesOf 45) (by
        simp only [DataW.weights, Try.underlying22, List.mem_cons]
        exact .inl (by first | trivial | rfl))
      rw [bytes45] at h1
      simp at h1
      unfold reachBytes at h1
      omega
    have key : ∀ i, i < len → ∃ r : Rl, r.name.size ≤ 9223372036854775807 ∧ ∀ j, j < 2 → W.cell? ((a.add (i * 2)).add j) = [Value.string r.name, .int .i64 r.body][j]? := by
      intro i hi
      obtain ⟨cs', h1, h2⟩ := hel i (by omega)
      obtain ⟨r, rfl, hin⟩ := open_rule h2
      obtain ⟨_, hl2, hcell⟩ := World.cells?_some h1
      refine ⟨r, hin, fun j hj => ?_⟩
      rw [hcell j (by omega)]
    obtain ⟨f, hfk⟩ := Go.Deep.choose_lt key
    have hlen : ((List.range len).map f).length = len := by simp
    have hget : ∀ i, i < len → ((List.range len).map f).getD i Rl.zero = f i := fun i hi => by simp [List.getD, hi]
    refine ⟨some a, (List.range len).map f, m, by rw [hlen], (fun h => by cases h), by rw [hlen]; exact hlen8, fun h0 => ?_, fun r hr => ?_⟩
    · rw [hlen] at h0 ⊢
      obtain ⟨cs', h1, _⟩ := hel 0 (by omega)
      obtain ⟨hs, hb⟩ := addr_of h1 (by omega)
      obtain ⟨b, o, s⟩ := a
      have hs' : s = none := by
        simp only [Addr.add] at hs
        split at hs <;> simp_all
      subst hs'
      rw [Addr.add_lit] at hb
      refine ⟨b, o, rfl, hb, fun i hi => ?_⟩
      have q0 := (hfk i hi).2 0 (by omega)
      have q1 := (hfk i hi).2 1 (by omega)
      rw [Addr.add_lit, Addr.add_lit] at q0 q1
      rw [hget i hi]
      exact ⟨q0, q1⟩
    · obtain ⟨i, hi, rfl⟩ := List.mem_map.1 hr
      exact (hfk i (by simpa using hi)).1
theorem Try.fields25 : ∃ f0 f1 : Field, Try.prog.underlying 25 = some (.struct #[f0, f1]) ∧ f0.type = 22 ∧ f1.type = 23 ∧ oneCellFields Try.prog #[f0, f1] = true := ⟨_, _, Try.underlying25, rfl, rfl, by kernel_rfl⟩
set_option maxRecDepth 100000 in
/-- A grammar that came in. -/
theorem open_gram {H : Type} {enc : TypeId × Value → H} {W : World} {base : Nat} {v : Value} {d : DataW H} {p : List MemPlace}
    (hv : Value.okWide Try.prog W .any base 25 v) (h0 : DataW.Trod enc Try.prog W 0 (fun _ => true) true 25 v d p) (hw : ∀ n ∈ d.weights Try.prog 25, n ≤ reachBytes) :
    ∃ g : Gr, v = g.val ∧ Gr.At W g ∧ Gr.In g := by
  obtain ⟨f0, f1, hu, t0, t1, ho⟩ := Try.fields25
  obtain ⟨v0, v1, y0, y1, n, rfl, rfl, _, h1, h2⟩ := open_agg2 hu ho cells25 hv h0
  rw [t0] at h1
  rw [t1] at h2
  have hw0 : ∀ n ∈ y0.1.weights Try.prog 22, n ≤ reachBytes := fun n hn => hw n (by
    simp [DataW.weights, hu, DataW.weightsEach, t0]; exact .inl hn)
  have hw1 : ∀ n ∈ y1.1.weights Try.prog 23, n ≤ reachBytes := fun n hn => hw n (by
    simp [DataW.weights, hu, DataW.weightsEach, t1]; exact .inr hn)
  obtain ⟨RA, rs, rc, rfl, hrn, hrl, hR, hRs⟩ := open_rules h1 hw0
  obtain ⟨NA, ns, nc, rfl, hnn, hnl, hN, hNs⟩ := open_nodes h2 hw1
  exact ⟨⟨RA, rc, rs, NA, nc, ns⟩, rfl, ⟨hR, hN, fun x hx => (hNs x hx).1, hrl, hnl, hrn, hnn, fun x hx => (hNs x hx).2.2, hRs⟩, fun x hx => (hNs x hx).2⟩
end Go.Proofs.Ytfdfcagkfnckmaa

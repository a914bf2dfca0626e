/- A grammar that came in has room for what it has. -/
import Derived.Test.YtjelgmdjmjnnfaaP1
import Derived.Test.YtjelgmdjmjnnfaaB5
set_option linter.unusedSimpArgs false
set_option linter.unusedVariables false
namespace Go.Proofs.Ytjelgmdjmjnnfaa
open Go Go.ChangeShapes Go.WideShapes Go.ChangeAt Go.RowKit Go.Joins Go.Deep
theorem open_nums_cap {H : Type} {enc : TypeId × Value → H} {W : World} {fuel : Nat} {x : DataW H × List MemPlace} {A : Option Addr} {l c : Nat} (h : DataW.trod enc Try.prog W 0 (fun _ => true) true fuel 31 [.slice A l c] = some x) : l ≤ c := by
  rcases open_ints Try.underlying31 Try.underlying3 cells3 h with ⟨hcs, hx⟩ | ⟨a, len', cap', zs, hcs, _, hl, hm, hz, hx, hcell, hwz⟩
  · simp at hcs; omega
  · simp at hcs; omega
set_option maxRecDepth 100000 in
theorem open_node_cap {H : Type} {enc : TypeId × Value → H} {W : World} {fuel : Nat} {nd : Nd} {x : DataW H × List MemPlace} (h : DataW.trod enc Try.prog W 0 (fun _ => true) true fuel 41 nd.cells = some x) : nd.kids.length ≤ nd.cap := by
  obtain ⟨xs, n, _, rfl, hl, hlen, hf⟩ := DataW.trod_struct Try.underlying41 h
  obtain ⟨y0, y1, y2, y3, y4, y5, rfl⟩ := list6 xs hlen
  have g5 := hf 5 _ rfl
  have k26 : Try.prog.cellsOf 36 = 1 := by kernel_rfl
  have k29 : Try.prog.cellsOf 39 = 4 := by kernel_rfl
  have k9 : Try.prog.cellsOf 9 = 1 := by kernel_rfl
  have k30 : Try.prog.cellsOf 31 = 1 := by kernel_rfl
  have k27 : Try.prog.cellsOf 37 = 1 := by kernel_rfl
  unfold Nd.cells at g5
  simp only [k26, k29, k9, k30, cells3, List.drop_zero, List.drop_succ_cons, List.take_succ_cons, List.take_zero, List.getElem?_cons_zero, List.getElem?_cons_succ] at g5
  exact open_nums_cap (x := (y5.1, y5.2)) g5
theorem open_nodes_cap {H : Type} {enc : TypeId × Value → H} {W : World} {fuel : Nat} {x : DataW H × List MemPlace} {A : Option Addr} {l : List Nd} {c : Nat} (h : DataW.trod enc Try.prog W 0 (fun _ => true) true fuel 23 [.slice A l.length c] = some x) (hN : Nodes W A l) : l.length ≤ c ∧ ∀ nd ∈ l, nd.kids.length ≤ nd.cap := by
  rcases Go.Deep.open_slice Try.underlying23 h with ⟨hcs, hx⟩ | ⟨a, len, cap, m, n, D, Pl, hcs, _, hl, hm, hmm, hx, hel⟩
  · simp at hcs
    obtain ⟨_, h0, _⟩ := hcs
    refine ⟨by rw [h0]; simp, fun nd hnd => ?_⟩
    rw [h0] at hnd
    simp at hnd
  · simp at hcs
    obtain ⟨rfl, rfl, rfl⟩ := hcs
    simp only [if_true] at hmm
    refine ⟨hl, fun nd hnd => ?_⟩
    obtain ⟨i, hi, rfl⟩ := List.getElem_of_mem hnd
    rw [cells32] at hel
    obtain ⟨cs', h1, h2⟩ := hel i (by omega)
    obtain ⟨b, o, e, _, hc⟩ := hN (by omega)
    simp only [Option.some.injEq] at e
    subst e
    obtain ⟨_, hl9, hcell⟩ := World.cells?_some h1
    have hcs : cs' = (l[i]).cells := by
      refine List.ext_getElem? fun j => ?_
      by_cases hj : j < 9
      · have h3 := hcell j (by omega)
        rw [Addr.add_lit, Addr.add_lit, hc i hi j hj] at h3
        rw [← h3]
        simp [List.getD, List.getElem?_eq_getElem hi]
      · rw [List.getElem?_eq_none (by omega), List.getElem?_eq_none (by unfold Nd.cells; simp; omega)]
    subst hcs
    exact open_node_cap h2
set_option maxRecDepth 100000 in
theorem open_gram_capd {H : Type} {enc : TypeId × Value → H} {W : World} {base : Nat} {g : Gr} {d : DataW H} {p : List MemPlace} (hg : Gr.At W g)
    (hv : Value.okWide Try.prog W .any base 25 g.val) (h0 : DataW.Trod enc Try.prog W 0 (fun _ => true) true 25 g.val d p) : Capd g := by
  obtain ⟨f0, f1, hu, t0, t1, ho⟩ := Try.fields25
  obtain ⟨v0, v1, y0, y1, n, e, rfl, _, h1, h2⟩ := open_agg2 hu ho cells25 hv h0
  rw [t1] at h2
  have e1 : (Value.slice g.NA g.nodes.length g.nc) = v1 := by
    have := e
    unfold Gr.val at this
    simp only [Value.agg.injEq] at this
    have := congrArg (fun a : Array Value => a[1]?) this
    simpa using this
  subst e1
  have := open_nodes_cap h2 hg.nodes
  exact ⟨this.1, this.2⟩
end Go.Proofs.Ytjelgmdjmjnnfaa

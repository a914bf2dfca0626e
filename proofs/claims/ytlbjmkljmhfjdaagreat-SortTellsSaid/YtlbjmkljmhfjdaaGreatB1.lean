/- What the rows of layer 6 share: a grammar, a node, as arguments. -/
import Derived.Test.YtlbjmkljmhfjdaaGreatA1
import Derived.Test.YtlbjmkljmhfjdaaGreatA9
import Derived.SizedLaws
import Derived.Deep.Slices
import Derived.Lib.SmallJoins
import Derived.Deep.Fields
set_option linter.unusedSimpArgs false
set_option linter.unusedVariables false
namespace Go.Proofs.YtlbjmkljmhfjdaaGreat
open Go Go.ChangeShapes Go.WideShapes Go.ChangeAt Go.RowKit Go.Joins Go.Deep
theorem own : ownKnob Tryz.prog.godebug = none := by kernel_rfl
theorem laidOut : laidOutB Tryz.prog = true := by kernel_rfl
theorem cells3 : Tryz.prog.cellsOf 3 = 1 := by kernel_rfl
theorem cells32 : Tryz.prog.cellsOf 40 = 9 := by kernel_rfl
theorem cells45 : Tryz.prog.cellsOf 124 = 2 := by kernel_rfl
theorem cells25 : Tryz.prog.cellsOf 25 = 2 := by kernel_rfl
theorem bytes3 : Tryz.prog.bytesOf 3 = 8 := by kernel_rfl
theorem bytes32 : Tryz.prog.bytesOf 40 = 96 := by kernel_rfl
theorem bytes45 : Tryz.prog.bytesOf 124 = 24 := by kernel_rfl
theorem int_of_wf {x : Int} (h : (Lit.int .i64 x).wf = true) : -9223372036854775808 ≤ x ∧ x < 9223372036854775808 := by
  simp [Lit.wf, IntKind.min, IntKind.max, IntKind.signed, IntKind.bits] at h
  exact ⟨by omega, by omega⟩
theorem weights_mem {H : Type} {P : Program} {e : TypeId} : ∀ {l : List (DataW H)} {d : DataW H}, d ∈ l → ∀ n ∈ d.weights P e, n ∈ DataW.weightsAll P e l
  | d' :: r, d, hd, n, hn => by
    simp only [DataW.weightsAll, List.mem_append]
    rcases List.mem_cons.1 hd with rfl | h
    · exact Or.inl hn
    · exact Or.inr (weights_mem h n hn)
/-- A row of numbers within what came in, by its cell. -/
theorem open_nums_in {H : Type} {enc : TypeId × Value → H} {W : World} {fuel : Nat} {u : Value} {d : DataW H} {p : List MemPlace} (hf : DataW.trod enc Tryz.prog W 0 (fun _ => true) true fuel 38 [u] = some (d, p)) :
    ∃ (A : Option Addr) (l : List Int) (c : Nat), u = .slice A l.length c ∧ (A = none → c = 0) ∧ Lies W A (ints l) ∧ (l.length = 0 ∨ ∃ es sp, d = .slice es sp ∧ es.length = l.length) := by
  have hd := DataW.trod_slice Tryz.underlying38 hf
  rcases open_ints Tryz.underlying38 Tryz.underlying3 cells3 hf with ⟨hcs, hx⟩ | ⟨a, len', cap', zs, hcs, _, hl, hm, hz, hx, hcell, hwz⟩
  · simp at hcs
    subst hcs
    exact ⟨none, [], 0, rfl, fun _ => rfl, fun h => by simp [ints] at h, .inl rfl⟩
  · simp at hcs
    subst hcs
    simp only [if_true] at hz
    have hlen : (zs.take len').length = len' := by simp; omega
    refine ⟨some a, zs.take len', cap', by rw [hlen], (fun h => by cases h), fun h0 => ?_, ?_⟩
    · rw [ints_length, hlen] at h0 ⊢
      obtain ⟨ab, ao, spot⟩ := a
      have hspot : spot = none := by simpa [Addr.add] using World.cell?_spot (hcell 0 (by omega))
      subst hspot
      have hblk := World.block_lt_of_cell? _ _ (hcell 0 (by omega))
      rw [Addr.add_lit] at hblk
      refine ⟨ab, ao, rfl, hblk, fun i hi => ?_⟩
      have := hcell i (by omega)
      rw [Addr.add_lit] at this
      rw [this, ints_at (by rw [hlen]; exact hi)]
      have e : zs.getD i 0 = (zs.take len').getD i 0 := by
        simp only [List.getD_eq_getElem?_getD, List.getElem?_take, if_pos hi]
      rw [e]
    · rcases hd with ⟨hcs, _⟩ | ⟨a', len, cap, elems, rest, m, _, hcs, hx', _, _, _, hlen', _⟩
      · simp at hcs
      · simp at hcs
        obtain ⟨_, rfl, _⟩ := hcs
        right
        exact ⟨_, _, (Prod.mk.inj hx').1, by rw [hlen]; simpa using hlen'⟩
theorem list9 {α : Type} (l : List α) (h : l.length = 9) : ∃ a b c d e f g i j, l = [a, b, c, d, e, f, g, i, j] := by
  match l, h with
  | [a, b, c, d, e, f, g, i, j], _ => exact ⟨a, b, c, d, e, f, g, i, j, rfl⟩
theorem list4 {α : Type} (l : List α) (h : l.length = 4) : ∃ a b c d, l = [a, b, c, d] := by
  match l, h with
  | [a, b, c, d], _ => exact ⟨a, b, c, d, rfl⟩
theorem list6 {α : Type} (l : List α) (h : l.length = 6) : ∃ a b c d e f, l = [a, b, c, d, e, f] := by
  match l, h with
  | [a, b, c, d, e, f], _ => exact ⟨a, b, c, d, e, f, rfl⟩
set_option maxRecDepth 100000 in
/-- A node that came in, by its cells. -/
theorem open_node {H : Type} {enc : TypeId × Value → H} {W : World} {fuel : Nat} {cs : List Value} {x : DataW H × List MemPlace} (h : DataW.trod enc Tryz.prog W 0 (fun _ => true) true fuel 40 cs = some x) (hw : ∀ n ∈ x.1.weights Tryz.prog 40, n ≤ reachBytes) :
    ∃ nd : Nd, cs = nd.cells ∧ Nd.At W nd ∧ Nd.In nd := by
  obtain ⟨xs, n, _, rfl, hl, hlen, hf⟩ := DataW.trod_struct Tryz.underlying40 h
  rw [cells32] at hl
  obtain ⟨v0, v1, v2, v3, v4, v5, v6, v7, v8, rfl⟩ := list9 cs hl
  obtain ⟨y0, y1, y2, y3, y4, y5, rfl⟩ := list6 xs hlen
  have g0 := hf 0 _ rfl
  have g1 := hf 1 _ rfl
  have g2 := hf 2 _ rfl
  have g3 := hf 3 _ rfl
  have g4 := hf 4 _ rfl
  have g5 := hf 5 _ rfl
  have k26 : Tryz.prog.cellsOf 34 = 1 := by kernel_rfl
  have k29 : Tryz.prog.cellsOf 37 = 4 := by kernel_rfl
  have k9 : Tryz.prog.cellsOf 9 = 1 := by kernel_rfl
  have k30 : Tryz.prog.cellsOf 38 = 1 := by kernel_rfl
  have k27 : Tryz.prog.cellsOf 35 = 1 := by kernel_rfl
  simp only [k26, k29, k9, k30, cells3, List.drop_zero, List.drop_succ_cons, List.take_succ_cons, List.take_zero, List.getElem?_cons_zero, List.getElem?_cons_succ] at g0 g1 g2 g3 g4 g5
  obtain ⟨a0, e0, _, w0⟩ := DataW.trod_int Tryz.underlying34 g0
  obtain ⟨s, e2, _, hs⟩ := DataW.trod_string Tryz.underlying9 g2
  obtain ⟨a3, e3, _, _⟩ := DataW.trod_int Tryz.underlying3 g3
  obtain ⟨a4, e4, _, _⟩ := DataW.trod_int Tryz.underlying3 g4
  obtain ⟨A, l, c, e5, hn5, hL5, hd5⟩ := open_nums_in (d := y5.1) (p := y5.2) g5
  obtain ⟨zs, m, _, _, _, hzl, hz⟩ := DataW.trod_array Tryz.underlying37 g1
  have z0 := hz 0 (by omega)
  have z1 := hz 1 (by omega)
  have z2 := hz 2 (by omega)
  have z3 := hz 3 (by omega)
  obtain ⟨q0, q1, q2, q3, rfl⟩ := list4 zs hzl
  simp only [k27, Nat.mul_one, List.drop_zero, List.drop_succ_cons, List.take_succ_cons, List.take_zero, List.getElem?_cons_zero, List.getElem?_cons_succ] at z0 z1 z2 z3
  obtain ⟨c0, f0, _, _⟩ := DataW.trod_int Tryz.underlying35 z0
  obtain ⟨c1, f1, _, _⟩ := DataW.trod_int Tryz.underlying35 z1
  obtain ⟨c2, f2, _, _⟩ := DataW.trod_int Tryz.underlying35 z2
  obtain ⟨c3, f3, _, _⟩ := DataW.trod_int Tryz.underlying35 z3
  obtain rfl := (List.cons.inj e0).1
  obtain rfl := (List.cons.inj e2).1
  obtain rfl := (List.cons.inj e3).1
  obtain rfl := (List.cons.inj e4).1
  obtain rfl := (List.cons.inj f0).1
  obtain rfl := (List.cons.inj f1).1
  obtain rfl := (List.cons.inj f2).1
  obtain rfl := (List.cons.inj f3).1
  subst e5
  refine ⟨⟨a0, c0, c1, c2, c3, s, a3, a4, A, c, l⟩, rfl, ⟨hL5, hn5, ?_⟩, ⟨int_of_wf w0, by unfold maxLen at hs; exact hs⟩⟩
  show l.length ≤ _
  rcases hd5 with h0 | ⟨es, sp, e, he⟩
  · omega
  · have := hw ((es.length + sp.length) * Tryz.prog.bytesOf 3) (by
      simp [DataW.weights, Tryz.underlying40, DataW.weightsEach, e, Tryz.underlying38])
    rw [bytes3] at this
    unfold reachBytes at this
    omega
theorem addr_of {W : World} {a : Addr} {n : Nat} {cs : List Value} {base : Nat} (h : W.cells? base a n = some cs) (hn : 0 < n) : a.spot = none ∧ a.block < W.heap.size := by
  obtain ⟨_, hlen, hcell⟩ := World.cells?_some h
  have h0 := hcell 0 (by omega)
  rw [List.getElem?_eq_getElem (by omega)] at h0
  obtain ⟨b, o, s⟩ := a
  have hs : s = none := by simpa [Addr.add] using World.cell?_spot h0
  subst hs
  have := World.block_lt_of_cell? _ _ h0
  rw [Addr.add_lit] at this
  exact ⟨rfl, this⟩
set_option maxRecDepth 100000 in
theorem open_nodes {H : Type} {enc : TypeId × Value → H} {W : World} {fuel : Nat} {u : Value} {x : DataW H × List MemPlace} (h : DataW.trod enc Tryz.prog W 0 (fun _ => true) true fuel 23 [u] = some x) (hw : ∀ n ∈ x.1.weights Tryz.prog 23, n ≤ reachBytes) :
    ∃ (A : Option Addr) (l : List Nd) (c : Nat), u = .slice A l.length c ∧ (A = none → c = 0) ∧ l.length ≤ 140737488351232 ∧ Nodes W A l ∧ ∀ nd ∈ l, Nd.At W nd ∧ Nd.In nd := by
  rcases Go.Deep.open_slice Tryz.underlying23 h with ⟨hcs, hx⟩ | ⟨a, len, cap, m, n, D, Pl, hcs, _, hl, hm, hmm, hx, hel⟩
  · simp at hcs
    subst hcs
    exact ⟨none, [], 0, rfl, fun _ => rfl, by simp, fun h => by simp at h, by simp⟩
  · simp at hcs
    subst hcs
    simp only [if_true] at hmm
    subst hmm
    rw [cells32] at hel
    subst hx
    have hwl : ∀ i, i < len → ∀ n ∈ (D i).weights Tryz.prog 40, n ≤ reachBytes := by
      intro i hi n hn
      refine hw n ?_
      simp only [DataW.weights, Tryz.underlying23, List.mem_cons, List.mem_append]
      exact .inr (.inl (weights_mem (List.mem_map.2 ⟨i, List.mem_range.2 hi, rfl⟩) n hn))
    have hlen8 : len ≤ 140737488351232 := by
      have h1 := hw ((((List.range len).map D).length + ((List.range (m - len)).map fun j => D (len + j)).length) * Tryz.prog.bytesOf 40) (by
        simp only [DataW.weights, Tryz.underlying23, List.mem_cons]
        exact .inl (by first | trivial | rfl))
      rw [bytes32] at h1
      simp at h1
      unfold reachBytes at h1
      omega
    have key : ∀ i, i < len → ∃ r : Nd, (Nd.At W r ∧ Nd.In r) ∧ ∀ j, j < 9 → W.cell? ((a.add (i * 9)).add j) = r.cells[j]? := by
      intro i hi
      obtain ⟨cs', h1, h2⟩ := hel i (by omega)
      obtain ⟨nd, rfl, hat, hin⟩ := open_node h2 (hwl i hi)
      obtain ⟨_, hl9, hcell⟩ := World.cells?_some h1
      refine ⟨nd, ⟨hat, hin⟩, fun j hj => ?_⟩
      rw [hcell j (by omega)]
    obtain ⟨f, hfk⟩ := Go.Deep.choose_lt key
    have hlen : ((List.range len).map f).length = len := by simp
    have hget : ∀ i, i < len → ((List.range len).map f).getD i Nd.zero = f i := fun i hi => by simp [List.getD, hi]
    refine ⟨some a, (List.range len).map f, m, by rw [hlen], (fun h => by cases h), by rw [hlen]; exact hlen8, fun h0 => ?_, fun r hr => ?_⟩
    · rw [hlen] at h0 ⊢
      obtain ⟨cs', h1, _⟩ := hel 0 (by omega)
      obtain ⟨hs, hb⟩ := addr_of h1 (by omega)
      obtain ⟨b, o, s⟩ := a
      have hs' : s = none := by
        simp only [Addr.add] at hs
        split at hs <;> simp_all
      subst hs'
      rw [Addr.add_lit] at hb
      refine ⟨b, o, rfl, hb, fun i hi j hj => ?_⟩
      have := (hfk i hi).2 j hj
      rw [Addr.add_lit, Addr.add_lit] at this
      rw [hget i hi]
      exact this
    · obtain ⟨i, hi, rfl⟩ := List.mem_map.1 hr
      exact (hfk i (by simpa using hi)).1
end Go.Proofs.YtlbjmkljmhfjdaaGreat

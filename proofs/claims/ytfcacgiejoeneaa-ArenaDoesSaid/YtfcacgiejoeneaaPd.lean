/- What the row of ArenaDoes wants besides: deeds as an argument. -/
import Derived.Test.YtfcacgiejoeneaaPa
import Derived.Test.YtfcacgiejoeneaaKz
import Derived.Lib.SmallJoins
import Derived.Deep.Fields
namespace Go.Proofs.Ytfcacgiejoeneaa
open Go Go.ChangeShapes Go.WideShapes Go.ChangeAt Go.RowKit Go.Joins Go.Deep
theorem weights_mem {H : Type} {P : Program} {e : TypeId} : ∀ {l : List (DataW H)} {d : DataW H}, d ∈ l → ∀ n ∈ d.weights P e, n ∈ DataW.weightsAll P e l
  | d' :: r, d, hd, n, hn => by
    simp only [DataW.weightsAll, List.mem_append]
    rcases List.mem_cons.1 hd with rfl | h
    · exact Or.inl hn
    · exact Or.inr (weights_mem h n hn)
theorem Try.fields32 : ∃ f0 f1 f2 f3 : Field, Try.prog.underlying 32 = some (.struct #[f0, f1, f2, f3]) ∧ f0.type = 3 ∧ f1.type = 3 ∧ f2.type = 3 ∧ f3.type = 28 ∧ oneCellFields Try.prog #[f0, f1, f2, f3] = true := ⟨_, _, _, _, Try.underlying32, rfl, rfl, rfl, rfl, by kernel_rfl⟩
theorem cells32 : Try.prog.cellsOf 32 = 4 := by kernel_rfl
/-- A row of numbers within what came in, by its cell. -/
theorem open_nums_in {H : Type} {enc : TypeId × Value → H} {W : World} {fuel : Nat} {u : Value} {d : DataW H} {p : List MemPlace} (hf : DataW.trod enc Try.prog W 0 (fun _ => true) true fuel 28 [u] = some (d, p)) :
    ∃ (A : Option Addr) (l : List Int) (c : Nat), u = .slice A l.length c ∧ (A = none → c = 0) ∧ Lies W A (ints l) ∧ (l.length = 0 ∨ ∃ es sp, d = .slice es sp ∧ es.length = l.length) := by
  have hd := DataW.trod_slice Try.underlying28 hf
  rcases open_ints Try.underlying28 Try.underlying3 cells3 hf with ⟨hcs, hx⟩ | ⟨a, len', cap', zs, hcs, _, hl, hm, hz, hx, hcell, hwz⟩
  · simp at hcs
    subst hcs
    exact ⟨none, [], 0, rfl, fun _ => rfl, fun h => by simp [ints] at h, .inl rfl⟩
  · simp at hcs
    subst hcs
    simp only [if_true] at hz
    have hlen : (zs.take len').length = len' := by simp; omega
    refine ⟨some a, zs.take len', cap', by rw [hlen], (fun h => by cases h), fun h0 => ?_, ?_⟩
    · rw [ints_length, hlen] at h0 ⊢
      obtain ⟨ab, ao, spot⟩ := a
      have hspot : spot = none := by simpa [Addr.add] using World.cell?_spot (hcell 0 (by omega))
      subst hspot
      have hblk := World.block_lt_of_cell? _ _ (hcell 0 (by omega))
      rw [Addr.add_lit] at hblk
      refine ⟨ab, ao, rfl, hblk, fun i hi => ?_⟩
      have := hcell i (by omega)
      rw [Addr.add_lit] at this
      rw [this, ints_at (by rw [hlen]; exact hi)]
      have e : zs.getD i 0 = (zs.take len').getD i 0 := by
        simp only [List.getD_eq_getElem?_getD, List.getElem?_take, if_pos hi]
      rw [e]
    · rcases hd with ⟨hcs, _⟩ | ⟨a', len, cap, elems, rest, m, _, hcs, hx', _, _, _, hlen', _⟩
      · simp at hcs
      · simp at hcs
        obtain ⟨_, rfl, _⟩ := hcs
        right
        exact ⟨_, _, (Prod.mk.inj hx').1, by rw [hlen]; simpa using hlen'⟩
theorem list4 {α : Type} (l : List α) (h : l.length = 4) : ∃ a b c d, l = [a, b, c, d] := by
  match l, h with
  | [a, b, c, d], _ => exact ⟨a, b, c, d, rfl⟩
/-- Where a slice that came in leads. -/
theorem slice_at {P : Program} {W : World} {b0 : Nat} {t e : TypeId} {a : Addr} {n c : Nat} (ht : P.underlying t = some (.slice e)) (h : Value.okWide P W .any b0 t (.slice (some a) n c)) : a.spot = none ∧ a.block < W.heap.size := by
  simp only [Value.okWide, ht, Cell.okWide, Cell.ok, World.has] at h
  obtain ⟨_, _, _, hs, row, cells, hsh, _⟩ := h
  refine ⟨hs, ?_⟩
  unfold World.shape? at hsh
  cases hw : W.heap[a.block]? with
  | none => rw [hw] at hsh; cases hsh
  | some o => exact (Array.getElem?_eq_some_iff.1 hw).1
instance : Inhabited Deed := ⟨Deed.zero⟩
/-- A deed that came in. -/
def Good (W : World) (d : Deed) : Prop :=
  (-9223372036854775808 ≤ d.what ∧ d.what < 9223372036854775808) ∧ (-9223372036854775808 ≤ d.n ∧ d.n < 9223372036854775808) ∧ (-9223372036854775808 ≤ d.x ∧ d.x < 9223372036854775808) ∧ (d.A = none → d.c = 0) ∧ Lies W d.A (ints d.l) ∧ d.l.length ≤ 140737488351232
set_option maxRecDepth 100000 in
theorem open_deeds {H : Type} {enc : TypeId × Value → H} {W : World} {base : Nat} {v : Value} {d : DataW H} {p : List MemPlace}
    (hv : Value.okWide Try.prog W .any base 22 v) (h0 : DataW.Trod enc Try.prog W 0 (fun _ => true) true 22 v d p) (hw : ∀ n ∈ d.weights Try.prog 22, n ≤ reachBytes) :
    ∃ (A : Option Addr) (ds : List Deed) (c : Nat), v = .slice A ds.length c ∧ ds.length ≤ 140737488351232 ∧ Deeds W A ds ∧ ∀ x ∈ ds, Good W x := by
  obtain ⟨f0, f1, f2, f3, hu, t0, t1, t2, t3, ho⟩ := Try.fields32
  obtain ⟨o0, k0⟩ := hone_of ho 0 f0 rfl
  obtain ⟨o1, k1⟩ := hone_of ho 1 f1 rfl
  obtain ⟨o2, k2⟩ := hone_of ho 2 f2 rfl
  obtain ⟨o3, k3⟩ := hone_of ho 3 f3 rfl
  obtain ⟨A, len, cap, rfl⟩ := okWide_slice Try.underlying22 hv
  obtain ⟨fuel, hf⟩ := h0
  rcases Go.Deep.open_slice Try.underlying22 hf with ⟨hcs, hx⟩ | ⟨a, len', cap', m, n, D, Pl, hcs, _, hl, hm, hmm, hx, hel⟩
  · simp [Value.cells] at hcs
    obtain ⟨rfl, rfl, rfl⟩ := hcs
    exact ⟨none, [], 0, rfl, by simp, fun h => by simp at h, by simp⟩
  · simp [Value.cells] at hcs
    obtain ⟨rfl, rfl, rfl⟩ := hcs
    simp only [if_true] at hmm
    subst hmm
    rw [cells32] at hel
    obtain ⟨hsp, hblk⟩ := slice_at Try.underlying22 hv
    obtain ⟨b, off, spot⟩ := a
    dsimp only at hsp hblk
    subst hsp
    have hd := (Prod.mk.inj hx).1
    have hwl : ∀ i, i < len → ∀ n ∈ (D i).weights Try.prog 32, n ≤ reachBytes := by
      intro i hi n hn
      refine hw n ?_
      rw [hd]
      simp only [DataW.weights, Try.underlying22, List.mem_cons, List.mem_append]
      exact .inr (.inl (weights_mem (List.mem_map.2 ⟨i, List.mem_range.2 hi, rfl⟩) n hn))
    have hlen8 : len ≤ 140737488351232 := by
      have h1 := hw ((((List.range len).map D).length + ((List.range (m - len)).map fun j => D (len + j)).length) * Try.prog.bytesOf 32) (by
        rw [hd]
        simp only [DataW.weights, Try.underlying22, List.mem_cons]
        exact .inl (by first | trivial | rfl))
      have hb : Try.prog.bytesOf 32 = 48 := by kernel_rfl
      rw [hb] at h1
      simp at h1
      unfold reachBytes at h1
      omega
    have key : ∀ i, i < len → ∃ r : Deed, Good W r ∧ W.cell? ⟨b, off + i * 4, none⟩ = some (.int .i64 r.what) ∧ W.cell? ⟨b, off + i * 4 + 1, none⟩ = some (.int .i64 r.n) ∧ W.cell? ⟨b, off + i * 4 + 2, none⟩ = some (.int .i64 r.x) ∧
        W.cell? ⟨b, off + i * 4 + 3, none⟩ = some (.slice r.A r.l.length r.c) := by
      intro i hi
      obtain ⟨cs', h1, h2⟩ := hel i (by omega)
      obtain ⟨_, hlen, hcell⟩ := World.cells?_some h1
      obtain ⟨c0, c1, c2, c3, rfl⟩ := list4 cs' hlen
      obtain ⟨y0, y1, y2, y3, n', hy, _, g0, g1, g2, g3⟩ := trod_struct4 hu h2
      rw [o0, k0, t0] at g0
      rw [o1, k1, t1] at g1
      rw [o2, k2, t2] at g2
      rw [o3, k3, t3] at g3
      obtain ⟨x0, e0, _, w0⟩ := DataW.trod_int Try.underlying3 g0
      obtain ⟨x1, e1, _, w1⟩ := DataW.trod_int Try.underlying3 g1
      obtain ⟨x2, e2, _, w2⟩ := DataW.trod_int Try.underlying3 g2
      simp at e0 e1 e2
      subst e0 e1 e2
      simp only [List.drop_succ_cons, List.drop_zero, List.take_succ_cons, List.take_zero] at g3
      obtain ⟨A3, l3, c3', rfl, hn3, hL3, hd3⟩ := open_nums_in (d := y3.1) (p := y3.2) g3
      have k0 := hcell 0 (by omega)
      have k1 := hcell 1 (by omega)
      have k2 := hcell 2 (by omega)
      have k3 := hcell 3 (by omega)
      rw [Addr.add_lit, Addr.add_lit] at k0 k1 k2 k3
      refine ⟨⟨x0, x1, x2, A3, c3', l3⟩, ⟨int_of_wf w0, int_of_wf w1, int_of_wf w2, hn3, hL3, ?_⟩, ?_, ?_, ?_, ?_⟩
      · rcases hd3 with h | ⟨es, sp, e, he⟩
        · show l3.length ≤ _
          omega
        · have hD := (Prod.mk.inj hy).1
          have := hwl i hi ((es.length + sp.length) * Try.prog.bytesOf 3) (by
            rw [hD, e]
            simp [DataW.weights, hu, DataW.weightsEach, t0, t1, t2, t3, Try.underlying28])
          rw [bytes3] at this
          unfold reachBytes at this
          show l3.length ≤ _
          omega
      · rw [Nat.add_zero] at k0; rw [k0]; simp
      · rw [k1]; simp
      · rw [k2]; simp
      · rw [k3]; simp
    obtain ⟨f, hfk⟩ := Go.Deep.choose_lt key
    have hlen : ((List.range len).map f).length = len := by simp
    have hget : ∀ i, i < len → ((List.range len).map f).getD i Deed.zero = f i := fun i hi => by simp [List.getD, hi]
    refine ⟨some ⟨b, off, none⟩, (List.range len).map f, m, by rw [hlen], by rw [hlen]; exact hlen8, fun _ => ⟨b, off, rfl, hblk, fun i hi => ?_⟩, fun r hr => ?_⟩
    · rw [hlen] at hi
      rw [hget i hi]
      exact (hfk i hi).2
    · obtain ⟨i, hi, rfl⟩ := List.mem_map.1 hr
      exact (hfk i (by simpa using hi)).1
end Go.Proofs.Ytfcacgiejoeneaa

/- The kit's Leaf, Word, Call, In, Chain, First. -/
import Derived.Test.YtlbjmkljmhfjdaaGreatC8
set_option linter.unusedSimpArgs false
set_option linter.unusedVariables false
namespace Go.Proofs.YtlbjmkljmhfjdaaGreat
open Go Go.RowKit
/-- A body that is told. -/
def Body (w : World) (spec : List Nd) (K : Int) (e : Ending) (w' : World) : Prop := ∃ A' c' L, e = .returned (.slice A' L.length c') ∧ L.map Nd.kz = spec ∧ Bod w' A' L K ∧ (A' = none → c' = 0) ∧ Below w.heap.size w w'
theorem body_one (w : World) (x : Nd) (hA : x.A = none) (hc : x.cap = 0) (hk : x.kids = []) (ht : x.text.size ≤ 9223372036854775807) : Body w [x] 0 (.returned (.slice (some ⟨w.heap.size, 0, none⟩) 1 1)) (w.alloc (.cells x.cells.toArray 40)) := by
  refine ⟨some ⟨w.heap.size, 0, none⟩, 1, [x], rfl, by simp [Nd.kz, ← hA, ← hc], ⟨?_, fun y hy => ?_, fun y hy => ?_, by simp⟩, (fun h => nomatch h), B1 _ _⟩
  · have := own_built w 40 1 9 (ncells [x]) (by simp [ncells, Nd.cells]) (by unfold maxLen; omega)
    simp only [ncells, List.append_nil] at this
    exact own_nodes (l := [x]) (by simpa [ncells] using this)
  · simp at hy; subst hy
    exact ⟨⟨fun h => by rw [hk] at h; simp [ints] at h, fun _ => hc, by rw [hk]; simp⟩, by rw [hk]; simp, fun k hk' => by rw [hk] at hk'; simp at hk'⟩
  · simp at hy; subst hy; exact ht
def wordN (s : ByteArray) : Nd := { Nd.zero with kind := 4, text := s }
def callN (r l : Int) : Nd := { Nd.zero with kind := 5, rule := r, level := l }
theorem leaf_any (kd : Int) (w : World) : Calls Tryz.prog 90 #[.int .i64 kd] w (Body w [leafN kd] 0) := by
  have B := Lib.hid (body_one w (leafN kd) rfl rfl rfl (by simp [leafN, Nd.zero]))
  go_enter Tryz.func90, Tryz.ntmps90
  go_wp2_with fail
  go_ret
  exact B.out
theorem word_any (s : ByteArray) (hs : s.size ≤ 9223372036854775807) (w : World) : Calls Tryz.prog 75 #[.string s] w (Body w [wordN s] 0) := by
  have B := Lib.hid (body_one w (wordN s) rfl rfl rfl hs)
  go_enter Tryz.func75, Tryz.ntmps75
  go_wp2_with fail
  go_ret
  exact B.out
theorem kcall_any (r l : Int) (w : World) : Calls Tryz.prog 86 #[.int .i64 r, .int .i64 l] w (Body w [callN r l] 0) := by
  have B := Lib.hid (body_one w (callN r l) rfl rfl rfl (by simp [callN, Nd.zero]))
  go_enter Tryz.func86, Tryz.ntmps86
  go_wp2_with fail
  go_ret
  exact B.out
theorem lies_one {w : World} {b : Nat} {x : Value} {T : TypeId} (h : Blk w b #[x] T) : Lies w (some ⟨b, 0, none⟩) [x] := fun _ => ⟨b, 0, rfl, h.lt, fun i hi => by
  obtain rfl : i = 0 := by simp at hi; omega
  rw [Nat.zero_add, h.cell]; rfl⟩
theorem lies_two' {w : World} {b : Nat} {x y : Value} {T : TypeId} (h : Blk w b #[x, y] T) : Lies w (some ⟨b, 0, none⟩) [x, y] := fun _ => ⟨b, 0, rfl, h.lt, fun i hi => by
  have : i = 0 ∨ i = 1 := by simp at hi; omega
  rcases this with rfl | rfl <;> (rw [Nat.zero_add, h.cell]; rfl)⟩
theorem kin_any (kd : Int) (A : Option Addr) (c : Nat) (l : List Nd) (K : Int) (w : World) (h : Bod w A l K) (hn : A = none → c = 0) (hl : l.length ≤ 1000) (hK : 0 ≤ K ∧ K ≤ 100000000) :
    Calls Tryz.prog 74 #[.int .i64 kd, .slice A l.length c] w (Body w (ofL kd [l.map Nd.kz]) (K + 100000)) := by
  have OF := Lib.hid (of_any kd (some ⟨w.heap.size, 0, none⟩) [(A, c, l)] 1 K (w.alloc (.cells #[.slice A l.length c] 23)) ⟨lies_one (Blk.new _ _ _), fun b hb => by
    simp at hb; subst hb; exact ⟨h.below (B1 _ _), hl, hn⟩⟩ (by simp) hK)
  clear h
  obtain ⟨m, em⟩ : ∃ m, m = l.length := ⟨_, rfl⟩
  simp only [List.length_singleton] at OF
  rw [← em] at OF ⊢
  have HL := Lib.hid hl
  clear em hl
  go_enter Tryz.func74, Tryz.ntmps74
  go_wp2_with fail
  refine OF.out.mono ?_
  rintro e w1 ⟨A1, c1, L, rfl, h1, h2, h3, _, h4⟩
  have R := Lib.hid (show Body w (ofL kd [l.map Nd.kz]) (K + 100000) (.returned (.slice A1 L.length c1)) w1 from ⟨A1, c1, L, rfl, h1, h2, h3, bb (B1 w _) h4⟩)
  clear h1 h2 h3 h4
  go_wp2_with fail
  go_ret
  exact R.out
theorem chain_any (A : Option Addr) (c : Nat) (l : List Nd) (A2 : Option Addr) (c2 : Nat) (l2 : List Nd) (K : Int) (w : World) (h : Bod w A l K) (h2 : Bod w A2 l2 K) (hn : A = none → c = 0) (hn2 : A2 = none → c2 = 0) (hl : l.length ≤ 1000) (hl2 : l2.length ≤ 1000) (hK : 0 ≤ K ∧ K ≤ 100000000) :
    Calls Tryz.prog 89 #[.slice A l.length c, .slice A2 l2.length c2] w (Body w (ofL 6 [l.map Nd.kz, l2.map Nd.kz]) (K + 100000)) := by
  have OF := Lib.hid (of_any 6 (some ⟨w.heap.size, 0, none⟩) [(A, c, l), (A2, c2, l2)] 2 K (w.alloc (.cells #[.slice A l.length c, .slice A2 l2.length c2] 23)) ⟨lies_two' (Blk.new _ _ _), fun b hb => by
    simp at hb
    rcases hb with rfl | rfl
    · exact ⟨h.below (B1 _ _), hl, hn⟩
    · exact ⟨h2.below (B1 _ _), hl2, hn2⟩⟩ (by simp) hK)
  clear h h2
  have E2 : ([(A, c, l), (A2, c2, l2)] : List Bdy).length = 2 := rfl
  rw [E2] at OF
  have HL := Lib.hid (And.intro hl hl2)
  clear hl hl2 E2
  go_enter Tryz.func89, Tryz.ntmps89
  go_wp2_with fail
  refine OF.out.mono ?_
  rintro e w1 ⟨A1, c1, L, rfl, h1, h2, h3, _, h4⟩
  have R := Lib.hid (show Body w (ofL 6 [l.map Nd.kz, l2.map Nd.kz]) (K + 100000) (.returned (.slice A1 L.length c1)) w1 from ⟨A1, c1, L, rfl, h1, h2, h3, bb (B1 w _) h4⟩)
  clear h1 h2 h3 h4
  go_wp2_with fail
  go_ret
  exact R.out
theorem first_any (A : Option Addr) (c : Nat) (l : List Nd) (A2 : Option Addr) (c2 : Nat) (l2 : List Nd) (K : Int) (w : World) (h : Bod w A l K) (h2 : Bod w A2 l2 K) (hn : A = none → c = 0) (hn2 : A2 = none → c2 = 0) (hl : l.length ≤ 1000) (hl2 : l2.length ≤ 1000) (hK : 0 ≤ K ∧ K ≤ 100000000) :
    Calls Tryz.prog 87 #[.slice A l.length c, .slice A2 l2.length c2] w (Body w (ofL 7 [l.map Nd.kz, l2.map Nd.kz]) (K + 100000)) := by
  have OF := Lib.hid (of_any 7 (some ⟨w.heap.size, 0, none⟩) [(A, c, l), (A2, c2, l2)] 2 K (w.alloc (.cells #[.slice A l.length c, .slice A2 l2.length c2] 23)) ⟨lies_two' (Blk.new _ _ _), fun b hb => by
    simp at hb
    rcases hb with rfl | rfl
    · exact ⟨h.below (B1 _ _), hl, hn⟩
    · exact ⟨h2.below (B1 _ _), hl2, hn2⟩⟩ (by simp) hK)
  clear h h2
  have E2 : ([(A, c, l), (A2, c2, l2)] : List Bdy).length = 2 := rfl
  rw [E2] at OF
  have HL := Lib.hid (And.intro hl hl2)
  clear hl hl2 E2
  go_enter Tryz.func87, Tryz.ntmps87
  go_wp2_with fail
  refine OF.out.mono ?_
  rintro e w1 ⟨A1, c1, L, rfl, h1, h2, h3, _, h4⟩
  have R := Lib.hid (show Body w (ofL 7 [l.map Nd.kz, l2.map Nd.kz]) (K + 100000) (.returned (.slice A1 L.length c1)) w1 from ⟨A1, c1, L, rfl, h1, h2, h3, bb (B1 w _) h4⟩)
  clear h1 h2 h3 h4
  go_wp2_with fail
  go_ret
  exact R.out
end Go.Proofs.YtlbjmkljmhfjdaaGreat
namespace Go.Proofs.YtlbjmkljmhfjdaaGreat
open Go Go.RowKit
def nameB (i : Nat) : ByteArray := ⟨#[UInt8.ofNat (65 + i)]⟩
def gramN (a : List Rl × List Nd) (b : List Nd) : List Rl × List Nd := (a.1 ++ [⟨nameB a.1.length, (a.2.length : Int)⟩], a.2 ++ b.map (mvk a.2.length))
def gramL (bl : List (List Nd)) : List Rl × List Nd := bl.foldl gramN ([], [])
theorem rcells_app : ∀ (l : List Rl) (r : Rl), rcells (l ++ [r]) = rcells l ++ [.string r.name, .int .i64 r.body]
  | [], r => rfl
  | x :: l, r => by simp [rcells, rcells_app l r]
structure GrS (w W : World) (gb : Nat) (R : List Rl) (L : List Nd) (rv nv : Value) (K : Int) : Prop where
  blk : Blk W gb #[rv, nv] 25
  lo : w.heap.size ≤ gb
  rules : W.ownsRow w.heap.size 124 2 rv R.length (rcells R)
  nodes : Owd w W nv L K
theorem gram_step {R : List Rl} {L l' b : List Nd} {bls : List (List Nd)} {i : Nat} (h : (R, L.map Nd.kz) = (bls.take i).foldl gramN ([], [])) (hi : bls[i]? = some (b.map Nd.kz)) (hm : Moved (L.length : Nat) b l') :
    (R ++ [⟨nameB R.length, (L.length : Int)⟩], (L ++ l').map Nd.kz) = (bls.take (i + 1)).foldl gramN ([], []) := by
  rw [List.take_add_one, hi, Option.toList_some, List.foldl_append, ← h]
  simp only [List.foldl_cons, List.foldl_nil, gramN, List.map_append, hm.kz, List.length_map]
/-- A row that is stored into, in a block that is no row of one's own. -/
theorem own_off {W W' : World} {B e z n gb : Nat} {v : Value} {xs : List Value} {vs : Array Value} {T : TypeId} (h : W.ownsRow B e z v n xs) (hb : Blk W gb vs T) (hT : T ≠ e) (hg : W.grownBy W' (some gb)) : W'.ownsRow B e z v n xs :=
  h.kept hg (by
    cases ho : v.ownBlock with
    | none => exact .inl rfl
    | some b => exact .inr fun e' => own_ne h hb hT (by rw [ho]; exact e'))
theorem setCell_grown (W : World) (b o : Nat) (v : Value) : W.grownBy (W.setCell ⟨b, o, none⟩ v) (some b) := by
  have h := Below.setCell (Below.refl b W) (p := ⟨b, o, none⟩) (Nat.le_refl _) v
  exact ⟨h.os, h.tape, h.output, h.size, fun k hk hne => Below.heap_setCell _ _ _ k (fun e => hne (by rw [show k = b from e]))⟩
theorem Owd.off {w W W' : World} {v : Value} {L : List Nd} {K : Int} {gb : Nat} {vs : Array Value} {T : TypeId} (h : Owd w W v L K) (hb : Blk W gb vs T) (hT : T ≠ 40 ∧ T ≠ 3) (hlo : w.heap.size ≤ gb) (hg : W.grownBy W' (some gb)) : Owd w W' v L K :=
  ⟨own_off h.row hb hT.1 hg, fun x hx => ⟨own_off (h.kids x hx).1 hb hT.2 hg, (h.kids x hx).2⟩, h.bnd, grown_below h.low h.low.size hg (fun k e => by cases e; exact hlo)⟩
theorem Owd.apart {w W : World} {v rv : Value} {L : List Nd} {K : Int} {R : List Rl} {B : Nat} (h : Owd w W v L K) (hr : W.ownsRow B 124 2 rv R.length (rcells R)) {W' : World} (hg : W.grownBy W' rv.ownBlock) (hlo : ∀ k, rv.ownBlock = some k → w.heap.size ≤ k) : Owd w W' v L K := by
  have key : ∀ {B' e z n : Nat} {v' : Value} {xs : List Value}, W.ownsRow B' e z v' n xs → e ≠ 124 → W'.ownsRow B' e z v' n xs := fun {B' e z n v' xs} h' he => h'.kept hg (by
    cases ho : v'.ownBlock with
    | none => exact .inl rfl
    | some b => exact .inr fun e' => he (own_same h' hr ho e'.symm))
  exact ⟨key h.row (by decide), fun x hx => ⟨key (h.kids x hx).1 (by decide), (h.kids x hx).2⟩, h.bnd, grown_below h.low h.low.size hg hlo⟩
theorem GrS.rule_more {w W Wa W9 : World} {gb : Nat} {R : List Rl} {L : List Nd} {rv nv v1 : Value} {K : Int} {r : Rl} (h : GrS w W gb R L rv nv K) (hb : Below W.heap.size W Wa) (hg : Wa.grownBy W9 rv.ownBlock)
    (ho : W9.ownsRow w.heap.size 124 2 v1 (R.length + 1) (rcells R ++ [.string r.name, .int .i64 r.body])) :
    GrS w (W9.setCell ⟨gb, 0, none⟩ v1) gb (R ++ [r]) L v1 nv K ∧ W9.cell? ⟨gb, 0, none⟩ = some rv ∧ W9.frozen? ⟨gb, 0, none⟩ = false := by
  have ra := own_below h.rules hb
  have na := h.nodes.below hb
  have n9 := na.apart ra hg (fun k e => (ra.lt k e).1)
  have b9 : Blk W9 gb #[rv, nv] 25 := (h.blk.below' hb).grown hg (fun e => own_ne ra (h.blk.below' hb) (by decide) e.symm)
  have hs := setCell_grown W9 gb 0 v1
  refine ⟨⟨heap_setCell_same W9 gb 0 #[rv, nv] 25 v1 b9, h.lo, ?_, n9.off b9 ⟨by decide, by decide⟩ h.lo hs⟩, b9.cell 0, b9.frozen 0⟩
  rw [List.length_append, rcells_app]
  exact own_off ho b9 (by decide) hs
theorem GrS.nodes_more {w W W3 W4 : World} {gb : Nat} {R : List Rl} {L l' : List Nd} {rv nv v4 : Value} {K K' : Int} (h : GrS w W gb R L rv nv K) (hb : Below W.heap.size W W3) (hk : ∀ x ∈ l', W3.ownsRow W.heap.size 3 1 (.slice x.A x.kids.length x.cap) x.kids.length (ints x.kids)) {A' : Option Addr} (hB : Bod W3 A' l' K') (hK : K ≤ K')
    (hg : W3.grownBy W4 nv.ownBlock) (ho : W4.ownsRow w.heap.size 40 9 v4 (L.length + l'.length) (ncells L ++ ncells l')) :
    GrS w (W4.setCell ⟨gb, 1, none⟩ v4) gb R (L ++ l') rv v4 K' ∧ W4.cell? ⟨gb, 1, none⟩ = some nv ∧ W4.frozen? ⟨gb, 1, none⟩ = false := by
  have n4 := h.nodes.app hb hk hB hK hg ho
  have r3 := own_below h.rules hb
  have row3 := own_below h.nodes.row hb
  have b3 := h.blk.below' hb
  have r4 := r3.kept hg (by
    cases ho : rv.ownBlock with
    | none => exact .inl rfl
    | some b =>
      refine .inr fun e' => ?_
      have := own_same r3 row3 ho e'.symm
      revert this
      decide)
  have b4 : Blk W4 gb #[rv, nv] 25 := b3.grown hg (fun e => own_ne row3 b3 (by decide) e.symm)
  have hs := setCell_grown W4 gb 1 v4
  exact ⟨⟨heap_setCell_same W4 gb 1 #[rv, nv] 25 v4 b4, h.lo, own_off r4 b4 (by decide) hs, n4.off b4 ⟨by decide, by decide⟩ h.lo hs⟩, b4.cell 1, b4.frozen 1⟩
end Go.Proofs.YtlbjmkljmhfjdaaGreat

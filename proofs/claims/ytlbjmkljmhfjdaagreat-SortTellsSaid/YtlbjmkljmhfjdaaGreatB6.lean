/- The nodes at a node's own place, plainly; whom a node calls there; whom a rule goes to. Nothing here speaks of a program. -/
import Derived.Test.YtlbjmkljmhfjdaaGreatB5
import Derived.Test.YtlbjmkljmhfjdaaGreatB4
set_option linter.unusedSimpArgs false
set_option linter.unusedVariables false
namespace Go.Proofs.YtlbjmkljmhfjdaaGreat
/-- Kids up to the first that may not match nothing. -/
def upTo (may : Int → Bool) : List Int → List Int
  | [] => []
  | k :: r => k :: (if may k then upTo may r else [])
theorem upTo_all {may : Int → Bool} : ∀ {l : List Int}, (∀ k ∈ l, may k = true) → upTo may l = l
  | [], _ => rfl
  | k :: r, h => by
    unfold upTo
    rw [if_pos (h k (List.mem_cons_self ..)), upTo_all fun j hj => h j (List.mem_cons_of_mem _ hj)]
theorem upTo_at {may : Int → Bool} : ∀ (l : List Int) (j : Nat), j < l.length → (∀ i, i < j → may (l.getD i 0) = true) → may (l.getD j 0) = false → upTo may l = l.take (j + 1)
  | [], j, h, _, _ => by simp at h
  | k :: r, 0, _, _, h => by
    have h2 : may k = false := h
    simp [upTo, h2]
  | k :: r, j + 1, h1, h2, h3 => by
    have hk : may k = true := h2 0 (by omega)
    unfold upTo
    rw [if_pos hk, upTo_at r j (by simpa using h1) (fun i hi => h2 (i + 1) (by omega)) h3]
    rfl
theorem upTo_sub {may : Int → Bool} : ∀ (l : List Int), (upTo may l).Sublist l
  | [] => List.Sublist.slnil
  | k :: r => by
    unfold upTo
    split
    · exact (upTo_sub r).cons_cons k
    · exact (List.nil_sublist r).cons_cons k
/-- The kids of a node that stand at its place. -/
def fsts (x : Nd) (may : Int → Bool) : List Int := if x.kind = 6 then upTo may x.kids else x.kids
theorem fsts_sub (x : Nd) (may : Int → Bool) : (fsts x may).Sublist x.kids := by
  unfold fsts
  split
  · exact upTo_sub _
  · exact List.Sublist.refl _
theorem fsts_mem {x : Nd} {may : Int → Bool} {k : Int} (h : k ∈ fsts x may) : k ∈ x.kids := (fsts_sub x may).subset h
def ownF (l : List Nd) (may : Int → Bool) : Nat → Int → List Int
  | 0, _ => []
  | f + 1, n => n :: (fsts (l.getD n.toNat Nd.zero) may).flatMap (ownF l may f)
/-- The nodes at a node's own place. -/
def ownN (l : List Nd) (may : Int → Bool) (n : Int) : List Int := ownF l may (l.length - n.toNat) n
theorem flatMap_same {f g : Int → List Int} : ∀ {l : List Int}, (∀ k ∈ l, f k = g k) → l.flatMap f = l.flatMap g
  | [], _ => rfl
  | a :: l, h => by
    simp only [List.flatMap_cons]
    rw [h a (List.mem_cons_self ..), flatMap_same fun k hk => h k (List.mem_cons_of_mem _ hk)]
theorem ownF_fuel {l : List Nd} (hl : KidsUp l) (may : Int → Bool) : ∀ (f f' : Nat) (n : Int), 0 ≤ n → n < l.length → (l.length : Int) - n ≤ f → (l.length : Int) - n ≤ f' → ownF l may f n = ownF l may f' n
  | 0, f', n, h0, h1, h2, _ => by omega
  | f + 1, 0, n, h0, h1, _, h2 => by omega
  | f + 1, f' + 1, n, h0, h1, h2, h3 => by
    unfold ownF
    rw [flatMap_same fun k hk => ?_]
    have := hl n.toNat (by omega) k (fsts_mem hk)
    exact ownF_fuel hl may f f' k (by omega) (by omega) (by omega) (by omega)
theorem ownN_eq {l : List Nd} (hl : KidsUp l) (may : Int → Bool) {n : Int} (h0 : 0 ≤ n) (h1 : n < l.length) : ownN l may n = n :: (fsts (l.getD n.toNat Nd.zero) may).flatMap (ownN l may) := by
  unfold ownN
  obtain ⟨f, ef⟩ : ∃ f, l.length - n.toNat = f + 1 := ⟨l.length - n.toNat - 1, by omega⟩
  rw [ef]
  show n :: _ = _
  rw [flatMap_same fun k hk => ?_]
  have := hl n.toNat (by omega) k (fsts_mem hk)
  exact ownF_fuel hl may _ _ k (by omega) (by omega) (by omega) (by omega)
/-- What stands at a node's own place lies in it, and rises. -/
structure Rises (a : List Int) (lo hi : Int) : Prop where
  each : ∀ k ∈ a, lo ≤ k ∧ k < hi
  rise : a.Pairwise (· < ·)
theorem Rises.app {a b : List Int} {lo mid hi : Int} (h : Rises a lo mid) (k : Rises b mid hi) (h1 : lo ≤ mid) (h2 : mid ≤ hi) : Rises (a ++ b) lo hi := by
  refine ⟨fun x hx => ?_, List.pairwise_append.2 ⟨h.rise, k.rise, fun x hx y hy => ?_⟩⟩
  · rcases List.mem_append.1 hx with hx | hx
    · have := h.each x hx; omega
    · have := k.each x hx; omega
  · have := h.each x hx; have := k.each y hy; omega
theorem climb_rises {len : Nat} {ms : Nat → Meas} {f : Int → List Int} (n0 : Nat) (hs : ∀ m : Nat, n0 ≤ m → m < len → 1 ≤ (ms m).1 ∧ 1 ≤ (ms m).2 ∧ m + (ms m).1 ≤ len) (hf : ∀ m : Nat, n0 ≤ m → m < len → Rises (f m) m (m + (ms m).1)) :
    ∀ (r : List Int) (next high to hh : Int), (n0 : Int) ≤ next → climb len ms r next high = some (to, hh) → Rises (r.flatMap f) next to ∧ next ≤ to
  | [], next, high, to, hh, _, h => by
    simp [climb] at h
    obtain ⟨rfl, _⟩ := h
    exact ⟨⟨fun k hk => by simp at hk, by simp⟩, by omega⟩
  | k :: r, next, high, to, hh, hn, h => by
    unfold climb at h
    split at h
    · rename_i hk
      obtain ⟨rfl, hk2⟩ := hk
      obtain ⟨a, ha⟩ : ∃ a : Nat, k = a := ⟨k.toNat, by omega⟩
      subst ha
      have h1 := hs a (by omega) (by omega)
      rw [Int.toNat_natCast] at h
      obtain ⟨h2, h3⟩ := climb_rises n0 hs hf r _ _ to hh (by omega) h
      have h4 := hf a (by omega) (by omega)
      exact ⟨by rw [List.flatMap_cons]; exact h4.app h2 (by omega) h3, by omega⟩
    · cases h
theorem flatMap_sub {f : Int → List Int} {a b : List Int} (h : a.Sublist b) : (a.flatMap f).Sublist (b.flatMap f) := by
  induction h with
  | slnil => exact List.Sublist.refl _
  | cons k _ ih => rw [List.flatMap_cons]; exact ih.trans (List.sublist_append_right _ _)
  | cons_cons k _ ih => rw [List.flatMap_cons, List.flatMap_cons]; exact (List.Sublist.refl _).append ih
theorem own_rises {l : List Nd} {ms : Nat → Meas} (h : Measured l ms 0) (may : Int → Bool) : ∀ (d n : Nat), n < l.length → l.length - n ≤ d → Rises (ownN l may n) n (n + (ms n).1)
  | 0, n, h1, hd => by omega
  | d + 1, n, h1, hd => by
    have hl := h.kidsUp
    obtain ⟨s1, _, s3, hc⟩ := h n (by omega) h1
    rw [ownN_eq hl may (by omega) (by omega), Int.toNat_natCast]
    have hc2 := climb_rises (f := ownN l may) (n + 1) (fun m hm hml => by have := h m (by omega) hml; exact ⟨this.1, this.2.1, this.2.2.1⟩) (fun m hm hml => own_rises h may d m hml (by omega)) _ _ _ _ _ (by omega) hc
    have hsub := flatMap_sub (f := ownN l may) (fsts_sub (l.getD n Nd.zero) may)
    have hr : Rises ((fsts (l.getD n Nd.zero) may).flatMap (ownN l may)) ((n : Int) + 1) (n + (ms n).1) := ⟨fun k hk => hc2.1.each k (hsub.subset hk), hc2.1.rise.sublist hsub⟩
    refine ⟨fun k hk => ?_, List.pairwise_cons.2 ⟨fun k hk => ?_, hr.rise⟩⟩
    · rcases List.mem_cons.1 hk with rfl | hk
      · omega
      · have := hr.each k hk; omega
    · have := hr.each k hk; omega
/-- Whether a node calls a rule at its own place. -/
def callsB (l : List Nd) (may : Int → Bool) (n : Int) (r : Nat) : Bool := (ownN l may n).any fun m => decide ((l.getD m.toNat Nd.zero).kind = 5) && decide ((l.getD m.toNat Nd.zero).rule = (r : Int))
/-- Which nodes of a grammar may match nothing. -/
noncomputable def mayG (g : Gr) : Int → Bool := mayN g.nodes (inB (ranks g))
noncomputable def callsOf (g : Gr) (n : Int) : List Nat := rowOf' g.rules.length (callsB g.nodes (mayG g) n)
noncomputable def lcal (g : Gr) (r : Nat) : List Nat := callsOf g (g.rules.getD r Rl.zero).body
theorem lcal_lt {g : Gr} {r k : Nat} (h : k ∈ lcal g r) : k < g.rules.length := (rowOf_mem.1 h).1
end Go.Proofs.YtlbjmkljmhfjdaaGreat
namespace Go.Proofs.YtlbjmkljmhfjdaaGreat
open Go Go.RowKit
def ncells : List Nd → List Value
  | [] => []
  | x :: l => x.cells ++ ncells l
theorem ncells_length : ∀ l : List Nd, (ncells l).length = l.length * 9
  | [] => rfl
  | x :: l => by simp [ncells, ncells_length l, Nd.cells]; omega
theorem ncells_app : ∀ (l : List Nd) (x : Nd), ncells (l ++ [x]) = ncells l ++ x.cells
  | [], x => by simp [ncells]
  | y :: l, x => by simp [ncells, ncells_app l x]
theorem ncells_at : ∀ (l : List Nd) (i j : Nat), i < l.length → j < 9 → (ncells l)[i * 9 + j]? = (l.getD i Nd.zero).cells[j]?
  | [], i, j, h, _ => by simp at h
  | x :: l, 0, j, h, hj => by
    rw [ncells, List.getElem?_append_left (by simp [Nd.cells]; omega)]
    simp
  | x :: l, i + 1, j, h, hj => by
    have := ncells_at l i j (by simpa using h) hj
    rw [ncells, List.getElem?_append_right (by simp [Nd.cells]; omega)]
    rw [show (i + 1) * 9 + j - x.cells.length = i * 9 + j by simp [Nd.cells]; omega, this]
    simp
theorem own_nodes {w : World} {base e c : Nat} {A : Option Addr} {l : List Nd} (h : w.ownsRow base e 9 (.slice A l.length c) l.length (ncells l)) : Nodes w A l := by
  intro h0
  rcases h.2 with ⟨h1, h2⟩ | ⟨g, cap, cur, h1, hbg, hgg, rest⟩
  · omega
  · simp only [Value.slice.injEq] at h1
    obtain ⟨rfl, _, rfl⟩ := h1
    refine ⟨g, 0, rfl, (Array.getElem?_eq_some_iff.1 hgg).1, fun i hi j hj => ?_⟩
    have q := ncells_at l i j hi hj
    have hc : j < (l.getD i Nd.zero).cells.length := by simp [Nd.cells]; omega
    rw [List.getElem?_eq_getElem hc] at q ⊢
    have q0 := h.cells (g := g) rfl _ _ q
    rw [Addr.add_lit] at q0
    rw [← Nat.add_assoc] at q0
    exact q0
/-- The same node, but for where its kids lie. -/
def Twin (x y : Nd) : Prop := ∃ A c, y = x.at_ A c
/-- A node's kids lie in a row of the call's own. -/
def Kid (w : World) (B : Nat) (o : Value) (x : Nd) : Prop := w.ownsRow B 3 1 (.slice x.A x.kids.length x.cap) x.kids.length (ints x.kids) ∧ (x.A = none → x.cap = 0) ∧ ∀ a, x.A = some a → o.ownBlock ≠ some a.block
theorem Kid.below {w w' : World} {B : Nat} {o : Value} {x : Nd} (h : Kid w B o x) (hb : Below w.heap.size w w') : Kid w' B o x := ⟨own_below h.1 hb, h.2⟩
theorem Kid.grown {w w' : World} {B : Nat} {o o' : Value} {x : Nd} (h : Kid w B o x) (hg : w.grownBy w' o.ownBlock) (hf : ∀ k, o'.ownBlock = some k → o.ownBlock = some k ∨ w.heap.size ≤ k) : Kid w' B o' x := by
  obtain ⟨h1, h2, h3⟩ := h
  refine ⟨h1.kept hg ?_, h2, fun a ha e => ?_⟩
  · cases hA : x.A with
    | none => exact .inl rfl
    | some a => exact .inr (fun e => h3 a hA e.symm)
  · rcases hf _ e with e | e
    · exact h3 a ha e
    · have := (h1.lt a.block (by rw [ha]; rfl)).2
      omega
theorem cells_one (x : Nd) : ∀ u ∈ x.cells, u.oneCell' = true := by
  intro u hu
  simp only [Nd.cells, List.mem_cons, List.not_mem_nil, or_false] at hu
  rcases hu with rfl | rfl | rfl | rfl | rfl | rfl | rfl | rfl | rfl <;> rfl
theorem new_news (w : World) (vs : List Value) (T : TypeId) : ∀ a, some (⟨w.heap.size, 0, none⟩ : Addr) = some a → ∀ j u, vs[j]? = some u → (w.alloc (.cells vs.toArray T)).cell? (a.add j) = some u := by
  intro a ha j u hu
  obtain rfl := Option.some.inj ha
  rw [Addr.add_lit, Nat.zero_add, (Blk.new w _ _).cell]
  simpa using hu
/-- The same grammar, but for where it lies. -/
structure GTwin (g h : Gr) : Prop where
  rules : h.rules = g.rules
  len : h.nodes.length = g.nodes.length
  node : ∀ j, j < g.nodes.length → Twin (g.nodes.getD j Nd.zero) (h.nodes.getD j Nd.zero)
theorem own_blk {w w' : World} {B e size n b : Nat} {v : Value} {xs : List Value} (h : w.ownsRow B e size v n xs) (hb : b < B) (hg : w.grownBy w' (some b)) : w'.ownsRow B e size v n xs := by
  refine h.kept hg ?_
  cases hv : v.ownBlock with
  | none => exact .inl rfl
  | some k => exact .inr (fun e => by have := (h.lt k hv).1; cases e; omega)
theorem GTwin.mem {g h : Gr} (t : GTwin g h) {x : Nd} (hx : x ∈ h.nodes) : ∃ y ∈ g.nodes, Twin y x := by
  obtain ⟨j, hj, rfl⟩ := List.getElem_of_mem hx
  have hj2 : j < g.nodes.length := by rw [← t.len]; exact hj
  refine ⟨g.nodes[j], List.getElem_mem hj2, ?_⟩
  have := t.node j hj2
  simpa [List.getD, List.getElem?_eq_getElem hj, List.getElem?_eq_getElem hj2] using this
theorem GTwin.within {g h : Gr} (t : GTwin g h) (hi : Gr.In g) : Gr.In h := by
  intro x hx
  obtain ⟨y, hy, A, c, rfl⟩ := t.mem hx
  exact ⟨(hi y hy).kind, (hi y hy).text⟩
theorem GTwin.lies {w w' : World} {g h : Gr} (t : GTwin g h) (hg : Gr.At w g) (h1 : Rules w' h.RA h.rules) (h2 : Nodes w' h.NA h.nodes) (h3 : ∀ x ∈ h.nodes, Lies w' x.A (ints x.kids) ∧ (x.A = none → x.cap = 0)) (h4 : h.RA = none → h.rc = 0) (h5 : h.NA = none → h.nc = 0) : Gr.At w' h where
  rules := h1
  nodes := h2
  kids := fun x hx => by
    refine ⟨(h3 x hx).1, (h3 x hx).2, ?_⟩
    obtain ⟨y, hy, A, c, rfl⟩ := t.mem hx
    exact (hg.kids y hy).2.2
  rl := by rw [t.rules]; exact hg.rl
  nl := by rw [t.len]; exact hg.nl
  rn := h4
  nn := h5
  texts := fun x hx => by
    obtain ⟨y, hy, A, c, rfl⟩ := t.mem hx
    exact hg.texts y hy
  names := by rw [t.rules]; exact hg.names
end Go.Proofs.YtlbjmkljmhfjdaaGreat

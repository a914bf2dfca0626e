/- A grammar that comes in. -/
import Derived.Test.YtjelgmdjmjnnfaaGreatB3
import Derived.Test.YtjelgmdjmjnnfaaGreatA9
import Derived.Test.YtjelgmdjmjnnfaaGreatB2
set_option linter.unusedSimpArgs false
set_option linter.unusedVariables false
namespace Go.Proofs.YtjelgmdjmjnnfaaGreat
open Go Go.ChangeShapes Go.WideShapes Go.ChangeAt Go.RowKit Go.Joins Go.Deep
theorem list2 {α : Type} (l : List α) (h : l.length = 2) : ∃ a b, l = [a, b] := by
  match l, h with
  | [a, b], _ => exact ⟨a, b, rfl⟩
set_option maxRecDepth 100000 in
theorem open_rule {H : Type} {enc : TypeId × Value → H} {W : World} {fuel : Nat} {cs : List Value} {x : DataW H × List MemPlace} (h : DataW.trod enc Tryz.prog W 0 (fun _ => true) true fuel 72 cs = some x) :
    ∃ r : Rl, cs = [.string r.name, .int .i64 r.body] ∧ r.name.size ≤ 9223372036854775807 := by
  obtain ⟨xs, n, _, rfl, hl, hlen, hf⟩ := DataW.trod_struct Tryz.underlying72 h
  rw [cells45] at hl
  obtain ⟨v0, v1, rfl⟩ := list2 cs hl
  obtain ⟨y0, y1, rfl⟩ := list2 xs hlen
  have g0 := hf 0 _ rfl
  have g1 := hf 1 _ rfl
  have k9 : Tryz.prog.cellsOf 9 = 1 := by kernel_rfl
  simp only [k9, cells3, List.drop_zero, List.drop_succ_cons, List.take_succ_cons, List.take_zero, List.getElem?_cons_zero, List.getElem?_cons_succ] at g0 g1
  obtain ⟨s, e0, _, hs⟩ := DataW.trod_string Tryz.underlying9 g0
  obtain ⟨a1, e1, _, _⟩ := DataW.trod_int Tryz.underlying3 g1
  obtain rfl := (List.cons.inj e0).1
  obtain rfl := (List.cons.inj e1).1
  exact ⟨⟨s, a1⟩, rfl, by unfold maxLen at hs; exact hs⟩
set_option maxRecDepth 100000 in
theorem open_rules {H : Type} {enc : TypeId × Value → H} {W : World} {fuel : Nat} {u : Value} {x : DataW H × List MemPlace} (h : DataW.trod enc Tryz.prog W 0 (fun _ => true) true fuel 22 [u] = some x) (hw : ∀ n ∈ x.1.weights Tryz.prog 22, n ≤ reachBytes) :
    ∃ (A : Option Addr) (l : List Rl) (c : Nat), u = .slice A l.length c ∧ (A = none → c = 0) ∧ l.length ≤ 140737488351232 ∧ Rules W A l ∧ ∀ r ∈ l, r.name.size ≤ 9223372036854775807 := by
  rcases Go.Deep.open_slice Tryz.underlying22 h with ⟨hcs, hx⟩ | ⟨a, len, cap, m, n, D, Pl, hcs, _, hl, hm, hmm, hx, hel⟩
  · simp at hcs
    subst hcs
    exact ⟨none, [], 0, rfl, fun _ => rfl, by simp, fun h => by simp at h, by simp⟩
  · simp at hcs
    subst hcs
    simp only [if_true] at hmm
    subst hmm
    rw [cells45] at hel
    subst hx
    have hlen8 : len ≤ 140737488351232 := by
      have h1 := hw ((((List.range len).map D).length + ((List.range (m - len)).map fun j => D (len + j)).length) * Tryz.prog.bytesOf 72) (by
        simp only [DataW.weights, Tryz.underlying22, List.mem_cons]
        exact .inl (by first | trivial | rfl))
      rw [bytes45] at h1
      simp at h1
      unfold reachBytes at h1
      omega
    have key : ∀ i, i < len → ∃ r : Rl, r.name.size ≤ 9223372036854775807 ∧ ∀ j, j < 2 → W.cell? ((a.add (i * 2)).add j) = [Value.string r.name, .int .i64 r.body][j]? := by
      intro i hi
      obtain ⟨cs', h1, h2⟩ := hel i (by omega)
      obtain ⟨r, rfl, hin⟩ := open_rule h2
      obtain ⟨_, hl2, hcell⟩ := World.cells?_some h1
      refine ⟨r, hin, fun j hj => ?_⟩
      rw [hcell j (by omega)]
    obtain ⟨f, hfk⟩ := Go.Deep.choose_lt key
    have hlen : ((List.range len).map f).length = len := by simp
    have hget : ∀ i, i < len → ((List.range len).map f).getD i Rl.zero = f i := fun i hi => by simp [List.getD, hi]
    refine ⟨some a, (List.range len).map f, m, by rw [hlen], (fun h => by cases h), by rw [hlen]; exact hlen8, fun h0 => ?_, fun r hr => ?_⟩
    · rw [hlen] at h0 ⊢
      obtain ⟨cs', h1, _⟩ := hel 0 (by omega)
      obtain ⟨hs, hb⟩ := addr_of h1 (by omega)
      obtain ⟨b, o, s⟩ := a
      have hs' : s = none := by
        simp only [Addr.add] at hs
        split at hs <;> simp_all
      subst hs'
      rw [Addr.add_lit] at hb
      refine ⟨b, o, rfl, hb, fun i hi => ?_⟩
      have q0 := (hfk i hi).2 0 (by omega)
      have q1 := (hfk i hi).2 1 (by omega)
      rw [Addr.add_lit, Addr.add_lit] at q0 q1
      rw [hget i hi]
      exact ⟨q0, q1⟩
    · obtain ⟨i, hi, rfl⟩ := List.mem_map.1 hr
      exact (hfk i (by simpa using hi)).1
theorem Tryz.fields25 : ∃ f0 f1 : Field, Tryz.prog.underlying 25 = some (.struct #[f0, f1]) ∧ f0.type = 22 ∧ f1.type = 23 ∧ oneCellFields Tryz.prog #[f0, f1] = true := ⟨_, _, Tryz.underlying25, rfl, rfl, by kernel_rfl⟩
set_option maxRecDepth 100000 in
/-- A grammar that came in. -/
theorem open_gram {H : Type} {enc : TypeId × Value → H} {W : World} {base : Nat} {v : Value} {d : DataW H} {p : List MemPlace}
    (hv : Value.okWide Tryz.prog W .any base 25 v) (h0 : DataW.Trod enc Tryz.prog W 0 (fun _ => true) true 25 v d p) (hw : ∀ n ∈ d.weights Tryz.prog 25, n ≤ reachBytes) :
    ∃ g : Gr, v = g.val ∧ Gr.At W g ∧ Gr.In g := by
  obtain ⟨f0, f1, hu, t0, t1, ho⟩ := Tryz.fields25
  obtain ⟨v0, v1, y0, y1, n, rfl, rfl, _, h1, h2⟩ := open_agg2 hu ho cells25 hv h0
  rw [t0] at h1
  rw [t1] at h2
  have hw0 : ∀ n ∈ y0.1.weights Tryz.prog 22, n ≤ reachBytes := fun n hn => hw n (by
    simp [DataW.weights, hu, DataW.weightsEach, t0]; exact .inl hn)
  have hw1 : ∀ n ∈ y1.1.weights Tryz.prog 23, n ≤ reachBytes := fun n hn => hw n (by
    simp [DataW.weights, hu, DataW.weightsEach, t1]; exact .inr hn)
  obtain ⟨RA, rs, rc, rfl, hrn, hrl, hR, hRs⟩ := open_rules h1 hw0
  obtain ⟨NA, ns, nc, rfl, hnn, hnl, hN, hNs⟩ := open_nodes h2 hw1
  exact ⟨⟨RA, rc, rs, NA, nc, ns⟩, rfl, ⟨hR, hN, fun x hx => (hNs x hx).1, hrl, hnl, hrn, hnn, fun x hx => (hNs x hx).2.2, hRs⟩, fun x hx => (hNs x hx).2⟩
end Go.Proofs.YtjelgmdjmjnnfaaGreat
namespace Go.Proofs.YtjelgmdjmjnnfaaGreat
/-- Bodies gone through from 'next' on; where the last one ends. -/
def march (l : List Nd) : List Rl → Int → Option Int
  | [], next => some next
  | r :: rs, next => if r.body = next then match after l 16 next with
    | some (to, _) => march l rs to
    | none => none
    else none
theorem march_bodies {l : List Nd} {ms : Nat → Meas} (h : Measured l ms 0) : ∀ (rs : List Rl) (next : Int), 0 ≤ next → march l rs next = bodies l.length ms rs next
  | [], _, _ => rfl
  | r :: rs, next, hn => by
    unfold march bodies
    by_cases hb : r.body = next
    · rw [if_pos hb]
      by_cases hl : next < l.length
      · have e : ((next.toNat : Nat) : Int) = next := by omega
        have := after_measured h 16 next.toNat (by omega)
        rw [e] at this
        have hm := h next.toNat (by omega) (by omega)
        by_cases h16 : (ms next.toNat).2 ≤ 16
        · rw [if_pos (by omega)] at this
          rw [this, if_pos ⟨hb, hl, h16⟩]
          exact march_bodies h rs _ (by omega)
        · rw [if_neg (by omega)] at this
          rw [this, if_neg (fun hh => h16 hh.2.2)]
      · have : after l 16 next = none := by rw [show (16 : Nat) = 15 + 1 from rfl, after, if_neg hl]
        rw [this, if_neg (fun hh => hl hh.2.1)]
    · rw [if_neg hb, if_neg (fun hh => hb hh.1)]
theorem march_cover {l : List Nd} : ∀ (rs : List Rl) (next to : Int), 0 ≤ next → march l rs next = some to → next ≤ to ∧ ∀ m : Nat, next ≤ m → (m : Int) < to → ∃ r, after l 16 m = some r
  | [], next, to, _, h => by simp [march] at h; subst h; exact ⟨by omega, fun m h1 h2 => by omega⟩
  | r :: rs, next, to, hn, h => by
    unfold march at h
    split at h
    · split at h
      · rename_i t h1 he
        have e : ((next.toNat : Nat) : Int) = next := by omega
        have he2 := he
        rw [← e] at he2
        obtain ⟨a1, a2, a3, a4, a5⟩ := after_cover 16 _ _ _ he2
        obtain ⟨b1, b2⟩ := march_cover rs t to (by omega) h
        exact ⟨by omega, fun m m1 m2 => by
          by_cases hm : (m : Int) < t
          · exact a5 m (by omega) hm
          · exact b2 m (by omega) m2⟩
      · cases h
    · cases h
theorem march_right {l : List Nd} {rs : List Rl} : march l rs 0 = some (l.length : Int) ↔ ∃ ms, Measured l ms 0 ∧ bodies l.length ms rs 0 = some (l.length : Int) := by
  constructor
  · intro h
    obtain ⟨_, hc⟩ := march_cover rs 0 _ (by omega) h
    obtain ⟨ms, hm⟩ := measured_of_after 16 (l := l) (fun m hl => hc m (by omega) (by omega))
    exact ⟨ms, hm, by rw [← march_bodies hm rs 0 (by omega)]; exact h⟩
  · rintro ⟨ms, hm, hb⟩
    rw [march_bodies hm rs 0 (by omega)]
    exact hb
theorem rightB_march {g : Gr} : rightB g = true ↔ (1 ≤ g.rules.length ∧ g.rules.length ≤ 32) ∧ g.nodes.length ≤ 2048 ∧ AllRight g.nodes g.rules.length ∧ Named g.rules ∧ march g.nodes g.rules 0 = some (g.nodes.length : Int) := by
  rw [rightB_true, march_right]
  exact ⟨fun h => ⟨h.rules, h.nodes, h.all, h.named, h.pre⟩, fun ⟨a, b, c, d, e⟩ => ⟨a, b, d, c, e⟩⟩
theorem march_ne {l : List Nd} {rs : List Rl} {i : Nat} (hi : i < rs.length) {next : Int} (hn : (rs.getD i Rl.zero).body ≠ next) : march l (rs.drop i) next = none := by
  rw [List.drop_eq_getElem_cons hi]
  have hgd : rs[i] = rs.getD i Rl.zero := by simp [List.getD, List.getElem?_eq_getElem hi]
  rw [hgd, march, if_neg hn]
theorem march_eq {l : List Nd} {rs : List Rl} {i : Nat} (hi : i < rs.length) {next : Int} (hn : (rs.getD i Rl.zero).body = next) : march l (rs.drop i) next = match after l 16 next with
    | some (to, _) => march l (rs.drop (i + 1)) to
    | none => none := by
  rw [List.drop_eq_getElem_cons hi]
  have hgd : rs[i] = rs.getD i Rl.zero := by simp [List.getD, List.getElem?_eq_getElem hi]
  rw [hgd, march, if_pos hn]
end Go.Proofs.YtjelgmdjmjnnfaaGreat
namespace Go.Proofs.YtjelgmdjmjnnfaaGreat
/-- By its Kind: what a node may, by its kids and by the rules that are in. -/
def stepMay (x : Nd) (may inn : Int → Bool) : Bool :=
  if x.kind = 1 ∨ x.kind = 8 ∨ x.kind = 10 ∨ x.kind = 11 ∨ x.kind = 12 then true
  else if x.kind = 6 ∨ x.kind = 9 then x.kids.all may
  else if x.kind = 7 then x.kids.any may
  else if x.kind = 5 then inn x.rule else false
def mayF (l : List Nd) (inn : Int → Bool) : Nat → Int → Bool
  | 0, _ => false
  | f + 1, n => stepMay (l.getD n.toNat Nd.zero) (mayF l inn f) inn
def mayN (l : List Nd) (inn : Int → Bool) (n : Int) : Bool := mayF l inn (l.length - n.toNat) n
/-- Kids stand behind. -/
def KidsUp (l : List Nd) : Prop := ∀ n, n < l.length → ∀ k ∈ (l.getD n Nd.zero).kids, (n : Int) < k ∧ k < l.length
theorem climb_kids {len : Nat} {ms : Nat → Meas} (n0 : Nat) (hs : ∀ m : Nat, n0 ≤ m → m < len → 1 ≤ (ms m).1) : ∀ (r : List Int) (next high to hh : Int), (n0 : Int) ≤ next → climb len ms r next high = some (to, hh) → ∀ k ∈ r, next ≤ k ∧ k < len
  | [], next, high, to, hh, _, h => by simp
  | k :: r, next, high, to, hh, hn, h => by
    unfold climb at h
    split at h
    · rename_i hk
      obtain ⟨rfl, hk2⟩ := hk
      have h1 := hs k.toNat (by omega) (by omega)
      have := climb_kids n0 hs r _ _ to hh (by omega) h
      intro j hj
      rcases List.mem_cons.1 hj with rfl | hj
      · omega
      · have := this j hj; omega
    · cases h
theorem Measured.kidsUp {l : List Nd} {ms : Nat → Meas} (h : Measured l ms 0) : KidsUp l := by
  intro n hn k hk
  have := climb_kids (n + 1) (fun m hm hl => (h m (by omega) hl).1) _ _ _ _ _ (by omega) (h n (by omega) hn).2.2.2 k hk
  omega
theorem Right.kidsUp {g : Gr} (h : Right g) : KidsUp g.nodes := by
  obtain ⟨ms, hm, _⟩ := h.pre
  exact hm.kidsUp
theorem all_same {p q : Int → Bool} : ∀ {l : List Int}, (∀ k ∈ l, p k = q k) → l.all p = l.all q
  | [], _ => rfl
  | a :: l, h => by
    simp only [List.all_cons]
    rw [h a (List.mem_cons_self ..), all_same fun k hk => h k (List.mem_cons_of_mem _ hk)]
theorem any_same {p q : Int → Bool} : ∀ {l : List Int}, (∀ k ∈ l, p k = q k) → l.any p = l.any q
  | [], _ => rfl
  | a :: l, h => by
    simp only [List.any_cons]
    rw [h a (List.mem_cons_self ..), any_same fun k hk => h k (List.mem_cons_of_mem _ hk)]
theorem stepMay_congr {x : Nd} {m m' i i' : Int → Bool} (hk : ∀ k ∈ x.kids, m k = m' k) (hi : x.kind = 5 → i x.rule = i' x.rule) : stepMay x m i = stepMay x m' i' := by
  have e1 : x.kids.all m = x.kids.all m' := all_same hk
  have e2 : x.kids.any m = x.kids.any m' := any_same hk
  unfold stepMay
  rw [e1, e2]
  split
  · rfl
  · split
    · rfl
    · split
      · rfl
      · split
        · rename_i h; exact hi h
        · rfl
theorem mayF_fuel {l : List Nd} (hl : KidsUp l) (inn : Int → Bool) : ∀ (f f' : Nat) (n : Int), 0 ≤ n → n < l.length → (l.length : Int) - n ≤ f → (l.length : Int) - n ≤ f' → mayF l inn f n = mayF l inn f' n
  | 0, f', n, h0, h1, h2, _ => by omega
  | f + 1, 0, n, h0, h1, _, h2 => by omega
  | f + 1, f' + 1, n, h0, h1, h2, h3 => by
    unfold mayF
    refine stepMay_congr (fun k hk => ?_) (fun _ => rfl)
    have := hl n.toNat (by omega) k hk
    exact mayF_fuel hl inn f f' k (by omega) (by omega) (by omega) (by omega)
theorem mayN_eq {l : List Nd} (hl : KidsUp l) (inn : Int → Bool) {n : Int} (h0 : 0 ≤ n) (h1 : n < l.length) : mayN l inn n = stepMay (l.getD n.toNat Nd.zero) (mayN l inn) inn := by
  unfold mayN
  obtain ⟨f, ef⟩ : ∃ f, l.length - n.toNat = f + 1 := ⟨l.length - n.toNat - 1, by omega⟩
  rw [ef]
  show stepMay _ _ _ = _
  refine stepMay_congr (fun k hk => ?_) (fun _ => rfl)
  have := hl n.toNat (by omega) k hk
  exact mayF_fuel hl inn _ _ k (by omega) (by omega) (by omega) (by omega)
/-- Whatever answers so, node by node, is it. -/
theorem mayN_unique {l : List Nd} (hl : KidsUp l) (inn m : Int → Bool) {lo : Int} (hlo : 0 ≤ lo) (h : ∀ n : Int, lo ≤ n → n < l.length → m n = stepMay (l.getD n.toNat Nd.zero) m inn) : ∀ (d : Nat) (n : Int), lo ≤ n → n < l.length → (l.length : Int) - n ≤ d → m n = mayN l inn n
  | 0, n, h0, h1, hd => by omega
  | d + 1, n, h0, h1, hd => by
    rw [h n h0 h1, mayN_eq hl inn (by omega) h1]
    refine stepMay_congr (fun k hk => ?_) (fun _ => rfl)
    have := hl n.toNat (by omega) k hk
    exact mayN_unique hl inn m hlo h d k (by omega) (by omega) (by omega)
theorem stepMay_mono {x : Nd} {m m' i i' : Int → Bool} (hk : ∀ k ∈ x.kids, m k = true → m' k = true) (hi : i x.rule = true → i' x.rule = true) (h : stepMay x m i = true) : stepMay x m' i' = true := by
  unfold stepMay at h ⊢
  split
  · rfl
  · rename_i h1
    rw [if_neg h1] at h
    split
    · rename_i h2
      rw [if_pos h2] at h
      simp only [List.all_eq_true] at h ⊢
      exact fun k hx => hk k hx (h k hx)
    · rename_i h2
      rw [if_neg h2] at h
      split
      · rename_i h3
        rw [if_pos h3] at h
        simp only [List.any_eq_true] at h ⊢
        obtain ⟨k, hx, hm⟩ := h
        exact ⟨k, hx, hk k hx hm⟩
      · rename_i h3
        rw [if_neg h3] at h
        split
        · rename_i h4
          rw [if_pos h4] at h
          exact hi h
        · rename_i h4
          rw [if_neg h4] at h
          exact h
theorem mayF_mono {l : List Nd} {i i' : Int → Bool} (hi : ∀ k, i k = true → i' k = true) : ∀ (f : Nat) (n : Int), mayF l i f n = true → mayF l i' f n = true
  | 0, n, h => h
  | f + 1, n, h => stepMay_mono (fun k _ hk => mayF_mono hi f k hk) (hi _) h
theorem mayN_mono {l : List Nd} {i i' : Int → Bool} (hi : ∀ k, i k = true → i' k = true) {n : Int} (h : mayN l i n = true) : mayN l i' n = true := mayF_mono hi _ n h
/-- The rules that are in, by a row of ranks. -/
def inB (r : List Int) (i : Int) : Bool := decide (0 < r.getD i.toNat 0)
/-- Whether a rule comes in next. -/
def comB (g : Gr) (r : List Int) (i : Nat) : Bool := !inB r i && mayN g.nodes (inB r) (g.rules.getD i Rl.zero).body
/-- The ranks behind so many rounds. -/
def rk (g : Gr) : Nat → List Int
  | 0 => List.replicate g.rules.length 0
  | k + 1 => (List.range g.rules.length).map fun i => if comB g (rk g k) i then ((k : Int) + 1) else (rk g k).getD i 0
/-- Who comes in behind so many rounds. -/
def com (g : Gr) (k : Nat) : List Nat := (List.range g.rules.length).filter (comB g (rk g k))
/-- All ranks. -/
def ranks (g : Gr) : List Int := rk g g.rules.length
theorem rk_length (g : Gr) : ∀ k, (rk g k).length = g.rules.length
  | 0 => by simp [rk]
  | k + 1 => by simp [rk]
theorem rk_next (g : Gr) (k i : Nat) (hi : i < g.rules.length) : (rk g (k + 1)).getD i 0 = if comB g (rk g k) i then ((k : Int) + 1) else (rk g k).getD i 0 := by
  simp [rk, List.getD, hi]
theorem rk_zero (g : Gr) (i : Nat) : (rk g 0).getD i 0 = 0 := by
  simp only [rk, List.getD, List.getElem?_replicate]
  split <;> rfl
theorem rk_bound (g : Gr) : ∀ (k i : Nat), 0 ≤ (rk g k).getD i 0 ∧ (rk g k).getD i 0 ≤ k
  | 0, i => by rw [rk_zero]; omega
  | k + 1, i => by
    by_cases hi : i < g.rules.length
    · rw [rk_next g k i hi]
      have := rk_bound g k i
      split <;> omega
    · have : (rk g (k + 1)).getD i 0 = 0 := by simp [List.getD, List.getElem?_eq_none (show (rk g (k + 1)).length ≤ i by rw [rk_length]; omega)]
      rw [this]; omega
theorem rk_keeps (g : Gr) (k i : Nat) (h : 0 < (rk g k).getD i 0) : (rk g (k + 1)).getD i 0 = (rk g k).getD i 0 := by
  have hi : i < g.rules.length := by
    apply Classical.byContradiction
    intro hn
    rw [show (rk g k).getD i 0 = 0 by simp [List.getD, List.getElem?_eq_none (show (rk g k).length ≤ i by rw [rk_length]; omega)]] at h
    omega
  rw [rk_next g k i hi, if_neg]
  have e : inB (rk g k) i = true := by unfold inB; simpa using h
  unfold comB
  rw [e]
  simp
theorem rk_keep (g : Gr) (k i : Nat) (h : 0 < (rk g k).getD i 0) : ∀ d, (rk g (k + d)).getD i 0 = (rk g k).getD i 0
  | 0 => rfl
  | d + 1 => by
    have := rk_keep g k i h d
    rw [← Nat.add_assoc, rk_keeps g (k + d) i (by omega), this]
/-- A rank, once told, tells the round. -/
theorem rk_when (g : Gr) (i : Nat) : ∀ (d k : Nat), (rk g (k + d)).getD i 0 ≤ k → (rk g (k + d)).getD i 0 = (rk g k).getD i 0
  | 0, k, _ => rfl
  | d + 1, k, h => by
    rw [← Nat.add_assoc] at h ⊢
    by_cases hi : i < g.rules.length
    · rw [rk_next g (k + d) i hi] at h ⊢
      split at h
      · omega
      · rename_i hc
        rw [if_neg hc]
        exact rk_when g i d k h
    · have e : ∀ j, (rk g j).getD i 0 = 0 := fun j => by simp [List.getD, List.getElem?_eq_none (show (rk g j).length ≤ i by rw [rk_length]; omega)]
      rw [e, e]
theorem rk_below (g : Gr) (i d k : Nat) : (rk g k).getD i 0 = if (rk g (k + d)).getD i 0 ≤ k then (rk g (k + d)).getD i 0 else 0 := by
  split
  · rename_i h; exact (rk_when g i d k h).symm
  · rename_i h
    have h0 := (rk_bound g k i)
    apply Classical.byContradiction
    intro hn
    have := rk_keep g k i (by omega) d
    omega
/-- Once none comes in, none ever does. -/
theorem rk_stay (g : Gr) (k : Nat) (h : com g k = []) : ∀ d, rk g (k + d) = rk g k
  | 0 => rfl
  | d + 1 => by
    have e := rk_stay g k h d
    rw [← Nat.add_assoc]
    have hc : ∀ i, i < g.rules.length → comB g (rk g k) i = false := fun i hi => by
      unfold com at h
      rw [List.filter_eq_nil_iff] at h
      simpa using h i (List.mem_range.2 hi)
    apply List.ext_getElem?
    intro i
    by_cases hi : i < g.rules.length
    · have := rk_next g (k + d) i hi
      rw [e, hc i hi] at this
      simp only [Bool.false_eq_true, if_false] at this
      rw [List.getElem?_eq_getElem (by rw [rk_length]; exact hi), List.getElem?_eq_getElem (by rw [rk_length]; exact hi)]
      simp only [List.getD, List.getElem?_eq_getElem (show i < (rk g (k + d + 1)).length by rw [rk_length]; exact hi), List.getElem?_eq_getElem (show i < (rk g k).length by rw [rk_length]; exact hi), Option.getD_some] at this
      rw [this]
    · rw [List.getElem?_eq_none (by rw [rk_length]; omega), List.getElem?_eq_none (by rw [rk_length]; omega)]
def inCount (g : Gr) (k : Nat) : Nat := ((List.range g.rules.length).filter fun i => decide (0 < (rk g k).getD i 0)).length
theorem filter_more {p q : Nat → Bool} : ∀ (l : List Nat), (∀ i ∈ l, p i = true → q i = true) → (l.filter p).length ≤ (l.filter q).length ∧ ((∃ i ∈ l, p i = false ∧ q i = true) → (l.filter p).length < (l.filter q).length)
  | [], _ => by simp
  | a :: l, h => by
    obtain ⟨h1, h2⟩ := filter_more l (fun i hi => h i (List.mem_cons_of_mem _ hi))
    have ha := h a (List.mem_cons_self ..)
    simp only [List.filter_cons]
    cases hp : p a <;> cases hq : q a
    · simp only [Bool.false_eq_true, if_false]
      refine ⟨h1, fun ⟨i, hi, hpi⟩ => h2 ⟨i, ?_, hpi⟩⟩
      rcases List.mem_cons.1 hi with rfl | hi
      · rw [hq] at hpi; cases hpi.2
      · exact hi
    · simp only [Bool.false_eq_true, if_false, if_true, List.length_cons]
      exact ⟨by omega, fun _ => by omega⟩
    · rw [ha hp] at hq; cases hq
    · simp only [if_true, List.length_cons]
      refine ⟨by omega, fun ⟨i, hi, hpi⟩ => ?_⟩
      rcases List.mem_cons.1 hi with rfl | hi
      · rw [hp] at hpi; cases hpi.1
      · have := h2 ⟨i, hi, hpi⟩; omega
theorem inCount_up (g : Gr) (k : Nat) (h : com g k ≠ []) : inCount g k < inCount g (k + 1) := by
  refine (filter_more _ ?_).2 ?_
  · intro i _ hp
    simp only [decide_eq_true_eq] at hp ⊢
    rw [rk_keeps g k i hp]; exact hp
  · obtain ⟨i, hi⟩ := List.exists_mem_of_ne_nil _ h
    obtain ⟨hi, hc⟩ := List.mem_filter.1 hi
    refine ⟨i, hi, ?_, ?_⟩
    · unfold comB inB at hc
      simp only [Bool.and_eq_true, Bool.not_eq_true', Int.toNat_natCast] at hc
      exact hc.1
    · rw [rk_next g k i (List.mem_range.1 hi), if_pos hc]
      simp; try omega
theorem least {P : Nat → Prop} : ∀ n, P n → ∃ m, P m ∧ ∀ k, k < m → ¬ P k := by
  intro n
  induction n using Nat.strongRecOn with
  | ind n ih =>
    intro hn
    by_cases h : ∃ k, k < n ∧ P k
    · obtain ⟨k, hk, hp⟩ := h
      exact ih k hk hp
    · exact ⟨n, hn, fun k hk hp => h ⟨k, hk, hp⟩⟩
/-- There are no more rounds than rules. -/
theorem rounds_end (g : Gr) : ∃ N, N ≤ g.rules.length ∧ com g N = [] ∧ ∀ k, k < N → com g k ≠ [] := by
  have h : ∃ N, com g N = [] := by
    apply Classical.byContradiction
    intro hn
    have hc : ∀ k, k ≤ inCount g k := fun k => by
      induction k with
      | zero => omega
      | succ k ih => have := inCount_up g k (fun e => hn ⟨k, e⟩); omega
    have h1 := hc (g.rules.length + 1)
    have h2 : inCount g (g.rules.length + 1) ≤ g.rules.length := by
      unfold inCount
      exact Nat.le_trans (List.length_filter_le ..) (by simp)
    omega
  obtain ⟨N0, h0⟩ := h
  obtain ⟨N, hN, hm⟩ := least (P := fun n => com g n = []) N0 h0
  refine ⟨N, ?_, hN, hm⟩
  have hc : ∀ k, k ≤ N → k ≤ inCount g k := fun k => by
    induction k with
    | zero => omega
    | succ k ih => intro hk; have := inCount_up g k (hm k (by omega)); have := ih (by omega); omega
  have h1 := hc N (Nat.le_refl _)
  have h2 : inCount g N ≤ g.rules.length := by
    unfold inCount
    exact Nat.le_trans (List.length_filter_le ..) (by simp)
  omega
theorem ranks_fix (g : Gr) {N : Nat} (h1 : N ≤ g.rules.length) (h2 : com g N = []) : ranks g = rk g N := by
  unfold ranks
  obtain ⟨d, hd⟩ : ∃ d, g.rules.length = N + d := ⟨g.rules.length - N, by omega⟩
  rw [hd]
  exact rk_stay g N h2 d
end Go.Proofs.YtjelgmdjmjnnfaaGreat
namespace Go.Proofs.YtjelgmdjmjnnfaaGreat
open Go Go.RowKit
noncomputable def allB (l : List Nd) (r : Int) : Bool := by classical exact decide (AllRight l r)
theorem allB_true {l : List Nd} {r : Int} (h : AllRight l r) : allB l r = true := by unfold allB; simp [h]
theorem allB_false {l : List Nd} {r : Int} (i : Nat) (hi : i < l.length) (h : nodeOk (l.getD i Nd.zero) r = false) : allB l r = false := by
  unfold allB; simp; intro hn; rw [hn i hi] at h; cases h
set_option maxRecDepth 100000 in
set_option maxHeartbeats 4000000 in
theorem allRight_any (g : Gr) (w : World) (hg : Gr.At w g) (hin : Gr.In g) : Calls Tryz.prog 177 #[g.val] w fun e w' => e = .returned (.bool (allB g.nodes g.rules.length)) ∧ Below w.heap.size w w' := by
  have HG := Lib.hid hg
  have HIN := Lib.hid hin
  have hr := hg.rl
  have hn := hg.nl
  obtain ⟨r, er⟩ : ∃ r, r = g.rules.length := ⟨_, rfl⟩
  have NT := Lib.hid (allB_true (l := g.nodes) (r := g.rules.length))
  have NN := Lib.hid (allB_false (l := g.nodes) (r := g.rules.length))
  obtain ⟨v, ev⟩ : ∃ v, v = allB g.nodes g.rules.length := ⟨_, rfl⟩
  rw [← ev] at NT NN ⊢
  show Calls Tryz.prog 177 #[.agg #[.slice g.RA g.rules.length g.rc, .slice g.NA g.nodes.length g.nc]] w _
  rw [← er] at NT NN hr ⊢
  obtain ⟨m, em⟩ : ∃ m, m = g.nodes.length := ⟨_, rfl⟩
  have EM := Lib.hid em
  rw [← em] at hn ⊢
  clear hg hin ev er em
  go_enter Tryz.func177, Tryz.ntmps177
  go_wp2_with (go_at_call 191; refine (takers_any _).mono ?_; rintro e w1 ⟨rfl, hT, hb⟩; have HT0 := Lib.hid hT; have HB0 := Lib.hid (bb (B1 w _) hb); have HZ := Lib.hid hb.size; have KB := Lib.hid ((Blk.new w _ _).below' hb); have d0 := KB.out.cell 0; have d1 := KB.out.cell 1; simp only [List.getElem?_toArray, List.getElem?_cons_zero, List.getElem?_cons_succ] at d0 d1; clear hT hb)
  clear d0 d1
  obtain ⟨tb, etb⟩ : ∃ tb, tb = w.heap.size + 1 := ⟨_, rfl⟩
  have HT : RowKit.Hid (Takers w1 tb) := Lib.hid (by rw [etb]; have := HT0.out; rw [World.size_alloc] at this; exact this)
  rw [← etb]
  clear HT0 etb
  go_loopw [10, 5] (fun i _ wr => ∃ k : Nat, k ≤ m ∧ i = .int .i64 k ∧ (∀ j, j < k → nodeOk (g.nodes.getD j Nd.zero) r = true) ∧ Below w1.heap.size w1 wr) (fun i _ _ => m - (intOf i).toNat)
  case atStart => exact ⟨0, by omega, rfl, fun j h => by omega, Below.refl _ _⟩
  case round =>
    obtain ⟨k, hk, rfl, ht, hbl⟩ := hrel
    have HTT := Lib.hid ht
    have BL := Lib.hid (bb HB0.out hbl)
    have HBL := Lib.hid hbl
    clear ht hbl
    by_cases hlt : k < m
    · have hlt2 : (k : Int) < m := by omega
      obtain ⟨b1, o1, eA, _, c1, c2, c3, c4, c5, c6, c7, c8, c9⟩ := (HG.out.below BL.out).nodes.nine (show k < g.nodes.length by have := EM.out; omega)
      have hat := Lib.hid ((HG.out.below BL.out).node (show k < g.nodes.length by have := EM.out; omega))
      have hin := Lib.hid (HIN.out (g.nodes.getD k Nd.zero) (getD_mem (by have := EM.out; omega)))
      have NK := Lib.hid (NN.out k (by have := EM.out; omega))
      generalize hx : g.nodes.getD k Nd.zero = x at c1 c2 c3 c4 c5 c6 c7 c8 c9 hat hin NK
      have HX := Lib.hid hx
      have RR := Lib.hid (fun (w' : World) (h : Below wr.heap.size wr w') => right_any x r tb w' (hat.out.below h) hin.out (HT.out.below (bb HBL.out h)))
      obtain ⟨no, en⟩ : ∃ no, no = nodeOk x r := ⟨_, rfl⟩
      rw [← en] at RR NK
      have EN := Lib.hid en
      rw [eA]
      clear en hx eA
      have cb : ∀ o, (wr.alloc o).cell? ⟨w.heap.size, 0, none⟩ = some (.slice g.RA r g.rc) := fun o => ((KB.out.below' HBL.out).alloc o).cell 0
      cases no with
      | false =>
        go_wp2_with (go_at_call 192; refine (RR.out _ (B1 _ _)).mono ?_; rintro e w2 ⟨rfl, hb⟩; have H1 := Lib.hid (bb (BL.out.alloc BL.out.size _) hb); clear hb)
        go_ret
        exact ⟨ret_bool (NK.out (by first | rfl | trivial)).symm, H1.out⟩
      | true =>
        go_wp2_with (go_at_call 192; refine (RR.out _ (B1 _ _)).mono ?_; rintro e w2 ⟨rfl, hb⟩; have H1 := Lib.hid (bb (HBL.out.alloc HBL.out.size _) hb); clear hb)
        go_roundw
        case rel => exact ⟨k + 1, by omega, by go_num, fun j hj => by
            by_cases ej : j = k
            · subst ej; rw [HX.out]; exact EN.out.symm
            · exact HTT.out j (by omega), H1.out⟩
        case measure => simp [intOf]; omega
    · obtain rfl : k = m := by omega
      have hlt2 : ¬ (k : Int) < k := by omega
      go_wp2_with fail
      go_ret
      exact ⟨ret_bool (NT.out (fun i hi => HTT.out i (by have := EM.out; omega))).symm, BL.out⟩
def bodB (m : Nat) (ms : Nat → Meas) (l : List Rl) : Bool := decide (bodies m ms l 0 = some (m : Int))
set_option maxRecDepth 100000 in
set_option maxHeartbeats 4000000 in
theorem bodied_any (A : Option Addr) (c : Nat) (l : List Rl) (hl : l.length ≤ 140737488351232) (gb m : Nat) (ms : Nat → Meas) (hm : m ≤ 2048) (hms : ∀ i, i < m → 1 ≤ (ms i).1 ∧ 1 ≤ (ms i).2 ∧ (i : Int) + (ms i).1 ≤ m) (w : World) (hA : Rules w A l) (hM : MeasAt w (.slice (some ⟨gb, 0, none⟩) m m) m ms) :
    Calls Tryz.prog 179 #[.slice A l.length c, .slice (some ⟨gb, 0, none⟩) m m] w fun e w' => e = .returned (.bool (bodB m ms l)) ∧ Below w.heap.size w w' := by
  have HA := Lib.hid hA
  have HM := Lib.hid hM
  have HS := Lib.hid hms
  obtain ⟨F, eF⟩ : ∃ F, F = bodies m ms l 0 := ⟨_, rfl⟩
  have HV := Lib.hid (show bodB m ms l = decide (F = some (m : Int)) by unfold bodB; rw [eF])
  obtain ⟨v, ev⟩ : ∃ v, v = bodB m ms l := ⟨_, rfl⟩
  rw [← ev] at HV ⊢
  obtain ⟨r, er⟩ : ∃ r, r = l.length := ⟨_, rfl⟩
  rw [← er] at hl ⊢
  have ER := Lib.hid er
  have EF := Lib.hid eF
  clear hA hM hms eF ev er
  go_enter Tryz.func179, Tryz.ntmps179
  go_wp2_with fail
  go_loopw [10, 5, 7] (fun i nx _ wr => ∃ (k n : Nat), k ≤ r ∧ i = .int .i64 k ∧ nx = .int .i64 n ∧ n ≤ m ∧ bodies m ms (l.drop k) n = F ∧ Below w.heap.size w wr) (fun i _ _ _ => r - (intOf i).toNat)
  case atStart => exact ⟨0, 0, by omega, rfl, rfl, by omega, by rw [EF.out]; simp, Below.refl _ _⟩
  case round =>
    obtain ⟨k, n, hk, rfl, rfl, hn, hcl, hbl⟩ := hrel
    have BL := Lib.hid hbl
    clear hbl
    by_cases hlt : k < r
    · have hlt2 : (k : Int) < r := by omega
      obtain ⟨b1, o1, rfl, _, c1, c2⟩ := (HA.out.below BL.out).two (show k < l.length by have := ER.out; omega)
      have hkl : k < l.length := by have := ER.out; omega
      rw [List.drop_eq_getElem_cons hkl] at hcl
      have hgd : l[k] = l.getD k Rl.zero := by simp [List.getD, List.getElem?_eq_getElem hkl]
      rw [hgd] at hcl
      generalize l.getD k Rl.zero = x at hcl c1 c2
      unfold bodies at hcl
      by_cases hok : x.body = n ∧ (n : Int) < m ∧ (ms (n : Int).toNat).2 ≤ 16
      · rw [if_pos hok] at hcl
        obtain ⟨h1, h2, h3⟩ := hok
        have hnm : n < m := by omega
        obtain ⟨gb', eg, _, hmc⟩ := HM.out.below BL.out
        cases eg
        obtain ⟨d1, d2⟩ := hmc n hnm
        obtain ⟨s1, s2, s3⟩ := HS.out n hnm
        rw [Int.toNat_natCast] at hcl h3
        have e1 := fun o => (Below.cell (B1 wr o) (p := ⟨gb, n * 2, none⟩) (World.block_lt_of_cell? _ _ d1)).trans d1
        have e2 := fun o => (Below.cell (B1 wr o) (p := ⟨gb, n * 2 + 1, none⟩) (World.block_lt_of_cell? _ _ d2)).trans d2
        generalize ms n = mn at s1 s2 s3 e1 e2 d1 d2 hcl h3
        obtain ⟨sz, ht⟩ := mn
        dsimp only at s1 s2 s3 e1 e2 d1 d2 hcl h3
        obtain ⟨n', hn'⟩ : ∃ n' : Nat, (n' : Int) = n + sz := ⟨(n + sz).toNat, by omega⟩
        rw [← hn'] at hcl
        have HCL := Lib.hid hcl
        have HN' := Lib.hid hn'
        have hb : (x.body != (n : Int)) = false := by simpa using h1
        clear hcl hgd hmc hn' h1
        go_wp2_with fail
        go_roundw
        case rel => exact ⟨k + 1, n', by omega, by go_num, by have := HN'.out; simp only [Value.int.injEq, true_and]; omega, by have := HN'.out; omega, HCL.out, BL.out.alloc BL.out.size _⟩
        case measure => simp [intOf]; omega
      · rw [if_neg hok] at hcl
        have HF := Lib.hid hcl
        clear hcl hgd
        have VF : RowKit.Hid (v = false) := Lib.hid (by rw [HV.out, ← HF.out]; rfl)
        by_cases h1 : x.body = n
        · have hb : (x.body != (n : Int)) = false := by simpa using h1
          by_cases h2 : n < m
          · have h2' : (n : Int) < m := by omega
            have h2'' : ¬ m ≤ n := by omega
            obtain ⟨gb', eg, _, hmc⟩ := HM.out.below BL.out
            cases eg
            obtain ⟨d1, d2⟩ := hmc n h2
            have h3 : 16 < (ms n).2 := by
              by_cases h : (ms n).2 ≤ 16
              · exact absurd ⟨h1, h2', by rw [Int.toNat_natCast]; exact h⟩ hok
              · omega
            have e2 := fun o => (Below.cell (B1 wr o) (p := ⟨gb, n * 2 + 1, none⟩) (World.block_lt_of_cell? _ _ d2)).trans d2
            generalize ms n = mn at d1 d2 h3 e2
            obtain ⟨sz, ht⟩ := mn
            dsimp only at d1 d2 h3 e2
            clear hok hmc h1
            go_wp2_with fail
            go_ret
            exact ⟨ret_bool VF.out.symm, BL.out.alloc BL.out.size _⟩
          · have h2' : ¬ (n : Int) < m := by omega
            have h2'' : m ≤ n := by omega
            have h2b : (m : Int) ≤ n := by omega
            clear hok h1
            go_wp2_with fail
            go_ret
            exact ⟨ret_bool VF.out.symm, BL.out.alloc BL.out.size _⟩
        · have hb : (x.body != (n : Int)) = true := by simpa using h1
          clear hok h1
          go_wp2_with fail
          go_ret
          exact ⟨ret_bool VF.out.symm, BL.out.alloc BL.out.size _⟩
    · obtain rfl : k = r := by omega
      have hlt2 : ¬ (k : Int) < k := by omega
      have hd : l.drop k = [] := List.drop_eq_nil_of_le (by have := ER.out; omega)
      rw [hd, bodies] at hcl
      have HCL := Lib.hid hcl
      clear hcl hd
      go_wp2_with fail
      go_ret
      exact ⟨ret_bool (by rw [HV.out, ← HCL.out, Bool.eq_iff_iff]; simp), BL.out⟩
end Go.Proofs.YtjelgmdjmjnnfaaGreat

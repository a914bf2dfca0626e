/- A grammar that comes in. -/
import Derived.Test.YtlbjmkljmhfjdaaGreatB1
import Derived.Test.YtlbjmkljmhfjdaaGreatA7
import Derived.Test.YtlbjmkljmhfjdaaGreatA9
import Derived.Maps.AppendAt
import Derived.Laws.OwnMore
import Derived.Test.YtlbjmkljmhfjdaaGreatA5
import Derived.Test.YtlbjmkljmhfjdaaGreatA6
set_option linter.unusedSimpArgs false
set_option linter.unusedVariables false
namespace Go.Proofs.YtlbjmkljmhfjdaaGreat
open Go Go.ChangeShapes Go.WideShapes Go.ChangeAt Go.RowKit Go.Joins Go.Deep
theorem list2 {α : Type} (l : List α) (h : l.length = 2) : ∃ a b, l = [a, b] := by
  match l, h with
  | [a, b], _ => exact ⟨a, b, rfl⟩
set_option maxRecDepth 100000 in
theorem open_rule {H : Type} {enc : TypeId × Value → H} {W : World} {fuel : Nat} {cs : List Value} {x : DataW H × List MemPlace} (h : DataW.trod enc Tryz.prog W 0 (fun _ => true) true fuel 124 cs = some x) :
    ∃ r : Rl, cs = [.string r.name, .int .i64 r.body] ∧ r.name.size ≤ 9223372036854775807 := by
  obtain ⟨xs, n, _, rfl, hl, hlen, hf⟩ := DataW.trod_struct Tryz.underlying124 h
  rw [cells45] at hl
  obtain ⟨v0, v1, rfl⟩ := list2 cs hl
  obtain ⟨y0, y1, rfl⟩ := list2 xs hlen
  have g0 := hf 0 _ rfl
  have g1 := hf 1 _ rfl
  have k9 : Tryz.prog.cellsOf 9 = 1 := by kernel_rfl
  simp only [k9, cells3, List.drop_zero, List.drop_succ_cons, List.take_succ_cons, List.take_zero, List.getElem?_cons_zero, List.getElem?_cons_succ] at g0 g1
  obtain ⟨s, e0, _, hs⟩ := DataW.trod_string Tryz.underlying9 g0
  obtain ⟨a1, e1, _, _⟩ := DataW.trod_int Tryz.underlying3 g1
  obtain rfl := (List.cons.inj e0).1
  obtain rfl := (List.cons.inj e1).1
  exact ⟨⟨s, a1⟩, rfl, by unfold maxLen at hs; exact hs⟩
set_option maxRecDepth 100000 in
theorem open_rules {H : Type} {enc : TypeId × Value → H} {W : World} {fuel : Nat} {u : Value} {x : DataW H × List MemPlace} (h : DataW.trod enc Tryz.prog W 0 (fun _ => true) true fuel 22 [u] = some x) (hw : ∀ n ∈ x.1.weights Tryz.prog 22, n ≤ reachBytes) :
    ∃ (A : Option Addr) (l : List Rl) (c : Nat), u = .slice A l.length c ∧ (A = none → c = 0) ∧ l.length ≤ 140737488351232 ∧ Rules W A l ∧ ∀ r ∈ l, r.name.size ≤ 9223372036854775807 := by
  rcases Go.Deep.open_slice Tryz.underlying22 h with ⟨hcs, hx⟩ | ⟨a, len, cap, m, n, D, Pl, hcs, _, hl, hm, hmm, hx, hel⟩
  · simp at hcs
    subst hcs
    exact ⟨none, [], 0, rfl, fun _ => rfl, by simp, fun h => by simp at h, by simp⟩
  · simp at hcs
    subst hcs
    simp only [if_true] at hmm
    subst hmm
    rw [cells45] at hel
    subst hx
    have hlen8 : len ≤ 140737488351232 := by
      have h1 := hw ((((List.range len).map D).length + ((List.range (m - len)).map fun j => D (len + j)).length) * Tryz.prog.bytesOf 124) (by
        simp only [DataW.weights, Tryz.underlying22, List.mem_cons]
        exact .inl (by first | trivial | rfl))
      rw [bytes45] at h1
      simp at h1
      unfold reachBytes at h1
      omega
    have key : ∀ i, i < len → ∃ r : Rl, r.name.size ≤ 9223372036854775807 ∧ ∀ j, j < 2 → W.cell? ((a.add (i * 2)).add j) = [Value.string r.name, .int .i64 r.body][j]? := by
      intro i hi
      obtain ⟨cs', h1, h2⟩ := hel i (by omega)
      obtain ⟨r, rfl, hin⟩ := open_rule h2
      obtain ⟨_, hl2, hcell⟩ := World.cells?_some h1
      refine ⟨r, hin, fun j hj => ?_⟩
      rw [hcell j (by omega)]
    obtain ⟨f, hfk⟩ := Go.Deep.choose_lt key
    have hlen : ((List.range len).map f).length = len := by simp
    have hget : ∀ i, i < len → ((List.range len).map f).getD i Rl.zero = f i := fun i hi => by simp [List.getD, hi]
    refine ⟨some a, (List.range len).map f, m, by rw [hlen], (fun h => by cases h), by rw [hlen]; exact hlen8, fun h0 => ?_, fun r hr => ?_⟩
    · rw [hlen] at h0 ⊢
      obtain ⟨cs', h1, _⟩ := hel 0 (by omega)
      obtain ⟨hs, hb⟩ := addr_of h1 (by omega)
      obtain ⟨b, o, s⟩ := a
      have hs' : s = none := by
        simp only [Addr.add] at hs
        split at hs <;> simp_all
      subst hs'
      rw [Addr.add_lit] at hb
      refine ⟨b, o, rfl, hb, fun i hi => ?_⟩
      have q0 := (hfk i hi).2 0 (by omega)
      have q1 := (hfk i hi).2 1 (by omega)
      rw [Addr.add_lit, Addr.add_lit] at q0 q1
      rw [hget i hi]
      exact ⟨q0, q1⟩
    · obtain ⟨i, hi, rfl⟩ := List.mem_map.1 hr
      exact (hfk i (by simpa using hi)).1
theorem Tryz.fields25 : ∃ f0 f1 : Field, Tryz.prog.underlying 25 = some (.struct #[f0, f1]) ∧ f0.type = 22 ∧ f1.type = 23 ∧ oneCellFields Tryz.prog #[f0, f1] = true := ⟨_, _, Tryz.underlying25, rfl, rfl, by kernel_rfl⟩
set_option maxRecDepth 100000 in
/-- A grammar that came in. -/
theorem open_gram {H : Type} {enc : TypeId × Value → H} {W : World} {base : Nat} {v : Value} {d : DataW H} {p : List MemPlace}
    (hv : Value.okWide Tryz.prog W .any base 25 v) (h0 : DataW.Trod enc Tryz.prog W 0 (fun _ => true) true 25 v d p) (hw : ∀ n ∈ d.weights Tryz.prog 25, n ≤ reachBytes) :
    ∃ g : Gr, v = g.val ∧ Gr.At W g ∧ Gr.In g := by
  obtain ⟨f0, f1, hu, t0, t1, ho⟩ := Tryz.fields25
  obtain ⟨v0, v1, y0, y1, n, rfl, rfl, _, h1, h2⟩ := open_agg2 hu ho cells25 hv h0
  rw [t0] at h1
  rw [t1] at h2
  have hw0 : ∀ n ∈ y0.1.weights Tryz.prog 22, n ≤ reachBytes := fun n hn => hw n (by
    simp [DataW.weights, hu, DataW.weightsEach, t0]; exact .inl hn)
  have hw1 : ∀ n ∈ y1.1.weights Tryz.prog 23, n ≤ reachBytes := fun n hn => hw n (by
    simp [DataW.weights, hu, DataW.weightsEach, t1]; exact .inr hn)
  obtain ⟨RA, rs, rc, rfl, hrn, hrl, hR, hRs⟩ := open_rules h1 hw0
  obtain ⟨NA, ns, nc, rfl, hnn, hnl, hN, hNs⟩ := open_nodes h2 hw1
  exact ⟨⟨RA, rc, rs, NA, nc, ns⟩, rfl, ⟨hR, hN, fun x hx => (hNs x hx).1, hrl, hnl, hrn, hnn, fun x hx => (hNs x hx).2.2, hRs⟩, fun x hx => (hNs x hx).2⟩
end Go.Proofs.YtlbjmkljmhfjdaaGreat
namespace Go.Proofs.YtlbjmkljmhfjdaaGreat
/-- Bodies gone through from 'next' on; where the last one ends. -/
def march (l : List Nd) : List Rl → Int → Option Int
  | [], next => some next
  | r :: rs, next => if r.body = next then match after l 16 next with
    | some (to, _) => march l rs to
    | none => none
    else none
theorem march_bodies {l : List Nd} {ms : Nat → Meas} (h : Measured l ms 0) : ∀ (rs : List Rl) (next : Int), 0 ≤ next → march l rs next = bodies l.length ms rs next
  | [], _, _ => rfl
  | r :: rs, next, hn => by
    unfold march bodies
    by_cases hb : r.body = next
    · rw [if_pos hb]
      by_cases hl : next < l.length
      · have e : ((next.toNat : Nat) : Int) = next := by omega
        have := after_measured h 16 next.toNat (by omega)
        rw [e] at this
        have hm := h next.toNat (by omega) (by omega)
        by_cases h16 : (ms next.toNat).2 ≤ 16
        · rw [if_pos (by omega)] at this
          rw [this, if_pos ⟨hb, hl, h16⟩]
          exact march_bodies h rs _ (by omega)
        · rw [if_neg (by omega)] at this
          rw [this, if_neg (fun hh => h16 hh.2.2)]
      · have : after l 16 next = none := by rw [show (16 : Nat) = 15 + 1 from rfl, after, if_neg hl]
        rw [this, if_neg (fun hh => hl hh.2.1)]
    · rw [if_neg hb, if_neg (fun hh => hb hh.1)]
theorem march_cover {l : List Nd} : ∀ (rs : List Rl) (next to : Int), 0 ≤ next → march l rs next = some to → next ≤ to ∧ ∀ m : Nat, next ≤ m → (m : Int) < to → ∃ r, after l 16 m = some r
  | [], next, to, _, h => by simp [march] at h; subst h; exact ⟨by omega, fun m h1 h2 => by omega⟩
  | r :: rs, next, to, hn, h => by
    unfold march at h
    split at h
    · split at h
      · rename_i t h1 he
        have e : ((next.toNat : Nat) : Int) = next := by omega
        have he2 := he
        rw [← e] at he2
        obtain ⟨a1, a2, a3, a4, a5⟩ := after_cover 16 _ _ _ he2
        obtain ⟨b1, b2⟩ := march_cover rs t to (by omega) h
        exact ⟨by omega, fun m m1 m2 => by
          by_cases hm : (m : Int) < t
          · exact a5 m (by omega) hm
          · exact b2 m (by omega) m2⟩
      · cases h
    · cases h
theorem march_right {l : List Nd} {rs : List Rl} : march l rs 0 = some (l.length : Int) ↔ ∃ ms, Measured l ms 0 ∧ bodies l.length ms rs 0 = some (l.length : Int) := by
  constructor
  · intro h
    obtain ⟨_, hc⟩ := march_cover rs 0 _ (by omega) h
    obtain ⟨ms, hm⟩ := measured_of_after 16 (l := l) (fun m hl => hc m (by omega) (by omega))
    exact ⟨ms, hm, by rw [← march_bodies hm rs 0 (by omega)]; exact h⟩
  · rintro ⟨ms, hm, hb⟩
    rw [march_bodies hm rs 0 (by omega)]
    exact hb
theorem rightB_march {g : Gr} : rightB g = true ↔ (1 ≤ g.rules.length ∧ g.rules.length ≤ 32) ∧ g.nodes.length ≤ 2048 ∧ AllRight g.nodes g.rules.length ∧ Named g.rules ∧ march g.nodes g.rules 0 = some (g.nodes.length : Int) := by
  rw [rightB_true, march_right]
  exact ⟨fun h => ⟨h.rules, h.nodes, h.all, h.named, h.pre⟩, fun ⟨a, b, c, d, e⟩ => ⟨a, b, d, c, e⟩⟩
theorem march_ne {l : List Nd} {rs : List Rl} {i : Nat} (hi : i < rs.length) {next : Int} (hn : (rs.getD i Rl.zero).body ≠ next) : march l (rs.drop i) next = none := by
  rw [List.drop_eq_getElem_cons hi]
  have hgd : rs[i] = rs.getD i Rl.zero := by simp [List.getD, List.getElem?_eq_getElem hi]
  rw [hgd, march, if_neg hn]
theorem march_eq {l : List Nd} {rs : List Rl} {i : Nat} (hi : i < rs.length) {next : Int} (hn : (rs.getD i Rl.zero).body = next) : march l (rs.drop i) next = match after l 16 next with
    | some (to, _) => march l (rs.drop (i + 1)) to
    | none => none := by
  rw [List.drop_eq_getElem_cons hi]
  have hgd : rs[i] = rs.getD i Rl.zero := by simp [List.getD, List.getElem?_eq_getElem hi]
  rw [hgd, march, if_pos hn]
end Go.Proofs.YtlbjmkljmhfjdaaGreat
namespace Go.Proofs.YtlbjmkljmhfjdaaGreat
/-- By its Kind: what a node may, by its kids and by the rules that are in. -/
def stepMay (x : Nd) (may inn : Int → Bool) : Bool :=
  if x.kind = 1 ∨ x.kind = 8 ∨ x.kind = 10 ∨ x.kind = 11 ∨ x.kind = 12 then true
  else if x.kind = 6 ∨ x.kind = 9 then x.kids.all may
  else if x.kind = 7 then x.kids.any may
  else if x.kind = 5 then inn x.rule else false
def mayF (l : List Nd) (inn : Int → Bool) : Nat → Int → Bool
  | 0, _ => false
  | f + 1, n => stepMay (l.getD n.toNat Nd.zero) (mayF l inn f) inn
def mayN (l : List Nd) (inn : Int → Bool) (n : Int) : Bool := mayF l inn (l.length - n.toNat) n
/-- Kids stand behind. -/
def KidsUp (l : List Nd) : Prop := ∀ n, n < l.length → ∀ k ∈ (l.getD n Nd.zero).kids, (n : Int) < k ∧ k < l.length
theorem climb_kids {len : Nat} {ms : Nat → Meas} (n0 : Nat) (hs : ∀ m : Nat, n0 ≤ m → m < len → 1 ≤ (ms m).1) : ∀ (r : List Int) (next high to hh : Int), (n0 : Int) ≤ next → climb len ms r next high = some (to, hh) → ∀ k ∈ r, next ≤ k ∧ k < len
  | [], next, high, to, hh, _, h => by simp
  | k :: r, next, high, to, hh, hn, h => by
    unfold climb at h
    split at h
    · rename_i hk
      obtain ⟨rfl, hk2⟩ := hk
      have h1 := hs k.toNat (by omega) (by omega)
      have := climb_kids n0 hs r _ _ to hh (by omega) h
      intro j hj
      rcases List.mem_cons.1 hj with rfl | hj
      · omega
      · have := this j hj; omega
    · cases h
theorem Measured.kidsUp {l : List Nd} {ms : Nat → Meas} (h : Measured l ms 0) : KidsUp l := by
  intro n hn k hk
  have := climb_kids (n + 1) (fun m hm hl => (h m (by omega) hl).1) _ _ _ _ _ (by omega) (h n (by omega) hn).2.2.2 k hk
  omega
theorem Right.kidsUp {g : Gr} (h : Right g) : KidsUp g.nodes := by
  obtain ⟨ms, hm, _⟩ := h.pre
  exact hm.kidsUp
theorem all_same {p q : Int → Bool} : ∀ {l : List Int}, (∀ k ∈ l, p k = q k) → l.all p = l.all q
  | [], _ => rfl
  | a :: l, h => by
    simp only [List.all_cons]
    rw [h a (List.mem_cons_self ..), all_same fun k hk => h k (List.mem_cons_of_mem _ hk)]
theorem any_same {p q : Int → Bool} : ∀ {l : List Int}, (∀ k ∈ l, p k = q k) → l.any p = l.any q
  | [], _ => rfl
  | a :: l, h => by
    simp only [List.any_cons]
    rw [h a (List.mem_cons_self ..), any_same fun k hk => h k (List.mem_cons_of_mem _ hk)]
theorem stepMay_congr {x : Nd} {m m' i i' : Int → Bool} (hk : ∀ k ∈ x.kids, m k = m' k) (hi : x.kind = 5 → i x.rule = i' x.rule) : stepMay x m i = stepMay x m' i' := by
  have e1 : x.kids.all m = x.kids.all m' := all_same hk
  have e2 : x.kids.any m = x.kids.any m' := any_same hk
  unfold stepMay
  rw [e1, e2]
  split
  · rfl
  · split
    · rfl
    · split
      · rfl
      · split
        · rename_i h; exact hi h
        · rfl
theorem mayF_fuel {l : List Nd} (hl : KidsUp l) (inn : Int → Bool) : ∀ (f f' : Nat) (n : Int), 0 ≤ n → n < l.length → (l.length : Int) - n ≤ f → (l.length : Int) - n ≤ f' → mayF l inn f n = mayF l inn f' n
  | 0, f', n, h0, h1, h2, _ => by omega
  | f + 1, 0, n, h0, h1, _, h2 => by omega
  | f + 1, f' + 1, n, h0, h1, h2, h3 => by
    unfold mayF
    refine stepMay_congr (fun k hk => ?_) (fun _ => rfl)
    have := hl n.toNat (by omega) k hk
    exact mayF_fuel hl inn f f' k (by omega) (by omega) (by omega) (by omega)
theorem mayN_eq {l : List Nd} (hl : KidsUp l) (inn : Int → Bool) {n : Int} (h0 : 0 ≤ n) (h1 : n < l.length) : mayN l inn n = stepMay (l.getD n.toNat Nd.zero) (mayN l inn) inn := by
  unfold mayN
  obtain ⟨f, ef⟩ : ∃ f, l.length - n.toNat = f + 1 := ⟨l.length - n.toNat - 1, by omega⟩
  rw [ef]
  show stepMay _ _ _ = _
  refine stepMay_congr (fun k hk => ?_) (fun _ => rfl)
  have := hl n.toNat (by omega) k hk
  exact mayF_fuel hl inn _ _ k (by omega) (by omega) (by omega) (by omega)
/-- The rules that are in, by a row of ranks. -/
def inB (r : List Int) (i : Int) : Bool := decide (0 < r.getD i.toNat 0)
/-- Whether a rule comes in next. -/
def comB (g : Gr) (r : List Int) (i : Nat) : Bool := !inB r i && mayN g.nodes (inB r) (g.rules.getD i Rl.zero).body
/-- The ranks behind so many rounds. -/
def rk (g : Gr) : Nat → List Int
  | 0 => List.replicate g.rules.length 0
  | k + 1 => (List.range g.rules.length).map fun i => if comB g (rk g k) i then ((k : Int) + 1) else (rk g k).getD i 0
/-- Who comes in behind so many rounds. -/
def com (g : Gr) (k : Nat) : List Nat := (List.range g.rules.length).filter (comB g (rk g k))
/-- All ranks. -/
def ranks (g : Gr) : List Int := rk g g.rules.length
theorem rk_length (g : Gr) : ∀ k, (rk g k).length = g.rules.length
  | 0 => by simp [rk]
  | k + 1 => by simp [rk]
theorem rk_next (g : Gr) (k i : Nat) (hi : i < g.rules.length) : (rk g (k + 1)).getD i 0 = if comB g (rk g k) i then ((k : Int) + 1) else (rk g k).getD i 0 := by
  simp [rk, List.getD, hi]
theorem rk_zero (g : Gr) (i : Nat) : (rk g 0).getD i 0 = 0 := by
  simp only [rk, List.getD, List.getElem?_replicate]
  split <;> rfl
theorem rk_bound (g : Gr) : ∀ (k i : Nat), 0 ≤ (rk g k).getD i 0 ∧ (rk g k).getD i 0 ≤ k
  | 0, i => by rw [rk_zero]; omega
  | k + 1, i => by
    by_cases hi : i < g.rules.length
    · rw [rk_next g k i hi]
      have := rk_bound g k i
      split <;> omega
    · have : (rk g (k + 1)).getD i 0 = 0 := by simp [List.getD, List.getElem?_eq_none (show (rk g (k + 1)).length ≤ i by rw [rk_length]; omega)]
      rw [this]; omega
theorem rk_keeps (g : Gr) (k i : Nat) (h : 0 < (rk g k).getD i 0) : (rk g (k + 1)).getD i 0 = (rk g k).getD i 0 := by
  have hi : i < g.rules.length := by
    apply Classical.byContradiction
    intro hn
    rw [show (rk g k).getD i 0 = 0 by simp [List.getD, List.getElem?_eq_none (show (rk g k).length ≤ i by rw [rk_length]; omega)]] at h
    omega
  rw [rk_next g k i hi, if_neg]
  have e : inB (rk g k) i = true := by unfold inB; simpa using h
  unfold comB
  rw [e]
  simp
/-- Once none comes in, none ever does. -/
theorem rk_stay (g : Gr) (k : Nat) (h : com g k = []) : ∀ d, rk g (k + d) = rk g k
  | 0 => rfl
  | d + 1 => by
    have e := rk_stay g k h d
    rw [← Nat.add_assoc]
    have hc : ∀ i, i < g.rules.length → comB g (rk g k) i = false := fun i hi => by
      unfold com at h
      rw [List.filter_eq_nil_iff] at h
      simpa using h i (List.mem_range.2 hi)
    apply List.ext_getElem?
    intro i
    by_cases hi : i < g.rules.length
    · have := rk_next g (k + d) i hi
      rw [e, hc i hi] at this
      simp only [Bool.false_eq_true, if_false] at this
      rw [List.getElem?_eq_getElem (by rw [rk_length]; exact hi), List.getElem?_eq_getElem (by rw [rk_length]; exact hi)]
      simp only [List.getD, List.getElem?_eq_getElem (show i < (rk g (k + d + 1)).length by rw [rk_length]; exact hi), List.getElem?_eq_getElem (show i < (rk g k).length by rw [rk_length]; exact hi), Option.getD_some] at this
      rw [this]
    · rw [List.getElem?_eq_none (by rw [rk_length]; omega), List.getElem?_eq_none (by rw [rk_length]; omega)]
def inCount (g : Gr) (k : Nat) : Nat := ((List.range g.rules.length).filter fun i => decide (0 < (rk g k).getD i 0)).length
theorem filter_more {p q : Nat → Bool} : ∀ (l : List Nat), (∀ i ∈ l, p i = true → q i = true) → (l.filter p).length ≤ (l.filter q).length ∧ ((∃ i ∈ l, p i = false ∧ q i = true) → (l.filter p).length < (l.filter q).length)
  | [], _ => by simp
  | a :: l, h => by
    obtain ⟨h1, h2⟩ := filter_more l (fun i hi => h i (List.mem_cons_of_mem _ hi))
    have ha := h a (List.mem_cons_self ..)
    simp only [List.filter_cons]
    cases hp : p a <;> cases hq : q a
    · simp only [Bool.false_eq_true, if_false]
      refine ⟨h1, fun ⟨i, hi, hpi⟩ => h2 ⟨i, ?_, hpi⟩⟩
      rcases List.mem_cons.1 hi with rfl | hi
      · rw [hq] at hpi; cases hpi.2
      · exact hi
    · simp only [Bool.false_eq_true, if_false, if_true, List.length_cons]
      exact ⟨by omega, fun _ => by omega⟩
    · rw [ha hp] at hq; cases hq
    · simp only [if_true, List.length_cons]
      refine ⟨by omega, fun ⟨i, hi, hpi⟩ => ?_⟩
      rcases List.mem_cons.1 hi with rfl | hi
      · rw [hp] at hpi; cases hpi.1
      · have := h2 ⟨i, hi, hpi⟩; omega
theorem inCount_up (g : Gr) (k : Nat) (h : com g k ≠ []) : inCount g k < inCount g (k + 1) := by
  refine (filter_more _ ?_).2 ?_
  · intro i _ hp
    simp only [decide_eq_true_eq] at hp ⊢
    rw [rk_keeps g k i hp]; exact hp
  · obtain ⟨i, hi⟩ := List.exists_mem_of_ne_nil _ h
    obtain ⟨hi, hc⟩ := List.mem_filter.1 hi
    refine ⟨i, hi, ?_, ?_⟩
    · unfold comB inB at hc
      simp only [Bool.and_eq_true, Bool.not_eq_true', Int.toNat_natCast] at hc
      exact hc.1
    · rw [rk_next g k i (List.mem_range.1 hi), if_pos hc]
      simp; try omega
theorem least {P : Nat → Prop} : ∀ n, P n → ∃ m, P m ∧ ∀ k, k < m → ¬ P k := by
  intro n
  induction n using Nat.strongRecOn with
  | ind n ih =>
    intro hn
    by_cases h : ∃ k, k < n ∧ P k
    · obtain ⟨k, hk, hp⟩ := h
      exact ih k hk hp
    · exact ⟨n, hn, fun k hk hp => h ⟨k, hk, hp⟩⟩
/-- There are no more rounds than rules. -/
theorem rounds_end (g : Gr) : ∃ N, N ≤ g.rules.length ∧ com g N = [] ∧ ∀ k, k < N → com g k ≠ [] := by
  have h : ∃ N, com g N = [] := by
    apply Classical.byContradiction
    intro hn
    have hc : ∀ k, k ≤ inCount g k := fun k => by
      induction k with
      | zero => omega
      | succ k ih => have := inCount_up g k (fun e => hn ⟨k, e⟩); omega
    have h1 := hc (g.rules.length + 1)
    have h2 : inCount g (g.rules.length + 1) ≤ g.rules.length := by
      unfold inCount
      exact Nat.le_trans (List.length_filter_le ..) (by simp)
    omega
  obtain ⟨N0, h0⟩ := h
  obtain ⟨N, hN, hm⟩ := least (P := fun n => com g n = []) N0 h0
  refine ⟨N, ?_, hN, hm⟩
  have hc : ∀ k, k ≤ N → k ≤ inCount g k := fun k => by
    induction k with
    | zero => omega
    | succ k ih => intro hk; have := inCount_up g k (hm k (by omega)); have := ih (by omega); omega
  have h1 := hc N (Nat.le_refl _)
  have h2 : inCount g N ≤ g.rules.length := by
    unfold inCount
    exact Nat.le_trans (List.length_filter_le ..) (by simp)
  omega
theorem ranks_fix (g : Gr) {N : Nat} (h1 : N ≤ g.rules.length) (h2 : com g N = []) : ranks g = rk g N := by
  unfold ranks
  obtain ⟨d, hd⟩ : ∃ d, g.rules.length = N + d := ⟨g.rules.length - N, by omega⟩
  rw [hd]
  exact rk_stay g N h2 d
end Go.Proofs.YtlbjmkljmhfjdaaGreat
namespace Go.Proofs.YtlbjmkljmhfjdaaGreat
open Go Go.RowKit
noncomputable def allB (l : List Nd) (r : Int) : Bool := by classical exact decide (AllRight l r)
theorem allB_true {l : List Nd} {r : Int} (h : AllRight l r) : allB l r = true := by unfold allB; simp [h]
theorem allB_false {l : List Nd} {r : Int} (i : Nat) (hi : i < l.length) (h : nodeOk (l.getD i Nd.zero) r = false) : allB l r = false := by
  unfold allB; simp; intro hn; rw [hn i hi] at h; cases h
set_option maxRecDepth 100000 in
set_option maxHeartbeats 4000000 in
theorem allRight_any (g : Gr) (w : World) (hg : Gr.At w g) (hin : Gr.In g) : Calls Tryz.prog 235 #[g.val] w fun e w' => e = .returned (.bool (allB g.nodes g.rules.length)) ∧ Below w.heap.size w w' := by
  have HG := Lib.hid hg
  have HIN := Lib.hid hin
  have hr := hg.rl
  have hn := hg.nl
  obtain ⟨r, er⟩ : ∃ r, r = g.rules.length := ⟨_, rfl⟩
  have NT := Lib.hid (allB_true (l := g.nodes) (r := g.rules.length))
  have NN := Lib.hid (allB_false (l := g.nodes) (r := g.rules.length))
  obtain ⟨v, ev⟩ : ∃ v, v = allB g.nodes g.rules.length := ⟨_, rfl⟩
  rw [← ev] at NT NN ⊢
  show Calls Tryz.prog 235 #[.agg #[.slice g.RA g.rules.length g.rc, .slice g.NA g.nodes.length g.nc]] w _
  rw [← er] at NT NN hr ⊢
  obtain ⟨m, em⟩ : ∃ m, m = g.nodes.length := ⟨_, rfl⟩
  have EM := Lib.hid em
  rw [← em] at hn ⊢
  clear hg hin ev er em
  go_enter Tryz.func235, Tryz.ntmps235
  go_wp2_with (go_at_call 261; refine (takers_any _).mono ?_; rintro e w1 ⟨rfl, hT, hb⟩; have HT0 := Lib.hid hT; have HB0 := Lib.hid (bb (B1 w _) hb); have HZ := Lib.hid hb.size; have KB := Lib.hid ((Blk.new w _ _).below' hb); have d0 := KB.out.cell 0; have d1 := KB.out.cell 1; simp only [List.getElem?_toArray, List.getElem?_cons_zero, List.getElem?_cons_succ] at d0 d1; clear hT hb)
  clear d0 d1
  obtain ⟨tb, etb⟩ : ∃ tb, tb = w.heap.size + 1 := ⟨_, rfl⟩
  have HT : RowKit.Hid (Takers w1 tb) := Lib.hid (by rw [etb]; have := HT0.out; rw [World.size_alloc] at this; exact this)
  rw [← etb]
  clear HT0 etb
  go_loopw [10, 5] (fun i _ wr => ∃ k : Nat, k ≤ m ∧ i = .int .i64 k ∧ (∀ j, j < k → nodeOk (g.nodes.getD j Nd.zero) r = true) ∧ Below w1.heap.size w1 wr) (fun i _ _ => m - (RowKit.intOf i).toNat)
  case atStart => exact ⟨0, by omega, rfl, fun j h => by omega, Below.refl _ _⟩
  case round =>
    obtain ⟨k, hk, rfl, ht, hbl⟩ := hrel
    have HTT := Lib.hid ht
    have BL := Lib.hid (bb HB0.out hbl)
    have HBL := Lib.hid hbl
    clear ht hbl
    by_cases hlt : k < m
    · have hlt2 : (k : Int) < m := by omega
      obtain ⟨b1, o1, eA, _, c1, c2, c3, c4, c5, c6, c7, c8, c9⟩ := (HG.out.below BL.out).nodes.nine (show k < g.nodes.length by have := EM.out; omega)
      have hat := Lib.hid ((HG.out.below BL.out).node (show k < g.nodes.length by have := EM.out; omega))
      have hin := Lib.hid (HIN.out (g.nodes.getD k Nd.zero) (getD_mem (by have := EM.out; omega)))
      have NK := Lib.hid (NN.out k (by have := EM.out; omega))
      generalize hx : g.nodes.getD k Nd.zero = x at c1 c2 c3 c4 c5 c6 c7 c8 c9 hat hin NK
      have HX := Lib.hid hx
      have RR := Lib.hid (fun (w' : World) (h : Below wr.heap.size wr w') => right_any x r tb w' (hat.out.below h) hin.out (HT.out.below (bb HBL.out h)))
      obtain ⟨no, en⟩ : ∃ no, no = nodeOk x r := ⟨_, rfl⟩
      rw [← en] at RR NK
      have EN := Lib.hid en
      rw [eA]
      clear en hx eA
      have cb : ∀ o, (wr.alloc o).cell? ⟨w.heap.size, 0, none⟩ = some (.slice g.RA r g.rc) := fun o => ((KB.out.below' HBL.out).alloc o).cell 0
      cases no with
      | false =>
        go_wp2_with (go_at_call 262; refine (RR.out _ (B1 _ _)).mono ?_; rintro e w2 ⟨rfl, hb⟩; have H1 := Lib.hid (bb (BL.out.alloc BL.out.size _) hb); clear hb)
        go_ret
        exact ⟨ret_bool (NK.out (by first | rfl | trivial)).symm, H1.out⟩
      | true =>
        go_wp2_with (go_at_call 262; refine (RR.out _ (B1 _ _)).mono ?_; rintro e w2 ⟨rfl, hb⟩; have H1 := Lib.hid (bb (HBL.out.alloc HBL.out.size _) hb); clear hb)
        go_roundw
        case rel => exact ⟨k + 1, by omega, by go_num, fun j hj => by
            by_cases ej : j = k
            · subst ej; rw [HX.out]; exact EN.out.symm
            · exact HTT.out j (by omega), H1.out⟩
        case measure => simp [RowKit.intOf]; omega
    · obtain rfl : k = m := by omega
      have hlt2 : ¬ (k : Int) < k := by omega
      go_wp2_with fail
      go_ret
      exact ⟨ret_bool (NT.out (fun i hi => HTT.out i (by have := EM.out; omega))).symm, BL.out⟩
def bodB (m : Nat) (ms : Nat → Meas) (l : List Rl) : Bool := decide (bodies m ms l 0 = some (m : Int))
set_option maxRecDepth 100000 in
set_option maxHeartbeats 4000000 in
theorem bodied_any (A : Option Addr) (c : Nat) (l : List Rl) (hl : l.length ≤ 140737488351232) (gb m : Nat) (ms : Nat → Meas) (hm : m ≤ 2048) (hms : ∀ i, i < m → 1 ≤ (ms i).1 ∧ 1 ≤ (ms i).2 ∧ (i : Int) + (ms i).1 ≤ m) (w : World) (hA : Rules w A l) (hM : MeasAt w (.slice (some ⟨gb, 0, none⟩) m m) m ms) :
    Calls Tryz.prog 237 #[.slice A l.length c, .slice (some ⟨gb, 0, none⟩) m m] w fun e w' => e = .returned (.bool (bodB m ms l)) ∧ Below w.heap.size w w' := by
  have HA := Lib.hid hA
  have HM := Lib.hid hM
  have HS := Lib.hid hms
  obtain ⟨F, eF⟩ : ∃ F, F = bodies m ms l 0 := ⟨_, rfl⟩
  have HV := Lib.hid (show bodB m ms l = decide (F = some (m : Int)) by unfold bodB; rw [eF])
  obtain ⟨v, ev⟩ : ∃ v, v = bodB m ms l := ⟨_, rfl⟩
  rw [← ev] at HV ⊢
  obtain ⟨r, er⟩ : ∃ r, r = l.length := ⟨_, rfl⟩
  rw [← er] at hl ⊢
  have ER := Lib.hid er
  have EF := Lib.hid eF
  clear hA hM hms eF ev er
  go_enter Tryz.func237, Tryz.ntmps237
  go_wp2_with fail
  go_loopw [10, 5, 7] (fun i nx _ wr => ∃ (k n : Nat), k ≤ r ∧ i = .int .i64 k ∧ nx = .int .i64 n ∧ n ≤ m ∧ bodies m ms (l.drop k) n = F ∧ Below w.heap.size w wr) (fun i _ _ _ => r - (RowKit.intOf i).toNat)
  case atStart => exact ⟨0, 0, by omega, rfl, rfl, by omega, by rw [EF.out]; simp, Below.refl _ _⟩
  case round =>
    obtain ⟨k, n, hk, rfl, rfl, hn, hcl, hbl⟩ := hrel
    have BL := Lib.hid hbl
    clear hbl
    by_cases hlt : k < r
    · have hlt2 : (k : Int) < r := by omega
      obtain ⟨b1, o1, rfl, _, c1, c2⟩ := (HA.out.below BL.out).two (show k < l.length by have := ER.out; omega)
      have hkl : k < l.length := by have := ER.out; omega
      rw [List.drop_eq_getElem_cons hkl] at hcl
      have hgd : l[k] = l.getD k Rl.zero := by simp [List.getD, List.getElem?_eq_getElem hkl]
      rw [hgd] at hcl
      generalize l.getD k Rl.zero = x at hcl c1 c2
      unfold bodies at hcl
      by_cases hok : x.body = n ∧ (n : Int) < m ∧ (ms (n : Int).toNat).2 ≤ 16
      · rw [if_pos hok] at hcl
        obtain ⟨h1, h2, h3⟩ := hok
        have hnm : n < m := by omega
        obtain ⟨gb', eg, _, hmc⟩ := HM.out.below BL.out
        cases eg
        obtain ⟨d1, d2⟩ := hmc n hnm
        obtain ⟨s1, s2, s3⟩ := HS.out n hnm
        rw [Int.toNat_natCast] at hcl h3
        have e1 := fun o => (Below.cell (B1 wr o) (p := ⟨gb, n * 2, none⟩) (World.block_lt_of_cell? _ _ d1)).trans d1
        have e2 := fun o => (Below.cell (B1 wr o) (p := ⟨gb, n * 2 + 1, none⟩) (World.block_lt_of_cell? _ _ d2)).trans d2
        generalize ms n = mn at s1 s2 s3 e1 e2 d1 d2 hcl h3
        obtain ⟨sz, ht⟩ := mn
        dsimp only at s1 s2 s3 e1 e2 d1 d2 hcl h3
        obtain ⟨n', hn'⟩ : ∃ n' : Nat, (n' : Int) = n + sz := ⟨(n + sz).toNat, by omega⟩
        rw [← hn'] at hcl
        have HCL := Lib.hid hcl
        have HN' := Lib.hid hn'
        have hb : (x.body != (n : Int)) = false := by simpa using h1
        clear hcl hgd hmc hn' h1
        go_wp2_with fail
        go_roundw
        case rel => exact ⟨k + 1, n', by omega, by go_num, by have := HN'.out; simp only [Value.int.injEq, true_and]; omega, by have := HN'.out; omega, HCL.out, BL.out.alloc BL.out.size _⟩
        case measure => simp [RowKit.intOf]; omega
      · rw [if_neg hok] at hcl
        have HF := Lib.hid hcl
        clear hcl hgd
        have VF : RowKit.Hid (v = false) := Lib.hid (by rw [HV.out, ← HF.out]; rfl)
        by_cases h1 : x.body = n
        · have hb : (x.body != (n : Int)) = false := by simpa using h1
          by_cases h2 : n < m
          · have h2' : (n : Int) < m := by omega
            have h2'' : ¬ m ≤ n := by omega
            obtain ⟨gb', eg, _, hmc⟩ := HM.out.below BL.out
            cases eg
            obtain ⟨d1, d2⟩ := hmc n h2
            have h3 : 16 < (ms n).2 := by
              by_cases h : (ms n).2 ≤ 16
              · exact absurd ⟨h1, h2', by rw [Int.toNat_natCast]; exact h⟩ hok
              · omega
            have e2 := fun o => (Below.cell (B1 wr o) (p := ⟨gb, n * 2 + 1, none⟩) (World.block_lt_of_cell? _ _ d2)).trans d2
            generalize ms n = mn at d1 d2 h3 e2
            obtain ⟨sz, ht⟩ := mn
            dsimp only at d1 d2 h3 e2
            clear hok hmc h1
            go_wp2_with fail
            go_ret
            exact ⟨ret_bool VF.out.symm, BL.out.alloc BL.out.size _⟩
          · have h2' : ¬ (n : Int) < m := by omega
            have h2'' : m ≤ n := by omega
            have h2b : (m : Int) ≤ n := by omega
            clear hok h1
            go_wp2_with fail
            go_ret
            exact ⟨ret_bool VF.out.symm, BL.out.alloc BL.out.size _⟩
        · have hb : (x.body != (n : Int)) = true := by simpa using h1
          clear hok h1
          go_wp2_with fail
          go_ret
          exact ⟨ret_bool VF.out.symm, BL.out.alloc BL.out.size _⟩
    · obtain rfl : k = r := by omega
      have hlt2 : ¬ (k : Int) < k := by omega
      have hd : l.drop k = [] := List.drop_eq_nil_of_le (by have := ER.out; omega)
      rw [hd, bodies] at hcl
      have HCL := Lib.hid hcl
      clear hcl hd
      go_wp2_with fail
      go_ret
      exact ⟨ret_bool (by rw [HV.out, ← HCL.out, Bool.eq_iff_iff]; simp), BL.out⟩
end Go.Proofs.YtlbjmkljmhfjdaaGreat
namespace Go.Proofs.YtlbjmkljmhfjdaaGreat
open Go Go.RowKit
def MeasEnd (w : World) (g : Gr) (e : Ending) (w' : World) : Prop :=
  ∃ v, e = .returned (.tuple #[v, .bool (rightB g)]) ∧ Below w.heap.size w w' ∧ (rightB g = true → ∃ ms, Measured g.nodes ms 0 ∧ MeasAt w' v g.nodes.length ms) ∧ (rightB g = false → v = .slice none 0 0)
theorem measEnd_no {w w' : World} {g : Gr} (h : rightB g = false) (hb : Below w.heap.size w w') : MeasEnd w g (.returned (.tuple #[.slice none 0 0, .bool false])) w' :=
  ⟨_, by rw [h], hb, (fun e => by rw [h] at e; cases e), (fun _ => rfl)⟩
theorem namedB_iff {l : List Rl} : namedB l = true ↔ Named l := by unfold namedB; simp
theorem allB_iff {l : List Nd} {r : Int} : allB l r = true ↔ AllRight l r := by unfold allB; simp
theorem bodB_congr {l : List Nd} {ms ms' : Nat → Meas} {r : List Rl} (h : Measured l ms 0) (h' : Measured l ms' 0) : bodB l.length ms r = bodB l.length ms' r := by
  unfold bodB
  rw [bodies_congr (fun m hl => (h m (by omega) hl).1) (measured_eq h h') r 0 (by omega)]
set_option maxRecDepth 100000 in
set_option maxHeartbeats 4000000 in
theorem measured_any (g : Gr) (w : World) (hg : Gr.At w g) (hin : Gr.In g) : Calls Tryz.prog 199 #[g.val] w (MeasEnd w g) := by
  have hr := hg.rl
  have hn := hg.nl
  have NM := Lib.hid (fun (w' : World) (b : Below w.heap.size w w') => named_any g w' (hg.below b) hg.rl)
  have AL := Lib.hid (fun (w' : World) (b : Below w.heap.size w w') => allRight_any g w' (hg.below b) hin)
  by_cases h1 : 1 ≤ g.rules.length ∧ g.rules.length ≤ 32
  · have hd : decide ((1 : Int) ≤ g.rules.length ∧ (g.rules.length : Int) ≤ 32) = true := by simp; omega
    have W33 := Lib.hid (fun w => by have := within_any 1 g.rules.length 32 w; rw [hd] at this; exact this)
    by_cases h2 : g.nodes.length ≤ 2048
    · have h2' : ¬ (2048 : Int) < g.nodes.length := by omega
      have h2'' : (g.nodes.length : Int) ≤ 2048 := by omega
      have PR := Lib.hid (fun (w' : World) (b : Below w.heap.size w w') => pre_any g.NA g.nc g.nodes h2 w' (hg.below b).nodes (hg.below b).kids)
      have BO := Lib.hid (fun (gb : Nat) (ms : Nat → Meas) (hm : Measured g.nodes ms 0) (w' : World) (b : Below w.heap.size w w') (hM : MeasAt w' (.slice (some ⟨gb, 0, none⟩) g.nodes.length g.nodes.length) g.nodes.length ms) => bodied_any g.RA g.rc g.rules hg.rl gb g.nodes.length ms h2 (fun i hi => ⟨(hm i (by omega) hi).1, (hm i (by omega) hi).2.1, (hm i (by omega) hi).2.2.1⟩) w' (hg.below b).rules hM)
      have RI := Lib.hid (show rightB g = true ↔ (namedB g.rules = true ∧ allB g.nodes g.rules.length = true ∧ ∃ ms, Measured g.nodes ms 0 ∧ bodB g.nodes.length ms g.rules = true) from by
        rw [rightB_true, namedB_iff, allB_iff]
        unfold bodB
        simp only [decide_eq_true_eq]
        exact ⟨fun h => ⟨h.named, h.all, h.pre⟩, fun ⟨a, b, c⟩ => ⟨h1, h2, a, b, c⟩⟩)
      have PI := Lib.hid (preB_true (l := g.nodes))
      obtain ⟨nb, enb⟩ : ∃ b, b = namedB g.rules := ⟨_, rfl⟩
      obtain ⟨ab, eab⟩ : ∃ b, b = allB g.nodes g.rules.length := ⟨_, rfl⟩
      rw [← enb] at NM RI
      rw [← eab] at AL RI
      clear hd enb eab h1 h2 hg hin
      cases nb with
      | false =>
        have HF : RowKit.Hid (rightB g = false) := Lib.hid (by rw [Bool.eq_false_iff]; intro h; have := (RI.out.1 h).1; cases this)
        go_enter Tryz.func199, Tryz.ntmps199
        go_wp2_with (first | (go_at_call 233; refine (W33.out _).mono ?_; rintro e w1 ⟨rfl, rfl⟩) | (go_at_call 234; refine (NM.out _ (B1 _ _)).mono ?_; rintro e w1 ⟨rfl, hb⟩; have H1 := Lib.hid (bb (B1 w _) hb); clear hb))
        go_ret2
        exact measEnd_no HF.out H1.out
      | true =>
        cases ab with
        | false =>
          have HF : RowKit.Hid (rightB g = false) := Lib.hid (by rw [Bool.eq_false_iff]; intro h; have := (RI.out.1 h).2.1; cases this)
          go_enter Tryz.func199, Tryz.ntmps199
          go_wp2_with (first | (go_at_call 233; refine (W33.out _).mono ?_; rintro e w1 ⟨rfl, rfl⟩) | (go_at_call 234; refine (NM.out _ (B1 _ _)).mono ?_; rintro e w1 ⟨rfl, hb⟩; have H1 := Lib.hid (bb (B1 w _) hb); have d0 := ((Blk.new w _ _).below' hb).cell 0; have d1 := ((Blk.new w _ _).below' hb).cell 1; simp only [List.getElem?_toArray, List.getElem?_cons_zero, List.getElem?_cons_succ] at d0 d1; clear hb) | (go_at_call 235; refine (AL.out _ H1.out).mono ?_; rintro e w2 ⟨rfl, hb⟩; have H2 := Lib.hid (bb H1.out hb); clear hb))
          go_ret2
          exact measEnd_no HF.out H2.out
        | true =>
          cases hp : preB g.nodes with
          | false =>
            have HF : RowKit.Hid (rightB g = false) := Lib.hid (by rw [Bool.eq_false_iff]; intro h; obtain ⟨ms, h3, _⟩ := (RI.out.1 h).2.2; exact preB_false.1 hp ⟨ms, h3⟩)
            have HP := Lib.hid hp
            clear hp
            go_enter Tryz.func199, Tryz.ntmps199
            go_wp2_with (first | (go_at_call 233; refine (W33.out _).mono ?_; rintro e w1 ⟨rfl, rfl⟩) | (go_at_call 234; refine (NM.out _ (B1 _ _)).mono ?_; rintro e w1 ⟨rfl, hb⟩; have H1 := Lib.hid (bb (B1 w _) hb); have K1 := Lib.hid ((Blk.new w _ _).below' hb); have d0 := K1.out.cell 0; have d1 := K1.out.cell 1; simp only [List.getElem?_toArray, List.getElem?_cons_zero, List.getElem?_cons_succ] at d0 d1; clear hb) | (go_at_call 235; refine (AL.out _ H1.out).mono ?_; rintro e w2 ⟨rfl, hb⟩; have H2 := Lib.hid (bb H1.out hb); have e1 := (K1.out.below' hb).cell 1; simp only [List.getElem?_toArray, List.getElem?_cons_zero, List.getElem?_cons_succ] at e1; clear hb) | (go_at_call 236; refine (PR.out _ H2.out).mono ?_; rintro e w3 ⟨v, rfl, hb, _, hv⟩; obtain rfl := hv HP.out; have H3 := Lib.hid (bb H2.out hb); have hpf := HP.out; clear hb hv))
            go_ret2
            exact measEnd_no HF.out H3.out
          | true =>
            have HP := Lib.hid hp
            clear hp
            go_enter Tryz.func199, Tryz.ntmps199
            go_wp2_with (first | (go_at_call 233; refine (W33.out _).mono ?_; rintro e w1 ⟨rfl, rfl⟩) | (go_at_call 234; refine (NM.out _ (B1 _ _)).mono ?_; rintro e w1 ⟨rfl, hb⟩; have H1 := Lib.hid (bb (B1 w _) hb); have K1 := Lib.hid ((Blk.new w _ _).below' hb); have d0 := K1.out.cell 0; have d1 := K1.out.cell 1; simp only [List.getElem?_toArray, List.getElem?_cons_zero, List.getElem?_cons_succ] at d0 d1; clear hb) | (go_at_call 235; refine (AL.out _ H1.out).mono ?_; rintro e w2 ⟨rfl, hb⟩; have H2 := Lib.hid (bb H1.out hb); have K2 := Lib.hid (K1.out.below' hb); have e1 := K2.out.cell 1; simp only [List.getElem?_toArray, List.getElem?_cons_zero, List.getElem?_cons_succ] at e1; clear hb) | (go_at_call 236; refine (PR.out _ H2.out).mono ?_; rintro e w3 ⟨v, rfl, hb, hv, _⟩; obtain ⟨ms, hm, gb, rfl, hgl, hmc⟩ := hv HP.out; have HM := Lib.hid hm; have MA : RowKit.Hid (MeasAt w3 (.slice (some ⟨gb, 0, none⟩) g.nodes.length g.nodes.length) g.nodes.length ms) := Lib.hid ⟨gb, rfl, hgl, hmc⟩; have H3 := Lib.hid (bb H2.out hb); have f0 := (K2.out.below' hb).cell 0; simp only [List.getElem?_toArray, List.getElem?_cons_zero, List.getElem?_cons_succ] at f0; have hpf := HP.out; clear hb hv hm hmc) | (go_at_call 237; refine (BO.out gb ms HM.out _ H3.out MA.out).mono ?_; rintro e w4 ⟨rfl, hb⟩; have H4 := Lib.hid (bb H3.out hb); have M4 := Lib.hid (MA.out.below hb); clear hb f0 e1 d0 d1))
            all_goals go_ret2
            · have hbo : bodB g.nodes.length ms g.rules = false := by have h : (!bodB g.nodes.length ms g.rules) = true := (by assumption); simpa using h
              refine measEnd_no ?_ H4.out
              rw [Bool.eq_false_iff]
              intro h
              obtain ⟨ms', h3, h4⟩ := (RI.out.1 h).2.2
              rw [bodB_congr h3 HM.out, hbo] at h4
              cases h4
            · have hbo : bodB g.nodes.length ms g.rules = true := by have h : (!bodB g.nodes.length ms g.rules) = false := (by assumption); simpa using h
              have HR : rightB g = true := RI.out.2 ⟨by first | rfl | trivial, by first | rfl | trivial, ms, HM.out, hbo⟩
              refine ⟨.slice (some ⟨gb, 0, none⟩) g.nodes.length g.nodes.length, ?_, H4.out, (fun _ => ⟨ms, HM.out, M4.out⟩), (fun e => by rw [HR] at e; cases e)⟩
              rw [HR]
              rfl
    · have h2' : (2048 : Int) < g.nodes.length := by omega
      have HF : RowKit.Hid (rightB g = false) := Lib.hid (rightB_false.2 fun h => h2 h.nodes)
      clear h2 hd hg hin NM AL h1
      go_enter Tryz.func199, Tryz.ntmps199
      go_wp2_with (go_at_call 233; refine (W33.out _).mono ?_; rintro e w1 ⟨rfl, rfl⟩)
      go_ret2
      exact measEnd_no HF.out (B1 _ _)
  · have hd : decide ((1 : Int) ≤ g.rules.length ∧ (g.rules.length : Int) ≤ 32) = false := by simp; omega
    have W33 := Lib.hid (fun w => by have := within_any 1 g.rules.length 32 w; rw [hd] at this; exact this)
    have HF : RowKit.Hid (rightB g = false) := Lib.hid (rightB_false.2 fun h => h1 h.rules)
    clear h1 hd hg hin NM AL
    go_enter Tryz.func199, Tryz.ntmps199
    go_wp2_with (go_at_call 233; refine (W33.out _).mono ?_; rintro e w1 ⟨rfl, rfl⟩)
    go_ret2
    exact measEnd_no HF.out (B1 _ _)
theorem right_all (g : Gr) (w : World) (hg : Gr.At w g) (hin : Gr.In g) : Calls Tryz.prog 138 #[g.val] w fun e w' => e = .returned (.bool (rightB g)) ∧ Below w.heap.size w w' := by
  have M := Lib.hid (fun (w' : World) (b : Below w.heap.size w w') => measured_any g w' (hg.below b) hin)
  clear hg hin
  go_enter Tryz.func138, Tryz.ntmps138
  go_wp2_with (go_at_call 199; refine (M.out _ (B1 _ _)).mono ?_; rintro e w1 ⟨v, rfl, hb, _, _⟩; have H1 := Lib.hid (bb (B1 w _) hb); clear hb)
  go_ret
  exact ⟨rfl, H1.out⟩
end Go.Proofs.YtlbjmkljmhfjdaaGreat
namespace Go.Proofs.YtlbjmkljmhfjdaaGreat
open Go Go.RowKit
theorem run_append_onto {P : Program} (w : World) (base : Nat) (t ty e : TypeId) (i : TypeInfo) (z : Value) (size bytes : Nat) (ht : P.underlying t = some (.slice e)) (hi : P.info? e = some i) (hz : i.zero = some z)
    (hsize : i.size = size) (hby : i.bytes = bytes) (hzs : z.cells.size = size) (hsz : 0 < size)
    (v : Value) (n : Nat) (xs : List Value) (hown : w.ownsRow base e size v n xs) (A : Option Addr) (m c : Nat) (news : List Value) (hl : news.length = m * size)
    (hnews : ∀ a, A = some a → ∀ j u, news[j]? = some u → w.cell? (a.add j) = some u) (hnone : A = none → m = 0 ∧ c = 0) (h1 : ∀ u ∈ news, u.oneCell' = true)
    (h63 : n + m ≤ maxLen) (hbytes : (n + m) * bytes ≤ 140737488355328) (hbase : base ≤ w.heap.size) :
    ∃ v' w', (Builtin.append_ #[t, t] ty #[v, .slice A m c]).run P w = .ok v' w' ∧ w'.ownsRow base e size v' (n + m) (xs ++ news) ∧ w.grownBy w' v.ownBlock ∧ (∀ k, v'.ownBlock = some k → v.ownBlock = some k ∨ w.heap.size ≤ k) := by
  cases A with
  | none =>
    obtain ⟨rfl, rfl⟩ := hnone rfl
    have h0 : news = [] := List.eq_nil_of_length_eq_zero (by simpa using hl)
    subst h0
    exact ⟨v, w, run_append_owned_none w base t ty e i size ht hi v n xs hown, by simpa using hown, World.grownBy.refl _ _, fun _ h => .inl h⟩
  | some a =>
    have hnews' := hnews a rfl
    obtain ⟨v', w', hrun, hown', hg, hnn⟩ := run_append_own (P := P) w base t ty e i z size bytes ht hi hz hsize hby hzs hsz v n xs hown a m c news hl hnews' h1 h63 hbytes hbase
    refine ⟨v', w', hrun, hown', hg, ?_⟩
    subst hsize hby
    have hsm : n + m ≤ 9223372036854775807 := by simp only [maxLen] at h63; omega
    rcases hown.2 with ⟨rfl, rfl⟩ | ⟨g, cap, cur, rfl, hbg, hgh, hnc, hcm, hcs, htake⟩
    · by_cases hm : m = 0
      · rw [hnn.2 ⟨rfl, hm⟩]
        intro k h
        cases h
      · have hr := run_append_nil (P := P) w t ty e i z ht hi hz a m c news hl hnews' (by omega) (by omega) (by have hb := hbytes; rw [Nat.zero_add] at hb; omega)
        rw [hr] at hrun
        cases hrun
        intro k h
        simp only [Value.ownBlock, Option.some.injEq] at h
        exact .inr (by omega)
    · by_cases hroom : n + m ≤ cap
      · have hfit : n * i.size + news.length ≤ cur.size := by rw [hl, hcs, ← Nat.add_mul]; exact Nat.mul_le_mul_right _ hroom
        have hr := run_append_room (P := P) w t ty e i ht hi g n cap cur hgh a m c news hl hnews' h1 hroom hfit
        rw [hr] at hrun
        cases hrun
        exact fun k h => .inl h
      · have holds : ∀ j u, xs[j]? = some u → w.cell? ((⟨g, 0, none⟩ : Addr).add j) = some u := hown.cells (g := g) rfl
        have hr := run_append_grow (P := P) w t ty e i z ht hi hz ⟨g, 0, none⟩ n cap xs hown.1 holds a m c news hl hnews' (by omega) (by omega) (growslice_fits (by omega) hbytes)
        rw [hr] at hrun
        cases hrun
        intro k h
        simp only [Value.ownBlock, Option.some.injEq] at h
        exact .inr (by omega)
theorem wpList_append_onto {P : Program} (w : World) {ops : Array Oper} {rest : List Oper} {o : Oper} {ac : Act} {Q : Exit → Act → World → Prop}
    (hgd : o.guard = none) (s x : Operand) (t : TypeId) (hop : o.op = Op.call { callee := Callee.builtin Builtin.append, args := #[s, x], argTypes := #[t, t] })
    (base : Nat) (e : TypeId) (i : TypeInfo) (z : Value) (size bytes : Nat) (ht : P.underlying t = some (.slice e)) (hi : P.info? e = some i) (hz : i.zero = some z)
    (hsize : i.size = size) (hby : i.bytes = bytes) (hzs : z.cells.size = size) (hsz : 0 < size)
    (v : Value) (n : Nat) (xs : List Value) (hs : ac.eval s = v) (hown : w.ownsRow base e size v n xs) (A : Option Addr) (m c : Nat) (news : List Value) (hx : ac.eval x = .slice A m c) (hl : news.length = m * size)
    (hnews : ∀ a, A = some a → ∀ j u, news[j]? = some u → w.cell? (a.add j) = some u) (hnone : A = none → m = 0 ∧ c = 0) (h1 : ∀ u ∈ news, u.oneCell' = true)
    (h63 : n + m ≤ maxLen) (hbytes : (n + m) * bytes ≤ 140737488355328) (hbase : base ≤ w.heap.size)
    (hK : ∀ v' w', w'.ownsRow base e size v' (n + m) (xs ++ news) → w.grownBy w' v.ownBlock → (∀ k, v'.ownBlock = some k → v.ownBlock = some k ∨ w.heap.size ≤ k) → wpList P ops Q rest (ac.put o.dst v') w') :
    wpList P ops Q (o :: rest) ac w := by
  obtain ⟨v', w', hrun, r1, r2, r3⟩ := run_append_onto (P := P) w base t o.type e i z size bytes ht hi hz hsize hby hzs hsz v n xs hown A m c news hl hnews hnone h1 h63 hbytes hbase
  refine wpList_plain hgd fun K hK' => ?_
  unfold Oper.wp execOp
  simp only [hop, resolve, invoke, builtin, Sem.run_bind, Sem.run_pure, Result.andThen_ok, List.map_toArray, List.map_cons, List.map_nil, hs, hx, hrun]
  exact hK' _ _ (hK v' w' r1 r2 r3)
theorem setRow_grown (w : World) (g : Nat) (cs : Array Value) : w.grownBy (w.setRow g cs) (some g) :=
  ⟨rfl, rfl, rfl, by simp [World.setRow], fun k _ hk => setRow_other w g k _ (fun e => hk (by rw [e]))⟩
/-- A store of a whole value into a whole block. -/
theorem wpList_store_whole {P : Program} {ops : Array Oper} {rest : List Oper} {o : Oper} {a : Act} {w : World} {Q : Exit → Act → World → Prop} (hgd : o.guard = none) (ty : TypeId) (x y : Operand) (ho : o.op = .store ty x y)
    (g : Nat) (cells : Array Value) (hx : a.eval x = .pointer (some ⟨g, 0, none⟩)) (hy : a.eval y = .agg cells)
    (t : TypeId) (old : Array Value) (hg : Blk w g old t) (hi : (P.info? ty).map (·.size) = some cells.size)
    (hold : old.size = cells.size) (h1 : cells.all (·.oneCell') = true)
    (h : ∀ w', Blk w' g cells t → w.grownBy w' (some g) → wpList P ops Q rest (a.put o.dst undef) w') : wpList P ops Q (o :: rest) a w :=
  wpList_store_row hgd ty x y ho g cells hx hy t old hg hi hold h1 (h _ hg.setRow (setRow_grown w g cells))
/-- A store of one cell into a whole block. -/
theorem wpList_store_blk {P : Program} {ops : Array Oper} {rest : List Oper} {o : Oper} {a : Act} {w : World} {Q : Exit → Act → World → Prop} (hgd : o.guard = none) (ty : TypeId) (x y : Operand) (ho : o.op = .store ty x y)
    (g j : Nat) (v : Value) (hx : a.eval x = .pointer (some ⟨g, j, none⟩)) (hy : a.eval y = v) (h1 : v.oneCell' = true)
    (t : TypeId) (old : Array Value) (hg : Blk w g old t) (hj : j < old.size) (hi : (P.info? ty).map (·.size) = some 1) (cells : Array Value) (hc : cells = (old.toList.take j ++ [v] ++ old.toList.drop (j + 1)).toArray)
    (h : ∀ w', Blk w' g cells t → w.grownBy w' (some g) → wpList P ops Q rest (a.put o.dst undef) w') : wpList P ops Q (o :: rest) a w := by
  subst hc
  have hst := run_storeCells_at P g j t [v] 0 old w hg (by simp; omega) (fun u hu => by simp at hu; subst hu; exact h1)
  have hcv : v.cells = #[v] := by cases v <;> first | rfl | cases h1
  refine wpList_plain hgd fun K hK => ?_
  unfold Oper.wp execOp
  cases hq : P.info? ty with
  | none => simp [hq] at hi
  | some i =>
    have hs : i.size = 1 := by simpa [hq] using hi
    simp only [Nat.add_zero, List.length_cons, List.length_nil, Nat.zero_add] at hst
    have hsv : (storeVar ty ⟨g, j, none⟩ v).run P w = .ok () (w.setRow g (old.toList.take j ++ [v] ++ old.toList.drop (j + 1)).toArray) := by
      simp [storeVar, sizeOf, typeInfo, hq, hcv, hs, hst]
    simp only [ho, hx, hy, Instr.storeAt, Instr.sureAddr, Sem.run_bind, Sem.run_pure, Result.andThen_ok, hsv]
    exact hK _ _ (h _ hg.setRow (setRow_grown w g _))
theorem own_below {w w' : World} {base e size n : Nat} {v : Value} {xs : List Value} (h : w.ownsRow base e size v n xs) (hb : Below w.heap.size w w') : w'.ownsRow base e size v n xs := by
  refine ⟨h.1, ?_⟩
  rcases h.2 with hn | ⟨g, cap, cur, rfl, hbg, hgg, rest⟩
  · exact .inl hn
  · exact .inr ⟨g, cap, cur, rfl, hbg, (hb.block g (Array.getElem?_eq_some_iff.1 hgg).1).trans hgg, rest⟩
theorem own_lower {w : World} {base base' e size n : Nat} {v : Value} {xs : List Value} (h : w.ownsRow base e size v n xs) (hb : base' ≤ base) : w.ownsRow base' e size v n xs := by
  refine ⟨h.1, ?_⟩
  rcases h.2 with hn | ⟨g, cap, cur, rfl, hbg, rest⟩
  · exact .inl hn
  · exact .inr ⟨g, cap, cur, rfl, Nat.le_trans hb hbg, rest⟩
theorem grown_below {B : Nat} {w0 w w' : World} {row : Option Nat} (h : Below B w0 w) (hB : B ≤ w.heap.size) (hg : w.grownBy w' row) (hr : ∀ k, row = some k → B ≤ k) : Below B w0 w' :=
  ⟨hg.os.trans h.os, hg.tape.trans h.tape, hg.output.trans h.output, Nat.le_trans h.size hg.size, fun k hk => (hg.block k (Nat.lt_of_lt_of_le hk hB) (fun e => by have := hr k e.symm; omega)).trans (h.block k hk)⟩
theorem Blk.grown {w w' : World} {b : Nat} {vs : Array Value} {T : TypeId} {row : Option Nat} (h : Blk w b vs T) (hg : w.grownBy w' row) (hne : some b ≠ row) : Blk w' b vs T := (hg.block b h.lt hne).trans h
theorem own_lies1 {w : World} {base e n c : Nat} {A : Option Addr} {xs : List Value} (h : w.ownsRow base e 1 (.slice A n c) n xs) : Lies w A xs := by
  intro h0
  have hl := h.1
  rcases h.2 with ⟨h1, h2⟩ | ⟨g, cap, cur, h1, hbg, hgg, rest⟩
  · subst h2; rw [hl] at h0; simp at h0
  · simp only [Value.slice.injEq] at h1
    obtain ⟨rfl, _, rfl⟩ := h1
    refine ⟨g, 0, rfl, (Array.getElem?_eq_some_iff.1 hgg).1, fun i hi => ?_⟩
    have := h.cells (g := g) rfl i xs[i] (List.getElem?_eq_getElem hi)
    rw [Addr.add_lit] at this
    rw [this, List.getElem?_eq_getElem hi]
end Go.Proofs.YtlbjmkljmhfjdaaGreat
namespace Go.Proofs.YtlbjmkljmhfjdaaGreat
open Go Go.RowKit Go.Maps
def lws : List (Int × Int) := [(12, 265), (11, 265), (10, 265), (9, 268), (8, 265), (7, 269), (6, 268), (5, 267), (4, 266), (3, 266), (2, 266), (1, 265)]
theorem insL {w : World} {b n : Nat} {D : DataW Unit} (hown : w.ownsMap Tryz.prog 34 fnElem b n D) (x : Int) (f : Nat) (hx : 0 ≤ x ∧ x < 256) (hn : n < 100) :
    ∃ w', (Instr.mapUpdate 222 (.map (some b)) (.int .i64 x) (.func (.func f) #[] #[])).run Tryz.prog w = .ok () w' ∧ w'.ownsMap Tryz.prog 34 fnElem b (n + 1) (D.put (lk x) (ld f)) ∧ w.grownBy w' (some b) :=
  hown.update Tryz.law26 Tryz.underlying222 (by unfold maxLen; omega) (keyOf_int_mk Tryz.underlying34 (lk_wf (by omega))) rfl
/-- The map of the laws. -/
def Laws (w : World) (b : Nat) : Prop := w.ownsMap Tryz.prog 34 fnElem b 12 (Dr lws)
theorem Laws.below {w w' : World} {b : Nat} (h : Laws w b) (hb : Below w.heap.size w w') : Laws w' b := by
  obtain ⟨es, clock, h1, F, h2, h3⟩ := h
  exact ⟨es, clock, (hb.block b (Array.getElem?_eq_some_iff.1 h1).1).trans h1, F, h2, h3⟩
theorem Laws.lt {w : World} {b : Nat} (h : Laws w b) : b < w.heap.size := World.ownsMap.lt h
theorem Laws.kept {w w' : World} {b : Nat} (h : Laws w b) (hb : w'.heap[b]? = w.heap[b]?) : Laws w' b := by
  obtain ⟨es, clock, h1, F, h2, h3⟩ := h
  exact ⟨es, clock, hb.trans h1, F, h2, h3⟩
set_option maxRecDepth 100000 in
set_option maxHeartbeats 1000000 in
theorem laws_any (w : World) : Calls Tryz.prog 240 #[] w fun e w' => e = .returned (.map (some w.heap.size)) ∧ Laws w' w.heap.size ∧ Below w.heap.size w w' := by
  have hmm := @run_makeMap Tryz.prog
  have m0 : (w.alloc (.map #[] 0)).ownsMap Tryz.prog 34 fnElem w.heap.size 0 (.map []) := World.ownsMap_made w Tryz.prog 34 _
  have b0 : Below w.heap.size w (w.alloc (.map #[] 0)) := B1 _ _
  obtain ⟨w1, r1, m1, g1⟩ := insL m0 1 265 (by omega) (by omega)
  have b1 := below_map b0 g1 (Nat.le_refl _)
  obtain ⟨w2, r2, m2, g2⟩ := insL m1 2 266 (by omega) (by omega)
  have b2 := below_map b1 g2 (Nat.le_refl _)
  obtain ⟨w3, r3, m3, g3⟩ := insL m2 3 266 (by omega) (by omega)
  have b3 := below_map b2 g3 (Nat.le_refl _)
  obtain ⟨w4, r4, m4, g4⟩ := insL m3 4 266 (by omega) (by omega)
  have b4 := below_map b3 g4 (Nat.le_refl _)
  obtain ⟨w5, r5, m5, g5⟩ := insL m4 5 267 (by omega) (by omega)
  have b5 := below_map b4 g5 (Nat.le_refl _)
  obtain ⟨w6, r6, m6, g6⟩ := insL m5 6 268 (by omega) (by omega)
  have b6 := below_map b5 g6 (Nat.le_refl _)
  obtain ⟨w7, r7, m7, g7⟩ := insL m6 7 269 (by omega) (by omega)
  have b7 := below_map b6 g7 (Nat.le_refl _)
  obtain ⟨w8, r8, m8, g8⟩ := insL m7 8 265 (by omega) (by omega)
  have b8 := below_map b7 g8 (Nat.le_refl _)
  obtain ⟨w9, r9, m9, g9⟩ := insL m8 9 268 (by omega) (by omega)
  have b9 := below_map b8 g9 (Nat.le_refl _)
  obtain ⟨w10, r10, m10, g10⟩ := insL m9 10 265 (by omega) (by omega)
  have b10 := below_map b9 g10 (Nat.le_refl _)
  obtain ⟨w11, r11, m11, g11⟩ := insL m10 11 265 (by omega) (by omega)
  have b11 := below_map b10 g11 (Nat.le_refl _)
  obtain ⟨w12, r12, m12, g12⟩ := insL m11 12 265 (by omega) (by omega)
  have b12 := below_map b11 g12 (Nat.le_refl _)
  have M : RowKit.Hid (Laws w12 w.heap.size) := Lib.hid m12
  have B := Lib.hid b12
  clear m0 m1 m2 m3 m4 m5 m6 m7 m8 m9 m10 m11 m12 g1 g2 g3 g4 g5 g6 g7 g8 g9 g10 g11 g12 b0 b1 b2 b3 b4 b5 b6 b7 b8 b9 b10 b11 b12
  go_enter Tryz.func240, Tryz.ntmps240
  go_wp2_with fail
  go_ret
  exact ⟨rfl, M.out, B.out⟩
/-- What is looked up. -/
theorem lookL {w : World} {b : Nat} (h : Laws w b) (c : Int) (hc : -9223372036854775808 ≤ c ∧ c < 9223372036854775808) (n : Nat) (hf : find c lws = some (n : Int)) :
    (Instr.lookup 222 (.map (some b)) (.int .i64 c) false).run Tryz.prog w = .ok (.func (.func n) #[] #[]) w := by
  obtain ⟨v, ps, hrun, hv⟩ := World.ownsMap.lookup h Tryz.law26 Tryz.underlying222 (z := .nilFunc) (by kernel_rfl) (zd := ld 0) (zp := []) rfl (keyOf_int_mk Tryz.underlying34 (lk_wf (c := c) hc))
  rw [Dr_at] at hv
  rw [hf] at hv
  have hge : 57 ≤ (n : Int) := by
    have := find_mem c n lws hf
    simp [lws] at this
    omega
  rcases fnElem_inv hv with ⟨n', rfl, e⟩ | e
  · obtain rfl : n = n' := by omega
    exact hrun
  · omega
end Go.Proofs.YtlbjmkljmhfjdaaGreat

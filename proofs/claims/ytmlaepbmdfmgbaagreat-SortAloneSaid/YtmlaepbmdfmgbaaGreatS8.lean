/- The law SortAlone: bodies in a row, names put in. -/
import Derived.Test.YtmlaepbmdfmgbaaGreatS4
import Derived.Test.YtmlaepbmdfmgbaaGreatS7
import Derived.Test.YtmlaepbmdfmgbaaGreatN2
import Derived.Test.YtmlaepbmdfmgbaaGreatVG
set_option linter.unusedSimpArgs false
set_option linter.unusedVariables false
namespace Go.Proofs.YtmlaepbmdfmgbaaGreat
open Go Go.RowKit Go.Maps
def bdz : Bdy := (none, 0, [])
/-- A rule's body, as it stands for itself. -/
def partK (g : Gr) (fr s : Nat) : List Nd := (((g.nodes.drop fr).take s).map Nd.kz).map (mvk (-(fr : Int)))
def altK (g : Gr) (c j fr s : Nat) : List Nd := if j = c then ofL 6 [[leafN 2], partK g fr s] else partK g fr s
structure AL (g : Gr) (w W : World) (v : Value) (i c R : Nat) (bs : List Bdy) : Prop where
  ka : Blk W w.heap.size #[.slice g.RA R g.rc, .slice g.NA g.nodes.length g.nc] 31
  r1 : RB w W v bs 200000
  l1 : bs.length = i
  h1 : ∀ j, j < i → ∃ fr s : Nat, (g.rules.getD j Rl.zero).body = fr ∧ (measOf g fr).1 = s ∧ fr + s ≤ g.nodes.length ∧ (bs.getD j bdz).2.2.map Nd.kz = altK g c j fr s
theorem AL.more {g : Gr} {w W W' : World} {v v' : Value} {i c R : Nat} {bs : List Bdy} (h : AL g w W v i c R bs) (b : Bdy) (ka : Blk W' w.heap.size #[.slice g.RA R g.rc, .slice g.NA g.nodes.length g.nc] 31) (hr : RB w W' v' (bs ++ [b]) 200000)
    {fr s : Nat} (f1 : (g.rules.getD i Rl.zero).body = fr) (f2 : (measOf g fr).1 = s) (f3 : fr + s ≤ g.nodes.length) (f4 : b.2.2.map Nd.kz = altK g c i fr s) : AL g w W' v' (i + 1) c R (bs ++ [b]) := by
  have hl := h.l1
  refine ⟨ka, hr, by simp; exact hl, fun j hj => ?_⟩
  by_cases e : j < i
  · have := h.h1 j e
    rw [show (bs ++ [b]).getD j bdz = bs.getD j bdz from by simp only [List.getD]; rw [List.getElem?_append_left (by omega)]]
    exact this
  · obtain rfl : j = i := by omega
    rw [show (bs ++ [b]).getD j bdz = b from by simp [List.getD, ← hl]]
    exact ⟨fr, s, f1, f2, f3, f4⟩
theorem Owd.monoK {w W : World} {v : Value} {L : List Nd} {K K' : Int} (h : Owd w W v L K) (hK : K ≤ K') : Owd w W v L K' :=
  ⟨h.row, h.kids, fun x hx => ⟨(h.bnd x hx).1, fun k hk => by have := (h.bnd x hx).2.1 k hk; omega, (h.bnd x hx).2.2⟩, h.low⟩
/-- While names are put in. -/
structure Nmx (B : Nat) (w W : World) (x g : Gr) (xb gb : Nat) (i : Nat) : Prop where
  row : W.ownsRow B 51 2 (.slice x.RA x.rules.length x.rc) x.rules.length (rcells (mixR x.rules g.rules i))
  low : Below B w W
  bx : Blk W xb #[.slice x.RA x.rules.length x.rc, .slice x.NA x.nodes.length x.nc] 31
  bg : Blk W gb #[.slice g.RA g.rules.length g.rc, .slice g.NA g.nodes.length g.nc] 31
  kept : ∀ (B' e z n : Nat) (v : Value) (xs : List Value), e ≠ 51 → w.ownsRow B' e z v n xs → W.ownsRow B' e z v n xs
theorem Nmx.below {B : Nat} {w W W' : World} {x g : Gr} {xb gb i : Nat} (h : Nmx B w W x g xb gb i) (hB : B ≤ W.heap.size) (hb : Below W.heap.size W W') : Nmx B w W' x g xb gb i :=
  ⟨own_below h.row hb, h.low.trans (hb.mono hB), h.bx.below' hb, h.bg.below' hb, fun _ _ _ _ _ _ he ho => own_below (h.kept _ _ _ _ _ _ he ho) hb⟩
theorem Nmx.step {B : Nat} {w W : World} {x g : Gr} {xb gb i rb : Nat} (h : Nmx B w W x g xb gb i) (hi : i < x.rules.length) (hA : x.RA = some ⟨rb, 0, none⟩) : Nmx B w (W.setCell ⟨rb, i * 2, none⟩ (.string (g.rules.getD i Rl.zero).name)) x g xb gb (i + 1) := by
  have hr := h.row
  rw [hA] at hr
  obtain ⟨s1, s2⟩ := hr.stored (i * 2) (.string (g.rules.getD i Rl.zero).name)
  have hm : mixR x.rules g.rules (i + 1) = (mixR x.rules g.rules i).set i ⟨(g.rules.getD i Rl.zero).name, ((mixR x.rules g.rules i).getD i Rl.zero).body⟩ := by
    rw [← mixR_next hi, mixR_at hi, if_neg (Nat.lt_irrefl _)]
  rw [rcells_set _ _ _ (by rw [mixR_length]; exact hi), ← hm, ← hA] at s1
  have hrb := (hr.lt rb rfl).1
  have hne : ∀ {d : Nat} {us : Array Value}, Blk W d us 31 → d ≠ rb := fun hd e => own_ne hr hd (by decide) (by rw [e]; rfl)
  refine ⟨s1, h.low.setCell hrb _, (heap_setCell_other W ⟨rb, i * 2, none⟩ _ _ (hne h.bx)).trans h.bx, (heap_setCell_other W ⟨rb, i * 2, none⟩ _ _ (hne h.bg)).trans h.bg, fun B' e z n v xs he ho => ?_⟩
  have ho2 := h.kept B' e z n v xs he ho
  exact ho2.kept s2 (by
    cases hv : v.ownBlock with
    | none => exact .inl rfl
    | some q => exact .inr fun e' => he (own_same ho2 hr hv (by rw [e']; rfl)))
theorem mixR_names {xs gs : List Rl} (h : xs.length = gs.length) : (mixR xs gs xs.length).map Rl.name = gs.map Rl.name := by
  apply List.ext_getElem
  · simp [mixR_length, h]
  · intro i h1 h2
    have hi : i < xs.length := by simpa [mixR_length] using h1
    have := mixR_at (gs := gs) (i := xs.length) hi
    rw [if_pos hi] at this
    simp only [List.getElem_map]
    have e : (mixR xs gs xs.length)[i]'(by rw [mixR_length]; exact hi) = (mixR xs gs xs.length).getD i Rl.zero := by simp [List.getD, mixR_length, hi]
    rw [e, this]
    simp [List.getD, show i < gs.length by omega]
theorem mixR_body {xs gs : List Rl} {i k : Nat} (h : i < xs.length) : ((mixR xs gs k).getD i Rl.zero).body = (xs.getD i Rl.zero).body := by
  rw [mixR_at h]
  split <;> rfl
theorem gramL_all (P : Nd → Prop) (hP : ∀ d x, P x → P (mvk d x)) : ∀ (n : Nat) (bl : List (List Nd)), bl.length = n → (∀ b ∈ bl, ∀ y ∈ b, P y) → ∀ y ∈ (gramL bl).2, P y
  | 0, bl, h, _, y, hy => by rw [List.length_eq_zero_iff.1 h] at hy; cases hy
  | n + 1, bl, h, hB, y, hy => by
    obtain ⟨l, b, rfl⟩ : ∃ l b, bl = l ++ [b] := ⟨bl.dropLast, bl.getLast (by intro e; simp [e] at h), (List.dropLast_concat_getLast _).symm⟩
    rw [gramL_snoc] at hy
    have hy : y ∈ (gramL l).2 ++ b.map (mvk (gramL l).2.length) := hy
    rcases List.mem_append.1 hy with hy | hy
    · exact gramL_all P hP n l (by simpa using h) (fun b hb => hB b (by simp [hb])) y hy
    · obtain ⟨z, hz, rfl⟩ := List.mem_map.1 hy
      exact hP _ _ (hB b (by simp) z hz)
/-- What the naming leaves: the built grammar with the other one's names. -/
structure Done (w W : World) (x g : Gr) (xb : Nat) (bl : List (List Nd)) : Prop where
  at_ : Gr.At W x
  in_ : Gr.In x
  cap : Capd x
  built : Built x bl
  names : x.rules.map Rl.name = g.rules.map Rl.name
  bx : Blk W xb #[.slice x.RA x.rules.length x.rc, .slice x.NA x.nodes.length x.nc] 31
  bg : Blk W w.heap.size #[.slice g.RA g.rules.length g.rc, .slice g.NA g.nodes.length g.nc] 31
  low : Below w.heap.size w W
theorem done_of {w w1 W : World} {x g : Gr} {xb : Nat} {bl : List (List Nd)} (hlen : x.rules.length = g.rules.length) (hl : g.rules.length ≤ 32) (hw : Below w.heap.size w w1) (h : Nmx w.heap.size w1 W x g xb w.heap.size x.rules.length)
    (hsp : (x.rules, x.nodes.map Nd.kz) = gramL bl) (hbl : bl.length = g.rules.length) (hk : ∀ b ∈ bl, ∀ y ∈ b, 1 ≤ y.kind ∧ y.kind ≤ 12) (hkl : ∀ y ∈ x.nodes, y.kids.length ≤ 1000) (hnl : x.nodes.length ≤ 100000) (hc : Capd x) (hnm : ∀ r ∈ g.rules, r.name.size ≤ 9223372036854775807) (htx : ∀ y ∈ x.nodes, y.text.size ≤ 9223372036854775807)
    (hn : w1.ownsRow w.heap.size 60 9 (.slice x.NA x.nodes.length x.nc) x.nodes.length (ncells x.nodes)) (hki : ∀ y ∈ x.nodes, w1.ownsRow w.heap.size 3 1 (.slice y.A y.kids.length y.cap) y.kids.length (ints y.kids) ∧ (y.A = none → y.cap = 0)) (hn1 : x.RA = none → x.rc = 0) (hn2 : x.NA = none → x.nc = 0) :
    Done w W { x with rules := mixR x.rules g.rules x.rules.length } g xb bl := by
  simp only [Prod.ext_iff] at hsp
  have hm := mixR_length x.rules g.rules x.rules.length
  have hrow := h.row
  refine ⟨⟨own_rules (by rw [hm]; exact hrow), own_nodes (h.kept _ _ _ _ _ _ (by decide) hn), fun y hy => ⟨own_lies1 (h.kept _ _ _ _ _ _ (by decide) (hki y hy).1), (hki y hy).2, by have := hkl y hy; omega⟩, by show (mixR x.rules g.rules x.rules.length).length ≤ _; omega, by show x.nodes.length ≤ _; omega, hn1, hn2, htx, fun r hr => ?_⟩, fun y hy => ?_, ⟨hc.nodes, hc.kids⟩, ⟨hsp.2, by show (mixR x.rules g.rules x.rules.length).length = _; omega, fun i hi => ?_⟩, mixR_names hlen, ?_, h.bg, hw.trans (h.low.mono (Nat.le_refl _))⟩
  · have hr : r ∈ mixR x.rules g.rules x.rules.length := hr
    obtain ⟨i, hi, rfl⟩ := List.getElem_of_mem hr
    have hi2 : i < x.rules.length := by rw [hm] at hi; exact hi
    have e : (mixR x.rules g.rules x.rules.length)[i] = (mixR x.rules g.rules x.rules.length).getD i Rl.zero := by simp [List.getD, List.getElem?_eq_getElem hi]
    rw [e, mixR_at hi2, if_pos hi2]
    show (g.rules.getD i Rl.zero).name.size ≤ _
    have hg : i < g.rules.length := by omega
    have := hnm g.rules[i] (List.getElem_mem hg)
    simpa [List.getD, List.getElem?_eq_getElem hg] using this
  · have h1 := gramL_all (fun y => 1 ≤ y.kind ∧ y.kind ≤ 12) (fun d y h => h) _ bl rfl hk y.kz (by rw [← hsp.2]; exact List.mem_map_of_mem hy)
    have h1 : 1 ≤ y.kind ∧ y.kind ≤ 12 := h1
    exact ⟨by omega, htx y hy⟩
  · have : i < x.rules.length := by omega
    show ((mixR x.rules g.rules x.rules.length).getD i Rl.zero).body = _
    rw [mixR_body this, ← hsp.1]
  · show Blk W xb #[.slice x.RA (mixR x.rules g.rules x.rules.length).length x.rc, _] _
    rw [hm]; exact h.bx
theorem partK_kind {g : Gr} (hR : Right g) (fr s : Nat) : ∀ y ∈ partK g fr s, 1 ≤ y.kind ∧ y.kind ≤ 12 := by
  intro y hy
  unfold partK at hy
  obtain ⟨z, hz, rfl⟩ := List.mem_map.1 hy
  obtain ⟨q, hq, rfl⟩ := List.mem_map.1 hz
  have hq2 : q ∈ g.nodes := List.mem_of_mem_drop (List.mem_of_mem_take hq)
  obtain ⟨i, hi, rfl⟩ := List.getElem_of_mem hq2
  have := hR.all i hi
  rw [nodeOk_iff] at this
  have e : g.nodes.getD i Nd.zero = g.nodes[i] := by simp [List.getD, List.getElem?_eq_getElem hi]
  rw [e] at this
  show 1 ≤ g.nodes[i].kind ∧ g.nodes[i].kind ≤ 12
  unfold NodeIs at this
  omega
theorem altK_kind {g : Gr} (hR : Right g) (c j fr s : Nat) : ∀ y ∈ altK g c j fr s, 1 ≤ y.kind ∧ y.kind ≤ 12 := by
  intro y hy
  unfold altK at hy
  split at hy
  · rw [hard_eq] at hy
    rcases List.mem_cons.1 hy with rfl | hy
    · exact ⟨by show (1 : Int) ≤ 6; decide, by show (6 : Int) ≤ 12; decide⟩
    · rcases List.mem_cons.1 hy with rfl | hy
      · exact ⟨by show (1 : Int) ≤ 2; decide, by show (2 : Int) ≤ 12; decide⟩
      · obtain ⟨z, hz, rfl⟩ := List.mem_map.1 hy
        exact partK_kind hR fr s z hz
  · exact partK_kind hR fr s y hy
end Go.Proofs.YtmlaepbmdfmgbaaGreat
namespace Go.Proofs.YtmlaepbmdfmgbaaGreat
open Go Go.RowKit
theorem sum_le : ∀ (a b : List Nat), a.length = b.length → (∀ i, i < a.length → a.getD i 0 ≤ b.getD i 0) → a.sum ≤ b.sum
  | [], b, _, _ => by simp
  | x :: a, [], h, _ => by simp at h
  | x :: a, y :: b, h, hh => by
    have h0 := hh 0 (by simp)
    have ih := sum_le a b (by simpa using h) (fun i hi => hh (i + 1) (by simpa using hi))
    simp only [List.sum_cons]
    have h0 : x ≤ y := h0
    omega
theorem sum_alt : ∀ (a b : List Nat) (c : Nat), a.length = b.length → (∀ i, i < a.length → a.getD i 0 ≤ b.getD i 0 + if i = c then 2 else 0) → a.sum ≤ b.sum + 2
  | [], b, _, _, _ => by simp
  | x :: a, [], _, h, _ => by simp at h
  | x :: a, y :: b, 0, h, hh => by
    have h0 := hh 0 (by simp)
    have ih := sum_le a b (by simpa using h) (fun i hi => by have := hh (i + 1) (by simpa using hi); simpa using this)
    simp only [List.sum_cons]
    have h0 : x ≤ y + 2 := h0
    omega
  | x :: a, y :: b, c + 1, h, hh => by
    have h0 := hh 0 (by simp)
    have ih := sum_alt a b c (by simpa using h) (fun i hi => by have := hh (i + 1) (by simpa using hi); simpa using this)
    simp only [List.sum_cons]
    have h0 : x ≤ y := by simpa using h0
    omega
theorem bodies_sum {len : Nat} {ms : Nat → Meas} (h1 : ∀ m, m < len → 1 ≤ (ms m).1) : ∀ (l : List Rl) (next top : Int), 0 ≤ next → bodies len ms l next = some top → next + ((l.map fun r => (ms r.body.toNat).1.toNat).sum : Nat) = top
  | [], next, top, _, h => by
    simp only [bodies, Option.some.injEq] at h
    simp [h]
  | r :: l, next, top, hn, h => by
    unfold bodies at h
    split at h
    · rename_i hc
      obtain ⟨a, b, _⟩ := hc
      have hm := h1 next.toNat (by omega)
      have ih := bodies_sum h1 l _ top (by omega) h
      simp only [List.map_cons, List.sum_cons]
      rw [a]
      omega
    · cases h
theorem alt_nodes {g : Gr} {bl : List (List Nd)} {c : Nat} (hg : Right g) (hl : bl.length = g.rules.length) (hb : ∀ i, i < g.rules.length → ∃ fr s : Nat, (g.rules.getD i Rl.zero).body = fr ∧ (measOf g fr).1 = s ∧ fr + s ≤ g.nodes.length ∧ bl.getD i [] = altK g c i fr s) : (gramL bl).2.length ≤ g.nodes.length + 2 := by
  obtain ⟨ms, hm, hbd⟩ := hg.pre
  rw [gramL_len _ bl rfl]
  have hs := bodies_sum (fun m hl => (hm m (by omega) hl).1) g.rules 0 _ (by omega) hbd
  have h2 := sum_alt (bl.map List.length) (g.rules.map fun r => (ms r.body.toNat).1.toNat) c (by simp [hl]) (fun i hi => by
    rw [List.length_map] at hi
    obtain ⟨fr, s, f1, f2, f3, f4⟩ := hb i (by omega)
    have hfl : fr < g.nodes.length := by have := hg.body i (by omega); omega
    rw [measOf_yes hg hm hfl] at f2
    have e1 : (bl.map List.length).getD i 0 = (bl.getD i []).length := by simp [List.getD, List.getElem?_eq_getElem hi]
    have hir : i < g.rules.length := by omega
    have e2 : (g.rules.map fun r => (ms r.body.toNat).1.toNat).getD i 0 = (ms (g.rules.getD i Rl.zero).body.toNat).1.toNat := by simp [List.getD, List.getElem?_eq_getElem hir]
    rw [e1, e2, f1, f4, Int.toNat_natCast, f2]
    have hp : (partK g fr s).length = s := by unfold partK; simp; omega
    unfold altK
    split
    · rw [hard_eq]; simp [hp]
    · rw [hp]; simp)
  omega
end Go.Proofs.YtmlaepbmdfmgbaaGreat

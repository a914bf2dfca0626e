/- Plain facts of layer 8: a grammar read, word by word. Nothing here speaks of a program. -/
import Derived.Test.YtfghfnpiaccfaaaGreatDoorG5
import Derived.Test.YtfghfnpiaccfaaaGreatDoorG6
import Derived.Maps.OwnSet
import Derived.Deep.RegionHeldLaw
set_option linter.unusedSimpArgs false
set_option linter.unusedVariables false
namespace Go.Proofs.YtfghfnpiaccfaaaGreatDoor
/-- What a node says: its Kind, what its word has, the number of the word at which it stands, the name that it calls. -/
structure Px where
  kind : Int
  cls : Nat → Bool
  text : List Nat
  lev : Int
  at_ : Nat
  name : List Nat
/-- Parts, one behind the other, each with its kids. -/
inductive Fr where
  | nil : Fr
  | cons (x : Px) (kids rest : Fr) : Fr
namespace Fr
def len : Fr → Nat
  | nil => 0
  | cons _ _ r => r.len + 1
def app : Fr → Fr → Fr
  | nil, g => g
  | cons x k r, g => cons x k (r.app g)
/-- How many nodes there are. -/
def nodes : Fr → Nat
  | nil => 0
  | cons _ k r => 1 + k.nodes + r.nodes
theorem app_nil : ∀ f : Fr, f.app nil = f
  | nil => rfl
  | cons x k r => by rw [app, app_nil r]
theorem app_assoc : ∀ f g h : Fr, (f.app g).app h = f.app (g.app h)
  | nil, _, _ => rfl
  | cons x k r, g, h => by rw [app, app, app, app_assoc r]
theorem len_app : ∀ f g : Fr, (f.app g).len = f.len + g.len
  | nil, _ => by simp [app, len]
  | cons x k r, g => by simp only [app, len, len_app r]; omega
theorem nodes_app : ∀ f g : Fr, (f.app g).nodes = f.nodes + g.nodes
  | nil, _ => by simp [app, nodes]
  | cons x k r, g => by simp only [app, nodes, nodes_app r]; omega
theorem len_le : ∀ f : Fr, f.len ≤ f.nodes
  | nil => Nat.le_refl _
  | cons x k r => by have := len_le r; simp only [len, nodes]; omega
end Fr
/-- A part: a node and its kids. -/
abbrev Pn := Px × Fr
def Pn.fr (p : Pn) (r : Fr) : Fr := .cons p.1 p.2 r
/-- What was made, and the number of the next word; or what is wrong with the next word. -/
inductive Rs (α : Type) where
  | ok (a : α) (k : Nat) : Rs α
  | no (e : Int) (k : Nat) : Rs α
section
variable (tk : Nat → Wd)
/-- The sign that is next, or none. -/
def sgk (k : Nat) : List Nat := if (tk k).kind = 5 then (tk k).text else []
/-- Parts, as long as there is one more. -/
def sev (one : Nat → Rs Pn) (more : Nat → Option Nat) : Nat → Nat → Rs Fr
  | 0, k => .no 0 k
  | f + 1, k => match one k with
    | .no e j => .no e j
    | .ok p j => match more j with
      | none => .ok (p.fr .nil) j
      | some j' => match sev one more f j' with
        | .no e i => .no e i
        | .ok r i => .ok (p.fr r) i
/-- A single one as it is, others as the kids of one of a Kind. -/
def gath (K : Int) : Fr → Pn
  | .cons x k .nil => (x, k)
  | .cons x k r => (⟨K, no, [], 0, x.at_, []⟩, .cons x k r)
  | .nil => (⟨K, no, [], 0, 0, []⟩, .nil)
def several (K : Int) (one : Nat → Rs Pn) (more : Nat → Option Nat) (f k : Nat) : Rs Pn :=
  match sev one more f k with
  | .no e j => .no e j
  | .ok r j => .ok (gath K r) j
/-- Signs behind a part. -/
def behindK (s : List Nat) : Option Int := if s = [42] then some 8 else if s = [43] then some 9 else if s = [63] then some 10 else none
def aheadK (s : List Nat) : Option Int := if s = [33] then some 11 else if s = [38] then some 12 else none
def suf : Nat → Pn → Nat → Rs Pn
  | 0, _, k => .no 0 k
  | f + 1, p, k => match behindK (sgk tk k) with
    | none => .ok p k
    | some K => suf f (⟨K, no, [], 0, k, []⟩, p.fr .nil) (k + 1)
/-- Which sort of primary begins: 1 a call, 2 a text, 3 a class, 4 any, 5 a bracket; 0 none. -/
def mk (k : Nat) : Nat := if (tk k).kind = 2 then 1 else if (tk k).kind = 3 then 2 else if (tk k).kind = 4 then 3 else if sgk tk k = [46] then 4 else if sgk tk k = [40] then 5 else 0
def begins (k : Nat) : Option Nat := if (aheadK (sgk tk k)).isSome ∨ mk tk k ≠ 0 then some k else none
def slash (k : Nat) : Option Nat := if sgk tk k = [47] then some (k + 1) else none
/-- A primary part: what is in brackets is read by 'al'. -/
def prim (al : Nat → Rs Pn) (d k : Nat) : Rs Pn :=
  if mk tk k = 0 then .no 7 k
  else if mk tk k = 1 then .ok (⟨5, no, [], max (tk k).lev 0, k, (tk k).text⟩, .nil) (k + 1)
  else if mk tk k = 2 then .ok (⟨4, no, (tk k).text, 0, k, []⟩, .nil) (k + 1)
  else if mk tk k = 3 then .ok (⟨3, (tk k).cls, [], 0, k, []⟩, .nil) (k + 1)
  else if mk tk k = 4 then .ok (⟨2, no, [], 0, k, []⟩, .nil) (k + 1)
  else if d = 500 then .no 3 k
  else if sgk tk (k + 1) = [41] then .ok (⟨1, no, [], 0, k, []⟩, .nil) (k + 2)
  else match al (k + 1) with
    | .no e j => .no e j
    | .ok p j => if sgk tk j = [41] then .ok p (j + 1) else .no 7 j
def sufd (N : Nat) (r : Rs Pn) : Rs Pn :=
  match r with
  | .no e j => .no e j
  | .ok p j => suf tk (N + 1 - j) p j
/-- An item: the one behind a sign is read by 'it'. -/
def itm (N : Nat) (it al : Nat → Rs Pn) (d k : Nat) : Rs Pn :=
  match aheadK (sgk tk k) with
  | some K => match it (k + 1) with
    | .no e j => .no e j
    | .ok p j => .ok (⟨K, no, [], 0, k, []⟩, p.fr .nil) j
  | none => sufd tk N (prim tk al d k)
/-- Read by a rule (3 alt, 2 seq, 1 item), with d brackets open, from the word k on; N is the last word. -/
def prs (N : Nat) : Nat → Nat → Nat → Nat → Rs Pn
  | 0, _, _, k => .no 0 k
  | f + 1, m, d, k => if m = 3 then several 7 (prs N f 2 d) (slash tk) (N + 1 - k) k
    else if m = 2 then several 6 (prs N f 1 d) (begins tk) (N + 1 - k) k
    else itm tk N (prs N f 1 d) (prs N f 3 (d + 1)) d k
theorem prs3 (N f d k : Nat) : prs tk N (f + 1) 3 d k = several 7 (prs tk N f 2 d) (slash tk) (N + 1 - k) k := rfl
theorem prs2 (N f d k : Nat) : prs tk N (f + 1) 2 d k = several 6 (prs tk N f 1 d) (begins tk) (N + 1 - k) k := rfl
theorem prs1 (N f d k : Nat) : prs tk N (f + 1) 1 d k = itm tk N (prs tk N f 1 d) (prs tk N f 3 (d + 1)) d k := rfl
/-- A rule: its name, the number of its word, its body. -/
structure Ru where
  name : List Nat
  at_ : Nat
  body : Pn
def alt (N k : Nat) : Rs Pn := prs tk N (4 * (N + 2)) 3 0 k
def rul (N k : Nat) : Rs Ru :=
  if (tk k).kind ≠ 2 ∨ 0 ≤ (tk k).lev then .no 7 k
  else if sgk tk (k + 1) ≠ [60, 45] then .no 7 (k + 1)
  else match alt tk N (k + 2) with
    | .no e j => .no e j
    | .ok p j => if sgk tk j = [59] then .ok ⟨(tk k).text, k, p⟩ (j + 1) else .no 7 j
def ruls (N : Nat) : Nat → Nat → Rs (List Ru)
  | 0, k => .no 0 k
  | f + 1, k => match rul tk N k with
    | .no e j => .no e j
    | .ok r j => if (tk j).kind = 1 then .ok [r] j else match ruls N f j with
      | .no e i => .no e i
      | .ok l i => .ok (r :: l) i
/-- Words, the last one an End. -/
structure Toks (N : Nat) : Prop where
  last : (tk N).kind = 1
  mid : ∀ j, j < N → (tk j).kind ≠ 1
end
section
variable {tk : Nat → Wd} {N : Nat}
theorem Toks.next (h : Toks tk N) {k : Nat} (hk : k ≤ N) (hw : (tk k).kind ≠ 1) : k + 1 ≤ N := by
  rcases Nat.lt_or_eq_of_le hk with h1 | rfl
  · omega
  · exact absurd h.last hw
theorem sg_kind {k : Nat} (h : sgk tk k ≠ []) : (tk k).kind = 5 := by
  unfold sgk at h
  split at h
  · assumption
  · exact absurd rfl h
theorem Toks.sign (h : Toks tk N) {k : Nat} (hk : k ≤ N) (hw : sgk tk k ≠ []) : k + 1 ≤ N :=
  h.next hk (by rw [sg_kind hw]; decide)
theorem aheadK_ne {s : List Nat} {K : Int} (h : aheadK s = some K) : s ≠ [] := by rintro rfl; simp [aheadK] at h
theorem behindK_ne {s : List Nat} {K : Int} (h : behindK s = some K) : s ≠ [] := by rintro rfl; simp [behindK] at h
theorem mk_ne {k : Nat} (h : mk tk k ≠ 0) : (tk k).kind ≠ 1 := by
  intro h1
  have hs : sgk tk k = [] := by unfold sgk; rw [if_neg (by rw [h1]; decide)]
  apply h
  unfold mk
  rw [hs]
  simp [h1]
theorem suf_lt (h : Toks tk N) : ∀ (f : Nat) (p : Pn) (k : Nat) (q : Pn) (j : Nat), k ≤ N → suf tk f p k = .ok q j → k ≤ j ∧ j ≤ N
  | 0, _, _, _, _, _, e => by cases e
  | f + 1, p, k, q, j, hk, e => by
    unfold suf at e
    split at e
    · cases e; omega
    · rename_i K hK
      have := h.sign hk (behindK_ne hK)
      have := suf_lt h f _ (k + 1) q j (by omega) e
      omega
theorem sev_lt {one : Nat → Rs Pn} {more : Nat → Option Nat} (h1 : ∀ k p j, k ≤ N → one k = .ok p j → k < j ∧ j ≤ N) (h2 : ∀ k j, k ≤ N → more k = some j → k ≤ j ∧ j ≤ N) : ∀ (f k : Nat) (r : Fr) (j : Nat), k ≤ N → sev one more f k = .ok r j → k < j ∧ j ≤ N
  | 0, _, _, _, _, e => by cases e
  | f + 1, k, r, j, hk, e => by
    unfold sev at e
    split at e
    · cases e
    · rename_i p j1 e1
      have g1 := h1 _ _ _ hk e1
      split at e
      · cases e; exact g1
      · rename_i j2 e2
        have g2 := h2 _ _ g1.2 e2
        split at e
        · cases e
        · rename_i r' i e3
          cases e
          have := sev_lt h1 h2 f j2 _ _ g2.2 e3
          omega
theorem several_lt {K : Int} {one : Nat → Rs Pn} {more : Nat → Option Nat} (h1 : ∀ k p j, k ≤ N → one k = .ok p j → k < j ∧ j ≤ N) (h2 : ∀ k j, k ≤ N → more k = some j → k ≤ j ∧ j ≤ N) {f k : Nat} {p : Pn} {j : Nat} (hk : k ≤ N) (e : several K one more f k = .ok p j) : k < j ∧ j ≤ N := by
  unfold several at e
  split at e
  · cases e
  · rename_i r j1 e1
    cases e
    exact sev_lt h1 h2 _ _ _ _ hk e1
theorem slash_le (h : Toks tk N) (k j : Nat) (hk : k ≤ N) (e : slash tk k = some j) : k ≤ j ∧ j ≤ N := by
  unfold slash at e
  split at e
  · rename_i hs; cases e; have := h.sign hk (by rw [hs]; simp); omega
  · cases e
theorem begins_le (k j : Nat) (hk : k ≤ N) (e : begins tk k = some j) : k ≤ j ∧ j ≤ N := by
  unfold begins at e
  split at e
  · cases e; omega
  · cases e
theorem prim_lt (h : Toks tk N) {al : Nat → Rs Pn} (h3 : ∀ k p j, k ≤ N → al k = .ok p j → k < j ∧ j ≤ N) {d k : Nat} {p : Pn} {j : Nat} (hk : k ≤ N) (e : prim tk al d k = .ok p j) : k < j ∧ j ≤ N := by
  unfold prim at e
  split at e
  · cases e
  · rename_i h0
    have g0 := h.next hk (mk_ne h0)
    split at e
    · cases e; omega
    split at e
    · cases e; omega
    split at e
    · cases e; omega
    split at e
    · cases e; omega
    split at e
    · cases e
    split at e
    · rename_i hs; cases e; have := h.sign g0 (by rw [hs]; simp); omega
    split at e
    · cases e
    rename_i q i e2
    have := h3 _ _ _ g0 e2
    split at e
    · rename_i hs; cases e; have := h.sign this.2 (by rw [hs]; simp); omega
    · cases e
theorem itm_lt (h : Toks tk N) {it al : Nat → Rs Pn} (h1 : ∀ k p j, k ≤ N → it k = .ok p j → k < j ∧ j ≤ N) (h3 : ∀ k p j, k ≤ N → al k = .ok p j → k < j ∧ j ≤ N) {d k : Nat} {p : Pn} {j : Nat} (hk : k ≤ N) (e : itm tk N it al d k = .ok p j) : k < j ∧ j ≤ N := by
  unfold itm at e
  split at e
  · rename_i K hK
    have g0 := h.sign hk (aheadK_ne hK)
    split at e
    · cases e
    · rename_i q i e1
      cases e
      have := h1 _ _ _ g0 e1
      omega
  · unfold sufd at e
    split at e
    · cases e
    · rename_i q i e1
      have key := prim_lt h h3 hk e1
      have := suf_lt h _ _ _ _ _ key.2 e
      omega
theorem prs_lt (h : Toks tk N) : ∀ (f m d k : Nat) (p : Pn) (j : Nat), k ≤ N → prs tk N f m d k = .ok p j → k < j ∧ j ≤ N
  | 0, _, _, _, _, _, _, e => by unfold prs at e; cases e
  | f + 1, m, d, k, p, j, hk, e => by
    have IH := prs_lt h f
    unfold prs at e
    split at e
    · exact several_lt (fun k p j => IH 2 d k p j) (slash_le h) hk e
    split at e
    · exact several_lt (fun k p j => IH 1 d k p j) begins_le hk e
    · exact itm_lt h (fun k p j => IH 1 d k p j) (fun k p j => IH 3 (d + 1) k p j) hk e
end
end Go.Proofs.YtfghfnpiaccfaaaGreatDoor
namespace Go.Proofs.YtfghfnpiaccfaaaGreatDoor
open Go Go.RowKit Go.Maps
/-- The words of a text, by their numbers. -/
def tkn (l : List Nat) (j : Nat) : Wd := (ow l j).getD ⟨1, 0, [], 0, no⟩
theorem tkn_some {l : List Nat} {j : Nat} {x : Wd} (h : ow l j = some x) : tkn l j = x := by unfold tkn; rw [h]; rfl
abbrev skey (s : List UInt8) : Lit := .string s
abbrev kd (c : Int) : DataW Unit := .lit (.int .i64 c)
theorem shas_put (D : DataW Unit) (hD : IsMap D) (k c : List UInt8) (d : Int) : Maps.has (D.put (skey k) (kd d)) (skey c) = if c = k then true else Maps.has D (skey c) := by
  by_cases h : c = k
  · subst h
    rw [if_pos rfl]
    exact has_put_same hD (k := skey c) trivial _
  · rw [if_neg h]
    exact has_put_other (fun e => h (by cases e; rfl)) _
theorem sat_put (D : DataW Unit) (hD : IsMap D) (k c : List UInt8) (d : Int) (z : DataW Unit) : (D.put (skey k) (kd d)).atKey (skey c) z = if c = k then kd d else D.atKey (skey c) z := by
  by_cases h : c = k
  · subst h
    rw [if_pos rfl]
    exact atKey_put_same hD (k := skey c) trivial _ _
  · rw [if_neg h]
    exact atKey_put_other (fun e => h (by cases e; rfl)) _ _
def u8s (l : List Nat) : List UInt8 := l.map UInt8.ofNat
theorem u8s_inj {l m : List Nat} (h : ∀ x ∈ l, x < 256) (k : ∀ x ∈ m, x < 256) : u8s l = u8s m ↔ l = m := by
  constructor
  · intro e
    have h1 := str_bsv h
    have h2 := str_bsv k
    have e' : l.map UInt8.ofNat = m.map UInt8.ofNat := e
    have : bsv l = bsv m := by unfold bsv; rw [e']
    rw [this] at h1
    exact h1.symm.trans h2
  · rintro rfl; rfl
/-- A map that is filled, the last entry first. -/
def Ks : List (List Nat × Int) → DataW Unit
  | [] => .map []
  | p :: l => (Ks l).put (skey (u8s p.1)) (kd p.2)
theorem Ks_map : ∀ l, IsMap (Ks l)
  | [] => ⟨[], rfl⟩
  | _ :: l => (Ks_map l).put _ _
def kfind (t : List Nat) : List (List Nat × Int) → Option Int
  | [] => none
  | p :: l => if t = p.1 then some p.2 else kfind t l
theorem Ks_has {t : List Nat} (ht : ∀ x ∈ t, x < 256) : ∀ l : List (List Nat × Int), (∀ p ∈ l, ∀ x ∈ p.1, x < 256) → Maps.has (Ks l) (skey (u8s t)) = (kfind t l).isSome
  | [], _ => rfl
  | p :: l, h => by
    rw [Ks, shas_put _ (Ks_map l), Ks_has ht l (fun q hq => h q (by simp [hq])), kfind]
    by_cases e : t = p.1
    · rw [if_pos ((u8s_inj ht (h p (by simp))).2 e), if_pos e]; rfl
    · rw [if_neg (fun k => e ((u8s_inj ht (h p (by simp))).1 k)), if_neg e]
theorem Ks_at {t : List Nat} (ht : ∀ x ∈ t, x < 256) (z : DataW Unit) : ∀ l : List (List Nat × Int), (∀ p ∈ l, ∀ x ∈ p.1, x < 256) → (Ks l).atKey (skey (u8s t)) z = match kfind t l with | some d => kd d | none => z
  | [], _ => by simp [Ks, kfind, DataW.atKey]
  | p :: l, h => by
    rw [Ks, sat_put _ (Ks_map l), Ks_at ht z l (fun q hq => h q (by simp [hq])), kfind]
    by_cases e : t = p.1
    · rw [if_pos ((u8s_inj ht (h p (by simp))).2 e), if_pos e]
    · rw [if_neg (fun k => e ((u8s_inj ht (h p (by simp))).1 k)), if_neg e]
def aheads : List (List Nat × Int) := [([38], 12), ([33], 11)]
def behinds : List (List Nat × Int) := [([63], 10), ([43], 9), ([42], 8)]
theorem aheads_lt : ∀ p ∈ aheads, ∀ x ∈ p.1, x < 256 := by decide
theorem behinds_lt : ∀ p ∈ behinds, ∀ x ∈ p.1, x < 256 := by decide
theorem kfind_ahead (t : List Nat) : kfind t aheads = aheadK t := by
  unfold aheads aheadK
  simp only [kfind]
  by_cases h1 : t = [33]
  · subst h1; simp
  · by_cases h2 : t = [38] <;> simp [h1, h2]
theorem kfind_behind (t : List Nat) : kfind t behinds = behindK t := by
  unfold behinds behindK
  simp only [kfind]
  by_cases h1 : t = [42]
  · subst h1; simp
  · by_cases h2 : t = [43]
    · subst h2; simp
    · by_cases h3 : t = [63] <;> simp [h1, h2, h3]
/-- A map of signs in memory. -/
def Sgm (w : World) (m : Nat) (L : List (List Nat × Int)) : Prop := w.ownsMap Tryz.prog 9 (plainElem Tryz.prog 43) m L.length (Ks L)
theorem Sgm.lt {w : World} {m : Nat} {L : List (List Nat × Int)} (h : Sgm w m L) : m < w.heap.size := by
  obtain ⟨es, clock, h1, _⟩ := h
  exact (Array.getElem?_eq_some_iff.1 h1).1
theorem Sgm.kept {w w' : World} {m : Nat} {L : List (List Nat × Int)} (h : Sgm w m L) (hb : w'.heap[m]? = w.heap[m]?) : Sgm w' m L := by
  obtain ⟨es, clock, h1, F, h2, h3⟩ := h
  exact ⟨es, clock, hb.trans h1, F, h2, h3⟩
theorem Sgm.look {w : World} {m : Nat} {L : List (List Nat × Int)} (h : Sgm w m L) (hL : ∀ p ∈ L, ∀ x ∈ p.1, x < 256) (t : List Nat) (ht : ∀ x ∈ t, x < 256) (hs : t.length ≤ 60000) :
    (Instr.lookup 86 (.map (some m)) (.string (bsv t)) true).run Tryz.prog w = .ok (.tuple #[.int .i64 ((kfind t L).getD 0), .bool (kfind t L).isSome]) w := by
  have hz : (bsv t).size ≤ maxLen := by rw [(str_bsv ht).size]; unfold maxLen; omega
  obtain ⟨v, ps, hrun, hv⟩ := World.ownsMap.look_ok h (string_keyed Tryz.underlying9) Tryz.underlying86 (z := .int .i64 0) (by kernel_rfl) (zd := kd 0) (zp := []) (plainElem_int Tryz.underlying43 (by decide)) (WideMaps.keyOf_string_mk Tryz.underlying9 hz)
  have e : (bsv t).data.toList = u8s t := by simp [bsv, u8s]
  rw [e] at hrun hv
  rw [Ks_at ht _ L hL] at hv
  rw [Ks_has ht L hL] at hrun
  obtain ⟨c, rfl, ec, _⟩ := plainElem_int_inv Tryz.underlying43 hv
  rw [hrun]
  have : c = (kfind t L).getD 0 := by
    cases hf : kfind t L with
    | none => rw [hf] at ec; simp only [kd, DataW.lit.injEq, Lit.int.injEq, true_and] at ec; exact (show c = _ ∧ _ from by simpa using ec.symm).1
    | some d => rw [hf] at ec; simp only [kd, DataW.lit.injEq, Lit.int.injEq, true_and] at ec; exact (show c = _ ∧ _ from by simpa using ec.symm).1
  rw [this]
theorem ins_s {w : World} {b n : Nat} {D : DataW Unit} (hown : w.ownsMap Tryz.prog 9 (plainElem Tryz.prog 43) b n D) (t : List Nat) (s : ByteArray) (e : s = bsv t) (ht : s.size ≤ 100) (x : Int) (hx : 0 ≤ x ∧ x < 256) (hn : n < 100) :
    ∃ w', (Instr.mapUpdate 86 (.map (some b)) (.string s) (.int .i64 x)).run Tryz.prog w = .ok () w' ∧ w'.ownsMap Tryz.prog 9 (plainElem Tryz.prog 43) b (n + 1) (D.put (skey (u8s t)) (kd x)) ∧ w.grownBy w' (some b) := by
  have e' : s.data.toList = u8s t := by rw [e]; simp [bsv, u8s]
  obtain ⟨w', h1, h2, h3⟩ := hown.update (string_keyed Tryz.underlying9) Tryz.underlying86 (by unfold maxLen; omega) (WideMaps.keyOf_string_mk Tryz.underlying9 (s := s) (by unfold maxLen; omega)) (plainElem_int Tryz.underlying43 (a := x) (WalkArith.wf_i64 (by omega)))
  rw [e'] at h2
  exact ⟨w', h1, h2, h3⟩
/-- Where a reader's things lie. -/
structure Cx where
  l : List Nat
  N : Nat
  b : Nat
  g : Nat
  m1 : Nat
  m2 : Nat
  cap : Nat
structure Cx.Fine (c : Cx) : Prop where
  lt : ∀ x ∈ c.l, x < 256
  size : c.l.length ≤ 16384
  toks : Toks (tkn c.l) c.N
  n : c.N ≤ c.l.length
  gb : c.g < c.b
  m1 : c.m1 < c.b
  m2 : c.m2 < c.b
  cap : c.N + 1 ≤ c.cap
  is : ∀ j, j ≤ c.N → ow c.l j = some (tkn c.l j)
/-- The reader's cells. -/
abbrev Cx.cells (c : Cx) (k d : Nat) (e a : Int) : Array Value := #[.slice (some ⟨c.g, 0, none⟩) (c.N + 1) c.cap, .int .i64 k, .map (some c.m1), .map (some c.m2), .int .i64 d, .int .i64 e, .int .i64 a]
/-- What stays of a reader. -/
structure RdK (c : Cx) (w : World) : Prop where
  gl : c.g < w.heap.size
  row : ∀ i, i ≤ c.N → ∀ j, j < 9 → w.cell? ⟨c.g, i * 9 + j, none⟩ = (wfull (tkn c.l i) (beg c.l i))[j]?
  ah : Sgm w c.m1 aheads
  bh : Sgm w c.m2 behinds
/-- The reader, at a word. -/
structure RdR (c : Cx) (k d : Nat) (w : World) : Prop where
  blk : Blk w c.b (c.cells k d 0 0) 89
  keep : RdK c w
/-- The reader, when it can't go on. -/
def RdX (c : Cx) (er a : Int) (w : World) : Prop := ∃ k d : Nat, Blk w c.b (c.cells k d er a) 89
theorem RdK.kept {c : Cx} {w w' : World} (h : RdK c w) (hf : c.Fine) (hg : w.grownBy w' (some c.b)) : RdK c w' := by
  have ne : ∀ {x : Nat}, x < c.b → some x ≠ some c.b := fun hx e => by have := Option.some.inj e; omega
  refine ⟨Nat.lt_of_lt_of_le h.gl hg.size, fun i hi j hj => ?_, h.ah.kept (hg.block _ h.ah.lt (ne hf.m1)), h.bh.kept (hg.block _ h.bh.lt (ne hf.m2))⟩
  rw [← h.row i hi j hj]
  have := hg.block c.g h.gl (ne hf.gb)
  simp only [World.cell?, this]
theorem RdK.apart {c : Cx} {w w' : World} {r : Nat} (h : RdK c w) (hf : c.Fine) (hg : w.grownBy w' (some r)) (hr : c.b ≤ r) : RdK c w' := by
  have ne : ∀ {x : Nat}, x < c.b → some x ≠ some r := fun hx e => by have := Option.some.inj e; omega
  refine ⟨Nat.lt_of_lt_of_le h.gl hg.size, fun i hi j hj => ?_, h.ah.kept (hg.block _ h.ah.lt (ne hf.m1)), h.bh.kept (hg.block _ h.bh.lt (ne hf.m2))⟩
  rw [← h.row i hi j hj]
  have := hg.block c.g h.gl (ne hf.gb)
  simp only [World.cell?, this]
theorem RdR.apart {c : Cx} {k d : Nat} {w w' : World} {r : Nat} (h : RdR c k d w) (hf : c.Fine) (hg : w.grownBy w' (some r)) (hr : c.b < r) : RdR c k d w' := ⟨h.blk.grown hg (fun e => by have := Option.some.inj e; omega), h.keep.apart hf hg (Nat.le_of_lt hr)⟩
theorem RdR.grown {c : Cx} {k d : Nat} {w w' : World} (h : RdR c k d w) (hf : c.Fine) (hg : w.grownBy w' (some c.b)) {k' d' : Nat} (hb : Blk w' c.b (c.cells k' d' 0 0) 89) : RdR c k' d' w' := ⟨hb, h.keep.kept hf hg⟩
theorem RdR.below {c : Cx} {k d : Nat} {w w' : World} (h : RdR c k d w) (hf : c.Fine) (hb : Below w.heap.size w w') : RdR c k d w' := ⟨h.blk.below' hb, h.keep.kept hf (below_is_grown hb _)⟩
theorem RdR.set {c : Cx} {k d : Nat} {w : World} (h : RdR c k d w) (hf : c.Fine) (k' : Nat) (v : Int) (e : v = k') : RdR c k' d (w.setCell ⟨c.b, 1, none⟩ (.int .i64 v)) ∧ w.grownBy (w.setCell ⟨c.b, 1, none⟩ (.int .i64 v)) (some c.b) := by
  subst e
  have hg : w.grownBy (w.setCell ⟨c.b, 1, none⟩ (.int .i64 k')) (some c.b) := ⟨rfl, rfl, rfl, by simp, fun i hi hne => heap_setCell_other _ _ _ _ (fun e => hne (by rw [e]))⟩
  exact ⟨h.grown hf hg (heap_setCell_same w c.b 1 _ 89 _ h.blk), hg⟩
theorem RdR.open_ {c : Cx} {k d : Nat} {w : World} (h : RdR c k d w) (hf : c.Fine) (d' : Nat) (v : Int) (e : v = d') : RdR c k d' (w.setCell ⟨c.b, 4, none⟩ (.int .i64 v)) ∧ w.grownBy (w.setCell ⟨c.b, 4, none⟩ (.int .i64 v)) (some c.b) := by
  subst e
  have hg : w.grownBy (w.setCell ⟨c.b, 4, none⟩ (.int .i64 d')) (some c.b) := ⟨rfl, rfl, rfl, by simp, fun i hi hne => heap_setCell_other _ _ _ _ (fun e => hne (by rw [e]))⟩
  exact ⟨h.grown hf hg (heap_setCell_same w c.b 4 _ 89 _ h.blk), hg⟩
theorem results_cell1 {P : Program} {fn : Func} {p : Tmp} {ty : TypeId} (h : fn.results = #[.cell p ty]) (tmps : Array Value) (w : World) (g : Nat) (t : TypeId) (cs : Array Value) (d : TypeDesc)
    (hp : tmps.getD p undef = .pointer (some ⟨g, 0, none⟩)) (hg : Blk w g cs t) (hu : P.underlying ty = some d) (hd : (match d with | .struct _ | .array _ _ => true | _ => false) = true) (hi : (P.info? ty).map (·.size) = some cs.size) :
    (results fn tmps).run P w = .ok (.agg cs) w := by
  have hp' : tmps[p]?.getD undef = .pointer (some ⟨g, 0, none⟩) := by simpa using hp
  simp [results, h, hp', asAddr, run_loadVar_row w g t ty cs (0, 0) d hg hu hd hi]
/-- A part's cells. -/
abbrev pcells (l : List Nat) (x : Px) (v : Value) : Array Value := #[.int .i64 x.kind, .int .u64 (cw x.cls 0), .int .u64 (cw x.cls 1), .int .u64 (cw x.cls 2), .int .u64 (cw x.cls 3), .string (bsv x.text), .int .i64 0, .int .i64 x.lev, .slice none 0 0, .int .i64 (beg l x.at_), .string (bsv x.name), v]
/-- A row of pointers, no block of it below lo. -/
def Ptrs (w : World) (lo : Nat) (A : Option Addr) (qs : List Nat) : Prop := ∀ i, i < qs.length → ∃ g, A = some ⟨g, 0, none⟩ ∧ lo ≤ g ∧ g < w.heap.size ∧ w.cell? ⟨g, i, none⟩ = some (.pointer (some ⟨qs.getD i 0, 0, none⟩))
/-- Parts in memory, no block of them below lo. -/
def FrAt (w : World) (lo : Nat) (l : List Nat) : Fr → List Nat → Prop
  | .nil, qs => qs = []
  | .cons x ks r, qs => ∃ q rest A cap kqs, qs = q :: rest ∧ lo ≤ q ∧ Blk w q (pcells l x (.slice A kqs.length cap)) 224 ∧ kqs.length ≤ cap ∧ Ptrs w lo A kqs ∧ FrAt w lo l ks kqs ∧ FrAt w lo l r rest
theorem Ptrs.kept {w w' : World} {lo : Nat} {A : Option Addr} {qs : List Nat} (h : Ptrs w lo A qs) (hs : w.heap.size ≤ w'.heap.size) (hk : ∀ k, lo ≤ k → k < w.heap.size → w'.heap[k]? = w.heap[k]?) : Ptrs w' lo A qs := fun i hi => by
  obtain ⟨g, e, h1, h2, h3⟩ := h i hi
  refine ⟨g, e, h1, Nat.lt_of_lt_of_le h2 hs, ?_⟩
  rw [← h3]
  simp only [World.cell?, hk g h1 h2]
theorem FrAt.kept {w w' : World} {lo : Nat} {l : List Nat} (hs : w.heap.size ≤ w'.heap.size) (hk : ∀ k, lo ≤ k → k < w.heap.size → w'.heap[k]? = w.heap[k]?) : ∀ {F : Fr} {qs : List Nat}, FrAt w lo l F qs → FrAt w' lo l F qs
  | .nil, _, h => h
  | .cons x ks r, qs, h => by
    obtain ⟨q, rest, A, cap, kqs, h1, h2, h3, h4, h5, h6, h7⟩ := h
    exact ⟨q, rest, A, cap, kqs, h1, h2, (hk q h2 h3.lt).trans h3, h4, h5.kept hs hk, FrAt.kept hs hk h6, FrAt.kept hs hk h7⟩
theorem FrAt.grown {w w' : World} {lo B : Nat} {l : List Nat} {F : Fr} {qs : List Nat} (h : FrAt w lo l F qs) (hg : w.grownBy w' (some B)) (hB : B < lo) : FrAt w' lo l F qs :=
  h.kept hg.size fun k h1 h2 => hg.block k h2 (fun e => by have := Option.some.inj e; omega)
theorem FrAt.below {w w' : World} {lo : Nat} {l : List Nat} {F : Fr} {qs : List Nat} (h : FrAt w lo l F qs) (hb : Below w.heap.size w w') : FrAt w' lo l F qs := h.kept hb.size fun k _ h2 => hb.block k h2
theorem Ptrs.lower {w : World} {lo lo' : Nat} {A : Option Addr} {qs : List Nat} (h : Ptrs w lo A qs) (hl : lo' ≤ lo) : Ptrs w lo' A qs := fun i hi => by
  obtain ⟨g, e, h1, h2, h3⟩ := h i hi
  exact ⟨g, e, Nat.le_trans hl h1, h2, h3⟩
theorem FrAt.lower {w : World} {lo lo' : Nat} {l : List Nat} (hl : lo' ≤ lo) : ∀ {F : Fr} {qs : List Nat}, FrAt w lo l F qs → FrAt w lo' l F qs
  | .nil, _, h => h
  | .cons x ks r, qs, h => by
    obtain ⟨q, rest, A, cap, kqs, h1, h2, h3, h4, h5, h6, h7⟩ := h
    exact ⟨q, rest, A, cap, kqs, h1, Nat.le_trans hl h2, h3, h4, h5.lower hl, FrAt.lower hl h6, FrAt.lower hl h7⟩
theorem FrAt.app {w : World} {B : Nat} {l : List Nat} : ∀ {F G : Fr} {qs rs : List Nat}, FrAt w B l F qs → FrAt w B l G rs → FrAt w B l (F.app G) (qs ++ rs)
  | .nil, _, _, _, h, k => by have : _ = [] := h; subst this; exact k
  | .cons x ks r, _, _, _, h, k => by
    obtain ⟨q, rest, A, cap, kqs, rfl, h2, h3, h4, h5, h6, h7⟩ := h
    exact ⟨q, _, A, cap, kqs, rfl, h2, h3, h4, h5, h6, FrAt.app h7 k⟩
theorem FrAt.len {w : World} {B : Nat} {l : List Nat} : ∀ {F : Fr} {qs : List Nat}, FrAt w B l F qs → qs.length = F.len
  | .nil, _, h => by have : _ = [] := h; subst this; rfl
  | .cons x ks r, _, h => by
    obtain ⟨q, rest, A, cap, kqs, rfl, h2, h3, h4, h5, h6, h7⟩ := h
    simp only [List.length_cons, Fr.len, FrAt.len h7]
/-- A single part. -/
def PtAt (w : World) (lo : Nat) (l : List Nat) (p : Pn) (q : Nat) : Prop := FrAt w lo l (p.fr .nil) [q]
/-- How a maker of parts ends: what it made is new. -/
def PPost (c : Cx) (d : Nat) (r : Rs Pn) (w : World) (e : Ending) (w' : World) : Prop :=
  w.grownBy w' (some c.b) ∧ match r with
    | .ok p j => ∃ q, e = .returned (.tuple #[.pointer (some ⟨q, 0, none⟩), .bool true]) ∧ RdR c j d w' ∧ PtAt w' w.heap.size c.l p q
    | .no er j => e = .returned (.tuple #[.pointer none, .bool false]) ∧ RdX c er (beg c.l j) w'
end Go.Proofs.YtfghfnpiaccfaaaGreatDoor
namespace Go.Proofs.YtfghfnpiaccfaaaGreatDoor
open Go Go.RowKit Go.Maps
theorem Cx.Fine.ok {c : Cx} (h : c.Fine) {k : Nat} (hk : k ≤ c.N) : (tkn c.l k).text.length ≤ 16384 ∧ (∀ x ∈ (tkn c.l k).text, x < 256) ∧ -1 ≤ (tkn c.l k).lev ∧ 1 ≤ (tkn c.l k).kind ∧ (tkn c.l k).kind ≤ 5 := by
  have h1 := h.is k hk
  have h2 := wd_ok (drop_lt h.lt (beg c.l k)) h1
  have h3 := h.size
  obtain ⟨_, _, _, h4, h5, h6, h7, h8, _⟩ := h2
  rw [List.length_drop] at h7
  exact ⟨by omega, h6, h8, h4, h5⟩
theorem Cx.Fine.sign {c : Cx} (h : c.Fine) {k : Nat} (hk : k ≤ c.N) : (∀ x ∈ sgk (tkn c.l) k, x < 256) ∧ (sgk (tkn c.l) k).length ≤ 16384 := by
  have h1 := h.ok hk
  unfold sgk
  split
  · exact ⟨h1.2.1, h1.1⟩
  · exact ⟨by simp, by simp⟩
theorem nine_set {w : World} {b : Nat} {T : TypeId} {a0 a1 a2 a3 a4 a5 a6 a7 a8 : Value} (h : Blk w b #[a0, a1, a2, a3, a4, a5, a6, a7, a8] T) (v0 v1 v2 v3 v4 v5 v6 v7 v8 : Value) :
    Blk (((((((((w.setCell ⟨b, 0, none⟩ v0).setCell ⟨b, 1, none⟩ v1).setCell ⟨b, 2, none⟩ v2).setCell ⟨b, 3, none⟩ v3).setCell ⟨b, 4, none⟩ v4).setCell ⟨b, 5, none⟩ v5).setCell ⟨b, 6, none⟩ v6).setCell ⟨b, 7, none⟩ v7).setCell ⟨b, 8, none⟩ v8) b #[v0, v1, v2, v3, v4, v5, v6, v7, v8] T ∧
    w.grownBy (((((((((w.setCell ⟨b, 0, none⟩ v0).setCell ⟨b, 1, none⟩ v1).setCell ⟨b, 2, none⟩ v2).setCell ⟨b, 3, none⟩ v3).setCell ⟨b, 4, none⟩ v4).setCell ⟨b, 5, none⟩ v5).setCell ⟨b, 6, none⟩ v6).setCell ⟨b, 7, none⟩ v7).setCell ⟨b, 8, none⟩ v8) (some b) := by
  have g : ∀ (W : World) (i : Nat) (v : Value), W.grownBy (W.setCell ⟨b, i, none⟩ v) (some b) := fun W i v => ⟨rfl, rfl, rfl, by simp, fun k _ hn => heap_setCell_other W ⟨b, i, none⟩ k v (fun e => hn (by rw [e]))⟩
  refine ⟨?_, grown_trans (grown_trans (grown_trans (grown_trans (grown_trans (grown_trans (grown_trans (grown_trans (g w 0 v0) (g _ 1 v1)) (g _ 2 v2)) (g _ 3 v3)) (g _ 4 v4)) (g _ 5 v5)) (g _ 6 v6)) (g _ 7 v7)) (g _ 8 v8)⟩
  have h1 : Blk (w.setCell ⟨b, 0, none⟩ v0) b #[v0, a1, a2, a3, a4, a5, a6, a7, a8] T := heap_setCell_same _ b 0 #[a0, a1, a2, a3, a4, a5, a6, a7, a8] T _ h
  have h2 : Blk ((w.setCell ⟨b, 0, none⟩ v0).setCell ⟨b, 1, none⟩ v1) b #[v0, v1, a2, a3, a4, a5, a6, a7, a8] T := heap_setCell_same _ b 1 #[v0, a1, a2, a3, a4, a5, a6, a7, a8] T _ h1
  have h3 : Blk (((w.setCell ⟨b, 0, none⟩ v0).setCell ⟨b, 1, none⟩ v1).setCell ⟨b, 2, none⟩ v2) b #[v0, v1, v2, a3, a4, a5, a6, a7, a8] T := heap_setCell_same _ b 2 #[v0, v1, a2, a3, a4, a5, a6, a7, a8] T _ h2
  have h4 : Blk ((((w.setCell ⟨b, 0, none⟩ v0).setCell ⟨b, 1, none⟩ v1).setCell ⟨b, 2, none⟩ v2).setCell ⟨b, 3, none⟩ v3) b #[v0, v1, v2, v3, a4, a5, a6, a7, a8] T := heap_setCell_same _ b 3 #[v0, v1, v2, a3, a4, a5, a6, a7, a8] T _ h3
  have h5 : Blk (((((w.setCell ⟨b, 0, none⟩ v0).setCell ⟨b, 1, none⟩ v1).setCell ⟨b, 2, none⟩ v2).setCell ⟨b, 3, none⟩ v3).setCell ⟨b, 4, none⟩ v4) b #[v0, v1, v2, v3, v4, a5, a6, a7, a8] T := heap_setCell_same _ b 4 #[v0, v1, v2, v3, a4, a5, a6, a7, a8] T _ h4
  have h6 : Blk ((((((w.setCell ⟨b, 0, none⟩ v0).setCell ⟨b, 1, none⟩ v1).setCell ⟨b, 2, none⟩ v2).setCell ⟨b, 3, none⟩ v3).setCell ⟨b, 4, none⟩ v4).setCell ⟨b, 5, none⟩ v5) b #[v0, v1, v2, v3, v4, v5, a6, a7, a8] T := heap_setCell_same _ b 5 #[v0, v1, v2, v3, v4, a5, a6, a7, a8] T _ h5
  have h7 : Blk (((((((w.setCell ⟨b, 0, none⟩ v0).setCell ⟨b, 1, none⟩ v1).setCell ⟨b, 2, none⟩ v2).setCell ⟨b, 3, none⟩ v3).setCell ⟨b, 4, none⟩ v4).setCell ⟨b, 5, none⟩ v5).setCell ⟨b, 6, none⟩ v6) b #[v0, v1, v2, v3, v4, v5, v6, a7, a8] T := heap_setCell_same _ b 6 #[v0, v1, v2, v3, v4, v5, a6, a7, a8] T _ h6
  have h8 : Blk ((((((((w.setCell ⟨b, 0, none⟩ v0).setCell ⟨b, 1, none⟩ v1).setCell ⟨b, 2, none⟩ v2).setCell ⟨b, 3, none⟩ v3).setCell ⟨b, 4, none⟩ v4).setCell ⟨b, 5, none⟩ v5).setCell ⟨b, 6, none⟩ v6).setCell ⟨b, 7, none⟩ v7) b #[v0, v1, v2, v3, v4, v5, v6, v7, a8] T := heap_setCell_same _ b 7 #[v0, v1, v2, v3, v4, v5, v6, a7, a8] T _ h7
  have h9 : Blk (((((((((w.setCell ⟨b, 0, none⟩ v0).setCell ⟨b, 1, none⟩ v1).setCell ⟨b, 2, none⟩ v2).setCell ⟨b, 3, none⟩ v3).setCell ⟨b, 4, none⟩ v4).setCell ⟨b, 5, none⟩ v5).setCell ⟨b, 6, none⟩ v6).setCell ⟨b, 7, none⟩ v7).setCell ⟨b, 8, none⟩ v8) b #[v0, v1, v2, v3, v4, v5, v6, v7, v8] T := heap_setCell_same _ b 8 #[v0, v1, v2, v3, v4, v5, v6, v7, a8] T _ h8
  exact h9
theorem wfullx (x : Wd) (p : Nat) : wfull x p = #[.int .i64 x.kind, .int .i64 p, .int .i64 (p + x.len : Nat), .string (bsv x.text), .int .i64 x.lev, .int .u64 (cw x.cls 0), .int .u64 (cw x.cls 1), .int .u64 (cw x.cls 2), .int .u64 (cw x.cls 3)] := rfl
set_option maxRecDepth 100000 in
set_option maxHeartbeats 2000000 in
theorem lword_any (c : Cx) (hf : c.Fine) (k d : Nat) (hk : k ≤ c.N) (w : World) (h : RdR c k d w) :
    Calls Tryz.prog 147 #[.pointer (some ⟨c.b, 0, none⟩)] w fun e w' => e = .returned (.agg (wfull (tkn c.l k) (beg c.l k))) ∧ Below w.heap.size w w' := by
  obtain ⟨w1, ew⟩ : ∃ u, u = w.alloc (.cells wzero 156) := ⟨_, rfl⟩
  have B : RowKit.Hid (Below w.heap.size w w1) := Lib.hid (by rw [ew]; exact B1 _ _)
  have h1 : RdR c k d w1 := h.below hf B.out
  have K1 : RowKit.Hid (Blk w1 w.heap.size wzero 156) := Lib.hid (by rw [ew]; exact Blk.new _ _ _)
  have RC := h1.keep.row k hk
  rw [wfullx] at RC ⊢
  have c0 := h1.blk.cell 0
  have c1 := h1.blk.cell 1
  obtain ⟨x, ex⟩ : ∃ x, x = tkn c.l k := ⟨_, rfl⟩
  obtain ⟨p, ep⟩ : ∃ p, p = beg c.l k := ⟨_, rfl⟩
  rw [← ex, ← ep] at RC ⊢
  clear ex ep
  obtain ⟨K, eK⟩ : ∃ K, K = x.kind := ⟨_, rfl⟩
  obtain ⟨z, ez⟩ : ∃ z : Nat, z = p + x.len := ⟨_, rfl⟩
  obtain ⟨T, eT⟩ : ∃ T, T = bsv x.text := ⟨_, rfl⟩
  obtain ⟨V, eV⟩ : ∃ V, V = x.lev := ⟨_, rfl⟩
  obtain ⟨C0, e0⟩ : ∃ C : Int, C = cw x.cls 0 := ⟨_, rfl⟩
  obtain ⟨C1, e1⟩ : ∃ C : Int, C = cw x.cls 1 := ⟨_, rfl⟩
  obtain ⟨C2, e2⟩ : ∃ C : Int, C = cw x.cls 2 := ⟨_, rfl⟩
  obtain ⟨C3, e3⟩ : ∃ C : Int, C = cw x.cls 3 := ⟨_, rfl⟩
  rw [← eK, ← ez, ← eT, ← eV, ← e0, ← e1, ← e2, ← e3] at RC ⊢
  clear eK ez eT eV e0 e1 e2 e3
  have r0 := RC 0 (by omega)
  have r1 := RC 1 (by omega)
  have r2 := RC 2 (by omega)
  have r3 := RC 3 (by omega)
  have r4 := RC 4 (by omega)
  have r5 := RC 5 (by omega)
  have r6 := RC 6 (by omega)
  have r7 := RC 7 (by omega)
  have r8 := RC 8 (by omega)
  simp only [Cx.cells, List.getElem?_toArray, List.getElem?_cons_zero, List.getElem?_cons_succ, Nat.add_zero] at c0 c1 r0 r1 r2 r3 r4 r5 r6 r7 r8
  have f0 := K1.out.frozen 0
  have f1 := K1.out.frozen 1
  have f2 := K1.out.frozen 2
  have f3 := K1.out.frozen 3
  have f4 := K1.out.frozen 4
  have f5 := K1.out.frozen 5
  have f6 := K1.out.frozen 6
  have f7 := K1.out.frozen 7
  have f8 := K1.out.frozen 8
  have k0 := K1.out.cell 0
  have k1 := K1.out.cell 1
  have k2 := K1.out.cell 2
  have k3 := K1.out.cell 3
  have k4 := K1.out.cell 4
  have k5 := K1.out.cell 5
  have k6 := K1.out.cell 6
  have k7 := K1.out.cell 7
  have k8 := K1.out.cell 8
  simp only [wzero, List.getElem?_toArray, List.getElem?_cons_zero, List.getElem?_cons_succ] at k0 k1 k2 k3 k4 k5 k6 k7 k8
  have hk3 : (k : Int) < ((c.N + 1 : Nat) : Int) := by omega
  have hk4 : (k : Int) < (c.N : Int) + 1 := by omega
  clear RC h1 h
  go_enter Tryz.func147, Tryz.ntmps147
  go_wp2_with fail
  rw [← ew]
  clear ew
  go_region
  obtain ⟨hk, hg⟩ := nine_set K1.out (.int .i64 K) (.int .i64 p) (.int .i64 z) (.string T) (.int .i64 V) (.int .u64 C0) (.int .u64 C1) (.int .u64 C2) (.int .u64 C3)
  obtain ⟨W, eW⟩ : ∃ W, W = (((((((((w1.setCell ⟨w.heap.size, 0, none⟩ (.int .i64 K)).setCell ⟨w.heap.size, 1, none⟩ (.int .i64 p)).setCell ⟨w.heap.size, 2, none⟩ (.int .i64 z)).setCell ⟨w.heap.size, 3, none⟩ (.string T)).setCell ⟨w.heap.size, 4, none⟩ (.int .i64 V)).setCell ⟨w.heap.size, 5, none⟩ (.int .u64 C0)).setCell ⟨w.heap.size, 6, none⟩ (.int .u64 C1)).setCell ⟨w.heap.size, 7, none⟩ (.int .u64 C2)).setCell ⟨w.heap.size, 8, none⟩ (.int .u64 C3)) := ⟨_, rfl⟩
  rw [← eW] at hk hg ⊢
  clear eW
  have hg' := below_new B.out B.out.size hg (Nat.le_refl _)
  have hk' : Blk W.drew w.heap.size #[.int .i64 K, .int .i64 p, .int .i64 z, .string T, .int .i64 V, .int .u64 C0, .int .u64 C1, .int .u64 C2, .int .u64 C3] 156 := hk
  go_wp2_with fail
  exact bodyPost_ret (results_cell1 rfl _ _ w.heap.size 156 _ _ rfl hk' Tryz.underlying156 rfl (by kernel_rfl)) rfl ⟨rfl, bdrew1 hg'⟩
@[go_sem] theorem fieldW_0 (K p z V C0 C1 C2 C3 : Int) (T : ByteArray) (w : World) : (Instr.field 156 (.agg #[.int .i64 K, .int .i64 p, .int .i64 z, .string T, .int .i64 V, .int .u64 C0, .int .u64 C1, .int .u64 C2, .int .u64 C3]) 0).run Tryz.prog w = .ok (.int .i64 K) w := by kernel_rfl
@[go_sem] theorem fieldW_1 (K p z V C0 C1 C2 C3 : Int) (T : ByteArray) (w : World) : (Instr.field 156 (.agg #[.int .i64 K, .int .i64 p, .int .i64 z, .string T, .int .i64 V, .int .u64 C0, .int .u64 C1, .int .u64 C2, .int .u64 C3]) 1).run Tryz.prog w = .ok (.int .i64 p) w := by kernel_rfl
@[go_sem] theorem fieldW_3 (K p z V C0 C1 C2 C3 : Int) (T : ByteArray) (w : World) : (Instr.field 156 (.agg #[.int .i64 K, .int .i64 p, .int .i64 z, .string T, .int .i64 V, .int .u64 C0, .int .u64 C1, .int .u64 C2, .int .u64 C3]) 3).run Tryz.prog w = .ok (.string T) w := by kernel_rfl
@[go_sem] theorem fieldW_4 (K p z V C0 C1 C2 C3 : Int) (T : ByteArray) (w : World) : (Instr.field 156 (.agg #[.int .i64 K, .int .i64 p, .int .i64 z, .string T, .int .i64 V, .int .u64 C0, .int .u64 C1, .int .u64 C2, .int .u64 C3]) 4).run Tryz.prog w = .ok (.int .i64 V) w := by kernel_rfl
@[go_sem] theorem fieldW_5 (K p z V C0 C1 C2 C3 : Int) (T : ByteArray) (w : World) : (Instr.field 156 (.agg #[.int .i64 K, .int .i64 p, .int .i64 z, .string T, .int .i64 V, .int .u64 C0, .int .u64 C1, .int .u64 C2, .int .u64 C3]) 5).run Tryz.prog w = .ok (.agg #[.int .u64 C0, .int .u64 C1, .int .u64 C2, .int .u64 C3]) w := by kernel_rfl
set_option maxRecDepth 100000 in
theorem comes_any (c : Cx) (hf : c.Fine) (k d : Nat) (hk : k ≤ c.N) (K : Int) (w : World) (h : RdR c k d w) :
    Calls Tryz.prog 92 #[.pointer (some ⟨c.b, 0, none⟩), .int .i64 K] w fun e w' => e = .returned (.bool ((tkn c.l k).kind == K)) ∧ Below w.heap.size w w' := by
  have WD := Lib.hid (lword_any c hf k d hk w h)
  rw [wfullx] at WD
  clear h
  go_enter Tryz.func92, Tryz.ntmps92
  go_wp2_with (go_at_call 147; (with_reducible refine WD.out.mono ?_); rintro e w1 ⟨rfl, hb⟩; have HB := Lib.hid hb; clear hb)
  go_ret
  exact ⟨rfl, HB.out⟩
set_option maxRecDepth 100000 in
theorem lsign_any (c : Cx) (hf : c.Fine) (k d : Nat) (hk : k ≤ c.N) (w : World) (h : RdR c k d w) :
    Calls Tryz.prog 244 #[.pointer (some ⟨c.b, 0, none⟩)] w fun e w' => e = .returned (.string (bsv (sgk (tkn c.l) k))) ∧ Below w.heap.size w w' := by
  have CM := Lib.hid (comes_any c hf k d hk 5 w h)
  have WD := Lib.hid (fun W (hb : Below w.heap.size w W) => lword_any c hf k d hk W (h.below hf hb))
  simp only [wfullx] at WD
  clear h
  by_cases h5 : (tkn c.l k).kind = 5
  · have e : sgk (tkn c.l) k = (tkn c.l k).text := by unfold sgk; rw [if_pos h5]
    have e5 : ((tkn c.l k).kind == 5) = true := by rw [h5]; rfl
    rw [e]
    rw [e5] at CM
    clear h5 e e5
    go_enter Tryz.func244, Tryz.ntmps244
    go_wp2_with (first | (go_at_call 92; (with_reducible refine CM.out.mono ?_); rintro e w1 ⟨rfl, hb⟩; have HB := Lib.hid hb; clear hb) | (go_at_call 147; (with_reducible refine (WD.out _ HB.out).mono ?_); rintro e w2 ⟨rfl, hb⟩; have HB2 := Lib.hid (bb HB.out hb); clear hb))
    go_ret
    exact ⟨rfl, HB2.out⟩
  · have e : sgk (tkn c.l) k = [] := by unfold sgk; rw [if_neg h5]
    have e5 : ((tkn c.l k).kind == 5) = false := by simpa using h5
    rw [e]
    rw [e5] at CM
    clear h5 e e5
    go_enter Tryz.func244, Tryz.ntmps244
    go_wp2_with (go_at_call 92; (with_reducible refine CM.out.mono ?_); rintro e w1 ⟨rfl, hb⟩; have HB := Lib.hid hb; clear hb)
    go_ret
    exact ⟨rfl, HB.out⟩
set_option maxRecDepth 100000 in
set_option maxHeartbeats 2000000 in
theorem ltake_any (c : Cx) (hf : c.Fine) (k d : Nat) (hk : k ≤ c.N) (w : World) (h : RdR c k d w) :
    Calls Tryz.prog 149 #[.pointer (some ⟨c.b, 0, none⟩)] w fun e w' => e = .returned (.agg (wfull (tkn c.l k) (beg c.l k))) ∧ w.grownBy w' (some c.b) ∧ RdR c (k + 1) d w' := by
  obtain ⟨w0, ew⟩ : ∃ u, u = w.alloc (.cells wzero 156) := ⟨_, rfl⟩
  have B0 : RowKit.Hid (Below w.heap.size w w0) := Lib.hid (by rw [ew]; exact B1 _ _)
  have H0 : RowKit.Hid (RdR c k d w0) := Lib.hid (h.below hf B0.out)
  have K0 : RowKit.Hid (Blk w0 w.heap.size wzero 156) := Lib.hid (by rw [ew]; exact Blk.new _ _ _)
  have bl := Lib.hid h.blk.lt
  have WD := lword_any c hf k d hk w0 H0.out
  have hkz : (k : Int) ≤ 16384 := by have := hf.n; have := hf.size; omega
  rw [wfullx] at WD ⊢
  obtain ⟨x, ex⟩ : ∃ x, x = tkn c.l k := ⟨_, rfl⟩
  obtain ⟨p, ep⟩ : ∃ p, p = beg c.l k := ⟨_, rfl⟩
  rw [← ex, ← ep] at WD ⊢
  clear ex ep h
  obtain ⟨K, eK⟩ : ∃ K, K = x.kind := ⟨_, rfl⟩
  obtain ⟨z, ez⟩ : ∃ z : Nat, z = p + x.len := ⟨_, rfl⟩
  obtain ⟨T, eT⟩ : ∃ T, T = bsv x.text := ⟨_, rfl⟩
  obtain ⟨V, eV⟩ : ∃ V, V = x.lev := ⟨_, rfl⟩
  obtain ⟨C0, e0⟩ : ∃ C : Int, C = cw x.cls 0 := ⟨_, rfl⟩
  obtain ⟨C1, e1⟩ : ∃ C : Int, C = cw x.cls 1 := ⟨_, rfl⟩
  obtain ⟨C2, e2⟩ : ∃ C : Int, C = cw x.cls 2 := ⟨_, rfl⟩
  obtain ⟨C3, e3⟩ : ∃ C : Int, C = cw x.cls 3 := ⟨_, rfl⟩
  rw [← eK, ← ez, ← eT, ← eV, ← e0, ← e1, ← e2, ← e3] at WD ⊢
  clear eK ez eT eV e0 e1 e2 e3
  have WDH := Lib.hid WD
  clear WD
  go_enter Tryz.func149, Tryz.ntmps149
  go_wp2_with fail
  rw [← ew]
  clear ew
  go_wp2_with (first | (go_at_call 147; (with_reducible refine WDH.out.mono ?_); rintro e w1 ⟨rfl, hb⟩; have HB := Lib.hid hb; have H1 := Lib.hid (H0.out.below hf hb); have KA := Lib.hid ((K0.out.below' hb).alloc (.cells wzero 156)); clear hb) | (refine wpList_store_whole rfl 156 (.tmp 3) (.tmp 5) rfl w1.heap.size #[.int .i64 K, .int .i64 p, .int .i64 z, .string T, .int .i64 V, .int .u64 C0, .int .u64 C1, .int .u64 C2, .int .u64 C3] rfl rfl 156 _ (Blk.new w1 wzero 156) (by kernel_rfl) (by rfl) (by simp [Value.oneCell']) ?_; intro w2 hk2 hg2; have K2 := Lib.hid hk2; have N1 := Lib.hid H1.out.blk.lt; have N2 := Lib.hid KA.out.lt; have M1 := Lib.hid (show w.heap.size < w1.heap.size from (K0.out.below' HB.out).lt); have HB2 := Lib.hid (below_new (bb HB.out (B1 w1 (.cells wzero 156))) (by have := HB.out.size; simp; omega) hg2 (Nat.le_trans HB.out.size (Nat.le_refl _))); have KB := Lib.hid (KA.out.grown hg2 (by have := M1.out; simp; omega)); have R2 := Lib.hid (H0.out.below hf HB2.out); have c1 := R2.out.blk.cell 1; have f1 := R2.out.blk.frozen 1; simp only [Cx.cells, List.getElem?_toArray, List.getElem?_cons_zero, List.getElem?_cons_succ] at c1; have qq := R2.out.set hf (k + 1) ((k : Int) + 1) (by omega); have R3 := Lib.hid qq.1; have K3 := Lib.hid (K2.out.grown qq.2 (by have := N1.out; simp; omega)); have KC := Lib.hid (KB.out.grown qq.2 (by have := bl.out; simp; omega)); have G3 := Lib.hid (grown_trans (below_is_grown (bb B0.out HB2.out) (some c.b)) qq.2); have k0 := K3.out.cell 0; have k1 := K3.out.cell 1; have k2 := K3.out.cell 2; have k3 := K3.out.cell 3; have k4 := K3.out.cell 4; have k5 := K3.out.cell 5; have k6 := K3.out.cell 6; have k7 := K3.out.cell 7; have k8 := K3.out.cell 8; simp only [List.getElem?_toArray, List.getElem?_cons_zero, List.getElem?_cons_succ] at k0 k1 k2 k3 k4 k5 k6 k7 k8; clear hk2 hg2 qq) | (refine wpList_store_whole rfl 156 (.tmp 2) (.tmp 13) rfl w.heap.size #[.int .i64 K, .int .i64 p, .int .i64 z, .string T, .int .i64 V, .int .u64 C0, .int .u64 C1, .int .u64 C2, .int .u64 C3] rfl rfl 156 _ KC.out (by kernel_rfl) (by rfl) (by simp [Value.oneCell']) ?_; intro w4 hk4 hg4; have K4 := Lib.hid hk4; have G4 := Lib.hid (grown_new G3.out hg4 (Nat.le_refl _)); have R4 := Lib.hid (show RdR c (k + 1) d w4 from ⟨R3.out.blk.grown hg4 (by have := bl.out; simp; omega), R3.out.keep.apart hf hg4 (by have := bl.out; omega)⟩); clear hk4 hg4))
  exact bodyPost_ret (results_cell1 rfl _ _ w.heap.size 156 _ _ rfl K4.out Tryz.underlying156 rfl (by kernel_rfl)) rfl ⟨rfl, G4.out, R4.out⟩
end Go.Proofs.YtfghfnpiaccfaaaGreatDoor
namespace Go.Proofs.YtfghfnpiaccfaaaGreatDoor
open Go Go.RowKit Go.Maps
theorem Cx.Fine.strs {c : Cx} (h : c.Fine) {k : Nat} (hk : k ≤ c.N) : Str (bsv (sgk (tkn c.l) k)) (sgk (tkn c.l) k) := str_bsv (h.sign hk).1
theorem eq_both {s t : ByteArray} {b : Bool} (h : (s.toList == t.toList) = b) : (s.toList = t.toList) = (b = true) := by
  cases b with
  | true => simpa using h
  | false => simpa using h
set_option maxRecDepth 100000 in
theorem lpass_any (c : Cx) (hf : c.Fine) (k d : Nat) (hk : k ≤ c.N) (s : ByteArray) (u : List Nat) (hs : Str s u) (w : World) (h : RdR c k d w) :
    Calls Tryz.prog 204 #[.pointer (some ⟨c.b, 0, none⟩), .string s] w fun e w' => e = .returned (.bool (decide (sgk (tkn c.l) k = u))) ∧ w.grownBy w' (some c.b) ∧ RdR c (if sgk (tkn c.l) k = u then k + 1 else k) d w' := by
  have SG := lsign_any c hf k d hk w h
  have TK := Lib.hid (fun W (hb : Below w.heap.size w W) => ltake_any c hf k d hk W (h.below hf hb))
  have RB := Lib.hid (fun W (hb : Below w.heap.size w W) => h.below hf hb)
  have q := str_eq (hf.strs hk) hs
  have q' := eq_both q
  rw [wfullx] at TK
  generalize bsv (sgk (tkn c.l) k) = S at SG q q'
  have SH := Lib.hid SG
  clear SG h
  by_cases e : sgk (tkn c.l) k = u
  · simp only [e, decide_true] at q q' ⊢
    rw [if_pos trivial]
    clear e
    go_enter Tryz.func204, Tryz.ntmps204
    go_wp2_with (first | (go_at_call 244; (with_reducible refine SH.out.mono ?_); rintro e w1 ⟨rfl, hb⟩; have HB := Lib.hid hb; clear hb) | (go_at_call 149; (with_reducible refine (TK.out _ HB.out).mono ?_); rintro e w2 ⟨rfl, hg, hR⟩; have G := Lib.hid (grown_trans (below_is_grown HB.out _) hg); have R := Lib.hid hR; clear hg hR))
    go_ret
    exact ⟨rfl, G.out, R.out⟩
  · simp only [e, decide_false] at q q' ⊢
    rw [if_neg not_false]
    clear e
    go_enter Tryz.func204, Tryz.ntmps204
    go_wp2_with (first | (go_at_call 244; (with_reducible refine SH.out.mono ?_); rintro e w1 ⟨rfl, hb⟩; have HB := Lib.hid hb; clear hb) | (go_at_call 149; (with_reducible refine (TK.out _ HB.out).mono ?_); rintro e w2 ⟨rfl, hg, hR⟩; have G := Lib.hid (grown_trans (below_is_grown HB.out _) hg); have R := Lib.hid hR; clear hg hR))
    go_ret
    exact ⟨rfl, below_is_grown HB.out _, RB.out _ HB.out⟩
set_option maxRecDepth 100000 in
theorem wrong_any (c : Cx) (hf : c.Fine) (k d : Nat) (hk : k ≤ c.N) (er : Int) (w : World) (h : RdR c k d w) :
    Calls Tryz.prog 148 #[.pointer (some ⟨c.b, 0, none⟩), .int .i64 er] w fun e w' => e = .returned (.tuple #[]) ∧ w.grownBy w' (some c.b) ∧ RdX c er (beg c.l k) w' := by
  have WD := Lib.hid (lword_any c hf k d hk w h)
  have RB := Lib.hid (fun W (hb : Below w.heap.size w W) => h.below hf hb)
  rw [wfullx] at WD
  clear h
  go_enter Tryz.func148, Tryz.ntmps148
  go_wp2_with (go_at_call 147; (with_reducible refine WD.out.mono ?_); rintro e w1 ⟨rfl, hb⟩; have HB := Lib.hid hb; have R1 := Lib.hid (RB.out _ hb); clear hb; have c5 := R1.out.blk.cell 5; have c6 := R1.out.blk.cell 6; have f5 := R1.out.blk.frozen 5; have f6 := R1.out.blk.frozen 6; simp only [Cx.cells, List.getElem?_toArray, List.getElem?_cons_zero, List.getElem?_cons_succ] at c5 c6)
  go_end0
  refine ⟨rfl, ?_, k, d, ?_⟩
  · exact grown_trans (below_is_grown HB.out _) (two_grown _ _ _ _ _ _)
  · exact heap_setCell_same _ c.b 6 (c.cells k d er 0) _ _ (heap_setCell_same _ c.b 5 (c.cells k d 0 0) _ _ R1.out.blk)
set_option maxRecDepth 100000 in
theorem must_any (c : Cx) (hf : c.Fine) (k d : Nat) (hk : k ≤ c.N) (s : ByteArray) (u : List Nat) (hs : Str s u) (w : World) (h : RdR c k d w) :
    Calls Tryz.prog 150 #[.pointer (some ⟨c.b, 0, none⟩), .string s] w fun e w' => w.grownBy w' (some c.b) ∧ ((sgk (tkn c.l) k = u ∧ e = .returned (.bool true) ∧ RdR c (k + 1) d w') ∨ (sgk (tkn c.l) k ≠ u ∧ e = .returned (.bool false) ∧ RdX c 7 (beg c.l k) w')) := by
  have PS := lpass_any c hf k d hk s u hs w h
  have WR := Lib.hid (fun W (hb : RdR c k d W) => wrong_any c hf k d hk 7 W hb)
  by_cases e : sgk (tkn c.l) k = u
  · simp only [e, decide_true, if_true] at PS
    have PH := Lib.hid PS
    have E := Lib.hid e
    clear PS e h
    go_enter Tryz.func150, Tryz.ntmps150
    go_wp2_with (go_at_call 204; (with_reducible refine PH.out.mono ?_); rintro e w1 ⟨rfl, hg, hR⟩; have G := Lib.hid hg; have R := Lib.hid hR; clear hg hR)
    go_ret
    exact ⟨G.out, .inl ⟨E.out, rfl, R.out⟩⟩
  · simp only [e, decide_false, if_false] at PS
    have PH := Lib.hid PS
    have E := Lib.hid e
    clear PS e h
    go_enter Tryz.func150, Tryz.ntmps150
    go_wp2_with (first | (go_at_call 204; (with_reducible refine PH.out.mono ?_); rintro e w1 ⟨rfl, hg, hR⟩; have G := Lib.hid hg; have R := Lib.hid hR; clear hg hR) | (go_at_call 148; (with_reducible refine (WR.out _ R.out).mono ?_); rintro e w2 ⟨rfl, hg, hR⟩; have G2 := Lib.hid (grown_trans G.out hg); have R2 := Lib.hid hR; clear hg hR))
    go_ret
    exact ⟨G2.out, .inr ⟨E.out, rfl, R2.out⟩⟩
theorem str47 : Str ⟨#[47]⟩ [47] := rfl
theorem slash_any (c : Cx) (hf : c.Fine) (k d : Nat) (hk : k ≤ c.N) (w : World) (h : RdR c k d w) :
    Calls Tryz.prog 207 #[.pointer (some ⟨c.b, 0, none⟩)] w fun e w' => e = .returned (.bool (slash (tkn c.l) k).isSome) ∧ w.grownBy w' (some c.b) ∧ RdR c ((slash (tkn c.l) k).getD k) d w' := by
  have PH := Lib.hid (lpass_any c hf k d hk _ _ str47 w h)
  have e1 : (slash (tkn c.l) k).isSome = decide (sgk (tkn c.l) k = [47]) := by unfold slash; split <;> simp [*]
  have e2 : (slash (tkn c.l) k).getD k = if sgk (tkn c.l) k = [47] then k + 1 else k := by unfold slash; split <;> rfl
  rw [e1, e2]
  clear e1 e2 h
  generalize decide (sgk (tkn c.l) k = [47]) = B at PH ⊢
  generalize (if sgk (tkn c.l) k = [47] then k + 1 else k) = j at PH ⊢
  go_enter Tryz.func207, Tryz.ntmps207
  go_wp2_with (go_at_call 204; (with_reducible refine PH.out.mono ?_); rintro e w1 ⟨rfl, hg, hR⟩; have G := Lib.hid hg; have R := Lib.hid hR; clear hg hR)
  go_ret
  exact ⟨rfl, G.out, R.out⟩
/-- The function that makes a primary part. -/
def mkv (b : Nat) : Nat → Value
  | 1 => .func (.func 281) #[.pointer (some ⟨b, 0, none⟩)] #[]
  | 2 => .func (.func 282) #[.pointer (some ⟨b, 0, none⟩)] #[]
  | 3 => .func (.func 283) #[.pointer (some ⟨b, 0, none⟩)] #[]
  | 4 => .func (.func 284) #[.pointer (some ⟨b, 0, none⟩)] #[]
  | 5 => .func (.func 285) #[.pointer (some ⟨b, 0, none⟩)] #[]
  | _ => .nilFunc
theorem str46 : Str ⟨#[46]⟩ [46] := rfl
theorem str40 : Str ⟨#[40]⟩ [40] := rfl
set_option maxRecDepth 100000 in
theorem maker_any (c : Cx) (hf : c.Fine) (k d : Nat) (hk : k ≤ c.N) (w : World) (h : RdR c k d w) :
    Calls Tryz.prog 269 #[.pointer (some ⟨c.b, 0, none⟩)] w fun e w' => e = .returned (mkv c.b (mk (tkn c.l) k)) ∧ Below w.heap.size w w' := by
  have WD := Lib.hid (lword_any c hf k d hk w h)
  have SG := Lib.hid (fun W (hb : Below w.heap.size w W) => lsign_any c hf k d hk W (h.below hf hb))
  have q1 := str_eq (hf.strs hk) str46
  have q2 := str_eq (hf.strs hk) str40
  rw [ByteArray.toList_eq ⟨#[46]⟩] at q1
  rw [ByteArray.toList_eq ⟨#[40]⟩] at q2
  simp only [] at q1 q2
  rw [wfullx] at WD
  generalize bsv (sgk (tkn c.l) k) = S at SG q1 q2
  have M : RowKit.Hid (mk (tkn c.l) k = if (tkn c.l k).kind = 2 then 1 else if (tkn c.l k).kind = 3 then 2 else if (tkn c.l k).kind = 4 then 3 else if sgk (tkn c.l) k = [46] then 4 else if sgk (tkn c.l) k = [40] then 5 else 0) := Lib.hid rfl
  generalize mk (tkn c.l) k = m at M ⊢
  clear h
  by_cases z2 : (tkn c.l k).kind = 2
  · obtain rfl : m = 1 := by rw [M.out, if_pos z2]
    clear M q1 q2
    go_enter Tryz.func269, Tryz.ntmps269
    go_wp2_with (first | (go_at_call 147; (with_reducible refine WD.out.mono ?_); rintro e w1 ⟨rfl, hb⟩; have HB := Lib.hid hb; clear hb) | (go_at_call 244; (with_reducible refine (SG.out _ HB.out).mono ?_); rintro e w2 ⟨rfl, hb⟩; have HB2 := Lib.hid (bb HB.out hb); clear hb))
    go_ret
    exact ⟨rfl, HB.out⟩
  by_cases z3 : (tkn c.l k).kind = 3
  · obtain rfl : m = 2 := by rw [M.out, if_neg z2, if_pos z3]
    clear M q1 q2
    go_enter Tryz.func269, Tryz.ntmps269
    go_wp2_with (first | (go_at_call 147; (with_reducible refine WD.out.mono ?_); rintro e w1 ⟨rfl, hb⟩; have HB := Lib.hid hb; clear hb) | (go_at_call 244; (with_reducible refine (SG.out _ HB.out).mono ?_); rintro e w2 ⟨rfl, hb⟩; have HB2 := Lib.hid (bb HB.out hb); clear hb))
    go_ret
    exact ⟨rfl, HB.out⟩
  by_cases z4 : (tkn c.l k).kind = 4
  · obtain rfl : m = 3 := by rw [M.out, if_neg z2, if_neg z3, if_pos z4]
    clear M q1 q2
    go_enter Tryz.func269, Tryz.ntmps269
    go_wp2_with (first | (go_at_call 147; (with_reducible refine WD.out.mono ?_); rintro e w1 ⟨rfl, hb⟩; have HB := Lib.hid hb; clear hb) | (go_at_call 244; (with_reducible refine (SG.out _ HB.out).mono ?_); rintro e w2 ⟨rfl, hb⟩; have HB2 := Lib.hid (bb HB.out hb); clear hb))
    go_ret
    exact ⟨rfl, HB.out⟩
  by_cases z5 : sgk (tkn c.l) k = [46]
  · obtain rfl : m = 4 := by rw [M.out, if_neg z2, if_neg z3, if_neg z4, if_pos z5]
    simp only [z5, decide_true] at q1
    clear M q2
    go_enter Tryz.func269, Tryz.ntmps269
    go_wp2_with (first | (go_at_call 147; (with_reducible refine WD.out.mono ?_); rintro e w1 ⟨rfl, hb⟩; have HB := Lib.hid hb; clear hb) | (go_at_call 244; (with_reducible refine (SG.out _ HB.out).mono ?_); rintro e w2 ⟨rfl, hb⟩; have HB2 := Lib.hid (bb HB.out hb); clear hb))
    go_ret
    exact ⟨rfl, HB2.out⟩
  simp only [z5, decide_false] at q1
  by_cases z6 : sgk (tkn c.l) k = [40]
  · obtain rfl : m = 5 := by rw [M.out, if_neg z2, if_neg z3, if_neg z4, if_neg z5, if_pos z6]
    simp only [z6, decide_true] at q2
    clear M
    go_enter Tryz.func269, Tryz.ntmps269
    go_wp2_with (first | (go_at_call 147; (with_reducible refine WD.out.mono ?_); rintro e w1 ⟨rfl, hb⟩; have HB := Lib.hid hb; clear hb) | (go_at_call 244; (with_reducible refine (SG.out _ HB.out).mono ?_); rintro e w2 ⟨rfl, hb⟩; have HB2 := Lib.hid (bb HB.out hb); clear hb))
    go_ret
    exact ⟨rfl, HB2.out⟩
  · obtain rfl : m = 0 := by rw [M.out, if_neg z2, if_neg z3, if_neg z4, if_neg z5, if_neg z6]
    simp only [z6, decide_false] at q2
    clear M
    go_enter Tryz.func269, Tryz.ntmps269
    go_wp2_with (first | (go_at_call 147; (with_reducible refine WD.out.mono ?_); rintro e w1 ⟨rfl, hb⟩; have HB := Lib.hid hb; clear hb) | (go_at_call 244; (with_reducible refine (SG.out _ HB.out).mono ?_); rintro e w2 ⟨rfl, hb⟩; have HB2 := Lib.hid (bb HB.out hb); clear hb))
    go_ret
    exact ⟨rfl, HB2.out⟩
set_option maxRecDepth 100000 in
theorem aheadM_any (w : World) : Calls Tryz.prog 40 #[] w fun e w' => e = .returned (.map (some w.heap.size)) ∧ Sgm w' w.heap.size aheads ∧ Below w.heap.size w w' := by
  have hmm := @run_makeMap Tryz.prog
  have m0 : (w.alloc (.map #[] 0)).ownsMap Tryz.prog 9 (plainElem Tryz.prog 43) w.heap.size 0 (.map [] : DataW Unit) := World.ownsMap_made w Tryz.prog 9 _
  have b0 : Below w.heap.size w (w.alloc (.map #[] 0)) := B1 _ _
  obtain ⟨w1, r1, m1, g1⟩ := ins_s m0 [33] ⟨#[33]⟩ rfl (by decide) 11 (by omega) (by omega)
  have b1 := below_map b0 g1 (Nat.le_refl _)
  obtain ⟨w2, r2, m2, g2⟩ := ins_s m1 [38] ⟨#[38]⟩ rfl (by decide) 12 (by omega) (by omega)
  have b2 := below_map b1 g2 (Nat.le_refl _)
  have M : RowKit.Hid (Sgm w2 w.heap.size aheads) := Lib.hid m2
  have B := Lib.hid b2
  clear m0 m1 m2 g1 g2 b0 b1 b2
  go_enter Tryz.func40, Tryz.ntmps40
  go_wp2_with fail
  go_ret
  exact ⟨rfl, M.out, B.out⟩
set_option maxRecDepth 100000 in
theorem behindM_any (w : World) : Calls Tryz.prog 41 #[] w fun e w' => e = .returned (.map (some w.heap.size)) ∧ Sgm w' w.heap.size behinds ∧ Below w.heap.size w w' := by
  have hmm := @run_makeMap Tryz.prog
  have m0 : (w.alloc (.map #[] 0)).ownsMap Tryz.prog 9 (plainElem Tryz.prog 43) w.heap.size 0 (.map [] : DataW Unit) := World.ownsMap_made w Tryz.prog 9 _
  have b0 : Below w.heap.size w (w.alloc (.map #[] 0)) := B1 _ _
  obtain ⟨w1, r1, m1, g1⟩ := ins_s m0 [42] ⟨#[42]⟩ rfl (by decide) 8 (by omega) (by omega)
  have b1 := below_map b0 g1 (Nat.le_refl _)
  obtain ⟨w2, r2, m2, g2⟩ := ins_s m1 [43] ⟨#[43]⟩ rfl (by decide) 9 (by omega) (by omega)
  have b2 := below_map b1 g2 (Nat.le_refl _)
  obtain ⟨w3, r3, m3, g3⟩ := ins_s m2 [63] ⟨#[63]⟩ rfl (by decide) 10 (by omega) (by omega)
  have b3 := below_map b2 g3 (Nat.le_refl _)
  have M : RowKit.Hid (Sgm w3 w.heap.size behinds) := Lib.hid m3
  have B := Lib.hid b3
  clear m0 m1 m2 m3 g1 g2 g3 b0 b1 b2 b3
  go_enter Tryz.func41, Tryz.ntmps41
  go_wp2_with fail
  go_ret
  exact ⟨rfl, M.out, B.out⟩
end Go.Proofs.YtfghfnpiaccfaaaGreatDoor
namespace Go.Proofs.YtfghfnpiaccfaaaGreatDoor
open Go Go.RowKit Go.Maps
theorem mk_le (tk : Nat → Wd) (k : Nat) : mk tk k ≤ 5 := by
  unfold mk
  repeat (split; · omega)
  omega
theorem mkv_pos {m : Nat} (b : Nat) (h : m ≠ 0) (h5 : m ≤ 5) : ∃ F, mkv b m = .func (.func F) #[.pointer (some ⟨b, 0, none⟩)] #[] := by
  match m, h, h5 with
  | 1, _, _ => exact ⟨_, rfl⟩
  | 2, _, _ => exact ⟨_, rfl⟩
  | 3, _, _ => exact ⟨_, rfl⟩
  | 4, _, _ => exact ⟨_, rfl⟩
  | 5, _, _ => exact ⟨_, rfl⟩
@[go_sem] theorem neqF0 (w : World) : (binOp .neq 221 .nilFunc .nilFunc).run Tryz.prog w = .ok (.bool false) w := by first | kernel_rfl | rfl
@[go_sem] theorem neqF1 (F : FuncId) (b : Nat) (w : World) : (binOp .neq 221 (.func (.func F) #[.pointer (some ⟨b, 0, none⟩)] #[]) .nilFunc).run Tryz.prog w = .ok (.bool true) w := by first | kernel_rfl | rfl
@[go_sem] theorem eqlF0 (w : World) : (binOp .eql 221 .nilFunc .nilFunc).run Tryz.prog w = .ok (.bool true) w := by first | kernel_rfl | rfl
@[go_sem] theorem eqlF1 (F : FuncId) (b : Nat) (w : World) : (binOp .eql 221 (.func (.func F) #[.pointer (some ⟨b, 0, none⟩)] #[]) .nilFunc).run Tryz.prog w = .ok (.bool false) w := by first | kernel_rfl | rfl
/-- What is looked up in a map of signs, in any world that has grown out of w. -/
theorem look_ah (c : Cx) (hf : c.Fine) {k d : Nat} (hk : k ≤ c.N) {w : World} (h : RdR c k d w) (e : Ext w) :
    (Instr.lookup 86 (.map (some c.m1)) (.string (bsv (sgk (tkn c.l) k))) true).run Tryz.prog e.val = .ok (.tuple #[.int .i64 ((aheadK (sgk (tkn c.l) k)).getD 0), .bool (aheadK (sgk (tkn c.l) k)).isSome]) e.val := by
  rw [← kfind_ahead]
  exact (h.below hf e.grown).keep.ah.look aheads_lt _ (hf.sign hk).1 (by have := (hf.sign hk).2; omega)
theorem look_bh (c : Cx) (hf : c.Fine) {k d : Nat} (hk : k ≤ c.N) {w : World} (h : RdR c k d w) (e : Ext w) :
    (Instr.lookup 86 (.map (some c.m2)) (.string (bsv (sgk (tkn c.l) k))) true).run Tryz.prog e.val = .ok (.tuple #[.int .i64 ((behindK (sgk (tkn c.l) k)).getD 0), .bool (behindK (sgk (tkn c.l) k)).isSome]) e.val := by
  rw [← kfind_behind]
  exact (h.below hf e.grown).keep.bh.look behinds_lt _ (hf.sign hk).1 (by have := (hf.sign hk).2; omega)
set_option maxRecDepth 100000 in
set_option maxHeartbeats 1000000 in
theorem begins_any (c : Cx) (hf : c.Fine) (k d : Nat) (hk : k ≤ c.N) (w : World) (h : RdR c k d w) :
    Calls Tryz.prog 246 #[.pointer (some ⟨c.b, 0, none⟩)] w fun e w' => e = .returned (.bool (begins (tkn c.l) k).isSome) ∧ Below w.heap.size w w' := by
  have LK := fun (e : Ext w) => look_ah c hf hk h e
  have SG := Lib.hid (fun (e : Ext w) => lsign_any c hf k d hk e.val (h.below hf e.grown))
  have MK := Lib.hid (fun W (hb : Below w.heap.size w W) => maker_any c hf k d hk W (h.below hf hb))
  have c2 := h.blk.cell 2
  simp only [Cx.cells, List.getElem?_toArray, List.getElem?_cons_zero, List.getElem?_cons_succ] at c2
  have d2 := fun (e : Ext w) => Ext.cell c2 e
  have M5 := mk_le (tkn c.l) k
  have EB : RowKit.Hid ((begins (tkn c.l) k).isSome = ((aheadK (sgk (tkn c.l) k)).isSome || !(mk (tkn c.l) k == 0))) := Lib.hid (by
    unfold begins
    split
    · rename_i hh; rcases hh with hh | hh
      · simp [hh]
      · simp [hh]
    · rename_i hh; simp at hh; simp [hh])
  generalize (begins (tkn c.l) k).isSome = Z at EB ⊢
  generalize mk (tkn c.l) k = m at MK EB M5
  generalize aheadK (sgk (tkn c.l) k) = O at LK EB
  generalize bsv (sgk (tkn c.l) k) = S at LK SG
  clear h c2
  cases O with
  | some K =>
    obtain rfl : Z = true := by rw [EB.out]; rfl
    simp only [Option.getD_some, Option.isSome_some] at LK
    clear EB MK
    go_enter Tryz.func246, Tryz.ntmps246
    go_wp2_with fail
    refine wp_region_ext (by kernel_rfl) (by kernel_rfl) ?_
    repeat (first | go_big_quiet_step (first | (go_at_call 244; with_reducible exact Calls.ext_of (SG.out _))))
    refine wpQuiet_nil ?_
    intro wd hw'
    obtain ⟨⟨wd', hb9⟩, e9⟩ := hw'
    obtain rfl : wd = wd' := e9
    have B9 := Lib.hid hb9
    clear hb9 LK d2
    go_wp2_with fail
    go_ret
    exact ⟨rfl, B9.out⟩
  | none =>
    simp only [Option.getD_none, Option.isSome_none] at LK
    by_cases hm : m = 0
    · obtain rfl : Z = false := by rw [EB.out, hm]; rfl
      subst hm
      clear EB
      go_enter Tryz.func246, Tryz.ntmps246
      go_wp2_with fail
      refine wp_region_ext (by kernel_rfl) (by kernel_rfl) ?_
      repeat (first | go_big_quiet_step (first | (go_at_call 244; with_reducible exact Calls.ext_of (SG.out _))))
      refine wpQuiet_nil ?_
      intro wd hw'
      obtain ⟨⟨wd', hb9⟩, e9⟩ := hw'
      obtain rfl : wd = wd' := e9
      have B9 := Lib.hid hb9
      clear hb9 LK d2
      go_wp2_with (go_at_call 269; (with_reducible refine (MK.out _ B9.out).mono ?_); rintro e w1 ⟨rfl, hb⟩; have B10 := Lib.hid (bb B9.out hb); clear hb; simp only [mkv])
      go_ret
      exact ⟨rfl, B10.out⟩
    · obtain rfl : Z = true := by rw [EB.out]; simp [hm]
      obtain ⟨F, eF⟩ := mkv_pos c.b hm M5
      rw [eF] at MK
      clear EB eF hm M5
      go_enter Tryz.func246, Tryz.ntmps246
      go_wp2_with fail
      refine wp_region_ext (by kernel_rfl) (by kernel_rfl) ?_
      repeat (first | go_big_quiet_step (first | (go_at_call 244; with_reducible exact Calls.ext_of (SG.out _))))
      refine wpQuiet_nil ?_
      intro wd hw'
      obtain ⟨⟨wd', hb9⟩, e9⟩ := hw'
      obtain rfl : wd = wd' := e9
      have B9 := Lib.hid hb9
      clear hb9 LK d2
      go_wp2_with (go_at_call 269; (with_reducible refine (MK.out _ B9.out).mono ?_); rintro e w1 ⟨rfl, hb⟩; have B10 := Lib.hid (bb B9.out hb); clear hb)
      go_ret
      exact ⟨rfl, B10.out⟩
end Go.Proofs.YtfghfnpiaccfaaaGreatDoor

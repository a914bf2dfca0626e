/- Nodes in preorder, plainly: measured from the last one on, and gone through from the first one on. Nothing here speaks of a program. -/
import Derived.Test.YtjelgmdjmjnnfaaA1
import Derived.Test.YtjelgmdjmjnnfaaA3
import Derived.Test.YtjelgmdjmjnnfaaA2
set_option linter.unusedSimpArgs false
set_option linter.unusedVariables false
namespace Go.Proofs.Ytjelgmdjmjnnfaa
abbrev Meas := Int × Int
def kidsOf (l : List Nd) (n : Nat) : List Int := (l.getD n Nd.zero).kids
/-- Kids one behind the other: from 'next' on, by the sizes that are known: where they end, how high the highest is; none, if they do not stand so. -/
def climb (len : Nat) (ms : Nat → Meas) : List Int → Int → Int → Option Meas
  | [], next, high => some (next, high)
  | k :: r, next, high => if k = next ∧ k < len then climb len ms r (next + (ms k.toNat).1) (max high (ms k.toNat).2) else none
/-- The nodes from n on are measured. -/
def Measured (l : List Nd) (ms : Nat → Meas) (n : Nat) : Prop := ∀ m, n ≤ m → m < l.length → 1 ≤ (ms m).1 ∧ 1 ≤ (ms m).2 ∧ m + (ms m).1 ≤ l.length ∧ climb l.length ms (kidsOf l m) (m + 1) 0 = some (m + (ms m).1, (ms m).2 - 1)
theorem climb_up {len : Nat} {ms : Nat → Meas} (n0 : Nat) (hs : ∀ m : Nat, n0 ≤ m → m < len → 1 ≤ (ms m).1 ∧ 1 ≤ (ms m).2 ∧ m + (ms m).1 ≤ len) : ∀ (r : List Int) (next high to hh : Int), (n0 : Int) ≤ next → climb len ms r next high = some (to, hh) → next ≤ to ∧ high ≤ hh ∧ (next ≤ len → to ≤ len)
  | [], next, high, to, hh, _, h => by simp [climb] at h; omega
  | k :: r, next, high, to, hh, hn, h => by
    unfold climb at h
    split at h
    · rename_i hk
      obtain ⟨rfl, hk2⟩ := hk
      obtain ⟨h1, h2, h3⟩ := hs k.toNat (by omega) (by omega)
      have := climb_up n0 hs r _ _ to hh (by omega) h
      have e : ((k.toNat : Nat) : Int) = k := by omega
      rw [e] at h3
      omega
    · cases h
theorem climb_congr {len : Nat} {ms ms' : Nat → Meas} (n0 : Nat) (hs : ∀ m : Nat, n0 ≤ m → m < len → 1 ≤ (ms m).1) (he : ∀ m : Nat, n0 ≤ m → m < len → ms m = ms' m) : ∀ (r : List Int) (next high : Int), (n0 : Int) ≤ next → climb len ms r next high = climb len ms' r next high
  | [], _, _, _ => rfl
  | k :: r, next, high, hn => by
    unfold climb
    by_cases hk : k = next ∧ k < len
    · rw [if_pos hk, if_pos hk]
      obtain ⟨rfl, hk2⟩ := hk
      have h1 := hs k.toNat (by omega) (by omega)
      rw [← he k.toNat (by omega) (by omega)]
      exact climb_congr n0 hs he r _ _ (by omega)
    · rw [if_neg hk, if_neg hk]
theorem measured_unique {l : List Nd} {ms ms' : Nat → Meas} {n n' : Nat} (h : Measured l ms n) (h' : Measured l ms' n') : ∀ d m : Nat, l.length - m ≤ d → n ≤ m → n' ≤ m → m < l.length → ms m = ms' m
  | 0, m, hd, _, _, hl => by omega
  | d + 1, m, hd, hn, hn', hl => by
    obtain ⟨a1, a2, _, a3⟩ := h m hn hl
    obtain ⟨b1, b2, _, b3⟩ := h' m hn' hl
    have e := climb_congr (len := l.length) (ms := ms) (ms' := ms') (m + 1) (fun k hk hkl => (h k (by omega) hkl).1) (fun k hk hkl => measured_unique h h' d k (by omega) (by omega) (by omega) hkl) (kidsOf l m) (m + 1) 0 (by omega)
    rw [a3, b3] at e
    simp only [Option.some.injEq, Prod.mk.injEq] at e
    apply Prod.ext <;> omega
/-- One node more is measured. -/
theorem measured_step {l : List Nd} {ms : Nat → Meas} {n : Nat} (hn : n < l.length) (h : Measured l ms (n + 1)) {to hh : Int} (hc : climb l.length ms (kidsOf l n) (n + 1) 0 = some (to, hh)) : Measured l (fun m => if m = n then (to - n, hh + 1) else ms m) n := by
  have hup := climb_up (n + 1) (fun m hm hl => ⟨(h m hm hl).1, (h m hm hl).2.1, (h m hm hl).2.2.1⟩) _ _ _ to hh (by omega) hc
  intro m hm hl
  have hcong : ∀ k : Nat, n ≤ k → k < l.length → climb l.length (fun m => if m = n then (to - n, hh + 1) else ms m) (kidsOf l k) (k + 1) 0 = climb l.length ms (kidsOf l k) (k + 1) 0 := fun k hk hkl =>
    (climb_congr (n + 1) (fun j hj hjl => (h j hj hjl).1) (fun j hj _ => by simp [show j ≠ n by omega]) _ _ _ (by omega)).symm
  rw [hcong m hm hl]
  by_cases e : m = n
  · subst e
    simp only [if_true]
    exact ⟨by omega, by omega, by omega, by rw [hc]; simp only [Option.some.injEq, Prod.mk.injEq]; omega⟩
  · simp only [if_neg e]
    exact h m (by omega) hl
theorem measured_none {l : List Nd} {ms ms' : Nat → Meas} {n : Nat} (hn : n < l.length) (h : Measured l ms (n + 1)) (hc : climb l.length ms (kidsOf l n) (n + 1) 0 = none) : ¬ Measured l ms' 0 := by
  intro h'
  have e := climb_congr (len := l.length) (ms := ms) (ms' := ms') (n + 1) (fun k hk hkl => (h k (by omega) hkl).1) (fun k hk hkl => measured_unique h h' _ k (Nat.le_refl _) (by omega) (by omega) hkl) (kidsOf l n) (n + 1) 0 (by omega)
  rw [hc, (h' n (by omega) hn).2.2.2] at e
  cases e
/-- The document's: the node behind a node's last one, and its height; none: they do not stand so. -/
def afterKids (f : Int → Option Meas) : List Int → Int → Int → Option Meas
  | [], next, high => some (next, high)
  | k :: r, next, high => if k = next then match f next with
    | some (to, h) => afterKids f r to (max high (1 + h))
    | none => none
    else none
def after (l : List Nd) : Nat → Int → Option Meas
  | 0, _ => none
  | f + 1, n => if n < l.length then afterKids (after l f) (kidsOf l n.toNat) (n + 1) 1 else none
theorem afterKids_climb {l : List Nd} {ms : Nat → Meas} (h : Measured l ms 0) (f : Nat) (hf : ∀ m : Nat, m < l.length → after l f m = if (ms m).2 ≤ f then some (m + (ms m).1, (ms m).2) else none) :
    ∀ (r : List Int) (next high to hh : Int), 0 ≤ next → high ≤ f → climb l.length ms r next high = some (to, hh) → afterKids (after l f) r next (high + 1) = if hh ≤ f then some (to, hh + 1) else none
  | [], next, high, to, hh, _, hl, hc => by simp [climb] at hc; obtain ⟨rfl, rfl⟩ := hc; simp [afterKids, hl]
  | k :: r, next, high, to, hh, hn, hl, hc => by
    unfold climb at hc
    split at hc
    · rename_i hk
      obtain ⟨rfl, hk2⟩ := hk
      have hm := hf k.toNat (by omega)
      have e : ((k.toNat : Nat) : Int) = k := by omega
      obtain ⟨m1, m2, m3, _⟩ := h k.toNat (by omega) (by omega)
      rw [e] at hm
      unfold afterKids
      rw [if_pos rfl, hm]
      by_cases hx : (ms k.toNat).2 ≤ f
      · rw [if_pos hx]
        have := afterKids_climb h f hf r _ _ to hh (by omega) (by omega) hc
        show afterKids (after l f) r (k + (ms k.toNat).1) (max (high + 1) (1 + (ms k.toNat).2)) = _
        rw [show max (high + 1) (1 + (ms k.toNat).2) = max high (ms k.toNat).2 + 1 by omega]
        exact this
      · rw [if_neg hx]
        have := climb_up 0 (fun m hm hl => ⟨(h m (by omega) hl).1, (h m (by omega) hl).2.1, (h m (by omega) hl).2.2.1⟩) r _ _ to hh (by omega) hc
        rw [if_neg (by omega)]
    · cases hc
theorem after_measured {l : List Nd} {ms : Nat → Meas} (h : Measured l ms 0) : ∀ (f m : Nat), m < l.length → after l f m = if (ms m).2 ≤ f then some (m + (ms m).1, (ms m).2) else none
  | 0, m, hm => by
    have := (h m (by omega) hm).2.1
    rw [if_neg (by omega)]
    rfl
  | f + 1, m, hm => by
    obtain ⟨h1, h2, h3, h4⟩ := h m (by omega) hm
    unfold after
    rw [if_pos (by omega)]
    have := afterKids_climb h f (after_measured h f) (kidsOf l m) (m + 1) 0 _ _ (by omega) (by omega) h4
    simp only [Int.zero_add] at this
    rw [Int.toNat_natCast, this]
    by_cases hx : (ms m).2 - 1 ≤ f
    · rw [if_pos hx, if_pos (by omega)]
      simp only [Option.some.injEq, Prod.mk.injEq, true_and]
      omega
    · rw [if_neg hx, if_neg (by omega)]
/-- What is gone through is good all along. -/
theorem afterKids_cover {l : List Nd} (f : Nat) (hf : ∀ (n : Nat) (to h : Int), after l f n = some (to, h) → (n : Int) < to ∧ to ≤ l.length ∧ 1 ≤ h ∧ h ≤ f ∧ ∀ m : Nat, n ≤ m → (m : Int) < to → ∃ r, after l f m = some r) :
    ∀ (r : List Int) (next high to h : Int), 0 ≤ next → next ≤ l.length → afterKids (after l f) r next high = some (to, h) → next ≤ to ∧ to ≤ l.length ∧ high ≤ h ∧ (high ≤ f + 1 → h ≤ f + 1) ∧ ∀ m : Nat, next ≤ m → (m : Int) < to → ∃ r, after l f m = some r
  | [], next, high, to, h, _, hl, hc => by simp [afterKids] at hc; obtain ⟨rfl, rfl⟩ := hc; exact ⟨by omega, hl, by omega, fun h => h, fun m h1 h2 => by omega⟩
  | k :: r, next, high, to, h, hn, hl, hc => by
    unfold afterKids at hc
    split at hc
    · split at hc
      · rename_i to1 h1 he
        have e : ((next.toNat : Nat) : Int) = next := by omega
        rw [← e] at he
        obtain ⟨a1, a2, a3, a4, a5⟩ := hf _ _ _ he
        obtain ⟨b1, b2, b3, b4, b5⟩ := afterKids_cover f hf r to1 _ to h (by omega) a2 hc
        refine ⟨by omega, b2, by omega, fun hh => b4 (by omega), fun m m1 m2 => ?_⟩
        by_cases hm : (m : Int) < to1
        · exact a5 m (by omega) hm
        · exact b5 m (by omega) m2
      · cases hc
    · cases hc
theorem afterKids_mono {l : List Nd} (f : Nat) (hf : ∀ (n : Int) (r : Meas), after l f n = some r → after l (f + 1) n = some r) : ∀ (r : List Int) (next high : Int) (x : Meas), afterKids (after l f) r next high = some x → afterKids (after l (f + 1)) r next high = some x
  | [], _, _, _, h => h
  | k :: r, next, high, x, h => by
    unfold afterKids at h ⊢
    split at h
    · rename_i hk
      rw [if_pos hk]
      split at h
      · rename_i to1 h1 he
        rw [hf _ _ he]
        exact afterKids_mono f hf r _ _ x h
      · cases h
    · cases h
theorem after_mono1 {l : List Nd} : ∀ (f : Nat) (n : Int) (r : Meas), after l f n = some r → after l (f + 1) n = some r
  | 0, _, _, h => by cases h
  | f + 1, n, r, h => by
    rw [after] at h ⊢
    split at h
    · rename_i hn
      rw [if_pos hn]
      exact afterKids_mono f (after_mono1 f) _ _ _ _ h
    · cases h
theorem after_cover {l : List Nd} : ∀ (f n : Nat) (to h : Int), after l f n = some (to, h) → (n : Int) < to ∧ to ≤ l.length ∧ 1 ≤ h ∧ h ≤ f ∧ ∀ m : Nat, n ≤ m → (m : Int) < to → ∃ r, after l f m = some r
  | 0, _, _, _, h => by cases h
  | f + 1, n, to, h, hc => by
    have hc0 := hc
    rw [after] at hc
    split at hc
    · rename_i hn
      obtain ⟨b1, b2, b3, b4, b5⟩ := afterKids_cover f (after_cover f) _ _ _ to h (by omega) (by omega) hc
      refine ⟨by omega, b2, b3, by have := b4 (by omega); omega, fun m m1 m2 => ?_⟩
      by_cases hm : m = n
      · subst hm; exact ⟨_, hc0⟩
      · obtain ⟨r, hr⟩ := b5 m (by omega) m2
        exact ⟨r, after_mono1 f _ _ hr⟩
    · cases hc
theorem climb_after {l : List Nd} {f : Nat} {ms : Nat → Meas} (hms : ∀ m : Nat, m < l.length → after l f m = some (m + (ms m).1, (ms m).2)) : ∀ (r : List Int) (next high to h : Int), 0 ≤ next → next ≤ l.length → afterKids (after l f) r next (high + 1) = some (to, h) → climb l.length ms r next high = some (to, h - 1)
  | [], next, high, to, h, _, _, hc => by simp [afterKids] at hc; obtain ⟨rfl, rfl⟩ := hc; simp [climb]
  | k :: r, next, high, to, h, hn, hl, hc => by
    unfold afterKids at hc
    split at hc
    · rename_i hk
      subst hk
      split at hc
      · rename_i to1 h1 he
        have e : ((k.toNat : Nat) : Int) = k := by omega
        have he2 := he
        rw [← e] at he2
        have hlt : k < l.length := by
          have := after_cover f _ _ _ he2
          omega
        have hm := hms k.toNat (by omega)
        rw [he2] at hm
        simp only [Option.some.injEq, Prod.mk.injEq] at hm
        have c := after_cover f _ _ _ he2
        unfold climb
        rw [if_pos ⟨rfl, hlt⟩]
        refine climb_after hms r _ _ to h (by omega) (by omega) ?_
        rw [← hm.2, show k + (ms k.toNat).1 = to1 by omega, show max high h1 + 1 = max (high + 1) (1 + h1) by omega]
        exact hc
      · cases hc
    · cases hc
/-- If all nodes are gone through well, they are measured. -/
theorem measured_of_after {l : List Nd} (f : Nat) (h : ∀ m : Nat, m < l.length → ∃ r, after l f m = some r) : ∃ ms, Measured l ms 0 := by
  have key : ∀ m : Nat, ∃ p : Meas, m < l.length → after l (f + 1) m = some (m + p.1, p.2) ∧ after l f m = some (m + p.1, p.2) := fun m => by
    by_cases hm : m < l.length
    · obtain ⟨r, hr⟩ := h m hm
      exact ⟨(r.1 - m, r.2), fun _ => by
        have e : some ((m : Int) + (r.1 - m, r.2).1, (r.1 - (m : Int), r.2).2) = some r := by congr 1; apply Prod.ext <;> simp; omega
        exact ⟨by rw [after_mono1 f _ _ hr, e], by rw [hr, e]⟩⟩
    · exact ⟨(0, 0), fun h => absurd h hm⟩
  obtain ⟨ms, hk⟩ : ∃ ms : Nat → Meas, ∀ m : Nat, m < l.length → after l (f + 1) m = some (m + (ms m).1, (ms m).2) ∧ after l f m = some (m + (ms m).1, (ms m).2) := ⟨fun m => Classical.choose (key m), fun m => Classical.choose_spec (key m)⟩
  refine ⟨ms, fun m _ hm => ?_⟩
  have hms : ∀ j : Nat, j < l.length → after l f j = some (j + (ms j).1, (ms j).2) := fun j hj => (hk j hj).2
  have h1 := (hk m hm).1
  have c := after_cover (f + 1) m _ _ h1
  rw [after] at h1
  split at h1
  · have := climb_after hms (kidsOf l m) (m + 1) 0 _ _ (by omega) (by omega) (by simpa using h1)
    exact ⟨by omega, by omega, by omega, by simpa using this⟩
  · cases h1
end Go.Proofs.Ytjelgmdjmjnnfaa
namespace Go.Proofs.Ytjelgmdjmjnnfaa
theorem climb_high {len : Nat} {ms : Nat → Meas} (n0 : Nat) (hs : ∀ m : Nat, n0 ≤ m → m < len → 1 ≤ (ms m).1 ∧ (ms m).2 ≤ (ms m).1) : ∀ (r : List Int) (next high to hh s : Int), (n0 : Int) ≤ next → climb len ms r next high = some (to, hh) → high ≤ next - s → s ≤ next → hh ≤ to - s
  | [], next, high, to, hh, s, _, h, h2, _ => by simp [climb] at h; omega
  | k :: r, next, high, to, hh, s, hn, h, h2, h3 => by
    unfold climb at h
    split at h
    · rename_i hk
      obtain ⟨rfl, hk2⟩ := hk
      obtain ⟨a1, a2⟩ := hs k.toNat (by omega) (by omega)
      exact climb_high n0 hs r _ _ to hh s (by omega) h (by omega) (by omega)
    · cases h
theorem measured_high {l : List Nd} {ms : Nat → Meas} {n : Nat} (h : Measured l ms n) : ∀ d m : Nat, l.length - m ≤ d → n ≤ m → m < l.length → (ms m).2 ≤ (ms m).1
  | 0, m, hd, _, hl => by omega
  | d + 1, m, hd, hn, hl => by
    obtain ⟨a1, a2, a3, a4⟩ := h m hn hl
    have := climb_high (m + 1) (fun k hk hkl => ⟨(h k (by omega) hkl).1, measured_high h d k (by omega) (by omega) hkl⟩) _ _ _ _ _ (m + 1) (by omega) a4 (by omega) (by omega)
    omega
theorem measured_le {l : List Nd} {ms : Nat → Meas} {n : Nat} (h : Measured l ms n) (m : Nat) (hn : n ≤ m) (hl : m < l.length) : (ms m).2 ≤ (ms m).1 := measured_high h _ m (Nat.le_refl _) hn hl
/-- Nodes stand in preorder. -/
def Pre (l : List Nd) : Prop := ∃ ms, Measured l ms 0
noncomputable def preB (l : List Nd) : Bool := by classical exact decide (Pre l)
theorem preB_true {l : List Nd} : preB l = true ↔ Pre l := by unfold preB; simp
theorem preB_false {l : List Nd} : preB l = false ↔ ¬ Pre l := by unfold preB; simp
/-- Bodies one behind the other, none too high; where the last one ends. -/
def bodies (len : Nat) (ms : Nat → Meas) : List Rl → Int → Option Int
  | [], next => some next
  | r :: l, next => if r.body = next ∧ next < len ∧ (ms next.toNat).2 ≤ 16 then bodies len ms l (next + (ms next.toNat).1) else none
/-- Each rule has a name, of its own. -/
def Named (l : List Rl) : Prop := ∀ i, i < l.length → nameOk (l.getD i Rl.zero).name.data.toList = true ∧ ruleAt l (l.getD i Rl.zero).name = i
def AllRight (l : List Nd) (r : Int) : Prop := ∀ i, i < l.length → nodeOk (l.getD i Nd.zero) r = true
structure Right (g : Gr) : Prop where
  rules : 1 ≤ g.rules.length ∧ g.rules.length ≤ 32
  nodes : g.nodes.length ≤ 2048
  named : Named g.rules
  all : AllRight g.nodes g.rules.length
  pre : ∃ ms, Measured g.nodes ms 0 ∧ bodies g.nodes.length ms g.rules 0 = some g.nodes.length
noncomputable def rightB (g : Gr) : Bool := by classical exact decide (Right g)
theorem rightB_true {g : Gr} : rightB g = true ↔ Right g := by unfold rightB; simp
theorem rightB_false {g : Gr} : rightB g = false ↔ ¬ Right g := by unfold rightB; simp
theorem bodies_congr {len : Nat} {ms ms' : Nat → Meas} (h1 : ∀ m, m < len → 1 ≤ (ms m).1) (h : ∀ m, m < len → ms m = ms' m) : ∀ (l : List Rl) (next : Int), 0 ≤ next → bodies len ms l next = bodies len ms' l next
  | [], _, _ => rfl
  | r :: l, next, hn => by
    unfold bodies
    by_cases hl : next < len
    · rw [h next.toNat (by omega)]
      have := h1 next.toNat (by omega)
      rw [h next.toNat (by omega)] at this
      split
      · exact bodies_congr h1 h l _ (by omega)
      · rfl
    · rw [if_neg (fun h => hl h.2.1), if_neg (fun h => hl h.2.1)]
theorem measured_eq {l : List Nd} {ms ms' : Nat → Meas} (h : Measured l ms 0) (h' : Measured l ms' 0) : ∀ m, m < l.length → ms m = ms' m := fun m hm => measured_unique h h' _ m (Nat.le_refl _) (by omega) (by omega) hm
theorem Right.bodies {g : Gr} (h : Right g) {ms : Nat → Meas} (hm : Measured g.nodes ms 0) : bodies g.nodes.length ms g.rules 0 = some g.nodes.length := by
  obtain ⟨ms', h1, h2⟩ := h.pre
  rw [← h2]
  exact bodies_congr (fun m hl => (hm m (by omega) hl).1) (measured_eq hm h1) _ 0 (by omega)
end Go.Proofs.Ytjelgmdjmjnnfaa
namespace Go.Proofs.Ytjelgmdjmjnnfaa
/-- Bodies gone through from 'next' on; where the last one ends. -/
def march (l : List Nd) : List Rl → Int → Option Int
  | [], next => some next
  | r :: rs, next => if r.body = next then match after l 16 next with
    | some (to, _) => march l rs to
    | none => none
    else none
theorem march_bodies {l : List Nd} {ms : Nat → Meas} (h : Measured l ms 0) : ∀ (rs : List Rl) (next : Int), 0 ≤ next → march l rs next = bodies l.length ms rs next
  | [], _, _ => rfl
  | r :: rs, next, hn => by
    unfold march bodies
    by_cases hb : r.body = next
    · rw [if_pos hb]
      by_cases hl : next < l.length
      · have e : ((next.toNat : Nat) : Int) = next := by omega
        have := after_measured h 16 next.toNat (by omega)
        rw [e] at this
        have hm := h next.toNat (by omega) (by omega)
        by_cases h16 : (ms next.toNat).2 ≤ 16
        · rw [if_pos (by omega)] at this
          rw [this, if_pos ⟨hb, hl, h16⟩]
          exact march_bodies h rs _ (by omega)
        · rw [if_neg (by omega)] at this
          rw [this, if_neg (fun hh => h16 hh.2.2)]
      · have : after l 16 next = none := by rw [show (16 : Nat) = 15 + 1 from rfl, after, if_neg hl]
        rw [this, if_neg (fun hh => hl hh.2.1)]
    · rw [if_neg hb, if_neg (fun hh => hb hh.1)]
theorem march_cover {l : List Nd} : ∀ (rs : List Rl) (next to : Int), 0 ≤ next → march l rs next = some to → next ≤ to ∧ ∀ m : Nat, next ≤ m → (m : Int) < to → ∃ r, after l 16 m = some r
  | [], next, to, _, h => by simp [march] at h; subst h; exact ⟨by omega, fun m h1 h2 => by omega⟩
  | r :: rs, next, to, hn, h => by
    unfold march at h
    split at h
    · split at h
      · rename_i t h1 he
        have e : ((next.toNat : Nat) : Int) = next := by omega
        have he2 := he
        rw [← e] at he2
        obtain ⟨a1, a2, a3, a4, a5⟩ := after_cover 16 _ _ _ he2
        obtain ⟨b1, b2⟩ := march_cover rs t to (by omega) h
        exact ⟨by omega, fun m m1 m2 => by
          by_cases hm : (m : Int) < t
          · exact a5 m (by omega) hm
          · exact b2 m (by omega) m2⟩
      · cases h
    · cases h
theorem march_right {l : List Nd} {rs : List Rl} : march l rs 0 = some (l.length : Int) ↔ ∃ ms, Measured l ms 0 ∧ bodies l.length ms rs 0 = some (l.length : Int) := by
  constructor
  · intro h
    obtain ⟨_, hc⟩ := march_cover rs 0 _ (by omega) h
    obtain ⟨ms, hm⟩ := measured_of_after 16 (l := l) (fun m hl => hc m (by omega) (by omega))
    exact ⟨ms, hm, by rw [← march_bodies hm rs 0 (by omega)]; exact h⟩
  · rintro ⟨ms, hm, hb⟩
    rw [march_bodies hm rs 0 (by omega)]
    exact hb
theorem rightB_march {g : Gr} : rightB g = true ↔ (1 ≤ g.rules.length ∧ g.rules.length ≤ 32) ∧ g.nodes.length ≤ 2048 ∧ AllRight g.nodes g.rules.length ∧ Named g.rules ∧ march g.nodes g.rules 0 = some (g.nodes.length : Int) := by
  rw [rightB_true, march_right]
  exact ⟨fun h => ⟨h.rules, h.nodes, h.all, h.named, h.pre⟩, fun ⟨a, b, c, d, e⟩ => ⟨a, b, d, c, e⟩⟩
theorem march_ne {l : List Nd} {rs : List Rl} {i : Nat} (hi : i < rs.length) {next : Int} (hn : (rs.getD i Rl.zero).body ≠ next) : march l (rs.drop i) next = none := by
  rw [List.drop_eq_getElem_cons hi]
  have hgd : rs[i] = rs.getD i Rl.zero := by simp [List.getD, List.getElem?_eq_getElem hi]
  rw [hgd, march, if_neg hn]
theorem march_eq {l : List Nd} {rs : List Rl} {i : Nat} (hi : i < rs.length) {next : Int} (hn : (rs.getD i Rl.zero).body = next) : march l (rs.drop i) next = match after l 16 next with
    | some (to, _) => march l (rs.drop (i + 1)) to
    | none => none := by
  rw [List.drop_eq_getElem_cons hi]
  have hgd : rs[i] = rs.getD i Rl.zero := by simp [List.getD, List.getElem?_eq_getElem hi]
  rw [hgd, march, if_pos hn]
end Go.Proofs.Ytjelgmdjmjnnfaa
namespace Go.Proofs.Ytjelgmdjmjnnfaa
/-- By its Kind: what a node may, by its kids and by the rules that are in. -/
def stepMay (x : Nd) (may inn : Int → Bool) : Bool :=
  if x.kind = 1 ∨ x.kind = 8 ∨ x.kind = 10 ∨ x.kind = 11 ∨ x.kind = 12 then true
  else if x.kind = 6 ∨ x.kind = 9 then x.kids.all may
  else if x.kind = 7 then x.kids.any may
  else if x.kind = 5 then inn x.rule else false
def mayF (l : List Nd) (inn : Int → Bool) : Nat → Int → Bool
  | 0, _ => false
  | f + 1, n => stepMay (l.getD n.toNat Nd.zero) (mayF l inn f) inn
def mayN (l : List Nd) (inn : Int → Bool) (n : Int) : Bool := mayF l inn (l.length - n.toNat) n
/-- Kids stand behind. -/
def KidsUp (l : List Nd) : Prop := ∀ n, n < l.length → ∀ k ∈ (l.getD n Nd.zero).kids, (n : Int) < k ∧ k < l.length
theorem climb_kids {len : Nat} {ms : Nat → Meas} (n0 : Nat) (hs : ∀ m : Nat, n0 ≤ m → m < len → 1 ≤ (ms m).1) : ∀ (r : List Int) (next high to hh : Int), (n0 : Int) ≤ next → climb len ms r next high = some (to, hh) → ∀ k ∈ r, next ≤ k ∧ k < len
  | [], next, high, to, hh, _, h => by simp
  | k :: r, next, high, to, hh, hn, h => by
    unfold climb at h
    split at h
    · rename_i hk
      obtain ⟨rfl, hk2⟩ := hk
      have h1 := hs k.toNat (by omega) (by omega)
      have := climb_kids n0 hs r _ _ to hh (by omega) h
      intro j hj
      rcases List.mem_cons.1 hj with rfl | hj
      · omega
      · have := this j hj; omega
    · cases h
theorem Measured.kidsUp {l : List Nd} {ms : Nat → Meas} (h : Measured l ms 0) : KidsUp l := by
  intro n hn k hk
  have := climb_kids (n + 1) (fun m hm hl => (h m (by omega) hl).1) _ _ _ _ _ (by omega) (h n (by omega) hn).2.2.2 k hk
  omega
theorem Right.kidsUp {g : Gr} (h : Right g) : KidsUp g.nodes := by
  obtain ⟨ms, hm, _⟩ := h.pre
  exact hm.kidsUp
theorem all_same {p q : Int → Bool} : ∀ {l : List Int}, (∀ k ∈ l, p k = q k) → l.all p = l.all q
  | [], _ => rfl
  | a :: l, h => by
    simp only [List.all_cons]
    rw [h a (List.mem_cons_self ..), all_same fun k hk => h k (List.mem_cons_of_mem _ hk)]
theorem any_same {p q : Int → Bool} : ∀ {l : List Int}, (∀ k ∈ l, p k = q k) → l.any p = l.any q
  | [], _ => rfl
  | a :: l, h => by
    simp only [List.any_cons]
    rw [h a (List.mem_cons_self ..), any_same fun k hk => h k (List.mem_cons_of_mem _ hk)]
theorem stepMay_congr {x : Nd} {m m' i i' : Int → Bool} (hk : ∀ k ∈ x.kids, m k = m' k) (hi : x.kind = 5 → i x.rule = i' x.rule) : stepMay x m i = stepMay x m' i' := by
  have e1 : x.kids.all m = x.kids.all m' := all_same hk
  have e2 : x.kids.any m = x.kids.any m' := any_same hk
  unfold stepMay
  rw [e1, e2]
  split
  · rfl
  · split
    · rfl
    · split
      · rfl
      · split
        · rename_i h; exact hi h
        · rfl
theorem mayF_fuel {l : List Nd} (hl : KidsUp l) (inn : Int → Bool) : ∀ (f f' : Nat) (n : Int), 0 ≤ n → n < l.length → (l.length : Int) - n ≤ f → (l.length : Int) - n ≤ f' → mayF l inn f n = mayF l inn f' n
  | 0, f', n, h0, h1, h2, _ => by omega
  | f + 1, 0, n, h0, h1, _, h2 => by omega
  | f + 1, f' + 1, n, h0, h1, h2, h3 => by
    unfold mayF
    refine stepMay_congr (fun k hk => ?_) (fun _ => rfl)
    have := hl n.toNat (by omega) k hk
    exact mayF_fuel hl inn f f' k (by omega) (by omega) (by omega) (by omega)
theorem mayN_eq {l : List Nd} (hl : KidsUp l) (inn : Int → Bool) {n : Int} (h0 : 0 ≤ n) (h1 : n < l.length) : mayN l inn n = stepMay (l.getD n.toNat Nd.zero) (mayN l inn) inn := by
  unfold mayN
  obtain ⟨f, ef⟩ : ∃ f, l.length - n.toNat = f + 1 := ⟨l.length - n.toNat - 1, by omega⟩
  rw [ef]
  show stepMay _ _ _ = _
  refine stepMay_congr (fun k hk => ?_) (fun _ => rfl)
  have := hl n.toNat (by omega) k hk
  exact mayF_fuel hl inn _ _ k (by omega) (by omega) (by omega) (by omega)
/-- Whatever answers so, node by node, is it. -/
theorem mayN_unique {l : List Nd} (hl : KidsUp l) (inn m : Int → Bool) {lo : Int} (hlo : 0 ≤ lo) (h : ∀ n : Int, lo ≤ n → n < l.length → m n = stepMay (l.getD n.toNat Nd.zero) m inn) : ∀ (d : Nat) (n : Int), lo ≤ n → n < l.length → (l.length : Int) - n ≤ d → m n = mayN l inn n
  | 0, n, h0, h1, hd => by omega
  | d + 1, n, h0, h1, hd => by
    rw [h n h0 h1, mayN_eq hl inn (by omega) h1]
    refine stepMay_congr (fun k hk => ?_) (fun _ => rfl)
    have := hl n.toNat (by omega) k hk
    exact mayN_unique hl inn m hlo h d k (by omega) (by omega) (by omega)
theorem stepMay_mono {x : Nd} {m m' i i' : Int → Bool} (hk : ∀ k ∈ x.kids, m k = true → m' k = true) (hi : i x.rule = true → i' x.rule = true) (h : stepMay x m i = true) : stepMay x m' i' = true := by
  unfold stepMay at h ⊢
  split
  · rfl
  · rename_i h1
    rw [if_neg h1] at h
    split
    · rename_i h2
      rw [if_pos h2] at h
      simp only [List.all_eq_true] at h ⊢
      exact fun k hx => hk k hx (h k hx)
    · rename_i h2
      rw [if_neg h2] at h
      split
      · rename_i h3
        rw [if_pos h3] at h
        simp only [List.any_eq_true] at h ⊢
        obtain ⟨k, hx, hm⟩ := h
        exact ⟨k, hx, hk k hx hm⟩
      · rename_i h3
        rw [if_neg h3] at h
        split
        · rename_i h4
          rw [if_pos h4] at h
          exact hi h
        · rename_i h4
          rw [if_neg h4] at h
          exact h
theorem mayF_mono {l : List Nd} {i i' : Int → Bool} (hi : ∀ k, i k = true → i' k = true) : ∀ (f : Nat) (n : Int), mayF l i f n = true → mayF l i' f n = true
  | 0, n, h => h
  | f + 1, n, h => stepMay_mono (fun k _ hk => mayF_mono hi f k hk) (hi _) h
theorem mayN_mono {l : List Nd} {i i' : Int → Bool} (hi : ∀ k, i k = true → i' k = true) {n : Int} (h : mayN l i n = true) : mayN l i' n = true := mayF_mono hi _ n h
/-- The rules that are in, by a row of ranks. -/
def inB (r : List Int) (i : Int) : Bool := decide (0 < r.getD i.toNat 0)
/-- Whether a rule comes in next. -/
def comB (g : Gr) (r : List Int) (i : Nat) : Bool := !inB r i && mayN g.nodes (inB r) (g.rules.getD i Rl.zero).body
/-- The ranks behind so many rounds. -/
def rk (g : Gr) : Nat → List Int
  | 0 => List.replicate g.rules.length 0
  | k + 1 => (List.range g.rules.length).map fun i => if comB g (rk g k) i then ((k : Int) + 1) else (rk g k).getD i 0
/-- Who comes in behind so many rounds. -/
def com (g : Gr) (k : Nat) : List Nat := (List.range g.rules.length).filter (comB g (rk g k))
/-- All ranks. -/
def ranks (g : Gr) : List Int := rk g g.rules.length
theorem rk_length (g : Gr) : ∀ k, (rk g k).length = g.rules.length
  | 0 => by simp [rk]
  | k + 1 => by simp [rk]
theorem rk_next (g : Gr) (k i : Nat) (hi : i < g.rules.length) : (rk g (k + 1)).getD i 0 = if comB g (rk g k) i then ((k : Int) + 1) else (rk g k).getD i 0 := by
  simp [rk, List.getD, hi]
theorem rk_zero (g : Gr) (i : Nat) : (rk g 0).getD i 0 = 0 := by
  simp only [rk, List.getD, List.getElem?_replicate]
  split <;> rfl
theorem rk_bound (g : Gr) : ∀ (k i : Nat), 0 ≤ (rk g k).getD i 0 ∧ (rk g k).getD i 0 ≤ k
  | 0, i => by rw [rk_zero]; omega
  | k + 1, i => by
    by_cases hi : i < g.rules.length
    · rw [rk_next g k i hi]
      have := rk_bound g k i
      split <;> omega
    · have : (rk g (k + 1)).getD i 0 = 0 := by simp [List.getD, List.getElem?_eq_none (show (rk g (k + 1)).length ≤ i by rw [rk_length]; omega)]
      rw [this]; omega
theorem rk_keeps (g : Gr) (k i : Nat) (h : 0 < (rk g k).getD i 0) : (rk g (k + 1)).getD i 0 = (rk g k).getD i 0 := by
  have hi : i < g.rules.length := by
    apply Classical.byContradiction
    intro hn
    rw [show (rk g k).getD i 0 = 0 by simp [List.getD, List.getElem?_eq_none (show (rk g k).length ≤ i by rw [rk_length]; omega)]] at h
    omega
  rw [rk_next g k i hi, if_neg]
  have e : inB (rk g k) i = true := by unfold inB; simpa using h
  unfold comB
  rw [e]
  simp
theorem rk_keep (g : Gr) (k i : Nat) (h : 0 < (rk g k).getD i 0) : ∀ d, (rk g (k + d)).getD i 0 = (rk g k).getD i 0
  | 0 => rfl
  | d + 1 => by
    have := rk_keep g k i h d
    rw [← Nat.add_assoc, rk_keeps g (k + d) i (by omega), this]
/-- A rank, once told, tells the round. -/
theorem rk_when (g : Gr) (i : Nat) : ∀ (d k : Nat), (rk g (k + d)).getD i 0 ≤ k → (rk g (k + d)).getD i 0 = (rk g k).getD i 0
  | 0, k, _ => rfl
  | d + 1, k, h => by
    rw [← Nat.add_assoc] at h ⊢
    by_cases hi : i < g.rules.length
    · rw [rk_next g (k + d) i hi] at h ⊢
      split at h
      · omega
      · rename_i hc
        rw [if_neg hc]
        exact rk_when g i d k h
    · have e : ∀ j, (rk g j).getD i 0 = 0 := fun j => by simp [List.getD, List.getElem?_eq_none (show (rk g j).length ≤ i by rw [rk_length]; omega)]
      rw [e, e]
theorem rk_below (g : Gr) (i d k : Nat) : (rk g k).getD i 0 = if (rk g (k + d)).getD i 0 ≤ k then (rk g (k + d)).getD i 0 else 0 := by
  split
  · rename_i h; exact (rk_when g i d k h).symm
  · rename_i h
    have h0 := (rk_bound g k i)
    apply Classical.byContradiction
    intro hn
    have := rk_keep g k i (by omega) d
    omega
/-- Once none comes in, none ever does. -/
theorem rk_stay (g : Gr) (k : Nat) (h : com g k = []) : ∀ d, rk g (k + d) = rk g k
  | 0 => rfl
  | d + 1 => by
    have e := rk_stay g k h d
    rw [← Nat.add_assoc]
    have hc : ∀ i, i < g.rules.length → comB g (rk g k) i = false := fun i hi => by
      unfold com at h
      rw [List.filter_eq_nil_iff] at h
      simpa using h i (List.mem_range.2 hi)
    apply List.ext_getElem?
    intro i
    by_cases hi : i < g.rules.length
    · have := rk_next g (k + d) i hi
      rw [e, hc i hi] at this
      simp only [Bool.false_eq_true, if_false] at this
      rw [List.getElem?_eq_getElem (by rw [rk_length]; exact hi), List.getElem?_eq_getElem (by rw [rk_length]; exact hi)]
      simp only [List.getD, List.getElem?_eq_getElem (show i < (rk g (k + d + 1)).length by rw [rk_length]; exact hi), List.getElem?_eq_getElem (show i < (rk g k).length by rw [rk_length]; exact hi), Option.getD_some] at this
      rw [this]
    · rw [List.getElem?_eq_none (by rw [rk_length]; omega), List.getElem?_eq_none (by rw [rk_length]; omega)]
def inCount (g : Gr) (k : Nat) : Nat := ((List.range g.rules.length).filter fun i => decide (0 < (rk g k).getD i 0)).length
theorem filter_more {p q : Nat → Bool} : ∀ (l : List Nat), (∀ i ∈ l, p i = true → q i = true) → (l.filter p).length ≤ (l.filter q).length ∧ ((∃ i ∈ l, p i = false ∧ q i = true) → (l.filter p).length < (l.filter q).length)
  | [], _ => by simp
  | a :: l, h => by
    obtain ⟨h1, h2⟩ := filter_more l (fun i hi => h i (List.mem_cons_of_mem _ hi))
    have ha := h a (List.mem_cons_self ..)
    simp only [List.filter_cons]
    cases hp : p a <;> cases hq : q a
    · simp only [Bool.false_eq_true, if_false]
      refine ⟨h1, fun ⟨i, hi, hpi⟩ => h2 ⟨i, ?_, hpi⟩⟩
      rcases List.mem_cons.1 hi with rfl | hi
      · rw [hq] at hpi; cases hpi.2
      · exact hi
    · simp only [Bool.false_eq_true, if_false, if_true, List.length_cons]
      exact ⟨by omega, fun _ => by omega⟩
    · rw [ha hp] at hq; cases hq
    · simp only [if_true, List.length_cons]
      refine ⟨by omega, fun ⟨i, hi, hpi⟩ => ?_⟩
      rcases List.mem_cons.1 hi with rfl | hi
      · rw [hp] at hpi; cases hpi.1
      · have := h2 ⟨i, hi, hpi⟩; omega
theorem inCount_up (g : Gr) (k : Nat) (h : com g k ≠ []) : inCount g k < inCount g (k + 1) := by
  refine (filter_more _ ?_).2 ?_
  · intro i _ hp
    simp only [decide_eq_true_eq] at hp ⊢
    rw [rk_keeps g k i hp]; exact hp
  · obtain ⟨i, hi⟩ := List.exists_mem_of_ne_nil _ h
    obtain ⟨hi, hc⟩ := List.mem_filter.1 hi
    refine ⟨i, hi, ?_, ?_⟩
    · unfold comB inB at hc
      simp only [Bool.and_eq_true, Bool.not_eq_true', Int.toNat_natCast] at hc
      exact hc.1
    · rw [rk_next g k i (List.mem_range.1 hi), if_pos hc]
      simp; try omega
theorem least {P : Nat → Prop} : ∀ n, P n → ∃ m, P m ∧ ∀ k, k < m → ¬ P k := by
  intro n
  induction n using Nat.strongRecOn with
  | ind n ih =>
    intro hn
    by_cases h : ∃ k, k < n ∧ P k
    · obtain ⟨k, hk, hp⟩ := h
      exact ih k hk hp
    · exact ⟨n, hn, fun k hk hp => h ⟨k, hk, hp⟩⟩
/-- There are no more rounds than rules. -/
theorem rounds_end (g : Gr) : ∃ N, N ≤ g.rules.length ∧ com g N = [] ∧ ∀ k, k < N → com g k ≠ [] := by
  have h : ∃ N, com g N = [] := by
    apply Classical.byContradiction
    intro hn
    have hc : ∀ k, k ≤ inCount g k := fun k => by
      induction k with
      | zero => omega
      | succ k ih => have := inCount_up g k (fun e => hn ⟨k, e⟩); omega
    have h1 := hc (g.rules.length + 1)
    have h2 : inCount g (g.rules.length + 1) ≤ g.rules.length := by
      unfold inCount
      exact Nat.le_trans (List.length_filter_le ..) (by simp)
    omega
  obtain ⟨N0, h0⟩ := h
  obtain ⟨N, hN, hm⟩ := least (P := fun n => com g n = []) N0 h0
  refine ⟨N, ?_, hN, hm⟩
  have hc : ∀ k, k ≤ N → k ≤ inCount g k := fun k => by
    induction k with
    | zero => omega
    | succ k ih => intro hk; have := inCount_up g k (hm k (by omega)); have := ih (by omega); omega
  have h1 := hc N (Nat.le_refl _)
  have h2 : inCount g N ≤ g.rules.length := by
    unfold inCount
    exact Nat.le_trans (List.length_filter_le ..) (by simp)
  omega
theorem ranks_fix (g : Gr) {N : Nat} (h1 : N ≤ g.rules.length) (h2 : com g N = []) : ranks g = rk g N := by
  unfold ranks
  obtain ⟨d, hd⟩ : ∃ d, g.rules.length = N + d := ⟨g.rules.length - N, by omega⟩
  rw [hd]
  exact rk_stay g N h2 d
end Go.Proofs.Ytjelgmdjmjnnfaa
namespace Go.Proofs.Ytjelgmdjmjnnfaa
open Go Go.RowKit Go.Shelf
attribute [local go_sem] Oper.semAt_some
theorem Try.info86 : (Try.prog.info? 86).map (fun i => (i.zero, i.size, i.bytes)) = some (some (.agg #[.int .i64 0, .int .i64 0]), 2, 16) := by kernel_rfl
/-- What lies while nodes are measured, from the last one on down to j. -/
structure PSt (w : World) (a : List Nd) (A : Option Addr) (c m t1 t2 t3 t4 g j : Nat) (W : World) : Prop where
  b1 : Blk W t1 #[.slice A m c] 23
  b2 : Blk W t2 #[.slice none 0 0] 62
  b3 : Blk W t3 #[.bool false] 4
  b4 : Blk W t4 #[.slice (some ⟨g, 0, none⟩) m m] 62
  row : ∃ cs ms, Blk W g cs 86 ∧ cs.size = m * 2 ∧ Measured a ms j ∧ ∀ i, j ≤ i → i < m → cs[i * 2]? = some (.int .i64 (ms i).1) ∧ cs[i * 2 + 1]? = some (.int .i64 (ms i).2)
  low : Below w.heap.size w W
theorem PSt.keep {w W W' : World} {a : List Nd} {A : Option Addr} {c m t1 t2 t3 t4 g j B : Nat} (h : PSt w a A c m t1 t2 t3 t4 g j W) (hb : Below B W W') (hB : t1 < B ∧ t2 < B ∧ t3 < B ∧ t4 < B ∧ g < B ∧ w.heap.size ≤ B) : PSt w a A c m t1 t2 t3 t4 g j W' := by
  obtain ⟨cs, ms, h1, h2, h3, h4⟩ := h.row
  exact ⟨h.b1.below hb hB.1, h.b2.below hb hB.2.1, h.b3.below hb hB.2.2.1, h.b4.below hb hB.2.2.2.1, ⟨cs, ms, h1.below hb hB.2.2.2.2.1, h2, h3, h4⟩, h.low.trans (hb.mono hB.2.2.2.2.2)⟩
/-- Measures in memory. -/
def MeasAt (W : World) (v : Value) (m : Nat) (ms : Nat → Meas) : Prop := ∃ g, v = .slice (some ⟨g, 0, none⟩) m m ∧ g < W.heap.size ∧ ∀ i, i < m → W.cell? ⟨g, i * 2, none⟩ = some (.int .i64 (ms i).1) ∧ W.cell? ⟨g, i * 2 + 1, none⟩ = some (.int .i64 (ms i).2)
theorem MeasAt.below {W W' : World} {v : Value} {m : Nat} {ms : Nat → Meas} (h : MeasAt W v m ms) (hb : Below W.heap.size W W') : MeasAt W' v m ms := by
  obtain ⟨g, e, hg, hc⟩ := h
  exact ⟨g, e, Nat.lt_of_lt_of_le hg hb.size, fun i hi => ⟨(hb.cell (p := ⟨g, i * 2, none⟩) hg).trans (hc i hi).1, (hb.cell (p := ⟨g, i * 2 + 1, none⟩) hg).trans (hc i hi).2⟩⟩
def PreEnd (w : World) (a : List Nd) (e : Ending) (w' : World) : Prop :=
  ∃ v, e = .returned (.tuple #[v, .bool (preB a)]) ∧ Below w.heap.size w w' ∧ (preB a = true → ∃ ms, Measured a ms 0 ∧ MeasAt w' v a.length ms) ∧ (preB a = false → v = .slice none 0 0)
theorem results_two {tmps : Array Value} {w : World} {b d : Nat} {v u : Value} (hp : tmps.getD 2 undef = .pointer (some ⟨b, 0, none⟩)) (hq : tmps.getD 3 undef = .pointer (some ⟨d, 0, none⟩))
    (c1 : w.cell? ⟨b, 0, none⟩ = some v) (c2 : w.cell? ⟨d, 0, none⟩ = some u) : (results Try.f56 tmps).run Try.prog w = .ok (.tuple #[v, u]) w := by
  have hp' : tmps[2]?.getD undef = .pointer (some ⟨b, 0, none⟩) := by simpa using hp
  have hq' : tmps[3]?.getD undef = .pointer (some ⟨d, 0, none⟩) := by simpa using hq
  have a64 := Try.isAgg62
  have a4 := Try.isAgg4
  simp [results, Try.results56, hp', hq', go_sem, c1, c2]
set_option maxRecDepth 100000 in
set_option maxHeartbeats 8000000 in
theorem pre_any (A : Option Addr) (c : Nat) (a : List Nd) (ha : a.length ≤ 2048) (w : World) (hA : Nodes w A a) (hk : ∀ x ∈ a, Nd.At w x) :
    Calls Try.prog 56 #[.slice A a.length c] w (PreEnd w a) := by
  obtain ⟨i0, hi, hz0, hz1, hz2⟩ := info_parts Try.info86
  have HA := Lib.hid hA
  have HK := Lib.hid hk
  obtain ⟨m, em⟩ : ∃ m, m = a.length := ⟨_, rfl⟩
  rw [← em] at ha ⊢
  have EM := Lib.hid em
  clear hA hk em
  obtain ⟨W3, eW3⟩ : ∃ u, u = ((w.alloc (.cells #[.slice A m c] 23)).alloc (.cells #[.slice none 0 0] 62)).alloc (.cells #[.bool false] 4) := ⟨_, rfl⟩
  have hs3 : W3.heap.size = w.heap.size + 3 := by rw [eW3]; simp
  have b3 : Below w.heap.size w W3 := by rw [eW3]; exact (B2 _ _ _).alloc (by simp; omega) _
  have k1 : Blk W3 w.heap.size #[.slice A m c] 23 := by rw [eW3]; exact ((Blk.new w _ _).alloc _).alloc _
  have k2 : Blk W3 (w.heap.size + 1) #[.slice none 0 0] 62 := by
    rw [eW3]; have := (Blk.new (w.alloc (.cells #[.slice A m c] 23)) #[.slice none 0 0] 62).alloc (.cells #[.bool false] 4); rw [World.size_alloc] at this; exact this
  have k3 : Blk W3 (w.heap.size + 1 + 1) #[.bool false] 4 := by
    rw [eW3]; have := (Blk.new ((w.alloc (.cells #[.slice A m c] 23)).alloc (.cells #[.slice none 0 0] 62)) #[.bool false] 4); rw [World.size_alloc, World.size_alloc] at this; exact this
  have P3 := Lib.hid (And.intro hs3 (And.intro b3 (And.intro k1 (And.intro k2 k3))))
  have E3 := Lib.hid eW3
  clear eW3 hs3 b3 k1 k2 k3
  refine (callsIn_wide (n := 12)).1 ?_
  refine callsIn_of_wp_marks Try.func56 rfl trivial ?_ rfl
  simp only [Try.ntmps56, List.size_toArray, List.length_cons, List.length_nil, Nat.reduceAdd, Nat.reduceSub, Array.replicate_succ, Array.replicate_zero, List.push_toArray, List.append_toArray, List.nil_append, List.cons_append]
  refine wpIn_wide.2 ?_
  go_wp2_with (first | (at_make; refine wpList_make_full _ rfl _ _ 62 rfl w.heap.size 86 i0 (.agg #[.int .i64 0, .int .i64 0]) 2 Try.underlying62 hi hz0 hz1 .i64 .i64 _ _ m rfl rfl rfl rfl (by rw [hz2]; omega) (by unfold maxLen; omega) (by simp; omega) ?_; intro w0 hown0 hgrow0; rw [← E3.out] at hgrow0; have hb0 := (Below.refl W3.heap.size W3).grown hgrow0 (Nat.le_refl _) (fun k hk => by cases hk); have K1 := fun o => ((P3.out.2.2.1.below' hb0).alloc o).cell 0; simp only [List.getElem?_toArray, List.getElem?_cons_zero] at K1; have H0 := Lib.hid hb0; have O0 := Lib.hid hown0; clear hgrow0 hown0 hb0) | (go_at_call 72; refine (back_node_any _ _ _ _).mono ?_; rintro e w8 ⟨rfl, rfl⟩))
  clear K1
  obtain ⟨g, eg⟩ : ∃ g, g = w.heap.size + 1 + 1 + 1 := ⟨_, rfl⟩
  obtain ⟨t1, et1⟩ : ∃ g, g = w.heap.size := ⟨_, rfl⟩
  obtain ⟨t2, et2⟩ : ∃ g, g = w.heap.size + 1 := ⟨_, rfl⟩
  obtain ⟨t3, et3⟩ : ∃ g, g = w.heap.size + 1 + 1 := ⟨_, rfl⟩
  obtain ⟨t4, et4⟩ : ∃ g, g = w0.heap.size := ⟨_, rfl⟩
  have ep : (w0.alloc (.cells #[.slice (some ⟨g, 0, none⟩) m m] 62)).heap.size = t4 + 1 := by rw [et4]; simp
  obtain ⟨wl, ewl⟩ : ∃ u, u = (w0.alloc (.cells #[.slice (some ⟨g, 0, none⟩) m m] 62)).alloc (.cells #[.slice A m c] 23) := ⟨_, rfl⟩
  have hbl : Below w0.heap.size w0 wl := by rw [ewl]; exact B2 _ _ _
  have hg0 : g < w0.heap.size ∧ ∃ cs, Blk w0 g cs 86 ∧ cs.size = m * 2 := by
    rcases O0.out.2 with ⟨hn, _⟩ | ⟨g', cap', cur, hv, hbg, hgh, hnc, hcm, hcs, htake⟩
    · cases hn
    · simp only [Value.slice.injEq, Option.some.injEq, Addr.mk.injEq, and_true, true_and] at hv
      obtain ⟨hv1, hv2⟩ := hv
      simp only [World.size_alloc] at hv1
      rw [← eg] at hv1
      subst hv1 hv2
      exact ⟨(Array.getElem?_eq_some_iff.1 hgh).1, cur, hgh, hcs⟩
  have hz0' : w.heap.size + 3 ≤ w0.heap.size := by have := H0.out.size; have := P3.out.1; omega
  have F0 : RowKit.Hid (PSt w a A c m t1 t2 t3 t4 g m wl) := Lib.hid (by
    obtain ⟨q1, q2, q3, q4, q5⟩ := P3.out
    obtain ⟨cs, hcs1, hcs2⟩ := hg0.2
    have hb3 : Below W3.heap.size W3 wl := H0.out.trans (hbl.mono H0.out.size)
    refine ⟨by rw [et1]; exact q3.below' hb3, by rw [et2]; exact q4.below' hb3, by rw [et3]; exact q5.below' hb3, by rw [ewl, et4]; exact (Blk.new w0 _ _).alloc _, ⟨cs, fun _ => (0, 0), hcs1.below' hbl, hcs2, fun i h1 h2 => by have := EM.out; omega, fun i h1 h2 => by omega⟩, q2.trans (hb3.mono (by omega))⟩)
  have BP : RowKit.Hid (Blk wl (t4 + 1) #[.slice A m c] 23) := Lib.hid (by rw [ewl, ← ep]; exact Blk.new _ _ _)
  have NE : RowKit.Hid (t1 = w.heap.size ∧ t2 = w.heap.size + 1 ∧ t3 = w.heap.size + 2 ∧ g = w.heap.size + 3 ∧ g < t4 ∧ wl.heap.size = t4 + 2 ∧ w.heap.size + 3 ≤ t4) := Lib.hid ⟨by omega, by omega, by omega, by omega, by omega, by rw [ewl, et4]; simp, by omega⟩
  have AN : RowKit.Hid (∀ b o, A = some ⟨b, o, none⟩ → 0 < a.length → b < w.heap.size) := Lib.hid (fun b o e h0 => by
    obtain ⟨b', o', e', hb', _⟩ := HA.out h0
    rw [e] at e'
    cases e'
    exact hb')
  rw [← eg, ← ewl, ← et3, ← et2, ← et1, ← et4]
  clear eg et1 et2 et3 et4 ep ewl hbl hg0 hz0' P3 E3 H0 O0
  refine (wpIn_wide (n := 12)).1 ?_
  refine wpIn_rangeFunc_x (n := 12) (by omega) (gf := 93) (lb := #[.pointer (some ⟨t4 + 1, 0, none⟩)]) rfl (enters_of Try.func93 (by kernel_rfl) rfl)
    (G := fun k => k < wl.heap.size ∧ k ≠ g) (by have := back_node_seq 11 (by omega) (t4 + 1) A c a (by have := EM.out; omega) (fun k => k < wl.heap.size ∧ k ≠ g) ⟨by have := NE.out; omega, by have := NE.out; omega⟩ (fun b o e h0 => ⟨by have := AN.out b o e h0; have := NE.out; omega, by have := AN.out b o e h0; have := NE.out; omega⟩) wl (by rw [← EM.out]; exact BP.out) (HA.out.below (F0.out.low)); rw [← EM.out] at this; exact this)
    (Below.refl _ _) (fun _ => rfl) (fun k h => h.1)
    (fun k W => PSt w a A c m t1 t2 t3 t4 g (m - k) W) (fun cd _ W => cd = .ret ∧ Blk W t2 #[.slice none 0 0] 62 ∧ Blk W t3 #[.bool false] 4 ∧ Below w.heap.size w W ∧ preB a = false)
    ?low ?lowx (by simpa using F0.out)
    (fun k b => { tmps := #[.slice A m c, .pointer (some ⟨t1, 0, none⟩), .pointer (some ⟨t2, 0, none⟩), .pointer (some ⟨t3, 0, none⟩), .pointer (some ⟨t4, 0, none⟩), .int .i64 ((m - 1 - k : Nat) : Int), .pointer (some ⟨b, 0, none⟩), undef, undef, undef, undef, .slice A m c, .int .i64 m, .slice (some ⟨g, 0, none⟩) m m, .slice A m c, .func (.func 93) #[] #[.pointer (some ⟨t4 + 1, 0, none⟩)], .int .i64 ((m - 1 - k : Nat) : Int), (a.getD (m - 1 - k) Nd.zero).val, undef, undef, undef, undef, undef, undef, undef, undef, undef, undef, undef, undef, undef, undef, undef, undef, undef, undef, undef, undef, undef, undef, undef, undef, undef, undef, undef, undef, undef, undef, undef, undef, undef, undef, undef, undef, undef, undef, undef, undef, undef, undef, undef], defers := [] }) (fun k => .cells #[.int .i64 (a.getD (m - 1 - k) Nd.zero).kind, .int .u64 (a.getD (m - 1 - k) Nd.zero).c0, .int .u64 (a.getD (m - 1 - k) Nd.zero).c1, .int .u64 (a.getD (m - 1 - k) Nd.zero).c2, .int .u64 (a.getD (m - 1 - k) Nd.zero).c3, .string (a.getD (m - 1 - k) Nd.zero).text, .int .i64 (a.getD (m - 1 - k) Nd.zero).rule, .int .i64 (a.getD (m - 1 - k) Nd.zero).level, .slice (a.getD (m - 1 - k) Nd.zero).A (a.getD (m - 1 - k) Nd.zero).kids.length (a.getD (m - 1 - k) Nd.zero).cap] 41) ?assign ?body ?done ?stop
  case low =>
    intro s X X' h hb
    exact h.keep hb ⟨by have := NE.out; omega, by have := NE.out; omega, by have := NE.out; omega, by have := NE.out; omega, by have := NE.out; omega, by have := NE.out; omega⟩
  case lowx =>
    rintro cd s X X' ⟨h1, h2, h3, h4, h5⟩ hb
    exact ⟨h1, h2.below hb (by have := NE.out; omega), h3.below hb (by have := NE.out; omega), h4.trans (hb.mono (by have := NE.out; omega)), h5⟩
  case assign =>
    intro l2 k W K hK
    gi_wp2
    exact hK
  case body =>
    rintro l2 k b W hF hz hob hkm
    have hkm2 : k < m := hkm
    obtain ⟨i, hi⟩ : ∃ i : Nat, i = m - 1 - k := ⟨_, rfl⟩
    rw [← hi] at hob ⊢
    rw [show m - k = i + 1 by omega] at hF
    have hfin : m - (k + 1) = i := by omega
    have HFIN := Lib.hid hfin
    have him : i < m := by omega
    have hx := HK.out (a.getD i Nd.zero) (getD_mem (by have := EM.out; omega))
    have hks : kidsOf a i = (a.getD i Nd.zero).kids := rfl
    generalize a.getD i Nd.zero = x at hob hx hks ⊢
    have HX := Lib.hid (hx.below hF.low)
    have HKS := Lib.hid hks
    obtain ⟨cs, ms, r1, r2, r3, r4⟩ := hF.row
    have hob' : Blk W b #[.int .i64 x.kind, .int .u64 x.c0, .int .u64 x.c1, .int .u64 x.c2, .int .u64 x.c3, .string x.text, .int .i64 x.rule, .int .i64 x.level, .slice x.A x.kids.length x.cap] 41 := hob
    have c8 : W.cell? ⟨b, 8, none⟩ = some (.slice x.A x.kids.length x.cap) := hob'.cell 8
    have c1 : W.cell? ⟨t1, 0, none⟩ = some (.slice A m c) := hF.b1.cell 0
    have c4 : W.cell? ⟨t4, 0, none⟩ = some (.slice (some ⟨g, 0, none⟩) m m) := hF.b4.cell 0
    have hkl : x.kids.length ≤ 140737488351232 := hx.2.2
    have i0' : (0 : Int) ≤ i := by omega
    have i1' : (i : Int) < m := by omega
    have HF := Lib.hid hF
    have R1 := Lib.hid r1
    have R2 := Lib.hid r2
    have R3 := Lib.hid r3
    have R4 := Lib.hid r4
    have HI := Lib.hid hi
    have HZ := Lib.hid hz
    clear hF r1 r2 r3 r4 hx hks hob hob' hi hz hfin hkm
    obtain ⟨F, eF⟩ : ∃ F, F = climb m ms x.kids (i + 1) 0 := ⟨_, rfl⟩
    have HFF := Lib.hid eF
    clear eF
    have HS := Lib.hid (fun (j : Nat) (h1 : i + 1 ≤ j) (h2 : j < m) => And.intro (R3.out j h1 (by rw [← EM.out]; exact h2)) (measured_le R3.out j h1 (by rw [← EM.out]; exact h2)))
    gi_wp2_with fail
    gi_loopw [23, 7, 8, 10] (fun q nx hg _ wr => ∃ (j n h : Nat), j ≤ x.kids.length ∧ q = .int .i64 j ∧ nx = .int .i64 n ∧ hg = .int .i64 h ∧ i + 1 ≤ n ∧ n ≤ m ∧ h + i + 1 ≤ n ∧ climb m ms (x.kids.drop j) n h = F ∧ wr = W) (fun q _ _ _ _ => x.kids.length - (intOf q).toNat)
    case atStart => exact ⟨0, i + 1, 0, by omega, rfl, by go_num, rfl, by omega, by omega, by omega, by rw [HFF.out]; simp, rfl⟩
    case round =>
      obtain ⟨j, n, h, hj, rfl, rfl, rfl, hn1, hn2, hh, hcl, rfl⟩ := hrel
      by_cases hlt : j < x.kids.length
      · have hlt2 : (j : Int) < x.kids.length := by omega
        obtain ⟨bk, ok, ek, _, ck⟩ := lies_cell HX.out.1 hlt
        rw [List.drop_eq_getElem_cons hlt] at hcl
        have hgd : x.kids[j] = x.kids.getD j 0 := by simp [List.getD, List.getElem?_eq_getElem hlt]
        rw [hgd] at hcl
        rw [ek]
        generalize x.kids.getD j 0 = kd at hcl ck
        unfold climb at hcl
        by_cases hkd : kd = n ∧ kd < m
        · rw [if_pos hkd] at hcl
          obtain ⟨rfl, hk2⟩ := hkd
          have hnm : n < m := by omega
          obtain ⟨⟨s1, s2, s3, _⟩, s4⟩ := HS.out n hn1 hnm
          obtain ⟨rc1, rc2⟩ := R4.out n hn1 hnm
          have d1 : wr.cell? ⟨g, n * 2, none⟩ = some (.int .i64 (ms n).1) := by rw [R1.out.cell]; exact rc1
          have d2 : wr.cell? ⟨g, n * 2 + 1, none⟩ = some (.int .i64 (ms n).2) := by rw [R1.out.cell]; exact rc2
          rw [Int.toNat_natCast] at hcl
          rw [← EM.out] at s3
          generalize ms n = mn at s1 s2 s3 s4 d1 d2 hcl
          obtain ⟨sz, ht⟩ := mn
          dsimp only at s1 s2 s3 s4 d1 d2 hcl
          have HCL := Lib.hid hcl
          clear hcl hgd rc1 rc2
          obtain ⟨n', hn'⟩ : ∃ n' : Nat, (n' : Int) = n + sz := ⟨(n + sz).toNat, by omega⟩
          obtain ⟨h', hh'⟩ : ∃ h' : Nat, (h' : Int) = max (h : Int) ht := ⟨(max (h : Int) ht).toNat, by omega⟩
          rw [← hn', ← hh'] at HCL
          have HN' := Lib.hid hn'
          have HH' := Lib.hid hh'
          clear hn' hh'
          gi_wp2_with fail
          go_roundw
          case rel => exact ⟨j + 1, n', h', by omega, by go_num, by have := HN'.out; simp only [Value.int.injEq, true_and]; omega, by have := HH'.out; simp only [Value.int.injEq, true_and]; split <;> omega, by have := HN'.out; omega, by have := HN'.out; omega, by have := HN'.out; have := HH'.out; omega, HCL.out, by first | trivial | rfl⟩
          case measure => simp [intOf]; try omega
        · rw [if_neg hkd] at hcl
          have HBAD : RowKit.Hid (preB a = false) := Lib.hid (by
            refine preB_false.2 fun ⟨ms', h'⟩ => ?_
            refine measured_none (ms := ms) (n := i) (by rw [← EM.out]; exact him) R3.out ?_ h'
            rw [← EM.out, HKS.out, ← HFF.out, ← hcl])
          have c2 : wr.cell? ⟨t2, 0, none⟩ = some (.slice none 0 0) := HF.out.b2.cell 0
          have f2 := HF.out.b2.frozen 0
          have nt : t3 ≠ t2 := by have := NE.out; omega
          have hB3 : Blk (wr.setCell ⟨t2, 0, none⟩ (.slice none 0 0)) t3 #[.bool false] 4 := (heap_setCell_other wr ⟨t2, 0, none⟩ t3 _ nt).trans HF.out.b3
          have c3' : (wr.setCell ⟨t2, 0, none⟩ (.slice none 0 0)).cell? ⟨t3, 0, none⟩ = some (.bool false) := hB3.cell 0
          have f3' := hB3.frozen 0
          have FIN : RowKit.Hid (Left (fun _ => False) wl.heap.size wr ((wr.setCell ⟨t2, 0, none⟩ (.slice none 0 0)).setCell ⟨t3, 0, none⟩ (.bool false)) ∧ Blk ((wr.setCell ⟨t2, 0, none⟩ (.slice none 0 0)).setCell ⟨t3, 0, none⟩ (.bool false)) t2 #[.slice none 0 0] 62 ∧
              Blk ((wr.setCell ⟨t2, 0, none⟩ (.slice none 0 0)).setCell ⟨t3, 0, none⟩ (.bool false)) t3 #[.bool false] 4 ∧ Below w.heap.size w ((wr.setCell ⟨t2, 0, none⟩ (.slice none 0 0)).setCell ⟨t3, 0, none⟩ (.bool false))) := Lib.hid ⟨(Left.setCell _ t2 0 _ (fun h => h) (by have := NE.out; omega)).trans (Left.setCell _ t3 0 _ (fun h => h) (by have := NE.out; omega)),
              (heap_setCell_other _ ⟨t3, 0, none⟩ t2 _ (fun e => nt e.symm)).trans (heap_setCell_same wr t2 0 #[.slice none 0 0] 62 _ HF.out.b2), heap_setCell_same _ t3 0 #[.bool false] 4 _ hB3, (HF.out.low.setCell (p := ⟨t2, 0, none⟩) (show w.heap.size ≤ t2 by have := NE.out; omega) _).setCell (p := ⟨t3, 0, none⟩) (show w.heap.size ≤ t3 by have := NE.out; omega) _⟩
          clear hcl hgd hB3
          by_cases hk1 : kd = n
          · subst hk1
            have hge : (m : Int) ≤ n := by omega
            have hge2 : m ≤ n := by omega
            clear hkd
            gi_wp2_with fail
            exact ⟨FIN.out.1, rfl, FIN.out.2.1, FIN.out.2.2.1, FIN.out.2.2.2, HBAD.out⟩
          · have hb : (kd != (n : Int)) = true := by simpa using hk1
            clear hkd hk1
            gi_wp2_with fail
            exact ⟨FIN.out.1, rfl, FIN.out.2.1, FIN.out.2.2.1, FIN.out.2.2.2, HBAD.out⟩
      · obtain rfl : j = x.kids.length := by omega
        have hlt2 : ¬ (x.kids.length : Int) < x.kids.length := by omega
        rw [List.drop_length, climb] at hcl
        have HM := Lib.hid (measured_step (to := n) (hh := h) (by rw [← EM.out]; exact him) R3.out (by rw [← EM.out, HKS.out, ← HFF.out, ← hcl]))
        have e1 : cs[i * 2]? = some (cs[i * 2]'(by have := R2.out; omega)) := Array.getElem?_eq_getElem _
        have e2 : cs[i * 2 + 1]? = some (cs[i * 2 + 1]'(by have := R2.out; omega)) := Array.getElem?_eq_getElem _
        have d1 : wr.cell? ⟨g, i * 2, none⟩ = some (cs[i * 2]'(by have := R2.out; omega)) := by rw [R1.out.cell]; exact e1
        have d2 : wr.cell? ⟨g, i * 2 + 1, none⟩ = some (cs[i * 2 + 1]'(by have := R2.out; omega)) := by rw [R1.out.cell]; exact e2
        generalize cs[i * 2]'(by have := R2.out; omega) = y1 at d1
        generalize cs[i * 2 + 1]'(by have := R2.out; omega) = y2 at d2
        have fg := R1.out.frozen
        have hwn : IntKind.i64.wrap ((n : Int) - i) = (n : Int) - i := IntWalk.i64_in _ (by omega)
        have FIN : RowKit.Hid (Left (fun k => k < wl.heap.size ∧ k ≠ g) wl.heap.size wr ((wr.setCell ⟨g, i * 2, none⟩ (.int .i64 ((n : Int) - i))).setCell ⟨g, i * 2 + 1, none⟩ (.int .i64 ((h : Int) + 1))) ∧ PSt w a A c m t1 t2 t3 t4 g i ((wr.setCell ⟨g, i * 2, none⟩ (.int .i64 ((n : Int) - i))).setCell ⟨g, i * 2 + 1, none⟩ (.int .i64 ((h : Int) + 1)))) := Lib.hid (by
          have n1 := NE.out
          have hc1 := heap_setCell_same wr g (i * 2) cs 86 (.int .i64 ((n : Int) - i)) R1.out
          have hc2 := heap_setCell_same _ g (i * 2 + 1) _ 86 (.int .i64 ((h : Int) + 1)) hc1
          have ho : ∀ k, k ≠ g → ((wr.setCell ⟨g, i * 2, none⟩ (.int .i64 ((n : Int) - i))).setCell ⟨g, i * 2 + 1, none⟩ (.int .i64 ((h : Int) + 1))).heap[k]? = wr.heap[k]? := fun k hk => (heap_setCell_other _ ⟨g, i * 2 + 1, none⟩ k _ hk).trans (heap_setCell_other wr ⟨g, i * 2, none⟩ k _ hk)
          refine ⟨(Left.setCell _ g (i * 2) _ (fun h => h.2 rfl) (by omega)).trans (Left.setCell _ g (i * 2 + 1) _ (fun h => h.2 rfl) (by omega)), (ho t1 (by omega)).trans HF.out.b1, (ho t2 (by omega)).trans HF.out.b2, (ho t3 (by omega)).trans HF.out.b3, (ho t4 (by omega)).trans HF.out.b4, ⟨_, _, hc2, by simpa using R2.out, HM.out, fun q hq1 hq2 => ?_⟩, (HF.out.low.setCell (p := ⟨g, i * 2, none⟩) (show w.heap.size ≤ g by omega) _).setCell (p := ⟨g, i * 2 + 1, none⟩) (show w.heap.size ≤ g by omega) _⟩
          have r2 := R2.out
          by_cases hq : q = i
          · subst hq
            simp only [if_true]
            exact ⟨by rw [Array.getElem?_setIfInBounds_ne (by omega), Array.getElem?_setIfInBounds_self_of_lt (by omega)], by rw [Array.getElem?_setIfInBounds_self_of_lt (by simp; omega)]⟩
          · simp only [if_neg hq]
            have := R4.out q (by omega) hq2
            exact ⟨by rw [Array.getElem?_setIfInBounds_ne (by omega), Array.getElem?_setIfInBounds_ne (by omega)]; exact this.1, by rw [Array.getElem?_setIfInBounds_ne (by omega), Array.getElem?_setIfInBounds_ne (by omega)]; exact this.2⟩)
        clear hcl e1 e2
        gi_wp2_with fail
        exact ⟨FIN.out.1, by dsimp only; rw [HFIN.out]; exact FIN.out.2⟩
  case done =>
    rintro D W hD hF hK
    rw [Nat.sub_self] at hF
    obtain ⟨cs, ms, r1, r2, r3, r4⟩ := hF.row
    have c4 : W.cell? ⟨t4, 0, none⟩ = some (.slice (some ⟨g, 0, none⟩) m m) := hF.b4.cell 0
    have c2 : W.cell? ⟨t2, 0, none⟩ = some (.slice none 0 0) := hF.b2.cell 0
    have f2 := hF.b2.frozen 0
    have c3 : W.cell? ⟨t3, 0, none⟩ = some (.bool false) := hF.b3.cell 0
    have f3 := hF.b3.frozen 0
    have HN : RowKit.Hid (t2 ≠ t3 ∧ t2 ≠ D ∧ t3 ≠ D ∧ g ≠ D ∧ g ≠ t2 ∧ g ≠ t3 ∧ w.heap.size ≤ t2 ∧ w.heap.size ≤ t3 ∧ w.heap.size ≤ D) := Lib.hid (by have := NE.out; omega)
    have hB2 : Blk (W.setCell ⟨t2, 0, none⟩ (.slice (some ⟨g, 0, none⟩) m m)) t2 #[.slice (some ⟨g, 0, none⟩) m m] 62 := heap_setCell_same W t2 0 #[.slice none 0 0] 62 _ hF.b2
    have hB3 : Blk (W.setCell ⟨t2, 0, none⟩ (.slice (some ⟨g, 0, none⟩) m m)) t3 #[.bool false] 4 := (heap_setCell_other W ⟨t2, 0, none⟩ t3 _ (fun e => HN.out.1 e.symm)).trans hF.b3
    obtain ⟨W2, eW2⟩ : ∃ u, u = (W.setCell ⟨t2, 0, none⟩ (.slice (some ⟨g, 0, none⟩) m m)).setCell ⟨t3, 0, none⟩ (.bool true) := ⟨_, rfl⟩
    have hC2 : Blk W2 t2 #[.slice (some ⟨g, 0, none⟩) m m] 62 := by rw [eW2]; exact (heap_setCell_other _ ⟨t3, 0, none⟩ t2 _ HN.out.1).trans hB2
    have hC3 : Blk W2 t3 #[.bool true] 4 := by rw [eW2]; exact heap_setCell_same _ t3 0 #[.bool false] 4 _ hB3
    have hCG : Blk W2 g cs 86 := by rw [eW2]; exact (heap_setCell_other _ ⟨t3, 0, none⟩ g _ HN.out.2.2.2.2.2.1).trans ((heap_setCell_other W ⟨t2, 0, none⟩ g _ HN.out.2.2.2.2.1).trans r1)
    have hCD : W2.heap[D]? = some (.deferred (some [])) := by rw [eW2]; exact (heap_setCell_other _ ⟨t3, 0, none⟩ D _ (fun e => HN.out.2.2.1 e.symm)).trans ((heap_setCell_other W ⟨t2, 0, none⟩ D _ (fun e => HN.out.2.1 e.symm)).trans hK)
    have hCL : Below w.heap.size w W2 := by rw [eW2]; exact (hF.low.setCell (p := ⟨t2, 0, none⟩) HN.out.2.2.2.2.2.2.1 _).setCell (p := ⟨t3, 0, none⟩) HN.out.2.2.2.2.2.2.2.1 _
    have HC := Lib.hid (And.intro hC2 (And.intro hC3 (And.intro hCG (And.intro hCD hCL))))
    have R2 := Lib.hid r2
    have R3 := Lib.hid r3
    have R4 := Lib.hid r4
    have EW := Lib.hid eW2
    have c3' : (W.setCell ⟨t2, 0, none⟩ (.slice (some ⟨g, 0, none⟩) m m)).cell? ⟨t3, 0, none⟩ = some (.bool false) := hB3.cell 0
    have f3' := hB3.frozen 0
    clear c3 f3 hF r1 r2 r3 r4 hB2 hB3 eW2 hC2 hC3 hCG hCD hCL hK
    go_wp2_with fail
    rw [← EW.out]
    obtain ⟨q2, q3, qg, qd, ql⟩ := HC.out
    have n1 := HN.out
    refine ⟨by simp, .inl ⟨_, _, rfl, run_takeDeferred qd, ?_⟩⟩
    have keep : ∀ k, k ≠ D → (W2.putObj D (.deferred none)).heap[k]? = W2.heap[k]? := fun k hk => World.putObj_heap_other hk
    have z2 : Blk (W2.putObj D (.deferred none)) t2 #[.slice (some ⟨g, 0, none⟩) m m] 62 := (keep t2 n1.2.1).trans q2
    have z3 : Blk (W2.putObj D (.deferred none)) t3 #[.bool true] 4 := (keep t3 n1.2.2.1).trans q3
    have zg : Blk (W2.putObj D (.deferred none)) g cs 86 := (keep g n1.2.2.2.1).trans qg
    have hpre : preB a = true := preB_true.2 ⟨ms, R3.out⟩
    refine ⟨_, results_two rfl rfl (z2.cell 0) (z3.cell 0), _, by rw [hpre]; rfl, ql.trans (below_putObj _ D _ _ n1.2.2.2.2.2.2.2.2), fun _ => ⟨ms, R3.out, g, by rw [← EM.out]; rfl, zg.lt, fun i hi => ?_⟩, fun h => by rw [hpre] at h; cases h⟩
    rw [zg.cell, zg.cell]
    exact R4.out i (by omega) (by rw [EM.out]; exact hi)
  case stop =>
    rintro D cd k W hD hk ⟨rfl, h2, h3, h4, h5⟩ hK
    have HN : RowKit.Hid (t2 ≠ D ∧ t3 ≠ D ∧ w.heap.size ≤ D) := Lib.hid (by have := NE.out; omega)
    have HC := Lib.hid (And.intro h2 (And.intro h3 (And.intro h4 h5)))
    have HD := Lib.hid hK
    clear h2 h3 h4 h5 hK
    gi_wp2
    obtain ⟨q2, q3, q4, q5⟩ := HC.out
    have n1 := HN.out
    refine ⟨by simp, .inl ⟨_, _, rfl, run_takeDeferred HD.out, ?_⟩⟩
    have keep : ∀ k, k ≠ D → (W.putObj D (.deferred none)).heap[k]? = W.heap[k]? := fun k hk => World.putObj_heap_other hk
    have z2 : Blk (W.putObj D (.deferred none)) t2 #[.slice none 0 0] 62 := (keep t2 n1.1).trans q2
    have z3 : Blk (W.putObj D (.deferred none)) t3 #[.bool false] 4 := (keep t3 n1.2.1).trans q3
    exact ⟨_, results_two rfl rfl (z2.cell 0) (z3.cell 0), _, by rw [q5]; rfl, q4.trans (below_putObj _ D _ _ n1.2.2), (fun h => by rw [q5] at h; cases h), (fun _ => rfl)⟩
end Go.Proofs.Ytjelgmdjmjnnfaa
namespace Go.Proofs.Ytjelgmdjmjnnfaa
open Go Go.RowKit
/-- What a grammar that came in has besides: Kinds within their bounds. -/
def Gr.In (g : Gr) : Prop := ∀ x ∈ g.nodes, Nd.In x
noncomputable def namedB (l : List Rl) : Bool := by classical exact decide (Named l)
theorem namedB_true {l : List Rl} (h : Named l) : namedB l = true := by unfold namedB; simp [h]
theorem namedB_name {l : List Rl} (i : Nat) (hi : i < l.length) (h : nameOk (l.getD i Rl.zero).name.data.toList = false) : namedB l = false := by
  unfold namedB; simp; intro hn; rw [(hn i hi).1] at h; cases h
theorem namedB_rule {l : List Rl} (i : Nat) (hi : i < l.length) (h : ruleAt l (l.getD i Rl.zero).name ≠ i) : namedB l = false := by
  unfold namedB; simp; intro hn; exact h (hn i hi).2
theorem ruleFrom_lo (s : ByteArray) : ∀ (l : List Rl) (i : Nat), -1 ≤ ruleFrom s i l ∧ ruleFrom s i l < (i + l.length : Nat)
  | [], i => by simp [ruleFrom]; omega
  | r :: l, i => by
    unfold ruleFrom
    have := ruleFrom_lo s l (i + 1)
    simp only [List.length_cons]
    split <;> omega
theorem ruleAt_lo (l : List Rl) (s : ByteArray) : -1 ≤ ruleAt l s ∧ ruleAt l s < l.length := by
  have := ruleFrom_lo s l 0
  rw [Nat.zero_add] at this
  exact this
set_option maxRecDepth 100000 in
set_option maxHeartbeats 4000000 in
theorem named_any (g : Gr) (w : World) (hg : Gr.At w g) (hr : g.rules.length ≤ 140737488351232) : Calls Try.prog 54 #[g.val] w fun e w' => e = .returned (.bool (namedB g.rules)) ∧ Below w.heap.size w w' := by
  have HG := Lib.hid hg
  have NT := Lib.hid (namedB_true (l := g.rules))
  have NN := Lib.hid (namedB_name (l := g.rules))
  have NR := Lib.hid (namedB_rule (l := g.rules))
  have RU := Lib.hid (fun (s : ByteArray) (w' : World) (b : Below w.heap.size w w') => rule_any g s w' (hg.below b))
  have LO := Lib.hid (ruleAt_lo g.rules)
  obtain ⟨v, ev⟩ : ∃ v, v = namedB g.rules := ⟨_, rfl⟩
  rw [← ev] at NT NN NR ⊢
  clear hg ev
  obtain ⟨m, em⟩ : ∃ m, m = g.rules.length := ⟨_, rfl⟩
  have EM := Lib.hid em
  show Calls Try.prog 54 #[.agg #[.slice g.RA g.rules.length g.rc, .slice g.NA g.nodes.length g.nc]] w _
  have RU2 : RowKit.Hid (∀ (s : ByteArray) (w' : World), Below w.heap.size w w' → Calls Try.prog 21 #[.agg #[.slice g.RA m g.rc, .slice g.NA g.nodes.length g.nc], .string s] w' fun e w'' => e = .returned (.int .i64 (ruleAt g.rules s)) ∧ Below w'.heap.size w' w'') := Lib.hid (by rw [em]; exact RU.out)
  rw [← em] at hr ⊢
  clear em RU
  go_enter Try.func54, Try.ntmps54
  go_wp2_with fail
  obtain ⟨wb, ewb⟩ : ∃ u, u = w.alloc (.cells #[.slice g.RA m g.rc, .slice g.NA g.nodes.length g.nc] 25) := ⟨_, rfl⟩
  have hb2 : Below w.heap.size w wb := by rw [ewb]; exact B1 _ _
  have KB : RowKit.Hid (Blk wb w.heap.size #[.slice g.RA m g.rc, .slice g.NA g.nodes.length g.nc] 25) := Lib.hid (by rw [ewb]; exact Blk.new _ _ _)
  rw [← ewb]
  have BB := Lib.hid hb2
  clear ewb hb2
  go_loopw [8, 3, 4] (fun i _ _ wr => ∃ k : Nat, k ≤ m ∧ i = .int .i64 k ∧ (∀ j, j < k → nameOk (g.rules.getD j Rl.zero).name.data.toList = true ∧ ruleAt g.rules (g.rules.getD j Rl.zero).name = j) ∧ Below wb.heap.size wb wr) (fun i _ _ _ => m - (intOf i).toNat)
  case atStart => exact ⟨0, by omega, rfl, fun j h => by omega, Below.refl _ _⟩
  case round =>
    obtain ⟨k, hk, rfl, ht, hbl⟩ := hrel
    have HT := Lib.hid ht
    have BL := Lib.hid (bb BB.out hbl)
    have HBL := Lib.hid hbl
    clear ht hbl
    by_cases hlt : k < m
    · have hlt2 : (k : Int) < m := by omega
      obtain ⟨b1, o1, eA, _, c1, c2⟩ := (HG.out.below BL.out).rules.two (show k < g.rules.length by have := EM.out; omega)
      have hsz := HG.out.names (g.rules.getD k Rl.zero) (getD_mem (by have := EM.out; omega))
      have HL := Lib.hid (LO.out (g.rules.getD k Rl.zero).name)
      have NK := Lib.hid (NN.out k (by have := EM.out; omega))
      have RK := Lib.hid (NR.out k (by have := EM.out; omega))
      generalize hx : g.rules.getD k Rl.zero = x at c1 c2 hsz HL NK RK
      have HX := Lib.hid hx
      have NM := Lib.hid (fun W => name_any x.name hsz W)
      have RR := Lib.hid (RU2.out x.name)
      obtain ⟨q, eq⟩ : ∃ q, q = ruleAt g.rules x.name := ⟨_, rfl⟩
      rw [← eq] at RR HL RK
      have EQ := Lib.hid eq
      rw [eA]
      clear hx eq eA
      have cx := fun o => (Below.cell (B1 wr o) (p := ⟨b1, o1 + k * 2, none⟩) (World.block_lt_of_cell? _ _ c1)).trans c1
      have cb : wr.cell? ⟨w.heap.size, 0, none⟩ = some (.slice g.RA m g.rc) := (KB.out.below' HBL.out).cell 0
      obtain ⟨no, en⟩ : ∃ no, no = nameOk x.name.data.toList := ⟨_, rfl⟩
      rw [← en] at NM NK
      have EN := Lib.hid en
      clear en
      cases no with
      | false =>
        go_wp2_with (go_at_call 69; refine (NM.out _).mono ?_; rintro e w1 ⟨rfl, hb⟩; have H1 := Lib.hid (bb (BL.out.alloc BL.out.size _) hb); clear hb)
        go_ret
        exact ⟨ret_bool (NK.out (by first | rfl | trivial)).symm, H1.out⟩
      | true =>
        by_cases hq : q = k
        · have hb : (q != (k : Int)) = false := by simpa using hq
          have HQ := Lib.hid hq
          clear hq
          go_wp2_with (first | (go_at_call 69; refine (NM.out _).mono ?_; rintro e w1 ⟨rfl, hb1⟩; have H1 := Lib.hid (bb (BL.out.alloc BL.out.size _) hb1); have H1' := Lib.hid (bb (HBL.out.alloc HBL.out.size _) hb1); have d0 := ((KB.out.below' HBL.out).alloc _ |>.below' hb1).cell 0; have d1 := ((KB.out.below' HBL.out).alloc _ |>.below' hb1).cell 1; have d2 := ((Blk.new wr _ _).below' hb1).cell 0; simp only [List.getElem?_toArray, List.getElem?_cons_zero, List.getElem?_cons_succ] at d0 d1 d2; clear hb1) | (go_at_call 21; refine (RR.out _ H1.out).mono ?_; rintro e w2 ⟨rfl, hb2⟩; have H2 := Lib.hid (bb H1'.out hb2); clear hb2))
          go_roundw
          case rel => exact ⟨k + 1, by omega, by go_num, fun j hj => by
              by_cases ej : j = k
              · subst ej; rw [HX.out]; exact ⟨EN.out.symm, EQ.out.symm.trans HQ.out⟩
              · exact HT.out j (by omega), H2.out⟩
          case measure => simp [intOf]; omega
        · have hb : (q != (k : Int)) = true := by simpa using hq
          have HQ := Lib.hid hq
          clear hq
          go_wp2_with (first | (go_at_call 69; refine (NM.out _).mono ?_; rintro e w1 ⟨rfl, hb1⟩; have H1 := Lib.hid (bb (BL.out.alloc BL.out.size _) hb1); have d0 := ((KB.out.below' HBL.out).alloc _ |>.below' hb1).cell 0; have d1 := ((KB.out.below' HBL.out).alloc _ |>.below' hb1).cell 1; have d2 := ((Blk.new wr _ _).below' hb1).cell 0; simp only [List.getElem?_toArray, List.getElem?_cons_zero, List.getElem?_cons_succ] at d0 d1 d2; clear hb1) | (go_at_call 21; refine (RR.out _ H1.out).mono ?_; rintro e w2 ⟨rfl, hb2⟩; have H2 := Lib.hid (bb H1.out hb2); clear hb2))
          go_ret
          exact ⟨ret_bool (RK.out HQ.out).symm, H2.out⟩
    · obtain rfl : k = m := by omega
      have hlt2 : ¬ (k : Int) < k := by omega
      go_wp2_with fail
      go_ret
      exact ⟨ret_bool (NT.out (fun i hi => HT.out i (by have := EM.out; omega))).symm, BL.out⟩
end Go.Proofs.Ytjelgmdjmjnnfaa
namespace Go.Proofs.Ytjelgmdjmjnnfaa
open Go Go.RowKit
noncomputable def allB (l : List Nd) (r : Int) : Bool := by classical exact decide (AllRight l r)
theorem allB_true {l : List Nd} {r : Int} (h : AllRight l r) : allB l r = true := by unfold allB; simp [h]
theorem allB_false {l : List Nd} {r : Int} (i : Nat) (hi : i < l.length) (h : nodeOk (l.getD i Nd.zero) r = false) : allB l r = false := by
  unfold allB; simp; intro hn; rw [hn i hi] at h; cases h
set_option maxRecDepth 100000 in
set_option maxHeartbeats 4000000 in
theorem allRight_any (g : Gr) (w : World) (hg : Gr.At w g) (hin : Gr.In g) : Calls Try.prog 55 #[g.val] w fun e w' => e = .returned (.bool (allB g.nodes g.rules.length)) ∧ Below w.heap.size w w' := by
  have HG := Lib.hid hg
  have HIN := Lib.hid hin
  have hr := hg.rl
  have hn := hg.nl
  obtain ⟨r, er⟩ : ∃ r, r = g.rules.length := ⟨_, rfl⟩
  have NT := Lib.hid (allB_true (l := g.nodes) (r := g.rules.length))
  have NN := Lib.hid (allB_false (l := g.nodes) (r := g.rules.length))
  obtain ⟨v, ev⟩ : ∃ v, v = allB g.nodes g.rules.length := ⟨_, rfl⟩
  rw [← ev] at NT NN ⊢
  show Calls Try.prog 55 #[.agg #[.slice g.RA g.rules.length g.rc, .slice g.NA g.nodes.length g.nc]] w _
  rw [← er] at NT NN hr ⊢
  obtain ⟨m, em⟩ : ∃ m, m = g.nodes.length := ⟨_, rfl⟩
  have EM := Lib.hid em
  rw [← em] at hn ⊢
  clear hg hin ev er em
  go_enter Try.func55, Try.ntmps55
  go_wp2_with (go_at_call 70; refine (takers_any _).mono ?_; rintro e w1 ⟨rfl, hT, hb⟩; have HT0 := Lib.hid hT; have HB0 := Lib.hid (bb (B1 w _) hb); have HZ := Lib.hid hb.size; have KB := Lib.hid ((Blk.new w _ _).below' hb); have d0 := KB.out.cell 0; have d1 := KB.out.cell 1; simp only [List.getElem?_toArray, List.getElem?_cons_zero, List.getElem?_cons_succ] at d0 d1; clear hT hb)
  clear d0 d1
  obtain ⟨tb, etb⟩ : ∃ tb, tb = w.heap.size + 1 := ⟨_, rfl⟩
  have HT : RowKit.Hid (Takers w1 tb) := Lib.hid (by rw [etb]; have := HT0.out; rw [World.size_alloc] at this; exact this)
  rw [← etb]
  clear HT0 etb
  go_loopw [10, 5] (fun i _ wr => ∃ k : Nat, k ≤ m ∧ i = .int .i64 k ∧ (∀ j, j < k → nodeOk (g.nodes.getD j Nd.zero) r = true) ∧ Below w1.heap.size w1 wr) (fun i _ _ => m - (intOf i).toNat)
  case atStart => exact ⟨0, by omega, rfl, fun j h => by omega, Below.refl _ _⟩
  case round =>
    obtain ⟨k, hk, rfl, ht, hbl⟩ := hrel
    have HTT := Lib.hid ht
    have BL := Lib.hid (bb HB0.out hbl)
    have HBL := Lib.hid hbl
    clear ht hbl
    by_cases hlt : k < m
    · have hlt2 : (k : Int) < m := by omega
      obtain ⟨b1, o1, eA, _, c1, c2, c3, c4, c5, c6, c7, c8, c9⟩ := (HG.out.below BL.out).nodes.nine (show k < g.nodes.length by have := EM.out; omega)
      have hat := Lib.hid ((HG.out.below BL.out).node (show k < g.nodes.length by have := EM.out; omega))
      have hin := Lib.hid (HIN.out (g.nodes.getD k Nd.zero) (getD_mem (by have := EM.out; omega)))
      have NK := Lib.hid (NN.out k (by have := EM.out; omega))
      generalize hx : g.nodes.getD k Nd.zero = x at c1 c2 c3 c4 c5 c6 c7 c8 c9 hat hin NK
      have HX := Lib.hid hx
      have RR := Lib.hid (fun (w' : World) (h : Below wr.heap.size wr w') => right_any x r tb w' (hat.out.below h) hin.out (HT.out.below (bb HBL.out h)))
      obtain ⟨no, en⟩ : ∃ no, no = nodeOk x r := ⟨_, rfl⟩
      rw [← en] at RR NK
      have EN := Lib.hid en
      rw [eA]
      clear en hx eA
      have cb : ∀ o, (wr.alloc o).cell? ⟨w.heap.size, 0, none⟩ = some (.slice g.RA r g.rc) := fun o => ((KB.out.below' HBL.out).alloc o).cell 0
      cases no with
      | false =>
        go_wp2_with (go_at_call 71; refine (RR.out _ (B1 _ _)).mono ?_; rintro e w2 ⟨rfl, hb⟩; have H1 := Lib.hid (bb (BL.out.alloc BL.out.size _) hb); clear hb)
        go_ret
        exact ⟨ret_bool (NK.out (by first | rfl | trivial)).symm, H1.out⟩
      | true =>
        go_wp2_with (go_at_call 71; refine (RR.out _ (B1 _ _)).mono ?_; rintro e w2 ⟨rfl, hb⟩; have H1 := Lib.hid (bb (HBL.out.alloc HBL.out.size _) hb); clear hb)
        go_roundw
        case rel => exact ⟨k + 1, by omega, by go_num, fun j hj => by
            by_cases ej : j = k
            · subst ej; rw [HX.out]; exact EN.out.symm
            · exact HTT.out j (by omega), H1.out⟩
        case measure => simp [intOf]; omega
    · obtain rfl : k = m := by omega
      have hlt2 : ¬ (k : Int) < k := by omega
      go_wp2_with fail
      go_ret
      exact ⟨ret_bool (NT.out (fun i hi => HTT.out i (by have := EM.out; omega))).symm, BL.out⟩
def bodB (m : Nat) (ms : Nat → Meas) (l : List Rl) : Bool := decide (bodies m ms l 0 = some (m : Int))
set_option maxRecDepth 100000 in
set_option maxHeartbeats 4000000 in
theorem bodied_any (A : Option Addr) (c : Nat) (l : List Rl) (hl : l.length ≤ 140737488351232) (gb m : Nat) (ms : Nat → Meas) (hm : m ≤ 2048) (hms : ∀ i, i < m → 1 ≤ (ms i).1 ∧ 1 ≤ (ms i).2 ∧ (i : Int) + (ms i).1 ≤ m) (w : World) (hA : Rules w A l) (hM : MeasAt w (.slice (some ⟨gb, 0, none⟩) m m) m ms) :
    Calls Try.prog 57 #[.slice A l.length c, .slice (some ⟨gb, 0, none⟩) m m] w fun e w' => e = .returned (.bool (bodB m ms l)) ∧ Below w.heap.size w w' := by
  have HA := Lib.hid hA
  have HM := Lib.hid hM
  have HS := Lib.hid hms
  obtain ⟨F, eF⟩ : ∃ F, F = bodies m ms l 0 := ⟨_, rfl⟩
  have HV := Lib.hid (show bodB m ms l = decide (F = some (m : Int)) by unfold bodB; rw [eF])
  obtain ⟨v, ev⟩ : ∃ v, v = bodB m ms l := ⟨_, rfl⟩
  rw [← ev] at HV ⊢
  obtain ⟨r, er⟩ : ∃ r, r = l.length := ⟨_, rfl⟩
  rw [← er] at hl ⊢
  have ER := Lib.hid er
  have EF := Lib.hid eF
  clear hA hM hms eF ev er
  go_enter Try.func57, Try.ntmps57
  go_wp2_with fail
  go_loopw [10, 5, 7] (fun i nx _ wr => ∃ (k n : Nat), k ≤ r ∧ i = .int .i64 k ∧ nx = .int .i64 n ∧ n ≤ m ∧ bodies m ms (l.drop k) n = F ∧ Below w.heap.size w wr) (fun i _ _ _ => r - (intOf i).toNat)
  case atStart => exact ⟨0, 0, by omega, rfl, rfl, by omega, by rw [EF.out]; simp, Below.refl _ _⟩
  case round =>
    obtain ⟨k, n, hk, rfl, rfl, hn, hcl, hbl⟩ := hrel
    have BL := Lib.hid hbl
    clear hbl
    by_cases hlt : k < r
    · have hlt2 : (k : Int) < r := by omega
      obtain ⟨b1, o1, rfl, _, c1, c2⟩ := (HA.out.below BL.out).two (show k < l.length by have := ER.out; omega)
      have hkl : k < l.length := by have := ER.out; omega
      rw [List.drop_eq_getElem_cons hkl] at hcl
      have hgd : l[k] = l.getD k Rl.zero := by simp [List.getD, List.getElem?_eq_getElem hkl]
      rw [hgd] at hcl
      generalize l.getD k Rl.zero = x at hcl c1 c2
      unfold bodies at hcl
      by_cases hok : x.body = n ∧ (n : Int) < m ∧ (ms (n : Int).toNat).2 ≤ 16
      · rw [if_pos hok] at hcl
        obtain ⟨h1, h2, h3⟩ := hok
        have hnm : n < m := by omega
        obtain ⟨gb', eg, _, hmc⟩ := HM.out.below BL.out
        cases eg
        obtain ⟨d1, d2⟩ := hmc n hnm
        obtain ⟨s1, s2, s3⟩ := HS.out n hnm
        rw [Int.toNat_natCast] at hcl h3
        have e1 := fun o => (Below.cell (B1 wr o) (p := ⟨gb, n * 2, none⟩) (World.block_lt_of_cell? _ _ d1)).trans d1
        have e2 := fun o => (Below.cell (B1 wr o) (p := ⟨gb, n * 2 + 1, none⟩) (World.block_lt_of_cell? _ _ d2)).trans d2
        generalize ms n = mn at s1 s2 s3 e1 e2 d1 d2 hcl h3
        obtain ⟨sz, ht⟩ := mn
        dsimp only at s1 s2 s3 e1 e2 d1 d2 hcl h3
        obtain ⟨n', hn'⟩ : ∃ n' : Nat, (n' : Int) = n + sz := ⟨(n + sz).toNat, by omega⟩
        rw [← hn'] at hcl
        have HCL := Lib.hid hcl
        have HN' := Lib.hid hn'
        have hb : (x.body != (n : Int)) = false := by simpa using h1
        clear hcl hgd hmc hn' h1
        go_wp2_with fail
        go_roundw
        case rel => exact ⟨k + 1, n', by omega, by go_num, by have := HN'.out; simp only [Value.int.injEq, true_and]; omega, by have := HN'.out; omega, HCL.out, BL.out.alloc BL.out.size _⟩
        case measure => simp [intOf]; omega
      · rw [if_neg hok] at hcl
        have HF := Lib.hid hcl
        clear hcl hgd
        have VF : RowKit.Hid (v = false) := Lib.hid (by rw [HV.out, ← HF.out]; rfl)
        by_cases h1 : x.body = n
        · have hb : (x.body != (n : Int)) = false := by simpa using h1
          by_cases h2 : n < m
          · have h2' : (n : Int) < m := by omega
            have h2'' : ¬ m ≤ n := by omega
            obtain ⟨gb', eg, _, hmc⟩ := HM.out.below BL.out
            cases eg
            obtain ⟨d1, d2⟩ := hmc n h2
            have h3 : 16 < (ms n).2 := by
              by_cases h : (ms n).2 ≤ 16
              · exact absurd ⟨h1, h2', by rw [Int.toNat_natCast]; exact h⟩ hok
              · omega
            have e2 := fun o => (Below.cell (B1 wr o) (p := ⟨gb, n * 2 + 1, none⟩) (World.block_lt_of_cell? _ _ d2)).trans d2
            generalize ms n = mn at d1 d2 h3 e2
            obtain ⟨sz, ht⟩ := mn
            dsimp only at d1 d2 h3 e2
            clear hok hmc h1
            go_wp2_with fail
            go_ret
            exact ⟨ret_bool VF.out.symm, BL.out.alloc BL.out.size _⟩
          · have h2' : ¬ (n : Int) < m := by omega
            have h2'' : m ≤ n := by omega
            have h2b : (m : Int) ≤ n := by omega
            clear hok h1
            go_wp2_with fail
            go_ret
            exact ⟨ret_bool VF.out.symm, BL.out.alloc BL.out.size _⟩
        · have hb : (x.body != (n : Int)) = true := by simpa using h1
          clear hok h1
          go_wp2_with fail
          go_ret
          exact ⟨ret_bool VF.out.symm, BL.out.alloc BL.out.size _⟩
    · obtain rfl : k = r := by omega
      have hlt2 : ¬ (k : Int) < k := by omega
      have hd : l.drop k = [] := List.drop_eq_nil_of_le (by have := ER.out; omega)
      rw [hd, bodies] at hcl
      have HCL := Lib.hid hcl
      clear hcl hd
      go_wp2_with fail
      go_ret
      exact ⟨ret_bool (by rw [HV.out, ← HCL.out, Bool.eq_iff_iff]; simp), BL.out⟩
end Go.Proofs.Ytjelgmdjmjnnfaa

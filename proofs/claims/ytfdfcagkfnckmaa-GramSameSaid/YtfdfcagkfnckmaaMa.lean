/- Nodes in preorder, plainly: measured from the last one on, and gone through from the first one on. Nothing here speaks of a program. -/
import Derived.Test.YtfdfcagkfnckmaaWb
namespace Go.Proofs.Ytfdfcagkfnckmaa
abbrev Meas := Int × Int
def kidsOf (l : List Nd) (n : Nat) : List Int := (l.getD n Nd.zero).kids
/-- Kids one behind the other: from 'next' on, by the sizes that are known: where they end, how high the highest is; none, if they do not stand so. -/
def climb (len : Nat) (ms : Nat → Meas) : List Int → Int → Int → Option Meas
  | [], next, high => some (next, high)
  | k :: r, next, high => if k = next ∧ k < len then climb len ms r (next + (ms k.toNat).1) (max high (ms k.toNat).2) else none
/-- The nodes from n on are measured. -/
def Measured (l : List Nd) (ms : Nat → Meas) (n : Nat) : Prop := ∀ m, n ≤ m → m < l.length → 1 ≤ (ms m).1 ∧ 1 ≤ (ms m).2 ∧ m + (ms m).1 ≤ l.length ∧ climb l.length ms (kidsOf l m) (m + 1) 0 = some (m + (ms m).1, (ms m).2 - 1)
theorem climb_up {len : Nat} {ms : Nat → Meas} (n0 : Nat) (hs : ∀ m : Nat, n0 ≤ m → m < len → 1 ≤ (ms m).1 ∧ 1 ≤ (ms m).2 ∧ m + (ms m).1 ≤ len) : ∀ (r : List Int) (next high to hh : Int), (n0 : Int) ≤ next → climb len ms r next high = some (to, hh) → next ≤ to ∧ high ≤ hh ∧ (next ≤ len → to ≤ len)
  | [], next, high, to, hh, _, h => by simp [climb] at h; omega
  | k :: r, next, high, to, hh, hn, h => by
    unfold climb at h
    split at h
    · rename_i hk
      obtain ⟨rfl, hk2⟩ := hk
      obtain ⟨h1, h2, h3⟩ := hs k.toNat (by omega) (by omega)
      have := climb_up n0 hs r _ _ to hh (by omega) h
      have e : ((k.toNat : Nat) : Int) = k := by omega
      rw [e] at h3
      omega
    · cases h
theorem climb_congr {len : Nat} {ms ms' : Nat → Meas} (n0 : Nat) (hs : ∀ m : Nat, n0 ≤ m → m < len → 1 ≤ (ms m).1) (he : ∀ m : Nat, n0 ≤ m → m < len → ms m = ms' m) : ∀ (r : List Int) (next high : Int), (n0 : Int) ≤ next → climb len ms r next high = climb len ms' r next high
  | [], _, _, _ => rfl
  | k :: r, next, high, hn => by
    unfold climb
    by_cases hk : k = next ∧ k < len
    · rw [if_pos hk, if_pos hk]
      obtain ⟨rfl, hk2⟩ := hk
      have h1 := hs k.toNat (by omega) (by omega)
      rw [← he k.toNat (by omega) (by omega)]
      exact climb_congr n0 hs he r _ _ (by omega)
    · rw [if_neg hk, if_neg hk]
theorem measured_unique {l : List Nd} {ms ms' : Nat → Meas} {n n' : Nat} (h : Measured l ms n) (h' : Measured l ms' n') : ∀ d m : Nat, l.length - m ≤ d → n ≤ m → n' ≤ m → m < l.length → ms m = ms' m
  | 0, m, hd, _, _, hl => by omega
  | d + 1, m, hd, hn, hn', hl => by
    obtain ⟨a1, a2, _, a3⟩ := h m hn hl
    obtain ⟨b1, b2, _, b3⟩ := h' m hn' hl
    have e := climb_congr (len := l.length) (ms := ms) (ms' := ms') (m + 1) (fun k hk hkl => (h k (by omega) hkl).1) (fun k hk hkl => measured_unique h h' d k (by omega) (by omega) (by omega) hkl) (kidsOf l m) (m + 1) 0 (by omega)
    rw [a3, b3] at e
    simp only [Option.some.injEq, Prod.mk.injEq] at e
    apply Prod.ext <;> omega
/-- One node more is measured. -/
theorem measured_step {l : List Nd} {ms : Nat → Meas} {n : Nat} (hn : n < l.length) (h : Measured l ms (n + 1)) {to hh : Int} (hc : climb l.length ms (kidsOf l n) (n + 1) 0 = some (to, hh)) : Measured l (fun m => if m = n then (to - n, hh + 1) else ms m) n := by
  have hup := climb_up (n + 1) (fun m hm hl => ⟨(h m hm hl).1, (h m hm hl).2.1, (h m hm hl).2.2.1⟩) _ _ _ to hh (by omega) hc
  intro m hm hl
  have hcong : ∀ k : Nat, n ≤ k → k < l.length → climb l.length (fun m => if m = n then (to - n, hh + 1) else ms m) (kidsOf l k) (k + 1) 0 = climb l.length ms (kidsOf l k) (k + 1) 0 := fun k hk hkl =>
    (climb_congr (n + 1) (fun j hj hjl => (h j hj hjl).1) (fun j hj _ => by simp [show j ≠ n by omega]) _ _ _ (by omega)).symm
  rw [hcong m hm hl]
  by_cases e : m = n
  · subst e
    simp only [if_true]
    exact ⟨by omega, by omega, by omega, by rw [hc]; simp only [Option.some.injEq, Prod.mk.injEq]; omega⟩
  · simp only [if_neg e]
    exact h m (by omega) hl
theorem measured_none {l : List Nd} {ms ms' : Nat → Meas} {n : Nat} (hn : n < l.length) (h : Measured l ms (n + 1)) (hc : climb l.length ms (kidsOf l n) (n + 1) 0 = none) : ¬ Measured l ms' 0 := by
  intro h'
  have e := climb_congr (len := l.length) (ms := ms) (ms' := ms') (n + 1) (fun k hk hkl => (h k (by omega) hkl).1) (fun k hk hkl => measured_unique h h' _ k (Nat.le_refl _) (by omega) (by omega) hkl) (kidsOf l n) (n + 1) 0 (by omega)
  rw [hc, (h' n (by omega) hn).2.2.2] at e
  cases e
/-- The document's: the node behind a node's last one, and its height; none: they do not stand so. -/
def afterKids (f : Int → Option Meas) : List Int → Int → Int → Option Meas
  | [], next, high => some (next, high)
  | k :: r, next, high => if k = next then match f next with
    | some (to, h) => afterKids f r to (max high (1 + h))
    | none => none
    else none
def after (l : List Nd) : Nat → Int → Option Meas
  | 0, _ => none
  | f + 1, n => if n < l.length then afterKids (after l f) (kidsOf l n.toNat) (n + 1) 1 else none
theorem afterKids_climb {l : List Nd} {ms : Nat → Meas} (h : Measured l ms 0) (f : Nat) (hf : ∀ m : Nat, m < l.length → after l f m = if (ms m).2 ≤ f then some (m + (ms m).1, (ms m).2) else none) :
    ∀ (r : List Int) (next high to hh : Int), 0 ≤ next → high ≤ f → climb l.length ms r next high = some (to, hh) → afterKids (after l f) r next (high + 1) = if hh ≤ f then some (to, hh + 1) else none
  | [], next, high, to, hh, _, hl, hc => by simp [climb] at hc; obtain ⟨rfl, rfl⟩ := hc; simp [afterKids, hl]
  | k :: r, next, high, to, hh, hn, hl, hc => by
    unfold climb at hc
    split at hc
    · rename_i hk
      obtain ⟨rfl, hk2⟩ := hk
      have hm := hf k.toNat (by omega)
      have e : ((k.toNat : Nat) : Int) = k := by omega
      obtain ⟨m1, m2, m3, _⟩ := h k.toNat (by omega) (by omega)
      rw [e] at hm
      unfold afterKids
      rw [if_pos rfl, hm]
      by_cases hx : (ms k.toNat).2 ≤ f
      · rw [if_pos hx]
        have := afterKids_climb h f hf r _ _ to hh (by omega) (by omega) hc
        show afterKids (after l f) r (k + (ms k.toNat).1) (max (high + 1) (1 + (ms k.toNat).2)) = _
        rw [show max (high + 1) (1 + (ms k.toNat).2) = max high (ms k.toNat).2 + 1 by omega]
        exact this
      · rw [if_neg hx]
        have := climb_up 0 (fun m hm hl => ⟨(h m (by omega) hl).1, (h m (by omega) hl).2.1, (h m (by omega) hl).2.2.1⟩) r _ _ to hh (by omega) hc
        rw [if_neg (by omega)]
    · cases hc
theorem after_measured {l : List Nd} {ms : Nat → Meas} (h : Measured l ms 0) : ∀ (f m : Nat), m < l.length → after l f m = if (ms m).2 ≤ f then some (m + (ms m).1, (ms m).2) else none
  | 0, m, hm => by
    have := (h m (by omega) hm).2.1
    rw [if_neg (by omega)]
    rfl
  | f + 1, m, hm => by
    obtain ⟨h1, h2, h3, h4⟩ := h m (by omega) hm
    unfold after
    rw [if_pos (by omega)]
    have := afterKids_climb h f (after_measured h f) (kidsOf l m) (m + 1) 0 _ _ (by omega) (by omega) h4
    simp only [Int.zero_add] at this
    rw [Int.toNat_natCast, this]
    by_cases hx : (ms m).2 - 1 ≤ f
    · rw [if_pos hx, if_pos (by omega)]
      simp only [Option.some.injEq, Prod.mk.injEq, true_and]
      omega
    · rw [if_neg hx, if_neg (by omega)]
/-- What is gone through is good all along. -/
theorem afterKids_cover {l : List Nd} (f : Nat) (hf : ∀ (n : Nat) (to h : Int), after l f n = some (to, h) → (n : Int) < to ∧ to ≤ l.length ∧ 1 ≤ h ∧ h ≤ f ∧ ∀ m : Nat, n ≤ m → (m : Int) < to → ∃ r, after l f m = some r) :
    ∀ (r : List Int) (next high to h : Int), 0 ≤ next → next ≤ l.length → afterKids (after l f) r next high = some (to, h) → next ≤ to ∧ to ≤ l.length ∧ high ≤ h ∧ (high ≤ f + 1 → h ≤ f + 1) ∧ ∀ m : Nat, next ≤ m → (m : Int) < to → ∃ r, after l f m = some r
  | [], next, high, to, h, _, hl, hc => by simp [afterKids] at hc; obtain ⟨rfl, rfl⟩ := hc; exact ⟨by omega, hl, by omega, fun h => h, fun m h1 h2 => by omega⟩
  | k :: r, next, high, to, h, hn, hl, hc => by
    unfold afterKids at hc
    split at hc
    · split at hc
      · rename_i to1 h1 he
        have e : ((next.toNat : Nat) : Int) = next := by omega
        rw [← e] at he
        obtain ⟨a1, a2, a3, a4, a5⟩ := hf _ _ _ he
        obtain ⟨b1, b2, b3, b4, b5⟩ := afterKids_cover f hf r to1 _ to h (by omega) a2 hc
        refine ⟨by omega, b2, by omega, fun hh => b4 (by omega), fun m m1 m2 => ?_⟩
        by_cases hm : (m : Int) < to1
        · exact a5 m (by omega) hm
        · exact b5 m (by omega) m2
      · cases hc
    · cases hc
theorem afterKids_mono {l : List Nd} (f : Nat) (hf : ∀ (n : Int) (r : Meas), after l f n = some r → after l (f + 1) n = some r) : ∀ (r : List Int) (next high : Int) (x : Meas), afterKids (after l f) r next high = some x → afterKids (after l (f + 1)) r next high = some x
  | [], _, _, _, h => h
  | k :: r, next, high, x, h => by
    unfold afterKids at h ⊢
    split at h
    · rename_i hk
      rw [if_pos hk]
      split at h
      · rename_i to1 h1 he
        rw [hf _ _ he]
        exact afterKids_mono f hf r _ _ x h
      · cases h
    · cases h
theorem after_mono1 {l : List Nd} : ∀ (f : Nat) (n : Int) (r : Meas), after l f n = some r → after l (f + 1) n = some r
  | 0, _, _, h => by cases h
  | f + 1, n, r, h => by
    rw [after] at h ⊢
    split at h
    · rename_i hn
      rw [if_pos hn]
      exact afterKids_mono f (after_mono1 f) _ _ _ _ h
    · cases h
theorem after_cover {l : List Nd} : ∀ (f n : Nat) (to h : Int), after l f n = some (to, h) → (n : Int) < to ∧ to ≤ l.length ∧ 1 ≤ h ∧ h ≤ f ∧ ∀ m : Nat, n ≤ m → (m : Int) < to → ∃ r, after l f m = some r
  | 0, _, _, _, h => by cases h
  | f + 1, n, to, h, hc => by
    have hc0 := hc
    rw [after] at hc
    split at hc
    · rename_i hn
      obtain ⟨b1, b2, b3, b4, b5⟩ := afterKids_cover f (after_cover f) _ _ _ to h (by omega) (by omega) hc
      refine ⟨by omega, b2, b3, by have := b4 (by omega); omega, fun m m1 m2 => ?_⟩
      by_cases hm : m = n
      · subst hm; exact ⟨_, hc0⟩
      · obtain ⟨r, hr⟩ := b5 m (by omega) m2
        exact ⟨r, after_mono1 f _ _ hr⟩
    · cases hc
theorem climb_after {l : List Nd} {f : Nat} {ms : Nat → Meas} (hms : ∀ m : Nat, m < l.length → after l f m = some (m + (ms m).1, (ms m).2)) : ∀ (r : List Int) (next high to h : Int), 0 ≤ next → next ≤ l.length → afterKids (after l f) r next (high + 1) = some (to, h) → climb l.length ms r next high = some (to, h - 1)
  | [], next, high, to, h, _, _, hc => by simp [afterKids] at hc; obtain ⟨rfl, rfl⟩ := hc; simp [climb]
  | k :: r, next, high, to, h, hn, hl, hc => by
    unfold afterKids at hc
    split at hc
    · rename_i hk
      subst hk
      split at hc
      · rename_i to1 h1 he
        have e : ((k.toNat : Nat) : Int) = k := by omega
        have he2 := he
        rw [← e] at he2
        have hlt : k < l.length := by
          have := after_cover f _ _ _ he2
          omega
        have hm := hms k.toNat (by omega)
        rw [he2] at hm
        simp only [Option.some.injEq, Prod.mk.injEq] at hm
        have c := after_cover f _ _ _ he2
        unfold climb
        rw [if_pos ⟨rfl, hlt⟩]
        refine climb_after hms r _ _ to h (by omega) (by omega) ?_
        rw [← hm.2, show k + (ms k.toNat).1 = to1 by omega, show max high h1 + 1 = max (high + 1) (1 + h1) by omega]
        exact hc
      · cases hc
    · cases hc
/-- If all nodes are gone through well, they are measured. -/
theorem measured_of_after {l : List Nd} (f : Nat) (h : ∀ m : Nat, m < l.length → ∃ r, after l f m = some r) : ∃ ms, Measured l ms 0 := by
  have key : ∀ m : Nat, ∃ p : Meas, m < l.length → after l (f + 1) m = some (m + p.1, p.2) ∧ after l f m = some (m + p.1, p.2) := fun m => by
    by_cases hm : m < l.length
    · obtain ⟨r, hr⟩ := h m hm
      exact ⟨(r.1 - m, r.2), fun _ => by
        have e : some ((m : Int) + (r.1 - m, r.2).1, (r.1 - (m : Int), r.2).2) = some r := by congr 1; apply Prod.ext <;> simp; omega
        exact ⟨by rw [after_mono1 f _ _ hr, e], by rw [hr, e]⟩⟩
    · exact ⟨(0, 0), fun h => absurd h hm⟩
  obtain ⟨ms, hk⟩ : ∃ ms : Nat → Meas, ∀ m : Nat, m < l.length → after l (f + 1) m = some (m + (ms m).1, (ms m).2) ∧ after l f m = some (m + (ms m).1, (ms m).2) := ⟨fun m => Classical.choose (key m), fun m => Classical.choose_spec (key m)⟩
  refine ⟨ms, fun m _ hm => ?_⟩
  have hms : ∀ j : Nat, j < l.length → after l f j = some (j + (ms j).1, (ms j).2) := fun j hj => (hk j hj).2
  have h1 := (hk m hm).1
  have c := after_cover (f + 1) m _ _ h1
  rw [after] at h1
  split at h1
  · have := climb_after hms (kidsOf l m) (m + 1) 0 _ _ (by omega) (by omega) (by simpa using h1)
    exact ⟨by omega, by omega, by omega, by simpa using this⟩
  · cases h1
end Go.Proofs.Ytfdfcagkfnckmaa

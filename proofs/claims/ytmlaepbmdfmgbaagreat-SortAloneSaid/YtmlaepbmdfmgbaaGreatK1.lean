/- Who leads on to whom: paths, the search that meets each number once, plainly. Nothing here speaks of a program. -/
import Derived.Test.YtmlaepbmdfmgbaaGreatA1
set_option linter.unusedSimpArgs false
set_option linter.unusedVariables false
namespace Go.Proofs.YtmlaepbmdfmgbaaGreat
/-- A number more is met. -/
def mset (m : Nat → Bool) (a : Nat) : Nat → Bool := fun x => x == a || m x
/-- A path over numbers that are not met. -/
inductive WP (adj : Nat → List Nat) (m : Nat → Bool) : Nat → Nat → Prop
  | one {a : Nat} : m a = false → WP adj m a a
  | step {a b c : Nat} : m a = false → b ∈ adj a → WP adj m b c → WP adj m a c
/-- What is met, and done at its end, one behind the other. -/
inductive Thr (adj : Nat → List Nat) : (Nat → Bool) → List Nat → List Nat → (Nat → Bool) → Prop
  | nil (m : Nat → Bool) : Thr adj m [] [] m
  | met {m m' : Nat → Bool} {a : Nat} {l N : List Nat} : m a = true → Thr adj m l N m' → Thr adj m (a :: l) N m'
  | new {m m1 m2 : Nat → Bool} {a : Nat} {l N1 N2 : List Nat} : m a = false → Thr adj (mset m a) (adj a) N1 m1 → Thr adj m1 l N2 m2 → Thr adj m (a :: l) (N1 ++ a :: N2) m2
variable {adj : Nat → List Nat} {m m' : Nat → Bool}
theorem mset_iff {a x : Nat} : mset m a x = true ↔ x = a ∨ m x = true := by simp [mset]
theorem mset_false {a x : Nat} : mset m a x = false ↔ x ≠ a ∧ m x = false := by simp [mset]
theorem WP.head {a b : Nat} (h : WP adj m a b) : m a = false := by cases h <;> assumption
theorem WP.last {a b : Nat} (h : WP adj m a b) : m b = false := by induction h with | one h => exact h | step _ _ _ ih => exact ih
theorem WP.trans {a b c : Nat} (h : WP adj m a b) (k : WP adj m b c) : WP adj m a c := by
  induction h with
  | one _ => exact k
  | step h1 h2 _ ih => exact .step h1 h2 (ih k)
theorem WP.mono {a b : Nat} (hm : ∀ x, m' x = false → m x = false) (h : WP adj m' a b) : WP adj m a b := by
  induction h with
  | one h => exact .one (hm _ h)
  | step h1 h2 _ ih => exact .step (hm _ h1) h2 ih
/-- A path keeps off some numbers, or meets one of them. -/
theorem WP.split {m1 : Nat → Bool} {a b : Nat} (h : WP adj m a b) : WP adj m1 a b ∨ ∃ s, m1 s = true ∧ WP adj m a s ∧ WP adj m s b := by
  induction h with
  | @one a h =>
    cases e : m1 a with
    | true => exact .inr ⟨a, e, .one h, .one h⟩
    | false => exact .inl (.one e)
  | @step a b c h1 h2 h3 ih =>
    rcases ih with ih | ⟨s, k1, k2, k3⟩
    · cases e : m1 a with
      | true => exact .inr ⟨a, e, .one h1, .step h1 h2 h3⟩
      | false => exact .inl (.step e h2 ih)
    · exact .inr ⟨s, k1, .step h1 h2 k2, k3⟩
/-- Behind its last visit of a number a path keeps off it. -/
theorem WP.behind {a c x : Nat} (h : WP adj m c x) : WP adj (mset m a) c x ∨ x = a ∨ ∃ b ∈ adj a, WP adj (mset m a) b x := by
  induction h with
  | @one c h =>
    by_cases e : c = a
    · exact .inr (.inl e)
    · exact .inl (.one (mset_false.2 ⟨e, h⟩))
  | @step c b x h1 h2 h3 ih =>
    rcases ih with ih | ih
    · by_cases e : c = a
      · subst e; exact .inr (.inr ⟨b, h2, ih⟩)
      · exact .inl (.step (mset_false.2 ⟨e, h1⟩) h2 ih)
    · exact .inr ih
theorem WP.from {a x : Nat} (h : WP adj m a x) : x = a ∨ ∃ b ∈ adj a, WP adj (mset m a) b x := by
  rcases h.behind (a := a) with h | h
  · have := h.head
    simp [mset] at this
  · exact h
theorem Thr.facts {l N : List Nat} (h : Thr adj m l N m') : (∀ x, m' x = true ↔ m x = true ∨ x ∈ N) ∧ (∀ x ∈ N, m x = false) ∧ N.Nodup := by
  induction h with
  | nil m => exact ⟨fun x => by simp, by simp, List.nodup_nil⟩
  | met _ _ ih => exact ih
  | @new m m1 m2 a l N1 N2 h1 h2 h3 ih1 ih2 =>
    obtain ⟨a1, a2, a3⟩ := ih1
    obtain ⟨b1, b2, b3⟩ := ih2
    refine ⟨fun x => ?_, fun x hx => ?_, ?_⟩
    · rw [b1, a1, mset_iff]
      simp only [List.mem_append, List.mem_cons]
      constructor
      · rintro (((h | h) | h) | h)
        · exact .inr (.inr (.inl h))
        · exact .inl h
        · exact .inr (.inl h)
        · exact .inr (.inr (.inr h))
      · rintro (h | h | h | h)
        · exact .inl (.inl (.inr h))
        · exact .inl (.inr h)
        · exact .inl (.inl (.inl h))
        · exact .inr h
    · rcases List.mem_append.1 hx with h | h
      · exact (mset_false.1 (a2 x h)).2
      · rcases List.mem_cons.1 h with rfl | h
        · exact h1
        · have h4 := b2 x h
          cases e : m x with
          | false => rfl
          | true => rw [(a1 x).2 (.inl (mset_iff.2 (.inr e)))] at h4; cases h4
    · have n1 : a ∉ N1 := fun h => (mset_false.1 (a2 a h)).1 rfl
      have n2 : a ∉ N2 := fun h => by have := b2 a h; rw [(a1 a).2 (.inl (mset_iff.2 (.inl rfl)))] at this; cases this
      refine List.nodup_append.2 ⟨a3, List.nodup_cons.2 ⟨n2, b3⟩, fun x hx y hy e => ?_⟩
      subst e
      rcases List.mem_cons.1 hy with rfl | hy
      · exact n1 hx
      · have := b2 x hy; rw [(a1 x).2 (.inr hx)] at this; cases this
/-- Those that are met are those to which a path leads over numbers that were not met. -/
theorem Thr.iff {l N : List Nat} (h : Thr adj m l N m') : ∀ x, x ∈ N ↔ ∃ a ∈ l, WP adj m a x := by
  induction h with
  | nil m => simp
  | @met m m' a l N h1 h2 ih =>
    intro x
    rw [ih]
    constructor
    · rintro ⟨b, hb, h⟩; exact ⟨b, List.mem_cons_of_mem _ hb, h⟩
    · rintro ⟨b, hb, h⟩
      rcases List.mem_cons.1 hb with rfl | hb
      · rw [h.head] at h1; cases h1
      · exact ⟨b, hb, h⟩
  | @new m m1 m2 a l N1 N2 h1 h2 h3 ih1 ih2 =>
    intro x
    have f1 := h2.facts.1
    have up : ∀ s, mset m a s = false → m s = false := fun s h => (mset_false.1 h).2
    have inA : ∀ s, s ∈ N1 → WP adj m a s := fun s hs => by
      obtain ⟨b, hb, h⟩ := (ih1 s).1 hs
      exact .step h1 hb (h.mono up)
    have outA : ∀ s, WP adj m a s → s = a ∨ s ∈ N1 := fun s hs => by
      rcases hs.from with h | ⟨b, hb, h⟩
      · exact .inl h
      · exact .inr ((ih1 s).2 ⟨b, hb, h⟩)
    simp only [List.mem_append, List.mem_cons]
    constructor
    · rintro (h | rfl | h)
      · exact ⟨a, .inl rfl, inA x h⟩
      · exact ⟨x, .inl rfl, .one h1⟩
      · obtain ⟨b, hb, h⟩ := (ih2 x).1 h
        refine ⟨b, .inr hb, h.mono fun s hs => ?_⟩
        cases e : m s with
        | false => rfl
        | true => rw [(f1 s).2 (.inl (mset_iff.2 (.inr e)))] at hs; cases hs
    · rintro ⟨b, rfl | hb, h⟩
      · rcases outA x h with h | h
        · exact .inr (.inl h)
        · exact .inl h
      · rcases h.split (m1 := m1) with h | ⟨s, k1, k2, k3⟩
        · exact .inr (.inr ((ih2 x).2 ⟨b, hb, h⟩))
        · have hs : WP adj m a s := by
            rcases (f1 s).1 k1 with h | h
            · rcases mset_iff.1 h with rfl | h
              · exact .one h1
              · rw [k2.last] at h; cases h
            · exact inA s h
          rcases outA x (hs.trans k3) with h | h
          · exact .inr (.inl h)
          · exact .inl h
/-- y is z, or stands ahead of it. -/
def Ahead (N : List Nat) (y z : Nat) : Prop := ∃ A B, N = A ++ z :: B ∧ (y = z ∨ y ∈ A)
/-- Behind all to which one leads stands one that leads to it, and to which it leads. -/
theorem Thr.order {l N : List Nat} (h : Thr adj m l N m') : ∀ x y, x ∈ N → WP adj m x y → ∃ z, Ahead N y z ∧ WP adj m x z ∧ WP adj m z x := by
  induction h with
  | nil m => intro x y hx; simp at hx
  | met _ _ ih => exact ih
  | @new m m1 m2 a l N1 N2 h1 h2 h3 ih1 ih2 =>
    intro x y hx hp
    have f1 := h2.facts.1
    have up : ∀ s, mset m a s = false → m s = false := fun s h => (mset_false.1 h).2
    have inA : ∀ s, s ∈ N1 → WP adj m a s := fun s hs => by
      obtain ⟨b, hb, h⟩ := (h2.iff s).1 hs
      exact .step h1 hb (h.mono up)
    have outA : ∀ s, WP adj m a s → s = a ∨ s ∈ N1 := fun s hs => by
      rcases hs.from with h | ⟨b, hb, h⟩
      · exact .inl h
      · exact .inr ((h2.iff s).2 ⟨b, hb, h⟩)
    have aheadA : ∀ s, s = a ∨ s ∈ N1 → Ahead (N1 ++ a :: N2) s a := fun s hs => ⟨N1, N2, rfl, hs⟩
    have up2 : ∀ s, m1 s = false → m s = false := fun s hs => by
      cases e : m s with
      | false => rfl
      | true => rw [(f1 s).2 (.inl (mset_iff.2 (.inr e)))] at hs; cases hs
    rcases List.mem_append.1 hx with hx1 | hx1
    · rcases hp.split (m1 := mset m a) with h | ⟨s, k1, k2, k3⟩
      · obtain ⟨z, ⟨A, B, e, k⟩, z1, z2⟩ := ih1 x y hx1 h
        exact ⟨z, ⟨A, B ++ a :: N2, by rw [e]; simp, k⟩, z1.mono up, z2.mono up⟩
      · have hs : s = a := by
          rcases mset_iff.1 k1 with h | h
          · exact h
          · rw [k2.last] at h; cases h
        subst hs
        exact ⟨s, aheadA y (outA y ((inA x hx1).trans hp)), k2, inA x hx1⟩
    · rcases List.mem_cons.1 hx1 with rfl | hx2
      · exact ⟨x, aheadA y (outA y hp), .one h1, .one h1⟩
      · rcases hp.split (m1 := m1) with h | ⟨s, k1, k2, k3⟩
        · obtain ⟨z, ⟨A, B, e, k⟩, z1, z2⟩ := ih2 x y hx2 h
          exact ⟨z, ⟨N1 ++ a :: A, B, by rw [e]; simp, by rcases k with k | k; exact .inl k; exact .inr (by simp [k])⟩, z1.mono up2, z2.mono up2⟩
        · have hs : WP adj m a s := by
            rcases (f1 s).1 k1 with h | h
            · rcases mset_iff.1 h with rfl | h
              · exact .one h1
              · rw [k2.last] at h; cases h
            · exact inA s h
          have hy := outA y (hs.trans k3)
          have hx0 : m x = false := hp.head
          obtain ⟨A, B, e⟩ := List.append_of_mem hx2
          refine ⟨x, ⟨N1 ++ a :: A, B, by rw [e]; simp, .inr ?_⟩, .one hx0, .one hx0⟩
          rcases hy with rfl | h
          · simp
          · simp [h]
theorem Thr.app {m1 : Nat → Bool} {l k N1 N2 : List Nat} (h : Thr adj m l N1 m1) (h' : Thr adj m1 k N2 m') : Thr adj m (l ++ k) (N1 ++ N2) m' := by
  induction h with
  | nil m => exact h'
  | met h1 _ ih => exact .met h1 (ih h')
  | new h1 h2 _ _ ih => rw [List.append_assoc, List.cons_append]; exact .new h1 h2 (ih h')
end Go.Proofs.YtmlaepbmdfmgbaaGreat
namespace Go.Proofs.YtmlaepbmdfmgbaaGreat
abbrev Reach (adj : Nat → List Nat) (a b : Nat) : Prop := WP adj (fun _ => false) a b
def Tog (adj : Nat → List Nat) (a b : Nat) : Prop := Reach adj a b ∧ Reach adj b a
theorem Reach.refl (adj : Nat → List Nat) (a : Nat) : Reach adj a a := .one rfl
theorem WP.reach {adj : Nat → List Nat} {m : Nat → Bool} {a b : Nat} (h : WP adj m a b) : Reach adj a b := h.mono fun _ _ => rfl
theorem Tog.refl (adj : Nat → List Nat) (a : Nat) : Tog adj a a := ⟨.refl _ _, .refl _ _⟩
theorem Tog.symm {adj : Nat → List Nat} {a b : Nat} (h : Tog adj a b) : Tog adj b a := ⟨h.2, h.1⟩
theorem Tog.trans {adj : Nat → List Nat} {a b c : Nat} (h : Tog adj a b) (k : Tog adj b c) : Tog adj a c := ⟨h.1.trans k.1, k.2.trans h.2⟩
/-- Who leads to whom are numbers below n. -/
def InR (adj : Nat → List Nat) (n : Nat) : Prop := ∀ a b, b ∈ adj a → a < n ∧ b < n
theorem Reach.lt {adj : Nat → List Nat} {n a b : Nat} (hi : InR adj n) (h : Reach adj a b) (ha : a < n) : b < n := by
  induction h with
  | one _ => exact ha
  | step _ h2 _ ih => exact ih (hi _ _ h2).2
theorem Reach.lt' {adj : Nat → List Nat} {n a b : Nat} (hi : InR adj n) (h : Reach adj a b) (hb : b < n) : a < n := by
  cases h with
  | one _ => exact hb
  | step _ h2 _ => exact (hi _ _ h2).1
/-- The graph turned round. -/
def c_Trn (adj radj : Nat → List Nat) : Prop := ∀ a b, b ∈ adj a ↔ a ∈ radj b
theorem c_Trn.symm {adj radj : Nat → List Nat} (h : c_Trn adj radj) : c_Trn radj adj := fun a b => (h b a).symm
theorem WP.turn {adj radj : Nat → List Nat} (h : c_Trn adj radj) {m : Nat → Bool} {a b : Nat} (p : WP adj m a b) : WP radj m b a := by
  induction p with
  | one h1 => exact .one h1
  | step h1 h2 _ ih => exact ih.trans (.step ih.last ((h _ _).1 h2) (.one h1))
theorem WP.turn_iff {adj radj : Nat → List Nat} (h : c_Trn adj radj) {m : Nat → Bool} {a b : Nat} : WP radj m b a ↔ WP adj m a b := ⟨fun p => p.turn h.symm, fun p => p.turn h⟩
theorem Tog.turn {adj radj : Nat → List Nat} (h : c_Trn adj radj) {a b : Nat} : Tog radj a b ↔ Tog adj a b :=
  ⟨fun ⟨p, q⟩ => ⟨q.turn h.symm, p.turn h.symm⟩, fun ⟨p, q⟩ => ⟨q.turn h, p.turn h⟩⟩
theorem InR.turn {adj radj : Nat → List Nat} {n : Nat} (h : c_Trn adj radj) (hi : InR adj n) : InR radj n := fun a b hb => by
  have := hi b a ((h b a).2 hb); exact ⟨this.2, this.1⟩
/-- The part of a number. -/
def scc (r : Nat → Nat → Bool) (n v : Nat) : List Nat := (List.range n).filter fun x => r v x && r x v
/-- The c_least number of its part. -/
def c_least (r : Nat → Nat → Bool) (a : Nat) : Bool := (List.range a).all fun b => !(r a b && r b a)
/-- The parts, by their c_least numbers. -/
def sccs (r : Nat → Nat → Bool) (n : Nat) : List (List Nat) := ((List.range n).filter (c_least r)).map (scc r n)
/-- A yes or a no for who leads on to whom. -/
def IsR (adj : Nat → List Nat) (n : Nat) (r : Nat → Nat → Bool) : Prop := ∀ a b, a < n → b < n → (r a b = true ↔ Reach adj a b)
theorem mem_scc {adj : Nat → List Nat} {n v x : Nat} {r : Nat → Nat → Bool} (hr : IsR adj n r) (hv : v < n) : x ∈ scc r n v ↔ x < n ∧ Tog adj v x := by
  simp only [scc, List.mem_filter, List.mem_range, Bool.and_eq_true]
  constructor
  · rintro ⟨h, h1, h2⟩; exact ⟨h, (hr _ _ hv h).1 h1, (hr _ _ h hv).1 h2⟩
  · rintro ⟨h, h1, h2⟩; exact ⟨h, (hr _ _ hv h).2 h1, (hr _ _ h hv).2 h2⟩
theorem scc_rises (r : Nat → Nat → Bool) (n v : Nat) : (scc r n v).Pairwise (· < ·) := List.Pairwise.filter _ List.pairwise_lt_range
theorem rises_eq {l k : List Nat} (hl : l.Pairwise (· < ·)) (hk : k.Pairwise (· < ·)) (h : ∀ x, x ∈ l ↔ x ∈ k) : l = k := by
  have n1 : l.Nodup := hl.imp (fun h => Nat.ne_of_lt h)
  have n2 : k.Nodup := hk.imp (fun h => Nat.ne_of_lt h)
  exact List.Perm.eq_of_pairwise (le := (· < ·)) (fun a b _ _ h1 h2 => absurd h1 (Nat.lt_asymm h2)) hl hk ((List.perm_ext_iff_of_nodup n1 n2).2 h)
theorem rises_of_le {l : List Nat} (h : l.Pairwise (· ≤ ·)) (hn : l.Nodup) : l.Pairwise (· < ·) :=
  (h.and hn).imp fun ⟨h1, h2⟩ => Nat.lt_of_le_of_ne h1 h2
theorem scc_congr {adj : Nat → List Nat} {n v x : Nat} {r : Nat → Nat → Bool} (hr : IsR adj n r) (hv : v < n) (hx : x < n) (h : Tog adj v x) : scc r n v = scc r n x :=
  rises_eq (scc_rises _ _ _) (scc_rises _ _ _) fun y => by
    rw [mem_scc hr hv, mem_scc hr hx]
    exact ⟨fun ⟨a, b⟩ => ⟨a, h.symm.trans b⟩, fun ⟨a, b⟩ => ⟨a, h.trans b⟩⟩
theorem scc_self {adj : Nat → List Nat} {n v : Nat} {r : Nat → Nat → Bool} (hr : IsR adj n r) (hv : v < n) : v ∈ scc r n v := (mem_scc hr hv).2 ⟨hv, .refl _ _⟩
theorem scc_same {adj : Nat → List Nat} {n v x : Nat} {r : Nat → Nat → Bool} (hr : IsR adj n r) (hv : v < n) (hx : x < n) : scc r n v = scc r n x ↔ Tog adj v x :=
  ⟨fun h => ((mem_scc hr hv).1 (by rw [h]; exact scc_self hr hx)).2, scc_congr hr hv hx⟩
/-- How far the search back is: k are left, M are met, P are the parts. -/
structure Kos (adj : Nat → List Nat) (n : Nat) (r : Nat → Nat → Bool) (O : List Nat) (k : Nat) (M : Nat → Bool) (P : List (List Nat)) : Prop where
  inP : ∀ x, M x = true ↔ ∃ p ∈ P, x ∈ p
  are : ∀ p ∈ P, ∃ a, a < n ∧ p = scc r n a
  nodup : P.Nodup
  done : ∀ x ∈ O.drop k, M x = true
theorem Kos.start (adj : Nat → List Nat) (n : Nat) (r : Nat → Nat → Bool) (O : List Nat) : Kos adj n r O O.length (fun _ => false) [] :=
  ⟨fun x => by simp, by simp, List.nodup_nil, by simp⟩
theorem Kos.closed {adj : Nat → List Nat} {n : Nat} {r : Nat → Nat → Bool} {O : List Nat} {k : Nat} {M : Nat → Bool} {P : List (List Nat)} (hi : InR adj n) (hr : IsR adj n r) (h : Kos adj n r O k M P) {x y : Nat} (hx : M x = true) (ht : Tog adj x y) : M y = true := by
  obtain ⟨p, hp, hxp⟩ := (h.inP x).1 hx
  obtain ⟨a, ha, rfl⟩ := h.are p hp
  obtain ⟨h1, h2⟩ := (mem_scc hr ha).1 hxp
  exact (h.inP y).2 ⟨_, hp, (mem_scc hr ha).2 ⟨(ht.1).lt hi h1, h2.trans ht⟩⟩
/-- The last one put aside is met: its part is those that are met new. -/
theorem Kos.step {adj radj : Nat → List Nat} {n : Nat} {r : Nat → Nat → Bool} {O : List Nat} {k : Nat} {M M' mf : Nat → Bool} {P : List (List Nat)} {N : List Nat} (hi : InR adj n) (hr : IsR adj n r) (ht : c_Trn adj radj)
    (hO : Thr adj (fun _ => false) (List.range n) O mf) (h : Kos adj n r O (k + 1) M P) (hk : k < O.length) (hT : Thr radj M [O.getD k 0] N M') :
    (N = [] → Kos adj n r O k M' P) ∧ (N ≠ [] → ∀ S : List Nat, S.Perm N → S.Pairwise (· ≤ ·) → Kos adj n r O k M' (P ++ [S])) := by
  obtain ⟨f1, f2, f3⟩ := hT.facts
  have hit := hT.iff
  obtain ⟨v, ev⟩ : ∃ v, v = O.getD k 0 := ⟨_, rfl⟩
  rw [← ev] at hit hT
  have hvO : v ∈ O := by rw [ev]; simp [List.getD, List.getElem?_eq_getElem hk]
  have inO : ∀ x, x ∈ O ↔ x < n := fun x => by
    rw [hO.iff]
    constructor
    · rintro ⟨a, ha, h⟩; exact h.reach.lt hi (List.mem_range.1 ha)
    · intro hx; exact ⟨x, List.mem_range.2 hx, .one rfl⟩
  have hv : v < n := (inO v).1 hvO
  have hdr : O.drop k = v :: O.drop (k + 1) := by rw [List.drop_eq_getElem_cons hk, ev]; simp [List.getD, List.getElem?_eq_getElem hk]
  cases hM : M v with
  | true =>
    have hN : N = [] := by
      cases hN : N with
      | nil => rfl
      | cons x t =>
        obtain ⟨a, ha, hp⟩ := (hit x).1 (by rw [hN]; simp)
        obtain rfl : a = v := by simpa using ha
        have := hp.head
        rw [hM] at this; cases this
    refine ⟨fun _ => ?_, fun h => absurd hN h⟩
    have e : ∀ x, M' x = true ↔ M x = true := fun x => by rw [f1 x, hN]; simp
    refine ⟨fun x => by rw [e, h.inP], h.are, h.nodup, fun x hx => ?_⟩
    rw [hdr] at hx
    rcases List.mem_cons.1 hx with rfl | hx
    · exact (e x).2 hM
    · exact (e x).2 (h.done x hx)
  | false =>
    have hvN : v ∈ N := (hit v).2 ⟨v, by simp, .one hM⟩
    have key : ∀ x, x ∈ N ↔ x ∈ scc r n v := fun x => by
      rw [mem_scc hr hv, hit]
      constructor
      · rintro ⟨a, ha, hp⟩
        obtain rfl : a = v := by simpa using ha
        have hq : WP adj M x a := (WP.turn_iff ht).1 hp
        have hx : x < n := hq.reach.lt' hi hv
        refine ⟨hx, ?_, hq.reach⟩
        obtain ⟨z, ⟨A, B, e, hz⟩, z1, z2⟩ := hO.order x a ((inO x).2 hx) hq.reach
        have hzM : M z = false := by
          cases e2 : M z with
          | false => rfl
          | true =>
            have := h.closed hi hr e2 (y := x) ⟨z2, z1⟩
            rw [hq.head] at this; cases this
        have nd := hO.facts.2.2
        have hzk : z = a := by
          rcases hz with hz | hz
          · exact hz.symm
          · exfalso
            have hlen : A.length ≤ k ∨ k < A.length := by omega
            have hge : O[k]? = some a := by rw [ev]; simp [List.getD, List.getElem?_eq_getElem hk]
            obtain ⟨j, hj, ej⟩ := List.getElem_of_mem hz
            have hja : O[j]? = some a := by rw [e, List.getElem?_append_left hj, List.getElem?_eq_getElem hj, ej]
            have hjk : j = k := (List.getElem?_inj hk nd).1 (hge.trans hja.symm) |>.symm
            have hzd : z ∈ O.drop (k + 1) := by
              have hz2 : O[A.length]? = some z := by rw [e]; simp
              refine List.mem_iff_getElem?.2 ⟨A.length - (k + 1), ?_⟩
              rw [List.getElem?_drop, show k + 1 + (A.length - (k + 1)) = A.length by omega]
              exact hz2
            rw [h.done z hzd] at hzM; cases hzM
        rw [← hzk]; exact z2
      · rintro ⟨hx, h1, h2⟩
        refine ⟨v, by simp, (WP.turn_iff ht).2 ?_⟩
        -- all on the way are of the part, and none of the part is met
        have : ∀ a b, Reach adj a b → Reach adj v a → Reach adj b v → WP adj M a b := by
          intro a b hab
          induction hab with
          | @one a _ =>
            intro h3 h4
            refine .one ?_
            cases e : M a with
            | false => rfl
            | true => rw [h.closed hi hr e (y := v) ⟨h4, h3⟩] at hM; cases hM
          | @step a b c _ h5 h6 ih =>
            intro h3 h4
            refine .step ?_ h5 (ih (h3.trans (.step rfl h5 (.one rfl))) h4)
            cases e : M a with
            | false => rfl
            | true => rw [h.closed hi hr e (y := v) ⟨(WP.step rfl h5 h6).trans h4, h3⟩] at hM; cases hM
        exact this x v h2 h1 (.refl _ _)
    refine ⟨fun hN => (by rw [hN] at hvN; cases hvN), fun _ S hS hs => ?_⟩
    have eS : S = scc r n v := rises_eq (rises_of_le hs (hS.nodup_iff.2 f3)) (scc_rises _ _ _) fun x => by rw [hS.mem_iff, key]
    subst eS
    refine ⟨fun x => ?_, fun p hp => ?_, ?_, fun x hx => ?_⟩
    · rw [f1, h.inP, key]
      simp only [List.mem_append, List.mem_singleton]
      constructor
      · rintro (⟨p, hp, h⟩ | h)
        · exact ⟨p, .inl hp, h⟩
        · exact ⟨_, .inr rfl, h⟩
      · rintro ⟨p, hp | rfl, h⟩
        · exact .inl ⟨p, hp, h⟩
        · exact .inr h
    · rcases List.mem_append.1 hp with hp | hp
      · exact h.are p hp
      · exact ⟨v, hv, by simpa using hp⟩
    · refine List.nodup_append.2 ⟨h.nodup, by simp, fun p hp q hq e => ?_⟩
      obtain rfl : q = scc r n v := by simpa using hq
      subst e
      rw [(h.inP v).2 ⟨_, hp, scc_self hr hv⟩] at hM; cases hM
    · rw [hdr] at hx
      rcases List.mem_cons.1 hx with rfl | hx
      · exact (f1 x).2 (.inr hvN)
      · exact (f1 x).2 (.inl (h.done x hx))
/-- Each part has a c_least number. -/
theorem least_of {adj : Nat → List Nat} {n : Nat} {r : Nat → Nat → Bool} (hr : IsR adj n r) : ∀ a, a < n → ∃ b, b ≤ a ∧ c_least r b = true ∧ Tog adj b a := by
  intro a
  induction a using Nat.strongRecOn with
  | ind a ih =>
    intro ha
    cases h : c_least r a with
    | true => exact ⟨a, Nat.le_refl _, h, .refl _ _⟩
    | false =>
      simp only [c_least, List.all_eq_false, List.mem_range] at h
      obtain ⟨b, hb, h⟩ := h
      simp at h
      obtain ⟨c, h1, h2, h3⟩ := ih b hb (by omega)
      exact ⟨c, by omega, h2, h3.trans ⟨(hr _ _ (by omega) ha).1 h.2, (hr _ _ ha (by omega)).1 h.1⟩⟩
theorem least_iff {adj : Nat → List Nat} {n a : Nat} {r : Nat → Nat → Bool} (hr : IsR adj n r) (ha : a < n) : c_least r a = true ↔ ∀ b, b < a → ¬ Tog adj a b := by
  simp only [c_least, List.all_eq_true, List.mem_range]
  refine forall_congr' fun b => forall_congr' fun hb => ?_
  have h1 := hr a b ha (by omega)
  have h2 := hr b a (by omega) ha
  unfold Tog
  rw [← h1, ← h2]
  cases r a b <;> cases r b a <;> simp
theorem scc_head {adj : Nat → List Nat} {n a : Nat} {r : Nat → Nat → Bool} (hr : IsR adj n r) (ha : a < n) (hl : c_least r a = true) : (scc r n a).getD 0 0 = a := by
  have hm := scc_self hr ha
  have hs := scc_rises r n a
  cases e : scc r n a with
  | nil => rw [e] at hm; cases hm
  | cons x t =>
    rw [e] at hs hm
    have hx : x ∈ scc r n a := by rw [e]; simp
    obtain ⟨h1, h2⟩ := (mem_scc hr ha).1 hx
    rcases List.mem_cons.1 hm with h | h
    · exact h.symm
    · exact absurd h2 ((least_iff hr ha).1 hl x ((List.pairwise_cons.1 hs).1 a h))
theorem mem_sccs {adj : Nat → List Nat} {n : Nat} {r : Nat → Nat → Bool} (hr : IsR adj n r) (p : List Nat) : p ∈ sccs r n ↔ ∃ a, a < n ∧ p = scc r n a := by
  simp only [sccs, List.mem_map, List.mem_filter, List.mem_range]
  constructor
  · rintro ⟨a, ⟨h, _⟩, rfl⟩; exact ⟨a, h, rfl⟩
  · rintro ⟨a, h, rfl⟩
    obtain ⟨b, h1, h2, h3⟩ := least_of hr a h
    exact ⟨b, ⟨by omega, h2⟩, scc_congr hr (by omega) h h3⟩
/-- By their c_least numbers: they rise. -/
theorem sccs_rise {adj : Nat → List Nat} {n : Nat} {r : Nat → Nat → Bool} (hr : IsR adj n r) : (sccs r n).Pairwise fun p q => p.getD 0 0 < q.getD 0 0 := by
  unfold sccs
  rw [List.pairwise_map]
  have h : ((List.range n).filter (c_least r)).Pairwise (· < ·) := List.Pairwise.filter _ List.pairwise_lt_range
  refine h.imp_of_mem fun {a b} ha hb hab => ?_
  obtain ⟨ha, hla⟩ := List.mem_filter.1 ha
  obtain ⟨hb, hlb⟩ := List.mem_filter.1 hb
  rw [scc_head hr (List.mem_range.1 ha) hla, scc_head hr (List.mem_range.1 hb) hlb]
  exact hab
theorem sccs_nodup {adj : Nat → List Nat} {n : Nat} {r : Nat → Nat → Bool} (hr : IsR adj n r) : (sccs r n).Nodup := (sccs_rise hr).imp fun h e => by rw [e] at h; omega
theorem Kos.perm {adj : Nat → List Nat} {n : Nat} {r : Nat → Nat → Bool} {O : List Nat} {M mf : Nat → Bool} {P : List (List Nat)} (hr : IsR adj n r)
    (hO : Thr adj (fun _ => false) (List.range n) O mf) (h : Kos adj n r O 0 M P) : P.Perm (sccs r n) := by
  refine (List.perm_ext_iff_of_nodup h.nodup (sccs_nodup hr)).2 fun p => ?_
  rw [mem_sccs hr]
  refine ⟨h.are p, ?_⟩
  rintro ⟨a, ha, rfl⟩
  have haO : a ∈ O := (hO.iff a).2 ⟨a, List.mem_range.2 ha, .one rfl⟩
  obtain ⟨p, hp, hap⟩ := (h.inP a).1 (h.done a haO)
  obtain ⟨b, hb, rfl⟩ := h.are p hp
  rw [← scc_congr hr hb ha ((mem_scc hr hb).1 hap).2]
  exact hp
/-- Parts that rise by their first numbers are the parts. -/
theorem sccs_of {adj : Nat → List Nat} {n : Nat} {r : Nat → Nat → Bool} (hr : IsR adj n r) {P Q : List (List Nat)} (hP : P.Perm (sccs r n)) (hQ : Q.Perm P) (hs : Q.Pairwise fun p q => p.getD 0 0 ≤ q.getD 0 0) : Q = sccs r n := by
  have hR := sccs_rise hr
  refine List.Perm.eq_of_pairwise (le := fun p q : List Nat => p.getD 0 0 ≤ q.getD 0 0) (fun a b ha hb h1 h2 => ?_) hs (hR.imp Nat.le_of_lt) (hQ.trans hP)
  have ha' := ((hQ.trans hP).mem_iff).1 ha
  by_cases e : a = b
  · exact e
  · exfalso
    have hne : a.getD 0 0 ≠ b.getD 0 0 := by
      obtain ⟨i, hi, rfl⟩ := List.getElem_of_mem ha'
      obtain ⟨j, hj, rfl⟩ := List.getElem_of_mem hb
      rcases Nat.lt_trichotomy i j with h | h | h
      · exact Nat.ne_of_lt (List.pairwise_iff_getElem.1 hR i j hi hj h)
      · subst h; exact absurd rfl e
      · exact (Nat.ne_of_lt (List.pairwise_iff_getElem.1 hR j i hj hi h)).symm
    omega
end Go.Proofs.YtmlaepbmdfmgbaaGreat
namespace Go.Proofs.YtmlaepbmdfmgbaaGreat
/-- Who leads to whom, one behind the other. -/
def lnk (adj : Nat → List Nat) (n : Nat) : List (Nat × Nat) := (List.range n).flatMap fun a => (adj a).map fun b => (a, b)
/-- The place of a number's part. -/
def ofP (S : List (List Nat)) (a : Nat) : Nat := S.findIdx fun p => p.contains a
theorem mem_lnk {adj : Nat → List Nat} {n a b : Nat} (hi : InR adj n) : (a, b) ∈ lnk adj n ↔ b ∈ adj a := by
  simp only [lnk, List.mem_flatMap, List.mem_range, List.mem_map, Prod.mk.injEq]
  constructor
  · rintro ⟨x, _, y, h, rfl, rfl⟩; exact h
  · intro h; exact ⟨a, (hi a b h).1, b, h, rfl, rfl⟩
theorem lnk_lt {adj : Nat → List Nat} {n : Nat} (hi : InR adj n) {e : Nat × Nat} (h : e ∈ lnk adj n) : e.1 < n ∧ e.2 < n := hi _ _ ((mem_lnk hi (a := e.1) (b := e.2)).1 h)
theorem ofP_lt {adj : Nat → List Nat} {n a : Nat} {r : Nat → Nat → Bool} (hr : IsR adj n r) (ha : a < n) : ofP (sccs r n) a < (sccs r n).length :=
  List.findIdx_lt_length_of_exists ⟨scc r n a, (mem_sccs hr _).2 ⟨a, ha, rfl⟩, by simpa using scc_self hr ha⟩
theorem ofP_mem {adj : Nat → List Nat} {n a : Nat} {r : Nat → Nat → Bool} (hr : IsR adj n r) (ha : a < n) : (sccs r n).getD (ofP (sccs r n) a) [] = scc r n a := by
  have h := ofP_lt hr ha
  have h2 : ((sccs r n)[ofP (sccs r n) a]).contains a = true := List.findIdx_getElem (p := fun p : List Nat => p.contains a) (w := h)
  have h3 : (sccs r n)[ofP (sccs r n) a] ∈ sccs r n := List.getElem_mem h
  obtain ⟨b, hb, e⟩ := (mem_sccs hr _).1 h3
  simp only [List.getD, List.getElem?_eq_getElem h, Option.getD_some]
  rw [e] at h2 ⊢
  exact scc_congr hr hb ha ((mem_scc hr hb).1 (by simpa using h2)).2
/-- The place of a part is that of each of its numbers. -/
theorem ofP_at {adj : Nat → List Nat} {n a p : Nat} {r : Nat → Nat → Bool} (hr : IsR adj n r) (hp : p < (sccs r n).length) (ha : a ∈ (sccs r n).getD p []) : a < n ∧ ofP (sccs r n) a = p := by
  have hR := sccs_rise hr
  have e : (sccs r n).getD p [] = (sccs r n)[p] := by simp [List.getD, List.getElem?_eq_getElem hp]
  rw [e] at ha
  obtain ⟨b, hb, e2⟩ := (mem_sccs hr _).1 (List.getElem_mem hp)
  rw [e2] at ha
  obtain ⟨h1, h2⟩ := (mem_scc hr hb).1 ha
  refine ⟨h1, ?_⟩
  have h3 := ofP_lt hr h1
  have h4 := ofP_mem hr h1
  simp only [List.getD, List.getElem?_eq_getElem h3, Option.getD_some] at h4
  rw [← scc_congr hr hb h1 h2, ← e2] at h4
  rcases Nat.lt_trichotomy (ofP (sccs r n) a) p with h | h | h
  · have := List.pairwise_iff_getElem.1 hR _ _ h3 hp h; rw [h4] at this; omega
  · exact h
  · have := List.pairwise_iff_getElem.1 hR _ _ hp h3 h; rw [h4] at this; omega
theorem ofP_eq {adj : Nat → List Nat} {n a b : Nat} {r : Nat → Nat → Bool} (hr : IsR adj n r) (ha : a < n) (hb : b < n) : ofP (sccs r n) a = ofP (sccs r n) b ↔ Tog adj a b := by
  constructor
  · intro h
    have h1 := ofP_mem hr ha
    rw [h, ofP_mem hr hb] at h1
    exact ((scc_same hr hb ha).1 h1).symm
  · intro h
    exact (ofP_at hr (ofP_lt hr hb) (a := a) (by rw [ofP_mem hr hb]; exact (mem_scc hr hb).2 ⟨ha, h.symm⟩)).2
theorem le_of_all {l : List Nat} {k : Nat} (hn : l.Nodup) (h : ∀ q, q < k → q ∈ l) : k ≤ l.length := by
  have hp : (List.range k).Perm (l.filter fun q => decide (q < k)) := (List.perm_ext_iff_of_nodup List.nodup_range (List.Pairwise.filter _ hn)).2 fun q => by
    rw [List.mem_range, List.mem_filter]
    exact ⟨fun hq => ⟨h q hq, by simpa using hq⟩, fun hq => by simpa using hq.2⟩
  have h1 := hp.length_eq
  have h2 := List.length_filter_le (fun q => decide (q < k)) l
  rw [List.length_range] at h1
  omega
theorem all_of_le {l : List Nat} {k : Nat} (hn : l.Nodup) (h : ∀ q ∈ l, q < k) (hk : l.length = k) {q : Nat} (hq : q < k) : q ∈ l := by
  have hp : l.Perm ((List.range k).filter fun q => l.contains q) := (List.perm_ext_iff_of_nodup hn (List.Pairwise.filter _ List.nodup_range)).2 fun q => by
    rw [List.mem_filter, List.mem_range, List.contains_iff_mem]
    exact ⟨fun hq => ⟨h q hq, hq⟩, fun hq => hq.2⟩
  have h1 := hp.length_eq
  have h2 : ((List.range k).filter fun q => l.contains q).length = (List.range k).length := by rw [← h1, hk, List.length_range]
  have h3 := List.length_filter_eq_length_iff.1 h2 q (List.mem_range.2 hq)
  simpa using h3
/-- How often a part leads to others that are not put. -/
def wt (of : Nat → Nat) (E : List (Nat × Nat)) (pt : Nat → Bool) (q : Nat) : Nat := E.countP fun e => of e.1 == q && of e.2 != q && !pt (of e.2)
/-- May it be put next? -/
def rdy (of : Nat → Nat) (E : List (Nat × Nat)) (pt : Nat → Bool) (q : Nat) : Bool := E.all fun e => !(of e.1 == q) || of e.2 == q || pt (of e.2)
theorem wt_rdy {of : Nat → Nat} {E : List (Nat × Nat)} {pt : Nat → Bool} {q : Nat} : wt of E pt q = 0 ↔ rdy of E pt q = true := by
  simp only [wt, rdy, List.countP_eq_zero, List.all_eq_true]
  refine forall_congr' fun e => forall_congr' fun _ => ?_
  cases h1 : (of e.1 == q) <;> cases h2 : (of e.2 == q) <;> cases pt (of e.2) <;> simp_all
/-- Counts that are lowered for each thing of a row. -/
def decs (W : Nat → Int) (L : List Nat) : Nat → Int := fun q => W q - L.count q
theorem decs_nil (W : Nat → Int) : decs W [] = W := by funext q; simp [decs]
theorem decs_app (W : Nat → Int) (L K : List Nat) : decs W (L ++ K) = decs (decs W L) K := by funext q; simp [decs, List.count_append]; omega
/-- Of each one in a part, who leads to it: their parts. -/
def rows (radj : Nat → List Nat) (of : Nat → Nat) (P : List Nat) : List Nat := (P.flatMap radj).map of
/-- What is known of the counts while parts are put. -/
def Cnt (of : Nat → Nat) (E : List (Nat × Nat)) (k : Nat) (pt : Nat → Bool) (W : Nat → Int) : Prop := ∀ q, q < k → (pt q = false → W q = wt of E pt q) ∧ (pt q = true → W q < 0)
theorem pairs_nodup {f : Nat → List Nat} {g : Nat → Nat → Nat × Nat} (hg : ∀ a b a' b', g a b = g a' b' → a = a' ∧ b = b') (hf : ∀ a, (f a).Nodup) : ∀ {l : List Nat}, l.Nodup → (l.flatMap fun a => (f a).map (g a)).Nodup
  | [], _ => by simp
  | a :: l, h => by
    obtain ⟨h1, h2⟩ := List.nodup_cons.1 h
    rw [List.flatMap_cons]
    refine List.nodup_append.2 ⟨?_, pairs_nodup hg hf h2, fun x hx y hy e => ?_⟩
    · have := hf a
      unfold List.Nodup at this ⊢
      rw [List.pairwise_map]
      exact this.imp fun hne e => hne (hg _ _ _ _ e).2
    · subst e
      obtain ⟨b, _, rfl⟩ := List.mem_map.1 hx
      obtain ⟨a', ha', h3⟩ := List.mem_flatMap.1 hy
      obtain ⟨b', _, e⟩ := List.mem_map.1 h3
      obtain ⟨rfl, _⟩ := hg _ _ _ _ e
      exact h1 ha'
/-- Who leads to those of a part: of each part as often as it leads there. -/
theorem rows_count {adj radj : Nat → List Nat} {n p q : Nat} {r : Nat → Nat → Bool} (hi : InR adj n) (hr : IsR adj n r) (ht : c_Trn adj radj) (hn : ∀ a, (adj a).Nodup) (hn' : ∀ a, (radj a).Nodup) (hp : p < (sccs r n).length) :
    (rows radj (ofP (sccs r n)) ((sccs r n).getD p [])).count q = (lnk adj n).countP fun e => ofP (sccs r n) e.1 == q && ofP (sccs r n) e.2 == p := by
  obtain ⟨S, eS⟩ : ∃ S, S = sccs r n := ⟨_, rfl⟩
  have hat := fun a ha => ofP_at (a := a) hr hp ha
  have hmem : ∀ a, a < n → ofP (sccs r n) a = p → a ∈ (sccs r n).getD p [] := fun a ha e => by rw [← e, ofP_mem hr ha]; exact scc_self hr ha
  have hnp : ((sccs r n).getD p []).Nodup := by
    simp only [List.getD, List.getElem?_eq_getElem hp, Option.getD_some]
    obtain ⟨b, _, e2⟩ := (mem_sccs hr _).1 (List.getElem_mem hp)
    rw [e2]; exact (scc_rises _ _ _).imp (fun h => Nat.ne_of_lt h)
  rw [← eS] at hat hmem hnp ⊢
  generalize S.getD p [] = P at hat hmem hnp
  have e1 : (rows radj (ofP S) P).count q = (P.flatMap fun b => (radj b).map fun a => (a, b)).countP fun e => ofP S e.1 == q := by
    unfold rows
    rw [List.count_eq_countP, List.countP_map, List.countP_flatMap, List.countP_flatMap]
    congr 1
    refine List.map_congr_left fun b _ => ?_
    simp only [Function.comp_def, List.countP_map]
  rw [e1]
  have e2 : (lnk adj n).countP (fun e => ofP S e.1 == q && ofP S e.2 == p) = ((lnk adj n).filter fun e => ofP S e.2 == p).countP fun e => ofP S e.1 == q := by
    rw [List.countP_filter]
  rw [e2]
  refine List.Perm.countP_eq _ ((List.perm_ext_iff_of_nodup (pairs_nodup (g := fun b a => (a, b)) (fun a b a' b' e => by simp at e; exact ⟨e.2, e.1⟩) hn' hnp) (List.Pairwise.filter _ (pairs_nodup (g := fun a b => (a, b)) (fun a b a' b' e => by simp at e; exact e) hn List.nodup_range))).2 fun e => ?_)
  obtain ⟨a, b⟩ := e
  have hl := mem_lnk (n := n) (a := a) (b := b) hi
  rw [List.mem_filter]
  show _ ↔ (a, b) ∈ lnk adj n ∧ _
  rw [hl, ht a b]
  simp only [List.mem_flatMap, List.mem_map, Prod.mk.injEq]
  constructor
  · rintro ⟨b', hb, a', ha, rfl, rfl⟩
    exact ⟨ha, by simpa using (hat _ hb).2⟩
  · rintro ⟨h1, h2⟩
    exact ⟨b, hmem b (hi a b ((ht a b).2 h1)).2 (by simpa using h2), a, h1, rfl, rfl⟩
theorem Cnt.step {adj radj : Nat → List Nat} {n p : Nat} {r : Nat → Nat → Bool} (hi : InR adj n) (hr : IsR adj n r) (ht : c_Trn adj radj) (hn : ∀ a, (adj a).Nodup) (hn' : ∀ a, (radj a).Nodup) (hp : p < (sccs r n).length)
    {pt : Nat → Bool} {W : Nat → Int} (h : Cnt (ofP (sccs r n)) (lnk adj n) (sccs r n).length pt W) (hw : W p = 0) :
    Cnt (ofP (sccs r n)) (lnk adj n) (sccs r n).length (mset pt p) (decs (fun q => if q = p then -1 else W q) (rows radj (ofP (sccs r n)) ((sccs r n).getD p []))) := by
  have hpt : pt p = false := by
    cases e : pt p with
    | false => rfl
    | true => have := (h p hp).2 e; omega
  intro q hq
  obtain ⟨h1, h2⟩ := h q hq
  unfold decs
  by_cases e : q = p
  · subst e
    refine ⟨fun h => (by rw [mset_iff.2 (.inl rfl)] at h; cases h), fun _ => ?_⟩
    show (if q = q then (-1 : Int) else W q) - _ < 0
    rw [if_pos rfl]
    omega
  · show (mset pt p q = false → (if q = p then (-1 : Int) else W q) - _ = _) ∧ (mset pt p q = true → (if q = p then (-1 : Int) else W q) - _ < 0)
    rw [if_neg e]
    refine ⟨fun h3 => ?_, fun h3 => ?_⟩
    · have h4 : pt q = false := (mset_false.1 h3).2
      rw [h1 h4, rows_count hi hr ht hn hn' hp]
      have hsum : wt (ofP (sccs r n)) (lnk adj n) pt q = wt (ofP (sccs r n)) (lnk adj n) (mset pt p) q + (lnk adj n).countP fun e => ofP (sccs r n) e.1 == q && ofP (sccs r n) e.2 == p := by
        unfold wt
        generalize lnk adj n = E
        induction E with
        | nil => rfl
        | cons x E ih =>
          simp only [List.countP_cons, ih]
          have : (if (ofP (sccs r n) x.1 == q && ofP (sccs r n) x.2 != q && !pt (ofP (sccs r n) x.2)) = true then 1 else 0) = (if (ofP (sccs r n) x.1 == q && ofP (sccs r n) x.2 != q && !mset pt p (ofP (sccs r n) x.2)) = true then 1 else 0) + if (ofP (sccs r n) x.1 == q && ofP (sccs r n) x.2 == p) = true then 1 else 0 := by
            by_cases h5 : ofP (sccs r n) x.1 = q
            · by_cases h6 : ofP (sccs r n) x.2 = p
              · have h7 : p ≠ q := fun e2 => e e2.symm
                simp [h5, h6, hpt, mset, h7]
              · simp [h5, h6, mset]
            · simp [h5]
          omega
      omega
    · have h4 : pt q = true := (mset_iff.1 h3).resolve_left e
      have := h2 h4
      omega
/-- As long as one is not put, one may be put. -/
theorem rdy_some {adj : Nat → List Nat} {n : Nat} {r : Nat → Nat → Bool} (hi : InR adj n) (hr : IsR adj n r) {pt : Nat → Bool} {q : Nat} (hq : q < (sccs r n).length) (hn : pt q = false) :
    ∃ p, p < (sccs r n).length ∧ pt p = false ∧ rdy (ofP (sccs r n)) (lnk adj n) pt p = true := by
  have hofe := fun a b ha hb => ofP_eq (a := a) (b := b) hr ha hb
  -- how many one leads on to
  let rc : Nat → Nat := fun a => ((List.range n).filter (r a)).length
  have step : ∀ d a, rc a ≤ d → a < n → pt (ofP (sccs r n) a) = false → ∃ b, b < n ∧ pt (ofP (sccs r n) b) = false ∧ ∀ c, c < n → Reach adj b c → pt (ofP (sccs r n) c) = false → Reach adj c b := by
    intro d
    induction d with
    | zero =>
      intro a hd ha
      exfalso
      have : a ∈ (List.range n).filter (r a) := List.mem_filter.2 ⟨List.mem_range.2 ha, (hr a a ha ha).2 (.refl _ _)⟩
      have := List.length_pos_of_mem this
      simp only [rc] at hd
      omega
    | succ d ih =>
      intro a hd ha hpa
      by_cases hall : ∀ c, c < n → Reach adj a c → pt (ofP (sccs r n) c) = false → Reach adj c a
      · exact ⟨a, ha, hpa, hall⟩
      · simp only [Classical.not_forall] at hall
        obtain ⟨c, hc, h1, h2, h3⟩ := hall
        refine ih c ?_ hc h2
        have sub : (List.range n).filter (r c) = (((List.range n).filter (r a)).filter (r c)) := by
          rw [List.filter_filter]
          refine List.filter_congr fun x hx => ?_
          have hx' := List.mem_range.1 hx
          cases e : r c x with
          | false => simp
          | true => simp [(hr a x ha hx').2 (h1.trans ((hr c x hc hx').1 e))]
        have lt : (((List.range n).filter (r a)).filter (r c)).length < ((List.range n).filter (r a)).length :=
          List.length_filter_lt_length_iff_exists.2 ⟨a, List.mem_filter.2 ⟨List.mem_range.2 ha, (hr a a ha ha).2 (.refl _ _)⟩, fun e => h3 ((hr c a hc ha).1 e)⟩
        rw [← sub] at lt
        show rc c ≤ d
        have hd2 : rc a ≤ d + 1 := hd
        simp only [rc] at hd2 ⊢
        omega
  obtain ⟨a0, ha0, e0⟩ : ∃ a, a < n ∧ ofP (sccs r n) a = q := by
    obtain ⟨b, hb, e⟩ := (mem_sccs hr _).1 (List.getElem_mem hq)
    refine ⟨b, hb, (ofP_at hr hq (a := b) ?_).2⟩
    simp only [List.getD, List.getElem?_eq_getElem hq, Option.getD_some]
    rw [e]; exact scc_self hr hb
  obtain ⟨b, hb, h1, h2⟩ := step (rc a0) a0 (Nat.le_refl _) ha0 (by rw [e0]; exact hn)
  refine ⟨ofP (sccs r n) b, ofP_lt hr hb, h1, ?_⟩
  simp only [rdy, List.all_eq_true]
  rintro ⟨x, y⟩ he
  have hxy := (mem_lnk hi).1 he
  obtain ⟨hx, hy⟩ := hi _ _ hxy
  by_cases h3 : ofP (sccs r n) x = ofP (sccs r n) b
  · cases h4 : pt (ofP (sccs r n) y) with
    | true => simp
    | false =>
      have h5 := (hofe x b hx hb).1 h3
      have h6 : Reach adj b y := h5.2.trans (.step rfl hxy (.one rfl))
      have h7 := h2 y hy h6 h4
      have := (hofe y b hy hb).2 ⟨h7, h6⟩
      simp [this]
  · simp [h3]
/-- The next one. -/
def nxt (rd : (Nat → Bool) → Nat → Bool) (k : Nat) (pt : Nat → Bool) : Nat := ((List.range k).find? fun q => !pt q && rd pt q).getD 0
/-- So many, one behind the other. -/
def ordL (rd : (Nat → Bool) → Nat → Bool) (k : Nat) : Nat → List Nat
  | 0 => []
  | t + 1 => ordL rd k t ++ [nxt rd k fun q => (ordL rd k t).contains q]
def ptO (rd : (Nat → Bool) → Nat → Bool) (k t : Nat) : Nat → Bool := fun q => (ordL rd k t).contains q
theorem ptO_next (rd : (Nat → Bool) → Nat → Bool) (k t : Nat) : ptO rd k (t + 1) = mset (ptO rd k t) (nxt rd k (ptO rd k t)) := by
  funext q
  rw [Bool.eq_iff_iff, mset_iff]
  show (ordL rd k t ++ [nxt rd k (ptO rd k t)]).contains q = true ↔ q = _ ∨ (ordL rd k t).contains q = true
  simp only [List.contains_iff_mem, List.mem_append, List.mem_singleton]
  exact Or.comm
theorem nxt_some {rd : (Nat → Bool) → Nat → Bool} {k : Nat} {pt : Nat → Bool} {p : Nat} (hp : p < k) (h1 : pt p = false) (h2 : rd pt p = true) :
    nxt rd k pt < k ∧ pt (nxt rd k pt) = false ∧ rd pt (nxt rd k pt) = true ∧ ∀ j, j < nxt rd k pt → (pt j = true ∨ rd pt j = false) := by
  unfold nxt
  cases e : (List.range k).find? fun q => !pt q && rd pt q with
  | none =>
    have := List.find?_eq_none.1 e p (List.mem_range.2 hp)
    simp [h1, h2] at this
  | some x =>
    obtain ⟨a1, a2, a3⟩ := List.find?_range_eq_some.1 e
    simp only [Bool.and_eq_true, Bool.not_eq_true'] at a1
    refine ⟨List.mem_range.1 a2, a1.1, a1.2, fun j hj => ?_⟩
    have := a3 j hj
    cases h : pt j <;> cases h' : rd pt j <;> simp_all
theorem nxt_eq {rd : (Nat → Bool) → Nat → Bool} {k : Nat} {pt : Nat → Bool} {p : Nat} (hp : p < k) (h1 : pt p = false) (h2 : rd pt p = true) (h3 : ∀ j, j < p → (pt j = true ∨ rd pt j = false)) : nxt rd k pt = p := by
  obtain ⟨a1, a2, a3, a4⟩ := nxt_some hp h1 h2
  rcases Nat.lt_trichotomy (nxt rd k pt) p with h | h | h
  · rcases h3 _ h with h | h
    · rw [a2] at h; cases h
    · rw [a3] at h; cases h
  · exact h
  · rcases a4 _ h with h | h
    · rw [h1] at h; cases h
    · rw [h2] at h; cases h
/-- There is always one to be put. -/
def Goes (rd : (Nat → Bool) → Nat → Bool) (k : Nat) : Prop := ∀ (pt : Nat → Bool) q, q < k → pt q = false → ∃ p, p < k ∧ pt p = false ∧ rd pt p = true
theorem ordL_length (rd : (Nat → Bool) → Nat → Bool) (k t : Nat) : (ordL rd k t).length = t := by
  induction t with
  | zero => rfl
  | succ t ih => simp [ordL, ih]
theorem ordL_facts {rd : (Nat → Bool) → Nat → Bool} {k : Nat} (hg : Goes rd k) : ∀ t, t ≤ k → (ordL rd k t).Nodup ∧ ∀ q ∈ ordL rd k t, q < k
  | 0, _ => ⟨List.nodup_nil, by simp [ordL]⟩
  | t + 1, ht => by
    obtain ⟨h1, h2⟩ := ordL_facts hg t (by omega)
    have hex : ∃ q, q < k ∧ (ptO rd k t) q = false := by
      refine Classical.byContradiction fun hno => ?_
      have hall : ∀ q, q < k → q ∈ ordL rd k t := fun q hq => by
        cases e : ptO rd k t q with
        | true => simpa [ptO] using e
        | false => exact absurd ⟨q, hq, e⟩ hno
      have := le_of_all h1 hall
      rw [ordL_length] at this
      omega
    obtain ⟨q, hq, hq2⟩ := hex
    obtain ⟨p, hp, p1, p2⟩ := hg _ q hq hq2
    obtain ⟨a1, a2, _, _⟩ := nxt_some hp p1 p2
    have a3 : nxt rd k (ptO rd k t) ∉ ordL rd k t := fun h => by
      have : ptO rd k t (nxt rd k (ptO rd k t)) = true := by simpa [ptO] using h
      rw [a2] at this; cases this
    refine ⟨List.nodup_append.2 ⟨h1, by simp, fun x hx y hy e => ?_⟩, fun x hx => ?_⟩
    · subst e
      have : x = nxt rd k (ptO rd k t) := List.mem_singleton.1 hy
      exact a3 (this ▸ hx)
    · rcases List.mem_append.1 hx with h | h
      · exact h2 x h
      · have : x = nxt rd k (ptO rd k t) := List.mem_singleton.1 h
        rw [this]; exact a1
theorem ordL_more {rd : (Nat → Bool) → Nat → Bool} {k : Nat} (hg : Goes rd k) {t : Nat} (ht : t < k) : ∃ q, q < k ∧ ptO rd k t q = false := by
  refine Classical.byContradiction fun hno => ?_
  have hall : ∀ q, q < k → q ∈ ordL rd k t := fun q hq => by
    cases e : ptO rd k t q with
    | true => simpa [ptO] using e
    | false => exact absurd ⟨q, hq, e⟩ hno
  have := le_of_all (ordL_facts hg t (by omega)).1 hall
  rw [ordL_length] at this
  omega
theorem ordL_next {rd : (Nat → Bool) → Nat → Bool} {k : Nat} (hg : Goes rd k) {t : Nat} (ht : t < k) :
    nxt rd k (ptO rd k t) < k ∧ ptO rd k t (nxt rd k (ptO rd k t)) = false ∧ rd (ptO rd k t) (nxt rd k (ptO rd k t)) = true ∧ ∀ j, j < nxt rd k (ptO rd k t) → (ptO rd k t j = true ∨ rd (ptO rd k t) j = false) := by
  obtain ⟨q, hq, hq2⟩ := ordL_more hg ht
  obtain ⟨p, hp, p1, p2⟩ := hg _ q hq hq2
  exact nxt_some hp p1 p2
theorem ordL_all {rd : (Nat → Bool) → Nat → Bool} {k : Nat} (hg : Goes rd k) {q : Nat} (hq : q < k) : q ∈ ordL rd k k := by
  obtain ⟨h1, h2⟩ := ordL_facts hg k (Nat.le_refl _)
  exact all_of_le h1 h2 (ordL_length _ _ _) hq
theorem ordL_take {rd : (Nat → Bool) → Nat → Bool} {k : Nat} : ∀ {t s : Nat}, s ≤ t → (ordL rd k t).take s = ordL rd k s
  | 0, s, h => by obtain rfl : s = 0 := by omega
                  rfl
  | t + 1, s, h => by
    by_cases e : s = t + 1
    · subst e
      rw [List.take_of_length_le (by rw [ordL_length]; exact Nat.le_refl _)]
    · show (ordL rd k t ++ [_]).take s = _
      rw [List.take_append_of_le_length (by rw [ordL_length]; omega)]
      exact ordL_take (by omega)
theorem ordL_at {rd : (Nat → Bool) → Nat → Bool} {k t s : Nat} (h : s < t) : (ordL rd k t).getD s 0 = nxt rd k (ptO rd k s) := by
  have h1 : (ordL rd k t).take (s + 1) = ordL rd k (s + 1) := ordL_take h
  have h2 : ((ordL rd k t).take (s + 1)).getD s 0 = (ordL rd k t).getD s 0 := by simp [List.getD]
  rw [← h2, h1]
  show (ordL rd k s ++ [nxt rd k (ptO rd k s)]).getD s 0 = _
  have h3 := ordL_length rd k s
  simp only [List.getD]
  rw [List.getElem?_append_right (by omega), h3]
  simp
/-- The parts in their order. -/
def partsOf (adj : Nat → List Nat) (r : Nat → Nat → Bool) (n : Nat) : List (List Nat) :=
  (ordL (rdy (ofP (sccs r n)) (lnk adj n)) (sccs r n).length (sccs r n).length).map fun p => (sccs r n).getD p []
theorem goes_of {adj : Nat → List Nat} {n : Nat} {r : Nat → Nat → Bool} (hi : InR adj n) (hr : IsR adj n r) : Goes (rdy (ofP (sccs r n)) (lnk adj n)) (sccs r n).length :=
  fun _ _ hq hn => rdy_some hi hr hq hn
end Go.Proofs.YtmlaepbmdfmgbaaGreat

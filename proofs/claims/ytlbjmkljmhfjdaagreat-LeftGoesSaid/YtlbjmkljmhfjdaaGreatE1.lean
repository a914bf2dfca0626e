/- What left tells of ways: they are the least ones. -/
import Derived.Test.YtlbjmkljmhfjdaaGreatB7
import Derived.Test.YtlbjmkljmhfjdaaGreatD9
import Derived.Test.YtlbjmkljmhfjdaaGreatD1
import Derived.Test.YtlbjmkljmhfjdaaGreatA3
set_option linter.unusedSimpArgs false
set_option linter.unusedVariables false
namespace Go.Proofs.YtlbjmkljmhfjdaaGreat
open Go Go.RowKit
theorem lcal_rise (g : Gr) (a : Nat) : (lcal g a).Pairwise (· < ·) := by
  unfold lcal callsOf rowOf'
  exact List.Pairwise.filter _ List.pairwise_lt_range
theorem back_way {s : Bf} {W : Nat → List Nat} {i cnt : Nat} {r : Nat → Nat} (h : ∀ k, s.1.getD k false = true → W k = (if s.2.1.getD k 0 = i then [i] else W (s.2.1.getD k 0)) ++ [k])
    (hr : ∀ k, s.1.getD k false = true → r k < cnt ∧ (s.2.1.getD k 0 = i ∨ (s.1.getD (s.2.1.getD k 0) false = true ∧ r (s.2.1.getD k 0) < r k))) : ∀ (f a : Nat), (a = i ∨ (s.1.getD a false = true ∧ r a < f)) → (backF s.2.1 i (f + 1) a).reverse = if a = i then [i] else W a
  | 0, a, ha => by
    have e : a = i := by
      rcases ha with e | ⟨_, e⟩
      · exact e
      · omega
    unfold backF
    rw [if_pos e, if_pos e]; rfl
  | f + 1, a, ha => by
    unfold backF
    by_cases e : a = i
    · rw [if_pos e, if_pos e]; rfl
    · rw [if_neg e, if_neg e, List.reverse_cons]
      obtain ⟨hm, hlt⟩ := ha.resolve_left e
      obtain ⟨_, h2⟩ := hr a hm
      rw [back_way h hr f _ (by
        rcases h2 with h2 | ⟨h2, h3⟩
        · exact .inl h2
        · exact .inr ⟨h2, by omega⟩), ← h a hm]
theorem way_is {g : Gr} (hR : Right g) {i : Nat} (hi : i < g.rules.length) : ∃ W : Nat → List Nat, (∀ k, tB g i k = true → k < 32 → wayOf g i k = W k ∧ Walk (lcal g) i (W k) k) ∧ ∀ p k, Walk (lcal g) i p k → tB g i k = true ∧ sle (W k) p := by
  obtain ⟨W, h1, h2⟩ := bfs_way (lcal32 hR) (lcal_rise g) i
  obtain ⟨r, cnt, hc, hr⟩ := bfs_ranked (lcal32 hR) i
  have hs := srch_yes hR hi
  refine ⟨W, fun k hk h32 => ?_, fun p k hp => ?_⟩
  · unfold tB at hk
    rw [hs] at hk
    refine ⟨?_, (h1 k hk).2⟩
    rw [way_yes (by omega) (by omega) (by rw [hs, Int.toNat_natCast]; exact hk), hs, Int.toNat_natCast, Int.toNat_natCast]
    unfold wayB
    obtain ⟨hk1, hk2⟩ := hr k hk
    rw [List.reverse_cons, back_way (r := r) (cnt := cnt) (fun k hk => (h1 k hk).1) hr 32 _ (by
      rcases hk2 with h | ⟨h, h3⟩
      · exact .inl h
      · exact .inr ⟨h, by omega⟩), ← (h1 k hk).1]
  · unfold tB
    rw [hs]
    exact h2 p k hp
theorem backF_len (ah : List Nat) (i : Nat) : ∀ f a : Nat, (backF ah i f a).length ≤ f
  | 0, _ => by simp [backF]
  | f + 1, a => by
    unfold backF
    split
    · simp
    · have := backF_len ah i f (ah.getD a 0)
      simp only [List.length_cons]; omega
theorem way_le (g : Gr) (i k : Int) : (wayOf g i k).length ≤ 34 := by
  unfold wayOf
  split
  · unfold wayB
    have := backF_len (srch g i).2.1 i.toNat 33 ((srch g i).2.1.getD k.toNat 0)
    simp only [List.length_reverse, List.length_cons]; omega
  · simp
theorem way_none {g : Gr} {i k : Nat} (h : tB g i k = false) : wayOf g i k = [] := by
  rw [way_no (fun hc => by
    have := hc.2.2
    rw [Int.toNat_natCast] at this
    unfold tB at h
    rw [h] at this; cases this)]
theorem way_len {g : Gr} (hR : Right g) {i k : Nat} (hi : i < g.rules.length) (hk : k < g.rules.length) : decide (0 < (wayOf g i k).length) = tB g i k := by
  cases h : tB g i k with
  | false => rw [way_none h]; rfl
  | true =>
    obtain ⟨W, h1, _⟩ := way_is hR hi
    obtain ⟨h2, h3⟩ := h1 k h (Nat.lt_of_lt_of_le hk hR.rules.2)
    rw [h2]
    have := h3.last.2
    exact decide_eq_true (by omega)
theorem way_law {g : Gr} (hR : Right g) {i k : Nat} (hi : i < g.rules.length) (hk : k < g.rules.length) (h : tB g i k = true) : ∃ x t, wayOf g i k = i :: x :: t ∧ x ∈ lcal g i ∧ (i :: x :: t).getD (t.length + 1) 0 = k ∧ (0 < t.length → wayOf g x k = x :: t) ∧ ∀ nx ∈ lcal g i, ∀ far : Nat, (far = if nx = k then 1 else (wayOf g nx k).length) → 0 < far → ¬ far < t.length + 1 ∧ ¬ (far = t.length + 1 ∧ nx < x) := by
  have h32 : k < 32 := Nat.lt_of_lt_of_le hk hR.rules.2
  obtain ⟨W, h1, h2⟩ := way_is hR hi
  obtain ⟨e, hw⟩ := h1 k h h32
  have hmin := fun p hp => (h2 p k hp).2
  rw [← e] at hw hmin
  have hl := hw.last
  -- what lies beyond the first
  have part : ∃ x t, wayOf g i k = i :: x :: t ∧ x ∈ lcal g i ∧ ((t = [] ∧ x = k) ∨ (1 ≤ t.length ∧ Walk (lcal g) x (x :: t) k)) := by
    rcases hw.inv with ⟨e1, e2⟩ | ⟨x, t, e1, e2, e3, e4⟩
    · exact ⟨k, [], e1, e2, .inl ⟨rfl, rfl⟩⟩
    · exact ⟨x, t, e1, e2, .inr ⟨e3, e4⟩⟩
  obtain ⟨x, t, e1, hx, hpart⟩ := part
  have hxr : x < g.rules.length := lcal_lt hx
  refine ⟨x, t, e1, hx, ?_, fun ht => ?_, fun nx hnx far hfar hpos => ?_⟩
  · rw [e1] at hl
    have := hl.1
    rw [List.getLastD_eq_getLast?, List.getLast?_eq_getElem?] at this
    simpa [List.getD] using this
  · rcases hpart with ⟨e3, _⟩ | ⟨_, hwx⟩
    · rw [e3] at ht; simp at ht
    · obtain ⟨Wx, k1, k2⟩ := way_is hR hxr
      obtain ⟨k3, k4⟩ := k2 _ _ hwx
      obtain ⟨k5, k6⟩ := k1 k k3 h32
      rw [k5]
      have := hmin _ (k6.head hx)
      rw [e1] at this
      exact sle_anti k4 (sle_tail this)
  · by_cases en : nx = k
    · rw [if_pos en] at hfar
      have hm := hmin _ (.one (by rw [← en]; exact hnx))
      have hlen := sle_len hm
      rw [e1] at hlen
      simp only [List.length_cons, List.length_nil] at hlen
      refine ⟨by omega, fun hc => ?_⟩
      rcases hpart with ⟨_, e3⟩ | ⟨e3, _⟩
      · omega
      · omega
    · rw [if_neg en] at hfar
      have hnr : nx < g.rules.length := lcal_lt hnx
      have ht : tB g nx k = true := by
        rw [← way_len hR hnr hk]
        exact decide_eq_true (by omega)
      obtain ⟨Wn, k1, k2⟩ := way_is hR hnr
      obtain ⟨k5, k6⟩ := k1 k ht h32
      have hm := hmin _ (k6.head hnx)
      rw [e1] at hm
      have hm2 := sle_tail hm
      have hlen := sle_len hm2
      rw [← k5, ← hfar] at hlen
      simp only [List.length_cons] at hlen
      refine ⟨by omega, fun ⟨c1, c2⟩ => ?_⟩
      have hhead : ∃ t', Wn k = nx :: t' := by
        rcases k6.inv with ⟨e3, _⟩ | ⟨y, t', e3, _⟩
        · exact ⟨_, e3⟩
        · exact ⟨_, e3⟩
      obtain ⟨t', et⟩ := hhead
      rw [et] at hm2
      rcases hm2 with h3 | h3 | ⟨_, h3⟩
      · have := (List.cons.inj h3).1; omega
      · have e4 : (Wn k).length = far := by rw [hfar, k5]
        rw [et] at e4
        simp only [List.length_cons] at h3 e4
        omega
      · unfold lx at h3
        rcases h3 with h3 | ⟨h3, _⟩ <;> omega
end Go.Proofs.YtlbjmkljmhfjdaaGreat
namespace Go.Proofs.YtlbjmkljmhfjdaaGreat
open Go Go.RowKit
/-- How many rules a way to one has; 1: it is it; 0: there is none. -/
noncomputable def fl (g : Gr) (k j : Nat) : Nat := if j = k then 1 else (wayOf g j k).length
theorem fl_self (g : Gr) (k : Nat) : fl g k k = 1 := by unfold fl; rw [if_pos rfl]
theorem fl_none {g : Gr} {k j : Nat} (h : j ≠ k) (ht : tB g j k = false) : fl g k j = 0 := by
  unfold fl; rw [if_neg h, way_none ht]; rfl
theorem fl_yes {g : Gr} (hR : Right g) {k j : Nat} (hj : j < g.rules.length) (hk : k < g.rules.length) (h : 0 < fl g k j) : j = k ∨ tB g j k = true := by
  by_cases e : j = k
  · exact .inl e
  · right
    unfold fl at h
    rw [if_neg e] at h
    rw [← way_len hR hj hk]
    exact decide_eq_true h
/-- The next one. -/
theorem fl_next {g : Gr} (hR : Right g) {i k : Nat} (hi : i < g.rules.length) (hk : k < g.rules.length) (h : tB g i k = true) : ∃ x t, wayOf g i k = i :: x :: t ∧ x ∈ lcal g i ∧ x < g.rules.length ∧ fl g k x = t.length + 1 ∧ (x = k → t = []) ∧ (x ≠ k → wayOf g x k = x :: t ∧ tB g x k = true) ∧ ∀ nx ∈ lcal g i, 0 < fl g k nx → t.length + 1 ≤ fl g k nx ∧ (fl g k nx = t.length + 1 → x ≤ nx) := by
  obtain ⟨x, t, h1, h2, h3, h4, h5⟩ := way_law hR hi hk h
  have hx := lcal_lt h2
  have hxk : x = k → t = [] := fun e => by
    have := (h5 x h2 1 (by rw [if_pos e]) (by omega)).1
    exact List.length_eq_zero_iff.1 (by omega)
  have htx : t = [] → x = k := fun e => by subst e; simpa using h3
  have hxn : x ≠ k → wayOf g x k = x :: t := fun e => h4 (by
    rcases Nat.eq_zero_or_pos t.length with h0 | h0
    · exact absurd (htx (List.length_eq_zero_iff.1 h0)) e
    · exact h0)
  have hfx : fl g k x = t.length + 1 := by
    unfold fl
    by_cases e : x = k
    · rw [if_pos e, hxk e]; rfl
    · rw [if_neg e, hxn e]; rfl
  refine ⟨x, t, h1, h2, hx, hfx, hxk, fun e => ⟨hxn e, ?_⟩, fun nx hn h0 => ?_⟩
  · rw [← way_len hR hx hk, hxn e]
    exact decide_eq_true (by simp)
  · have := h5 nx hn (fl g k nx) rfl h0
    exact ⟨by omega, fun e => by
      rcases Nat.lt_or_ge nx x with hl | hl
      · exact absurd ⟨e, hl⟩ this.2
      · exact hl⟩
theorem fl_no {g : Gr} (hR : Right g) {i k : Nat} (hi : i < g.rules.length) (hk : k < g.rules.length) (h : tB g i k = false) : ∀ nx ∈ lcal g i, fl g k nx = 0 := by
  intro nx hn
  rcases Nat.eq_zero_or_pos (fl g k nx) with h0 | h0
  · exact h0
  · exfalso
    have : tB g i k = true := (tB_iff hR hi).2 (by
      rcases fl_yes hR (lcal_lt hn) hk h0 with e | e
      · exact .one (by rw [← e]; exact hn)
      · exact .head hn ((tB_iff hR (lcal_lt hn)).1 e))
    rw [h] at this; cases this
theorem fl_two {g : Gr} (hR : Right g) {i k : Nat} (hi : i < g.rules.length) (hk : k < g.rules.length) (hne : i ≠ k) (h : 0 < fl g k i) : 2 ≤ fl g k i := by
  rcases fl_yes hR hi hk h with e | e
  · exact absurd e hne
  · obtain ⟨x, t, h1, _⟩ := fl_next hR hi hk e
    unfold fl
    rw [if_neg hne, h1]
    simp
theorem nodup_le : ∀ (R : Nat) (l : List Nat), l.Nodup → (∀ y ∈ l, y < R) → l.length ≤ R
  | 0, l, _, h => by
    cases l with
    | nil => simp
    | cons a l => have := h a (List.mem_cons_self ..); omega
  | R + 1, l, hn, h => by
    by_cases hm : R ∈ l
    · have h1 := nodup_le R (l.erase R) (hn.erase R) (fun y hy => by
        have := (hn.mem_erase_iff).1 hy
        have h2 := h y this.2
        have h3 := this.1
        omega)
      rw [List.length_erase_of_mem hm] at h1
      omega
    · have := nodup_le R l hn (fun y hy => by
        have h2 := h y hy
        have : y ≠ R := fun e => hm (e ▸ hy)
        omega)
      omega
theorem fl_chain {g : Gr} (hR : Right g) {k : Nat} (hk : k < g.rules.length) : ∀ (n i : Nat), i < g.rules.length → fl g k i = n + 1 → ∃ l : List Nat, l.length = n + 1 ∧ l.Nodup ∧ ∀ y ∈ l, y < g.rules.length ∧ fl g k y ≤ n + 1
  | 0, i, hi, h => ⟨[i], rfl, by simp, fun y hy => by
    obtain rfl : y = i := by simpa using hy
    exact ⟨hi, by omega⟩⟩
  | n + 1, i, hi, h => by
    have hne : i ≠ k := fun e => by rw [e, fl_self] at h; omega
    rcases fl_yes hR hi hk (by omega) with e | e
    · exact absurd e hne
    · obtain ⟨x, t, h1, _, h3, h4, _⟩ := fl_next hR hi hk e
      have hf : fl g k i = t.length + 2 := by unfold fl; rw [if_neg hne, h1]; rfl
      obtain ⟨l, l1, l2, l3⟩ := fl_chain hR hk n x h3 (by omega)
      refine ⟨i :: l, by simp [l1], List.nodup_cons.2 ⟨fun hm => ?_, l2⟩, fun y hy => ?_⟩
      · have := (l3 i hm).2; omega
      · rcases List.mem_cons.1 hy with rfl | hy
        · exact ⟨hi, by omega⟩
        · have := l3 y hy; exact ⟨this.1, by omega⟩
theorem fl_le {g : Gr} (hR : Right g) {i k : Nat} (hi : i < g.rules.length) (hk : k < g.rules.length) : fl g k i ≤ g.rules.length := by
  rcases Nat.eq_zero_or_pos (fl g k i) with h0 | h0
  · omega
  · obtain ⟨l, l1, l2, l3⟩ := fl_chain hR hk (fl g k i - 1) i hi (by omega)
    have := nodup_le g.rules.length l l2 (fun y hy => (l3 y hy).1)
    omega
/-- What is known of the distances when so many rounds are done. -/
noncomputable def farD (g : Gr) (k d j : Nat) : Int := if 0 < fl g k j ∧ fl g k j ≤ d + 1 then (fl g k j : Int) - 1 else -1
noncomputable def away (g : Gr) (k j : Nat) : Int := (fl g k j : Int) - 1
theorem farD_zero {g : Gr} (hR : Right g) {k j : Nat} (hj : j < g.rules.length) (hk : k < g.rules.length) : farD g k 0 j = if j = k then 0 else -1 := by
  unfold farD
  by_cases e : j = k
  · rw [if_pos e, e, fl_self]; rfl
  · rw [if_neg e, if_neg (fun h => ?_)]
    have := fl_two hR hj hk e h.1
    omega
theorem farD_all {g : Gr} (hR : Right g) {k j : Nat} (hj : j < g.rules.length) (hk : k < g.rules.length) {d : Nat} (hd : g.rules.length ≤ d + 1) : farD g k d j = away g k j := by
  have := fl_le hR hj hk
  unfold farD away
  by_cases h : 0 < fl g k j
  · rw [if_pos ⟨h, by omega⟩]
  · rw [if_neg (fun h2 => h h2.1)]; omega
theorem farD_is {g : Gr} {k d j : Nat} : farD g k (d + 1) j = d ↔ fl g k j = d + 1 := by
  unfold farD
  split
  · omega
  · constructor
    · intro h; omega
    · intro h; omega
theorem farD_was {g : Gr} {k d j : Nat} : farD g k d j = d ↔ fl g k j = d + 1 := by
  unfold farD
  split
  · omega
  · constructor
    · intro h; omega
    · intro h; omega
theorem farD_keep {g : Gr} {k d j : Nat} (h : 0 ≤ farD g k d j) : farD g k (d + 1) j = farD g k d j := by
  unfold farD at *
  split at h
  · rename_i hh
    rw [if_pos hh, if_pos ⟨hh.1, by omega⟩]
  · omega
theorem farD_new {g : Gr} (hR : Right g) {k d i : Nat} (hi : i < g.rules.length) (hk : k < g.rules.length) (h : farD g k d i < 0) : farD g k (d + 1) i = if (∃ nx ∈ lcal g i, fl g k nx = d + 1) then (d : Int) + 1 else -1 := by
  have h0 : ¬ (0 < fl g k i ∧ fl g k i ≤ d + 1) := by
    intro hc
    unfold farD at h
    rw [if_pos hc] at h
    omega
  have hik : i ≠ k := fun e => h0 (by rw [e, fl_self]; omega)
  have key : fl g k i = d + 2 ↔ ∃ nx ∈ lcal g i, fl g k nx = d + 1 := by
    constructor
    · intro hf
      rcases fl_yes hR hi hk (by omega) with e | e
      · exact absurd e hik
      · obtain ⟨x, t, h1, h2, _, h4, _⟩ := fl_next hR hi hk e
        have hfi : fl g k i = t.length + 2 := by unfold fl; rw [if_neg hik, h1]; rfl
        exact ⟨x, h2, by omega⟩
    · rintro ⟨nx, hn, hf⟩
      cases ht : tB g i k with
      | false => have := fl_no hR hi hk ht nx hn; omega
      | true =>
        obtain ⟨x, t, h1, _, _, _, _, _, h7⟩ := fl_next hR hi hk ht
        have hfi : fl g k i = t.length + 2 := by unfold fl; rw [if_neg hik, h1]; rfl
        have := (h7 nx hn (by omega)).1
        omega
  unfold farD
  by_cases hh : fl g k i = d + 2
  · rw [if_pos (key.1 hh), if_pos ⟨by omega, by omega⟩]
    omega
  · rw [if_neg (fun h => hh (key.2 h)), if_neg (fun h => by omega)]
/-- A round that is under way: so many rows are done. -/
noncomputable def farM (g : Gr) (k d i j : Nat) : Int := if j < i then farD g k (d + 1) j else farD g k d j
theorem farM_is {g : Gr} {k d i j : Nat} : farM g k d i j = d ↔ fl g k j = d + 1 := by
  unfold farM
  split
  · exact farD_is
  · exact farD_was
/-- The best one of the first so many. -/
def Best (a : Nat → Nat) (c : List Nat) (p : Nat) (b : Int) : Prop :=
  (b = -1 ∧ ∀ q, q < p → a (c.getD q 0) = 0) ∨ ∃ s, s < p ∧ b = (c.getD s 0 : Nat) ∧ 0 < a (c.getD s 0) ∧ ∀ q, q < p → 0 < a (c.getD q 0) → a (c.getD s 0) ≤ a (c.getD q 0) ∧ (q < s → a (c.getD s 0) < a (c.getD q 0))
theorem Best.zero (a : Nat → Nat) (c : List Nat) : Best a c 0 (-1) := .inl ⟨rfl, fun q hq => by omega⟩
theorem Best.stay {a : Nat → Nat} {c : List Nat} {p : Nat} {b : Int} (h : Best a c p b) (hn : a (c.getD p 0) = 0 ∨ (0 ≤ b ∧ a b.toNat ≤ a (c.getD p 0))) : Best a c (p + 1) b := by
  rcases h with ⟨h1, h2⟩ | ⟨s, h1, h2, h3, h4⟩
  · refine .inl ⟨h1, fun q hq => ?_⟩
    by_cases e : q = p
    · subst e
      rcases hn with hn | hn
      · exact hn
      · omega
    · exact h2 q (by omega)
  · refine .inr ⟨s, by omega, h2, h3, fun q hq h0 => ?_⟩
    by_cases e : q = p
    · subst e
      rcases hn with hn | hn
      · omega
      · rw [h2, Int.toNat_natCast] at hn
        exact ⟨hn.2, fun h => by omega⟩
    · exact h4 q (by omega) h0
theorem Best.take {a : Nat → Nat} {c : List Nat} {p : Nat} {b : Int} (h : Best a c p b) (h0 : 0 < a (c.getD p 0)) (hn : b < 0 ∨ a (c.getD p 0) < a b.toNat) : Best a c (p + 1) (c.getD p 0 : Nat) := by
  refine .inr ⟨p, by omega, rfl, h0, fun q hq hq0 => ?_⟩
  by_cases e : q = p
  · subst e; exact ⟨Nat.le_refl _, fun h => by omega⟩
  · rcases h with ⟨h1, h2⟩ | ⟨s, h1, h2, h3, h4⟩
    · have := h2 q (by omega); omega
    · rw [h2, Int.toNat_natCast] at hn
      have := (h4 q (by omega) hq0).1
      exact ⟨by omega, fun _ => by omega⟩
noncomputable def nxt (g : Gr) (i k : Nat) : Int := match wayOf g i k with
  | _ :: x :: _ => (x : Int)
  | _ => -1
theorem nxt_none {g : Gr} {i k : Nat} (h : tB g i k = false) : nxt g i k = -1 := by
  unfold nxt; rw [way_none h]
theorem best_nxt {g : Gr} (hR : Right g) {i k : Nat} (hi : i < g.rules.length) (hk : k < g.rules.length) {b : Int} (h : Best (fl g k) (lcal g i) (lcal g i).length b) : b = nxt g i k := by
  cases ht : tB g i k with
  | false =>
    rw [nxt_none ht]
    rcases h with ⟨h1, _⟩ | ⟨s, h1, _, h3, _⟩
    · exact h1
    · have := fl_no hR hi hk ht ((lcal g i).getD s 0) (by simp [List.getD, List.getElem?_eq_getElem h1])
      omega
  | true =>
    obtain ⟨x, t, h1, h2, h3, h4, _, _, h7⟩ := fl_next hR hi hk ht
    have e : nxt g i k = x := by unfold nxt; rw [h1]
    rw [e]
    obtain ⟨q, hq, eq⟩ := List.getElem_of_mem h2
    have eq2 : (lcal g i).getD q 0 = x := by simp [List.getD, List.getElem?_eq_getElem hq, eq]
    rcases h with ⟨_, hz⟩ | ⟨s, s1, s2, s3, s4⟩
    · have := hz q hq
      rw [eq2] at this; omega
    · rw [s2]
      have hs := s4 q hq (by rw [eq2]; omega)
      rw [eq2] at hs
      have hsm : (lcal g i).getD s 0 ∈ lcal g i := by simp [List.getD, List.getElem?_eq_getElem s1]
      have hm := h7 _ hsm s3
      have hx := hm.2 (by omega)
      by_cases el : (lcal g i).getD s 0 = x
      · rw [el]
      · exfalso
        have hlt : x < (lcal g i).getD s 0 := by omega
        have hqs : q < s := by
          rcases Nat.lt_or_ge q s with h | h
          · exact h
          · exfalso
            rcases Nat.eq_or_lt_of_le h with h | h
            · subst h; exact el eq2
            · have := (List.pairwise_iff_getElem.1 (lcal_rise g i)) s q s1 hq h
              simp only [List.getD, List.getElem?_eq_getElem s1, Option.getD_some] at hlt
              rw [eq] at this
              omega
        have := hs.2 hqs
        omega
/-- What is still to be told of a way. -/
noncomputable def rest (g : Gr) (k a : Nat) : List Nat := if a = k then [k] else wayOf g a k
theorem rest_next {g : Gr} (hR : Right g) {i k : Nat} (hi : i < g.rules.length) (hk : k < g.rules.length) (h : tB g i k = true) : ∃ x : Nat, nxt g i k = x ∧ x < g.rules.length ∧ wayOf g i k = i :: rest g k x ∧ (x = k ∨ tB g x k = true) := by
  obtain ⟨x, t, h1, h2, h3, h4, h5, h6, _⟩ := fl_next hR hi hk h
  refine ⟨x, by unfold nxt; rw [h1], h3, ?_, ?_⟩
  · rw [h1]
    unfold rest
    by_cases e : x = k
    · rw [if_pos e, h5 e, e]
    · rw [if_neg e, (h6 e).1]
  · by_cases e : x = k
    · exact .inl e
    · exact .inr (h6 e).2
theorem nxt_nonneg {g : Gr} (hR : Right g) {i k : Nat} (hi : i < g.rules.length) (hk : k < g.rules.length) : decide (0 ≤ nxt g i k) = tB g i k := by
  cases h : tB g i k with
  | false => rw [nxt_none h]; rfl
  | true =>
    obtain ⟨x, h1, _⟩ := rest_next hR hi hk h
    rw [h1]; exact decide_eq_true (by omega)
theorem to_row {g : Gr} (hR : Right g) {i : Nat} (hi : i < g.rules.length) : toOf g i = rowOf' g.rules.length (fun k => decide (0 ≤ nxt g i k)) := by
  have h32 := hR.rules.2
  have e1 : toOf g i = rowOf' 32 (tB g i) := rfl
  rw [e1]
  have e2 : rowOf' g.rules.length (fun k => decide (0 ≤ nxt g i k)) = rowOf' g.rules.length (tB g i) := rowOf_congr fun k hk => nxt_nonneg hR hi hk
  rw [e2]
  have : ∀ n, g.rules.length + n ≤ 32 → rowOf' (g.rules.length + n) (tB g i) = rowOf' g.rules.length (tB g i) := by
    intro n
    induction n with
    | zero => intro _; rfl
    | succ n ih =>
      intro hn
      rw [show g.rules.length + (n + 1) = (g.rules.length + n) + 1 by omega, rowOf_succ, ih (by omega)]
      have hf : tB g i (g.rules.length + n) = false := by
        cases hh : tB g i (g.rules.length + n) with
        | false => rfl
        | true => have := ((tB_iff hR hi).1 hh).lt; omega
      rw [hf]; simp
  have := this (32 - g.rules.length) (by omega)
  rw [show g.rules.length + (32 - g.rules.length) = 32 by omega] at this
  exact this
end Go.Proofs.YtlbjmkljmhfjdaaGreat
namespace Go.Proofs.YtlbjmkljmhfjdaaGreat
open Go Go.Proofs Go.RowKit Go.Lib Go.Maps
/-- A mark. -/
def mrk (k i : Nat) : Int := 1000003 * ((k : Int) + 7) + i
def marks (j : Nat) : List Value := (List.range j).map fun i => .int .i64 (mrk 1 i)
theorem marks_next (j : Nat) : marks (j + 1) = marks j ++ [.int .i64 (mrk 1 j)] := by simp [marks, List.range_succ]
theorem marks_len (j : Nat) : (marks j).length = j := by simp [marks]
theorem xmark_any (k i : Nat) (hk : k ≤ 100000) (hi : i ≤ 100000) (w : World) : Calls Tryz.prog 184 #[.int .i64 k, .int .i64 i] w fun e w' => e = .returned (.int .i64 (mrk k i)) ∧ w' = w := by
  have h1 : IntKind.i64.wrap ((k : Int) + 7) = (k : Int) + 7 := IntWalk.i64_in _ (by omega)
  have h2 : IntKind.i64.wrap (1000003 * ((k : Int) + 7)) = 1000003 * ((k : Int) + 7) := IntWalk.i64_in _ (by omega)
  have h3 : IntKind.i64.wrap (1000003 * ((k : Int) + 7) + i) = mrk k i := by rw [IntWalk.i64_in _ (by omega)]; rfl
  go_enter Tryz.func184, Tryz.ntmps184
  go_wp2_with fail
  go_ret
  exact ⟨rfl, rfl⟩
theorem own_room (w : World) (cap : Nat) (cs : Array Value) (hc : cs.size = cap) (hn : cap ≤ maxLen) : (w.alloc (.cells cs 3)).ownsRow w.heap.size 3 1 (.slice (some ⟨w.heap.size, 0, none⟩) 0 cap) 0 [] :=
  ⟨rfl, .inr ⟨w.heap.size, cap, cs, rfl, Nat.le_refl _, Blk.new _ _ _, by omega, hn, by omega, by simp⟩⟩
set_option maxRecDepth 100000 in
set_option maxHeartbeats 2000000 in
theorem lentints_any (A : Option Addr) (c m : Nat) (l : List Int) (em : m = l.length) (hl : m ≤ 100000) (hc : A = none → m = 0 ∧ c = 0) (w : World) (hA : Lies w A (ints l)) :
    Calls Tryz.prog 121 #[.slice A m c] w fun e w' => ∃ A' c', e = .returned (.slice A' m c') ∧ w'.ownsRow w.heap.size 3 1 (.slice A' (m + 12) c') (m + 12) (ints l ++ marks 12) ∧ Below w.heap.size w w' := by
  obtain ⟨i0, hi, hz0, hz1, hz2⟩ := info_parts Tryz.info3
  have NW := Lib.hid (show ∀ w', Below w.heap.size w w' → ∀ a, A = some a → ∀ j u, (ints l)[j]? = some u → w'.cell? (a.add j) = some u from fun w' hb a ea j u hu => by
    have hj : j < (ints l).length := (List.getElem?_eq_some_iff.1 hu).1
    obtain ⟨b, o, e, _, hcell⟩ := (hA.below hb) (by omega)
    rw [e] at ea; cases ea
    rw [Addr.add_lit, hcell j hj]
    exact hu)
  have HC := Lib.hid hc
  have HL := Lib.hid (show (ints l).length = m * 1 by rw [ints_length]; omega)
  have H1 := Lib.hid (show ∀ u ∈ ints l, u.oneCell' = true from fun u hu => by
    unfold ints at hu
    obtain ⟨x, _, rfl⟩ := List.mem_map.1 hu
    rfl)
  have MK := Lib.hid (fun i (hi : i < 12) w' => show Calls Tryz.prog 184 #[.int .i64 1, .int .i64 (i : Nat)] w' fun e w'' => e = .returned (.int .i64 (mrk 1 i)) ∧ w'' = w' from xmark_any 1 i (by omega) (by omega) w')
  have hw12 : IntKind.i64.wrap ((m : Int) + 12) = (m : Int) + 12 := IntWalk.i64_in _ (by omega)
  have hmk : ∀ W : World, (Instr.makeSlice 38 (.int .i64 0) (.int .i64 ((m : Int) + 12))).run Tryz.prog W = .ok (.slice (some ⟨W.heap.size, 0, none⟩) 0 (m + 12)) (W.alloc (.cells (madeCells (Value.int .i64 0).cells ((m + 12) * 1)) 3)) := fun W => by
    have hr := run_make (P := Tryz.prog) W 38 3 i0 (.int .i64 0) Tryz.underlying38 hi hz0 .i64 .i64 ((0 : Nat) : Int) ((m + 12 : Nat) : Int) (by omega) (by omega) (by rw [hz2]; omega) (by omega)
    rw [hz1, Int.toNat_natCast, Int.toNat_natCast, Int.natCast_add] at hr
    exact hr
  clear hA hc em
  go_enter Tryz.func121, Tryz.ntmps121
  obtain ⟨ca, eca⟩ : ∃ ca, ca = madeCells (Value.int .i64 0).cells ((m + 12) * 1) := ⟨_, rfl⟩
  have hcs : ca.size = m + 12 := by rw [eca]; simp [madeCells]
  rw [← eca] at hmk
  have OR := Lib.hid (own_room w (m + 12) ca hcs (by unfold maxLen; omega))
  clear eca hcs
  go_wp2_with (at_builtin; refine wpList_append_onto _ rfl _ _ 38 rfl w.heap.size 3 i0 (.int .i64 0) 1 8 Tryz.underlying38 hi hz0 hz1 hz2 rfl (by decide) _ _ _ rfl OR.out A m c (ints l) rfl HL.out (NW.out _ (B1 w _)) HC.out H1.out (by unfold maxLen; omega) (by omega) (by simp) ?_; intro v9 w9 hown9 hgrow9 hfr9; have O9 := Lib.hid hown9; have G9 := Lib.hid hgrow9; clear hown9 hgrow9 hfr9)
  have HB9 := Lib.hid (grown_below (B1 w (.cells ca 3)) (by simp) G9.out (fun q hq => (OR.out.lt q hq).1))
  have O9' := O9.out
  rw [Nat.zero_add, List.nil_append] at O9'
  have O0 := Lib.hid O9'
  clear O9' hmk O9 G9 OR
  go_loopw [3, 4] (fun ov iv wr => ∃ (k : Nat) (v : Value), k ≤ 12 ∧ iv = .int .i64 k ∧ ov = v ∧ wr.ownsRow w.heap.size 3 1 v (m + k) (ints l ++ marks k) ∧ Below w.heap.size w wr) (fun _ iv _ => 12 - (RowKit.intOf iv).toNat)
  case atStart => exact ⟨0, _, by omega, rfl, rfl, by simpa [marks] using O0.out, HB9.out⟩
  case round =>
    clear O0 HB9
    obtain ⟨k, v, hk, rfl, rfl, ho, hb⟩ := hrel
    have OW := Lib.hid ho
    have HB := Lib.hid hb
    obtain ⟨Av, cv, rfl, _, _⟩ := own_slice ho
    by_cases hlt : k < 12
    · have hlt2 : (k : Int) < 12 := by omega
      have M1 := Lib.hid (MK.out k hlt wr)
      clear ho hb
      go_wp2_with (first | (go_at_call 184; (with_reducible refine M1.out.mono ?_); rintro e w3 ⟨rfl, rfl⟩) | (at_builtin; refine wpList_append_onto _ rfl _ _ 38 rfl w.heap.size 3 i0 (.int .i64 0) 1 8 Tryz.underlying38 hi hz0 hz1 hz2 rfl (by decide) _ _ _ rfl (own_below OW.out (B1 _ _)) (some ⟨w3.heap.size, 0, none⟩) 1 1 [.int .i64 (mrk 1 k)] rfl rfl (fun ad had => by cases had; exact cell_one_new _ _ _) (fun h => by cases h) (by simp [Value.oneCell']) (by unfold maxLen; omega) (by omega) (by have h1 := HB.out.size; simp; omega) ?_; intro v9 w9 hown9 hgrow9 hfr9; have O9 := Lib.hid hown9; have G9 := Lib.hid hgrow9; clear hown9 hgrow9 hfr9))
      go_roundw
      case rel => exact ⟨k + 1, v9, by omega, by go_num, rfl, by rw [marks_next, ← List.append_assoc]; exact O9.out, grown_below (HB.out.trans ((B1 _ _).mono HB.out.size)) (by have := HB.out.size; simp; omega) G9.out (fun q hq => (OW.out.lt q hq).1)⟩
      case measure => simp [RowKit.intOf]; omega
    · obtain rfl : k = 12 := by omega
      have hlt2 : ¬ ((12 : Nat) : Int) < 12 := by omega
      have hcv : m ≤ cv := by
        obtain ⟨A', c', e', _, h'⟩ := own_slice ho
        cases e'; omega
      have hcv2 : (m : Int) ≤ cv := by omega
      clear ho hb
      go_wp2_with fail
      go_ret
      exact ⟨_, _, rfl, OW.out, HB.out⟩
end Go.Proofs.YtlbjmkljmhfjdaaGreat
namespace Go.Proofs.YtlbjmkljmhfjdaaGreat
open Go Go.Proofs Go.RowKit Go.Lib Go.Maps
theorem marks_at {i : Nat} (h : i < 12) : (marks 12)[i]? = some (.int .i64 (mrk 1 i)) := by simp [marks, h]
set_option maxRecDepth 100000 in
set_option maxHeartbeats 4000000 in
theorem keptints_any (A' A : Option Addr) (c' c m : Nat) (l : List Int) (em : m = l.length) (hl : m ≤ 100000) (hc : m + 12 ≤ c') (w : World) (hA' : Lies w A' (ints l ++ marks 12)) (hA : Lies w A (ints l)) :
    Calls Tryz.prog 126 #[.slice A' m c', .slice A m c] w fun e w' => e = .returned (.bool true) ∧ Below w.heap.size w w' := by
  obtain ⟨b, o, rfl, hb, hcell⟩ := hA' (by rw [List.length_append, marks_len]; omega)
  have C1 := Lib.hid (fun W (eg : Below w.heap.size w W) k (hk : k < m) => show W.cell? ⟨b, o + k, none⟩ = some (.int .i64 (l.getD k 0)) ∧ ∃ b2 o2, A = some ⟨b2, o2, none⟩ ∧ W.cell? ⟨b2, o2 + k, none⟩ = some (.int .i64 (l.getD k 0)) from by
    have h1 := hcell k (by rw [List.length_append, ints_length]; omega)
    rw [List.getElem?_append_left (by rw [ints_length]; omega), ints_at (by omega)] at h1
    obtain ⟨b2, o2, e, _, h2⟩ := lies_cell (hA.below eg) (k := k) (by omega)
    exact ⟨(eg.cell (p := ⟨b, o + k, none⟩) (World.block_lt_of_cell? _ _ h1)).trans h1, b2, o2, e, h2⟩)
  have C2 := Lib.hid (fun W (eg : Below w.heap.size w W) k (hk : m ≤ k) (hk2 : k < m + 12) => show W.cell? ⟨b, o + k, none⟩ = some (.int .i64 (mrk 1 (k - m))) from by
    have h1 := hcell k (by rw [List.length_append, ints_length, marks_len]; omega)
    rw [List.getElem?_append_right (by rw [ints_length]; omega), ints_length, ← em, marks_at (by omega)] at h1
    exact (eg.cell (p := ⟨b, o + k, none⟩) (World.block_lt_of_cell? _ _ h1)).trans h1)
  have MK := Lib.hid (fun i (hi : i < 12) w' => show Calls Tryz.prog 184 #[.int .i64 1, .int .i64 (i : Nat)] w' fun e w'' => e = .returned (.int .i64 (mrk 1 i)) ∧ Below w'.heap.size w' w'' from (xmark_any 1 i (by omega) (by omega) w').mono fun _ _ ⟨h1, h2⟩ => ⟨h1, h2 ▸ Below.refl _ _⟩)
  have hw12 : IntKind.i64.wrap ((m : Int) + 12) = (m : Int) + 12 := IntWalk.i64_in _ (by omega)
  have hci : (m : Int) + 12 ≤ c' := by omega
  have h012 : (0 : Int) ≤ (m : Int) + 12 := by omega
  have htn : ((m : Int) + 12).toNat = m + 12 := by omega
  clear hcell hA em
  go_enter Tryz.func126, Tryz.ntmps126
  go_wp2_with fail
  go_loopw [6] (fun iv wr => ∃ k : Nat, k ≤ m + 12 ∧ iv = .int .i64 k ∧ Below w.heap.size w wr) (fun iv _ => m + 12 - (RowKit.intOf iv).toNat)
  case atStart => exact ⟨0, by omega, rfl, Below.refl _ _⟩
  case round =>
    obtain ⟨k, hk, rfl, hb⟩ := hrel
    have HB := Lib.hid hb
    by_cases hlt : k < m + 12
    · have hlt2 : (k : Int) < (m : Int) + 12 := by omega
      have hlt3 : (k : Int) < ((m + 12 : Nat) : Int) := by omega
      by_cases hkm : k < m
      · have hkm2 : (k : Int) < m := by omega
        have hkm3 : (m ≤ k) = False := by simp; omega
        obtain ⟨h1, b2, o2, rfl, h2⟩ := C1.out wr hb k hkm
        generalize l.getD k 0 = x at *
        have hxx : (x == x) = true := by simp
        have f1 := fun (e : Ext wr) => Ext.cell h1 e
        have f2 := fun (e : Ext wr) => Ext.cell h2 e
        clear hb h1 h2
        go_wp2_with fail
        refine wp_region_ext (by kernel_rfl) (by kernel_rfl) ?_
        repeat (first | go_big_quiet_step (fail) | quiet_step (fail))
        refine wpQuiet_nil ?_
        intro w13 hw'
        obtain ⟨⟨_, hb13⟩, rfl⟩ := hw'
        have HB1 := Lib.hid (HB.out.trans (hb13.mono HB.out.size))
        clear hb13 f1 f2
        go_wp2_with fail
        go_roundw
        case rel => exact ⟨k + 1, by omega, by go_num, HB1.out⟩
        case measure => simp [RowKit.intOf]; omega
      · have hkm2 : ¬ (k : Int) < m := by omega
        have hkm3 : (m ≤ k) = True := by simp; omega
        have hkm4 : (k < m) = False := by simp; omega
        obtain ⟨i, ei⟩ : ∃ i, i = k - m := ⟨_, rfl⟩
        have h1 := C2.out wr hb k (by omega) hlt
        rw [← ei] at h1
        have hsub : IntKind.i64.wrap ((k : Int) - m) = (i : Int) := by rw [IntWalk.i64_in _ (by omega)]; omega
        have M1 := Lib.hid (fun W => MK.out i (by omega) W)
        generalize mrk 1 i = x at *
        have hxx : (x == x) = true := by simp
        have f1 := fun (e : Ext wr) => Ext.cell h1 e
        clear hb h1 ei
        go_wp2_with fail
        refine wp_region_ext (by kernel_rfl) (by kernel_rfl) ?_
        repeat (first | go_big_quiet_step (first | (go_at_call 184; with_reducible exact Calls.ext_of (M1.out _))) | quiet_step (first | (go_at_call 184; with_reducible exact Calls.ext_of (M1.out _))))
        refine wpQuiet_nil ?_
        intro w13 hw'
        obtain ⟨⟨_, hb13⟩, rfl⟩ := hw'
        have HB1 := Lib.hid (HB.out.trans (hb13.mono HB.out.size))
        clear hb13 f1
        go_wp2_with fail
        go_roundw
        case rel => exact ⟨k + 1, by omega, by go_num, HB1.out⟩
        case measure => simp [RowKit.intOf]; omega
    · obtain rfl : k = m + 12 := by omega
      have hlt2 : ¬ ((m + 12 : Nat) : Int) < (m : Int) + 12 := by omega
      clear hb
      go_wp2_with fail
      go_ret
      exact ⟨rfl, HB.out⟩
end Go.Proofs.YtlbjmkljmhfjdaaGreat
namespace Go.Proofs.YtlbjmkljmhfjdaaGreat
open Go Go.Proofs Go.RowKit Go.Lib Go.Maps
theorem none_kids {w : World} {x : Nd} (h : Nd.At w x) (e : x.A = none) : x.kids.length = 0 := by
  by_cases h0 : 0 < (ints x.kids).length
  · obtain ⟨b, o, e2, _⟩ := h.1 h0
    rw [e] at e2; cases e2
  · rw [ints_length] at h0; omega
theorem own_awayX {W W' : World} {B B' e e' z z' n n' : Nat} {v v' : Value} {xs xs' : List Value} (h : W.ownsRow B e z v n xs) (h' : W.ownsRow B' e' z' v' n' xs') (hT : e ≠ e') (hg : W.grownBy W' v'.ownBlock) : W'.ownsRow B e z v n xs := by
  refine own_kept h (fun k hk => hg.block k (h.lt k hk).2 (fun e2 => ?_))
  obtain ⟨vs, k1, _⟩ := own_blkT h hk
  obtain ⟨vs2, k2, _⟩ := own_blkT h' (b := k) (by first | exact e2 | exact e2.symm)
  exact hT (k1.same_T k2)
set_option maxRecDepth 100000 in
set_option maxHeartbeats 4000000 in
theorem lentNode_any (x : Nd) (hl : x.kids.length ≤ 100000) (w : World) (h : Nd.At w x) :
    Calls Tryz.prog 149 #[x.val] w fun e w' => ∃ A' c', e = .returned (x.at_ A' c').val ∧ w'.ownsRow w.heap.size 3 1 (.slice A' (x.kids.length + 12) c') (x.kids.length + 12) (ints x.kids ++ marks 12) ∧ Below w.heap.size w w' := by
  have CI := Lib.hid (fun (w' : World) (b : Below w.heap.size w w') => lentints_any x.A x.cap x.kids.length x.kids rfl hl (fun e => ⟨none_kids h e, h.2.1 e⟩) w' (h.below b).1)
  clear h hl
  go_enter Tryz.func149, Tryz.ntmps149
  go_wp2_with (first | (go_at_call 121; refine (CI.out _ (B2 _ _ _)).mono ?_; rintro e w1 ⟨A1, c1, rfl, ho, hb⟩; have HO := Lib.hid (own_lower (base' := w.heap.size + 2) ho (by simp)); have KB := Lib.hid (((Blk.new w _ _).alloc _).below' hb); have KR := Lib.hid (by have := (Blk.new (w.alloc _) _ _).below' hb; rw [World.size_alloc] at this; exact this); have H1 := Lib.hid (bb (B2 w _ _) hb); clear ho hb) | (refine wpList_store_blk rfl 38 (.tmp 6) (.tmp 5) rfl w.heap.size 8 _ rfl rfl rfl 40 _ KB.out (by first | simp | (show 8 < 9; omega)) (by kernel_rfl) (x.at_ A1 c1).cells.toArray rfl ?_; intro w2 hk hg; have HO2 := Lib.hid (HO.out.kept hg (by have hlt := HO.out.lt; cases hv : Value.ownBlock (.slice A1 (x.kids.length + 12) c1) with | none => exact .inl rfl | some k => exact .inr (fun e => by have := (hlt k hv).1; cases e; omega))); have KR2 := Lib.hid (KR.out.grown hg (by intro e; have := Option.some.inj e; omega)); have H2 := Lib.hid (grown_below H1.out H1.out.size hg (fun k e => by cases e; omega)); have d0 := hk.cell 0; have d1 := hk.cell 1; have d2 := hk.cell 2; have d3 := hk.cell 3; have d4 := hk.cell 4; have d5 := hk.cell 5; have d6 := hk.cell 6; have d7 := hk.cell 7; have d8 := hk.cell 8; simp only [Nd.cells, List.getElem?_toArray, List.getElem?_cons_zero, List.getElem?_cons_succ] at d0 d1 d2 d3 d4 d5 d6 d7 d8; clear hk hg) | (refine wpList_store_whole rfl 40 (.tmp 2) (.tmp 7) rfl (w.heap.size + 1) (x.at_ A1 c1).cells.toArray rfl rfl 40 _ KR2.out (by kernel_rfl) (by rfl) (by simp [Nd.cells, Value.oneCell']) ?_; intro w3 hk hg; have K3 := Lib.hid hk; have HO3 := Lib.hid (HO2.out.kept hg (by have hlt := HO2.out.lt; cases hv : Value.ownBlock (.slice A1 (x.kids.length + 12) c1) with | none => exact .inl rfl | some k => exact .inr (fun e => by have := (hlt k hv).1; cases e; omega))); have H3 := Lib.hid (grown_below H2.out H2.out.size hg (fun k e => by cases e; omega)); clear hk hg d0 d1 d2 d3 d4 d5 d6 d7 d8))
  exact bodyPost_ret (results_cell_row rfl _ _ (w.heap.size + 1) 40 _ (0, 0) _ rfl K3.out Tryz.underlying40 rfl (by kernel_rfl)) rfl ⟨A1, c1, rfl, own_lower HO3.out (by omega), H3.out⟩
def mkR (i : Nat) : Rl := ⟨ByteArray.empty, mrk 1 i⟩
def marksR (j : Nat) : List Rl := (List.range j).map mkR
theorem marksR_next (j : Nat) : marksR (j + 1) = marksR j ++ [mkR j] := by simp [marksR, List.range_succ]
theorem marksR_len (j : Nat) : (marksR j).length = j := by simp [marksR]
def lmkN (i : Nat) : Nd := { Nd.zero with rule := mrk 1 i }
def marksN (j : Nat) : List Nd := (List.range j).map lmkN
theorem marksN_next (j : Nat) : marksN (j + 1) = marksN j ++ [lmkN j] := by simp [marksN, List.range_succ]
theorem marksN_len (j : Nat) : (marksN j).length = j := by simp [marksN]
theorem rcells_apps : ∀ (a b : List Rl), rcells (a ++ b) = rcells a ++ rcells b
  | [], b => rfl
  | x :: a, b => by simp [rcells, rcells_apps a b]
set_option maxRecDepth 100000 in
theorem markRule_any (i : Nat) (hi : i < 12) (w : World) : Calls Tryz.prog 148 #[.int .i64 1, .int .i64 i] w fun e w' => e = .returned (.agg #[.string ByteArray.empty, .int .i64 (mrk 1 i)]) ∧ Below w.heap.size w w' := by
  have MK := Lib.hid (fun w' => show Calls Tryz.prog 184 #[.int .i64 1, .int .i64 (i : Nat)] w' fun e w'' => e = .returned (.int .i64 (mrk 1 i)) ∧ w'' = w' from xmark_any 1 i (by omega) (by omega) w')
  clear hi
  go_enter Tryz.func148, Tryz.ntmps148
  go_wp2_with (first | (go_at_call 184; (with_reducible refine (MK.out _).mono ?_); rintro e w3 ⟨rfl, rfl⟩) | (refine wpList_store_whole rfl 124 (.tmp 4) (.tmp 8) rfl w.heap.size #[.string ByteArray.empty, .int .i64 (mrk 1 i)] rfl rfl 124 _ (Blk.new _ _ _) (by kernel_rfl) (by rfl) (by simp [Value.oneCell']) ?_; intro w2 hk hg; have K2 := Lib.hid hk; have H2 := Lib.hid (grown_below (B1 w _) (by simp) hg (fun k e => by cases e; exact Nat.le_refl _)); clear hk hg))
  exact bodyPost_ret (results_cell_row rfl _ _ w.heap.size 124 _ (0, 0) _ rfl K2.out Tryz.underlying124 rfl (by kernel_rfl)) rfl ⟨rfl, H2.out⟩
set_option maxRecDepth 100000 in
theorem markNode_any (i : Nat) (hi : i < 12) (w : World) : Calls Tryz.prog 150 #[.int .i64 1, .int .i64 i] w fun e w' => e = .returned (lmkN i).val ∧ Below w.heap.size w w' := by
  have MK := Lib.hid (fun w' => show Calls Tryz.prog 184 #[.int .i64 1, .int .i64 (i : Nat)] w' fun e w'' => e = .returned (.int .i64 (mrk 1 i)) ∧ w'' = w' from xmark_any 1 i (by omega) (by omega) w')
  clear hi
  go_enter Tryz.func150, Tryz.ntmps150
  go_wp2_with (first | (go_at_call 184; (with_reducible refine (MK.out _).mono ?_); rintro e w3 ⟨rfl, rfl⟩) | (refine wpList_store_whole rfl 40 (.tmp 4) (.tmp 8) rfl w.heap.size (lmkN i).cells.toArray rfl rfl 40 _ (Blk.new _ _ _) (by kernel_rfl) (by rfl) (by simp [Nd.cells, Value.oneCell']) ?_; intro w2 hk hg; have K2 := Lib.hid hk; have H2 := Lib.hid (grown_below (B1 w _) (by simp) hg (fun k e => by cases e; exact Nat.le_refl _)); clear hk hg))
  exact bodyPost_ret (results_cell_row rfl _ _ w.heap.size 40 _ (0, 0) _ rfl K2.out Tryz.underlying40 rfl (by kernel_rfl)) rfl ⟨rfl, H2.out⟩
end Go.Proofs.YtlbjmkljmhfjdaaGreat
namespace Go.Proofs.YtlbjmkljmhfjdaaGreat
open Go Go.Proofs Go.RowKit Go.Lib Go.Maps
theorem own_roomT (w : World) (T size cap : Nat) (cs : Array Value) (hc : cs.size = cap * size) (hn : cap ≤ maxLen) : (w.alloc (.cells cs T)).ownsRow w.heap.size T size (.slice (some ⟨w.heap.size, 0, none⟩) 0 cap) 0 [] :=
  World.ownsRow_made w cs cap (Nat.le_refl _) hn hc
theorem rule_news (w : World) (x y : Value) (T : TypeId) : ∀ a, some (⟨w.heap.size, 0, none⟩ : Addr) = some a → ∀ j u, [x, y][j]? = some u → (w.alloc (.cells #[x, y] T)).cell? (a.add j) = some u := new_news w [x, y] T
set_option maxRecDepth 100000 in
set_option maxHeartbeats 4000000 in
theorem lentRules_any (A : Option Addr) (c m : Nat) (l : List Rl) (em : m = l.length) (hl : m ≤ 100000) (hc : A = none → m = 0 ∧ c = 0) (w : World) (hA : Rules w A l) :
    Calls Tryz.prog 98 #[.slice A m c] w fun e w' => ∃ A' c', e = .returned (.slice A' m c') ∧ w'.ownsRow w.heap.size 124 2 (.slice A' (m + 12) c') (m + 12) (rcells l ++ rcells (marksR 12)) ∧ Below w.heap.size w w' := by
  obtain ⟨i0, hi, hz0, hz1, hz2⟩ := info_parts Tryz.info124
  have NW := Lib.hid (show ∀ w', Below w.heap.size w w' → ∀ a, A = some a → ∀ j u, (rcells l)[j]? = some u → w'.cell? (a.add j) = some u from fun w' hb => (hA.below hb).news)
  have HC := Lib.hid hc
  have HL := Lib.hid (show (rcells l).length = m * 2 by rw [rcells_length]; omega)
  have H1 := Lib.hid (rcells_one l)
  have MK := Lib.hid (fun i (hi : i < 12) w' => markRule_any i hi w')
  have hw12 : IntKind.i64.wrap ((m : Int) + 12) = (m : Int) + 12 := IntWalk.i64_in _ (by omega)
  have hmk : ∀ W : World, (Instr.makeSlice 22 (.int .i64 0) (.int .i64 ((m : Int) + 12))).run Tryz.prog W = .ok (.slice (some ⟨W.heap.size, 0, none⟩) 0 (m + 12)) (W.alloc (.cells (madeCells (Value.agg #[.string ByteArray.empty, .int .i64 0]).cells ((m + 12) * 2)) 124)) := fun W => by
    have hr := run_make (P := Tryz.prog) W 22 124 i0 (.agg #[.string ByteArray.empty, .int .i64 0]) Tryz.underlying22 hi hz0 .i64 .i64 ((0 : Nat) : Int) ((m + 12 : Nat) : Int) (by omega) (by omega) (by rw [hz2]; omega) (by omega)
    rw [hz1, Int.toNat_natCast, Int.toNat_natCast, Int.natCast_add] at hr
    exact hr
  clear hA hc em
  have hli : (m : Int) + 12 ≤ 100012 := by omega
  go_enter Tryz.func98, Tryz.ntmps98
  obtain ⟨ca, eca⟩ : ∃ ca, ca = madeCells (Value.agg #[.string ByteArray.empty, .int .i64 0]).cells ((m + 12) * 2) := ⟨_, rfl⟩
  have hcs : ca.size = (m + 12) * 2 := by rw [eca]; simp [madeCells]
  rw [← eca] at hmk
  have OR := Lib.hid (own_roomT w 124 2 (m + 12) ca hcs (by unfold maxLen; omega))
  clear eca hcs
  go_wp2_with (at_builtin; refine wpList_append_onto _ rfl _ _ 22 rfl w.heap.size 124 i0 (.agg #[.string ByteArray.empty, .int .i64 0]) 2 24 Tryz.underlying22 hi hz0 hz1 hz2 rfl (by decide) _ _ _ rfl OR.out A m c (rcells l) rfl HL.out (NW.out _ (B1 w _)) HC.out H1.out (by unfold maxLen; omega) (by omega) (by simp) ?_; intro v9 w9 hown9 hgrow9 hfr9; have O9 := Lib.hid hown9; have G9 := Lib.hid hgrow9; clear hown9 hgrow9 hfr9)
  have HB9 := Lib.hid (grown_below (B1 w (.cells ca 124)) (by simp) G9.out (fun q hq => (OR.out.lt q hq).1))
  have O9' := O9.out
  rw [Nat.zero_add, List.nil_append] at O9'
  have O0 := Lib.hid O9'
  clear O9' hmk O9 G9 OR
  go_loopw [3, 4] (fun ov iv wr => ∃ (k : Nat) (v : Value), k ≤ 12 ∧ iv = .int .i64 k ∧ ov = v ∧ wr.ownsRow w.heap.size 124 2 v (m + k) (rcells l ++ rcells (marksR k)) ∧ Below w.heap.size w wr) (fun _ iv _ => 12 - (RowKit.intOf iv).toNat)
  case atStart => exact ⟨0, _, by omega, rfl, rfl, by simpa [marksR, rcells] using O0.out, HB9.out⟩
  case round =>
    clear O0 HB9
    obtain ⟨k, v, hk, rfl, rfl, ho, hb⟩ := hrel
    have OW := Lib.hid ho
    have HB := Lib.hid hb
    obtain ⟨Av, cv, rfl, _, _⟩ := own_slice ho
    by_cases hlt : k < 12
    · have hlt2 : (k : Int) < 12 := by omega
      have M1 := Lib.hid (MK.out k hlt wr)
      clear ho hb
      go_wp2_with (first | (go_at_call 148; (with_reducible refine M1.out.mono ?_); rintro e w3 ⟨rfl, hb3⟩; have HB3 := Lib.hid hb3; clear hb3) | (at_builtin; refine wpList_append_onto _ rfl _ _ 22 rfl w.heap.size 124 i0 (.agg #[.string ByteArray.empty, .int .i64 0]) 2 24 Tryz.underlying22 hi hz0 hz1 hz2 rfl (by decide) _ _ _ rfl (own_below (own_below OW.out HB3.out) (B1 _ _)) (some ⟨w3.heap.size, 0, none⟩) 1 1 [.string ByteArray.empty, .int .i64 (mrk 1 k)] rfl rfl (rule_news w3 _ _ _) (fun h => by cases h) (by simp [Value.oneCell']) (by unfold maxLen; omega) (by omega) (by have h1 := HB.out.size; have h2 := HB3.out.size; simp; omega) ?_; intro v9 w9 hown9 hgrow9 hfr9; have O9 := Lib.hid hown9; have G9 := Lib.hid hgrow9; clear hown9 hgrow9 hfr9))
      go_roundw
      case rel => exact ⟨k + 1, v9, by omega, by go_num, rfl, by rw [marksR_next, rcells_apps, ← List.append_assoc]; exact O9.out, grown_below ((HB.out.trans (HB3.out.mono HB.out.size)).trans ((B1 _ _).mono (by have := HB.out.size; have := HB3.out.size; omega))) (by have := HB.out.size; have := HB3.out.size; simp; omega) G9.out (fun q hq => (OW.out.lt q hq).1)⟩
      case measure => simp [RowKit.intOf]; omega
    · obtain rfl : k = 12 := by omega
      have hlt2 : ¬ ((12 : Nat) : Int) < 12 := by omega
      have hcv : m ≤ cv := by
        obtain ⟨A', c', e', _, h'⟩ := own_slice ho
        cases e'; omega
      have hcv2 : (m : Int) ≤ cv := by omega
      clear ho hb
      go_wp2_with fail
      go_ret
      exact ⟨_, _, rfl, OW.out, HB.out⟩
end Go.Proofs.YtlbjmkljmhfjdaaGreat
namespace Go.Proofs.YtlbjmkljmhfjdaaGreat
open Go Go.Proofs Go.RowKit Go.Lib Go.Maps
theorem ncells_apps : ∀ (a b : List Nd), ncells (a ++ b) = ncells a ++ ncells b
  | [], b => rfl
  | x :: a, b => by simp [ncells, ncells_apps a b]
/-- A lent node's kids: in a row of the call's own, marks behind them. -/
def LKid (w : World) (B : Nat) (x : Nd) : Prop := w.ownsRow B 3 1 (.slice x.A (x.kids.length + 12) x.cap) (x.kids.length + 12) (ints x.kids ++ marks 12)
theorem LKid.below {w w' : World} {B : Nat} {x : Nd} (h : LKid w B x) (hb : Below w.heap.size w w') : LKid w' B x := own_below h hb
theorem LKid.away {W W' : World} {B B' n' : Nat} {x : Nd} {v' : Value} {xs' : List Value} (h : LKid W B x) (h' : W.ownsRow B' 40 9 v' n' xs') (hg : W.grownBy W' v'.ownBlock) : LKid W' B x := own_awayX h h' (by decide) hg
/-- Lent nodes. -/
structure LNds (w : World) (B : Nat) (l cl : List Nd) (v : Value) (n : Nat) (more : List Nd) : Prop where
  len : cl.length = l.length
  twin : ∀ j, j < l.length → Twin (l.getD j Nd.zero) (cl.getD j Nd.zero)
  row : w.ownsRow B 40 9 v n (ncells cl ++ ncells more)
  kids : ∀ x ∈ cl, LKid w B x
def LentN (w : World) (B : Nat) (l : List Nd) (e : Ending) : Prop := ∃ A' c' cl, e = .returned (.slice A' l.length c') ∧ LNds w B l cl (.slice A' (l.length + 12) c') (l.length + 12) (marksN 12)
theorem LentN.mk {w : World} {B : Nat} {l : List Nd} {A' : Option Addr} {m c' : Nat} {cl : List Nd} (em : m = l.length) (h : LNds w B l cl (.slice A' (m + 12) c') (m + 12) (marksN 12)) : LentN w B l (.returned (.slice A' m c')) := by
  subst em
  exact ⟨A', c', cl, rfl, h⟩
set_option maxRecDepth 100000 in
set_option maxHeartbeats 8000000 in
theorem lentNodes_any (A : Option Addr) (l : List Nd) (c : Nat) (hl : l.length ≤ 100000) (w : World) (h : Nodes w A l) (hx : ∀ x ∈ l, Nd.At w x ∧ x.kids.length ≤ 100000) :
    Calls Tryz.prog 99 #[.slice A l.length c] w fun e w' => LentN w' w.heap.size l e ∧ Below w.heap.size w w' := by
  obtain ⟨i0, hi, hz0, hz1, hz2⟩ := info_parts Tryz.info40
  have HN := Lib.hid h
  have HX := Lib.hid hx
  obtain ⟨m, em⟩ : ∃ m, m = l.length := ⟨_, rfl⟩
  have EM := Lib.hid em
  rw [← em] at hl ⊢
  have MK := Lib.hid (fun i (hi : i < 12) w' => markNode_any i hi w')
  have hw12 : IntKind.i64.wrap ((m : Int) + 12) = (m : Int) + 12 := IntWalk.i64_in _ (by omega)
  have hmk : ∀ W : World, (Instr.makeSlice 23 (.int .i64 0) (.int .i64 ((m : Int) + 12))).run Tryz.prog W = .ok (.slice (some ⟨W.heap.size, 0, none⟩) 0 (m + 12)) (W.alloc (.cells (madeCells Nd.zero.val.cells ((m + 12) * 9)) 40)) := fun W => by
    have hr := run_make (P := Tryz.prog) W 23 40 i0 Nd.zero.val Tryz.underlying23 hi hz0 .i64 .i64 ((0 : Nat) : Int) ((m + 12 : Nat) : Int) (by omega) (by omega) (by rw [hz2]; omega) (by omega)
    rw [hz1, Int.toNat_natCast, Int.toNat_natCast, Int.natCast_add] at hr
    exact hr
  clear h hx em
  have hli : (m : Int) + 12 ≤ 100012 := by omega
  go_enter Tryz.func99, Tryz.ntmps99
  obtain ⟨ca, eca⟩ : ∃ ca, ca = madeCells Nd.zero.val.cells ((m + 12) * 9) := ⟨_, rfl⟩
  have hcs : ca.size = (m + 12) * 9 := by rw [eca]; simp [madeCells]
  rw [← eca] at hmk
  have OR := Lib.hid (own_roomT w 40 9 (m + 12) ca hcs (by unfold maxLen; omega))
  clear eca hcs
  go_wp2_with fail
  go_loopw [3, 4] (fun ov iv wr => ∃ (k : Nat) (cl : List Nd) (v : Value), k ≤ m ∧ iv = .int .i64 k ∧ ov = v ∧ cl.length = k ∧ (∀ j, j < k → Twin (l.getD j Nd.zero) (cl.getD j Nd.zero)) ∧ wr.ownsRow w.heap.size 40 9 v k (ncells cl) ∧ (∀ x ∈ cl, LKid wr w.heap.size x) ∧ Below w.heap.size w wr) (fun _ iv _ => m - (RowKit.intOf iv).toNat)
  case atStart => exact ⟨0, [], _, by omega, rfl, rfl, rfl, fun j hj => by omega, OR.out, by simp, B1 w _⟩
  case round =>
    clear OR hmk
    obtain ⟨k, cl, v, hk, rfl, rfl, hcl, htw, hown, hkid, hbl⟩ := hrel
    obtain ⟨O, oc, rfl, hOn, hoc⟩ := own_slice hown
    have HTW := Lib.hid htw
    have HOWN := Lib.hid hown
    have HKID := Lib.hid hkid
    have BL := Lib.hid hbl
    have HCL := Lib.hid hcl
    clear htw hown hkid hbl hcl hOn hoc
    by_cases hlt : k < m
    · have hlt2 : (k : Int) < m := by omega
      have hkl : k < l.length := by have := EM.out; omega
      obtain ⟨hat, hks⟩ := HX.out _ (getD_mem hkl)
      obtain ⟨b1, o1, eA, _, n1, n2, n3, n4, n5, n6, n7, n8, n9⟩ := (HN.out.below BL.out).nine hkl
      generalize hxx : l.getD k Nd.zero = x at hat hks n1 n2 n3 n4 n5 n6 n7 n8 n9
      have HXX := Lib.hid hxx
      have CN := Lib.hid (lentNode_any x hks wr (hat.below BL.out))
      subst eA
      clear hxx hat hks
      go_wp2_with (first | (go_at_call 149; (with_reducible refine CN.out.mono ?_); rintro e w1 ⟨A1, c1, rfl, ho, hb⟩; have HO := Lib.hid ho; have H1 := Lib.hid hb; clear ho hb n1 n2 n3 n4 n5 n6 n7 n8 n9) | (refine wpList_store_whole rfl 40 (.tmp 5) (.tmp 21) rfl w1.heap.size (x.at_ A1 c1).cells.toArray rfl rfl 40 _ (Blk.new _ _ _) (by kernel_rfl) (by rfl) (by simp [Nd.cells, Value.oneCell']) ?_; intro w2 hk2 hg; have H2 := Lib.hid (grown_below (B1 w1 _) (by simp) hg (fun k e => by cases e; exact Nat.le_refl _)); have d0 := hk2.cell 0; have d1 := hk2.cell 1; have d2 := hk2.cell 2; have d3 := hk2.cell 3; have d4 := hk2.cell 4; have d5 := hk2.cell 5; have d6 := hk2.cell 6; have d7 := hk2.cell 7; have d8 := hk2.cell 8; simp only [Nd.cells, List.getElem?_toArray, List.getElem?_cons_zero, List.getElem?_cons_succ] at d0 d1 d2 d3 d4 d5 d6 d7 d8; clear hk2 hg) | (at_builtin; refine wpList_append_onto _ rfl (.tmp 22) (.tmp 24) 23 rfl w.heap.size 40 i0 Nd.zero.val 9 96 Tryz.underlying23 hi hz0 hz1 hz2 rfl (by decide) (.slice O k oc) k (ncells cl) rfl (own_below (own_below (own_below HOWN.out H1.out) H2.out) (B1 w2 _)) (some ⟨w2.heap.size, 0, none⟩) 1 1 (x.at_ A1 c1).cells rfl rfl (new_news w2 (x.at_ A1 c1).cells 40) (fun h => nomatch h) (cells_one _) (by unfold maxLen; omega) (by omega) (by have := BL.out.size; have := H1.out.size; have := H2.out.size; simp; omega) ?_; intro v1 w4 ho hg hf; have HO4 := Lib.hid ho; have HG4 := Lib.hid hg; clear ho hg hf))
      have B4 : Below w.heap.size w (w2.alloc (.cells (x.at_ A1 c1).cells.toArray 40)) := bb (bb (bb BL.out H1.out) H2.out) (B1 w2 _)
      have hrow := own_below (own_below (own_below HOWN.out H1.out) H2.out) (B1 w2 (.cells (x.at_ A1 c1).cells.toArray 40))
      have tk : ∀ y, LKid w1 w.heap.size y → LKid w4 w.heap.size y := fun y hy => ((hy.below H2.out).below (B1 w2 _)).away hrow HG4.out
      go_roundw
      case rel =>
        refine ⟨k + 1, cl ++ [x.at_ A1 c1], v1, by omega, by go_num, rfl, by simp [HCL.out], fun j hj => ?_, by rw [ncells_app]; exact HO4.out, fun y hy => ?_, grown_below B4 B4.size HG4.out (fun q e => (HOWN.out.lt q e).1)⟩
        · by_cases ej : j = k
          · subst ej
            rw [HXX.out, List.getD, List.getElem?_append_right (by rw [HCL.out]; omega), HCL.out]
            simp
            exact ⟨A1, c1, rfl⟩
          · have := HTW.out j (by omega)
            rw [List.getD, List.getD] at this ⊢
            rw [List.getElem?_append_left (by rw [HCL.out]; omega)]
            exact this
        · rcases List.mem_append.1 hy with hy | hy
          · exact tk y ((HKID.out y hy).below H1.out)
          · simp at hy
            subst hy
            exact tk _ (own_lower HO.out BL.out.size)
      case measure => simp [RowKit.intOf]; omega
    · obtain rfl : k = m := by omega
      have hlt2 : ¬ (k : Int) < k := by omega
      go_wp2_with fail
      go_loopw [3, 6] (fun ov iv wr => ∃ (j : Nat) (v : Value), j ≤ 12 ∧ iv = .int .i64 j ∧ ov = v ∧ wr.ownsRow w.heap.size 40 9 v (k + j) (ncells cl ++ ncells (marksN j)) ∧ (∀ x ∈ cl, LKid wr w.heap.size x) ∧ Below w.heap.size w wr) (fun _ iv _ => 12 - (RowKit.intOf iv).toNat)
      case atStart => exact ⟨0, _, by omega, rfl, rfl, by simpa [marksN, ncells] using HOWN.out, HKID.out, BL.out⟩
      case round =>
        clear HOWN HKID BL
        obtain ⟨j, v, hj, rfl, rfl, ho, hki, hb⟩ := hrel
        have OW := Lib.hid ho
        have HK := Lib.hid hki
        have HB := Lib.hid hb
        obtain ⟨Av, cv, rfl, _, _⟩ := own_slice ho
        by_cases hltj : j < 12
        · have hlt3 : (j : Int) < 12 := by omega
          have M1 := Lib.hid (MK.out j hltj wr)
          clear ho hb hki
          go_wp2_with (first | (go_at_call 150; (with_reducible refine M1.out.mono ?_); rintro e w3 ⟨rfl, hb3⟩; have HB3 := Lib.hid hb3; clear hb3) | (at_builtin; refine wpList_append_onto _ rfl (.tmp 30) (.tmp 33) 23 rfl w.heap.size 40 i0 Nd.zero.val 9 96 Tryz.underlying23 hi hz0 hz1 hz2 rfl (by decide) _ _ _ rfl (own_below (own_below OW.out HB3.out) (B1 _ _)) (some ⟨w3.heap.size, 0, none⟩) 1 1 (lmkN j).cells rfl rfl (new_news w3 (lmkN j).cells 40) (fun h => nomatch h) (cells_one _) (by unfold maxLen; omega) (by omega) (by have h1 := HB.out.size; have h2 := HB3.out.size; simp; omega) ?_; intro v9 w9 hown9 hgrow9 hfr9; have O9 := Lib.hid hown9; have G9 := Lib.hid hgrow9; clear hown9 hgrow9 hfr9))
          have hrow := own_below (own_below OW.out HB3.out) (B1 w3 (.cells (lmkN j).cells.toArray 40))
          go_roundw
          case rel => exact ⟨j + 1, v9, by omega, by go_num, rfl, by rw [marksN_next, ncells_app, ← List.append_assoc]; exact O9.out, fun y hy => (((HK.out y hy).below HB3.out).below (B1 w3 _)).away hrow G9.out, grown_below ((HB.out.trans (HB3.out.mono HB.out.size)).trans ((B1 _ _).mono (by have := HB.out.size; have := HB3.out.size; omega))) (by have := HB.out.size; have := HB3.out.size; simp; omega) G9.out (fun q hq => (OW.out.lt q hq).1)⟩
          case measure => simp [RowKit.intOf]; omega
        · obtain rfl : j = 12 := by omega
          have hlt3 : ¬ ((12 : Nat) : Int) < 12 := by omega
          have hcv : k ≤ cv := by
            obtain ⟨A', c', e', _, h'⟩ := own_slice ho
            cases e'; omega
          have hcv2 : (k : Int) ≤ cv := by omega
          clear ho hb hki
          go_wp2_with fail
          go_ret
          exact ⟨LentN.mk EM.out ⟨by rw [HCL.out, EM.out], fun j hj => HTW.out j (by rw [EM.out]; exact hj), OW.out, HK.out⟩, HB.out⟩
end Go.Proofs.YtlbjmkljmhfjdaaGreat

/- What the law LeftOwn needs, plainly: a node has one parent; marks that the walk puts down, node for node; counting through a rising row. -/
import Derived.Test.YtmlaepbmdfmgbaaL0
set_option linter.unusedSimpArgs false
set_option linter.unusedVariables false
namespace Go.Proofs.Ytmlaepbmdfmgbaa
theorem fsts_all (x : Nd) : fsts x (fun _ => true) = x.kids := by
  unfold fsts
  split
  · exact upTo_all fun _ _ => rfl
  · rfl
theorem flat_apart {f : Int → List Int} : ∀ (r : List Int), (r.flatMap f).Pairwise (· < ·) → ∀ a ∈ r, ∀ b ∈ r, ∀ k, k ∈ f a → k ∈ f b → a = b
  | [], _, a, ha, _, _, _, _, _ => by simp at ha
  | c :: r, h, a, ha, b, hb, k, hka, hkb => by
    rw [List.flatMap_cons] at h
    obtain ⟨h1, h2, h3⟩ := List.pairwise_append.1 h
    rcases List.mem_cons.1 ha with rfl | ha' <;> rcases List.mem_cons.1 hb with rfl | hb'
    · rfl
    · have := h3 k hka k (List.mem_flatMap.2 ⟨b, hb', hkb⟩); omega
    · have := h3 k hkb k (List.mem_flatMap.2 ⟨a, ha', hka⟩); omega
    · exact flat_apart r h2 a ha' b hb' k hka hkb
theorem flat_rise {f : Int → List Int} : ∀ (r : List Int), (r.flatMap f).Pairwise (· < ·) → (∀ k ∈ r, k ∈ f k) → r.Pairwise (· < ·)
  | [], _, _ => List.Pairwise.nil
  | c :: r, h, hs => by
    rw [List.flatMap_cons] at h
    obtain ⟨h1, h2, h3⟩ := List.pairwise_append.1 h
    exact List.pairwise_cons.2 ⟨fun k hk => h3 c (hs c (List.mem_cons_self ..)) k (List.mem_flatMap.2 ⟨k, hk, hs k (List.mem_cons_of_mem _ hk)⟩), flat_rise r h2 fun k hk => hs k (List.mem_cons_of_mem _ hk)⟩
theorem own_self {l : List Nd} (hl : KidsUp l) (may : Int → Bool) {n : Int} (h0 : 0 ≤ n) (h1 : n < l.length) : n ∈ ownN l may n := by
  rw [ownN_eq hl may h0 h1]; exact List.mem_cons_self ..
theorem own_bound {l : List Nd} {ms : Nat → Meas} (h : Measured l ms 0) (may : Int → Bool) {n : Int} (h0 : 0 ≤ n) (h1 : n < l.length) {m : Int} (hm : m ∈ ownN l may n) : n ≤ m ∧ m < n + (ms n.toNat).1 ∧ m < l.length := by
  obtain ⟨k, rfl⟩ : ∃ k : Nat, n = k := ⟨n.toNat, by omega⟩
  have := (own_rises h may _ k (by omega) (Nat.le_refl _)).each m hm
  have h2 := h k (by omega) (by omega)
  rw [Int.toNat_natCast]
  omega
theorem all_flat {l : List Nd} {ms : Nat → Meas} (h : Measured l ms 0) {n : Int} (h0 : 0 ≤ n) (h1 : n < l.length) : ((l.getD n.toNat Nd.zero).kids.flatMap (ownN l (fun _ => true))).Pairwise (· < ·) := by
  obtain ⟨k, rfl⟩ : ∃ k : Nat, n = k := ⟨n.toNat, by omega⟩
  have := (own_rises h (fun _ => true) _ k (by omega) (Nat.le_refl _)).rise
  rw [ownN_eq h.kidsUp _ h0 h1, fsts_all] at this
  exact (List.pairwise_cons.1 this).2
theorem kids_rise {l : List Nd} {ms : Nat → Meas} (h : Measured l ms 0) {n : Int} (h0 : 0 ≤ n) (h1 : n < l.length) : (l.getD n.toNat Nd.zero).kids.Pairwise (· < ·) :=
  flat_rise _ (all_flat h h0 h1) fun k hk => by
    have := h.kidsUp n.toNat (by omega) k hk
    exact own_self h.kidsUp _ (by omega) (by omega)
theorem one_parent {l : List Nd} {ms : Nat → Meas} (h : Measured l ms 0) : ∀ (d : Nat) (n : Int), 0 ≤ n → n < l.length → (l.length : Int) - n ≤ d → ∀ m m' k : Int, m ∈ ownN l (fun _ => true) n → m' ∈ ownN l (fun _ => true) n → k ∈ (l.getD m.toNat Nd.zero).kids → k ∈ (l.getD m'.toNat Nd.zero).kids → m = m'
  | 0, n, h0, h1, hd, _, _, _, _, _, _, _ => by omega
  | d + 1, n, h0, h1, hd, m, m', k, hm, hm', hk, hk' => by
    have hl := h.kidsUp
    have hp := all_flat h h0 h1
    -- what lies under a kid
    have under : ∀ x, x ∈ (l.getD n.toNat Nd.zero).kids.flatMap (ownN l (fun _ => true)) → k ∈ (l.getD x.toNat Nd.zero).kids → ∃ c ∈ (l.getD n.toNat Nd.zero).kids, x ∈ ownN l (fun _ => true) c ∧ k ∈ ownN l (fun _ => true) c ∧ n < c ∧ c < l.length ∧ c ≤ x ∧ x < k := by
      intro x hx hkx
      obtain ⟨c, hc, hx⟩ := List.mem_flatMap.1 hx
      have hb := hl n.toNat (by omega) c hc
      have hb2 := own_bound h _ (by omega) (by omega) hx
      have hb3 := hl x.toNat (by omega) k hkx
      exact ⟨c, hc, hx, own_closed hl _ (l.length - c.toNat) c (by omega) (by omega) (by omega) x k hx (by rw [fsts_all]; exact hkx), by omega, by omega, by omega, by omega⟩
    have none : ∀ x, x ∈ (l.getD n.toNat Nd.zero).kids.flatMap (ownN l (fun _ => true)) → k ∈ (l.getD x.toNat Nd.zero).kids → k ∈ (l.getD n.toNat Nd.zero).kids → False := by
      intro x hx hkx hkn
      obtain ⟨c, hc, h2, h3, h4, h5, h6, h7⟩ := under x hx hkx
      have hb := hl n.toNat (by omega) k hkn
      have := flat_apart _ hp c hc k hkn k h3 (own_self hl _ (by omega) (by omega))
      omega
    rw [ownN_eq hl _ h0 h1, fsts_all] at hm hm'
    rcases List.mem_cons.1 hm with e | hm2
    · rcases List.mem_cons.1 hm' with e' | hm2'
      · rw [e, e']
      · rw [e] at hk
        exact absurd (none m' hm2' hk' hk) id
    · rcases List.mem_cons.1 hm' with e' | hm2'
      · rw [e'] at hk'
        exact absurd (none m hm2 hk hk') id
      · obtain ⟨c, hc, h2, h3, h4, h5, h6, h7⟩ := under m hm2 hk
        obtain ⟨c', hc', k2, k3, k4, k5, k6, k7⟩ := under m' hm2' hk'
        have e := flat_apart _ hp c hc c' hc' k h3 k3
        subst e
        exact one_parent h d c (by omega) (by omega) (by omega) m m' k h2 k2 hk hk'
theorem own_all {l : List Nd} (hl : KidsUp l) (may : Int → Bool) {n : Int} (h0 : 0 ≤ n) (h1 : n < l.length) {m : Int} (hm : m ∈ ownN l may n) : m ∈ ownN l (fun _ => true) n := by
  rw [own_iff hl _ h0 h1] at hm ⊢
  induction hm with
  | here => exact .here
  | kid _ hk ih => exact .kid ih (by rw [fsts_all]; exact fsts_mem hk)
/-- The marks before node m is gone through. -/
def inP (l : List Nd) (may : Int → Bool) (n m q : Nat) : Bool := (q == n) || (ownN l may n).any fun p => decide (p < (m : Int)) && decide ((q : Int) ∈ fsts (l.getD p.toNat Nd.zero) may)
theorem inP_iff {l : List Nd} (hl : KidsUp l) (may : Int → Bool) {n m q : Nat} (h1 : n < l.length) (hq : ∀ p ∈ ownN l may n, (q : Int) ∈ fsts (l.getD p.toNat Nd.zero) may → p < (m : Int)) : inP l may n m q = decide ((q : Int) ∈ ownN l may n) := by
  rw [Bool.eq_iff_iff]
  simp only [inP, Bool.or_eq_true, beq_iff_eq, List.any_eq_true, Bool.and_eq_true, decide_eq_true_eq]
  constructor
  · rintro (rfl | ⟨p, hp, _, hq2⟩)
    · exact own_self hl may (by omega) (by omega)
    · exact own_closed hl may (l.length - n) n (by omega) (by omega) (by omega) p q hp hq2
  · intro h
    have h2 := h
    rw [own_iff hl may (by omega) (by omega)] at h
    generalize hz : (q : Int) = z at h
    cases h with
    | here => exact .inl (by omega)
    | kid h3 hk =>
      rw [← own_iff hl may (by omega) (by omega)] at h3
      rw [← hz] at hk
      exact .inr ⟨_, h3, hq _ h3 hk, hz ▸ hk⟩
theorem inP_self {l : List Nd} {ms : Nat → Meas} (h : Measured l ms 0) (may : Int → Bool) {n m : Nat} (h1 : n < l.length) : inP l may n m m = decide ((m : Int) ∈ ownN l may n) :=
  inP_iff h.kidsUp may h1 fun p hp hk => by
    have := own_bound h may (by omega) (by omega) hp
    have := h.kidsUp p.toNat (by omega) _ (fsts_mem hk)
    omega
theorem inP_all {l : List Nd} {ms : Nat → Meas} (h : Measured l ms 0) (may : Int → Bool) {n m : Nat} (h1 : n < l.length) (hm : (n : Int) + (ms n).1 ≤ m) (q : Nat) : inP l may n m q = decide ((q : Int) ∈ ownN l may n) :=
  inP_iff h.kidsUp may h1 fun p hp hk => by
    have := own_bound h may (by omega) (by omega) hp
    rw [Int.toNat_natCast] at this
    omega
theorem inP_skip {l : List Nd} {may : Int → Bool} {n m : Nat} (h : (m : Int) ∉ ownN l may n) (q : Nat) : inP l may n (m + 1) q = inP l may n m q := by
  unfold inP
  congr 1
  refine any_same fun p hp => ?_
  have : p ≠ m := fun e => h (e ▸ hp)
  rw [show decide (p < ((m + 1 : Nat) : Int)) = decide (p < (m : Int)) from by rw [decide_eq_decide]; omega]
/-- One more is gone through. -/
theorem any_next {a : List Int} {m : Nat} (hm : (m : Int) ∈ a) (f : Int → Bool) : (a.any fun p => decide (p < ((m + 1 : Nat) : Int)) && f p) = ((a.any fun p => decide (p < (m : Int)) && f p) || f m) := by
  rw [Bool.eq_iff_iff]
  simp only [List.any_eq_true, Bool.and_eq_true, decide_eq_true_eq, Bool.or_eq_true]
  constructor
  · rintro ⟨p, hp, h1, h2⟩
    by_cases e : p = m
    · subst e; exact .inr h2
    · exact .inl ⟨p, hp, by omega, h2⟩
  · rintro (⟨p, hp, h1, h2⟩ | h)
    · exact ⟨p, hp, by omega, h2⟩
    · exact ⟨m, hm, by omega, h⟩
theorem inP_step {l : List Nd} {may : Int → Bool} {n m : Nat} (h : (m : Int) ∈ ownN l may n) (q : Nat) : inP l may n (m + 1) q = (inP l may n m q || decide ((q : Int) ∈ fsts (l.getD m Nd.zero) may)) := by
  unfold inP
  rw [any_next h (fun p => decide ((q : Int) ∈ fsts (l.getD p.toNat Nd.zero) may)), Int.toNat_natCast, Bool.or_assoc]
theorem inP_kid {l : List Nd} {ms : Nat → Meas} (h : Measured l ms 0) (may : Int → Bool) {n m q : Nat} (h1 : n < l.length) (hm : (m : Int) ∈ ownN l may n) (hq : (q : Int) ∈ (l.getD m Nd.zero).kids) : inP l may n m q = false := by
  have hb := own_bound h may (by omega) (by omega) hm
  have hu := h.kidsUp m (by omega) q hq
  rw [Bool.eq_false_iff]
  intro hc
  simp only [inP, Bool.or_eq_true, beq_iff_eq, List.any_eq_true, Bool.and_eq_true, decide_eq_true_eq] at hc
  rcases hc with e | ⟨p, hp, hlt, hk⟩
  · omega
  · have := one_parent h (l.length - n) n (by omega) (by omega) (by omega) p m q (own_all h.kidsUp may (by omega) (by omega) hp) (own_all h.kidsUp may (by omega) (by omega) hm) (fsts_mem hk) (by rw [Int.toNat_natCast]; exact hq)
    omega
theorem upTo_mem {may : Int → Bool} : ∀ (l : List Int) (i : Nat), l.Pairwise (· < ·) → i < l.length → (l.getD i 0 ∈ upTo may l ↔ (l.take i).all may = true)
  | [], i, _, h => by simp at h
  | k :: r, 0, _, _ => by simp [upTo]
  | k :: r, i + 1, hp, h => by
    have hp2 := List.pairwise_cons.1 hp
    have hi : i < r.length := by simpa using h
    have hm : r.getD i 0 ∈ r := by simp [List.getD, List.getElem?_eq_getElem hi]
    have hne := hp2.1 _ hm
    have ih := upTo_mem (may := may) r i hp2.2 hi
    rw [List.getD_cons_succ, List.take_succ_cons, List.all_cons, upTo]
    cases hk : may k with
    | true => simp only [if_true, List.mem_cons, ih, Bool.true_and]; exact ⟨fun h => h.elim (fun e => by omega) id, .inr⟩
    | false => simp only [Bool.false_and]; constructor
               · intro h; rw [List.mem_cons] at h; rcases h with e | h
                 · omega
                 · simp at h
               · intro h; cases h
/-- Whether the place is open still behind i kids. -/
def opn (x : Nd) (may : Int → Bool) (i : Nat) : Bool := decide (x.kind ≠ 6) || (x.kids.take i).all may
theorem opn_zero (x : Nd) (may : Int → Bool) : opn x may 0 = true := by simp [opn]
theorem opn_mem {x : Nd} {may : Int → Bool} (hp : x.kids.Pairwise (· < ·)) {i : Nat} (hi : i < x.kids.length) : opn x may i = decide (x.kids.getD i 0 ∈ fsts x may) := by
  rw [Bool.eq_iff_iff, decide_eq_true_eq]
  unfold opn fsts
  by_cases e : x.kind = 6
  · rw [if_pos e, upTo_mem _ _ hp hi]; simp [e]
  · rw [if_neg e]
    simp only [ne_eq, e, not_false_eq_true, decide_true, Bool.true_or, true_iff]
    simp [List.getD, List.getElem?_eq_getElem hi]
theorem opn_next {x : Nd} {may : Int → Bool} {i : Nat} (hi : i < x.kids.length) : opn x may (i + 1) = (opn x may i && (decide (x.kind ≠ 6) || may (x.kids.getD i 0))) := by
  have e : x.kids.take (i + 1) = x.kids.take i ++ [x.kids.getD i 0] := by
    rw [List.take_add_one, List.getD, List.getElem?_eq_getElem hi]; rfl
  unfold opn
  rw [e, List.all_append, List.all_cons, List.all_nil, Bool.and_true]
  cases decide (x.kind ≠ 6) <;> simp
/-- The marks within a node's kids. -/
def inQ (l : List Nd) (may : Int → Bool) (n m i q : Nat) : Bool := if (q : Int) ∈ (l.getD m Nd.zero).kids.take i then decide ((q : Int) ∈ fsts (l.getD m Nd.zero) may) else inP l may n m q
theorem inQ_zero (l : List Nd) (may : Int → Bool) (n m q : Nat) : inQ l may n m 0 q = inP l may n m q := by simp [inQ]
theorem inQ_next {l : List Nd} {ms : Nat → Meas} (h : Measured l ms 0) (may : Int → Bool) {n m i a : Nat} (hm : m < l.length) (hi : i < (l.getD m Nd.zero).kids.length) (ha : (l.getD m Nd.zero).kids.getD i 0 = a) (q : Nat) : inQ l may n m (i + 1) q = if q = a then opn (l.getD m Nd.zero) may i else inQ l may n m i q := by
  have hp := kids_rise h (n := (m : Int)) (by omega) (by omega)
  rw [Int.toNat_natCast] at hp
  have e : (l.getD m Nd.zero).kids.take (i + 1) = (l.getD m Nd.zero).kids.take i ++ [(a : Int)] := by
    rw [← ha, List.take_add_one, List.getD_eq_getElem?_getD (l := (l.getD m Nd.zero).kids), List.getElem?_eq_getElem hi]; rfl
  unfold inQ
  rw [e]
  by_cases hq : q = a
  · subst hq
    rw [if_pos (by simp), if_pos rfl, opn_mem hp hi, ha]
  · rw [if_neg hq]
    have : (q : Int) ∈ List.take i (l.getD m Nd.zero).kids ++ [(a : Int)] ↔ (q : Int) ∈ List.take i (l.getD m Nd.zero).kids := by
      simp; omega
    by_cases h2 : (q : Int) ∈ List.take i (l.getD m Nd.zero).kids
    · rw [if_pos (this.2 h2), if_pos h2]
    · rw [if_neg (fun hc => h2 (this.1 hc)), if_neg h2]
theorem inQ_all {l : List Nd} {ms : Nat → Meas} (h : Measured l ms 0) (may : Int → Bool) {n m : Nat} (h1 : n < l.length) (hm : (m : Int) ∈ ownN l may n) (q : Nat) : inQ l may n m (l.getD m Nd.zero).kids.length q = inP l may n (m + 1) q := by
  unfold inQ
  rw [List.take_length, inP_step hm]
  by_cases h2 : (q : Int) ∈ (l.getD m Nd.zero).kids
  · rw [if_pos h2, inP_kid h may h1 hm h2, Bool.false_or]
  · rw [if_neg h2, decide_eq_false (fun hc => h2 (fsts_mem hc)), Bool.or_false]
/-- The rules that are called before node m is gone through. -/
def calP (l : List Nd) (may : Int → Bool) (n m r : Nat) : Bool := (ownN l may n).any fun p => decide (p < (m : Int)) && (decide ((l.getD p.toNat Nd.zero).kind = 5) && decide ((l.getD p.toNat Nd.zero).rule = (r : Int)))
theorem calP_none {l : List Nd} {ms : Nat → Meas} (h : Measured l ms 0) (may : Int → Bool) {n : Nat} (h1 : n < l.length) (r : Nat) : calP l may n n r = false := by
  rw [Bool.eq_false_iff]
  intro hc
  simp only [calP, List.any_eq_true, Bool.and_eq_true, decide_eq_true_eq] at hc
  obtain ⟨p, hp, h2, _⟩ := hc
  have := own_bound h may (by omega) (by omega) hp
  omega
theorem inP_none {l : List Nd} {ms : Nat → Meas} (h : Measured l ms 0) (may : Int → Bool) {n : Nat} (h1 : n < l.length) (q : Nat) : inP l may n n q = decide (q = n) := by
  rw [Bool.eq_iff_iff, decide_eq_true_eq]
  simp only [inP, Bool.or_eq_true, beq_iff_eq, List.any_eq_true, Bool.and_eq_true, decide_eq_true_eq]
  constructor
  · rintro (e | ⟨p, hp, h2, _⟩)
    · exact e
    · have := own_bound h may (by omega) (by omega) hp
      omega
  · exact .inl
theorem calP_skip {l : List Nd} {may : Int → Bool} {n m : Nat} (h : (m : Int) ∉ ownN l may n) (r : Nat) : calP l may n (m + 1) r = calP l may n m r := by
  unfold calP
  refine any_same fun p hp => ?_
  have : p ≠ m := fun e => h (e ▸ hp)
  rw [show decide (p < ((m + 1 : Nat) : Int)) = decide (p < (m : Int)) from by rw [decide_eq_decide]; omega]
theorem calP_step {l : List Nd} {may : Int → Bool} {n m : Nat} (h : (m : Int) ∈ ownN l may n) (r : Nat) : calP l may n (m + 1) r = (calP l may n m r || (decide ((l.getD m Nd.zero).kind = 5) && decide ((l.getD m Nd.zero).rule = (r : Int)))) := by
  unfold calP
  rw [any_next h (fun p => decide ((l.getD p.toNat Nd.zero).kind = 5) && decide ((l.getD p.toNat Nd.zero).rule = (r : Int))), Int.toNat_natCast]
theorem calP_all {l : List Nd} {ms : Nat → Meas} (h : Measured l ms 0) (may : Int → Bool) {n m : Nat} (h1 : n < l.length) (hm : (n : Int) + (ms n).1 ≤ m) (r : Nat) : calP l may n m r = callsB l may n r := by
  unfold calP callsB
  refine any_same fun p hp => ?_
  have := own_bound h may (by omega) (by omega) hp
  rw [Int.toNat_natCast] at this
  rw [decide_eq_true (show p < (m : Int) by omega), Bool.true_and]
/-- How many of a row are less. -/
def cnt (a : List Int) (m : Nat) : Nat := (a.filter fun x => decide (x < (m : Int))).length
theorem cnt_yes : ∀ {a : List Int} {m : Nat}, a.Pairwise (· < ·) → (m : Int) ∈ a → cnt a m < a.length ∧ a.getD (cnt a m) 0 = m ∧ cnt a (m + 1) = cnt a m + 1
  | [], m, _, h => by simp at h
  | x :: r, m, hp, h => by
    have hp2 := List.pairwise_cons.1 hp
    rcases List.mem_cons.1 h with e | hr
    · have n1 : r.filter (fun y => decide (y < (m : Int))) = [] := List.filter_eq_nil_iff.2 fun y hy => by have := hp2.1 y hy; simp; omega
      have n2 : r.filter (fun y => decide (y < ((m + 1 : Nat) : Int))) = [] := List.filter_eq_nil_iff.2 fun y hy => by have := hp2.1 y hy; simp; omega
      unfold cnt
      rw [List.filter_cons, List.filter_cons, n1, n2, if_neg (by simp; omega), if_pos (by simp; omega)]
      exact ⟨by simp, by simp [e], rfl⟩
    · have hx := hp2.1 _ hr
      obtain ⟨h1, h2, h3⟩ := cnt_yes hp2.2 hr
      unfold cnt at *
      rw [List.filter_cons, List.filter_cons, if_pos (by simp; omega), if_pos (by simp; omega)]
      simp only [List.length_cons, List.getD_cons_succ]
      exact ⟨by omega, h2, by omega⟩
theorem cnt_no {a : List Int} {m : Nat} (h : (m : Int) ∉ a) : cnt a (m + 1) = cnt a m := by
  unfold cnt
  congr 1
  refine List.filter_congr fun x hx => ?_
  have : x ≠ m := fun e => h (e ▸ hx)
  rw [decide_eq_decide]
  omega
theorem cnt_le (a : List Int) (m : Nat) : cnt a m ≤ a.length := List.length_filter_le _ _
theorem cnt_zero {a : List Int} (h : ∀ x ∈ a, 0 ≤ x) : cnt a 0 = 0 := by
  unfold cnt
  rw [List.length_eq_zero_iff, List.filter_eq_nil_iff]
  intro x hx
  have := h x hx
  simp; omega
theorem cnt_all {a : List Int} {m : Nat} (h : ∀ x ∈ a, x < (m : Int)) : cnt a m = a.length := by
  unfold cnt
  rw [List.filter_eq_self.2 fun x hx => by have := h x hx; simpa using this]
theorem nums_rise {n : Nat} {p : Nat → Bool} : (nums (rowOf' n p)).Pairwise (· < ·) := by
  unfold nums rowOf'
  rw [List.pairwise_map]
  refine List.Pairwise.filter _ ?_
  have := List.pairwise_lt_range (n := n)
  exact this.imp fun h => by omega
theorem nums_row {n r : Nat} {p : Nat → Bool} : (r : Int) ∈ nums (rowOf' n p) ↔ r < n ∧ p r = true := by
  unfold nums
  rw [List.mem_map]
  constructor
  · rintro ⟨k, hk, e⟩
    obtain rfl : k = r := by omega
    exact rowOf_mem.1 hk
  · intro h
    exact ⟨r, rowOf_mem.2 h, rfl⟩
end Go.Proofs.Ytmlaepbmdfmgbaa

/- What the law NullAhead needs, plainly: where the bodies of a built grammar lie, what they may. -/
import Derived.Test.YtjelgmdjmjnnfaaC2
import Derived.Test.YtjelgmdjmjnnfaaL0
import Derived.Test.YtjelgmdjmjnnfaaB7
set_option linter.unusedSimpArgs false
set_option linter.unusedVariables false
namespace Go.Proofs.Ytjelgmdjmjnnfaa
open Go Go.RowKit Go.Maps
theorem gramL_snoc (bl : List (List Nd)) (b : List Nd) : gramL (bl ++ [b]) = gramN (gramL bl) b := by
  unfold gramL; rw [List.foldl_append]; rfl
theorem gramL_rules : ∀ (n : Nat) (bl : List (List Nd)), bl.length = n → (gramL bl).1.length = bl.length
  | 0, bl, h => by rw [List.length_eq_zero_iff.1 h]; rfl
  | n + 1, bl, h => by
    obtain ⟨l, b, rfl⟩ : ∃ l b, bl = l ++ [b] := ⟨bl.dropLast, bl.getLast (by intro e; simp [e] at h), (List.dropLast_concat_getLast _).symm⟩
    have := gramL_rules n l (by simpa using h)
    rw [gramL_snoc]
    simp [gramN, this]
/-- A block lies in the built grammar at its rule's body. -/
theorem gramL_block : ∀ (n : Nat) (bl : List (List Nd)), bl.length = n → ∀ i, i < bl.length → ∃ o : Nat, ((gramL bl).1.getD i Rl.zero).body = o ∧ o + (bl.getD i []).length ≤ (gramL bl).2.length ∧ ∀ j, j < (bl.getD i []).length → (gramL bl).2.getD (o + j) Nd.zero = mvk o ((bl.getD i []).getD j Nd.zero)
  | 0, bl, h, i, hi => by omega
  | n + 1, bl, h, i, hi => by
    obtain ⟨l, b, rfl⟩ : ∃ l b, bl = l ++ [b] := ⟨bl.dropLast, bl.getLast (by intro e; simp [e] at h), (List.dropLast_concat_getLast _).symm⟩
    have hl : l.length = n := by simpa using h
    have hr := gramL_rules n l hl
    rw [gramL_snoc]
    by_cases e : i < l.length
    · obtain ⟨o, h1, h3, h2⟩ := gramL_block n l hl i e
      have eb : (l ++ [b]).getD i [] = l.getD i [] := by
        simp only [List.getD]
        rw [List.getElem?_append_left e]
      rw [eb]
      refine ⟨o, ?_, ?_, fun j hj => ?_⟩
      · rw [← h1]
        simp only [gramN, List.getD]
        rw [List.getElem?_append_left (by rw [hr]; exact e)]
      · simp only [gramN, List.length_append]; omega
      · rw [← h2 j hj]
        simp only [gramN, List.getD]
        rw [List.getElem?_append_left (by omega)]
    · have ei : i = l.length := by simp at hi; omega
      subst ei
      have eb : (l ++ [b]).getD l.length [] = b := by
        simp [List.getD]
      rw [eb]
      refine ⟨(gramL l).2.length, ?_, ?_, fun j hj => ?_⟩
      · simp only [gramN, List.getD]
        rw [← hr]
        simp
      · simp [gramN]
      · simp only [gramN, List.getD]
        rw [List.getElem?_append_right (by omega)]
        simp [List.getElem?_eq_getElem hj]
/-- A grammar whose bodies are these blocks, whatever its rules' names. -/
structure Built (g : Gr) (bl : List (List Nd)) : Prop where
  nodes : g.nodes.map Nd.kz = (gramL bl).2
  len : g.rules.length = bl.length
  body : ∀ i, i < bl.length → (g.rules.getD i Rl.zero).body = ((gramL bl).1.getD i Rl.zero).body
/-- A body's nodes. -/
theorem Built.at_ {g : Gr} {bl : List (List Nd)} (h : Built g bl) (i : Nat) (hi : i < bl.length) (h0 : 0 < (bl.getD i []).length) : ∃ o : Nat, (g.rules.getD i Rl.zero).body = o ∧ o + (bl.getD i []).length ≤ g.nodes.length ∧ ∀ j, j < (bl.getD i []).length → (g.nodes.getD (o + j) Nd.zero).kz = mvk o ((bl.getD i []).getD j Nd.zero) := by
  obtain ⟨o, h1, h2, h3⟩ := gramL_block _ bl rfl i hi
  refine ⟨o, by rw [h.body i hi, h1], ?_, fun j hj => ?_⟩
  · rw [← h.nodes, List.length_map] at h2; exact h2
  · rw [← h3 j hj, ← h.nodes, kz_getD]
theorem step_kz (x : Nd) (f inn : Int → Bool) : stepMay x.kz f inn = stepMay x f inn := rfl
theorem hard_eq (b : List Nd) : ofL 6 [[leafN 2], b] = { leafN 6 with kids := [1, 2] } :: leafN 2 :: b.map (mvk 2) := by
  simp [ofL, ofN, mvk, leafN, Nd.zero]
theorem soft_eq (b : List Nd) : ofL 8 [b] = { leafN 8 with kids := [1] } :: b.map (mvk 1) := by
  simp [ofL, ofN, mvk, leafN, Nd.zero]
/-- An Any ahead: no body may. -/
theorem hard_body {g : Gr} {bl : List (List Nd)} (hR : Right g) (h : Built g bl) (i : Nat) (hi : i < bl.length) (b : List Nd) (hb : bl.getD i [] = ofL 6 [[leafN 2], b]) (inn : Int → Bool) : mayN g.nodes inn (g.rules.getD i Rl.zero).body = false := by
  have hlen : (bl.getD i []).length = b.length + 2 := by rw [hb, hard_eq]; simp
  obtain ⟨o, h1, h2, h3⟩ := h.at_ i hi (by omega)
  have n0 := h3 0 (by omega)
  have n1 := h3 1 (by omega)
  rw [hb, hard_eq] at n0 n1
  simp only [List.getD_cons_zero, List.getD_cons_succ, Nat.add_zero] at n0 n1
  rw [h1, mayN_eq hR.kidsUp inn (by omega) (by omega), Int.toNat_natCast, ← step_kz, n0]
  have m1 : mayN g.nodes inn ((o : Int) + 1) = false := by
    rw [mayN_eq hR.kidsUp inn (by omega) (by omega), show ((o : Int) + 1).toNat = o + 1 by omega, ← step_kz, n1]
    unfold stepMay
    simp [mvk, leafN]
  unfold stepMay
  simp [mvk, leafN]
  intro h
  rw [show (1 : Int) + o = o + 1 by omega] at h
  rw [m1] at h
  cases h
/-- An Opt around: each body may. -/
theorem soft_body {g : Gr} {bl : List (List Nd)} (hR : Right g) (h : Built g bl) (i : Nat) (hi : i < bl.length) (b : List Nd) (hb : bl.getD i [] = ofL 8 [b]) (inn : Int → Bool) : mayN g.nodes inn (g.rules.getD i Rl.zero).body = true := by
  have hlen : (bl.getD i []).length = b.length + 1 := by rw [hb, soft_eq]; simp
  obtain ⟨o, h1, h2, h3⟩ := h.at_ i hi (by omega)
  have n0 := h3 0 (by omega)
  rw [hb, soft_eq] at n0
  simp only [List.getD_cons_zero, Nat.add_zero] at n0
  rw [h1, mayN_eq hR.kidsUp inn (by omega) (by omega), Int.toNat_natCast, ← step_kz, n0]
  unfold stepMay
  simp [mvk, leafN]
/-- With no body that may there is no rank. -/
theorem no_ranks {g : Gr} (h : ∀ i inn, i < g.rules.length → mayN g.nodes inn (g.rules.getD i Rl.zero).body = false) : ∀ (k i : Nat), (rk g k).getD i 0 = 0
  | 0, i => rk_zero g i
  | k + 1, i => by
    by_cases hi : i < g.rules.length
    · rw [rk_next g k i hi, if_neg (by unfold comB; rw [h i _ hi]; simp)]
      exact no_ranks h k i
    · exact rk_full g (k + 1) i (by omega)
/-- Where every body may all ranks are 1. -/
theorem one_ranks {g : Gr} (h : ∀ i inn, i < g.rules.length → mayN g.nodes inn (g.rules.getD i Rl.zero).body = true) (i : Nat) (hi : i < g.rules.length) : (ranks g).getD i 0 = 1 := by
  have h1 : (rk g 1).getD i 0 = 1 := by
    rw [rk_next g 0 i hi, if_pos (by unfold comB inB; rw [h i _ hi, Int.toNat_natCast, rk_zero]; simp)]
    rfl
  have := rk_keep g 1 i (by omega) (g.rules.length - 1)
  rw [show 1 + (g.rules.length - 1) = g.rules.length by omega] at this
  show (rk g g.rules.length).getD i 0 = 1
  rw [this, h1]
end Go.Proofs.Ytjelgmdjmjnnfaa
namespace Go.Proofs.Ytjelgmdjmjnnfaa
open Go Go.RowKit Go.Maps
theorem fsts_all (x : Nd) : fsts x (fun _ => true) = x.kids := by
  unfold fsts
  split
  · exact upTo_all fun _ _ => rfl
  · rfl
theorem own_self {l : List Nd} (hl : KidsUp l) (may : Int → Bool) {n : Int} (h0 : 0 ≤ n) (h1 : n < l.length) : n ∈ ownN l may n := by
  rw [ownN_eq hl may h0 h1]; exact List.mem_cons_self ..
theorem own_bound {l : List Nd} {ms : Nat → Meas} (h : Measured l ms 0) (may : Int → Bool) {n : Int} (h0 : 0 ≤ n) (h1 : n < l.length) {m : Int} (hm : m ∈ ownN l may n) : n ≤ m ∧ m < n + (ms n.toNat).1 ∧ m < l.length := by
  obtain ⟨k, rfl⟩ : ∃ k : Nat, n = k := ⟨n.toNat, by omega⟩
  have := (own_rises h may _ k (by omega) (Nat.le_refl _)).each m hm
  have h2 := h k (by omega) (by omega)
  rw [Int.toNat_natCast]
  omega
theorem climb_cover {len : Nat} {ms : Nat → Meas} (n0 : Nat) (hs : ∀ m : Nat, n0 ≤ m → m < len → 1 ≤ (ms m).1 ∧ 1 ≤ (ms m).2 ∧ m + (ms m).1 ≤ len) : ∀ (r : List Int) (next high top hh : Int), (n0 : Int) ≤ next → climb len ms r next high = some (top, hh) → ∀ m : Int, next ≤ m → m < top → ∃ k : Nat, (k : Int) ∈ r ∧ k < len ∧ n0 ≤ k ∧ k ≤ m ∧ m < k + (ms k).1 ∧ k + (ms k).1 ≤ top
  | [], next, high, top, hh, _, h, m, h1, h2 => by simp [climb] at h; omega
  | k :: r, next, high, top, hh, hn, h, m, h1, h2 => by
    unfold climb at h
    split at h
    · rename_i hk
      obtain ⟨rfl, hk2⟩ := hk
      obtain ⟨a, ha⟩ : ∃ a : Nat, k = a := ⟨k.toNat, by omega⟩
      subst ha
      rw [Int.toNat_natCast] at h
      have h3 := hs a (by omega) (by omega)
      have hup := climb_up n0 hs r _ _ top hh (by omega) h
      by_cases hm : m < a + (ms a).1
      · exact ⟨a, by simp, by omega, by omega, h1, hm, hup.1⟩
      · obtain ⟨q, q1, q2⟩ := climb_cover n0 hs r _ _ top hh (by omega) h m (by omega) h2
        exact ⟨q, List.mem_cons_of_mem _ q1, q2⟩
    · cases h
theorem nested {l : List Nd} {ms : Nat → Meas} (h : Measured l ms 0) : ∀ (d n : Nat), n < l.length → l.length - n ≤ d → ∀ m : Nat, n ≤ m → (m : Int) < n + (ms n).1 → (m : Int) + (ms m).1 ≤ n + (ms n).1
  | 0, n, h1, hd, _, _, _ => by omega
  | d + 1, n, h1, hd, m, hm1, hm2 => by
    by_cases e : m = n
    · subst e; omega
    · obtain ⟨_, _, _, hc⟩ := h n (by omega) h1
      obtain ⟨k, _, k2, k3, k4, k5, k6⟩ := climb_cover (n + 1) (fun q hq hql => by have := h q (by omega) hql; exact ⟨this.1, this.2.1, this.2.2.1⟩) _ _ _ _ _ (by omega) hc m (by omega) hm2
      have := nested h d k k2 (by omega) m (by omega) k5
      omega
theorem kids_in {l : List Nd} {ms : Nat → Meas} (h : Measured l ms 0) {n m : Nat} (hn : n < l.length) (hm1 : n ≤ m) (hm2 : (m : Int) < n + (ms n).1) {k : Int} (hk : k ∈ (l.getD m Nd.zero).kids) : (m : Int) < k ∧ k < n + (ms n).1 := by
  have hb := h n (by omega) hn
  have hml : m < l.length := by omega
  have h1 := nested h _ n hn (Nat.le_refl _) m hm1 hm2
  have h2 := h.kidsUp m hml k hk
  have h3 : k ∈ ownN l (fun _ => true) m := by
    rw [ownN_eq h.kidsUp _ (by omega) (by omega), fsts_all, Int.toNat_natCast]
    exact List.mem_cons_of_mem _ (List.mem_flatMap.2 ⟨k, hk, own_self h.kidsUp _ (by omega) (by omega)⟩)
  have h4 := own_bound h _ (by omega) (by omega) h3
  rw [Int.toNat_natCast] at h4
  omega
/-- A part of one row of nodes stands in another one. -/
structure Shf (l l' : List Nd) (fr s o : Nat) : Prop where
  up : KidsUp l
  up' : KidsUp l'
  len : fr + s ≤ l.length
  len' : o + s ≤ l'.length
  same : ∀ t, t < s → (l'.getD (o + t) Nd.zero).kz = mvk ((o : Int) - fr) (l.getD (fr + t) Nd.zero).kz
  shut : ∀ t, t < s → ∀ k ∈ (l.getD (fr + t) Nd.zero).kids, ((fr + t : Nat) : Int) < k ∧ k < fr + s
theorem step_mvk (x : Nd) (d : Int) (f inn : Int → Bool) : stepMay (mvk d x) f inn = stepMay x (fun k => f (k + d)) inn := by
  unfold stepMay mvk
  simp only [List.all_map, List.any_map, Function.comp_def]
theorem Shf.may {l l' : List Nd} {fr s o : Nat} (h : Shf l l' fr s o) (inn : Int → Bool) : ∀ (d t : Nat), t < s → s - t ≤ d → mayN l' inn ((o + t : Nat) : Int) = mayN l inn ((fr + t : Nat) : Int)
  | 0, t, ht, hd => by omega
  | d + 1, t, ht, hd => by
    have h1 := h.len; have h2 := h.len'
    rw [mayN_eq h.up' inn (by omega) (by omega), mayN_eq h.up inn (by omega) (by omega), Int.toNat_natCast, Int.toNat_natCast, ← step_kz, h.same t ht, step_mvk, step_kz]
    refine stepMay_congr (fun k hk => ?_) (fun _ => rfl)
    have hk2 := h.shut t ht k hk
    obtain ⟨u, rfl⟩ : ∃ u : Nat, k = ((fr + u : Nat) : Int) := ⟨(k - fr).toNat, by omega⟩
    have := h.may inn d u (by omega) (by omega)
    rw [← this]
    congr 1
    omega
theorem upTo_map (d : Int) (may : Int → Bool) : ∀ l : List Int, upTo may (l.map (· + d)) = (upTo (fun k => may (k + d)) l).map (· + d)
  | [] => rfl
  | k :: r => by
    simp only [List.map_cons, upTo]
    split
    · rw [upTo_map d may r]
    · rfl
theorem upTo_congr {m m' : Int → Bool} : ∀ {l : List Int}, (∀ k ∈ l, m k = m' k) → upTo m l = upTo m' l
  | [], _ => rfl
  | k :: r, h => by
    unfold upTo
    rw [h k (List.mem_cons_self ..), upTo_congr fun j hj => h j (List.mem_cons_of_mem _ hj)]
theorem fsts_congr {x : Nd} {m m' : Int → Bool} (h : ∀ k ∈ x.kids, m k = m' k) : fsts x m = fsts x m' := by
  unfold fsts; rw [upTo_congr h]
/-- Whose bodies may as another one's, of them the ranks are the same. -/
theorem rk_same {g y : Gr} (hl : y.rules.length = g.rules.length) (hm : ∀ i inn, i < g.rules.length → mayN y.nodes inn (y.rules.getD i Rl.zero).body = mayN g.nodes inn (g.rules.getD i Rl.zero).body) : ∀ k, rk y k = rk g k
  | 0 => by unfold rk; rw [hl]
  | k + 1 => by
    unfold rk
    rw [rk_same hl hm k, hl]
    refine List.map_congr_left fun i hi => ?_
    have hi2 : i < g.rules.length := by simpa using hi
    have : comB y (rk g k) i = comB g (rk g k) i := by unfold comB; rw [hm i _ hi2]
    rw [this]
theorem soft6_eq (b : List Nd) : ofL 6 [ofL 12 [[leafN 1]], b] = { leafN 6 with kids := [1, 3] } :: { leafN 12 with kids := [2] } :: leafN 1 :: b.map (mvk 3) := by
  simp [ofL, ofN, mvk, leafN, Nd.zero]
end Go.Proofs.Ytjelgmdjmjnnfaa
namespace Go.Proofs.Ytjelgmdjmjnnfaa
open Go Go.RowKit
theorem climb_shift {len len' : Nat} {ms ms' : Nat → Meas} {d : Int} : ∀ (r : List Int) (next high top hh : Int), (∀ k ∈ r, k + d < len' ∧ ms' (k + d).toNat = ms k.toNat) → climb len ms r next high = some (top, hh) → climb len' ms' (r.map (· + d)) (next + d) high = some (top + d, hh)
  | [], next, high, top, hh, _, h => by
    simp only [climb, Option.some.injEq, Prod.mk.injEq] at h
    obtain ⟨rfl, rfl⟩ := h
    rfl
  | k :: r, next, high, top, hh, hk, h => by
    unfold climb at h
    split at h
    · rename_i hc
      obtain ⟨rfl, _⟩ := hc
      obtain ⟨h1, h2⟩ := hk k (List.mem_cons_self ..)
      have ih := climb_shift r _ _ top hh (fun j hj => hk j (List.mem_cons_of_mem _ hj)) h
      rw [List.map_cons]
      unfold climb
      rw [if_pos ⟨rfl, h1⟩, h2]
      rw [show k + d + (ms k.toNat).1 = k + (ms k.toNat).1 + d by omega]
      exact ih
    · cases h
/-- A block that stands for itself: its nodes are right, it is measured, all of it is its first node's. -/
structure Blo (b : List Nd) (R h : Int) : Prop where
  pos : 0 < b.length
  ok : ∀ j, j < b.length → nodeOk (b.getD j Nd.zero) R = true
  meas : ∃ ms, Measured b ms 0 ∧ ms 0 = ((b.length : Int), h)
theorem nodeOk_mvk (x : Nd) (d r : Int) : nodeOk (mvk d x) r = nodeOk x r := by
  rw [Bool.eq_iff_iff, nodeOk_iff, nodeOk_iff]
  unfold NodeIs mvk
  simp only [List.length_map]
theorem nodeOk_kz (x : Nd) (r : Int) : nodeOk x.kz r = nodeOk x r := by
  rw [Bool.eq_iff_iff, nodeOk_iff, nodeOk_iff]
  exact Iff.rfl
theorem getD_map_mvk (l : List Nd) (d : Int) (j : Nat) : (l.map (mvk d)).getD j Nd.zero = mvk d (l.getD j Nd.zero) := by
  simp only [List.getD, List.getElem?_map]
  cases l[j]? <;> rfl
theorem getD_app_left {l l' : List Nd} {j : Nat} (h : j < l.length) : (l ++ l').getD j Nd.zero = l.getD j Nd.zero := by
  simp only [List.getD]; rw [List.getElem?_append_left h]
theorem getD_app_right {l l' : List Nd} {j : Nat} (h : l.length ≤ j) : (l ++ l').getD j Nd.zero = l'.getD (j - l.length) Nd.zero := by
  simp only [List.getD]; rw [List.getElem?_append_right h]
theorem measured_app {l b : List Nd} {ms msb : Nat → Meas} (h : Measured l ms 0) (hb : Measured b msb 0) :
    Measured (l ++ b.map (mvk l.length)) (fun m => if m < l.length then ms m else msb (m - l.length)) 0 := by
  have u1 := h.kidsUp
  have u2 := hb.kidsUp
  intro m _ hm
  have hlen : (l ++ b.map (mvk l.length)).length = l.length + b.length := by simp
  rw [hlen] at hm ⊢
  by_cases e : m < l.length
  · obtain ⟨h1, h2, h3, h4⟩ := h m (by omega) e
    simp only [if_pos e]
    refine ⟨h1, h2, by omega, ?_⟩
    have hk : kidsOf (l ++ b.map (mvk l.length)) m = (kidsOf l m).map (· + 0) := by
      unfold kidsOf
      rw [getD_app_left e]
      simp
    have := climb_shift (len := l.length) (len' := l.length + b.length) (ms := ms) (ms' := fun m => if m < l.length then ms m else msb (m - l.length)) (d := 0) (kidsOf l m) (m + 1) 0 _ _ (fun k hk => by
      have := u1 m e k hk
      refine ⟨by omega, ?_⟩
      rw [Int.add_zero]
      exact if_pos (by omega)) h4
    rw [hk]
    simpa using this
  · obtain ⟨q, rfl⟩ : ∃ q, m = l.length + q := ⟨m - l.length, by omega⟩
    have eq : l.length + q - l.length = q := by omega
    obtain ⟨h1, h2, h3, h4⟩ := hb q (by omega) (by omega)
    simp only [if_neg e, eq]
    refine ⟨h1, h2, by omega, ?_⟩
    have hk : kidsOf (l ++ b.map (mvk l.length)) (l.length + q) = (kidsOf b q).map (· + (l.length : Int)) := by
      unfold kidsOf
      rw [getD_app_right (by omega), eq, getD_map_mvk]
      rfl
    have := climb_shift (len := b.length) (len' := l.length + b.length) (ms := msb) (ms' := fun m => if m < l.length then ms m else msb (m - l.length)) (d := (l.length : Int)) (kidsOf b q) (q + 1) 0 _ _ (fun k hk => by
      have := u2 q (by omega) k hk
      refine ⟨by omega, ?_⟩
      have e1 : ¬ (k + (l.length : Int)).toNat < l.length := by omega
      have e2 : (k + (l.length : Int)).toNat - l.length = k.toNat := by omega
      simp only [if_neg e1, e2]) h4
    rw [hk, show (((l.length + q : Nat) : Int) + 1) = (q : Int) + 1 + l.length by omega, this]
    simp only [Option.some.injEq, Prod.mk.injEq, and_true]
    omega
theorem bodies_snoc (len : Nat) (ms : Nat → Meas) (r : Rl) : ∀ (l : List Rl) (next n : Int), bodies len ms l next = some n → bodies len ms (l ++ [r]) next = if r.body = n ∧ n < len ∧ (ms n.toNat).2 ≤ 16 then some (n + (ms n.toNat).1) else none
  | [], next, n, h => by
    simp only [bodies, Option.some.injEq] at h
    subst h
    rfl
  | q :: l, next, n, h => by
    unfold bodies at h
    rw [List.cons_append]
    unfold bodies
    split at h
    · rename_i hc
      rw [if_pos hc]
      exact bodies_snoc len ms r l _ n h
    · cases h
theorem bodies_grow {len len' : Nat} {ms ms' : Nat → Meas} (hl : len ≤ len') (hm : ∀ m, m < len → 1 ≤ (ms m).1 ∧ ms' m = ms m) : ∀ (l : List Rl) (next n : Int), 0 ≤ next → bodies len ms l next = some n → bodies len' ms' l next = some n
  | [], _, _, _, h => h
  | r :: l, next, n, h0, h => by
    unfold bodies at h ⊢
    split at h
    · rename_i hc
      obtain ⟨h1, h2⟩ := hm next.toNat (by omega)
      rw [h2, if_pos ⟨hc.1, by omega, hc.2.2⟩]
      exact bodies_grow hl hm l _ n (by omega) h
    · cases h
theorem bodies_same (len : Nat) (ms : Nat → Meas) : ∀ (l l' : List Rl) (next : Int), l.map Rl.body = l'.map Rl.body → bodies len ms l next = bodies len ms l' next
  | [], [], _, _ => rfl
  | [], _ :: _, _, h => by simp at h
  | _ :: _, [], _, h => by simp at h
  | r :: l, r' :: l', next, h => by
    simp only [List.map_cons, List.cons.injEq] at h
    unfold bodies
    rw [h.1, bodies_same len ms l l' _ h.2]
theorem ruleFrom_same (s : ByteArray) : ∀ (l l' : List Rl) (i : Nat), l.map Rl.name = l'.map Rl.name → ruleFrom s i l = ruleFrom s i l'
  | [], [], _, _ => rfl
  | [], _ :: _, _, h => by simp at h
  | _ :: _, [], _, h => by simp at h
  | r :: l, r' :: l', i, h => by
    simp only [List.map_cons, List.cons.injEq] at h
    unfold ruleFrom
    rw [h.1, ruleFrom_same s l l' _ h.2]
/-- Blocks one behind the other are right. -/
theorem gramL_right (R : Int) : ∀ (n : Nat) (bl : List (List Nd)), bl.length = n → (∀ b ∈ bl, ∃ h, Blo b R h ∧ h ≤ 16) →
    AllRight (gramL bl).2 R ∧ ∃ ms, Measured (gramL bl).2 ms 0 ∧ bodies (gramL bl).2.length ms (gramL bl).1 0 = some ((gramL bl).2.length : Int)
  | 0, bl, h, _ => by
    rw [List.length_eq_zero_iff.1 h]
    exact ⟨fun i hi => by simp [gramL] at hi, fun _ => (0, 0), fun m _ hm => by simp [gramL] at hm, rfl⟩
  | n + 1, bl, h, hB => by
    obtain ⟨l, b, rfl⟩ : ∃ l b, bl = l ++ [b] := ⟨bl.dropLast, bl.getLast (by intro e; simp [e] at h), (List.dropLast_concat_getLast _).symm⟩
    obtain ⟨A, ms, M, Bd⟩ := gramL_right R n l (by simpa using h) (fun b hb => hB b (by simp [hb]))
    obtain ⟨hb, ⟨p, ok, msb, Mb, m0⟩, h16⟩ := hB b (by simp)
    rw [gramL_snoc]
    have hlen : ((gramL l).2 ++ b.map (mvk (gramL l).2.length)).length = (gramL l).2.length + b.length := by simp
    refine ⟨fun i hi => ?_, _, measured_app M Mb, ?_⟩
    · have hi : i < ((gramL l).2 ++ b.map (mvk (gramL l).2.length)).length := hi
      show nodeOk (((gramL l).2 ++ b.map (mvk (gramL l).2.length)).getD i Nd.zero) R = true
      by_cases e : i < (gramL l).2.length
      · rw [getD_app_left e]; exact A i e
      · rw [getD_app_right (by omega), getD_map_mvk, nodeOk_mvk]
        exact ok _ (by omega)
    · show bodies ((gramL l).2 ++ b.map (mvk (gramL l).2.length)).length _ ((gramL l).1 ++ [⟨nameB (gramL l).1.length, ((gramL l).2.length : Int)⟩]) 0 = _
      rw [bodies_snoc _ _ _ _ _ _ (bodies_grow (len' := ((gramL l).2 ++ b.map (mvk (gramL l).2.length)).length) (ms' := fun m => if m < (gramL l).2.length then ms m else msb (m - (gramL l).2.length)) (by omega) (fun m hm => ⟨(M m (by omega) hm).1, if_pos hm⟩) _ _ _ (by omega) Bd)]
      have e1 : ¬ (((gramL l).2.length : Int)).toNat < (gramL l).2.length := by omega
      have e2 : (((gramL l).2.length : Int)).toNat - (gramL l).2.length = 0 := by omega
      simp only [if_neg e1, e2, m0]
      rw [if_pos ⟨trivial, by omega, h16⟩]
      show some _ = some _
      congr 1
      show ((gramL l).2.length : Int) + (b.length : Int) = (((gramL l).2 ++ b.map (mvk (gramL l).2.length)).length : Int)
      omega
theorem gramL_len : ∀ (n : Nat) (bl : List (List Nd)), bl.length = n → (gramL bl).2.length = (bl.map List.length).sum
  | 0, bl, h => by rw [List.length_eq_zero_iff.1 h]; rfl
  | n + 1, bl, h => by
    obtain ⟨l, b, rfl⟩ : ∃ l b, bl = l ++ [b] := ⟨bl.dropLast, bl.getLast (by intro e; simp [e] at h), (List.dropLast_concat_getLast _).symm⟩
    rw [gramL_snoc]
    show ((gramL l).2 ++ b.map (mvk (gramL l).2.length)).length = _
    rw [List.length_append, List.length_map, gramL_len n l (by simpa using h)]
    simp
/-- A grammar that is built of right blocks, with a right grammar's names, is right. -/
theorem built_right {g x : Gr} {bl : List (List Nd)} (hg : Right g) (h : Built x bl) (hl : bl.length = g.rules.length) (hn : x.rules.map Rl.name = g.rules.map Rl.name) (hb : ∀ b ∈ bl, ∃ hh, Blo b g.rules.length hh ∧ hh ≤ 16) (hs : x.nodes.length ≤ 2048) : Right x := by
  have hr := gramL_rules _ bl rfl
  obtain ⟨A, ms, M, Bd⟩ := gramL_right g.rules.length _ bl rfl hb
  have hxl : x.rules.length = g.rules.length := by rw [h.len, hl]
  have hnl : (gramL bl).2.length = x.nodes.length := by rw [← h.nodes, List.length_map]
  have hbody : x.rules.map Rl.body = (gramL bl).1.map Rl.body := by
    apply List.ext_getElem
    · rw [List.length_map, List.length_map, hxl, hr, hl]
    · intro i h1 h2
      rw [List.length_map] at h1 h2
      have := h.body i (by omega)
      simpa [List.getD, List.getElem?_eq_getElem h1, List.getElem?_eq_getElem h2] using this
  rw [← right_kz]
  refine ⟨by show 1 ≤ x.rules.length ∧ x.rules.length ≤ 32; rw [hxl]; exact hg.rules, by show (x.nodes.map Nd.kz).length ≤ 2048; rw [List.length_map]; exact hs, fun i hi => ?_, ?_, ms, ?_, ?_⟩
  · have hi : i < x.rules.length := hi
    show nameOk (x.rules.getD i Rl.zero).name.data.toList = true ∧ ruleAt x.rules (x.rules.getD i Rl.zero).name = i
    have hn2 : (x.rules.getD i Rl.zero).name = (g.rules.getD i Rl.zero).name := by
      have := congrArg (fun l => l[i]?) hn
      simp only [List.getElem?_map, List.getElem?_eq_getElem hi, List.getElem?_eq_getElem (show i < g.rules.length by omega), Option.map_some, Option.some.injEq] at this
      simpa [List.getD, List.getElem?_eq_getElem hi, List.getElem?_eq_getElem (show i < g.rules.length by omega)] using this
    rw [hn2]
    unfold ruleAt
    rw [ruleFrom_same _ _ _ 0 hn]
    exact hg.named i (by omega)
  · show AllRight (x.nodes.map Nd.kz) x.rules.length
    rw [h.nodes, hxl]; exact A
  · show Measured (x.nodes.map Nd.kz) ms 0
    rw [h.nodes]; exact M
  · show bodies (x.nodes.map Nd.kz).length ms x.rules 0 = some ((x.nodes.map Nd.kz).length : Int)
    rw [h.nodes, bodies_same _ _ _ _ _ hbody]; exact Bd
/-- A rule's body, moved to the front. -/
theorem part_blo {g : Gr} (hg : Right g) {ms : Nat → Meas} (hm : Measured g.nodes ms 0) {fr s : Nat} (hs : (ms fr).1 = s) (hfr : fr < g.nodes.length) : Blo (((g.nodes.drop fr).take s).map Nd.kz |>.map (mvk (-(fr : Int)))) g.rules.length (ms fr).2 := by
  obtain ⟨h1, h2, h3, h4⟩ := hm fr (by omega) hfr
  have hl : (((g.nodes.drop fr).take s).map Nd.kz |>.map (mvk (-(fr : Int)))).length = s := by simp; omega
  have hat : ∀ j, j < s → (((g.nodes.drop fr).take s).map Nd.kz |>.map (mvk (-(fr : Int)))).getD j Nd.zero = mvk (-(fr : Int)) (g.nodes.getD (fr + j) Nd.zero).kz := fun j hj => by
    rw [getD_map_mvk, kz_getD]
    congr 2
    simp only [List.getD_eq_getElem?_getD, List.getElem?_take, if_pos hj, List.getElem?_drop]
  refine ⟨by omega, fun j hj => ?_, fun j => ms (fr + j), fun j _ hj => ?_, ?_⟩
  · rw [hl] at hj
    rw [hat j hj, nodeOk_mvk, nodeOk_kz]
    exact hg.all _ (by omega)
  · rw [hl] at hj ⊢
    obtain ⟨a1, a2, a3, a4⟩ := hm (fr + j) (by omega) (by omega)
    have hne := nested hm _ fr hfr (Nat.le_refl _) (fr + j) (by omega) (by omega)
    refine ⟨a1, a2, by show (j : Int) + (ms (fr + j)).1 ≤ (s : Int); omega, ?_⟩
    have hk : kidsOf (((g.nodes.drop fr).take s).map Nd.kz |>.map (mvk (-(fr : Int)))) j = (kidsOf g.nodes (fr + j)).map (· + -(fr : Int)) := by
      unfold kidsOf
      rw [hat j hj]
      rfl
    have := climb_shift (len := g.nodes.length) (len' := s) (ms := ms) (ms' := fun j => ms (fr + j)) (d := -(fr : Int)) (kidsOf g.nodes (fr + j)) (((fr + j : Nat) : Int) + 1) 0 _ _ (fun k hk => by
      have := kids_in hm hfr (m := fr + j) (by omega) (by omega) hk
      refine ⟨by omega, ?_⟩
      show ms (fr + (k + -(fr : Int)).toNat) = ms k.toNat
      congr 1
      omega) a4
    rw [hk, show (j : Int) + 1 = ((fr + j : Nat) : Int) + 1 + -(fr : Int) by omega, this]
    simp only [Option.some.injEq, Prod.mk.injEq, and_true]
    omega
  · rw [hl]
    show ms (fr + 0) = _
    rw [Nat.add_zero]
    exact Prod.ext hs rfl
/-- A block with an Any ahead. -/
theorem hard_blo {b : List Nd} {R h : Int} (hb : Blo b R h) : Blo (ofL 6 [[leafN 2], b]) R (h + 1) := by
  obtain ⟨p, ok, ms, M, m0⟩ := hb
  have hu := M.kidsUp
  have h0 := M 0 (by omega) p
  rw [m0] at h0
  rw [hard_eq]
  have hlen : ({ leafN 6 with kids := [1, 2] } :: leafN 2 :: b.map (mvk 2)).length = b.length + 2 := by simp
  have hat : ∀ j, ({ leafN 6 with kids := [1, 2] } :: leafN 2 :: b.map (mvk 2)).getD (j + 2) Nd.zero = mvk 2 (b.getD j Nd.zero) := fun j => by
    show (b.map (mvk 2)).getD j Nd.zero = _
    rw [getD_map_mvk]
  refine ⟨by simp, fun j hj => ?_, fun m => if m = 0 then ((b.length : Int) + 2, h + 1) else if m = 1 then (1, 1) else ms (m - 2), fun m _ hm => ?_, by rw [hlen]; rfl⟩
  · rw [hlen] at hj
    match j with
    | 0 => rw [nodeOk_iff]; simp [NodeIs, leafN, Nd.zero, ByteArray.toList_eq]
    | 1 => rw [nodeOk_iff]; simp [NodeIs, leafN, Nd.zero, ByteArray.toList_eq]
    | j + 2 => rw [hat j, nodeOk_mvk]; exact ok j (by omega)
  · rw [hlen] at hm ⊢
    match m with
    | 0 =>
      refine ⟨by simp; omega, by simp; omega, by simp, ?_⟩
      show climb (b.length + 2) _ [1, 2] 1 0 = _
      simp only [climb]
      rw [if_pos ⟨trivial, by omega⟩]
      simp only [show (1 : Int).toNat = 1 from rfl, show (2 : Int).toNat = 2 from rfl, show (1 : Nat) ≠ 0 by decide, show (2 : Nat) ≠ 0 by decide, show (2 : Nat) ≠ 1 by decide, if_false, if_true, Nat.sub_self]
      rw [if_pos ⟨by omega, by omega⟩, m0]
      simp only [Option.some.injEq, Prod.mk.injEq]
      omega
    | 1 =>
      refine ⟨by simp, by simp, by simp; omega, ?_⟩
      rfl
    | q + 2 =>
      obtain ⟨a1, a2, a3, a4⟩ := M q (by omega) (by omega)
      simp only [show q + 2 ≠ 0 by omega, show q + 2 ≠ 1 by omega, if_false, Nat.add_sub_cancel]
      refine ⟨a1, a2, by omega, ?_⟩
      have hk : kidsOf ({ leafN 6 with kids := [1, 2] } :: leafN 2 :: b.map (mvk 2)) (q + 2) = (kidsOf b q).map (· + 2) := by
        unfold kidsOf
        rw [hat q]
        rfl
      have := climb_shift (len := b.length) (len' := b.length + 2) (ms := ms) (ms' := fun m => if m = 0 then ((b.length : Int) + 2, h + 1) else if m = 1 then (1, 1) else ms (m - 2)) (d := 2) (kidsOf b q) (q + 1) 0 _ _ (fun k hk => by
        have := hu q (by omega) k hk
        refine ⟨by omega, ?_⟩
        have e1 : (k + 2).toNat ≠ 0 := by omega
        have e2 : (k + 2).toNat ≠ 1 := by omega
        have e3 : (k + 2).toNat - 2 = k.toNat := by omega
        simp only [e1, e2, if_false, e3]) a4
      rw [hk, show (((q + 2 : Nat) : Int) + 1) = (q : Int) + 1 + 2 by omega, this]
      simp only [Option.some.injEq, Prod.mk.injEq, and_true]
      omega
end Go.Proofs.Ytjelgmdjmjnnfaa

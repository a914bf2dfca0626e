/- When a built grammar is right. Nothing here speaks of a program. -/
import Derived.Test.YtmlaepbmdfmgbaaN1
import Derived.Test.YtmlaepbmdfmgbaaB7
import Derived.Test.YtmlaepbmdfmgbaaC2
import Derived.Test.YtmlaepbmdfmgbaaQ1
import Derived.Test.YtmlaepbmdfmgbaaB6
set_option linter.unusedSimpArgs false
set_option linter.unusedVariables false
namespace Go.Proofs.Ytmlaepbmdfmgbaa
open Go Go.RowKit
theorem climb_shift {len len' : Nat} {ms ms' : Nat → Meas} {d : Int} : ∀ (r : List Int) (next high top hh : Int), (∀ k ∈ r, k + d < len' ∧ ms' (k + d).toNat = ms k.toNat) → climb len ms r next high = some (top, hh) → climb len' ms' (r.map (· + d)) (next + d) high = some (top + d, hh)
  | [], next, high, top, hh, _, h => by
    simp only [climb, Option.some.injEq, Prod.mk.injEq] at h
    obtain ⟨rfl, rfl⟩ := h
    rfl
  | k :: r, next, high, top, hh, hk, h => by
    unfold climb at h
    split at h
    · rename_i hc
      obtain ⟨rfl, _⟩ := hc
      obtain ⟨h1, h2⟩ := hk k (List.mem_cons_self ..)
      have ih := climb_shift r _ _ top hh (fun j hj => hk j (List.mem_cons_of_mem _ hj)) h
      rw [List.map_cons]
      unfold climb
      rw [if_pos ⟨rfl, h1⟩, h2]
      rw [show k + d + (ms k.toNat).1 = k + (ms k.toNat).1 + d by omega]
      exact ih
    · cases h
/-- A block that stands for itself: its nodes are right, it is measured, all of it is its first node's. -/
structure Blo (b : List Nd) (R h : Int) : Prop where
  pos : 0 < b.length
  ok : ∀ j, j < b.length → nodeOk (b.getD j Nd.zero) R = true
  meas : ∃ ms, Measured b ms 0 ∧ ms 0 = ((b.length : Int), h)
theorem nodeOk_mvk (x : Nd) (d r : Int) : nodeOk (mvk d x) r = nodeOk x r := by
  rw [Bool.eq_iff_iff, nodeOk_iff, nodeOk_iff]
  unfold NodeIs mvk
  simp only [List.length_map]
theorem nodeOk_kz (x : Nd) (r : Int) : nodeOk x.kz r = nodeOk x r := by
  rw [Bool.eq_iff_iff, nodeOk_iff, nodeOk_iff]
  exact Iff.rfl
theorem getD_map_mvk (l : List Nd) (d : Int) (j : Nat) : (l.map (mvk d)).getD j Nd.zero = mvk d (l.getD j Nd.zero) := by
  simp only [List.getD, List.getElem?_map]
  cases l[j]? <;> rfl
theorem getD_app_left {l l' : List Nd} {j : Nat} (h : j < l.length) : (l ++ l').getD j Nd.zero = l.getD j Nd.zero := by
  simp only [List.getD]; rw [List.getElem?_append_left h]
theorem getD_app_right {l l' : List Nd} {j : Nat} (h : l.length ≤ j) : (l ++ l').getD j Nd.zero = l'.getD (j - l.length) Nd.zero := by
  simp only [List.getD]; rw [List.getElem?_append_right h]
theorem measured_app {l b : List Nd} {ms msb : Nat → Meas} (h : Measured l ms 0) (hb : Measured b msb 0) :
    Measured (l ++ b.map (mvk l.length)) (fun m => if m < l.length then ms m else msb (m - l.length)) 0 := by
  have u1 := h.kidsUp
  have u2 := hb.kidsUp
  intro m _ hm
  have hlen : (l ++ b.map (mvk l.length)).length = l.length + b.length := by simp
  rw [hlen] at hm ⊢
  by_cases e : m < l.length
  · obtain ⟨h1, h2, h3, h4⟩ := h m (by omega) e
    simp only [if_pos e]
    refine ⟨h1, h2, by omega, ?_⟩
    have hk : kidsOf (l ++ b.map (mvk l.length)) m = (kidsOf l m).map (· + 0) := by
      unfold kidsOf
      rw [getD_app_left e]
      simp
    have := climb_shift (len := l.length) (len' := l.length + b.length) (ms := ms) (ms' := fun m => if m < l.length then ms m else msb (m - l.length)) (d := 0) (kidsOf l m) (m + 1) 0 _ _ (fun k hk => by
      have := u1 m e k hk
      refine ⟨by omega, ?_⟩
      rw [Int.add_zero]
      exact if_pos (by omega)) h4
    rw [hk]
    simpa using this
  · obtain ⟨q, rfl⟩ : ∃ q, m = l.length + q := ⟨m - l.length, by omega⟩
    have eq : l.length + q - l.length = q := by omega
    obtain ⟨h1, h2, h3, h4⟩ := hb q (by omega) (by omega)
    simp only [if_neg e, eq]
    refine ⟨h1, h2, by omega, ?_⟩
    have hk : kidsOf (l ++ b.map (mvk l.length)) (l.length + q) = (kidsOf b q).map (· + (l.length : Int)) := by
      unfold kidsOf
      rw [getD_app_right (by omega), eq, getD_map_mvk]
      rfl
    have := climb_shift (len := b.length) (len' := l.length + b.length) (ms := msb) (ms' := fun m => if m < l.length then ms m else msb (m - l.length)) (d := (l.length : Int)) (kidsOf b q) (q + 1) 0 _ _ (fun k hk => by
      have := u2 q (by omega) k hk
      refine ⟨by omega, ?_⟩
      have e1 : ¬ (k + (l.length : Int)).toNat < l.length := by omega
      have e2 : (k + (l.length : Int)).toNat - l.length = k.toNat := by omega
      simp only [if_neg e1, e2]) h4
    rw [hk, show (((l.length + q : Nat) : Int) + 1) = (q : Int) + 1 + l.length by omega, this]
    simp only [Option.some.injEq, Prod.mk.injEq, and_true]
    omega
theorem bodies_snoc (len : Nat) (ms : Nat → Meas) (r : Rl) : ∀ (l : List Rl) (next n : Int), bodies len ms l next = some n → bodies len ms (l ++ [r]) next = if r.body = n ∧ n < len ∧ (ms n.toNat).2 ≤ 16 then some (n + (ms n.toNat).1) else none
  | [], next, n, h => by
    simp only [bodies, Option.some.injEq] at h
    subst h
    rfl
  | q :: l, next, n, h => by
    unfold bodies at h
    rw [List.cons_append]
    unfold bodies
    split at h
    · rename_i hc
      rw [if_pos hc]
      exact bodies_snoc len ms r l _ n h
    · cases h
theorem bodies_grow {len len' : Nat} {ms ms' : Nat → Meas} (hl : len ≤ len') (hm : ∀ m, m < len → 1 ≤ (ms m).1 ∧ ms' m = ms m) : ∀ (l : List Rl) (next n : Int), 0 ≤ next → bodies len ms l next = some n → bodies len' ms' l next = some n
  | [], _, _, _, h => h
  | r :: l, next, n, h0, h => by
    unfold bodies at h ⊢
    split at h
    · rename_i hc
      obtain ⟨h1, h2⟩ := hm next.toNat (by omega)
      rw [h2, if_pos ⟨hc.1, by omega, hc.2.2⟩]
      exact bodies_grow hl hm l _ n (by omega) h
    · cases h
theorem bodies_same (len : Nat) (ms : Nat → Meas) : ∀ (l l' : List Rl) (next : Int), l.map Rl.body = l'.map Rl.body → bodies len ms l next = bodies len ms l' next
  | [], [], _, _ => rfl
  | [], _ :: _, _, h => by simp at h
  | _ :: _, [], _, h => by simp at h
  | r :: l, r' :: l', next, h => by
    simp only [List.map_cons, List.cons.injEq] at h
    unfold bodies
    rw [h.1, bodies_same len ms l l' _ h.2]
theorem ruleFrom_same (s : ByteArray) : ∀ (l l' : List Rl) (i : Nat), l.map Rl.name = l'.map Rl.name → ruleFrom s i l = ruleFrom s i l'
  | [], [], _, _ => rfl
  | [], _ :: _, _, h => by simp at h
  | _ :: _, [], _, h => by simp at h
  | r :: l, r' :: l', i, h => by
    simp only [List.map_cons, List.cons.injEq] at h
    unfold ruleFrom
    rw [h.1, ruleFrom_same s l l' _ h.2]
/-- Blocks one behind the other are right. -/
theorem gramL_right (R : Int) : ∀ (n : Nat) (bl : List (List Nd)), bl.length = n → (∀ b ∈ bl, ∃ h, Blo b R h ∧ h ≤ 16) →
    AllRight (gramL bl).2 R ∧ ∃ ms, Measured (gramL bl).2 ms 0 ∧ bodies (gramL bl).2.length ms (gramL bl).1 0 = some ((gramL bl).2.length : Int)
  | 0, bl, h, _ => by
    rw [List.length_eq_zero_iff.1 h]
    exact ⟨fun i hi => by simp [gramL] at hi, fun _ => (0, 0), fun m _ hm => by simp [gramL] at hm, rfl⟩
  | n + 1, bl, h, hB => by
    obtain ⟨l, b, rfl⟩ : ∃ l b, bl = l ++ [b] := ⟨bl.dropLast, bl.getLast (by intro e; simp [e] at h), (List.dropLast_concat_getLast _).symm⟩
    obtain ⟨A, ms, M, Bd⟩ := gramL_right R n l (by simpa using h) (fun b hb => hB b (by simp [hb]))
    obtain ⟨hb, ⟨p, ok, msb, Mb, m0⟩, h16⟩ := hB b (by simp)
    rw [gramL_snoc]
    have hlen : ((gramL l).2 ++ b.map (mvk (gramL l).2.length)).length = (gramL l).2.length + b.length := by simp
    refine ⟨fun i hi => ?_, _, measured_app M Mb, ?_⟩
    · have hi : i < ((gramL l).2 ++ b.map (mvk (gramL l).2.length)).length := hi
      show nodeOk (((gramL l).2 ++ b.map (mvk (gramL l).2.length)).getD i Nd.zero) R = true
      by_cases e : i < (gramL l).2.length
      · rw [getD_app_left e]; exact A i e
      · rw [getD_app_right (by omega), getD_map_mvk, nodeOk_mvk]
        exact ok _ (by omega)
    · show bodies ((gramL l).2 ++ b.map (mvk (gramL l).2.length)).length _ ((gramL l).1 ++ [⟨nameB (gramL l).1.length, ((gramL l).2.length : Int)⟩]) 0 = _
      rw [bodies_snoc _ _ _ _ _ _ (bodies_grow (len' := ((gramL l).2 ++ b.map (mvk (gramL l).2.length)).length) (ms' := fun m => if m < (gramL l).2.length then ms m else msb (m - (gramL l).2.length)) (by omega) (fun m hm => ⟨(M m (by omega) hm).1, if_pos hm⟩) _ _ _ (by omega) Bd)]
      have e1 : ¬ (((gramL l).2.length : Int)).toNat < (gramL l).2.length := by omega
      have e2 : (((gramL l).2.length : Int)).toNat - (gramL l).2.length = 0 := by omega
      simp only [if_neg e1, e2, m0]
      rw [if_pos ⟨trivial, by omega, h16⟩]
      show some _ = some _
      congr 1
      show ((gramL l).2.length : Int) + (b.length : Int) = (((gramL l).2 ++ b.map (mvk (gramL l).2.length)).length : Int)
      omega
theorem gramL_len : ∀ (n : Nat) (bl : List (List Nd)), bl.length = n → (gramL bl).2.length = (bl.map List.length).sum
  | 0, bl, h => by rw [List.length_eq_zero_iff.1 h]; rfl
  | n + 1, bl, h => by
    obtain ⟨l, b, rfl⟩ : ∃ l b, bl = l ++ [b] := ⟨bl.dropLast, bl.getLast (by intro e; simp [e] at h), (List.dropLast_concat_getLast _).symm⟩
    rw [gramL_snoc]
    show ((gramL l).2 ++ b.map (mvk (gramL l).2.length)).length = _
    rw [List.length_append, List.length_map, gramL_len n l (by simpa using h)]
    simp
/-- A grammar that is built of right blocks, with a right grammar's names, is right. -/
theorem built_right {g x : Gr} {bl : List (List Nd)} (hg : Right g) (h : Built x bl) (hl : bl.length = g.rules.length) (hn : x.rules.map Rl.name = g.rules.map Rl.name) (hb : ∀ b ∈ bl, ∃ hh, Blo b g.rules.length hh ∧ hh ≤ 16) (hs : x.nodes.length ≤ 2048) : Right x := by
  have hr := gramL_rules _ bl rfl
  obtain ⟨A, ms, M, Bd⟩ := gramL_right g.rules.length _ bl rfl hb
  have hxl : x.rules.length = g.rules.length := by rw [h.len, hl]
  have hnl : (gramL bl).2.length = x.nodes.length := by rw [← h.nodes, List.length_map]
  have hbody : x.rules.map Rl.body = (gramL bl).1.map Rl.body := by
    apply List.ext_getElem
    · rw [List.length_map, List.length_map, hxl, hr, hl]
    · intro i h1 h2
      rw [List.length_map] at h1 h2
      have := h.body i (by omega)
      simpa [List.getD, List.getElem?_eq_getElem h1, List.getElem?_eq_getElem h2] using this
  rw [← right_kz]
  refine ⟨by show 1 ≤ x.rules.length ∧ x.rules.length ≤ 32; rw [hxl]; exact hg.rules, by show (x.nodes.map Nd.kz).length ≤ 2048; rw [List.length_map]; exact hs, fun i hi => ?_, ?_, ms, ?_, ?_⟩
  · have hi : i < x.rules.length := hi
    show nameOk (x.rules.getD i Rl.zero).name.data.toList = true ∧ ruleAt x.rules (x.rules.getD i Rl.zero).name = i
    have hn2 : (x.rules.getD i Rl.zero).name = (g.rules.getD i Rl.zero).name := by
      have := congrArg (fun l => l[i]?) hn
      simp only [List.getElem?_map, List.getElem?_eq_getElem hi, List.getElem?_eq_getElem (show i < g.rules.length by omega), Option.map_some, Option.some.injEq] at this
      simpa [List.getD, List.getElem?_eq_getElem hi, List.getElem?_eq_getElem (show i < g.rules.length by omega)] using this
    rw [hn2]
    unfold ruleAt
    rw [ruleFrom_same _ _ _ 0 hn]
    exact hg.named i (by omega)
  · show AllRight (x.nodes.map Nd.kz) x.rules.length
    rw [h.nodes, hxl]; exact A
  · show Measured (x.nodes.map Nd.kz) ms 0
    rw [h.nodes]; exact M
  · show bodies (x.nodes.map Nd.kz).length ms x.rules 0 = some ((x.nodes.map Nd.kz).length : Int)
    rw [h.nodes, bodies_same _ _ _ _ _ hbody]; exact Bd
/-- A rule's body, moved to the front. -/
theorem part_blo {g : Gr} (hg : Right g) {ms : Nat → Meas} (hm : Measured g.nodes ms 0) {fr s : Nat} (hs : (ms fr).1 = s) (hfr : fr < g.nodes.length) : Blo (((g.nodes.drop fr).take s).map Nd.kz |>.map (mvk (-(fr : Int)))) g.rules.length (ms fr).2 := by
  obtain ⟨h1, h2, h3, h4⟩ := hm fr (by omega) hfr
  have hl : (((g.nodes.drop fr).take s).map Nd.kz |>.map (mvk (-(fr : Int)))).length = s := by simp; omega
  have hat : ∀ j, j < s → (((g.nodes.drop fr).take s).map Nd.kz |>.map (mvk (-(fr : Int)))).getD j Nd.zero = mvk (-(fr : Int)) (g.nodes.getD (fr + j) Nd.zero).kz := fun j hj => by
    rw [getD_map_mvk, kz_getD]
    congr 2
    simp only [List.getD_eq_getElem?_getD, List.getElem?_take, if_pos hj, List.getElem?_drop]
  refine ⟨by omega, fun j hj => ?_, fun j => ms (fr + j), fun j _ hj => ?_, ?_⟩
  · rw [hl] at hj
    rw [hat j hj, nodeOk_mvk, nodeOk_kz]
    exact hg.all _ (by omega)
  · rw [hl] at hj ⊢
    obtain ⟨a1, a2, a3, a4⟩ := hm (fr + j) (by omega) (by omega)
    have hne := nested hm _ fr hfr (Nat.le_refl _) (fr + j) (by omega) (by omega)
    refine ⟨a1, a2, by show (j : Int) + (ms (fr + j)).1 ≤ (s : Int); omega, ?_⟩
    have hk : kidsOf (((g.nodes.drop fr).take s).map Nd.kz |>.map (mvk (-(fr : Int)))) j = (kidsOf g.nodes (fr + j)).map (· + -(fr : Int)) := by
      unfold kidsOf
      rw [hat j hj]
      rfl
    have := climb_shift (len := g.nodes.length) (len' := s) (ms := ms) (ms' := fun j => ms (fr + j)) (d := -(fr : Int)) (kidsOf g.nodes (fr + j)) (((fr + j : Nat) : Int) + 1) 0 _ _ (fun k hk => by
      have := kids_in hm hfr (m := fr + j) (by omega) (by omega) hk
      refine ⟨by omega, ?_⟩
      show ms (fr + (k + -(fr : Int)).toNat) = ms k.toNat
      congr 1
      omega) a4
    rw [hk, show (j : Int) + 1 = ((fr + j : Nat) : Int) + 1 + -(fr : Int) by omega, this]
    simp only [Option.some.injEq, Prod.mk.injEq, and_true]
    omega
  · rw [hl]
    show ms (fr + 0) = _
    rw [Nat.add_zero]
    exact Prod.ext hs rfl
/-- A block with an Any ahead. -/
theorem hard_blo {b : List Nd} {R h : Int} (hb : Blo b R h) : Blo (ofL 6 [[leafN 2], b]) R (h + 1) := by
  obtain ⟨p, ok, ms, M, m0⟩ := hb
  have hu := M.kidsUp
  have h0 := M 0 (by omega) p
  rw [m0] at h0
  rw [hard_eq]
  have hlen : ({ leafN 6 with kids := [1, 2] } :: leafN 2 :: b.map (mvk 2)).length = b.length + 2 := by simp
  have hat : ∀ j, ({ leafN 6 with kids := [1, 2] } :: leafN 2 :: b.map (mvk 2)).getD (j + 2) Nd.zero = mvk 2 (b.getD j Nd.zero) := fun j => by
    show (b.map (mvk 2)).getD j Nd.zero = _
    rw [getD_map_mvk]
  refine ⟨by simp, fun j hj => ?_, fun m => if m = 0 then ((b.length : Int) + 2, h + 1) else if m = 1 then (1, 1) else ms (m - 2), fun m _ hm => ?_, by rw [hlen]; rfl⟩
  · rw [hlen] at hj
    match j with
    | 0 => rw [nodeOk_iff]; simp [NodeIs, leafN, Nd.zero, ByteArray.toList_eq]
    | 1 => rw [nodeOk_iff]; simp [NodeIs, leafN, Nd.zero, ByteArray.toList_eq]
    | j + 2 => rw [hat j, nodeOk_mvk]; exact ok j (by omega)
  · rw [hlen] at hm ⊢
    match m with
    | 0 =>
      refine ⟨by simp; omega, by simp; omega, by simp, ?_⟩
      show climb (b.length + 2) _ [1, 2] 1 0 = _
      simp only [climb]
      rw [if_pos ⟨trivial, by omega⟩]
      simp only [show (1 : Int).toNat = 1 from rfl, show (2 : Int).toNat = 2 from rfl, show (1 : Nat) ≠ 0 by decide, show (2 : Nat) ≠ 0 by decide, show (2 : Nat) ≠ 1 by decide, if_false, if_true, Nat.sub_self]
      rw [if_pos ⟨by omega, by omega⟩, m0]
      simp only [Option.some.injEq, Prod.mk.injEq]
      omega
    | 1 =>
      refine ⟨by simp, by simp, by simp; omega, ?_⟩
      rfl
    | q + 2 =>
      obtain ⟨a1, a2, a3, a4⟩ := M q (by omega) (by omega)
      simp only [show q + 2 ≠ 0 by omega, show q + 2 ≠ 1 by omega, if_false, Nat.add_sub_cancel]
      refine ⟨a1, a2, by omega, ?_⟩
      have hk : kidsOf ({ leafN 6 with kids := [1, 2] } :: leafN 2 :: b.map (mvk 2)) (q + 2) = (kidsOf b q).map (· + 2) := by
        unfold kidsOf
        rw [hat q]
        rfl
      have := climb_shift (len := b.length) (len' := b.length + 2) (ms := ms) (ms' := fun m => if m = 0 then ((b.length : Int) + 2, h + 1) else if m = 1 then (1, 1) else ms (m - 2)) (d := 2) (kidsOf b q) (q + 1) 0 _ _ (fun k hk => by
        have := hu q (by omega) k hk
        refine ⟨by omega, ?_⟩
        have e1 : (k + 2).toNat ≠ 0 := by omega
        have e2 : (k + 2).toNat ≠ 1 := by omega
        have e3 : (k + 2).toNat - 2 = k.toNat := by omega
        simp only [e1, e2, if_false, e3]) a4
      rw [hk, show (((q + 2 : Nat) : Int) + 1) = (q : Int) + 1 + 2 by omega, this]
      simp only [Option.some.injEq, Prod.mk.injEq, and_true]
      omega
end Go.Proofs.Ytmlaepbmdfmgbaa
namespace Go.Proofs.Ytmlaepbmdfmgbaa
open Go Go.RowKit
theorem bodies_high {len : Nat} {ms : Nat → Meas} (h1 : ∀ m, m < len → 1 ≤ (ms m).1) : ∀ (l : List Rl) (next top : Int), 0 ≤ next → bodies len ms l next = some top → ∀ i, i < l.length → (ms (l.getD i Rl.zero).body.toNat).2 ≤ 16
  | [], _, _, _, _, i, hi => by simp at hi
  | r :: l, next, top, hn, h, i, hi => by
    unfold bodies at h
    split at h
    · rename_i hc
      obtain ⟨a, b, c⟩ := hc
      have hm := h1 next.toNat (by omega)
      cases i with
      | zero => show (ms r.body.toNat).2 ≤ 16; rw [a]; exact c
      | succ i =>
        have := bodies_high h1 l _ top (by omega) h i (by simpa using hi)
        simpa using this
    · cases h
theorem sum_le : ∀ (a b : List Nat), a.length = b.length → (∀ i, i < a.length → a.getD i 0 ≤ b.getD i 0) → a.sum ≤ b.sum
  | [], b, _, _ => by simp
  | x :: a, [], h, _ => by simp at h
  | x :: a, y :: b, h, hh => by
    have h0 := hh 0 (by simp)
    have ih := sum_le a b (by simpa using h) (fun i hi => hh (i + 1) (by simpa using hi))
    simp only [List.sum_cons]
    have h0 : x ≤ y := h0
    omega
theorem bodies_sum {len : Nat} {ms : Nat → Meas} (h1 : ∀ m, m < len → 1 ≤ (ms m).1) : ∀ (l : List Rl) (next top : Int), 0 ≤ next → bodies len ms l next = some top → next + ((l.map fun r => (ms r.body.toNat).1.toNat).sum : Nat) = top
  | [], next, top, _, h => by
    simp only [bodies, Option.some.injEq] at h
    simp [h]
  | r :: l, next, top, hn, h => by
    unfold bodies at h
    split at h
    · rename_i hc
      obtain ⟨a, b, _⟩ := hc
      have hm := h1 next.toNat (by omega)
      have ih := bodies_sum h1 l _ top (by omega) h
      simp only [List.map_cons, List.sum_cons]
      rw [a]
      omega
    · cases h
theorem opt_eq (b : List Nd) : ofL 10 [b] = { leafN 10 with kids := [1] } :: b.map (mvk 1) := by
  simp [ofL, ofN, mvk, leafN, Nd.zero]
theorem opt_blo {b : List Nd} {R h : Int} (hb : Blo b R h) : Blo (ofL 10 [b]) R (h + 1) := by
  obtain ⟨p, ok, ms, M, m0⟩ := hb
  have hu := M.kidsUp
  have h0 := M 0 (by omega) p
  rw [m0] at h0
  rw [opt_eq]
  have hlen : ({ leafN 10 with kids := [1] } :: b.map (mvk 1)).length = b.length + 1 := by simp
  have hat : ∀ j, ({ leafN 10 with kids := [1] } :: b.map (mvk 1)).getD (j + 1) Nd.zero = mvk 1 (b.getD j Nd.zero) := fun j => by
    show (b.map (mvk 1)).getD j Nd.zero = _
    rw [getD_map_mvk]
  refine ⟨by simp, fun j hj => ?_, fun m => if m = 0 then ((b.length : Int) + 1, h + 1) else ms (m - 1), fun m _ hm => ?_, by rw [hlen]; rfl⟩
  · rw [hlen] at hj
    match j with
    | 0 => rw [nodeOk_iff]; simp [NodeIs, leafN, Nd.zero, ByteArray.toList_eq]
    | j + 1 => rw [hat j, nodeOk_mvk]; exact ok j (by omega)
  · rw [hlen] at hm ⊢
    match m with
    | 0 =>
      refine ⟨by simp; omega, by simp; omega, by show ((0 : Nat) : Int) + ((b.length : Int) + 1) ≤ ((b.length + 1 : Nat) : Int); omega, ?_⟩
      show climb (b.length + 1) _ [1] 1 0 = _
      simp only [climb]
      simp only [show (1 : Int).toNat = 1 from rfl, show (1 : Nat) ≠ 0 by decide, if_false, if_true, Nat.sub_self]
      rw [if_pos ⟨trivial, by omega⟩, m0]
      simp only [Option.some.injEq, Prod.mk.injEq]
      omega
    | q + 1 =>
      obtain ⟨a1, a2, a3, a4⟩ := M q (by omega) (by omega)
      simp only [show q + 1 ≠ 0 by omega, if_false, Nat.add_sub_cancel]
      refine ⟨a1, a2, by omega, ?_⟩
      have hk : kidsOf ({ leafN 10 with kids := [1] } :: b.map (mvk 1)) (q + 1) = (kidsOf b q).map (· + 1) := by
        unfold kidsOf
        rw [hat q]
        rfl
      have := climb_shift (len := b.length) (len' := b.length + 1) (ms := ms) (ms' := fun m => if m = 0 then ((b.length : Int) + 1, h + 1) else ms (m - 1)) (d := 1) (kidsOf b q) (q + 1) 0 _ _ (fun k hk => by
        have := hu q (by omega) k hk
        refine ⟨by omega, ?_⟩
        have e1 : (k + 1).toNat ≠ 0 := by omega
        have e3 : (k + 1).toNat - 1 = k.toNat := by omega
        simp only [e1, if_false, e3]) a4
      rw [hk, show (((q + 1 : Nat) : Int) + 1) = (q : Int) + 1 + 1 by omega, this]
      simp only [Option.some.injEq, Prod.mk.injEq, and_true]
      omega
theorem blo_unique {b : List Nd} {R h h' : Int} (x : Blo b R h) (y : Blo b R h') : h = h' := by
  obtain ⟨p, _, ms, M, m0⟩ := x
  obtain ⟨_, _, ms', M', m0'⟩ := y
  have := measured_eq M M' 0 p
  rw [m0, m0'] at this
  exact (Prod.ext_iff.1 this).2
theorem gramL_meas (R : Int) : ∀ (n : Nat) (bl : List (List Nd)), bl.length = n → (∀ b ∈ bl, ∃ h, Blo b R h) →
    ∃ ms, Measured (gramL bl).2 ms 0 ∧ ∀ i, i < bl.length → 0 ≤ ((gramL bl).1.getD i Rl.zero).body ∧ ((gramL bl).1.getD i Rl.zero).body < (gramL bl).2.length ∧ Blo (bl.getD i []) R (ms ((gramL bl).1.getD i Rl.zero).body.toNat).2
  | 0, bl, h, _ => by
    rw [List.length_eq_zero_iff.1 h]
    exact ⟨fun _ => (0, 0), fun m _ hm => by simp [gramL] at hm, fun i hi => by simp at hi⟩
  | n + 1, bl, h, hB => by
    obtain ⟨l, b, rfl⟩ : ∃ l b, bl = l ++ [b] := ⟨bl.dropLast, bl.getLast (by intro e; simp [e] at h), (List.dropLast_concat_getLast _).symm⟩
    obtain ⟨ms, M, hall⟩ := gramL_meas R n l (by simpa using h) (fun b hb => hB b (by simp [hb]))
    obtain ⟨hb, hblo⟩ := hB b (by simp)
    have hblo' := hblo
    obtain ⟨p, ok, msb, Mb, m0⟩ := hblo'
    have hr := gramL_rules _ l rfl
    rw [gramL_snoc]
    refine ⟨_, measured_app M Mb, fun i hi => ?_⟩
    show 0 ≤ (((gramL l).1 ++ [(⟨nameB (gramL l).1.length, ((gramL l).2.length : Int)⟩ : Rl)]).getD i Rl.zero).body ∧ (((gramL l).1 ++ [(⟨nameB (gramL l).1.length, ((gramL l).2.length : Int)⟩ : Rl)]).getD i Rl.zero).body < (((gramL l).2 ++ b.map (mvk (gramL l).2.length)).length : Int) ∧ Blo ((l ++ [b]).getD i []) R ((fun m => if m < (gramL l).2.length then ms m else msb (m - (gramL l).2.length)) (((gramL l).1 ++ [(⟨nameB (gramL l).1.length, ((gramL l).2.length : Int)⟩ : Rl)]).getD i Rl.zero).body.toNat).2
    have hlen : ((gramL l).2 ++ b.map (mvk (gramL l).2.length)).length = (gramL l).2.length + b.length := by simp
    rw [hlen]
    by_cases e : i < l.length
    · obtain ⟨a1, a2, a3⟩ := hall i e
      have e1 : ((gramL l).1 ++ [(⟨nameB (gramL l).1.length, ((gramL l).2.length : Int)⟩ : Rl)]).getD i Rl.zero = (gramL l).1.getD i Rl.zero := by
        simp only [List.getD]; rw [List.getElem?_append_left (by omega)]
      have e2 : (l ++ [b]).getD i [] = l.getD i [] := by simp only [List.getD]; rw [List.getElem?_append_left e]
      rw [e1, e2]
      refine ⟨a1, by omega, ?_⟩
      simp only [if_pos (show ((gramL l).1.getD i Rl.zero).body.toNat < (gramL l).2.length by omega)]
      exact a3
    · have ei : i = l.length := by simp at hi; omega
      subst ei
      have e1 : ((gramL l).1 ++ [(⟨nameB (gramL l).1.length, ((gramL l).2.length : Int)⟩ : Rl)]).getD l.length Rl.zero = (⟨nameB (gramL l).1.length, ((gramL l).2.length : Int)⟩ : Rl) := by
        rw [← hr]; simp [List.getD]
      have e2 : (l ++ [b]).getD l.length [] = b := by simp [List.getD]
      rw [e1, e2]
      refine ⟨by show (0 : Int) ≤ ((gramL l).2.length : Int); omega, by show ((gramL l).2.length : Int) < _; omega, ?_⟩
      show Blo b R ((fun m => if m < (gramL l).2.length then ms m else msb (m - (gramL l).2.length)) (((gramL l).2.length : Int)).toNat).2
      have e3 : ¬ (((gramL l).2.length : Int)).toNat < (gramL l).2.length := by omega
      have e4 : (((gramL l).2.length : Int)).toNat - (gramL l).2.length = 0 := by omega
      simp only [if_neg e3, e4, m0]
      exact hblo
theorem right_high {g x : Gr} {bl : List (List Nd)} (hx : Right x) (h : Built x bl) {R : Int} (hb : ∀ b ∈ bl, ∃ hh, Blo b R hh) : ∀ i, i < bl.length → ∀ hh, Blo (bl.getD i []) R hh → hh ≤ 16 := by
  intro i hi hh hB
  obtain ⟨ms, M, hall⟩ := gramL_meas R _ bl rfl hb
  obtain ⟨a1, a2, a3⟩ := hall i hi
  have hxk : Right x.kz := (right_kz x).2 hx
  have M' : Measured x.kz.nodes ms 0 := by
    show Measured (x.nodes.map Nd.kz) ms 0
    rw [h.nodes]; exact M
  have hbd := hxk.bodies M'
  have := bodies_high (fun m hl => (M' m (by omega) hl).1) x.kz.rules 0 _ (by omega) hbd i (by show i < x.rules.length; rw [h.len]; exact hi)
  have e : x.kz.rules.getD i Rl.zero = x.rules.getD i Rl.zero := rfl
  rw [e, h.body i hi] at this
  rw [blo_unique hB a3]
  exact this
theorem right_iff {g x : Gr} {bl : List (List Nd)} (hg : Right g) (h : Built x bl) (hl : bl.length = g.rules.length) (hn : x.rules.map Rl.name = g.rules.map Rl.name) (hs : x.nodes.length ≤ 2048) (H : Nat → Int) (hb : ∀ i, i < bl.length → Blo (bl.getD i []) g.rules.length (H i)) :
    rightB x = true ↔ ∀ i, i < bl.length → H i ≤ 16 := by
  have hall : ∀ b ∈ bl, ∃ i, i < bl.length ∧ b = bl.getD i [] := fun b hb => by
    obtain ⟨i, hi, rfl⟩ := List.getElem_of_mem hb
    exact ⟨i, hi, by simp [List.getD, List.getElem?_eq_getElem hi]⟩
  rw [rightB_true]
  constructor
  · intro hx i hi
    exact right_high (g := g) hx h (fun b hbm => by obtain ⟨i, hi, rfl⟩ := hall b hbm; exact ⟨_, hb i hi⟩) i hi _ (hb i hi)
  · intro h16
    exact built_right hg h hl hn (fun b hbm => by obtain ⟨i, hi, rfl⟩ := hall b hbm; exact ⟨_, hb i hi, h16 i hi⟩) hs
theorem sum_more (d : Nat) : ∀ (a b : List Nat), a.length = b.length → (∀ i, i < a.length → a.getD i 0 ≤ b.getD i 0 + d) → a.sum ≤ b.sum + d * b.length
  | [], b, h, _ => by simp
  | x :: a, [], h, _ => by simp at h
  | x :: a, y :: b, h, hh => by
    have h0 := hh 0 (by simp)
    have ih := sum_more d a b (by simpa using h) (fun i hi => hh (i + 1) (by simpa using hi))
    simp only [List.sum_cons, List.length_cons, Nat.mul_add]
    have h0 : x ≤ y + d := h0
    omega
/-- How many nodes there are, with up to two more a body. -/
theorem more_nodes {g : Gr} {bl : List (List Nd)} (hg : Right g) (hl : bl.length = g.rules.length) (hb : ∀ i, i < g.rules.length → ∃ fr s : Nat, (g.rules.getD i Rl.zero).body = fr ∧ (measOf g fr).1 = s ∧ fr + s ≤ g.nodes.length ∧ (bl.getD i []).length ≤ s + 2) : (gramL bl).2.length ≤ g.nodes.length + 64 := by
  obtain ⟨ms, hm, hbd⟩ := hg.pre
  rw [gramL_len _ bl rfl]
  have hs := bodies_sum (fun m hl => (hm m (by omega) hl).1) g.rules 0 _ (by omega) hbd
  have h2 := sum_more 2 (bl.map List.length) (g.rules.map fun r => (ms r.body.toNat).1.toNat) (by simp [hl]) (fun i hi => by
    rw [List.length_map] at hi
    obtain ⟨fr, s, f1, f2, f3, f4⟩ := hb i (by omega)
    have hfl : fr < g.nodes.length := by have := hg.body i (by omega); omega
    rw [measOf_yes hg hm hfl] at f2
    have e1 : (bl.map List.length).getD i 0 = (bl.getD i []).length := by simp [List.getD, List.getElem?_eq_getElem hi]
    have hir : i < g.rules.length := by omega
    have e2 : (g.rules.map fun r => (ms r.body.toNat).1.toNat).getD i 0 = (ms (g.rules.getD i Rl.zero).body.toNat).1.toNat := by simp [List.getD, List.getElem?_eq_getElem hir]
    rw [e1, e2, f1, Int.toNat_natCast, f2]
    omega)
  rw [List.length_map] at h2
  have := hg.rules.2
  omega
theorem opt_body {g : Gr} {bl : List (List Nd)} (hR : Right g) (h : Built g bl) (i : Nat) (hi : i < bl.length) (b : List Nd) (hb : bl.getD i [] = ofL 10 [b]) (inn : Int → Bool) : mayN g.nodes inn (g.rules.getD i Rl.zero).body = true := by
  have hlen : (bl.getD i []).length = b.length + 1 := by rw [hb, opt_eq]; simp
  obtain ⟨o, h1, h2, h3⟩ := h.at_ i hi (by omega)
  have n0 := h3 0 (by omega)
  rw [hb, opt_eq] at n0
  simp only [List.getD_cons_zero, Nat.add_zero] at n0
  rw [h1, mayN_eq hR.kidsUp inn (by omega) (by omega), Int.toNat_natCast, ← step_kz, n0]
  unfold stepMay
  simp [mvk, leafN]
/-- The two grammars of the law: right together; nobody of the first may, all of the second. -/
structure Two (g x y : Gr) : Prop where
  same : rightB x = rightB y
  r0 : rightB x = true → ∀ i : Nat, i < g.rules.length → rankOf x i = 0
  r1 : rightB y = true → ∀ i : Nat, i < g.rules.length → rankOf y i = 1
  nd : rightB x = true → ∀ n : Nat, n < x.nodes.length → (x.nodes.getD n Nd.zero).kind = 5 → nodeB x n = false
  rl : rightB y = true → (rulesOf y).length = g.rules.length
theorem two_of {g x y : Gr} {b1 b2 : List (List Nd)} (hg : Right g) (hx : Built x b1) (hy : Built y b2) (l1 : b1.length = g.rules.length) (l2 : b2.length = g.rules.length) (n1 : x.rules.map Rl.name = g.rules.map Rl.name) (n2 : y.rules.map Rl.name = g.rules.map Rl.name) (h300 : g.nodes.length ≤ 300)
    (h1 : ∀ i, i < g.rules.length → ∃ fr s : Nat, (g.rules.getD i Rl.zero).body = fr ∧ (measOf g fr).1 = s ∧ fr + s ≤ g.nodes.length ∧ b1.getD i [] = ofL 6 [[leafN 2], (((g.nodes.drop fr).take s).map Nd.kz).map (mvk (-(fr : Int)))])
    (h2 : ∀ i, i < g.rules.length → ∃ fr s : Nat, (g.rules.getD i Rl.zero).body = fr ∧ (measOf g fr).1 = s ∧ fr + s ≤ g.nodes.length ∧ b2.getD i [] = ofL 10 [(((g.nodes.drop fr).take s).map Nd.kz).map (mvk (-(fr : Int)))]) : Two g x y := by
  obtain ⟨ms, hm, hbd⟩ := hg.pre
  have part : ∀ i fr s : Nat, i < g.rules.length → (g.rules.getD i Rl.zero).body = fr → (measOf g fr).1 = s → Blo ((((g.nodes.drop fr).take s).map Nd.kz).map (mvk (-(fr : Int)))) g.rules.length (ms (g.rules.getD i Rl.zero).body.toNat).2 := fun i fr s hi f1 f2 => by
    have hfl : fr < g.nodes.length := by have := hg.body i hi; omega
    rw [measOf_yes hg hm hfl] at f2
    have := part_blo hg hm f2 hfl
    rw [f1, Int.toNat_natCast]
    exact this
  have plen : ∀ fr s : Nat, fr + s ≤ g.nodes.length → ((((g.nodes.drop fr).take s).map Nd.kz).map (mvk (-(fr : Int)))).length = s := fun fr s h => by simp; omega
  have B1 : ∀ i, i < b1.length → Blo (b1.getD i []) g.rules.length ((ms (g.rules.getD i Rl.zero).body.toNat).2 + 1) := fun i hi => by
    obtain ⟨fr, s, f1, f2, f3, f4⟩ := h1 i (by omega)
    rw [f4]
    exact hard_blo (part i fr s (by omega) f1 f2)
  have B2 : ∀ i, i < b2.length → Blo (b2.getD i []) g.rules.length ((ms (g.rules.getD i Rl.zero).body.toNat).2 + 1) := fun i hi => by
    obtain ⟨fr, s, f1, f2, f3, f4⟩ := h2 i (by omega)
    rw [f4]
    exact opt_blo (part i fr s (by omega) f1 f2)
  have s1 : x.nodes.length ≤ 2048 := by
    have := more_nodes hg l1 (fun i hi => by obtain ⟨fr, s, f1, f2, f3, f4⟩ := h1 i hi; exact ⟨fr, s, f1, f2, f3, by rw [f4, hard_eq]; simp only [List.length_cons, List.length_map]; have := plen fr s f3; simp only [List.length_map] at this; omega⟩)
    rw [← hx.nodes, List.length_map] at this
    omega
  have s2 : y.nodes.length ≤ 2048 := by
    have := more_nodes hg l2 (fun i hi => by obtain ⟨fr, s, f1, f2, f3, f4⟩ := h2 i hi; exact ⟨fr, s, f1, f2, f3, by rw [f4, opt_eq]; simp only [List.length_cons, List.length_map]; have := plen fr s f3; simp only [List.length_map] at this; omega⟩)
    rw [← hy.nodes, List.length_map] at this
    omega
  have i1 := right_iff hg hx l1 n1 s1 _ B1
  have i2 := right_iff hg hy l2 n2 s2 _ B2
  have xl : x.rules.length = g.rules.length := by rw [hx.len, l1]
  have yl : y.rules.length = g.rules.length := by rw [hy.len, l2]
  have z0 : rightB x = true → ∀ k i : Nat, (rk x k).getD i 0 = 0 := fun hr => no_ranks (fun i inn hi => by
    obtain ⟨fr, s, f1, f2, f3, f4⟩ := h1 i (by omega)
    exact hard_body (rightB_true.1 hr) hx i (by omega) _ f4 inn)
  have o1 : rightB y = true → ∀ i : Nat, i < y.rules.length → (ranks y).getD i 0 = 1 := fun hr i hi => one_ranks (fun i inn hi => by
    obtain ⟨fr, s, f1, f2, f3, f4⟩ := h2 i (by omega)
    exact opt_body (rightB_true.1 hr) hy i (by omega) _ f4 inn) i hi
  refine ⟨?_, fun hr i hi => ?_, fun hr i hi => ?_, fun hr n hn hk => ?_, fun hr => ?_⟩
  · rw [Bool.eq_iff_iff, i1, i2, l1, l2]
  · rw [rank_of (rightB_true.1 hr) i (by omega)]
    exact z0 hr _ _
  · rw [rank_of (rightB_true.1 hr) i (by omega)]
    exact o1 hr i (by omega)
  · rw [nodeB_of (rightB_true.1 hr) n hn, mayN_eq (rightB_true.1 hr).kidsUp _ (by omega) (by omega), Int.toNat_natCast]
    unfold stepMay
    rw [hk]
    simp only [show ¬ ((5 : Int) = 1 ∨ (5 : Int) = 8 ∨ (5 : Int) = 10 ∨ (5 : Int) = 11 ∨ (5 : Int) = 12) by omega, show ¬ ((5 : Int) = 6 ∨ (5 : Int) = 9) by omega, show ¬ (5 : Int) = 7 by omega, if_false, if_true]
    unfold inB
    rw [show (ranks x).getD (x.nodes.getD n Nd.zero).rule.toNat 0 = 0 from z0 hr _ _]
    rfl
  · unfold rulesOf
    rw [if_pos hr]
    unfold rowOf'
    rw [List.filter_eq_self.2 (fun i hi => by
      have hi : i < y.rules.length := by simpa using hi
      unfold inB
      rw [Int.toNat_natCast, o1 hr i hi]
      rfl), List.length_range, yl]
theorem rules_no {x : Gr} (h : rightB x = false) : rulesOf x = [] := by
  unfold rulesOf
  rw [if_neg (by rw [h]; decide)]
end Go.Proofs.Ytmlaepbmdfmgbaa

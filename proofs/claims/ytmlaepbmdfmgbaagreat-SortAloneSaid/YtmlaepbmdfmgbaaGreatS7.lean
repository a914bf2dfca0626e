/- When a built grammar is right. Nothing here speaks of a program. -/
import Derived.Test.YtmlaepbmdfmgbaaGreatN1
import Derived.Test.YtmlaepbmdfmgbaaGreatB7
set_option linter.unusedSimpArgs false
set_option linter.unusedVariables false
namespace Go.Proofs.YtmlaepbmdfmgbaaGreat
open Go Go.RowKit
theorem climb_shift {len len' : Nat} {ms ms' : Nat → Meas} {d : Int} : ∀ (r : List Int) (next high top hh : Int), (∀ k ∈ r, k + d < len' ∧ ms' (k + d).toNat = ms k.toNat) → climb len ms r next high = some (top, hh) → climb len' ms' (r.map (· + d)) (next + d) high = some (top + d, hh)
  | [], next, high, top, hh, _, h => by
    simp only [climb, Option.some.injEq, Prod.mk.injEq] at h
    obtain ⟨rfl, rfl⟩ := h
    rfl
  | k :: r, next, high, top, hh, hk, h => by
    unfold climb at h
    split at h
    · rename_i hc
      obtain ⟨rfl, _⟩ := hc
      obtain ⟨h1, h2⟩ := hk k (List.mem_cons_self ..)
      have ih := climb_shift r _ _ top hh (fun j hj => hk j (List.mem_cons_of_mem _ hj)) h
      rw [List.map_cons]
      unfold climb
      rw [if_pos ⟨rfl, h1⟩, h2]
      rw [show k + d + (ms k.toNat).1 = k + (ms k.toNat).1 + d by omega]
      exact ih
    · cases h
/-- A block that stands for itself: its nodes are right, it is measured, all of it is its first node's. -/
structure Blo (b : List Nd) (R h : Int) : Prop where
  pos : 0 < b.length
  ok : ∀ j, j < b.length → nodeOk (b.getD j Nd.zero) R = true
  meas : ∃ ms, Measured b ms 0 ∧ ms 0 = ((b.length : Int), h)
theorem nodeOk_mvk (x : Nd) (d r : Int) : nodeOk (mvk d x) r = nodeOk x r := by
  rw [Bool.eq_iff_iff, nodeOk_iff, nodeOk_iff]
  unfold NodeIs mvk
  simp only [List.length_map]
theorem nodeOk_kz (x : Nd) (r : Int) : nodeOk x.kz r = nodeOk x r := by
  rw [Bool.eq_iff_iff, nodeOk_iff, nodeOk_iff]
  exact Iff.rfl
theorem getD_map_mvk (l : List Nd) (d : Int) (j : Nat) : (l.map (mvk d)).getD j Nd.zero = mvk d (l.getD j Nd.zero) := by
  simp only [List.getD, List.getElem?_map]
  cases l[j]? <;> rfl
theorem getD_app_left {l l' : List Nd} {j : Nat} (h : j < l.length) : (l ++ l').getD j Nd.zero = l.getD j Nd.zero := by
  simp only [List.getD]; rw [List.getElem?_append_left h]
theorem getD_app_right {l l' : List Nd} {j : Nat} (h : l.length ≤ j) : (l ++ l').getD j Nd.zero = l'.getD (j - l.length) Nd.zero := by
  simp only [List.getD]; rw [List.getElem?_append_right h]
theorem measured_app {l b : List Nd} {ms msb : Nat → Meas} (h : Measured l ms 0) (hb : Measured b msb 0) :
    Measured (l ++ b.map (mvk l.length)) (fun m => if m < l.length then ms m else msb (m - l.length)) 0 := by
  have u1 := h.kidsUp
  have u2 := hb.kidsUp
  intro m _ hm
  have hlen : (l ++ b.map (mvk l.length)).length = l.length + b.length := by simp
  rw [hlen] at hm ⊢
  by_cases e : m < l.length
  · obtain ⟨h1, h2, h3, h4⟩ := h m (by omega) e
    simp only [if_pos e]
    refine ⟨h1, h2, by omega, ?_⟩
    have hk : kidsOf (l ++ b.map (mvk l.length)) m = (kidsOf l m).map (· + 0) := by
      unfold kidsOf
      rw [getD_app_left e]
      simp
    have := climb_shift (len := l.length) (len' := l.length + b.length) (ms := ms) (ms' := fun m => if m < l.length then ms m else msb (m - l.length)) (d := 0) (kidsOf l m) (m + 1) 0 _ _ (fun k hk => by
      have := u1 m e k hk
      refine ⟨by omega, ?_⟩
      rw [Int.add_zero]
      exact if_pos (by omega)) h4
    rw [hk]
    simpa using this
  · obtain ⟨q, rfl⟩ : ∃ q, m = l.length + q := ⟨m - l.length, by omega⟩
    have eq : l.length + q - l.length = q := by omega
    obtain ⟨h1, h2, h3, h4⟩ := hb q (by omega) (by omega)
    simp only [if_neg e, eq]
    refine ⟨h1, h2, by omega, ?_⟩
    have hk : kidsOf (l ++ b.map (mvk l.length)) (l.length + q) = (kidsOf b q).map (· + (l.length : Int)) := by
      unfold kidsOf
      rw [getD_app_right (by omega), eq, getD_map_mvk]
      rfl
    have := climb_shift (len := b.length) (len' := l.length + b.length) (ms := msb) (ms' := fun m => if m < l.length then ms m else msb (m - l.length)) (d := (l.length : Int)) (kidsOf b q) (q + 1) 0 _ _ (fun k hk => by
      have := u2 q (by omega) k hk
      refine ⟨by omega, ?_⟩
      have e1 : ¬ (k + (l.length : Int)).toNat < l.length := by omega
      have e2 : (k + (l.length : Int)).toNat - l.length = k.toNat := by omega
      simp only [if_neg e1, e2]) h4
    rw [hk, show (((l.length + q : Nat) : Int) + 1) = (q : Int) + 1 + l.length by omega, this]
    simp only [Option.some.injEq, Prod.mk.injEq, and_true]
    omega
theorem bodies_snoc (len : Nat) (ms : Nat → Meas) (r : Rl) : ∀ (l : List Rl) (next n : Int), bodies len ms l next = some n → bodies len ms (l ++ [r]) next = if r.body = n ∧ n < len ∧ (ms n.toNat).2 ≤ 16 then some (n + (ms n.toNat).1) else none
  | [], next, n, h => by
    simp only [bodies, Option.some.injEq] at h
    subst h
    rfl
  | q :: l, next, n, h => by
    unfold bodies at h
    rw [List.cons_append]
    unfold bodies
    split at h
    · rename_i hc
      rw [if_pos hc]
      exact bodies_snoc len ms r l _ n h
    · cases h
theorem bodies_grow {len len' : Nat} {ms ms' : Nat → Meas} (hl : len ≤ len') (hm : ∀ m, m < len → 1 ≤ (ms m).1 ∧ ms' m = ms m) : ∀ (l : List Rl) (next n : Int), 0 ≤ next → bodies len ms l next = some n → bodies len' ms' l next = some n
  | [], _, _, _, h => h
  | r :: l, next, n, h0, h => by
    unfold bodies at h ⊢
    split at h
    · rename_i hc
      obtain ⟨h1, h2⟩ := hm next.toNat (by omega)
      rw [h2, if_pos ⟨hc.1, by omega, hc.2.2⟩]
      exact bodies_grow hl hm l _ n (by omega) h
    · cases h
theorem bodies_same (len : Nat) (ms : Nat → Meas) : ∀ (l l' : List Rl) (next : Int), l.map Rl.body = l'.map Rl.body → bodies len ms l next = bodies len ms l' next
  | [], [], _, _ => rfl
  | [], _ :: _, _, h => by simp at h
  | _ :: _, [], _, h => by simp at h
  | r :: l, r' :: l', next, h => by
    simp only [List.map_cons, List.cons.injEq] at h
    unfold bodies
    rw [h.1, bodies_same len ms l l' _ h.2]
theorem ruleFrom_same (s : ByteArray) : ∀ (l l' : List Rl) (i : Nat), l.map Rl.name = l'.map Rl.name → ruleFrom s i l = ruleFrom s i l'
  | [], [], _, _ => rfl
  | [], _ :: _, _, h => by simp at h
  | _ :: _, [], _, h => by simp at h
  | r :: l, r' :: l', i, h => by
    simp only [List.map_cons, List.cons.injEq] at h
    unfold ruleFrom
    rw [h.1, ruleFrom_same s l l' _ h.2]
/-- Blocks one behind the other are right. -/
theorem gramL_right (R : Int) : ∀ (n : Nat) (bl : List (List Nd)), bl.length = n → (∀ b ∈ bl, ∃ h, Blo b R h ∧ h ≤ 16) →
    AllRight (gramL bl).2 R ∧ ∃ ms, Measured (gramL bl).2 ms 0 ∧ bodies (gramL bl).2.length ms (gramL bl).1 0 = some ((gramL bl).2.length : Int)
  | 0, bl, h, _ => by
    rw [List.length_eq_zero_iff.1 h]
    exact ⟨fun i hi => by simp [gramL] at hi, fun _ => (0, 0), fun m _ hm => by simp [gramL] at hm, rfl⟩
  | n + 1, bl, h, hB => by
    obtain ⟨l, b, rfl⟩ : ∃ l b, bl = l ++ [b] := ⟨bl.dropLast, bl.getLast (by intro e; simp [e] at h), (List.dropLast_concat_getLast _).symm⟩
    obtain ⟨A, ms, M, Bd⟩ := gramL_right R n l (by simpa using h) (fun b hb => hB b (by simp [hb]))
    obtain ⟨hb, ⟨p, ok, msb, Mb, m0⟩, h16⟩ := hB b (by simp)
    rw [gramL_snoc]
    have hlen : ((gramL l).2 ++ b.map (mvk (gramL l).2.length)).length = (gramL l).2.length + b.length := by simp
    refine ⟨fun i hi => ?_, _, measured_app M Mb, ?_⟩
    · have hi : i < ((gramL l).2 ++ b.map (mvk (gramL l).2.length)).length := hi
      show nodeOk (((gramL l).2 ++ b.map (mvk (gramL l).2.length)).getD i Nd.zero) R = true
      by_cases e : i < (gramL l).2.length
      · rw [getD_app_left e]; exact A i e
      · rw [getD_app_right (by omega), getD_map_mvk, nodeOk_mvk]
        exact ok _ (by omega)
    · show bodies ((gramL l).2 ++ b.map (mvk (gramL l).2.length)).length _ ((gramL l).1 ++ [⟨nameB (gramL l).1.length, ((gramL l).2.length : Int)⟩]) 0 = _
      rw [bodies_snoc _ _ _ _ _ _ (bodies_grow (len' := ((gramL l).2 ++ b.map (mvk (gramL l).2.length)).length) (ms' := fun m => if m < (gramL l).2.length then ms m else msb (m - (gramL l).2.length)) (by omega) (fun m hm => ⟨(M m (by omega) hm).1, if_pos hm⟩) _ _ _ (by omega) Bd)]
      have e1 : ¬ (((gramL l).2.length : Int)).toNat < (gramL l).2.length := by omega
      have e2 : (((gramL l).2.length : Int)).toNat - (gramL l).2.length = 0 := by omega
      simp only [if_neg e1, e2, m0]
      rw [if_pos ⟨trivial, by omega, h16⟩]
      show some _ = some _
      congr 1
      show ((gramL l).2.length : Int) + (b.length : Int) = (((gramL l).2 ++ b.map (mvk (gramL l).2.length)).length : Int)
      omega
theorem gramL_len : ∀ (n : Nat) (bl : List (List Nd)), bl.length = n → (gramL bl).2.length = (bl.map List.length).sum
  | 0, bl, h => by rw [List.length_eq_zero_iff.1 h]; rfl
  | n + 1, bl, h => by
    obtain ⟨l, b, rfl⟩ : ∃ l b, bl = l ++ [b] := ⟨bl.dropLast, bl.getLast (by intro e; simp [e] at h), (List.dropLast_concat_getLast _).symm⟩
    rw [gramL_snoc]
    show ((gramL l).2 ++ b.map (mvk (gramL l).2.length)).length = _
    rw [List.length_append, List.length_map, gramL_len n l (by simpa using h)]
    simp
/-- A grammar that is built of right blocks, with a right grammar's names, is right. -/
theorem built_right {g x : Gr} {bl : List (List Nd)} (hg : Right g) (h : Built x bl) (hl : bl.length = g.rules.length) (hn : x.rules.map Rl.name = g.rules.map Rl.name) (hb : ∀ b ∈ bl, ∃ hh, Blo b g.rules.length hh ∧ hh ≤ 16) (hs : x.nodes.length ≤ 2048) : Right x := by
  have hr := gramL_rules _ bl rfl
  obtain ⟨A, ms, M, Bd⟩ := gramL_right g.rules.length _ bl rfl hb
  have hxl : x.rules.length = g.rules.length := by rw [h.len, hl]
  have hnl : (gramL bl).2.length = x.nodes.length := by rw [← h.nodes, List.length_map]
  have hbody : x.rules.map Rl.body = (gramL bl).1.map Rl.body := by
    apply List.ext_getElem
    · rw [List.length_map, List.length_map, hxl, hr, hl]
    · intro i h1 h2
      rw [List.length_map] at h1 h2
      have := h.body i (by omega)
      simpa [List.getD, List.getElem?_eq_getElem h1, List.getElem?_eq_getElem h2] using this
  rw [← right_kz]
  refine ⟨by show 1 ≤ x.rules.length ∧ x.rules.length ≤ 32; rw [hxl]; exact hg.rules, by show (x.nodes.map Nd.kz).length ≤ 2048; rw [List.length_map]; exact hs, fun i hi => ?_, ?_, ms, ?_, ?_⟩
  · have hi : i < x.rules.length := hi
    show nameOk (x.rules.getD i Rl.zero).name.data.toList = true ∧ ruleAt x.rules (x.rules.getD i Rl.zero).name = i
    have hn2 : (x.rules.getD i Rl.zero).name = (g.rules.getD i Rl.zero).name := by
      have := congrArg (fun l => l[i]?) hn
      simp only [List.getElem?_map, List.getElem?_eq_getElem hi, List.getElem?_eq_getElem (show i < g.rules.length by omega), Option.map_some, Option.some.injEq] at this
      simpa [List.getD, List.getElem?_eq_getElem hi, List.getElem?_eq_getElem (show i < g.rules.length by omega)] using this
    rw [hn2]
    unfold ruleAt
    rw [ruleFrom_same _ _ _ 0 hn]
    exact hg.named i (by omega)
  · show AllRight (x.nodes.map Nd.kz) x.rules.length
    rw [h.nodes, hxl]; exact A
  · show Measured (x.nodes.map Nd.kz) ms 0
    rw [h.nodes]; exact M
  · show bodies (x.nodes.map Nd.kz).length ms x.rules 0 = some ((x.nodes.map Nd.kz).length : Int)
    rw [h.nodes, bodies_same _ _ _ _ _ hbody]; exact Bd
/-- A rule's body, moved to the front. -/
theorem part_blo {g : Gr} (hg : Right g) {ms : Nat → Meas} (hm : Measured g.nodes ms 0) {fr s : Nat} (hs : (ms fr).1 = s) (hfr : fr < g.nodes.length) : Blo (((g.nodes.drop fr).take s).map Nd.kz |>.map (mvk (-(fr : Int)))) g.rules.length (ms fr).2 := by
  obtain ⟨h1, h2, h3, h4⟩ := hm fr (by omega) hfr
  have hl : (((g.nodes.drop fr).take s).map Nd.kz |>.map (mvk (-(fr : Int)))).length = s := by simp; omega
  have hat : ∀ j, j < s → (((g.nodes.drop fr).take s).map Nd.kz |>.map (mvk (-(fr : Int)))).getD j Nd.zero = mvk (-(fr : Int)) (g.nodes.getD (fr + j) Nd.zero).kz := fun j hj => by
    rw [getD_map_mvk, kz_getD]
    congr 2
    simp only [List.getD_eq_getElem?_getD, List.getElem?_take, if_pos hj, List.getElem?_drop]
  refine ⟨by omega, fun j hj => ?_, fun j => ms (fr + j), fun j _ hj => ?_, ?_⟩
  · rw [hl] at hj
    rw [hat j hj, nodeOk_mvk, nodeOk_kz]
    exact hg.all _ (by omega)
  · rw [hl] at hj ⊢
    obtain ⟨a1, a2, a3, a4⟩ := hm (fr + j) (by omega) (by omega)
    have hne := nested hm _ fr hfr (Nat.le_refl _) (fr + j) (by omega) (by omega)
    refine ⟨a1, a2, by show (j : Int) + (ms (fr + j)).1 ≤ (s : Int); omega, ?_⟩
    have hk : kidsOf (((g.nodes.drop fr).take s).map Nd.kz |>.map (mvk (-(fr : Int)))) j = (kidsOf g.nodes (fr + j)).map (· + -(fr : Int)) := by
      unfold kidsOf
      rw [hat j hj]
      rfl
    have := climb_shift (len := g.nodes.length) (len' := s) (ms := ms) (ms' := fun j => ms (fr + j)) (d := -(fr : Int)) (kidsOf g.nodes (fr + j)) (((fr + j : Nat) : Int) + 1) 0 _ _ (fun k hk => by
      have := kids_in hm hfr (m := fr + j) (by omega) (by omega) hk
      refine ⟨by omega, ?_⟩
      show ms (fr + (k + -(fr : Int)).toNat) = ms k.toNat
      congr 1
      omega) a4
    rw [hk, show (j : Int) + 1 = ((fr + j : Nat) : Int) + 1 + -(fr : Int) by omega, this]
    simp only [Option.some.injEq, Prod.mk.injEq, and_true]
    omega
  · rw [hl]
    show ms (fr + 0) = _
    rw [Nat.add_zero]
    exact Prod.ext hs rfl
/-- A block with an Any ahead. -/
theorem hard_blo {b : List Nd} {R h : Int} (hb : Blo b R h) : Blo (ofL 6 [[leafN 2], b]) R (h + 1) := by
  obtain ⟨p, ok, ms, M, m0⟩ := hb
  have hu := M.kidsUp
  have h0 := M 0 (by omega) p
  rw [m0] at h0
  rw [hard_eq]
  have hlen : ({ leafN 6 with kids := [1, 2] } :: leafN 2 :: b.map (mvk 2)).length = b.length + 2 := by simp
  have hat : ∀ j, ({ leafN 6 with kids := [1, 2] } :: leafN 2 :: b.map (mvk 2)).getD (j + 2) Nd.zero = mvk 2 (b.getD j Nd.zero) := fun j => by
    show (b.map (mvk 2)).getD j Nd.zero = _
    rw [getD_map_mvk]
  refine ⟨by simp, fun j hj => ?_, fun m => if m = 0 then ((b.length : Int) + 2, h + 1) else if m = 1 then (1, 1) else ms (m - 2), fun m _ hm => ?_, by rw [hlen]; rfl⟩
  · rw [hlen] at hj
    match j with
    | 0 => rw [nodeOk_iff]; simp [NodeIs, leafN, Nd.zero, ByteArray.toList_eq]
    | 1 => rw [nodeOk_iff]; simp [NodeIs, leafN, Nd.zero, ByteArray.toList_eq]
    | j + 2 => rw [hat j, nodeOk_mvk]; exact ok j (by omega)
  · rw [hlen] at hm ⊢
    match m with
    | 0 =>
      refine ⟨by simp; omega, by simp; omega, by simp, ?_⟩
      show climb (b.length + 2) _ [1, 2] 1 0 = _
      simp only [climb]
      rw [if_pos ⟨trivial, by omega⟩]
      simp only [show (1 : Int).toNat = 1 from rfl, show (2 : Int).toNat = 2 from rfl, show (1 : Nat) ≠ 0 by decide, show (2 : Nat) ≠ 0 by decide, show (2 : Nat) ≠ 1 by decide, if_false, if_true, Nat.sub_self]
      rw [if_pos ⟨by omega, by omega⟩, m0]
      simp only [Option.some.injEq, Prod.mk.injEq]
      omega
    | 1 =>
      refine ⟨by simp, by simp, by simp; omega, ?_⟩
      rfl
    | q + 2 =>
      obtain ⟨a1, a2, a3, a4⟩ := M q (by omega) (by omega)
      simp only [show q + 2 ≠ 0 by omega, show q + 2 ≠ 1 by omega, if_false, Nat.add_sub_cancel]
      refine ⟨a1, a2, by omega, ?_⟩
      have hk : kidsOf ({ leafN 6 with kids := [1, 2] } :: leafN 2 :: b.map (mvk 2)) (q + 2) = (kidsOf b q).map (· + 2) := by
        unfold kidsOf
        rw [hat q]
        rfl
      have := climb_shift (len := b.length) (len' := b.length + 2) (ms := ms) (ms' := fun m => if m = 0 then ((b.length : Int) + 2, h + 1) else if m = 1 then (1, 1) else ms (m - 2)) (d := 2) (kidsOf b q) (q + 1) 0 _ _ (fun k hk => by
        have := hu q (by omega) k hk
        refine ⟨by omega, ?_⟩
        have e1 : (k + 2).toNat ≠ 0 := by omega
        have e2 : (k + 2).toNat ≠ 1 := by omega
        have e3 : (k + 2).toNat - 2 = k.toNat := by omega
        simp only [e1, e2, if_false, e3]) a4
      rw [hk, show (((q + 2 : Nat) : Int) + 1) = (q : Int) + 1 + 2 by omega, this]
      simp only [Option.some.injEq, Prod.mk.injEq, and_true]
      omega
end Go.Proofs.YtmlaepbmdfmgbaaGreat
namespace Go.Proofs.YtmlaepbmdfmgbaaGreat
open Go Go.RowKit
theorem upTo_mono {m m' : Int → Bool} : ∀ {l : List Int}, (∀ k ∈ l, m' k = true → m k = true) → ∀ k, k ∈ upTo m' l → k ∈ upTo m l
  | [], _, k, h => h
  | a :: r, hm, k, h => by
    unfold upTo at h ⊢
    rcases List.mem_cons.1 h with rfl | h
    · exact List.mem_cons_self ..
    · split at h
      · rename_i ha
        rw [if_pos (hm a (List.mem_cons_self ..) ha)]
        exact List.mem_cons_of_mem _ (upTo_mono (fun j hj => hm j (List.mem_cons_of_mem _ hj)) k h)
      · cases h
theorem fsts_mono {x : Nd} {m m' : Int → Bool} (hm : ∀ k ∈ x.kids, m' k = true → m k = true) {k : Int} (h : k ∈ fsts x m') : k ∈ fsts x m := by
  unfold fsts at h ⊢
  split at h
  · rename_i e
    rw [if_pos e]; exact upTo_mono hm k h
  · rename_i e
    rw [if_neg e]; exact h
/-- What stands at a moved body's own place stood there. -/
theorem Shf.at_own {l l' : List Nd} {fr s o : Nat} (h : Shf l l' fr s o) (hs : 0 < s) {may may' : Int → Bool} (hm : ∀ t : Nat, t < s → may' ((o + t : Nat) : Int) = true → may ((fr + t : Nat) : Int) = true) {m : Int} (ha : AtOwn l' may' (o : Int) m) :
    ∃ t : Nat, t < s ∧ m = ((o + t : Nat) : Int) ∧ AtOwn l may (fr : Int) ((fr + t : Nat) : Int) := by
  induction ha with
  | here => exact ⟨0, hs, by simp, by simpa using AtOwn.here⟩
  | kid _ hk ih =>
    obtain ⟨t, ht, rfl, ih⟩ := ih
    rw [Int.toNat_natCast, ← show fsts (l'.getD (o + t) Nd.zero).kz may' = fsts (l'.getD (o + t) Nd.zero) may' from rfl, h.same t ht, fsts_mvk] at hk
    obtain ⟨k, hk1, rfl⟩ := List.mem_map.1 hk
    have hk1 : k ∈ fsts (l.getD (fr + t) Nd.zero) (fun k => may' (k + ((o : Int) - fr))) := hk1
    have hk2 := h.shut t ht k (fsts_mem hk1)
    obtain ⟨u, rfl⟩ : ∃ u : Nat, k = ((fr + u : Nat) : Int) := ⟨(k - fr).toNat, by omega⟩
    refine ⟨u, by omega, by omega, .kid ih ?_⟩
    rw [Int.toNat_natCast]
    refine fsts_mono (fun j hj hmj => ?_) hk1
    have hj2 := h.shut t ht j hj
    obtain ⟨v, rfl⟩ : ∃ v : Nat, j = ((fr + v : Nat) : Int) := ⟨(j - fr).toNat, by omega⟩
    refine hm v (by omega) ?_
    rw [← hmj]
    congr 1
    omega
/-- Bodies of a built grammar: all moved, but one, which has an Any ahead. -/
structure Ahd (g x : Gr) (bl : List (List Nd)) (c : Nat) : Prop where
  built : Built x bl
  len : bl.length = g.rules.length
  lt : c < g.rules.length
  hard : ∃ b, bl.getD c [] = ofL 6 [[leafN 2], b]
  soft : ∀ i, i < g.rules.length → i ≠ c → ∃ fr s : Nat, (g.rules.getD i Rl.zero).body = fr ∧ (measOf g fr).1 = s ∧ fr + s ≤ g.nodes.length ∧ bl.getD i [] = (((g.nodes.drop fr).take s).map Nd.kz).map (mvk (-(fr : Int)))
theorem Ahd.shf {g x : Gr} {bl : List (List Nd)} {c : Nat} (h : Ahd g x bl c) (hg : Right g) (hx : Right x) {i : Nat} (hi : i < g.rules.length) (hc : i ≠ c) : ∃ fr s o : Nat, (g.rules.getD i Rl.zero).body = fr ∧ (x.rules.getD i Rl.zero).body = o ∧ 0 < s ∧ fr < g.nodes.length ∧ o < x.nodes.length ∧ Shf g.nodes x.nodes fr s o := by
  obtain ⟨ms, hm, _⟩ := hg.pre
  obtain ⟨fr, s, h1, h2, h3, h4⟩ := h.soft i hi hc
  have hfl : fr < g.nodes.length := by have := hg.body i hi; omega
  have hms : (ms fr).1 = s := by rw [← measOf_yes hg hm hfl]; exact h2
  have h5 := hm fr (by omega) hfl
  have hlen : (bl.getD i []).length = s := by rw [h4]; simp; omega
  obtain ⟨o, k1, k2, k3⟩ := h.built.at_ i (by rw [h.len]; exact hi) (by omega)
  rw [hlen] at k2 k3
  refine ⟨fr, s, o, h1, k1, by omega, hfl, by omega, ⟨hg.kidsUp, hx.kidsUp, h3, k2, fun t ht => ?_, fun t ht k hk => ?_⟩⟩
  · rw [k3 t ht, h4, getD_map_mvk, kz_getD]
    have e : ((g.nodes.drop fr).take s).getD t Nd.zero = g.nodes.getD (fr + t) Nd.zero := by
      simp only [List.getD_eq_getElem?_getD, List.getElem?_take, if_pos ht, List.getElem?_drop]
    rw [e]
    simp only [mvk, List.map_map]
    congr 1
    refine List.map_congr_left fun k _ => ?_
    show k + -(fr : Int) + o = k + ((o : Int) - fr)
    omega
  · have := kids_in hm (n := fr) (m := fr + t) (by omega) (by omega) (by omega) hk
    omega
theorem inB_nat (r : List Int) (i : Nat) : inB r (i : Int) = true ↔ 0 < r.getD i 0 := by
  unfold inB
  rw [Int.toNat_natCast, decide_eq_true_iff]
theorem Ahd.ranks {g x : Gr} {bl : List (List Nd)} {c : Nat} (h : Ahd g x bl c) (hg : Right g) (hx : Right x) : ∀ k i : Nat, i < g.rules.length → 0 < (rk x k).getD i 0 → 0 < (rk g k).getD i 0
  | 0, i, _, hp => by rw [rk_zero] at hp; omega
  | k + 1, i, hi, hp => by
    have hxl : x.rules.length = g.rules.length := by rw [h.built.len, h.len]
    rw [rk_next x k i (by omega)] at hp
    by_cases hcm : comB x (rk x k) i = true
    · unfold comB at hcm
      rw [Bool.and_eq_true] at hcm
      have hmay := hcm.2
      by_cases e : i = c
      · subst e
        obtain ⟨b, hb⟩ := h.hard
        rw [hard_body hx h.built i (by rw [h.len]; exact hi) b hb] at hmay
        cases hmay
      · obtain ⟨fr, s, o, e1, e2, hs, hfl, hol, hsh⟩ := h.shf hg hx hi e
        rw [e2] at hmay
        have h1 := hsh.may (inB (rk x k)) s 0 hs (by omega)
        simp only [Nat.add_zero] at h1
        rw [h1] at hmay
        have h2 := mayN_mono (i' := inB (rk g k)) (fun j hj => by
          unfold inB at hj ⊢
          rw [decide_eq_true_iff] at hj ⊢
          by_cases hjl : j.toNat < g.rules.length
          · exact h.ranks hg hx k j.toNat hjl hj
          · exfalso
            have : (rk x k).getD j.toNat 0 = 0 := by
              have := rk_length x k
              simp [List.getD, List.getElem?_eq_none (show (rk x k).length ≤ j.toNat by omega)]
            omega) hmay
        by_cases hin : 0 < (rk g k).getD i 0
        · rw [rk_keeps g k i hin]; exact hin
        · rw [rk_next g k i hi]
          have : comB g (rk g k) i = true := by
            unfold comB
            rw [e1, h2, Bool.and_true, Bool.not_eq_true', ← Bool.not_eq_true, inB_nat]
            exact hin
          rw [if_pos this]
          omega
    · rw [if_neg hcm] at hp
      have := h.ranks hg hx k i hi hp
      rw [rk_keeps g k i this]; exact this
theorem Ahd.calls {g x : Gr} {bl : List (List Nd)} {c : Nat} (h : Ahd g x bl c) (hg : Right g) (hx : Right x) {i r : Nat} (hi : i < g.rules.length) (hr : r ∈ lcal x i) : r ∈ lcal g i := by
  have hxl : x.rules.length = g.rules.length := by rw [h.built.len, h.len]
  by_cases e : i = c
  · subst e
    obtain ⟨b, hb⟩ := h.hard
    rw [hard_calls hx h.built i (by rw [h.len]; exact hi) b hb] at hr
    cases hr
  · obtain ⟨fr, s, o, e1, e2, hs, hfl, hol, hsh⟩ := h.shf hg hx hi e
    unfold lcal callsOf at hr ⊢
    rw [rowOf_mem] at hr ⊢
    rw [hxl, e2] at hr
    rw [e1]
    refine ⟨hr.1, ?_⟩
    obtain ⟨m, hm, k1, k2⟩ := callsB_iff.1 hr.2
    rw [own_iff hx.kidsUp _ (by omega) (by omega)] at hm
    obtain ⟨t, ht, rfl, ha⟩ := hsh.at_own hs (may := mayG g) (fun t ht hmt => by
      unfold mayG at hmt ⊢
      rw [hsh.may _ s t ht (by omega)] at hmt
      refine mayN_mono (fun j hj => ?_) hmt
      unfold inB at hj ⊢
      rw [decide_eq_true_iff] at hj ⊢
      unfold Go.Proofs.YtmlaepbmdfmgbaaGreat.ranks at hj ⊢
      rw [hxl] at hj
      by_cases hjl : j.toNat < g.rules.length
      · exact h.ranks hg hx _ j.toNat hjl hj
      · exfalso
        have : (rk x g.rules.length).getD j.toNat 0 = 0 := by
          have := rk_length x g.rules.length
          simp [List.getD, List.getElem?_eq_none (show (rk x g.rules.length).length ≤ j.toNat by omega)]
        omega) hm
    refine callsB_iff.2 ⟨_, (own_iff hg.kidsUp _ (by omega) (by omega) _).2 ha, ?_⟩
    have h2 := hsh.same t ht
    rw [Int.toNat_natCast] at k1 k2 ⊢
    have q1 : (x.nodes.getD (o + t) Nd.zero).kind = (g.nodes.getD (fr + t) Nd.zero).kind := by have e5 := congrArg (fun x => x.kind) h2; exact e5
    have q2 : (x.nodes.getD (o + t) Nd.zero).rule = (g.nodes.getD (fr + t) Nd.zero).rule := by have e5 := congrArg (fun x => x.rule) h2; exact e5
    exact ⟨by rw [← q1]; exact k1, by rw [← q2]; exact k2⟩
theorem To.mono {c c' : Nat → List Nat} {n : Nat} (hb : ∀ i r, i < n → r ∈ c i → r ∈ c' i ∧ r < n) {i k : Nat} (hi : i < n) (h : To c i k) : To c' i k ∧ k < n := by
  induction h with
  | one h => exact ⟨.one (hb _ _ hi h).1, (hb _ _ hi h).2⟩
  | more _ hk ih => exact ⟨.more ih.1 (hb _ _ ih.2 hk).1, (hb _ _ ih.2 hk).2⟩
theorem Ahd.goes {g x : Gr} {bl : List (List Nd)} {c : Nat} (h : Ahd g x bl c) (hg : Right g) (hx : Right x) {i : Nat} (hi : i < g.rules.length) (hgo : goesB x i = true) : goesB g i = true ∧ i ≠ c := by
  have hxl : x.rules.length = g.rules.length := by rw [h.built.len, h.len]
  rw [goesB_iff hx (by omega), tB_iff hx (by omega)] at hgo
  refine ⟨?_, fun e => ?_⟩
  · rw [goesB_iff hg hi, tB_iff hg hi]
    exact (To.mono (n := g.rules.length) (fun j r hj hr => ⟨h.calls hg hx hj hr, by rw [← hxl]; exact lcal_lt hr⟩) hi hgo).1
  · subst e
    obtain ⟨k, hk, _⟩ := hgo.first
    obtain ⟨b, hb⟩ := h.hard
    rw [hard_calls hx h.built i (by rw [h.len]; exact hi) b hb] at hk
    cases hk
theorem bodies_high {len : Nat} {ms : Nat → Meas} (h1 : ∀ m, m < len → 1 ≤ (ms m).1) : ∀ (l : List Rl) (next top : Int), 0 ≤ next → bodies len ms l next = some top → ∀ i, i < l.length → (ms (l.getD i Rl.zero).body.toNat).2 ≤ 16
  | [], _, _, _, _, i, hi => by simp at hi
  | r :: l, next, top, hn, h, i, hi => by
    unfold bodies at h
    split at h
    · rename_i hc
      obtain ⟨a, b, c⟩ := hc
      have hm := h1 next.toNat (by omega)
      cases i with
      | zero => show (ms r.body.toNat).2 ≤ 16; rw [a]; exact c
      | succ i =>
        have := bodies_high h1 l _ top (by omega) h i (by simpa using hi)
        simpa using this
    · cases h
/-- It is right, if the body was not too high. -/
theorem Ahd.right {g x : Gr} {bl : List (List Nd)} {c : Nat} (hg : Right g) (h : Built x bl) (hl : bl.length = g.rules.length) (hc : c < g.rules.length) (hn : x.rules.map Rl.name = g.rules.map Rl.name) (hs : g.nodes.length ≤ 300)
    (hb : ∀ i, i < g.rules.length → ∃ fr s : Nat, (g.rules.getD i Rl.zero).body = fr ∧ (measOf g fr).1 = s ∧ fr + s ≤ g.nodes.length ∧ bl.getD i [] = if i = c then ofL 6 [[leafN 2], (((g.nodes.drop fr).take s).map Nd.kz).map (mvk (-(fr : Int)))] else (((g.nodes.drop fr).take s).map Nd.kz).map (mvk (-(fr : Int))))
    (h16 : (measOf g (g.rules.getD c Rl.zero).body).2 < 16) (hsz : x.nodes.length ≤ 2048) : Right x := by
  obtain ⟨ms, hm, hbd⟩ := hg.pre
  refine built_right hg h hl hn (fun b hbm => ?_) hsz
  obtain ⟨i, hi, rfl⟩ := List.getElem_of_mem hbm
  obtain ⟨fr, s, h1, h2, h3, h4⟩ := hb i (by omega)
  have hfl : fr < g.nodes.length := by have := hg.body i (by omega); omega
  have hmf := measOf_yes hg hm hfl
  have hms : (ms fr).1 = s := by rw [← hmf]; exact h2
  have e : bl[i] = bl.getD i [] := by simp [List.getD, List.getElem?_eq_getElem hi]
  have hp := part_blo hg hm hms hfl
  have hh : (ms fr).2 ≤ 16 := by
    have := bodies_high (fun m hl => (hm m (by omega) hl).1) g.rules 0 _ (by omega) hbd i (by omega)
    rw [h1, Int.toNat_natCast] at this
    exact this
  rw [e, h4]
  by_cases ec : i = c
  · subst ec
    rw [if_pos rfl]
    refine ⟨_, hard_blo hp, ?_⟩
    rw [h1, hmf] at h16
    omega
  · rw [if_neg ec]
    exact ⟨_, hp, hh⟩
end Go.Proofs.YtmlaepbmdfmgbaaGreat

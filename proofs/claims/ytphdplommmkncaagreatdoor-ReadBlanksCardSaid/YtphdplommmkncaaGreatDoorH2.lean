/- Plain facts of layer 7: two texts with a gap between them. -/
import Derived.Test.YtphdplommmkncaaGreatDoorG5
import Derived.Test.YtphdplommmkncaaGreatDoorGD
import Derived.Test.YtphdplommmkncaaGreatDoorH1
set_option linter.unusedSimpArgs false
set_option linter.unusedVariables false
namespace Go.Proofs.YtphdplommmkncaaGreatDoor
/-- What may stand between two texts. -/
structure Gap (x : List Nat) : Prop where
  lt : ∀ y ∈ x, y < 256
  hd : ∀ c r, x = c :: r → c = 10 ∨ c = 32
  ne : x ≠ []
  len : x.length ≤ 5
  skip : ∀ (g : Bool) (b : List Nat), sk g (x ++ b) = x.length + sk false b
theorem gap0 : Gap [10] := ⟨by simp, fun c r e => by cases e; exact .inl rfl, by simp, by simp, fun g b => by cases g <;> simp [sk, bln] <;> omega⟩
theorem gap1 : Gap [10, 32, 9, 13] := ⟨by simp, fun c r e => by cases e; exact .inl rfl, by simp, by simp, fun g b => by cases g <;> simp [sk, bln] <;> omega⟩
theorem gap2 : Gap [10, 35, 120, 10] := ⟨by simp, fun c r e => by cases e; exact .inl rfl, by simp, by simp, fun g b => by cases g <;> simp [sk, bln] <;> omega⟩
theorem gap3 : Gap [32, 10, 35, 10, 10] := ⟨by simp, fun c r e => by cases e; exact .inr rfl, by simp, by simp, fun g b => by cases g <;> simp [sk, bln] <;> omega⟩
section
variable {a x b : List Nat} {N : Nat}
theorem Gap.hd2 (hx : Gap x) : ∀ c r, x ++ b = c :: r → c = 10 ∨ c = 32 := by
  intro c r e
  cases x with
  | nil => exact absurd rfl hx.ne
  | cons d t => cases e; exact hx.hd _ _ rfl
theorem lt_app {p q : List Nat} (hp : ∀ y ∈ p, y < 256) (hq : ∀ y ∈ q, y < 256) : ∀ y ∈ p ++ q, y < 256 := fun y hy => by
  rcases List.mem_append.1 hy with h | h
  · exact hp y h
  · exact hq y h
theorem join_at (ha : ∀ y ∈ a, y < 256) (hb : ∀ y ∈ b, y < 256) (hx : Gap x) {k : Nat} (hp : pos (a ++ (x ++ b)) k = pos a k) (h : stp a k = false) : beg (a ++ (x ++ b)) k = beg a k ∧ ow (a ++ (x ++ b)) k = ow a k := by
  obtain ⟨y, h1, h2, _, _⟩ := pos_more ha h
  have h3 := beg_le ha k
  have h4 : beg a k ≠ a.length := fun e => h2 ((ow_end ha h1).1.2 e)
  have h5 := pos_le ha k
  have e1 : beg (a ++ (x ++ b)) k = beg a k := by
    unfold beg at h3 h4 ⊢
    rw [hp, List.drop_append_of_le_length h5, (sk_app (a.drop (pos a k)) (x ++ b) false).1 (by rw [List.length_drop]; omega)]
  refine ⟨e1, ?_⟩
  have h6 : wd (a.drop (beg a k)) = some y := h1
  rw [h1]
  unfold ow
  rw [e1, List.drop_append_of_le_length h3]
  exact wd_app (drop_lt ha _) (lt_app hx.lt hb) hx.hd2 (by intro e; rw [List.drop_eq_nil_iff] at e; omega) h6
theorem join_pos (ha : ∀ y ∈ a, y < 256) (hb : ∀ y ∈ b, y < 256) (hx : Gap x) (hNb : ∀ j, j < N → stp a j = false) : ∀ k, k ≤ N → pos (a ++ (x ++ b)) k = pos a k
  | 0, _ => rfl
  | k + 1, hk => by
    obtain ⟨e1, e2⟩ := join_at ha hb hx (join_pos ha hb hx hNb k (by omega)) (hNb k (by omega))
    obtain ⟨y, h1, _⟩ := pos_more ha (hNb k (by omega))
    rw [pos_some h1, pos_some (e2.trans h1), e1]
/-- The words of the text ahead of the gap. -/
theorem join_left (ha : ∀ y ∈ a, y < 256) (hb : ∀ y ∈ b, y < 256) (hx : Gap x) (hNb : ∀ j, j < N → stp a j = false) {k : Nat} (hk : k < N) : beg (a ++ (x ++ b)) k = beg a k ∧ ow (a ++ (x ++ b)) k = ow a k :=
  join_at ha hb hx (join_pos ha hb hx hNb k (by omega)) (hNb k hk)
theorem drop_far (q : Nat) : (a ++ (x ++ b)).drop (a.length + x.length + q) = b.drop q := by
  have e : a.length + x.length = (a ++ x).length := by simp
  rw [← List.append_assoc, e, ← List.drop_drop, List.drop_left]
/-- The words of the text behind the gap. -/
theorem join_right (ha : ∀ y ∈ a, y < 256) (hb : ∀ y ∈ b, y < 256) (hx : Gap x) (hNb : ∀ j, j < N → stp a j = false) {e : Wd} (hN : ow a N = some e) (hk : e.kind = 1) :
    ∀ j, beg (a ++ (x ++ b)) (N + j) = a.length + x.length + beg b j ∧ ow (a ++ (x ++ b)) (N + j) = ow b j
  | 0 => by
    have h1 := join_pos ha hb hx hNb N (Nat.le_refl _)
    have h2 := (ow_end ha hN).1.1 hk
    have h5 := pos_le ha N
    have e1 : beg (a ++ (x ++ b)) N = a.length + x.length + beg b 0 := by
      unfold beg at h2 ⊢
      rw [h1, List.drop_append_of_le_length h5]
      obtain ⟨g, hg⟩ := (sk_app (a.drop (pos a N)) (x ++ b) false).2 (by rw [List.length_drop]; omega)
      rw [hg, hx.skip, List.length_drop]
      show _ = a.length + x.length + (0 + sk false (b.drop 0))
      rw [List.drop_zero]
      omega
    refine ⟨e1, ?_⟩
    unfold ow
    rw [Nat.add_zero, e1, drop_far]
  | j + 1 => by
    obtain ⟨e1, e2⟩ := join_right ha hb hx hNb hN hk j
    have e3 : pos (a ++ (x ++ b)) (N + j + 1) = a.length + x.length + pos b (j + 1) := by
      cases h : ow b j with
      | none => rw [pos_none h, pos_none (e2.trans h), e1]
      | some y => rw [pos_some h, pos_some (e2.trans h), e1]; omega
    have e4 : beg (a ++ (x ++ b)) (N + j + 1) = a.length + x.length + beg b (j + 1) := by
      unfold beg
      rw [e3, drop_far]
      omega
    refine ⟨e4, ?_⟩
    unfold ow
    rw [show N + (j + 1) = N + j + 1 from rfl, e4, drop_far]
theorem stp_ow {p q : List Nat} {i j : Nat} (h : ow p i = ow q j) : stp p i = stp q j := by unfold stp; rw [h]
/-- Where the words of both together end. -/
theorem join_ends (ha : ∀ y ∈ a, y < 256) (hb : ∀ y ∈ b, y < 256) (hx : Gap x) (hNb : ∀ j, j < N → stp a j = false) {e : Wd} (hN : ow a N = some e) (hk : e.kind = 1) {M : Nat} (hM : stp b M = true) (hMb : ∀ j, j < M → stp b j = false) :
    stp (a ++ (x ++ b)) (N + M) = true ∧ ∀ j, j < N + M → stp (a ++ (x ++ b)) j = false := by
  refine ⟨(stp_ow (join_right ha hb hx hNb hN hk M).2).trans hM, fun j hj => ?_⟩
  by_cases h : j < N
  · exact (stp_ow (join_left ha hb hx hNb h).2).trans (hNb j h)
  · obtain ⟨i, rfl⟩ : ∃ i, j = N + i := ⟨j - N, by omega⟩
    exact (stp_ow (join_right ha hb hx hNb hN hk i).2).trans (hMb i (by omega))
end
end Go.Proofs.YtphdplommmkncaaGreatDoor
namespace Go.Proofs.YtphdplommmkncaaGreatDoor
theorem head_take {l : List Nat} {m : Nat} (hm : 1 ≤ m) : (l.take m).head? = l.head? := by
  cases l with
  | nil => simp
  | cons c r => cases m with
    | zero => omega
    | succ m => rfl
theorem rx_take {l : List Nat} {b n : Nat} (h : rx l = some (b, n)) {m : Nat} (hm : n ≤ m + 2) : rx (l.take m) = some (b, n) ∧ n = 4 := by
  cases l with
  | nil => cases h
  | cons a l => cases l with
    | nil => cases h
    | cons b' l =>
      have hn : n = 4 := by
        simp only [rx] at h
        split at h
        · cases h; rfl
        · cases h
      obtain ⟨m', rfl⟩ : ∃ m', m = m' + 2 := ⟨m - 2, by omega⟩
      exact ⟨h, hn⟩
theorem rd_take {p : Int} {l : List Nat} {b n : Nat} (h : rd p l = some (b, n)) {m : Nat} (hm : n ≤ m) : rd p (l.take m) = some (b, n) := by
  cases l with
  | nil => cases h
  | cons c r =>
    simp only [rd] at h
    by_cases h0 : (!kn p) = true
    · rw [if_pos h0] at h; cases h
    rw [if_neg h0] at h
    by_cases h1 : pl p c = true
    · rw [if_pos h1] at h
      cases h
      obtain ⟨m', rfl⟩ : ∃ m', m = m' + 1 := ⟨m - 1, by omega⟩
      simp only [List.take_succ_cons, rd, if_neg h0, if_pos h1]
    rw [if_neg h1] at h
    by_cases h2 : c = 92
    · rw [if_pos h2] at h
      cases r with
      | nil => cases h
      | cons k r2 =>
        simp only at h
        cases h3 : sd k with
        | some b' =>
          rw [h3] at h
          cases h
          obtain ⟨m', rfl⟩ : ∃ m', m = m' + 2 := ⟨m - 2, by omega⟩
          simp only [List.take_succ_cons, rd, if_neg h0, if_neg h1, if_pos h2, h3]
        | none =>
          rw [h3] at h
          simp only at h
          by_cases h4 : k = 120
          · rw [if_pos h4] at h
            have hn : n = 4 := (rx_take h (m := n) (by omega)).2
            obtain ⟨m', rfl⟩ : ∃ m', m = m' + 2 := ⟨m - 2, by omega⟩
            simp only [List.take_succ_cons, rd, if_neg h0, if_neg h1, if_pos h2, h3, if_pos h4]
            exact (rx_take h (by omega)).1
          · rw [if_neg h4] at h; cases h
    · rw [if_neg h2] at h; cases h
theorem item_take {l : List Nat} {b : Nat × Nat} {n : Nat} (h : item l = some (b, n)) {m : Nat} (hm : n ≤ m) : item (l.take m) = some (b, n) := by
  unfold item at h
  cases h1 : rd 2 l with
  | none => rw [h1] at h; cases h
  | some bn =>
    obtain ⟨b1, n1⟩ := bn
    rw [h1] at h
    simp only at h
    by_cases h45 : (l.drop n1).head? = some 45
    · rw [if_pos h45] at h
      obtain ⟨⟨b2, n2⟩, h2, h3⟩ := Option.map_eq_some_iff.1 h
      simp only [Prod.mk.injEq] at h3
      obtain ⟨rfl, rfl⟩ := h3
      unfold item
      rw [rd_take h1 (by omega)]
      simp only
      rw [List.drop_take, head_take (by omega), if_pos h45, List.drop_take, rd_take h2 (by omega)]
      rfl
    · rw [if_neg h45] at h
      cases h
      unfold item
      rw [rd_take h1 hm]
      simp only
      rw [if_neg ?_]
      rw [List.drop_take]
      rcases Nat.eq_zero_or_pos (m - n) with e | e
      · rw [e]; simp
      · rw [head_take e]; exact h45
theorem QT_take : ∀ (f : Nat) (l bs : List Nat) (k m : Nat), l.length ≤ f → (∀ x ∈ l, x < 256) → QT l = some (bs, k) → k ≤ m → QT (l.take m) = some (bs, k)
  | f, l, bs, k, m, hf, hl, h, hm => by
    have hk := (QT_ok hl h).1
    by_cases h34 : l.head? = some 34
    · rw [QT_end h34] at h
      cases h
      exact QT_end (by rw [head_take hm]; exact h34)
    · cases h1 : rd 1 l with
      | none => rw [QT_no h34 h1] at h; cases h
      | some bn =>
        obtain ⟨b, n⟩ := bn
        obtain ⟨_, k1, k2, _⟩ := rd_ok hl h1
        rw [QT_more hl h34 h1] at h
        obtain ⟨⟨bs2, k3⟩, h2, h3⟩ := Option.map_eq_some_iff.1 h
        simp only [Prod.mk.injEq] at h3
        obtain ⟨rfl, rfl⟩ := h3
        have hlt : ∀ x ∈ l.take m, x < 256 := fun x hx => hl x (List.mem_of_mem_take hx)
        rw [QT_more hlt (by rw [head_take (by omega)]; exact h34) (rd_take h1 (by omega)), List.drop_take]
        match f with
        | 0 => omega
        | f + 1 =>
          rw [QT_take f (l.drop n) bs2 k3 (m - n) (by rw [List.length_drop]; omega) (fun x hx => hl x (List.mem_of_mem_drop hx)) h2 (by omega)]
          rfl
theorem ST_take : ∀ (f : Nat) (l : List Nat) (bs : List (Nat × Nat)) (k m : Nat), l.length ≤ f → (∀ x ∈ l, x < 256) → ST l = some (bs, k) → k ≤ m → ST (l.take m) = some (bs, k)
  | f, l, bs, k, m, hf, hl, h, hm => by
    have hk := (ST_ok hl h).1
    by_cases h34 : l.head? = some 93
    · rw [ST_end h34] at h
      cases h
      exact ST_end (by rw [head_take hm]; exact h34)
    · cases h1 : item l with
      | none => rw [ST_no h34 h1] at h; cases h
      | some bn =>
        obtain ⟨b, n⟩ := bn
        obtain ⟨k1, k2, _⟩ := item_ok hl h1
        rw [ST_more hl h34 h1] at h
        obtain ⟨⟨bs2, k3⟩, h2, h3⟩ := Option.map_eq_some_iff.1 h
        simp only [Prod.mk.injEq] at h3
        obtain ⟨rfl, rfl⟩ := h3
        have hlt : ∀ x ∈ l.take m, x < 256 := fun x hx => hl x (List.mem_of_mem_take hx)
        rw [ST_more hlt (by rw [head_take (by omega)]; exact h34) (item_take h1 (by omega)), List.drop_take]
        match f with
        | 0 => omega
        | f + 1 =>
          rw [ST_take f (l.drop n) bs2 k3 (m - n) (by rw [List.length_drop]; omega) (fun x hx => hl x (List.mem_of_mem_drop hx)) h2 (by omega)]
          rfl
theorem lead_take {p : Nat → Bool} : ∀ (l : List Nat) (m : Nat), lead p l ≤ m → lead p (l.take m) = lead p l
  | [], m, _ => by simp
  | c :: r, 0, h => by
    unfold lead at h ⊢
    split at h
    · omega
    · rename_i hc; simp [hc]
  | c :: r, m + 1, h => by
    simp only [List.take_succ_cons, lead] at h ⊢
    split
    · rename_i hc; rw [if_pos hc] at h; rw [lead_take r m (by omega)]
    · rfl
theorem nam_take (l : List Nat) : nam (l.take (nam l).len) = nam l := by
  have hle := lead_le inm l
  generalize hn : lead inm l = n at hle
  have hdn : nam l = namR n (l.take n) (l.drop n) := by rw [nam, hn]
  cases hd : l.drop n with
  | nil =>
    have : (nam l).len = n := by rw [hdn, hd]; rfl
    rw [this]
    have : n = l.length := by have := congrArg List.length hd; rw [List.length_drop] at this; simp at this; omega
    rw [this, List.take_length]
  | cons c r =>
    by_cases hc : c = 58 ∧ lead dgt r ≠ 0
    · obtain ⟨rfl, h0⟩ := hc
      have e : nam l = ⟨2, n + 1 + lead dgt r, l.take n, lvl (r.take (lead dgt r)), no⟩ := by rw [hdn, hd, namR_1 _ _ h0]
      have hl : l = l.take n ++ 58 :: r := by rw [← hd, List.take_append_drop]
      have hlen : (l.take n).length = n := by rw [List.length_take]; omega
      rw [e]
      show nam (l.take (n + 1 + lead dgt r)) = _
      have ht : l.take (n + 1 + lead dgt r) = l.take n ++ 58 :: r.take (lead dgt r) := by
        conv => lhs; rw [hl]
        rw [List.take_append, hlen, List.take_of_length_le (by rw [hlen]; omega), show n + 1 + lead dgt r - n = lead dgt r + 1 by omega, List.take_succ_cons]
      have hl1 : lead inm (l.take (n + 1 + lead dgt r)) = n := by rw [lead_take _ _ (by omega), hn]
      unfold nam
      rw [hl1, ht, List.take_append_of_le_length (by omega), List.drop_append_of_le_length (by omega), List.take_of_length_le (by omega), List.drop_of_length_le (by omega), List.nil_append]
      rw [namR_1 _ _ (by rw [lead_take _ _ (Nat.le_refl _)]; exact h0), lead_take _ _ (Nat.le_refl _), List.take_take, Nat.min_self]
    · have e : nam l = ⟨2, n, l.take n, -1, no⟩ := by
        rw [hdn, hd]
        by_cases h58 : c = 58
        · subst h58
          have : lead dgt r = 0 := by
            by_cases h0 : lead dgt r = 0
            · exact h0
            · exact absurd ⟨rfl, h0⟩ hc
          rw [namR_0 _ _ this]
        · rw [namR_no _ _ _ h58]
      rw [e]
      show nam (l.take n) = _
      have hl1 : lead inm (l.take n) = n := by rw [lead_take _ _ (by omega), hn]
      unfold nam
      rw [hl1, List.take_take, Nat.min_self, List.drop_of_length_le (by rw [List.length_take]; omega)]
      rfl
theorem sgn_take {l t : List Nat} (h : sgn l = some t) : sgn (l.take t.length) = some t := by
  cases l with
  | nil => cases h
  | cons c r =>
    simp only [sgn] at h
    by_cases h60 : c = 60
    · subst h60
      rw [if_pos rfl] at h
      cases r with
      | nil => cases h
      | cons d r2 =>
        by_cases h45 : d = 45
        · subst h45
          simp at h
          subst h
          rfl
        · simp [h45] at h
    · rw [if_neg h60] at h
      split at h
      · rename_i hm
        simp only [Option.some.injEq] at h
        subst h
        simp only [List.length_singleton, List.take_succ_cons, List.take_zero, sgn, if_neg h60, if_pos hm]
      · cases h
/-- Its own bytes alone are that word. -/
theorem wd_take {l : List Nat} {w : Wd} (hl : ∀ x ∈ l, x < 256) (h : wd l = some w) : wd (l.take w.len) = some w := by
  cases l with
  | nil =>
    simp only [wd, Option.some.injEq] at h
    subst h; rfl
  | cons c r =>
    have hr : ∀ x ∈ r, x < 256 := fun x hx => hl x (by simp [hx])
    obtain ⟨_, _, a3, _⟩ := wd_ok hl h
    have h1len := a3 (by simp)
    simp only [wd] at h
    by_cases h1 : ltr c = true
    · rw [if_pos h1] at h
      simp only [Option.some.injEq] at h
      subst h
      have e := nam_take (c :: r)
      obtain ⟨m, hm⟩ : ∃ m, (nam (c :: r)).len = m + 1 := ⟨(nam (c :: r)).len - 1, by omega⟩
      rw [hm] at e ⊢
      rw [List.take_succ_cons] at e ⊢
      simp only [wd, if_pos h1, e]
    · rw [if_neg h1] at h
      by_cases h2 : c = 34
      · rw [if_pos h2] at h
        obtain ⟨⟨bs, k⟩, hq, rfl⟩ := Option.map_eq_some_iff.1 h
        show wd ((c :: r).take (1 + k)) = _
        rw [Nat.add_comm 1 k, List.take_succ_cons]
        simp only [wd, if_neg h1, if_pos h2, QT_take _ r bs k k (Nat.le_refl _) hr hq (Nat.le_refl _), Option.map_some, Nat.add_comm 1 k]
      · rw [if_neg h2] at h
        by_cases h3 : c = 91
        · rw [if_pos h3] at h
          obtain ⟨⟨bs, k⟩, hq, rfl⟩ := Option.map_eq_some_iff.1 h
          show wd ((c :: r).take (1 + k)) = _
          rw [Nat.add_comm 1 k, List.take_succ_cons]
          simp only [wd, if_neg h1, if_neg h2, if_pos h3, ST_take _ r bs k k (Nat.le_refl _) hr hq (Nat.le_refl _), Option.map_some, Nat.add_comm 1 k]
        · rw [if_neg h3] at h
          obtain ⟨t, hq, rfl⟩ := Option.map_eq_some_iff.1 h
          have e := sgn_take hq
          obtain ⟨m, hm⟩ : ∃ m, t.length = m + 1 := ⟨t.length - 1, by have := (sgn_ok hq).1; omega⟩
          show wd ((c :: r).take t.length) = _
          rw [hm] at e ⊢
          rw [List.take_succ_cons] at e ⊢
          simp only [wd, if_neg h1, if_neg h2, if_neg h3, e, Option.map_some, hm]
/-- A word stays, whatever stands behind a blank behind it. -/
theorem wd_app3 {l x : List Nat} {w : Wd} (hl : ∀ y ∈ l, y < 256) (hx : ∀ y ∈ x, y < 256) (hb : ∀ c r, x = c :: r → c = 10 ∨ c = 32 ∨ c = 13) (h0 : l ≠ []) (h : wd l = some w) : wd (l ++ x) = some w := by
  cases l with
  | nil => exact absurd rfl h0
  | cons c r =>
    have hr : ∀ x ∈ r, x < 256 := fun x hx => hl x (by simp [hx])
    simp only [wd] at h
    have hxn : ∀ c r, x = c :: r → inm c = false ∧ c ≠ 58 := fun c r e => by
      rcases hb c r e with rfl | rfl | rfl <;> exact ⟨rfl, by omega⟩
    simp only [List.cons_append, wd]
    by_cases h1 : ltr c = true
    · rw [if_pos h1] at h ⊢
      rw [← List.cons_append, nam_app hxn]
      exact h
    · rw [if_neg h1] at h ⊢
      by_cases h2 : c = 34
      · rw [if_pos h2] at h ⊢
        cases hq : QT r with
        | none => rw [hq] at h; cases h
        | some y => rw [(QT_ok hr (bs := y.1) (k := y.2) hq).2.2.2.2 x hx]; rw [hq] at h; exact h
      · rw [if_neg h2] at h ⊢
        by_cases h3 : c = 91
        · rw [if_pos h3] at h ⊢
          cases hq : ST r with
          | none => rw [hq] at h; cases h
          | some y =>
            rw [(ST_ok hr (bs := y.1) (k := y.2) hq).2.2.2.2 x hx (by
              cases x with
              | nil => simp
              | cons c2 r2 => rcases hb c2 r2 rfl with rfl | rfl | rfl <;> simp)]
            rw [hq] at h; exact h
        · rw [if_neg h3] at h ⊢
          cases hq : sgn (c :: r) with
          | none => rw [hq] at h; cases h
          | some t =>
            have : sgn (c :: (r ++ x)) = some t := by
              simp only [sgn] at hq ⊢
              by_cases h60 : c = 60
              · rw [if_pos h60] at hq ⊢
                cases r with
                | nil => cases hq
                | cons d r2 => exact hq
              · rw [if_neg h60] at hq ⊢
                exact hq
            rw [this]; rw [hq] at h; exact h
end Go.Proofs.YtphdplommmkncaaGreatDoor
namespace Go.Proofs.YtphdplommmkncaaGreatDoor
structure Gap3 (x : List Nat) : Prop where
  lt : ∀ y ∈ x, y < 256
  hd : ∀ c r, x = c :: r → c = 10 ∨ c = 32 ∨ c = 13
  ne : x ≠ []
  len : x.length ≤ 5
  skip : ∀ (b : List Nat), sk false (x ++ b) = x.length + sk false b
theorem gapA : Gap3 [32] := ⟨by simp, fun c r e => by cases e; simp, by simp, by simp, fun b => by simp [sk, bln]; omega⟩
theorem gapB : Gap3 [10] := ⟨by simp, fun c r e => by cases e; simp, by simp, by simp, fun b => by simp [sk, bln]; omega⟩
theorem gapC : Gap3 [32, 35, 120, 10, 9] := ⟨by simp, fun c r e => by cases e; simp, by simp, by simp, fun b => by simp [sk, bln]; omega⟩
theorem gapD : Gap3 [13, 10, 35, 10] := ⟨by simp, fun c r e => by cases e; simp, by simp, by simp, fun b => by simp [sk, bln]; omega⟩
/-- The bytes of a word; the words, each with a gap ahead of it; those from one on. -/
def wt (l : List Nat) (k : Nat) : List Nat := (l.drop (beg l k)).take (tkn l k).len
def spr (l x : List Nat) : Nat → List Nat
  | 0 => []
  | k + 1 => spr l x k ++ (x ++ wt l k)
def sprF (l x : List Nat) : Nat → Nat → List Nat
  | _, 0 => []
  | k, n + 1 => x ++ (wt l k ++ sprF l x (k + 1) n)
theorem spr_split (l x : List Nat) : ∀ n k, spr l x (k + n) = spr l x k ++ sprF l x k n
  | 0, k => by simp [sprF]
  | n + 1, k => by
    rw [show k + (n + 1) = (k + 1) + n by omega, spr_split l x n (k + 1), spr, sprF]
    simp only [List.append_assoc]
theorem sk_head {c : Nat} {r r' : List Nat} (h : sk false (c :: r) = 0) : sk false (c :: r') = 0 := by
  simp only [sk] at h ⊢
  split at h
  · omega
  · split at h
    · omega
    · rename_i h1 h2; rw [if_neg h1, if_neg h2]
theorem beg_idem' (l : List Nat) (k : Nat) : sk false (l.drop (beg l k)) = 0 := by
  have h := sk_idem (l.drop (pos l k))
  rw [List.drop_drop] at h
  exact h
theorem sprF_lt {l x : List Nat} (hl : ∀ y ∈ l, y < 256) (hx : ∀ y ∈ x, y < 256) : ∀ n k, ∀ y ∈ sprF l x k n, y < 256
  | 0, _, y, hy => by simp [sprF] at hy
  | n + 1, k, y, hy => by
    simp only [sprF, List.mem_append] at hy
    rcases hy with h | h | h
    · exact hx y h
    · exact hl y (List.mem_of_mem_drop (List.mem_of_mem_take h))
    · exact sprF_lt hl hx n _ y h
theorem spr_lt {l x : List Nat} (hl : ∀ y ∈ l, y < 256) (hx : ∀ y ∈ x, y < 256) (n : Nat) : ∀ y ∈ spr l x n, y < 256 := by
  have := spr_split l x n 0
  rw [Nat.zero_add] at this
  rw [this]
  simpa [spr] using sprF_lt hl hx n 0
section
variable {l x : List Nat} {N : Nat}
theorem wt_len (hl : ∀ y ∈ l, y < 256) {k : Nat} {w : Wd} (h : ow l k = some w) : (wt l k).length = w.len ∧ beg l k + w.len ≤ l.length := by
  have h1 := (wd_ok (drop_lt hl _) h).1
  rw [List.length_drop] at h1
  have h2 := beg_le hl k
  rw [wt, tkn_some h, List.length_take, List.length_drop]
  omega
/-- Where the words stand then; they are the same. -/
theorem spread_at (hl : ∀ y ∈ l, y < 256) (hx : Gap3 x) (hN : stp l N = true) (hNb : ∀ j, j < N → stp l j = false) (ho : ow l N ≠ none) : ∀ k, k ≤ N → pos (spr l x (N + 1)) k = (spr l x k).length ∧ beg (spr l x (N + 1)) k = (spr l x k).length + x.length ∧ ow (spr l x (N + 1)) k = ow l k
  | k, hk => by
    have hp : pos (spr l x (N + 1)) k = (spr l x k).length := by
      cases k with
      | zero => rfl
      | succ k =>
        obtain ⟨_, h2, h3⟩ := spread_at hl hx hN hNb ho k (by omega)
        obtain ⟨w, hw, _⟩ := pos_more hl (hNb k (by omega))
        rw [pos_some (h3.trans hw), h2, spr, List.length_append, List.length_append, (wt_len hl hw).1]
        omega
    obtain ⟨w, hw⟩ : ∃ w, ow l k = some w := ⟨tkn l k, (toks_of hN hNb ho).2 k hk⟩
    have hT : spr l x (N + 1) = spr l x k ++ sprF l x k (N - k + 1) := by rw [← spr_split, show k + (N - k + 1) = N + 1 by omega]
    have hd : (spr l x (N + 1)).drop (pos (spr l x (N + 1)) k) = x ++ (wt l k ++ sprF l x (k + 1) (N - k)) := by
      rw [hp, hT, List.drop_left]; rfl
    have hw2 : wd (l.drop (beg l k)) = some w := hw
    have hwl := wt_len hl hw
    have key : sk false (wt l k ++ sprF l x (k + 1) (N - k)) = 0 ∧ wd (wt l k ++ sprF l x (k + 1) (N - k)) = some w := by
      rcases Nat.lt_or_eq_of_le hk with h | rfl
      · obtain ⟨w', hw', _, h1, _⟩ := pos_more hl (hNb k h)
        rw [hw] at hw'
        obtain rfl := Option.some.inj hw'
        have hne : wt l k ≠ [] := fun e => by rw [e] at hwl; simp at hwl; omega
        refine ⟨?_, ?_⟩
        · have h0 := beg_idem' l k
          cases hd' : l.drop (beg l k) with
          | nil => rw [wt, hd'] at hne; simp at hne
          | cons c r =>
            rw [hd'] at h0
            obtain ⟨m, hm⟩ : ∃ m, (tkn l k).len = m + 1 := ⟨(tkn l k).len - 1, by rw [tkn_some hw]; omega⟩
            rw [wt, hd', hm, List.take_succ_cons, List.cons_append]
            exact sk_head h0
        · have ht := wd_take (drop_lt hl _) hw2
          have e : (l.drop (beg l k)).take w.len = wt l k := by rw [wt, tkn_some hw]
          rw [e] at ht
          refine wd_app3 (fun y hy => hl y (List.mem_of_mem_drop (List.mem_of_mem_take hy))) (sprF_lt hl hx.lt _ _) ?_ hne ht
          intro c r e2
          obtain ⟨m, hm⟩ : ∃ m, N - k = m + 1 := ⟨N - k - 1, by omega⟩
          rw [hm, sprF] at e2
          cases hxx : x with
          | nil => exact absurd hxx hx.ne
          | cons d t => rw [hxx] at e2; cases e2; exact hx.hd _ _ hxx
      · rw [stp_some hw] at hN
        have hk1 : w.kind = 1 := by simpa using hN
        have hb := (ow_end hl hw).1.1 hk1
        obtain rfl := (ow_end hl hw).2 hb
        rw [Nat.sub_self, sprF, List.append_nil]
        have : wt l k = [] := List.eq_nil_of_length_eq_zero hwl.1
        rw [this]
        exact ⟨rfl, rfl⟩
    have hb : beg (spr l x (N + 1)) k = (spr l x k).length + x.length := by
      unfold beg
      rw [hd, hp, hx.skip, key.1]; rfl
    refine ⟨hp, hb, ?_⟩
    rw [hw]
    show wd ((spr l x (N + 1)).drop (beg (spr l x (N + 1)) k)) = some w
    rw [← key.2, hb]
    congr 1
    have := congrArg (List.drop x.length) hd
    rw [List.drop_drop, hp, List.drop_left] at this
    exact this
/-- Behind the last word there is only it. -/
theorem ow_far (hl : ∀ y ∈ l, y < 256) (hN : stp l N = true) (ho : ow l N ≠ none) : ∀ n, beg l (N + n) = l.length ∧ ow l (N + n) = some ⟨1, 0, [], 0, no⟩
  | 0 => by
    cases h : ow l N with
    | none => exact absurd h ho
    | some w =>
      rw [stp_some h] at hN
      have hk1 : w.kind = 1 := by simpa using hN
      have hb := (ow_end hl h).1.1 hk1
      exact ⟨hb, by rw [(ow_end hl h).2 hb]⟩
  | n + 1 => by
    obtain ⟨h1, h2⟩ := ow_far hl hN ho n
    have hp : pos l (N + (n + 1)) = l.length := by
      have := pos_some h2
      rw [show N + (n + 1) = N + n + 1 by omega, this, h1]; rfl
    have hb : beg l (N + (n + 1)) = l.length := by
      unfold beg
      rw [hp, List.drop_length]; rfl
    exact ⟨hb, by unfold ow; rw [hb, List.drop_length]; rfl⟩
theorem tkn_far (hl : ∀ y ∈ l, y < 256) (hN : stp l N = true) (ho : ow l N ≠ none) {k : Nat} (hk : N ≤ k) : tkn l k = ⟨1, 0, [], 0, no⟩ := by
  obtain ⟨n, rfl⟩ : ∃ n, k = N + n := ⟨k - N, by omega⟩
  exact tkn_some (ow_far hl hN ho n).2
/-- Spread, it has the same words. -/
theorem spread_same (hl : ∀ y ∈ l, y < 256) (hx : Gap3 x) (hN : stp l N = true) (hNb : ∀ j, j < N → stp l j = false) (ho : ow l N ≠ none) : stp (spr l x (N + 1)) N = true ∧ (∀ j, j < N → stp (spr l x (N + 1)) j = false) ∧ ow (spr l x (N + 1)) N ≠ none ∧ trd (spr l x (N + 1)) N = trd l N := by
  have h := spread_at hl hx hN hNb ho
  have hs := spr_lt hl hx.lt (N + 1)
  have h1 : stp (spr l x (N + 1)) N = true := by rw [stp_ow (h N (Nat.le_refl _)).2.2]; exact hN
  have h2 : ow (spr l x (N + 1)) N ≠ none := by rw [(h N (Nat.le_refl _)).2.2]; exact ho
  refine ⟨h1, fun j hj => by rw [stp_ow (h j (by omega)).2.2]; exact hNb j hj, h2, ?_⟩
  have : tkn (spr l x (N + 1)) = tkn l := by
    funext k
    rcases Nat.le_total k N with hk | hk
    · unfold tkn; rw [(h k hk).2.2]
    · rw [tkn_far hs h1 h2 hk, tkn_far hl hN ho hk]
  unfold trd
  rw [this]
theorem spr_len (hx : x.length ≤ 5) : ∀ k, (∀ i, i < k → pos l i + (wt l i).length ≤ pos l (i + 1)) → (spr l x k).length ≤ 5 * k + pos l k
  | 0, _ => by simp [spr, pos]
  | k + 1, h => by
    have := spr_len hx k (fun i hi => h i (by omega))
    have := h k (by omega)
    simp only [spr, List.length_append]
    omega
end
end Go.Proofs.YtphdplommmkncaaGreatDoor
namespace Go.Proofs.YtphdplommmkncaaGreatDoor
open Go Go.RowKit
set_option maxRecDepth 100000 in
set_option maxHeartbeats 2000000 in
theorem pre_long (s : ByteArray) (h : 2000 < s.size) (w : World) (hT : Tab w) :
    Calls Tryz.prog 5 #[.string s] w fun e w' => e = .returned (.bool true) ∧ Below w.heap.size w w' := by
  have AW := Lib.hid (awake8_any w hT)
  have TT := Lib.hid hT
  have h3 : (2000 : Int) < s.size := by omega
  clear hT h
  go_enter Tryz.func5, Tryz.ntmps5
  go_wp2_with (go_at_call 8; (with_reducible refine AW.out.mono ?_); rintro e w1 ⟨rfl, hb⟩; have HB := Lib.hid hb; have T1 := Lib.hid (TT.out.below hb); clear hb)
  go_ret
  exact ⟨rfl, HB.out⟩
set_option maxRecDepth 100000 in
set_option maxHeartbeats 4000000 in
theorem pre_bad (s : ByteArray) (er : Int) (a : Nat) (hw : Why er) (ha : a ≤ s.size) (hz : s.size ≤ 2000) (TX : ∀ W, Tab W → Calls Tryz.prog 11 #[.string s] W fun e w' => Below W.heap.size W w' ∧ e = .returned (.tuple #[.agg z5, dgv er a])) (w : World) (hT : Tab w) :
    Calls Tryz.prog 5 #[.string s] w fun e w' => e = .returned (.bool true) ∧ Below w.heap.size w w' := by
  have AW := Lib.hid (awake8_any w hT)
  have TT := Lib.hid hT
  have TX2 := Lib.hid TX
  have h3 : ¬ (2000 : Int) < s.size := by omega
  have h4 : (0 : Int) ≤ a := by omega
  have h5 : (a : Int) ≤ s.size := by omega
  have h6 : (er == 0) = false := by rcases hw with rfl | rfl <;> rfl
  have h7 : (er != 0) = true := by rcases hw with rfl | rfl <;> rfl
  have h8 : ¬ (er = 0) := by rcases hw with rfl | rfl <;> decide
  obtain ⟨A, eA⟩ : ∃ A : Int, A = a := ⟨_, rfl⟩
  rw [← eA] at h4 h5 TX2
  clear hT TX hz ha hw eA
  go_enter Tryz.func5, Tryz.ntmps5
  go_upto_region 6 with (first | (go_at_call 8; (with_reducible refine AW.out.mono ?_); rintro e w1 ⟨rfl, hb⟩; have HB := Lib.hid hb; have T1 := Lib.hid (TT.out.below hb); clear hb) | (go_at_call 11; (with_reducible refine (TX2.out _ T1.out).mono ?_); rintro e w2 ⟨hb, rfl⟩; have HB2 := Lib.hid (bb HB.out hb); clear hb) | (refine wpList_store_whole rfl 31 (.tmp 3) (.tmp 25) rfl w2.heap.size z5 rfl rfl 31 _ (two_blks w2).1 (by kernel_rfl) (by rfl) (by simp [Value.oneCell']) ?_; intro w3 hk2 hg2; have K2 := Lib.hid hk2; have G2 := Lib.hid hg2; have D2 := Lib.hid ((two_blks w2).2.grown hg2 (by simp)); clear hk2 hg2) | (refine wpList_store_whole rfl 34 (.tmp 4) (.tmp 26) rfl (w2.heap.size + 1) #[.int .i64 er, .int .i64 A] rfl rfl 34 _ D2.out (by kernel_rfl) (by rfl) (by simp [Value.oneCell']) ?_; intro w4 hk3 hg3; have H4 := Lib.hid (pair_set HB2.out HB2.out.size G2.out K2.out hg3 hk3); clear hk3 hg3))
  clear K2 G2 D2
  have f0 : w4.cell? ⟨w2.heap.size, 0, none⟩ = some nil3 := H4.out.2.2.1.cell 0
  have f1 : w4.cell? ⟨w2.heap.size, 1, none⟩ = some nil3 := H4.out.2.2.1.cell 1
  go_upto_region 7 with fail
  obtain ⟨w5, e5⟩ : ∃ u, u = w4.alloc (.cells #[nil3, nil3] 28) := ⟨_, rfl⟩
  have E5 : RowKit.Hid (Below w4.heap.size w4 w5 ∧ Blk w5 w4.heap.size #[nil3, nil3] 28) := Lib.hid (by rw [e5]; exact ⟨B1 _ _, Blk.new _ _ _⟩)
  rw [← e5]
  clear e5 f0 f1
  have H5 := Lib.hid (And.intro (H4.out.2.2.1.below' E5.out.1) (H4.out.2.2.2.below' E5.out.1))
  have HB5 := Lib.hid (bb H4.out.1 (E5.out.1))
  have q0 : w5.cell? ⟨w2.heap.size, 0, none⟩ = some nil3 := H5.out.1.cell 0
  have q1 : w5.cell? ⟨w2.heap.size, 1, none⟩ = some nil3 := H5.out.1.cell 1
  have q2 : w5.cell? ⟨w2.heap.size, 2, none⟩ = some nil3 := H5.out.1.cell 2
  have q3 : w5.cell? ⟨w2.heap.size, 3, none⟩ = some nil3 := H5.out.1.cell 3
  have q4 : w5.cell? ⟨w2.heap.size, 4, none⟩ = some nil3 := H5.out.1.cell 4
  have q5 : w5.cell? ⟨w2.heap.size + 1, 0, none⟩ = some (.int .i64 er) := H5.out.2.cell 0
  have q6 : w5.cell? ⟨w2.heap.size + 1, 1, none⟩ = some (.int .i64 A) := H5.out.2.cell 1
  have q7 : w5.cell? ⟨w4.heap.size, 0, none⟩ = some nil3 := E5.out.2.cell 0
  have q8 : w5.cell? ⟨w4.heap.size, 1, none⟩ = some nil3 := E5.out.2.cell 1
  go_wp2_with fail
  go_ret
  exact ⟨rfl, HB5.out⟩
end Go.Proofs.YtphdplommmkncaaGreatDoor
namespace Go.Proofs.YtphdplommmkncaaGreatDoor
open Go Go.RowKit
theorem endAt_gt (F : Fr) (m : Nat) : m < endAt F m := by unfold endAt; omega
theorem endAt_le (F : Fr) {m : Nat} (hm : m < F.nodes) : endAt F m ≤ F.nodes := by
  rw [← parts_length] at hm
  obtain ⟨⟨x, K⟩, hx⟩ : ∃ y, F.parts[m]? = some y := ⟨_, List.getElem?_eq_getElem hm⟩
  obtain ⟨rest, hr⟩ := parts_drop F m x K hx
  have := congrArg List.length hr
  rw [List.length_drop, List.length_append, parts_length, parts_length] at this
  rw [parts_length] at hm
  unfold endAt
  rw [hx]
  simp only [Option.map_some, Option.getD_some]
  omega
theorem chain_le {E : Nat → Nat} (hE : ∀ m, m < E m) : ∀ (ks : List Nat) (a b : Nat), chain E a ks b → a ≤ b
  | [], a, b, h => Nat.le_of_eq h
  | k :: ks, a, b, h => by
    have := chain_le hE ks _ _ h.2
    have := hE a
    omega
theorem chain_at {E : Nat → Nat} (hE : ∀ m, m < E m) {ks : List Nat} {a b i : Nat} (h : chain E a (ks.drop i) b) (hi : i < ks.length) : ks.getD i 0 = a ∧ a < b ∧ chain E (E a) (ks.drop (i + 1)) b := by
  rw [List.drop_eq_getElem_cons hi] at h
  have h2 := chain_le hE _ _ _ h.2
  have h3 := hE a
  refine ⟨?_, by omega, h.2⟩
  rw [List.getD_eq_getElem?_getD, List.getElem?_eq_getElem hi]
  exact h.1
theorem chain_done {E : Nat → Nat} {ks : List Nat} {a b i : Nat} (h : chain E a (ks.drop i) b) (hi : ks.length ≤ i) : a = b := by
  rw [List.drop_of_length_le hi] at h
  exact h
theorem beg_lt {l : List Nat} (hl : ∀ x ∈ l, x < 256) {N k : Nat} (hNb : ∀ j, j < N → stp l j = false) (hk : k < N) : beg l k < l.length := by
  obtain ⟨x, hx, _, h1, _⟩ := pos_more hl (hNb k hk)
  have := (wt_len hl hx).2
  omega
theorem beg_up {l : List Nat} (hl : ∀ x ∈ l, x < 256) {N : Nat} (hNb : ∀ j, j < N → stp l j = false) : ∀ (d k : Nat), k + d + 1 ≤ N → beg l k < beg l (k + d + 1)
  | 0, k, h => by
    obtain ⟨x, hx, _, h1, _⟩ := pos_more hl (hNb k (by omega))
    have h2 := pos_some hx
    have h3 := pos_beg l (k + 1)
    show beg l k < beg l (k + 1)
    omega
  | d + 1, k, h => by
    have := beg_up hl hNb d k (by omega)
    have := beg_up hl hNb 0 (k + d + 1) (by omega)
    rw [show k + (d + 1) + 1 = k + d + 1 + 0 + 1 by omega]
    omega
theorem beg_mono {l : List Nat} (hl : ∀ x ∈ l, x < 256) {N i j : Nat} (hNb : ∀ j, j < N → stp l j = false) (h : i < j) (hj : j ≤ N) : beg l i < beg l j := by
  have := beg_up hl hNb (j - i - 1) i (by omega)
  rwa [show i + (j - i - 1) + 1 = j by omega] at this
/-- What is known of a node. -/
structure NodeAt (l : List Nat) (N : Nat) (us : List Ru) (m : Nat) (x : Px) (K : Fr) : Prop where
  ok : okN (tkn l) N x K
  is : (flat 0 (bod us))[m]? = some (x, roots (m + 1) K)
  kids : chain (endAt (bod us)) (m + 1) (roots (m + 1) K) (endAt (bod us) m)
  le : endAt (bod us) m ≤ (bod us).nodes
  head : (x.kind = 6 ∨ x.kind = 7) → m + 1 < (bod us).nodes ∧ ∃ y L, (flat 0 (bod us))[m + 1]? = some (y, L) ∧ y.at_ = x.at_
theorem node_is {l : List Nat} {N : Nat} {us : List Ru} (G : Got l N us) {m : Nat} (hm : m < (bod us).nodes) : ∃ x K, NodeAt l N us m x K := by
  have hm' := hm
  rw [← parts_length] at hm'
  obtain ⟨⟨x, K⟩, hx⟩ : ∃ y, (bod us).parts[m]? = some y := ⟨_, List.getElem?_eq_getElem hm'⟩
  have hok := parts_all _ G.ok _ (List.mem_of_getElem? hx)
  refine ⟨x, K, hok, ?_, kids_chain _ _ _ _ hx, endAt_le _ hm, fun h => ?_⟩
  · rw [flat_parts, hx]; simp
  · obtain ⟨h2, hh⟩ := hok.1 h
    cases hK : K with
    | nil => rw [hK] at h2; simp [Fr.len] at h2
    | cons y k r =>
      obtain ⟨rest, hr⟩ := parts_drop _ m x K hx
      rw [hK] at hr hh
      have hy : (bod us).parts[m + 1]? = some (y, k) := by
        have := congrArg (fun l => l[0]?) hr
        simpa [Fr.parts] using this
      have hlt : m + 1 < (bod us).nodes := by rw [← parts_length]; exact (List.getElem?_eq_some_iff.1 hy).1
      refine ⟨hlt, y, roots (0 + (m + 1) + 1) k, by rw [flat_parts, hy]; simp, ?_⟩
      simpa [Fr.headAt] using hh
theorem getD_is {α : Type} {l : List α} {i : Nat} {x z : α} (h : l[i]? = some x) : l.getD i z = x := by rw [List.getD_eq_getElem?_getD, h]; rfl
theorem Tre.Says.npAt {l : List Nat} {us : List Ru} {t : Tre} (h : t.Says l us) {m : Nat} {x : Px} {L : List Nat} (hx : (flat 0 (bod us))[m]? = some (x, L)) : t.np.getD m 0 = (beg l x.at_ : Nat) := by
  rw [h.np]; exact getD_is (by rw [List.getElem?_map, hx]; rfl)
theorem Tre.Says.nmAt {l : List Nat} {us : List Ru} {t : Tre} (h : t.Says l us) {m : Nat} {x : Px} {L : List Nat} (hx : (flat 0 (bod us))[m]? = some (x, L)) : t.nm.getD m te8 = bsv x.name := by
  rw [h.nm]; exact getD_is (by rw [List.getElem?_map, hx]; rfl)
theorem Tre.Says.ndAt {l : List Nat} {us : List Ru} {t : Tre} (h : t.Says l us) {m : Nat} {x : Px} {L : List Nat} (hx : (flat 0 (bod us))[m]? = some (x, L)) : keyNd (t.g.nodes.getD m Nd.zero) = kof (x, L) := by
  have := congrArg (fun l => l[m]?) h.keys
  simp only [List.getElem?_map, hx, Option.map_some] at this
  cases h2 : t.g.nodes[m]? with
  | none => rw [h2] at this; cases this
  | some y => rw [h2] at this; rw [getD_is h2]; simpa using this
theorem Tre.Says.rpAt {l : List Nat} {us : List Ru} {t : Tre} (h : t.Says l us) {i : Nat} {u : Ru} (hu : us[i]? = some u) : t.rp.getD i 0 = (beg l u.at_ : Nat) := by
  rw [h.rp]; exact getD_is (by rw [List.getElem?_map, hu]; rfl)
theorem Tre.Says.rlAt {l : List Nat} {us : List Ru} {t : Tre} (h : t.Says l us) {i : Nat} {u : Ru} (hu : us[i]? = some u) : t.g.rules.getD i Rl.zero = ⟨bsv u.name, ((roots 0 (bod us)).getD i 0 : Nat)⟩ := by
  rw [h.rules]
  have hi := (List.getElem?_eq_some_iff.1 hu).1
  have hr : i < (roots 0 (bod us)).length := by rw [roots_len, bod_len]; exact hi
  refine getD_is ?_
  rw [rlsOf, List.getElem?_map, List.getElem?_zip_eq_some (z := (u, (roots 0 (bod us))[i])) |>.2 ⟨hu, List.getElem?_eq_getElem hr⟩]
  simp [List.getD_eq_getElem?_getD, List.getElem?_eq_getElem hr]
/-- Numbers of a row, one turned. -/
theorem ints_set (l : List Int) (k : Nat) (v : Int) : (ints l).set k (.int .i64 v) = ints (l.set k v) := by simp [ints, List.map_set]
theorem getD_set {l : List Int} {k j : Nat} {v : Int} (hk : k < l.length) : (l.set k v).getD j 0 = if j = k then v else l.getD j 0 := by
  rw [List.getD_eq_getElem?_getD, List.getElem?_set]
  by_cases h : j = k
  · subst h; simp [hk]
  · rw [if_neg (fun e => h e.symm), if_neg h, List.getD_eq_getElem?_getD]
theorem tkn_here {l : List Nat} {N : Nat} (hN : stp l N = true) (hNb : ∀ j, j < N → stp l j = false) (ho : ow l N ≠ none) {k : Nat} (hk : k ≤ N) : ow l k = some (tkn l k) := (toks_of hN hNb ho).2 k hk
end Go.Proofs.YtphdplommmkncaaGreatDoor
namespace Go.Proofs.YtphdplommmkncaaGreatDoor
open Go Go.RowKit
/-- The rows of a tree of rules, cell by cell. -/
structure PreM (l : List Nat) (us : List Ru) (rb ro nb no pb po qb qo mb mo : Nat) (w : World) : Prop where
  lt : rb < w.heap.size ∧ nb < w.heap.size ∧ pb < w.heap.size ∧ qb < w.heap.size ∧ mb < w.heap.size
  rule : ∀ (i : Nat) (u : Ru), us[i]? = some u → w.cell? ⟨rb, ro + i * 2, none⟩ = some (.string (bsv u.name)) ∧ w.cell? ⟨rb, ro + i * 2 + 1, none⟩ = some (.int .i64 (((roots 0 (bod us)).getD i 0 : Nat) : Int)) ∧ w.cell? ⟨pb, po + i, none⟩ = some (.int .i64 (beg l u.at_ : Nat))
  node : ∀ (m : Nat) (x : Px) (L : List Nat), (flat 0 (bod us))[m]? = some (x, L) → w.cell? ⟨nb, no + m * 9, none⟩ = some (.int .i64 x.kind) ∧ w.cell? ⟨nb, no + m * 9 + 5, none⟩ = some (.string (bsv x.text)) ∧ w.cell? ⟨nb, no + m * 9 + 6, none⟩ = some (.int .i64 0) ∧ w.cell? ⟨qb, qo + m, none⟩ = some (.int .i64 (beg l x.at_ : Nat)) ∧ w.cell? ⟨mb, mo + m, none⟩ = some (.string (bsv x.name)) ∧ ∃ A c, w.cell? ⟨nb, no + m * 9 + 8, none⟩ = some (.slice A L.length c) ∧ Lies w A (numv L)
theorem PreM.below {l : List Nat} {us : List Ru} {rb ro nb no pb po qb qo mb mo : Nat} {w w' : World} (h : PreM l us rb ro nb no pb po qb qo mb mo w) (hb : Below w.heap.size w w') : PreM l us rb ro nb no pb po qb qo mb mo w' := by
  obtain ⟨⟨l1, l2, l3, l4, l5⟩, hr, hn⟩ := h
  have hz := hb.size
  refine ⟨⟨by omega, by omega, by omega, by omega, by omega⟩, fun i u hu => ?_, fun m x L hx => ?_⟩
  · obtain ⟨a, b, c⟩ := hr i u hu
    exact ⟨(hb.cell (p := ⟨rb, _, none⟩) l1).trans a, (hb.cell (p := ⟨rb, _, none⟩) l1).trans b, (hb.cell (p := ⟨pb, _, none⟩) l3).trans c⟩
  · obtain ⟨a, b, c, d, e, A, cp, f, g⟩ := hn m x L hx
    exact ⟨(hb.cell (p := ⟨nb, _, none⟩) l2).trans a, (hb.cell (p := ⟨nb, _, none⟩) l2).trans b, (hb.cell (p := ⟨nb, _, none⟩) l2).trans c, (hb.cell (p := ⟨qb, _, none⟩) l4).trans d, (hb.cell (p := ⟨mb, _, none⟩) l5).trans e, A, cp, (hb.cell (p := ⟨nb, _, none⟩) l2).trans f, g.below hb⟩
theorem flat_at {F : Fr} {m : Nat} {p : Px × List Nat} (h : (flat 0 F)[m]? = some p) : m < F.nodes := by
  have := (List.getElem?_eq_some_iff.1 h).1
  rwa [flat_length] at this
theorem preM_of {l : List Nat} {N : Nat} {us : List Ru} {t : Tre} {w : World} (G : Got l N us) (ha : t.At w) (hs : t.Says l us) : ∃ rb ro nb no pb po qb qo mb mo, t.g.RA = some ⟨rb, ro, none⟩ ∧ t.g.NA = some ⟨nb, no, none⟩ ∧ t.PA = some ⟨pb, po, none⟩ ∧ t.QA = some ⟨qb, qo, none⟩ ∧ t.MA = some ⟨mb, mo, none⟩ ∧ PreM l us rb ro nb no pb po qb qo mb mo w := by
  obtain ⟨hn1, hn2, hn3⟩ := hs.nlen
  obtain ⟨hr1, hr2⟩ := hs.rlen
  have hR : 0 < us.length := List.length_pos_iff.2 G.ne
  have hn : 0 < (bod us).nodes := by have := Fr.len_le (bod us); rw [bod_len] at this; omega
  obtain ⟨rb, ro, e1, g1, k1⟩ := ha.g.rules (by omega)
  obtain ⟨nb, no, e2, g2, k2⟩ := ha.g.nodes (by omega)
  obtain ⟨pb, po, e3, g3, k3⟩ := ha.rp (by rw [ints_length]; omega)
  obtain ⟨qb, qo, e4, g4, k4⟩ := ha.np (by rw [ints_length]; omega)
  obtain ⟨mb, mo, e5, g5, k5⟩ := ha.nm (by simp [strs]; omega)
  refine ⟨rb, ro, nb, no, pb, po, qb, qo, mb, mo, e1, e2, e3, e4, e5, ⟨g1, g2, g3, g4, g5⟩, fun i u hu => ?_, fun m x L hx => ?_⟩
  · have hi := (List.getElem?_eq_some_iff.1 hu).1
    obtain ⟨a, b⟩ := k1 i (by omega)
    have c := (k3 i (by rw [ints_length]; omega)).trans (ints_at (by omega))
    rw [hs.rlAt hu] at a b
    rw [hs.rpAt hu] at c
    exact ⟨a, b, c⟩
  · have hm := flat_at hx
    have kk := k2 m (by omega)
    have key := hs.ndAt hx
    have c := (k4 m (by rw [ints_length]; omega)).trans (ints_at (by omega))
    rw [hs.npAt hx] at c
    obtain ⟨mb', mo', em, _, d⟩ := lies_str ha.nm (k := m) (by omega)
    rw [e5] at em
    cases em
    rw [hs.nmAt hx] at d
    have hy := ha.g.node (i := m) (by omega)
    generalize t.g.nodes.getD m Nd.zero = y at kk key hy
    simp only [keyNd, kof, Prod.mk.injEq] at key
    obtain ⟨q0, q1, q2, q3, q4, q5, q6, q7, q8⟩ := key
    have r0 := kk 0 (by decide)
    have r5 := kk 5 (by decide)
    have r6 := kk 6 (by decide)
    have r8 := kk 8 (by decide)
    simp only [Nd.cells, List.getElem?_cons_zero, List.getElem?_cons_succ, Nat.add_zero] at r0 r5 r6 r8
    rw [q0] at r0
    rw [q5] at r5
    rw [q6] at r6
    have hL : y.kids.length = L.length := by rw [q8, List.length_map]
    rw [hL] at r8
    refine ⟨r0, r5, r6, c, d, y.A, y.cap, r8, ?_⟩
    have := hy.1
    rw [q8] at this
    have e : ints (L.map fun (k : Nat) => (k : Int)) = numv L := by simp [ints, numv]
    rw [e] at this
    exact this
theorem text_yes (N : Nat) (s : ByteArray) (l : List Nat) (hs : Str s l) (hl : l.length ≤ 16384) (hN : stp l N = true) (hNl : N ≤ l.length) (hNb : ∀ j, j < N → stp l j = false) (ho : ow l N ≠ none) {us : List Ru} {j : Nat} (ht : trd l N = .ok us j) (w : World) (hT : Tab w) :
    Calls Tryz.prog 11 #[.string s] w fun e w' => Below w.heap.size w w' ∧ ∃ rb ro rc nb no nc pb po pc qb qo qc mb mo mc, e = .returned (.tuple #[.agg #[.slice (some ⟨rb, ro, none⟩) us.length rc, .slice (some ⟨nb, no, none⟩) (bod us).nodes nc, .slice (some ⟨pb, po, none⟩) us.length pc, .slice (some ⟨qb, qo, none⟩) (bod us).nodes qc, .slice (some ⟨mb, mo, none⟩) (bod us).nodes mc], dgv 0 0]) ∧ PreM l us rb ro nb no pb po qb qo mb mo w' := by
  refine (text3 N s l hs hl hN hNl hNb w hT).mono fun e w' h => ?_
  obtain ⟨hb, ⟨h1, h2⟩ | ⟨er, j, h1, h2, _⟩ | ⟨us', j', t, h1, h2, h3, h4, h5, G⟩⟩ := h
  · exact absurd h1 ho
  · rw [ht] at h2; cases h2
  · rw [ht] at h2
    cases h2
    obtain ⟨rb, ro, nb, no, pb, po, qb, qo, mb, mo, e1, e2, e3, e4, e5, hM⟩ := preM_of G h4 h5
    refine ⟨hb, rb, ro, t.g.rc, nb, no, t.g.nc, pb, po, t.pc, qb, qo, t.qc, mb, mo, t.mc, ?_, hM⟩
    obtain ⟨hn1, hn2, hn3⟩ := h5.nlen
    obtain ⟨hr1, hr2⟩ := h5.rlen
    rw [h3]
    simp only [Tre.val, e1, e2, e3, e4, e5, hn1, hn2, hn3, hr1, hr2]
theorem text_no (N : Nat) (s : ByteArray) (l : List Nat) (hs : Str s l) (hl : l.length ≤ 16384) (hN : stp l N = true) (hNl : N ≤ l.length) (hNb : ∀ j, j < N → stp l j = false) (h : ow l N = none ∨ ∃ er j, trd l N = .no er j) :
    ∃ (er : Int) (a : Nat), Why er ∧ a ≤ l.length ∧ ∀ W, Tab W → Calls Tryz.prog 11 #[.string s] W fun e w' => Below W.heap.size W w' ∧ e = .returned (.tuple #[.agg z5, dgv er a]) := by
  by_cases ho : ow l N = none
  · refine ⟨7, beg l N, .inr rfl, beg_le hs.lt N, fun W hW => (text3 N s l hs hl hN hNl hNb W hW).mono fun e w' h => ?_⟩
    obtain ⟨hb, ⟨h1, h2⟩ | ⟨er, j, h1, _⟩ | ⟨us', j', t, h1, _⟩⟩ := h
    · exact ⟨hb, h2⟩
    · exact absurd ho h1
    · exact absurd ho h1
  · obtain ⟨er, j, he⟩ : ∃ er j, trd l N = .no er j := by rcases h with h | h; exact absurd h ho; exact h
    refine ⟨er, beg l j, trd_er hs.lt hl hN hNl hNb ho he, beg_le hs.lt j, fun W hW => (text3 N s l hs hl hN hNl hNb W hW).mono fun e w' h => ?_⟩
    obtain ⟨hb, ⟨h1, h2⟩ | ⟨er', j', h1, h2, _, h3⟩ | ⟨us', j', t, h1, h2, _⟩⟩ := h
    · exact absurd h1 ho
    · rw [he] at h2; cases h2; exact ⟨hb, h3⟩
    · rw [he] at h2; cases h2
end Go.Proofs.YtphdplommmkncaaGreatDoor

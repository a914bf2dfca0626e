/- The ways that the search finds are the least ones: shorter ones first, of those as long the ones whose rules come first. Nothing here speaks of a program. -/
import Derived.Test.YtmfiedbnnonenaaL0
set_option linter.unusedSimpArgs false
set_option linter.unusedVariables false
namespace Go.Proofs.Ytmfiedbnnonenaa
/-- Of two rows as long: the one comes first. -/
def lx : List Nat → List Nat → Prop
  | a :: x, b :: y => a < b ∨ (a = b ∧ lx x y)
  | _, _ => False
theorem lx_trans : ∀ {x y z : List Nat}, lx x y → lx y z → lx x z
  | [], _, _, h, _ => by simp [lx] at h
  | _ :: _, [], _, h, _ => by simp [lx] at h
  | _ :: _, _ :: _, [], _, h => by simp [lx] at h
  | a :: x, b :: y, d :: z, h, h' => by
    unfold lx at *
    rcases h with h | ⟨rfl, h⟩ <;> rcases h' with h' | ⟨rfl, h'⟩
    · exact .inl (by omega)
    · exact .inl h
    · exact .inl h'
    · exact .inr ⟨rfl, lx_trans h h'⟩
theorem lx_irrefl : ∀ {x : List Nat}, ¬ lx x x
  | [], h => by simp [lx] at h
  | a :: x, h => by
    unfold lx at h
    rcases h with h | ⟨_, h⟩
    · omega
    · exact lx_irrefl h
theorem lx_app : ∀ {x y : List Nat} (u v : List Nat), lx x y → lx (x ++ u) (y ++ v)
  | [], _, _, _, h => by simp [lx] at h
  | _ :: _, [], _, _, h => by simp [lx] at h
  | a :: x, b :: y, u, v, h => by
    unfold lx at h
    simp only [List.cons_append]
    unfold lx
    rcases h with h | ⟨rfl, h⟩
    · exact .inl h
    · exact .inr ⟨rfl, lx_app u v h⟩
theorem lx_snoc : ∀ (x : List Nat) {a b : Nat}, a < b → lx (x ++ [a]) (x ++ [b])
  | [], a, b, h => by simp [lx, h]
  | d :: x, a, b, h => by
    simp only [List.cons_append]
    unfold lx
    exact .inr ⟨rfl, lx_snoc x h⟩
def slt (x y : List Nat) : Prop := x.length < y.length ∨ (x.length = y.length ∧ lx x y)
def sle (x y : List Nat) : Prop := x = y ∨ slt x y
theorem slt_trans {x y z : List Nat} (h : slt x y) (h' : slt y z) : slt x z := by
  unfold slt at *
  rcases h with h | ⟨h, h1⟩ <;> rcases h' with h' | ⟨h', h2⟩
  · exact .inl (by omega)
  · exact .inl (by omega)
  · exact .inl (by omega)
  · exact .inr ⟨by omega, lx_trans h1 h2⟩
theorem slt_irrefl {x : List Nat} : ¬ slt x x := by
  rintro (h | ⟨_, h⟩)
  · omega
  · exact lx_irrefl h
theorem slt_app {x y : List Nat} (a b : Nat) (h : slt x y) : slt (x ++ [a]) (y ++ [b]) := by
  unfold slt at *
  simp only [List.length_append, List.length_singleton]
  rcases h with h | ⟨h, h1⟩
  · exact .inl (by omega)
  · exact .inr ⟨by omega, lx_app _ _ h1⟩
theorem slt_snoc (x : List Nat) {a b : Nat} (h : a < b) : slt (x ++ [a]) (x ++ [b]) := .inr ⟨by simp, lx_snoc x h⟩
theorem sle_trans {x y z : List Nat} (h : sle x y) (h' : sle y z) : sle x z := by
  rcases h with rfl | h
  · exact h'
  · rcases h' with rfl | h'
    · exact .inr h
    · exact .inr (slt_trans h h')
theorem sle_app {x y : List Nat} (k : Nat) (h : sle x y) : sle (x ++ [k]) (y ++ [k]) := by
  rcases h with rfl | h
  · exact .inl rfl
  · exact .inr (slt_app k k h)
theorem sle_anti {x y : List Nat} (h : sle x y) (h' : sle y x) : x = y := by
  rcases h with h | h
  · exact h
  · rcases h' with h' | h'
    · exact h'.symm
    · exact absurd (slt_trans h h') slt_irrefl
theorem sle_tail {a : Nat} {x y : List Nat} (h : sle (a :: x) (a :: y)) : sle x y := by
  rcases h with h | h | ⟨h, h1⟩
  · exact .inl (List.cons.inj h).2
  · exact .inr (.inl (by simpa using h))
  · unfold lx at h1
    rcases h1 with h1 | ⟨_, h1⟩
    · omega
    · exact .inr (.inr ⟨by simpa using h, h1⟩)
theorem sle_len {x y : List Nat} (h : sle x y) : x.length ≤ y.length := by
  rcases h with rfl | h | ⟨h, _⟩
  · exact Nat.le_refl _
  · omega
  · omega
/-- A way from the first to one. -/
inductive Walk (c : Nat → List Nat) (i : Nat) : List Nat → Nat → Prop where
  | one {k : Nat} (h : k ∈ c i) : Walk c i [i, k] k
  | more {p : List Nat} {u k : Nat} (h : Walk c i p u) (hk : k ∈ c u) : Walk c i (p ++ [k]) k
theorem Walk.head {c : Nat → List Nat} {i x k : Nat} {p : List Nat} (hx : x ∈ c i) (h : Walk c x p k) : Walk c i (i :: p) k := by
  induction h with
  | one h => exact .more (p := [i, x]) (.one hx) h
  | more _ hk ih => exact .more ih hk
theorem Walk.inv {c : Nat → List Nat} {i k : Nat} {p : List Nat} (h : Walk c i p k) : (p = [i, k] ∧ k ∈ c i) ∨ ∃ x t, p = i :: x :: t ∧ x ∈ c i ∧ 1 ≤ t.length ∧ Walk c x (x :: t) k := by
  induction h with
  | one h => exact .inl ⟨rfl, h⟩
  | more h hk ih =>
    right
    rcases ih with ⟨rfl, h1⟩ | ⟨x, t, rfl, h1, h2, h3⟩
    · exact ⟨_, _, rfl, h1, by simp, .one hk⟩
    · exact ⟨x, _, rfl, h1, by simp, .more h3 hk⟩
theorem Walk.last {c : Nat → List Nat} {i k : Nat} {p : List Nat} (h : Walk c i p k) : p.getLastD 0 = k ∧ 2 ≤ p.length := by
  induction h with
  | one _ => exact ⟨rfl, by simp⟩
  | more _ _ ih => exact ⟨by simp, by simp; omega⟩
def lst (w : List Nat) : Nat := w.getLastD 0
theorem lst_snoc (w : List Nat) (k : Nat) : lst (w ++ [k]) = k := by simp [lst]
structure Wy (c : Nat → List Nat) (i : Nat) (s : Bf) (W : Nat → List Nat) (P Q : List (List Nat)) : Prop where
  q : Q.map lst = s.2.2
  srt : (P ++ Q).Pairwise slt
  one : [i] ∈ P ++ Q
  mem : ∀ w ∈ P ++ Q, w = [i] ∨ ∃ k, s.1.getD k false = true ∧ w = W k
  way : ∀ k, s.1.getD k false = true → W k ∈ P ++ Q ∧ ∃ w ∈ P, W k = w ++ [k] ∧ lst w = s.2.1.getD k 0 ∧ (s.2.1.getD k 0 = i → w = [i]) ∧ k ∈ c (s.2.1.getD k 0)
  done : ∀ w ∈ P, ∀ j ∈ c (lst w), s.1.getD j false = true ∧ ∃ w', sle w' w ∧ W j = w' ++ [j]
structure Wz (c : Nat → List Nat) (i : Nat) (s : Bf) (W : Nat → List Nat) (P Q : List (List Nat)) (w : List Nat) (pre : List Nat) : Prop where
  q : Q.map lst = s.2.2
  srt : (P ++ w :: Q).Pairwise slt
  one : [i] ∈ P ++ w :: Q
  mem : ∀ x ∈ P ++ w :: Q, x = [i] ∨ ∃ k, s.1.getD k false = true ∧ x = W k
  way : ∀ k, s.1.getD k false = true → W k ∈ P ++ w :: Q ∧ ∃ x ∈ P ++ [w], W k = x ++ [k] ∧ lst x = s.2.1.getD k 0 ∧ (s.2.1.getD k 0 = i → x = [i]) ∧ k ∈ c (s.2.1.getD k 0)
  done : ∀ x ∈ P, ∀ j ∈ c (lst x), s.1.getD j false = true ∧ ∃ w', sle w' x ∧ W j = w' ++ [j]
  seen : ∀ j ∈ pre, s.1.getD j false = true ∧ ∃ w', sle w' w ∧ W j = w' ++ [j]
  new : ∀ k, s.1.getD k false = true → W k = w ++ [k] → k ∈ pre
theorem aheadset {l : List Nat} {k j a : Nat} (hk : k < l.length) : (l.set k a).getD j 0 = if j = k then a else l.getD j 0 := by
  simp only [List.getD, List.getElem?_set]
  by_cases e : k = j
  · subst e; simp [hk]
  · rw [if_neg e, if_neg (fun h => e h.symm)]
theorem Wz.before {c : Nat → List Nat} {i : Nat} {s : Bf} {W : Nat → List Nat} {P Q : List (List Nat)} {w : List Nat} {pre : List Nat} (h : Wz c i s W P Q w pre) {x : List Nat} (hx : x ∈ P ++ [w]) : sle x w := by
  rcases List.mem_append.1 hx with hx | hx
  · exact .inr ((List.pairwise_append.1 h.srt).2.2 x hx w (List.mem_cons_self ..))
  · exact .inl (by simpa using hx)
theorem Wz.long {c : Nat → List Nat} {i : Nat} {s : Bf} {W : Nat → List Nat} {P Q : List (List Nat)} {w : List Nat} {pre : List Nat} (h : Wz c i s W P Q w pre) : w = [i] ∨ (1 ≤ w.length ∧ w ≠ [i] ∧ [i] ∈ P) := by
  by_cases e : w = [i]
  · exact .inl e
  · right
    have hw1 : 1 ≤ w.length := by
      rcases h.mem w (by simp) with h1 | ⟨k, hk, rfl⟩
      · exact absurd h1 e
      · obtain ⟨_, x, _, e2, _⟩ := h.way k hk
        rw [e2]; simp
    refine ⟨hw1, e, ?_⟩
    rcases List.mem_append.1 h.one with h1 | h1
    · exact h1
    · rcases List.mem_cons.1 h1 with h1 | h1
      · exact absurd h1.symm e
      · exfalso
        have hs := (List.pairwise_cons.1 (List.pairwise_append.1 h.srt).2.1).1 [i] h1
        rcases h.mem w (by simp) with h2 | ⟨k, hk, h2⟩
        · exact e h2
        · obtain ⟨_, x, hx, e2, _⟩ := h.way k hk
          have hx1 : x ≠ [] := by
            intro ex
            have := h.before hx
            rw [ex] at e2
            rcases h.mem x (by
              rcases List.mem_append.1 hx with hx | hx
              · exact List.mem_append_left _ hx
              · rw [List.mem_singleton.1 hx]; simp) with h3 | ⟨k', hk', h3⟩
            · rw [ex] at h3; cases h3
            · obtain ⟨_, x', _, e4, _⟩ := h.way k' hk'
              rw [ex, e4] at h3
              simp at h3
          have : 2 ≤ w.length := by
            rw [h2, e2]
            have := List.length_pos_iff.2 hx1
            simp; omega
          rcases hs with hs | ⟨hs, _⟩
          · rw [List.length_singleton] at hs; omega
          · rw [List.length_singleton] at hs; omega
theorem visit_way {c : Nat → List Nat} {i j : Nat} {s : Bf} {W : Nat → List Nat} {P Q : List (List Nat)} {w : List Nat} {pre : List Nat} (hs : Sound s) (h32 : j < 32) (hj : j ∈ c (lst w)) (hp : ∀ k ∈ pre, k < j) (h : Wz c i s W P Q w pre) : ∃ W' Q', Wz c i (visit (lst w) s j) W' P Q' w (pre ++ [j]) := by
  unfold visit
  split
  · rename_i hm
    refine ⟨W, Q, h.q, h.srt, h.one, h.mem, h.way, h.done, fun k hk => ?_, fun k hk e => List.mem_append_left _ (h.new k hk e)⟩
    rcases List.mem_append.1 hk with hk | hk
    · exact h.seen k hk
    · obtain rfl : k = j := by simpa using hk
      obtain ⟨_, x, hx, e, _⟩ := h.way k hm
      exact ⟨hm, x, h.before hx, e⟩
  · rename_i hn
    have hf : s.1.getD j false = false := by simpa using hn
    have hset := fun k => met_set (m := s.1) (k := j) (j := k) (by rw [hs.met]; exact h32)
    have hne : ∀ k, s.1.getD k false = true → k ≠ j := fun k hk e => by rw [e, hf] at hk; cases hk
    have hah := fun k => aheadset (l := s.2.1) (k := j) (j := k) (a := lst w) (by rw [hs.ahead]; exact h32)
    have hold : ∀ k, s.1.getD k false = true → (if k = j then w ++ [j] else W k) = W k := fun k hk => if_neg (hne k hk)
    have key : ∀ k, (s.1.set j true).getD k false = true → k = j ∨ s.1.getD k false = true := fun k hk => (hset k).1 hk
    have hlong := h.long
    refine ⟨fun k => if k = j then w ++ [j] else W k, Q ++ [w ++ [j]], ?_, ?_, ?_, ?_, ?_, ?_, ?_, ?_⟩
    · show (Q ++ [w ++ [j]]).map lst = s.2.2 ++ [j]
      rw [List.map_append, h.q, List.map_singleton, lst_snoc]
    · rw [show P ++ w :: (Q ++ [w ++ [j]]) = (P ++ w :: Q) ++ [w ++ [j]] by simp]
      refine List.pairwise_append.2 ⟨h.srt, List.pairwise_singleton _ _, fun x hx y hy => ?_⟩
      obtain rfl : y = w ++ [j] := by simpa using hy
      rcases h.mem x hx with rfl | ⟨k, hk, rfl⟩
      · refine .inl ?_
        rcases hlong with e | ⟨e, _⟩
        · rw [e]; simp
        · simp; omega
      · obtain ⟨_, x, hx2, e, _⟩ := h.way k hk
        rcases List.mem_append.1 hx2 with hx3 | hx3
        · rw [e]
          exact slt_app _ _ ((List.pairwise_append.1 h.srt).2.2 x hx3 w (List.mem_cons_self ..))
        · obtain rfl : x = w := by simpa using hx3
          rw [e]
          exact slt_snoc _ (hp k (h.new k hk e))
    · rw [show P ++ w :: (Q ++ [w ++ [j]]) = (P ++ w :: Q) ++ [w ++ [j]] by simp]
      exact List.mem_append_left _ h.one
    · intro x hx
      rw [show P ++ w :: (Q ++ [w ++ [j]]) = (P ++ w :: Q) ++ [w ++ [j]] by simp] at hx
      rcases List.mem_append.1 hx with hx | hx
      · rcases h.mem x hx with h1 | ⟨k, hk, h1⟩
        · exact .inl h1
        · exact .inr ⟨k, (hset k).2 (.inr hk), by rw [h1]; exact (hold k hk).symm⟩
      · exact .inr ⟨j, (hset j).2 (.inl rfl), by simpa using hx⟩
    · intro k hk
      show (if k = j then w ++ [j] else W k) ∈ P ++ w :: (Q ++ [w ++ [j]]) ∧ ∃ x ∈ P ++ [w], (if k = j then w ++ [j] else W k) = x ++ [k] ∧ lst x = (s.2.1.set j (lst w)).getD k 0 ∧ ((s.2.1.set j (lst w)).getD k 0 = i → x = [i]) ∧ k ∈ c ((s.2.1.set j (lst w)).getD k 0)
      rw [show P ++ w :: (Q ++ [w ++ [j]]) = (P ++ w :: Q) ++ [w ++ [j]] by simp, hah k]
      by_cases e : k = j
      · subst e
        rw [if_pos rfl, if_pos rfl]
        refine ⟨by simp, w, by simp, rfl, rfl, fun hi => ?_, hj⟩
        rcases hlong with e | ⟨_, _, e⟩
        · exact e
        · have := (h.done [i] e k (by rw [show lst [i] = i from rfl, ← hi]; exact hj)).1
          rw [hf] at this; cases this
      · rw [if_neg e, if_neg e]
        have hk2 := (key k hk).resolve_left e
        obtain ⟨h1, x, hx, h2⟩ := h.way k hk2
        exact ⟨List.mem_append_left _ h1, x, hx, h2⟩
    · intro x hx k hk
      obtain ⟨h1, w', h2, h3⟩ := h.done x hx k hk
      exact ⟨(hset k).2 (.inr h1), w', h2, by rw [← h3]; exact hold k h1⟩
    · intro k hk
      rcases List.mem_append.1 hk with hk | hk
      · obtain ⟨h1, w', h2, h3⟩ := h.seen k hk
        exact ⟨(hset k).2 (.inr h1), w', h2, by rw [← h3]; exact hold k h1⟩
      · obtain rfl : k = j := by simpa using hk
        exact ⟨(hset k).2 (.inl rfl), w, .inl rfl, if_pos rfl⟩
    · intro k hk e
      by_cases ek : k = j
      · rw [ek]; simp
      · have hk2 := (key k hk).resolve_left ek
        have e2 : (if k = j then w ++ [j] else W k) = w ++ [k] := e
        rw [if_neg ek] at e2
        exact List.mem_append_left _ (h.new k hk2 e2)
theorem visits_way {c : Nat → List Nat} {i : Nat} {P : List (List Nat)} {w : List Nat} (hc : ∀ a k, k ∈ c a → k < 32) : ∀ (l : List Nat) (s : Bf) (W : Nat → List Nat) (Q : List (List Nat)) (pre : List Nat), Sound s → c (lst w) = pre ++ l → (pre ++ l).Pairwise (· < ·) → Wz c i s W P Q w pre → ∃ W' Q', Wz c i (l.foldl (visit (lst w)) s) W' P Q' w (c (lst w))
  | [], s, W, Q, pre, hs, e, _, h => ⟨W, Q, by rw [e, List.append_nil]; exact h⟩
  | j :: l, s, W, Q, pre, hs, e, hp, h => by
    have hj : j ∈ c (lst w) := by rw [e]; simp
    obtain ⟨W', Q', h1⟩ := visit_way hs (hc _ _ hj) hj (fun k hk => (List.pairwise_append.1 hp).2.2 k hk j (List.mem_cons_self ..)) h
    exact visits_way hc l (visit (lst w) s j) W' Q' (pre ++ [j]) (visit_sound hs) (by rw [e]; simp) (by simpa using hp) h1
theorem pop_way {c : Nat → List Nat} {i : Nat} (hc : ∀ a k, k ∈ c a → k < 32) (hr : ∀ a, (c a).Pairwise (· < ·)) {s : Bf} (hs : Sound s) (h : ∃ W P Q, Wy c i s W P Q) : ∃ W P Q, Wy c i (popB c s) W P Q := by
  obtain ⟨W, P, Q, h⟩ := h
  cases hq : s.2.2 with
  | nil => rw [pop_nil hq]; exact ⟨W, P, Q, h⟩
  | cons a q =>
    rw [pop_cons hq]
    have hQ := h.q
    rw [hq] at hQ
    cases Q with
    | nil => simp at hQ
    | cons w Q =>
      simp only [List.map_cons, List.cons.injEq] at hQ
      obtain ⟨rfl, hQ⟩ := hQ
      have hz : Wz c i (s.1, s.2.1, q) W P Q w [] := ⟨hQ, h.srt, h.one, h.mem, fun k hk => by
          obtain ⟨h1, x, hx, h2⟩ := h.way k hk
          exact ⟨h1, x, List.mem_append_left _ hx, h2⟩, h.done, fun j hj => by simp at hj, fun k hk e => by
          obtain ⟨_, x, hx, h2, _⟩ := h.way k hk
          rw [h2] at e
          have e2 := (List.append_inj' e rfl).1
          subst e2
          exact absurd ((List.pairwise_append.1 h.srt).2.2 x hx x (List.mem_cons_self ..)) slt_irrefl⟩
      obtain ⟨W', Q', h1⟩ := visits_way hc (c (lst w)) (s.1, s.2.1, q) W Q [] ⟨hs.met, hs.ahead⟩ rfl (by simpa using hr _) hz
      have e : P ++ w :: Q' = (P ++ [w]) ++ Q' := by simp
      refine ⟨W', P ++ [w], Q', h1.q, by rw [← e]; exact h1.srt, by rw [← e]; exact h1.one, by rw [← e]; exact h1.mem, fun k hk => ?_, fun x hx => ?_⟩
      · rw [← e]; exact h1.way k hk
      · rcases List.mem_append.1 hx with hx | hx
        · exact h1.done x hx
        · obtain rfl : x = w := by simpa using hx
          exact h1.seen
theorem run_way {c : Nat → List Nat} {i : Nat} (hc : ∀ a k, k ∈ c a → k < 32) (hr : ∀ a, (c a).Pairwise (· < ·)) : ∀ (n : Nat) {s : Bf}, Sound s → (∃ W P Q, Wy c i s W P Q) → ∃ W P Q, Wy c i (runB c n s) W P Q
  | 0, _, _, h => h
  | n + 1, _, hs, h => run_way hc hr n (pop_sound hc hs).1 (pop_way hc hr hs h)
theorem start_way (c : Nat → List Nat) (i : Nat) : ∃ W P Q, Wy c i (startB i) W P Q := by
  have hf : ∀ k, (startB i).1.getD k false ≠ true := fun k h => by
    simp only [startB, List.getD, List.getElem?_replicate] at h
    split at h <;> simp at h
  exact ⟨fun _ => [], [], [[i]], rfl, by simp, by simp, fun w hw => .inl (by simpa using hw), fun k h => (hf k h).elim, fun w hw => by simp at hw⟩
/-- What is found: of each that was met its way, the least one. -/
theorem bfs_way {c : Nat → List Nat} (hc : ∀ a k, k ∈ c a → k < 32) (hr : ∀ a, (c a).Pairwise (· < ·)) (i : Nat) : ∃ W : Nat → List Nat,
    (∀ k, (bfs c i).1.getD k false = true → W k = (if (bfs c i).2.1.getD k 0 = i then [i] else W ((bfs c i).2.1.getD k 0)) ++ [k] ∧ Walk c i (W k) k) ∧ ∀ p k, Walk c i p k → (bfs c i).1.getD k false = true ∧ sle (W k) p := by
  obtain ⟨W, P, Q, h⟩ := run_way hc hr fuelB (start_sound i) (start_way c i)
  have hd := bfs_done hc i
  change Wy c i (bfs c i) W P Q at h
  have hQ : Q = [] := by
    have := h.q
    rw [hd] at this
    exact List.map_eq_nil_iff.1 this
  subst hQ
  have hone : [i] ∈ P := by simpa using h.one
  have hstep : ∀ k, (bfs c i).1.getD k false = true → ∃ w, W k = w ++ [k] ∧ k ∈ c ((bfs c i).2.1.getD k 0) ∧ w = (if (bfs c i).2.1.getD k 0 = i then [i] else W ((bfs c i).2.1.getD k 0)) ∧ ((bfs c i).2.1.getD k 0 ≠ i → (bfs c i).1.getD ((bfs c i).2.1.getD k 0) false = true) := fun k hk => by
    obtain ⟨_, w, hw, h1, h2, h3, h4⟩ := h.way k hk
    refine ⟨w, h1, h4, ?_⟩
    by_cases e : (bfs c i).2.1.getD k 0 = i
    · rw [if_pos e]; exact ⟨h3 e, fun h => (h e).elim⟩
    · rw [if_neg e]
      rcases h.mem w (by simpa using hw) with h5 | ⟨k', hk', h5⟩
      · rw [h5] at h2
        exact absurd h2.symm e
      · obtain ⟨_, w', _, h6, _⟩ := h.way k' hk'
        have : lst w = k' := by rw [h5, h6]; exact lst_snoc _ _
        have e2 : (bfs c i).2.1.getD k 0 = k' := by rw [← h2, this]
        rw [e2]
        exact ⟨h5, fun _ => hk'⟩
  have hwalk : ∀ (n k : Nat), (W k).length ≤ n → (bfs c i).1.getD k false = true → Walk c i (W k) k := by
    intro n
    induction n with
    | zero =>
      intro k hn hk
      obtain ⟨w, h1, _⟩ := hstep k hk
      rw [h1] at hn
      simp at hn
    | succ n ih =>
      intro k hn hk
      obtain ⟨w, h1, h2, h3, h4⟩ := hstep k hk
      rw [h1]
      by_cases e : (bfs c i).2.1.getD k 0 = i
      · rw [if_pos e] at h3
        rw [h3]
        rw [e] at h2
        exact .one h2
      · rw [if_neg e] at h3
        rw [h1] at hn
        rw [h3]
        exact .more (ih _ (by rw [← h3]; simp at hn; omega) (h4 e)) h2
  refine ⟨W, fun k hk => ?_, fun p k hp => ?_⟩
  · obtain ⟨w, h1, h2, h3, h4⟩ := hstep k hk
    exact ⟨by rw [← h3]; exact h1, hwalk _ k (Nat.le_refl _) hk⟩
  · induction hp with
    | one hk =>
      obtain ⟨h1, w', h2, h3⟩ := h.done [i] hone _ (show _ ∈ c (lst [i]) from hk)
      exact ⟨h1, by rw [h3]; exact sle_app _ h2⟩
    | @more p u k _ hk ih =>
      obtain ⟨h1, h2⟩ := ih
      obtain ⟨h3, w, _, h4, _⟩ := h.way _ h1
      have hl : lst (W u) = u := by rw [h4]; exact lst_snoc _ _
      obtain ⟨h5, w', h6, h7⟩ := h.done _ (by simpa using h3) _ (by rw [hl]; exact hk)
      exact ⟨h5, by rw [h7]; exact sle_app _ (sle_trans h6 h2)⟩
end Go.Proofs.Ytmfiedbnnonenaa

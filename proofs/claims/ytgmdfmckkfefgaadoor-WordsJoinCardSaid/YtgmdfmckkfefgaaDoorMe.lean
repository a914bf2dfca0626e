/- Plain facts of layer 7: two texts with a gap between them. -/
import Derived.Test.YtgmdfmckkfefgaaDoorMd
namespace Go.Proofs.YtgmdfmckkfefgaaDoor
/-- What may stand between two texts. -/
structure Gap (x : List Nat) : Prop where
  lt : ∀ y ∈ x, y < 256
  hd : ∀ c r, x = c :: r → c = 10 ∨ c = 32
  ne : x ≠ []
  len : x.length ≤ 5
  skip : ∀ (g : Bool) (b : List Nat), sk g (x ++ b) = x.length + sk false b
theorem gap0 : Gap [10] := ⟨by simp, fun c r e => by cases e; exact .inl rfl, by simp, by simp, fun g b => by cases g <;> simp [sk, bln] <;> omega⟩
theorem gap1 : Gap [10, 32, 9, 13] := ⟨by simp, fun c r e => by cases e; exact .inl rfl, by simp, by simp, fun g b => by cases g <;> simp [sk, bln] <;> omega⟩
theorem gap2 : Gap [10, 35, 120, 10] := ⟨by simp, fun c r e => by cases e; exact .inl rfl, by simp, by simp, fun g b => by cases g <;> simp [sk, bln] <;> omega⟩
theorem gap3 : Gap [32, 10, 35, 10, 10] := ⟨by simp, fun c r e => by cases e; exact .inr rfl, by simp, by simp, fun g b => by cases g <;> simp [sk, bln] <;> omega⟩
section
variable {a x b : List Nat} {N : Nat}
theorem Gap.hd2 (hx : Gap x) : ∀ c r, x ++ b = c :: r → c = 10 ∨ c = 32 := by
  intro c r e
  cases x with
  | nil => exact absurd rfl hx.ne
  | cons d t => cases e; exact hx.hd _ _ rfl
theorem lt_app {p q : List Nat} (hp : ∀ y ∈ p, y < 256) (hq : ∀ y ∈ q, y < 256) : ∀ y ∈ p ++ q, y < 256 := fun y hy => by
  rcases List.mem_append.1 hy with h | h
  · exact hp y h
  · exact hq y h
theorem join_at (ha : ∀ y ∈ a, y < 256) (hb : ∀ y ∈ b, y < 256) (hx : Gap x) {k : Nat} (hp : pos (a ++ (x ++ b)) k = pos a k) (h : stp a k = false) : beg (a ++ (x ++ b)) k = beg a k ∧ ow (a ++ (x ++ b)) k = ow a k := by
  obtain ⟨y, h1, h2, _, _⟩ := pos_more ha h
  have h3 := beg_le ha k
  have h4 : beg a k ≠ a.length := fun e => h2 ((ow_end ha h1).1.2 e)
  have h5 := pos_le ha k
  have e1 : beg (a ++ (x ++ b)) k = beg a k := by
    unfold beg at h3 h4 ⊢
    rw [hp, List.drop_append_of_le_length h5, (sk_app (a.drop (pos a k)) (x ++ b) false).1 (by rw [List.length_drop]; omega)]
  refine ⟨e1, ?_⟩
  have h6 : wd (a.drop (beg a k)) = some y := h1
  rw [h1]
  unfold ow
  rw [e1, List.drop_append_of_le_length h3]
  exact wd_app (drop_lt ha _) (lt_app hx.lt hb) hx.hd2 (by intro e; rw [List.drop_eq_nil_iff] at e; omega) h6
theorem join_pos (ha : ∀ y ∈ a, y < 256) (hb : ∀ y ∈ b, y < 256) (hx : Gap x) (hNb : ∀ j, j < N → stp a j = false) : ∀ k, k ≤ N → pos (a ++ (x ++ b)) k = pos a k
  | 0, _ => rfl
  | k + 1, hk => by
    obtain ⟨e1, e2⟩ := join_at ha hb hx (join_pos ha hb hx hNb k (by omega)) (hNb k (by omega))
    obtain ⟨y, h1, _⟩ := pos_more ha (hNb k (by omega))
    rw [pos_some h1, pos_some (e2.trans h1), e1]
/-- The words of the text ahead of the gap. -/
theorem join_left (ha : ∀ y ∈ a, y < 256) (hb : ∀ y ∈ b, y < 256) (hx : Gap x) (hNb : ∀ j, j < N → stp a j = false) {k : Nat} (hk : k < N) : beg (a ++ (x ++ b)) k = beg a k ∧ ow (a ++ (x ++ b)) k = ow a k :=
  join_at ha hb hx (join_pos ha hb hx hNb k (by omega)) (hNb k hk)
theorem drop_far (q : Nat) : (a ++ (x ++ b)).drop (a.length + x.length + q) = b.drop q := by
  have e : a.length + x.length = (a ++ x).length := by simp
  rw [← List.append_assoc, e, ← List.drop_drop, List.drop_left]
/-- The words of the text behind the gap. -/
theorem join_right (ha : ∀ y ∈ a, y < 256) (hb : ∀ y ∈ b, y < 256) (hx : Gap x) (hNb : ∀ j, j < N → stp a j = false) {e : Wd} (hN : ow a N = some e) (hk : e.kind = 1) :
    ∀ j, beg (a ++ (x ++ b)) (N + j) = a.length + x.length + beg b j ∧ ow (a ++ (x ++ b)) (N + j) = ow b j
  | 0 => by
    have h1 := join_pos ha hb hx hNb N (Nat.le_refl _)
    have h2 := (ow_end ha hN).1.1 hk
    have h5 := pos_le ha N
    have e1 : beg (a ++ (x ++ b)) N = a.length + x.length + beg b 0 := by
      unfold beg at h2 ⊢
      rw [h1, List.drop_append_of_le_length h5]
      obtain ⟨g, hg⟩ := (sk_app (a.drop (pos a N)) (x ++ b) false).2 (by rw [List.length_drop]; omega)
      rw [hg, hx.skip, List.length_drop]
      show _ = a.length + x.length + (0 + sk false (b.drop 0))
      rw [List.drop_zero]
      omega
    refine ⟨e1, ?_⟩
    unfold ow
    rw [Nat.add_zero, e1, drop_far]
  | j + 1 => by
    obtain ⟨e1, e2⟩ := join_right ha hb hx hNb hN hk j
    have e3 : pos (a ++ (x ++ b)) (N + j + 1) = a.length + x.length + pos b (j + 1) := by
      cases h : ow b j with
      | none => rw [pos_none h, pos_none (e2.trans h), e1]
      | some y => rw [pos_some h, pos_some (e2.trans h), e1]; omega
    have e4 : beg (a ++ (x ++ b)) (N + j + 1) = a.length + x.length + beg b (j + 1) := by
      unfold beg
      rw [e3, drop_far]
      omega
    refine ⟨e4, ?_⟩
    unfold ow
    rw [show N + (j + 1) = N + j + 1 from rfl, e4, drop_far]
theorem stp_ow {p q : List Nat} {i j : Nat} (h : ow p i = ow q j) : stp p i = stp q j := by unfold stp; rw [h]
/-- Where the words of both together end. -/
theorem join_ends (ha : ∀ y ∈ a, y < 256) (hb : ∀ y ∈ b, y < 256) (hx : Gap x) (hNb : ∀ j, j < N → stp a j = false) {e : Wd} (hN : ow a N = some e) (hk : e.kind = 1) {M : Nat} (hM : stp b M = true) (hMb : ∀ j, j < M → stp b j = false) :
    stp (a ++ (x ++ b)) (N + M) = true ∧ ∀ j, j < N + M → stp (a ++ (x ++ b)) j = false := by
  refine ⟨(stp_ow (join_right ha hb hx hNb hN hk M).2).trans hM, fun j hj => ?_⟩
  by_cases h : j < N
  · exact (stp_ow (join_left ha hb hx hNb h).2).trans (hNb j h)
  · obtain ⟨i, rfl⟩ : ∃ i, j = N + i := ⟨j - N, by omega⟩
    exact (stp_ow (join_right ha hb hx hNb hN hk i).2).trans (hMb i (by omega))
end
end Go.Proofs.YtgmdfmckkfefgaaDoor

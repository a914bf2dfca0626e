/- The nodes at a node's own place, plainly; whom a node calls there; whom a rule goes to. Nothing here speaks of a program. -/
import Derived.Test.YtmlaepbmdfmgbaaB1
set_option linter.unusedSimpArgs false
set_option linter.unusedVariables false
namespace Go.Proofs.Ytmlaepbmdfmgbaa
/-- Kids up to the first that may not match nothing. -/
def upTo (may : Int → Bool) : List Int → List Int
  | [] => []
  | k :: r => k :: (if may k then upTo may r else [])
theorem upTo_all {may : Int → Bool} : ∀ {l : List Int}, (∀ k ∈ l, may k = true) → upTo may l = l
  | [], _ => rfl
  | k :: r, h => by
    unfold upTo
    rw [if_pos (h k (List.mem_cons_self ..)), upTo_all fun j hj => h j (List.mem_cons_of_mem _ hj)]
theorem upTo_at {may : Int → Bool} : ∀ (l : List Int) (j : Nat), j < l.length → (∀ i, i < j → may (l.getD i 0) = true) → may (l.getD j 0) = false → upTo may l = l.take (j + 1)
  | [], j, h, _, _ => by simp at h
  | k :: r, 0, _, _, h => by
    have h2 : may k = false := h
    simp [upTo, h2]
  | k :: r, j + 1, h1, h2, h3 => by
    have hk : may k = true := h2 0 (by omega)
    unfold upTo
    rw [if_pos hk, upTo_at r j (by simpa using h1) (fun i hi => h2 (i + 1) (by omega)) h3]
    rfl
theorem upTo_sub {may : Int → Bool} : ∀ (l : List Int), (upTo may l).Sublist l
  | [] => List.Sublist.slnil
  | k :: r => by
    unfold upTo
    split
    · exact (upTo_sub r).cons_cons k
    · exact (List.nil_sublist r).cons_cons k
/-- The kids of a node that stand at its place. -/
def fsts (x : Nd) (may : Int → Bool) : List Int := if x.kind = 6 then upTo may x.kids else x.kids
theorem fsts_sub (x : Nd) (may : Int → Bool) : (fsts x may).Sublist x.kids := by
  unfold fsts
  split
  · exact upTo_sub _
  · exact List.Sublist.refl _
theorem fsts_mem {x : Nd} {may : Int → Bool} {k : Int} (h : k ∈ fsts x may) : k ∈ x.kids := (fsts_sub x may).subset h
def ownF (l : List Nd) (may : Int → Bool) : Nat → Int → List Int
  | 0, _ => []
  | f + 1, n => n :: (fsts (l.getD n.toNat Nd.zero) may).flatMap (ownF l may f)
/-- The nodes at a node's own place. -/
def ownN (l : List Nd) (may : Int → Bool) (n : Int) : List Int := ownF l may (l.length - n.toNat) n
theorem flatMap_same {f g : Int → List Int} : ∀ {l : List Int}, (∀ k ∈ l, f k = g k) → l.flatMap f = l.flatMap g
  | [], _ => rfl
  | a :: l, h => by
    simp only [List.flatMap_cons]
    rw [h a (List.mem_cons_self ..), flatMap_same fun k hk => h k (List.mem_cons_of_mem _ hk)]
theorem ownF_fuel {l : List Nd} (hl : KidsUp l) (may : Int → Bool) : ∀ (f f' : Nat) (n : Int), 0 ≤ n → n < l.length → (l.length : Int) - n ≤ f → (l.length : Int) - n ≤ f' → ownF l may f n = ownF l may f' n
  | 0, f', n, h0, h1, h2, _ => by omega
  | f + 1, 0, n, h0, h1, _, h2 => by omega
  | f + 1, f' + 1, n, h0, h1, h2, h3 => by
    unfold ownF
    rw [flatMap_same fun k hk => ?_]
    have := hl n.toNat (by omega) k (fsts_mem hk)
    exact ownF_fuel hl may f f' k (by omega) (by omega) (by omega) (by omega)
theorem ownN_eq {l : List Nd} (hl : KidsUp l) (may : Int → Bool) {n : Int} (h0 : 0 ≤ n) (h1 : n < l.length) : ownN l may n = n :: (fsts (l.getD n.toNat Nd.zero) may).flatMap (ownN l may) := by
  unfold ownN
  obtain ⟨f, ef⟩ : ∃ f, l.length - n.toNat = f + 1 := ⟨l.length - n.toNat - 1, by omega⟩
  rw [ef]
  show n :: _ = _
  rw [flatMap_same fun k hk => ?_]
  have := hl n.toNat (by omega) k (fsts_mem hk)
  exact ownF_fuel hl may _ _ k (by omega) (by omega) (by omega) (by omega)
/-- What stands at a node's own place lies in it, and rises. -/
structure Rises (a : List Int) (lo hi : Int) : Prop where
  each : ∀ k ∈ a, lo ≤ k ∧ k < hi
  rise : a.Pairwise (· < ·)
theorem Rises.app {a b : List Int} {lo mid hi : Int} (h : Rises a lo mid) (k : Rises b mid hi) (h1 : lo ≤ mid) (h2 : mid ≤ hi) : Rises (a ++ b) lo hi := by
  refine ⟨fun x hx => ?_, List.pairwise_append.2 ⟨h.rise, k.rise, fun x hx y hy => ?_⟩⟩
  · rcases List.mem_append.1 hx with hx | hx
    · have := h.each x hx; omega
    · have := k.each x hx; omega
  · have := h.each x hx; have := k.each y hy; omega
theorem climb_rises {len : Nat} {ms : Nat → Meas} {f : Int → List Int} (n0 : Nat) (hs : ∀ m : Nat, n0 ≤ m → m < len → 1 ≤ (ms m).1 ∧ 1 ≤ (ms m).2 ∧ m + (ms m).1 ≤ len) (hf : ∀ m : Nat, n0 ≤ m → m < len → Rises (f m) m (m + (ms m).1)) :
    ∀ (r : List Int) (next high to hh : Int), (n0 : Int) ≤ next → climb len ms r next high = some (to, hh) → Rises (r.flatMap f) next to ∧ next ≤ to
  | [], next, high, to, hh, _, h => by
    simp [climb] at h
    obtain ⟨rfl, _⟩ := h
    exact ⟨⟨fun k hk => by simp at hk, by simp⟩, by omega⟩
  | k :: r, next, high, to, hh, hn, h => by
    unfold climb at h
    split at h
    · rename_i hk
      obtain ⟨rfl, hk2⟩ := hk
      obtain ⟨a, ha⟩ : ∃ a : Nat, k = a := ⟨k.toNat, by omega⟩
      subst ha
      have h1 := hs a (by omega) (by omega)
      rw [Int.toNat_natCast] at h
      obtain ⟨h2, h3⟩ := climb_rises n0 hs hf r _ _ to hh (by omega) h
      have h4 := hf a (by omega) (by omega)
      exact ⟨by rw [List.flatMap_cons]; exact h4.app h2 (by omega) h3, by omega⟩
    · cases h
theorem flatMap_sub {f : Int → List Int} {a b : List Int} (h : a.Sublist b) : (a.flatMap f).Sublist (b.flatMap f) := by
  induction h with
  | slnil => exact List.Sublist.refl _
  | cons k _ ih => rw [List.flatMap_cons]; exact ih.trans (List.sublist_append_right _ _)
  | cons_cons k _ ih => rw [List.flatMap_cons, List.flatMap_cons]; exact (List.Sublist.refl _).append ih
theorem own_rises {l : List Nd} {ms : Nat → Meas} (h : Measured l ms 0) (may : Int → Bool) : ∀ (d n : Nat), n < l.length → l.length - n ≤ d → Rises (ownN l may n) n (n + (ms n).1)
  | 0, n, h1, hd => by omega
  | d + 1, n, h1, hd => by
    have hl := h.kidsUp
    obtain ⟨s1, _, s3, hc⟩ := h n (by omega) h1
    rw [ownN_eq hl may (by omega) (by omega), Int.toNat_natCast]
    have hc2 := climb_rises (f := ownN l may) (n + 1) (fun m hm hml => by have := h m (by omega) hml; exact ⟨this.1, this.2.1, this.2.2.1⟩) (fun m hm hml => own_rises h may d m hml (by omega)) _ _ _ _ _ (by omega) hc
    have hsub := flatMap_sub (f := ownN l may) (fsts_sub (l.getD n Nd.zero) may)
    have hr : Rises ((fsts (l.getD n Nd.zero) may).flatMap (ownN l may)) ((n : Int) + 1) (n + (ms n).1) := ⟨fun k hk => hc2.1.each k (hsub.subset hk), hc2.1.rise.sublist hsub⟩
    refine ⟨fun k hk => ?_, List.pairwise_cons.2 ⟨fun k hk => ?_, hr.rise⟩⟩
    · rcases List.mem_cons.1 hk with rfl | hk
      · omega
      · have := hr.each k hk; omega
    · have := hr.each k hk; omega
/-- The nodes at the own place of n, one by one: it; of each such node those of its kids. -/
inductive AtOwn (l : List Nd) (may : Int → Bool) (n : Int) : Int → Prop where
  | here : AtOwn l may n n
  | kid {m k : Int} (h : AtOwn l may n m) (hk : k ∈ fsts (l.getD m.toNat Nd.zero) may) : AtOwn l may n k
theorem AtOwn.head {l : List Nd} {may : Int → Bool} {n k m : Int} (hk : k ∈ fsts (l.getD n.toNat Nd.zero) may) (h : AtOwn l may k m) : AtOwn l may n m := by
  induction h with
  | here => exact .kid .here hk
  | kid _ h2 ih => exact .kid ih h2
theorem own_mem {l : List Nd} (hl : KidsUp l) (may : Int → Bool) : ∀ (d : Nat) (n : Int), 0 ≤ n → n < l.length → (l.length : Int) - n ≤ d → ∀ m, m ∈ ownN l may n → AtOwn l may n m
  | 0, n, h0, h1, hd, m, _ => by omega
  | d + 1, n, h0, h1, hd, m, hm => by
    rw [ownN_eq hl may h0 h1] at hm
    rcases List.mem_cons.1 hm with rfl | hm
    · exact .here
    · obtain ⟨k, hk, hm⟩ := List.mem_flatMap.1 hm
      have := hl n.toNat (by omega) k (fsts_mem hk)
      exact AtOwn.head hk (own_mem hl may d k (by omega) (by omega) (by omega) m hm)
theorem own_closed {l : List Nd} (hl : KidsUp l) (may : Int → Bool) : ∀ (d : Nat) (n : Int), 0 ≤ n → n < l.length → (l.length : Int) - n ≤ d → ∀ m k, m ∈ ownN l may n → k ∈ fsts (l.getD m.toNat Nd.zero) may → k ∈ ownN l may n
  | 0, n, h0, h1, hd, m, k, _, _ => by omega
  | d + 1, n, h0, h1, hd, m, k, hm, hk => by
    rw [ownN_eq hl may h0 h1] at hm ⊢
    rcases List.mem_cons.1 hm with rfl | hm
    · have := hl m.toNat (by omega) k (fsts_mem hk)
      refine List.mem_cons_of_mem _ (List.mem_flatMap.2 ⟨k, hk, ?_⟩)
      rw [ownN_eq hl may (by omega) (by omega)]
      exact List.mem_cons_self ..
    · obtain ⟨j, hj, hm⟩ := List.mem_flatMap.1 hm
      have := hl n.toNat (by omega) j (fsts_mem hj)
      exact List.mem_cons_of_mem _ (List.mem_flatMap.2 ⟨j, hj, own_closed hl may d j (by omega) (by omega) (by omega) m k hm hk⟩)
theorem own_iff {l : List Nd} (hl : KidsUp l) (may : Int → Bool) {n : Int} (h0 : 0 ≤ n) (h1 : n < l.length) (m : Int) : m ∈ ownN l may n ↔ AtOwn l may n m := by
  refine ⟨own_mem hl may (l.length - n.toNat) n h0 h1 (by omega) m, fun h => ?_⟩
  induction h with
  | here => rw [ownN_eq hl may h0 h1]; exact List.mem_cons_self ..
  | kid _ hk ih => exact own_closed hl may (l.length - n.toNat) n h0 h1 (by omega) _ _ ih hk
/-- Whether a node calls a rule at its own place. -/
def callsB (l : List Nd) (may : Int → Bool) (n : Int) (r : Nat) : Bool := (ownN l may n).any fun m => decide ((l.getD m.toNat Nd.zero).kind = 5) && decide ((l.getD m.toNat Nd.zero).rule = (r : Int))
theorem callsB_iff {l : List Nd} {may : Int → Bool} {n : Int} {r : Nat} : callsB l may n r = true ↔ ∃ m ∈ ownN l may n, (l.getD m.toNat Nd.zero).kind = 5 ∧ (l.getD m.toNat Nd.zero).rule = (r : Int) := by
  simp [callsB, List.any_eq_true]
/-- Which nodes of a grammar may match nothing. -/
noncomputable def mayG (g : Gr) : Int → Bool := mayN g.nodes (inB (ranks g))
noncomputable def callsOf (g : Gr) (n : Int) : List Nat := rowOf' g.rules.length (callsB g.nodes (mayG g) n)
noncomputable def lcal (g : Gr) (r : Nat) : List Nat := callsOf g (g.rules.getD r Rl.zero).body
theorem lcal_lt {g : Gr} {r k : Nat} (h : k ∈ lcal g r) : k < g.rules.length := (rowOf_mem.1 h).1
/-- One goes to another by steps, one at least. -/
inductive To (c : Nat → List Nat) (i : Nat) : Nat → Prop where
  | one {k : Nat} (h : k ∈ c i) : To c i k
  | more {k m : Nat} (h : To c i m) (hk : k ∈ c m) : To c i k
theorem To.head {c : Nat → List Nat} {i k m : Nat} (hk : k ∈ c i) (h : To c k m) : To c i m := by
  induction h with
  | one h => exact .more (.one hk) h
  | more _ h ih => exact .more ih h
theorem To.trans {c : Nat → List Nat} {i k m : Nat} (h1 : To c i k) (h2 : To c k m) : To c i m := by
  induction h2 with
  | one h => exact .more h1 h
  | more _ h ih => exact .more ih h
theorem To.first {c : Nat → List Nat} {i m : Nat} (h : To c i m) : ∃ k ∈ c i, k = m ∨ To c k m := by
  induction h with
  | one h => exact ⟨_, h, .inl rfl⟩
  | more _ h ih =>
    obtain ⟨k, hk, h2⟩ := ih
    rcases h2 with rfl | h2
    · exact ⟨k, hk, .inr (.one h)⟩
    · exact ⟨k, hk, .inr (.more h2 h)⟩
theorem To.last {c : Nat → List Nat} {i m : Nat} (h : To c i m) : ∃ k, m ∈ c k ∧ (k = i ∨ To c i k) := by
  cases h with
  | one h => exact ⟨i, h, .inl rfl⟩
  | more h1 h => exact ⟨_, h, .inr h1⟩
theorem To.iff {c : Nat → List Nat} {i m : Nat} : To c i m ↔ m ∈ c i ∨ ∃ k ∈ c i, To c k m := by
  constructor
  · intro h
    obtain ⟨k, hk, h2⟩ := h.first
    rcases h2 with rfl | h2
    · exact .inl hk
    · exact .inr ⟨k, hk, h2⟩
  · rintro (h | ⟨k, hk, h⟩)
    · exact .one h
    · exact .head hk h
end Go.Proofs.Ytmlaepbmdfmgbaa
namespace Go.Proofs.Ytmlaepbmdfmgbaa
/-- Who was met, whom ahead of each, who is next. -/
abbrev Bf := List Bool × List Nat × List Nat
def visit (a : Nat) (s : Bf) (k : Nat) : Bf := if s.1.getD k false then s else (s.1.set k true, s.2.1.set k a, s.2.2 ++ [k])
def popB (c : Nat → List Nat) (s : Bf) : Bf := match s.2.2 with
  | [] => s
  | a :: q => (c a).foldl (visit a) (s.1, s.2.1, q)
def runB (c : Nat → List Nat) : Nat → Bf → Bf
  | 0, s => s
  | n + 1, s => runB c n (popB c s)
def startB (i : Nat) : Bf := (List.replicate 32 false, List.replicate 32 0, [i])
def fuelB : Nat := 65
def bfs (c : Nat → List Nat) (i : Nat) : Bf := runB c fuelB (startB i)
def unmet (m : List Bool) : Nat := m.countP fun b => !b
def muB (s : Bf) : Nat := 2 * unmet s.1 + s.2.2.length
theorem unmet_set : ∀ {m : List Bool} {k : Nat}, k < m.length → m.getD k false = false → unmet (m.set k true) + 1 = unmet m
  | [], k, h, _ => by simp at h
  | b :: m, 0, _, h => by
    have hb : b = false := h
    subst hb
    simp [unmet]
  | b :: m, k + 1, h, h2 => by
    have := unmet_set (m := m) (k := k) (by simpa using h) (by simpa using h2)
    simp only [unmet, List.set_cons_succ, List.countP_cons] at this ⊢
    omega
/-- Rows as long as they are. -/
structure Sound (s : Bf) : Prop where
  met : s.1.length = 32
  ahead : s.2.1.length = 32
theorem visit_sound {a k : Nat} {s : Bf} (h : Sound s) : Sound (visit a s k) := by
  unfold visit
  split
  · exact h
  · exact ⟨by simpa using h.met, by simpa using h.ahead⟩
theorem visit_mu {a k : Nat} {s : Bf} (h : Sound s) (hk : k < 32) : muB (visit a s k) ≤ muB s := by
  unfold visit
  split
  · exact Nat.le_refl _
  · rename_i hn
    have hf : s.1.getD k false = false := by simpa using hn
    have := unmet_set (m := s.1) (k := k) (by rw [h.met]; exact hk) hf
    simp only [muB, List.length_append, List.length_singleton]
    omega
theorem visits {a : Nat} : ∀ (l : List Nat) (s : Bf), Sound s → (∀ k ∈ l, k < 32) → Sound (l.foldl (visit a) s) ∧ muB (l.foldl (visit a) s) ≤ muB s
  | [], s, h, _ => ⟨h, Nat.le_refl _⟩
  | k :: l, s, h, hl => by
    have h1 := visit_sound (a := a) (k := k) h
    have h2 := visit_mu (a := a) h (hl k (List.mem_cons_self ..))
    have h3 := visits (a := a) l (visit a s k) h1 (fun j hj => hl j (List.mem_cons_of_mem _ hj))
    exact ⟨h3.1, Nat.le_trans h3.2 h2⟩
theorem pop_nil {c : Nat → List Nat} {s : Bf} (h : s.2.2 = []) : popB c s = s := by
  unfold popB; rw [h]
theorem pop_cons {c : Nat → List Nat} {s : Bf} {a : Nat} {q : List Nat} (h : s.2.2 = a :: q) : popB c s = (c a).foldl (visit a) (s.1, s.2.1, q) := by
  unfold popB; rw [h]
theorem pop_sound {c : Nat → List Nat} (hc : ∀ a k, k ∈ c a → k < 32) {s : Bf} (h : Sound s) : Sound (popB c s) ∧ (s.2.2 ≠ [] → muB (popB c s) < muB s) := by
  cases hq : s.2.2 with
  | nil => rw [pop_nil hq]; exact ⟨h, fun h => (h rfl).elim⟩
  | cons a q =>
    rw [pop_cons hq]
    have h1 := visits (a := a) (c a) (s.1, s.2.1, q) ⟨h.met, h.ahead⟩ (hc a)
    refine ⟨h1.1, fun _ => Nat.lt_of_le_of_lt h1.2 ?_⟩
    simp only [muB, hq, List.length_cons]
    omega
theorem run_fix {c : Nat → List Nat} {s : Bf} (h : s.2.2 = []) : ∀ n, runB c n s = s
  | 0 => rfl
  | n + 1 => by unfold runB; rw [pop_nil h]; exact run_fix h n
theorem run_add (c : Nat → List Nat) : ∀ (n m : Nat) (s : Bf), runB c (n + m) s = runB c m (runB c n s)
  | 0, m, s => by rw [Nat.zero_add]; rfl
  | n + 1, m, s => by rw [Nat.add_right_comm]; exact run_add c n m (popB c s)
theorem run_next (c : Nat → List Nat) (n : Nat) (s : Bf) : runB c (n + 1) s = popB c (runB c n s) := run_add c n 1 s
theorem run_sound {c : Nat → List Nat} (hc : ∀ a k, k ∈ c a → k < 32) : ∀ (n : Nat) {s : Bf}, Sound s → Sound (runB c n s)
  | 0, _, h => h
  | n + 1, _, h => run_sound hc n (pop_sound hc h).1
theorem run_done {c : Nat → List Nat} (hc : ∀ a k, k ∈ c a → k < 32) : ∀ (n : Nat) {s : Bf}, Sound s → muB s ≤ n → (runB c n s).2.2 = []
  | 0, s, _, hm => by
    have : s.2.2.length = 0 := by simp only [muB] at hm; omega
    exact List.length_eq_zero_iff.1 this
  | n + 1, s, h, hm => by
    unfold runB
    cases hq : s.2.2 with
    | nil => rw [pop_nil hq, run_fix hq]; exact hq
    | cons a q =>
      have := pop_sound hc h
      exact run_done hc n this.1 (by have := this.2 (by rw [hq]; simp); omega)
theorem start_sound (i : Nat) : Sound (startB i) := ⟨by simp [startB], by simp [startB]⟩
theorem start_mu (i : Nat) : muB (startB i) ≤ fuelB := by simp [muB, startB, unmet, fuelB]
theorem run_mu {c : Nat → List Nat} (hc : ∀ a k, k ∈ c a → k < 32) : ∀ (n : Nat) {s : Bf}, Sound s → muB (runB c n s) ≤ muB s
  | 0, _, _ => Nat.le_refl _
  | n + 1, s, h => by
    unfold runB
    have h1 := pop_sound hc h
    have h2 := run_mu hc n h1.1
    cases hq : s.2.2 with
    | nil => rw [pop_nil hq] at h2 ⊢; exact h2
    | cons a q => have := h1.2 (by rw [hq]; simp); omega
theorem start_mu65 (i : Nat) : muB (startB i) ≤ 65 := by simp [muB, startB, unmet]
attribute [irreducible] fuelB
theorem bfs_done {c : Nat → List Nat} (hc : ∀ a k, k ∈ c a → k < 32) (i : Nat) : (bfs c i).2.2 = [] := run_done hc fuelB (start_sound i) (start_mu i)
theorem bfs_sound {c : Nat → List Nat} (hc : ∀ a k, k ∈ c a → k < 32) (i : Nat) : Sound (bfs c i) := run_sound hc fuelB (start_sound i)
/-- Wherever it ends, it is that. -/
theorem bfs_end {c : Nat → List Nat} (hc : ∀ a k, k ∈ c a → k < 32) {i n : Nat} (h : (runB c n (startB i)).2.2 = []) : runB c n (startB i) = bfs c i := by
  have hd := bfs_done hc i
  unfold bfs at hd ⊢
  generalize fuelB = N at hd ⊢
  rcases Nat.le_total n N with hn | hn
  · obtain ⟨d, rfl⟩ : ∃ d, N = n + d := ⟨N - n, by omega⟩
    rw [run_add, run_fix h]
  · obtain ⟨d, rfl⟩ : ∃ d, n = N + d := ⟨n - N, by omega⟩
    rw [run_add, run_fix hd]
/-- What holds of who was met: those are gone to; whom one calls that was taken up was met; who is next was met. -/
structure Inv (c : Nat → List Nat) (i : Nat) (s : Bf) (open_ : Nat → Prop) : Prop where
  to : ∀ k, s.1.getD k false = true → To c i k
  next : ∀ k ∈ s.2.2, k = i ∨ s.1.getD k false = true
  all : ∀ k, (k = i ∨ s.1.getD k false = true) → k ∈ s.2.2 ∨ open_ k ∨ ∀ j ∈ c k, s.1.getD j false = true
theorem met_set {m : List Bool} {k j : Nat} (hk : k < m.length) : (m.set k true).getD j false = true ↔ j = k ∨ m.getD j false = true := by
  simp only [List.getD, List.getElem?_set]
  by_cases e : k = j
  · subst e; simp [hk]
  · rw [if_neg e]
    exact ⟨fun h => .inr h, fun h => h.resolve_left (fun h => e h.symm)⟩
theorem visit_inv {c : Nat → List Nat} {i a k : Nat} {s : Bf} (hs : Sound s) (hk : k ∈ c a) (h32 : k < 32) (ha : a = i ∨ To c i a) (h : Inv c i s (· = a)) : Inv c i (visit a s k) (· = a) := by
  unfold visit
  split
  · exact h
  · have hset := fun j => met_set (m := s.1) (k := k) (j := j) (by rw [hs.met]; exact h32)
    have hto : To c i k := by
      rcases ha with rfl | ha
      · exact .one hk
      · exact .more ha hk
    refine ⟨fun j hj => ?_, fun j hj => ?_, fun j hj => ?_⟩
    · rcases (hset j).1 hj with rfl | hj
      · exact hto
      · exact h.to j hj
    · rcases List.mem_append.1 hj with hj | hj
      · rcases h.next j hj with h1 | h1
        · exact .inl h1
        · exact .inr ((hset j).2 (.inr h1))
      · exact .inr ((hset j).2 (.inl (by simpa using hj)))
    · have key : j = k ∨ (j = i ∨ s.1.getD j false = true) := by
        rcases hj with h1 | h1
        · exact .inr (.inl h1)
        · rcases (hset j).1 h1 with h2 | h2
          · exact .inl h2
          · exact .inr (.inr h2)
      rcases key with rfl | hj
      · exact .inl (by simp)
      · rcases h.all j hj with h1 | h1 | h1
        · exact .inl (List.mem_append_left _ h1)
        · exact .inr (.inl h1)
        · exact .inr (.inr fun x hx => (hset x).2 (.inr (h1 x hx)))
theorem visit_met {a k j : Nat} {s : Bf} (hs : Sound s) (h32 : k < 32) : (visit a s k).1.getD j false = true ↔ j = k ∨ s.1.getD j false = true := by
  unfold visit
  split
  · rename_i h
    exact ⟨fun h => .inr h, fun h2 => by rcases h2 with rfl | h2; exact h; exact h2⟩
  · exact met_set (by rw [hs.met]; exact h32)
theorem visits_inv {c : Nat → List Nat} {i a : Nat} (hc : ∀ a k, k ∈ c a → k < 32) (ha : a = i ∨ To c i a) : ∀ (l : List Nat) (s : Bf), (∀ k ∈ l, k ∈ c a) → Sound s → Inv c i s (· = a) → Inv c i (l.foldl (visit a) s) (· = a) ∧ ∀ j, (l.foldl (visit a) s).1.getD j false = true ↔ j ∈ l ∨ s.1.getD j false = true
  | [], s, _, _, h => ⟨h, fun j => by simp⟩
  | k :: l, s, hl, hs, h => by
    have hk := hl k (List.mem_cons_self ..)
    have h1 := visit_inv hs hk (hc a k hk) ha h
    obtain ⟨h2, h3⟩ := visits_inv hc ha l (visit a s k) (fun j hj => hl j (List.mem_cons_of_mem _ hj)) (visit_sound hs) h1
    refine ⟨h2, fun j => (h3 j).trans ?_⟩
    rw [visit_met hs (hc a k hk)]
    simp only [List.mem_cons]
    constructor
    · rintro (h | h | h)
      · exact .inl (.inr h)
      · exact .inl (.inl h)
      · exact .inr h
    · rintro ((h | h) | h)
      · exact .inr (.inl h)
      · exact .inl h
      · exact .inr (.inr h)
theorem pop_inv {c : Nat → List Nat} {i : Nat} (hc : ∀ a k, k ∈ c a → k < 32) {s : Bf} (hs : Sound s) (h : Inv c i s (fun _ => False)) : Inv c i (popB c s) (fun _ => False) := by
  cases hq : s.2.2 with
  | nil => rw [pop_nil hq]; exact h
  | cons a q =>
    rw [pop_cons hq]
    have ha : a = i ∨ To c i a := by
      rcases h.next a (by rw [hq]; exact List.mem_cons_self ..) with h1 | h1
      · exact .inl h1
      · exact .inr (h.to a h1)
    have h0 : Inv c i (s.1, s.2.1, q) (· = a) := ⟨h.to, fun k hk => h.next k (by rw [hq]; exact List.mem_cons_of_mem _ hk), fun k hk => by
      rcases h.all k hk with h1 | h1 | h1
      · rw [hq] at h1
        rcases List.mem_cons.1 h1 with h1 | h1
        · exact .inr (.inl h1)
        · exact .inl h1
      · exact h1.elim
      · exact .inr (.inr h1)⟩
    obtain ⟨h1, h2⟩ := visits_inv hc ha (c a) (s.1, s.2.1, q) (fun k hk => hk) ⟨hs.met, hs.ahead⟩ h0
    refine ⟨h1.to, h1.next, fun k hk => ?_⟩
    rcases h1.all k hk with h3 | h3 | h3
    · exact .inl h3
    · subst h3
      exact .inr (.inr fun j hj => (h2 j).2 (.inl hj))
    · exact .inr (.inr h3)
theorem run_inv {c : Nat → List Nat} {i : Nat} (hc : ∀ a k, k ∈ c a → k < 32) : ∀ (n : Nat) {s : Bf}, Sound s → Inv c i s (fun _ => False) → Inv c i (runB c n s) (fun _ => False)
  | 0, _, _, h => h
  | n + 1, _, hs, h => run_inv hc n (pop_sound hc hs).1 (pop_inv hc hs h)
theorem start_inv (c : Nat → List Nat) (i : Nat) : Inv c i (startB i) (fun _ => False) := by
  have hf : ∀ k, (startB i).1.getD k false ≠ true := fun k h => by
    simp only [startB, List.getD, List.getElem?_replicate] at h
    split at h <;> simp at h
  exact ⟨fun k h => (hf k h).elim, fun k hk => .inl (by simpa [startB] using hk), fun k h => .inl (by
    rcases h with rfl | h
    · simp [startB]
    · exact (hf k h).elim)⟩
/-- Who is met is just who is gone to. -/
theorem bfs_met {c : Nat → List Nat} (hc : ∀ a k, k ∈ c a → k < 32) (i k : Nat) : (bfs c i).1.getD k false = true ↔ To c i k := by
  have h := run_inv hc fuelB (start_sound i) (start_inv c i)
  refine ⟨h.to k, fun ht => ?_⟩
  have hd := bfs_done hc i
  have key : ∀ j, (j = i ∨ (bfs c i).1.getD j false = true) → ∀ x ∈ c j, (bfs c i).1.getD x false = true := fun j hj => by
    rcases h.all j hj with h1 | h1 | h1
    · rw [show (runB c fuelB (startB i)).2.2 = [] from hd] at h1; simp at h1
    · exact h1.elim
    · exact h1
  induction ht with
  | one h1 => exact key i (.inl rfl) _ h1
  | more _ h1 ih => exact key _ (.inr ih) _ h1
end Go.Proofs.Ytmlaepbmdfmgbaa

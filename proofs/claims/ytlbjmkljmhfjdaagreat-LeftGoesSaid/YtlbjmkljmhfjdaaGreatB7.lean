/- The nodes at a node's own place, plainly; whom a node calls there; whom a rule goes to. Nothing here speaks of a program. -/
import Derived.Test.YtlbjmkljmhfjdaaGreatB6
import Derived.Test.YtlbjmkljmhfjdaaGreatB5
set_option linter.unusedSimpArgs false
set_option linter.unusedVariables false
namespace Go.Proofs.YtlbjmkljmhfjdaaGreat
/-- Kids up to the first that may not match nothing. -/
def upTo (may : Int → Bool) : List Int → List Int
  | [] => []
  | k :: r => k :: (if may k then upTo may r else [])
theorem upTo_all {may : Int → Bool} : ∀ {l : List Int}, (∀ k ∈ l, may k = true) → upTo may l = l
  | [], _ => rfl
  | k :: r, h => by
    unfold upTo
    rw [if_pos (h k (List.mem_cons_self ..)), upTo_all fun j hj => h j (List.mem_cons_of_mem _ hj)]
theorem upTo_at {may : Int → Bool} : ∀ (l : List Int) (j : Nat), j < l.length → (∀ i, i < j → may (l.getD i 0) = true) → may (l.getD j 0) = false → upTo may l = l.take (j + 1)
  | [], j, h, _, _ => by simp at h
  | k :: r, 0, _, _, h => by
    have h2 : may k = false := h
    simp [upTo, h2]
  | k :: r, j + 1, h1, h2, h3 => by
    have hk : may k = true := h2 0 (by omega)
    unfold upTo
    rw [if_pos hk, upTo_at r j (by simpa using h1) (fun i hi => h2 (i + 1) (by omega)) h3]
    rfl
theorem upTo_sub {may : Int → Bool} : ∀ (l : List Int), (upTo may l).Sublist l
  | [] => List.Sublist.slnil
  | k :: r => by
    unfold upTo
    split
    · exact (upTo_sub r).cons_cons k
    · exact (List.nil_sublist r).cons_cons k
/-- The kids of a node that stand at its place. -/
def fsts (x : Nd) (may : Int → Bool) : List Int := if x.kind = 6 then upTo may x.kids else x.kids
theorem fsts_sub (x : Nd) (may : Int → Bool) : (fsts x may).Sublist x.kids := by
  unfold fsts
  split
  · exact upTo_sub _
  · exact List.Sublist.refl _
theorem fsts_mem {x : Nd} {may : Int → Bool} {k : Int} (h : k ∈ fsts x may) : k ∈ x.kids := (fsts_sub x may).subset h
def ownF (l : List Nd) (may : Int → Bool) : Nat → Int → List Int
  | 0, _ => []
  | f + 1, n => n :: (fsts (l.getD n.toNat Nd.zero) may).flatMap (ownF l may f)
/-- The nodes at a node's own place. -/
def ownN (l : List Nd) (may : Int → Bool) (n : Int) : List Int := ownF l may (l.length - n.toNat) n
theorem flatMap_same {f g : Int → List Int} : ∀ {l : List Int}, (∀ k ∈ l, f k = g k) → l.flatMap f = l.flatMap g
  | [], _ => rfl
  | a :: l, h => by
    simp only [List.flatMap_cons]
    rw [h a (List.mem_cons_self ..), flatMap_same fun k hk => h k (List.mem_cons_of_mem _ hk)]
theorem ownF_fuel {l : List Nd} (hl : KidsUp l) (may : Int → Bool) : ∀ (f f' : Nat) (n : Int), 0 ≤ n → n < l.length → (l.length : Int) - n ≤ f → (l.length : Int) - n ≤ f' → ownF l may f n = ownF l may f' n
  | 0, f', n, h0, h1, h2, _ => by omega
  | f + 1, 0, n, h0, h1, _, h2 => by omega
  | f + 1, f' + 1, n, h0, h1, h2, h3 => by
    unfold ownF
    rw [flatMap_same fun k hk => ?_]
    have := hl n.toNat (by omega) k (fsts_mem hk)
    exact ownF_fuel hl may f f' k (by omega) (by omega) (by omega) (by omega)
theorem ownN_eq {l : List Nd} (hl : KidsUp l) (may : Int → Bool) {n : Int} (h0 : 0 ≤ n) (h1 : n < l.length) : ownN l may n = n :: (fsts (l.getD n.toNat Nd.zero) may).flatMap (ownN l may) := by
  unfold ownN
  obtain ⟨f, ef⟩ : ∃ f, l.length - n.toNat = f + 1 := ⟨l.length - n.toNat - 1, by omega⟩
  rw [ef]
  show n :: _ = _
  rw [flatMap_same fun k hk => ?_]
  have := hl n.toNat (by omega) k (fsts_mem hk)
  exact ownF_fuel hl may _ _ k (by omega) (by omega) (by omega) (by omega)
/-- What stands at a node's own place lies in it, and rises. -/
structure Rises (a : List Int) (lo hi : Int) : Prop where
  each : ∀ k ∈ a, lo ≤ k ∧ k < hi
  rise : a.Pairwise (· < ·)
theorem Rises.app {a b : List Int} {lo mid hi : Int} (h : Rises a lo mid) (k : Rises b mid hi) (h1 : lo ≤ mid) (h2 : mid ≤ hi) : Rises (a ++ b) lo hi := by
  refine ⟨fun x hx => ?_, List.pairwise_append.2 ⟨h.rise, k.rise, fun x hx y hy => ?_⟩⟩
  · rcases List.mem_append.1 hx with hx | hx
    · have := h.each x hx; omega
    · have := k.each x hx; omega
  · have := h.each x hx; have := k.each y hy; omega
theorem climb_rises {len : Nat} {ms : Nat → Meas} {f : Int → List Int} (n0 : Nat) (hs : ∀ m : Nat, n0 ≤ m → m < len → 1 ≤ (ms m).1 ∧ 1 ≤ (ms m).2 ∧ m + (ms m).1 ≤ len) (hf : ∀ m : Nat, n0 ≤ m → m < len → Rises (f m) m (m + (ms m).1)) :
    ∀ (r : List Int) (next high to hh : Int), (n0 : Int) ≤ next → climb len ms r next high = some (to, hh) → Rises (r.flatMap f) next to ∧ next ≤ to
  | [], next, high, to, hh, _, h => by
    simp [climb] at h
    obtain ⟨rfl, _⟩ := h
    exact ⟨⟨fun k hk => by simp at hk, by simp⟩, by omega⟩
  | k :: r, next, high, to, hh, hn, h => by
    unfold climb at h
    split at h
    · rename_i hk
      obtain ⟨rfl, hk2⟩ := hk
      obtain ⟨a, ha⟩ : ∃ a : Nat, k = a := ⟨k.toNat, by omega⟩
      subst ha
      have h1 := hs a (by omega) (by omega)
      rw [Int.toNat_natCast] at h
      obtain ⟨h2, h3⟩ := climb_rises n0 hs hf r _ _ to hh (by omega) h
      have h4 := hf a (by omega) (by omega)
      exact ⟨by rw [List.flatMap_cons]; exact h4.app h2 (by omega) h3, by omega⟩
    · cases h
theorem flatMap_sub {f : Int → List Int} {a b : List Int} (h : a.Sublist b) : (a.flatMap f).Sublist (b.flatMap f) := by
  induction h with
  | slnil => exact List.Sublist.refl _
  | cons k _ ih => rw [List.flatMap_cons]; exact ih.trans (List.sublist_append_right _ _)
  | cons_cons k _ ih => rw [List.flatMap_cons, List.flatMap_cons]; exact (List.Sublist.refl _).append ih
theorem own_rises {l : List Nd} {ms : Nat → Meas} (h : Measured l ms 0) (may : Int → Bool) : ∀ (d n : Nat), n < l.length → l.length - n ≤ d → Rises (ownN l may n) n (n + (ms n).1)
  | 0, n, h1, hd => by omega
  | d + 1, n, h1, hd => by
    have hl := h.kidsUp
    obtain ⟨s1, _, s3, hc⟩ := h n (by omega) h1
    rw [ownN_eq hl may (by omega) (by omega), Int.toNat_natCast]
    have hc2 := climb_rises (f := ownN l may) (n + 1) (fun m hm hml => by have := h m (by omega) hml; exact ⟨this.1, this.2.1, this.2.2.1⟩) (fun m hm hml => own_rises h may d m hml (by omega)) _ _ _ _ _ (by omega) hc
    have hsub := flatMap_sub (f := ownN l may) (fsts_sub (l.getD n Nd.zero) may)
    have hr : Rises ((fsts (l.getD n Nd.zero) may).flatMap (ownN l may)) ((n : Int) + 1) (n + (ms n).1) := ⟨fun k hk => hc2.1.each k (hsub.subset hk), hc2.1.rise.sublist hsub⟩
    refine ⟨fun k hk => ?_, List.pairwise_cons.2 ⟨fun k hk => ?_, hr.rise⟩⟩
    · rcases List.mem_cons.1 hk with rfl | hk
      · omega
      · have := hr.each k hk; omega
    · have := hr.each k hk; omega
/-- The nodes at the own place of n, one by one: it; of each such node those of its kids. -/
inductive AtOwn (l : List Nd) (may : Int → Bool) (n : Int) : Int → Prop where
  | here : AtOwn l may n n
  | kid {m k : Int} (h : AtOwn l may n m) (hk : k ∈ fsts (l.getD m.toNat Nd.zero) may) : AtOwn l may n k
theorem AtOwn.head {l : List Nd} {may : Int → Bool} {n k m : Int} (hk : k ∈ fsts (l.getD n.toNat Nd.zero) may) (h : AtOwn l may k m) : AtOwn l may n m := by
  induction h with
  | here => exact .kid .here hk
  | kid _ h2 ih => exact .kid ih h2
theorem own_mem {l : List Nd} (hl : KidsUp l) (may : Int → Bool) : ∀ (d : Nat) (n : Int), 0 ≤ n → n < l.length → (l.length : Int) - n ≤ d → ∀ m, m ∈ ownN l may n → AtOwn l may n m
  | 0, n, h0, h1, hd, m, _ => by omega
  | d + 1, n, h0, h1, hd, m, hm => by
    rw [ownN_eq hl may h0 h1] at hm
    rcases List.mem_cons.1 hm with rfl | hm
    · exact .here
    · obtain ⟨k, hk, hm⟩ := List.mem_flatMap.1 hm
      have := hl n.toNat (by omega) k (fsts_mem hk)
      exact AtOwn.head hk (own_mem hl may d k (by omega) (by omega) (by omega) m hm)
theorem own_closed {l : List Nd} (hl : KidsUp l) (may : Int → Bool) : ∀ (d : Nat) (n : Int), 0 ≤ n → n < l.length → (l.length : Int) - n ≤ d → ∀ m k, m ∈ ownN l may n → k ∈ fsts (l.getD m.toNat Nd.zero) may → k ∈ ownN l may n
  | 0, n, h0, h1, hd, m, k, _, _ => by omega
  | d + 1, n, h0, h1, hd, m, k, hm, hk => by
    rw [ownN_eq hl may h0 h1] at hm ⊢
    rcases List.mem_cons.1 hm with rfl | hm
    · have := hl m.toNat (by omega) k (fsts_mem hk)
      refine List.mem_cons_of_mem _ (List.mem_flatMap.2 ⟨k, hk, ?_⟩)
      rw [ownN_eq hl may (by omega) (by omega)]
      exact List.mem_cons_self ..
    · obtain ⟨j, hj, hm⟩ := List.mem_flatMap.1 hm
      have := hl n.toNat (by omega) j (fsts_mem hj)
      exact List.mem_cons_of_mem _ (List.mem_flatMap.2 ⟨j, hj, own_closed hl may d j (by omega) (by omega) (by omega) m k hm hk⟩)
theorem own_iff {l : List Nd} (hl : KidsUp l) (may : Int → Bool) {n : Int} (h0 : 0 ≤ n) (h1 : n < l.length) (m : Int) : m ∈ ownN l may n ↔ AtOwn l may n m := by
  refine ⟨own_mem hl may (l.length - n.toNat) n h0 h1 (by omega) m, fun h => ?_⟩
  induction h with
  | here => rw [ownN_eq hl may h0 h1]; exact List.mem_cons_self ..
  | kid _ hk ih => exact own_closed hl may (l.length - n.toNat) n h0 h1 (by omega) _ _ ih hk
/-- Whether a node calls a rule at its own place. -/
def callsB (l : List Nd) (may : Int → Bool) (n : Int) (r : Nat) : Bool := (ownN l may n).any fun m => decide ((l.getD m.toNat Nd.zero).kind = 5) && decide ((l.getD m.toNat Nd.zero).rule = (r : Int))
theorem callsB_iff {l : List Nd} {may : Int → Bool} {n : Int} {r : Nat} : callsB l may n r = true ↔ ∃ m ∈ ownN l may n, (l.getD m.toNat Nd.zero).kind = 5 ∧ (l.getD m.toNat Nd.zero).rule = (r : Int) := by
  simp [callsB, List.any_eq_true]
/-- Which nodes of a grammar may match nothing. -/
noncomputable def mayG (g : Gr) : Int → Bool := mayN g.nodes (inB (ranks g))
noncomputable def callsOf (g : Gr) (n : Int) : List Nat := rowOf' g.rules.length (callsB g.nodes (mayG g) n)
noncomputable def lcal (g : Gr) (r : Nat) : List Nat := callsOf g (g.rules.getD r Rl.zero).body
theorem lcal_lt {g : Gr} {r k : Nat} (h : k ∈ lcal g r) : k < g.rules.length := (rowOf_mem.1 h).1
/-- One goes to another by steps, one at least. -/
inductive To (c : Nat → List Nat) (i : Nat) : Nat → Prop where
  | one {k : Nat} (h : k ∈ c i) : To c i k
  | more {k m : Nat} (h : To c i m) (hk : k ∈ c m) : To c i k
theorem To.head {c : Nat → List Nat} {i k m : Nat} (hk : k ∈ c i) (h : To c k m) : To c i m := by
  induction h with
  | one h => exact .more (.one hk) h
  | more _ h ih => exact .more ih h
theorem To.trans {c : Nat → List Nat} {i k m : Nat} (h1 : To c i k) (h2 : To c k m) : To c i m := by
  induction h2 with
  | one h => exact .more h1 h
  | more _ h ih => exact .more ih h
theorem To.first {c : Nat → List Nat} {i m : Nat} (h : To c i m) : ∃ k ∈ c i, k = m ∨ To c k m := by
  induction h with
  | one h => exact ⟨_, h, .inl rfl⟩
  | more _ h ih =>
    obtain ⟨k, hk, h2⟩ := ih
    rcases h2 with rfl | h2
    · exact ⟨k, hk, .inr (.one h)⟩
    · exact ⟨k, hk, .inr (.more h2 h)⟩
theorem To.last {c : Nat → List Nat} {i m : Nat} (h : To c i m) : ∃ k, m ∈ c k ∧ (k = i ∨ To c i k) := by
  cases h with
  | one h => exact ⟨i, h, .inl rfl⟩
  | more h1 h => exact ⟨_, h, .inr h1⟩
theorem To.iff {c : Nat → List Nat} {i m : Nat} : To c i m ↔ m ∈ c i ∨ ∃ k ∈ c i, To c k m := by
  constructor
  · intro h
    obtain ⟨k, hk, h2⟩ := h.first
    rcases h2 with rfl | h2
    · exact .inl hk
    · exact .inr ⟨k, hk, h2⟩
  · rintro (h | ⟨k, hk, h⟩)
    · exact .one h
    · exact .head hk h
end Go.Proofs.YtlbjmkljmhfjdaaGreat
namespace Go.Proofs.YtlbjmkljmhfjdaaGreat
/-- Who was met, whom ahead of each, who is next. -/
abbrev Bf := List Bool × List Nat × List Nat
def visit (a : Nat) (s : Bf) (k : Nat) : Bf := if s.1.getD k false then s else (s.1.set k true, s.2.1.set k a, s.2.2 ++ [k])
def popB (c : Nat → List Nat) (s : Bf) : Bf := match s.2.2 with
  | [] => s
  | a :: q => (c a).foldl (visit a) (s.1, s.2.1, q)
def runB (c : Nat → List Nat) : Nat → Bf → Bf
  | 0, s => s
  | n + 1, s => runB c n (popB c s)
def startB (i : Nat) : Bf := (List.replicate 32 false, List.replicate 32 0, [i])
def fuelB : Nat := 65
def bfs (c : Nat → List Nat) (i : Nat) : Bf := runB c fuelB (startB i)
def unmet (m : List Bool) : Nat := m.countP fun b => !b
def muB (s : Bf) : Nat := 2 * unmet s.1 + s.2.2.length
theorem unmet_set : ∀ {m : List Bool} {k : Nat}, k < m.length → m.getD k false = false → unmet (m.set k true) + 1 = unmet m
  | [], k, h, _ => by simp at h
  | b :: m, 0, _, h => by
    have hb : b = false := h
    subst hb
    simp [unmet]
  | b :: m, k + 1, h, h2 => by
    have := unmet_set (m := m) (k := k) (by simpa using h) (by simpa using h2)
    simp only [unmet, List.set_cons_succ, List.countP_cons] at this ⊢
    omega
/-- Rows as long as they are. -/
structure Sound (s : Bf) : Prop where
  met : s.1.length = 32
  ahead : s.2.1.length = 32
theorem visit_sound {a k : Nat} {s : Bf} (h : Sound s) : Sound (visit a s k) := by
  unfold visit
  split
  · exact h
  · exact ⟨by simpa using h.met, by simpa using h.ahead⟩
theorem visit_mu {a k : Nat} {s : Bf} (h : Sound s) (hk : k < 32) : muB (visit a s k) ≤ muB s := by
  unfold visit
  split
  · exact Nat.le_refl _
  · rename_i hn
    have hf : s.1.getD k false = false := by simpa using hn
    have := unmet_set (m := s.1) (k := k) (by rw [h.met]; exact hk) hf
    simp only [muB, List.length_append, List.length_singleton]
    omega
theorem visits {a : Nat} : ∀ (l : List Nat) (s : Bf), Sound s → (∀ k ∈ l, k < 32) → Sound (l.foldl (visit a) s) ∧ muB (l.foldl (visit a) s) ≤ muB s
  | [], s, h, _ => ⟨h, Nat.le_refl _⟩
  | k :: l, s, h, hl => by
    have h1 := visit_sound (a := a) (k := k) h
    have h2 := visit_mu (a := a) h (hl k (List.mem_cons_self ..))
    have h3 := visits (a := a) l (visit a s k) h1 (fun j hj => hl j (List.mem_cons_of_mem _ hj))
    exact ⟨h3.1, Nat.le_trans h3.2 h2⟩
theorem pop_nil {c : Nat → List Nat} {s : Bf} (h : s.2.2 = []) : popB c s = s := by
  unfold popB; rw [h]
theorem pop_cons {c : Nat → List Nat} {s : Bf} {a : Nat} {q : List Nat} (h : s.2.2 = a :: q) : popB c s = (c a).foldl (visit a) (s.1, s.2.1, q) := by
  unfold popB; rw [h]
theorem pop_sound {c : Nat → List Nat} (hc : ∀ a k, k ∈ c a → k < 32) {s : Bf} (h : Sound s) : Sound (popB c s) ∧ (s.2.2 ≠ [] → muB (popB c s) < muB s) := by
  cases hq : s.2.2 with
  | nil => rw [pop_nil hq]; exact ⟨h, fun h => (h rfl).elim⟩
  | cons a q =>
    rw [pop_cons hq]
    have h1 := visits (a := a) (c a) (s.1, s.2.1, q) ⟨h.met, h.ahead⟩ (hc a)
    refine ⟨h1.1, fun _ => Nat.lt_of_le_of_lt h1.2 ?_⟩
    simp only [muB, hq, List.length_cons]
    omega
theorem run_fix {c : Nat → List Nat} {s : Bf} (h : s.2.2 = []) : ∀ n, runB c n s = s
  | 0 => rfl
  | n + 1 => by unfold runB; rw [pop_nil h]; exact run_fix h n
theorem run_add (c : Nat → List Nat) : ∀ (n m : Nat) (s : Bf), runB c (n + m) s = runB c m (runB c n s)
  | 0, m, s => by rw [Nat.zero_add]; rfl
  | n + 1, m, s => by rw [Nat.add_right_comm]; exact run_add c n m (popB c s)
theorem run_next (c : Nat → List Nat) (n : Nat) (s : Bf) : runB c (n + 1) s = popB c (runB c n s) := run_add c n 1 s
theorem run_sound {c : Nat → List Nat} (hc : ∀ a k, k ∈ c a → k < 32) : ∀ (n : Nat) {s : Bf}, Sound s → Sound (runB c n s)
  | 0, _, h => h
  | n + 1, _, h => run_sound hc n (pop_sound hc h).1
theorem run_done {c : Nat → List Nat} (hc : ∀ a k, k ∈ c a → k < 32) : ∀ (n : Nat) {s : Bf}, Sound s → muB s ≤ n → (runB c n s).2.2 = []
  | 0, s, _, hm => by
    have : s.2.2.length = 0 := by simp only [muB] at hm; omega
    exact List.length_eq_zero_iff.1 this
  | n + 1, s, h, hm => by
    unfold runB
    cases hq : s.2.2 with
    | nil => rw [pop_nil hq, run_fix hq]; exact hq
    | cons a q =>
      have := pop_sound hc h
      exact run_done hc n this.1 (by have := this.2 (by rw [hq]; simp); omega)
theorem start_sound (i : Nat) : Sound (startB i) := ⟨by simp [startB], by simp [startB]⟩
theorem start_mu (i : Nat) : muB (startB i) ≤ fuelB := by simp [muB, startB, unmet, fuelB]
theorem run_mu {c : Nat → List Nat} (hc : ∀ a k, k ∈ c a → k < 32) : ∀ (n : Nat) {s : Bf}, Sound s → muB (runB c n s) ≤ muB s
  | 0, _, _ => Nat.le_refl _
  | n + 1, s, h => by
    unfold runB
    have h1 := pop_sound hc h
    have h2 := run_mu hc n h1.1
    cases hq : s.2.2 with
    | nil => rw [pop_nil hq] at h2 ⊢; exact h2
    | cons a q => have := h1.2 (by rw [hq]; simp); omega
theorem start_mu65 (i : Nat) : muB (startB i) ≤ 65 := by simp [muB, startB, unmet]
attribute [irreducible] fuelB
theorem bfs_done {c : Nat → List Nat} (hc : ∀ a k, k ∈ c a → k < 32) (i : Nat) : (bfs c i).2.2 = [] := run_done hc fuelB (start_sound i) (start_mu i)
theorem bfs_sound {c : Nat → List Nat} (hc : ∀ a k, k ∈ c a → k < 32) (i : Nat) : Sound (bfs c i) := run_sound hc fuelB (start_sound i)
/-- Wherever it ends, it is that. -/
theorem bfs_end {c : Nat → List Nat} (hc : ∀ a k, k ∈ c a → k < 32) {i n : Nat} (h : (runB c n (startB i)).2.2 = []) : runB c n (startB i) = bfs c i := by
  have hd := bfs_done hc i
  unfold bfs at hd ⊢
  generalize fuelB = N at hd ⊢
  rcases Nat.le_total n N with hn | hn
  · obtain ⟨d, rfl⟩ : ∃ d, N = n + d := ⟨N - n, by omega⟩
    rw [run_add, run_fix h]
  · obtain ⟨d, rfl⟩ : ∃ d, n = N + d := ⟨n - N, by omega⟩
    rw [run_add, run_fix hd]
/-- What holds of who was met: those are gone to; whom one calls that was taken up was met; who is next was met. -/
structure Inv (c : Nat → List Nat) (i : Nat) (s : Bf) (open_ : Nat → Prop) : Prop where
  to : ∀ k, s.1.getD k false = true → To c i k
  next : ∀ k ∈ s.2.2, k = i ∨ s.1.getD k false = true
  all : ∀ k, (k = i ∨ s.1.getD k false = true) → k ∈ s.2.2 ∨ open_ k ∨ ∀ j ∈ c k, s.1.getD j false = true
theorem met_set {m : List Bool} {k j : Nat} (hk : k < m.length) : (m.set k true).getD j false = true ↔ j = k ∨ m.getD j false = true := by
  simp only [List.getD, List.getElem?_set]
  by_cases e : k = j
  · subst e; simp [hk]
  · rw [if_neg e]
    exact ⟨fun h => .inr h, fun h => h.resolve_left (fun h => e h.symm)⟩
theorem visit_inv {c : Nat → List Nat} {i a k : Nat} {s : Bf} (hs : Sound s) (hk : k ∈ c a) (h32 : k < 32) (ha : a = i ∨ To c i a) (h : Inv c i s (· = a)) : Inv c i (visit a s k) (· = a) := by
  unfold visit
  split
  · exact h
  · have hset := fun j => met_set (m := s.1) (k := k) (j := j) (by rw [hs.met]; exact h32)
    have hto : To c i k := by
      rcases ha with rfl | ha
      · exact .one hk
      · exact .more ha hk
    refine ⟨fun j hj => ?_, fun j hj => ?_, fun j hj => ?_⟩
    · rcases (hset j).1 hj with rfl | hj
      · exact hto
      · exact h.to j hj
    · rcases List.mem_append.1 hj with hj | hj
      · rcases h.next j hj with h1 | h1
        · exact .inl h1
        · exact .inr ((hset j).2 (.inr h1))
      · exact .inr ((hset j).2 (.inl (by simpa using hj)))
    · have key : j = k ∨ (j = i ∨ s.1.getD j false = true) := by
        rcases hj with h1 | h1
        · exact .inr (.inl h1)
        · rcases (hset j).1 h1 with h2 | h2
          · exact .inl h2
          · exact .inr (.inr h2)
      rcases key with rfl | hj
      · exact .inl (by simp)
      · rcases h.all j hj with h1 | h1 | h1
        · exact .inl (List.mem_append_left _ h1)
        · exact .inr (.inl h1)
        · exact .inr (.inr fun x hx => (hset x).2 (.inr (h1 x hx)))
theorem visit_met {a k j : Nat} {s : Bf} (hs : Sound s) (h32 : k < 32) : (visit a s k).1.getD j false = true ↔ j = k ∨ s.1.getD j false = true := by
  unfold visit
  split
  · rename_i h
    exact ⟨fun h => .inr h, fun h2 => by rcases h2 with rfl | h2; exact h; exact h2⟩
  · exact met_set (by rw [hs.met]; exact h32)
theorem visits_inv {c : Nat → List Nat} {i a : Nat} (hc : ∀ a k, k ∈ c a → k < 32) (ha : a = i ∨ To c i a) : ∀ (l : List Nat) (s : Bf), (∀ k ∈ l, k ∈ c a) → Sound s → Inv c i s (· = a) → Inv c i (l.foldl (visit a) s) (· = a) ∧ ∀ j, (l.foldl (visit a) s).1.getD j false = true ↔ j ∈ l ∨ s.1.getD j false = true
  | [], s, _, _, h => ⟨h, fun j => by simp⟩
  | k :: l, s, hl, hs, h => by
    have hk := hl k (List.mem_cons_self ..)
    have h1 := visit_inv hs hk (hc a k hk) ha h
    obtain ⟨h2, h3⟩ := visits_inv hc ha l (visit a s k) (fun j hj => hl j (List.mem_cons_of_mem _ hj)) (visit_sound hs) h1
    refine ⟨h2, fun j => (h3 j).trans ?_⟩
    rw [visit_met hs (hc a k hk)]
    simp only [List.mem_cons]
    constructor
    · rintro (h | h | h)
      · exact .inl (.inr h)
      · exact .inl (.inl h)
      · exact .inr h
    · rintro ((h | h) | h)
      · exact .inr (.inl h)
      · exact .inl h
      · exact .inr (.inr h)
theorem pop_inv {c : Nat → List Nat} {i : Nat} (hc : ∀ a k, k ∈ c a → k < 32) {s : Bf} (hs : Sound s) (h : Inv c i s (fun _ => False)) : Inv c i (popB c s) (fun _ => False) := by
  cases hq : s.2.2 with
  | nil => rw [pop_nil hq]; exact h
  | cons a q =>
    rw [pop_cons hq]
    have ha : a = i ∨ To c i a := by
      rcases h.next a (by rw [hq]; exact List.mem_cons_self ..) with h1 | h1
      · exact .inl h1
      · exact .inr (h.to a h1)
    have h0 : Inv c i (s.1, s.2.1, q) (· = a) := ⟨h.to, fun k hk => h.next k (by rw [hq]; exact List.mem_cons_of_mem _ hk), fun k hk => by
      rcases h.all k hk with h1 | h1 | h1
      · rw [hq] at h1
        rcases List.mem_cons.1 h1 with h1 | h1
        · exact .inr (.inl h1)
        · exact .inl h1
      · exact h1.elim
      · exact .inr (.inr h1)⟩
    obtain ⟨h1, h2⟩ := visits_inv hc ha (c a) (s.1, s.2.1, q) (fun k hk => hk) ⟨hs.met, hs.ahead⟩ h0
    refine ⟨h1.to, h1.next, fun k hk => ?_⟩
    rcases h1.all k hk with h3 | h3 | h3
    · exact .inl h3
    · subst h3
      exact .inr (.inr fun j hj => (h2 j).2 (.inl hj))
    · exact .inr (.inr h3)
theorem run_inv {c : Nat → List Nat} {i : Nat} (hc : ∀ a k, k ∈ c a → k < 32) : ∀ (n : Nat) {s : Bf}, Sound s → Inv c i s (fun _ => False) → Inv c i (runB c n s) (fun _ => False)
  | 0, _, _, h => h
  | n + 1, _, hs, h => run_inv hc n (pop_sound hc hs).1 (pop_inv hc hs h)
theorem start_inv (c : Nat → List Nat) (i : Nat) : Inv c i (startB i) (fun _ => False) := by
  have hf : ∀ k, (startB i).1.getD k false ≠ true := fun k h => by
    simp only [startB, List.getD, List.getElem?_replicate] at h
    split at h <;> simp at h
  exact ⟨fun k h => (hf k h).elim, fun k hk => .inl (by simpa [startB] using hk), fun k h => .inl (by
    rcases h with rfl | h
    · simp [startB]
    · exact (hf k h).elim)⟩
/-- Who is met is just who is gone to. -/
theorem bfs_met {c : Nat → List Nat} (hc : ∀ a k, k ∈ c a → k < 32) (i k : Nat) : (bfs c i).1.getD k false = true ↔ To c i k := by
  have h := run_inv hc fuelB (start_sound i) (start_inv c i)
  refine ⟨h.to k, fun ht => ?_⟩
  have hd := bfs_done hc i
  have key : ∀ j, (j = i ∨ (bfs c i).1.getD j false = true) → ∀ x ∈ c j, (bfs c i).1.getD x false = true := fun j hj => by
    rcases h.all j hj with h1 | h1 | h1
    · rw [show (runB c fuelB (startB i)).2.2 = [] from hd] at h1; simp at h1
    · exact h1.elim
    · exact h1
  induction ht with
  | one h1 => exact key i (.inl rfl) _ h1
  | more _ h1 ih => exact key _ (.inr ih) _ h1
end Go.Proofs.YtlbjmkljmhfjdaaGreat
namespace Go.Proofs.YtlbjmkljmhfjdaaGreat
/-- Of two rows as long: the one comes first. -/
def lx : List Nat → List Nat → Prop
  | a :: x, b :: y => a < b ∨ (a = b ∧ lx x y)
  | _, _ => False
theorem lx_trans : ∀ {x y z : List Nat}, lx x y → lx y z → lx x z
  | [], _, _, h, _ => by simp [lx] at h
  | _ :: _, [], _, h, _ => by simp [lx] at h
  | _ :: _, _ :: _, [], _, h => by simp [lx] at h
  | a :: x, b :: y, d :: z, h, h' => by
    unfold lx at *
    rcases h with h | ⟨rfl, h⟩ <;> rcases h' with h' | ⟨rfl, h'⟩
    · exact .inl (by omega)
    · exact .inl h
    · exact .inl h'
    · exact .inr ⟨rfl, lx_trans h h'⟩
theorem lx_irrefl : ∀ {x : List Nat}, ¬ lx x x
  | [], h => by simp [lx] at h
  | a :: x, h => by
    unfold lx at h
    rcases h with h | ⟨_, h⟩
    · omega
    · exact lx_irrefl h
theorem lx_app : ∀ {x y : List Nat} (u v : List Nat), lx x y → lx (x ++ u) (y ++ v)
  | [], _, _, _, h => by simp [lx] at h
  | _ :: _, [], _, _, h => by simp [lx] at h
  | a :: x, b :: y, u, v, h => by
    unfold lx at h
    simp only [List.cons_append]
    unfold lx
    rcases h with h | ⟨rfl, h⟩
    · exact .inl h
    · exact .inr ⟨rfl, lx_app u v h⟩
theorem lx_snoc : ∀ (x : List Nat) {a b : Nat}, a < b → lx (x ++ [a]) (x ++ [b])
  | [], a, b, h => by simp [lx, h]
  | d :: x, a, b, h => by
    simp only [List.cons_append]
    unfold lx
    exact .inr ⟨rfl, lx_snoc x h⟩
def slt (x y : List Nat) : Prop := x.length < y.length ∨ (x.length = y.length ∧ lx x y)
def sle (x y : List Nat) : Prop := x = y ∨ slt x y
theorem slt_trans {x y z : List Nat} (h : slt x y) (h' : slt y z) : slt x z := by
  unfold slt at *
  rcases h with h | ⟨h, h1⟩ <;> rcases h' with h' | ⟨h', h2⟩
  · exact .inl (by omega)
  · exact .inl (by omega)
  · exact .inl (by omega)
  · exact .inr ⟨by omega, lx_trans h1 h2⟩
theorem slt_irrefl {x : List Nat} : ¬ slt x x := by
  rintro (h | ⟨_, h⟩)
  · omega
  · exact lx_irrefl h
theorem slt_app {x y : List Nat} (a b : Nat) (h : slt x y) : slt (x ++ [a]) (y ++ [b]) := by
  unfold slt at *
  simp only [List.length_append, List.length_singleton]
  rcases h with h | ⟨h, h1⟩
  · exact .inl (by omega)
  · exact .inr ⟨by omega, lx_app _ _ h1⟩
theorem slt_snoc (x : List Nat) {a b : Nat} (h : a < b) : slt (x ++ [a]) (x ++ [b]) := .inr ⟨by simp, lx_snoc x h⟩
theorem sle_trans {x y z : List Nat} (h : sle x y) (h' : sle y z) : sle x z := by
  rcases h with rfl | h
  · exact h'
  · rcases h' with rfl | h'
    · exact .inr h
    · exact .inr (slt_trans h h')
theorem sle_app {x y : List Nat} (k : Nat) (h : sle x y) : sle (x ++ [k]) (y ++ [k]) := by
  rcases h with rfl | h
  · exact .inl rfl
  · exact .inr (slt_app k k h)
theorem sle_anti {x y : List Nat} (h : sle x y) (h' : sle y x) : x = y := by
  rcases h with h | h
  · exact h
  · rcases h' with h' | h'
    · exact h'.symm
    · exact absurd (slt_trans h h') slt_irrefl
theorem sle_tail {a : Nat} {x y : List Nat} (h : sle (a :: x) (a :: y)) : sle x y := by
  rcases h with h | h | ⟨h, h1⟩
  · exact .inl (List.cons.inj h).2
  · exact .inr (.inl (by simpa using h))
  · unfold lx at h1
    rcases h1 with h1 | ⟨_, h1⟩
    · omega
    · exact .inr (.inr ⟨by simpa using h, h1⟩)
theorem sle_len {x y : List Nat} (h : sle x y) : x.length ≤ y.length := by
  rcases h with rfl | h | ⟨h, _⟩
  · exact Nat.le_refl _
  · omega
  · omega
/-- A way from the first to one. -/
inductive Walk (c : Nat → List Nat) (i : Nat) : List Nat → Nat → Prop where
  | one {k : Nat} (h : k ∈ c i) : Walk c i [i, k] k
  | more {p : List Nat} {u k : Nat} (h : Walk c i p u) (hk : k ∈ c u) : Walk c i (p ++ [k]) k
theorem Walk.head {c : Nat → List Nat} {i x k : Nat} {p : List Nat} (hx : x ∈ c i) (h : Walk c x p k) : Walk c i (i :: p) k := by
  induction h with
  | one h => exact .more (p := [i, x]) (.one hx) h
  | more _ hk ih => exact .more ih hk
theorem Walk.inv {c : Nat → List Nat} {i k : Nat} {p : List Nat} (h : Walk c i p k) : (p = [i, k] ∧ k ∈ c i) ∨ ∃ x t, p = i :: x :: t ∧ x ∈ c i ∧ 1 ≤ t.length ∧ Walk c x (x :: t) k := by
  induction h with
  | one h => exact .inl ⟨rfl, h⟩
  | more h hk ih =>
    right
    rcases ih with ⟨rfl, h1⟩ | ⟨x, t, rfl, h1, h2, h3⟩
    · exact ⟨_, _, rfl, h1, by simp, .one hk⟩
    · exact ⟨x, _, rfl, h1, by simp, .more h3 hk⟩
theorem Walk.last {c : Nat → List Nat} {i k : Nat} {p : List Nat} (h : Walk c i p k) : p.getLastD 0 = k ∧ 2 ≤ p.length := by
  induction h with
  | one _ => exact ⟨rfl, by simp⟩
  | more _ _ ih => exact ⟨by simp, by simp; omega⟩
def lst (w : List Nat) : Nat := w.getLastD 0
theorem lst_snoc (w : List Nat) (k : Nat) : lst (w ++ [k]) = k := by simp [lst]
structure Wy (c : Nat → List Nat) (i : Nat) (s : Bf) (W : Nat → List Nat) (P Q : List (List Nat)) : Prop where
  q : Q.map lst = s.2.2
  srt : (P ++ Q).Pairwise slt
  one : [i] ∈ P ++ Q
  mem : ∀ w ∈ P ++ Q, w = [i] ∨ ∃ k, s.1.getD k false = true ∧ w = W k
  way : ∀ k, s.1.getD k false = true → W k ∈ P ++ Q ∧ ∃ w ∈ P, W k = w ++ [k] ∧ lst w = s.2.1.getD k 0 ∧ (s.2.1.getD k 0 = i → w = [i]) ∧ k ∈ c (s.2.1.getD k 0)
  done : ∀ w ∈ P, ∀ j ∈ c (lst w), s.1.getD j false = true ∧ ∃ w', sle w' w ∧ W j = w' ++ [j]
structure Wz (c : Nat → List Nat) (i : Nat) (s : Bf) (W : Nat → List Nat) (P Q : List (List Nat)) (w : List Nat) (pre : List Nat) : Prop where
  q : Q.map lst = s.2.2
  srt : (P ++ w :: Q).Pairwise slt
  one : [i] ∈ P ++ w :: Q
  mem : ∀ x ∈ P ++ w :: Q, x = [i] ∨ ∃ k, s.1.getD k false = true ∧ x = W k
  way : ∀ k, s.1.getD k false = true → W k ∈ P ++ w :: Q ∧ ∃ x ∈ P ++ [w], W k = x ++ [k] ∧ lst x = s.2.1.getD k 0 ∧ (s.2.1.getD k 0 = i → x = [i]) ∧ k ∈ c (s.2.1.getD k 0)
  done : ∀ x ∈ P, ∀ j ∈ c (lst x), s.1.getD j false = true ∧ ∃ w', sle w' x ∧ W j = w' ++ [j]
  seen : ∀ j ∈ pre, s.1.getD j false = true ∧ ∃ w', sle w' w ∧ W j = w' ++ [j]
  new : ∀ k, s.1.getD k false = true → W k = w ++ [k] → k ∈ pre
theorem aheadset {l : List Nat} {k j a : Nat} (hk : k < l.length) : (l.set k a).getD j 0 = if j = k then a else l.getD j 0 := by
  simp only [List.getD, List.getElem?_set]
  by_cases e : k = j
  · subst e; simp [hk]
  · rw [if_neg e, if_neg (fun h => e h.symm)]
theorem Wz.before {c : Nat → List Nat} {i : Nat} {s : Bf} {W : Nat → List Nat} {P Q : List (List Nat)} {w : List Nat} {pre : List Nat} (h : Wz c i s W P Q w pre) {x : List Nat} (hx : x ∈ P ++ [w]) : sle x w := by
  rcases List.mem_append.1 hx with hx | hx
  · exact .inr ((List.pairwise_append.1 h.srt).2.2 x hx w (List.mem_cons_self ..))
  · exact .inl (by simpa using hx)
theorem Wz.long {c : Nat → List Nat} {i : Nat} {s : Bf} {W : Nat → List Nat} {P Q : List (List Nat)} {w : List Nat} {pre : List Nat} (h : Wz c i s W P Q w pre) : w = [i] ∨ (1 ≤ w.length ∧ w ≠ [i] ∧ [i] ∈ P) := by
  by_cases e : w = [i]
  · exact .inl e
  · right
    have hw1 : 1 ≤ w.length := by
      rcases h.mem w (by simp) with h1 | ⟨k, hk, rfl⟩
      · exact absurd h1 e
      · obtain ⟨_, x, _, e2, _⟩ := h.way k hk
        rw [e2]; simp
    refine ⟨hw1, e, ?_⟩
    rcases List.mem_append.1 h.one with h1 | h1
    · exact h1
    · rcases List.mem_cons.1 h1 with h1 | h1
      · exact absurd h1.symm e
      · exfalso
        have hs := (List.pairwise_cons.1 (List.pairwise_append.1 h.srt).2.1).1 [i] h1
        rcases h.mem w (by simp) with h2 | ⟨k, hk, h2⟩
        · exact e h2
        · obtain ⟨_, x, hx, e2, _⟩ := h.way k hk
          have hx1 : x ≠ [] := by
            intro ex
            have := h.before hx
            rw [ex] at e2
            rcases h.mem x (by
              rcases List.mem_append.1 hx with hx | hx
              · exact List.mem_append_left _ hx
              · rw [List.mem_singleton.1 hx]; simp) with h3 | ⟨k', hk', h3⟩
            · rw [ex] at h3; cases h3
            · obtain ⟨_, x', _, e4, _⟩ := h.way k' hk'
              rw [ex, e4] at h3
              simp at h3
          have : 2 ≤ w.length := by
            rw [h2, e2]
            have := List.length_pos_iff.2 hx1
            simp; omega
          rcases hs with hs | ⟨hs, _⟩
          · rw [List.length_singleton] at hs; omega
          · rw [List.length_singleton] at hs; omega
theorem visit_way {c : Nat → List Nat} {i j : Nat} {s : Bf} {W : Nat → List Nat} {P Q : List (List Nat)} {w : List Nat} {pre : List Nat} (hs : Sound s) (h32 : j < 32) (hj : j ∈ c (lst w)) (hp : ∀ k ∈ pre, k < j) (h : Wz c i s W P Q w pre) : ∃ W' Q', Wz c i (visit (lst w) s j) W' P Q' w (pre ++ [j]) := by
  unfold visit
  split
  · rename_i hm
    refine ⟨W, Q, h.q, h.srt, h.one, h.mem, h.way, h.done, fun k hk => ?_, fun k hk e => List.mem_append_left _ (h.new k hk e)⟩
    rcases List.mem_append.1 hk with hk | hk
    · exact h.seen k hk
    · obtain rfl : k = j := by simpa using hk
      obtain ⟨_, x, hx, e, _⟩ := h.way k hm
      exact ⟨hm, x, h.before hx, e⟩
  · rename_i hn
    have hf : s.1.getD j false = false := by simpa using hn
    have hset := fun k => met_set (m := s.1) (k := j) (j := k) (by rw [hs.met]; exact h32)
    have hne : ∀ k, s.1.getD k false = true → k ≠ j := fun k hk e => by rw [e, hf] at hk; cases hk
    have hah := fun k => aheadset (l := s.2.1) (k := j) (j := k) (a := lst w) (by rw [hs.ahead]; exact h32)
    have hold : ∀ k, s.1.getD k false = true → (if k = j then w ++ [j] else W k) = W k := fun k hk => if_neg (hne k hk)
    have key : ∀ k, (s.1.set j true).getD k false = true → k = j ∨ s.1.getD k false = true := fun k hk => (hset k).1 hk
    have hlong := h.long
    refine ⟨fun k => if k = j then w ++ [j] else W k, Q ++ [w ++ [j]], ?_, ?_, ?_, ?_, ?_, ?_, ?_, ?_⟩
    · show (Q ++ [w ++ [j]]).map lst = s.2.2 ++ [j]
      rw [List.map_append, h.q, List.map_singleton, lst_snoc]
    · rw [show P ++ w :: (Q ++ [w ++ [j]]) = (P ++ w :: Q) ++ [w ++ [j]] by simp]
      refine List.pairwise_append.2 ⟨h.srt, List.pairwise_singleton _ _, fun x hx y hy => ?_⟩
      obtain rfl : y = w ++ [j] := by simpa using hy
      rcases h.mem x hx with rfl | ⟨k, hk, rfl⟩
      · refine .inl ?_
        rcases hlong with e | ⟨e, _⟩
        · rw [e]; simp
        · simp; omega
      · obtain ⟨_, x, hx2, e, _⟩ := h.way k hk
        rcases List.mem_append.1 hx2 with hx3 | hx3
        · rw [e]
          exact slt_app _ _ ((List.pairwise_append.1 h.srt).2.2 x hx3 w (List.mem_cons_self ..))
        · obtain rfl : x = w := by simpa using hx3
          rw [e]
          exact slt_snoc _ (hp k (h.new k hk e))
    · rw [show P ++ w :: (Q ++ [w ++ [j]]) = (P ++ w :: Q) ++ [w ++ [j]] by simp]
      exact List.mem_append_left _ h.one
    · intro x hx
      rw [show P ++ w :: (Q ++ [w ++ [j]]) = (P ++ w :: Q) ++ [w ++ [j]] by simp] at hx
      rcases List.mem_append.1 hx with hx | hx
      · rcases h.mem x hx with h1 | ⟨k, hk, h1⟩
        · exact .inl h1
        · exact .inr ⟨k, (hset k).2 (.inr hk), by rw [h1]; exact (hold k hk).symm⟩
      · exact .inr ⟨j, (hset j).2 (.inl rfl), by simpa using hx⟩
    · intro k hk
      show (if k = j then w ++ [j] else W k) ∈ P ++ w :: (Q ++ [w ++ [j]]) ∧ ∃ x ∈ P ++ [w], (if k = j then w ++ [j] else W k) = x ++ [k] ∧ lst x = (s.2.1.set j (lst w)).getD k 0 ∧ ((s.2.1.set j (lst w)).getD k 0 = i → x = [i]) ∧ k ∈ c ((s.2.1.set j (lst w)).getD k 0)
      rw [show P ++ w :: (Q ++ [w ++ [j]]) = (P ++ w :: Q) ++ [w ++ [j]] by simp, hah k]
      by_cases e : k = j
      · subst e
        rw [if_pos rfl, if_pos rfl]
        refine ⟨by simp, w, by simp, rfl, rfl, fun hi => ?_, hj⟩
        rcases hlong with e | ⟨_, _, e⟩
        · exact e
        · have := (h.done [i] e k (by rw [show lst [i] = i from rfl, ← hi]; exact hj)).1
          rw [hf] at this; cases this
      · rw [if_neg e, if_neg e]
        have hk2 := (key k hk).resolve_left e
        obtain ⟨h1, x, hx, h2⟩ := h.way k hk2
        exact ⟨List.mem_append_left _ h1, x, hx, h2⟩
    · intro x hx k hk
      obtain ⟨h1, w', h2, h3⟩ := h.done x hx k hk
      exact ⟨(hset k).2 (.inr h1), w', h2, by rw [← h3]; exact hold k h1⟩
    · intro k hk
      rcases List.mem_append.1 hk with hk | hk
      · obtain ⟨h1, w', h2, h3⟩ := h.seen k hk
        exact ⟨(hset k).2 (.inr h1), w', h2, by rw [← h3]; exact hold k h1⟩
      · obtain rfl : k = j := by simpa using hk
        exact ⟨(hset k).2 (.inl rfl), w, .inl rfl, if_pos rfl⟩
    · intro k hk e
      by_cases ek : k = j
      · rw [ek]; simp
      · have hk2 := (key k hk).resolve_left ek
        have e2 : (if k = j then w ++ [j] else W k) = w ++ [k] := e
        rw [if_neg ek] at e2
        exact List.mem_append_left _ (h.new k hk2 e2)
theorem visits_way {c : Nat → List Nat} {i : Nat} {P : List (List Nat)} {w : List Nat} (hc : ∀ a k, k ∈ c a → k < 32) : ∀ (l : List Nat) (s : Bf) (W : Nat → List Nat) (Q : List (List Nat)) (pre : List Nat), Sound s → c (lst w) = pre ++ l → (pre ++ l).Pairwise (· < ·) → Wz c i s W P Q w pre → ∃ W' Q', Wz c i (l.foldl (visit (lst w)) s) W' P Q' w (c (lst w))
  | [], s, W, Q, pre, hs, e, _, h => ⟨W, Q, by rw [e, List.append_nil]; exact h⟩
  | j :: l, s, W, Q, pre, hs, e, hp, h => by
    have hj : j ∈ c (lst w) := by rw [e]; simp
    obtain ⟨W', Q', h1⟩ := visit_way hs (hc _ _ hj) hj (fun k hk => (List.pairwise_append.1 hp).2.2 k hk j (List.mem_cons_self ..)) h
    exact visits_way hc l (visit (lst w) s j) W' Q' (pre ++ [j]) (visit_sound hs) (by rw [e]; simp) (by simpa using hp) h1
theorem pop_way {c : Nat → List Nat} {i : Nat} (hc : ∀ a k, k ∈ c a → k < 32) (hr : ∀ a, (c a).Pairwise (· < ·)) {s : Bf} (hs : Sound s) (h : ∃ W P Q, Wy c i s W P Q) : ∃ W P Q, Wy c i (popB c s) W P Q := by
  obtain ⟨W, P, Q, h⟩ := h
  cases hq : s.2.2 with
  | nil => rw [pop_nil hq]; exact ⟨W, P, Q, h⟩
  | cons a q =>
    rw [pop_cons hq]
    have hQ := h.q
    rw [hq] at hQ
    cases Q with
    | nil => simp at hQ
    | cons w Q =>
      simp only [List.map_cons, List.cons.injEq] at hQ
      obtain ⟨rfl, hQ⟩ := hQ
      have hz : Wz c i (s.1, s.2.1, q) W P Q w [] := ⟨hQ, h.srt, h.one, h.mem, fun k hk => by
          obtain ⟨h1, x, hx, h2⟩ := h.way k hk
          exact ⟨h1, x, List.mem_append_left _ hx, h2⟩, h.done, fun j hj => by simp at hj, fun k hk e => by
          obtain ⟨_, x, hx, h2, _⟩ := h.way k hk
          rw [h2] at e
          have e2 := (List.append_inj' e rfl).1
          subst e2
          exact absurd ((List.pairwise_append.1 h.srt).2.2 x hx x (List.mem_cons_self ..)) slt_irrefl⟩
      obtain ⟨W', Q', h1⟩ := visits_way hc (c (lst w)) (s.1, s.2.1, q) W Q [] ⟨hs.met, hs.ahead⟩ rfl (by simpa using hr _) hz
      have e : P ++ w :: Q' = (P ++ [w]) ++ Q' := by simp
      refine ⟨W', P ++ [w], Q', h1.q, by rw [← e]; exact h1.srt, by rw [← e]; exact h1.one, by rw [← e]; exact h1.mem, fun k hk => ?_, fun x hx => ?_⟩
      · rw [← e]; exact h1.way k hk
      · rcases List.mem_append.1 hx with hx | hx
        · exact h1.done x hx
        · obtain rfl : x = w := by simpa using hx
          exact h1.seen
theorem run_way {c : Nat → List Nat} {i : Nat} (hc : ∀ a k, k ∈ c a → k < 32) (hr : ∀ a, (c a).Pairwise (· < ·)) : ∀ (n : Nat) {s : Bf}, Sound s → (∃ W P Q, Wy c i s W P Q) → ∃ W P Q, Wy c i (runB c n s) W P Q
  | 0, _, _, h => h
  | n + 1, _, hs, h => run_way hc hr n (pop_sound hc hs).1 (pop_way hc hr hs h)
theorem start_way (c : Nat → List Nat) (i : Nat) : ∃ W P Q, Wy c i (startB i) W P Q := by
  have hf : ∀ k, (startB i).1.getD k false ≠ true := fun k h => by
    simp only [startB, List.getD, List.getElem?_replicate] at h
    split at h <;> simp at h
  exact ⟨fun _ => [], [], [[i]], rfl, by simp, by simp, fun w hw => .inl (by simpa using hw), fun k h => (hf k h).elim, fun w hw => by simp at hw⟩
/-- What is found: of each that was met its way, the least one. -/
theorem bfs_way {c : Nat → List Nat} (hc : ∀ a k, k ∈ c a → k < 32) (hr : ∀ a, (c a).Pairwise (· < ·)) (i : Nat) : ∃ W : Nat → List Nat,
    (∀ k, (bfs c i).1.getD k false = true → W k = (if (bfs c i).2.1.getD k 0 = i then [i] else W ((bfs c i).2.1.getD k 0)) ++ [k] ∧ Walk c i (W k) k) ∧ ∀ p k, Walk c i p k → (bfs c i).1.getD k false = true ∧ sle (W k) p := by
  obtain ⟨W, P, Q, h⟩ := run_way hc hr fuelB (start_sound i) (start_way c i)
  have hd := bfs_done hc i
  change Wy c i (bfs c i) W P Q at h
  have hQ : Q = [] := by
    have := h.q
    rw [hd] at this
    exact List.map_eq_nil_iff.1 this
  subst hQ
  have hone : [i] ∈ P := by simpa using h.one
  have hstep : ∀ k, (bfs c i).1.getD k false = true → ∃ w, W k = w ++ [k] ∧ k ∈ c ((bfs c i).2.1.getD k 0) ∧ w = (if (bfs c i).2.1.getD k 0 = i then [i] else W ((bfs c i).2.1.getD k 0)) ∧ ((bfs c i).2.1.getD k 0 ≠ i → (bfs c i).1.getD ((bfs c i).2.1.getD k 0) false = true) := fun k hk => by
    obtain ⟨_, w, hw, h1, h2, h3, h4⟩ := h.way k hk
    refine ⟨w, h1, h4, ?_⟩
    by_cases e : (bfs c i).2.1.getD k 0 = i
    · rw [if_pos e]; exact ⟨h3 e, fun h => (h e).elim⟩
    · rw [if_neg e]
      rcases h.mem w (by simpa using hw) with h5 | ⟨k', hk', h5⟩
      · rw [h5] at h2
        exact absurd h2.symm e
      · obtain ⟨_, w', _, h6, _⟩ := h.way k' hk'
        have : lst w = k' := by rw [h5, h6]; exact lst_snoc _ _
        have e2 : (bfs c i).2.1.getD k 0 = k' := by rw [← h2, this]
        rw [e2]
        exact ⟨h5, fun _ => hk'⟩
  have hwalk : ∀ (n k : Nat), (W k).length ≤ n → (bfs c i).1.getD k false = true → Walk c i (W k) k := by
    intro n
    induction n with
    | zero =>
      intro k hn hk
      obtain ⟨w, h1, _⟩ := hstep k hk
      rw [h1] at hn
      simp at hn
    | succ n ih =>
      intro k hn hk
      obtain ⟨w, h1, h2, h3, h4⟩ := hstep k hk
      rw [h1]
      by_cases e : (bfs c i).2.1.getD k 0 = i
      · rw [if_pos e] at h3
        rw [h3]
        rw [e] at h2
        exact .one h2
      · rw [if_neg e] at h3
        rw [h1] at hn
        rw [h3]
        exact .more (ih _ (by rw [← h3]; simp at hn; omega) (h4 e)) h2
  refine ⟨W, fun k hk => ?_, fun p k hp => ?_⟩
  · obtain ⟨w, h1, h2, h3, h4⟩ := hstep k hk
    exact ⟨by rw [← h3]; exact h1, hwalk _ k (Nat.le_refl _) hk⟩
  · induction hp with
    | one hk =>
      obtain ⟨h1, w', h2, h3⟩ := h.done [i] hone _ (show _ ∈ c (lst [i]) from hk)
      exact ⟨h1, by rw [h3]; exact sle_app _ h2⟩
    | @more p u k _ hk ih =>
      obtain ⟨h1, h2⟩ := ih
      obtain ⟨h3, w, _, h4, _⟩ := h.way _ h1
      have hl : lst (W u) = u := by rw [h4]; exact lst_snoc _ _
      obtain ⟨h5, w', h6, h7⟩ := h.done _ (by simpa using h3) _ (by rw [hl]; exact hk)
      exact ⟨h5, by rw [h7]; exact sle_app _ (sle_trans h6 h2)⟩
end Go.Proofs.YtlbjmkljmhfjdaaGreat
namespace Go.Proofs.YtlbjmkljmhfjdaaGreat
open Go Go.RowKit
def ncells : List Nd → List Value
  | [] => []
  | x :: l => x.cells ++ ncells l
theorem ncells_length : ∀ l : List Nd, (ncells l).length = l.length * 9
  | [] => rfl
  | x :: l => by simp [ncells, ncells_length l, Nd.cells]; omega
theorem ncells_app : ∀ (l : List Nd) (x : Nd), ncells (l ++ [x]) = ncells l ++ x.cells
  | [], x => by simp [ncells]
  | y :: l, x => by simp [ncells, ncells_app l x]
theorem ncells_at : ∀ (l : List Nd) (i j : Nat), i < l.length → j < 9 → (ncells l)[i * 9 + j]? = (l.getD i Nd.zero).cells[j]?
  | [], i, j, h, _ => by simp at h
  | x :: l, 0, j, h, hj => by
    rw [ncells, List.getElem?_append_left (by simp [Nd.cells]; omega)]
    simp
  | x :: l, i + 1, j, h, hj => by
    have := ncells_at l i j (by simpa using h) hj
    rw [ncells, List.getElem?_append_right (by simp [Nd.cells]; omega)]
    rw [show (i + 1) * 9 + j - x.cells.length = i * 9 + j by simp [Nd.cells]; omega, this]
    simp
theorem own_nodes {w : World} {base e c : Nat} {A : Option Addr} {l : List Nd} (h : w.ownsRow base e 9 (.slice A l.length c) l.length (ncells l)) : Nodes w A l := by
  intro h0
  rcases h.2 with ⟨h1, h2⟩ | ⟨g, cap, cur, h1, hbg, hgg, rest⟩
  · omega
  · simp only [Value.slice.injEq] at h1
    obtain ⟨rfl, _, rfl⟩ := h1
    refine ⟨g, 0, rfl, (Array.getElem?_eq_some_iff.1 hgg).1, fun i hi j hj => ?_⟩
    have q := ncells_at l i j hi hj
    have hc : j < (l.getD i Nd.zero).cells.length := by simp [Nd.cells]; omega
    rw [List.getElem?_eq_getElem hc] at q ⊢
    have q0 := h.cells (g := g) rfl _ _ q
    rw [Addr.add_lit] at q0
    rw [← Nat.add_assoc] at q0
    exact q0
/-- The same node, but for where its kids lie. -/
def Twin (x y : Nd) : Prop := ∃ A c, y = x.at_ A c
/-- A node's kids lie in a row of the call's own. -/
def Kid (w : World) (B : Nat) (o : Value) (x : Nd) : Prop := w.ownsRow B 3 1 (.slice x.A x.kids.length x.cap) x.kids.length (ints x.kids) ∧ (x.A = none → x.cap = 0) ∧ ∀ a, x.A = some a → o.ownBlock ≠ some a.block
theorem Kid.below {w w' : World} {B : Nat} {o : Value} {x : Nd} (h : Kid w B o x) (hb : Below w.heap.size w w') : Kid w' B o x := ⟨own_below h.1 hb, h.2⟩
theorem Kid.grown {w w' : World} {B : Nat} {o o' : Value} {x : Nd} (h : Kid w B o x) (hg : w.grownBy w' o.ownBlock) (hf : ∀ k, o'.ownBlock = some k → o.ownBlock = some k ∨ w.heap.size ≤ k) : Kid w' B o' x := by
  obtain ⟨h1, h2, h3⟩ := h
  refine ⟨h1.kept hg ?_, h2, fun a ha e => ?_⟩
  · cases hA : x.A with
    | none => exact .inl rfl
    | some a => exact .inr (fun e => h3 a hA e.symm)
  · rcases hf _ e with e | e
    · exact h3 a ha e
    · have := (h1.lt a.block (by rw [ha]; rfl)).2
      omega
theorem cells_one (x : Nd) : ∀ u ∈ x.cells, u.oneCell' = true := by
  intro u hu
  simp only [Nd.cells, List.mem_cons, List.not_mem_nil, or_false] at hu
  rcases hu with rfl | rfl | rfl | rfl | rfl | rfl | rfl | rfl | rfl <;> rfl
theorem new_news (w : World) (vs : List Value) (T : TypeId) : ∀ a, some (⟨w.heap.size, 0, none⟩ : Addr) = some a → ∀ j u, vs[j]? = some u → (w.alloc (.cells vs.toArray T)).cell? (a.add j) = some u := by
  intro a ha j u hu
  obtain rfl := Option.some.inj ha
  rw [Addr.add_lit, Nat.zero_add, (Blk.new w _ _).cell]
  simpa using hu
set_option maxRecDepth 100000 in
set_option maxHeartbeats 4000000 in
theorem copyNodes_any (A : Option Addr) (l : List Nd) (c : Nat) (hl : l.length ≤ 1000000) (w : World) (h : Nodes w A l) (hx : ∀ x ∈ l, Nd.At w x ∧ x.kids.length ≤ 1000000) :
    Calls Tryz.prog 198 #[.slice A l.length c] w fun e w' => ∃ A' c', e = .returned (.slice A' l.length c') ∧ ∃ cl : List Nd, cl.length = l.length ∧ (∀ j, j < l.length → Twin (l.getD j Nd.zero) (cl.getD j Nd.zero)) ∧ w'.ownsRow w.heap.size 40 9 (.slice A' l.length c') l.length (ncells cl) ∧ (∀ x ∈ cl, Kid w' w.heap.size (.slice A' l.length c') x) ∧ (A' = none → c' = 0) ∧ Below w.heap.size w w' := by
  obtain ⟨i0, hi, hz0, hz1, hz2⟩ := info_parts Tryz.info40
  have HN := Lib.hid h
  have HX := Lib.hid hx
  obtain ⟨m, em⟩ : ∃ m, m = l.length := ⟨_, rfl⟩
  have EM := Lib.hid em
  rw [← em] at hl ⊢
  clear h hx em
  go_enter Tryz.func198, Tryz.ntmps198
  go_wp2_with fail
  go_loopw [4, 3] (fun i o wr => ∃ (k : Nat) (cl : List Nd), k ≤ m ∧ i = .int .i64 k ∧ cl.length = k ∧ (∀ j, j < k → Twin (l.getD j Nd.zero) (cl.getD j Nd.zero)) ∧ wr.ownsRow w.heap.size 40 9 o k (ncells cl) ∧ (∀ x ∈ cl, Kid wr w.heap.size o x) ∧ Below w.heap.size w wr) (fun i _ _ => m - (intOf i).toNat)
  case atStart => exact ⟨0, [], by omega, rfl, rfl, fun j hj => by omega, World.ownsRow_nil _ _ _ _, by simp, Below.refl _ _⟩
  case round =>
    obtain ⟨k, cl, hk, rfl, hcl, htw, hown, hkid, hbl⟩ := hrel
    obtain ⟨O, oc, rfl, hOn, _⟩ := own_slice hown
    have HTW := Lib.hid htw
    have HOWN := Lib.hid hown
    have HKID := Lib.hid hkid
    have BL := Lib.hid hbl
    have HCL := Lib.hid hcl
    have HON := Lib.hid hOn
    clear htw hown hkid hbl hcl hOn
    by_cases hlt : k < m
    · have hlt2 : (k : Int) < m := by omega
      have hkl : k < l.length := by have := EM.out; omega
      obtain ⟨hat, hks⟩ := HX.out _ (getD_mem hkl)
      obtain ⟨b1, o1, eA, _, n1, n2, n3, n4, n5, n6, n7, n8, n9⟩ := (HN.out.below BL.out).nine hkl
      generalize hxx : l.getD k Nd.zero = x at hat hks n1 n2 n3 n4 n5 n6 n7 n8 n9
      have HXX := Lib.hid hxx
      have CN := Lib.hid (copyNode_any x hks wr (hat.below BL.out))
      rw [eA]
      clear hxx hat hks eA
      go_wp2_with (first | (go_at_call 232; refine CN.out.mono ?_; rintro e w1 ⟨A1, c1, rfl, ho, hnn, hb⟩; have HO := Lib.hid ho; have HNN := Lib.hid hnn; have H1 := Lib.hid hb; clear ho hnn hb n1 n2 n3 n4 n5 n6 n7 n8 n9) | (refine wpList_store_whole rfl 40 (.tmp 5) (.tmp 16) rfl w1.heap.size (x.at_ A1 c1).cells.toArray rfl rfl 40 _ (Blk.new _ _ _) (by kernel_rfl) (by rfl) (by simp [Nd.cells, Value.oneCell']) ?_; intro w2 hk2 hg; have H2 := Lib.hid (grown_below (B1 w1 _) (by simp) hg (fun k e => by cases e; exact Nat.le_refl _)); have d0 := hk2.cell 0; have d1 := hk2.cell 1; have d2 := hk2.cell 2; have d3 := hk2.cell 3; have d4 := hk2.cell 4; have d5 := hk2.cell 5; have d6 := hk2.cell 6; have d7 := hk2.cell 7; have d8 := hk2.cell 8; simp only [Nd.cells, List.getElem?_toArray, List.getElem?_cons_zero, List.getElem?_cons_succ] at d0 d1 d2 d3 d4 d5 d6 d7 d8; clear hk2 hg) | (at_builtin; refine wpList_append_onto _ rfl (.tmp 17) (.tmp 19) 23 rfl w.heap.size 40 i0 Nd.zero.val 9 96 Tryz.underlying23 hi hz0 hz1 hz2 rfl (by decide) (.slice O k oc) k (ncells cl) rfl (own_below (own_below (own_below HOWN.out H1.out) H2.out) (B1 w2 _)) (some ⟨w2.heap.size, 0, none⟩) 1 1 (x.at_ A1 c1).cells rfl rfl (new_news w2 (x.at_ A1 c1).cells 40) (fun h => nomatch h) (cells_one _) (by unfold maxLen; omega) (by omega) (by have := BL.out.size; have := H1.out.size; have := H2.out.size; simp; omega) ?_; intro v1 w4 ho hg hf; have HO4 := Lib.hid ho; have HG4 := Lib.hid hg; have HF4 := Lib.hid hf; clear ho hg hf))
      have HK1 : Kid w1 w.heap.size (.slice O k oc) (x.at_ A1 c1) := ⟨own_lower HO.out BL.out.size, HNN.out, fun a ha e => by
        have q1 := (HOWN.out.lt _ e).2
        have q2 := (HO.out.lt a.block (by dsimp only [Nd.at_] at ha; rw [ha]; rfl)).1
        omega⟩
      have B4 : Below w.heap.size w (w2.alloc (.cells (x.at_ A1 c1).cells.toArray 40)) := bb (bb (bb BL.out H1.out) H2.out) (B1 w2 _)
      have tk : ∀ y, Kid w1 w.heap.size (.slice O k oc) y → Kid w4 w.heap.size v1 y := fun y hy => ((hy.below H2.out).below (B1 w2 _)).grown HG4.out HF4.out
      refine ⟨⟨k + 1, cl ++ [x.at_ A1 c1], by omega, by go_num, by simp [HCL.out], fun j hj => ?_, by rw [ncells_app]; exact HO4.out, fun y hy => ?_, grown_below B4 B4.size HG4.out (fun q e => (HOWN.out.lt q e).1)⟩, by simp [intOf]; omega⟩
      · by_cases ej : j = k
        · subst ej
          rw [HXX.out, List.getD, List.getElem?_append_right (by rw [HCL.out]; omega), HCL.out]
          simp
          exact ⟨A1, c1, rfl⟩
        · have := HTW.out j (by omega)
          rw [List.getD, List.getD] at this ⊢
          rw [List.getElem?_append_left (by rw [HCL.out]; omega)]
          exact this
      · rcases List.mem_append.1 hy with hy | hy
        · exact tk y ((HKID.out y hy).below H1.out)
        · simp at hy
          subst hy
          exact tk _ HK1
    · obtain rfl : k = m := by omega
      have hlt2 : ¬ (k : Int) < k := by omega
      go_wp2_with fail
      go_ret
      exact ⟨O, oc, rfl, cl, HCL.out, HTW.out, HOWN.out, HKID.out, (fun e => (HON.out e).2), BL.out⟩
theorem nodes_none {w : World} {A : Option Addr} {l : List Nd} (h : Nodes w A l) (hA : A = none) : l.length = 0 := by
  by_cases h0 : 0 < l.length
  · obtain ⟨b, o, e, _⟩ := h h0; rw [hA] at e; cases e
  · omega
/-- The same grammar, but for where it lies. -/
structure GTwin (g h : Gr) : Prop where
  rules : h.rules = g.rules
  len : h.nodes.length = g.nodes.length
  node : ∀ j, j < g.nodes.length → Twin (g.nodes.getD j Nd.zero) (h.nodes.getD j Nd.zero)
theorem own_blk {w w' : World} {B e size n b : Nat} {v : Value} {xs : List Value} (h : w.ownsRow B e size v n xs) (hb : b < B) (hg : w.grownBy w' (some b)) : w'.ownsRow B e size v n xs := by
  refine h.kept hg ?_
  cases hv : v.ownBlock with
  | none => exact .inl rfl
  | some k => exact .inr (fun e => by have := (h.lt k hv).1; cases e; omega)
theorem Kid.blk {w w' : World} {B b : Nat} {o : Value} {x : Nd} (h : Kid w B o x) (hb : b < B) (hg : w.grownBy w' (some b)) : Kid w' B o x := ⟨own_blk h.1 hb hg, h.2⟩
theorem GTwin.mem {g h : Gr} (t : GTwin g h) {x : Nd} (hx : x ∈ h.nodes) : ∃ y ∈ g.nodes, Twin y x := by
  obtain ⟨j, hj, rfl⟩ := List.getElem_of_mem hx
  have hj2 : j < g.nodes.length := by rw [← t.len]; exact hj
  refine ⟨g.nodes[j], List.getElem_mem hj2, ?_⟩
  have := t.node j hj2
  simpa [List.getD, List.getElem?_eq_getElem hj, List.getElem?_eq_getElem hj2] using this
theorem GTwin.within {g h : Gr} (t : GTwin g h) (hi : Gr.In g) : Gr.In h := by
  intro x hx
  obtain ⟨y, hy, A, c, rfl⟩ := t.mem hx
  exact ⟨(hi y hy).kind, (hi y hy).text⟩
theorem GTwin.lies {w w' : World} {g h : Gr} (t : GTwin g h) (hg : Gr.At w g) (h1 : Rules w' h.RA h.rules) (h2 : Nodes w' h.NA h.nodes) (h3 : ∀ x ∈ h.nodes, Lies w' x.A (ints x.kids) ∧ (x.A = none → x.cap = 0)) (h4 : h.RA = none → h.rc = 0) (h5 : h.NA = none → h.nc = 0) : Gr.At w' h where
  rules := h1
  nodes := h2
  kids := fun x hx => by
    refine ⟨(h3 x hx).1, (h3 x hx).2, ?_⟩
    obtain ⟨y, hy, A, c, rfl⟩ := t.mem hx
    exact (hg.kids y hy).2.2
  rl := by rw [t.rules]; exact hg.rl
  nl := by rw [t.len]; exact hg.nl
  rn := h4
  nn := h5
  texts := fun x hx => by
    obtain ⟨y, hy, A, c, rfl⟩ := t.mem hx
    exact hg.texts y hy
  names := by rw [t.rules]; exact hg.names
end Go.Proofs.YtlbjmkljmhfjdaaGreat

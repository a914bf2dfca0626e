/- The nodes at a node's own place, plainly; whom a node calls there; whom a rule goes to. Nothing here speaks of a program. -/
import Derived.Test.YtjelgmdjmjnnfaaB1
set_option linter.unusedSimpArgs false
set_option linter.unusedVariables false
namespace Go.Proofs.Ytjelgmdjmjnnfaa
/-- Kids up to the first that may not match nothing. -/
def upTo (may : Int → Bool) : List Int → List Int
  | [] => []
  | k :: r => k :: (if may k then upTo may r else [])
theorem upTo_all {may : Int → Bool} : ∀ {l : List Int}, (∀ k ∈ l, may k = true) → upTo may l = l
  | [], _ => rfl
  | k :: r, h => by
    unfold upTo
    rw [if_pos (h k (List.mem_cons_self ..)), upTo_all fun j hj => h j (List.mem_cons_of_mem _ hj)]
theorem upTo_at {may : Int → Bool} : ∀ (l : List Int) (j : Nat), j < l.length → (∀ i, i < j → may (l.getD i 0) = true) → may (l.getD j 0) = false → upTo may l = l.take (j + 1)
  | [], j, h, _, _ => by simp at h
  | k :: r, 0, _, _, h => by
    have h2 : may k = false := h
    simp [upTo, h2]
  | k :: r, j + 1, h1, h2, h3 => by
    have hk : may k = true := h2 0 (by omega)
    unfold upTo
    rw [if_pos hk, upTo_at r j (by simpa using h1) (fun i hi => h2 (i + 1) (by omega)) h3]
    rfl
theorem upTo_sub {may : Int → Bool} : ∀ (l : List Int), (upTo may l).Sublist l
  | [] => List.Sublist.slnil
  | k :: r => by
    unfold upTo
    split
    · exact (upTo_sub r).cons_cons k
    · exact (List.nil_sublist r).cons_cons k
/-- The kids of a node that stand at its place. -/
def fsts (x : Nd) (may : Int → Bool) : List Int := if x.kind = 6 then upTo may x.kids else x.kids
theorem fsts_sub (x : Nd) (may : Int → Bool) : (fsts x may).Sublist x.kids := by
  unfold fsts
  split
  · exact upTo_sub _
  · exact List.Sublist.refl _
theorem fsts_mem {x : Nd} {may : Int → Bool} {k : Int} (h : k ∈ fsts x may) : k ∈ x.kids := (fsts_sub x may).subset h
def ownF (l : List Nd) (may : Int → Bool) : Nat → Int → List Int
  | 0, _ => []
  | f + 1, n => n :: (fsts (l.getD n.toNat Nd.zero) may).flatMap (ownF l may f)
/-- The nodes at a node's own place. -/
def ownN (l : List Nd) (may : Int → Bool) (n : Int) : List Int := ownF l may (l.length - n.toNat) n
theorem flatMap_same {f g : Int → List Int} : ∀ {l : List Int}, (∀ k ∈ l, f k = g k) → l.flatMap f = l.flatMap g
  | [], _ => rfl
  | a :: l, h => by
    simp only [List.flatMap_cons]
    rw [h a (List.mem_cons_self ..), flatMap_same fun k hk => h k (List.mem_cons_of_mem _ hk)]
theorem ownF_fuel {l : List Nd} (hl : KidsUp l) (may : Int → Bool) : ∀ (f f' : Nat) (n : Int), 0 ≤ n → n < l.length → (l.length : Int) - n ≤ f → (l.length : Int) - n ≤ f' → ownF l may f n = ownF l may f' n
  | 0, f', n, h0, h1, h2, _ => by omega
  | f + 1, 0, n, h0, h1, _, h2 => by omega
  | f + 1, f' + 1, n, h0, h1, h2, h3 => by
    unfold ownF
    rw [flatMap_same fun k hk => ?_]
    have := hl n.toNat (by omega) k (fsts_mem hk)
    exact ownF_fuel hl may f f' k (by omega) (by omega) (by omega) (by omega)
theorem ownN_eq {l : List Nd} (hl : KidsUp l) (may : Int → Bool) {n : Int} (h0 : 0 ≤ n) (h1 : n < l.length) : ownN l may n = n :: (fsts (l.getD n.toNat Nd.zero) may).flatMap (ownN l may) := by
  unfold ownN
  obtain ⟨f, ef⟩ : ∃ f, l.length - n.toNat = f + 1 := ⟨l.length - n.toNat - 1, by omega⟩
  rw [ef]
  show n :: _ = _
  rw [flatMap_same fun k hk => ?_]
  have := hl n.toNat (by omega) k (fsts_mem hk)
  exact ownF_fuel hl may _ _ k (by omega) (by omega) (by omega) (by omega)
/-- What stands at a node's own place lies in it, and rises. -/
structure Rises (a : List Int) (lo hi : Int) : Prop where
  each : ∀ k ∈ a, lo ≤ k ∧ k < hi
  rise : a.Pairwise (· < ·)
theorem Rises.app {a b : List Int} {lo mid hi : Int} (h : Rises a lo mid) (k : Rises b mid hi) (h1 : lo ≤ mid) (h2 : mid ≤ hi) : Rises (a ++ b) lo hi := by
  refine ⟨fun x hx => ?_, List.pairwise_append.2 ⟨h.rise, k.rise, fun x hx y hy => ?_⟩⟩
  · rcases List.mem_append.1 hx with hx | hx
    · have := h.each x hx; omega
    · have := k.each x hx; omega
  · have := h.each x hx; have := k.each y hy; omega
theorem climb_rises {len : Nat} {ms : Nat → Meas} {f : Int → List Int} (n0 : Nat) (hs : ∀ m : Nat, n0 ≤ m → m < len → 1 ≤ (ms m).1 ∧ 1 ≤ (ms m).2 ∧ m + (ms m).1 ≤ len) (hf : ∀ m : Nat, n0 ≤ m → m < len → Rises (f m) m (m + (ms m).1)) :
    ∀ (r : List Int) (next high to hh : Int), (n0 : Int) ≤ next → climb len ms r next high = some (to, hh) → Rises (r.flatMap f) next to ∧ next ≤ to
  | [], next, high, to, hh, _, h => by
    simp [climb] at h
    obtain ⟨rfl, _⟩ := h
    exact ⟨⟨fun k hk => by simp at hk, by simp⟩, by omega⟩
  | k :: r, next, high, to, hh, hn, h => by
    unfold climb at h
    split at h
    · rename_i hk
      obtain ⟨rfl, hk2⟩ := hk
      obtain ⟨a, ha⟩ : ∃ a : Nat, k = a := ⟨k.toNat, by omega⟩
      subst ha
      have h1 := hs a (by omega) (by omega)
      rw [Int.toNat_natCast] at h
      obtain ⟨h2, h3⟩ := climb_rises n0 hs hf r _ _ to hh (by omega) h
      have h4 := hf a (by omega) (by omega)
      exact ⟨by rw [List.flatMap_cons]; exact h4.app h2 (by omega) h3, by omega⟩
    · cases h
theorem flatMap_sub {f : Int → List Int} {a b : List Int} (h : a.Sublist b) : (a.flatMap f).Sublist (b.flatMap f) := by
  induction h with
  | slnil => exact List.Sublist.refl _
  | cons k _ ih => rw [List.flatMap_cons]; exact ih.trans (List.sublist_append_right _ _)
  | cons_cons k _ ih => rw [List.flatMap_cons, List.flatMap_cons]; exact (List.Sublist.refl _).append ih
theorem own_rises {l : List Nd} {ms : Nat → Meas} (h : Measured l ms 0) (may : Int → Bool) : ∀ (d n : Nat), n < l.length → l.length - n ≤ d → Rises (ownN l may n) n (n + (ms n).1)
  | 0, n, h1, hd => by omega
  | d + 1, n, h1, hd => by
    have hl := h.kidsUp
    obtain ⟨s1, _, s3, hc⟩ := h n (by omega) h1
    rw [ownN_eq hl may (by omega) (by omega), Int.toNat_natCast]
    have hc2 := climb_rises (f := ownN l may) (n + 1) (fun m hm hml => by have := h m (by omega) hml; exact ⟨this.1, this.2.1, this.2.2.1⟩) (fun m hm hml => own_rises h may d m hml (by omega)) _ _ _ _ _ (by omega) hc
    have hsub := flatMap_sub (f := ownN l may) (fsts_sub (l.getD n Nd.zero) may)
    have hr : Rises ((fsts (l.getD n Nd.zero) may).flatMap (ownN l may)) ((n : Int) + 1) (n + (ms n).1) := ⟨fun k hk => hc2.1.each k (hsub.subset hk), hc2.1.rise.sublist hsub⟩
    refine ⟨fun k hk => ?_, List.pairwise_cons.2 ⟨fun k hk => ?_, hr.rise⟩⟩
    · rcases List.mem_cons.1 hk with rfl | hk
      · omega
      · have := hr.each k hk; omega
    · have := hr.each k hk; omega
/-- The nodes at the own place of n, one by one: it; of each such node those of its kids. -/
inductive AtOwn (l : List Nd) (may : Int → Bool) (n : Int) : Int → Prop where
  | here : AtOwn l may n n
  | kid {m k : Int} (h : AtOwn l may n m) (hk : k ∈ fsts (l.getD m.toNat Nd.zero) may) : AtOwn l may n k
theorem AtOwn.head {l : List Nd} {may : Int → Bool} {n k m : Int} (hk : k ∈ fsts (l.getD n.toNat Nd.zero) may) (h : AtOwn l may k m) : AtOwn l may n m := by
  induction h with
  | here => exact .kid .here hk
  | kid _ h2 ih => exact .kid ih h2
theorem own_mem {l : List Nd} (hl : KidsUp l) (may : Int → Bool) : ∀ (d : Nat) (n : Int), 0 ≤ n → n < l.length → (l.length : Int) - n ≤ d → ∀ m, m ∈ ownN l may n → AtOwn l may n m
  | 0, n, h0, h1, hd, m, _ => by omega
  | d + 1, n, h0, h1, hd, m, hm => by
    rw [ownN_eq hl may h0 h1] at hm
    rcases List.mem_cons.1 hm with rfl | hm
    · exact .here
    · obtain ⟨k, hk, hm⟩ := List.mem_flatMap.1 hm
      have := hl n.toNat (by omega) k (fsts_mem hk)
      exact AtOwn.head hk (own_mem hl may d k (by omega) (by omega) (by omega) m hm)
theorem own_closed {l : List Nd} (hl : KidsUp l) (may : Int → Bool) : ∀ (d : Nat) (n : Int), 0 ≤ n → n < l.length → (l.length : Int) - n ≤ d → ∀ m k, m ∈ ownN l may n → k ∈ fsts (l.getD m.toNat Nd.zero) may → k ∈ ownN l may n
  | 0, n, h0, h1, hd, m, k, _, _ => by omega
  | d + 1, n, h0, h1, hd, m, k, hm, hk => by
    rw [ownN_eq hl may h0 h1] at hm ⊢
    rcases List.mem_cons.1 hm with rfl | hm
    · have := hl m.toNat (by omega) k (fsts_mem hk)
      refine List.mem_cons_of_mem _ (List.mem_flatMap.2 ⟨k, hk, ?_⟩)
      rw [ownN_eq hl may (by omega) (by omega)]
      exact List.mem_cons_self ..
    · obtain ⟨j, hj, hm⟩ := List.mem_flatMap.1 hm
      have := hl n.toNat (by omega) j (fsts_mem hj)
      exact List.mem_cons_of_mem _ (List.mem_flatMap.2 ⟨j, hj, own_closed hl may d j (by omega) (by omega) (by omega) m k hm hk⟩)
theorem own_iff {l : List Nd} (hl : KidsUp l) (may : Int → Bool) {n : Int} (h0 : 0 ≤ n) (h1 : n < l.length) (m : Int) : m ∈ ownN l may n ↔ AtOwn l may n m := by
  refine ⟨own_mem hl may (l.length - n.toNat) n h0 h1 (by omega) m, fun h => ?_⟩
  induction h with
  | here => rw [ownN_eq hl may h0 h1]; exact List.mem_cons_self ..
  | kid _ hk ih => exact own_closed hl may (l.length - n.toNat) n h0 h1 (by omega) _ _ ih hk
/-- Whether a node calls a rule at its own place. -/
def callsB (l : List Nd) (may : Int → Bool) (n : Int) (r : Nat) : Bool := (ownN l may n).any fun m => decide ((l.getD m.toNat Nd.zero).kind = 5) && decide ((l.getD m.toNat Nd.zero).rule = (r : Int))
theorem callsB_iff {l : List Nd} {may : Int → Bool} {n : Int} {r : Nat} : callsB l may n r = true ↔ ∃ m ∈ ownN l may n, (l.getD m.toNat Nd.zero).kind = 5 ∧ (l.getD m.toNat Nd.zero).rule = (r : Int) := by
  simp [callsB, List.any_eq_true]
/-- Which nodes of a grammar may match nothing. -/
noncomputable def mayG (g : Gr) : Int → Bool := mayN g.nodes (inB (ranks g))
noncomputable def callsOf (g : Gr) (n : Int) : List Nat := rowOf' g.rules.length (callsB g.nodes (mayG g) n)
noncomputable def lcal (g : Gr) (r : Nat) : List Nat := callsOf g (g.rules.getD r Rl.zero).body
theorem lcal_lt {g : Gr} {r k : Nat} (h : k ∈ lcal g r) : k < g.rules.length := (rowOf_mem.1 h).1
/-- One goes to another by steps, one at least. -/
inductive To (c : Nat → List Nat) (i : Nat) : Nat → Prop where
  | one {k : Nat} (h : k ∈ c i) : To c i k
  | more {k m : Nat} (h : To c i m) (hk : k ∈ c m) : To c i k
theorem To.head {c : Nat → List Nat} {i k m : Nat} (hk : k ∈ c i) (h : To c k m) : To c i m := by
  induction h with
  | one h => exact .more (.one hk) h
  | more _ h ih => exact .more ih h
theorem To.trans {c : Nat → List Nat} {i k m : Nat} (h1 : To c i k) (h2 : To c k m) : To c i m := by
  induction h2 with
  | one h => exact .more h1 h
  | more _ h ih => exact .more ih h
theorem To.first {c : Nat → List Nat} {i m : Nat} (h : To c i m) : ∃ k ∈ c i, k = m ∨ To c k m := by
  induction h with
  | one h => exact ⟨_, h, .inl rfl⟩
  | more _ h ih =>
    obtain ⟨k, hk, h2⟩ := ih
    rcases h2 with rfl | h2
    · exact ⟨k, hk, .inr (.one h)⟩
    · exact ⟨k, hk, .inr (.more h2 h)⟩
theorem To.last {c : Nat → List Nat} {i m : Nat} (h : To c i m) : ∃ k, m ∈ c k ∧ (k = i ∨ To c i k) := by
  cases h with
  | one h => exact ⟨i, h, .inl rfl⟩
  | more h1 h => exact ⟨_, h, .inr h1⟩
theorem To.iff {c : Nat → List Nat} {i m : Nat} : To c i m ↔ m ∈ c i ∨ ∃ k ∈ c i, To c k m := by
  constructor
  · intro h
    obtain ⟨k, hk, h2⟩ := h.first
    rcases h2 with rfl | h2
    · exact .inl hk
    · exact .inr ⟨k, hk, h2⟩
  · rintro (h | ⟨k, hk, h⟩)
    · exact .one h
    · exact .head hk h
end Go.Proofs.Ytjelgmdjmjnnfaa

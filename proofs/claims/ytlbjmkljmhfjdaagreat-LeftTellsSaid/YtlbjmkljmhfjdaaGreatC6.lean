/- A region in the text's order whose own operations only read and whose callees may make memory: one walk, in any world that has grown out of the first. Nothing here speaks of one program. -/
import Derived.Test.YtlbjmkljmhfjdaaGreatA3
import Derived.WalkKit
import Derived.Test.YtlbjmkljmhfjdaaGreatB6
import Derived.Test.YtlbjmkljmhfjdaaGreatA7
set_option linter.unusedSimpArgs false
set_option linter.unusedVariables false
namespace Go.Proofs.YtlbjmkljmhfjdaaGreat
open Go Go.RowKit
theorem wpList_of_quiet {P : Program} {ops : Array Oper} {C : World → Prop} {Q : Exit → Act → World → Prop} : ∀ (l : List Oper) (a : Act) (w : World), C w → wpQuiet P ops C (fun a' => ∀ w', C w' → Q .normal a' w') l a → wpList P ops Q l a w
  | [], _, w, hw, h => h w hw
  | o :: rest, a, w, hw, h => by
    unfold wpQuiet at h
    unfold wpList
    split
    · rename_i hg
      rw [if_pos hg] at h
      exact .inl (Oper.wp_of_quiet hw (fun a' w' hw' h' => wpList_of_quiet rest a' w' hw' h') h)
    · rename_i hg
      rw [if_neg hg] at h
      exact wpList_of_quiet rest _ w hw h
theorem wp_region_ext_list {P : Program} {id : Nat} {Q : Exit → Act → World → Prop} {a : Act} {w : World} {l : List Oper}
    (h : wpQuiet P l.toArray (fun w' => ∃ e : Ext w, w' = e.val) (fun a' => ∀ w', (∃ e : Ext w, w' = e.val) → Q .normal a' w') l a) : (Code.region id l.toArray false).wp P Q a w :=
  wp_region_lit (wpList_of_quiet l a w ⟨⟨w, Below.refl _ _⟩, rfl⟩ h)
end Go.Proofs.YtlbjmkljmhfjdaaGreat
namespace Go.Proofs.YtlbjmkljmhfjdaaGreat
/-- Kids up to the first that may not match nothing. -/
def upTo (may : Int → Bool) : List Int → List Int
  | [] => []
  | k :: r => k :: (if may k then upTo may r else [])
theorem upTo_all {may : Int → Bool} : ∀ {l : List Int}, (∀ k ∈ l, may k = true) → upTo may l = l
  | [], _ => rfl
  | k :: r, h => by
    unfold upTo
    rw [if_pos (h k (List.mem_cons_self ..)), upTo_all fun j hj => h j (List.mem_cons_of_mem _ hj)]
theorem upTo_at {may : Int → Bool} : ∀ (l : List Int) (j : Nat), j < l.length → (∀ i, i < j → may (l.getD i 0) = true) → may (l.getD j 0) = false → upTo may l = l.take (j + 1)
  | [], j, h, _, _ => by simp at h
  | k :: r, 0, _, _, h => by
    have h2 : may k = false := h
    simp [upTo, h2]
  | k :: r, j + 1, h1, h2, h3 => by
    have hk : may k = true := h2 0 (by omega)
    unfold upTo
    rw [if_pos hk, upTo_at r j (by simpa using h1) (fun i hi => h2 (i + 1) (by omega)) h3]
    rfl
theorem upTo_sub {may : Int → Bool} : ∀ (l : List Int), (upTo may l).Sublist l
  | [] => List.Sublist.slnil
  | k :: r => by
    unfold upTo
    split
    · exact (upTo_sub r).cons_cons k
    · exact (List.nil_sublist r).cons_cons k
/-- The kids of a node that stand at its place. -/
def fsts (x : Nd) (may : Int → Bool) : List Int := if x.kind = 6 then upTo may x.kids else x.kids
theorem fsts_sub (x : Nd) (may : Int → Bool) : (fsts x may).Sublist x.kids := by
  unfold fsts
  split
  · exact upTo_sub _
  · exact List.Sublist.refl _
theorem fsts_mem {x : Nd} {may : Int → Bool} {k : Int} (h : k ∈ fsts x may) : k ∈ x.kids := (fsts_sub x may).subset h
def ownF (l : List Nd) (may : Int → Bool) : Nat → Int → List Int
  | 0, _ => []
  | f + 1, n => n :: (fsts (l.getD n.toNat Nd.zero) may).flatMap (ownF l may f)
/-- The nodes at a node's own place. -/
def ownN (l : List Nd) (may : Int → Bool) (n : Int) : List Int := ownF l may (l.length - n.toNat) n
theorem flatMap_same {f g : Int → List Int} : ∀ {l : List Int}, (∀ k ∈ l, f k = g k) → l.flatMap f = l.flatMap g
  | [], _ => rfl
  | a :: l, h => by
    simp only [List.flatMap_cons]
    rw [h a (List.mem_cons_self ..), flatMap_same fun k hk => h k (List.mem_cons_of_mem _ hk)]
theorem ownF_fuel {l : List Nd} (hl : KidsUp l) (may : Int → Bool) : ∀ (f f' : Nat) (n : Int), 0 ≤ n → n < l.length → (l.length : Int) - n ≤ f → (l.length : Int) - n ≤ f' → ownF l may f n = ownF l may f' n
  | 0, f', n, h0, h1, h2, _ => by omega
  | f + 1, 0, n, h0, h1, _, h2 => by omega
  | f + 1, f' + 1, n, h0, h1, h2, h3 => by
    unfold ownF
    rw [flatMap_same fun k hk => ?_]
    have := hl n.toNat (by omega) k (fsts_mem hk)
    exact ownF_fuel hl may f f' k (by omega) (by omega) (by omega) (by omega)
theorem ownN_eq {l : List Nd} (hl : KidsUp l) (may : Int → Bool) {n : Int} (h0 : 0 ≤ n) (h1 : n < l.length) : ownN l may n = n :: (fsts (l.getD n.toNat Nd.zero) may).flatMap (ownN l may) := by
  unfold ownN
  obtain ⟨f, ef⟩ : ∃ f, l.length - n.toNat = f + 1 := ⟨l.length - n.toNat - 1, by omega⟩
  rw [ef]
  show n :: _ = _
  rw [flatMap_same fun k hk => ?_]
  have := hl n.toNat (by omega) k (fsts_mem hk)
  exact ownF_fuel hl may _ _ k (by omega) (by omega) (by omega) (by omega)
/-- What stands at a node's own place lies in it, and rises. -/
structure Rises (a : List Int) (lo hi : Int) : Prop where
  each : ∀ k ∈ a, lo ≤ k ∧ k < hi
  rise : a.Pairwise (· < ·)
theorem Rises.app {a b : List Int} {lo mid hi : Int} (h : Rises a lo mid) (k : Rises b mid hi) (h1 : lo ≤ mid) (h2 : mid ≤ hi) : Rises (a ++ b) lo hi := by
  refine ⟨fun x hx => ?_, List.pairwise_append.2 ⟨h.rise, k.rise, fun x hx y hy => ?_⟩⟩
  · rcases List.mem_append.1 hx with hx | hx
    · have := h.each x hx; omega
    · have := k.each x hx; omega
  · have := h.each x hx; have := k.each y hy; omega
theorem climb_rises {len : Nat} {ms : Nat → Meas} {f : Int → List Int} (n0 : Nat) (hs : ∀ m : Nat, n0 ≤ m → m < len → 1 ≤ (ms m).1 ∧ 1 ≤ (ms m).2 ∧ m + (ms m).1 ≤ len) (hf : ∀ m : Nat, n0 ≤ m → m < len → Rises (f m) m (m + (ms m).1)) :
    ∀ (r : List Int) (next high to hh : Int), (n0 : Int) ≤ next → climb len ms r next high = some (to, hh) → Rises (r.flatMap f) next to ∧ next ≤ to
  | [], next, high, to, hh, _, h => by
    simp [climb] at h
    obtain ⟨rfl, _⟩ := h
    exact ⟨⟨fun k hk => by simp at hk, by simp⟩, by omega⟩
  | k :: r, next, high, to, hh, hn, h => by
    unfold climb at h
    split at h
    · rename_i hk
      obtain ⟨rfl, hk2⟩ := hk
      obtain ⟨a, ha⟩ : ∃ a : Nat, k = a := ⟨k.toNat, by omega⟩
      subst ha
      have h1 := hs a (by omega) (by omega)
      rw [Int.toNat_natCast] at h
      obtain ⟨h2, h3⟩ := climb_rises n0 hs hf r _ _ to hh (by omega) h
      have h4 := hf a (by omega) (by omega)
      exact ⟨by rw [List.flatMap_cons]; exact h4.app h2 (by omega) h3, by omega⟩
    · cases h
theorem flatMap_sub {f : Int → List Int} {a b : List Int} (h : a.Sublist b) : (a.flatMap f).Sublist (b.flatMap f) := by
  induction h with
  | slnil => exact List.Sublist.refl _
  | cons k _ ih => rw [List.flatMap_cons]; exact ih.trans (List.sublist_append_right _ _)
  | cons_cons k _ ih => rw [List.flatMap_cons, List.flatMap_cons]; exact (List.Sublist.refl _).append ih
theorem own_rises {l : List Nd} {ms : Nat → Meas} (h : Measured l ms 0) (may : Int → Bool) : ∀ (d n : Nat), n < l.length → l.length - n ≤ d → Rises (ownN l may n) n (n + (ms n).1)
  | 0, n, h1, hd => by omega
  | d + 1, n, h1, hd => by
    have hl := h.kidsUp
    obtain ⟨s1, _, s3, hc⟩ := h n (by omega) h1
    rw [ownN_eq hl may (by omega) (by omega), Int.toNat_natCast]
    have hc2 := climb_rises (f := ownN l may) (n + 1) (fun m hm hml => by have := h m (by omega) hml; exact ⟨this.1, this.2.1, this.2.2.1⟩) (fun m hm hml => own_rises h may d m hml (by omega)) _ _ _ _ _ (by omega) hc
    have hsub := flatMap_sub (f := ownN l may) (fsts_sub (l.getD n Nd.zero) may)
    have hr : Rises ((fsts (l.getD n Nd.zero) may).flatMap (ownN l may)) ((n : Int) + 1) (n + (ms n).1) := ⟨fun k hk => hc2.1.each k (hsub.subset hk), hc2.1.rise.sublist hsub⟩
    refine ⟨fun k hk => ?_, List.pairwise_cons.2 ⟨fun k hk => ?_, hr.rise⟩⟩
    · rcases List.mem_cons.1 hk with rfl | hk
      · omega
      · have := hr.each k hk; omega
    · have := hr.each k hk; omega
/-- The nodes at the own place of n, one by one: it; of each such node those of its kids. -/
inductive AtOwn (l : List Nd) (may : Int → Bool) (n : Int) : Int → Prop where
  | here : AtOwn l may n n
  | kid {m k : Int} (h : AtOwn l may n m) (hk : k ∈ fsts (l.getD m.toNat Nd.zero) may) : AtOwn l may n k
theorem AtOwn.head {l : List Nd} {may : Int → Bool} {n k m : Int} (hk : k ∈ fsts (l.getD n.toNat Nd.zero) may) (h : AtOwn l may k m) : AtOwn l may n m := by
  induction h with
  | here => exact .kid .here hk
  | kid _ h2 ih => exact .kid ih h2
theorem own_mem {l : List Nd} (hl : KidsUp l) (may : Int → Bool) : ∀ (d : Nat) (n : Int), 0 ≤ n → n < l.length → (l.length : Int) - n ≤ d → ∀ m, m ∈ ownN l may n → AtOwn l may n m
  | 0, n, h0, h1, hd, m, _ => by omega
  | d + 1, n, h0, h1, hd, m, hm => by
    rw [ownN_eq hl may h0 h1] at hm
    rcases List.mem_cons.1 hm with rfl | hm
    · exact .here
    · obtain ⟨k, hk, hm⟩ := List.mem_flatMap.1 hm
      have := hl n.toNat (by omega) k (fsts_mem hk)
      exact AtOwn.head hk (own_mem hl may d k (by omega) (by omega) (by omega) m hm)
theorem own_closed {l : List Nd} (hl : KidsUp l) (may : Int → Bool) : ∀ (d : Nat) (n : Int), 0 ≤ n → n < l.length → (l.length : Int) - n ≤ d → ∀ m k, m ∈ ownN l may n → k ∈ fsts (l.getD m.toNat Nd.zero) may → k ∈ ownN l may n
  | 0, n, h0, h1, hd, m, k, _, _ => by omega
  | d + 1, n, h0, h1, hd, m, k, hm, hk => by
    rw [ownN_eq hl may h0 h1] at hm ⊢
    rcases List.mem_cons.1 hm with rfl | hm
    · have := hl m.toNat (by omega) k (fsts_mem hk)
      refine List.mem_cons_of_mem _ (List.mem_flatMap.2 ⟨k, hk, ?_⟩)
      rw [ownN_eq hl may (by omega) (by omega)]
      exact List.mem_cons_self ..
    · obtain ⟨j, hj, hm⟩ := List.mem_flatMap.1 hm
      have := hl n.toNat (by omega) j (fsts_mem hj)
      exact List.mem_cons_of_mem _ (List.mem_flatMap.2 ⟨j, hj, own_closed hl may d j (by omega) (by omega) (by omega) m k hm hk⟩)
theorem own_iff {l : List Nd} (hl : KidsUp l) (may : Int → Bool) {n : Int} (h0 : 0 ≤ n) (h1 : n < l.length) (m : Int) : m ∈ ownN l may n ↔ AtOwn l may n m := by
  refine ⟨own_mem hl may (l.length - n.toNat) n h0 h1 (by omega) m, fun h => ?_⟩
  induction h with
  | here => rw [ownN_eq hl may h0 h1]; exact List.mem_cons_self ..
  | kid _ hk ih => exact own_closed hl may (l.length - n.toNat) n h0 h1 (by omega) _ _ ih hk
/-- Whether a node calls a rule at its own place. -/
def callsB (l : List Nd) (may : Int → Bool) (n : Int) (r : Nat) : Bool := (ownN l may n).any fun m => decide ((l.getD m.toNat Nd.zero).kind = 5) && decide ((l.getD m.toNat Nd.zero).rule = (r : Int))
theorem callsB_iff {l : List Nd} {may : Int → Bool} {n : Int} {r : Nat} : callsB l may n r = true ↔ ∃ m ∈ ownN l may n, (l.getD m.toNat Nd.zero).kind = 5 ∧ (l.getD m.toNat Nd.zero).rule = (r : Int) := by
  simp [callsB, List.any_eq_true]
/-- Which nodes of a grammar may match nothing. -/
noncomputable def mayG (g : Gr) : Int → Bool := mayN g.nodes (inB (ranks g))
noncomputable def callsOf (g : Gr) (n : Int) : List Nat := rowOf' g.rules.length (callsB g.nodes (mayG g) n)
noncomputable def lcal (g : Gr) (r : Nat) : List Nat := callsOf g (g.rules.getD r Rl.zero).body
theorem lcal_lt {g : Gr} {r k : Nat} (h : k ∈ lcal g r) : k < g.rules.length := (rowOf_mem.1 h).1
/-- One goes to another by steps, one at least. -/
inductive To (c : Nat → List Nat) (i : Nat) : Nat → Prop where
  | one {k : Nat} (h : k ∈ c i) : To c i k
  | more {k m : Nat} (h : To c i m) (hk : k ∈ c m) : To c i k
theorem To.head {c : Nat → List Nat} {i k m : Nat} (hk : k ∈ c i) (h : To c k m) : To c i m := by
  induction h with
  | one h => exact .more (.one hk) h
  | more _ h ih => exact .more ih h
theorem To.trans {c : Nat → List Nat} {i k m : Nat} (h1 : To c i k) (h2 : To c k m) : To c i m := by
  induction h2 with
  | one h => exact .more h1 h
  | more _ h ih => exact .more ih h
theorem To.first {c : Nat → List Nat} {i m : Nat} (h : To c i m) : ∃ k ∈ c i, k = m ∨ To c k m := by
  induction h with
  | one h => exact ⟨_, h, .inl rfl⟩
  | more _ h ih =>
    obtain ⟨k, hk, h2⟩ := ih
    rcases h2 with rfl | h2
    · exact ⟨k, hk, .inr (.one h)⟩
    · exact ⟨k, hk, .inr (.more h2 h)⟩
theorem To.last {c : Nat → List Nat} {i m : Nat} (h : To c i m) : ∃ k, m ∈ c k ∧ (k = i ∨ To c i k) := by
  cases h with
  | one h => exact ⟨i, h, .inl rfl⟩
  | more h1 h => exact ⟨_, h, .inr h1⟩
theorem To.iff {c : Nat → List Nat} {i m : Nat} : To c i m ↔ m ∈ c i ∨ ∃ k ∈ c i, To c k m := by
  constructor
  · intro h
    obtain ⟨k, hk, h2⟩ := h.first
    rcases h2 with rfl | h2
    · exact .inl hk
    · exact .inr ⟨k, hk, h2⟩
  · rintro (h | ⟨k, hk, h⟩)
    · exact .one h
    · exact .head hk h
end Go.Proofs.YtlbjmkljmhfjdaaGreat
namespace Go.Proofs.YtlbjmkljmhfjdaaGreat
open Go Go.RowKit
variable {P : Program}
/-- All but the caller's own blocks is kept; what was not the caller's is not made its. -/
structure Keep (C : Nat → World → Prop) (A A' : World) : Prop where
  size : A.heap.size ≤ A'.heap.size
  block : ∀ j, j < A.heap.size → ¬ C j A → A'.heap[j]? = A.heap[j]?
  own : ∀ j, j < A.heap.size → C j A' → C j A
theorem Keep.refl (C : Nat → World → Prop) (A : World) : Keep C A A := ⟨Nat.le_refl _, fun _ _ _ => rfl, fun _ _ h => h⟩
theorem Keep.trans {C : Nat → World → Prop} {A A' A'' : World} (h : Keep C A A') (k : Keep C A' A'') : Keep C A A'' :=
  ⟨Nat.le_trans h.size k.size, fun j hj hc => (k.block j (Nat.lt_of_lt_of_le hj h.size) (fun e => hc (h.own j hj e))).trans (h.block j hj hc), fun j hj hc => h.own j hj (k.own j (Nat.lt_of_lt_of_le hj h.size) hc)⟩
/-- A block that is no memory of values: a loop's record, a mark. -/
def NoCells (A : World) (b : Nat) : Prop := ∃ o : Obj, A.heap[b]? = some o ∧ ∀ vs T z, o ≠ .cells vs T z
theorem nc_loop {A : World} {b : Nat} {lp : Loop} (h : A.heap[b]? = some (.loop lp)) : NoCells A b := ⟨_, h, fun _ _ _ => by nofun⟩
theorem nc_def {A : World} {b : Nat} {ds : Option (List Deferred)} (h : A.heap[b]? = some (.deferred ds)) : NoCells A b := ⟨_, h, fun _ _ _ => by nofun⟩
theorem NoCells.ne {A : World} {b j : Nat} {vs : Array Value} {T : TypeId} {z : Nat × Nat} (h : NoCells A b) (hj : A.heap[j]? = some (.cells vs T z)) : j ≠ b := by
  rintro rfl
  obtain ⟨o, h1, h2⟩ := h
  rw [hj] at h1
  exact h2 _ _ _ (Option.some.inj h1).symm
/-- What a caller says while a function hands out: it stays as memory grows, and as loops' records turn. -/
structure Fair (B : Nat) (J : Nat → World → Prop) (C : Nat → World → Prop) : Prop where
  grow : ∀ s A A', J s A → Below A.heap.size A A' → J s A'
  put : ∀ s b A o, B ≤ b → J s A → NoCells A b → J s (A.putObj b o)
  cgrow : ∀ s A A' j, J s A → Below A.heap.size A A' → C j A' → C j A
  cput : ∀ s b A o j, B ≤ b → J s A → NoCells A b → C j (A.putObj b o) → C j A
  cell : ∀ s A j, J s A → C j A → ∃ vs T z, A.heap[j]? = some (.cells vs T z)
theorem Fair.keep {B : Nat} {J C : Nat → World → Prop} (f : Fair B J C) {s : Nat} {A A' : World} (h : J s A) (hb : Below A.heap.size A A') : Keep C A A' :=
  ⟨hb.size, fun j hj _ => hb.block j hj, fun j _ hc => f.cgrow s A A' j h hb hc⟩
theorem Fair.lt {B : Nat} {J C : Nat → World → Prop} (f : Fair B J C) {s : Nat} {A : World} (h : J s A) {j : Nat} (hc : C j A) : j < A.heap.size := by
  obtain ⟨vs, T, z, h⟩ := f.cell s A j h hc
  exact (Array.getElem?_eq_some_iff.1 h).1
/-- The contract: N things in their turn; T are the blocks that the function reads. -/
def SeqX (n : Nat) (P : Program) (gf : Nat) (lb : Array Value) (encs : Nat → Array Value) (N : Nat) (T : Nat → Prop) (w : World) : Prop :=
  ∀ (l : Nat) (J C : Nat → World → Prop) (W : World), Below w.heap.size w W → Fair W.heap.size J C → (∀ j, T j → ¬ C j W) →
    (∀ k W1, J k W1 → k < N → YieldAt Fence.wide (n - 1) P l (encs k) W1 fun e W' => e = .returned (.bool true) ∧ J (k + 1) W' ∧ Keep C W1 W') →
    J 0 W → CallsIn Fence.wide n P gf (#[.func (.yield l) #[] #[]] ++ lb) W fun e W' => (∃ v, e = .returned v) ∧ J N W' ∧ Keep C W W'
/-- How a body ends. -/
def endX (C : Nat → World → Prop) (I : Nat → World → Prop) (k : Nat) (W : World) : Exit → Act → World → Prop
  | .normal, _, W' => Keep C W W' ∧ I k W'
  | _, _, _ => False
theorem wpIn_rangeFunc_own {n : Nat} {g : Operand} {ps : Array Tmp} {assign body : Code} {Q : Exit → Act → World → Prop} {a : Act} {w : World} (h1 : 1 ≤ n) {gf : Nat} {lb : Array Value}
    (hg : a.eval g = .func (.func gf) #[] lb) (eg : ∀ args w, (callFunc gf args).run P w = .ok (.enter gf args) w) {encs : Nat → Array Value} {N : Nat} {T : Nat → Prop} {w0 : World}
    (hseq : SeqX (n - 1) P gf lb encs N T w0) (hb0 : Below w0.heap.size w0 w) (hps : ∀ k, (encs k).size = ps.size)
    (I C : Nat → World → Prop) (hF : Fair w.heap.size I C) (hT : ∀ j, T j → ¬ C j w) (h0 : I 0 w) (a₁ : Nat → Act)
    (hassign : ∀ (l k : Nat) (W : World) (K : Act → World → Prop), K (a₁ k) W →
      assign.wpIn (Fence.wide.inRound l) (n - 1 - 1) P (Exit.then K (fun _ _ _ => False)) { tmps := (ps.zip (encs k)).foldl (fun t (p, v) => t.setIfInBounds p v) a.tmps, defers := [] } W)
    (hbody : ∀ (l k : Nat) (W : World), I k W → k < N → body.wpIn (Fence.wide.inRound l) (n - 1 - 1) P (endX C I (k + 1) W) (a₁ k) W)
    (hdone : ∀ (D : Nat) (W : World), D = w.heap.size → I N W → Keep C w W → W.heap[D]? = some (.deferred (some [])) → Q .normal { a with defers := { target := .collected D, args := #[] } :: a.defers } W) :
    (Code.rangeFunc g ps assign body).wpIn Fence.wide n P Q a w := by
  refine wpIn_rangeFunc ?_
  intro fn hfn
  show ∃ _, _
  let rec0 : LoopState → Option Code → Loop := fun st pe => { state := st, pending := pe, fn, tmps := a.tmps, params := ps, assign, body, defers := w.heap.size }
  obtain ⟨D, eD⟩ : ∃ D, D = w.heap.size := ⟨_, rfl⟩
  obtain ⟨W1, eW⟩ : ∃ W1, W1 = (w.alloc (.deferred (some []))).alloc (.loop (rec0 .ready none)) := ⟨_, rfl⟩
  have hB2 : Below w.heap.size w W1 := by rw [eW]; exact B2 _ _ _
  have hzz : W1.heap.size = D + 2 := by rw [eW, eD]; simp
  have hD : W1.heap[D]? = some (.deferred (some [])) := by
    rw [eW, eD]; exact (Below.heap_alloc _ _ _ (by simp)).trans (World.alloc_heap_new w _)
  have hL : W1.heap[D + 1]? = some (.loop (rec0 .ready none)) := by
    rw [eW, eD]; have := World.alloc_heap_new (w.alloc (.deferred (some []))) (.loop (rec0 .ready none)); rwa [World.size_alloc] at this
  have hI1 : I 0 W1 := hF.grow 0 _ _ h0 hB2
  have K1 : Keep C w W1 := hF.keep h0 hB2
  refine ⟨D + 1, [{ target := .collected D, args := #[] }], W1, { target := .fn (.func gf) lb, args := #[.func (.yield (D + 1)) #[] #[]] }, W1, gf, #[.func (.yield (D + 1)) #[] #[]] ++ lb, W1, ?_, ?_, fun _ _ => trivial, ?_, fun _ => h1, ?_⟩
  · rw [eW, eD]; exact run_enterLoop_outer _ _ _ _ _
  · simp only [resolve, hg]
    simp [go_sem]
  · simp [invoke, go_sem, eg]
  have nodef : ∀ s A j d, I s A → A.heap[j]? = some (.deferred d) → ¬ C j A := fun s A j d h e hc => by
    obtain ⟨vs, T, z, h2⟩ := hF.cell s A j h hc
    rw [e] at h2; cases h2
  have noloop : ∀ s A j d, I s A → A.heap[j]? = some (.loop d) → ¬ C j A := fun s A j d h e hc => by
    obtain ⟨vs, T, z, h2⟩ := hF.cell s A j h hc
    rw [e] at h2; cases h2
  refine (hseq (D + 1) (fun k W => I k W ∧ W.heap[D + 1]? = some (.loop (rec0 .ready none)) ∧ W.heap[D]? = some (.deferred (some []))) C W1 (hb0.trans (hB2.mono hb0.size)) ?_ ?_ ?_ ⟨hI1, hL, hD⟩).mono ?_
  · constructor
    · rintro s A A' ⟨hi, hl, hd⟩ hb
      have q1 := (Array.getElem?_eq_some_iff.1 hl).1
      exact ⟨hF.grow s A A' hi hb, (hb.block _ q1).trans hl, (hb.block _ (by omega)).trans hd⟩
    · rintro s b A o hb ⟨hi, hl, hd⟩ he
      exact ⟨hF.put s b A o (by omega) hi he, (World.putObj_heap_other (by omega)).trans hl, (World.putObj_heap_other (by omega)).trans hd⟩
    · rintro s A A' j ⟨hi, hl, hd⟩ hb hc
      exact hF.cgrow s A A' j hi hb hc
    · rintro s b A o j hb ⟨hi, hl, hd⟩ he hc
      exact hF.cput s b A o j (by omega) hi he hc
    · rintro s A j ⟨hi, hl, hd⟩ hc
      exact hF.cell s A j hi hc
  · intro j hj hc
    exact hT j hj (hF.cgrow 0 _ _ j h0 hB2 hc)
  · rintro k W ⟨hi, hl, hd⟩ hk
    have hlt : D + 1 < W.heap.size := (Array.getElem?_eq_some_iff.1 hl).1
    refine ⟨fn, _, assign, body, run_yield (P := P) (args := encs k) hl (hps k), roundIn_of_wpIn hfn (hassign _ k W _ ⟨_, run_beginRound hl rfl, ?_⟩)⟩
    obtain ⟨Wb, eWb⟩ : ∃ Wb, Wb = W.putObj (D + 1) (.loop (rec0 .busy none)) := ⟨_, rfl⟩
    have hl2 : Wb.heap[D + 1]? = some (.loop (rec0 .busy none)) := by rw [eWb]; exact World.putObj_heap_same hlt
    have hd2 : Wb.heap[D]? = some (.deferred (some [])) := by rw [eWb]; exact (World.putObj_heap_other (by omega)).trans hd
    have hi2 : I k Wb := by rw [eWb]; exact hF.put k (D + 1) W _ (by omega) hi (nc_loop hl)
    have hzb : Wb.heap.size = W.heap.size := by rw [eWb]; simp
    have hcb : ∀ j, C j Wb → C j W := fun j hc => by rw [eWb] at hc; exact hF.cput k (D + 1) W _ j (by omega) hi (nc_loop hl) hc
    have hob : ∀ j, j ≠ D + 1 → Wb.heap[j]? = W.heap[j]? := fun j hj => by rw [eWb]; exact World.putObj_heap_other hj
    show body.wpIn _ _ _ _ _ (W.putObj (D + 1) (.loop (rec0 .busy none)))
    rw [← eWb]
    refine wpIn_mono (hbody _ k _ hi2 hk) ?_
    rintro e a3 W3 hp
    cases e with
    | normal =>
      obtain ⟨hk3, hi3⟩ := hp
      have hl3 := (hk3.block (D + 1) (by omega) (noloop _ _ _ _ hi2 hl2)).trans hl2
      have hd3 := (hk3.block D (by omega) (nodef _ _ _ _ hi2 hd2)).trans hd2
      refine ⟨_, _, run_endRound (P := P) none hl3, rfl, ⟨hF.put _ (D + 1) _ _ (by omega) hi3 (nc_loop hl3), World.putObj_heap_same (Array.getElem?_eq_some_iff.1 hl3).1, (World.putObj_heap_other (by omega)).trans hd3⟩, ?_⟩
      refine ⟨?_, fun j hj hc => ?_, fun j hj hc => ?_⟩
      · have := hk3.size; simp; omega
      · by_cases e : j = D + 1
        · subst e
          exact (World.putObj_heap_same (Array.getElem?_eq_some_iff.1 hl3).1).trans hl.symm
        · exact (World.putObj_heap_other e).trans ((hk3.block j (by omega) (fun h => hc (hcb j h))).trans (hob j e))
      · have c3 := hF.cput _ (D + 1) W3 _ j (by omega) hi3 (nc_loop hl3) hc
        exact hcb j (hk3.own j (by omega) c3)
    | ret => exact hp.elim
    | exit id => exact hp.elim
    | goto t => exact hp.elim
    | panic ch => exact hp.elim
    | outgrown => exact hp.elim
  · rintro e W2 ⟨⟨v, rfl⟩, ⟨hi, hl, hd⟩, hk2⟩
    have k2 := K1.trans hk2
    refine ⟨none, _, run_endLoop (P := P) hl (by simp [rec0]), hdone D _ eD (hF.put _ (D + 1) _ _ (by omega) hi (nc_loop hl)) ⟨by have := k2.size; simpa using this, fun j hj hc => (World.putObj_heap_other (by omega)).trans (k2.block j hj hc), fun j hj hc => k2.own j hj (hF.cput _ (D + 1) W2 _ j (by omega) hi (nc_loop hl) hc)⟩ ((World.putObj_heap_other (by omega)).trans hd)⟩
theorem roundX_any {m m' : Nat} {P : Program} {l : Nat} {f : FuncId} {tmps : Array Value} {assign body : Code} {w : World} {R : Ending → World → Prop}
    (h : RoundIn Fence.wide m P l f tmps assign body w R) : RoundIn Fence.wide m' P l f tmps assign body w R := ⟨h.1, fun c cs _ => h.2 c cs (fun d h => by cases h)⟩
theorem roundX_in {F : Fence} {n : Nat} {P : Program} {l l2 : Nat} {f : FuncId} {tmps : Array Value} {assign body : Code} {w : World} {R : Ending → World → Prop}
    (h : RoundIn F n P l f tmps assign body w R) : RoundIn (F.inRound l2) n P l f tmps assign body w R := h
theorem yieldX_any {m m' l : Nat} {P : Program} {args : Array Value} {w : World} {R : Ending → World → Prop} (h : YieldAt Fence.wide m P l args w R) : YieldAt Fence.wide m' P l args w R := by
  obtain ⟨fn, tmps, assign, body, hy, hR⟩ := h
  exact ⟨fn, tmps, assign, body, hy, roundX_any hR⟩
theorem seqX_any {m m' : Nat} {P : Program} {gf : Nat} {lb : Array Value} {encs : Nat → Array Value} {N : Nat} {T : Nat → Prop} {w : World} (h : SeqX m P gf lb encs N T w) : SeqX m' P gf lb encs N T w :=
  fun l J C W hb hf hT hY h0 => callsIn_wide.2 (callsIn_wide.1 (h l J C W hb hf hT (fun k W1 hk hlt => yieldX_any (hY k W1 hk hlt)) h0))
/-- The marks of ranges that are behind one. -/
structure Marks (B : Nat) (dl : List Nat) (W : World) : Prop where
  nodup : dl.Nodup
  each : ∀ D ∈ dl, B ≤ D ∧ W.heap[D]? = some (.deferred (some []))
def mkDf (D : Nat) : Deferred := { target := .collected D, args := #[] }
theorem Marks.cons {B D : Nat} {dl : List Nat} {W : World} (h : Marks B dl W) (hD : B ≤ D) (hn : D ∉ dl) (hW : W.heap[D]? = some (.deferred (some []))) : Marks B (D :: dl) W := ⟨List.nodup_cons.2 ⟨hn, h.nodup⟩, fun E hE => by
  rcases List.mem_cons.1 hE with rfl | hE
  · exact ⟨hD, hW⟩
  · exact h.each E hE⟩
theorem Marks.keep {B s : Nat} {J C : Nat → World → Prop} {dl : List Nat} {A A' : World} (h : Marks B dl A) (f : Fair B J C) (hj : J s A) (k : Keep C A A') : Marks B dl A' :=
  ⟨h.nodup, fun D hD => ⟨(h.each D hD).1, (k.block D (Array.getElem?_eq_some_iff.1 (h.each D hD).2).1 (fun hc => by
    obtain ⟨vs, T, z, h2⟩ := f.cell s A D hj hc
    rw [(h.each D hD).2] at h2; cases h2)).trans (h.each D hD).2⟩⟩
theorem leaves_marks {F : Fence} {n B s : Nat} {P : Program} {fn : Func} {tmps : Array Value} {R : Ending → World → Prop} {J C : Nat → World → Prop} (f : Fair B J C) {W0 : World} (hW0 : W0.heap.size ≤ B) : ∀ (dl : List Nat) (W : World), Marks B dl W → J s W → Keep C W0 W →
    (∀ W', J s W' → Keep C W0 W' → LeavesIn F n P fn tmps R [] .returning W') → LeavesInM F n P fn tmps R (dl.map mkDf) .returning W
  | [], W, _, hj, hk, h => h W hj hk
  | D :: dl, W, hd, hj, hk, h => by
    obtain ⟨h1, h2⟩ := hd.each D List.mem_cons_self
    refine ⟨by simp, .inl ⟨D, _, rfl, run_takeDeferred h2, leaves_marks f hW0 dl _ ⟨(List.nodup_cons.1 hd.nodup).2, fun E hE => ⟨(hd.each E (List.mem_cons_of_mem _ hE)).1, (World.putObj_heap_other (fun e => (List.nodup_cons.1 hd.nodup).1 (by rw [← e]; exact hE))).trans (hd.each E (List.mem_cons_of_mem _ hE)).2⟩⟩ (f.put s D W _ h1 hj (nc_def h2)) ?_ h⟩⟩
    exact ⟨by have := hk.size; simpa using this, fun j hj2 hc => (World.putObj_heap_other (by omega)).trans (hk.block j hj2 hc), fun j hj2 hc => hk.own j hj2 (f.cput s D W _ j h1 hj (nc_def h2) hc)⟩
end Go.Proofs.YtlbjmkljmhfjdaaGreat
namespace Go.Proofs.YtlbjmkljmhfjdaaGreat
/-- Who was met, whom ahead of each, who is next. -/
abbrev Bf := List Bool × List Nat × List Nat
def visit (a : Nat) (s : Bf) (k : Nat) : Bf := if s.1.getD k false then s else (s.1.set k true, s.2.1.set k a, s.2.2 ++ [k])
def popB (c : Nat → List Nat) (s : Bf) : Bf := match s.2.2 with
  | [] => s
  | a :: q => (c a).foldl (visit a) (s.1, s.2.1, q)
def runB (c : Nat → List Nat) : Nat → Bf → Bf
  | 0, s => s
  | n + 1, s => runB c n (popB c s)
def startB (i : Nat) : Bf := (List.replicate 32 false, List.replicate 32 0, [i])
def fuelB : Nat := 65
def bfs (c : Nat → List Nat) (i : Nat) : Bf := runB c fuelB (startB i)
def unmet (m : List Bool) : Nat := m.countP fun b => !b
def muB (s : Bf) : Nat := 2 * unmet s.1 + s.2.2.length
theorem unmet_set : ∀ {m : List Bool} {k : Nat}, k < m.length → m.getD k false = false → unmet (m.set k true) + 1 = unmet m
  | [], k, h, _ => by simp at h
  | b :: m, 0, _, h => by
    have hb : b = false := h
    subst hb
    simp [unmet]
  | b :: m, k + 1, h, h2 => by
    have := unmet_set (m := m) (k := k) (by simpa using h) (by simpa using h2)
    simp only [unmet, List.set_cons_succ, List.countP_cons] at this ⊢
    omega
/-- Rows as long as they are. -/
structure Sound (s : Bf) : Prop where
  met : s.1.length = 32
  ahead : s.2.1.length = 32
theorem visit_sound {a k : Nat} {s : Bf} (h : Sound s) : Sound (visit a s k) := by
  unfold visit
  split
  · exact h
  · exact ⟨by simpa using h.met, by simpa using h.ahead⟩
theorem visit_mu {a k : Nat} {s : Bf} (h : Sound s) (hk : k < 32) : muB (visit a s k) ≤ muB s := by
  unfold visit
  split
  · exact Nat.le_refl _
  · rename_i hn
    have hf : s.1.getD k false = false := by simpa using hn
    have := unmet_set (m := s.1) (k := k) (by rw [h.met]; exact hk) hf
    simp only [muB, List.length_append, List.length_singleton]
    omega
theorem visits {a : Nat} : ∀ (l : List Nat) (s : Bf), Sound s → (∀ k ∈ l, k < 32) → Sound (l.foldl (visit a) s) ∧ muB (l.foldl (visit a) s) ≤ muB s
  | [], s, h, _ => ⟨h, Nat.le_refl _⟩
  | k :: l, s, h, hl => by
    have h1 := visit_sound (a := a) (k := k) h
    have h2 := visit_mu (a := a) h (hl k (List.mem_cons_self ..))
    have h3 := visits (a := a) l (visit a s k) h1 (fun j hj => hl j (List.mem_cons_of_mem _ hj))
    exact ⟨h3.1, Nat.le_trans h3.2 h2⟩
theorem pop_nil {c : Nat → List Nat} {s : Bf} (h : s.2.2 = []) : popB c s = s := by
  unfold popB; rw [h]
theorem pop_cons {c : Nat → List Nat} {s : Bf} {a : Nat} {q : List Nat} (h : s.2.2 = a :: q) : popB c s = (c a).foldl (visit a) (s.1, s.2.1, q) := by
  unfold popB; rw [h]
theorem pop_sound {c : Nat → List Nat} (hc : ∀ a k, k ∈ c a → k < 32) {s : Bf} (h : Sound s) : Sound (popB c s) ∧ (s.2.2 ≠ [] → muB (popB c s) < muB s) := by
  cases hq : s.2.2 with
  | nil => rw [pop_nil hq]; exact ⟨h, fun h => (h rfl).elim⟩
  | cons a q =>
    rw [pop_cons hq]
    have h1 := visits (a := a) (c a) (s.1, s.2.1, q) ⟨h.met, h.ahead⟩ (hc a)
    refine ⟨h1.1, fun _ => Nat.lt_of_le_of_lt h1.2 ?_⟩
    simp only [muB, hq, List.length_cons]
    omega
theorem run_fix {c : Nat → List Nat} {s : Bf} (h : s.2.2 = []) : ∀ n, runB c n s = s
  | 0 => rfl
  | n + 1 => by unfold runB; rw [pop_nil h]; exact run_fix h n
theorem run_add (c : Nat → List Nat) : ∀ (n m : Nat) (s : Bf), runB c (n + m) s = runB c m (runB c n s)
  | 0, m, s => by rw [Nat.zero_add]; rfl
  | n + 1, m, s => by rw [Nat.add_right_comm]; exact run_add c n m (popB c s)
theorem run_next (c : Nat → List Nat) (n : Nat) (s : Bf) : runB c (n + 1) s = popB c (runB c n s) := run_add c n 1 s
theorem run_sound {c : Nat → List Nat} (hc : ∀ a k, k ∈ c a → k < 32) : ∀ (n : Nat) {s : Bf}, Sound s → Sound (runB c n s)
  | 0, _, h => h
  | n + 1, _, h => run_sound hc n (pop_sound hc h).1
theorem run_done {c : Nat → List Nat} (hc : ∀ a k, k ∈ c a → k < 32) : ∀ (n : Nat) {s : Bf}, Sound s → muB s ≤ n → (runB c n s).2.2 = []
  | 0, s, _, hm => by
    have : s.2.2.length = 0 := by simp only [muB] at hm; omega
    exact List.length_eq_zero_iff.1 this
  | n + 1, s, h, hm => by
    unfold runB
    cases hq : s.2.2 with
    | nil => rw [pop_nil hq, run_fix hq]; exact hq
    | cons a q =>
      have := pop_sound hc h
      exact run_done hc n this.1 (by have := this.2 (by rw [hq]; simp); omega)
theorem start_sound (i : Nat) : Sound (startB i) := ⟨by simp [startB], by simp [startB]⟩
theorem start_mu (i : Nat) : muB (startB i) ≤ fuelB := by simp [muB, startB, unmet, fuelB]
theorem run_mu {c : Nat → List Nat} (hc : ∀ a k, k ∈ c a → k < 32) : ∀ (n : Nat) {s : Bf}, Sound s → muB (runB c n s) ≤ muB s
  | 0, _, _ => Nat.le_refl _
  | n + 1, s, h => by
    unfold runB
    have h1 := pop_sound hc h
    have h2 := run_mu hc n h1.1
    cases hq : s.2.2 with
    | nil => rw [pop_nil hq] at h2 ⊢; exact h2
    | cons a q => have := h1.2 (by rw [hq]; simp); omega
theorem start_mu65 (i : Nat) : muB (startB i) ≤ 65 := by simp [muB, startB, unmet]
attribute [irreducible] fuelB
theorem bfs_done {c : Nat → List Nat} (hc : ∀ a k, k ∈ c a → k < 32) (i : Nat) : (bfs c i).2.2 = [] := run_done hc fuelB (start_sound i) (start_mu i)
theorem bfs_sound {c : Nat → List Nat} (hc : ∀ a k, k ∈ c a → k < 32) (i : Nat) : Sound (bfs c i) := run_sound hc fuelB (start_sound i)
/-- Wherever it ends, it is that. -/
theorem bfs_end {c : Nat → List Nat} (hc : ∀ a k, k ∈ c a → k < 32) {i n : Nat} (h : (runB c n (startB i)).2.2 = []) : runB c n (startB i) = bfs c i := by
  have hd := bfs_done hc i
  unfold bfs at hd ⊢
  generalize fuelB = N at hd ⊢
  rcases Nat.le_total n N with hn | hn
  · obtain ⟨d, rfl⟩ : ∃ d, N = n + d := ⟨N - n, by omega⟩
    rw [run_add, run_fix h]
  · obtain ⟨d, rfl⟩ : ∃ d, n = N + d := ⟨n - N, by omega⟩
    rw [run_add, run_fix hd]
/-- What holds of who was met: those are gone to; whom one calls that was taken up was met; who is next was met. -/
structure Inv (c : Nat → List Nat) (i : Nat) (s : Bf) (open_ : Nat → Prop) : Prop where
  to : ∀ k, s.1.getD k false = true → To c i k
  next : ∀ k ∈ s.2.2, k = i ∨ s.1.getD k false = true
  all : ∀ k, (k = i ∨ s.1.getD k false = true) → k ∈ s.2.2 ∨ open_ k ∨ ∀ j ∈ c k, s.1.getD j false = true
theorem met_set {m : List Bool} {k j : Nat} (hk : k < m.length) : (m.set k true).getD j false = true ↔ j = k ∨ m.getD j false = true := by
  simp only [List.getD, List.getElem?_set]
  by_cases e : k = j
  · subst e; simp [hk]
  · rw [if_neg e]
    exact ⟨fun h => .inr h, fun h => h.resolve_left (fun h => e h.symm)⟩
theorem visit_inv {c : Nat → List Nat} {i a k : Nat} {s : Bf} (hs : Sound s) (hk : k ∈ c a) (h32 : k < 32) (ha : a = i ∨ To c i a) (h : Inv c i s (· = a)) : Inv c i (visit a s k) (· = a) := by
  unfold visit
  split
  · exact h
  · have hset := fun j => met_set (m := s.1) (k := k) (j := j) (by rw [hs.met]; exact h32)
    have hto : To c i k := by
      rcases ha with rfl | ha
      · exact .one hk
      · exact .more ha hk
    refine ⟨fun j hj => ?_, fun j hj => ?_, fun j hj => ?_⟩
    · rcases (hset j).1 hj with rfl | hj
      · exact hto
      · exact h.to j hj
    · rcases List.mem_append.1 hj with hj | hj
      · rcases h.next j hj with h1 | h1
        · exact .inl h1
        · exact .inr ((hset j).2 (.inr h1))
      · exact .inr ((hset j).2 (.inl (by simpa using hj)))
    · have key : j = k ∨ (j = i ∨ s.1.getD j false = true) := by
        rcases hj with h1 | h1
        · exact .inr (.inl h1)
        · rcases (hset j).1 h1 with h2 | h2
          · exact .inl h2
          · exact .inr (.inr h2)
      rcases key with rfl | hj
      · exact .inl (by simp)
      · rcases h.all j hj with h1 | h1 | h1
        · exact .inl (List.mem_append_left _ h1)
        · exact .inr (.inl h1)
        · exact .inr (.inr fun x hx => (hset x).2 (.inr (h1 x hx)))
theorem visit_met {a k j : Nat} {s : Bf} (hs : Sound s) (h32 : k < 32) : (visit a s k).1.getD j false = true ↔ j = k ∨ s.1.getD j false = true := by
  unfold visit
  split
  · rename_i h
    exact ⟨fun h => .inr h, fun h2 => by rcases h2 with rfl | h2; exact h; exact h2⟩
  · exact met_set (by rw [hs.met]; exact h32)
theorem visits_inv {c : Nat → List Nat} {i a : Nat} (hc : ∀ a k, k ∈ c a → k < 32) (ha : a = i ∨ To c i a) : ∀ (l : List Nat) (s : Bf), (∀ k ∈ l, k ∈ c a) → Sound s → Inv c i s (· = a) → Inv c i (l.foldl (visit a) s) (· = a) ∧ ∀ j, (l.foldl (visit a) s).1.getD j false = true ↔ j ∈ l ∨ s.1.getD j false = true
  | [], s, _, _, h => ⟨h, fun j => by simp⟩
  | k :: l, s, hl, hs, h => by
    have hk := hl k (List.mem_cons_self ..)
    have h1 := visit_inv hs hk (hc a k hk) ha h
    obtain ⟨h2, h3⟩ := visits_inv hc ha l (visit a s k) (fun j hj => hl j (List.mem_cons_of_mem _ hj)) (visit_sound hs) h1
    refine ⟨h2, fun j => (h3 j).trans ?_⟩
    rw [visit_met hs (hc a k hk)]
    simp only [List.mem_cons]
    constructor
    · rintro (h | h | h)
      · exact .inl (.inr h)
      · exact .inl (.inl h)
      · exact .inr h
    · rintro ((h | h) | h)
      · exact .inr (.inl h)
      · exact .inl h
      · exact .inr (.inr h)
theorem pop_inv {c : Nat → List Nat} {i : Nat} (hc : ∀ a k, k ∈ c a → k < 32) {s : Bf} (hs : Sound s) (h : Inv c i s (fun _ => False)) : Inv c i (popB c s) (fun _ => False) := by
  cases hq : s.2.2 with
  | nil => rw [pop_nil hq]; exact h
  | cons a q =>
    rw [pop_cons hq]
    have ha : a = i ∨ To c i a := by
      rcases h.next a (by rw [hq]; exact List.mem_cons_self ..) with h1 | h1
      · exact .inl h1
      · exact .inr (h.to a h1)
    have h0 : Inv c i (s.1, s.2.1, q) (· = a) := ⟨h.to, fun k hk => h.next k (by rw [hq]; exact List.mem_cons_of_mem _ hk), fun k hk => by
      rcases h.all k hk with h1 | h1 | h1
      · rw [hq] at h1
        rcases List.mem_cons.1 h1 with h1 | h1
        · exact .inr (.inl h1)
        · exact .inl h1
      · exact h1.elim
      · exact .inr (.inr h1)⟩
    obtain ⟨h1, h2⟩ := visits_inv hc ha (c a) (s.1, s.2.1, q) (fun k hk => hk) ⟨hs.met, hs.ahead⟩ h0
    refine ⟨h1.to, h1.next, fun k hk => ?_⟩
    rcases h1.all k hk with h3 | h3 | h3
    · exact .inl h3
    · subst h3
      exact .inr (.inr fun j hj => (h2 j).2 (.inl hj))
    · exact .inr (.inr h3)
theorem run_inv {c : Nat → List Nat} {i : Nat} (hc : ∀ a k, k ∈ c a → k < 32) : ∀ (n : Nat) {s : Bf}, Sound s → Inv c i s (fun _ => False) → Inv c i (runB c n s) (fun _ => False)
  | 0, _, _, h => h
  | n + 1, _, hs, h => run_inv hc n (pop_sound hc hs).1 (pop_inv hc hs h)
theorem start_inv (c : Nat → List Nat) (i : Nat) : Inv c i (startB i) (fun _ => False) := by
  have hf : ∀ k, (startB i).1.getD k false ≠ true := fun k h => by
    simp only [startB, List.getD, List.getElem?_replicate] at h
    split at h <;> simp at h
  exact ⟨fun k h => (hf k h).elim, fun k hk => .inl (by simpa [startB] using hk), fun k h => .inl (by
    rcases h with rfl | h
    · simp [startB]
    · exact (hf k h).elim)⟩
/-- Who is met is just who is gone to. -/
theorem bfs_met {c : Nat → List Nat} (hc : ∀ a k, k ∈ c a → k < 32) (i k : Nat) : (bfs c i).1.getD k false = true ↔ To c i k := by
  have h := run_inv hc fuelB (start_sound i) (start_inv c i)
  refine ⟨h.to k, fun ht => ?_⟩
  have hd := bfs_done hc i
  have key : ∀ j, (j = i ∨ (bfs c i).1.getD j false = true) → ∀ x ∈ c j, (bfs c i).1.getD x false = true := fun j hj => by
    rcases h.all j hj with h1 | h1 | h1
    · rw [show (runB c fuelB (startB i)).2.2 = [] from hd] at h1; simp at h1
    · exact h1.elim
    · exact h1
  induction ht with
  | one h1 => exact key i (.inl rfl) _ h1
  | more _ h1 ih => exact key _ (.inr ih) _ h1
end Go.Proofs.YtlbjmkljmhfjdaaGreat

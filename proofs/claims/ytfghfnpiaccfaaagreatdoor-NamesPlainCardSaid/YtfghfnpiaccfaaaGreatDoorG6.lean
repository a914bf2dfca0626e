/- All words of a text. -/
import Derived.Test.YtfghfnpiaccfaaaGreatDoorG5
set_option linter.unusedSimpArgs false
set_option linter.unusedVariables false
namespace Go.Proofs.YtfghfnpiaccfaaaGreatDoor
open Go Go.RowKit
set_option maxRecDepth 100000
attribute [local go_sem] Oper.semAt_some
theorem words_seq (n : Nat) (hn : 6 ≤ n) (p b N : Nat) (s : ByteArray) (l : List Nat) (hs : Str s l) (hl : l.length ≤ 60000) (hN : stp l N = true) (hNl : N ≤ l.length) (hNb : ∀ j, j < N → stp l j = false) (hb0 : b ≠ 2) (hpb : p ≠ b) (hp0 : p ≠ 0)
    (T : Nat → Prop) (hTp : T p) (hTb : T b) (hT0 : T 2) (w : World) (hbox : Blk w p #[.pointer (some ⟨b, 0, none⟩)] 146) (hR : Rd w b s 0) (hTab : Tab w) :
    SeqM n Tryz.prog 145 #[.pointer (some ⟨p, 0, none⟩)] (encW l) (fun k W => Rd W b s (pos l (k + 1))) (N + 1) b T w :=
  fun lp J Jx C W hW hJ hJx hCT hC2 hY h0 => words_in n hn lp p b N s l hs hl hN hNl hNb hb0 hpb hp0 T hTp hTb hT0 J Jx C hJ hJx hCT hC2 W.heap.size hY W (Nat.le_refl _) (hbox.below' hW) (hR.below hW) (hTab.below hW) h0
theorem words_any (b : Nat) (w : World) : Calls Tryz.prog 91 #[.pointer (some ⟨b, 0, none⟩)] w fun e w' => e = .returned (.func (.func 145) #[] #[.pointer (some ⟨w.heap.size, 0, none⟩)]) ∧ w' = w.alloc (.cells #[.pointer (some ⟨b, 0, none⟩)] 146) := by
  go_enter Tryz.func91, Tryz.ntmps91
  go_wp2_with fail
  go_ret
  exact ⟨rfl, rfl⟩
/-- The cells of the first k words. -/
def wrow (l : List Nat) : Nat → List Value
  | 0 => []
  | k + 1 => wrow l k ++ (wA l k).toList
theorem wA_size (l : List Nat) (k : Nat) : (wA l k).size = 9 := by
  unfold wA
  split <;> rfl
theorem wA_one (l : List Nat) (k : Nat) : ∀ u ∈ (wA l k).toList, u.oneCell' = true := by
  unfold wA
  split
  · intro u hu
    simp at hu
    rcases hu with rfl | rfl | rfl | rfl | rfl | rfl | rfl | rfl | rfl <;> rfl
  · intro u hu
    simp at hu
    rcases hu with rfl | rfl | rfl | rfl <;> rfl
theorem wrow_length (l : List Nat) : ∀ k, (wrow l k).length = k * 9
  | 0 => rfl
  | k + 1 => by rw [wrow, List.length_append, wrow_length l k, Array.length_toList, wA_size]; omega
theorem Tryz.infoWord : (Tryz.prog.info? 156).map (fun i => (i.zero, i.size, i.bytes)) = some (some (.agg wzero), 9, 80) := by kernel_rfl
/-- What lies as words are collected. -/
structure AllI (l : List Nat) (w : World) (b base k : Nat) (W : World) : Prop where
  row : ∃ v, Blk W w.heap.size #[v] 80 ∧ W.ownsRow base 156 9 v k (wrow l k)
  c3 : Blk W (w.heap.size + 1) #[.int .i64 0] 3
  c4 : Blk W (w.heap.size + 1 + 1) #[.int .i64 0] 28
  c5 : Blk W (w.heap.size + 1 + 1 + 1 + 1) #[.pointer (some ⟨b, 0, none⟩)] 146
  low : Below w.heap.size w W
  size : base ≤ W.heap.size
  some_ : ∀ j, j < k → ow l j ≠ none
/-- What lies when there is no word. -/
def AllX (l : List Nat) (N : Nat) (w : World) (c : Code) (_ : Nat) (W : World) : Prop :=
  c = .ret ∧ ow l N = none ∧ Blk W w.heap.size #[.slice none 0 0] 80 ∧ Blk W (w.heap.size + 1) #[.int .i64 (beg l N)] 3 ∧ Blk W (w.heap.size + 1 + 1) #[.int .i64 7] 28 ∧ Below w.heap.size w W
/-- The blocks of the words' row. -/
def AllC (q : Nat) (j : Nat) (A : World) : Prop := j = q ∨ j = q + 1 ∨ j = q + 1 + 1 ∨ ∃ v, A.cell? ⟨q, 0, none⟩ = some v ∧ v.ownBlock = some j
theorem Blk.put {w : World} {b d : Nat} {vs : Array Value} {T : TypeId} {lp : Loop} (h : Blk w d vs T) (hl : w.heap[b]? = some (.loop lp)) (o : Obj) : Blk (w.putObj b o) d vs T :=
  (World.putObj_heap_other (by intro e; subst e; have h' : w.heap[d]? = some (.cells vs T (0, 0)) := h; rw [hl] at h'; cases h')).trans h
theorem own_put {w : World} {base e size n b : Nat} {v : Value} {xs : List Value} {lp : Loop} (h : w.ownsRow base e size v n xs) (hl : w.heap[b]? = some (.loop lp)) (o : Obj) : (w.putObj b o).ownsRow base e size v n xs := by
  refine ⟨h.1, ?_⟩
  rcases h.2 with hn | ⟨g, cap, cur, rfl, hbg, hgg, rest⟩
  · exact .inl hn
  · exact .inr ⟨g, cap, cur, rfl, hbg, (World.putObj_heap_other (by intro e; subst e; rw [hl] at hgg; cases hgg)).trans hgg, rest⟩
theorem own_putD {w : World} {base e size n b : Nat} {v : Value} {xs : List Value} {d : Option (List Deferred)} (h : w.ownsRow base e size v n xs) (hl : w.heap[b]? = some (.deferred d)) (o : Obj) : (w.putObj b o).ownsRow base e size v n xs := by
  refine ⟨h.1, ?_⟩
  rcases h.2 with hn | ⟨g, cap, cur, rfl, hbg, hgg, rest⟩
  · exact .inl hn
  · exact .inr ⟨g, cap, cur, rfl, hbg, (World.putObj_heap_other (by intro e; subst e; rw [hl] at hgg; cases hgg)).trans hgg, rest⟩
theorem below_put {B b : Nat} {w0 w : World} (h : Below B w0 w) (hb : B ≤ b) (o : Obj) : Below B w0 (w.putObj b o) := h.trans (below_putObj w b B o hb)
theorem AllI.turn {l : List Nat} {w W W' : World} {b base k : Nat} (hb : w.heap.size ≤ b ∧ b ≠ w.heap.size ∧ b ≠ w.heap.size + 1 ∧ b ≠ w.heap.size + 1 + 1 ∧ b ≠ w.heap.size + 1 + 1 + 1 + 1 ∧ b < base) (h : AllI l w b base k W) (hg : W.grownBy W' (some b)) : AllI l w b base k W' := by
  obtain ⟨⟨v, h1, h2⟩, h3, h4, h5, h6, h7, h8⟩ := h
  have hne : ∀ d, d ≠ b → some d ≠ some b := fun d hd e => hd (Option.some.inj e)
  refine ⟨⟨v, h1.grown hg (hne _ (Ne.symm hb.2.1)), h2.kept hg (.inr (fun e => ?_))⟩, h3.grown hg (hne _ (Ne.symm hb.2.2.1)), h4.grown hg (hne _ (Ne.symm hb.2.2.2.1)), h5.grown hg (hne _ (Ne.symm hb.2.2.2.2.1)), below_new h6 h6.size hg hb.1, Nat.le_trans h7 hg.size, h8⟩
  have := (h2.lt b e).1
  omega
theorem AllI.put {l : List Nat} {w W : World} {b base k d : Nat} {lp : Loop} {o : Obj} (h : AllI l w b base k W) (hl : W.heap[d]? = some (.loop lp)) (hd : w.heap.size ≤ d) : AllI l w b base k (W.putObj d o) := by
  obtain ⟨⟨v, h1, h2⟩, h3, h4, h5, h6, h7, h8⟩ := h
  exact ⟨⟨v, h1.put hl o, own_put h2 hl o⟩, h3.put hl o, h4.put hl o, h5.put hl o, below_put h6 hd o, by simpa using h7, h8⟩
theorem AllI.cell {l : List Nat} {w W : World} {b base k : Nat} (h : AllI l w b base k W) : ∃ v, W.cell? ⟨w.heap.size, 0, none⟩ = some v ∧ W.ownsRow base 156 9 v k (wrow l k) := by
  obtain ⟨v, h1, h2⟩ := h.row
  exact ⟨v, h1.cell 0, h2⟩
theorem AllI.mine {l : List Nat} {w W : World} {b base k j : Nat} (h : AllI l w b base k W) (hc : AllC w.heap.size j W) : (j = w.heap.size ∨ j = w.heap.size + 1 ∨ j = w.heap.size + 1 + 1) ∨ (base ≤ j ∧ j < W.heap.size ∧ ∃ cs, W.heap[j]? = some (.cells cs 156 (0, 0))) := by
  rcases hc with h1 | h1 | h1 | ⟨v, h1, h2⟩
  · exact .inl (.inl h1)
  · exact .inl (.inr (.inl h1))
  · exact .inl (.inr (.inr h1))
  · obtain ⟨v', h3, h4⟩ := h.cell
    rw [h1] at h3
    cases h3
    rcases h4.2 with ⟨rfl, _⟩ | ⟨g, cap, cur, rfl, hbg, hgg, _⟩
    · cases h2
    · simp only [Value.ownBlock, Option.some.injEq] at h2
      subst h2
      exact .inr ⟨hbg, (Array.getElem?_eq_some_iff.1 hgg).1, cur, hgg⟩
/-- What all words are told to be. -/
def AllPost (l : List Nat) (N : Nat) (w : World) (e : Ending) (w' : World) : Prop :=
  Below w.heap.size w w' ∧ ((ow l N = none ∧ e = .returned (.tuple #[.slice none 0 0, .int .i64 (beg l N), .int .i64 7])) ∨ ∃ v, ow l N ≠ none ∧ e = .returned (.tuple #[v, .int .i64 0, .int .i64 0]) ∧ w'.ownsRow w.heap.size 156 9 v (N + 1) (wrow l (N + 1)))
theorem res_all {tmps : Array Value} {W : World} {q a c : Nat} {v x y : Value} (h2 : tmps.getD 2 undef = .pointer (some ⟨q, 0, none⟩)) (h3 : tmps.getD 3 undef = .pointer (some ⟨a, 0, none⟩)) (h4 : tmps.getD 4 undef = .pointer (some ⟨c, 0, none⟩))
    (c2 : W.cell? ⟨q, 0, none⟩ = some v) (c3 : W.cell? ⟨a, 0, none⟩ = some x) (c4 : W.cell? ⟨c, 0, none⟩ = some y) : (results Tryz.f39 tmps).run Tryz.prog W = .ok (.tuple #[v, x, y]) W := by
  have h2' : tmps[2]?.getD undef = .pointer (some ⟨q, 0, none⟩) := by simpa using h2
  have h3' : tmps[3]?.getD undef = .pointer (some ⟨a, 0, none⟩) := by simpa using h3
  have h4' : tmps[4]?.getD undef = .pointer (some ⟨c, 0, none⟩) := by simpa using h4
  simp [results, Tryz.results39, h2', h3', h4', go_sem, c2, c3, c4]
theorem all_done {W w : World} {v : Value} {base k D : Nat} {xs : List Value} (h2 : Blk W w.heap.size #[v] 80) (h3 : Blk W (w.heap.size + 1) #[.int .i64 0] 3) (h4 : Blk W (w.heap.size + 1 + 1) #[.int .i64 0] 28) (ho : W.ownsRow base 156 9 v k xs) (hl : Below w.heap.size w W) (hb : base ≤ W.heap.size) (hD : W.heap[D]? = some (.deferred (some []))) (hn : w.heap.size + 6 ≤ D ∧ w.heap.size + 6 ≤ base)
    (W3 : World) (e : W3 = ((W.setCell ⟨w.heap.size, 0, none⟩ v).setCell ⟨w.heap.size + 1, 0, none⟩ (.int .i64 0)).setCell ⟨w.heap.size + 1 + 1, 0, none⟩ (.int .i64 0)) :
    Blk W3 w.heap.size #[v] 80 ∧ Blk W3 (w.heap.size + 1) #[.int .i64 0] 3 ∧ Blk W3 (w.heap.size + 1 + 1) #[.int .i64 0] 28 ∧ W3.heap[D]? = some (.deferred (some [])) ∧ W3.ownsRow base 156 9 v k xs ∧ Below w.heap.size w W3 := by
  subst e
  have o1 : ∀ (X : World) (b d : Nat) (u : Value), d ≠ b → (X.setCell ⟨b, 0, none⟩ u).heap[d]? = X.heap[d]? := fun X b d u h => heap_setCell_other X ⟨b, 0, none⟩ d u h
  refine ⟨?_, ?_, ?_, ?_, ?_, ((hl.setCell (p := ⟨w.heap.size, 0, none⟩) (Nat.le_refl _) _).setCell (p := ⟨w.heap.size + 1, 0, none⟩) (Nat.le_succ _) _).setCell (p := ⟨w.heap.size + 1 + 1, 0, none⟩) (by show w.heap.size ≤ w.heap.size + 1 + 1; omega) _⟩
  · exact (o1 _ _ _ _ (by omega)).trans ((o1 _ _ _ _ (by omega)).trans (heap_setCell_same W _ 0 _ 80 v h2))
  · exact (o1 _ _ _ _ (by omega)).trans (heap_setCell_same _ _ 0 _ 3 _ ((o1 _ _ _ _ (by omega)).trans h3))
  · exact heap_setCell_same _ _ 0 _ 28 _ ((o1 _ _ _ _ (by omega)).trans ((o1 _ _ _ _ (by omega)).trans h4))
  · exact (o1 _ _ _ _ (by omega)).trans ((o1 _ _ _ _ (by omega)).trans ((o1 _ _ _ _ (by omega)).trans hD))
  · refine ⟨ho.1, ?_⟩
    rcases ho.2 with hn' | ⟨g, cap, cur, rfl, hbg, hgg, rest⟩
    · exact .inl hn'
    · exact .inr ⟨g, cap, cur, rfl, hbg, (o1 _ _ _ _ (by omega)).trans ((o1 _ _ _ _ (by omega)).trans ((o1 _ _ _ _ (by omega)).trans hgg)), rest⟩
theorem own_slice {w : World} {base n : Nat} {e size : Nat} {v : Value} {xs : List Value} (h : w.ownsRow base e size v n xs) : ∃ A c, v = .slice A n c ∧ (A = none → n = 0 ∧ c = 0) ∧ n ≤ c := by
  rcases h.2 with ⟨rfl, rfl⟩ | ⟨g, cap, cur, rfl, hb, hh, h1, h2, _⟩
  · exact ⟨none, 0, rfl, fun _ => ⟨rfl, rfl⟩, Nat.le_refl _⟩
  · exact ⟨_, cap, rfl, fun h => (by cases h), h1⟩
theorem own_kept {w w' : World} {base e size n : Nat} {v : Value} {xs : List Value} (h : w.ownsRow base e size v n xs) (hk : ∀ k, v.ownBlock = some k → w'.heap[k]? = w.heap[k]?) : w'.ownsRow base e size v n xs := by
  refine ⟨h.1, ?_⟩
  rcases h.2 with hn | ⟨g, cap, cur, rfl, hb, hg, rest⟩
  · exact .inl hn
  · exact .inr ⟨g, cap, cur, rfl, hb, (hk g rfl).trans hg, rest⟩
/-- One word more. -/
theorem AllI.next {l : List Nat} {w W W4 : World} {b k : Nat} {v v1 : Value} {o : Obj} (h : AllI l w b (w.heap.size + 6) k W) (h2 : Blk W w.heap.size #[v] 80) (ho : W.ownsRow (w.heap.size + 6) 156 9 v k (wrow l k)) (ho4 : W4.ownsRow (w.heap.size + 6) 156 9 v1 (k + 1) (wrow l (k + 1))) (hg : (W.alloc o).grownBy W4 v.ownBlock) (hs : ow l k ≠ none) :
    Keep (fun j A => AllC w.heap.size j A) W (W4.setCell ⟨w.heap.size, 0, none⟩ v1) ∧ AllI l w b (w.heap.size + 6) (k + 1) (W4.setCell ⟨w.heap.size, 0, none⟩ v1) := by
  have o1 : ∀ (X : World) (b d : Nat) (u : Value), d ≠ b → (X.setCell ⟨b, 0, none⟩ u).heap[d]? = X.heap[d]? := fun X b d u h => heap_setCell_other X ⟨b, 0, none⟩ d u h
  have sz : W.heap.size ≤ W4.heap.size := Nat.le_trans (by simp) hg.size
  have hq := blk_append h2 ho (by decide) hg
  refine ⟨⟨by simpa using sz, fun j hj hn => ?_⟩, ⟨⟨v1, heap_setCell_same W4 _ 0 _ 80 v1 hq, own_kept ho4 (fun d hd => o1 _ _ _ _ (by have := (ho4.lt d hd).1; omega))⟩, (o1 _ _ _ _ (by omega)).trans (blk_append h.c3 ho (by decide) hg), (o1 _ _ _ _ (by omega)).trans (blk_append h.c4 ho (by decide) hg), (o1 _ _ _ _ (by omega)).trans (blk_append h.c5 ho (by decide) hg), ?_, ?_, fun j hj => ?_⟩⟩
  · have n1 : j ≠ w.heap.size := fun e => hn (.inl e)
    have n2 : some j ≠ v.ownBlock := fun e => hn (.inr (.inr (.inr ⟨v, h2.cell 0, e.symm⟩)))
    exact (o1 _ _ _ _ n1).trans ((hg.block j (by simp; omega) n2).trans (Below.heap_alloc W o j hj))
  · have hb4 : Below w.heap.size w W4 := ((h.low.alloc h.low.size o).grown hg (by have := h.low.size; simp; omega) (fun j hj => by have := (ho.lt j hj).1; omega))
    exact hb4.setCell (p := ⟨w.heap.size, 0, none⟩) (Nat.le_refl _) _
  · have := h.size
    simp
    omega
  · by_cases e : j = k
    · rw [e]; exact hs
    · exact h.some_ j (by omega)
theorem all_stop {l : List Nat} {w W : World} {b base k N : Nat} {v : Value} (h : AllI l w b base k W) (h2 : Blk W w.heap.size #[v] 80) (ho : ow l N = none) (a : Int) (ea : a = beg l N) :
    (∀ j, w.heap.size + 3 ≤ j → ((((W.setCell ⟨w.heap.size, 0, none⟩ (.slice none 0 0)).setCell ⟨w.heap.size + 1, 0, none⟩ (.int .i64 a)).setCell ⟨w.heap.size + 1 + 1, 0, none⟩ (.int .i64 7)).drew).heap[j]? = W.heap[j]?) ∧ AllX l N w .ret (k + 1) ((((W.setCell ⟨w.heap.size, 0, none⟩ (.slice none 0 0)).setCell ⟨w.heap.size + 1, 0, none⟩ (.int .i64 a)).setCell ⟨w.heap.size + 1 + 1, 0, none⟩ (.int .i64 7)).drew) := by
  subst ea
  have o1 : ∀ (X : World) (b d : Nat) (u : Value), d ≠ b → (X.setCell ⟨b, 0, none⟩ u).heap[d]? = X.heap[d]? := fun X b d u h => heap_setCell_other X ⟨b, 0, none⟩ d u h
  refine ⟨fun j hj => (o1 _ _ _ _ (by omega)).trans ((o1 _ _ _ _ (by omega)).trans (o1 _ _ _ _ (by omega))), rfl, ho, ?_, ?_, ?_, bdrew1 (((h.low.setCell (p := ⟨w.heap.size, 0, none⟩) (Nat.le_refl _) _).setCell (p := ⟨w.heap.size + 1, 0, none⟩) (Nat.le_succ _) _).setCell (p := ⟨w.heap.size + 1 + 1, 0, none⟩) (by show w.heap.size ≤ w.heap.size + 1 + 1; omega) _)⟩
  · exact (o1 _ _ _ _ (by omega)).trans ((o1 _ _ _ _ (by omega)).trans (heap_setCell_same W _ 0 _ 80 _ h2))
  · exact (o1 _ _ _ _ (by omega)).trans (heap_setCell_same _ _ 0 _ 3 _ ((o1 _ _ _ _ (by omega)).trans h.c3))
  · exact heap_setCell_same _ _ 0 _ 28 _ ((o1 _ _ _ _ (by omega)).trans ((o1 _ _ _ _ (by omega)).trans h.c4))
theorem blk_at {X : World} {n : Nat} (vs : Array Value) (T : TypeId) (h : X.heap.size = n) : Blk (X.alloc (.cells vs T)) n vs T := by subst h; exact Blk.new _ _ _
theorem all_start (w wl : World) (s : ByteArray) (ewl : wl = ((((((w.alloc (.cells #[.slice none 0 0] 80)).alloc (.cells #[.int .i64 0] 3)).alloc (.cells #[.int .i64 0] 28)).alloc (.cells #[.string s, .int .i64 0] 150)).alloc (.cells #[.pointer (some ⟨w.heap.size + 1 + 1 + 1, 0, none⟩)] 146)).alloc (.cells #[.pointer (some ⟨w.heap.size + 1 + 1 + 1, 0, none⟩)] 146))) :
    Blk wl w.heap.size #[.slice none 0 0] 80 ∧ Blk wl (w.heap.size + 1) #[.int .i64 0] 3 ∧ Blk wl (w.heap.size + 1 + 1) #[.int .i64 0] 28 ∧ Rd wl (w.heap.size + 1 + 1 + 1) s 0 ∧ Blk wl (w.heap.size + 1 + 1 + 1 + 1) #[.pointer (some ⟨w.heap.size + 1 + 1 + 1, 0, none⟩)] 146 ∧ Blk wl (w.heap.size + 1 + 1 + 1 + 1 + 1) #[.pointer (some ⟨w.heap.size + 1 + 1 + 1, 0, none⟩)] 146 ∧ wl.heap.size = w.heap.size + 6 ∧ Below w.heap.size w wl := by
  subst ewl
  refine ⟨(((((Blk.new _ _ _).alloc _).alloc _).alloc _).alloc _).alloc _, ((((blk_at _ _ (by simp)).alloc _).alloc _).alloc _).alloc _, (((blk_at _ _ (by simp)).alloc _).alloc _).alloc _, ((blk_at _ _ (by simp)).alloc _).alloc _, (blk_at _ _ (by simp)).alloc _, blk_at _ _ (by simp), by simp, ?_⟩
  exact (((((B1 w _).alloc (by simp) _).alloc (by simp; omega) _).alloc (by simp; omega) _).alloc (by simp; omega) _).alloc (by simp; omega) _
set_option maxRecDepth 100000 in
set_option maxHeartbeats 8000000 in
theorem All_any (N : Nat) (s : ByteArray) (l : List Nat) (hs : Str s l) (hl : l.length ≤ 16384) (hN : stp l N = true) (hNl : N ≤ l.length) (hNb : ∀ j, j < N → stp l j = false) (w : World) (hT : Tab w) :
    Calls Tryz.prog 39 #[.string s] w (AllPost l N w) := by
  have hz := hs.size
  have h1 : (s.size : Int) ≤ 16384 := by omega
  have h2 : s.size ≤ 16384 := by omega
  have hw0 : 2 < w.heap.size := by obtain ⟨ev, h1, _⟩ := hT; exact World.block_lt_of_cell? _ _ h1
  refine (callsIn_wide (n := 12)).1 ?_
  refine callsIn_of_wp_marks Tryz.func39 rfl trivial ?_ rfl
  simp only [Tryz.ntmps39, List.size_toArray, List.length_cons, List.length_nil, Nat.reduceAdd, Nat.reduceSub, Array.replicate_succ, Array.replicate_zero, List.push_toArray, List.append_toArray, List.nil_append, List.cons_append]
  refine wpIn_wide.2 ?_
  go_wp2_with (go_at_call 91; refine (words_any _ _).mono ?_; rintro e w8 ⟨rfl, rfl⟩)
  obtain ⟨wl, ewl⟩ : ∃ u, u = ((((((w.alloc (.cells #[.slice none 0 0] 80)).alloc (.cells #[.int .i64 0] 3)).alloc (.cells #[.int .i64 0] 28)).alloc (.cells #[.string s, .int .i64 0] 150)).alloc (.cells #[.pointer (some ⟨w.heap.size + 1 + 1 + 1, 0, none⟩)] 146)).alloc (.cells #[.pointer (some ⟨w.heap.size + 1 + 1 + 1, 0, none⟩)] 146)) := ⟨_, rfl⟩
  rw [← ewl]
  obtain ⟨k2, k3, k4, kb, k5, kp, hz6, hbw⟩ := all_start w wl s ewl
  clear ewl h1 h2 hz
  have I0 : AllI l w (w.heap.size + 1 + 1 + 1) (w.heap.size + 6) 0 wl := ⟨⟨_, k2, World.ownsRow_nil _ _ _ _⟩, k3, k4, k5, hbw, by omega, fun j hj => by omega⟩
  have TB := hT.below hbw
  have KEY := Lib.hid (And.intro hN (And.intro hNl hNb))
  have LT := Lib.hid hs.lt
  refine (wpIn_wide (n := 12)).1 ?_
  refine wpIn_rangeFunc_m (encs := encW l) (R := fun k W => Rd W (w.heap.size + 1 + 1 + 1) s (pos l (k + 1))) (N := N + 1) (b := w.heap.size + 1 + 1 + 1) (T := fun j => j = w.heap.size + 1 + 1 + 1 + 1 + 1 ∨ j = w.heap.size + 1 + 1 + 1 ∨ j = 2) (n := 12) (by omega) (gf := 145) (lb := #[.pointer (some ⟨w.heap.size + 1 + 1 + 1 + 1 + 1, 0, none⟩)]) rfl (enters_of Tryz.func145 (by kernel_rfl) rfl)
    (words_seq 11 (by omega) (w.heap.size + 1 + 1 + 1 + 1 + 1) (w.heap.size + 1 + 1 + 1) N s l hs (by omega) hN hNl hNb (by omega) (by omega) (by omega) (fun j => j = w.heap.size + 1 + 1 + 1 + 1 + 1 ∨ j = w.heap.size + 1 + 1 + 1 ∨ j = 2) (.inl rfl) (.inr (.inl rfl)) (.inr (.inr rfl)) wl kp kb TB)
    (Below.refl _ _) (fun _ => rfl) (fun j h => by omega) (by omega) (fun j A => AllC w.heap.size j A) (fun k W => AllI l w (w.heap.size + 1 + 1 + 1) (w.heap.size + 6) k W) (AllX l N w)
    (fun k W W' h hg => h.turn (by omega) hg)
    (fun c k W W' h hg => ⟨h.1, h.2.1, h.2.2.1.grown hg (fun e => by have := Option.some.inj e; omega), h.2.2.2.1.grown hg (fun e => by have := Option.some.inj e; omega), h.2.2.2.2.1.grown hg (fun e => by have := Option.some.inj e; omega), below_new h.2.2.2.2.2 h.2.2.2.2.2.size hg (by omega)⟩)
    (fun k d W lp o hd h hl => h.put hl (by omega))
    (fun c k d W lp o hd h hl => ⟨h.1, h.2.1, h.2.2.1.put hl o, h.2.2.2.1.put hl o, h.2.2.2.2.1.put hl o, below_put h.2.2.2.2.2 (by omega) o⟩)
    (fun k A A' h hb => h.below hb) (fun k d W lp o hd h hl => Blk.put h hl o)
    (fun k A j h hTj hc => by rcases h.mine hc with h1 | ⟨h1, _⟩ <;> omega)
    (fun k A j h hc => by rcases h.mine hc with h1 | ⟨_, h1, _⟩; have := h.size; omega; exact h1)
    (fun k A A' j h hg hc => by
      rcases hc with h1 | h1 | h1 | ⟨v, h1, h2⟩
      · exact .inl h1
      · exact .inr (.inl h1)
      · exact .inr (.inr (.inl h1))
      · obtain ⟨v', h3, _⟩ := h.row
        have h4 := (h3.grown hg (fun e => by have := Option.some.inj e; omega)).cell 0
        have e : v = v' := by rw [h1] at h4; simpa using h4
        exact .inr (.inr (.inr ⟨v, by rw [e]; exact h3.cell 0, h2⟩)))
    (fun k A j lp h hl hc => by
      rcases h.mine hc with (h1 | h1 | h1) | ⟨_, _, cs, h1⟩
      · obtain ⟨v, h3, _⟩ := h.row; rw [h1, show A.heap[w.heap.size]? = _ from h3] at hl; cases hl
      · rw [h1, show A.heap[w.heap.size + 1]? = _ from h.c3] at hl; cases hl
      · rw [h1, show A.heap[w.heap.size + 1 + 1]? = _ from h.c4] at hl; cases hl
      · rw [h1] at hl; cases hl)
    (fun k A j lp h hl hc => by
      rcases h.mine hc with (h1 | h1 | h1) | ⟨_, _, cs, h1⟩
      · obtain ⟨v, h3, _⟩ := h.row; rw [h1, show A.heap[w.heap.size]? = _ from h3] at hl; cases hl
      · rw [h1, show A.heap[w.heap.size + 1]? = _ from h.c3] at hl; cases hl
      · rw [h1, show A.heap[w.heap.size + 1 + 1]? = _ from h.c4] at hl; cases hl
      · rw [h1] at hl; cases hl)
    (fun k A lp o d j hd h hl hc => by
      rcases hc with h1 | h1 | h1 | ⟨v, h1, h2⟩
      · exact .inl h1
      · exact .inr (.inl h1)
      · exact .inr (.inr (.inl h1))
      · obtain ⟨v', h3, _⟩ := h.row
        have h4 := (h3.put hl o).cell 0
        have e : v = v' := by rw [h1] at h4; simpa using h4
        exact .inr (.inr (.inr ⟨v, by rw [e]; exact h3.cell 0, h2⟩)))
    I0
    (fun k bl => { tmps := #[.string s, undef, .pointer (some ⟨w.heap.size, 0, none⟩), .pointer (some ⟨w.heap.size + 1, 0, none⟩), .pointer (some ⟨w.heap.size + 1 + 1, 0, none⟩), .pointer (some ⟨w.heap.size + 1 + 1 + 1 + 1, 0, none⟩), .pointer (some ⟨bl, 0, none⟩), .bool (ow l k).isSome, .string s, .int .i64 l.length, .bool (decide (16384 < (l.length : Int))), .string s, .agg #[.string s, .int .i64 0], .agg #[.string s, .int .i64 0], .pointer (some ⟨w.heap.size + 1 + 1 + 1, 0, none⟩), .pointer (some ⟨w.heap.size + 1 + 1 + 1, 0, none⟩), .func (.func 145) #[] #[.pointer (some ⟨w.heap.size + 1 + 1 + 1 + 1 + 1, 0, none⟩)], .agg (wA l k), .bool (ow l k).isSome, undef, undef, undef, undef, undef, undef, undef, undef, undef, undef, undef, undef], defers := [] })
    (fun k => .cells (wA l k) 156) ?assign ?body ?done ?stop
  case assign =>
    intro l2 k W K hK
    unfold encW
    cases ho : ow l k with
    | none =>
      rw [wA_none ho] at hK ⊢
      rw [ho] at hK
      simp only [Option.isSome_none] at hK ⊢
      gi_wp2
      exact hK
    | some x =>
      rw [wA_some ho] at hK ⊢
      rw [ho] at hK
      simp only [Option.isSome_some] at hK ⊢
      gi_wp2
      exact hK
  case stop =>
    rintro D cd k W hD hk ⟨rfl, ho, h2, h3, h4, hlow⟩ hK
    have n4 : w.heap.size ≠ D ∧ w.heap.size + 1 ≠ D ∧ w.heap.size + 1 + 1 ≠ D ∧ w.heap.size ≤ D := by omega
    have HC := Lib.hid (And.intro ho (And.intro h2 (And.intro h3 (And.intro h4 (And.intro hlow (And.intro hK n4))))))
    clear ho h2 h3 h4 hlow hK n4
    gi_wp2
    obtain ⟨ho, h2, h3, h4, hlow, hK, n4⟩ := HC.out
    refine ⟨by simp, .inl ⟨_, _, rfl, run_takeDeferred hK, ?_⟩⟩
    have z2 : Blk (W.putObj D (.deferred none)) w.heap.size #[.slice none 0 0] 80 := (World.putObj_heap_other n4.1).trans h2
    have z3 : Blk (W.putObj D (.deferred none)) (w.heap.size + 1) #[.int .i64 (beg l N)] 3 := (World.putObj_heap_other n4.2.1).trans h3
    have z4 : Blk (W.putObj D (.deferred none)) (w.heap.size + 1 + 1) #[.int .i64 7] 28 := (World.putObj_heap_other n4.2.2.1).trans h4
    exact ⟨_, res_all rfl rfl rfl (z2.cell 0) (z3.cell 0) (z4.cell 0), below_put hlow n4.2.2.2 _, .inl ⟨ho, rfl⟩⟩
  case done =>
    rintro D W hD hI hK
    obtain ⟨v, h2, ho⟩ := hI.row
    obtain ⟨A, cp, rfl, _, _⟩ := own_slice ho
    have c2 : W.cell? ⟨w.heap.size, 0, none⟩ = some (.slice A (N + 1) cp) := h2.cell 0
    have f2 := h2.frozen 0
    have c3 : W.cell? ⟨w.heap.size + 1, 0, none⟩ = some (.int .i64 0) := hI.c3.cell 0
    have f3 := hI.c3.frozen 0
    have c4 : W.cell? ⟨w.heap.size + 1 + 1, 0, none⟩ = some (.int .i64 0) := hI.c4.cell 0
    have f4 := hI.c4.frozen 0
    have n4 : w.heap.size ≠ D ∧ w.heap.size + 1 ≠ D ∧ w.heap.size + 1 + 1 ≠ D ∧ w.heap.size ≤ D := by omega
    have HC := Lib.hid (And.intro h2 (And.intro hI.c3 (And.intro hI.c4 (And.intro ho (And.intro hI.low (And.intro hI.size (And.intro hK (And.intro n4 (hI.some_ N (by omega))))))))))
    have HD := Lib.hid hD
    clear hI hK h2 ho n4
    go_wp2_with fail
    generalize hW3 : (World.setCell _ _ _ : World) = W3
    obtain ⟨h2, h3, h4, ho, hlow, hsz, hK, n4, hs⟩ := HC.out
    obtain ⟨z2, z3, z4, zD, zo, zl⟩ := all_done h2 h3 h4 ho hlow hsz hK (by have := HD.out; omega) W3 hW3.symm
    refine ⟨by simp, .inl ⟨_, _, rfl, run_takeDeferred zD, ?_⟩⟩
    have y2 : Blk (W3.putObj D (.deferred none)) w.heap.size #[.slice A (N + 1) cp] 80 := (World.putObj_heap_other n4.1).trans z2
    have y3 : Blk (W3.putObj D (.deferred none)) (w.heap.size + 1) #[.int .i64 0] 3 := (World.putObj_heap_other n4.2.1).trans z3
    have y4 : Blk (W3.putObj D (.deferred none)) (w.heap.size + 1 + 1) #[.int .i64 0] 28 := (World.putObj_heap_other n4.2.2.1).trans z4
    exact ⟨_, res_all rfl rfl rfl (y2.cell 0) (y3.cell 0) (y4.cell 0), below_put zl n4.2.2.2 _, .inr ⟨_, hs, rfl, own_lower (own_putD zo zD _) (by omega)⟩⟩
  case body =>
    intro l2 k bl W hI hR hbl hob hC hk
    obtain ⟨v, h2, ho⟩ := hI.row
    obtain ⟨A, cp, rfl, _, _⟩ := own_slice ho
    have c2 : W.cell? ⟨w.heap.size, 0, none⟩ = some (.slice A k cp) := h2.cell 0
    have f2 := h2.frozen 0
    have c5 : W.cell? ⟨w.heap.size + 1 + 1 + 1 + 1, 0, none⟩ = some (.pointer (some ⟨w.heap.size + 1 + 1 + 1, 0, none⟩)) := hI.c5.cell 0
    cases hx : ow l k with
    | none =>
      have II := Lib.hid hI
      have RR := Lib.hid hR
      have H2 := Lib.hid h2
      have HX := Lib.hid hx
      have r1 := hR.cells.2
      have f3 := hI.c3.frozen 0
      have f4 := hI.c4.frozen 0
      have c3 : W.cell? ⟨w.heap.size + 1, 0, none⟩ = some (.int .i64 0) := hI.c3.cell 0
      have c4 : W.cell? ⟨w.heap.size + 1 + 1, 0, none⟩ = some (.int .i64 0) := hI.c4.cell 0
      have hkN : k = N := by
        rcases Nat.lt_or_ge k N with h | h
        · have := hNb k h; rw [stp_none hx] at this; cases this
        · omega
      have ep := Lib.hid (pos_none hx)
      have KN := Lib.hid hkN
      rw [wA_none hx]
      simp only [Option.isSome_none]
      clear hI hR hob hC ho h2 hx hkN
      gi_wp2_with fail
      gi_region
      all_goals gi_wp2_with fail
      all_goals (
        obtain ⟨q1, q2⟩ := all_stop (k := k) (N := N) II.out H2.out (by rw [← KN.out]; exact HX.out) (pos l (k + 1)) (by rw [ep.out, KN.out])
        exact ⟨fun j h1 _ _ => q1 j (by have := hz6; omega), by simp, q2⟩)
    | some x =>
      have hb' : Blk W bl (wfull x (beg l k)) 156 := by rw [← wA_some hx]; exact hob
      have II := Lib.hid hI
      have OO := Lib.hid ho
      have H2 := Lib.hid h2
      have HX := Lib.hid hx
      have HCC := Lib.hid hC
      have n0 := hb'.cell 0
      have n1 := hb'.cell 1
      have n2 := hb'.cell 2
      have n3 := hb'.cell 3
      have n4 := hb'.cell 4
      have n5 := hb'.cell 5
      have n6 := hb'.cell 6
      have n7 := hb'.cell 7
      have n8 := hb'.cell 8
      simp only [wfull, List.getElem?_toArray, List.getElem?_cons_zero, List.getElem?_cons_succ] at n0 n1 n2 n3 n4 n5 n6 n7 n8
      rw [wA_some hx]
      simp only [Option.isSome_some]
      obtain ⟨i0, hi, hz0, hz1, hz2⟩ := info_parts Tryz.infoWord
      have I3 := Lib.hid (And.intro hi (And.intro hz0 (And.intro hz1 hz2)))
      clear hI hR hob hC ho h2 hx hb' c5 hi hz0 hz1 hz2
      have hkl : k ≤ 16384 := by omega
      gi_wp2_with (gi_at_builtin; refine wpListIn_append_own _ rfl (.tmp 26) (.tmp 28) 80 rfl (w.heap.size + 6) 156 i0 (.agg wzero) 9 80 Tryz.underlying80 I3.out.1 I3.out.2.1 I3.out.2.2.1 I3.out.2.2.2 rfl (by decide) _ k (wrow l k) rfl (OO.out.alloc _) ⟨W.heap.size, 0, none⟩ 1 1 [.int .i64 x.kind, .int .i64 (beg l k : Nat), .int .i64 ((beg l k : Int) + x.len), .string (bsv x.text), .int .i64 x.lev, .int .u64 (cw x.cls 0), .int .u64 (cw x.cls 1), .int .u64 (cw x.cls 2), .int .u64 (cw x.cls 3)] rfl rfl (fun j u hj => by rw [Addr.add_lit, Nat.zero_add, (Blk.new W _ _).cell]; simpa using hj) (by intro u hu; simp at hu; rcases hu with rfl | rfl | rfl | rfl | rfl | rfl | rfl | rfl | rfl <;> rfl) (by unfold maxLen; omega) (by omega) (by have := II.out.size; simp; omega) ?_; intro v1 W4 ho4 hg4 _; obtain ⟨A1, c1, e1, _, _⟩ := own_slice ho4; subst e1; have O4 := Lib.hid ho4; have G4 := Lib.hid hg4; have hq4 := blk_append H2.out OO.out (by decide) hg4; have d2 := hq4.cell 0; have g2 := hq4.frozen 0; simp only [List.getElem?_toArray, List.getElem?_cons_zero] at d2; clear ho4 hg4 hq4)
      have o4' := O4.out
      rw [show wrow l k ++ [Value.int .i64 x.kind, .int .i64 (beg l k : Nat), .int .i64 ((beg l k : Int) + x.len), .string (bsv x.text), .int .i64 x.lev, .int .u64 (cw x.cls 0), .int .u64 (cw x.cls 1), .int .u64 (cw x.cls 2), .int .u64 (cw x.cls 3)] = wrow l (k + 1) by rw [wrow, wA_some HX.out]; rfl] at o4'
      exact II.out.next H2.out OO.out o4' G4.out (by rw [HX.out]; simp)
end Go.Proofs.YtfghfnpiaccfaaaGreatDoor
namespace Go.Proofs.YtfghfnpiaccfaaaGreatDoor
open Go Go.RowKit
end Go.Proofs.YtfghfnpiaccfaaaGreatDoor
namespace Go.Proofs.YtfghfnpiaccfaaaGreatDoor
open Go Go.RowKit
/-- A:2 <- "a" [b-d]* ; -/
def smp : List Nat := [65, 58, 50, 32, 60, 45, 32, 34, 97, 34, 32, 91, 98, 45, 100, 93, 42, 32, 59]
theorem smp_str : Str ⟨#[65, 58, 50, 32, 60, 45, 32, 34, 97, 34, 32, 91, 98, 45, 100, 93, 42, 32, 59]⟩ smp := by unfold Str; rfl
theorem smp0 : (ow smp 0).map (fun x => (x.kind, x.lev, x.len)) = some (2, 2, 3) := by kernel_rfl
theorem smp1 : (ow smp 1).map (fun x => (x.kind, x.len)) = some (5, 2) := by kernel_rfl
theorem smp2 : (ow smp 2).map (fun x => (x.kind, x.text, x.len)) = some (3, [97], 3) := by kernel_rfl
theorem smp3 : (ow smp 3).map (fun x => (x.kind, cw x.cls 0, cw x.cls 1, cw x.cls 2, cw x.cls 3)) = some (4, 0, 120259084288, 0, 0) := by kernel_rfl
theorem smp4 : (ow smp 4).map (fun x => x.kind) = some 5 := by kernel_rfl
theorem smp5 : (ow smp 5).map (fun x => x.kind) = some 5 := by kernel_rfl
theorem smp6 : (ow smp 6).map (fun x => x.kind) = some 1 := by kernel_rfl
theorem stp_of {l : List Nat} {k : Nat} {a : Int} {b : Bool} (h : (ow l k).map (fun x => x.kind) = some a) (hb : (a == 1) = b) : stp l k = b := by
  cases ho : ow l k with
  | none => rw [ho] at h; cases h
  | some x => rw [ho] at h; rw [stp_some ho]; simp only [Option.map_some, Option.some.injEq] at h; rw [h]; exact hb
theorem smp_stp : stp smp 6 = true ∧ ∀ j, j < 6 → stp smp j = false := by
  refine ⟨by kernel_rfl, fun j hj => ?_⟩
  match j, hj with
  | 0, _ => exact (by kernel_rfl : stp smp 0 = false)
  | 1, _ => exact (by kernel_rfl : stp smp 1 = false)
  | 2, _ => exact (by kernel_rfl : stp smp 2 = false)
  | 3, _ => exact (by kernel_rfl : stp smp 3 = false)
  | 4, _ => exact (by kernel_rfl : stp smp 4 = false)
  | 5, _ => exact (by kernel_rfl : stp smp 5 = false)
/-- A cell of the words' row. -/
theorem wrow_at (l : List Nat) (k n i : Nat) (hk : k < n) (hi : i < 9) : (wrow l n)[9 * k + i]? = (wA l k)[i]? := by
  induction n with
  | zero => omega
  | succ n ih =>
    rw [wrow]
    by_cases h : k < n
    · rw [List.getElem?_append_left (by rw [wrow_length]; omega)]
      exact ih h
    · obtain rfl : k = n := by omega
      rw [List.getElem?_append_right (by rw [wrow_length]; omega), wrow_length, show 9 * k + i - k * 9 = i by omega, Array.getElem?_toList]
end Go.Proofs.YtfghfnpiaccfaaaGreatDoor

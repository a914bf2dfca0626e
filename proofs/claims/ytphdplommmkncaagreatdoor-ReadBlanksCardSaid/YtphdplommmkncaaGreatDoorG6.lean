/- All words of a text. -/
import Derived.Test.YtphdplommmkncaaGreatDoorG5
import Derived.Test.YtphdplommmkncaaGreatDoorG3
import Derived.Test.YtphdplommmkncaaGreatDoorG1
set_option linter.unusedSimpArgs false
set_option linter.unusedVariables false
namespace Go.Proofs.YtphdplommmkncaaGreatDoor
open Go Go.RowKit
attribute [local go_sem] Oper.semAt_some
theorem words_seq (n : Nat) (hn : 6 ≤ n) (p b N : Nat) (s : ByteArray) (l : List Nat) (hs : Str s l) (hl : l.length ≤ 60000) (hN : stp l N = true) (hNl : N ≤ l.length) (hNb : ∀ j, j < N → stp l j = false) (hb0 : b ≠ 0) (hpb : p ≠ b) (hp0 : p ≠ 0)
    (T : Nat → Prop) (hTp : T p) (hTb : T b) (hT0 : T 0) (w : World) (hbox : Blk w p #[.pointer (some ⟨b, 0, none⟩)] 79) (hR : Rd w b s 0) (hTab : Tab w) :
    SeqM n Tryz.prog 62 #[.pointer (some ⟨p, 0, none⟩)] (encW l) (fun k W => Rd W b s (pos l (k + 1))) (N + 1) b T w :=
  fun lp J Jx C W hW hJ hJx hCT hC2 hY h0 => words_in n hn lp p b N s l hs hl hN hNl hNb hb0 hpb hp0 T hTp hTb hT0 J Jx C hJ hJx hCT hC2 W.heap.size hY W (Nat.le_refl _) (hbox.below' hW) (hR.below hW) (hTab.below hW) h0
theorem words_any (b : Nat) (w : World) : Calls Tryz.prog 32 #[.pointer (some ⟨b, 0, none⟩)] w fun e w' => e = .returned (.func (.func 62) #[] #[.pointer (some ⟨w.heap.size, 0, none⟩)]) ∧ w' = w.alloc (.cells #[.pointer (some ⟨b, 0, none⟩)] 79) := by
  go_enter Tryz.func32, Tryz.ntmps32
  go_wp2_with fail
  go_ret
  exact ⟨rfl, rfl⟩
/-- The cells of the first k words. -/
def wrow (l : List Nat) : Nat → List Value
  | 0 => []
  | k + 1 => wrow l k ++ (wA l k).toList
theorem wA_size (l : List Nat) (k : Nat) : (wA l k).size = 9 := by
  unfold wA
  split <;> rfl
theorem wA_one (l : List Nat) (k : Nat) : ∀ u ∈ (wA l k).toList, u.oneCell' = true := by
  unfold wA
  split
  · intro u hu
    simp at hu
    rcases hu with rfl | rfl | rfl | rfl | rfl | rfl | rfl | rfl | rfl <;> rfl
  · intro u hu
    simp at hu
    rcases hu with rfl | rfl | rfl | rfl <;> rfl
theorem wrow_length (l : List Nat) : ∀ k, (wrow l k).length = k * 9
  | 0 => rfl
  | k + 1 => by rw [wrow, List.length_append, wrow_length l k, Array.length_toList, wA_size]; omega
theorem Tryz.infoWord : (Tryz.prog.info? 45).map (fun i => (i.zero, i.size, i.bytes)) = some (some (.agg wzero), 9, 80) := by kernel_rfl
/-- What lies as words are collected. -/
structure AllI (l : List Nat) (w : World) (b base k : Nat) (W : World) : Prop where
  row : ∃ v, Blk W w.heap.size #[v] 50 ∧ W.ownsRow base 45 9 v k (wrow l k)
  c3 : Blk W (w.heap.size + 1) #[.int .i64 0] 3
  c4 : Blk W (w.heap.size + 1 + 1) #[.int .i64 0] 32
  c5 : Blk W (w.heap.size + 1 + 1 + 1 + 1) #[.pointer (some ⟨b, 0, none⟩)] 79
  low : Below w.heap.size w W
  size : base ≤ W.heap.size
  some_ : ∀ j, j < k → ow l j ≠ none
/-- What lies when there is no word. -/
def AllX (l : List Nat) (N : Nat) (w : World) (c : Code) (_ : Nat) (W : World) : Prop :=
  c = .ret ∧ ow l N = none ∧ Blk W w.heap.size #[.slice none 0 0] 50 ∧ Blk W (w.heap.size + 1) #[.int .i64 (beg l N)] 3 ∧ Blk W (w.heap.size + 1 + 1) #[.int .i64 7] 32 ∧ Below w.heap.size w W
/-- The blocks of the words' row. -/
def AllC (q : Nat) (j : Nat) (A : World) : Prop := j = q ∨ j = q + 1 ∨ j = q + 1 + 1 ∨ ∃ v, A.cell? ⟨q, 0, none⟩ = some v ∧ v.ownBlock = some j
theorem Blk.put {w : World} {b d : Nat} {vs : Array Value} {T : TypeId} {lp : Loop} (h : Blk w d vs T) (hl : w.heap[b]? = some (.loop lp)) (o : Obj) : Blk (w.putObj b o) d vs T :=
  (World.putObj_heap_other (by intro e; subst e; have h' : w.heap[d]? = some (.cells vs T (0, 0)) := h; rw [hl] at h'; cases h')).trans h
theorem own_put {w : World} {base e size n b : Nat} {v : Value} {xs : List Value} {lp : Loop} (h : w.ownsRow base e size v n xs) (hl : w.heap[b]? = some (.loop lp)) (o : Obj) : (w.putObj b o).ownsRow base e size v n xs := by
  refine ⟨h.1, ?_⟩
  rcases h.2 with hn | ⟨g, cap, cur, rfl, hbg, hgg, rest⟩
  · exact .inl hn
  · exact .inr ⟨g, cap, cur, rfl, hbg, (World.putObj_heap_other (by intro e; subst e; rw [hl] at hgg; cases hgg)).trans hgg, rest⟩
theorem own_putD {w : World} {base e size n b : Nat} {v : Value} {xs : List Value} {d : Option (List Deferred)} (h : w.ownsRow base e size v n xs) (hl : w.heap[b]? = some (.deferred d)) (o : Obj) : (w.putObj b o).ownsRow base e size v n xs := by
  refine ⟨h.1, ?_⟩
  rcases h.2 with hn | ⟨g, cap, cur, rfl, hbg, hgg, rest⟩
  · exact .inl hn
  · exact .inr ⟨g, cap, cur, rfl, hbg, (World.putObj_heap_other (by intro e; subst e; rw [hl] at hgg; cases hgg)).trans hgg, rest⟩
theorem below_put {B b : Nat} {w0 w : World} (h : Below B w0 w) (hb : B ≤ b) (o : Obj) : Below B w0 (w.putObj b o) := h.trans (below_putObj w b B o hb)
theorem AllI.turn {l : List Nat} {w W W' : World} {b base k : Nat} (hb : w.heap.size ≤ b ∧ b ≠ w.heap.size ∧ b ≠ w.heap.size + 1 ∧ b ≠ w.heap.size + 1 + 1 ∧ b ≠ w.heap.size + 1 + 1 + 1 + 1 ∧ b < base) (h : AllI l w b base k W) (hg : W.grownBy W' (some b)) : AllI l w b base k W' := by
  obtain ⟨⟨v, h1, h2⟩, h3, h4, h5, h6, h7, h8⟩ := h
  have hne : ∀ d, d ≠ b → some d ≠ some b := fun d hd e => hd (Option.some.inj e)
  refine ⟨⟨v, h1.grown hg (hne _ (Ne.symm hb.2.1)), h2.kept hg (.inr (fun e => ?_))⟩, h3.grown hg (hne _ (Ne.symm hb.2.2.1)), h4.grown hg (hne _ (Ne.symm hb.2.2.2.1)), h5.grown hg (hne _ (Ne.symm hb.2.2.2.2.1)), below_new h6 h6.size hg hb.1, Nat.le_trans h7 hg.size, h8⟩
  have := (h2.lt b e).1
  omega
theorem AllI.put {l : List Nat} {w W : World} {b base k d : Nat} {lp : Loop} {o : Obj} (h : AllI l w b base k W) (hl : W.heap[d]? = some (.loop lp)) (hd : w.heap.size ≤ d) : AllI l w b base k (W.putObj d o) := by
  obtain ⟨⟨v, h1, h2⟩, h3, h4, h5, h6, h7, h8⟩ := h
  exact ⟨⟨v, h1.put hl o, own_put h2 hl o⟩, h3.put hl o, h4.put hl o, h5.put hl o, below_put h6 hd o, by simpa using h7, h8⟩
theorem AllI.cell {l : List Nat} {w W : World} {b base k : Nat} (h : AllI l w b base k W) : ∃ v, W.cell? ⟨w.heap.size, 0, none⟩ = some v ∧ W.ownsRow base 45 9 v k (wrow l k) := by
  obtain ⟨v, h1, h2⟩ := h.row
  exact ⟨v, h1.cell 0, h2⟩
theorem AllI.mine {l : List Nat} {w W : World} {b base k j : Nat} (h : AllI l w b base k W) (hc : AllC w.heap.size j W) : (j = w.heap.size ∨ j = w.heap.size + 1 ∨ j = w.heap.size + 1 + 1) ∨ (base ≤ j ∧ j < W.heap.size ∧ ∃ cs, W.heap[j]? = some (.cells cs 45 (0, 0))) := by
  rcases hc with h1 | h1 | h1 | ⟨v, h1, h2⟩
  · exact .inl (.inl h1)
  · exact .inl (.inr (.inl h1))
  · exact .inl (.inr (.inr h1))
  · obtain ⟨v', h3, h4⟩ := h.cell
    rw [h1] at h3
    cases h3
    rcases h4.2 with ⟨rfl, _⟩ | ⟨g, cap, cur, rfl, hbg, hgg, _⟩
    · cases h2
    · simp only [Value.ownBlock, Option.some.injEq] at h2
      subst h2
      exact .inr ⟨hbg, (Array.getElem?_eq_some_iff.1 hgg).1, cur, hgg⟩
/-- What all words are told to be. -/
def AllPost (l : List Nat) (N : Nat) (w : World) (e : Ending) (w' : World) : Prop :=
  Below w.heap.size w w' ∧ ((ow l N = none ∧ e = .returned (.tuple #[.slice none 0 0, .int .i64 (beg l N), .int .i64 7])) ∨ ∃ v, ow l N ≠ none ∧ e = .returned (.tuple #[v, .int .i64 0, .int .i64 0]) ∧ w'.ownsRow w.heap.size 45 9 v (N + 1) (wrow l (N + 1)))
theorem res_all {tmps : Array Value} {W : World} {q a c : Nat} {v x y : Value} (h2 : tmps.getD 2 undef = .pointer (some ⟨q, 0, none⟩)) (h3 : tmps.getD 3 undef = .pointer (some ⟨a, 0, none⟩)) (h4 : tmps.getD 4 undef = .pointer (some ⟨c, 0, none⟩))
    (c2 : W.cell? ⟨q, 0, none⟩ = some v) (c3 : W.cell? ⟨a, 0, none⟩ = some x) (c4 : W.cell? ⟨c, 0, none⟩ = some y) : (results Tryz.f13 tmps).run Tryz.prog W = .ok (.tuple #[v, x, y]) W := by
  have h2' : tmps[2]?.getD undef = .pointer (some ⟨q, 0, none⟩) := by simpa using h2
  have h3' : tmps[3]?.getD undef = .pointer (some ⟨a, 0, none⟩) := by simpa using h3
  have h4' : tmps[4]?.getD undef = .pointer (some ⟨c, 0, none⟩) := by simpa using h4
  simp [results, Tryz.results13, h2', h3', h4', go_sem, c2, c3, c4]
theorem all_done {W w : World} {v : Value} {base k D : Nat} {xs : List Value} (h2 : Blk W w.heap.size #[v] 50) (h3 : Blk W (w.heap.size + 1) #[.int .i64 0] 3) (h4 : Blk W (w.heap.size + 1 + 1) #[.int .i64 0] 32) (ho : W.ownsRow base 45 9 v k xs) (hl : Below w.heap.size w W) (hb : base ≤ W.heap.size) (hD : W.heap[D]? = some (.deferred (some []))) (hn : w.heap.size + 6 ≤ D ∧ w.heap.size + 6 ≤ base)
    (W3 : World) (e : W3 = ((W.setCell ⟨w.heap.size, 0, none⟩ v).setCell ⟨w.heap.size + 1, 0, none⟩ (.int .i64 0)).setCell ⟨w.heap.size + 1 + 1, 0, none⟩ (.int .i64 0)) :
    Blk W3 w.heap.size #[v] 50 ∧ Blk W3 (w.heap.size + 1) #[.int .i64 0] 3 ∧ Blk W3 (w.heap.size + 1 + 1) #[.int .i64 0] 32 ∧ W3.heap[D]? = some (.deferred (some [])) ∧ W3.ownsRow base 45 9 v k xs ∧ Below w.heap.size w W3 := by
  subst e
  have o1 : ∀ (X : World) (b d : Nat) (u : Value), d ≠ b → (X.setCell ⟨b, 0, none⟩ u).heap[d]? = X.heap[d]? := fun X b d u h => heap_setCell_other X ⟨b, 0, none⟩ d u h
  refine ⟨?_, ?_, ?_, ?_, ?_, ((hl.setCell (p := ⟨w.heap.size, 0, none⟩) (Nat.le_refl _) _).setCell (p := ⟨w.heap.size + 1, 0, none⟩) (Nat.le_succ _) _).setCell (p := ⟨w.heap.size + 1 + 1, 0, none⟩) (by show w.heap.size ≤ w.heap.size + 1 + 1; omega) _⟩
  · exact (o1 _ _ _ _ (by omega)).trans ((o1 _ _ _ _ (by omega)).trans (heap_setCell_same W _ 0 _ 50 v h2))
  · exact (o1 _ _ _ _ (by omega)).trans (heap_setCell_same _ _ 0 _ 3 _ ((o1 _ _ _ _ (by omega)).trans h3))
  · exact heap_setCell_same _ _ 0 _ 32 _ ((o1 _ _ _ _ (by omega)).trans ((o1 _ _ _ _ (by omega)).trans h4))
  · exact (o1 _ _ _ _ (by omega)).trans ((o1 _ _ _ _ (by omega)).trans ((o1 _ _ _ _ (by omega)).trans hD))
  · refine ⟨ho.1, ?_⟩
    rcases ho.2 with hn' | ⟨g, cap, cur, rfl, hbg, hgg, rest⟩
    · exact .inl hn'
    · exact .inr ⟨g, cap, cur, rfl, hbg, (o1 _ _ _ _ (by omega)).trans ((o1 _ _ _ _ (by omega)).trans ((o1 _ _ _ _ (by omega)).trans hgg)), rest⟩
theorem own_slice {w : World} {base n : Nat} {e size : Nat} {v : Value} {xs : List Value} (h : w.ownsRow base e size v n xs) : ∃ A c, v = .slice A n c ∧ (A = none → n = 0 ∧ c = 0) ∧ n ≤ c := by
  rcases h.2 with ⟨rfl, rfl⟩ | ⟨g, cap, cur, rfl, hb, hh, h1, h2, _⟩
  · exact ⟨none, 0, rfl, fun _ => ⟨rfl, rfl⟩, Nat.le_refl _⟩
  · exact ⟨_, cap, rfl, fun h => (by cases h), h1⟩
theorem own_kept {w w' : World} {base e size n : Nat} {v : Value} {xs : List Value} (h : w.ownsRow base e size v n xs) (hk : ∀ k, v.ownBlock = some k → w'.heap[k]? = w.heap[k]?) : w'.ownsRow base e size v n xs := by
  refine ⟨h.1, ?_⟩
  rcases h.2 with hn | ⟨g, cap, cur, rfl, hb, hg, rest⟩
  · exact .inl hn
  · exact .inr ⟨g, cap, cur, rfl, hb, (hk g rfl).trans hg, rest⟩
/-- One word more. -/
theorem AllI.next {l : List Nat} {w W W4 : World} {b k : Nat} {v v1 : Value} {o : Obj} (h : AllI l w b (w.heap.size + 6) k W) (h2 : Blk W w.heap.size #[v] 50) (ho : W.ownsRow (w.heap.size + 6) 45 9 v k (wrow l k)) (ho4 : W4.ownsRow (w.heap.size + 6) 45 9 v1 (k + 1) (wrow l (k + 1))) (hg : (W.alloc o).grownBy W4 v.ownBlock) (hs : ow l k ≠ none) :
    Keep (fun j A => AllC w.heap.size j A) W (W4.setCell ⟨w.heap.size, 0, none⟩ v1) ∧ AllI l w b (w.heap.size + 6) (k + 1) (W4.setCell ⟨w.heap.size, 0, none⟩ v1) := by
  have o1 : ∀ (X : World) (b d : Nat) (u : Value), d ≠ b → (X.setCell ⟨b, 0, none⟩ u).heap[d]? = X.heap[d]? := fun X b d u h => heap_setCell_other X ⟨b, 0, none⟩ d u h
  have sz : W.heap.size ≤ W4.heap.size := Nat.le_trans (by simp) hg.size
  have hq := blk_append h2 ho (by decide) hg
  refine ⟨⟨by simpa using sz, fun j hj hn => ?_⟩, ⟨⟨v1, heap_setCell_same W4 _ 0 _ 50 v1 hq, own_kept ho4 (fun d hd => o1 _ _ _ _ (by have := (ho4.lt d hd).1; omega))⟩, (o1 _ _ _ _ (by omega)).trans (blk_append h.c3 ho (by decide) hg), (o1 _ _ _ _ (by omega)).trans (blk_append h.c4 ho (by decide) hg), (o1 _ _ _ _ (by omega)).trans (blk_append h.c5 ho (by decide) hg), ?_, ?_, fun j hj => ?_⟩⟩
  · have n1 : j ≠ w.heap.size := fun e => hn (.inl e)
    have n2 : some j ≠ v.ownBlock := fun e => hn (.inr (.inr (.inr ⟨v, h2.cell 0, e.symm⟩)))
    exact (o1 _ _ _ _ n1).trans ((hg.block j (by simp; omega) n2).trans (Below.heap_alloc W o j hj))
  · have hb4 : Below w.heap.size w W4 := ((h.low.alloc h.low.size o).grown hg (by have := h.low.size; simp; omega) (fun j hj => by have := (ho.lt j hj).1; omega))
    exact hb4.setCell (p := ⟨w.heap.size, 0, none⟩) (Nat.le_refl _) _
  · have := h.size
    simp
    omega
  · by_cases e : j = k
    · rw [e]; exact hs
    · exact h.some_ j (by omega)
theorem all_stop {l : List Nat} {w W : World} {b base k N : Nat} {v : Value} (h : AllI l w b base k W) (h2 : Blk W w.heap.size #[v] 50) (ho : ow l N = none) (a : Int) (ea : a = beg l N) :
    (∀ j, w.heap.size + 3 ≤ j → ((((W.setCell ⟨w.heap.size, 0, none⟩ (.slice none 0 0)).setCell ⟨w.heap.size + 1, 0, none⟩ (.int .i64 a)).setCell ⟨w.heap.size + 1 + 1, 0, none⟩ (.int .i64 7)).drew).heap[j]? = W.heap[j]?) ∧ AllX l N w .ret (k + 1) ((((W.setCell ⟨w.heap.size, 0, none⟩ (.slice none 0 0)).setCell ⟨w.heap.size + 1, 0, none⟩ (.int .i64 a)).setCell ⟨w.heap.size + 1 + 1, 0, none⟩ (.int .i64 7)).drew) := by
  subst ea
  have o1 : ∀ (X : World) (b d : Nat) (u : Value), d ≠ b → (X.setCell ⟨b, 0, none⟩ u).heap[d]? = X.heap[d]? := fun X b d u h => heap_setCell_other X ⟨b, 0, none⟩ d u h
  refine ⟨fun j hj => (o1 _ _ _ _ (by omega)).trans ((o1 _ _ _ _ (by omega)).trans (o1 _ _ _ _ (by omega))), rfl, ho, ?_, ?_, ?_, bdrew1 (((h.low.setCell (p := ⟨w.heap.size, 0, none⟩) (Nat.le_refl _) _).setCell (p := ⟨w.heap.size + 1, 0, none⟩) (Nat.le_succ _) _).setCell (p := ⟨w.heap.size + 1 + 1, 0, none⟩) (by show w.heap.size ≤ w.heap.size + 1 + 1; omega) _)⟩
  · exact (o1 _ _ _ _ (by omega)).trans ((o1 _ _ _ _ (by omega)).trans (heap_setCell_same W _ 0 _ 50 _ h2))
  · exact (o1 _ _ _ _ (by omega)).trans (heap_setCell_same _ _ 0 _ 3 _ ((o1 _ _ _ _ (by omega)).trans h.c3))
  · exact heap_setCell_same _ _ 0 _ 32 _ ((o1 _ _ _ _ (by omega)).trans ((o1 _ _ _ _ (by omega)).trans h.c4))
theorem blk_at {X : World} {n : Nat} (vs : Array Value) (T : TypeId) (h : X.heap.size = n) : Blk (X.alloc (.cells vs T)) n vs T := by subst h; exact Blk.new _ _ _
theorem all_start (w wl : World) (s : ByteArray) (ewl : wl = ((((((w.alloc (.cells #[.slice none 0 0] 50)).alloc (.cells #[.int .i64 0] 3)).alloc (.cells #[.int .i64 0] 32)).alloc (.cells #[.string s, .int .i64 0] 86)).alloc (.cells #[.pointer (some ⟨w.heap.size + 1 + 1 + 1, 0, none⟩)] 79)).alloc (.cells #[.pointer (some ⟨w.heap.size + 1 + 1 + 1, 0, none⟩)] 79))) :
    Blk wl w.heap.size #[.slice none 0 0] 50 ∧ Blk wl (w.heap.size + 1) #[.int .i64 0] 3 ∧ Blk wl (w.heap.size + 1 + 1) #[.int .i64 0] 32 ∧ Rd wl (w.heap.size + 1 + 1 + 1) s 0 ∧ Blk wl (w.heap.size + 1 + 1 + 1 + 1) #[.pointer (some ⟨w.heap.size + 1 + 1 + 1, 0, none⟩)] 79 ∧ Blk wl (w.heap.size + 1 + 1 + 1 + 1 + 1) #[.pointer (some ⟨w.heap.size + 1 + 1 + 1, 0, none⟩)] 79 ∧ wl.heap.size = w.heap.size + 6 ∧ Below w.heap.size w wl := by
  subst ewl
  refine ⟨(((((Blk.new _ _ _).alloc _).alloc _).alloc _).alloc _).alloc _, ((((blk_at _ _ (by simp)).alloc _).alloc _).alloc _).alloc _, (((blk_at _ _ (by simp)).alloc _).alloc _).alloc _, ((blk_at _ _ (by simp)).alloc _).alloc _, (blk_at _ _ (by simp)).alloc _, blk_at _ _ (by simp), by simp, ?_⟩
  exact (((((B1 w _).alloc (by simp) _).alloc (by simp; omega) _).alloc (by simp; omega) _).alloc (by simp; omega) _).alloc (by simp; omega) _
set_option maxRecDepth 100000 in
set_option maxHeartbeats 8000000 in
theorem All_any (N : Nat) (s : ByteArray) (l : List Nat) (hs : Str s l) (hl : l.length ≤ 16384) (hN : stp l N = true) (hNl : N ≤ l.length) (hNb : ∀ j, j < N → stp l j = false) (w : World) (hT : Tab w) :
    Calls Tryz.prog 13 #[.string s] w (AllPost l N w) := by
  have hz := hs.size
  have h1 : (s.size : Int) ≤ 16384 := by omega
  have h2 : s.size ≤ 16384 := by omega
  have hw0 : 0 < w.heap.size := by obtain ⟨ev, h1, _⟩ := hT; exact World.block_lt_of_cell? _ _ h1
  refine (callsIn_wide (n := 12)).1 ?_
  refine callsIn_of_wp_marks Tryz.func13 rfl trivial ?_ rfl
  simp only [Tryz.ntmps13, List.size_toArray, List.length_cons, List.length_nil, Nat.reduceAdd, Nat.reduceSub, Array.replicate_succ, Array.replicate_zero, List.push_toArray, List.append_toArray, List.nil_append, List.cons_append]
  refine wpIn_wide.2 ?_
  go_wp2_with (go_at_call 32; refine (words_any _ _).mono ?_; rintro e w8 ⟨rfl, rfl⟩)
  obtain ⟨wl, ewl⟩ : ∃ u, u = ((((((w.alloc (.cells #[.slice none 0 0] 50)).alloc (.cells #[.int .i64 0] 3)).alloc (.cells #[.int .i64 0] 32)).alloc (.cells #[.string s, .int .i64 0] 86)).alloc (.cells #[.pointer (some ⟨w.heap.size + 1 + 1 + 1, 0, none⟩)] 79)).alloc (.cells #[.pointer (some ⟨w.heap.size + 1 + 1 + 1, 0, none⟩)] 79)) := ⟨_, rfl⟩
  rw [← ewl]
  obtain ⟨k2, k3, k4, kb, k5, kp, hz6, hbw⟩ := all_start w wl s ewl
  clear ewl h1 h2 hz
  have I0 : AllI l w (w.heap.size + 1 + 1 + 1) (w.heap.size + 6) 0 wl := ⟨⟨_, k2, World.ownsRow_nil _ _ _ _⟩, k3, k4, k5, hbw, by omega, fun j hj => by omega⟩
  have TB := hT.below hbw
  have KEY := Lib.hid (And.intro hN (And.intro hNl hNb))
  have LT := Lib.hid hs.lt
  refine (wpIn_wide (n := 12)).1 ?_
  refine wpIn_rangeFunc_m (encs := encW l) (R := fun k W => Rd W (w.heap.size + 1 + 1 + 1) s (pos l (k + 1))) (N := N + 1) (b := w.heap.size + 1 + 1 + 1) (T := fun j => j = w.heap.size + 1 + 1 + 1 + 1 + 1 ∨ j = w.heap.size + 1 + 1 + 1 ∨ j = 0) (n := 12) (by omega) (gf := 62) (lb := #[.pointer (some ⟨w.heap.size + 1 + 1 + 1 + 1 + 1, 0, none⟩)]) rfl (enters_of Tryz.func62 (by kernel_rfl) rfl)
    (words_seq 11 (by omega) (w.heap.size + 1 + 1 + 1 + 1 + 1) (w.heap.size + 1 + 1 + 1) N s l hs (by omega) hN hNl hNb (by omega) (by omega) (by omega) (fun j => j = w.heap.size + 1 + 1 + 1 + 1 + 1 ∨ j = w.heap.size + 1 + 1 + 1 ∨ j = 0) (.inl rfl) (.inr (.inl rfl)) (.inr (.inr rfl)) wl kp kb TB)
    (Below.refl _ _) (fun _ => rfl) (fun j h => by omega) (by omega) (fun j A => AllC w.heap.size j A) (fun k W => AllI l w (w.heap.size + 1 + 1 + 1) (w.heap.size + 6) k W) (AllX l N w)
    (fun k W W' h hg => h.turn (by omega) hg)
    (fun c k W W' h hg => ⟨h.1, h.2.1, h.2.2.1.grown hg (fun e => by have := Option.some.inj e; omega), h.2.2.2.1.grown hg (fun e => by have := Option.some.inj e; omega), h.2.2.2.2.1.grown hg (fun e => by have := Option.some.inj e; omega), below_new h.2.2.2.2.2 h.2.2.2.2.2.size hg (by omega)⟩)
    (fun k d W lp o hd h hl => h.put hl (by omega))
    (fun c k d W lp o hd h hl => ⟨h.1, h.2.1, h.2.2.1.put hl o, h.2.2.2.1.put hl o, h.2.2.2.2.1.put hl o, below_put h.2.2.2.2.2 (by omega) o⟩)
    (fun k A A' h hb => h.below hb) (fun k d W lp o hd h hl => Blk.put h hl o)
    (fun k A j h hTj hc => by rcases h.mine hc with h1 | ⟨h1, _⟩ <;> omega)
    (fun k A j h hc => by rcases h.mine hc with h1 | ⟨_, h1, _⟩; have := h.size; omega; exact h1)
    (fun k A A' j h hg hc => by
      rcases hc with h1 | h1 | h1 | ⟨v, h1, h2⟩
      · exact .inl h1
      · exact .inr (.inl h1)
      · exact .inr (.inr (.inl h1))
      · obtain ⟨v', h3, _⟩ := h.row
        have h4 := (h3.grown hg (fun e => by have := Option.some.inj e; omega)).cell 0
        have e : v = v' := by rw [h1] at h4; simpa using h4
        exact .inr (.inr (.inr ⟨v, by rw [e]; exact h3.cell 0, h2⟩)))
    (fun k A j lp h hl hc => by
      rcases h.mine hc with (h1 | h1 | h1) | ⟨_, _, cs, h1⟩
      · obtain ⟨v, h3, _⟩ := h.row; rw [h1, show A.heap[w.heap.size]? = _ from h3] at hl; cases hl
      · rw [h1, show A.heap[w.heap.size + 1]? = _ from h.c3] at hl; cases hl
      · rw [h1, show A.heap[w.heap.size + 1 + 1]? = _ from h.c4] at hl; cases hl
      · rw [h1] at hl; cases hl)
    (fun k A j lp h hl hc => by
      rcases h.mine hc with (h1 | h1 | h1) | ⟨_, _, cs, h1⟩
      · obtain ⟨v, h3, _⟩ := h.row; rw [h1, show A.heap[w.heap.size]? = _ from h3] at hl; cases hl
      · rw [h1, show A.heap[w.heap.size + 1]? = _ from h.c3] at hl; cases hl
      · rw [h1, show A.heap[w.heap.size + 1 + 1]? = _ from h.c4] at hl; cases hl
      · rw [h1] at hl; cases hl)
    (fun k A lp o d j hd h hl hc => by
      rcases hc with h1 | h1 | h1 | ⟨v, h1, h2⟩
      · exact .inl h1
      · exact .inr (.inl h1)
      · exact .inr (.inr (.inl h1))
      · obtain ⟨v', h3, _⟩ := h.row
        have h4 := (h3.put hl o).cell 0
        have e : v = v' := by rw [h1] at h4; simpa using h4
        exact .inr (.inr (.inr ⟨v, by rw [e]; exact h3.cell 0, h2⟩)))
    I0
    (fun k bl => { tmps := #[.string s, undef, .pointer (some ⟨w.heap.size, 0, none⟩), .pointer (some ⟨w.heap.size + 1, 0, none⟩), .pointer (some ⟨w.heap.size + 1 + 1, 0, none⟩), .pointer (some ⟨w.heap.size + 1 + 1 + 1 + 1, 0, none⟩), .pointer (some ⟨bl, 0, none⟩), .bool (ow l k).isSome, .string s, .int .i64 l.length, .bool (decide (16384 < (l.length : Int))), .string s, .agg #[.string s, .int .i64 0], .agg #[.string s, .int .i64 0], .pointer (some ⟨w.heap.size + 1 + 1 + 1, 0, none⟩), .pointer (some ⟨w.heap.size + 1 + 1 + 1, 0, none⟩), .func (.func 62) #[] #[.pointer (some ⟨w.heap.size + 1 + 1 + 1 + 1 + 1, 0, none⟩)], .agg (wA l k), .bool (ow l k).isSome, undef, undef, undef, undef, undef, undef, undef, undef, undef, undef, undef, undef], defers := [] })
    (fun k => .cells (wA l k) 45) ?assign ?body ?done ?stop
  case assign =>
    intro l2 k W K hK
    unfold encW
    cases ho : ow l k with
    | none =>
      rw [wA_none ho] at hK ⊢
      rw [ho] at hK
      simp only [Option.isSome_none] at hK ⊢
      gi_wp2
      exact hK
    | some x =>
      rw [wA_some ho] at hK ⊢
      rw [ho] at hK
      simp only [Option.isSome_some] at hK ⊢
      gi_wp2
      exact hK
  case stop =>
    rintro D cd k W hD hk ⟨rfl, ho, h2, h3, h4, hlow⟩ hK
    have n4 : w.heap.size ≠ D ∧ w.heap.size + 1 ≠ D ∧ w.heap.size + 1 + 1 ≠ D ∧ w.heap.size ≤ D := by omega
    have HC := Lib.hid (And.intro ho (And.intro h2 (And.intro h3 (And.intro h4 (And.intro hlow (And.intro hK n4))))))
    clear ho h2 h3 h4 hlow hK n4
    gi_wp2
    obtain ⟨ho, h2, h3, h4, hlow, hK, n4⟩ := HC.out
    refine ⟨by simp, .inl ⟨_, _, rfl, run_takeDeferred hK, ?_⟩⟩
    have z2 : Blk (W.putObj D (.deferred none)) w.heap.size #[.slice none 0 0] 50 := (World.putObj_heap_other n4.1).trans h2
    have z3 : Blk (W.putObj D (.deferred none)) (w.heap.size + 1) #[.int .i64 (beg l N)] 3 := (World.putObj_heap_other n4.2.1).trans h3
    have z4 : Blk (W.putObj D (.deferred none)) (w.heap.size + 1 + 1) #[.int .i64 7] 32 := (World.putObj_heap_other n4.2.2.1).trans h4
    exact ⟨_, res_all rfl rfl rfl (z2.cell 0) (z3.cell 0) (z4.cell 0), below_put hlow n4.2.2.2 _, .inl ⟨ho, rfl⟩⟩
  case done =>
    rintro D W hD hI hK
    obtain ⟨v, h2, ho⟩ := hI.row
    obtain ⟨A, cp, rfl, _, _⟩ := own_slice ho
    have c2 : W.cell? ⟨w.heap.size, 0, none⟩ = some (.slice A (N + 1) cp) := h2.cell 0
    have f2 := h2.frozen 0
    have c3 : W.cell? ⟨w.heap.size + 1, 0, none⟩ = some (.int .i64 0) := hI.c3.cell 0
    have f3 := hI.c3.frozen 0
    have c4 : W.cell? ⟨w.heap.size + 1 + 1, 0, none⟩ = some (.int .i64 0) := hI.c4.cell 0
    have f4 := hI.c4.frozen 0
    have n4 : w.heap.size ≠ D ∧ w.heap.size + 1 ≠ D ∧ w.heap.size + 1 + 1 ≠ D ∧ w.heap.size ≤ D := by omega
    have HC := Lib.hid (And.intro h2 (And.intro hI.c3 (And.intro hI.c4 (And.intro ho (And.intro hI.low (And.intro hI.size (And.intro hK (And.intro n4 (hI.some_ N (by omega))))))))))
    have HD := Lib.hid hD
    clear hI hK h2 ho n4
    go_wp2_with fail
    generalize hW3 : (World.setCell _ _ _ : World) = W3
    obtain ⟨h2, h3, h4, ho, hlow, hsz, hK, n4, hs⟩ := HC.out
    obtain ⟨z2, z3, z4, zD, zo, zl⟩ := all_done h2 h3 h4 ho hlow hsz hK (by have := HD.out; omega) W3 hW3.symm
    refine ⟨by simp, .inl ⟨_, _, rfl, run_takeDeferred zD, ?_⟩⟩
    have y2 : Blk (W3.putObj D (.deferred none)) w.heap.size #[.slice A (N + 1) cp] 50 := (World.putObj_heap_other n4.1).trans z2
    have y3 : Blk (W3.putObj D (.deferred none)) (w.heap.size + 1) #[.int .i64 0] 3 := (World.putObj_heap_other n4.2.1).trans z3
    have y4 : Blk (W3.putObj D (.deferred none)) (w.heap.size + 1 + 1) #[.int .i64 0] 32 := (World.putObj_heap_other n4.2.2.1).trans z4
    exact ⟨_, res_all rfl rfl rfl (y2.cell 0) (y3.cell 0) (y4.cell 0), below_put zl n4.2.2.2 _, .inr ⟨_, hs, rfl, own_lower (own_putD zo zD _) (by omega)⟩⟩
  case body =>
    intro l2 k bl W hI hR hbl hob hC hk
    obtain ⟨v, h2, ho⟩ := hI.row
    obtain ⟨A, cp, rfl, _, _⟩ := own_slice ho
    have c2 : W.cell? ⟨w.heap.size, 0, none⟩ = some (.slice A k cp) := h2.cell 0
    have f2 := h2.frozen 0
    have c5 : W.cell? ⟨w.heap.size + 1 + 1 + 1 + 1, 0, none⟩ = some (.pointer (some ⟨w.heap.size + 1 + 1 + 1, 0, none⟩)) := hI.c5.cell 0
    cases hx : ow l k with
    | none =>
      have II := Lib.hid hI
      have RR := Lib.hid hR
      have H2 := Lib.hid h2
      have HX := Lib.hid hx
      have r1 := hR.cells.2
      have f3 := hI.c3.frozen 0
      have f4 := hI.c4.frozen 0
      have c3 : W.cell? ⟨w.heap.size + 1, 0, none⟩ = some (.int .i64 0) := hI.c3.cell 0
      have c4 : W.cell? ⟨w.heap.size + 1 + 1, 0, none⟩ = some (.int .i64 0) := hI.c4.cell 0
      have hkN : k = N := by
        rcases Nat.lt_or_ge k N with h | h
        · have := hNb k h; rw [stp_none hx] at this; cases this
        · omega
      have ep := Lib.hid (pos_none hx)
      have KN := Lib.hid hkN
      rw [wA_none hx]
      simp only [Option.isSome_none]
      clear hI hR hob hC ho h2 hx hkN
      gi_wp2_with fail
      gi_region
      all_goals gi_wp2_with fail
      all_goals (
        obtain ⟨q1, q2⟩ := all_stop (k := k) (N := N) II.out H2.out (by rw [← KN.out]; exact HX.out) (pos l (k + 1)) (by rw [ep.out, KN.out])
        exact ⟨fun j h1 _ _ => q1 j (by have := hz6; omega), by simp, q2⟩)
    | some x =>
      have hb' : Blk W bl (wfull x (beg l k)) 45 := by rw [← wA_some hx]; exact hob
      have II := Lib.hid hI
      have OO := Lib.hid ho
      have H2 := Lib.hid h2
      have HX := Lib.hid hx
      have HCC := Lib.hid hC
      have n0 := hb'.cell 0
      have n1 := hb'.cell 1
      have n2 := hb'.cell 2
      have n3 := hb'.cell 3
      have n4 := hb'.cell 4
      have n5 := hb'.cell 5
      have n6 := hb'.cell 6
      have n7 := hb'.cell 7
      have n8 := hb'.cell 8
      simp only [wfull, List.getElem?_toArray, List.getElem?_cons_zero, List.getElem?_cons_succ] at n0 n1 n2 n3 n4 n5 n6 n7 n8
      rw [wA_some hx]
      simp only [Option.isSome_some]
      obtain ⟨i0, hi, hz0, hz1, hz2⟩ := info_parts Tryz.infoWord
      have I3 := Lib.hid (And.intro hi (And.intro hz0 (And.intro hz1 hz2)))
      clear hI hR hob hC ho h2 hx hb' c5 hi hz0 hz1 hz2
      have hkl : k ≤ 16384 := by omega
      gi_wp2_with (gi_at_builtin; refine wpListIn_append_own _ rfl (.tmp 26) (.tmp 28) 50 rfl (w.heap.size + 6) 45 i0 (.agg wzero) 9 80 Tryz.underlying50 I3.out.1 I3.out.2.1 I3.out.2.2.1 I3.out.2.2.2 rfl (by decide) _ k (wrow l k) rfl (OO.out.alloc _) ⟨W.heap.size, 0, none⟩ 1 1 [.int .i64 x.kind, .int .i64 (beg l k : Nat), .int .i64 ((beg l k : Int) + x.len), .string (bsv x.text), .int .i64 x.lev, .int .u64 (cw x.cls 0), .int .u64 (cw x.cls 1), .int .u64 (cw x.cls 2), .int .u64 (cw x.cls 3)] rfl rfl (fun j u hj => by rw [Addr.add_lit, Nat.zero_add, (Blk.new W _ _).cell]; simpa using hj) (by intro u hu; simp at hu; rcases hu with rfl | rfl | rfl | rfl | rfl | rfl | rfl | rfl | rfl <;> rfl) (by unfold maxLen; omega) (by omega) (by have := II.out.size; simp; omega) ?_; intro v1 W4 ho4 hg4 _; obtain ⟨A1, c1, e1, _, _⟩ := own_slice ho4; subst e1; have O4 := Lib.hid ho4; have G4 := Lib.hid hg4; have hq4 := blk_append H2.out OO.out (by decide) hg4; have d2 := hq4.cell 0; have g2 := hq4.frozen 0; simp only [List.getElem?_toArray, List.getElem?_cons_zero] at d2; clear ho4 hg4 hq4)
      have o4' := O4.out
      rw [show wrow l k ++ [Value.int .i64 x.kind, .int .i64 (beg l k : Nat), .int .i64 ((beg l k : Int) + x.len), .string (bsv x.text), .int .i64 x.lev, .int .u64 (cw x.cls 0), .int .u64 (cw x.cls 1), .int .u64 (cw x.cls 2), .int .u64 (cw x.cls 3)] = wrow l (k + 1) by rw [wrow, wA_some HX.out]; rfl] at o4'
      exact II.out.next H2.out OO.out o4' G4.out (by rw [HX.out]; simp)
end Go.Proofs.YtphdplommmkncaaGreatDoor
namespace Go.Proofs.YtphdplommmkncaaGreatDoor
open Go Go.RowKit
theorem Next_no (k : Nat) (s : ByteArray) (l : List Nat) (hs : Str s l) (hl : l.length ≤ 60000) (hk : k ≤ l.length) (ho : wd (l.drop (k + sk false (l.drop k))) = none) (w : World) (hT : Tab w) :
    Calls Tryz.prog 12 #[.string s, .int .i64 k] w fun e w' => e = .returned (.tuple #[.agg wzero, .bool false]) ∧ Below w.heap.size w w' := by
  have hz := hs.size
  have hw0 : 0 < w.heap.size := by obtain ⟨ev, h1, _⟩ := hT; exact World.block_lt_of_cell? _ _ h1
  have RA := Lib.hid (fun W => readerAt_yes s k (by omega) W)
  have WA := Lib.hid (fun b hb W hW hTW => (word_any b k s l hs hl hk W hW hTW hb).mono fun e w' h => WPost.no h ho)
  have HT := Lib.hid (hT.below (B1 w (.cells wzero 45)))
  have K0 := Lib.hid (Blk.new w wzero 45)
  clear hs hl hk hz ho hT
  go_enter Tryz.func12, Tryz.ntmps12
  go_wp2_with (first | (go_at_call 30; (with_reducible refine (RA.out _).mono ?_); rintro e w1 ⟨b, rfl, hb, hR, hB⟩; have LB := Lib.hid hb; have R1 := Lib.hid hR; have B1' := Lib.hid (bb (B1 w _) hB); have K1 := Lib.hid (K0.out.below' hB); have T1 := Lib.hid (HT.out.below hB); have NB := Lib.hid (show b ≠ 0 ∧ w.heap.size < b from by simp at hb; omega); clear hb hR hB) | (go_at_call 31; (with_reducible refine (WA.out _ NB.out.1 _ R1.out T1.out).mono ?_); rintro e w2 ⟨rfl, hg, hR⟩; have B2' := Lib.hid (below_new B1'.out B1'.out.size hg (by have := NB.out; omega)); have K2 := Lib.hid (K1.out.grown hg (by have := NB.out; simp; omega)); clear hg hR) | (refine wpList_store_whole rfl 45 (.tmp 4) (.tmp 19) rfl w.heap.size wzero rfl rfl 45 _ K2.out (by kernel_rfl) (by rfl) (by simp [Value.oneCell']) ?_; intro w5 hk2 hg2; have K5 := Lib.hid hk2; have G5 := Lib.hid hg2; clear hk2 hg2))
  exact bodyPost_ret (results_cell_tmp rfl _ _ w.heap.size 45 _ _ _ rfl rfl K5.out Tryz.underlying45 rfl (by kernel_rfl)) rfl ⟨rfl, below_store B2'.out G5.out (Nat.le_refl _)⟩
theorem Next_yes (k : Nat) (x : Wd) (s : ByteArray) (l : List Nat) (hs : Str s l) (hl : l.length ≤ 60000) (hk : k ≤ l.length) (ho : wd (l.drop (k + sk false (l.drop k))) = some x) (w : World) (hT : Tab w) :
    Calls Tryz.prog 12 #[.string s, .int .i64 k] w fun e w' => e = .returned (.tuple #[.agg (wfull x (k + sk false (l.drop k))), .bool true]) ∧ Below w.heap.size w w' := by
  have hz := hs.size
  have hw0 : 0 < w.heap.size := by obtain ⟨ev, h1, _⟩ := hT; exact World.block_lt_of_cell? _ _ h1
  have RA := Lib.hid (fun W => readerAt_yes s k (by omega) W)
  have WA := Lib.hid (fun b hb W hW hTW => (word_any b k s l hs hl hk W hW hTW hb).mono fun e w' h => WPost.yes h ho)
  have HT := Lib.hid (hT.below (B1 w (.cells wzero 45)))
  have K0 := Lib.hid (Blk.new w wzero 45)
  obtain ⟨p, ep⟩ : ∃ p, p = k + sk false (l.drop k) := ⟨_, rfl⟩
  rw [← ep] at WA ⊢
  clear hs hl hk hz ho hT ep
  go_enter Tryz.func12, Tryz.ntmps12
  go_wp2_with (first | (go_at_call 30; (with_reducible refine (RA.out _).mono ?_); rintro e w1 ⟨b, rfl, hb, hR, hB⟩; have LB := Lib.hid hb; have R1 := Lib.hid hR; have B1' := Lib.hid (bb (B1 w _) hB); have K1 := Lib.hid (K0.out.below' hB); have T1 := Lib.hid (HT.out.below hB); have NB := Lib.hid (show b ≠ 0 ∧ w.heap.size < b from by simp at hb; omega); clear hb hR hB) | (go_at_call 31; (with_reducible refine (WA.out _ NB.out.1 _ R1.out T1.out).mono ?_); rintro e w2 ⟨rfl, hg, hR⟩; have B2' := Lib.hid (below_new B1'.out B1'.out.size hg (by have := NB.out; omega)); have K2 := Lib.hid (K1.out.grown hg (by have := NB.out; simp; omega)); clear hg hR) | (refine wpList_store_whole rfl 45 (.tmp 4) (.tmp 19) rfl w.heap.size (wfull x p) rfl rfl 45 _ K2.out (by kernel_rfl) (by rfl) (by simp [Value.oneCell']) ?_; intro w5 hk2 hg2; have K5 := Lib.hid hk2; have G5 := Lib.hid hg2; clear hk2 hg2))
  exact bodyPost_ret (results_cell_tmp rfl _ _ w.heap.size 45 _ _ _ rfl rfl K5.out Tryz.underlying45 rfl (by kernel_rfl)) rfl ⟨rfl, below_store B2'.out G5.out (Nat.le_refl _)⟩
end Go.Proofs.YtphdplommmkncaaGreatDoor
namespace Go.Proofs.YtphdplommmkncaaGreatDoor
open Go Go.RowKit
/-- A:2 <- "a" [b-d]* ; -/
def smp : List Nat := [65, 58, 50, 32, 60, 45, 32, 34, 97, 34, 32, 91, 98, 45, 100, 93, 42, 32, 59]
theorem smp_str : Str ⟨#[65, 58, 50, 32, 60, 45, 32, 34, 97, 34, 32, 91, 98, 45, 100, 93, 42, 32, 59]⟩ smp := by unfold Str; rfl
theorem smp0 : (ow smp 0).map (fun x => (x.kind, x.lev, x.len)) = some (2, 2, 3) := by kernel_rfl
theorem smp1 : (ow smp 1).map (fun x => (x.kind, x.len)) = some (5, 2) := by kernel_rfl
theorem smp2 : (ow smp 2).map (fun x => (x.kind, x.text, x.len)) = some (3, [97], 3) := by kernel_rfl
theorem smp3 : (ow smp 3).map (fun x => (x.kind, cw x.cls 0, cw x.cls 1, cw x.cls 2, cw x.cls 3)) = some (4, 0, 120259084288, 0, 0) := by kernel_rfl
theorem smp4 : (ow smp 4).map (fun x => x.kind) = some 5 := by kernel_rfl
theorem smp5 : (ow smp 5).map (fun x => x.kind) = some 5 := by kernel_rfl
theorem smp6 : (ow smp 6).map (fun x => x.kind) = some 1 := by kernel_rfl
theorem stp_of {l : List Nat} {k : Nat} {a : Int} {b : Bool} (h : (ow l k).map (fun x => x.kind) = some a) (hb : (a == 1) = b) : stp l k = b := by
  cases ho : ow l k with
  | none => rw [ho] at h; cases h
  | some x => rw [ho] at h; rw [stp_some ho]; simp only [Option.map_some, Option.some.injEq] at h; rw [h]; exact hb
theorem smp_stp : stp smp 6 = true ∧ ∀ j, j < 6 → stp smp j = false := by
  refine ⟨by kernel_rfl, fun j hj => ?_⟩
  match j, hj with
  | 0, _ => exact (by kernel_rfl : stp smp 0 = false)
  | 1, _ => exact (by kernel_rfl : stp smp 1 = false)
  | 2, _ => exact (by kernel_rfl : stp smp 2 = false)
  | 3, _ => exact (by kernel_rfl : stp smp 3 = false)
  | 4, _ => exact (by kernel_rfl : stp smp 4 = false)
  | 5, _ => exact (by kernel_rfl : stp smp 5 = false)
/-- A cell of the words' row. -/
theorem wrow_at (l : List Nat) (k n i : Nat) (hk : k < n) (hi : i < 9) : (wrow l n)[9 * k + i]? = (wA l k)[i]? := by
  induction n with
  | zero => omega
  | succ n ih =>
    rw [wrow]
    by_cases h : k < n
    · rw [List.getElem?_append_left (by rw [wrow_length]; omega)]
      exact ih h
    · obtain rfl : k = n := by omega
      rw [List.getElem?_append_right (by rw [wrow_length]; omega), wrow_length, show 9 * k + i - k * 9 = i by omega, Array.getElem?_toList]
theorem smp_cells : (wrow smp 7)[0]? = some (.int .i64 2) ∧ (wrow smp 7)[4]? = some (.int .i64 2) ∧ (wrow smp 7)[21]? = some (.string ⟨#[97]⟩) ∧ (wrow smp 7)[32]? = some (.int .u64 0) ∧ (wrow smp 7)[33]? = some (.int .u64 120259084288) ∧ (wrow smp 7)[34]? = some (.int .u64 0) ∧ (wrow smp 7)[35]? = some (.int .u64 0) ∧ (wrow smp 7)[54]? = some (.int .i64 1) := by
  have f : ∀ {k : Nat} {α : Type} {g : Wd → α} {a : α}, (ow smp k).map g = some a → ∃ x, ow smp k = some x ∧ g x = a := by
    intro k α g a h
    cases ho : ow smp k with
    | none => rw [ho] at h; cases h
    | some x => rw [ho] at h; exact ⟨x, rfl, Option.some.inj h⟩
  obtain ⟨x0, h0, e0⟩ := f smp0
  obtain ⟨x2, h2, e2⟩ := f smp2
  obtain ⟨x3, h3, e3⟩ := f smp3
  obtain ⟨x6, h6, e6⟩ := f smp6
  simp only [Prod.mk.injEq] at e0 e2 e3 e6
  refine ⟨?_, ?_, ?_, ?_, ?_, ?_, ?_, ?_⟩
  · rw [wrow_at smp 0 7 0 (by omega) (by omega), wA_some h0]; simp [wfull, e0.1]
  · rw [wrow_at smp 0 7 4 (by omega) (by omega), wA_some h0]; simp [wfull, e0.2.1]
  · rw [wrow_at smp 2 7 3 (by omega) (by omega), wA_some h2]; simp [wfull, e2.2.1, bsv]
  · rw [wrow_at smp 3 7 5 (by omega) (by omega), wA_some h3]; simp [wfull, e3.2.1]
  · rw [wrow_at smp 3 7 6 (by omega) (by omega), wA_some h3]; simp [wfull, e3.2.2.1]
  · rw [wrow_at smp 3 7 7 (by omega) (by omega), wA_some h3]; simp [wfull, e3.2.2.2.1]
  · rw [wrow_at smp 3 7 8 (by omega) (by omega), wA_some h3]; simp [wfull, e3.2.2.2.2]
  · rw [wrow_at smp 6 7 0 (by omega) (by omega), wA_some h6]; simp [wfull, e6]
end Go.Proofs.YtphdplommmkncaaGreatDoor
namespace Go.Proofs.YtphdplommmkncaaGreatDoor
open Go Go.RowKit
theorem rletter_any (c : Nat) (hc : c < 256) (w : World) : Calls Tryz.prog 154 #[.int .u8 c] w fun e w' => e = .returned (.bool (ltr c)) ∧ w = w' := by
  by_cases h1 : (97 : Int) ≤ c
  · by_cases h2 : (c : Int) ≤ 122
    · go_enter Tryz.func154, Tryz.ntmps154
      go_wp2_with fail
      all_goals go_ret
      all_goals exact ⟨ret_bool (by unfold ltr; simp; omega), rfl⟩
    · have h3 : ¬ (c : Int) ≤ 90 := by omega
      have h4 : ((c : Int) == 95) = false := by simp; omega
      go_enter Tryz.func154, Tryz.ntmps154
      go_wp2_with fail
      all_goals go_ret
      all_goals exact ⟨ret_bool (by unfold ltr; simp; omega), rfl⟩
  · by_cases h2 : (65 : Int) ≤ c
    · go_enter Tryz.func154, Tryz.ntmps154
      go_wp2_with fail
      all_goals go_ret
      all_goals exact ⟨ret_bool (by unfold ltr; rw [Bool.eq_iff_iff]; simp; omega), rfl⟩
    · have h4 : ((c : Int) == 95) = false := by simp; omega
      go_enter Tryz.func154, Tryz.ntmps154
      go_wp2_with fail
      all_goals go_ret
      all_goals exact ⟨ret_bool (by unfold ltr; rw [Bool.eq_iff_iff]; simp; omega), rfl⟩
theorem rdigit_any (c : Nat) (w : World) : Calls Tryz.prog 176 #[.int .u8 c] w fun e w' => e = .returned (.bool (dgt c)) ∧ w = w' := by
  by_cases h1 : (48 : Int) ≤ c
  · go_enter Tryz.func176, Tryz.ntmps176
    go_wp2_with fail
    all_goals go_ret
    all_goals exact ⟨ret_bool (by unfold dgt; rw [Bool.eq_iff_iff]; simp; omega), rfl⟩
  · go_enter Tryz.func176, Tryz.ntmps176
    go_wp2_with fail
    all_goals go_ret
    all_goals exact ⟨ret_bool (by unfold dgt; rw [Bool.eq_iff_iff]; simp; omega), rfl⟩
theorem rskip_neg (s : ByteArray) (a : Int) (ha : a < 0) (w : World) : Calls Tryz.prog 78 #[.string s, .int .i64 a] w fun e w' => e = .returned (.int .i64 a) ∧ w = w' := by
  go_enter Tryz.func78, Tryz.ntmps78
  go_wp2_with fail
  go_ret
  exact ⟨rfl, rfl⟩
set_option maxRecDepth 100000 in
set_option maxHeartbeats 4000000 in
theorem rskip_any (k : Nat) (s : ByteArray) (l : List Nat) (hs : Str s l) (hl : l.length ≤ 60000) (hk : k ≤ l.length) (w : World) :
    Calls Tryz.prog 78 #[.string s, .int .i64 k] w fun e w' => e = .returned (.int .i64 (k + sk false (l.drop k) : Nat)) ∧ w = w' := by
  have hz := hs.size
  have SH := Lib.hid hs
  obtain ⟨R, eR⟩ : ∃ R : Nat, R = k + sk false (l.drop k) := ⟨_, rfl⟩
  rw [← eR]
  have ER := Lib.hid eR
  have ZZ := Lib.hid hz
  have hz3 : (s.size : Int) ≤ 60000 := by omega
  clear hs hz eR
  go_enter Tryz.func78, Tryz.ntmps78
  go_wp2_with fail
  go_loopw [1, 5, 6, 18, 22, 37] (fun v1 v5 _ _ _ _ wr => ∃ (j : Nat) (f : Bool), j ≤ l.length ∧ v1 = .int .i64 j ∧ v5 = .bool f ∧ j + sk f (l.drop j) = R ∧ wr = w) (fun v1 _ _ _ _ _ _ => l.length - (intOf v1).toNat)
  case atStart => exact ⟨k, false, hk, rfl, rfl, ER.out.symm, rfl⟩
  case round =>
    obtain ⟨j, f, hj, rfl, rfl, hr, rfl⟩ := hrel
    by_cases hlt : j < l.length
    · obtain ⟨v, ev⟩ : ∃ v, v = l.getD j 0 := ⟨_, rfl⟩
      have e1 : l.drop j = v :: l.drop (j + 1) := by rw [List.drop_eq_getElem_cons hlt, ev]; simp [List.getD, List.getElem?_eq_getElem hlt]
      have hv : v < 256 := by rw [ev, List.getD_eq_getElem?_getD, List.getElem?_eq_getElem hlt]; exact SH.out.lt _ (List.getElem_mem hlt)
      have x0 : ∀ h, (s[j]'h).toNat = v := fun h => (SH.out.at_ j h).trans ev.symm
      have j3 : (j : Int) < s.size := by have := ZZ.out; omega
      have j4 : j < s.size := by have := ZZ.out; omega
      rw [e1] at hr
      clear ev e1 hv hk
      cases f with
      | true =>
        simp only [sk] at hr
        by_cases h10 : v = 10
        · subst h10
          have HR := Lib.hid hr
          clear hr
          go_wp2_with fail
          go_roundw
          case rel => exact ⟨j + 1, false, by omega, by go_num, rfl, by have := HR.out; simp at this; omega, trivial⟩
          case measure => simp [intOf]; omega
        · have hn : ((v : Int) == 10) = false := by simp; omega
          have hn2 : (v == 10) = false := by simp; omega
          rw [hn2] at hr
          have HR := Lib.hid hr
          clear hr hn2
          go_wp2_with fail
          go_roundw
          case rel => exact ⟨j + 1, true, by omega, by go_num, by simp; omega, by have := HR.out; simp at this; omega, trivial⟩
          case measure => simp [intOf]; omega
      | false =>
        simp only [sk] at hr
        by_cases hb : bln v = true
        · rw [if_pos hb] at hr
          have HR := Lib.hid hr
          have hv4 : v = 32 ∨ v = 9 ∨ v = 10 ∨ v = 13 := by simp [bln] at hb; omega
          clear hr hb
          rcases hv4 with rfl | rfl | rfl | rfl
          all_goals (
            go_wp2_with fail
            go_roundw
            case rel => exact ⟨j + 1, false, by omega, by go_num, rfl, by have := HR.out; omega, trivial⟩
            case measure => simp [intOf]; omega)
        · rw [if_neg hb] at hr
          have b1 : ((v : Int) == 32) = false := by simp [bln] at hb; simp; omega
          have b2 : ((v : Int) == 9) = false := by simp [bln] at hb; simp; omega
          have b3 : ((v : Int) == 10) = false := by simp [bln] at hb; simp; omega
          have b4 : ((v : Int) == 13) = false := by simp [bln] at hb; simp; omega
          by_cases h35 : v = 35
          · rw [if_pos h35] at hr
            subst h35
            have HR := Lib.hid hr
            clear hr hb b1 b2 b3 b4
            go_wp2_with fail
            go_roundw
            case rel => exact ⟨j + 1, true, by omega, by go_num, rfl, by have := HR.out; omega, trivial⟩
            case measure => simp [intOf]; omega
          · rw [if_neg h35] at hr
            have b5 : ((v : Int) == 35) = false := by simp; omega
            have HR := Lib.hid hr
            clear hr hb h35
            go_wp2_with fail
            go_ret
            exact ⟨by have := HR.out; rw [← this]; rfl, rfl⟩
    · have hj3 : ¬ (j : Int) < s.size := by have := ZZ.out; omega
      have hz0 : sk f (l.drop j) = 0 := by rw [List.drop_of_length_le (by omega)]; cases f <;> rfl
      rw [hz0] at hr
      have HR := Lib.hid hr
      clear hr hz0 hlt
      go_wp2_with fail
      go_ret
      exact ⟨by have := HR.out; rw [← this]; rfl, rfl⟩
end Go.Proofs.YtphdplommmkncaaGreatDoor
namespace Go.Proofs.YtphdplommmkncaaGreatDoor
open Go Go.RowKit
theorem wfull_plain (n k E : Nat) (t : List Nat) (v : Int) (h : E = k + n) : wfull ⟨2, n, t, v, no⟩ k = #[.int .i64 2, .int .i64 k, .int .i64 E, .string (bsv t), .int .i64 v, .int .u64 0, .int .u64 0, .int .u64 0, .int .u64 0] := by
  subst h
  have e : ∀ j, (cw no j : Int) = 0 := fun j => by have : cw no j = 0 := cw_none j; omega
  simp only [wfull, e]
theorem atI' {s : ByteArray} {l : List Nat} (hs : Str s l) (K : Int) (j : Nat) (e : K = j) : ∀ h, (s[K.toNat]'h).toNat = l.getD j 0 := by
  subst e
  exact fun h => hs.at_ j h
set_option maxRecDepth 100000 in
set_option maxHeartbeats 8000000 in
theorem rnamed_any (k : Nat) (s : ByteArray) (l : List Nat) (hs : Str s l) (hl : l.length ≤ 60000) (hk : k ≤ l.length) (w : World) :
    Calls Tryz.prog 155 #[.string s, .int .i64 k] w fun e w' => e = .returned (.agg (wfull (nam (l.drop k)) k)) ∧ Below w.heap.size w w' := by
  have hz := hs.size
  have hn := lead_le inm (l.drop k)
  rw [List.length_drop] at hn
  obtain ⟨E, eE⟩ : ∃ E, E = k + lead inm (l.drop k) := ⟨_, rfl⟩
  obtain ⟨T, eT⟩ : ∃ T, T = s.extract k E := ⟨_, rfl⟩
  have TX : RowKit.Hid (T = bsv ((l.drop k).take (lead inm (l.drop k)))) := Lib.hid (by
    have ht := (hs.extract k E).eq
    rw [show E - k = lead inm (l.drop k) by omega] at ht
    rw [eT, ht])
  have ET := Lib.hid eT
  have NM : RowKit.Hid (nam (l.drop k) = namR (lead inm (l.drop k)) ((l.drop k).take (lead inm (l.drop k))) (l.drop E)) := Lib.hid (by unfold nam; rw [List.drop_drop, ← eE])
  have EE := Lib.hid eE
  have SH := Lib.hid hs
  have ZZ := Lib.hid hz
  have EL := Lib.hid (show E ≤ l.length by omega)
  have hE3 : (E : Int) ≤ s.size := by omega
  have hE4 : (k : Int) ≤ E := by omega
  have hz3 : (s.size : Int) ≤ 60000 := by omega
  obtain ⟨w0, ew0⟩ : ∃ u, u = w.alloc (.cells wzero 118) := ⟨_, rfl⟩
  have K0' : RowKit.Hid (Blk w0 w.heap.size wzero 118) := Lib.hid (by rw [ew0]; exact Blk.new _ _ _)
  have B0' : RowKit.Hid (Below w.heap.size w w0) := Lib.hid (by rw [ew0]; exact B1 w _)
  have ew1 := ew0
  simp only [wzero] at ew1
  clear hs hz hn eE eT ew0
  go_enter Tryz.func155, Tryz.ntmps155
  go_wp2_with fail
  rw [← ew1]
  clear ew1
  go_loopw [5] (fun v5 wr => ∃ j : Nat, k ≤ j ∧ j ≤ l.length ∧ v5 = .int .i64 j ∧ j + lead inm (l.drop j) = E ∧ wr = w0) (fun v5 _ => l.length - (intOf v5).toNat)
  case atStart => exact ⟨k, Nat.le_refl _, hk, rfl, EE.out.symm, rfl⟩
  case round =>
    obtain ⟨j, hkj, hj, rfl, hr, rfl⟩ := hrel
    have K0 := K0'
    have B0 := B0'
    by_cases hlt : j < l.length
    · obtain ⟨v, ev⟩ : ∃ v, v = l.getD j 0 := ⟨_, rfl⟩
      have hv : v < 256 := by rw [ev, List.getD_eq_getElem?_getD, List.getElem?_eq_getElem hlt]; exact SH.out.lt _ (List.getElem_mem hlt)
      have x0 : ∀ h, (s[j]'h).toNat = v := fun h => (SH.out.at_ j h).trans ev.symm
      have j3 : (j : Int) < s.size := by have := ZZ.out; omega
      have j4 : j < s.size := by have := ZZ.out; omega
      rw [lead_at hlt, ← ev] at hr
      have LT := Lib.hid (fun w => rletter_any v hv w)
      have DT := Lib.hid (fun w => rdigit_any v w)
      cases hq : ltr v with
      | true =>
        rw [if_pos (by simp [inm, hq])] at hr
        rw [hq] at LT
        have HR := Lib.hid hr
        clear hr ev hq hv
        go_wp2_with (go_at_call 154; (with_reducible refine (LT.out _).mono ?_); rintro e w1 ⟨rfl, rfl⟩)
        go_roundw
        case rel => exact ⟨j + 1, by omega, by omega, by go_num, by have := HR.out; omega, trivial⟩
        case measure => simp [intOf]; omega
      | false =>
        cases hd : dgt v with
        | true =>
          rw [if_pos (by simp [inm, hd])] at hr
          rw [hq] at LT
          rw [hd] at DT
          have HR := Lib.hid hr
          clear hr ev hq hv hd
          go_wp2_with (first | (go_at_call 154; (with_reducible refine (LT.out _).mono ?_); rintro e w1 ⟨rfl, rfl⟩) | (go_at_call 176; (with_reducible refine (DT.out _).mono ?_); rintro e w1 ⟨rfl, rfl⟩))
          go_roundw
          case rel => exact ⟨j + 1, by omega, by omega, by go_num, by have := HR.out; omega, trivial⟩
          case measure => simp [intOf]; omega
        | false =>
          rw [if_neg (by simp [inm, hq, hd])] at hr
          rw [hq] at LT
          rw [hd] at DT
          obtain rfl : j = E := by omega
          have DC : l.drop j = v :: l.drop (j + 1) := by rw [List.drop_eq_getElem_cons hlt, ev]; simp [List.getD, List.getElem?_eq_getElem hlt]
          have NM2 := Lib.hid NM.out
          rw [DC] at NM2
          have WF := Lib.hid (wfull_plain (lead inm (l.drop k)) k j ((l.drop k).take (lead inm (l.drop k))) (-1) EE.out)
          have LTJ := Lib.hid hlt
          have w1 : IntKind.i64.wrap ((j : Int) + 1) = (j : Int) + 1 := IntWalk.i64_in _ (by omega)
          by_cases h58 : v = 58
          · rw [h58] at NM2
            have h58' : ((v : Int) == 58) = true := by simp; omega
            have h58'' : ((v : Int) != 58) = false := by simp; omega
            by_cases h1 : j + 1 < l.length
            · obtain ⟨v2, ev2⟩ : ∃ v, v = l.getD (j + 1) 0 := ⟨_, rfl⟩
              have hv2 : v2 < 256 := by rw [ev2, List.getD_eq_getElem?_getD, List.getElem?_eq_getElem h1]; exact SH.out.lt _ (List.getElem_mem h1)
              have x1 : ∀ h, (s[j + 1]'h).toNat = v2 := fun h => (SH.out.at_ (j + 1) h).trans ev2.symm
              have x2 : ∀ h, (s[((j : Int) + 1).toNat]'h).toNat = v2 := fun h => (atI' SH.out ((j : Int) + 1) (j + 1) (by omega) h).trans ev2.symm
              have j5 : ¬ (s.size : Int) ≤ (j : Int) + 1 := by have := ZZ.out; omega
              have j6 : (j : Int) + 1 < s.size := by have := ZZ.out; omega
              have j7 : j + 1 < s.size := by have := ZZ.out; omega
              have D2 := Lib.hid (fun w => rdigit_any v2 w)
              cases hd2 : dgt v2 with
              | false =>
                have NAMQ := Lib.hid (NM2.out.trans (namR_0 _ _ (by rw [lead_at h1, ← ev2, if_neg (by rw [hd2]; simp)])))
                rw [hd2] at D2
                clear hr hlt hkj hj ev hq hv hd DC h58 h1 ev2 hv2 hd2
                go_wp2_with (first | (go_at_call 154; (with_reducible refine (LT.out _).mono ?_); rintro e w1 ⟨rfl, rfl⟩) | (go_at_call 176; (with_reducible refine (DT.out _).mono ?_); rintro e w1 ⟨rfl, rfl⟩) | (go_at_call 176; (with_reducible refine (D2.out _).mono ?_); rintro e w1 ⟨rfl, rfl⟩) | (refine wpList_store_whole rfl 118 (.tmp 6) (.tmp 32) rfl wr.heap.size #[.int .i64 2, .int .i64 k, .int .i64 j, .string (s.extract k j), .int .i64 (-1), .int .u64 0, .int .u64 0, .int .u64 0, .int .u64 0] (by rfl) rfl 118 _ (Blk.new wr wzero 118) (by kernel_rfl) (by rfl) (by simp [Value.oneCell']) ?_; intro w5 hk5 hg5; have K5 := Lib.hid hk5; have L5 := Lib.hid ((K0.out.alloc _).grown hg5 (by have := K0.out.lt; simp; omega)); have H5 := Lib.hid (below_new (B0.out.alloc B0.out.size _) (by have := B0.out.size; simp; omega) hg5 B0.out.size); have n0 := hk5.cell 0; have n1 := hk5.cell 1; have n2 := hk5.cell 2; have n3 := hk5.cell 3; have n4 := hk5.cell 4; have n5 := hk5.cell 5; have n6 := hk5.cell 6; have n7 := hk5.cell 7; have n8 := hk5.cell 8; simp only [List.getElem?_toArray, List.getElem?_cons_zero, List.getElem?_cons_succ] at n0 n1 n2 n3 n4 n5 n6 n7 n8; clear hk5 hg5) | (refine wpList_store_whole rfl 118 (.tmp 4) (.tmp 52) rfl w.heap.size #[.int .i64 2, .int .i64 k, .int .i64 j, .string (s.extract k j), .int .i64 (-1), .int .u64 0, .int .u64 0, .int .u64 0, .int .u64 0] rfl rfl 118 _ L5.out (by kernel_rfl) (by rfl) (by simp [Value.oneCell']) ?_; intro w7 hk7 hg7; have K7 := Lib.hid hk7; have H7 := Lib.hid (below_store H5.out hg7 (Nat.le_refl _)); clear hk7 hg7))
                exact bodyPost_ret (results_cell_row rfl _ _ w.heap.size 118 _ _ _ rfl K7.out Tryz.underlying118 rfl (by kernel_rfl)) rfl ⟨by rw [NAMQ.out, WF.out, ← TX.out, ET.out], H7.out⟩
              | true =>
                have e1 : lead dgt (l.drop (j + 1)) ≠ 0 := by rw [lead_at h1, ← ev2, if_pos hd2]; omega
                have NAMQ := Lib.hid (NM2.out.trans (namR_1 _ _ e1))
                obtain ⟨nd, end'⟩ : ∃ nd, nd = lead dgt (l.drop (j + 1)) := ⟨_, rfl⟩
                have hnd := lead_le dgt (l.drop (j + 1))
                rw [List.length_drop] at hnd
                rw [← end'] at NAMQ hnd
                have ND := Lib.hid end'
                have HND := Lib.hid hnd
                have H1 := Lib.hid h1
                rw [hd2] at D2
                clear hr hlt hkj hj ev hq hv hd DC h58 h1 ev2 hv2 hd2 e1 end' hnd
                go_wp2_with (first | (go_at_call 154; (with_reducible refine (LT.out _).mono ?_); rintro e w1 ⟨rfl, rfl⟩) | (go_at_call 176; (with_reducible refine (DT.out _).mono ?_); rintro e w1 ⟨rfl, rfl⟩) | (go_at_call 176; (with_reducible refine (D2.out _).mono ?_); rintro e w1 ⟨rfl, rfl⟩) | (refine wpList_store_whole rfl 118 (.tmp 6) (.tmp 32) rfl wr.heap.size #[.int .i64 2, .int .i64 k, .int .i64 j, .string (s.extract k j), .int .i64 (-1), .int .u64 0, .int .u64 0, .int .u64 0, .int .u64 0] (by rfl) rfl 118 _ (Blk.new wr wzero 118) (by kernel_rfl) (by rfl) (by simp [Value.oneCell']) ?_; intro w5 hk5 hg5; have K5 := Lib.hid hk5; have L5 := Lib.hid ((K0.out.alloc _).grown hg5 (by have := K0.out.lt; simp; omega)); have H5 := Lib.hid (below_new (B0.out.alloc B0.out.size _) (by have := B0.out.size; simp; omega) hg5 B0.out.size); have n0 := hk5.cell 0; have n1 := hk5.cell 1; have n2 := hk5.cell 2; have n3 := hk5.cell 3; have n4 := hk5.cell 4; have n5 := hk5.cell 5; have n6 := hk5.cell 6; have n7 := hk5.cell 7; have n8 := hk5.cell 8; simp only [List.getElem?_toArray, List.getElem?_cons_zero, List.getElem?_cons_succ] at n0 n1 n2 n3 n4 n5 n6 n7 n8; have f4 := hk5.frozen 4; clear hk5 hg5))
                clear n0 n1 n2 n3 n4 n5 n6 n7 n8 f4 x0 x1 x2 j5 j6 j7 h58' h58''
                obtain ⟨q, eq⟩ : ∃ q, q = wr.heap.size := ⟨_, rfl⟩
                have KQ : RowKit.Hid (Blk (w5.setCell ⟨q, 4, none⟩ (.int .i64 0)) q #[.int .i64 2, .int .i64 k, .int .i64 j, .string (s.extract k j), .int .i64 0, .int .u64 0, .int .u64 0, .int .u64 0, .int .u64 0] 118) := Lib.hid (by rw [eq]; exact heap_setCell_same _ _ 4 _ _ _ K5.out)
                have HQ := Lib.hid (show w.heap.size ≠ q by have := K0.out.lt; omega)
                have LQ : RowKit.Hid (Blk (w5.setCell ⟨q, 4, none⟩ (.int .i64 0)) w.heap.size wzero 118) := Lib.hid ((heap_setCell_other w5 ⟨q, 4, none⟩ w.heap.size _ HQ.out).trans L5.out)
                have GQ := Lib.hid (show w.heap.size ≤ q by have := B0.out.size; omega)
                have BQ : RowKit.Hid (Below w.heap.size w (w5.setCell ⟨q, 4, none⟩ (.int .i64 0))) := Lib.hid (H5.out.setCell (p := ⟨q, 4, none⟩) GQ.out _)
                rw [← eq]
                clear eq
                go_loopw [5] (fun v5 W => ∃ (i A : Nat), j + 1 ≤ i ∧ i ≤ l.length ∧ v5 = .int .i64 i ∧ i + lead dgt (l.drop i) = j + 1 + nd ∧ A ≤ 9999 ∧ (i - (j + 1) ≤ 4 → A = val ((l.drop (j + 1)).take (i - (j + 1)))) ∧ Blk W q #[.int .i64 2, .int .i64 k, .int .i64 j, .string (s.extract k j), .int .i64 A, .int .u64 0, .int .u64 0, .int .u64 0, .int .u64 0] 118 ∧ Blk W w.heap.size wzero 118 ∧ Below w.heap.size w W) (fun v5 _ => l.length - (intOf v5).toNat)
                case atStart => exact ⟨j + 1, 0, Nat.le_refl _, by have := H1.out; omega, by go_num, by rw [ND.out], by omega, fun _ => by simp [val], KQ.out, LQ.out, BQ.out⟩
                case round =>
                  obtain ⟨i, A, hi1, hi2, rfl, hF, hA, hV, hK, hL, hB⟩ := hrel
                  obtain ⟨wi, rfl⟩ : ∃ u, u = wr := ⟨_, rfl⟩
                  have HV := Lib.hid hV
                  have HK := Lib.hid hK
                  have HL := Lib.hid hL
                  have HBB := Lib.hid hB
                  have c4 := hK.cell 4
                  have c2 := hK.cell 2
                  have f4 := hK.frozen 4
                  have f2 := hK.frozen 2
                  simp only [List.getElem?_toArray, List.getElem?_cons_zero, List.getElem?_cons_succ] at c4 c2
                  clear hV hK hL hB
                  by_cases hlt : i < l.length
                  · obtain ⟨u, eu⟩ : ∃ v, v = l.getD i 0 := ⟨_, rfl⟩
                    have hu : u < 256 := by rw [eu, List.getD_eq_getElem?_getD, List.getElem?_eq_getElem hlt]; exact SH.out.lt _ (List.getElem_mem hlt)
                    have x0 : ∀ h, (s[i]'h).toNat = u := fun h => (SH.out.at_ i h).trans eu.symm
                    have i3 : (i : Int) < s.size := by have := ZZ.out; omega
                    have i4 : i < s.size := by have := ZZ.out; omega
                    have DU := Lib.hid (fun w => rdigit_any u w)
                    rw [lead_at hlt, ← eu] at hF
                    cases hdu : dgt u with
                    | true =>
                      rw [if_pos hdu] at hF
                      rw [hdu] at DU
                      have hd48 : 48 ≤ u ∧ u ≤ 57 := by simp [dgt] at hdu; omega
                      have TK : (l.drop (j + 1)).take (i + 1 - (j + 1)) = (l.drop (j + 1)).take (i - (j + 1)) ++ [u] := by
                        rw [show i + 1 - (j + 1) = i - (j + 1) + 1 by omega, List.take_add_one, List.getElem?_drop, show j + 1 + (i - (j + 1)) = i by omega, List.getElem?_eq_getElem hlt, eu]
                        simp [List.getD, List.getElem?_eq_getElem hlt]
                      obtain ⟨X, eX⟩ : ∃ X : Int, X = 10 * (A : Int) := ⟨_, rfl⟩
                      obtain ⟨D, eD⟩ : ∃ D : Int, D = (u : Int) - 48 := ⟨_, rfl⟩
                      obtain ⟨S, eS⟩ : ∃ S : Int, S = X + D := ⟨_, rfl⟩
                      have h1 : IntKind.i64.wrap (10 * (A : Int)) = X := (IntWalk.i64_in _ (by omega)).trans eX.symm
                      have h2 : IntKind.u8.wrap ((u : Int) - 48) = D := (u8_in (by omega)).trans eD.symm
                      have h3 : IntKind.i64.wrap D = D := IntWalk.i64_in _ (by omega)
                      have h4 : IntKind.i64.wrap (X + D) = S := (IntWalk.i64_in _ (by omega)).trans eS.symm
                      have EX := Lib.hid (And.intro eX (And.intro eD (And.intro eS (And.intro hd48 (And.intro TK (And.intro hF hA))))))
                      clear eX eD eS hd48 TK hF eu hu hdu hA
                      go_wp2_with (go_at_call 176; (with_reducible refine (DU.out _).mono ?_); rintro e w1 ⟨rfl, rfl⟩)
                      go_region
                      obtain ⟨M, eM⟩ : ∃ M : Nat, min S 9999 = (M : Int) := ⟨(min S 9999).toNat, by have := EX.out; omega⟩
                      rw [eM]
                      have HM := Lib.hid eM
                      clear eM h1 h2 h3 h4
                      go_wp2_with fail
                      go_roundw
                      case rel =>
                        obtain ⟨eX, eD, eS, hd48, TK, hF, hA⟩ := EX.out
                        have eM := HM.out
                        refine ⟨i + 1, M, by omega, by omega, by go_num, by omega, by omega, fun h => ?_, heap_setCell_same _ _ 4 _ _ _ HK.out, (heap_setCell_other wi ⟨q, 4, none⟩ w.heap.size _ HQ.out).trans HL.out, bdrew1 (HBB.out.setCell (p := ⟨q, 4, none⟩) GQ.out _)⟩
                        have hv := HV.out (by omega)
                        rw [TK]
                        have hval : val ((l.drop (j + 1)).take (i - (j + 1)) ++ [u]) = 10 * A + (u - 48) := by rw [hv]; simp [val, List.foldl_append]
                        have hdig : ∀ y ∈ (l.drop (j + 1)).take (i + 1 - (j + 1)), y < 58 := fun y hy => by
                          have h7 : (l.drop (j + 1)).take (i + 1 - (j + 1)) = ((l.drop (j + 1)).take (lead dgt (l.drop (j + 1)))).take (i + 1 - (j + 1)) := by rw [List.take_take, Nat.min_eq_left (by have := ND.out; omega)]
                          rw [h7] at hy
                          exact dgt_lt (lead_all dgt _ y (List.mem_of_mem_take hy))
                        have hb := val_le _ 0 hdig
                        rw [TK] at hb
                        have hb2 : val ((l.drop (j + 1)).take (i - (j + 1)) ++ [u]) < (0 + 1) * 10 ^ ((l.drop (j + 1)).take (i - (j + 1)) ++ [u]).length := hb
                        have hlen : ((l.drop (j + 1)).take (i - (j + 1)) ++ [u]).length ≤ 4 := by rw [← TK, List.length_take]; omega
                        have hp : (10 : Nat) ^ ((l.drop (j + 1)).take (i - (j + 1)) ++ [u]).length ≤ 10 ^ 4 := Nat.pow_le_pow_right (by omega) hlen
                        omega
                      case measure => simp [intOf]; omega
                    | false =>
                      rw [if_neg (by rw [hdu]; simp)] at hF
                      rw [hdu] at DU
                      have hi : i = j + 1 + nd := by omega
                      have WF2 := Lib.hid (wfull_plain (lead inm (l.drop k) + 1 + nd) k i ((l.drop k).take (lead inm (l.drop k))) (lvl ((l.drop (j + 1)).take nd)) (by have := EE.out; omega))
                      have LV : RowKit.Hid (lvl ((l.drop (j + 1)).take nd) = if 4 < nd then 9999 else (A : Int)) := Lib.hid (by
                        unfold lvl
                        rw [List.length_take, List.length_drop, Nat.min_eq_left HND.out]
                        by_cases h4 : 4 < nd
                        · rw [if_pos h4, if_pos h4]
                        · rw [if_neg h4, if_neg h4, HV.out (by omega), show i - (j + 1) = nd by omega])
                      have r0 := HK.out.cell 0
                      have r1 := HK.out.cell 1
                      have r3 := HK.out.cell 3
                      have r5 := HK.out.cell 5
                      have r6 := HK.out.cell 6
                      have r7 := HK.out.cell 7
                      have r8 := HK.out.cell 8
                      simp only [List.getElem?_toArray, List.getElem?_cons_zero, List.getElem?_cons_succ] at r0 r1 r3 r5 r6 r7 r8
                      obtain ⟨Y, eY⟩ : ∃ Y : Int, Y = (i : Int) - j := ⟨_, rfl⟩
                      have hY : IntKind.i64.wrap ((i : Int) - j) = Y := (IntWalk.i64_in _ (by have := ZZ.out; omega)).trans eY.symm
                      by_cases h5 : 5 < Y
                      · have LV2 := Lib.hid (LV.out.trans (if_pos (by omega)))
                        clear LV hi hF eY hi1 hi2 hA hlt eu hu hdu
                        go_wp2_with (first | (go_at_call 176; (with_reducible refine (DU.out _).mono ?_); rintro e w1 ⟨rfl, rfl⟩) | (refine wpList_store_whole rfl 118 (.tmp 4) (.tmp 87) rfl w.heap.size #[.int .i64 2, .int .i64 k, .int .i64 i, .string (s.extract k j), .int .i64 9999, .int .u64 0, .int .u64 0, .int .u64 0, .int .u64 0] rfl rfl 118 _ ((heap_setCell_other _ ⟨q, 2, none⟩ w.heap.size _ HQ.out).trans ((heap_setCell_other _ ⟨q, 4, none⟩ w.heap.size _ HQ.out).trans HL.out)) (by kernel_rfl) (by rfl) (by simp [Value.oneCell']) ?_; intro w7 hk7 hg7; have K7 := Lib.hid hk7; have H7 := Lib.hid (below_store ((HBB.out.setCell (p := ⟨q, 4, none⟩) GQ.out _).setCell (p := ⟨q, 2, none⟩) GQ.out _) hg7 (Nat.le_refl _)); clear hk7 hg7))
                        exact bodyPost_ret (results_cell_row rfl _ _ w.heap.size 118 _ _ _ rfl K7.out Tryz.underlying118 rfl (by kernel_rfl)) rfl ⟨by rw [NAMQ.out, WF2.out, LV2.out, ← TX.out, ET.out], H7.out⟩
                      · have LV2 := Lib.hid (LV.out.trans (if_neg (by omega)))
                        clear LV hi hF eY hi1 hi2 hA hlt eu hu hdu
                        go_wp2_with (first | (go_at_call 176; (with_reducible refine (DU.out _).mono ?_); rintro e w1 ⟨rfl, rfl⟩) | (refine wpList_store_whole rfl 118 (.tmp 4) (.tmp 87) rfl w.heap.size #[.int .i64 2, .int .i64 k, .int .i64 i, .string (s.extract k j), .int .i64 A, .int .u64 0, .int .u64 0, .int .u64 0, .int .u64 0] rfl rfl 118 _ ((heap_setCell_other _ ⟨q, 2, none⟩ w.heap.size _ HQ.out).trans HL.out) (by kernel_rfl) (by rfl) (by simp [Value.oneCell']) ?_; intro w7 hk7 hg7; have K7 := Lib.hid hk7; have H7 := Lib.hid (below_store (HBB.out.setCell (p := ⟨q, 2, none⟩) GQ.out _) hg7 (Nat.le_refl _)); clear hk7 hg7))
                        exact bodyPost_ret (results_cell_row rfl _ _ w.heap.size 118 _ _ _ rfl K7.out Tryz.underlying118 rfl (by kernel_rfl)) rfl ⟨by rw [NAMQ.out, WF2.out, LV2.out, ← TX.out, ET.out], H7.out⟩
                  · rw [lead_end (by omega)] at hF
                    have i3 : ¬ (i : Int) < s.size := by have := ZZ.out; omega
                    have hi : i = j + 1 + nd := by omega
                    have WF2 := Lib.hid (wfull_plain (lead inm (l.drop k) + 1 + nd) k i ((l.drop k).take (lead inm (l.drop k))) (lvl ((l.drop (j + 1)).take nd)) (by have := EE.out; omega))
                    have LV : RowKit.Hid (lvl ((l.drop (j + 1)).take nd) = if 4 < nd then 9999 else (A : Int)) := Lib.hid (by
                      unfold lvl
                      rw [List.length_take, List.length_drop, Nat.min_eq_left HND.out]
                      by_cases h4 : 4 < nd
                      · rw [if_pos h4, if_pos h4]
                      · rw [if_neg h4, if_neg h4, HV.out (by omega), show i - (j + 1) = nd by omega])
                    have r0 := HK.out.cell 0
                    have r1 := HK.out.cell 1
                    have r3 := HK.out.cell 3
                    have r5 := HK.out.cell 5
                    have r6 := HK.out.cell 6
                    have r7 := HK.out.cell 7
                    have r8 := HK.out.cell 8
                    simp only [List.getElem?_toArray, List.getElem?_cons_zero, List.getElem?_cons_succ] at r0 r1 r3 r5 r6 r7 r8
                    obtain ⟨Y, eY⟩ : ∃ Y : Int, Y = (i : Int) - j := ⟨_, rfl⟩
                    have hY : IntKind.i64.wrap ((i : Int) - j) = Y := (IntWalk.i64_in _ (by have := ZZ.out; omega)).trans eY.symm
                    by_cases h5 : 5 < Y
                    · have LV2 := Lib.hid (LV.out.trans (if_pos (by omega)))
                      clear LV hi hF eY hi1 hi2 hA hlt 
                      go_wp2_with (first | (refine wpList_store_whole rfl 118 (.tmp 4) (.tmp 87) rfl w.heap.size #[.int .i64 2, .int .i64 k, .int .i64 i, .string (s.extract k j), .int .i64 9999, .int .u64 0, .int .u64 0, .int .u64 0, .int .u64 0] rfl rfl 118 _ ((heap_setCell_other _ ⟨q, 2, none⟩ w.heap.size _ HQ.out).trans ((heap_setCell_other _ ⟨q, 4, none⟩ w.heap.size _ HQ.out).trans HL.out)) (by kernel_rfl) (by rfl) (by simp [Value.oneCell']) ?_; intro w7 hk7 hg7; have K7 := Lib.hid hk7; have H7 := Lib.hid (below_store ((HBB.out.setCell (p := ⟨q, 4, none⟩) GQ.out _).setCell (p := ⟨q, 2, none⟩) GQ.out _) hg7 (Nat.le_refl _)); clear hk7 hg7))
                      exact bodyPost_ret (results_cell_row rfl _ _ w.heap.size 118 _ _ _ rfl K7.out Tryz.underlying118 rfl (by kernel_rfl)) rfl ⟨by rw [NAMQ.out, WF2.out, LV2.out, ← TX.out, ET.out], H7.out⟩
                    · have LV2 := Lib.hid (LV.out.trans (if_neg (by omega)))
                      clear LV hi hF eY hi1 hi2 hA hlt 
                      go_wp2_with (first | (refine wpList_store_whole rfl 118 (.tmp 4) (.tmp 87) rfl w.heap.size #[.int .i64 2, .int .i64 k, .int .i64 i, .string (s.extract k j), .int .i64 A, .int .u64 0, .int .u64 0, .int .u64 0, .int .u64 0] rfl rfl 118 _ ((heap_setCell_other _ ⟨q, 2, none⟩ w.heap.size _ HQ.out).trans HL.out) (by kernel_rfl) (by rfl) (by simp [Value.oneCell']) ?_; intro w7 hk7 hg7; have K7 := Lib.hid hk7; have H7 := Lib.hid (below_store (HBB.out.setCell (p := ⟨q, 2, none⟩) GQ.out _) hg7 (Nat.le_refl _)); clear hk7 hg7))
                      exact bodyPost_ret (results_cell_row rfl _ _ w.heap.size 118 _ _ _ rfl K7.out Tryz.underlying118 rfl (by kernel_rfl)) rfl ⟨by rw [NAMQ.out, WF2.out, LV2.out, ← TX.out, ET.out], H7.out⟩
            · have NAMQ := Lib.hid (NM2.out.trans (namR_0 _ _ (lead_end (by omega))))
              have j5 : (s.size : Int) ≤ (j : Int) + 1 := by have := ZZ.out; omega
              clear hr hlt hkj hj ev hq hv hd DC h58 h1
              go_wp2_with (first | (go_at_call 154; (with_reducible refine (LT.out _).mono ?_); rintro e w1 ⟨rfl, rfl⟩) | (go_at_call 176; (with_reducible refine (DT.out _).mono ?_); rintro e w1 ⟨rfl, rfl⟩) | (refine wpList_store_whole rfl 118 (.tmp 6) (.tmp 32) rfl wr.heap.size #[.int .i64 2, .int .i64 k, .int .i64 j, .string (s.extract k j), .int .i64 (-1), .int .u64 0, .int .u64 0, .int .u64 0, .int .u64 0] (by rfl) rfl 118 _ (Blk.new wr wzero 118) (by kernel_rfl) (by rfl) (by simp [Value.oneCell']) ?_; intro w5 hk5 hg5; have K5 := Lib.hid hk5; have L5 := Lib.hid ((K0.out.alloc _).grown hg5 (by have := K0.out.lt; simp; omega)); have H5 := Lib.hid (below_new (B0.out.alloc B0.out.size _) (by have := B0.out.size; simp; omega) hg5 B0.out.size); have n0 := hk5.cell 0; have n1 := hk5.cell 1; have n2 := hk5.cell 2; have n3 := hk5.cell 3; have n4 := hk5.cell 4; have n5 := hk5.cell 5; have n6 := hk5.cell 6; have n7 := hk5.cell 7; have n8 := hk5.cell 8; simp only [List.getElem?_toArray, List.getElem?_cons_zero, List.getElem?_cons_succ] at n0 n1 n2 n3 n4 n5 n6 n7 n8; clear hk5 hg5) | (refine wpList_store_whole rfl 118 (.tmp 4) (.tmp 52) rfl w.heap.size #[.int .i64 2, .int .i64 k, .int .i64 j, .string (s.extract k j), .int .i64 (-1), .int .u64 0, .int .u64 0, .int .u64 0, .int .u64 0] rfl rfl 118 _ L5.out (by kernel_rfl) (by rfl) (by simp [Value.oneCell']) ?_; intro w7 hk7 hg7; have K7 := Lib.hid hk7; have H7 := Lib.hid (below_store H5.out hg7 (Nat.le_refl _)); clear hk7 hg7))
              exact bodyPost_ret (results_cell_row rfl _ _ w.heap.size 118 _ _ _ rfl K7.out Tryz.underlying118 rfl (by kernel_rfl)) rfl ⟨by rw [NAMQ.out, WF.out, ← TX.out, ET.out], H7.out⟩
          · have NAMQ := Lib.hid (NM2.out.trans (namR_no _ _ _ h58))
            have h58' : ((v : Int) == 58) = false := by simp; omega
            have h58'' : ((v : Int) != 58) = true := by simp; omega
            by_cases j5 : (s.size : Int) ≤ (j : Int) + 1
            · clear hr hlt hkj hj ev hq hv hd DC h58
              go_wp2_with (first | (go_at_call 154; (with_reducible refine (LT.out _).mono ?_); rintro e w1 ⟨rfl, rfl⟩) | (go_at_call 176; (with_reducible refine (DT.out _).mono ?_); rintro e w1 ⟨rfl, rfl⟩) | (refine wpList_store_whole rfl 118 (.tmp 6) (.tmp 32) rfl wr.heap.size #[.int .i64 2, .int .i64 k, .int .i64 j, .string (s.extract k j), .int .i64 (-1), .int .u64 0, .int .u64 0, .int .u64 0, .int .u64 0] (by rfl) rfl 118 _ (Blk.new wr wzero 118) (by kernel_rfl) (by rfl) (by simp [Value.oneCell']) ?_; intro w5 hk5 hg5; have K5 := Lib.hid hk5; have L5 := Lib.hid ((K0.out.alloc _).grown hg5 (by have := K0.out.lt; simp; omega)); have H5 := Lib.hid (below_new (B0.out.alloc B0.out.size _) (by have := B0.out.size; simp; omega) hg5 B0.out.size); have n0 := hk5.cell 0; have n1 := hk5.cell 1; have n2 := hk5.cell 2; have n3 := hk5.cell 3; have n4 := hk5.cell 4; have n5 := hk5.cell 5; have n6 := hk5.cell 6; have n7 := hk5.cell 7; have n8 := hk5.cell 8; simp only [List.getElem?_toArray, List.getElem?_cons_zero, List.getElem?_cons_succ] at n0 n1 n2 n3 n4 n5 n6 n7 n8; clear hk5 hg5) | (refine wpList_store_whole rfl 118 (.tmp 4) (.tmp 52) rfl w.heap.size #[.int .i64 2, .int .i64 k, .int .i64 j, .string (s.extract k j), .int .i64 (-1), .int .u64 0, .int .u64 0, .int .u64 0, .int .u64 0] rfl rfl 118 _ L5.out (by kernel_rfl) (by rfl) (by simp [Value.oneCell']) ?_; intro w7 hk7 hg7; have K7 := Lib.hid hk7; have H7 := Lib.hid (below_store H5.out hg7 (Nat.le_refl _)); clear hk7 hg7))
              exact bodyPost_ret (results_cell_row rfl _ _ w.heap.size 118 _ _ _ rfl K7.out Tryz.underlying118 rfl (by kernel_rfl)) rfl ⟨by rw [NAMQ.out, WF.out, ← TX.out, ET.out], H7.out⟩
            · clear hr hlt hkj hj ev hq hv hd DC h58
              go_wp2_with (first | (go_at_call 154; (with_reducible refine (LT.out _).mono ?_); rintro e w1 ⟨rfl, rfl⟩) | (go_at_call 176; (with_reducible refine (DT.out _).mono ?_); rintro e w1 ⟨rfl, rfl⟩) | (refine wpList_store_whole rfl 118 (.tmp 6) (.tmp 32) rfl wr.heap.size #[.int .i64 2, .int .i64 k, .int .i64 j, .string (s.extract k j), .int .i64 (-1), .int .u64 0, .int .u64 0, .int .u64 0, .int .u64 0] (by rfl) rfl 118 _ (Blk.new wr wzero 118) (by kernel_rfl) (by rfl) (by simp [Value.oneCell']) ?_; intro w5 hk5 hg5; have K5 := Lib.hid hk5; have L5 := Lib.hid ((K0.out.alloc _).grown hg5 (by have := K0.out.lt; simp; omega)); have H5 := Lib.hid (below_new (B0.out.alloc B0.out.size _) (by have := B0.out.size; simp; omega) hg5 B0.out.size); have n0 := hk5.cell 0; have n1 := hk5.cell 1; have n2 := hk5.cell 2; have n3 := hk5.cell 3; have n4 := hk5.cell 4; have n5 := hk5.cell 5; have n6 := hk5.cell 6; have n7 := hk5.cell 7; have n8 := hk5.cell 8; simp only [List.getElem?_toArray, List.getElem?_cons_zero, List.getElem?_cons_succ] at n0 n1 n2 n3 n4 n5 n6 n7 n8; clear hk5 hg5) | (refine wpList_store_whole rfl 118 (.tmp 4) (.tmp 52) rfl w.heap.size #[.int .i64 2, .int .i64 k, .int .i64 j, .string (s.extract k j), .int .i64 (-1), .int .u64 0, .int .u64 0, .int .u64 0, .int .u64 0] rfl rfl 118 _ L5.out (by kernel_rfl) (by rfl) (by simp [Value.oneCell']) ?_; intro w7 hk7 hg7; have K7 := Lib.hid hk7; have H7 := Lib.hid (below_store H5.out hg7 (Nat.le_refl _)); clear hk7 hg7))
              exact bodyPost_ret (results_cell_row rfl _ _ w.heap.size 118 _ _ _ rfl K7.out Tryz.underlying118 rfl (by kernel_rfl)) rfl ⟨by rw [NAMQ.out, WF.out, ← TX.out, ET.out], H7.out⟩
    · obtain rfl : j = E := by
        have h1 : l.length ≤ j := by omega
        have h0 := lead_end (p := inm) h1
        omega
      have hd0 : l.drop j = [] := List.drop_of_length_le (by omega)
      have NAMQ := Lib.hid (show nam (l.drop k) = ⟨2, lead inm (l.drop k), (l.drop k).take (lead inm (l.drop k)), -1, no⟩ by rw [NM.out, hd0]; rfl)
      have WF := Lib.hid (wfull_plain (lead inm (l.drop k)) k j ((l.drop k).take (lead inm (l.drop k))) (-1) EE.out)
      have j3 : ¬ (j : Int) < s.size := by have := ZZ.out; omega
      have j5 : (s.size : Int) ≤ (j : Int) + 1 := by omega
      have et := ET.out
      clear hr hlt hkj hj
      go_wp2_with (first | (refine wpList_store_whole rfl 118 (.tmp 6) (.tmp 32) rfl wr.heap.size #[.int .i64 2, .int .i64 k, .int .i64 j, .string (s.extract k j), .int .i64 (-1), .int .u64 0, .int .u64 0, .int .u64 0, .int .u64 0] (by rfl) rfl 118 _ (Blk.new wr wzero 118) (by kernel_rfl) (by rfl) (by simp [Value.oneCell']) ?_; intro w5 hk5 hg5; have K5 := Lib.hid hk5; have L5 := Lib.hid ((K0.out.alloc _).grown hg5 (by have := K0.out.lt; simp; omega)); have H5 := Lib.hid (below_new (B0.out.alloc B0.out.size _) (by have := B0.out.size; simp; omega) hg5 B0.out.size); have n0 := hk5.cell 0; have n1 := hk5.cell 1; have n2 := hk5.cell 2; have n3 := hk5.cell 3; have n4 := hk5.cell 4; have n5 := hk5.cell 5; have n6 := hk5.cell 6; have n7 := hk5.cell 7; have n8 := hk5.cell 8; simp only [List.getElem?_toArray, List.getElem?_cons_zero, List.getElem?_cons_succ] at n0 n1 n2 n3 n4 n5 n6 n7 n8; clear hk5 hg5) | (refine wpList_store_whole rfl 118 (.tmp 4) (.tmp 52) rfl w.heap.size #[.int .i64 2, .int .i64 k, .int .i64 j, .string (s.extract k j), .int .i64 (-1), .int .u64 0, .int .u64 0, .int .u64 0, .int .u64 0] rfl rfl 118 _ L5.out (by kernel_rfl) (by rfl) (by simp [Value.oneCell']) ?_; intro w7 hk7 hg7; have K7 := Lib.hid hk7; have H7 := Lib.hid (below_store H5.out hg7 (Nat.le_refl _)); clear hk7 hg7))
      exact bodyPost_ret (results_cell_row rfl _ _ w.heap.size 118 _ _ _ rfl K7.out Tryz.underlying118 rfl (by kernel_rfl)) rfl ⟨by rw [NAMQ.out, WF.out, ← TX.out, ET.out], H7.out⟩
end Go.Proofs.YtphdplommmkncaaGreatDoor
namespace Go.Proofs.YtphdplommmkncaaGreatDoor
open Go Go.RowKit
theorem is_any (p : Int) (w : World) : Calls Tryz.prog 199 #[.int .i64 p] w fun e w' => e = .returned (.bool (kn p)) ∧ w = w' := by
  have h : kn p = (p == 1 || p == 2) := rfl
  rw [h]
  clear h
  by_cases h1 : p = 1
  · subst h1
    go_enter Tryz.func199, Tryz.ntmps199
    go_wp2
    go_ret
    exact ⟨rfl, rfl⟩
  · have h2 : (p == 1) = false := by simpa using h1
    go_enter Tryz.func199, Tryz.ntmps199
    go_wp2
    go_ret
    exact ⟨ret_bool (by rw [h2]; rfl), rfl⟩
set_option maxHeartbeats 2000000 in
theorem special_any (p : Int) (c : Nat) (w : World) : Calls Tryz.prog 200 #[.int .i64 p, .int .u8 c] w fun e w' => e = .returned (.bool (!pl p c)) ∧ w = w' := by
  rw [sp_int]
  generalize (c : Int) = x
  go_enter Tryz.func200, Tryz.ntmps200
  go_wp2
  all_goals
    go_ret
    refine ⟨ret_bool ?_, rfl⟩
    first
      | rfl
      | simp_all
      | (rw [show (p == 1) = false by simpa using ‹¬p = 1›, show (p == 2) = false by simpa using ‹¬p = 2›]; simp)
set_option maxHeartbeats 2000000 in
theorem digit_any (c : Nat) (w : World) : Calls Tryz.prog 201 #[.int .u8 c] w fun e w' => e = .returned (.int .i64 (dv c)) ∧ w = w' := by
  cases h : dg c with
  | none =>
    rw [show dv c = -1 by simp [dv, h]]
    obtain ⟨h1, h2, h3⟩ := dg_none h
    clear h
    go_enter Tryz.func201, Tryz.ntmps201
    go_wp2
    all_goals first
      | omega
      | (go_ret; exact ⟨rfl, rfl⟩)
  | some x =>
    rw [show dv c = x by simp [dv, h]]
    rcases dg_cases h with ⟨h1, h2, rfl⟩ | ⟨h1, h2, rfl⟩ | ⟨h1, h2, rfl⟩
    · clear h
      have hw : IntKind.u8.wrap ((c : Int) - 48) = ((c - 48 : Nat) : Int) := (u8_in (by omega)).trans (by omega)
      have hw2 : IntKind.i64.wrap ((c - 48 : Nat) : Int) = ((c - 48 : Nat) : Int) := IntWalk.i64_in _ (by omega)
      go_enter Tryz.func201, Tryz.ntmps201
      go_wp2
      all_goals first
        | omega
        | (go_ret; exact ⟨rfl, rfl⟩)
    · clear h
      have hw : IntKind.u8.wrap ((c : Int) - 97) = ((c - 97 : Nat) : Int) := (u8_in (by omega)).trans (by omega)
      have hw2 : IntKind.i64.wrap ((c - 97 : Nat) : Int) = ((c - 97 : Nat) : Int) := IntWalk.i64_in _ (by omega)
      have hw3 : IntKind.i64.wrap (((c - 97 : Nat) : Int) + 10) = ((c - 87 : Nat) : Int) := (IntWalk.i64_in _ (by omega)).trans (by omega)
      go_enter Tryz.func201, Tryz.ntmps201
      go_wp2
      all_goals first
        | omega
        | (go_ret; exact ⟨rfl, rfl⟩)
    · clear h
      have hw : IntKind.u8.wrap ((c : Int) - 65) = ((c - 65 : Nat) : Int) := (u8_in (by omega)).trans (by omega)
      have hw2 : IntKind.i64.wrap ((c - 65 : Nat) : Int) = ((c - 65 : Nat) : Int) := IntWalk.i64_in _ (by omega)
      have hw3 : IntKind.i64.wrap (((c - 65 : Nat) : Int) + 10) = ((c - 55 : Nat) : Int) := (IntWalk.i64_in _ (by omega)).trans (by omega)
      go_enter Tryz.func201, Tryz.ntmps201
      go_wp2
      all_goals first
        | omega
        | (go_ret; exact ⟨rfl, rfl⟩)
end Go.Proofs.YtphdplommmkncaaGreatDoor
namespace Go.Proofs.YtphdplommmkncaaGreatDoor
open Go Go.RowKit Go.Maps
theorem RE_none {p a : Int} {r : List Nat} (h : rd p r = none) : RE p a r = .returned (.tuple #[.int .u8 0, .int .i64 0, .bool false]) := by simp only [RE, h]
theorem RE_some {p a : Int} {r : List Nat} {x n : Nat} (h : rd p r = some (x, n)) : RE p a r = .returned (.tuple #[.int .u8 x, .int .i64 (a + n), .bool true]) := by simp only [RE, h]
set_option maxRecDepth 100000 in
set_option maxHeartbeats 1000000 in
theorem rread_place (s : ByteArray) (a p : Int) (hk : kn p = false) (w : World) :
    Calls Tryz.prog 177 #[.int .i64 p, .string s, .int .i64 a] w fun e w' => e = .returned (.tuple #[.int .u8 0, .int .i64 0, .bool false]) ∧ w = w' := by
  go_enter Tryz.func177, Tryz.ntmps177
  go_wp2_with (go_at_call 199; refine (is_any p _).mono ?_; rintro e w1 ⟨rfl, rfl⟩)
  go_ret3
  exact ⟨rfl, rfl⟩
set_option maxRecDepth 100000 in
set_option maxHeartbeats 1000000 in
theorem rread_out (s : ByteArray) (a p : Int) (hk : kn p = true) (h : a < 0 ∨ (s.size : Int) ≤ a) (w : World) :
    Calls Tryz.prog 177 #[.int .i64 p, .string s, .int .i64 a] w fun e w' => e = .returned (.tuple #[.int .u8 0, .int .i64 0, .bool false]) ∧ w = w' := by
  by_cases h0 : a < 0
  · clear h
    go_enter Tryz.func177, Tryz.ntmps177
    go_wp2_with (go_at_call 199; refine (is_any p _).mono ?_; rintro e w1 ⟨rfl, rfl⟩)
    go_ret3
    exact ⟨rfl, rfl⟩
  · have h1 : (s.size : Int) ≤ a := by omega
    have h2 : 0 ≤ a := by omega
    clear h h0
    go_enter Tryz.func177, Tryz.ntmps177
    go_wp2_with (go_at_call 199; refine (is_any p _).mono ?_; rintro e w1 ⟨rfl, rfl⟩)
    go_ret3
    exact ⟨rfl, rfl⟩
theorem Str.atI {s : ByteArray} {l : List Nat} (hs : Str s l) (K : Int) (j : Nat) (e : K = j) : ∀ h, (s[K.toNat]'h).toNat = l.getD j 0 := by
  subst e
  intro h
  exact hs.at_ _ h
theorem drop_cons {l : List Nat} {k : Nat} (h : k < l.length) : l.drop k = l.getD k 0 :: l.drop (k + 1) := by
  rw [List.drop_eq_getElem_cons h]
  simp [List.getD, List.getElem?_eq_getElem h]
set_option maxRecDepth 100000 in
set_option maxHeartbeats 1000000 in
theorem rr_plain (s : ByteArray) (p K : Int) (c : Nat) (hk : kn p = true) (p0 : 0 ≤ K) (b0 : K < s.size) (x0 : ∀ h, (s[K.toNat]'h).toNat = c) (K1 : Int) (u1 : IntKind.i64.wrap (K + 1) = K1) (hp : pl p c = true) (w : World) :
    Calls Tryz.prog 177 #[.int .i64 p, .string s, .int .i64 K] w fun e w' => e = .returned (.tuple #[.int .u8 c, .int .i64 K1, .bool true]) ∧ ∃ n, w' = w.drewN n := by
  have b0' : ¬ (s.size : Int) ≤ K := by omega
  go_enter Tryz.func177, Tryz.ntmps177
  go_wp2_with (first | (go_at_call 199; refine (is_any p _).mono ?_; rintro e w1 ⟨rfl, rfl⟩) | (go_at_call 200; refine (special_any p c _).mono ?_; rintro e w1 ⟨rfl, rfl⟩))
  go_ret3
  exact ⟨rfl, 0, rfl⟩
set_option maxRecDepth 100000 in
set_option maxHeartbeats 1000000 in
theorem rr_other (s : ByteArray) (p K : Int) (c : Nat) (hk : kn p = true) (p0 : 0 ≤ K) (b0 : K < s.size) (x0 : ∀ h, (s[K.toNat]'h).toNat = c) (hp : pl p c = false) (h92 : c ≠ 92) (w : World) :
    Calls Tryz.prog 177 #[.int .i64 p, .string s, .int .i64 K] w fun e w' => e = .returned (.tuple #[.int .u8 0, .int .i64 0, .bool false]) ∧ ∃ n, w' = w.drewN n := by
  have b0' : ¬ (s.size : Int) ≤ K := by omega
  have g1 : ((c : Int) == 92) = false := by simp; omega
  have g2 : ((c : Int) != 92) = true := by simp; omega
  clear h92
  go_enter Tryz.func177, Tryz.ntmps177
  go_wp2_with (first | (go_at_call 199; refine (is_any p _).mono ?_; rintro e w1 ⟨rfl, rfl⟩) | (go_at_call 200; refine (special_any p c _).mono ?_; rintro e w1 ⟨rfl, rfl⟩))
  go_ret3
  exact ⟨rfl, 0, rfl⟩
set_option maxRecDepth 100000 in
set_option maxHeartbeats 1000000 in
theorem rr_cut (s : ByteArray) (p K : Int) (hk : kn p = true) (hp : pl p 92 = false) (p0 : 0 ≤ K) (b0 : K < s.size) (x0 : ∀ h, (s[K.toNat]'h).toNat = 92) (K1 : Int) (u1 : IntKind.i64.wrap (K + 1) = K1) (h1 : (s.size : Int) ≤ K1) (w : World) :
    Calls Tryz.prog 177 #[.int .i64 p, .string s, .int .i64 K] w fun e w' => e = .returned (.tuple #[.int .u8 0, .int .i64 0, .bool false]) ∧ ∃ n, w' = w.drewN n := by
  have b0' : ¬ (s.size : Int) ≤ K := by omega
  go_enter Tryz.func177, Tryz.ntmps177
  go_wp2_with (first | (go_at_call 199; refine (is_any p _).mono ?_; rintro e w1 ⟨rfl, rfl⟩) | (go_at_call 200; refine (special_any p 92 _).mono ?_; rintro e w1 ⟨rfl, rfl⟩))
  go_ret3
  exact ⟨rfl, 0, rfl⟩
set_option maxRecDepth 100000 in
set_option maxHeartbeats 1000000 in
theorem rr_n (s : ByteArray) (p K : Int) (hk : kn p = true) (hp : pl p 92 = false) (p0 : 0 ≤ K) (b0 : K < s.size) (x0 : ∀ h, (s[K.toNat]'h).toNat = 92) (K1 K2 : Int) (u1 : IntKind.i64.wrap (K + 1) = K1) (u2 : IntKind.i64.wrap (K + 2) = K2) (p1 : 0 ≤ K1) (b1 : K1 < s.size) (x1 : ∀ h, (s[K1.toNat]'h).toNat = 110) (w : World) :
    Calls Tryz.prog 177 #[.int .i64 p, .string s, .int .i64 K] w fun e w' => e = .returned (.tuple #[.int .u8 10, .int .i64 K2, .bool true]) ∧ ∃ n, w' = w.drewN n := by
  have b0' : ¬ (s.size : Int) ≤ K := by omega
  have b1' : ¬ (s.size : Int) ≤ K1 := by omega
  go_enter Tryz.func177, Tryz.ntmps177
  go_wp2_with (first | (go_at_call 199; refine (is_any p _).mono ?_; rintro e w1 ⟨rfl, rfl⟩) | (go_at_call 200; refine (special_any p 92 _).mono ?_; rintro e w1 ⟨rfl, rfl⟩))
  go_ret3
  exact ⟨rfl, 0, rfl⟩
set_option maxRecDepth 100000 in
set_option maxHeartbeats 1000000 in
theorem rr_r (s : ByteArray) (p K : Int) (hk : kn p = true) (hp : pl p 92 = false) (p0 : 0 ≤ K) (b0 : K < s.size) (x0 : ∀ h, (s[K.toNat]'h).toNat = 92) (K1 K2 : Int) (u1 : IntKind.i64.wrap (K + 1) = K1) (u2 : IntKind.i64.wrap (K + 2) = K2) (p1 : 0 ≤ K1) (b1 : K1 < s.size) (x1 : ∀ h, (s[K1.toNat]'h).toNat = 114) (w : World) :
    Calls Tryz.prog 177 #[.int .i64 p, .string s, .int .i64 K] w fun e w' => e = .returned (.tuple #[.int .u8 13, .int .i64 K2, .bool true]) ∧ ∃ n, w' = w.drewN n := by
  have b0' : ¬ (s.size : Int) ≤ K := by omega
  have b1' : ¬ (s.size : Int) ≤ K1 := by omega
  go_enter Tryz.func177, Tryz.ntmps177
  go_wp2_with (first | (go_at_call 199; refine (is_any p _).mono ?_; rintro e w1 ⟨rfl, rfl⟩) | (go_at_call 200; refine (special_any p 92 _).mono ?_; rintro e w1 ⟨rfl, rfl⟩))
  go_ret3
  exact ⟨rfl, 0, rfl⟩
set_option maxRecDepth 100000 in
set_option maxHeartbeats 1000000 in
theorem rr_t (s : ByteArray) (p K : Int) (hk : kn p = true) (hp : pl p 92 = false) (p0 : 0 ≤ K) (b0 : K < s.size) (x0 : ∀ h, (s[K.toNat]'h).toNat = 92) (K1 K2 : Int) (u1 : IntKind.i64.wrap (K + 1) = K1) (u2 : IntKind.i64.wrap (K + 2) = K2) (p1 : 0 ≤ K1) (b1 : K1 < s.size) (x1 : ∀ h, (s[K1.toNat]'h).toNat = 116) (w : World) :
    Calls Tryz.prog 177 #[.int .i64 p, .string s, .int .i64 K] w fun e w' => e = .returned (.tuple #[.int .u8 9, .int .i64 K2, .bool true]) ∧ ∃ n, w' = w.drewN n := by
  have b0' : ¬ (s.size : Int) ≤ K := by omega
  have b1' : ¬ (s.size : Int) ≤ K1 := by omega
  go_enter Tryz.func177, Tryz.ntmps177
  go_wp2_with (first | (go_at_call 199; refine (is_any p _).mono ?_; rintro e w1 ⟨rfl, rfl⟩) | (go_at_call 200; refine (special_any p 92 _).mono ?_; rintro e w1 ⟨rfl, rfl⟩))
  go_ret3
  exact ⟨rfl, 0, rfl⟩
set_option maxRecDepth 100000 in
set_option maxHeartbeats 1000000 in
theorem rr_92 (s : ByteArray) (p K : Int) (hk : kn p = true) (hp : pl p 92 = false) (p0 : 0 ≤ K) (b0 : K < s.size) (x0 : ∀ h, (s[K.toNat]'h).toNat = 92) (K1 K2 : Int) (u1 : IntKind.i64.wrap (K + 1) = K1) (u2 : IntKind.i64.wrap (K + 2) = K2) (p1 : 0 ≤ K1) (b1 : K1 < s.size) (x1 : ∀ h, (s[K1.toNat]'h).toNat = 92) (w : World) :
    Calls Tryz.prog 177 #[.int .i64 p, .string s, .int .i64 K] w fun e w' => e = .returned (.tuple #[.int .u8 92, .int .i64 K2, .bool true]) ∧ ∃ n, w' = w.drewN n := by
  have b0' : ¬ (s.size : Int) ≤ K := by omega
  have b1' : ¬ (s.size : Int) ≤ K1 := by omega
  go_enter Tryz.func177, Tryz.ntmps177
  go_wp2_with (first | (go_at_call 199; refine (is_any p _).mono ?_; rintro e w1 ⟨rfl, rfl⟩) | (go_at_call 200; refine (special_any p 92 _).mono ?_; rintro e w1 ⟨rfl, rfl⟩))
  go_ret3
  exact ⟨rfl, 0, rfl⟩
set_option maxRecDepth 100000 in
set_option maxHeartbeats 1000000 in
theorem rr_34 (s : ByteArray) (p K : Int) (hk : kn p = true) (hp : pl p 92 = false) (p0 : 0 ≤ K) (b0 : K < s.size) (x0 : ∀ h, (s[K.toNat]'h).toNat = 92) (K1 K2 : Int) (u1 : IntKind.i64.wrap (K + 1) = K1) (u2 : IntKind.i64.wrap (K + 2) = K2) (p1 : 0 ≤ K1) (b1 : K1 < s.size) (x1 : ∀ h, (s[K1.toNat]'h).toNat = 34) (w : World) :
    Calls Tryz.prog 177 #[.int .i64 p, .string s, .int .i64 K] w fun e w' => e = .returned (.tuple #[.int .u8 34, .int .i64 K2, .bool true]) ∧ ∃ n, w' = w.drewN n := by
  have b0' : ¬ (s.size : Int) ≤ K := by omega
  have b1' : ¬ (s.size : Int) ≤ K1 := by omega
  go_enter Tryz.func177, Tryz.ntmps177
  go_wp2_with (first | (go_at_call 199; refine (is_any p _).mono ?_; rintro e w1 ⟨rfl, rfl⟩) | (go_at_call 200; refine (special_any p 92 _).mono ?_; rintro e w1 ⟨rfl, rfl⟩))
  go_ret3
  exact ⟨rfl, 0, rfl⟩
set_option maxRecDepth 100000 in
set_option maxHeartbeats 1000000 in
theorem rr_93 (s : ByteArray) (p K : Int) (hk : kn p = true) (hp : pl p 92 = false) (p0 : 0 ≤ K) (b0 : K < s.size) (x0 : ∀ h, (s[K.toNat]'h).toNat = 92) (K1 K2 : Int) (u1 : IntKind.i64.wrap (K + 1) = K1) (u2 : IntKind.i64.wrap (K + 2) = K2) (p1 : 0 ≤ K1) (b1 : K1 < s.size) (x1 : ∀ h, (s[K1.toNat]'h).toNat = 93) (w : World) :
    Calls Tryz.prog 177 #[.int .i64 p, .string s, .int .i64 K] w fun e w' => e = .returned (.tuple #[.int .u8 93, .int .i64 K2, .bool true]) ∧ ∃ n, w' = w.drewN n := by
  have b0' : ¬ (s.size : Int) ≤ K := by omega
  have b1' : ¬ (s.size : Int) ≤ K1 := by omega
  go_enter Tryz.func177, Tryz.ntmps177
  go_wp2_with (first | (go_at_call 199; refine (is_any p _).mono ?_; rintro e w1 ⟨rfl, rfl⟩) | (go_at_call 200; refine (special_any p 92 _).mono ?_; rintro e w1 ⟨rfl, rfl⟩))
  go_ret3
  exact ⟨rfl, 0, rfl⟩
set_option maxRecDepth 100000 in
set_option maxHeartbeats 1000000 in
theorem rr_45 (s : ByteArray) (p K : Int) (hk : kn p = true) (hp : pl p 92 = false) (p0 : 0 ≤ K) (b0 : K < s.size) (x0 : ∀ h, (s[K.toNat]'h).toNat = 92) (K1 K2 : Int) (u1 : IntKind.i64.wrap (K + 1) = K1) (u2 : IntKind.i64.wrap (K + 2) = K2) (p1 : 0 ≤ K1) (b1 : K1 < s.size) (x1 : ∀ h, (s[K1.toNat]'h).toNat = 45) (w : World) :
    Calls Tryz.prog 177 #[.int .i64 p, .string s, .int .i64 K] w fun e w' => e = .returned (.tuple #[.int .u8 45, .int .i64 K2, .bool true]) ∧ ∃ n, w' = w.drewN n := by
  have b0' : ¬ (s.size : Int) ≤ K := by omega
  have b1' : ¬ (s.size : Int) ≤ K1 := by omega
  go_enter Tryz.func177, Tryz.ntmps177
  go_wp2_with (first | (go_at_call 199; refine (is_any p _).mono ?_; rintro e w1 ⟨rfl, rfl⟩) | (go_at_call 200; refine (special_any p 92 _).mono ?_; rintro e w1 ⟨rfl, rfl⟩))
  go_ret3
  exact ⟨rfl, 0, rfl⟩
set_option maxRecDepth 100000 in
set_option maxHeartbeats 1000000 in
theorem rr_no (s : ByteArray) (p K : Int) (hk : kn p = true) (hp : pl p 92 = false) (p0 : 0 ≤ K) (b0 : K < s.size) (x0 : ∀ h, (s[K.toNat]'h).toNat = 92) (K1 K2 : Int) (u1 : IntKind.i64.wrap (K + 1) = K1) (_ : IntKind.i64.wrap (K + 2) = K2) (p1 : 0 ≤ K1) (b1 : K1 < s.size) (q : Nat) (x1 : ∀ h, (s[K1.toNat]'h).toNat = q) (hq : q ≠ 110 ∧ q ≠ 114 ∧ q ≠ 116 ∧ q ≠ 92 ∧ q ≠ 34 ∧ q ≠ 93 ∧ q ≠ 45 ∧ q ≠ 120) (w : World) :
    Calls Tryz.prog 177 #[.int .i64 p, .string s, .int .i64 K] w fun e w' => e = .returned (.tuple #[.int .u8 0, .int .i64 0, .bool false]) ∧ ∃ n, w' = w.drewN n := by
  have b0' : ¬ (s.size : Int) ≤ K := by omega
  have b1' : ¬ (s.size : Int) ≤ K1 := by omega
  have n110 : ((q : Int) == 110) = false := by simp; omega
  have n114 : ((q : Int) == 114) = false := by simp; omega
  have n116 : ((q : Int) == 116) = false := by simp; omega
  have n92 : ((q : Int) == 92) = false := by simp; omega
  have n34 : ((q : Int) == 34) = false := by simp; omega
  have n93 : ((q : Int) == 93) = false := by simp; omega
  have n45 : ((q : Int) == 45) = false := by simp; omega
  have n120 : ((q : Int) == 120) = false := by simp; omega
  clear hq
  go_enter Tryz.func177, Tryz.ntmps177
  go_wp2_with (first | (go_at_call 199; refine (is_any p _).mono ?_; rintro e w1 ⟨rfl, rfl⟩) | (go_at_call 200; refine (special_any p 92 _).mono ?_; rintro e w1 ⟨rfl, rfl⟩))
  go_ret3
  exact ⟨rfl, 0, rfl⟩
set_option maxRecDepth 100000 in
set_option maxHeartbeats 1000000 in
theorem rr_xcut (s : ByteArray) (p K : Int) (hk : kn p = true) (hp : pl p 92 = false) (p0 : 0 ≤ K) (b0 : K < s.size) (x0 : ∀ h, (s[K.toNat]'h).toNat = 92) (K1 K2 : Int) (u1 : IntKind.i64.wrap (K + 1) = K1) (_ : IntKind.i64.wrap (K + 2) = K2) (p1 : 0 ≤ K1) (b1 : K1 < s.size) (x1 : ∀ h, (s[K1.toNat]'h).toNat = 120) (K3 : Int) (u3 : IntKind.i64.wrap (K + 3) = K3) (h3 : (s.size : Int) ≤ K3) (w : World) :
    Calls Tryz.prog 177 #[.int .i64 p, .string s, .int .i64 K] w fun e w' => e = .returned (.tuple #[.int .u8 0, .int .i64 0, .bool false]) ∧ ∃ n, w' = w.drewN n := by
  have b0' : ¬ (s.size : Int) ≤ K := by omega
  have b1' : ¬ (s.size : Int) ≤ K1 := by omega
  go_enter Tryz.func177, Tryz.ntmps177
  go_wp2_with (first | (go_at_call 199; refine (is_any p _).mono ?_; rintro e w1 ⟨rfl, rfl⟩) | (go_at_call 200; refine (special_any p 92 _).mono ?_; rintro e w1 ⟨rfl, rfl⟩))
  go_ret3
  exact ⟨rfl, 0, rfl⟩
set_option maxRecDepth 100000 in
set_option maxHeartbeats 1000000 in
theorem rr_x1 (s : ByteArray) (p K : Int) (hk : kn p = true) (hp : pl p 92 = false) (p0 : 0 ≤ K) (b0 : K < s.size) (x0 : ∀ h, (s[K.toNat]'h).toNat = 92) (K1 K2 : Int) (u1 : IntKind.i64.wrap (K + 1) = K1) (u2 : IntKind.i64.wrap (K + 2) = K2) (p1 : 0 ≤ K1) (b1 : K1 < s.size) (x1 : ∀ h, (s[K1.toNat]'h).toNat = 120) (K3 : Int) (u3 : IntKind.i64.wrap (K + 3) = K3) (b3 : K3 < s.size) (p2 : 0 ≤ K2) (_ : 0 ≤ K3) (b2 : K2 < s.size) (d1 : Nat) (x2 : ∀ h, (s[K2.toNat]'h).toNat = d1) (hd1 : dg d1 = none) (w : World) :
    Calls Tryz.prog 177 #[.int .i64 p, .string s, .int .i64 K] w fun e w' => e = .returned (.tuple #[.int .u8 0, .int .i64 0, .bool false]) ∧ ∃ n, w' = w.drewN n := by
  have b0' : ¬ (s.size : Int) ≤ K := by omega
  have b1' : ¬ (s.size : Int) ≤ K1 := by omega
  have D1 := Lib.hid (fun w => digit_any d1 w)
  rw [show dv d1 = -1 by simp [dv, hd1]] at D1
  clear hd1
  go_enter Tryz.func177, Tryz.ntmps177
  go_wp2_with (first | (go_at_call 199; refine (is_any p _).mono ?_; rintro e w1 ⟨rfl, rfl⟩) | (go_at_call 200; refine (special_any p 92 _).mono ?_; rintro e w1 ⟨rfl, rfl⟩) | (go_at_call 201; refine (D1.out _).mono ?_; rintro e w1 ⟨rfl, rfl⟩))
  go_ret3
  exact ⟨rfl, 0, rfl⟩
set_option maxRecDepth 100000 in
set_option maxHeartbeats 1000000 in
theorem rr_x2 (s : ByteArray) (p K : Int) (hk : kn p = true) (hp : pl p 92 = false) (p0 : 0 ≤ K) (b0 : K < s.size) (x0 : ∀ h, (s[K.toNat]'h).toNat = 92) (K1 K2 : Int) (u1 : IntKind.i64.wrap (K + 1) = K1) (u2 : IntKind.i64.wrap (K + 2) = K2) (p1 : 0 ≤ K1) (b1 : K1 < s.size) (x1 : ∀ h, (s[K1.toNat]'h).toNat = 120) (K3 : Int) (u3 : IntKind.i64.wrap (K + 3) = K3) (b3 : K3 < s.size) (p2 : 0 ≤ K2) (p3 : 0 ≤ K3) (b2 : K2 < s.size) (d1 : Nat) (x2 : ∀ h, (s[K2.toNat]'h).toNat = d1) (d2 : Nat) (x3 : ∀ h, (s[K3.toNat]'h).toNat = d2) (X : Int) (hX : 0 ≤ X) (hd1 : dv d1 = X) (hd2 : dg d2 = none) (w : World) :
    Calls Tryz.prog 177 #[.int .i64 p, .string s, .int .i64 K] w fun e w' => e = .returned (.tuple #[.int .u8 0, .int .i64 0, .bool false]) ∧ ∃ n, w' = w.drewN n := by
  have b0' : ¬ (s.size : Int) ≤ K := by omega
  have b1' : ¬ (s.size : Int) ≤ K1 := by omega
  have hd3 : dv d2 = -1 := by simp [dv, hd2]
  clear hd2
  go_enter Tryz.func177, Tryz.ntmps177
  go_wp2_with (first | (go_at_call 199; refine (is_any p _).mono ?_; rintro e w1 ⟨rfl, rfl⟩) | (go_at_call 200; refine (special_any p 92 _).mono ?_; rintro e w1 ⟨rfl, rfl⟩) | (go_at_call 201; refine (digit_any _ _).mono ?_; rintro e w1 ⟨rfl, rfl⟩))
  go_ret3
  exact ⟨rfl, 0, rfl⟩
set_option maxRecDepth 100000 in
set_option maxHeartbeats 1000000 in
theorem rr_x3 (s : ByteArray) (p K : Int) (hk : kn p = true) (hp : pl p 92 = false) (p0 : 0 ≤ K) (b0 : K < s.size) (x0 : ∀ h, (s[K.toNat]'h).toNat = 92) (K1 K2 : Int) (u1 : IntKind.i64.wrap (K + 1) = K1) (u2 : IntKind.i64.wrap (K + 2) = K2) (p1 : 0 ≤ K1) (b1 : K1 < s.size) (x1 : ∀ h, (s[K1.toNat]'h).toNat = 120) (K3 : Int) (u3 : IntKind.i64.wrap (K + 3) = K3) (b3 : K3 < s.size) (p2 : 0 ≤ K2) (p3 : 0 ≤ K3) (b2 : K2 < s.size) (d1 : Nat) (x2 : ∀ h, (s[K2.toNat]'h).toNat = d1) (d2 : Nat) (x3 : ∀ h, (s[K3.toNat]'h).toNat = d2) (K4 : Int) (u4 : IntKind.i64.wrap (K + 4) = K4) (X Y M N : Int) (hX : 0 ≤ X) (hY : 0 ≤ Y) (hM : IntKind.i64.wrap (16 * X) = M) (hN : IntKind.i64.wrap (M + Y) = N) (hN8 : IntKind.u8.wrap N = N) (hd1 : dv d1 = X) (hd2 : dv d2 = Y) (w : World) :
    Calls Tryz.prog 177 #[.int .i64 p, .string s, .int .i64 K] w fun e w' => e = .returned (.tuple #[.int .u8 N, .int .i64 K4, .bool true]) ∧ ∃ n, w' = w.drewN n := by
  have b0' : ¬ (s.size : Int) ≤ K := by omega
  have b1' : ¬ (s.size : Int) ≤ K1 := by omega
  go_enter Tryz.func177, Tryz.ntmps177
  go_wp2_with (first | (go_at_call 199; refine (is_any p _).mono ?_; rintro e w1 ⟨rfl, rfl⟩) | (go_at_call 200; refine (special_any p 92 _).mono ?_; rintro e w1 ⟨rfl, rfl⟩) | (go_at_call 201; refine (digit_any _ _).mono ?_; rintro e w1 ⟨rfl, rfl⟩))
  go_quiet ((go_at_call 201; exact (digit_any _ _).mono fun _ _ ⟨he, hm⟩ => ⟨he, _, hm.symm⟩))
  go_wp2_with fail
  go_ret3
  exact ⟨rfl, _, rfl⟩
end Go.Proofs.YtphdplommmkncaaGreatDoor
namespace Go.Proofs.YtphdplommmkncaaGreatDoor
open Go Go.RowKit Go.Maps
theorem same_drewN {P : Program} {f : FuncId} {args : Array Value} {w : World} {E : Ending} (h : Calls P f args w fun e w' => e = E ∧ w = w') : Calls P f args w fun e w' => e = E ∧ ∃ n, w' = w.drewN n :=
  h.mono fun _ _ ⟨he, hm⟩ => ⟨he, 0, hm.symm⟩
theorem sd_split {q b : Nat} (h : sd q = some b) : (q = 110 ∧ b = 10) ∨ (q = 114 ∧ b = 13) ∨ (q = 116 ∧ b = 9) ∨ (b = q ∧ (q = 92 ∨ q = 34 ∨ q = 93 ∨ q = 45)) := by
  unfold sd at h
  repeat' split at h
  all_goals first
    | (simp only [Option.some.injEq] at h; omega)
    | cases h
theorem sd_rest {q : Nat} (h : sd q = none) : q ≠ 110 ∧ q ≠ 114 ∧ q ≠ 116 ∧ q ≠ 92 ∧ q ≠ 34 ∧ q ≠ 93 ∧ q ≠ 45 := by
  unfold sd at h
  repeat' split at h
  all_goals first
    | (cases h; done)
    | (refine ⟨?_, ?_, ?_, ?_, ?_, ?_, ?_⟩ <;> assumption)
theorem dv_some {c x : Nat} (h : dg c = some x) : dv c = x := by simp [dv, h]
theorem rread_any (s : ByteArray) (l : List Nat) (a p : Int) (hs : Str s l) (hl : l.length ≤ 60000) (w : World) :
    Calls Tryz.prog 177 #[.int .i64 p, .string s, .int .i64 a] w fun e w' => e = RE p a (rst a l) ∧ ∃ n, w' = w.drewN n := by
  have hz := hs.size
  cases hk : kn p with
  | false =>
    rw [RE_none (show rd p (rst a l) = none by rw [rd_three, if_pos hk])]
    exact same_drewN (rread_place s a p hk w)
  | true =>
    rcases rst_cases a l with ⟨e, h1⟩ | ⟨k, rfl, hkl, e⟩
    · rw [e, RE_none rfl]
      exact same_drewN (rread_out s a p hk (by omega) w)
    · rw [e, drop_cons hkl]
      have x0 := hs.atI k k rfl
      generalize l.getD k 0 = c at x0
      have p0 : (0 : Int) ≤ k := by omega
      have b0 : (k : Int) < s.size := by omega
      cases hp : pl p c with
      | true =>
        rw [RE_some (show rd p (c :: l.drop (k + 1)) = some (c, 1) by simp [rd, hk, hp])]
        exact rr_plain s p k c hk p0 b0 x0 _ (IntWalk.i64_in _ (by omega)) hp w
      | false =>
        by_cases h92 : c = 92
        · subst h92
          by_cases h1 : k + 1 < l.length
          · have u1 : IntKind.i64.wrap ((k : Int) + 1) = (k : Int) + 1 := IntWalk.i64_in _ (by omega)
            have u2 : IntKind.i64.wrap ((k : Int) + 2) = (k : Int) + 2 := IntWalk.i64_in _ (by omega)
            have p1 : (0 : Int) ≤ (k : Int) + 1 := by omega
            have b1 : (k : Int) + 1 < s.size := by omega
            have x1 := hs.atI ((k : Int) + 1) (k + 1) (by omega)
            rw [drop_cons h1]
            generalize l.getD (k + 1) 0 = q at x1
            cases hsd : sd q with
            | some b =>
              rw [RE_some (show rd p (92 :: q :: l.drop (k + 1 + 1)) = some (b, 2) by simp [rd, hk, hp, hsd])]
              rcases sd_split hsd with ⟨rfl, rfl⟩ | ⟨rfl, rfl⟩ | ⟨rfl, rfl⟩ | ⟨rfl, rfl | rfl | rfl | rfl⟩
              · exact rr_n s p k hk hp p0 b0 x0 _ _ u1 u2 p1 b1 x1 w
              · exact rr_r s p k hk hp p0 b0 x0 _ _ u1 u2 p1 b1 x1 w
              · exact rr_t s p k hk hp p0 b0 x0 _ _ u1 u2 p1 b1 x1 w
              · exact rr_92 s p k hk hp p0 b0 x0 _ _ u1 u2 p1 b1 x1 w
              · exact rr_34 s p k hk hp p0 b0 x0 _ _ u1 u2 p1 b1 x1 w
              · exact rr_93 s p k hk hp p0 b0 x0 _ _ u1 u2 p1 b1 x1 w
              · exact rr_45 s p k hk hp p0 b0 x0 _ _ u1 u2 p1 b1 x1 w
            | none =>
              by_cases h120 : q = 120
              · subst h120
                have u3 : IntKind.i64.wrap ((k : Int) + 3) = (k : Int) + 3 := IntWalk.i64_in _ (by omega)
                have er : ∀ r, rd p (92 :: 120 :: r) = rx r := fun r => by simp [rd, hk, hp, hsd]
                by_cases h3 : k + 3 < l.length
                · have x2 := hs.atI ((k : Int) + 2) (k + 2) (by omega)
                  have x3 := hs.atI ((k : Int) + 3) (k + 3) (by omega)
                  rw [show k + 1 + 1 = k + 2 from rfl, drop_cons (show k + 2 < l.length by omega), show k + 2 + 1 = k + 3 from rfl, drop_cons h3]
                  generalize l.getD (k + 2) 0 = d1 at x2
                  generalize l.getD (k + 3) 0 = d2 at x3
                  have p2 : (0 : Int) ≤ (k : Int) + 2 := by omega
                  have p3 : (0 : Int) ≤ (k : Int) + 3 := by omega
                  have b2 : (k : Int) + 2 < s.size := by omega
                  have b3 : (k : Int) + 3 < s.size := by omega
                  cases e1 : dg d1 with
                  | none =>
                    rw [RE_none (by rw [er]; simp [rx, e1])]
                    exact rr_x1 s p k hk hp p0 b0 x0 _ _ u1 u2 p1 b1 x1 _ u3 b3 p2 p3 b2 d1 x2 e1 w
                  | some X =>
                    have g1 := dg_lt e1
                    cases e2 : dg d2 with
                    | none =>
                      rw [RE_none (by rw [er]; simp [rx, e1, e2])]
                      exact rr_x2 s p k hk hp p0 b0 x0 _ _ u1 u2 p1 b1 x1 _ u3 b3 p2 p3 b2 d1 x2 d2 x3 X (by omega) (dv_some e1) e2 w
                    | some Y =>
                      have g2 := dg_lt e2
                      rw [RE_some (show rd p (92 :: 120 :: d1 :: d2 :: l.drop (k + 3 + 1)) = some (16 * X + Y, 4) by rw [er]; simp [rx, e1, e2])]
                      exact rr_x3 s p k hk hp p0 b0 x0 _ _ u1 u2 p1 b1 x1 _ u3 b3 p2 p3 b2 d1 x2 d2 x3 _ (IntWalk.i64_in _ (by omega)) X Y (16 * X : Nat) (16 * X + Y : Nat) (by omega) (by omega) ((IntWalk.i64_in _ (by omega)).trans (by omega)) ((IntWalk.i64_in _ (by omega)).trans (by omega)) (u8_in (by omega)) (dv_some e1) (dv_some e2) w
                · have hrx : rx (l.drop (k + 1 + 1)) = none := by
                    have hlen : (l.drop (k + 1 + 1)).length < 2 := by rw [List.length_drop]; omega
                    match l.drop (k + 1 + 1), hlen with
                    | [], _ => rfl
                    | [_], _ => rfl
                    | _ :: _ :: _, h => simp at h; omega
                  rw [RE_none (by rw [er]; exact hrx)]
                  exact rr_xcut s p k hk hp p0 b0 x0 _ _ u1 u2 p1 b1 x1 _ u3 (by omega) w
              · rw [RE_none (by simp [rd, hk, hp, hsd, h120])]
                obtain ⟨n1, n2, n3, n4, n5, n6, n7⟩ := sd_rest hsd
                exact rr_no s p k hk hp p0 b0 x0 _ _ u1 u2 p1 b1 q x1 ⟨n1, n2, n3, n4, n5, n6, n7, h120⟩ w
          · have : l.drop (k + 1) = [] := List.drop_eq_nil_of_le (by omega)
            rw [this, RE_none (by simp [rd, hk, hp])]
            exact rr_cut s p k hk hp p0 b0 x0 _ (IntWalk.i64_in _ (by omega)) (by omega) w
        · rw [RE_none (by simp [rd, hk, hp, h92])]
          exact rr_other s p k c hk p0 b0 x0 hp h92 w
end Go.Proofs.YtphdplommmkncaaGreatDoor
namespace Go.Proofs.YtphdplommmkncaaGreatDoor
open Go Go.RowKit
/-- The word that a text in quotes is, or none. -/
def rq (k : Nat) (o : Option (List Nat × Nat)) : Array Value := match o with
  | some x => #[.int .i64 3, .int .i64 k, .int .i64 (k + 1 + x.2 : Nat), .string (bsv x.1), .int .i64 0, .int .u64 0, .int .u64 0, .int .u64 0, .int .u64 0]
  | none => wzero
set_option maxRecDepth 100000 in
set_option maxHeartbeats 8000000 in
theorem rquoted_any (k : Nat) (s : ByteArray) (l : List Nat) (hs : Str s l) (hl : l.length ≤ 60000) (hk : k < l.length) (w : World) :
    Calls Tryz.prog 156 #[.string s, .int .i64 k] w fun e w' => Below w.heap.size w w' ∧ e = .returned (.agg (rq k (QT (l.drop (k + 1))))) := by
  have hz := hs.size
  have SH := Lib.hid hs
  have ZZ := Lib.hid hz
  have hz3 : (s.size : Int) ≤ 60000 := by omega
  have hk3 : (k : Int) + 1 ≤ s.size := by omega
  obtain ⟨o, eo⟩ : ∃ o, o = QT (l.drop (k + 1)) := ⟨_, rfl⟩
  rw [← eo]
  have EO := Lib.hid eo
  have RDA := Lib.hid (fun j w => rread_any s l j 1 hs hl w)
  obtain ⟨w0, ew0⟩ : ∃ u, u = w.alloc (.cells wzero 118) := ⟨_, rfl⟩
  have K0 : RowKit.Hid (Blk w0 w.heap.size wzero 118) := Lib.hid (by rw [ew0]; exact Blk.new _ _ _)
  have B0 : RowKit.Hid (Below w.heap.size w w0) := Lib.hid (by rw [ew0]; exact B1 w _)
  have S0 : RowKit.Hid (w0.heap.size = w.heap.size + 1) := Lib.hid (by rw [ew0]; simp)
  have ew1 := ew0
  simp only [wzero] at ew1
  clear hs hz eo ew0
  go_enter Tryz.func156, Tryz.ntmps156
  go_wp2_with fail
  rw [← ew1]
  clear ew1
  have O1 : RowKit.Hid (w0.ownsRow (w.heap.size + 1) 5 1 (.slice none 0 0) ([] : List Nat).length (([] : List Nat).map natb)) := Lib.hid (World.ownsRow_nil _ _ _ _)
  go_loopw [5, 6, 7, 8, 9] (fun v5 v6 _ _ _ wr => ∃ (j : Nat) (acc : List Nat), k + 1 ≤ j ∧ j ≤ l.length ∧ v6 = .int .i64 j ∧ acc.length ≤ j ∧ (∀ x ∈ acc, x < 256) ∧ o = qAdd acc (j - (k + 1)) (QT (l.drop j)) ∧ wr.ownsRow (w.heap.size + 1) 5 1 v5 acc.length (acc.map natb) ∧ Blk wr w.heap.size wzero 118 ∧ Below w.heap.size w wr ∧ w.heap.size + 1 ≤ wr.heap.size) (fun _ v6 _ _ _ _ => l.length - (intOf v6).toNat)
  case atStart => exact ⟨k + 1, [], Nat.le_refl _, hk, by go_num, by simp, by simp, by rw [EO.out]; simp [qAdd], O1.out, K0.out, B0.out, by rw [S0.out]; omega⟩
  case round =>
    obtain ⟨j, acc, hkj, hj, rfl, hal, hac, hq, hO, hK, hB, hS⟩ := hrel
    have HA := Lib.hid hac
    have HQ := Lib.hid hq
    have OR := Lib.hid hO
    have KR := Lib.hid hK
    have BR := Lib.hid hB
    have SR := Lib.hid hS
    clear hac hq hO hK hB hS
    obtain ⟨A5, c5, rfl, hA5, _⟩ := own_slice OR.out
    by_cases hlt : j < l.length
    · obtain ⟨u, eu⟩ : ∃ v, v = l.getD j 0 := ⟨_, rfl⟩
      have hu : u < 256 := by rw [eu, List.getD_eq_getElem?_getD, List.getElem?_eq_getElem hlt]; exact SH.out.lt _ (List.getElem_mem hlt)
      have x0 : ∀ h, (s[j]'h).toNat = u := fun h => (SH.out.at_ j h).trans eu.symm
      have j3 : (j : Int) < s.size := by have := ZZ.out; omega
      have j4 : j < s.size := by have := ZZ.out; omega
      have hd : (l.drop j).head? = some u := by rw [List.drop_eq_getElem_cons hlt, eu]; simp [List.getD, List.getElem?_eq_getElem hlt]
      by_cases h34 : u = 34
      · have g1 : ((u : Int) == 34) = true := by simp; omega
        have g2 : ((u : Int) != 34) = false := by simp; omega
        have FIN : RowKit.Hid (o = some (acc, j - (k + 1) + 1)) := Lib.hid (by rw [HQ.out, QT_end (by rw [hd, h34])]; simp [qAdd])
        have NX := Lib.hid (show k + 1 + (j - (k + 1) + 1) = j + 1 by omega)
        have cv := conv_row OR.out HA.out
        have w1 : IntKind.i64.wrap ((j : Int) + 1) = (j : Int) + 1 := IntWalk.i64_in _ (by omega)
        clear eu hu hd h34 hlt hkj hj hal hk
        go_wp2_with (refine wpList_store_whole rfl 118 (.tmp 4) (.tmp 47) rfl w.heap.size #[.int .i64 3, .int .i64 k, .int .i64 ((j : Int) + 1), .string (bsv acc), .int .i64 0, .int .u64 0, .int .u64 0, .int .u64 0, .int .u64 0] rfl rfl 118 _ KR.out (by kernel_rfl) (by rfl) (by simp [Value.oneCell']) ?_; intro w7 hk7 hg7; have K7 := Lib.hid hk7; have H7 := Lib.hid (below_store BR.out hg7 (Nat.le_refl _)); clear hk7 hg7)
        exact bodyPost_ret (results_cell_row rfl _ _ w.heap.size 118 _ _ _ rfl K7.out Tryz.underlying118 rfl (by kernel_rfl)) rfl ⟨H7.out, by rw [FIN.out]; simp only [rq]; rw [NX.out]; rfl⟩
      · have g1 : ((u : Int) == 34) = false := by simp; omega
        have g2 : ((u : Int) != 34) = true := by simp; omega
        have hh : (l.drop j).head? ≠ some 34 := by rw [hd]; intro e; cases e; exact h34 rfl
        have RJ := Lib.hid (fun w => RDA.out (j : Int) w)
        rw [rst_nat] at RJ
        cases hr : rd 1 (l.drop j) with
        | none =>
          rw [RE_none hr] at RJ
          have FIN : RowKit.Hid (o = none) := Lib.hid (by rw [HQ.out, QT_no hh hr]; rfl)
          clear eu hu hd h34 hlt hkj hj hal hh hr hk
          go_wp2_with (first | (go_at_call 177; (with_reducible refine (RJ.out _).mono ?_); rintro e w3 ⟨rfl, m, rfl⟩) | (refine wpList_store_whole rfl 118 (.tmp 4) (.tmp 31) rfl w.heap.size wzero rfl rfl 118 _ KR.out (by kernel_rfl) (by rfl) (by simp [Value.oneCell']) ?_; intro w7 hk7 hg7; have K7 := Lib.hid hk7; have H7 := Lib.hid (below_store (bdrew (n := m) BR.out) hg7 (Nat.le_refl _)); clear hk7 hg7))
          exact bodyPost_ret (results_cell_row rfl _ _ w.heap.size 118 _ _ _ rfl K7.out Tryz.underlying118 rfl (by kernel_rfl)) rfl ⟨H7.out, by rw [FIN.out]; rfl⟩
        | some xn =>
          obtain ⟨x, n⟩ := xn
          rw [RE_some hr] at RJ
          have hdl : ∀ y ∈ l.drop j, y < 256 := fun y hy => SH.out.lt y (List.mem_of_mem_drop hy)
          obtain ⟨_, m1, m2, hx, _, _⟩ := rd_ok hdl hr
          rw [List.length_drop] at m2
          have FIN : RowKit.Hid (o = qAdd (acc ++ [x]) (j + n - (k + 1)) (QT (l.drop (j + n)))) := Lib.hid (by
            rw [HQ.out, QT_more hdl hh hr, List.drop_drop]
            unfold qAdd
            rw [Option.map_map]
            congr 1
            funext y
            simp only [Function.comp_def, List.append_assoc, List.singleton_append, Prod.mk.injEq, true_and]
            omega)
          have hjn : j + n ≤ l.length := by omega
          have LX := Lib.hid hx
          have L3 : RowKit.Hid (acc.length + [x].length ≤ 65536) := Lib.hid (by simp; omega)
          clear eu hu hd h34 hh hr hx hdl
          go_wp2_with (first | (go_at_call 177; (with_reducible refine (RJ.out _).mono ?_); rintro e w3 ⟨rfl, m, rfl⟩; have O3n := Lib.hid (World.ownsRow.alloc (show (wr.drewN m).ownsRow _ _ _ _ _ _ from OR.out) (.cells #[.int .u8 (x : Int)] 5)); have X3 := Lib.hid (txt_one (wr.drewN m) x LX.out)) | (at_builtin; refine wpList_append_txt _ rfl (.tmp 32) (.tmp 34) rfl (w.heap.size + 1) _ acc rfl O3n.out (some ⟨(wr.drewN m).heap.size, 0, none⟩) [x] 1 rfl X3.out (fun h => by cases h) L3.out (by have := SR.out; simp; omega) ?_; intro v1 w4 hown4 hg4; have HO4 := Lib.hid hown4; have HG4 := Lib.hid hg4; clear hown4 hg4))
          go_roundw
          case rel => exact ⟨j + n, acc ++ [x], by omega, hjn, by simp, by simp; omega, fun y hy => by
            rcases List.mem_append.1 hy with hy | hy
            · exact HA.out y hy
            · simp at hy; rw [hy]; exact LX.out, FIN.out, by simpa using HO4.out, blk_append (w := wr.drewN m) KR.out OR.out (by decide) HG4.out, ((bdrew (n := m) BR.out).alloc BR.out.size _).grown HG4.out (by have := BR.out.size; simp; omega) (fun j hj => by have := (OR.out.lt j hj).1; omega), Nat.le_trans SR.out (Nat.le_trans (by simp) HG4.out.size)⟩
          case measure => simp [intOf]; omega
    · have j3 : ¬ (j : Int) < s.size := by have := ZZ.out; omega
      have j5 : (s.size : Int) ≤ j := by omega
      have FIN : RowKit.Hid (o = none) := Lib.hid (by rw [HQ.out, List.drop_of_length_le (by omega)]; rfl)
      clear hlt hkj hj hal hk
      go_wp2_with (refine wpList_store_whole rfl 118 (.tmp 4) (.tmp 41) rfl w.heap.size wzero rfl rfl 118 _ KR.out (by kernel_rfl) (by rfl) (by simp [Value.oneCell']) ?_; intro w7 hk7 hg7; have K7 := Lib.hid hk7; have H7 := Lib.hid (below_store BR.out hg7 (Nat.le_refl _)); clear hk7 hg7)
      exact bodyPost_ret (results_cell_row rfl _ _ w.heap.size 118 _ _ _ rfl K7.out Tryz.underlying118 rfl (by kernel_rfl)) rfl ⟨H7.out, by rw [FIN.out]; rfl⟩
end Go.Proofs.YtphdplommmkncaaGreatDoor

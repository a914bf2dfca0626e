/- What a deed turns: the two arenas beside each other. -/
import Derived.Test.YtfcacgiejoeneaaLd
import Derived.Test.YtfcacgiejoeneaaPd
namespace Go.Proofs.Ytfcacgiejoeneaa
open Go Go.RowKit
/-- What Put answers and leaves. -/
def PutIs (room pk : Int) (xs l : List Int) (r E pk' : Int) (ys : List Int) : Prop :=
  ((xs.length : Int) + l.length ≤ room ∧ r = xs.length ∧ E = 0 ∧ pk' = max pk ((xs.length : Int) + l.length) ∧ ys = xs ++ l) ∨ (room < (xs.length : Int) + l.length ∧ r = 0 ∧ E = 12 ∧ pk' = pk ∧ ys = xs)
theorem put_is (room pk : Int) (xs l : List Int) : ∃ r E pk' ys, PutIs room pk xs l r E pk' ys ∧ ys.length ≤ xs.length + l.length := by
  by_cases h : (xs.length : Int) + l.length ≤ room
  · exact ⟨_, _, _, _, .inl ⟨h, rfl, rfl, rfl, rfl⟩, by simp⟩
  · exact ⟨_, _, _, _, .inr ⟨by omega, rfl, rfl, rfl, rfl⟩, by simp⟩
def SetIs (xs : List Int) (k x : Int) (E : Int) (ys : List Int) : Prop :=
  (∃ m : Nat, k = m ∧ m < xs.length ∧ E = 0 ∧ ys = xs.set m x) ∨ ((k < 0 ∨ (xs.length : Int) ≤ k) ∧ E = 6 ∧ ys = xs)
theorem set_is (xs : List Int) (k x : Int) : ∃ E ys, SetIs xs k x E ys ∧ ys.length ≤ xs.length := by
  by_cases h : 0 ≤ k ∧ k < xs.length
  · exact ⟨_, _, .inl ⟨k.toNat, by omega, by omega, rfl, rfl⟩, by simp⟩
  · exact ⟨_, _, .inr ⟨by omega, rfl, rfl⟩, by simp⟩
def BackIs (xs : List Int) (k : Int) (E : Int) (ys : List Int) : Prop :=
  (∃ m : Nat, k = m ∧ m ≤ xs.length ∧ E = 0 ∧ ys = xs.take m) ∨ ((k < 0 ∨ (xs.length : Int) < k) ∧ E = 6 ∧ ys = xs)
theorem back_is (xs : List Int) (k : Int) : ∃ E ys, BackIs xs k E ys ∧ ys.length ≤ xs.length := by
  by_cases h : 0 ≤ k ∧ k ≤ xs.length
  · exact ⟨_, _, .inl ⟨k.toNat, by omega, by omega, rfl, rfl⟩, by simp; omega⟩
  · exact ⟨_, _, .inr ⟨by omega, rfl, rfl⟩, by simp⟩
theorem turn_refl (w : World) (b : Nat) (v : Value) : Turn w w b v v := ⟨rfl, rfl, rfl, Nat.le_refl _, fun _ _ _ _ => rfl, fun _ h => .inl h⟩
section
variable (b : Nat) (room pk : Int) (v : Value) (xs : List Int) (base : Nat)
theorem a_put (A : Option Addr) (c : Nat) (l : List Int) (r E pk' : Int) (ys : List Int) (hp : PutIs room pk xs l r E pk' ys) (hnc : A = none → c = 0) (hl : xs.length + l.length ≤ 60000) (w : World) (hB : base ≤ w.heap.size)
    (h : Ar 61 3 w base b room pk v (ints xs)) (hL : Lies w A (ints l)) :
    Calls Try.prog 12 #[.pointer (some ⟨b, 0, none⟩), .slice A l.length c] w fun e w' => e = .returned (.tuple #[.int .i64 r, .int .i64 E]) ∧ ∃ v', Ar 61 3 w' base b room pk' v' (ints ys) ∧ Turn w w' b v v' := by
  have i1 := ints_length xs
  have i2 := ints_length l
  rcases hp with ⟨hf, rfl, rfl, rfl, rfl⟩ | ⟨hf, rfl, rfl, rfl, rfl⟩
  · have := i_put_room b room pk v (ints xs) base A c (ints l) hnc (ints_one l) (by unfold maxLen; omega) (by omega) (by omega) w hB h hL
    rw [i1, i2, ← ints_app] at this
    exact this
  · refine (i_put_full b room pk' v (ints ys) base l.length c A (by omega) w h).mono ?_
    rintro e w' ⟨rfl, n, rfl⟩
    exact ⟨rfl, v, h.drewN, Turn.same _ _ _ _⟩
theorem r_put (A : Option Addr) (c : Nat) (l : List Int) (r E pk' : Int) (ys : List Int) (hp : PutIs room pk xs l r E pk' ys) (hnc : A = none → c = 0) (hl : xs.length + l.length ≤ 60000) (w : World) (hB : base ≤ w.heap.size)
    (h : Rf w base b room pk v (ints xs)) (hL : Lies w A (ints l)) :
    Calls Try.prog 13 #[.pointer (some ⟨b, 0, none⟩), .slice A l.length c] w fun e w' => e = .returned (.tuple #[.int .i64 r, .int .i64 E]) ∧ ∃ v', Rf w' base b room pk' v' (ints ys) ∧ Turn w w' b v v' := by
  have i1 := ints_length xs
  have i2 := ints_length l
  rcases hp with ⟨hf, rfl, rfl, rfl, rfl⟩ | ⟨hf, rfl, rfl, rfl, rfl⟩
  · have := rput_room b room pk v (ints xs) base A c l.length (ints l) i2 hnc (ints_one xs) (ints_one l) (by omega) (by omega) w hB h hL
    rw [i1, ← ints_app] at this
    exact this
  · refine (rput_full b l.length c room pk' v (ints ys) base A (by omega) (by omega) w h).mono ?_
    rintro e w' ⟨rfl, n, rfl⟩
    exact ⟨rfl, v, h.below (bdrew (Below.refl _ _)), Turn.same _ _ _ _⟩
theorem a_set (k x E : Int) (ys : List Int) (hp : SetIs xs k x E ys) (w : World) (h : Ar 61 3 w base b room pk v (ints xs)) :
    Calls Try.prog 16 #[.pointer (some ⟨b, 0, none⟩), .int .i64 k, .int .i64 x] w fun e w' => e = .returned (.int .i64 E) ∧ ∃ v', Ar 61 3 w' base b room pk v' (ints ys) ∧ Turn w w' b v v' := by
  have i1 := ints_length xs
  rcases hp with ⟨m, rfl, hm, rfl, rfl⟩ | ⟨hk, rfl, rfl⟩
  · refine (set_yes b room pk v (ints xs) base m x (by omega) w h).mono ?_
    rintro e w' ⟨rfl, h1, h2⟩
    rw [ints_set] at h1
    exact ⟨rfl, v, h1, h2⟩
  · refine (set_no b room pk v (ints ys) base k x (by omega) w h).mono ?_
    rintro e w' ⟨rfl, rfl⟩
    exact ⟨rfl, v, h, turn_refl _ _ _⟩
theorem r_set (k x E : Int) (ys : List Int) (hp : SetIs xs k x E ys) (w : World) (h : Rf w base b room pk v (ints xs)) :
    Calls Try.prog 17 #[.pointer (some ⟨b, 0, none⟩), .int .i64 k, .int .i64 x] w fun e w' => e = .returned (.int .i64 E) ∧ ∃ v', Rf w' base b room pk v' (ints ys) ∧ Turn w w' b v v' := by
  have i1 := ints_length xs
  rcases hp with ⟨m, rfl, hm, rfl, rfl⟩ | ⟨hk, rfl, rfl⟩
  · refine (rset_yes b room pk v (ints xs) base m x (by omega) w h).mono ?_
    rintro e w' ⟨rfl, h1, h2⟩
    rw [ints_set] at h1
    exact ⟨rfl, v, h1, h2⟩
  · refine (rset_no b room pk v (ints ys) base k x (by omega) w h).mono ?_
    rintro e w' ⟨rfl, rfl⟩
    exact ⟨rfl, v, h, turn_refl _ _ _⟩
theorem a_back (k E : Int) (ys : List Int) (hp : BackIs xs k E ys) (w : World) (h : Ar 61 3 w base b room pk v (ints xs)) :
    Calls Try.prog 18 #[.pointer (some ⟨b, 0, none⟩), .int .i64 k] w fun e w' => e = .returned (.int .i64 E) ∧ ∃ v', Ar 61 3 w' base b room pk v' (ints ys) ∧ Turn w w' b v v' := by
  have i1 := ints_length xs
  rcases hp with ⟨m, rfl, hm, rfl, rfl⟩ | ⟨hk, rfl, rfl⟩
  · refine (i_back_good b room pk v (ints xs) base m (by omega) w h).mono ?_
    rintro e w' ⟨rfl, v', h1, h2⟩
    rw [← ints_take] at h1
    exact ⟨rfl, v', h1, h2⟩
  · refine (i_back_bad b room pk v (ints ys) base k (by omega) w h).mono ?_
    rintro e w' ⟨rfl, rfl⟩
    exact ⟨rfl, v, h, turn_refl _ _ _⟩
theorem r_back (k E : Int) (ys : List Int) (hp : BackIs xs k E ys) (hx : xs.length ≤ 60000) (w : World) (hB : base ≤ w.heap.size) (h : Rf w base b room pk v (ints xs)) :
    Calls Try.prog 19 #[.pointer (some ⟨b, 0, none⟩), .int .i64 k] w fun e w' => e = .returned (.int .i64 E) ∧ ∃ v', Rf w' base b room pk v' (ints ys) ∧ Turn w w' b v v' := by
  have i1 := ints_length xs
  rcases hp with ⟨m, rfl, hm, rfl, rfl⟩ | ⟨hk, rfl, rfl⟩
  · refine (rback_good b room pk v (ints xs) base m (by omega) (by omega) (ints_one xs) w hB h).mono ?_
    rintro e w' ⟨rfl, v', h1, h2⟩
    rw [← ints_take] at h1
    exact ⟨rfl, v', h1, h2⟩
  · refine (rback_bad b room pk v (ints ys) base k (by omega) w h).mono ?_
    rintro e w' ⟨rfl, rfl⟩
    exact ⟨rfl, v, h, turn_refl _ _ _⟩
end
/-- A block that neither turn may touch. -/
theorem Turn.keeps {w w' : World} {b k : Nat} {v v' : Value} {vs : Array Value} {T : TypeId} (ht : Turn w w' b v v') (h : Blk w k vs T) (h1 : k ≠ b) (h2 : v.ownBlock ≠ some k) : Blk w' k vs T := (ht.block k h.lt h1 h2).trans h
/-- The law writes over what it lent: the two arenas stay. -/
theorem Pair.over {w w' : World} {B b c g : Nat} {room pk : Int} {v u : Value} {xs : List Int} (h : Pair w B b c room pk v u xs) (hg : w.grownBy w' (some g)) (h1 : g ≠ b) (h2 : g ≠ c) (h3 : v.ownBlock ≠ some g) (h4 : u.ownBlock ≠ some g) : Pair w' B b c room pk v u xs := by
  have hb : ∀ k, k < w.heap.size → k ≠ g → w'.heap[k]? = w.heap[k]? := fun k hk hne => hg.block k hk (fun e => by cases e; exact hne rfl)
  refine ⟨h.a.kept (hb _ h.a.blk.lt (fun e => h1 e.symm)) (fun k e => hb k (h.a.own.lt k e).2 (fun e2 => h3 (by rw [e, e2]))), h.r.kept (hb _ h.r.blk.lt (fun e => h2 e.symm)) (fun k e => hb k (h.r.own.lt k e).2 (fun e2 => h4 (by rw [e, e2]))), h.apart⟩
theorem bt0 {w0 w w' : World} (h : Below w0.heap.size w0 w) (h' : Below w0.heap.size w w') : Below w0.heap.size w0 w' := h.trans h'
/-- Between the two calls of a deed: the one arena has turned, the other not yet. -/
structure Mid (w0 w : World) (b c q : Nat) (room pk pk' : Int) (v u : Value) (ys xs : List Int) (D : Array Value) : Prop where
  a : Ar 61 3 w w0.heap.size b room pk' v (ints ys)
  r : Rf w w0.heap.size c room pk u (ints xs)
  apart : ∀ k, v.ownBlock = some k → u.ownBlock ≠ some k
  q : Blk w q D 32
  low : Below w0.heap.size w0 w
theorem Mid.of {w0 w : World} {b c q : Nat} {room pk : Int} {v u : Value} {xs : List Int} {D : Array Value} (h : Pair w w0.heap.size b c room pk v u xs) (hq : Blk w q D 32) (hl : Below w0.heap.size w0 w) : Mid w0 w b c q room pk pk v u xs xs D :=
  ⟨h.a, h.r, h.apart, hq, hl⟩
theorem Mid.left {w0 w w' : World} {b c q : Nat} {room pk pk' : Int} {v v' u : Value} {xs ys : List Int} {D : Array Value} (h : Mid w0 w b c q room pk pk v u xs xs D) (ha : Ar 61 3 w' w0.heap.size b room pk' v' (ints ys)) (ht : Turn w w' b v v') :
    Mid w0 w' b c q room pk pk' v' u ys xs D :=
  have hp : Pair w w0.heap.size b c room pk v u xs := ⟨h.a, h.r, h.apart⟩
  have h2 := hp.left ha ht
  ⟨ha, h2.1, h2.2, ht.keeps h.q (neT h.q h.a.blk (by decide)) (own_ne h.a.own h.q (by decide)), bt0 h.low (ht.below h.a h.low.size)⟩
theorem Mid.right {w0 w w' : World} {b c q : Nat} {room pk pk' : Int} {v u u' : Value} {xs ys : List Int} {D : Array Value} (h : Mid w0 w b c q room pk pk' v u ys xs D) (hr : Rf w' w0.heap.size c room pk' u' (ints ys)) (ht : Turn w w' c u u') :
    Mid w0 w' b c q room pk' pk' v u' ys ys D :=
  have h2 := Pair.right h.a h.r h.apart hr ht
  ⟨h2.a, h2.r, h2.apart, ht.keeps h.q (neT h.q h.r.blk (by decide)) (own_ne h.r.own h.q (by decide)), bt0 h.low (h.r.turned ht h.low.size)⟩
theorem Mid.pair {w0 w : World} {b c q : Nat} {room pk : Int} {v u : Value} {xs : List Int} {D : Array Value} (h : Mid w0 w b c q room pk pk v u xs xs D) : Pair w w0.heap.size b c room pk v u xs := ⟨h.a, h.r, h.apart⟩
theorem Mid.drew1 {w0 w : World} {b c q : Nat} {room pk pk' : Int} {v u : Value} {ys xs : List Int} {D : Array Value} (h : Mid w0 w b c q room pk pk' v u ys xs D) : Mid w0 { w with drawn := w.drawn + 1 } b c q room pk pk' v u ys xs D :=
  ⟨h.a.kept rfl (fun _ _ => rfl), h.r.kept rfl (fun _ _ => rfl), h.apart, h.q, ⟨h.low.os, h.low.tape, h.low.output, h.low.size, h.low.block⟩⟩
theorem Blk.four {w : World} {q : Nat} {x0 x1 x2 x3 : Value} {T : TypeId} (h : Blk w q #[x0, x1, x2, x3] T) : w.cell? ⟨q, 0, none⟩ = some x0 ∧ w.cell? ⟨q, 1, none⟩ = some x1 ∧ w.cell? ⟨q, 2, none⟩ = some x2 ∧ w.cell? ⟨q, 3, none⟩ = some x3 :=
  ⟨by rw [h.cell]; rfl, by rw [h.cell]; rfl, by rw [h.cell]; rfl, by rw [h.cell]; rfl⟩
end Go.Proofs.Ytfcacgiejoeneaa

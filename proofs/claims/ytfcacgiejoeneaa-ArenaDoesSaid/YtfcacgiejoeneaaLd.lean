/- The law ArenaDoes, walked. -/
import Derived.Test.YtfcacgiejoeneaaSm
import Derived.Test.YtfcacgiejoeneaaRf
import Derived.Test.YtfcacgiejoeneaaKd
import Derived.Test.YtfcacgiejoeneaaKz
namespace Go.Proofs.Ytfcacgiejoeneaa
open Go Go.RowKit
/-- The two arenas beside each other. -/
structure Pair (w : World) (B b c : Nat) (room pk : Int) (v u : Value) (xs : List Int) : Prop where
  a : Ar 61 3 w B b room pk v (ints xs)
  r : Rf w B c room pk u (ints xs)
  apart : ∀ k, v.ownBlock = some k → u.ownBlock ≠ some k
theorem Pair.below {w w' : World} {B b c : Nat} {room pk : Int} {v u : Value} {xs : List Int} (h : Pair w B b c room pk v u xs) (hb : Below w.heap.size w w') : Pair w' B b c room pk v u xs :=
  ⟨h.a.below hb, h.r.below hb, h.apart⟩
theorem Pair.ne {w : World} {B b c : Nat} {room pk : Int} {v u : Value} {xs : List Int} (h : Pair w B b c room pk v u xs) : b ≠ c := neT h.a.blk h.r.blk (by decide)
/-- The one turns, the other stays. -/
theorem Pair.left {w w' : World} {B b c : Nat} {room pk pk' : Int} {v u v' : Value} {xs ys : List Int} (h : Pair w B b c room pk v u xs) (ha : Ar 61 3 w' B b room pk' v' (ints ys)) (ht : Turn w w' b v v') :
    Rf w' B c room pk u (ints xs) ∧ ∀ k, v'.ownBlock = some k → u.ownBlock ≠ some k :=
  ⟨h.r.other ht (fun e => h.ne e.symm) (own_ne h.a.own h.r.blk (by decide)) (own_ne h.r.own h.a.blk (by decide)) (fun k e1 e2 => h.apart k e2 e1), fun k e1 e2 => by
    rcases ht.fresh k e1 with e | e
    · exact h.apart k e e2
    · have := (h.r.own.lt k e2).2; omega⟩
theorem Pair.right {w w' : World} {B b c : Nat} {room pk pk' : Int} {v u u' : Value} {xs ys : List Int} (ha : Ar 61 3 w B b room pk' v (ints ys)) (hr : Rf w B c room pk u (ints xs)) (hs : ∀ k, v.ownBlock = some k → u.ownBlock ≠ some k)
    (h' : Rf w' B c room pk' u' (ints ys)) (ht : Turn w w' c u u') : Pair w' B b c room pk' v u' ys :=
  ⟨ha.other ht (neT ha.blk hr.blk (by decide)) (own_ne hr.own ha.blk (by decide)) (own_ne ha.own hr.blk (by decide)) (fun k e1 e2 => hs k e1 e2), h', fun k e1 e2 => by
    rcases ht.fresh k e2 with e | e
    · exact hs k e1 e
    · have := (ha.own.lt k e1).2; omega⟩
set_option maxRecDepth 100000 in
set_option maxHeartbeats 1000000 in
theorem does_long (room : Int) (A : Option Addr) (ds : List Deed) (c : Nat) (hd : ds.length ≤ 140737488351232) (hl : ∀ d ∈ ds, d.l.length ≤ 140737488351232) (h : 400 < ds.length + things ds ∨ 60 < ds.length) (w : World) (hA : Deeds w A ds) :
    Calls Try.prog 3 #[.int .i64 room, .slice A ds.length c] w fun e w' => e = .returned (.bool true) ∧ Below w.heap.size w w' := by
  have SZ := Lib.hid (size_any A ds c hd hl w hA)
  by_cases h6 : 60 < ds.length
  · have h62 : (60 : Int) < ds.length := by omega
    clear hd hl hA h
    go_enter Try.func3, Try.ntmps3
    go_wp2_with (first | (go_at_call 7; refine SZ.out.mono ?_; rintro e w1 ⟨⟨z, rfl, hz⟩, rfl⟩) | (go_at_call 8; refine (awake_any _).mono ?_; rintro e w2 ⟨rfl, hb2⟩; have HB2 := Lib.hid hb2; clear hb2))
    all_goals go_ret
    all_goals exact ⟨rfl, HB2.out⟩
  · have h7 : 400 < ds.length + things ds := by omega
    have H7 := Lib.hid h7
    clear hd hl hA h h7 h6
    go_enter Try.func3, Try.ntmps3
    go_wp2_with (first | (go_at_call 7; refine SZ.out.mono ?_; rintro e w1 ⟨⟨z, rfl, hz⟩, rfl⟩; have hz4 : 400 < z := (by have := H7.out; omega); clear hz) | (go_at_call 8; refine (awake_any _).mono ?_; rintro e w2 ⟨rfl, hb2⟩; have HB2 := Lib.hid hb2; clear hb2))
    all_goals go_ret
    all_goals exact ⟨rfl, HB2.out⟩
end Go.Proofs.Ytfcacgiejoeneaa

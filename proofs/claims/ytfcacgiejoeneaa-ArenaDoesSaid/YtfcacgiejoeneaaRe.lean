/- Contracts of the document's arena: Put, Set, Back. -/
import Derived.Test.YtfcacgiejoeneaaKb
import Derived.Test.YtfcacgiejoeneaaWd
namespace Go.Proofs.Ytfcacgiejoeneaa
open Go Go.RowKit
/-- The document's arena in memory. -/
structure Rf (w : World) (base b : Nat) (most peak : Int) (v : Value) (xs : List Value) : Prop where
  lo : base ≤ b
  blk : Blk w b #[.int .i64 most, .int .i64 peak, v] 30
  own : w.ownsRow base 3 1 v xs.length xs
theorem rf_cells {w : World} {base b : Nat} {most peak : Int} {v : Value} {xs : List Value} (h : Rf w base b most peak v xs) :
    w.cell? ⟨b, 0, none⟩ = some (.int .i64 most) ∧ w.cell? ⟨b, 1, none⟩ = some (.int .i64 peak) ∧ w.cell? ⟨b, 2, none⟩ = some v :=
  ⟨by rw [h.blk.cell]; rfl, by rw [h.blk.cell]; rfl, by rw [h.blk.cell]; rfl⟩
theorem Rf.kept {w w' : World} {base b : Nat} {most peak : Int} {v : Value} {xs : List Value} (h : Rf w base b most peak v xs) (h1 : w'.heap[b]? = w.heap[b]?) (h2 : ∀ k, v.ownBlock = some k → w'.heap[k]? = w.heap[k]?) : Rf w' base b most peak v xs :=
  ⟨h.lo, h1.trans h.blk, own_kept h.own h2⟩
theorem Rf.below {w w' : World} {base b : Nat} {most peak : Int} {v : Value} {xs : List Value} (h : Rf w base b most peak v xs) (hb : Below w.heap.size w w') : Rf w' base b most peak v xs :=
  h.kept (hb.block b h.blk.lt) (fun k e => hb.block k (h.own.lt k e).2)
theorem Rf.other {w w' : World} {base b c : Nat} {most peak : Int} {v u u' : Value} {xs : List Value} (h : Rf w base b most peak v xs) (ht : Turn w w' c u u') (hbc : b ≠ c) (hu : u.ownBlock ≠ some b) (hvc : v.ownBlock ≠ some c) (hvu : ∀ k, v.ownBlock = some k → u.ownBlock ≠ some k) : Rf w' base b most peak v xs :=
  h.kept (ht.block b h.blk.lt hbc hu) (fun k e => ht.block k (h.own.lt k e).2 (fun h => hvc (by rw [e, h])) (hvu k e))
theorem Rf.turned {w w' : World} {base b : Nat} {most peak : Int} {v v' : Value} {xs : List Value} (h : Rf w base b most peak v xs) (ht : Turn w w' b v v') (hB : base ≤ w.heap.size) : Below base w w' :=
  ⟨ht.os, ht.tape, ht.output, ht.size, fun k hk => ht.block k (by omega) (by have := h.lo; omega) (fun e => by have := (h.own.lt k e).1; omega)⟩
set_option maxHeartbeats 1000000 in
theorem rput_full (b n c : Nat) (most peak : Int) (v : Value) (xs : List Value) (base : Nat) (A : Option Addr) (hf : most < xs.length + n) (hn : xs.length + n ≤ 60000) (w : World) (h : Rf w base b most peak v xs) :
    Calls Try.prog 13 #[.pointer (some ⟨b, 0, none⟩), .slice A n c] w fun e w' => e = .returned (.tuple #[.int .i64 0, .int .i64 12]) ∧ ∃ n, w' = w.drewN n := by
  obtain ⟨c0, c1, c2⟩ := rf_cells h
  obtain ⟨A0, cap, rfl, _, _⟩ := own_slice h.own
  obtain ⟨Z, eZ⟩ : ∃ Z : Int, Z = (xs.length : Int) + n := ⟨_, rfl⟩
  have hw : IntKind.i64.wrap ((xs.length : Int) + n) = Z := (IntWalk.i64_in _ (by omega)).trans (by omega)
  have hZ : most < Z := by omega
  clear h hf hn eZ
  go_enter Try.func13, Try.ntmps13
  go_wp2_with fail
  go_quiet (fail)
  go_wp2_with fail
  go_ret2
  exact ⟨rfl, _, rfl⟩
set_option maxHeartbeats 1000000 in
theorem rset_no (b : Nat) (most peak : Int) (v : Value) (xs : List Value) (base : Nat) (k x : Int) (hk : k < 0 ∨ (xs.length : Int) ≤ k) (w : World) (h : Rf w base b most peak v xs) :
    Calls Try.prog 17 #[.pointer (some ⟨b, 0, none⟩), .int .i64 k, .int .i64 x] w fun e w' => e = .returned (.int .i64 6) ∧ w = w' := by
  obtain ⟨c0, c1, c2⟩ := rf_cells h
  obtain ⟨A0, cap, rfl, _, _⟩ := own_slice h.own
  clear h
  by_cases h0 : k < 0
  · clear hk
    go_enter Try.func17, Try.ntmps17
    go_wp2_with fail
    go_ret
    exact ⟨rfl, rfl⟩
  · have h1 : 0 ≤ k := by omega
    have h2 : (xs.length : Int) ≤ k := by omega
    clear hk h0
    go_enter Try.func17, Try.ntmps17
    go_wp2_with fail
    go_ret
    exact ⟨rfl, rfl⟩
set_option maxHeartbeats 1000000 in
theorem rset_yes (b : Nat) (most peak : Int) (v : Value) (xs : List Value) (base k : Nat) (x : Int) (hk : k < xs.length) (w : World) (h : Rf w base b most peak v xs) :
    Calls Try.prog 17 #[.pointer (some ⟨b, 0, none⟩), .int .i64 k, .int .i64 x] w fun e w' => e = .returned (.int .i64 0) ∧ Rf w' base b most peak v (xs.set k (.int .i64 x)) ∧ Turn w w' b v v := by
  obtain ⟨c0, c1, c2⟩ := rf_cells h
  have H := Lib.hid h
  have hvb := own_ne h.own h.blk (by decide)
  obtain ⟨g, cap, rfl, _, _⟩ := own_shape h.own (by omega)
  have c4 := h.own.cellAt k (by omega)
  rw [List.getElem?_eq_getElem hk] at c4
  have f4 := h.own.frozenAt k
  have hlt2 : (k : Int) < xs.length := by omega
  have HO := Lib.hid (h.own.stored k (.int .i64 x))
  have hgb : b ≠ g := fun e => hvb (by rw [e]; rfl)
  clear h hvb
  go_enter Try.func17, Try.ntmps17
  go_wp2_with fail
  go_ret
  exact ⟨rfl, ⟨H.out.lo, (heap_setCell_other _ _ _ _ hgb).trans H.out.blk, by rw [List.length_set]; exact HO.out.1⟩, ⟨rfl, rfl, rfl, by simp [World.setCell], fun j hj h1 h2 => heap_setCell_other _ _ _ _ (fun e => h2 (by rw [e]; rfl)), fun k h => .inl h⟩⟩
set_option maxHeartbeats 1000000 in
theorem rback_bad (b : Nat) (most peak : Int) (v : Value) (xs : List Value) (base : Nat) (k : Int) (hk : k < 0 ∨ (xs.length : Int) < k) (w : World) (h : Rf w base b most peak v xs) :
    Calls Try.prog 19 #[.pointer (some ⟨b, 0, none⟩), .int .i64 k] w fun e w' => e = .returned (.int .i64 6) ∧ w = w' := by
  obtain ⟨c0, c1, c2⟩ := rf_cells h
  obtain ⟨A0, cap, rfl, _, _⟩ := own_slice h.own
  clear h
  by_cases h0 : k < 0
  · clear hk
    go_enter Try.func19, Try.ntmps19
    go_wp2_with fail
    go_ret
    exact ⟨rfl, rfl⟩
  · have h1 : 0 ≤ k := by omega
    have h2 : (xs.length : Int) < k := by omega
    clear hk h0
    go_enter Try.func19, Try.ntmps19
    go_wp2_with fail
    go_ret
    exact ⟨rfl, rfl⟩
end Go.Proofs.Ytfcacgiejoeneaa

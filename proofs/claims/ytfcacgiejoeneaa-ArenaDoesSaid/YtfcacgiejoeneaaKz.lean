/- Deeds in memory; how many deeds and things there are. -/
import Derived.Test.YtfcacgiejoeneaaKb
namespace Go.Proofs.Ytfcacgiejoeneaa
open Go Go.RowKit
/-- A deed: what it is, three numbers of it, where its things lie, its things. -/
structure Deed where
  what : Int
  n : Int
  x : Int
  A : Option Addr
  c : Nat
  l : List Int
def Deed.zero : Deed := ⟨0, 0, 0, none, 0, []⟩
/-- Deeds in memory. -/
def Deeds (w : World) (A : Option Addr) (ds : List Deed) : Prop :=
  0 < ds.length → ∃ b o, A = some ⟨b, o, none⟩ ∧ b < w.heap.size ∧ ∀ i, i < ds.length → w.cell? ⟨b, o + i * 4, none⟩ = some (.int .i64 (ds.getD i Deed.zero).what) ∧ w.cell? ⟨b, o + i * 4 + 1, none⟩ = some (.int .i64 (ds.getD i Deed.zero).n) ∧
    w.cell? ⟨b, o + i * 4 + 2, none⟩ = some (.int .i64 (ds.getD i Deed.zero).x) ∧ w.cell? ⟨b, o + i * 4 + 3, none⟩ = some (.slice (ds.getD i Deed.zero).A (ds.getD i Deed.zero).l.length (ds.getD i Deed.zero).c)
theorem Deeds.below {w w' : World} {A : Option Addr} {ds : List Deed} (h : Deeds w A ds) (hb : Below w.heap.size w w') : Deeds w' A ds := by
  intro h0
  obtain ⟨b, o, e, hl, hc⟩ := h h0
  have k : ∀ j, w'.cell? ⟨b, j, none⟩ = w.cell? ⟨b, j, none⟩ := fun j => hb.cell (p := ⟨b, j, none⟩) hl
  exact ⟨b, o, e, Nat.lt_of_lt_of_le hl hb.size, fun i hi => by rw [k, k, k, k]; exact hc i hi⟩
/-- How many things the deeds have. -/
def things (ds : List Deed) : Nat := (ds.map fun d => d.l.length).sum
theorem things_take {ds : List Deed} {i : Nat} (h : i < ds.length) : things (ds.take (i + 1)) = things (ds.take i) + (ds.getD i Deed.zero).l.length := by
  unfold things
  rw [List.take_succ_eq_append_getElem h, List.map_append, List.sum_append]
  simp [List.getD, List.getElem?_eq_getElem h]
theorem things_le (ds : List Deed) (k : Nat) : things (ds.take k) ≤ things ds := by
  have : things ds = things (ds.take k) + things (ds.drop k) := by
    unfold things
    rw [← List.sum_append, ← List.map_append, List.take_append_drop]
  omega
set_option maxHeartbeats 1000000 in
theorem size_both (A : Option Addr) (ds : List Deed) (c : Nat) (hd : ds.length ≤ 140737488351232) (hl : ∀ d ∈ ds, d.l.length ≤ 140737488351232) (w : World) (h : Deeds w A ds) :
    Calls Try.prog 7 #[.slice A ds.length c] w fun e w' => (∃ z : Int, e = .returned (.int .i64 z) ∧ (z ≤ 400 → (ds.length + things ds : Nat) ≤ 400) ∧ ((ds.length + things ds : Nat) ≤ 400 → z ≤ 400)) ∧ w = w' := by
  have H := Lib.hid h
  have HL := Lib.hid hl
  clear h hl
  go_enter Try.func7, Try.ntmps7
  go_wp2_with fail
  go_loopw [3, 4] (fun s i wr => ∃ (k : Nat) (n : Int), k ≤ ds.length ∧ s = .int .i64 n ∧ i = .int .i64 k ∧ n = (ds.length + things (ds.take k) : Nat) ∧ n ≤ 281474976711064 ∧ 0 ≤ n ∧ wr = w) (fun _ i _ => ds.length - (intOf i).toNat)
  case atStart => exact ⟨0, ds.length, by omega, rfl, rfl, by simp [things], by omega, by omega, rfl⟩
  case round =>
    obtain ⟨k, n, hk, rfl, rfl, hn, hn2, hn0, rfl⟩ := hrel
    have HN := Lib.hid hn
    clear hn
    by_cases hlt : k < ds.length
    · have hlt2 : (k : Int) < ds.length := by omega
      by_cases hle : n ≤ 400
      · obtain ⟨b, o, rfl, _, hc⟩ := H.out (by omega)
        obtain ⟨_, _, _, c3⟩ := hc k hlt
        have hx := HL.out (ds.getD k Deed.zero) (by simp [List.getD, List.getElem?_eq_getElem hlt])
        have ht := things_take hlt
        generalize ds.getD k Deed.zero = d at c3 hx ht
        have HT := Lib.hid ht
        obtain ⟨m, em⟩ : ∃ m, m = d.l.length := ⟨_, rfl⟩
        rw [← em] at c3 hx
        have EM := Lib.hid em
        clear hc ht em
        go_wp2_with fail
        go_roundw
        case rel => exact ⟨k + 1, n + m, hlt, by go_num, by go_num, by have h1 := HN.out; have h2 := HT.out; have h3 := EM.out; omega, by omega, by omega, by first | trivial | rfl⟩
        case measure => simp [intOf]; omega
      · have hle2 : 400 < n := by omega
        clear hle
        go_wp2_with fail
        go_ret
        exact ⟨⟨n, rfl, fun h => by omega, fun h => by have h1 := HN.out; have h2 := things_le ds k; omega⟩, by first | trivial | rfl⟩
    · obtain rfl : k = ds.length := by omega
      have hlt2 : ¬ (ds.length : Int) < ds.length := by omega
      go_wp2_with fail
      go_ret
      exact ⟨⟨n, rfl, fun h => by have h1 := HN.out; rw [List.take_length] at h1; omega, fun h => by have h1 := HN.out; rw [List.take_length] at h1; omega⟩, by first | trivial | rfl⟩
theorem size_any (A : Option Addr) (ds : List Deed) (c : Nat) (hd : ds.length ≤ 140737488351232) (hl : ∀ d ∈ ds, d.l.length ≤ 140737488351232) (w : World) (h : Deeds w A ds) :
    Calls Try.prog 7 #[.slice A ds.length c] w fun e w' => (∃ z : Int, e = .returned (.int .i64 z) ∧ (z ≤ 400 → (ds.length + things ds : Nat) ≤ 400)) ∧ w = w' :=
  (size_both A ds c hd hl w h).mono fun _ _ ⟨⟨z, h1, h2, _⟩, h3⟩ => ⟨⟨z, h1, h2⟩, h3⟩
theorem size_yes (A : Option Addr) (ds : List Deed) (c : Nat) (hd : ds.length ≤ 140737488351232) (hl : ∀ d ∈ ds, d.l.length ≤ 140737488351232) (ht : ds.length + things ds ≤ 400) (w : World) (h : Deeds w A ds) :
    Calls Try.prog 7 #[.slice A ds.length c] w fun e w' => (∃ z : Int, e = .returned (.int .i64 z) ∧ z ≤ 400) ∧ w = w' :=
  (size_both A ds c hd hl w h).mono fun _ _ ⟨⟨z, h1, _, h2⟩, h3⟩ => ⟨⟨z, h1, h2 ht⟩, h3⟩
end Go.Proofs.Ytfcacgiejoeneaa

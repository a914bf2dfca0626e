/- Strings and their bytes; contracts of a cursor: readerAt, ends, ahead, pass. -/
import Derived.Test.YtgmdfmckkfefgaaDoorWa
namespace Go.Proofs.YtgmdfmckkfefgaaDoor
open Go Go.RowKit
/-- The bytes of a string. -/
def Str (s : ByteArray) (l : List Nat) : Prop := s.data.toList.map UInt8.toNat = l
theorem Str.lt {s : ByteArray} {l : List Nat} (h : Str s l) : ∀ x ∈ l, x < 256 := by
  intro x hx
  rw [← h] at hx
  obtain ⟨y, _, rfl⟩ := List.mem_map.1 hx
  exact y.toNat_lt
theorem Str.size {s : ByteArray} {l : List Nat} (h : Str s l) : s.size = l.length := by
  rw [← h, List.length_map, Array.length_toList]
  rfl
theorem Str.at_ {s : ByteArray} {l : List Nat} (h : Str s l) (i : Nat) (hi : i < s.size) : (s[i]'hi).toNat = l.getD i 0 := by
  subst h
  have h2 : i < s.data.toList.length := hi
  rw [List.getD_eq_getElem?_getD, List.getElem?_map, List.getElem?_eq_getElem h2]
  rfl
theorem Str.ext {s t : ByteArray} {l : List Nat} (h : Str s l) (h' : Str t l) : s = t := by
  apply ByteArray.ext
  apply Array.ext'
  have : s.data.toList.map UInt8.toNat = t.data.toList.map UInt8.toNat := h.trans h'.symm
  exact (List.map_inj_right (fun a b h => UInt8.toNat_inj.1 h)).1 this
theorem Str.extract {s : ByteArray} {l : List Nat} (h : Str s l) (a b : Nat) : Str (s.extract a b) ((l.drop a).take (b - a)) := by
  subst h
  unfold Str
  simp [ByteArray.data_extract, List.map_take, List.map_drop]
theorem Str.append {s t : ByteArray} {l m : List Nat} (h : Str s l) (h' : Str t m) : Str (s ++ t) (l ++ m) := by
  subst h h'
  unfold Str
  simp
theorem Str.list {s : ByteArray} {l : List Nat} (h : Str s l) : s.toList = l.map UInt8.ofNat := by
  rw [← h, ByteArray.toList_eq, List.map_map]
  conv => lhs; rw [← List.map_id s.data.toList]
  apply List.map_congr_left
  intro x _
  simp
def bsv (l : List Nat) : ByteArray := ⟨(l.map UInt8.ofNat).toArray⟩
theorem str_bsv {l : List Nat} (h : ∀ x ∈ l, x < 256) : Str (bsv l) l := by
  unfold Str bsv
  simp only [List.toList_toArray, List.map_map]
  conv => rhs; rw [← List.map_id l]
  apply List.map_congr_left
  intro x hx
  simp only [Function.comp, UInt8.toNat_ofNat', id]
  exact Nat.mod_eq_of_lt (h x hx)
theorem Str.eq {s : ByteArray} {l : List Nat} (h : Str s l) : s = bsv l := h.ext (str_bsv h.lt)
theorem str_eq {s t : ByteArray} {l m : List Nat} (h : Str s l) (h' : Str t m) : (s.toList == t.toList) = decide (l = m) := by
  rw [Bool.eq_iff_iff, beq_iff_eq, decide_eq_true_eq]
  constructor
  · intro e
    rw [← h, ← h']
    have : s.data.toList = t.data.toList := by rw [← ByteArray.toList_eq, ← ByteArray.toList_eq]; exact e
    rw [this]
  · rintro rfl
    rw [h.ext h']

/-- A cursor in memory. -/
def Cur (w : World) (b : Nat) (s : ByteArray) (a p : Int) : Prop := Blk w b #[.string s, .int .i64 a, .int .i64 p] 88
set_option maxHeartbeats 400000 in
theorem readerAt_any (p a : Int) (s : ByteArray) (w : World) :
    Calls Tryd.prog 46 #[.int .i64 p, .string s, .int .i64 a] w fun e w' => e = .returned (.pointer (some ⟨w.heap.size, 0, none⟩)) ∧ Below w.heap.size w w' ∧ Cur w' w.heap.size s a p := by
  go_enter Tryd.func46, Tryd.ntmps46
  go_wp2
  go_ret
  exact ⟨rfl, B1 _ _, Blk.new _ _ _⟩
theorem cur3 {w : World} {b : Nat} {s : ByteArray} {a p : Int} (h : Cur w b s a p) : w.cell? ⟨b, 0, none⟩ = some (.string s) ∧ w.cell? ⟨b, 1, none⟩ = some (.int .i64 a) ∧ w.cell? ⟨b, 2, none⟩ = some (.int .i64 p) :=
  ⟨by rw [Blk.cell h]; rfl, by rw [Blk.cell h]; rfl, by rw [Blk.cell h]; rfl⟩
set_option maxHeartbeats 400000 in
theorem pass_any (b n : Nat) (s : ByteArray) (a p : Int) (h0 : 0 ≤ a + n) (h1 : a + n < 9223372036854775808) (w : World) (h : Cur w b s a p) :
    Calls Tryd.prog 58 #[.pointer (some ⟨b, 0, none⟩), .int .i64 n] w fun e w' => e = .returned (.tuple #[]) ∧ Below b w w' ∧ Cur w' b s (a + n) p := by
  obtain ⟨c0, c1, c2⟩ := cur3 h
  have f1 : w.frozen? ⟨b, 1, none⟩ = false := Blk.frozen h 1
  have hw : IntKind.i64.wrap (a + n) = a + n := IntWalk.i64_in _ (by omega)
  have H := Lib.hid h
  clear h
  go_enter Tryd.func58, Tryd.ntmps58
  go_wp2_with fail
  go_end0
  exact ⟨rfl, (Below.refl _ _).setCell (p := ⟨b, 1, none⟩) (Nat.le_refl _) _, heap_setCell_same w b 1 _ 88 _ H.out⟩
set_option maxHeartbeats 400000 in
theorem ahead_none (b n : Nat) (s : ByteArray) (a p : Int) (hs : (s.size : Int) < 4611686018427387904) (ha : -9223372036854775808 ≤ a ∧ a < 9223372036854775808) (hn : n < 10) (hc : a < 0 ∨ s.size < a + n) (w : World) (h : Cur w b s a p) :
    Calls Tryd.prog 62 #[.pointer (some ⟨b, 0, none⟩), .int .i64 n] w fun e w' => e = .returned (.tuple #[.string ⟨#[]⟩, .bool false]) ∧ ∃ n, w' = w.drewN n := by
  obtain ⟨c0, c1, c2⟩ := cur3 h
  clear h
  by_cases h0 : a < 0
  · go_enter Tryd.func62, Tryd.ntmps62
    go_wp2_with fail
    go_quiet (fail)
    go_wp2_with fail
    go_ret2
    exact ⟨rfl, _, rfl⟩
  · have h1 : (0 : Int) ≤ a := by omega
    have hw : IntKind.i64.wrap ((s.size : Int) - a) = s.size - a := IntWalk.i64_in _ (by omega)
    have h2 : (s.size : Int) - a < n := by omega
    clear hc h0
    go_enter Tryd.func62, Tryd.ntmps62
    go_wp2_with fail
    go_quiet (fail)
    go_wp2_with fail
    go_ret2
    exact ⟨rfl, _, rfl⟩
set_option maxHeartbeats 400000 in
theorem ahead_ints (b : Nat) (x y z d : Int) (s : ByteArray) (p : Int) (h1 : 0 ≤ x) (hw : IntKind.i64.wrap ((s.size : Int) - x) = d) (h2 : y ≤ d) (hw2 : IntKind.i64.wrap (x + y) = z) (h3 : x ≤ z) (h4 : z ≤ s.size) (w : World) (h : Cur w b s x p) :
    Calls Tryd.prog 62 #[.pointer (some ⟨b, 0, none⟩), .int .i64 y] w fun e w' => e = .returned (.tuple #[.string (s.extract x.toNat z.toNat), .bool true]) ∧ ∃ n, w' = w.drewN n := by
  obtain ⟨c0, c1, c2⟩ := cur3 h
  clear h
  go_enter Tryd.func62, Tryd.ntmps62
  go_wp2_with fail
  go_quiet (fail)
  go_wp2_with fail
  go_quiet (fail)
  go_wp2_with fail
  go_ret2
  exact ⟨rfl, _, World.drewN_drewN _ _ _⟩
theorem ahead_some (b n k : Nat) (s : ByteArray) (p : Int) (hs : (s.size : Int) < 4611686018427387904) (hc : k + n ≤ s.size) (w : World) (h : Cur w b s k p) :
    Calls Tryd.prog 62 #[.pointer (some ⟨b, 0, none⟩), .int .i64 n] w fun e w' => e = .returned (.tuple #[.string (s.extract k (k + n)), .bool true]) ∧ ∃ n, w' = w.drewN n := by
  have := ahead_ints b k n (k + n : Nat) (s.size - k : Nat) s p (by omega) ((IntWalk.i64_in _ (by omega)).trans (by omega)) (by omega) ((IntWalk.i64_in _ (by omega)).trans (by omega)) (by omega) (by omega) w h
  rwa [Int.toNat_natCast, Int.toNat_natCast] at this
end Go.Proofs.YtgmdfmckkfefgaaDoor

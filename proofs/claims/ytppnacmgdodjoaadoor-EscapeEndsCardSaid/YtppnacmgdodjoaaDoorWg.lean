/- Bytes, written: All and the document's. -/
import Derived.Test.YtppnacmgdodjoaaDoorWf
import Derived.Test.YtppnacmgdodjoaaDoorXl
import Derived.Test.YtppnacmgdodjoaaDoorSa
import Derived.Laws.Concat
namespace Go.Proofs.YtppnacmgdodjoaaDoor
open Go Go.RowKit Go.Maps
theorem below_grown {a b : World} (h : Below a.heap.size a b) : a.grownBy b none := ⟨h.os, h.tape, h.output, h.size, fun i hi _ => h.block i hi⟩
theorem own_below {a b : World} {base n : Nat} {e : TypeId} {s : Nat} {v : Value} {xs : List Value} (h : a.ownsRow base e s v n xs) (hb : Below a.heap.size a b) : b.ownsRow base e s v n xs :=
  h.kept (below_grown hb) (by cases v.ownBlock <;> simp)
theorem builder_below {a b : World} {T e : TypeId} {B g : Nat} {bs : List Value} (h : Lib.IsBuilder T e B g bs a) (hb : Below a.heap.size a b) : Lib.IsBuilder T e B g bs b := by
  rcases h with ⟨h1, v, h2, h3, h4⟩ | ⟨h1, v, h2, h3, h4⟩
  · exact .inl ⟨h1, v, (hb.block g (Array.getElem?_eq_some_iff.1 h2).1).trans h2, own_below h3 hb, h4⟩
  · exact .inr ⟨h1, v, (hb.block g (Array.getElem?_eq_some_iff.1 h2).1).trans h2, own_below h3 hb, h4⟩
def cl (l : List Nat) : List Value := Lib.byteCells (l.map UInt8.ofNat)
theorem cl_length (l : List Nat) : (cl l).length = l.length := by simp [cl, Lib.byteCells]
theorem cl_append (a b : List Nat) : cl (a ++ b) = cl a ++ cl b := by simp [cl, Lib.byteCells]
theorem strCells_bsv (l : List Nat) : Lib.strCells (bsv l) = cl l := by
  rw [Lib.strCells_eq]
  rfl
theorem bsv_size (l : List Nat) : (bsv l).size = l.length := by
  show (l.map UInt8.ofNat).toArray.size = _
  simp
theorem take_snoc (l : List Nat) {k : Nat} (h : k < l.length) : l.take (k + 1) = l.take k ++ [l.getD k 0] := by
  rw [List.take_add_one, List.getElem?_eq_getElem h]
  simp [List.getD, List.getElem?_eq_getElem h]
theorem all_snoc (p : Int) (l : List Nat) {k : Nat} (h : k < l.length) : all p (l.take (k + 1)) = all p (l.take k) ++ one p (l.getD k 0) := by
  rw [take_snoc l h]
  simp [all]
set_option maxHeartbeats 2000000 in
theorem all_any (p : Int) (A : Option Addr) (l : List Nat) (c : Nat) (hl : l.length ≤ 60000) (w : World) (h : Txt w A l) :
    Calls Tryd.prog 9 #[.int .i64 p, .slice A l.length c] w fun e w' => e = .returned (.string (bsv (all p l))) ∧ Below w.heap.size w w' := by
  have HT := Lib.hid h
  have e0 : Lib.IsBuilder 43 5 w.heap.size w.heap.size (cl (all p (l.take 0))) (w.alloc (.cells #[.pointer none, .slice none 0 0] 43)) := Lib.fresh_isBuilder 43 5 w
  have H0 := Lib.hid e0
  clear h e0
  go_enter Tryd.func9, Tryd.ntmps9
  go_wp2_with fail
  go_loopw [7, 10] (fun _ i wr => ∃ k : Nat, k ≤ l.length ∧ i = .int .i64 k ∧ Lib.IsBuilder 43 5 w.heap.size w.heap.size (cl (all p (l.take k))) wr ∧ Below w.heap.size w wr) (fun _ i _ => l.length - (intOf i).toNat)
  case atStart => exact ⟨0, by omega, rfl, H0.out, B1 _ _⟩
  case round =>
    obtain ⟨k, hk, rfl, hI, hb⟩ := hrel
    have HI := Lib.hid hI
    have HB := Lib.hid hb
    have HS := hb.size
    clear hI hb
    by_cases hlt : k < l.length
    · obtain ⟨tb, to, rfl, c1⟩ := (HT.out.below HB.out).at_ hlt
      have hv : l.getD k 0 < 256 := HT.out.1 _ (by rw [List.getD_eq_getElem?_getD, List.getElem?_eq_getElem hlt]; exact List.getElem_mem hlt)
      have E := Lib.hid (all_snoc p l hlt)
      have L1 := one_len p (l.getD k 0)
      have L2 := all_len p (l.take k)
      have L3 : (l.take k).length ≤ 60000 := by rw [List.length_take]; omega
      have L4 : (cl (all p (l.take k))).length + (bsv (one p (l.getD k 0))).size ≤ 140737488355328 := by rw [cl_length, bsv_size]; omega
      have L5 := Lib.hid L4
      clear L1 L2 L3 L4
      generalize l.getD k 0 = v at c1 hv E L5
      have V := Lib.hid hv
      have hk3 : (k : Int) < l.length := by omega
      clear hv
      go_wp2_with (go_at_call 13; refine (one_any p v V.out _).mono ?_; rintro e w1 ⟨rfl, hb1⟩)
      have H1 := Lib.hid (builder_below HI.out hb1)
      have H2 := Lib.hid (bb HB.out hb1)
      have HS1 := hb1.size
      clear hb1
      go_wp2_with (go_at_call 18; refine (bWrite _ _ _ _ _ H1.out L5.out (by omega)).mono ?_; rintro e w2 ⟨rfl, hb2, hb3⟩)
      rw [strCells_bsv, ← cl_append, ← E.out] at hb2
      have H3 := Lib.hid hb2
      have H4 := Lib.hid (H2.out.trans hb3)
      clear hb2 hb3
      go_wp2_with fail
      go_roundw
      case rel => exact ⟨k + 1, by omega, by go_num, .inr H3.out, H4.out⟩
      case measure => simp [intOf]; omega
    · obtain rfl : k = l.length := by omega
      rw [List.take_length] at HI
      go_wp2_with (go_at_call 19; refine (bString _ _ _ _ HI.out (by omega)).mono ?_; rintro e w1 ⟨rfl, hb1⟩)
      go_wp2_with fail
      go_ret
      exact ⟨rfl, HB.out.trans hb1⟩
end Go.Proofs.YtppnacmgdodjoaaDoor

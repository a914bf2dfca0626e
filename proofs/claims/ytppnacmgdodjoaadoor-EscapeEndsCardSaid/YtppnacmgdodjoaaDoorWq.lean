/- Contract of the document's Decode. -/
import Derived.Test.YtppnacmgdodjoaaDoorWp
import Derived.Test.YtppnacmgdodjoaaDoorWn
namespace Go.Proofs.YtppnacmgdodjoaaDoor
open Go Go.RowKit Go.Maps
set_option maxRecDepth 100000 in
set_option maxHeartbeats 4000000 in
theorem rdecode_any (s : ByteArray) (l : List Nat) (p : Int) (hs : Str s l) (hl : l.length ≤ 60000) (w : World) :
    Calls Tryd.prog 22 #[.int .i64 p, .string s] w fun e w' => ∃ v, e = .returned (.tuple #[v, .int .i64 (dK (D p l)), .int .i64 (dE (D p l))]) ∧ w'.ownsRow w.heap.size 5 1 v (dB (D p l)).length ((dB (D p l)).map natb) ∧ Below w.heap.size w w' := by
  have hlt : ∀ x ∈ l, x < 256 := hs.lt
  have hz := hs.size
  have RA := Lib.hid (fun a w => rread_any s l a p hs hl w)
  have HL := Lib.hid hlt
  have HLEN := Lib.hid hl
  have hz2 : (s.size : Int) = l.length := by omega
  have D0 : D p l = cc [] 0 (D p (l.drop 0)) := by
    rw [List.drop_zero, cc_zero]
    intro hne
    rcases hx : D p l with ⟨_ | c, j⟩
    · rw [hx] at hne; exact absurd rfl hne
    · exact D_zero hlt hx
  obtain ⟨d, ed⟩ : ∃ d, d = D p l := ⟨_, rfl⟩
  rw [← ed] at D0 ⊢
  have DD := Lib.hid D0
  have HN0 : RowKit.Hid (w.ownsRow w.heap.size 5 1 (.slice none 0 0) ([] : List Nat).length (([] : List Nat).map natb)) := Lib.hid (World.ownsRow_nil _ _ _ _)
  clear hs hl hlt hz D0 ed
  go_enter Tryd.func22, Tryd.ntmps22
  go_wp2_with fail
  go_loopw [7, 8, 9, 10, 11] (fun v i _ _ _ wr => ∃ (k : Nat) (acc : List Nat), i = .int .i64 k ∧ k ≤ l.length ∧ acc.length ≤ k ∧ (∀ x ∈ acc, x < 256) ∧ d = cc acc k (D p (l.drop k)) ∧ wr.ownsRow w.heap.size 5 1 v acc.length (acc.map natb) ∧ Below w.heap.size w wr)
    (fun _ i _ _ _ _ => l.length - (intOf i).toNat)
  case atStart => exact ⟨0, [], rfl, by omega, by simp, by simp, DD.out, HN0.out, Below.refl _ _⟩
  case round =>
    obtain ⟨k, acc, rfl, hk, hak, hacc, hd, hown, hb⟩ := hrel
    have HA := Lib.hid hacc
    have HD := Lib.hid hd
    have HO := Lib.hid hown
    have HB := Lib.hid hb
    have SZ := hb.size
    have HAK := Lib.hid hak
    clear hacc hd hown hb hak
    obtain ⟨wa, rfl⟩ : ∃ u, u = wr := ⟨_, rfl⟩
    by_cases hlt : k < l.length
    · have hlt3 : (k : Int) < l.length := by omega
      have NE := Lib.hid (drop_ne hlt)
      have R0 := RA.out k
      rw [rst_nat] at R0
      generalize hr : l.drop k = r at R0 NE
      have HR := Lib.hid hr
      have HRL : RowKit.Hid (∀ x ∈ r, x < 256) := Lib.hid (fun x hx => HL.out x (by rw [← hr] at hx; exact List.mem_of_mem_drop hx))
      clear hr
      cases hrd : rd p r with
      | none =>
        rw [RE_none hrd] at R0
        have RH := Lib.hid R0
        have F : RowKit.Hid (d = (none, k)) := Lib.hid (by rw [HD.out, HR.out, D_none NE.out hrd]; rfl)
        clear R0 hrd hlt
        go_wp2_with (go_at_call 21; refine (RH.out _).mono ?_; rintro e w2 ⟨rfl, n2, rfl⟩)
        go_ret3
        rw [F.out]
        exact ⟨_, by simp [dK, dE], World.ownsRow_nil _ _ _ _, bdrew HB.out⟩
      | some xn =>
        obtain ⟨x, n⟩ := xn
        obtain ⟨_, q1, q2, q3, _, _⟩ := rd_ok HRL.out hrd
        rw [RE_some hrd] at R0
        obtain ⟨K, eK⟩ : ∃ K : Int, K = (k : Int) + n := ⟨_, rfl⟩
        rw [← eK] at R0
        have EK := Lib.hid eK
        have RH := Lib.hid R0
        have hrl : r.length = l.length - k := by rw [← HR.out, List.length_drop]
        have F : RowKit.Hid (d = cc (acc ++ [x]) (k + n) (D p (l.drop (k + n)))) := Lib.hid (by rw [HD.out, HR.out, D_some HRL.out hrd, cc_cb, ← HR.out, List.drop_drop])
        have Q : RowKit.Hid (1 ≤ n ∧ k + n ≤ l.length ∧ x < 256) := Lib.hid ⟨q1, by omega, q3⟩
        clear R0 hrd hrl q1 q2 q3 eK
        have L3 : RowKit.Hid (acc.length + [x].length ≤ 65536) := Lib.hid (by have := HLEN.out; have := HAK.out; simp; omega)
        go_wp2_with (first
          | (go_at_call 21; refine (RH.out _).mono ?_; rintro e w3 ⟨rfl, n2, rfl⟩; have O3n := Lib.hid ((show (wa.drewN n2).ownsRow w.heap.size 5 1 _ acc.length (acc.map natb) from HO.out).alloc (.cells #[.int .u8 (x : Int)] 5)); have T3 := Lib.hid (txt_one (wa.drewN n2) x Q.out.2.2))
          | (at_builtin; refine wpList_append_txt _ rfl (.tmp 27) (.tmp 29) rfl w.heap.size _ acc rfl O3n.out (some ⟨wa.heap.size, 0, none⟩) [x] 1 rfl T3.out (fun h => by cases h) L3.out (by simp; omega) ?_; intro v1 w4 hown4 hg4; have HO4 := Lib.hid hown4; have HG4 := Lib.hid hg4; clear hown4 hg4))
        have B4 := Lib.hid (((bdrew (n := n2) HB.out).alloc SZ (.cells #[.int .u8 (x : Int)] 5)).grown HG4.out (by simp; omega) (fun j hj => (HO.out.lt j hj).1))
        go_roundw
        case rel =>
          obtain ⟨q1, q2, q3⟩ := Q.out
          exact ⟨k + n, acc ++ [x], by rw [EK.out]; rfl, q2, by have := HAK.out; simp; omega, fun y hy => (List.mem_append.1 hy).elim (HA.out y) (fun h => by simp at h; omega), F.out, HO4.out, B4.out⟩
        case measure =>
          obtain ⟨q1, q2, q3⟩ := Q.out
          have := EK.out
          simp [intOf]
          omega
    · obtain rfl : k = l.length := by omega
      have F : RowKit.Hid (d = (some acc, 0)) := Lib.hid (by rw [HD.out, D_end])
      go_wp2_with fail
      go_ret3
      rw [F.out]
      exact ⟨_, rfl, HO.out, HB.out⟩
end Go.Proofs.YtppnacmgdodjoaaDoor

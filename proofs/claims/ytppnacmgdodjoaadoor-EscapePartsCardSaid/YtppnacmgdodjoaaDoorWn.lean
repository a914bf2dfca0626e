/- Contract of Decode. -/
import Derived.Test.YtppnacmgdodjoaaDoorWm
import Derived.Test.YtppnacmgdodjoaaDoorSa
namespace Go.Proofs.YtppnacmgdodjoaaDoor
open Go Go.RowKit Go.Maps
/-- What a text that is read tells: its bytes, a place, an error. -/
def dB (x : Option (List Nat) × Nat) : List Nat := match x with | (some bs, _) => bs | (none, _) => []
def dK (x : Option (List Nat) × Nat) : Nat := match x with | (some _, _) => 0 | (none, k) => k
def dE (x : Option (List Nat) × Nat) : Int := match x with | (some _, _) => 0 | (none, _) => 7
theorem txt_one (w : World) (x : Nat) (hx : x < 256) : Txt (w.alloc (.cells #[.int .u8 x] 5)) (some ⟨w.heap.size, 0, none⟩) [x] := by
  refine ⟨by simpa using hx, fun _ => ⟨_, _, rfl, by simp, fun i hi => ?_⟩⟩
  have : i = 0 := by simpa using hi
  subst this
  rw [(Blk.new w _ _).cell]
  rfl
theorem drop_ne {l : List Nat} {k : Nat} (h : k < l.length) : l.drop k ≠ [] := by
  intro e
  have := congrArg List.length e
  rw [List.length_drop] at this
  simp at this
  omega
theorem D_end (p : Int) (l : List Nat) (acc : List Nat) : cc acc l.length (D p (l.drop l.length)) = (some acc, 0) := by
  rw [List.drop_length, D_nil]
  simp [cc]
set_option maxRecDepth 100000 in
set_option maxHeartbeats 4000000 in
theorem Decode_any (s : ByteArray) (l : List Nat) (p : Int) (hs : Str s l) (hl : l.length ≤ 60000) (w : World) (hT : Tab w) :
    Calls Tryd.prog 15 #[.int .i64 p, .string s] w fun e w' => ∃ v, e = .returned (.tuple #[v, .int .i64 (dK (D p l)), .int .i64 (dE (D p l))]) ∧ w'.ownsRow w.heap.size 5 1 v (dB (D p l)).length ((dB (D p l)).map natb) ∧ Below w.heap.size w w' := by
  have hlt : ∀ x ∈ l, x < 256 := hs.lt
  have hz := hs.size
  have EN := Lib.hid (fun b a w h => ends_any b s a p w h)
  have RA := Lib.hid (fun b a ha w h hT => read_any b s l a p hs hl ha w h hT)
  have TH := Lib.hid hT
  have HL := Lib.hid hlt
  have hz2 : (s.size : Int) = l.length := by omega
  rw [hz2] at EN
  have HLEN := Lib.hid hl
  have D0 : D p l = cc [] 0 (D p (l.drop 0)) := by
    rw [List.drop_zero, cc_zero]
    intro hne
    rcases hx : D p l with ⟨_ | c, j⟩
    · rw [hx] at hne; exact absurd rfl hne
    · exact D_zero hlt hx
  obtain ⟨d, ed⟩ : ∃ d, d = D p l := ⟨_, rfl⟩
  rw [← ed] at D0 ⊢
  have DD := Lib.hid D0
  clear hs hl hT hlt hz hz2 D0 ed
  go_enter Tryd.func15, Tryd.ntmps15
  go_wp2_with (go_at_call 28; refine (readerAt_any p 0 s _).mono ?_; rintro e w1 ⟨rfl, hb1, hc1⟩; have HB1 := Lib.hid hb1; have HC1 := Lib.hid hc1; clear hb1 hc1)
  have HN0 : RowKit.Hid (w1.ownsRow w.heap.size 5 1 (.slice none 0 0) ([] : List Nat).length (([] : List Nat).map natb)) := Lib.hid (World.ownsRow_nil _ _ _ _)
  go_loopw [4, 8, 9] (fun v _ _ wr => ∃ (k : Nat) (acc : List Nat), k ≤ l.length ∧ acc.length ≤ k ∧ (∀ x ∈ acc, x < 256) ∧ d = cc acc k (D p (l.drop k)) ∧ Cur wr w.heap.size s k p ∧ wr.ownsRow w.heap.size 5 1 v acc.length (acc.map natb) ∧ Below w.heap.size w wr)
    (fun _ _ _ wr => match wr.cell? ⟨w.heap.size, 1, none⟩ with | some (.int _ i) => l.length - i.toNat | _ => 0)
  case atStart => exact ⟨0, [], by omega, by simp, by simp, DD.out, HC1.out, HN0.out, HB1.out⟩
  case round =>
    obtain ⟨k, acc, hk, hak, hacc, hd, hC, hown, hb⟩ := hrel
    have HA := Lib.hid hacc
    have HD := Lib.hid hd
    have HC := Lib.hid hC
    have HO := Lib.hid hown
    have HB := Lib.hid hb
    have SZ := hb.size
    have HAK := Lib.hid hak
    have C1 := Lib.hid (cur3 hC).2.1
    clear hacc hd hC hown hb hak
    obtain ⟨wa, rfl⟩ : ∃ u, u = wr := ⟨_, rfl⟩
    by_cases hlt : k < l.length
    · have hd1 : ¬ l.length ≤ k := by omega
      have NE := Lib.hid (drop_ne hlt)
      have R0 := RA.out w.heap.size k (by have := HLEN.out; omega)
      rw [rst_nat] at R0
      generalize hr : l.drop k = r at R0 NE
      have HR := Lib.hid hr
      have HRL : RowKit.Hid (∀ x ∈ r, x < 256) := Lib.hid (fun x hx => HL.out x (by rw [← hr] at hx; exact List.mem_of_mem_drop hx))
      clear hr
      cases hrd : rd p r with
      | none =>
        have e1 : RdE p r = .returned (.tuple #[.int .u8 0, .bool false]) := by unfold RdE; rw [hrd]
        have e2 : RdN p r = 0 := by unfold RdN; rw [hrd]
        rw [e1, e2] at R0
        have RH := Lib.hid R0
        have F : RowKit.Hid (d = (none, k)) := Lib.hid (by rw [HD.out, HR.out, D_none NE.out hrd]; rfl)
        clear R0 e1 e2 hrd hlt
        go_wp2_with (go_at_call 29; refine (EN.out _ _ _ HC.out).mono ?_; rintro e w2 ⟨rfl, n2, rfl⟩)
        go_wp2_with (go_at_call 30; refine (RH.out (wa.drewN n2) (Blk.drewN HC.out) (TH.out.below HB.out).drewN).mono ?_; rintro e w3 ⟨rfl, hb3, hc3⟩; have HB3 := Lib.hid hb3; obtain ⟨d0, d1, d2⟩ := cur3 hc3; clear hb3 hc3)
        go_quiet (fail)
        go_wp2_with fail
        go_ret3
        rw [F.out]
        exact ⟨_, by simp [dK, dE], World.ownsRow_nil _ _ _ _, bdrew (grown_below (bdrew HB.out) HB3.out SZ (Nat.le_refl _))⟩
      | some xn =>
        obtain ⟨x, n⟩ := xn
        obtain ⟨_, q1, q2, q3, _, _⟩ := rd_ok HRL.out hrd
        have e1 : RdE p r = .returned (.tuple #[.int .u8 x, .bool true]) := by unfold RdE; rw [hrd]
        have e2 : RdN p r = n := by unfold RdN; rw [hrd]
        rw [e1, e2] at R0
        have RH := Lib.hid R0
        have hrl : r.length = l.length - k := by rw [← HR.out, List.length_drop]
        have F : RowKit.Hid (d = cc (acc ++ [x]) (k + n) (D p (l.drop (k + n)))) := Lib.hid (by rw [HD.out, HR.out, D_some HRL.out hrd, cc_cb, ← HR.out, List.drop_drop])
        have Q : RowKit.Hid (1 ≤ n ∧ k + n ≤ l.length ∧ x < 256) := Lib.hid ⟨q1, by omega, q3⟩
        clear R0 e1 e2 hrd hrl q1 q2 q3
        go_wp2_with (go_at_call 29; refine (EN.out _ _ _ HC.out).mono ?_; rintro e w2 ⟨rfl, n2, rfl⟩)
        have L3 : RowKit.Hid (acc.length + [x].length ≤ 65536) := Lib.hid (by have := HLEN.out; have := HAK.out; simp; omega)
        go_wp2_with (first
          | (go_at_call 30; refine (RH.out (wa.drewN n2) (Blk.drewN HC.out) (TH.out.below HB.out).drewN).mono ?_; rintro e w3 ⟨rfl, hb3, hc3⟩; have HB3 := Lib.hid hb3; have HC3 := Lib.hid hc3; clear hb3 hc3; have G3 : RowKit.Hid (wa.grownBy w3 (some w.heap.size)) := Lib.hid ⟨HB3.out.os, HB3.out.tape, HB3.out.output, HB3.out.size, HB3.out.block⟩; have B3 := Lib.hid (grown_below HB.out G3.out SZ (Nat.le_refl _)); have O3 := Lib.hid (HO.out.kept G3.out (.inr (Lib.ownBlock_ne HO.out HC.out (by decide)))); have O3n := Lib.hid (O3.out.alloc (.cells #[.int .u8 (x : Int)] 5)); have T3 := Lib.hid (txt_one w3 x Q.out.2.2); have S3 := B3.out.size)
          | (at_builtin; refine wpList_append_txt _ rfl (.tmp 30) (.tmp 32) rfl w.heap.size _ acc rfl O3n.out (some ⟨w3.heap.size, 0, none⟩) [x] 1 rfl T3.out (fun h => by cases h) L3.out (by simp; omega) ?_; intro v1 w4 hown4 hg4; have HO4 := Lib.hid hown4; have HG4 := Lib.hid hg4; clear hown4 hg4))
        go_wp2_with fail
        have C4 : RowKit.Hid (Cur w4 w.heap.size s (k + n : Nat) p) := Lib.hid (by
          have h1 := (HG4.out.block w.heap.size (by have := HC3.out.lt; simp; omega) (fun e => (Lib.ownBlock_ne O3.out HC3.out (by decide)) e.symm)).trans ((Below.heap_alloc w3 _ _ HC3.out.lt).trans HC3.out)
          exact h1)
        have B4 := Lib.hid ((B3.out.alloc S3 (.cells #[.int .u8 (x : Int)] 5)).grown HG4.out (by simp; omega) (fun j hj => (O3.out.lt j hj).1))
        go_roundw
        case rel =>
          obtain ⟨q1, q2, q3⟩ := Q.out
          exact ⟨k + n, acc ++ [x], q2, by have := HAK.out; simp; omega, fun y hy => (List.mem_append.1 hy).elim (HA.out y) (fun h => by simp at h; omega), F.out, C4.out, HO4.out, B4.out⟩
        case measure =>
          obtain ⟨q1, q2, q3⟩ := Q.out
          rw [(cur3 C4.out).2.1, C1.out]
          simp
          omega
    · obtain rfl : k = l.length := by omega
      have hd1 : l.length ≤ l.length := by omega
      have F : RowKit.Hid (d = (some acc, 0)) := Lib.hid (by rw [HD.out, D_end])
      go_wp2_with (go_at_call 29; refine (EN.out _ _ _ HC.out).mono ?_; rintro e w2 ⟨rfl, n2, rfl⟩)
      go_wp2_with fail
      go_ret3
      rw [F.out]
      exact ⟨_, rfl, HO.out, bdrew HB.out⟩
end Go.Proofs.YtppnacmgdodjoaaDoor

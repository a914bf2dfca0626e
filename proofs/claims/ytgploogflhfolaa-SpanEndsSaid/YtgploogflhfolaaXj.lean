/- The contract of Join. -/
import Derived.Test.YtgploogflhfolaaWh
import Derived.Test.YtgploogflhfolaaRl
namespace Go.Proofs.Ytgploogflhfolaa
open Go Go.RowKit Go.Shelf
attribute [local go_sem] Oper.semAt_some
/-- From the first place to the last one, span by span. -/
def joinS (st : Bool × (Int × Int)) (x : Int × Int) : Bool × (Int × Int) :=
  if rt x.1 x.2 then (true, (min (if st.1 then st.2 else x).1 x.1, max (if st.1 then st.2 else x).2 x.2)) else st
def joinTo (l : List (Int × Int)) : Bool × (Int × Int) := l.foldl joinS (false, (0, 0))
theorem joinTo_snoc (l : List (Int × Int)) (x : Int × Int) : joinTo (l ++ [x]) = joinS (joinTo l) x := by simp [joinTo]
theorem joinTo_take {l : List (Int × Int)} {k : Nat} {x : Int × Int} (h : k < l.length) (hx : x = l.getD k (0, 0)) : joinTo (l.take (k + 1)) = joinS (joinTo (l.take k)) x := by
  rw [take_succ_getD h, joinTo_snoc, hx]
theorem Blk.set0 {w : World} {b : Nat} {x y u : Value} {T : TypeId} (h : Blk w b #[x, y] T) : Blk (w.setCell ⟨b, 0, none⟩ u) b #[u, y] T := by
  obtain ⟨hlt, hk⟩ := Array.getElem?_eq_some_iff.1 h
  show (w.heap.modify b _)[b]? = _
  rw [Array.getElem?_eq_getElem (by rw [Array.size_modify]; exact hlt), Array.getElem_modify_self, hk]
  rfl
theorem Blk.set1 {w : World} {b : Nat} {x y u : Value} {T : TypeId} (h : Blk w b #[x, y] T) : Blk (w.setCell ⟨b, 1, none⟩ u) b #[x, u] T := by
  obtain ⟨hlt, hk⟩ := Array.getElem?_eq_some_iff.1 h
  show (w.heap.modify b _)[b]? = _
  rw [Array.getElem?_eq_getElem (by rw [Array.size_modify]; exact hlt), Array.getElem_modify_self, hk]
  rfl
theorem Blk.put2 {w : World} {b : Nat} {x y u v : Value} {T : TypeId} (h : Blk w b #[x, y] T) : Blk ((w.setCell ⟨b, 0, none⟩ u).setCell ⟨b, 1, none⟩ v) b #[u, v] T := h.set0.set1
theorem bput2 {B : Nat} {a w : World} {b : Nat} {u v : Value} (h : Below B a w) (hb : B ≤ b) : Below B a ((w.setCell ⟨b, 0, none⟩ u).setCell ⟨b, 1, none⟩ v) := (h.setCell (p := ⟨b, 0, none⟩) hb u).setCell (p := ⟨b, 1, none⟩) hb v
theorem Blk.else2 {w : World} {b c : Nat} {vs : Array Value} {T : TypeId} {u v : Value} (h : Blk w b vs T) (hne : b ≠ c) : Blk ((w.setCell ⟨c, 0, none⟩ u).setCell ⟨c, 1, none⟩ v) b vs T := by
  have h1 := (grownBy_setCell' w c u).block b h.lt (fun e => hne (by cases e; rfl))
  have h2 : ((w.setCell ⟨c, 0, none⟩ u).setCell ⟨c, 1, none⟩ v).heap[b]? = (w.setCell ⟨c, 0, none⟩ u).heap[b]? := Below.heap_setCell _ _ _ b (fun e => hne e)
  exact h2.trans (h1.trans h)

set_option maxRecDepth 100000 in
set_option maxHeartbeats 2000000 in
theorem join_any (A : Option Addr) (l : List (Int × Int)) (c : Nat) (hl : l.length ≤ 65536) (w : World) (h : Spn w A l) :
    Calls Try.prog 28 #[.slice A l.length c] w fun e w' => e = .returned (.agg #[.int .i64 (joinTo l).2.1, .int .i64 (joinTo l).2.2]) ∧ Below w.heap.size w w' := by
  refine (callsIn_wide (n := 3)).1 ?_
  have HT := Lib.hid h
  clear h
  obtain ⟨J, eJ⟩ : ∃ J, J = joinTo l := ⟨_, rfl⟩
  rw [← eJ]
  have EJ := Lib.hid eJ
  have R0 := Lib.hid (fun x y w => right_any x y w)
  clear eJ
  refine callsIn_of_wp Try.func28 rfl trivial ?_ rfl
  simp only [Try.ntmps28, List.size_toArray, List.length_cons, List.length_nil, Nat.reduceAdd, Nat.reduceSub, Array.replicate_succ, Array.replicate_zero, List.push_toArray, List.append_toArray, List.nil_append, List.cons_append]
  gi_wp2_with fail
  have B20 := (Blk.new w #[.int .i64 0, .int .i64 0] 23).alloc (.cells #[.int .i64 0, .int .i64 0] 23)
  have B30 := Blk.new2 w (.cells #[.int .i64 0, .int .i64 0] 23) #[.int .i64 0, .int .i64 0] 23
  gi_loopw [4, 9] (fun s i wr => ∃ k : Nat, k ≤ l.length ∧ i = .int .i64 k ∧ s = .bool (joinTo (l.take k)).1 ∧ Blk wr w.heap.size #[.int .i64 0, .int .i64 0] 23 ∧ Blk wr (w.heap.size + 1) #[.int .i64 (joinTo (l.take k)).2.1, .int .i64 (joinTo (l.take k)).2.2] 23 ∧ Below w.heap.size w wr) (fun _ i _ => l.length - (intOf i).toNat)
  case atStart => exact ⟨0, by omega, rfl, rfl, B20, B30, B2 _ _ _⟩
  case round =>
    obtain ⟨k, hk, rfl, rfl, hB2, hB3, hb⟩ := hrel
    by_cases hlt : k < l.length
    · obtain ⟨tb, to, rfl, htl, htc⟩ := (HT.out.below hb) (by omega)
      obtain ⟨hc0, hc1⟩ := htc k hlt
      obtain ⟨x, ex⟩ : ∃ x, x = l.getD k (0, 0) := ⟨_, rfl⟩
      have hst := joinTo_take hlt ex
      rw [← ex] at hc0 hc1
      obtain ⟨x1, x2⟩ := x
      dsimp only at hc0 hc1
      obtain ⟨s, es⟩ : ∃ s, s = joinTo (l.take k) := ⟨_, rfl⟩
      rw [← es] at hB3 hst ⊢
      obtain ⟨sb, s1, s2⟩ := s
      dsimp only at hB3 hst ⊢
      have HST := Lib.hid hst
      have hlt2 : (k : Int) < l.length := by omega
      have HB2 := Lib.hid hB2
      have HB3 := Lib.hid hB3
      have HB := Lib.hid hb
      have hl3 := hB3.lt
      have R := fun w => R0.out x1 x2 w
      clear hst es ex htc hB2 hB3 hb
      cases hr : rt x1 x2 with
      | false =>
        rw [hr] at R
        have R := Lib.hid R
        have HR := Lib.hid hr
        clear hr
        gi_wp2_with fail
        refine ⟨trivial, (callsIn_wide.2 (R.out _)).mono ?_⟩
        rintro e w1 ⟨rfl, hb1⟩
        have hbw : Below wr.heap.size wr w1 := (B1 wr _).trans (hb1.mono (by simp))
        have HB21 := Lib.hid (HB2.out.below hbw HB2.out.lt)
        have HB31 := Lib.hid (HB3.out.below hbw HB3.out.lt)
        have HB1 := Lib.hid (bt HB.out hbw HB.out.size)
        clear hb1 hbw
        gi_wp2_with fail
        go_roundw
        case rel => exact ⟨k + 1, by omega, by go_num, by rw [HST.out]; simp [joinS, HR.out], HB21.out, by rw [HST.out]; simpa [joinS, HR.out] using HB31.out, HB1.out⟩
        case measure => simp [intOf]; omega
      | true =>
        rw [hr] at R
        have R := Lib.hid R
        have HR := Lib.hid hr
        clear hr
        gi_wp2_with fail
        refine ⟨trivial, (callsIn_wide.2 (R.out _)).mono ?_⟩
        rintro e w1 ⟨rfl, hb1⟩
        have hbw : Below wr.heap.size wr w1 := (B1 wr _).trans (hb1.mono (by simp))
        have hB21 := HB2.out.below hbw HB2.out.lt
        have hB31 := HB3.out.below hbw HB3.out.lt
        have hx6 := (Blk.new wr #[.int .i64 x1, .int .i64 x2] 23).below hb1 (by simp)
        have HB1 := Lib.hid (bt HB.out hbw HB.out.size)
        obtain ⟨d0, d1⟩ := hB31.two
        obtain ⟨e0, e1⟩ := hx6.two
        have f3 := fun o => hB31.frozen o
        have hl31 := hB31.lt
        have hl6 := hx6.lt
        have hne6 : w.heap.size + 1 ≠ wr.heap.size := by omega
        have hne62 : wr.heap.size ≠ w.heap.size + 1 := by omega
        have HB21 := Lib.hid hB21
        have HB31 := Lib.hid hB31
        clear hb1 hbw hB21 hB31 hx6
        cases sb with
        | false =>
          gi_wp2_with fail
          go_roundw
          case rel => exact ⟨k + 1, by omega, by go_num, by rw [HST.out]; simp [joinS, HR.out], (HB21.out.else2 (by omega)).else2 (by omega), by rw [HST.out]; simpa [joinS, HR.out] using HB31.out.put2.put2, bput2 (bput2 HB1.out (by omega)) (by omega)⟩
          case measure => simp [intOf]; omega
        | true =>
          gi_wp2_with fail
          go_roundw
          case rel => exact ⟨k + 1, by omega, by go_num, by rw [HST.out]; simp [joinS, HR.out], HB21.out.else2 (by omega), by rw [HST.out]; simpa [joinS, HR.out] using HB31.out.put2, bput2 HB1.out (by omega)⟩
          case measure => simp [intOf]; omega
    · obtain rfl : k = l.length := by omega
      rw [List.take_length, ← EJ.out] at hB3
      rw [List.take_length, ← EJ.out]
      obtain ⟨jb, j1, j2⟩ := J
      dsimp only at hB3 ⊢
      obtain ⟨d0, d1⟩ := hB3.two
      have f2 := fun o => hB2.frozen o
      have hl2 := hB2.lt
      have HB2 := Lib.hid hB2
      have HB := Lib.hid hb
      obtain ⟨c0, c1⟩ := hB2.two
      clear hB2 hB3 hb
      gi_wp2_with fail
      (try simp only [Exit.inBlock, Exit.then])
      refine bodyPost_ret (v := .agg #[.int .i64 j1, .int .i64 j2]) ?_ rfl ⟨rfl, bput2 HB.out (Nat.le_refl _)⟩
      have hp := HB2.out.put2 (u := .int .i64 j1) (v := .int .i64 j2)
      exact results_cell_row (P := Try.prog) rfl _ _ w.heap.size 23 #[.int .i64 j1, .int .i64 j2] (0, 0) _ rfl hp Try.underlying23 rfl (by kernel_rfl)
end Go.Proofs.Ytgploogflhfolaa

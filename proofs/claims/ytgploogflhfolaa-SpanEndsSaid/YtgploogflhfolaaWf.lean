/- The contract of inOrder. -/
import Derived.Test.YtgploogflhfolaaSb
namespace Go.Proofs.Ytgploogflhfolaa
open Go Go.Proofs Go.RowKit
/-- Spans in memory. -/
def Spn (w : World) (A : Option Addr) (l : List (Int × Int)) : Prop :=
  0 < l.length → ∃ b o, A = some ⟨b, o, none⟩ ∧ b < w.heap.size ∧ ∀ i, i < l.length → w.cell? ⟨b, o + i * 2, none⟩ = some (.int .i64 (l.getD i (0, 0)).1) ∧ w.cell? ⟨b, o + i * 2 + 1, none⟩ = some (.int .i64 (l.getD i (0, 0)).2)
theorem Spn.below {w w' : World} {A : Option Addr} {l : List (Int × Int)} (h : Spn w A l) (hb : Below w.heap.size w w') : Spn w' A l := by
  intro h0
  obtain ⟨b, o, e, hl, hc⟩ := h h0
  exact ⟨b, o, e, Nat.lt_of_lt_of_le hl hb.size, fun i hi => ⟨(hb.cell (p := ⟨b, _, none⟩) hl).trans (hc i hi).1, (hb.cell (p := ⟨b, _, none⟩) hl).trans (hc i hi).2⟩⟩
/-- Numbers of the program's. -/
def Inr (x : Int × Int) : Prop := -9223372036854775808 ≤ x.1 ∧ x.1 < 9223372036854775808 ∧ -9223372036854775808 ≤ x.2 ∧ x.2 < 9223372036854775808
def Inrs (l : List (Int × Int)) : Prop := ∀ x ∈ l, Inr x
theorem Inrs.getD {l : List (Int × Int)} (h : Inrs l) (i : Nat) (hi : i < l.length) : Inr (l.getD i (0, 0)) := by
  simp only [List.getD, List.getElem?_eq_getElem hi]
  exact h _ (List.getElem_mem hi)
/-- Those that have places. -/
theorem own_below {w w' : World} {base e size n : Nat} {v : Value} {xs : List Value} (h : w.ownsRow base e size v n xs) (hb : Below w.heap.size w w') : w'.ownsRow base e size v n xs := by
  obtain ⟨h1, h2⟩ := h
  refine ⟨h1, ?_⟩
  rcases h2 with h2 | ⟨g, cap, cur, a, b, c, d⟩
  · exact .inl h2
  · exact .inr ⟨g, cap, cur, a, b, (hb.block g (Array.getElem?_eq_some_iff.1 c).1).trans c, d⟩
def parts (l : List (Int × Int)) : List (Int × Int) := l.filter fun x => decide (0 < ln x.1 x.2)
theorem parts_length (l : List (Int × Int)) : (parts l).length ≤ l.length := List.length_filter_le _ _
theorem take_succ_getD {l : List (Int × Int)} {k : Nat} (h : k < l.length) : l.take (k + 1) = l.take k ++ [l.getD k (0, 0)] := by
  rw [List.take_add_one]; simp [List.getD, List.getElem?_eq_getElem h]
theorem parts_step {l : List (Int × Int)} {k : Nat} {x : Int × Int} (h : k < l.length) (hx : x = l.getD k (0, 0)) (hp : 0 < ln x.1 x.2) : parts (l.take (k + 1)) = parts (l.take k) ++ [x] := by
  rw [take_succ_getD h, ← hx]; simp only [parts, List.filter_append]; simp [hp]
theorem parts_miss {l : List (Int × Int)} {k : Nat} {x : Int × Int} (h : k < l.length) (hx : x = l.getD k (0, 0)) (hp : ¬ 0 < ln x.1 x.2) : parts (l.take (k + 1)) = parts (l.take k) := by
  rw [take_succ_getD h, ← hx]; simp only [parts, List.filter_append]; simp [hp]
theorem Try.info51 : (Try.prog.info? 51).map (fun i => (i.zero, i.size, i.bytes)) = some (some (.agg #[.int .i64 0, .int .i64 0]), 2, 16) := by kernel_rfl
theorem Try.info23 : (Try.prog.info? 23).map (fun i => (i.zero, i.size, i.bytes)) = some (some (.agg #[.int .i64 0, .int .i64 0]), 2, 16) := by kernel_rfl
theorem cell_two_new (w : World) (x y : Value) (t : TypeId) : ∀ j u, [x, y][j]? = some u → (w.alloc (.cells #[x, y] t)).cell? ((⟨w.heap.size, 0, none⟩ : Addr).add j) = some u := by
  intro j u hj
  match j, hj with
  | 0, hj => simp at hj; subst hj; simp [Addr.add]
  | 1, hj => simp at hj; subst hj; simp [Addr.add]
  | (j + 2), hj => simp at hj
theorem scells_one (x : Int × Int) : scells [x] = [.int .i64 x.1, .int .i64 x.2] := rfl

/-- What the sort does of none. -/
def SortNone : Prop := ∀ w : World, Calls Try.prog 43 #[.slice none 0 0, .func (.func 34) #[] #[]] w fun e w' => e = .returned (.tuple #[]) ∧ w' = w

set_option maxHeartbeats 1000000 in
theorem inOrder_any (hN : SortNone) (A : Option Addr) (l : List (Int × Int)) (c : Nat) (hl : l.length ≤ 65536) (hr : Inrs l) (w : World) (h : Spn w A l) :
    Calls Try.prog 37 #[.slice A l.length c] w fun e w' => ∃ v, e = .returned v ∧ w'.ownsRow w.heap.size 51 2 v (srt (parts l)).length (scells (srt (parts l))) ∧ Below w.heap.size w w' := by
  obtain ⟨i0, hi, hz0, hz1, hz2⟩ := info_parts Try.info51
  have HT := Lib.hid h
  have HR := Lib.hid hr
  clear h hr
  go_enter Try.func37, Try.ntmps37
  go_wp2
  go_loopw [3, 8] (fun v i wr => ∃ k : Nat, k ≤ l.length ∧ i = .int .i64 k ∧ wr.ownsRow w.heap.size 51 2 v (parts (l.take k)).length (scells (parts (l.take k))) ∧ Below w.heap.size w wr) (fun _ i _ => l.length - (intOf i).toNat)
  case atStart => exact ⟨0, by omega, rfl, World.ownsRow_nil _ _ _ _, Below.refl _ _⟩
  case round =>
    obtain ⟨k, hk, rfl, hown, hb⟩ := hrel
    have hpl := parts_length (l.take k)
    rw [List.length_take, Nat.min_eq_left hk] at hpl
    by_cases hlt : k < l.length
    · obtain ⟨tb, to, rfl, htl, htc⟩ := (HT.out.below hb) (by omega)
      obtain ⟨hc0, hc1⟩ := htc k hlt
      have hx := HR.out.getD k hlt
      obtain ⟨x, ex⟩ : ∃ x, x = l.getD k (0, 0) := ⟨_, rfl⟩
      rw [← ex] at hc0 hc1 hx
      have HS := Lib.hid (fun hp => parts_step (x := x) hlt ex hp)
      have HM := Lib.hid (fun hp => parts_miss (x := x) hlt ex hp)
      clear htc ex
      obtain ⟨x1, x2⟩ := x
      obtain ⟨r1, r2, r3, r4⟩ := hx
      dsimp only at hc0 hc1 r1 r2 r3 r4
      have hlt2 : (k : Int) < l.length := by omega
      have L := fun w => len_any x1 x2 (by omega) w
      obtain ⟨n, en⟩ : ∃ n, n = ln x1 x2 := ⟨_, rfl⟩
      rw [← en] at L
      have L := Lib.hid L
      have hB : Below wr.heap.size wr (wr.alloc (.cells #[.int .i64 x1, .int .i64 x2] 23)) := B1 _ _
      have HB := Lib.hid hb
      by_cases hn : 0 < n
      · go_wp2_with fail
        refine (L.out _).mono ?_
        rintro e w1 ⟨rfl, hb1⟩
        have hw1 : Below wr.heap.size wr w1 := hB.trans (hb1.mono (by simp))
        have hc2 := ((Blk.new wr #[.int .i64 x1, .int .i64 x2] 23).below hb1 (by simp)).two
        obtain ⟨hc2, hc3⟩ := hc2
        have hown1 := own_below hown hw1
        have hb2 := bt HB.out hw1 HB.out.size
        have hz := hb2.size
        have hp := en ▸ hn
        have HE := Lib.hid (HS.out hp)
        clear hb1 hw1 hB hown hb hc0 hc1 en hp HS HM L
        go_wp2_with (at_builtin; refine wpList_append_own _ rfl _ _ 57 rfl w.heap.size 51 i0 (.agg #[.int .i64 0, .int .i64 0]) 2 16 Try.underlying57 hi hz0 hz1 hz2 rfl (by decide) _ _ _ rfl (hown1.alloc _) ⟨w1.heap.size, 0, none⟩ 1 1 [.int .i64 x1, .int .i64 x2] rfl rfl (cell_two_new _ _ _ _) (by simp [Value.oneCell']) (by unfold maxLen; omega) (by omega) (by simp; omega) ?_; intro v' w2 hown' hgrow _)
        go_roundw
        case rel => exact ⟨k + 1, by omega, by go_num, by rw [HE.out, List.length_append, scells_app]; simpa [scells_one] using hown', (hb2.alloc hb2.size _).grown hgrow (by simp; omega) (fun g hg => (hown1.lt g hg).1)⟩
        case measure => simp [intOf]; omega
      · go_wp2_with fail
        refine (L.out _).mono ?_
        rintro e w1 ⟨rfl, hb1⟩
        have hw1 : Below wr.heap.size wr w1 := hB.trans (hb1.mono (by simp))
        have hown1 := own_below hown hw1
        have hb2 := bt HB.out hw1 HB.out.size
        have hp := en ▸ hn
        have HE := Lib.hid (HM.out hp)
        clear hb1 hw1 hB hown hb hc0 hc1 en hp HS HM L
        go_wp2_with fail
        go_roundw
        case rel => exact ⟨k + 1, by omega, by go_num, by rw [HE.out]; exact hown1, hb2⟩
        case measure => simp [intOf]; omega
    · obtain rfl : k = l.length := by omega
      rw [List.take_length] at hown hpl
      obtain ⟨xs, ex⟩ : ∃ xs, xs = parts l := ⟨_, rfl⟩
      rw [← ex] at hown hpl
      have EX := Lib.hid ex
      clear ex
      rcases hown.2 with ⟨rfl, hn⟩ | ⟨g, cap, cur, rfl, hg, _⟩
      · obtain rfl : xs = [] := List.eq_nil_of_length_eq_zero hn
        go_wp2_with fail
        refine (hN _).mono ?_
        rintro e w1 ⟨rfl, rfl⟩
        go_wp2_with fail
        go_ret
        refine ⟨.slice none 0 0, rfl, ?_, hb⟩
        rw [← EX.out, show srt [] = [] by simp [srt]]
        exact World.ownsRow_nil _ _ _ _
      · have S := Lib.hid (sort_any w.heap.size g cap xs wr (by omega) hown)
        have hlen := srt_length xs
        have HB := Lib.hid hb
        clear hown hb
        go_wp2_with fail
        refine S.out.mono ?_
        rintro e w1 ⟨rfl, hown1, hb1⟩
        have HO := Lib.hid hown1
        clear hown1
        go_wp2_with fail
        go_ret
        exact ⟨_, rfl, by rw [← EX.out, hlen]; exact HO.out, HB.out.trans hb1⟩
end Go.Proofs.Ytgploogflhfolaa

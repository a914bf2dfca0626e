/- Way, Goes: the program's answers. -/
import Derived.Test.YtlbjmkljmhfjdaaGreatD1
import Derived.Maps.AppendAt
import Derived.Laws.OwnMore
import Derived.ArgAppend
import Derived.Deep.CutRange
import Derived.Test.YtlbjmkljmhfjdaaGreatC2
import Derived.Test.YtlbjmkljmhfjdaaGreatC1
import Derived.OwnWalkIn
import Derived.LoopIn
import Derived.Shelf.Sort.Plain
import Derived.Ground.SlsfProg
import Derived.Shelf.SlSortCmp.Whole1
import Derived.Shelf.SlSortCmp.NoneTotal
set_option linter.unusedSimpArgs false
set_option linter.unusedVariables false
namespace Go.Proofs.YtlbjmkljmhfjdaaGreat
open Go Go.RowKit Go.Maps Go.Shelf
end Go.Proofs.YtlbjmkljmhfjdaaGreat
namespace Go.Proofs.YtlbjmkljmhfjdaaGreat
open Go Go.RowKit
def RowKit.intOf : Value → Int
  | .int _ n => n
  | _ => 0
theorem take_oneN {a : List Nat} {k : Nat} (h : k < a.length) : a.take (k + 1) = a.take k ++ [a.getD k 0] := by
  rw [List.take_add_one]
  simp [List.getD, List.getElem?_eq_getElem h]
end Go.Proofs.YtlbjmkljmhfjdaaGreat
namespace Go.Proofs.YtlbjmkljmhfjdaaGreat
open Go Go.RowKit Go.Maps
/-- Rows of numbers in memory. -/
structure Gph (w : World) (A : Option Addr) (vs : List Value) (L : List (List Int)) : Prop where
  len : vs.length = L.length
  out : Lies w A vs
  row : ∀ i, i < L.length → ∃ B c, vs.getD i undef = .slice B (L.getD i []).length c ∧ Lies w B (ints (L.getD i []))
  most : L.length ≤ 140737488351232
  mosts : ∀ i, i < L.length → (L.getD i []).length ≤ 140737488351232
theorem Gph.below {w w' : World} {A : Option Addr} {vs : List Value} {L : List (List Int)} (h : Gph w A vs L) (hb : Below w.heap.size w w') : Gph w' A vs L :=
  ⟨h.len, h.out.below hb, fun i hi => by obtain ⟨B, c, e, hl⟩ := h.row i hi; exact ⟨B, c, e, hl.below hb⟩, h.most, h.mosts⟩
/-- A row's place, and it. -/
theorem Gph.at_ {w : World} {A : Option Addr} {vs : List Value} {L : List (List Int)} (h : Gph w A vs L) {i : Nat} (hi : i < L.length) :
    ∃ b o B c, A = some ⟨b, o, none⟩ ∧ b < w.heap.size ∧ w.cell? ⟨b, o + i, none⟩ = some (.slice B (L.getD i []).length c) ∧ Lies w B (ints (L.getD i [])) := by
  have hv : i < vs.length := by rw [h.len]; exact hi
  obtain ⟨b, o, e, hb, hc⟩ := h.out (by omega)
  obtain ⟨B, c, e2, hl⟩ := h.row i hi
  refine ⟨b, o, B, c, e, hb, ?_, hl⟩
  rw [hc i hv, ← e2]
  simp [List.getD, List.getElem?_eq_getElem hv]
theorem Gph.lies {w : World} {A : Option Addr} {vs : List Value} {L : List (List Int)} (h : Gph w A vs L) {i : Nat} (hi : i < L.length) {B : Option Addr} {n c : Nat} (e : vs.getD i undef = .slice B n c) : n = (L.getD i []).length ∧ Lies w B (ints (L.getD i [])) := by
  obtain ⟨B', c', e2, hl⟩ := h.row i hi
  rw [e] at e2
  simp only [Value.slice.injEq] at e2
  obtain ⟨rfl, h2, _⟩ := e2
  exact ⟨h2, hl⟩
theorem Gph.cell {w : World} {A : Option Addr} {vs : List Value} {L : List (List Int)} (h : Gph w A vs L) {i : Nat} (hi : i < L.length) : ∃ b o, A = some ⟨b, o, none⟩ ∧ b < w.heap.size ∧ w.cell? ⟨b, o + i, none⟩ = some (vs.getD i undef) := by
  have hv : i < vs.length := by rw [h.len]; exact hi
  obtain ⟨b, o, e, hb, hc⟩ := h.out (by omega)
  refine ⟨b, o, e, hb, ?_⟩
  rw [hc i hv]
  simp [List.getD, List.getElem?_eq_getElem hv]
def lacksB (n : Nat) (a : Int) : Bool := decide (a < 0 ∨ (n : Int) ≤ a)
theorem lacks_any (A : Option Addr) (n c : Nat) (a : Int) (hn : n ≤ 140737488351232) (w : World) : Calls Tryz.prog 119 #[.slice A n c, .int .i64 a] w fun e w' => e = .returned (.bool (lacksB n a)) ∧ w' = w := by
  go_enter Tryz.func119, Tryz.ntmps119
  go_wp2_with fail
  all_goals go_ret
  all_goals exact ⟨ret_bool (by unfold lacksB; rw [Bool.eq_iff_iff]; simp; try omega), rfl⟩
/-- A row does not rise, or has what is no number. -/
def wrongR (n : Nat) : Int → List Int → Bool
  | _, [] => false
  | last, b :: l => decide (b ≤ last) || lacksB n b || wrongR n b l
theorem drop_getD {α : Type} {l : List α} {j : Nat} {d : α} (h : j < l.length) : l.drop j = l.getD j d :: l.drop (j + 1) := by
  rw [List.drop_eq_getElem_cons h]; simp [List.getD, List.getElem?_eq_getElem h]
set_option maxRecDepth 100000 in
set_option maxHeartbeats 2000000 in
theorem wrong_any (A B : Option Addr) (n c d : Nat) (l : List Int) (hn : n ≤ 140737488351232) (hl : l.length ≤ 140737488351232) (w : World) (hB : Lies w B (ints l)) :
    Calls Tryz.prog 186 #[.slice A n c, .slice B l.length d] w fun e w' => e = .returned (.bool (wrongR n (-1) l)) ∧ w' = w := by
  obtain ⟨m, em⟩ : ∃ m, m = l.length := ⟨_, rfl⟩
  have EM := Lib.hid em
  have LC := Lib.hid (fun a w' => lacks_any A n c a hn w')
  have CL := Lib.hid (fun k (hk : k < m) => lies_cell hB (k := k) (by rw [← em]; exact hk))
  have DR := Lib.hid (fun k (hk : k < m) => drop_getD (l := l) (j := k) (d := 0) (by rw [← em]; exact hk))
  have DE := Lib.hid (show l.drop m = [] from by rw [em]; exact List.drop_length)
  obtain ⟨R, eR⟩ : ∃ R, R = wrongR n (-1) l := ⟨_, rfl⟩
  have ER := Lib.hid eR
  rw [← em, ← eR]
  rw [← em] at hl
  clear hB em hn eR
  go_enter Tryz.func186, Tryz.ntmps186
  go_wp2_with fail
  go_loopw [10, 5, 7] (fun i last _ wr => ∃ (k : Nat) (x : Int), k ≤ m ∧ i = .int .i64 k ∧ last = .int .i64 x ∧ wrongR n x (l.drop k) = R ∧ wr = w) (fun i _ _ _ => m - (RowKit.intOf i).toNat)
  case atStart => exact ⟨0, -1, by omega, rfl, rfl, by rw [ER.out]; rfl, rfl⟩
  case round =>
    obtain ⟨k, x, hk, rfl, rfl, hr, rfl⟩ := hrel
    by_cases hlt : k < m
    · have hlt2 : (k : Int) < m := by omega
      obtain ⟨b1, o1, rfl, hb1, c1⟩ := CL.out k hlt
      rw [DR.out k hlt] at hr
      generalize l.getD k 0 = y at c1 hr
      have hr2 : (decide (y ≤ x) || lacksB n y || wrongR n y (l.drop (k + 1))) = R := hr
      have HR := Lib.hid hr2
      have L1 := Lib.hid (LC.out y wr)
      generalize lacksB n y = q at HR L1
      clear hr hr2
      by_cases h1 : y ≤ x
      · go_wp2_with (go_at_call 119; (with_reducible refine L1.out.mono ?_); rintro e w1 ⟨rfl, rfl⟩)
        go_ret
        exact ⟨ret_bool (by rw [← HR.out]; simp [h1]), rfl⟩
      · cases q with
        | true =>
          go_wp2_with (go_at_call 119; (with_reducible refine L1.out.mono ?_); rintro e w1 ⟨rfl, rfl⟩)
          go_ret
          exact ⟨ret_bool (by rw [← HR.out]; simp [h1]), rfl⟩
        | false =>
          go_wp2_with (go_at_call 119; (with_reducible refine L1.out.mono ?_); rintro e w1 ⟨rfl, rfl⟩)
          go_roundw
          case rel => exact ⟨k + 1, y, by omega, by go_num, by first | rfl | trivial, by rw [← HR.out, show decide (y ≤ x) = false from decide_eq_false (by omega)]; simp, by first | rfl | trivial⟩
          case measure => simp [RowKit.intOf]; omega
    · obtain rfl : k = m := by omega
      have hlt2 : ¬ (k : Int) < k := by omega
      rw [DE.out] at hr
      have HR := Lib.hid hr
      clear hr
      go_wp2_with fail
      go_ret
      exact ⟨ret_bool (by rw [← HR.out]; rfl), rfl⟩
/-- Whether rows of numbers are a right graph. -/
def rightL (L : List (List Int)) : Bool := decide (L.length ≤ 64) && !(L.any fun l => wrongR L.length (-1) l)
set_option maxRecDepth 100000 in
set_option maxHeartbeats 2000000 in
theorem indexWrong_any (A : Option Addr) (c n : Nat) (vs : List Value) (L : List (List Int)) (w : World) (hG : Gph w A vs L) (en : n = L.length) :
    Calls Tryz.prog 224 #[.slice A n c, .func (.func 186) #[.slice A n c] #[]] w fun e w' => (∃ i : Int, e = .returned (.int .i64 i) ∧ decide (0 ≤ i) = L.any fun l => wrongR n (-1) l) ∧ w' = w := by
  have EN := Lib.hid en
  have AT := Lib.hid (fun i (hi : i < n) => hG.at_ (i := i) (by rw [← en]; exact hi))
  have hn : n ≤ 140737488351232 := by rw [en]; exact hG.most
  have WR := Lib.hid (fun (B : Option Addr) d l (hl : l.length ≤ 140737488351232) (hB : Lies w B (ints l)) => wrong_any A B n c d l hn hl w hB)
  have MO := Lib.hid (fun i (hi : i < n) => hG.mosts i (by rw [← en]; exact hi))
  have AN := Lib.hid (fun i (hi : i < n) => show (L.take (i + 1)).any (fun l => wrongR n (-1) l) = ((L.take i).any (fun l => wrongR n (-1) l) || wrongR n (-1) (L.getD i [])) from by
    rw [List.take_add_one]
    rw [List.any_append]
    simp [List.getD, List.getElem?_eq_getElem (show i < L.length by omega)])
  have AI := Lib.hid (fun i (hi : i < n) (h : wrongR n (-1) (L.getD i []) = true) => show (L.any fun l => wrongR n (-1) l) = true from by
    rw [List.any_eq_true]
    have hi' : i < L.length := by omega
    exact ⟨L.getD i [], by simp [List.getD, List.getElem?_eq_getElem hi'], h⟩)
  clear hG en
  go_enter Tryz.func224, Tryz.ntmps224
  go_wp2_with fail
  go_loopw [8, 5] (fun i _ wr => ∃ (k : Nat), k ≤ n ∧ i = .int .i64 k ∧ ((L.take k).any fun l => wrongR n (-1) l) = false ∧ wr = w) (fun i _ _ => n - (RowKit.intOf i).toNat)
  case atStart => exact ⟨0, by omega, rfl, rfl, rfl⟩
  case round =>
    obtain ⟨k, hk, rfl, hr, rfl⟩ := hrel
    have HR := Lib.hid hr
    clear hr
    by_cases hlt : k < n
    · have hlt2 : (k : Int) < n := by omega
      obtain ⟨b1, o1, B1, d1, rfl, hb1, c1, hl1⟩ := AT.out k hlt
      have W1 := Lib.hid (WR.out B1 d1 _ (MO.out k hlt) hl1)
      have A1 := Lib.hid (AN.out k hlt)
      have A2 := Lib.hid (AI.out k hlt)
      obtain ⟨q, eq⟩ : ∃ q, q = wrongR n (-1) (L.getD k []) := ⟨_, rfl⟩
      rw [← eq] at W1 A1 A2
      generalize (L.getD k []).length = ll at c1 W1
      clear hl1 eq
      cases q with
      | true =>
        go_wp2_with (go_at_call 186; (with_reducible refine W1.out.mono ?_); rintro e w1 ⟨rfl, rfl⟩)
        go_ret
        refine ⟨⟨_, rfl, ?_⟩, rfl⟩
        rw [A2.out (by first | rfl | trivial)]
        simp
      | false =>
        go_wp2_with (go_at_call 186; (with_reducible refine W1.out.mono ?_); rintro e w1 ⟨rfl, rfl⟩)
        go_roundw
        case rel => exact ⟨k + 1, by omega, by go_num, by rw [A1.out, HR.out]; rfl, by first | rfl | trivial⟩
        case measure => simp [RowKit.intOf]; omega
    · obtain rfl : k = n := by omega
      have hlt2 : ¬ (k : Int) < k := by omega
      go_wp2_with fail
      go_ret
      refine ⟨⟨_, rfl, ?_⟩, rfl⟩
      have := HR.out
      have e := EN.out
      rw [List.take_of_length_le (by omega)] at this
      rw [this]
      rfl
theorem containsWrong_any (A : Option Addr) (c n : Nat) (vs : List Value) (L : List (List Int)) (w : World) (hG : Gph w A vs L) (en : n = L.length) :
    Calls Tryz.prog 185 #[.slice A n c, .func (.func 186) #[.slice A n c] #[]] w fun e w' => e = .returned (.bool (L.any fun l => wrongR n (-1) l)) ∧ w' = w := by
  have C := Lib.hid (indexWrong_any A c n vs L w hG en)
  clear hG en
  go_enter Tryz.func185, Tryz.ntmps185
  go_wp2_with (go_at_call 224; (with_reducible refine C.out.mono ?_); rintro e w1 ⟨⟨i, rfl, hi⟩, rfl⟩; have HI := Lib.hid hi; clear hi)
  go_ret
  exact ⟨ret_bool (by rw [← HI.out]), rfl⟩
set_option maxHeartbeats 1000000 in
theorem c_right_any (A : Option Addr) (c : Nat) (vs : List Value) (L : List (List Int)) (w : World) (hG : Gph w A vs L) :
    Calls Tryz.prog 123 #[.slice A L.length c] w fun e w' => e = .returned (.bool (rightL L)) ∧ w' = w := by
  obtain ⟨n, en⟩ : ∃ n, n = L.length := ⟨_, rfl⟩
  have hn : n ≤ 140737488351232 := by rw [en]; exact hG.most
  have C := Lib.hid (containsWrong_any A c n vs L w hG en)
  have ER := Lib.hid (show rightL L = (decide (n ≤ 64) && !(L.any fun l => wrongR n (-1) l)) from by rw [en]; rfl)
  obtain ⟨R, eR⟩ : ∃ R, R = rightL L := ⟨_, rfl⟩
  rw [← eR] at ER ⊢
  rw [← en]
  generalize (L.any fun l => wrongR n (-1) l) = q at C ER
  clear hG en eR
  by_cases h : n ≤ 64
  · have h2 : (n : Int) ≤ 64 := by omega
    go_enter Tryz.func123, Tryz.ntmps123
    go_wp2_with (go_at_call 185; (with_reducible refine C.out.mono ?_); rintro e w1 ⟨rfl, rfl⟩)
    go_ret
    exact ⟨ret_bool (by rw [ER.out]; simp [h]), rfl⟩
  · have h2 : ¬ (n : Int) ≤ 64 := by omega
    go_enter Tryz.func123, Tryz.ntmps123
    go_wp2_with (go_at_call 185; (with_reducible refine C.out.mono ?_); rintro e w1 ⟨rfl, rfl⟩)
    go_ret
    exact ⟨ret_bool (by rw [ER.out]; simp [h]), rfl⟩
theorem graphOf_any (A : Option Addr) (c : Nat) (vs : List Value) (L : List (List Int)) (w : World) (hG : Gph w A vs L) :
    Calls Tryz.prog 114 #[.slice A L.length c] w fun e w' => e = .returned (.tuple #[if rightL L then .slice A L.length c else .slice none 0 0, .bool (rightL L)]) ∧ w' = w := by
  have C := Lib.hid (c_right_any A c vs L w hG)
  generalize rightL L = R at C ⊢
  generalize L.length = n at C ⊢
  clear hG
  cases R with
  | true =>
    go_enter Tryz.func114, Tryz.ntmps114
    go_wp2_with (go_at_call 123; (with_reducible refine C.out.mono ?_); rintro e w1 ⟨rfl, rfl⟩)
    go_ret2
    exact ⟨rfl, rfl⟩
  | false =>
    go_enter Tryz.func114, Tryz.ntmps114
    go_wp2_with (go_at_call 123; (with_reducible refine C.out.mono ?_); rintro e w1 ⟨rfl, rfl⟩)
    go_ret2
    exact ⟨rfl, rfl⟩
theorem c_to_any (A : Option Addr) (c : Nat) (vs : List Value) (L : List (List Int)) (a : Nat) (ha : a < L.length) (w : World) (hG : Gph w A vs L) :
    Calls Tryz.prog 223 #[.slice A L.length c, .int .i64 a] w fun e w' => e = .returned (vs.getD a undef) ∧ w' = w := by
  obtain ⟨n, en⟩ : ∃ n, n = L.length := ⟨_, rfl⟩
  rw [← en] at ha ⊢
  have hn : n ≤ 140737488351232 := by rw [en]; exact hG.most
  obtain ⟨B, d, e1, _⟩ := hG.row a (by omega)
  obtain ⟨b, o, B', d', rfl, hb, c1, _⟩ := hG.at_ (i := a) (by omega)
  obtain ⟨b2, o2, e2, _, hc⟩ := hG.out (by rw [hG.len]; omega)
  cases e2
  have c2 := hc a (by rw [hG.len]; omega)
  rw [c1] at c2
  have e3 : vs.getD a undef = .slice B' (L.getD a []).length d' := by simp [List.getD, ← c2]
  rw [e3]
  generalize (L.getD a []).length = q at c1
  have ha2 : (a : Int) < n := by omega
  clear hG en e1 c2 hc e3
  go_enter Tryz.func223, Tryz.ntmps223
  go_wp2_with fail
  go_ret
  exact ⟨rfl, rfl⟩
end Go.Proofs.YtlbjmkljmhfjdaaGreat
namespace Go.Proofs.YtlbjmkljmhfjdaaGreat
open Go Go.RowKit Go.Maps
/-- A right graph. -/
structure RG (G : List (List Nat)) : Prop where
  most : G.length ≤ 64
  rise : ∀ i, (G.getD i []).Pairwise (· < ·)
  lt : ∀ i b, b ∈ G.getD i [] → b < G.length
def adjG (G : List (List Nat)) (a : Nat) : List Nat := G.getD a []
theorem RG.inR {G : List (List Nat)} (h : RG G) : InR (adjG G) G.length := fun a b hb => by
  refine ⟨?_, h.lt a b hb⟩
  refine Classical.byContradiction fun hc => ?_
  have : adjG G a = [] := by simp [adjG, List.getD, List.getElem?_eq_none (Nat.le_of_not_lt hc)]
  rw [this] at hb; cases hb
theorem RG.nodup {G : List (List Nat)} (h : RG G) (a : Nat) : (adjG G a).Nodup := (h.rise a).imp fun h => Nat.ne_of_lt h
theorem rises_len : ∀ (l : List Nat) (n : Nat), l.Pairwise (· < ·) → (∀ x ∈ l, x < n) → l.length ≤ n := fun l n hl hn => by
  have hp : l.Perm ((List.range n).filter fun q => l.contains q) := (List.perm_ext_iff_of_nodup (hl.imp fun h => Nat.ne_of_lt h) (List.Pairwise.filter _ List.nodup_range)).2 fun q => by
    rw [List.mem_filter, List.mem_range, List.contains_iff_mem]
    exact ⟨fun hq => ⟨hn q hq, hq⟩, fun hq => hq.2⟩
  have h1 := hp.length_eq
  have h2 := List.length_filter_le (fun q => l.contains q) (List.range n)
  rw [List.length_range] at h2
  omega
theorem RG.len {G : List (List Nat)} (h : RG G) (a : Nat) : (adjG G a).length ≤ 64 := Nat.le_trans (rises_len _ _ (h.rise a) (h.lt a)) h.most
theorem wrong_iff (n : Nat) : ∀ (l : List Int) (last : Int), wrongR n last l = false ↔ l.Pairwise (· < ·) ∧ ∀ x ∈ l, last < x ∧ 0 ≤ x ∧ x < n
  | [], last => by simp [wrongR]
  | b :: l, last => by
    simp only [wrongR, Bool.or_eq_false_iff, wrong_iff n l b, List.pairwise_cons, List.mem_cons, decide_eq_false_iff_not, lacksB]
    constructor
    · rintro ⟨⟨h1, h2⟩, h3, h4⟩
      refine ⟨⟨fun x hx => (h4 x hx).1, h3⟩, fun x hx => ?_⟩
      rcases hx with rfl | hx
      · omega
      · have := h4 x hx; omega
    · rintro ⟨⟨h1, h2⟩, h3⟩
      have := h3 b (.inl rfl)
      refine ⟨⟨by omega, by omega⟩, h2, fun x hx => ?_⟩
      have := h3 x (.inr hx)
      have := h1 x hx
      omega
theorem c_nums_rise {l : List Nat} : (nums l).Pairwise (· < ·) ↔ l.Pairwise (· < ·) := by
  unfold nums
  rw [List.pairwise_map]
  constructor
  · exact fun h => h.imp fun h => by omega
  · exact fun h => h.imp fun h => by omega
theorem getD_map_nums (G : List (List Nat)) (i : Nat) : (G.map nums).getD i [] = nums (G.getD i []) := by
  simp only [List.getD, List.getElem?_map]
  cases G[i]? <;> rfl
theorem right_graph {L : List (List Int)} (h : rightL L = true) : ∃ G, RG G ∧ L = G.map nums := by
  simp only [rightL, Bool.and_eq_true, decide_eq_true_eq, Bool.not_eq_true', List.any_eq_false] at h
  obtain ⟨h1, h2⟩ := h
  have h3 : ∀ l ∈ L, l.Pairwise (· < ·) ∧ ∀ x ∈ l, -1 < x ∧ 0 ≤ x ∧ x < L.length := fun l hl => (wrong_iff L.length l (-1)).1 (by simpa using h2 l hl)
  have e : L = (L.map fun l => l.map Int.toNat).map nums := by
    rw [List.map_map]
    conv => lhs; rw [← List.map_id L]
    refine List.map_congr_left fun l hl => ?_
    simp only [id, Function.comp_def, nums, List.map_map]
    conv => lhs; rw [← List.map_id l]
    refine List.map_congr_left fun x hx => ?_
    have := (h3 l hl).2 x hx
    simp only [id]; omega
  obtain ⟨G, hG⟩ : ∃ G, G = L.map fun l => l.map Int.toNat := ⟨_, rfl⟩
  rw [← hG] at e
  have hlen : G.length = L.length := by rw [e]; simp
  have key : ∀ i, (G.getD i []).Pairwise (· < ·) ∧ ∀ b ∈ G.getD i [], b < G.length := fun i => by
    by_cases hi : i < G.length
    · have hm : nums (G.getD i []) ∈ L := by
        rw [← getD_map_nums, ← e]
        have hi' : i < L.length := by omega
        simp [List.getD, List.getElem?_eq_getElem hi']
      obtain ⟨a1, a2⟩ := h3 _ hm
      refine ⟨c_nums_rise.1 a1, fun b hb => ?_⟩
      have := (a2 (b : Int) (List.mem_map.2 ⟨b, hb, rfl⟩)).2.2
      omega
    · have : G.getD i [] = [] := by simp [List.getD, List.getElem?_eq_none (Nat.le_of_not_lt hi)]
      rw [this]; simp
  exact ⟨G, ⟨by omega, fun i => (key i).1, fun i => (key i).2⟩, e⟩
theorem RG.right {G : List (List Nat)} (h : RG G) : rightL (G.map nums) = true := by
  simp only [rightL, Bool.and_eq_true, decide_eq_true_eq, Bool.not_eq_true', List.any_eq_false, List.length_map]
  refine ⟨h.most, fun l hl => ?_⟩
  have := (wrong_iff G.length l (-1)).2
  obtain ⟨k, hk, rfl⟩ := List.mem_map.1 hl
  obtain ⟨i, hi, rfl⟩ := List.getElem_of_mem hk
  have e : G[i] = G.getD i [] := by simp [List.getD, List.getElem?_eq_getElem hi]
  rw [e]
  rw [e] at this
  rw [this ⟨c_nums_rise.2 (h.rise i), fun x hx => ?_⟩]
  · simp
  · obtain ⟨b, hb, rfl⟩ := List.mem_map.1 hx
    have := h.lt i b hb
    omega
/-- So many links turned round. -/
def trnTo (E : List (Nat × Nat)) (n k : Nat) : List (List Nat) := (List.range n).map fun b => ((E.take k).filter fun e => e.2 == b).map Prod.fst
def lnkG (G : List (List Nat)) : List (Nat × Nat) := lnk (adjG G) G.length
/-- The graph turned round. -/
def trnG (G : List (List Nat)) : List (List Nat) := trnTo (lnkG G) G.length (lnkG G).length
theorem trnTo_len (E : List (Nat × Nat)) (n k : Nat) : (trnTo E n k).length = n := by simp [trnTo]
theorem trnTo_at {E : List (Nat × Nat)} {n k b : Nat} (h : b < n) : (trnTo E n k).getD b [] = ((E.take k).filter fun e => e.2 == b).map Prod.fst := by simp [trnTo, List.getD, h]
theorem trnTo_zero (E : List (Nat × Nat)) (n : Nat) : trnTo E n 0 = List.replicate n [] := by
  refine List.ext_getElem (by simp [trnTo]) fun i h1 h2 => ?_
  simp [trnTo]
theorem trnTo_step {E : List (Nat × Nat)} {n k : Nat} (hk : k < E.length) (hb : (E.getD k (0, 0)).2 < n) : trnTo E n (k + 1) = (trnTo E n k).set (E.getD k (0, 0)).2 ((trnTo E n k).getD (E.getD k (0, 0)).2 [] ++ [(E.getD k (0, 0)).1]) := by
  have e : E.take (k + 1) = E.take k ++ [E.getD k (0, 0)] := by rw [List.take_add_one]; simp [List.getD, List.getElem?_eq_getElem hk]
  generalize E.getD k (0, 0) = x at *
  refine List.ext_getElem (by simp [trnTo]) fun i h1 h2 => ?_
  have hi : i < n := by simpa [trnTo] using h1
  rw [List.getElem_set]
  have a1 : (trnTo E n (k + 1))[i] = ((E.take (k + 1)).filter fun e => e.2 == i).map Prod.fst := by simp [trnTo]
  have a2 : ∀ h, (trnTo E n k)[i]'h = ((E.take k).filter fun e => e.2 == i).map Prod.fst := fun h => by simp [trnTo]
  rw [a1, e, List.filter_append, List.map_append]
  by_cases h : x.2 = i
  · subst h
    rw [if_pos rfl, trnTo_at hb]
    simp
  · rw [if_neg h, a2]
    simp [h]
theorem trnG_len (G : List (List Nat)) : (trnG G).length = G.length := trnTo_len _ _ _
theorem trnG_at {G : List (List Nat)} {b : Nat} (h : b < G.length) : adjG (trnG G) b = ((lnkG G).filter fun e => e.2 == b).map Prod.fst := by
  unfold adjG trnG
  rw [trnTo_at h, List.take_length]
theorem RG.trn {G : List (List Nat)} (h : RG G) : c_Trn (adjG G) (adjG (trnG G)) := fun a b => by
  by_cases hb : b < G.length
  · rw [trnG_at hb]
    simp only [List.mem_map, List.mem_filter, beq_iff_eq]
    constructor
    · intro hab
      exact ⟨(a, b), ⟨(mem_lnk h.inR).2 hab, rfl⟩, rfl⟩
    · rintro ⟨⟨x, y⟩, ⟨h1, rfl⟩, rfl⟩
      exact (mem_lnk h.inR).1 h1
  · constructor
    · intro hab; exact absurd (h.lt a b hab) hb
    · intro hab
      have : adjG (trnG G) b = [] := by simp [adjG, List.getD, List.getElem?_eq_none (show (trnG G).length ≤ b by rw [trnG_len]; omega)]
      rw [this] at hab; cases hab
theorem lnkG_rise {G : List (List Nat)} (h : RG G) : (lnkG G).Pairwise fun e f => e.1 < f.1 ∨ (e.1 = f.1 ∧ e.2 < f.2) := by
  unfold lnkG lnk
  rw [List.pairwise_flatMap]
  refine ⟨fun a _ => ?_, List.pairwise_lt_range.imp fun {a b} hab e he f hf => ?_⟩
  · rw [List.pairwise_map]
    exact (h.rise a).imp fun h => .inr ⟨rfl, h⟩
  · obtain ⟨_, _, rfl⟩ := List.mem_map.1 he
    obtain ⟨_, _, rfl⟩ := List.mem_map.1 hf
    exact .inl hab
theorem RG.turned {G : List (List Nat)} (h : RG G) : RG (trnG G) := by
  refine ⟨by rw [trnG_len]; exact h.most, fun i => ?_, fun i b hb => ?_⟩
  · by_cases hi : i < G.length
    · show (adjG (trnG G) i).Pairwise _
      rw [trnG_at hi, List.pairwise_map]
      refine (List.Pairwise.filter _ (lnkG_rise h)).imp_of_mem fun {e f} he hf hef => ?_
      have h1 := (List.mem_filter.1 he).2
      have h2 := (List.mem_filter.1 hf).2
      simp only [beq_iff_eq] at h1 h2
      omega
    · have : (trnG G).getD i [] = [] := by simp [List.getD, List.getElem?_eq_none (show (trnG G).length ≤ i by rw [trnG_len]; omega)]
      rw [this]; simp
  · rw [trnG_len]
    exact (h.inR _ _ ((h.trn b i).2 hb)).1
theorem lnkG_len {G : List (List Nat)} (h : RG G) : (lnkG G).length ≤ 4096 := by
  unfold lnkG lnk
  rw [List.length_flatMap]
  have : ∀ (l : List Nat), (l.map fun a => ((adjG G a).map fun b => (a, b)).length).sum ≤ 64 * l.length := fun l => by
    induction l with
    | nil => simp
    | cons a l ih =>
      simp only [List.map_cons, List.sum_cons, List.length_cons, List.length_map] at ih ⊢
      have := h.len a
      omega
  have h1 := this (List.range G.length)
  rw [List.length_range] at h1
  have := h.most
  omega
end Go.Proofs.YtlbjmkljmhfjdaaGreat
namespace Go.Proofs.YtlbjmkljmhfjdaaGreat
open Go Go.RowKit Go.Maps
attribute [local go_sem] Oper.semAt_some
def offG (G : List (List Nat)) (a : Nat) : Nat := (lnk (adjG G) a).length
theorem off_next (G : List (List Nat)) (a : Nat) : offG G (a + 1) = offG G a + (adjG G a).length := by
  unfold offG lnk
  rw [List.range_succ, List.flatMap_append]
  simp
theorem lnk_app (G : List (List Nat)) (a : Nat) : ∀ d, ∃ R, lnk (adjG G) (a + 1 + d) = lnk (adjG G) a ++ ((adjG G a).map fun b => (a, b)) ++ R
  | 0 => ⟨[], by unfold lnk; rw [List.range_succ, List.flatMap_append]; simp⟩
  | d + 1 => by
    obtain ⟨R, hR⟩ := lnk_app G a d
    refine ⟨R ++ (adjG G (a + 1 + d)).map fun b => (a + 1 + d, b), ?_⟩
    have : lnk (adjG G) (a + 1 + (d + 1)) = lnk (adjG G) (a + 1 + d) ++ (adjG G (a + 1 + d)).map fun b => (a + 1 + d, b) := by
      unfold lnk
      rw [show a + 1 + (d + 1) = (a + 1 + d) + 1 by omega, List.range_succ, List.flatMap_append]
      simp
    rw [this, hR, List.append_assoc]
theorem off_at {G : List (List Nat)} {a j : Nat} (ha : a < G.length) (hj : j < (adjG G a).length) : (lnkG G).getD (offG G a + j) (0, 0) = (a, (adjG G a).getD j 0) ∧ offG G a + j < (lnkG G).length := by
  obtain ⟨R, hR⟩ := lnk_app G a (G.length - (a + 1))
  rw [show a + 1 + (G.length - (a + 1)) = G.length by omega] at hR
  unfold lnkG offG
  rw [hR]
  refine ⟨?_, by simp only [List.length_append, List.length_map]; omega⟩
  simp only [List.getD]
  rw [List.getElem?_append_left (by simp only [List.length_append, List.length_map]; omega), List.getElem?_append_right (by omega), Nat.add_sub_cancel_left, List.getElem?_map, List.getElem?_eq_getElem hj]
  simp
theorem off_all (G : List (List Nat)) : offG G G.length = (lnkG G).length := rfl
def encE (E : List (Nat × Nat)) (k : Nat) : Array Value := #[.int .i64 ((E.getD k (0, 0)).1 : Nat), .int .i64 ((E.getD k (0, 0)).2 : Nat)]
/-- What the links stand on: T is what may not turn. -/
structure LnkR (w : World) (bx : Nat) (A : Option Addr) (c : Nat) (vs : List Value) (G : List (List Nat)) (T : Nat → Prop) : Prop where
  at_ : ∀ W' : World, w.heap.size ≤ W'.heap.size → (∀ j, T j → W'.heap[j]? = w.heap[j]?) → Blk W' bx #[.slice A G.length c] 127 ∧ Gph W' A vs (G.map nums)
  lt : ∀ j, T j → j < w.heap.size
theorem links_make (A : Option Addr) (n c : Nat) (w : World) : Calls Tryz.prog 177 #[.slice A n c] w fun e w' => e = .returned (.func (.func 222) #[] #[.pointer (some ⟨w.heap.size, 0, none⟩)]) ∧ w' = w.alloc (.cells #[.slice A n c] 127) := by
  go_enter Tryz.func177, Tryz.ntmps177
  go_wp2_with fail
  go_ret
  exact ⟨rfl, rfl⟩
set_option maxRecDepth 100000 in
set_option maxHeartbeats 4000000 in
theorem links_in (w : World) (bx : Nat) (A : Option Addr) (c : Nat) (vs : List Value) (G : List (List Nat)) (T : Nat → Prop) (hR : RG G) (hO : LnkR w bx A c vs G T) :
    SeqX 12 Tryz.prog 222 #[.pointer (some ⟨bx, 0, none⟩)] (encE (lnkG G)) (lnkG G).length T w := by
  intro l J C W hW hF hT hY h0
  have AT := Lib.hid (fun A' (k : Keep C W A') => (show Blk A' bx #[.slice A G.length c] 127 ∧ Gph A' A vs (G.map nums) from by
    have hlt : ∀ j, T j → j < W.heap.size := fun j hj => Nat.lt_of_lt_of_le (hO.lt j hj) hW.size
    exact hO.at_ A' (Nat.le_trans hW.size k.size) (fun j hj => (k.block j (hlt j hj) (hT j hj)).trans (hW.block j (hO.lt j hj)))))
  have H0 := Lib.hid h0
  have HY := Lib.hid hY
  have HF := Lib.hid hF
  have OF := Lib.hid (fun a j (ha : a < G.length) (hj : j < (adjG G a).length) => off_at ha hj)
  have ON := Lib.hid (off_next G)
  have OZ := Lib.hid (off_all G)
  have OS := Lib.hid (show offG G 0 = 0 from rfl)
  have LE := Lib.hid (fun a => hR.len a)
  have GA := Lib.hid (fun a => show (G.map nums).getD a [] = nums (adjG G a) from getD_map_nums G a)
  have hn : G.length ≤ 64 := hR.most
  obtain ⟨n, en⟩ : ∃ n, n = G.length := ⟨_, rfl⟩
  have EN := Lib.hid en
  have GL := Lib.hid (show (G.map nums).length = n from by rw [List.length_map]; exact en.symm)
  rw [← en] at AT OF OZ hn
  generalize lnkG G = E at HY OF OZ ⊢
  have ⟨b0, g0⟩ := AT.out W (Keep.refl C W)
  have c0 := b0.cell 0
  simp only [List.getElem?_toArray, List.getElem?_cons_zero, List.getElem?_cons_succ] at c0
  clear hO hW hF hT hY h0 en b0 g0
  refine callsIn_of_wp Tryz.func222 rfl trivial ?_
  simp only [Tryz.ntmps222, List.size_toArray, List.length_cons, List.length_nil, Nat.reduceAdd, Nat.reduceSub, Array.replicate_succ, Array.replicate_zero, List.push_toArray, List.append_toArray, List.nil_append, List.cons_append]
  gi_wp2_with fail
  gi_loopw [9, 3, 4, 6, 14, 15, 16] (fun i _ _ _ _ _ _ wr => ∃ a : Nat, a ≤ n ∧ i = .int .i64 a ∧ J (offG G a) wr ∧ Keep C W wr) (fun i _ _ _ _ _ _ _ => n - (RowKit.intOf i).toNat)
  case atStart => exact ⟨0, by omega, rfl, by rw [OS.out]; exact H0.out, Keep.refl C W⟩
  case round =>
    obtain ⟨a, ha, rfl, hj, hk⟩ := hrel
    have HJ := Lib.hid hj
    have HK := Lib.hid hk
    by_cases hlt : a < n
    · have hlt2 : (a : Int) < n := by omega
      obtain ⟨ba, ga⟩ := AT.out wr hk
      obtain ⟨b1, o1, rfl, hb1, c1⟩ := ga.cell (i := a) (by rw [GL.out]; exact hlt)
      obtain ⟨B1, d1, eB, _⟩ := ga.row a (by rw [GL.out]; exact hlt)
      rw [eB, GA.out, nums_len] at c1
      have EB := Lib.hid eB
      have OFA := Lib.hid (fun j hj => OF.out a j hlt hj)
      have ONA := Lib.hid (ON.out a)
      have LA := LE.out a
      obtain ⟨m, em⟩ : ∃ m, m = (adjG G a).length := ⟨_, rfl⟩
      have EM := Lib.hid em
      rw [← em] at c1 OFA ONA LA
      clear hj hk ba ga em eB
      gi_wp2_with fail
      gi_loopw [16, 6] (fun i _ wr => ∃ j : Nat, j ≤ m ∧ i = .int .i64 j ∧ J (offG G a + j) wr ∧ Keep C W wr) (fun i _ _ => m - (RowKit.intOf i).toNat)
      case atStart => exact ⟨0, by omega, rfl, HJ.out, HK.out⟩
      case round =>
        obtain ⟨j, hj, rfl, hjj, hk⟩ := hrel
        have HJJ := Lib.hid hjj
        have HKK := Lib.hid hk
        by_cases hjt : j < m
        · have hjt2 : (j : Int) < m := by omega
          have hlie := ((AT.out wr hk).2.lies (by rw [GL.out]; exact hlt) EB.out).2
          rw [GA.out] at hlie
          obtain ⟨b2, o2, rfl, hb2, c2⟩ := lies_cell hlie (k := j) (by rw [nums_len, ← EM.out]; exact hjt)
          rw [nums_at] at c2
          obtain ⟨h5, h6⟩ := OFA.out j hjt
          have hY5 := HY.out _ wr hjj h6
          unfold encE at hY5
          rw [h5] at hY5
          obtain ⟨fn, tmps, assign, body, hy, hRd⟩ := yieldX_any (m' := 12 - 1) hY5
          have HRD := Lib.hid hRd
          clear hjj hk hlie h5 h6 hY5 hRd
          generalize (adjG G a).getD j 0 = x at c2 hy
          gi_wp2_with fail
          refine HRD.out.mono ?_
          rintro e W4 ⟨rfl, hj4, hk4⟩
          have HJ4 := Lib.hid hj4
          have HK4 := Lib.hid (HKK.out.trans hk4)
          clear hj4 hk4 hy c2
          gi_wp2_with fail
          go_roundw
          case rel => exact ⟨j + 1, by omega, by go_num, HJ4.out, HK4.out⟩
          case measure => simp [RowKit.intOf]; omega
        · obtain rfl : j = m := by omega
          have hjt2 : ¬ (j : Int) < j := by omega
          clear hjj hk
          gi_wp2_with fail
          go_roundw
          case rel => exact ⟨a + 1, by omega, by go_num, by rw [ONA.out]; exact HJJ.out, HKK.out⟩
          case measure => simp [RowKit.intOf]; omega
    · obtain rfl : a = n := by omega
      have hlt2 : ¬ (a : Int) < a := by omega
      clear hj hk
      gi_wp2_with fail
      go_end0
      exact ⟨⟨_, rfl⟩, by rw [← OZ.out]; exact HJ.out, HK.out⟩
end Go.Proofs.YtlbjmkljmhfjdaaGreat
namespace Go.Proofs.YtlbjmkljmhfjdaaGreat
open Go Go.RowKit Go.Maps
attribute [local go_sem] Oper.semAt_some
/-- Rows of numbers, each of its own, no two in one block. -/
structure RowsO (B : Nat) (W : World) (vs : List Value) (L : List (List Nat)) : Prop where
  len : vs.length = L.length
  row : ∀ i, i < L.length → W.ownsRow B 3 1 (vs.getD i undef) (L.getD i []).length (ints (nums (L.getD i [])))
  apart : ∀ i j k, i < L.length → j < L.length → i ≠ j → (vs.getD i undef).ownBlock = some k → (vs.getD j undef).ownBlock ≠ some k
theorem RowsO.kept {B : Nat} {W W' : World} {vs : List Value} {L : List (List Nat)} (h : RowsO B W vs L) (hk : ∀ i k, i < L.length → (vs.getD i undef).ownBlock = some k → W'.heap[k]? = W.heap[k]?) : RowsO B W' vs L :=
  ⟨h.len, fun i hi => own_kept (h.row i hi) (fun k e => hk i k hi e), h.apart⟩
theorem RowsO.below {B : Nat} {W W' : World} {vs : List Value} {L : List (List Nat)} (h : RowsO B W vs L) (hb : Below W.heap.size W W') : RowsO B W' vs L :=
  ⟨h.len, fun i hi => own_below (h.row i hi) hb, h.apart⟩
theorem RowsO.lower {B B' : Nat} {W : World} {vs : List Value} {L : List (List Nat)} (h : RowsO B W vs L) (hb : B' ≤ B) : RowsO B' W vs L :=
  ⟨h.len, fun i hi => own_lower (h.row i hi) hb, h.apart⟩
theorem RowsO.nil (B : Nat) (W : World) : RowsO B W [] [] := ⟨rfl, fun i hi => by simp at hi, fun i j k hi => by simp at hi⟩
theorem RowsO.empty (B n : Nat) (W : World) : RowsO B W (List.replicate n (.slice none 0 0)) (List.replicate n []) := by
  have e : ∀ i, i < n → (List.replicate n (Value.slice none 0 0)).getD i undef = .slice none 0 0 := fun i hi => by simp [List.getD, hi]
  refine ⟨by simp, fun i hi => ?_, fun i j k hi hj _ hk => ?_⟩
  · have hi' : i < n := by simpa using hi
    rw [e i hi']
    simp only [List.getD, List.getElem?_replicate, hi', if_true]
    exact World.ownsRow_nil _ _ _ _
  · rw [e i (by simpa using hi)] at hk
    simp [Value.ownBlock] at hk
/-- A row is taken by one that has grown out of it. -/
theorem RowsO.grow {B : Nat} {W W' : World} {vs : List Value} {L : List (List Nat)} {b : Nat} {v' : Value} {l : List Nat} (h : RowsO B W vs L) (hb : b < L.length) (ho : W'.ownsRow B 3 1 v' l.length (ints (nums l)))
    (hg : W.grownBy W' (vs.getD b undef).ownBlock) (hf : ∀ k, v'.ownBlock = some k → (vs.getD b undef).ownBlock = some k ∨ W.heap.size ≤ k) : RowsO B W' (vs.set b v') (L.set b l) := by
  have hl := h.len
  have eb : (vs.set b v').getD b undef = v' := by simp [List.getD, show b < vs.length by omega]
  have eo : ∀ i, i ≠ b → (vs.set b v').getD i undef = vs.getD i undef := fun i e => by simp only [List.getD]; rw [List.getElem?_set_ne (fun h => e h.symm)]
  have lb : (L.set b l).getD b [] = l := by simp [List.getD, hb]
  have lo : ∀ i, i ≠ b → (L.set b l).getD i [] = L.getD i [] := fun i e => by simp only [List.getD]; rw [List.getElem?_set_ne (fun h => e h.symm)]
  have other : ∀ i, i < L.length → i ≠ b → ∀ k, (vs.getD i undef).ownBlock = some k → (vs.getD b undef).ownBlock ≠ some k ∧ k < W.heap.size := fun i hi e k hk => ⟨h.apart i b k hi hb e hk, ((h.row i hi).lt k hk).2⟩
  refine ⟨by simp [hl], fun i hi => ?_, fun i j k hi hj hij hk => ?_⟩
  · rw [List.length_set] at hi
    by_cases e : i = b
    · subst e; rw [eb, lb]; exact ho
    · rw [eo i e, lo i e]
      exact own_kept (h.row i hi) fun k hk => hg.block k (other i hi e k hk).2 fun e2 => (other i hi e k hk).1 e2.symm
  · rw [List.length_set] at hi hj
    by_cases e : i = b
    · subst e
      rw [eb] at hk
      rw [eo j (fun h => hij h.symm)]
      intro hk2
      obtain ⟨h1, h2⟩ := other j hj (fun h => hij h.symm) k hk2
      rcases hf k hk with h3 | h3
      · exact h1 h3
      · omega
    · rw [eo i e] at hk
      by_cases e2 : j = b
      · subst e2
        rw [eb]
        intro hk2
        obtain ⟨h1, h2⟩ := other i hi e k hk
        rcases hf k hk2 with h3 | h3
        · exact h1 h3
        · omega
      · rw [eo j e2]
        exact h.apart i j k hi hj hij hk
/-- One row more. -/
theorem RowsO.push {B : Nat} {W W' : World} {vs : List Value} {L : List (List Nat)} {v' : Value} {l : List Nat} (h : RowsO B W vs L) (ho : W'.ownsRow B 3 1 v' l.length (ints (nums l)))
    (hg : ∀ i k, i < L.length → (vs.getD i undef).ownBlock = some k → W'.heap[k]? = W.heap[k]?) (hf : ∀ k, v'.ownBlock = some k → ∀ i, i < L.length → (vs.getD i undef).ownBlock ≠ some k) : RowsO B W' (vs ++ [v']) (L ++ [l]) := by
  have hl := h.len
  have e1 : ∀ i, i < L.length → (vs ++ [v']).getD i undef = vs.getD i undef ∧ (L ++ [l]).getD i [] = L.getD i [] := fun i hi => by
    simp only [List.getD]; rw [List.getElem?_append_left (by omega), List.getElem?_append_left hi]; exact ⟨rfl, rfl⟩
  have e2 : (vs ++ [v']).getD L.length undef = v' ∧ (L ++ [l]).getD L.length [] = l := by
    simp only [List.getD]; rw [List.getElem?_append_right (by omega), List.getElem?_append_right (by omega), hl]; simp
  refine ⟨by simp [hl], fun i hi => ?_, fun i j k hi hj hij hk => ?_⟩
  · rw [List.length_append, List.length_singleton] at hi
    by_cases e : i = L.length
    · subst e; rw [e2.1, e2.2]; exact ho
    · rw [(e1 i (by omega)).1, (e1 i (by omega)).2]
      exact own_kept (h.row i (by omega)) (fun k hk => hg i k (by omega) hk)
  · rw [List.length_append, List.length_singleton] at hi hj
    by_cases e : i = L.length
    · subst e
      rw [e2.1] at hk
      rw [(e1 j (by omega)).1]
      exact hf k hk j (by omega)
    · rw [(e1 i (by omega)).1] at hk
      by_cases e3 : j = L.length
      · subst e3
        rw [e2.1]
        exact fun hk2 => hf k hk2 i (by omega) hk
      · rw [(e1 j (by omega)).1]
        exact h.apart i j k (by omega) (by omega) hij hk
/-- They lie in memory as a graph. -/
theorem RowsO.gph {B : Nat} {W : World} {vs : List Value} {L : List (List Nat)} {A : Option Addr} (h : RowsO B W vs L) (hA : Lies W A vs) (hm : L.length ≤ 1000000) (hms : ∀ i, i < L.length → (L.getD i []).length ≤ 1000000) : Gph W A vs (L.map nums) := by
  refine ⟨by rw [h.len, List.length_map], hA, fun i hi => ?_, by rw [List.length_map]; omega, fun i hi => ?_⟩
  · rw [List.length_map] at hi
    have ho := h.row i hi
    obtain ⟨B', c, e, _, _⟩ := own_slice ho
    rw [e] at ho
    rw [getD_map_nums, nums_len]
    exact ⟨B', c, e, own_lies1 ho⟩
  · rw [List.length_map] at hi
    rw [getD_map_nums, nums_len]
    have := hms i hi
    omega
theorem below_putX {w A : World} {B d : Nat} (h : Below B w A) (o : Obj) (hd : B ≤ d) : Below B w (A.putObj d o) :=
  ⟨h.os, h.tape, h.output, by simpa using h.size, fun k hk => (World.putObj_heap_other (by omega)).trans (h.block k hk)⟩
theorem RowsO.putX {B b : Nat} {W : World} {vs : List Value} {L : List (List Nat)} (h : RowsO B W vs L) (hb : NoCells W b) (o : Obj) : RowsO B (W.putObj b o) vs L :=
  ⟨h.len, fun i hi => own_putX (h.row i hi) hb o, h.apart⟩
/-- The graph that is being turned. -/
structure TS (w A : World) (gb tb n : Nat) (vs : List Value) (L : List (List Nat)) : Prop where
  tb : Blk A tb #[.slice (some ⟨gb, 0, none⟩) n n] 127
  blk : Blk A gb vs.toArray 38
  rows : RowsO w.heap.size A vs L
  low : Below w.heap.size w A
def ownC (gb n : Nat) (j : Nat) (A : World) : Prop := j = gb ∨ ∃ b v, b < n ∧ A.cell? ⟨gb, b, none⟩ = some v ∧ v.ownBlock = some j
theorem TS.cells {w A : World} {gb tb n : Nat} {vs : List Value} {L : List (List Nat)} (h : TS w A gb tb n vs L) {b : Nat} (hb : b < L.length) : A.cell? ⟨gb, b, none⟩ = some (vs.getD b undef) := by
  have hl := h.rows.len
  rw [h.blk.cell, List.getElem?_toArray]
  simp [List.getD, List.getElem?_eq_getElem (show b < vs.length by omega)]
theorem TS.fair {w : World} {gb tb n B : Nat} {Ls : Nat → List (List Nat)} (hn : ∀ k, (Ls k).length = n) (hB : w.heap.size ≤ B) :
    Fair B (fun k A => ∃ vs, TS w A gb tb n vs (Ls k)) (ownC gb n) := by
  have same : ∀ {k A A'} {vs : List Value}, TS w A gb tb n vs (Ls k) → Blk A' gb vs.toArray 38 → ∀ j, ownC gb n j A' → ownC gb n j A := by
    intro k A A' vs h hb j hc
    rcases hc with hc | ⟨b, v, h1, h2, h3⟩
    · exact .inl hc
    · refine .inr ⟨b, v, h1, ?_, h3⟩
      rw [h.blk.cell]; rw [hb.cell] at h2; exact h2
  constructor
  · rintro k A A' ⟨vs, h⟩ hb
    exact ⟨vs, h.tb.below' hb, h.blk.below' hb, h.rows.below hb, h.low.trans (hb.mono h.low.size)⟩
  · rintro k d A o hd ⟨vs, h⟩ hn
    exact ⟨vs, blk_putX h.tb hn o, blk_putX h.blk hn o, h.rows.putX hn o, below_putX h.low o (by omega)⟩
  · rintro k A A' j ⟨vs, h⟩ hb hc
    exact same h (h.blk.below' hb) j hc
  · rintro k d A o j _ ⟨vs, h⟩ hn hc
    exact same h (blk_putX h.blk hn o) j hc
  · rintro k A j ⟨vs, h⟩ hc
    rcases hc with rfl | ⟨b, v, h1, h2, h3⟩
    · exact ⟨_, _, _, h.blk⟩
    · rw [h.cells (by rw [hn k]; exact h1)] at h2
      obtain rfl := Option.some.inj h2
      have ho := h.rows.row b (by rw [hn k]; exact h1)
      rcases ho.2 with ⟨e, _⟩ | ⟨g, cap, cur, e, _, hg, _⟩
      · rw [e] at h3; simp [Value.ownBlock] at h3
      · rw [e] at h3
        simp only [Value.ownBlock, Option.some.injEq] at h3
        subst h3
        exact ⟨_, _, _, hg⟩
end Go.Proofs.YtlbjmkljmhfjdaaGreat
namespace Go.Proofs.YtlbjmkljmhfjdaaGreat
open Go Go.RowKit Go.Maps
/-- A stack in memory. -/
structure Stk (B : Nat) (W : World) (sb : Nat) (v : Value) (O : List Nat) : Prop where
  box : Blk W sb #[v] 197
  own : W.ownsRow B 3 1 v O.length (ints (nums O))
/-- A stack's, a search's blocks alone are turned. -/
structure OffS (b sb : Nat) (v : Value) (w w' : World) : Prop where
  os : w'.os = w.os
  tape : w'.tape = w.tape
  output : w'.output = w.output
  size : w.heap.size ≤ w'.heap.size
  block : ∀ k, k < w.heap.size → k ≠ b → k ≠ sb → v.ownBlock ≠ some k → w'.heap[k]? = w.heap[k]?
/-- What a row is in, is old, or new. -/
def c_Fresh (w : World) (v v' : Value) : Prop := ∀ k, v'.ownBlock = some k → v.ownBlock = some k ∨ w.heap.size ≤ k
theorem OffS.refl (b sb : Nat) (v : Value) (w : World) : OffS b sb v w w := ⟨rfl, rfl, rfl, Nat.le_refl _, fun _ _ _ _ _ => rfl⟩
theorem OffS.trans {b sb : Nat} {v v1 : Value} {w w1 w2 : World} (h : OffS b sb v w w1) (hf : c_Fresh w v v1) (k : OffS b sb v1 w1 w2) : OffS b sb v w w2 :=
  ⟨k.os.trans h.os, k.tape.trans h.tape, k.output.trans h.output, Nat.le_trans h.size k.size, fun j hj h1 h2 h3 => (k.block j (Nat.lt_of_lt_of_le hj h.size) h1 h2 (fun e => by
    rcases hf j e with h4 | h4
    · exact h3 h4
    · omega)).trans (h.block j hj h1 h2 h3)⟩
theorem c_Fresh.refl (w : World) (v : Value) : c_Fresh w v v := fun _ h => .inl h
theorem c_Fresh.trans {w w1 : World} {v v1 v2 : Value} (h : c_Fresh w v v1) (hs : w.heap.size ≤ w1.heap.size) (k : c_Fresh w1 v1 v2) : c_Fresh w v v2 := fun j hj => by
  rcases k j hj with h1 | h1
  · exact h j h1
  · exact .inr (by omega)
theorem OffS.below {b sb B : Nat} {v : Value} {w0 w w' : World} (h : OffS b sb v w w') (h0 : Below B w0 w) (hb : B ≤ b) (hs : B ≤ sb) (hv : ∀ k, v.ownBlock = some k → B ≤ k) (hB : B ≤ w.heap.size) : Below B w0 w' :=
  ⟨h.os.trans h0.os, h.tape.trans h0.tape, h.output.trans h0.output, Nat.le_trans h0.size h.size, fun k hk => (h.block k (by omega) (by omega) (by omega) (fun e => by have := hv k e; omega)).trans (h0.block k hk)⟩
set_option maxRecDepth 100000 in
set_option maxHeartbeats 2000000 in
theorem put_any (B sb b : Nat) (v : Value) (O : List Nat) (a : Nat) (w : World) (h : Stk B w sb v O) (hO : O.length ≤ 100000) (hB : B ≤ w.heap.size) :
    Calls Tryz.prog 183 #[.pointer (some ⟨sb, 0, none⟩), .int .i64 a] w fun e w' => ∃ v', (∃ u, e = .returned u) ∧ Stk B w' sb v' (O ++ [a]) ∧ OffS b sb v w w' ∧ c_Fresh w v v' := by
  obtain ⟨i0, hi, hz0, hz1, hz2⟩ := info_parts Tryz.info3
  obtain ⟨n, en⟩ : ∃ n, n = O.length := ⟨_, rfl⟩
  have EN := Lib.hid en
  obtain ⟨A0, c0, rfl, _, _⟩ := own_slice h.own
  have HS := Lib.hid h
  have c1 := h.box.cell 0
  simp only [List.getElem?_toArray, List.getElem?_cons_zero] at c1
  rw [← en] at c1 hO HS ⊢
  have OW := Lib.hid (show w.ownsRow B 3 1 (.slice A0 n c0) n (ints (nums O)) from by rw [en]; exact h.own)
  clear h en
  go_enter Tryz.func183, Tryz.ntmps183
  go_wp2_with (first | (at_builtin; refine wpList_append_onto _ rfl _ _ 38 rfl B 3 i0 (.int .i64 0) 1 8 Tryz.underlying38 hi hz0 hz1 hz2 rfl (by decide) _ _ _ rfl (own_below OW.out (B1 w _)) (some ⟨w.heap.size, 0, none⟩) 1 1 [.int .i64 a] rfl rfl (fun ad ha => by cases ha; exact cell_one_new _ _ _) (fun h => by cases h) (by simp [Value.oneCell']) (by unfold maxLen; omega) (by omega) (by simp; omega) ?_; intro v' w9 hown' hgrow hfr'; have O9 := Lib.hid hown'; have G9 := Lib.hid hgrow; have N9 := Lib.hid hfr'; have b9 : Blk w9 sb #[.slice A0 n c0] 197 := (HS.out.box.alloc _).grown hgrow (fun e => own_ne OW.out HS.out.box (by decide) e.symm); have f9 := b9.frozen 0; have c9 := b9.cell 0; have K9 := Lib.hid b9; obtain ⟨A1, c1', rfl, _, _⟩ := own_slice hown'; clear hown' hgrow hfr' b9))
  go_end0
  have hk : Blk (w9.setCell ⟨sb, 0, none⟩ (.slice A1 (n + 1) c1')) sb #[.slice A1 (n + 1) c1'] 197 := by
    have := heap_setCell_same w9 sb 0 _ _ (.slice A1 (n + 1) c1') K9.out
    unfold Blk; simpa using this
  refine ⟨_, ⟨_, rfl⟩, ⟨hk, ?_⟩, ⟨G9.out.os, G9.out.tape, G9.out.output, ?_, fun k hk _ h2 h3 => ?_⟩, fun k hk => ?_⟩
  · rw [nums_app]
    have e1 : ints (nums O ++ [(a : Int)]) = ints (nums O) ++ [.int .i64 a] := by simp [ints]
    rw [e1, List.length_append, ← EN.out]
    exact own_kept O9.out (fun j hj => heap_setCell_other w9 ⟨sb, 0, none⟩ j _ (fun e => own_ne O9.out K9.out (by decide) (by rw [hj]; exact congrArg some e)))
  · have := G9.out.size
    simp [World.setCell] at this ⊢
    omega
  · exact (heap_setCell_other w9 ⟨sb, 0, none⟩ k _ h2).trans ((G9.out.block k (by simp; omega) (fun e => h3 e.symm)).trans (Below.heap_alloc w _ k hk))
  · rcases N9.out k hk with h | h
    · exact .inl h
    · exact .inr (by simp at h; omega)
theorem c_some_any (B sb : Nat) (v : Value) (O : List Nat) (w : World) (h : Stk B w sb v O) (hO : O.length ≤ 100000) :
    Calls Tryz.prog 216 #[.pointer (some ⟨sb, 0, none⟩)] w fun e w' => e = .returned (.bool (decide (0 < O.length))) ∧ w' = w := by
  obtain ⟨A0, c0, rfl, _, _⟩ := own_slice h.own
  have c1 := h.box.cell 0
  simp only [List.getElem?_toArray, List.getElem?_cons_zero] at c1
  generalize O.length = n at c1 hO ⊢
  clear h
  go_enter Tryz.func216, Tryz.ntmps216
  go_wp2_with fail
  all_goals go_ret
  all_goals exact ⟨ret_bool (by first | (rw [Bool.eq_iff_iff]; simp; done) | (rw [Bool.eq_iff_iff]; simp; omega) | (simp; done) | (simp; omega) | (symm; rw [decide_eq_true_eq]; omega)), rfl⟩
/-- A row of the call's own, its last thing left out. -/
theorem own_less {w : World} {B e n g c : Nat} {xs : List Value} {x : Value} (h : w.ownsRow B e 1 (.slice (some ⟨g, 0, none⟩) (n + 1) c) (n + 1) (xs ++ [x])) : w.ownsRow B e 1 (.slice (some ⟨g, 0, none⟩) n c) n xs := by
  obtain ⟨h1, h2⟩ := h
  have hl : xs.length = n := by simp at h1; omega
  refine ⟨by omega, ?_⟩
  rcases h2 with ⟨h0, _⟩ | ⟨g', cap', cur, e1, hb, hg, hnc, hcm, hcs, ht⟩
  · cases h0
  · simp only [Value.slice.injEq, Option.some.injEq, Addr.mk.injEq, and_true, true_and] at e1
    obtain ⟨rfl, rfl⟩ := e1
    refine .inr ⟨g, c, cur, rfl, hb, hg, by omega, hcm, hcs, ?_⟩
    have h3 : (cur.toList.take ((n + 1) * 1)).take (n * 1) = xs := by rw [ht, List.take_left' (by omega)]
    rw [List.take_take] at h3
    rw [← h3]
    congr 1
    omega
set_option maxRecDepth 100000 in
set_option maxHeartbeats 2000000 in
theorem take_any (B sb b : Nat) (v : Value) (O : List Nat) (a : Nat) (w : World) (h : Stk B w sb v (O ++ [a])) (hO : O.length ≤ 100000) :
    Calls Tryz.prog 217 #[.pointer (some ⟨sb, 0, none⟩)] w fun e w' => ∃ v', e = .returned (.int .i64 a) ∧ Stk B w' sb v' O ∧ OffS b sb v w w' ∧ (∀ k, k ≠ sb → w'.heap[k]? = w.heap[k]?) ∧ v'.ownBlock = v.ownBlock := by
  have hl : (O ++ [a]).length = O.length + 1 := by simp
  obtain ⟨n, en⟩ : ∃ n, n = O.length := ⟨_, rfl⟩
  have EN := Lib.hid en
  have ho := h.own
  have hb := h.box
  have e1 : ints (nums (O ++ [a])) = ints (nums O) ++ [.int .i64 a] := by rw [nums_app]; simp [ints]
  rw [hl, e1, ← en] at ho
  obtain ⟨g, c, rfl, hg1, hg2, hg3, hg4⟩ := own_shape ho (by omega)
  have OL := Lib.hid (own_less ho)
  have BX := Lib.hid hb
  have c1 := hb.cell 0
  have f1 := hb.frozen 0
  simp only [List.getElem?_toArray, List.getElem?_cons_zero] at c1
  have c2 : w.cell? ⟨g, n, none⟩ = some (.int .i64 a) := by
    rw [ho.cellAt n (by omega)]
    rw [List.getElem?_append_right (by rw [ints_length, nums_len]; omega), ints_length, nums_len, en]
    simp
  have OWN := Lib.hid ho
  rw [← en] at hO
  have hn1 : ((n + 1 : Nat) : Int) - 1 = n := by omega
  have hn2 : (n : Int) < n + 1 := by omega
  have hnc : n ≤ c := by omega
  have hcm : c ≤ 9223372036854775807 := by unfold maxLen at hg3; omega
  clear h ho hb e1 hl en
  go_enter Tryz.func217, Tryz.ntmps217
  go_wp2_with fail
  go_ret
  have hk : Blk (w.setCell ⟨sb, 0, none⟩ (.slice (some ⟨g, 0, none⟩) n c)) sb #[.slice (some ⟨g, 0, none⟩) n c] 197 := by
    have := heap_setCell_same w sb 0 _ _ (.slice (some ⟨g, 0, none⟩) n c) BX.out
    unfold Blk; simpa using this
  refine ⟨.slice (some ⟨g, 0, none⟩) n c, rfl, ⟨hk, ?_⟩, ⟨rfl, rfl, rfl, by simp [World.setCell], fun k hk _ h2 h3 => heap_setCell_other w ⟨sb, 0, none⟩ k _ h2⟩, fun k h2 => heap_setCell_other w ⟨sb, 0, none⟩ k _ h2, rfl⟩
  rw [← EN.out]
  exact own_kept OL.out (fun j hj => heap_setCell_other w ⟨sb, 0, none⟩ j _ (fun e => own_ne OL.out BX.out (by decide) (by rw [hj]; exact congrArg some e)))
end Go.Proofs.YtlbjmkljmhfjdaaGreat
namespace Go.Proofs.YtlbjmkljmhfjdaaGreat
open Go Go.Proofs Go.Shelf Go.RowKit Go.Lib Go.Sort
def Tryz.lays189_ren : Go.Shelf.Ren := ⟨fun | 189 => 218 | 125 => 220 | 257 => 243 | 128 => 252 | 129 => 253 | 294 => 272 | 295 => 273 | 296 => 274 | 297 => 275 | 298 => 276 | 299 => 277 | 216 => 278 | 300 => 279 | 301 => 280 | 328 => 301 | 329 => 282 | 330 => 283 | 331 => 302 | 332 => 303 | 215 => 254 | 343 => 308 | n => n, fun | 28 => 38 | 3 => 3 | 46 => 253 | 0 => 0 | 51 => 227 | 53 => 35 | 4 => 4 | 183 => 277 | 182 => 276 | 131 => 64 | 5 => 5 | 9 => 9 | 218 => 300 | 222 => 304 | 228 => 319 | 229 => 169 | n => n, fun | n => n⟩
theorem Tryz.lays189 : Go.Proofs.Lays.n189 Tryz.prog Tryz.lays189_ren := {
  mixed := by kernel_rfl
  f125 := Tryz.func220.trans (congrArg some (by kernel_rfl))
  f128 := Tryz.func252.trans (congrArg some (by kernel_rfl))
  f129 := Tryz.func253.trans (congrArg some (by kernel_rfl))
  f189 := Tryz.func218.trans (congrArg some (by kernel_rfl))
  f215 := Tryz.func254.trans (congrArg some (by kernel_rfl))
  f216 := Tryz.func278.trans (congrArg some (by kernel_rfl))
  f257 := Tryz.func243.trans (congrArg some (by kernel_rfl))
  f294 := Tryz.func272.trans (congrArg some (by kernel_rfl))
  f295 := Tryz.func273.trans (congrArg some (by kernel_rfl))
  f296 := Tryz.func274.trans (congrArg some (by kernel_rfl))
  f297 := Tryz.func275.trans (congrArg some (by kernel_rfl))
  f298 := Tryz.func276.trans (congrArg some (by kernel_rfl))
  f299 := Tryz.func277.trans (congrArg some (by kernel_rfl))
  f300 := Tryz.func279.trans (congrArg some (by kernel_rfl))
  f301 := Tryz.func280.trans (congrArg some (by kernel_rfl))
  f328 := Tryz.func301.trans (congrArg some (by kernel_rfl))
  f329 := Tryz.func282.trans (congrArg some (by kernel_rfl))
  f330 := Tryz.func283.trans (congrArg some (by kernel_rfl))
  f331 := Tryz.func302.trans (congrArg some (by kernel_rfl))
  f332 := Tryz.func303.trans (congrArg some (by kernel_rfl))
  f343 := Tryz.func308.trans (congrArg some (by kernel_rfl))
  t0 := Tryz.underlying0
  a0 := Tryz.isAgg0
  z0 := Tryz.sizeOf0
  v0 := Tryz.zeroValue0
  t3 := Tryz.underlying3
  a3 := Tryz.isAgg3
  z3 := Tryz.sizeOf3
  v3 := Tryz.zeroValue3
  t4 := Tryz.underlying4
  a4 := Tryz.isAgg4
  z4 := Tryz.sizeOf4
  v4 := Tryz.zeroValue4
  t5 := Tryz.underlying5
  a5 := Tryz.isAgg5
  z5 := Tryz.sizeOf5
  v5 := Tryz.zeroValue5
  t9 := Tryz.underlying9
  a9 := Tryz.isAgg9
  z9 := Tryz.sizeOf9
  v9 := Tryz.zeroValue9
  t28 := Tryz.underlying38
  a28 := Tryz.isAgg38
  z28 := Tryz.sizeOf38
  v28 := Tryz.zeroValue38
  t46 := Tryz.underlying253
  a46 := Tryz.isAgg253
  z46 := Tryz.sizeOf253
  v46 := Tryz.zeroValue253
  t51 := Tryz.underlying227
  a51 := Tryz.isAgg227
  z51 := Tryz.sizeOf227
  v51 := Tryz.zeroValue227
  t53 := Tryz.underlying35
  a53 := Tryz.isAgg35
  z53 := Tryz.sizeOf35
  v53 := Tryz.zeroValue35
  t131 := Tryz.underlying64
  a131 := Tryz.isAgg64
  z131 := Tryz.sizeOf64
  v131 := Tryz.zeroValue64
  t182 := Tryz.underlying276
  a182 := Tryz.isAgg276
  z182 := Tryz.sizeOf276
  v182 := Tryz.zeroValue276
  t183 := Tryz.underlying277
  a183 := Tryz.isAgg277
  z183 := Tryz.sizeOf277
  v183 := Tryz.zeroValue277
  t218 := Tryz.underlying300
  a218 := Tryz.isAgg300
  z218 := Tryz.sizeOf300
  v218 := Tryz.zeroValue300
  t222 := Tryz.underlying304
  a222 := Tryz.isAgg304
  z222 := Tryz.sizeOf304
  v222 := Tryz.zeroValue304
  t228 := Tryz.underlying319
  a228 := Tryz.isAgg319
  z228 := Tryz.sizeOf319
  v228 := Tryz.zeroValue319
  t229 := Tryz.underlying169
  a229 := Tryz.isAgg169
  z229 := Tryz.sizeOf169
  v229 := Tryz.zeroValue169 }
theorem Tryz.slices_Sort_int (blk off cap : Nat) (zs : List Int) (w : World) (hH : Holds (Value.int .i64) w blk off zs.toArray) (hblk : blk < w.heap.size) (hsz : zs.length < 4611686018427387904) :
    Calls Tryz.prog 218 #[.slice (some ⟨blk, off, none⟩) zs.length cap] w fun e w' =>
      e = .returned (.tuple #[]) ∧ ∃ n os, w' = grow (putRow (Value.int .i64) (Sort.ahead w n) blk off (zs.mergeSort fun x y => decide (x ≤ y)).toArray) os := Any.slices_Sort_int Tryz.lays189 blk off cap zs w hH hblk hsz
def Tryz.laysSlF6_f32_ren : Go.Shelf.Ren := ⟨fun | 6 => 175 | 15 => 220 | 14 => 219 | 28 => 252 | 29 => 253 | 20 => 244 | 21 => 245 | 22 => 246 | 23 => 247 | 24 => 248 | 25 => 249 | 26 => 250 | 27 => 251 | 46 => 281 | 47 => 282 | 48 => 283 | 49 => 284 | 50 => 285 | 57 => 304 | n => n, fun | 22 => 31 | 24 => 38 | 25 => 188 | 3 => 3 | 39 => 253 | 0 => 0 | 53 => 227 | 55 => 35 | 4 => 4 | 46 => 277 | 45 => 276 | 50 => 64 | 5 => 5 | 9 => 9 | 66 => 300 | 70 => 304 | 76 => 319 | 77 => 169 | n => n, fun | n => n⟩
theorem Tryz.laysSlF6_f32 : Go.Proofs.SlLaysF.n6 Tryz.prog Tryz.laysSlF6_f32_ren := {
  mixed := by kernel_rfl
  f6 := ⟨Tryz.f175.name, by decide, Tryz.func175.trans (congrArg some (by kernel_rfl))⟩
  f14 := ⟨Tryz.f219.name, by decide, Tryz.func219.trans (congrArg some (by kernel_rfl))⟩
  f15 := Tryz.func220.trans (congrArg some (by kernel_rfl))
  f20 := ⟨Tryz.f244.name, by decide, Tryz.func244.trans (congrArg some (by kernel_rfl))⟩
  f21 := ⟨Tryz.f245.name, by decide, Tryz.func245.trans (congrArg some (by kernel_rfl))⟩
  f22 := ⟨Tryz.f246.name, by decide, Tryz.func246.trans (congrArg some (by kernel_rfl))⟩
  f23 := ⟨Tryz.f247.name, by decide, Tryz.func247.trans (congrArg some (by kernel_rfl))⟩
  f24 := ⟨Tryz.f248.name, by decide, Tryz.func248.trans (congrArg some (by kernel_rfl))⟩
  f25 := ⟨Tryz.f249.name, by decide, Tryz.func249.trans (congrArg some (by kernel_rfl))⟩
  f26 := ⟨Tryz.f250.name, by decide, Tryz.func250.trans (congrArg some (by kernel_rfl))⟩
  f27 := ⟨Tryz.f251.name, by decide, Tryz.func251.trans (congrArg some (by kernel_rfl))⟩
  f28 := Tryz.func252.trans (congrArg some (by kernel_rfl))
  f29 := Tryz.func253.trans (congrArg some (by kernel_rfl))
  f46 := ⟨Tryz.f281.name, by decide, Tryz.func281.trans (congrArg some (by kernel_rfl))⟩
  f47 := Tryz.func282.trans (congrArg some (by kernel_rfl))
  f48 := Tryz.func283.trans (congrArg some (by kernel_rfl))
  f49 := ⟨Tryz.f284.name, by decide, Tryz.func284.trans (congrArg some (by kernel_rfl))⟩
  f50 := ⟨Tryz.f285.name, by decide, Tryz.func285.trans (congrArg some (by kernel_rfl))⟩
  f57 := ⟨Tryz.f304.name, by decide, Tryz.func304.trans (congrArg some (by kernel_rfl))⟩
  t0 := Tryz.underlying0
  a0 := Tryz.isAgg0
  z0 := Tryz.sizeOf0
  v0 := Tryz.zeroValue0
  t3 := Tryz.underlying3
  a3 := Tryz.isAgg3
  z3 := Tryz.sizeOf3
  v3 := Tryz.zeroValue3
  t4 := Tryz.underlying4
  a4 := Tryz.isAgg4
  z4 := Tryz.sizeOf4
  v4 := Tryz.zeroValue4
  t5 := Tryz.underlying5
  a5 := Tryz.isAgg5
  z5 := Tryz.sizeOf5
  v5 := Tryz.zeroValue5
  t9 := Tryz.underlying9
  a9 := Tryz.isAgg9
  z9 := Tryz.sizeOf9
  v9 := Tryz.zeroValue9
  t22 := Tryz.underlying31
  a22 := Tryz.isAgg31
  z22 := Tryz.sizeOf31
  v22 := Tryz.zeroValue31
  a24 := Tryz.isAgg38
  z24 := Tryz.sizeOf38
  t25 := Tryz.underlying188
  a25 := Tryz.isAgg188
  z25 := Tryz.sizeOf188
  v25 := Tryz.zeroValue188
  t39 := Tryz.underlying253
  a39 := Tryz.isAgg253
  z39 := Tryz.sizeOf253
  v39 := Tryz.zeroValue253
  t45 := Tryz.underlying276
  a45 := Tryz.isAgg276
  z45 := Tryz.sizeOf276
  v45 := Tryz.zeroValue276
  t46 := Tryz.underlying277
  a46 := Tryz.isAgg277
  z46 := Tryz.sizeOf277
  v46 := Tryz.zeroValue277
  t50 := Tryz.underlying64
  a50 := Tryz.isAgg64
  z50 := Tryz.sizeOf64
  v50 := Tryz.zeroValue64
  t53 := Tryz.underlying227
  a53 := Tryz.isAgg227
  z53 := Tryz.sizeOf227
  v53 := Tryz.zeroValue227
  t55 := Tryz.underlying35
  a55 := Tryz.isAgg35
  z55 := Tryz.sizeOf35
  v55 := Tryz.zeroValue35
  t66 := Tryz.underlying300
  a66 := Tryz.isAgg300
  z66 := Tryz.sizeOf300
  v66 := Tryz.zeroValue300
  t70 := Tryz.underlying304
  a70 := Tryz.isAgg304
  z70 := Tryz.sizeOf304
  v70 := Tryz.zeroValue304
  t76 := Tryz.underlying319
  a76 := Tryz.isAgg319
  z76 := Tryz.sizeOf319
  v76 := Tryz.zeroValue319
  t77 := Tryz.underlying169
  a77 := Tryz.isAgg169
  z77 := Tryz.sizeOf169
  v77 := Tryz.zeroValue169 }
theorem Tryz.slices_SortFunc {α : Type} [Inhabited α] (enc : α → Value) (h1 : OneCell enc) (cf : α → α → Int) (hO : SWO (ltOf cf)) (g : Nat) (cb : Array Value) (blk off cap : Nat) (d : Array α) (w : World) (eg : ∀ args w, (callFunc g args).run Tryz.prog w = .ok (.enter g args) w) (hcmp : CmpLays1 Tryz.prog g cb enc cf blk off d.size w) (hH : Holds enc w blk off d) (hblk : blk < w.heap.size) (hsz : d.size < 4611686018427387904) :
    Calls Tryz.prog 175 #[.slice (some ⟨blk, off, none⟩) d.size cap, .func (.func g) #[] cb] w fun e w' =>
      e = .returned (.tuple #[]) ∧ ∃ d' n os, PermIn 0 d.size d d' ∧ SortedIn (ltOf cf) 0 d.size d' ∧ w' = sortWorld enc w blk off n d' os := Any.slices_SortFunc Tryz.laysSlF6_f32 enc h1 cf hO g cb blk off cap d w eg hcmp hH hblk hsz
def Tryz.laysSlF06_f32_ren : Go.Shelf.Ren := ⟨fun | 6 => 175 | 15 => 220 | 14 => 219 | 28 => 252 | 29 => 253 | 20 => 244 | 21 => 245 | 22 => 246 | 23 => 247 | 24 => 248 | 25 => 249 | 26 => 250 | 27 => 251 | 46 => 281 | 47 => 282 | 48 => 283 | 49 => 284 | 50 => 285 | 57 => 304 | n => n, fun | 22 => 31 | 24 => 38 | 25 => 188 | 3 => 3 | 39 => 253 | 0 => 0 | 53 => 227 | 55 => 35 | 4 => 4 | 46 => 277 | 45 => 276 | 50 => 64 | 5 => 5 | 9 => 9 | 66 => 300 | 70 => 304 | 76 => 319 | 77 => 169 | n => n, fun | n => n⟩
theorem Tryz.laysSlF06_f32 : Go.Proofs.SlLaysF0.n6 Tryz.prog Tryz.laysSlF06_f32_ren := {
  mixed := by kernel_rfl
  f6 := ⟨Tryz.f175.name, by decide, Tryz.func175.trans (congrArg some (by kernel_rfl))⟩
  f14 := ⟨Tryz.f219.name, by decide, Tryz.func219.trans (congrArg some (by kernel_rfl))⟩
  f15 := Tryz.func220.trans (congrArg some (by kernel_rfl))
  f20 := ⟨Tryz.f244.name, by decide, Tryz.func244.trans (congrArg some (by kernel_rfl))⟩
  f21 := ⟨Tryz.f245.name, by decide, Tryz.func245.trans (congrArg some (by kernel_rfl))⟩
  f22 := ⟨Tryz.f246.name, by decide, Tryz.func246.trans (congrArg some (by kernel_rfl))⟩
  f23 := ⟨Tryz.f247.name, by decide, Tryz.func247.trans (congrArg some (by kernel_rfl))⟩
  f24 := ⟨Tryz.f248.name, by decide, Tryz.func248.trans (congrArg some (by kernel_rfl))⟩
  f25 := ⟨Tryz.f249.name, by decide, Tryz.func249.trans (congrArg some (by kernel_rfl))⟩
  f26 := ⟨Tryz.f250.name, by decide, Tryz.func250.trans (congrArg some (by kernel_rfl))⟩
  f27 := ⟨Tryz.f251.name, by decide, Tryz.func251.trans (congrArg some (by kernel_rfl))⟩
  f28 := Tryz.func252.trans (congrArg some (by kernel_rfl))
  f29 := Tryz.func253.trans (congrArg some (by kernel_rfl))
  f46 := ⟨Tryz.f281.name, by decide, Tryz.func281.trans (congrArg some (by kernel_rfl))⟩
  f47 := Tryz.func282.trans (congrArg some (by kernel_rfl))
  f48 := Tryz.func283.trans (congrArg some (by kernel_rfl))
  f49 := ⟨Tryz.f284.name, by decide, Tryz.func284.trans (congrArg some (by kernel_rfl))⟩
  f50 := ⟨Tryz.f285.name, by decide, Tryz.func285.trans (congrArg some (by kernel_rfl))⟩
  f57 := ⟨Tryz.f304.name, by decide, Tryz.func304.trans (congrArg some (by kernel_rfl))⟩
  t0 := Tryz.underlying0
  a0 := Tryz.isAgg0
  z0 := Tryz.sizeOf0
  v0 := Tryz.zeroValue0
  t3 := Tryz.underlying3
  a3 := Tryz.isAgg3
  z3 := Tryz.sizeOf3
  v3 := Tryz.zeroValue3
  t4 := Tryz.underlying4
  a4 := Tryz.isAgg4
  z4 := Tryz.sizeOf4
  v4 := Tryz.zeroValue4
  t5 := Tryz.underlying5
  a5 := Tryz.isAgg5
  z5 := Tryz.sizeOf5
  v5 := Tryz.zeroValue5
  t9 := Tryz.underlying9
  a9 := Tryz.isAgg9
  z9 := Tryz.sizeOf9
  v9 := Tryz.zeroValue9
  t22 := Tryz.underlying31
  a22 := Tryz.isAgg31
  z22 := Tryz.sizeOf31
  v22 := Tryz.zeroValue31
  t25 := Tryz.underlying188
  a25 := Tryz.isAgg188
  z25 := Tryz.sizeOf188
  v25 := Tryz.zeroValue188
  t39 := Tryz.underlying253
  a39 := Tryz.isAgg253
  z39 := Tryz.sizeOf253
  v39 := Tryz.zeroValue253
  t45 := Tryz.underlying276
  a45 := Tryz.isAgg276
  z45 := Tryz.sizeOf276
  v45 := Tryz.zeroValue276
  t46 := Tryz.underlying277
  a46 := Tryz.isAgg277
  z46 := Tryz.sizeOf277
  v46 := Tryz.zeroValue277
  t50 := Tryz.underlying64
  a50 := Tryz.isAgg64
  z50 := Tryz.sizeOf64
  v50 := Tryz.zeroValue64
  t53 := Tryz.underlying227
  a53 := Tryz.isAgg227
  z53 := Tryz.sizeOf227
  v53 := Tryz.zeroValue227
  t55 := Tryz.underlying35
  a55 := Tryz.isAgg35
  z55 := Tryz.sizeOf35
  v55 := Tryz.zeroValue35
  t66 := Tryz.underlying300
  a66 := Tryz.isAgg300
  z66 := Tryz.sizeOf300
  v66 := Tryz.zeroValue300
  t70 := Tryz.underlying304
  a70 := Tryz.isAgg304
  z70 := Tryz.sizeOf304
  v70 := Tryz.zeroValue304
  t76 := Tryz.underlying319
  a76 := Tryz.isAgg319
  z76 := Tryz.sizeOf319
  v76 := Tryz.zeroValue319
  t77 := Tryz.underlying169
  a77 := Tryz.isAgg169
  z77 := Tryz.sizeOf169
  v77 := Tryz.zeroValue169 }
theorem Tryz.slices_SortFunc_none {α : Type} [Inhabited α] (p : Option Addr) (cap : Nat) (fv : Value) (w : World) :
    Calls Tryz.prog 175 #[.slice p 0 cap, fv] w fun e w' => e = .returned (.tuple #[]) ∧ w' = w := AnyF.slices_SortFunc_none Tryz.laysSlF06_f32 p cap fv w
end Go.Proofs.YtlbjmkljmhfjdaaGreat

/- Rows of numbers in memory, appends, stores: helpers. Nothing here speaks of one program. -/
import Derived.Test.YtmlaepbmdfmgbaaGreatL5
import Derived.Maps.AppendAt
import Derived.Laws.OwnMore
import Derived.ArgAppend
import Derived.Deep.CutRange
import Derived.Test.YtmlaepbmdfmgbaaGreatK1
import Derived.Test.YtmlaepbmdfmgbaaGreatL1
import Derived.OwnWalkIn
import Derived.LoopIn
set_option linter.unusedSimpArgs false
set_option linter.unusedVariables false
namespace Go.Proofs.YtmlaepbmdfmgbaaGreat
open Go Go.RowKit
def intOf : Value → Int
  | .int _ n => n
  | _ => 0
theorem take_oneN {a : List Nat} {k : Nat} (h : k < a.length) : a.take (k + 1) = a.take k ++ [a.getD k 0] := by
  rw [List.take_add_one]
  simp [List.getD, List.getElem?_eq_getElem h]
end Go.Proofs.YtmlaepbmdfmgbaaGreat
namespace Go.Proofs.YtmlaepbmdfmgbaaGreat
open Go Go.RowKit Go.Maps
/-- Rows of numbers in memory. -/
structure Gph (w : World) (A : Option Addr) (vs : List Value) (L : List (List Int)) : Prop where
  len : vs.length = L.length
  out : Lies w A vs
  row : ∀ i, i < L.length → ∃ B c, vs.getD i undef = .slice B (L.getD i []).length c ∧ Lies w B (ints (L.getD i []))
  most : L.length ≤ 140737488351232
  mosts : ∀ i, i < L.length → (L.getD i []).length ≤ 140737488351232
theorem Gph.below {w w' : World} {A : Option Addr} {vs : List Value} {L : List (List Int)} (h : Gph w A vs L) (hb : Below w.heap.size w w') : Gph w' A vs L :=
  ⟨h.len, h.out.below hb, fun i hi => by obtain ⟨B, c, e, hl⟩ := h.row i hi; exact ⟨B, c, e, hl.below hb⟩, h.most, h.mosts⟩
/-- A row's place, and it. -/
theorem Gph.at_ {w : World} {A : Option Addr} {vs : List Value} {L : List (List Int)} (h : Gph w A vs L) {i : Nat} (hi : i < L.length) :
    ∃ b o B c, A = some ⟨b, o, none⟩ ∧ b < w.heap.size ∧ w.cell? ⟨b, o + i, none⟩ = some (.slice B (L.getD i []).length c) ∧ Lies w B (ints (L.getD i [])) := by
  have hv : i < vs.length := by rw [h.len]; exact hi
  obtain ⟨b, o, e, hb, hc⟩ := h.out (by omega)
  obtain ⟨B, c, e2, hl⟩ := h.row i hi
  refine ⟨b, o, B, c, e, hb, ?_, hl⟩
  rw [hc i hv, ← e2]
  simp [List.getD, List.getElem?_eq_getElem hv]
theorem Gph.lies {w : World} {A : Option Addr} {vs : List Value} {L : List (List Int)} (h : Gph w A vs L) {i : Nat} (hi : i < L.length) {B : Option Addr} {n c : Nat} (e : vs.getD i undef = .slice B n c) : n = (L.getD i []).length ∧ Lies w B (ints (L.getD i [])) := by
  obtain ⟨B', c', e2, hl⟩ := h.row i hi
  rw [e] at e2
  simp only [Value.slice.injEq] at e2
  obtain ⟨rfl, h2, _⟩ := e2
  exact ⟨h2, hl⟩
theorem Gph.cell {w : World} {A : Option Addr} {vs : List Value} {L : List (List Int)} (h : Gph w A vs L) {i : Nat} (hi : i < L.length) : ∃ b o, A = some ⟨b, o, none⟩ ∧ b < w.heap.size ∧ w.cell? ⟨b, o + i, none⟩ = some (vs.getD i undef) := by
  have hv : i < vs.length := by rw [h.len]; exact hi
  obtain ⟨b, o, e, hb, hc⟩ := h.out (by omega)
  refine ⟨b, o, e, hb, ?_⟩
  rw [hc i hv]
  simp [List.getD, List.getElem?_eq_getElem hv]
def lacksB (n : Nat) (a : Int) : Bool := decide (a < 0 ∨ (n : Int) ≤ a)
theorem lacks_any (A : Option Addr) (n c : Nat) (a : Int) (hn : n ≤ 140737488351232) (w : World) : Calls Tryz.prog 137 #[.slice A n c, .int .i64 a] w fun e w' => e = .returned (.bool (lacksB n a)) ∧ w' = w := by
  go_enter Tryz.func137, Tryz.ntmps137
  go_wp2_with fail
  all_goals go_ret
  all_goals exact ⟨ret_bool (by unfold lacksB; rw [Bool.eq_iff_iff]; simp; try omega), rfl⟩
/-- A row does not rise, or has what is no number. -/
def wrongR (n : Nat) : Int → List Int → Bool
  | _, [] => false
  | last, b :: l => decide (b ≤ last) || lacksB n b || wrongR n b l
def lastOf (l : List Int) (j : Nat) : Int := if j = 0 then -1 else l.getD (j - 1) 0
theorem drop_getD {α : Type} {l : List α} {j : Nat} {d : α} (h : j < l.length) : l.drop j = l.getD j d :: l.drop (j + 1) := by
  rw [List.drop_eq_getElem_cons h]; simp [List.getD, List.getElem?_eq_getElem h]
set_option maxRecDepth 100000 in
set_option maxHeartbeats 2000000 in
theorem wrong_any (A B : Option Addr) (n c d : Nat) (l : List Int) (hn : n ≤ 140737488351232) (hl : l.length ≤ 140737488351232) (w : World) (hB : Lies w B (ints l)) :
    Calls Tryz.prog 116 #[.slice A n c, .slice B l.length d] w fun e w' => e = .returned (.bool (wrongR n (-1) l)) ∧ w' = w := by
  obtain ⟨m, em⟩ : ∃ m, m = l.length := ⟨_, rfl⟩
  have EM := Lib.hid em
  have LC := Lib.hid (fun a w' => lacks_any A n c a hn w')
  have CL := Lib.hid (fun k (hk : k < m) => lies_cell hB (k := k) (by rw [← em]; exact hk))
  have DR := Lib.hid (fun k (hk : k < m) => drop_getD (l := l) (j := k) (d := 0) (by rw [← em]; exact hk))
  have DE := Lib.hid (show l.drop m = [] from by rw [em]; exact List.drop_length)
  obtain ⟨R, eR⟩ : ∃ R, R = wrongR n (-1) l := ⟨_, rfl⟩
  have ER := Lib.hid eR
  rw [← em, ← eR]
  rw [← em] at hl
  clear hB em hn eR
  go_enter Tryz.func116, Tryz.ntmps116
  go_wp2_with fail
  go_loopw [10, 5, 7] (fun i last _ wr => ∃ (k : Nat) (x : Int), k ≤ m ∧ i = .int .i64 k ∧ last = .int .i64 x ∧ wrongR n x (l.drop k) = R ∧ wr = w) (fun i _ _ _ => m - (intOf i).toNat)
  case atStart => exact ⟨0, -1, by omega, rfl, rfl, by rw [ER.out]; rfl, rfl⟩
  case round =>
    obtain ⟨k, x, hk, rfl, rfl, hr, rfl⟩ := hrel
    by_cases hlt : k < m
    · have hlt2 : (k : Int) < m := by omega
      obtain ⟨b1, o1, rfl, hb1, c1⟩ := CL.out k hlt
      rw [DR.out k hlt] at hr
      generalize l.getD k 0 = y at c1 hr
      have hr2 : (decide (y ≤ x) || lacksB n y || wrongR n y (l.drop (k + 1))) = R := hr
      have HR := Lib.hid hr2
      have L1 := Lib.hid (LC.out y wr)
      generalize lacksB n y = q at HR L1
      clear hr hr2
      by_cases h1 : y ≤ x
      · go_wp2_with (go_at_call 137; (with_reducible refine L1.out.mono ?_); rintro e w1 ⟨rfl, rfl⟩)
        go_ret
        exact ⟨ret_bool (by rw [← HR.out]; simp [h1]), rfl⟩
      · cases q with
        | true =>
          go_wp2_with (go_at_call 137; (with_reducible refine L1.out.mono ?_); rintro e w1 ⟨rfl, rfl⟩)
          go_ret
          exact ⟨ret_bool (by rw [← HR.out]; simp [h1]), rfl⟩
        | false =>
          go_wp2_with (go_at_call 137; (with_reducible refine L1.out.mono ?_); rintro e w1 ⟨rfl, rfl⟩)
          go_roundw
          case rel => exact ⟨k + 1, y, by omega, by go_num, by first | rfl | trivial, by rw [← HR.out, show decide (y ≤ x) = false from decide_eq_false (by omega)]; simp, by first | rfl | trivial⟩
          case measure => simp [intOf]; omega
    · obtain rfl : k = m := by omega
      have hlt2 : ¬ (k : Int) < k := by omega
      rw [DE.out] at hr
      have HR := Lib.hid hr
      clear hr
      go_wp2_with fail
      go_ret
      exact ⟨ret_bool (by rw [← HR.out]; rfl), rfl⟩
/-- Whether rows of numbers are a right graph. -/
def rightL (L : List (List Int)) : Bool := decide (L.length ≤ 64) && !(L.any fun l => wrongR L.length (-1) l)
set_option maxRecDepth 100000 in
set_option maxHeartbeats 2000000 in
theorem indexWrong_any (A : Option Addr) (c n : Nat) (vs : List Value) (L : List (List Int)) (w : World) (hG : Gph w A vs L) (en : n = L.length) :
    Calls Tryz.prog 136 #[.slice A n c, .func (.func 116) #[.slice A n c] #[]] w fun e w' => (∃ i : Int, e = .returned (.int .i64 i) ∧ decide (0 ≤ i) = L.any fun l => wrongR n (-1) l) ∧ w' = w := by
  have EN := Lib.hid en
  have AT := Lib.hid (fun i (hi : i < n) => hG.at_ (i := i) (by rw [← en]; exact hi))
  have hn : n ≤ 140737488351232 := by rw [en]; exact hG.most
  have WR := Lib.hid (fun (B : Option Addr) d l (hl : l.length ≤ 140737488351232) (hB : Lies w B (ints l)) => wrong_any A B n c d l hn hl w hB)
  have MO := Lib.hid (fun i (hi : i < n) => hG.mosts i (by rw [← en]; exact hi))
  have AN := Lib.hid (fun i (hi : i < n) => show (L.take (i + 1)).any (fun l => wrongR n (-1) l) = ((L.take i).any (fun l => wrongR n (-1) l) || wrongR n (-1) (L.getD i [])) from by
    rw [List.take_add_one]
    rw [List.any_append]
    simp [List.getD, List.getElem?_eq_getElem (show i < L.length by omega)])
  have AI := Lib.hid (fun i (hi : i < n) (h : wrongR n (-1) (L.getD i []) = true) => show (L.any fun l => wrongR n (-1) l) = true from by
    rw [List.any_eq_true]
    have hi' : i < L.length := by omega
    exact ⟨L.getD i [], by simp [List.getD, List.getElem?_eq_getElem hi'], h⟩)
  clear hG en
  go_enter Tryz.func136, Tryz.ntmps136
  go_wp2_with fail
  go_loopw [8, 5] (fun i _ wr => ∃ (k : Nat), k ≤ n ∧ i = .int .i64 k ∧ ((L.take k).any fun l => wrongR n (-1) l) = false ∧ wr = w) (fun i _ _ => n - (intOf i).toNat)
  case atStart => exact ⟨0, by omega, rfl, rfl, rfl⟩
  case round =>
    obtain ⟨k, hk, rfl, hr, rfl⟩ := hrel
    have HR := Lib.hid hr
    clear hr
    by_cases hlt : k < n
    · have hlt2 : (k : Int) < n := by omega
      obtain ⟨b1, o1, B1, d1, rfl, hb1, c1, hl1⟩ := AT.out k hlt
      have W1 := Lib.hid (WR.out B1 d1 _ (MO.out k hlt) hl1)
      have A1 := Lib.hid (AN.out k hlt)
      have A2 := Lib.hid (AI.out k hlt)
      obtain ⟨q, eq⟩ : ∃ q, q = wrongR n (-1) (L.getD k []) := ⟨_, rfl⟩
      rw [← eq] at W1 A1 A2
      generalize (L.getD k []).length = ll at c1 W1
      clear hl1 eq
      cases q with
      | true =>
        go_wp2_with (go_at_call 116; (with_reducible refine W1.out.mono ?_); rintro e w1 ⟨rfl, rfl⟩)
        go_ret
        refine ⟨⟨_, rfl, ?_⟩, rfl⟩
        rw [A2.out (by first | rfl | trivial)]
        simp
      | false =>
        go_wp2_with (go_at_call 116; (with_reducible refine W1.out.mono ?_); rintro e w1 ⟨rfl, rfl⟩)
        go_roundw
        case rel => exact ⟨k + 1, by omega, by go_num, by rw [A1.out, HR.out]; rfl, by first | rfl | trivial⟩
        case measure => simp [intOf]; omega
    · obtain rfl : k = n := by omega
      have hlt2 : ¬ (k : Int) < k := by omega
      go_wp2_with fail
      go_ret
      refine ⟨⟨_, rfl, ?_⟩, rfl⟩
      have := HR.out
      have e := EN.out
      rw [List.take_of_length_le (by omega)] at this
      rw [this]
      rfl
theorem containsWrong_any (A : Option Addr) (c n : Nat) (vs : List Value) (L : List (List Int)) (w : World) (hG : Gph w A vs L) (en : n = L.length) :
    Calls Tryz.prog 115 #[.slice A n c, .func (.func 116) #[.slice A n c] #[]] w fun e w' => e = .returned (.bool (L.any fun l => wrongR n (-1) l)) ∧ w' = w := by
  have C := Lib.hid (indexWrong_any A c n vs L w hG en)
  clear hG en
  go_enter Tryz.func115, Tryz.ntmps115
  go_wp2_with (go_at_call 136; (with_reducible refine C.out.mono ?_); rintro e w1 ⟨⟨i, rfl, hi⟩, rfl⟩; have HI := Lib.hid hi; clear hi)
  go_ret
  exact ⟨ret_bool (by rw [← HI.out]), rfl⟩
set_option maxHeartbeats 1000000 in
theorem c_right_any (A : Option Addr) (c : Nat) (vs : List Value) (L : List (List Int)) (w : World) (hG : Gph w A vs L) :
    Calls Tryz.prog 101 #[.slice A L.length c] w fun e w' => e = .returned (.bool (rightL L)) ∧ w' = w := by
  obtain ⟨n, en⟩ : ∃ n, n = L.length := ⟨_, rfl⟩
  have hn : n ≤ 140737488351232 := by rw [en]; exact hG.most
  have C := Lib.hid (containsWrong_any A c n vs L w hG en)
  have ER := Lib.hid (show rightL L = (decide (n ≤ 64) && !(L.any fun l => wrongR n (-1) l)) from by rw [en]; rfl)
  obtain ⟨R, eR⟩ : ∃ R, R = rightL L := ⟨_, rfl⟩
  rw [← eR] at ER ⊢
  rw [← en]
  generalize (L.any fun l => wrongR n (-1) l) = q at C ER
  clear hG en eR
  by_cases h : n ≤ 64
  · have h2 : (n : Int) ≤ 64 := by omega
    go_enter Tryz.func101, Tryz.ntmps101
    go_wp2_with (go_at_call 115; (with_reducible refine C.out.mono ?_); rintro e w1 ⟨rfl, rfl⟩)
    go_ret
    exact ⟨ret_bool (by rw [ER.out]; simp [h]), rfl⟩
  · have h2 : ¬ (n : Int) ≤ 64 := by omega
    go_enter Tryz.func101, Tryz.ntmps101
    go_wp2_with (go_at_call 115; (with_reducible refine C.out.mono ?_); rintro e w1 ⟨rfl, rfl⟩)
    go_ret
    exact ⟨ret_bool (by rw [ER.out]; simp [h]), rfl⟩
theorem graphOf_any (A : Option Addr) (c : Nat) (vs : List Value) (L : List (List Int)) (w : World) (hG : Gph w A vs L) :
    Calls Tryz.prog 76 #[.slice A L.length c] w fun e w' => e = .returned (.tuple #[if rightL L then .slice A L.length c else .slice none 0 0, .bool (rightL L)]) ∧ w' = w := by
  have C := Lib.hid (c_right_any A c vs L w hG)
  generalize rightL L = R at C ⊢
  generalize L.length = n at C ⊢
  clear hG
  cases R with
  | true =>
    go_enter Tryz.func76, Tryz.ntmps76
    go_wp2_with (go_at_call 101; (with_reducible refine C.out.mono ?_); rintro e w1 ⟨rfl, rfl⟩)
    go_ret2
    exact ⟨rfl, rfl⟩
  | false =>
    go_enter Tryz.func76, Tryz.ntmps76
    go_wp2_with (go_at_call 101; (with_reducible refine C.out.mono ?_); rintro e w1 ⟨rfl, rfl⟩)
    go_ret2
    exact ⟨rfl, rfl⟩
theorem c_to_any (A : Option Addr) (c : Nat) (vs : List Value) (L : List (List Int)) (a : Nat) (ha : a < L.length) (w : World) (hG : Gph w A vs L) :
    Calls Tryz.prog 126 #[.slice A L.length c, .int .i64 a] w fun e w' => e = .returned (vs.getD a undef) ∧ w' = w := by
  obtain ⟨n, en⟩ : ∃ n, n = L.length := ⟨_, rfl⟩
  rw [← en] at ha ⊢
  have hn : n ≤ 140737488351232 := by rw [en]; exact hG.most
  obtain ⟨B, d, e1, _⟩ := hG.row a (by omega)
  obtain ⟨b, o, B', d', rfl, hb, c1, _⟩ := hG.at_ (i := a) (by omega)
  obtain ⟨b2, o2, e2, _, hc⟩ := hG.out (by rw [hG.len]; omega)
  cases e2
  have c2 := hc a (by rw [hG.len]; omega)
  rw [c1] at c2
  have e3 : vs.getD a undef = .slice B' (L.getD a []).length d' := by simp [List.getD, ← c2]
  rw [e3]
  generalize (L.getD a []).length = q at c1
  have ha2 : (a : Int) < n := by omega
  clear hG en e1 c2 hc e3
  go_enter Tryz.func126, Tryz.ntmps126
  go_wp2_with fail
  go_ret
  exact ⟨rfl, rfl⟩
end Go.Proofs.YtmlaepbmdfmgbaaGreat
namespace Go.Proofs.YtmlaepbmdfmgbaaGreat
open Go Go.RowKit Go.Maps
/-- A right graph. -/
structure RG (G : List (List Nat)) : Prop where
  most : G.length ≤ 64
  rise : ∀ i, (G.getD i []).Pairwise (· < ·)
  lt : ∀ i b, b ∈ G.getD i [] → b < G.length
def adjG (G : List (List Nat)) (a : Nat) : List Nat := G.getD a []
theorem RG.inR {G : List (List Nat)} (h : RG G) : InR (adjG G) G.length := fun a b hb => by
  refine ⟨?_, h.lt a b hb⟩
  refine Classical.byContradiction fun hc => ?_
  have : adjG G a = [] := by simp [adjG, List.getD, List.getElem?_eq_none (Nat.le_of_not_lt hc)]
  rw [this] at hb; cases hb
theorem RG.nodup {G : List (List Nat)} (h : RG G) (a : Nat) : (adjG G a).Nodup := (h.rise a).imp fun h => Nat.ne_of_lt h
theorem rises_len : ∀ (l : List Nat) (n : Nat), l.Pairwise (· < ·) → (∀ x ∈ l, x < n) → l.length ≤ n := fun l n hl hn => by
  have hp : l.Perm ((List.range n).filter fun q => l.contains q) := (List.perm_ext_iff_of_nodup (hl.imp fun h => Nat.ne_of_lt h) (List.Pairwise.filter _ List.nodup_range)).2 fun q => by
    rw [List.mem_filter, List.mem_range, List.contains_iff_mem]
    exact ⟨fun hq => ⟨hn q hq, hq⟩, fun hq => hq.2⟩
  have h1 := hp.length_eq
  have h2 := List.length_filter_le (fun q => l.contains q) (List.range n)
  rw [List.length_range] at h2
  omega
theorem RG.len {G : List (List Nat)} (h : RG G) (a : Nat) : (adjG G a).length ≤ 64 := Nat.le_trans (rises_len _ _ (h.rise a) (h.lt a)) h.most
theorem wrong_iff (n : Nat) : ∀ (l : List Int) (last : Int), wrongR n last l = false ↔ l.Pairwise (· < ·) ∧ ∀ x ∈ l, last < x ∧ 0 ≤ x ∧ x < n
  | [], last => by simp [wrongR]
  | b :: l, last => by
    simp only [wrongR, Bool.or_eq_false_iff, wrong_iff n l b, List.pairwise_cons, List.mem_cons, decide_eq_false_iff_not, lacksB]
    constructor
    · rintro ⟨⟨h1, h2⟩, h3, h4⟩
      refine ⟨⟨fun x hx => (h4 x hx).1, h3⟩, fun x hx => ?_⟩
      rcases hx with rfl | hx
      · omega
      · have := h4 x hx; omega
    · rintro ⟨⟨h1, h2⟩, h3⟩
      have := h3 b (.inl rfl)
      refine ⟨⟨by omega, by omega⟩, h2, fun x hx => ?_⟩
      have := h3 x (.inr hx)
      have := h1 x hx
      omega
theorem c_nums_rise {l : List Nat} : (nums l).Pairwise (· < ·) ↔ l.Pairwise (· < ·) := by
  unfold nums
  rw [List.pairwise_map]
  constructor
  · exact fun h => h.imp fun h => by omega
  · exact fun h => h.imp fun h => by omega
theorem getD_map_nums (G : List (List Nat)) (i : Nat) : (G.map nums).getD i [] = nums (G.getD i []) := by
  simp only [List.getD, List.getElem?_map]
  cases G[i]? <;> rfl
theorem right_graph {L : List (List Int)} (h : rightL L = true) : ∃ G, RG G ∧ L = G.map nums := by
  simp only [rightL, Bool.and_eq_true, decide_eq_true_eq, Bool.not_eq_true', List.any_eq_false] at h
  obtain ⟨h1, h2⟩ := h
  have h3 : ∀ l ∈ L, l.Pairwise (· < ·) ∧ ∀ x ∈ l, -1 < x ∧ 0 ≤ x ∧ x < L.length := fun l hl => (wrong_iff L.length l (-1)).1 (by simpa using h2 l hl)
  have e : L = (L.map fun l => l.map Int.toNat).map nums := by
    rw [List.map_map]
    conv => lhs; rw [← List.map_id L]
    refine List.map_congr_left fun l hl => ?_
    simp only [id, Function.comp_def, nums, List.map_map]
    conv => lhs; rw [← List.map_id l]
    refine List.map_congr_left fun x hx => ?_
    have := (h3 l hl).2 x hx
    simp only [id]; omega
  obtain ⟨G, hG⟩ : ∃ G, G = L.map fun l => l.map Int.toNat := ⟨_, rfl⟩
  rw [← hG] at e
  have hlen : G.length = L.length := by rw [e]; simp
  have key : ∀ i, (G.getD i []).Pairwise (· < ·) ∧ ∀ b ∈ G.getD i [], b < G.length := fun i => by
    by_cases hi : i < G.length
    · have hm : nums (G.getD i []) ∈ L := by
        rw [← getD_map_nums, ← e]
        have hi' : i < L.length := by omega
        simp [List.getD, List.getElem?_eq_getElem hi']
      obtain ⟨a1, a2⟩ := h3 _ hm
      refine ⟨c_nums_rise.1 a1, fun b hb => ?_⟩
      have := (a2 (b : Int) (List.mem_map.2 ⟨b, hb, rfl⟩)).2.2
      omega
    · have : G.getD i [] = [] := by simp [List.getD, List.getElem?_eq_none (Nat.le_of_not_lt hi)]
      rw [this]; simp
  exact ⟨G, ⟨by omega, fun i => (key i).1, fun i => (key i).2⟩, e⟩
theorem RG.right {G : List (List Nat)} (h : RG G) : rightL (G.map nums) = true := by
  simp only [rightL, Bool.and_eq_true, decide_eq_true_eq, Bool.not_eq_true', List.any_eq_false, List.length_map]
  refine ⟨h.most, fun l hl => ?_⟩
  have := (wrong_iff G.length l (-1)).2
  obtain ⟨k, hk, rfl⟩ := List.mem_map.1 hl
  obtain ⟨i, hi, rfl⟩ := List.getElem_of_mem hk
  have e : G[i] = G.getD i [] := by simp [List.getD, List.getElem?_eq_getElem hi]
  rw [e]
  rw [e] at this
  rw [this ⟨c_nums_rise.2 (h.rise i), fun x hx => ?_⟩]
  · simp
  · obtain ⟨b, hb, rfl⟩ := List.mem_map.1 hx
    have := h.lt i b hb
    omega
/-- So many links turned round. -/
def trnTo (E : List (Nat × Nat)) (n k : Nat) : List (List Nat) := (List.range n).map fun b => ((E.take k).filter fun e => e.2 == b).map Prod.fst
def lnkG (G : List (List Nat)) : List (Nat × Nat) := lnk (adjG G) G.length
/-- The graph turned round. -/
def trnG (G : List (List Nat)) : List (List Nat) := trnTo (lnkG G) G.length (lnkG G).length
theorem trnTo_len (E : List (Nat × Nat)) (n k : Nat) : (trnTo E n k).length = n := by simp [trnTo]
theorem trnTo_at {E : List (Nat × Nat)} {n k b : Nat} (h : b < n) : (trnTo E n k).getD b [] = ((E.take k).filter fun e => e.2 == b).map Prod.fst := by simp [trnTo, List.getD, h]
theorem trnTo_zero (E : List (Nat × Nat)) (n : Nat) : trnTo E n 0 = List.replicate n [] := by
  refine List.ext_getElem (by simp [trnTo]) fun i h1 h2 => ?_
  simp [trnTo]
theorem trnTo_step {E : List (Nat × Nat)} {n k : Nat} (hk : k < E.length) (hb : (E.getD k (0, 0)).2 < n) : trnTo E n (k + 1) = (trnTo E n k).set (E.getD k (0, 0)).2 ((trnTo E n k).getD (E.getD k (0, 0)).2 [] ++ [(E.getD k (0, 0)).1]) := by
  have e : E.take (k + 1) = E.take k ++ [E.getD k (0, 0)] := by rw [List.take_add_one]; simp [List.getD, List.getElem?_eq_getElem hk]
  generalize E.getD k (0, 0) = x at *
  refine List.ext_getElem (by simp [trnTo]) fun i h1 h2 => ?_
  have hi : i < n := by simpa [trnTo] using h1
  rw [List.getElem_set]
  have a1 : (trnTo E n (k + 1))[i] = ((E.take (k + 1)).filter fun e => e.2 == i).map Prod.fst := by simp [trnTo]
  have a2 : ∀ h, (trnTo E n k)[i]'h = ((E.take k).filter fun e => e.2 == i).map Prod.fst := fun h => by simp [trnTo]
  rw [a1, e, List.filter_append, List.map_append]
  by_cases h : x.2 = i
  · subst h
    rw [if_pos rfl, trnTo_at hb]
    simp
  · rw [if_neg h, a2]
    simp [h]
theorem trnG_len (G : List (List Nat)) : (trnG G).length = G.length := trnTo_len _ _ _
theorem trnG_at {G : List (List Nat)} {b : Nat} (h : b < G.length) : adjG (trnG G) b = ((lnkG G).filter fun e => e.2 == b).map Prod.fst := by
  unfold adjG trnG
  rw [trnTo_at h, List.take_length]
theorem RG.trn {G : List (List Nat)} (h : RG G) : c_Trn (adjG G) (adjG (trnG G)) := fun a b => by
  by_cases hb : b < G.length
  · rw [trnG_at hb]
    simp only [List.mem_map, List.mem_filter, beq_iff_eq]
    constructor
    · intro hab
      exact ⟨(a, b), ⟨(mem_lnk h.inR).2 hab, rfl⟩, rfl⟩
    · rintro ⟨⟨x, y⟩, ⟨h1, rfl⟩, rfl⟩
      exact (mem_lnk h.inR).1 h1
  · constructor
    · intro hab; exact absurd (h.lt a b hab) hb
    · intro hab
      have : adjG (trnG G) b = [] := by simp [adjG, List.getD, List.getElem?_eq_none (show (trnG G).length ≤ b by rw [trnG_len]; omega)]
      rw [this] at hab; cases hab
theorem lnkG_rise {G : List (List Nat)} (h : RG G) : (lnkG G).Pairwise fun e f => e.1 < f.1 ∨ (e.1 = f.1 ∧ e.2 < f.2) := by
  unfold lnkG lnk
  rw [List.pairwise_flatMap]
  refine ⟨fun a _ => ?_, List.pairwise_lt_range.imp fun {a b} hab e he f hf => ?_⟩
  · rw [List.pairwise_map]
    exact (h.rise a).imp fun h => .inr ⟨rfl, h⟩
  · obtain ⟨_, _, rfl⟩ := List.mem_map.1 he
    obtain ⟨_, _, rfl⟩ := List.mem_map.1 hf
    exact .inl hab
theorem RG.turned {G : List (List Nat)} (h : RG G) : RG (trnG G) := by
  refine ⟨by rw [trnG_len]; exact h.most, fun i => ?_, fun i b hb => ?_⟩
  · by_cases hi : i < G.length
    · show (adjG (trnG G) i).Pairwise _
      rw [trnG_at hi, List.pairwise_map]
      refine (List.Pairwise.filter _ (lnkG_rise h)).imp_of_mem fun {e f} he hf hef => ?_
      have h1 := (List.mem_filter.1 he).2
      have h2 := (List.mem_filter.1 hf).2
      simp only [beq_iff_eq] at h1 h2
      omega
    · have : (trnG G).getD i [] = [] := by simp [List.getD, List.getElem?_eq_none (show (trnG G).length ≤ i by rw [trnG_len]; omega)]
      rw [this]; simp
  · rw [trnG_len]
    exact (h.inR _ _ ((h.trn b i).2 hb)).1
theorem graph_ext {G H : List (List Nat)} (h : RG G) (k : RG H) (hl : G.length = H.length) (he : ∀ a b, b ∈ adjG G a ↔ b ∈ adjG H a) : G = H := by
  refine List.ext_getElem hl fun i h1 h2 => ?_
  have e1 : G[i] = adjG G i := by simp [adjG, List.getD, List.getElem?_eq_getElem h1]
  have e2 : H[i] = adjG H i := by simp [adjG, List.getD, List.getElem?_eq_getElem h2]
  rw [e1, e2]
  exact rises_eq (h.rise i) (k.rise i) (he i)
theorem RG.twice {G : List (List Nat)} (h : RG G) : trnG (trnG G) = G :=
  graph_ext h.turned.turned h (by rw [trnG_len, trnG_len]) fun a b => by rw [← h.turned.trn b a, ← h.trn a b]
theorem lnkG_len {G : List (List Nat)} (h : RG G) : (lnkG G).length ≤ 4096 := by
  unfold lnkG lnk
  rw [List.length_flatMap]
  have : ∀ (l : List Nat), (l.map fun a => ((adjG G a).map fun b => (a, b)).length).sum ≤ 64 * l.length := fun l => by
    induction l with
    | nil => simp
    | cons a l ih =>
      simp only [List.map_cons, List.sum_cons, List.length_cons, List.length_map] at ih ⊢
      have := h.len a
      omega
  have h1 := this (List.range G.length)
  rw [List.length_range] at h1
  have := h.most
  omega
end Go.Proofs.YtmlaepbmdfmgbaaGreat
namespace Go.Proofs.YtmlaepbmdfmgbaaGreat
open Go Go.RowKit Go.Maps
attribute [local go_sem] Oper.semAt_some
def offG (G : List (List Nat)) (a : Nat) : Nat := (lnk (adjG G) a).length
theorem off_next (G : List (List Nat)) (a : Nat) : offG G (a + 1) = offG G a + (adjG G a).length := by
  unfold offG lnk
  rw [List.range_succ, List.flatMap_append]
  simp
theorem lnk_app (G : List (List Nat)) (a : Nat) : ∀ d, ∃ R, lnk (adjG G) (a + 1 + d) = lnk (adjG G) a ++ ((adjG G a).map fun b => (a, b)) ++ R
  | 0 => ⟨[], by unfold lnk; rw [List.range_succ, List.flatMap_append]; simp⟩
  | d + 1 => by
    obtain ⟨R, hR⟩ := lnk_app G a d
    refine ⟨R ++ (adjG G (a + 1 + d)).map fun b => (a + 1 + d, b), ?_⟩
    have : lnk (adjG G) (a + 1 + (d + 1)) = lnk (adjG G) (a + 1 + d) ++ (adjG G (a + 1 + d)).map fun b => (a + 1 + d, b) := by
      unfold lnk
      rw [show a + 1 + (d + 1) = (a + 1 + d) + 1 by omega, List.range_succ, List.flatMap_append]
      simp
    rw [this, hR, List.append_assoc]
theorem off_at {G : List (List Nat)} {a j : Nat} (ha : a < G.length) (hj : j < (adjG G a).length) : (lnkG G).getD (offG G a + j) (0, 0) = (a, (adjG G a).getD j 0) ∧ offG G a + j < (lnkG G).length := by
  obtain ⟨R, hR⟩ := lnk_app G a (G.length - (a + 1))
  rw [show a + 1 + (G.length - (a + 1)) = G.length by omega] at hR
  unfold lnkG offG
  rw [hR]
  refine ⟨?_, by simp only [List.length_append, List.length_map]; omega⟩
  simp only [List.getD]
  rw [List.getElem?_append_left (by simp only [List.length_append, List.length_map]; omega), List.getElem?_append_right (by omega), Nat.add_sub_cancel_left, List.getElem?_map, List.getElem?_eq_getElem hj]
  simp
theorem off_all (G : List (List Nat)) : offG G G.length = (lnkG G).length := rfl
def encE (E : List (Nat × Nat)) (k : Nat) : Array Value := #[.int .i64 ((E.getD k (0, 0)).1 : Nat), .int .i64 ((E.getD k (0, 0)).2 : Nat)]
/-- What the links stand on: T is what may not turn. -/
structure LnkR (w : World) (bx : Nat) (A : Option Addr) (c : Nat) (vs : List Value) (G : List (List Nat)) (T : Nat → Prop) : Prop where
  at_ : ∀ W' : World, w.heap.size ≤ W'.heap.size → (∀ j, T j → W'.heap[j]? = w.heap[j]?) → Blk W' bx #[.slice A G.length c] 126 ∧ Gph W' A vs (G.map nums)
  lt : ∀ j, T j → j < w.heap.size
theorem links_make (A : Option Addr) (n c : Nat) (w : World) : Calls Tryz.prog 106 #[.slice A n c] w fun e w' => e = .returned (.func (.func 125) #[] #[.pointer (some ⟨w.heap.size, 0, none⟩)]) ∧ w' = w.alloc (.cells #[.slice A n c] 126) := by
  go_enter Tryz.func106, Tryz.ntmps106
  go_wp2_with fail
  go_ret
  exact ⟨rfl, rfl⟩
set_option maxRecDepth 100000 in
set_option maxHeartbeats 4000000 in
theorem links_in (w : World) (bx : Nat) (A : Option Addr) (c : Nat) (vs : List Value) (G : List (List Nat)) (T : Nat → Prop) (hR : RG G) (hO : LnkR w bx A c vs G T) :
    SeqX 12 Tryz.prog 125 #[.pointer (some ⟨bx, 0, none⟩)] (encE (lnkG G)) (lnkG G).length T w := by
  intro l J C W hW hF hT hY h0
  have AT := Lib.hid (fun A' (k : Keep C W A') => (show Blk A' bx #[.slice A G.length c] 126 ∧ Gph A' A vs (G.map nums) from by
    have hlt : ∀ j, T j → j < W.heap.size := fun j hj => Nat.lt_of_lt_of_le (hO.lt j hj) hW.size
    exact hO.at_ A' (Nat.le_trans hW.size k.size) (fun j hj => (k.block j (hlt j hj) (hT j hj)).trans (hW.block j (hO.lt j hj)))))
  have H0 := Lib.hid h0
  have HY := Lib.hid hY
  have HF := Lib.hid hF
  have OF := Lib.hid (fun a j (ha : a < G.length) (hj : j < (adjG G a).length) => off_at ha hj)
  have ON := Lib.hid (off_next G)
  have OZ := Lib.hid (off_all G)
  have OS := Lib.hid (show offG G 0 = 0 from rfl)
  have LE := Lib.hid (fun a => hR.len a)
  have GA := Lib.hid (fun a => show (G.map nums).getD a [] = nums (adjG G a) from getD_map_nums G a)
  have hn : G.length ≤ 64 := hR.most
  obtain ⟨n, en⟩ : ∃ n, n = G.length := ⟨_, rfl⟩
  have EN := Lib.hid en
  have GL := Lib.hid (show (G.map nums).length = n from by rw [List.length_map]; exact en.symm)
  rw [← en] at AT OF OZ hn
  generalize lnkG G = E at HY OF OZ ⊢
  have ⟨b0, g0⟩ := AT.out W (Keep.refl C W)
  have c0 := b0.cell 0
  simp only [List.getElem?_toArray, List.getElem?_cons_zero, List.getElem?_cons_succ] at c0
  clear hO hW hF hT hY h0 en b0 g0
  refine callsIn_of_wp Tryz.func125 rfl trivial ?_
  simp only [Tryz.ntmps125, List.size_toArray, List.length_cons, List.length_nil, Nat.reduceAdd, Nat.reduceSub, Array.replicate_succ, Array.replicate_zero, List.push_toArray, List.append_toArray, List.nil_append, List.cons_append]
  gi_wp2_with fail
  gi_loopw [9, 3, 4, 6, 14, 15, 16] (fun i _ _ _ _ _ _ wr => ∃ a : Nat, a ≤ n ∧ i = .int .i64 a ∧ J (offG G a) wr ∧ Keep C W wr) (fun i _ _ _ _ _ _ _ => n - (intOf i).toNat)
  case atStart => exact ⟨0, by omega, rfl, by rw [OS.out]; exact H0.out, Keep.refl C W⟩
  case round =>
    obtain ⟨a, ha, rfl, hj, hk⟩ := hrel
    have HJ := Lib.hid hj
    have HK := Lib.hid hk
    by_cases hlt : a < n
    · have hlt2 : (a : Int) < n := by omega
      obtain ⟨ba, ga⟩ := AT.out wr hk
      obtain ⟨b1, o1, rfl, hb1, c1⟩ := ga.cell (i := a) (by rw [GL.out]; exact hlt)
      obtain ⟨B1, d1, eB, _⟩ := ga.row a (by rw [GL.out]; exact hlt)
      rw [eB, GA.out, nums_len] at c1
      have EB := Lib.hid eB
      have OFA := Lib.hid (fun j hj => OF.out a j hlt hj)
      have ONA := Lib.hid (ON.out a)
      have LA := LE.out a
      obtain ⟨m, em⟩ : ∃ m, m = (adjG G a).length := ⟨_, rfl⟩
      have EM := Lib.hid em
      rw [← em] at c1 OFA ONA LA
      clear hj hk ba ga em eB
      gi_wp2_with fail
      gi_loopw [16, 6] (fun i _ wr => ∃ j : Nat, j ≤ m ∧ i = .int .i64 j ∧ J (offG G a + j) wr ∧ Keep C W wr) (fun i _ _ => m - (intOf i).toNat)
      case atStart => exact ⟨0, by omega, rfl, HJ.out, HK.out⟩
      case round =>
        obtain ⟨j, hj, rfl, hjj, hk⟩ := hrel
        have HJJ := Lib.hid hjj
        have HKK := Lib.hid hk
        by_cases hjt : j < m
        · have hjt2 : (j : Int) < m := by omega
          have hlie := ((AT.out wr hk).2.lies (by rw [GL.out]; exact hlt) EB.out).2
          rw [GA.out] at hlie
          obtain ⟨b2, o2, rfl, hb2, c2⟩ := lies_cell hlie (k := j) (by rw [nums_len, ← EM.out]; exact hjt)
          rw [nums_at] at c2
          obtain ⟨h5, h6⟩ := OFA.out j hjt
          have hY5 := HY.out _ wr hjj h6
          unfold encE at hY5
          rw [h5] at hY5
          obtain ⟨fn, tmps, assign, body, hy, hRd⟩ := yieldX_any (m' := 12 - 1) hY5
          have HRD := Lib.hid hRd
          clear hjj hk hlie h5 h6 hY5 hRd
          generalize (adjG G a).getD j 0 = x at c2 hy
          gi_wp2_with fail
          refine HRD.out.mono ?_
          rintro e W4 ⟨rfl, hj4, hk4⟩
          have HJ4 := Lib.hid hj4
          have HK4 := Lib.hid (HKK.out.trans hk4)
          clear hj4 hk4 hy c2
          gi_wp2_with fail
          go_roundw
          case rel => exact ⟨j + 1, by omega, by go_num, HJ4.out, HK4.out⟩
          case measure => simp [intOf]; omega
        · obtain rfl : j = m := by omega
          have hjt2 : ¬ (j : Int) < j := by omega
          clear hjj hk
          gi_wp2_with fail
          go_roundw
          case rel => exact ⟨a + 1, by omega, by go_num, by rw [ONA.out]; exact HJJ.out, HKK.out⟩
          case measure => simp [intOf]; omega
    · obtain rfl : a = n := by omega
      have hlt2 : ¬ (a : Int) < a := by omega
      clear hj hk
      gi_wp2_with fail
      go_end0
      exact ⟨⟨_, rfl⟩, by rw [← OZ.out]; exact HJ.out, HK.out⟩
end Go.Proofs.YtmlaepbmdfmgbaaGreat

/- The kit's lent bytes: a text with marks behind its end; still as it was. -/
import Derived.Test.YtcnikeeapillnaaDoorXg
import Derived.Laws.AppendOwnNone
import Derived.Laws.MakeOwn
import Derived.Maps.AppendAt
import Derived.OwnWalk
import Derived.IntWalk
import Derived.Deep.QuietTactic
import Derived.BigQuiet
import Derived.Deep.Draws
import Derived.Lib.Hide
namespace Go.Proofs.YtcnikeeapillnaaDoor
open Go Go.RowKit
theorem getD_of {bs : List Nat} {i : Nat} (h : i < bs.length) : bs.getD i 0 = bs[i] := by simp [List.getD, h]
/-- A text in memory. -/
def Txt (w : World) (A : Option Addr) (l : List Nat) : Prop :=
  (∀ x ∈ l, x < 256) ∧ (0 < l.length → ∃ b o, A = some ⟨b, o, none⟩ ∧ b < w.heap.size ∧ ∀ i, i < l.length → w.cell? ⟨b, o + i, none⟩ = some (.int .u8 (l.getD i 0 : Nat)))
theorem Txt.below {w w' : World} {A : Option Addr} {l : List Nat} (h : Txt w A l) (hb : Below w.heap.size w w') : Txt w' A l := by
  refine ⟨h.1, fun h0 => ?_⟩
  obtain ⟨b, o, e, hl, hc⟩ := h.2 h0
  exact ⟨b, o, e, Nat.lt_of_lt_of_le hl hb.size, fun i hi => (hb.cell (p := ⟨b, o + i, none⟩) hl).trans (hc i hi)⟩

theorem cell_one_new (w : World) (x : Value) (t : TypeId) : ∀ j u, [x][j]? = some u → (w.alloc (.cells #[x] t)).cell? ((⟨w.heap.size, 0, none⟩ : Addr).add j) = some u := by
  intro j u h
  match j, h with
  | 0, h =>
    simp only [List.getElem?_cons_zero, Option.some.injEq] at h
    subst h
    rw [Addr.add_lit, (Blk.new w _ _).cell]
    rfl
def natb (x : Nat) : Value := .int .u8 (x : Int)
theorem natb_one (l : List Nat) : ∀ u ∈ l.map natb, u.oneCell' = true := by
  intro u hu
  obtain ⟨x, _, rfl⟩ := List.mem_map.1 hu
  rfl
theorem Tryd.info5 : (Tryd.prog.info? 5).map (fun i => (i.zero, i.size, i.bytes)) = some (some (.int .u8 0), 1, 1) := by kernel_rfl
theorem getD_natb {l : List Nat} {i : Nat} (h : i < l.length) : (l.map natb)[i]? = some (.int .u8 (l.getD i 0 : Nat)) := by
  simp [natb, List.getElem?_map, List.getElem?_eq_getElem h, List.getD]

/-- 'append(own, text...)', the text nil or not. -/
theorem wpList_append_txt (w : World) {ops : Array Oper} {rest : List Oper} {o : Oper} {a : Act} {Q : Exit → Act → World → Prop}
    (hg : o.guard = none) (s x : Operand) (hop : o.op = Op.call { callee := Callee.builtin Builtin.append, args := #[s, x], argTypes := #[22, 22] })
    (base : Nat) (v : Value) (xs : List Nat) (hs : a.eval s = v) (hown : w.ownsRow base 5 1 v xs.length (xs.map natb)) (A : Option Addr) (l : List Nat) (c : Nat) (hx : a.eval x = .slice A l.length c) (ht : Txt w A l) (hnc : A = none → c = 0)
    (hl : xs.length + l.length ≤ 65536) (b3 : base ≤ w.heap.size)
    (hK : ∀ v' w', w'.ownsRow base 5 1 v' (xs ++ l).length ((xs ++ l).map natb) → w.grownBy w' v.ownBlock → wpList Tryd.prog ops Q rest (a.put o.dst v') w') :
    wpList Tryd.prog ops Q (o :: rest) a w := by
  obtain ⟨i0, hi, hz0, hz1, hz2⟩ := info_parts Tryd.info5
  cases A with
  | none =>
    have h0 : l = [] := by
      cases l with
      | nil => rfl
      | cons y l => obtain ⟨b, o, e, _⟩ := ht.2 (by simp); cases e
    subst h0
    obtain rfl := hnc rfl
    refine wpList_append_own_none hg s x 22 hop base 5 i0 1 Tryd.underlying22 hi v xs.length _ hs hown hx (hK v w (by simpa using hown) (World.grownBy.refl _ _))
  | some ad =>
    refine wpList_append_own w hg s x 22 hop base 5 i0 (.int .u8 0) 1 1 Tryd.underlying22 hi hz0 hz1 hz2 rfl (by decide) v xs.length _ hs hown ad l.length c (l.map natb) hx (by simp) (fun j u hu => ?_) (natb_one l) (by unfold maxLen; omega) (by omega) b3
      (fun v' w' a b _ => hK v' w' (by rw [List.length_append, List.map_append]; exact a) b)
    have hj : j < l.length := by simpa using (List.getElem?_eq_some_iff.1 hu).1
    obtain ⟨tb, to, e, _, hc⟩ := ht.2 (by omega)
    cases e
    rw [Addr.add_lit, hc j hj, ← getD_natb hj, hu]
theorem txt_of_own {w : World} {base : Nat} {xs : List Nat} {v : Value} (h : w.ownsRow base 5 1 v xs.length (xs.map natb)) (hx : ∀ x ∈ xs, x < 256) : ∃ A c, v = .slice A xs.length c ∧ Txt w A xs ∧ (A = none → c = 0) := by
  rcases h.2 with ⟨rfl, hn⟩ | ⟨g, cap, cur, rfl, hb, hh, _⟩
  · exact ⟨none, 0, by rw [hn], ⟨hx, fun h0 => by omega⟩, fun _ => rfl⟩
  · refine ⟨_, cap, rfl, ⟨hx, fun _ => ⟨g, 0, rfl, (Array.getElem?_eq_some_iff.1 hh).1, fun i hi => ?_⟩⟩, fun h => by cases h⟩
    rw [Nat.zero_add, h.cellAt i (by omega), getD_natb hi]
set_option maxHeartbeats 400000 in
theorem mark_any (k i : Nat) (hk : k ≤ 1000) (hi : i ≤ 1000000) (w : World) :
    Calls Tryd.prog 40 #[.int .i64 k, .int .i64 i] w fun e w' => e = .returned (.int .i64 (1000003 * (k + 7) + i : Nat)) ∧ w = w' := by
  go_enter Tryd.func40, Tryd.ntmps40
  go_wp2
  go_ret
  exact ⟨ret_int (by omega), rfl⟩
/-- The mark of a byte. -/
def mkb (k i : Nat) : Nat := (IntKind.u64.wrap (((1000003 * (k + 7) + i : Nat) : Int) * 11400714819323198485) / 72057594037927936 % 256).toNat
theorem mkb_eq (k i : Nat) : ((mkb k i : Nat) : Int) = IntKind.u64.wrap (((1000003 * (k + 7) + i : Nat) : Int) * 11400714819323198485) / 72057594037927936 % 256 :=
  Int.toNat_of_nonneg (Int.emod_nonneg _ (by decide))
theorem mkb_lt (k i : Nat) : mkb k i < 256 := by
  have h := mkb_eq k i
  have h2 := Int.emod_lt_of_pos (IntKind.u64.wrap (((1000003 * (k + 7) + i : Nat) : Int) * 11400714819323198485) / 72057594037927936) (show (0 : Int) < 256 by decide)
  omega
attribute [irreducible] mkb
theorem ret_u8 {a b : Int} (h : a = b) : Ending.returned (.int .u8 a) = .returned (.int .u8 b) := by rw [h]
set_option maxHeartbeats 400000 in
theorem markByte_any (k i : Nat) (hk : k ≤ 1000) (hi : i ≤ 1000000) (w : World) :
    Calls Tryd.prog 32 #[.int .i64 k, .int .i64 i] w fun e w' => e = .returned (.int .u8 (mkb k i)) ∧ w = w' := by
  have M := mark_any k i hk hi w
  have E := mkb_eq k i
  have hm : 1000003 * (k + 7) + i ≤ 1100000000000 := by omega
  generalize 1000003 * (k + 7) + i = m at M hm E
  have M := Lib.hid M
  have E := Lib.hid E
  go_enter Tryd.func32, Tryd.ntmps32
  go_wp2_with fail
  refine M.out.mono ?_
  rintro e w1 ⟨rfl, rfl⟩
  go_wp2_with fail
  go_ret
  exact ⟨ret_u8 E.out.symm, rfl⟩
def marks (k n : Nat) : List Nat := (List.range n).map (mkb k)
theorem marks_length (k n : Nat) : (marks k n).length = n := by simp [marks]
theorem marks_succ (k n : Nat) : marks k (n + 1) = marks k n ++ [mkb k n] := by simp [marks, List.range_succ]
theorem marks_lt (k n : Nat) : ∀ x ∈ marks k n, x < 256 := by
  intro x hx
  simp only [marks, List.mem_map] at hx
  obtain ⟨i, _, rfl⟩ := hx
  exact mkb_lt k i
theorem bw {w0 w w' : World} (h : Below w0.heap.size w0 w) (h' : Below w.heap.size w w') : Below w0.heap.size w0 w' := h.trans (h'.mono h.size)

theorem own_shape {w : World} {base e size n : Nat} {v : Value} {xs : List Value} (h : w.ownsRow base e size v n xs) (h0 : 0 < n) : ∃ g cap, v = .slice (some ⟨g, 0, none⟩) n cap ∧ base ≤ g ∧ n ≤ cap ∧ cap ≤ maxLen ∧ g < w.heap.size := by
  rcases h.2 with ⟨_, hn⟩ | ⟨g, cap, cur, rfl, hb, hh, h1, h2, _⟩
  · omega
  · exact ⟨g, cap, rfl, hb, h1, h2, (Array.getElem?_eq_some_iff.1 hh).1⟩

set_option maxHeartbeats 1000000 in
theorem lent_any (A : Option Addr) (l : List Nat) (c : Nat) (hl : l.length ≤ 60000) (hnc : A = none → c = 0) (w : World) (h : Txt w A l) :
    Calls Tryd.prog 9 #[.slice A l.length c] w fun e w' => (∃ g cap, e = .returned (.slice (some ⟨g, 0, none⟩) l.length cap) ∧ w.heap.size ≤ g ∧ w'.ownsRow w.heap.size 5 1 (.slice (some ⟨g, 0, none⟩) (l ++ marks 1 12).length cap) (l ++ marks 1 12).length ((l ++ marks 1 12).map natb)) ∧ Below w.heap.size w w' := by
  obtain ⟨i0, hi, hz0, hz1, hz2⟩ := info_parts Tryd.info5
  have HT := Lib.hid h
  have HN := Lib.hid hnc
  clear h hnc
  go_enter Tryd.func9, Tryd.ntmps9
  go_wp2_with (first
    | (at_make; refine wpList_make_own _ rfl _ _ 22 rfl w.heap.size 5 i0 (.int .u8 0) 1 Tryd.underlying22 hi hz0 hz1 .i64 .i64 _ (l.length + 12) rfl rfl (by omega) (by rw [hz2]; omega) (by unfold maxLen; omega) (Nat.le_refl _) ?_; intro w0 hown0 hgrow0; have H0 := Lib.hid ((Below.refl w.heap.size w).grown hgrow0 (Nat.le_refl _) (fun k hk => by cases hk)); clear hgrow0)
    | (at_builtin; refine wpList_append_txt _ rfl (.tmp 9) (.tmp 10) rfl w.heap.size _ [] rfl hown0 A l c rfl (HT.out.below H0.out) HN.out (by simp; omega) H0.out.size ?_; intro v1 w1 hown1 hg1; have H1 := Lib.hid (H0.out.grown hg1 H0.out.size (fun k hk => (hown0.lt k hk).1)); clear hg1))
  simp only [List.nil_append] at hown1
  clear hown0 H0
  go_loopw [3, 4] (fun v i wr => ∃ k : Nat, k ≤ 12 ∧ i = .int .i64 k ∧ wr.ownsRow w.heap.size 5 1 v (l ++ marks 1 k).length ((l ++ marks 1 k).map natb) ∧ Below w.heap.size w wr) (fun _ i _ => 12 - (intOf i).toNat)
  case atStart => exact ⟨0, by omega, rfl, by simpa [marks] using hown1, H1.out⟩
  case round =>
    clear hown1 H1
    obtain ⟨k, hk, rfl, hown, hb⟩ := hrel
    by_cases hlt : k < 12
    · have M := Lib.hid (fun W => markByte_any 1 k (by omega) (by omega) W)
      have HB := Lib.hid hb
      have hz := hb.size
      clear hb
      go_wp2_with fail
      refine (M.out _).mono ?_
      rintro e w2 ⟨rfl, rfl⟩
      go_wp2_with (at_builtin; refine wpList_append_own _ rfl _ _ 22 rfl w.heap.size 5 i0 (.int .u8 0) 1 1 Tryd.underlying22 hi hz0 hz1 hz2 rfl (by decide) _ _ _ rfl (hown.alloc _) ⟨wr.heap.size, 0, none⟩ 1 1 [.int .u8 (mkb 1 k)] rfl rfl (cell_one_new _ _ _) (by simp [Value.oneCell']) (by unfold maxLen; simp [marks_length]; omega) (by simp [marks_length]; omega) (by simp; omega) ?_; intro v' w3 hown' hgrow _)
      go_roundw
      case rel => exact ⟨k + 1, by omega, by go_num, by rw [marks_succ, ← List.append_assoc, List.length_append, List.map_append]; simpa [natb] using hown', (HB.out.alloc HB.out.size _).grown hgrow (by have := HB.out.size; simp; omega) (fun g hg => (hown.lt g hg).1)⟩
      case measure => simp [intOf]; omega
    · obtain rfl : k = 12 := by omega
      have hn : (l ++ marks 1 12).length = l.length + 12 := by simp [marks_length]
      obtain ⟨g, cap, rfl, hg1, hg2, hg3, _⟩ := own_shape hown (by rw [hn]; omega)
      have HO := Lib.hid hown
      have HB := Lib.hid hb
      unfold maxLen at hg3
      clear hown hb
      have hq1 : l.length ≤ cap := by omega
      clear hn
      go_wp2_with fail
      go_ret
      exact ⟨⟨g, cap, rfl, hg1, HO.out⟩, HB.out⟩
theorem Txt.at_ {w : World} {A : Option Addr} {l : List Nat} (h : Txt w A l) {i : Nat} (hi : i < l.length) : ∃ b o, A = some ⟨b, o, none⟩ ∧ w.cell? ⟨b, o + i, none⟩ = some (.int .u8 (l.getD i 0 : Nat)) := by
  obtain ⟨b, o, e, _, hc⟩ := h.2 (by omega)
  exact ⟨b, o, e, hc i hi⟩

theorem q_left {P : Program} {f : FuncId} {args : Array Value} {w : World} {n : Nat} {v : Value}
    (h : Calls P f args (w.drewN n) fun e w' => e = .returned v ∧ w.drewN n = w') : Calls P f args (w.drewN n) fun e w'' => e = .returned v ∧ ∃ m, w'' = w.drewN m :=
  h.mono fun _ _ ⟨he, hm⟩ => ⟨he, n, hm.symm⟩

/-- Lent: a text, its marks behind it. -/
def Lent (w : World) (g : Nat) (l : List Nat) : Prop := g < w.heap.size ∧ ∀ i, i < l.length + 12 → w.cell? ⟨g, i, none⟩ = some (.int .u8 ((l ++ marks 1 12).getD i 0 : Nat))
theorem Lent.below {w w' : World} {g : Nat} {l : List Nat} (h : Lent w g l) (hb : Below w.heap.size w w') : Lent w' g l :=
  ⟨Nat.lt_of_lt_of_le h.1 hb.size, fun i hi => (hb.cell (p := ⟨g, i, none⟩) h.1).trans (h.2 i hi)⟩
theorem Lent.of_own {w : World} {base g cap : Nat} {l : List Nat} (h : w.ownsRow base 5 1 (.slice (some ⟨g, 0, none⟩) (l ++ marks 1 12).length cap) (l ++ marks 1 12).length ((l ++ marks 1 12).map natb)) : Lent w g l ∧ l.length + 12 ≤ cap ∧ cap ≤ maxLen := by
  have hn : (l ++ marks 1 12).length = l.length + 12 := by simp [marks_length]
  obtain ⟨g', cap', e, _, h1, h2, h3⟩ := own_shape h (by omega)
  cases e
  refine ⟨⟨h3, fun i hi => ?_⟩, by omega, h2⟩
  rw [h.cellAt i (by omega), getD_natb (by omega)]
theorem lent_text {l : List Nat} {i : Nat} (h : i < l.length) : (l ++ marks 1 12).getD i 0 = l.getD i 0 := by
  rw [List.getD_eq_getElem?_getD, List.getD_eq_getElem?_getD, List.getElem?_append_left h]
theorem lent_mark {l : List Nat} {i : Nat} (h : l.length ≤ i) (h2 : i < l.length + 12) : (l ++ marks 1 12).getD i 0 = mkb 1 (i - l.length) := by
  rw [List.getD_eq_getElem?_getD, List.getElem?_append_right h, marks, List.getElem?_map, List.getElem?_range (by omega), Option.map_some, Option.getD_some]


set_option maxRecDepth 100000 in
set_option maxHeartbeats 2000000 in
theorem kept_any (A : Option Addr) (l : List Nat) (c g cap : Nat) (hl : l.length ≤ 60000) (hc : l.length + 12 ≤ cap) (hm : cap ≤ 9223372036854775807) (w : World) (h : Txt w A l) (hg : Lent w g l) :
    Calls Tryd.prog 23 #[.slice (some ⟨g, 0, none⟩) l.length cap, .slice A l.length c] w fun e w' => e = .returned (.bool true) ∧ ∃ n, w' = w.drewN n := by
  have HT := Lib.hid h
  have HG := Lib.hid hg
  clear h hg
  go_enter Tryd.func23, Tryd.ntmps23
  go_wp2_with fail
  go_loopw [6] (fun i wr => ∃ k : Nat, k ≤ l.length + 12 ∧ i = .int .i64 k ∧ ∃ n, wr = w.drewN n) (fun i _ => l.length + 12 - (intOf i).toNat)
  case atStart => exact ⟨0, by omega, rfl, 0, rfl⟩
  case round =>
    obtain ⟨k, hk, rfl, hq⟩ := hrel
    have HC0 : ∀ b o, wr.cell? ⟨b, o, none⟩ = w.cell? ⟨b, o, none⟩ := by obtain ⟨n, rfl⟩ := hq; exact fun _ _ => rfl
    have HC := Lib.hid HC0
    have HQ := Lib.hid hq
    clear hq HC0
    by_cases hlt : k < l.length
    · have c10 := HG.out.2 k (by omega)
      rw [lent_text hlt] at c10
      obtain ⟨tb, to, rfl, c20⟩ := HT.out.at_ hlt
      have c1 := (HC.out _ _).trans c10
      have c2 := (HC.out _ _).trans c20
      clear c10 c20
      generalize l.getD k 0 = v at c1 c2
      have hi1 : (k : Int) < l.length := by omega
      have hi2 : (k : Int) < (l.length : Int) + 12 := by omega
      have hd : decide ((k : Int) < l.length) = true := by simpa using hlt
      have hd2 : decide (k < l.length) = true := by simpa using hlt
      have hd3 : decide ((l.length : Int) ≤ k) = false := by simp; omega
      have hd4 : decide (l.length ≤ k) = false := by simp; omega
      go_wp2_with fail
      go_quiet (fail)
      go_wp2_with fail
      go_roundw
      case rel => exact ⟨k + 1, by omega, by go_num, by obtain ⟨n, rfl⟩ := HQ.out; exact ⟨_, World.drewN_drewN _ _ _⟩⟩
      case measure => simp [intOf]; omega
    · by_cases hle : k < l.length + 12
      · have c10 := HG.out.2 k hle
        rw [lent_mark (by omega) hle] at c10
        have c1 := (HC.out _ _).trans c10
        clear c10
        have M0 : ∀ W : World, Calls Tryd.prog 32 #[.int .i64 1, .int .i64 (k - l.length : Nat)] W fun e w' => e = .returned (.int .u8 (mkb 1 (k - l.length))) ∧ W = w' := fun W => markByte_any 1 (k - l.length) (by omega) (by omega) W
        generalize mkb 1 (k - l.length) = v at c1 M0
        have M := Lib.hid M0
        clear M0
        have hi2 : (k : Int) < (l.length : Int) + 12 := by omega
        have hw : IntKind.i64.wrap ((k : Int) - l.length) = ((k - l.length : Nat) : Int) := (IntWalk.i64_in _ (by omega)).trans (by omega)
        have hd : decide ((k : Int) < l.length) = false := by simp; omega
        have hd2 : decide (k < l.length) = false := by simp; omega
        have hd3 : decide ((l.length : Int) ≤ k) = true := by simp; omega
        have hd4 : decide (l.length ≤ k) = true := by simp; omega
        go_wp2_with fail
        go_quiet ((go_at_call 32; exact q_left (M.out _)))
        go_wp2_with fail
        go_roundw
        case rel => exact ⟨k + 1, by omega, by go_num, by obtain ⟨n, rfl⟩ := HQ.out; exact ⟨_, World.drewN_drewN _ _ _⟩⟩
        case measure => simp [intOf]; omega
      · have hi2 : (l.length : Int) + 12 ≤ k := by omega
        go_wp2_with fail
        go_ret
        exact ⟨rfl, HQ.out⟩
end Go.Proofs.YtcnikeeapillnaaDoor

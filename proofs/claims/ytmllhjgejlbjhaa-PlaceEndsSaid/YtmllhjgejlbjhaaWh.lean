/- Contracts of layer 2: Lines, Len of an index; New. -/
import Derived.Test.YtmllhjgejlbjhaaWg
import Derived.Deep.AppendLies
import Derived.Maps.AppendAt
import Derived.OwnWalk
namespace Go.Proofs.Ytmllhjgejlbjhaa
open Go.RowKit

set_option maxHeartbeats 400000 in
theorem lines_any (x : Nat) (bs : List Nat) (L : Nat) (w : World) (hx : Idx w x bs L) :
    Calls Try.prog 16 #[.pointer (some ⟨x, 0, none⟩)] w fun e w' => e = .returned (.int .i64 bs.length) ∧ Below w.heap.size w w' := by
  obtain ⟨g, c, h1, h2⟩ := hx
  have c0 := h1.cell 0
  have c1 := h1.cell 1
  simp at c0 c1
  clear h1 h2
  go_enter Try.func16, Try.ntmps16
  go_wp2_with (first | (go_at_call 23; refine (known_some _ _).mono ?_; rintro e w' ⟨rfl, rfl⟩) | (go_at_call 30; refine (count_any _ _ _ _ _).mono ?_; rintro e w1 ⟨rfl, hb⟩))
  go_ret
  exact ⟨rfl, hb⟩
set_option maxHeartbeats 400000 in
theorem len_any (x : Nat) (bs : List Nat) (L : Nat) (hL : L < 1152921504606846976) (w : World) (hx : Idx w x bs L) :
    Calls Try.prog 17 #[.pointer (some ⟨x, 0, none⟩)] w fun e w' => e = .returned (.int .i64 L) ∧ Below w.heap.size w w' := by
  obtain ⟨g, c, h1, h2⟩ := hx
  have c0 := h1.cell 0
  have c1 := h1.cell 1
  simp at c0 c1
  clear h1 h2
  have Z := Lib.hid (fun w => size_any (some ⟨g, 0, none⟩) bs.length c (L + 1) (by omega) w)
  go_enter Try.func17, Try.ntmps17
  go_wp2_with (first | (go_at_call 23; refine (known_some _ _).mono ?_; rintro e w' ⟨rfl, rfl⟩) | (go_at_call 31; refine (Z.out _).mono ?_; rintro e w1 ⟨rfl, hb⟩))
  go_ret
  exact ⟨ret_int (by omega), hb⟩

/-- A text in memory. -/
def Txt (w : World) (A : Option Addr) (l : List Nat) : Prop :=
  (∀ x ∈ l, x < 256) ∧ (0 < l.length → ∃ b o, A = some ⟨b, o, none⟩ ∧ b < w.heap.size ∧ ∀ i, i < l.length → w.cell? ⟨b, o + i, none⟩ = some (.int .u8 (l.getD i 0 : Nat)))
theorem Txt.below {w w' : World} {A : Option Addr} {l : List Nat} (h : Txt w A l) (hb : Below w.heap.size w w') : Txt w' A l := by
  refine ⟨h.1, fun h0 => ?_⟩
  obtain ⟨b, o, e, hl, hc⟩ := h.2 h0
  exact ⟨b, o, e, Nat.lt_of_lt_of_le hl hb.size, fun i hi => (hb.cell (p := ⟨b, o + i, none⟩) hl).trans (hc i hi)⟩

theorem Try.info3 : (Try.prog.info? 3).map (fun i => (i.zero, i.size, i.bytes)) = some (some (.int .i64 0), 1, 8) := by kernel_rfl

def natv (x : Nat) : Value := .int .i64 (x : Int)
theorem cell_one_new (w : World) (x : Value) (t : TypeId) : ∀ j u, [x][j]? = some u → (w.alloc (.cells #[x] t)).cell? ((⟨w.heap.size, 0, none⟩ : Addr).add j) = some u := by
  intro j u h
  match j, h with
  | 0, h =>
    simp only [List.getElem?_cons_zero, Option.some.injEq] at h
    subst h
    rw [Addr.add_lit, (Blk.new w _ _).cell]
    rfl
theorem nums_of_own {w : World} {base : Nat} {xs : List Nat} {v : Value} (h : w.ownsRow base 3 1 v xs.length (xs.map natv)) (h0 : 0 < xs.length) : ∃ g cap, v = .slice (some ⟨g, 0, none⟩) xs.length cap ∧ base ≤ g ∧ Nums w g xs := by
  rcases h.2 with ⟨_, hn⟩ | ⟨g, cap, cur, rfl, hb, hh, _⟩
  · omega
  · refine ⟨g, cap, rfl, hb, (Array.getElem?_eq_some_iff.1 hh).1, fun i hi => ?_⟩
    rw [h.cellAt i (by omega)]
    simp [natv, List.getElem?_map, List.getElem?_eq_getElem hi, List.getD]
/-- An index whose memory lies from block B on. -/
def IdxFrom (B : Nat) (w : World) (x : Nat) (bs : List Nat) (L : Nat) : Prop := ∃ g c, B ≤ g ∧ B ≤ x ∧ Blk w x #[.slice (some ⟨g, 0, none⟩) bs.length c, .int .i64 (L + 1 : Nat)] 36 ∧ Nums w g bs
theorem IdxFrom.idx {B : Nat} {w : World} {x : Nat} {bs : List Nat} {L : Nat} (h : IdxFrom B w x bs L) : Idx w x bs L := by
  obtain ⟨g, c, _, _, h1, h2⟩ := h
  exact ⟨g, c, h1, h2⟩
theorem IdxFrom.drewN {B : Nat} {w : World} {x : Nat} {bs : List Nat} {L n : Nat} (h : IdxFrom B w x bs L) : IdxFrom B (w.drewN n) x bs L := h
theorem IdxFrom.over {B : Nat} {w w' : World} {x : Nat} {bs : List Nat} {L g : Nat} (h : IdxFrom B w x bs L) (hg : w.grownBy w' (some g)) (hB : g < B) : Idx w' x bs L := by
  obtain ⟨g', c, h1, h2, h3, h4, h5⟩ := h
  refine ⟨g', c, (hg.block x h3.lt (by simp; omega)).trans h3, Nat.lt_of_lt_of_le h4 hg.size, fun i hi => ?_⟩
  exact (World.cell?_of_block (a := ⟨g', i, none⟩) (hg.block g' h4 (by simp; omega))).trans (h5 i hi)
set_option maxHeartbeats 1000000 in
theorem new_from (A : Option Addr) (l : List Nat) (c : Nat) (w : World) (hl : l.length ≤ 65536) (h : Txt w A l) :
    Calls Try.prog 9 #[.slice A l.length c] w fun e w' => (∃ x, e = .returned (.pointer (some ⟨x, 0, none⟩)) ∧ IdxFrom w.heap.size w' x (begs l) l.length) ∧ Below w.heap.size w w' := by
  obtain ⟨i0, hi, hz0, hz1, hz2⟩ := info_parts Try.info3
  have HT := Lib.hid h
  clear h
  go_enter Try.func9, Try.ntmps9
  go_wp2
  go_loopw [3, 9] (fun v i wr => ∃ k : Nat, k ≤ l.length ∧ i = .int .i64 k ∧ wr.ownsRow w.heap.size 3 1 v (begsTo l k).length ((begsTo l k).map natv) ∧ Below w.heap.size w wr) (fun _ i _ => l.length - (intOf i).toNat)
  case atStart => exact ⟨0, by omega, rfl, World.ownsRow_lit w #[.int .i64 0] 1 (Nat.le_refl _) (by unfold maxLen; omega) rfl, (Below.refl _ _).alloc (Nat.le_refl _) _⟩
  case round =>
    obtain ⟨k, hk, rfl, hown, hb⟩ := hrel
    have hbl := begsTo_length l k
    by_cases hlt : k < l.length
    · obtain ⟨tb, to, rfl, htl, htc⟩ := HT.out.2 (by omega)
      have hc0 := Ext.cell (htc k hlt) ⟨wr, hb⟩
      clear htc
      simp only at hc0
      have hlt2 : (k : Int) < l.length := by omega
      by_cases h10 : l.getD k 0 = 10
      · rw [h10] at hc0
        have HE := Lib.hid (begs_ten_step h10)
        clear h10
        go_wp2_with (at_builtin; refine wpList_append_own _ rfl _ _ 32 rfl w.heap.size 3 i0 (.int .i64 0) 1 8 Try.underlying32 hi hz0 hz1 hz2 rfl (by decide) _ _ _ rfl (hown.alloc _) ⟨wr.heap.size, 0, none⟩ 1 1 [.int .i64 ((k : Int) + 1)] rfl rfl (cell_one_new _ _ _) (by simp [Value.oneCell']) (by unfold maxLen; omega) (by omega) (by have := hb.size; simp; omega) ?_; intro v' w1 hown' hgrow _)
        go_roundw
        case rel => exact ⟨k + 1, by omega, by go_num, by rw [HE.out, List.length_append, List.map_append]; simpa [natv] using hown', (hb.alloc hb.size _).grown hgrow (by have := hb.size; simp; omega) (fun g hg => (hown.lt g hg).1)⟩
        case measure => simp [intOf]; omega
      · have HE := Lib.hid (begs_other_step h10)
        have hd : ((l.getD k 0 : Int) == 10) = false := beq_eq_false_iff_ne.2 (by omega)
        generalize l.getD k 0 = v at hc0 hd
        clear h10
        go_wp2
        go_roundw
        case rel => exact ⟨k + 1, by omega, by go_num, by rw [HE.out]; exact hown, hb⟩
        case measure => simp [intOf]; omega
    · obtain rfl : k = l.length := by omega
      have hbl := begsTo_length l l.length
      obtain ⟨g, cap, rfl, hg, hn⟩ := nums_of_own hown (begs_lns l).pos
      go_wp2
      go_ret
      refine ⟨⟨wr.heap.size, rfl, g, cap, hg, hb.size, ?_, hn.below' ((Below.refl _ _).alloc (Nat.le_refl _) _)⟩, hb.alloc hb.size _⟩
      exact Blk.new _ _ _
theorem new_any (A : Option Addr) (l : List Nat) (c : Nat) (w : World) (hl : l.length ≤ 65536) (h : Txt w A l) :
    Calls Try.prog 9 #[.slice A l.length c] w fun e w' => (∃ x, e = .returned (.pointer (some ⟨x, 0, none⟩)) ∧ w.heap.size ≤ x ∧ Idx w' x (begs l) l.length) ∧ Below w.heap.size w w' :=
  (new_from A l c w hl h).mono fun _ _ ⟨⟨x, h1, h2⟩, h3⟩ => ⟨⟨x, h1, by obtain ⟨_, _, _, h4, _⟩ := h2; exact h4, h2.idx⟩, h3⟩
end Go.Proofs.Ytmllhjgejlbjhaa

/- A sign; a text in quotes. -/
import Derived.Test.YtgmdfmckkfefgaaDoorVn
import Derived.Deep.MidRow
import Derived.Laws.BytesArg
namespace Go.Proofs.YtgmdfmckkfefgaaDoor
open Go Go.RowKit
def marks : List (List Nat) := [[60, 45], [47], [40], [41], [46], [59], [42], [43], [63], [33], [38]]
theorem sgn_none {l : List Nat} (h : ∀ i, i < 11 → isPre (marks.getD i []) l = false) : sgn l = none := by
  cases l with
  | nil => rfl
  | cons c r =>
    have h0 := h 0 (by decide)
    have h1 := h 1 (by decide)
    have h2 := h 2 (by decide)
    have h3 := h 3 (by decide)
    have h4 := h 4 (by decide)
    have h5 := h 5 (by decide)
    have h6 := h 6 (by decide)
    have h7 := h 7 (by decide)
    have h8 := h 8 (by decide)
    have h9 := h 9 (by decide)
    have h10 := h 10 (by decide)
    simp only [marks, List.getD_cons_succ, List.getD_cons_zero, isPre, Bool.and_true, beq_eq_false_iff_ne, ne_eq] at h1 h2 h3 h4 h5 h6 h7 h8 h9 h10
    simp only [sgn]
    by_cases h60 : c = 60
    · rw [if_pos h60]
      cases r with
      | nil => rfl
      | cons d r2 =>
        subst h60
        simp [marks, isPre] at h0
        simp
        omega
    · rw [if_neg h60, if_neg (by simp; omega)]
theorem sgn_some {l : List Nat} {i : Nat} (hi : i < 11) (h : isPre (marks.getD i []) l = true) : sgn l = some (marks.getD i []) := by
  cases l with
  | nil =>
    rcases (show i = 0 ∨ i = 1 ∨ i = 2 ∨ i = 3 ∨ i = 4 ∨ i = 5 ∨ i = 6 ∨ i = 7 ∨ i = 8 ∨ i = 9 ∨ i = 10 by omega) with rfl | rfl | rfl | rfl | rfl | rfl | rfl | rfl | rfl | rfl | rfl <;> simp [marks, isPre] at h
  | cons c r =>
    rcases (show i = 0 ∨ i = 1 ∨ i = 2 ∨ i = 3 ∨ i = 4 ∨ i = 5 ∨ i = 6 ∨ i = 7 ∨ i = 8 ∨ i = 9 ∨ i = 10 by omega) with rfl | rfl | rfl | rfl | rfl | rfl | rfl | rfl | rfl | rfl | rfl
    · cases r with
      | nil => simp [marks, isPre] at h
      | cons d r2 =>
        simp [marks, isPre] at h
        obtain ⟨rfl, rfl⟩ := h
        rfl
    all_goals
      simp [marks, isPre] at h
      subst h
      rfl
abbrev rowMarks : Array Value := #[.string ⟨#[60, 45]⟩, .string ⟨#[47]⟩, .string ⟨#[40]⟩, .string ⟨#[41]⟩, .string ⟨#[46]⟩, .string ⟨#[59]⟩, .string ⟨#[42]⟩, .string ⟨#[43]⟩, .string ⟨#[63]⟩, .string ⟨#[33]⟩, .string ⟨#[38]⟩]
theorem row_mark (i : Nat) (hi : i < 11) : rowMarks[i]? = some (.string (bsv (marks.getD i []))) := by
  rcases (show i = 0 ∨ i = 1 ∨ i = 2 ∨ i = 3 ∨ i = 4 ∨ i = 5 ∨ i = 6 ∨ i = 7 ∨ i = 8 ∨ i = 9 ∨ i = 10 by omega) with rfl | rfl | rfl | rfl | rfl | rfl | rfl | rfl | rfl | rfl | rfl <;> rfl
theorem mark_ok (i : Nat) (hi : i < 11) : Str (bsv (marks.getD i [])) (marks.getD i []) ∧ (marks.getD i []).length ≤ 10 := by
  rcases (show i = 0 ∨ i = 1 ∨ i = 2 ∨ i = 3 ∨ i = 4 ∨ i = 5 ∨ i = 6 ∨ i = 7 ∨ i = 8 ∨ i = 9 ∨ i = 10 by omega) with rfl | rfl | rfl | rfl | rfl | rfl | rfl | rfl | rfl | rfl | rfl <;> exact ⟨rfl, by decide⟩
/-- What a try for a sign tells. -/
def SgPost (b k : Nat) (s : ByteArray) (o : Option (List Nat)) (w : World) (e : Ending) (w' : World) : Prop :=
  (o = none ∧ e = .returned (.tuple #[.agg wzero, .bool false]) ∧ Below w.heap.size w w') ∨ ∃ t, o = some t ∧ e = .returned (.tuple #[.agg (wcells 5 (bsv t) 0), .bool true]) ∧ w.grownBy w' (some b) ∧ Rd w' b s (k + t.length)
set_option maxRecDepth 100000 in
set_option maxHeartbeats 4000000 in
theorem sign_any (b k : Nat) (s : ByteArray) (l : List Nat) (hs : Str s l) (hl : l.length ≤ 60000) (hk : k ≤ l.length) (w : World) (h : Rd w b s k) :
    Calls Tryd.prog 23 #[.pointer (some ⟨b, 0, none⟩)] w (SgPost b k s (sgn (l.drop k)) w) := by
  have hbw := h.lt
  have TY := Lib.hid (fun q hq hp W hW => take_yes b k s (bsv (marks.getD q [])) l (marks.getD q []) hs (mark_ok q hq).1 hl (mark_ok q hq).2 hk hp W hW)
  have TN := Lib.hid (fun q hq hp W hW => take_no b k s (bsv (marks.getD q [])) l (marks.getD q []) hs (mark_ok q hq).1 hk hp W hW)
  have SN := Lib.hid (sgn_none (l := l.drop k))
  have SS := Lib.hid (fun i hi hp => sgn_some (l := l.drop k) (i := i) hi hp)
  obtain ⟨o, eo⟩ : ∃ o, o = sgn (l.drop k) := ⟨_, rfl⟩
  rw [← eo] at SN SS ⊢
  obtain ⟨w2, ew⟩ : ∃ u, u = (w.alloc (.cells wzero 33)).alloc (.cells rowMarks 9) := ⟨_, rfl⟩
  have H2 : RowKit.Hid (Below w.heap.size w w2) := Lib.hid (by rw [ew]; exact B2 _ _ _)
  have K2 : RowKit.Hid (Blk w2 w.heap.size wzero 33) := Lib.hid (by rw [ew]; exact (Blk.new _ _ _).alloc _)
  have M2 : RowKit.Hid (Blk w2 (w.heap.size + 1) rowMarks 9) := Lib.hid (by rw [ew]; have := Blk.new (w.alloc (.cells wzero 33)) rowMarks 9; rw [World.size_alloc] at this; exact this)
  have R2 := Lib.hid (h.below H2.out)
  have EW := Lib.hid ew
  clear h hs hl hk eo ew
  go_enter Tryd.func23, Tryd.ntmps23
  go_wp2_with fail
  rw [← EW.out]
  go_loopw [5, 8] (fun _ i wr => ∃ q : Nat, q ≤ 11 ∧ i = .int .i64 q ∧ Below w2.heap.size w2 wr ∧ ∀ j, j < q → isPre (marks.getD j []) (l.drop k) = false) (fun _ i _ => 11 - (intOf i).toNat)
  case atStart => exact ⟨0, by omega, rfl, Below.refl _ _, fun j hj => by omega⟩
  case round =>
    obtain ⟨q, hq, rfl, hb, hf⟩ := hrel
    have HF := Lib.hid hf
    have HB := Lib.hid hb
    have KR := Lib.hid (K2.out.below' hb)
    have RR := Lib.hid (R2.out.below hb)
    have hM := M2.out.below' hb
    clear hf hb
    by_cases hlt : q < 11
    · have cq : wr.cell? ⟨w.heap.size + 1, q, none⟩ = some (.string (bsv (marks.getD q []))) := (hM.cell q).trans (row_mark q hlt)
      have hlt2 : (q : Int) < 11 := by omega
      clear hM
      cases hp : isPre (marks.getD q []) (l.drop k) with
      | true =>
        have HP := Lib.hid hp
        obtain ⟨t, et⟩ : ∃ t, t = bsv (marks.getD q []) := ⟨_, rfl⟩
        have T1 := Lib.hid (TY.out q hlt hp)
        rw [← et] at cq T1
        have ET := Lib.hid et
        clear hp et
        go_wp2_with (first | (go_at_call 17; (with_reducible refine (T1.out _ RR.out).mono ?_); rintro e w3 ⟨rfl, hg, hR⟩; have K3 := Lib.hid (KR.out.grown hg (by simp; omega)); have R3 := Lib.hid hR; have G3 := Lib.hid (grown_trans (below_is_grown (bb H2.out HB.out) (some b)) hg); clear hg hR) | (refine wpList_store_whole rfl 33 (.tmp 2) (.tmp 18) rfl w.heap.size (wcells 5 t 0) rfl rfl 33 _ K3.out (by kernel_rfl) (by rfl) (by simp [Value.oneCell']) ?_; intro w5 hk2 hg2; have K5 := Lib.hid hk2; have G5 := Lib.hid hg2; clear hk2 hg2))
        refine bodyPost_ret (results_cell_tmp rfl _ _ w.heap.size 33 _ _ _ rfl rfl K5.out Tryd.underlying33 rfl (by kernel_rfl)) rfl (.inr ⟨_, SS.out q hlt HP.out, ?_, grown_new G3.out G5.out (Nat.le_refl _), R3.out.grown G5.out (by omega)⟩)
        rw [ET.out]
        rfl
      | false =>
        have HP := Lib.hid hp
        have T1 := Lib.hid (TN.out q hlt hp)
        obtain ⟨t, et⟩ : ∃ t, t = bsv (marks.getD q []) := ⟨_, rfl⟩
        rw [← et] at cq T1
        clear hp et
        go_wp2_with (go_at_call 17; (with_reducible refine (T1.out _ RR.out).mono ?_); rintro e w3 ⟨rfl, n, rfl⟩)
        go_roundw
        case rel => exact ⟨q + 1, by omega, by go_num, bdrew HB.out, fun j hj => by
          by_cases e : j = q
          · rw [e]; exact HP.out
          · exact HF.out j (by omega)⟩
        case measure => simp [intOf]; omega
    · obtain rfl : q = 11 := by omega
      have SZ := Lib.hid (SN.out HF.out)
      clear hM hlt
      go_wp2_with (refine wpList_store_whole rfl 33 (.tmp 2) (.tmp 20) rfl w.heap.size wzero rfl rfl 33 _ KR.out (by kernel_rfl) (by rfl) (by simp [Value.oneCell']) ?_; intro w5 hk2 hg2; have K5 := Lib.hid hk2; have G5 := Lib.hid hg2; clear hk2 hg2)
      exact bodyPost_ret (results_cell_tmp rfl _ _ w.heap.size 33 _ _ _ rfl rfl K5.out Tryd.underlying33 rfl (by kernel_rfl)) rfl (.inl ⟨SZ.out, rfl, below_store (bb H2.out HB.out) G5.out (Nat.le_refl _)⟩)
/-- A row of the call's own, as a text. -/
theorem conv_row {w : World} {base : Nat} {xs : List Nat} {v : Value} (h : w.ownsRow base 5 1 v xs.length (xs.map natb)) (hx : ∀ x ∈ xs, x < 256) : (convert 60 9 v).run Tryd.prog w = .ok (.string (bsv xs)) w := by
  rcases h.2 with ⟨rfl, hn⟩ | ⟨g, cap, cur, rfl, hb, hh, _⟩
  · have h0 : xs = [] := List.eq_nil_of_length_eq_zero hn
    subst h0
    exact run_convert_bytes_nil (P := Tryd.prog) w 60 5 Tryd.underlying60 Tryd.underlying5 0 0 9 Tryd.underlying9
  · have := run_convert_bytes_arg (P := Tryd.prog) w 60 5 Tryd.underlying60 Tryd.underlying5 g 0 xs.length cap (xs.map fun x : Nat => (x : Int)) (by simp) (fun i hi => by
      rw [Nat.zero_add, h.cellAt i (by omega), getD_natb hi]
      simp [List.getD, List.getElem?_map, List.getElem?_eq_getElem hi]) 9 Tryd.underlying9
    rw [str_nums] at this
    exact this
end Go.Proofs.YtgmdfmckkfefgaaDoor

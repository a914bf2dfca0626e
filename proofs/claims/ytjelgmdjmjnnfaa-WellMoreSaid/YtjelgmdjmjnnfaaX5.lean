/- The idle nodes, as a range-function: what its callers are told. -/
import Derived.Test.YtjelgmdjmjnnfaaX4
import Derived.Test.YtjelgmdjmjnnfaaL3
set_option linter.unusedSimpArgs false
set_option linter.unusedVariables false
namespace Go.Proofs.Ytjelgmdjmjnnfaa
open Go Go.RowKit Go.Maps Go.Shelf
theorem idle_any (p : Nat) (w : World) : Calls Try.prog 29 #[.pointer (some ⟨p, 0, none⟩)] w fun e w' => e = .returned (.func (.func 52) #[] #[.pointer (some ⟨w.heap.size, 0, none⟩)]) ∧ w' = w.alloc (.cells #[.pointer (some ⟨p, 0, none⟩)] 56) := by
  go_enter Try.func29, Try.ntmps29
  go_wp2_with fail
  go_ret
  exact ⟨rfl, rfl⟩
theorem Wel.heap {w w' : World} {p nb : Nat} {g : Gr} {ml : List Bool} (h : Wel w p g nb ml) (hs : w.heap.size ≤ w'.heap.size) (hb : ∀ k, k < w.heap.size → w'.heap[k]? = w.heap[k]?) : Wel w' p g nb ml :=
  ⟨(hb p h.box.lt).trans h.box, h.gr.heap hs hb, (hb nb h.row.lt).trans h.row, h.len, h.val⟩
/-- In their turn, or a part of them; w0 is a world whose blocks all stay (but the box). -/
theorem idle_seqN (n : Nat) (hn : 1 ≤ n) (cb p mb : Nat) (g : Gr) (ml : List Bool) (hR : Right g) (w0 w : World) (G : Nat → Prop) (h0 : Wel w0 p g mb ml) (hs : w0.heap.size ≤ w.heap.size) (h00 : ∀ k, k < w0.heap.size → w.heap[k]? = w0.heap[k]?)
    (hcb : Blk w cb #[.pointer (some ⟨p, 0, none⟩)] 56) (hG : ∀ k, k < w0.heap.size → G k) (hGc : G cb) :
    SeqN n Try.prog 52 #[.pointer (some ⟨cb, 0, none⟩)] (encI (nums (idles g))) (idles g).length G w := by
  intro l J Jx W hW hJ hJx hY hj0
  have hcl := hcb.lt
  refine (idle_core n hn l cb p mb g ml hR J Jx (fun A => Blk A cb #[.pointer (some ⟨p, 0, none⟩)] 56 ∧ (∀ k, k < w0.heap.size → A.heap[k]? = w0.heap[k]?) ∧ W.heap.size ≤ A.heap.size) (fun b _ => W.heap.size ≤ b) (fun A A' => Left G W.heap.size A A')
    ?_ ?_ ?_ ?_ ?_ ?_ W hj0 ?_).mono ?_
  · rintro A ⟨h1, h2, h3⟩
    exact ⟨h1, h0.heap (by have := hW.size; omega) h2⟩
  · rintro k A A' hj ⟨h1, h2, h3⟩ hb
    have := hW.size
    have hbs := hb.size
    exact ⟨hJ k A A' hj (hb.mono h3), h1.below' hb, fun k hk => (hb.block k (by omega)).trans (h2 k hk), by omega⟩
  · rintro k A A' _ ⟨_, _, h3⟩ _
    exact h3
  · rintro k b A A' _ h _ _
    exact h
  · rintro b vs T A A' h hb hl
    exact ⟨h, (hl.block b hb.lt (.inr h)).trans hb⟩
  · rintro k W1 hj ⟨h1, h2, h3⟩ hk
    have := hY k W1 hj h3 hk
    unfold encI at this
    rw [nums_at] at this
    refine this.mono ?_
    rintro e W' (⟨rfl, a, b⟩ | ⟨rfl, a, b⟩)
    · have hz := hW.size
      have hbs := b.size
      exact .inl ⟨rfl, a, ⟨(b.block cb h1.lt (.inl hGc)).trans h1, fun k hk => (b.block k (by omega) (.inl (hG k hk))).trans (h2 k hk), by omega⟩, b⟩
    · exact .inr ⟨rfl, a⟩
  · exact ⟨hcb.below' hW, fun k hk => (hW.block k (by omega)).trans (h00 k hk), Nat.le_refl _⟩
  · rintro e W' ⟨hv, (⟨a, _⟩ | h)⟩
    · exact ⟨hv, .inl a⟩
    · exact ⟨hv, .inr h⟩
theorem idle_seqX (n : Nat) (hn : 1 ≤ n) (cb p mb : Nat) (g : Gr) (ml : List Bool) (hR : Right g) (w : World) (h0 : Wel w p g mb ml)
    (hcb : Blk w cb #[.pointer (some ⟨p, 0, none⟩)] 56) :
    SeqX n Try.prog 52 #[.pointer (some ⟨cb, 0, none⟩)] (encI (nums (idles g))) (idles g).length (fun j => j < w.heap.size) w := by
  intro l J C W hW hF hT hY hj0
  have hcl := hcb.lt
  have hz := hW.size
  refine (idle_core n hn l cb p mb g ml hR J (fun _ _ => False) (fun A => Keep C W A) (fun b A => ¬ C b A) (fun A A' => Keep C A A')
    ?_ ?_ ?_ ?_ ?_ ?_ W hj0 (Keep.refl C W)).mono ?_
  · intro A hk
    have hb : ∀ k, k < w.heap.size → A.heap[k]? = w.heap[k]? := fun k h => (hk.block k (by omega) (hT k h)).trans (hW.block k h)
    have := hk.size
    exact ⟨(hb cb hcl).trans hcb, h0.heap (by omega) hb⟩
  · intro k A A' hj hk hb
    exact ⟨hF.grow k A A' hj hb, hk.trans (hF.keep hj hb)⟩
  · intro k A A' hj hk hb hc
    have := hF.lt hj (hF.cgrow k A A' _ hj hb hc)
    omega
  · intro k b A A' hj hnb hlt hb hc
    exact hnb (hF.cgrow k A A' _ hj hb hc)
  · intro b vs T A A' hnb hb hk
    exact ⟨fun hc => hnb (hk.own b hb.lt hc), (hk.block b hb.lt hnb).trans hb⟩
  · intro k W1 hj hk hlt
    have := hY k W1 hj hlt
    unfold encI at this
    rw [nums_at] at this
    refine this.mono ?_
    rintro e W' ⟨rfl, a, b⟩
    exact .inl ⟨rfl, a, hk.trans b, b⟩
  · rintro e W' ⟨hv, (⟨a, b⟩ | ⟨k, _, h⟩)⟩
    · exact ⟨hv, a, b⟩
    · exact h.elim
end Go.Proofs.Ytjelgmdjmjnnfaa
namespace Go.Proofs.Ytjelgmdjmjnnfaa
open Go Go.RowKit Go.Maps Go.Shelf
noncomputable def idleRow (g : Gr) : List Nat := if rightB g then idles g else []
noncomputable def idleB (g : Gr) (n : Int) : Bool := rightB g && (decide (0 ≤ n ∧ n < g.nodes.length) && idleN g n.toNat)
theorem rowI_row {w w' : World} {L : List Nat} {e : Ending} (h : RowI w (nums L) e w') : Row w L e w' := by
  obtain ⟨⟨v, h1, h2, h3⟩, hb⟩ := h
  exact ⟨⟨v, h1, by rw [nums_len] at h2; exact h2, h3.trans (by simp [nums])⟩, hb⟩
theorem idles_len {g : Gr} (hR : Right g) : (nums (idles g)).length ≤ 2048 := by
  rw [nums_len]
  exact Nat.le_trans (rowOf_len _ _) hR.nodes
set_option maxRecDepth 100000 in
set_option maxHeartbeats 2000000 in
theorem wellAll_any (g : Gr) (w : World) (hg : Gr.At w g) (hin : Gr.In g) : Calls Try.prog 10 #[g.val] w (Row w (idleRow g)) := by
  cases hr : rightB g with
  | false =>
    rw [show idleRow g = [] by unfold idleRow; rw [hr]; rfl]
    have WN := Lib.hid (fun (w' : World) (b : Below w.heap.size w w') => wellOf_no g w' (hg.below b) hin hr)
    clear hg hin hr
    show Calls Try.prog 10 #[.agg #[.slice g.RA g.rules.length g.rc, .slice g.NA g.nodes.length g.nc]] w _
    go_enter Try.func10, Try.ntmps10
    go_wp2_with (go_at_call 27; with_reducible refine (WN.out _ (B1 _ _)).mono ?_; rintro e w1 ⟨rfl, hb⟩; have H1 := Lib.hid (bb (B1 w _) hb); clear hb)
    go_ret
    exact row_nil _ _ H1.out
  | true =>
    rw [show idleRow g = idles g by unfold idleRow; rw [hr]; rfl]
    have hR := rightB_true.1 hr
    have WY := Lib.hid (fun (w' : World) (b : Below w.heap.size w w') => wellOf_any g w' (hg.below b) hin hR)
    have IA := Lib.hid idle_any
    have CO := Lib.hid (fun (w1 : World) (p nb : Nat) (ml : List Bool) (hW : Wel w1 p g nb ml) => collect_any 52 #[.pointer (some ⟨w1.heap.size, 0, none⟩)] (nums (idles g)) (by have := idles_len hR; omega) (fun j => j < (w1.alloc (.cells #[.pointer (some ⟨p, 0, none⟩)] 56)).heap.size) _ (fun j h => h) (enters_of Try.func52 (by kernel_rfl) rfl)
      (by rw [nums_len]; exact idle_seqX 12 (by decide) w1.heap.size p nb g ml hR (w1.alloc (.cells #[.pointer (some ⟨p, 0, none⟩)] 56)) (hW.below (B1 _ _)) (Blk.new _ _ _)))
    have RR := Lib.hid (fun (w1 w2 : World) (e : Ending) (h1 : Below w.heap.size w w1) (h : RowI w1 (nums (idles g)) e w2) => show Row w (idles g) e w2 from by
      obtain ⟨⟨v, a, b, c⟩, hb⟩ := rowI_row h
      exact ⟨⟨v, a, own_lower b h1.size, c⟩, bb h1 hb⟩)
    generalize idles g = L at CO RR ⊢
    clear hg hin hR hr
    show Calls Try.prog 10 #[.agg #[.slice g.RA g.rules.length g.rc, .slice g.NA g.nodes.length g.nc]] w _
    go_enter Try.func10, Try.ntmps10
    go_wp2_with (first | (go_at_call 27; (with_reducible refine (WY.out _ (B1 _ _)).mono ?_); rintro e w1 ⟨p, mb, ml, rfl, hW, hb⟩; have H1 := Lib.hid (bb (B1 w _) hb); have HW := Lib.hid hW; clear hb hW) | (go_at_call 29; with_reducible refine (IA.out _ _).mono ?_; rintro e w2 ⟨rfl, rfl⟩))
    refine (CO.out _ _ _ _ HW.out).mono ?_
    rintro e w3 hrow
    have HR3 := Lib.hid (RR.out _ w3 e (bb H1.out (B1 w1 _)) hrow)
    obtain ⟨⟨v, rfl, _⟩, _⟩ := hrow
    go_wp2_with fail
    go_ret
    exact HR3.out
set_option maxRecDepth 100000 in
set_option maxHeartbeats 2000000 in
theorem wellIdle_any (g : Gr) (n : Int) (hn : -9223372036854775808 ≤ n ∧ n < 9223372036854775808) (w : World) (hg : Gr.At w g) (hin : Gr.In g) : Calls Try.prog 15 #[g.val, .int .i64 n] w fun e w' => e = .returned (.bool (idleB g n)) ∧ Below w.heap.size w w' := by
  have WY := Lib.hid (fun (hR : Right g) (w' : World) (b : Below w.heap.size w w') => wellOf_any g w' (hg.below b) hin hR)
  have WN := Lib.hid (fun (hR : rightB g = false) (w' : World) (b : Below w.heap.size w w') => wellOf_no g w' (hg.below b) hin hR)
  have IS := Lib.hid (fun (hR : Right g) (k : Nat) (hk : k < g.nodes.length) (A : World) (p mb : Nat) (ml : List Bool) (h : Wel A p g mb ml) => is_any h hR k hk)
  have QU := Lib.hid questions_any
  have hrl := hg.nl
  have EV := Lib.hid (show idleB g n = (rightB g && (decide (0 ≤ n ∧ n < g.nodes.length) && idleN g n.toNat)) from rfl)
  generalize idleB g n = v at EV ⊢
  clear hg hin
  show Calls Try.prog 15 #[.agg #[.slice g.RA g.rules.length g.rc, .slice g.NA g.nodes.length g.nc], .int .i64 n] w _
  by_cases h0 : n < 0
  · have hv : v = false := by rw [EV.out]; simp; omega
    have HV := Lib.hid hv
    clear hv EV WY WN IS
    go_enter Try.func15, Try.ntmps15
    go_wp2_with fail
    go_ret
    exact ⟨ret_bool HV.out.symm, B1 _ _⟩
  · by_cases h1 : (g.nodes.length : Int) ≤ n
    · have hv : v = false := by rw [EV.out]; simp; omega
      have HV := Lib.hid hv
      clear hv EV WY WN IS
      go_enter Try.func15, Try.ntmps15
      go_wp2_with fail
      go_ret
      exact ⟨ret_bool HV.out.symm, B1 _ _⟩
    · have h1' : ¬ (g.nodes.length : Int) ≤ n := h1
      cases hr : rightB g with
      | false =>
        have hv : v = false := by rw [EV.out, hr]; rfl
        have HV := Lib.hid hv
        have WN2 := Lib.hid (WN.out hr)
        clear hv EV WY WN hr IS
        go_enter Try.func15, Try.ntmps15
        go_wp2_with (go_at_call 27; with_reducible refine (WN2.out _ (B1 _ _)).mono ?_; rintro e w1 ⟨rfl, hb⟩; have H1 := Lib.hid (bb (B1 w _) hb); clear hb)
        go_ret
        exact ⟨ret_bool HV.out.symm, H1.out⟩
      | true =>
        obtain ⟨k, rfl⟩ : ∃ k : Nat, n = k := ⟨n.toNat, by omega⟩
        have hk : k < g.nodes.length := by omega
        have hv : v = idleN g k := by rw [EV.out, hr]; simp [hk]
        have WY2 := Lib.hid (WY.out (rightB_true.1 hr))
        have IS2 := Lib.hid (fun A p mb ml h => IS.out (rightB_true.1 hr) k hk A p mb ml h)
        rw [← hv] at IS2
        clear hv EV WY WN hr IS
        go_enter Try.func15, Try.ntmps15
        go_wp2_with (first | (go_at_call 27; (with_reducible refine (WY2.out _ (B1 _ _)).mono ?_); rintro e w1 ⟨p, mb, ml, rfl, hW, hb⟩; have H1 := Lib.hid (bb (B1 w _) hb); have HW := Lib.hid hW; skip; clear hb hW) | (go_at_call 38; with_reducible refine (QU.out _).mono ?_; rintro e w2 ⟨rfl, hb⟩; have H2 := Lib.hid (bb H1.out hb); have HW2 := Lib.hid (HW.out.below hb); clear hb) | (go_at_call 37; with_reducible refine (IS2.out _ _ _ _ HW2.out).mono ?_; rintro e w3 ⟨rfl, hb⟩; have H3 := Lib.hid (bb H2.out hb); clear hb))
        go_ret
        exact ⟨rfl, H3.out⟩
end Go.Proofs.Ytjelgmdjmjnnfaa

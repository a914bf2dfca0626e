/- The level of a name; a name; the text's end; a sign. -/
import Derived.Test.YtgmdfmckkfefgaaDoorVk
import Derived.Lib.AtoiErrMem
namespace Go.Proofs.YtgmdfmckkfefgaaDoor
open Go Go.RowKit
theorem digitVal_ok (u : UInt8) (h : dgt u.toNat = true) : Lib.digitVal u = some (u.toNat - 48) := by
  simp [dgt] at h
  unfold Lib.digitVal
  rw [if_pos (by omega)]
theorem decFrom_ok : ∀ (us : List UInt8) (acc : Nat), (∀ u ∈ us, dgt u.toNat = true) → Lib.decFrom acc us = some ((us.map UInt8.toNat).foldl (fun a c => 10 * a + (c - 48)) acc)
  | [], acc, _ => rfl
  | u :: us, acc, h => by
    unfold Lib.decFrom
    rw [digitVal_ok u (h u (by simp))]
    simp only [List.map_cons, List.foldl_cons]
    rw [decFrom_ok us _ (fun x hx => h x (by simp [hx])), Nat.mul_comm]
theorem atoi_ok {t : ByteArray} {ds : List Nat} (ht : Str t ds) (hd : ∀ c ∈ ds, dgt c = true) (h0 : ds ≠ []) : Lib.atoi t.data.toList = some (val ds : Int) := by
  have e : t.data.toList.map UInt8.toNat = ds := ht
  cases hu : t.data.toList with
  | nil => rw [hu] at e; exact absurd e.symm h0
  | cons u us =>
    rw [hu] at e
    have hall : ∀ x ∈ u :: us, dgt x.toNat = true := fun x hx => hd _ (by rw [← e]; exact List.mem_map.2 ⟨x, hx, rfl⟩)
    have h1 := hall u (by simp)
    simp [dgt] at h1
    have n45 : (u == 45) = false := by
      rw [beq_eq_false_iff_ne]; intro e2; rw [e2] at h1; simp at h1
    have n43 : (u == 43) = false := by
      rw [beq_eq_false_iff_ne]; intro e2; rw [e2] at h1; simp at h1
    unfold Lib.atoi Lib.decNat
    simp only [n45, n43, Bool.false_eq_true, if_false, List.isEmpty_cons]
    rw [decFrom_ok _ _ hall, e]
    rfl
theorem atoi_any (t : ByteArray) (ds : List Nat) (ht : Str t ds) (hd : ∀ c ∈ ds, dgt c = true) (h0 : ds ≠ []) (hl : ds.length ≤ 18) (w : World) :
    Calls Tryd.prog 37 #[.string t] w fun e w' => e = .returned (.tuple #[.int .i64 (val ds), .nilIface]) ∧ Below w.heap.size w w' :=
  (Tryd.strconv_Atoi t (val ds) (by rw [ht.size]; exact hl) (atoi_ok ht hd h0) w).mono fun e w' ⟨he, u, hw⟩ => ⟨he, by rw [hw]; exact Lib.bytesWorld_below _ _ _⟩
/-- A level, and how many bytes it takes. -/
def lvR (l : List Nat) : Int × Nat :=
  match l with
  | [] => (-1, 0)
  | c :: r => if c = 58 then (if lead dgt r = 0 then (-1, 0) else (lvl (r.take (lead dgt r)), 1 + lead dgt r)) else (-1, 0)
theorem namR_lvR (n : Nat) (t d : List Nat) : namR n t d = ⟨2, n + (lvR d).2, t, (lvR d).1, no⟩ := by
  cases d with
  | nil => rfl
  | cons c r =>
    by_cases h : c = 58
    · subst h
      by_cases h0 : lead dgt r = 0
      · rw [namR_0 _ _ h0]; simp [lvR, h0]
      · rw [namR_1 _ _ h0]; simp [lvR, h0, Nat.add_assoc]
    · rw [namR_no _ _ _ h]; simp [lvR, h]
theorem str58 : Str ⟨#[58]⟩ [58] := rfl
set_option maxRecDepth 100000 in
set_option maxHeartbeats 4000000 in
theorem level_no (b k : Nat) (s : ByteArray) (l : List Nat) (hs : Str s l) (hl : l.length ≤ 60000) (hk : k ≤ l.length) (hi : lvR (l.drop k) = (-1, 0)) (w : World) (h : Rd w b s k) :
    Calls Tryd.prog 30 #[.pointer (some ⟨b, 0, none⟩)] w fun e w' => e = .returned (.int .i64 (-1)) ∧ w.grownBy w' (some b) ∧ Rd w' b s k := by
  have hz := hs.size
  obtain ⟨_, c1⟩ := h.cells
  have HH := Lib.hid h
  by_cases hp : (l.drop k).head? = some 58
  · have hlt : k < l.length := by
      apply Nat.lt_of_not_le
      intro hge
      rw [List.drop_of_length_le hge] at hp
      cases hp
    obtain ⟨r, hr⟩ : ∃ r, l.drop k = 58 :: r := by
      cases hd : l.drop k with
      | nil => rw [hd] at hp; cases hp
      | cons c r => rw [hd] at hp; simp at hp; exact ⟨r, by rw [hp]⟩
    have hr1 : l.drop (k + 1) = r := by rw [← List.drop_drop, hr]; rfl
    have hd0 : lead dgt r = 0 := by
      rw [hr] at hi
      simp only [lvR, if_true] at hi
      by_cases h0 : lead dgt r = 0
      · exact h0
      · rw [if_neg h0] at hi
        have := congrArg Prod.snd hi
        simp at this
    have TY := Lib.hid (fun W hW => take1_yes 58 b k ⟨#[58]⟩ s str58 l hs hl hk hp W hW)
    have SD : RowKit.Hid (∀ W, Rd W b s (k + 1) → Calls Tryd.prog 24 #[.pointer (some ⟨b, 0, none⟩), .func (.func 36) #[] #[]] W fun e w' => e = .returned (.bool false) ∧ ∃ n, w' = W.drewN n) := Lib.hid (fun W hW => by
      by_cases hlt2 : k + 1 < l.length
      · have la := lead_at (p := dgt) hlt2
        rw [hr1, hd0] at la
        have hf : dgt (l.getD (k + 1) 0) = false := by
          cases hq : dgt (l.getD (k + 1) 0) with
          | false => rfl
          | true => rw [hq] at la; simp at la
        have := sees_dgt_at b (k + 1) (l.getD (k + 1) 0) s W hW (by omega) (hs.byte (k + 1))
        rw [hf] at this
        exact this
      · have e : k + 1 = s.size := by omega
        rw [e] at hW
        exact sees_dgt_no b s W hW)
    have hk2 : (k : Int) ≤ 60000 := by omega
    clear hi hp hr hr1 hd0 hs h hz
    go_enter Tryd.func30, Tryd.ntmps30
    go_wp2_with (first | (go_at_call 17; (with_reducible refine (TY.out _ HH.out).mono ?_); rintro e w1 ⟨rfl, hg, hR⟩; have G1 := Lib.hid hg; have R1 := Lib.hid hR; clear hg hR) | (go_at_call 24; (with_reducible refine (SD.out _ R1.out).mono ?_); rintro e w2 ⟨rfl, n, rfl⟩; have d1 := (R1.out.drewN (n := n)).cells.2; have f1 := Blk.frozen (R1.out.drewN (n := n)) 1))
    go_ret
    have q := Rd.set (R1.out.drewN (n := n)) k k rfl
    exact ⟨rfl, grown_trans (grown_drawn G1.out n) q.2, q.1⟩
  · have TN := Lib.hid (fun W hW => take1_no 58 b k ⟨#[58]⟩ s str58 l hs hk hp W hW)
    clear hi hp hs h hz
    go_enter Tryd.func30, Tryd.ntmps30
    go_wp2_with (go_at_call 17; (with_reducible refine (TN.out _ HH.out).mono ?_); rintro e w1 ⟨rfl, hb, hR⟩; have G1 := Lib.hid (below_is_grown hb (some b)); have R1 := Lib.hid hR; have d1 := hR.cells.2; have f1 := Blk.frozen hR 1; clear hb hR)
    go_ret
    have q := Rd.set R1.out k k rfl
    exact ⟨rfl, grown_trans G1.out q.2, q.1⟩
set_option maxRecDepth 100000 in
set_option maxHeartbeats 4000000 in
theorem level_yes (b k n : Nat) (v : Int) (s : ByteArray) (l : List Nat) (hs : Str s l) (hl : l.length ≤ 60000) (hk : k ≤ l.length) (hn : n ≠ 0) (hi : lvR (l.drop k) = (v, n)) (w : World) (h : Rd w b s k) :
    Calls Tryd.prog 30 #[.pointer (some ⟨b, 0, none⟩)] w fun e w' => e = .returned (.int .i64 v) ∧ w.grownBy w' (some b) ∧ Rd w' b s (k + n) := by
  have hz := hs.size
  obtain ⟨_, c1⟩ := h.cells
  have HH := Lib.hid h
  obtain ⟨r, hr, hd0, ev, en⟩ : ∃ r, l.drop k = 58 :: r ∧ lead dgt r ≠ 0 ∧ lvl (r.take (lead dgt r)) = v ∧ 1 + lead dgt r = n := by
    cases hd : l.drop k with
    | nil => rw [hd] at hi; exact absurd (congrArg Prod.snd hi).symm hn
    | cons c r =>
      rw [hd] at hi
      by_cases hc : c = 58
      · subst hc
        by_cases h0 : lead dgt r = 0
        · simp only [lvR, if_true, if_pos h0] at hi; exact absurd (congrArg Prod.snd hi).symm hn
        · simp only [lvR, if_true, if_neg h0] at hi
          exact ⟨r, rfl, h0, congrArg Prod.fst hi, congrArg Prod.snd hi⟩
      · simp only [lvR, if_neg hc] at hi; exact absurd (congrArg Prod.snd hi).symm hn
  have hp : (l.drop k).head? = some 58 := by rw [hr]; rfl
  have hlt : k < l.length := by
    apply Nat.lt_of_not_le
    intro hge
    rw [List.drop_of_length_le hge] at hp
    cases hp
  have hr1 : l.drop (k + 1) = r := by rw [← List.drop_drop, hr]; rfl
  subst hr1
  have hle := lead_le dgt (l.drop (k + 1))
  rw [List.length_drop] at hle
  have hlt2 : k + 1 < l.length := by omega
  have TY := Lib.hid (fun W hW => take1_yes 58 b k ⟨#[58]⟩ s str58 l hs hl hk hp W hW)
  have SD := Lib.hid (fun W hW => by
    have := sees_dgt_at b (k + 1) (l.getD (k + 1) 0) s W hW (by omega) (hs.byte (k + 1))
    have la := lead_at (p := dgt) hlt2
    rw [show dgt (l.getD (k + 1) 0) = true by
      cases hq : dgt (l.getD (k + 1) 0) with
      | true => rfl
      | false => rw [hq] at la; simp only [Bool.false_eq_true, if_false] at la; exact absurd la hd0] at this
    exact this)
  have RW := Lib.hid (fun W hW => row_dgt b (k + 1) s l hs hl (by omega) W hW)
  have hts := hs.extract (k + 1) (k + 1 + lead dgt (l.drop (k + 1)))
  rw [Nat.add_sub_cancel_left] at hts
  have hall := lead_all dgt (l.drop (k + 1))
  have htl : ((l.drop (k + 1)).take (lead dgt (l.drop (k + 1)))).length = lead dgt (l.drop (k + 1)) := by rw [List.length_take, List.length_drop]; omega
  obtain ⟨m, em⟩ : ∃ m, m = lead dgt (l.drop (k + 1)) := ⟨_, rfl⟩
  rw [← em] at hd0 ev en RW hts hall htl
  obtain ⟨t, et⟩ : ∃ t, t = s.extract (k + 1) (k + 1 + m) := ⟨_, rfl⟩
  obtain ⟨ds, ed⟩ : ∃ ds, ds = (l.drop (k + 1)).take m := ⟨_, rfl⟩
  rw [← et] at RW hts
  rw [← ed] at ev hts hall htl
  have hts2 : t.size = m := by rw [hts.size, htl]
  have hm6 : (t.size : Int) ≤ 60000 := by omega
  subst en
  rw [← Nat.add_assoc]
  by_cases h4 : 4 < m
  · have ev' : v = 9999 := by rw [← ev]; unfold lvl; rw [if_pos (by omega)]
    subst ev'
    have h4' : (4 : Int) < t.size := by omega
    clear ev hi hp hr hd0 hs h hz hts hall htl em et ed hts2 h4 hle
    go_enter Tryd.func30, Tryd.ntmps30
    go_wp2_with (first | (go_at_call 17; (with_reducible refine (TY.out _ HH.out).mono ?_); rintro e w1 ⟨rfl, hg, hR⟩; have G1 := Lib.hid hg; have R1 := Lib.hid hR; clear hg hR) | (go_at_call 24; (with_reducible refine (SD.out _ R1.out).mono ?_); rintro e w2 ⟨rfl, n, rfl⟩) | (go_at_call 28; (with_reducible refine (RW.out _ R1.out.drewN).mono ?_); rintro e w3 ⟨rfl, hg, hR⟩; have G3 := Lib.hid (grown_trans (grown_drawn G1.out n) hg); have R3 := Lib.hid hR; clear hg hR))
    go_ret
    exact ⟨rfl, G3.out, R3.out⟩
  · have ev' : v = val ds := by rw [← ev]; unfold lvl; rw [if_neg (by omega)]
    have h4' : (t.size : Int) ≤ 4 := by omega
    have AT := Lib.hid (fun W => atoi_any t ds hts (fun c hc => hall c hc) (fun e => by rw [e] at htl; simp at htl; omega) (by omega) W)
    rw [← ev'] at AT
    clear ev ev' hi hp hr hd0 hs h hz hts hall htl em et ed hts2 h4 hle
    go_enter Tryd.func30, Tryd.ntmps30
    go_wp2_with (first | (go_at_call 17; (with_reducible refine (TY.out _ HH.out).mono ?_); rintro e w1 ⟨rfl, hg, hR⟩; have G1 := Lib.hid hg; have R1 := Lib.hid hR; clear hg hR) | (go_at_call 24; (with_reducible refine (SD.out _ R1.out).mono ?_); rintro e w2 ⟨rfl, n, rfl⟩) | (go_at_call 28; (with_reducible refine (RW.out _ R1.out.drewN).mono ?_); rintro e w3 ⟨rfl, hg, hR⟩; have G3 := Lib.hid (grown_trans (grown_drawn G1.out n) hg); have R3 := Lib.hid hR; clear hg hR) | (go_at_call 37; (with_reducible refine (AT.out _).mono ?_); rintro e w4 ⟨rfl, hb⟩; have G4 := Lib.hid (grown_on G3.out hb); have R4 := Lib.hid (R3.out.below hb); clear hb))
    go_ret
    exact ⟨rfl, G4.out, R4.out⟩
end Go.Proofs.YtgmdfmckkfefgaaDoor

/- The contract of the document's Gaps. -/
import Derived.Test.YtgploogflhfolaaMg
import Derived.Test.YtgploogflhfolaaMr
import Derived.Test.YtgploogflhfolaaXn
import Derived.Test.YtgploogflhfolaaXr
namespace Go.Proofs.Ytgploogflhfolaa
open Go Go.RowKit Go.Shelf
/-- Where the walk of the document's Gaps stands. -/
def EdgeAt (x y : Int) (l : List (Int × Int)) (p : Int) : Prop := p = x ∨ Cov (parts l) (p - 1) ∨ Cov (parts l) p ∨ y ≤ p
theorem rgaps_no (x y : Int) (A : Option Addr) (n c : Nat) (h : rt x y = false) (w : World) :
    Calls Try.prog 26 #[.agg #[.int .i64 x, .int .i64 y], .slice A n c] w fun e w' => e = .returned (.slice none 0 0) ∧ Below w.heap.size w w' := by
  have R := fun w => rright_any x y w
  rw [h] at R
  have R := Lib.hid R
  clear h
  go_enter Try.func26, Try.ntmps26
  go_wp2_with fail
  refine (R.out _).mono ?_
  rintro e w1 ⟨rfl, hb⟩
  go_wp2_with fail
  go_ret
  exact ⟨rfl, bt (B1 _ _) hb (by simp)⟩
set_option maxRecDepth 100000 in
set_option maxHeartbeats 4000000 in
theorem rgaps_yes (x y : Int) (A : Option Addr) (l : List (Int × Int)) (c : Nat) (hl : l.length ≤ 65536) (hr : Inrs l) (hrt : rt x y = true) (w : World) (h : Spn w A l) :
    Calls Try.prog 26 #[.agg #[.int .i64 x, .int .i64 y], .slice A l.length c] w fun e w' => ∃ v, e = .returned v ∧ w'.ownsRow w.heap.size 23 2 v (gapsF x y l).length (scells (gapsF x y l)) ∧ Below w.heap.size w w' := by
  obtain ⟨i0, hi, hz0, hz1, hz2⟩ := info_parts Try.info23
  have R := fun w => rright_any x y w
  rw [hrt] at R
  have R := Lib.hid R
  have HT := Lib.hid h
  have HR := Lib.hid hr
  have RH := Lib.hid (fun a b p w => rhas_any a b p w)
  have RL := Lib.hid (fun a b hb w => rlen_any a b hb w)
  have HXY := Lib.hid (rt_iff.1 hrt)
  clear h hr hrt
  go_enter Try.func26, Try.ntmps26
  go_wp2_with fail
  refine (R.out _).mono ?_
  rintro e w1 ⟨rfl, hb⟩
  have HBs := Lib.hid ((Blk.new w #[.int .i64 x, .int .i64 y] 23).below hb (by simp))
  have HB1 := Lib.hid (bt (B1 w _) hb (by simp))
  have hz1' : w.heap.size + 1 ≤ w1.heap.size := by have := hb.size; simpa using this
  obtain ⟨c0, c1⟩ := HBs.out.two
  clear hb R
  go_wp2_with fail
  clear c0 c1
  go_loopw [5, 6] (fun g a wr => ∃ p : Int, a = .int .i64 p ∧ x ≤ p ∧ EdgeAt x y l p ∧ wr.ownsRow (w.heap.size + 1) 23 2 g (gapsF x (min p y) l).length (scells (gapsF x (min p y) l)) ∧ Blk wr w.heap.size #[.int .i64 x, .int .i64 y] 23 ∧ Below w.heap.size w wr ∧ w.heap.size + 1 ≤ wr.heap.size) (fun _ a _ => (y - intOf a).toNat)
  case atStart =>
    refine ⟨x, rfl, Int.le_refl _, .inl rfl, ?_, HBs.out, HB1.out, hz1'⟩
    rw [show min x y = x by have := HXY.out; omega, gapsF_none x l HXY.out.1]
    exact World.ownsRow_nil _ _ _ _
  case round =>
    obtain ⟨p, rfl, hxp, hE, hown, hbs, hb, hsz⟩ := hrel
    obtain ⟨wa, rfl⟩ : ∃ u, u = wr := ⟨_, rfl⟩
    obtain ⟨c0, c1⟩ := hbs.two
    have HE := Lib.hid hE
    have HO := Lib.hid hown
    have HBS := Lib.hid hbs
    have HB := Lib.hid hb
    clear hE hown hbs hb HBs HB1 hz1'
    by_cases hpy : p < y
    · go_wp2_with fail
      go_loopw [7, 8] (fun o i wr2 => ∃ k : Nat, k ≤ l.length ∧ i = .int .i64 k ∧ o = .int .i64 (overF (l.take k) p) ∧ Below wa.heap.size wa wr2) (fun _ i _ => l.length - (intOf i).toNat)
      case atStart => exact ⟨0, by omega, rfl, rfl, Below.refl _ _⟩
      case round =>
        obtain ⟨k, hk, rfl, rfl, hb2⟩ := hrel
        by_cases hlt : k < l.length
        · obtain ⟨tb, to, rfl, htl, htc⟩ := ((HT.out.below HB.out).below hb2) (by omega)
          obtain ⟨hc0, hc1⟩ := htc k hlt
          obtain ⟨z, ez⟩ : ∃ z, z = l.getD k (0, 0) := ⟨_, rfl⟩
          have HOV := Lib.hid (overF_take p hlt ez)
          rw [← ez] at hc0 hc1
          obtain ⟨z1, z2⟩ := z
          dsimp only at hc0 hc1
          have hlt2 : (k : Int) < l.length := by omega
          have RZ := fun w => RH.out z1 z2 p w
          have HB2 := Lib.hid hb2
          obtain ⟨v, ev⟩ : ∃ v, v = overF (l.take k) p := ⟨_, rfl⟩
          rw [← ev] at HOV ⊢
          clear htc ez hb2 ev
          cases hz : hs z1 z2 p with
          | false =>
            rw [hz] at RZ
            have RZ := Lib.hid RZ
            have HZ := Lib.hid hz
            clear hz
            go_wp2_with fail
            refine (RZ.out _).mono ?_
            rintro e w3 ⟨rfl, hb3⟩
            have HB3 := Lib.hid (bt HB2.out hb3 HB2.out.size)
            clear hb3
            go_wp2_with fail
            go_roundw
            case rel => exact ⟨k + 1, by omega, by go_num, by rw [HOV.out]; simp [ovS, hasz, HZ.out], HB3.out⟩
            case measure => simp [intOf]; omega
          | true =>
            rw [hz] at RZ
            have RZ := Lib.hid RZ
            have HZ := Lib.hid hz
            clear hz
            go_wp2_with fail
            refine (RZ.out _).mono ?_
            rintro e w3 ⟨rfl, hb3⟩
            have HB3 := Lib.hid (bt HB2.out hb3 HB2.out.size)
            have hc1 := (hb3.cell (p := ⟨tb, to + k * 2 + 1, none⟩) htl).trans hc1
            clear hb3
            go_wp2_with fail
            go_roundw
            case rel => exact ⟨k + 1, by omega, by go_num, by rw [HOV.out]; simp [ovS, hasz, HZ.out], HB3.out⟩
            case measure => simp [intOf]; omega
        · obtain rfl : k = l.length := by omega
          obtain ⟨wb, rfl⟩ : ∃ u, u = wr := ⟨_, rfl⟩
          have ht : l.take l.length = l := List.take_length
          rw [ht]
          clear ht
          by_cases ho : 0 ≤ overF l p
          · obtain ⟨q1, q2, q3⟩ := gaps_over (hi := y) HXY.out.1 hxp hpy ho
            obtain ⟨v, ev⟩ : ∃ v, v = overF l p := ⟨_, rfl⟩
            rw [← ev] at ho q1 q2 q3 ⊢
            have HQ := Lib.hid q2
            have HQ3 := Lib.hid q3
            have HB2 := Lib.hid hb2
            clear ev q2 q3 hb2
            go_wp2_with fail
            go_roundw
            case rel => exact ⟨v, rfl, by omega, .inr (.inl HQ3.out), by rw [HQ.out]; have := HO.out; rw [show min p y = p by omega] at this; exact own_below this HB2.out, HBS.out.below HB2.out HBS.out.lt, bt HB.out HB2.out HB.out.size, Nat.le_trans hsz HB2.out.size⟩
            case measure => simp [intOf]; omega
          · have hE' : p = x ∨ Cov (parts l) (p - 1) := by
              have hno := over_no (by have := HXY.out.1; omega) ho
              rcases HE.out with h | h | h | h
              · exact .inl h
              · exact .inr h
              · exact absurd h hno
              · omega
            obtain ⟨q1, q2, q3, q4⟩ := gaps_end HXY.out.1 hxp hpy ho hE'
            obtain ⟨v, ev⟩ : ∃ v, v = overF l p := ⟨_, rfl⟩
            rw [← ev] at ho ⊢
            have HQ1 := Lib.hid q1
            have HQ2 := Lib.hid q2
            have HQ3 := Lib.hid q3
            have HQ4 := Lib.hid q4
            have hb3 := bt HB.out hb2 HB.out.size
            obtain ⟨c0, c1⟩ := (HBS.out.below hb2 HBS.out.lt).two
            have HB2 := Lib.hid hb2
            have HB3 := Lib.hid hb3
            clear ev q1 q2 q3 q4 hE' hb2 hb3
            go_wp2_with fail
            go_loopw [9, 10] (fun o i wr3 => ∃ k : Nat, k ≤ l.length ∧ i = .int .i64 k ∧ o = .int .i64 (endF (l.take k) y p) ∧ Below wb.heap.size wb wr3) (fun _ i _ => l.length - (intOf i).toNat)
            case atStart => exact ⟨0, by omega, rfl, rfl, Below.refl _ _⟩
            case round =>
              obtain ⟨k, hk, rfl, rfl, hb4⟩ := hrel
              by_cases hlt : k < l.length
              · obtain ⟨tb, to, rfl, htl, htc⟩ := ((HT.out.below HB3.out).below hb4) (by omega)
                obtain ⟨hc0, hc1⟩ := htc k hlt
                have hx := HR.out.getD k hlt
                obtain ⟨z, ez⟩ : ∃ z, z = l.getD k (0, 0) := ⟨_, rfl⟩
                have HOV := Lib.hid (endF_take y p hlt ez)
                rw [← ez] at hc0 hc1 hx
                obtain ⟨z1, z2⟩ := z
                obtain ⟨r1, r2, r3, r4⟩ := hx
                dsimp only at hc0 hc1 r1 r2 r3 r4
                have hlt2 : (k : Int) < l.length := by omega
                have RZ := fun w => RL.out z1 z2 r4 w
                have HB4 := Lib.hid hb4
                obtain ⟨v', ev'⟩ : ∃ v, v = endF (l.take k) y p := ⟨_, rfl⟩
                rw [← ev'] at HOV ⊢
                obtain ⟨n, en⟩ : ∃ n, n = ln z1 z2 := ⟨_, rfl⟩
                rw [← en] at RZ
                have HN := Lib.hid en
                have RZ := Lib.hid RZ
                clear htc ez hb4 ev' en
                by_cases hn : 0 < n
                · by_cases hpz : p < z1
                  · go_wp2_with fail
                    refine (RZ.out _).mono ?_
                    rintro e w3 ⟨rfl, hb5⟩
                    have HB5 := Lib.hid (bt HB4.out hb5 HB4.out.size)
                    have hc0 := (hb5.cell (p := ⟨tb, to + k * 2, none⟩) htl).trans hc0
                    clear hb5
                    go_wp2_with fail
                    go_roundw
                    case rel => exact ⟨k + 1, by omega, by go_num, by rw [HOV.out]; unfold enS; rw [if_pos ⟨by rw [← HN.out]; exact hn, hpz⟩], HB5.out⟩
                    case measure => simp [intOf]; omega
                  · go_wp2_with fail
                    refine (RZ.out _).mono ?_
                    rintro e w3 ⟨rfl, hb5⟩
                    have HB5 := Lib.hid (bt HB4.out hb5 HB4.out.size)
                    have hc0 := (hb5.cell (p := ⟨tb, to + k * 2, none⟩) htl).trans hc0
                    clear hb5
                    go_wp2_with fail
                    go_roundw
                    case rel => exact ⟨k + 1, by omega, by go_num, by rw [HOV.out]; unfold enS; rw [if_neg (fun h => by have : p < z1 := h.2; omega)], HB5.out⟩
                    case measure => simp [intOf]; omega
                · go_wp2_with fail
                  refine (RZ.out _).mono ?_
                  rintro e w3 ⟨rfl, hb5⟩
                  have HB5 := Lib.hid (bt HB4.out hb5 HB4.out.size)
                  clear hb5
                  go_wp2_with fail
                  go_roundw
                  case rel => exact ⟨k + 1, by omega, by go_num, by rw [HOV.out]; unfold enS; rw [if_neg (fun h => by have h1 : 0 < ln z1 z2 := h.1; rw [← HN.out] at h1; omega)], HB5.out⟩
                  case measure => simp [intOf]; omega
              · obtain rfl : k = l.length := by omega
                obtain ⟨wr3, rfl⟩ : ∃ u, u = wr := ⟨_, rfl⟩
                have ht : l.take l.length = l := List.take_length
                rw [ht]
                clear ht
                obtain ⟨en, een⟩ : ∃ en, en = endF l y p := ⟨_, rfl⟩
                rw [← een] at HQ1 HQ2 HQ3 HQ4 ⊢
                clear een
                have hq1 := HQ1.out
                have hq2 := HQ2.out
                have hb5 := bt HB2.out hb4 HB2.out.size
                have hown := HO.out
                rw [show min p y = p by omega] at hown
                have hown := own_below hown hb5
                have hlen := gapsF_len x p l
                have hbs5 := HBS.out.below hb5 HBS.out.lt
                have hb6 := bt HB.out hb5 HB.out.size
                have hs6 : w.heap.size + 1 ≤ wr3.heap.size := Nat.le_trans hsz hb5.size
                have HBS5 := Lib.hid hbs5
                have HB6 := Lib.hid hb6
                clear hb4 hb5 hbs5 hb6
                obtain ⟨G, eG⟩ : ∃ G, G = gapsF x p l := ⟨_, rfl⟩
                rw [← eG] at hown hlen HQ3
                clear eG
                go_wp2_with (at_builtin; refine wpList_append_own _ rfl _ _ 32 rfl (w.heap.size + 1) 23 i0 (.agg #[.int .i64 0, .int .i64 0]) 2 16 Try.underlying32 hi hz0 hz1 hz2 rfl (by decide) _ _ _ rfl (hown.alloc _) ⟨wr3.heap.size, 0, none⟩ 1 1 [.int .i64 p, .int .i64 en] rfl rfl (cell_two_new _ _ _ _) (by simp [Value.oneCell']) (by unfold maxLen; omega) (by omega) (by simp; omega) ?_; intro v' w7 hown' hgrow _)
                have hgr : (wr3.alloc (.cells #[.int .i64 p, .int .i64 en] 23)).grownBy w7 u5.ownBlock := hgrow
                go_roundw
                case rel =>
                  refine ⟨en, rfl, by omega, ?_, ?_, ?_, ?_, ?_⟩
                  · rcases HQ4.out with h | h
                    · exact .inr (.inr (.inr (by omega)))
                    · exact .inr (.inr (.inl h))
                  · rw [show min en y = en by omega, HQ3.out, List.length_append, scells_app]
                    simpa [scells_one] using hown'
                  · exact (hgr.block w.heap.size (by have := HBS5.out.lt; simp; omega) (fun e => by have := (hown.lt _ e.symm).1; omega)).trans (HBS5.out.alloc _)
                  · exact (HB6.out.alloc HB6.out.size _).grown hgr (by simp; omega) (fun g hg => by have := (hown.lt g hg).1; omega)
                  · have := hgr.size; simp at this; omega
                case measure => simp [intOf]; omega
    · have hmin : min p y = y := by omega
      go_wp2_with fail
      go_ret
      have := HO.out
      rw [hmin] at this
      exact ⟨_, rfl, own_low this (by omega), HB.out⟩
theorem rgaps_any (s : Int × Int) (A : Option Addr) (l : List (Int × Int)) (c : Nat) (hl : l.length ≤ 65536) (hr : Inrs l) (w : World) (h : Spn w A l) :
    Calls Try.prog 26 #[.agg #[.int .i64 s.1, .int .i64 s.2], .slice A l.length c] w fun e w' => ∃ v, e = .returned v ∧ w'.ownsRow w.heap.size 23 2 v (gapsF s.1 s.2 l).length (scells (gapsF s.1 s.2 l)) ∧ Below w.heap.size w w' := by
  cases hrt : rt s.1 s.2 with
  | false =>
    have e : gapsF s.1 s.2 l = [] := by simp [gapsF, hrt]
    rw [e]
    exact (rgaps_no s.1 s.2 A l.length c hrt w).mono fun _ _ ⟨he, hb⟩ => ⟨_, he, World.ownsRow_nil _ _ _ _, hb⟩
  | true => exact rgaps_yes s.1 s.2 A l c hl hr hrt w h
end Go.Proofs.Ytgploogflhfolaa

/- A text in quotes, read. -/
import Derived.Test.YtgmdfmckkfefgaaDoorVo
namespace Go.Proofs.YtgmdfmckkfefgaaDoor
open Go Go.RowKit
theorem txt_one (w : World) (x : Nat) (hx : x < 256) : Txt (w.alloc (.cells #[.int .u8 x] 5)) (some ⟨w.heap.size, 0, none⟩) [x] := by
  refine ⟨by simpa using hx, fun _ => ⟨_, _, rfl, by simp, fun i hi => ?_⟩⟩
  have : i = 0 := by simpa using hi
  subst this
  rw [(Blk.new w _ _).cell]
  rfl
theorem own_ne {w : World} {base e size n b : Nat} {v : Value} {xs : List Value} {vs : Array Value} {T : TypeId} (h : w.ownsRow base e size v n xs) (hb : Blk w b vs T) (hT : T ≠ e) : v.ownBlock ≠ some b := by
  rcases h.2 with ⟨rfl, _⟩ | ⟨g, cap, cur, rfl, _, hg, _⟩
  · simp [Value.ownBlock]
  · simp only [Value.ownBlock, ne_eq, Option.some.injEq]
    rintro rfl
    rw [show w.heap[g]? = _ from hb] at hg
    cases hg
    exact hT rfl
theorem blk_append {w w' : World} {x base n e size : Nat} {vs : Array Value} {T : TypeId} {v : Value} {xs : List Value} {o : Obj} (hB : Blk w x vs T) (hown : w.ownsRow base e size v n xs) (hT : T ≠ e) (hg : (w.alloc o).grownBy w' v.ownBlock) : Blk w' x vs T :=
  (hg.block x (by have := hB.lt; simp; omega) (fun e2 => own_ne hown hB hT e2.symm)).trans ((Below.heap_alloc w o x hB.lt).trans hB)
theorem grown_append {a w w' : World} {b base n e size : Nat} {v : Value} {xs : List Value} {o : Obj} (h : a.grownBy w (some b)) (hown : w.ownsRow base e size v n xs) (hg : (w.alloc o).grownBy w' v.ownBlock) (hB : a.heap.size ≤ base) : a.grownBy w' (some b) :=
  ⟨hg.os.trans h.os, hg.tape.trans h.tape, hg.output.trans h.output, Nat.le_trans h.size (Nat.le_trans (by simp) hg.size), fun k hk hn => by
    refine (hg.block k (by have := h.size; simp; omega) (fun e2 => ?_)).trans ((Below.heap_alloc w o k (by have := h.size; omega)).trans (h.block k hk hn))
    have := (hown.lt k e2.symm).1
    omega⟩
theorem own_grown {w w' : World} {base n e size b : Nat} {v : Value} {xs : List Value} {vs : Array Value} {T : TypeId} (hown : w.ownsRow base e size v n xs) (hB : Blk w b vs T) (hT : T ≠ e) (hg : w.grownBy w' (some b)) : w'.ownsRow base e size v n xs :=
  hown.kept hg (.inr (own_ne hown hB hT))
/-- What a try for a text tells. -/
def QtPost (b k m : Nat) (s : ByteArray) (o : Option (List Nat × Nat)) (w : World) (e : Ending) (w' : World) : Prop :=
  (o = none ∧ e = .returned (.tuple #[.agg wzero, .bool false]) ∧ Some' w w' b s m) ∨ ∃ t n, o = some (t, n) ∧ e = .returned (.tuple #[.agg (wcells 3 (bsv t) 0), .bool true]) ∧ w.grownBy w' (some b) ∧ Rd w' b s (k + n)
/-- The text in quotes ahead. -/
def quo (l : List Nat) : Option (List Nat × Nat) := if l.head? = some 34 then (QT (l.drop 1)).map fun x => (x.1, 1 + x.2) else none
def qAdd (acc : List Nat) (d : Nat) (x : Option (List Nat × Nat)) : Option (List Nat × Nat) := x.map fun y => (acc ++ y.1, d + y.2)
theorem str34 : Str ⟨#[34]⟩ [34] := rfl
set_option maxRecDepth 100000 in
set_option maxHeartbeats 8000000 in
theorem quoted_any (b k : Nat) (s : ByteArray) (l : List Nat) (hs : Str s l) (hl : l.length ≤ 60000) (hk : k ≤ l.length) (w : World) (h : Rd w b s k) (hT : Tab w) (hb0 : b ≠ 0) :
    Calls Tryd.prog 21 #[.pointer (some ⟨b, 0, none⟩)] w (QtPost b k l.length s (quo (l.drop k)) w) := by
  have hbw := h.lt
  have HLT := Lib.hid hs.lt
  have TY := Lib.hid (fun j hj hp W hW => take1_yes 34 b j ⟨#[34]⟩ s str34 l hs hl hj hp W hW)
  have TN := Lib.hid (fun j hj hp W hW => take1_no 34 b j ⟨#[34]⟩ s str34 l hs hj hp W hW)
  have CN := Lib.hid (fun j hj hr W hW hTW => cread_no b j 1 s l hs hl hj hr W hW hTW)
  have CY := Lib.hid (fun j x n hj hr W hW hTW => cread_yes b j x n 1 s l hs hl hj hr W hW hTW)
  have HH := Lib.hid (h.below (B1 w (.cells wzero 33)))
  have HT := Lib.hid (hT.below (B1 w (.cells wzero 33)))
  have K0 := Lib.hid (Blk.new w wzero 33)
  have HL := Lib.hid hl
  clear h hT hs
  by_cases hp : (l.drop k).head? = some 34
  · have hlt : k < l.length := by
      apply Nat.lt_of_not_le
      intro hge
      rw [List.drop_of_length_le hge] at hp
      cases hp
    have eq0 : quo (l.drop k) = (QT (l.drop (k + 1))).map fun x => (x.1, 1 + x.2) := by
      unfold quo
      rw [if_pos hp, List.drop_drop]
    obtain ⟨o, eo⟩ : ∃ o, o = quo (l.drop k) := ⟨_, rfl⟩
    rw [← eo] at eq0 ⊢
    have EQ := Lib.hid eq0
    have HP := Lib.hid hp
    have e1 : k + 1 ≤ l.length := hlt
    clear eq0 eo hp hl
    go_enter Tryd.func21, Tryd.ntmps21
    go_wp2_with (go_at_call 17; (with_reducible refine (TY.out k hk HP.out _ HH.out).mono ?_); rintro e w1 ⟨rfl, hg, hR⟩; have K1 := Lib.hid (K0.out.grown hg (by simp; omega)); have R1 := Lib.hid hR; have T1 := Lib.hid (HT.out.grown hg hb0); have G1 := Lib.hid (grown_trans (below_is_grown (B1 w _) (some b)) hg); clear hg hR)
    have O1 : RowKit.Hid (w1.ownsRow (w.heap.size + 1) 5 1 (.slice none 0 0) ([] : List Nat).length (([] : List Nat).map natb)) := Lib.hid (World.ownsRow_nil _ _ _ _)
    go_loopw [4, 5, 6] (fun v _ _ wr => ∃ (j : Nat) (acc : List Nat), k + 1 ≤ j ∧ j ≤ l.length ∧ acc.length ≤ j ∧ (∀ x ∈ acc, x < 256) ∧ QT (l.drop (k + 1)) = qAdd acc (j - (k + 1)) (QT (l.drop j)) ∧ Rd wr b s j ∧ wr.ownsRow (w.heap.size + 1) 5 1 v acc.length (acc.map natb) ∧ Blk wr w.heap.size wzero 33 ∧ w.grownBy wr (some b) ∧ Tab wr) (fun _ _ _ wr => l.length - posOf wr b)
    case atStart => exact ⟨k + 1, [], Nat.le_refl _, e1, by simp, by simp, by simp [qAdd], R1.out, O1.out, K1.out, G1.out, T1.out⟩
    case round =>
      obtain ⟨j, acc, hkj, hj, hal, hac, hq, hR, hO, hK, hG, hTb⟩ := hrel
      have HA := Lib.hid hac
      have HQ := Lib.hid hq
      have RR := Lib.hid hR
      have OR := Lib.hid hO
      have KR := Lib.hid hK
      have GR := Lib.hid hG
      have TR := Lib.hid hTb
      clear hac hq hR hO hK hG hTb
      obtain ⟨wa, rfl⟩ : ∃ u, u = wr := ⟨_, rfl⟩
      by_cases hp : (l.drop j).head? = some 34
      · have HP2 := Lib.hid hp
        have hjl : j < l.length := by
          apply Nat.lt_of_not_le
          intro hge
          rw [List.drop_of_length_le hge] at hp
          cases hp
        have FIN : RowKit.Hid (o = some (acc, 1 + (j - (k + 1) + 1))) := Lib.hid (by rw [EQ.out, HQ.out, QT_end hp]; simp [qAdd])
        clear hp
        go_wp2_with (first | (go_at_call 17; (with_reducible refine (TY.out j hj HP2.out _ RR.out).mono ?_); rintro e w2 ⟨rfl, hg, hR⟩; have K2 := Lib.hid (KR.out.grown hg (by simp; omega)); have R2 := Lib.hid hR; have G2 := Lib.hid (grown_trans GR.out hg); have cv := conv_row (own_grown OR.out RR.out (by decide) hg) HA.out; clear hg hR) | (refine wpList_store_whole rfl 33 (.tmp 2) (.tmp 34) rfl w.heap.size (wcells 3 (bsv acc) 0) rfl rfl 33 _ K2.out (by kernel_rfl) (by rfl) (by simp [Value.oneCell']) ?_; intro w5 hk2 hg2; have K5 := Lib.hid hk2; have G5 := Lib.hid hg2; clear hk2 hg2))
        refine bodyPost_ret (results_cell_tmp rfl _ _ w.heap.size 33 _ _ _ rfl rfl K5.out Tryd.underlying33 rfl (by kernel_rfl)) rfl (.inr ⟨acc, _, FIN.out, rfl, grown_new G2.out G5.out (Nat.le_refl _), ?_⟩)
        rw [show k + (1 + (j - (k + 1) + 1)) = j + 1 by omega]
        exact R2.out.grown G5.out (by omega)
      · have HP2 := Lib.hid hp
        cases hr : rd 1 (l.drop j) with
        | none =>
          have HR := Lib.hid hr
          have FIN : RowKit.Hid (o = none) := Lib.hid (by rw [EQ.out, HQ.out, QT_no hp hr]; rfl)
          clear hp hr
          go_wp2_with (first | (go_at_call 17; (with_reducible refine (TN.out j hj HP2.out _ RR.out).mono ?_); rintro e w2 ⟨rfl, hb, hR⟩; have K2 := Lib.hid (KR.out.below' hb); have R2 := Lib.hid hR; have G2 := Lib.hid (grown_on GR.out hb); have T2 := Lib.hid (TR.out.below hb); clear hb hR) | (go_at_call 31; (with_reducible refine (CN.out j hj HR.out _ R2.out T2.out).mono ?_); rintro e w3 ⟨rfl, hb⟩; have K3 := Lib.hid (K2.out.below' hb); have R3 := Lib.hid (R2.out.below hb); have G3 := Lib.hid (grown_on G2.out hb); clear hb) | (refine wpList_store_whole rfl 33 (.tmp 2) (.tmp 27) rfl w.heap.size wzero rfl rfl 33 _ K3.out (by kernel_rfl) (by rfl) (by simp [Value.oneCell']) ?_; intro w5 hk2 hg2; have K5 := Lib.hid hk2; have G5 := Lib.hid hg2; clear hk2 hg2))
          exact bodyPost_ret (results_cell_tmp rfl _ _ w.heap.size 33 _ _ _ rfl rfl K5.out Tryd.underlying33 rfl (by kernel_rfl)) rfl (.inl ⟨FIN.out, rfl, grown_new G3.out G5.out (Nat.le_refl _), j, hj, R3.out.grown G5.out (by omega)⟩)
        | some xn =>
          obtain ⟨x, n⟩ := xn
          have hdl : ∀ y ∈ l.drop j, y < 256 := fun y hy => HLT.out y (List.mem_of_mem_drop hy)
          obtain ⟨_, n1, n2, hx, _, _⟩ := rd_ok hdl hr
          rw [List.length_drop] at n2
          have HR := Lib.hid hr
          have FIN : RowKit.Hid (QT (l.drop (k + 1)) = qAdd (acc ++ [x]) (j + n - (k + 1)) (QT (l.drop (j + n)))) := Lib.hid (by
            rw [HQ.out, QT_more hdl hp hr, List.drop_drop]
            unfold qAdd
            rw [Option.map_map]
            congr 1
            funext y
            simp only [Function.comp_def, List.append_assoc, List.singleton_append, Prod.mk.injEq, true_and]
            omega)
          have hjn : j + n ≤ l.length := by omega
          have LX := Lib.hid hx
          have L3 : RowKit.Hid (acc.length + [x].length ≤ 65536) := Lib.hid (by have := HL.out; simp; omega)
          clear hp hr hx hdl
          go_wp2_with (first | (go_at_call 17; (with_reducible refine (TN.out j hj HP2.out _ RR.out).mono ?_); rintro e w2 ⟨rfl, hb, hR⟩; have K2 := Lib.hid (KR.out.below' hb); have R2 := Lib.hid hR; have G2 := Lib.hid (grown_on GR.out hb); have T2 := Lib.hid (TR.out.below hb); have O2 := Lib.hid (own_below OR.out hb); clear hb hR) | (go_at_call 31; (with_reducible refine (CY.out j x n hj HR.out _ R2.out T2.out).mono ?_); rintro e w3 ⟨rfl, hg, hR⟩; have K3 := Lib.hid (K2.out.grown hg (by simp; omega)); have R3 := Lib.hid hR; have G3 := Lib.hid (grown_trans G2.out hg); have T3 := Lib.hid (T2.out.grown hg hb0); have O3 := Lib.hid (own_grown O2.out R2.out (by decide) hg); have O3n := Lib.hid (O3.out.alloc (.cells #[.int .u8 (x : Int)] 5)); have X3 := Lib.hid (txt_one w3 x LX.out); have S3 := Lib.hid K3.out.lt; clear hg hR) | (at_builtin; refine wpList_append_txt _ rfl (.tmp 28) (.tmp 30) rfl (w.heap.size + 1) _ acc rfl O3n.out (some ⟨w3.heap.size, 0, none⟩) [x] 1 rfl X3.out (fun h => by cases h) L3.out (by have := S3.out; simp; omega) ?_; intro v1 w4 hown4 hg4; have HO4 := Lib.hid hown4; have HG4 := Lib.hid hg4; clear hown4 hg4))
          have R4 := Lib.hid (show Rd w4 b s (j + n) from blk_append R3.out O3.out (by decide) HG4.out)
          have K4 := Lib.hid (blk_append K3.out O3.out (by decide) HG4.out)
          have G4 := Lib.hid (grown_append G3.out O3.out HG4.out (by omega))
          have T4 : RowKit.Hid (Tab w4) := Lib.hid (by
            obtain ⟨ev, h1, h2⟩ := TR.out
            obtain ⟨ev', h1', h2'⟩ := T3.out
            refine ⟨ev', ?_, h2'⟩
            have hlt0 : 0 < w3.heap.size := World.block_lt_of_cell? _ _ h1'
            have hne : some 0 ≠ Value.ownBlock _ := fun e2 => by have := (O3.out.lt 0 e2.symm).1; omega
            exact (World.cell?_of_block (a := ⟨0, 0, none⟩) ((HG4.out.block 0 (by simp) hne).trans (Below.heap_alloc w3 _ 0 hlt0))).trans h1')
          go_wp2_with fail
          go_roundw
          case rel => exact ⟨j + n, acc ++ [x], by omega, hjn, by simp; omega, fun y hy => by
            rcases List.mem_append.1 hy with hy | hy
            · exact HA.out y hy
            · simp at hy; rw [hy]; exact LX.out, FIN.out, R4.out, HO4.out, K4.out, G4.out, T4.out⟩
          case measure => rw [R4.out.pos, RR.out.pos]; omega
  · have eq0 : quo (l.drop k) = none := by unfold quo; rw [if_neg hp]
    rw [eq0]
    have HP := Lib.hid hp
    clear eq0 hp hl
    go_enter Tryd.func21, Tryd.ntmps21
    go_wp2_with (first | (go_at_call 17; (with_reducible refine (TN.out k hk HP.out _ HH.out).mono ?_); rintro e w1 ⟨rfl, hb, hR⟩; have K1 := Lib.hid (K0.out.below' hb); have R1 := Lib.hid hR; have H1 := Lib.hid (bb (B1 w _) hb); clear hb hR) | (refine wpList_store_whole rfl 33 (.tmp 2) (.tmp 12) rfl w.heap.size wzero rfl rfl 33 _ K1.out (by kernel_rfl) (by rfl) (by simp [Value.oneCell']) ?_; intro w5 hk2 hg2; have K5 := Lib.hid hk2; have G5 := Lib.hid hg2; clear hk2 hg2))
    exact bodyPost_ret (results_cell_tmp rfl _ _ w.heap.size 33 _ _ _ rfl rfl K5.out Tryd.underlying33 rfl (by kernel_rfl)) rfl (.inl ⟨rfl, rfl, below_is_grown (below_store H1.out G5.out (Nat.le_refl _)) _, k, hk, R1.out.grown G5.out (by omega)⟩)
end Go.Proofs.YtgmdfmckkfefgaaDoor

/- A text in quotes, read. -/
import Derived.Test.YtfghfnpiaccfaaaGreatDoorG4
set_option linter.unusedSimpArgs false
set_option linter.unusedVariables false
namespace Go.Proofs.YtfghfnpiaccfaaaGreatDoor
open Go Go.RowKit
set_option maxRecDepth 100000
theorem txt_one (w : World) (x : Nat) (hx : x < 256) : Txt (w.alloc (.cells #[.int .u8 x] 5)) (some ⟨w.heap.size, 0, none⟩) [x] := by
  refine ⟨by simpa using hx, fun _ => ⟨_, _, rfl, by simp, fun i hi => ?_⟩⟩
  have : i = 0 := by simpa using hi
  subst this
  rw [(Blk.new w _ _).cell]
  rfl
theorem own_ne {w : World} {base e size n b : Nat} {v : Value} {xs : List Value} {vs : Array Value} {T : TypeId} (h : w.ownsRow base e size v n xs) (hb : Blk w b vs T) (hT : T ≠ e) : v.ownBlock ≠ some b := by
  rcases h.2 with ⟨rfl, _⟩ | ⟨g, cap, cur, rfl, _, hg, _⟩
  · simp [Value.ownBlock]
  · simp only [Value.ownBlock, ne_eq, Option.some.injEq]
    rintro rfl
    rw [show w.heap[g]? = _ from hb] at hg
    cases hg
    exact hT rfl
theorem blk_append {w w' : World} {x base n e size : Nat} {vs : Array Value} {T : TypeId} {v : Value} {xs : List Value} {o : Obj} (hB : Blk w x vs T) (hown : w.ownsRow base e size v n xs) (hT : T ≠ e) (hg : (w.alloc o).grownBy w' v.ownBlock) : Blk w' x vs T :=
  (hg.block x (by have := hB.lt; simp; omega) (fun e2 => own_ne hown hB hT e2.symm)).trans ((Below.heap_alloc w o x hB.lt).trans hB)
theorem grown_append {a w w' : World} {b base n e size : Nat} {v : Value} {xs : List Value} {o : Obj} (h : a.grownBy w (some b)) (hown : w.ownsRow base e size v n xs) (hg : (w.alloc o).grownBy w' v.ownBlock) (hB : a.heap.size ≤ base) : a.grownBy w' (some b) :=
  ⟨hg.os.trans h.os, hg.tape.trans h.tape, hg.output.trans h.output, Nat.le_trans h.size (Nat.le_trans (by simp) hg.size), fun k hk hn => by
    refine (hg.block k (by have := h.size; simp; omega) (fun e2 => ?_)).trans ((Below.heap_alloc w o k (by have := h.size; omega)).trans (h.block k hk hn))
    have := (hown.lt k e2.symm).1
    omega⟩
theorem own_grown {w w' : World} {base n e size b : Nat} {v : Value} {xs : List Value} {vs : Array Value} {T : TypeId} (hown : w.ownsRow base e size v n xs) (hB : Blk w b vs T) (hT : T ≠ e) (hg : w.grownBy w' (some b)) : w'.ownsRow base e size v n xs :=
  hown.kept hg (.inr (own_ne hown hB hT))
/-- What a try for a text tells. -/
def QtPost (b k m : Nat) (s : ByteArray) (o : Option (List Nat × Nat)) (w : World) (e : Ending) (w' : World) : Prop :=
  (o = none ∧ e = .returned (.tuple #[.agg wzero, .bool false]) ∧ Some' w w' b s m) ∨ ∃ t n, o = some (t, n) ∧ e = .returned (.tuple #[.agg (wcells 3 (bsv t) 0), .bool true]) ∧ w.grownBy w' (some b) ∧ Rd w' b s (k + n)
/-- The text in quotes ahead. -/
def quo (l : List Nat) : Option (List Nat × Nat) := if l.head? = some 34 then (QT (l.drop 1)).map fun x => (x.1, 1 + x.2) else none
def qAdd (acc : List Nat) (d : Nat) (x : Option (List Nat × Nat)) : Option (List Nat × Nat) := x.map fun y => (acc ++ y.1, d + y.2)
theorem str34 : Str ⟨#[34]⟩ [34] := rfl
set_option maxRecDepth 100000 in
set_option maxHeartbeats 8000000 in
theorem quoted_any (b k : Nat) (s : ByteArray) (l : List Nat) (hs : Str s l) (hl : l.length ≤ 60000) (hk : k ≤ l.length) (w : World) (h : Rd w b s k) (hT : Tab w) (hb0 : b ≠ 2) :
    Calls Tryz.prog 201 #[.pointer (some ⟨b, 0, none⟩)] w (QtPost b k l.length s (quo (l.drop k)) w) := by
  have hbw := h.lt
  have HLT := Lib.hid hs.lt
  have TY := Lib.hid (fun j hj hp W hW => take1_yes 34 b j ⟨#[34]⟩ s str34 l hs hl hj hp W hW)
  have TN := Lib.hid (fun j hj hp W hW => take1_no 34 b j ⟨#[34]⟩ s str34 l hs hj hp W hW)
  have CN := Lib.hid (fun j hj hr W hW hTW => cread_no b j 1 s l hs hl hj hr W hW hTW)
  have CY := Lib.hid (fun j x n hj hr W hW hTW => cread_yes b j x n 1 s l hs hl hj hr W hW hTW)
  have HH := Lib.hid (h.below (B1 w (.cells wzero 156)))
  have HT := Lib.hid (hT.below (B1 w (.cells wzero 156)))
  have K0 := Lib.hid (Blk.new w wzero 156)
  have HL := Lib.hid hl
  have TP := Lib.hid hT.pos
  clear h hT hs
  by_cases hp : (l.drop k).head? = some 34
  · have hlt : k < l.length := by
      apply Nat.lt_of_not_le
      intro hge
      rw [List.drop_of_length_le hge] at hp
      cases hp
    have eq0 : quo (l.drop k) = (QT (l.drop (k + 1))).map fun x => (x.1, 1 + x.2) := by
      unfold quo
      rw [if_pos hp, List.drop_drop]
    obtain ⟨o, eo⟩ : ∃ o, o = quo (l.drop k) := ⟨_, rfl⟩
    rw [← eo] at eq0 ⊢
    have EQ := Lib.hid eq0
    have HP := Lib.hid hp
    have e1 : k + 1 ≤ l.length := hlt
    clear eq0 eo hp hl
    go_enter Tryz.func201, Tryz.ntmps201
    go_wp2_with (go_at_call 233; (with_reducible refine (TY.out k hk HP.out _ HH.out).mono ?_); rintro e w1 ⟨rfl, hg, hR⟩; have K1 := Lib.hid (K0.out.grown hg (by simp; omega)); have R1 := Lib.hid hR; have T1 := Lib.hid (HT.out.grown hg hb0); have G1 := Lib.hid (grown_trans (below_is_grown (B1 w _) (some b)) hg); clear hg hR)
    have O1 : RowKit.Hid (w1.ownsRow (w.heap.size + 1) 5 1 (.slice none 0 0) ([] : List Nat).length (([] : List Nat).map natb)) := Lib.hid (World.ownsRow_nil _ _ _ _)
    go_loopw [4, 5, 6] (fun v _ _ wr => ∃ (j : Nat) (acc : List Nat), k + 1 ≤ j ∧ j ≤ l.length ∧ acc.length ≤ j ∧ (∀ x ∈ acc, x < 256) ∧ QT (l.drop (k + 1)) = qAdd acc (j - (k + 1)) (QT (l.drop j)) ∧ Rd wr b s j ∧ wr.ownsRow (w.heap.size + 1) 5 1 v acc.length (acc.map natb) ∧ Blk wr w.heap.size wzero 156 ∧ w.grownBy wr (some b) ∧ Tab wr) (fun _ _ _ wr => l.length - posOf wr b)
    case atStart => exact ⟨k + 1, [], Nat.le_refl _, e1, by simp, by simp, by simp [qAdd], R1.out, O1.out, K1.out, G1.out, T1.out⟩
    case round =>
      obtain ⟨j, acc, hkj, hj, hal, hac, hq, hR, hO, hK, hG, hTb⟩ := hrel
      have HA := Lib.hid hac
      have HQ := Lib.hid hq
      have RR := Lib.hid hR
      have OR := Lib.hid hO
      have KR := Lib.hid hK
      have GR := Lib.hid hG
      have TR := Lib.hid hTb
      clear hac hq hR hO hK hG hTb
      obtain ⟨wa, rfl⟩ : ∃ u, u = wr := ⟨_, rfl⟩
      by_cases hp : (l.drop j).head? = some 34
      · have HP2 := Lib.hid hp
        have hjl : j < l.length := by
          apply Nat.lt_of_not_le
          intro hge
          rw [List.drop_of_length_le hge] at hp
          cases hp
        have FIN : RowKit.Hid (o = some (acc, 1 + (j - (k + 1) + 1))) := Lib.hid (by rw [EQ.out, HQ.out, QT_end hp]; simp [qAdd])
        clear hp
        go_wp2_with (first | (go_at_call 233; (with_reducible refine (TY.out j hj HP2.out _ RR.out).mono ?_); rintro e w2 ⟨rfl, hg, hR⟩; have K2 := Lib.hid (KR.out.grown hg (by simp; omega)); have R2 := Lib.hid hR; have G2 := Lib.hid (grown_trans GR.out hg); have cv := conv_row (own_grown OR.out RR.out (by decide) hg) HA.out; clear hg hR) | (refine wpList_store_whole rfl 156 (.tmp 2) (.tmp 34) rfl w.heap.size (wcells 3 (bsv acc) 0) rfl rfl 156 _ K2.out (by kernel_rfl) (by rfl) (by simp [Value.oneCell']) ?_; intro w5 hk2 hg2; have K5 := Lib.hid hk2; have G5 := Lib.hid hg2; clear hk2 hg2))
        refine bodyPost_ret (results_cell_tmp rfl _ _ w.heap.size 156 _ _ _ rfl rfl K5.out Tryz.underlying156 rfl (by kernel_rfl)) rfl (.inr ⟨acc, _, FIN.out, rfl, grown_new G2.out G5.out (Nat.le_refl _), ?_⟩)
        rw [show k + (1 + (j - (k + 1) + 1)) = j + 1 by omega]
        exact R2.out.grown G5.out (by omega)
      · have HP2 := Lib.hid hp
        cases hr : rd 1 (l.drop j) with
        | none =>
          have HR := Lib.hid hr
          have FIN : RowKit.Hid (o = none) := Lib.hid (by rw [EQ.out, HQ.out, QT_no hp hr]; rfl)
          clear hp hr
          go_wp2_with (first | (go_at_call 233; (with_reducible refine (TN.out j hj HP2.out _ RR.out).mono ?_); rintro e w2 ⟨rfl, hb, hR⟩; have K2 := Lib.hid (KR.out.below' hb); have R2 := Lib.hid hR; have G2 := Lib.hid (grown_on GR.out hb); have T2 := Lib.hid (TR.out.below hb); clear hb hR) | (go_at_call 241; (with_reducible refine (CN.out j hj HR.out _ R2.out T2.out).mono ?_); rintro e w3 ⟨rfl, hb⟩; have K3 := Lib.hid (K2.out.below' hb); have R3 := Lib.hid (R2.out.below hb); have G3 := Lib.hid (grown_on G2.out hb); clear hb) | (refine wpList_store_whole rfl 156 (.tmp 2) (.tmp 27) rfl w.heap.size wzero rfl rfl 156 _ K3.out (by kernel_rfl) (by rfl) (by simp [Value.oneCell']) ?_; intro w5 hk2 hg2; have K5 := Lib.hid hk2; have G5 := Lib.hid hg2; clear hk2 hg2))
          exact bodyPost_ret (results_cell_tmp rfl _ _ w.heap.size 156 _ _ _ rfl rfl K5.out Tryz.underlying156 rfl (by kernel_rfl)) rfl (.inl ⟨FIN.out, rfl, grown_new G3.out G5.out (Nat.le_refl _), j, hj, R3.out.grown G5.out (by omega)⟩)
        | some xn =>
          obtain ⟨x, n⟩ := xn
          have hdl : ∀ y ∈ l.drop j, y < 256 := fun y hy => HLT.out y (List.mem_of_mem_drop hy)
          obtain ⟨_, n1, n2, hx, _, _⟩ := rd_ok hdl hr
          rw [List.length_drop] at n2
          have HR := Lib.hid hr
          have FIN : RowKit.Hid (QT (l.drop (k + 1)) = qAdd (acc ++ [x]) (j + n - (k + 1)) (QT (l.drop (j + n)))) := Lib.hid (by
            rw [HQ.out, QT_more hdl hp hr, List.drop_drop]
            unfold qAdd
            rw [Option.map_map]
            congr 1
            funext y
            simp only [Function.comp_def, List.append_assoc, List.singleton_append, Prod.mk.injEq, true_and]
            omega)
          have hjn : j + n ≤ l.length := by omega
          have LX := Lib.hid hx
          have L3 : RowKit.Hid (acc.length + [x].length ≤ 65536) := Lib.hid (by have := HL.out; simp; omega)
          clear hp hr hx hdl
          go_wp2_with (first | (go_at_call 233; (with_reducible refine (TN.out j hj HP2.out _ RR.out).mono ?_); rintro e w2 ⟨rfl, hb, hR⟩; have K2 := Lib.hid (KR.out.below' hb); have R2 := Lib.hid hR; have G2 := Lib.hid (grown_on GR.out hb); have T2 := Lib.hid (TR.out.below hb); have O2 := Lib.hid (own_below OR.out hb); clear hb hR) | (go_at_call 241; (with_reducible refine (CY.out j x n hj HR.out _ R2.out T2.out).mono ?_); rintro e w3 ⟨rfl, hg, hR⟩; have K3 := Lib.hid (K2.out.grown hg (by simp; omega)); have R3 := Lib.hid hR; have G3 := Lib.hid (grown_trans G2.out hg); have T3 := Lib.hid (T2.out.grown hg hb0); have O3 := Lib.hid (own_grown O2.out R2.out (by decide) hg); have O3n := Lib.hid (O3.out.alloc (.cells #[.int .u8 (x : Int)] 5)); have X3 := Lib.hid (txt_one w3 x LX.out); have S3 := Lib.hid K3.out.lt; clear hg hR) | (at_builtin; refine wpList_append_txt _ rfl (.tmp 28) (.tmp 30) rfl (w.heap.size + 1) _ acc rfl O3n.out (some ⟨w3.heap.size, 0, none⟩) [x] 1 rfl X3.out (fun h => by cases h) L3.out (by have := S3.out; simp; omega) ?_; intro v1 w4 hown4 hg4; have HO4 := Lib.hid hown4; have HG4 := Lib.hid hg4; clear hown4 hg4))
          have R4 := Lib.hid (show Rd w4 b s (j + n) from blk_append R3.out O3.out (by decide) HG4.out)
          have K4 := Lib.hid (blk_append K3.out O3.out (by decide) HG4.out)
          have G4 := Lib.hid (grown_append G3.out O3.out HG4.out (by omega))
          have T4 : RowKit.Hid (Tab w4) := Lib.hid (by
            obtain ⟨ev, h1, h2⟩ := TR.out
            obtain ⟨ev', h1', h2'⟩ := T3.out
            refine ⟨ev', ?_, h2'⟩
            have hlt0 : 2 < w3.heap.size := World.block_lt_of_cell? _ _ h1'
            have hne : some 2 ≠ Value.ownBlock _ := fun e2 => by have := (O3.out.lt 2 e2.symm).1; have := TP.out; omega
            exact (World.cell?_of_block (a := ⟨2, 0, none⟩) ((HG4.out.block 2 (by simp; omega) hne).trans (Below.heap_alloc w3 _ 2 hlt0))).trans h1')
          go_wp2_with fail
          go_roundw
          case rel => exact ⟨j + n, acc ++ [x], by omega, hjn, by simp; omega, fun y hy => by
            rcases List.mem_append.1 hy with hy | hy
            · exact HA.out y hy
            · simp at hy; rw [hy]; exact LX.out, FIN.out, R4.out, HO4.out, K4.out, G4.out, T4.out⟩
          case measure => rw [R4.out.pos, RR.out.pos]; omega
  · have eq0 : quo (l.drop k) = none := by unfold quo; rw [if_neg hp]
    rw [eq0]
    have HP := Lib.hid hp
    clear eq0 hp hl
    go_enter Tryz.func201, Tryz.ntmps201
    go_wp2_with (first | (go_at_call 233; (with_reducible refine (TN.out k hk HP.out _ HH.out).mono ?_); rintro e w1 ⟨rfl, hb, hR⟩; have K1 := Lib.hid (K0.out.below' hb); have R1 := Lib.hid hR; have H1 := Lib.hid (bb (B1 w _) hb); clear hb hR) | (refine wpList_store_whole rfl 156 (.tmp 2) (.tmp 12) rfl w.heap.size wzero rfl rfl 156 _ K1.out (by kernel_rfl) (by rfl) (by simp [Value.oneCell']) ?_; intro w5 hk2 hg2; have K5 := Lib.hid hk2; have G5 := Lib.hid hg2; clear hk2 hg2))
    exact bodyPost_ret (results_cell_tmp rfl _ _ w.heap.size 156 _ _ _ rfl rfl K5.out Tryz.underlying156 rfl (by kernel_rfl)) rfl (.inl ⟨rfl, rfl, below_is_grown (below_store H1.out G5.out (Nat.le_refl _)) _, k, hk, R1.out.grown G5.out (by omega)⟩)
end Go.Proofs.YtfghfnpiaccfaaaGreatDoor
namespace Go.Proofs.YtfghfnpiaccfaaaGreatDoor
open Go Go.RowKit
set_option maxRecDepth 100000
abbrev wcc (c : Nat → Bool) : Array Value := #[.int .i64 4, .int .i64 0, .int .i64 0, .string ⟨#[]⟩, .int .i64 0, .int .u64 (cw c 0), .int .u64 (cw c 1), .int .u64 (cw c 2), .int .u64 (cw c 3)]
theorem wcc_no : wcells 4 ⟨#[]⟩ 0 = wcc no := by
  have h : no = fun _ => false := rfl
  rw [h, wcc, cw_none, cw_none, cw_none, cw_none]
  rfl
theorem cls_nil : cls [] = no := rfl
theorem any_cls (acc : List (Nat × Nat)) (u v : Nat) : anyS [cls acc, rng u (v + 1)] = cls (acc ++ [(u, v)]) := by
  funext i
  simp only [anyS, cls, rng, List.any_append, List.any_cons, List.any_nil, Bool.or_false]
  congr 1
  rw [Bool.eq_iff_iff]
  simp
  omega
theorem setCells_grown (b : Nat) : ∀ (vs : List Value) (o : Nat) (w : World), w.grownBy (w.setCells b o vs) (some b)
  | [], _, w => World.grownBy.refl _ _
  | v :: vs, o, w => grown_trans (b := w.setCell ⟨b, o, none⟩ v) ⟨rfl, rfl, rfl, by simp, fun k _ hn => heap_setCell_other w ⟨b, o, none⟩ k v (fun e => hn (by rw [e]))⟩ (setCells_grown b vs (o + 1) _)
theorem blk_cls {w : World} {B : Nat} {c d : Nat → Bool} (h : Blk w B (wcc c) 156) : Blk (w.setCells B 5 [.int .u64 (cw d 0), .int .u64 (cw d 1), .int .u64 (cw d 2), .int .u64 (cw d 3)]) B (wcc d) 156 := by
  have h1 := heap_setCell_same w B 5 (wcc c) 156 (.int .u64 (cw d 0)) h
  have h2 := heap_setCell_same _ B 6 _ 156 (.int .u64 (cw d 1)) h1
  have h3 := heap_setCell_same _ B 7 _ 156 (.int .u64 (cw d 2)) h2
  exact heap_setCell_same _ B 8 _ 156 (.int .u64 (cw d 3)) h3
theorem Blk.there {w : World} {b o n : Nat} {vs : Array Value} {T : TypeId} (h : Blk w b vs T) (hn : o + n ≤ vs.size) : w.there b o n := fun j hj => by
  refine ⟨?_, h.frozen _⟩
  rw [h.cell, Array.getElem?_eq_getElem (by omega)]
  rfl
theorem wpList_store_mid2 {P : Program} {ops : Array Oper} {rest : List Oper} {op : Oper} {a : Act} {w : World} {Q : Exit → Act → World → Prop} (hgd : op.guard = none) (ty : TypeId) (x y : Operand) (ho : op.op = .store ty x y)
    (b o : Nat) (cells : Array Value) (hx : a.eval x = .pointer (some ⟨b, o, none⟩)) (hy : a.eval y = .agg cells)
    (ht : w.there b o cells.size) (hi : (P.info? ty).map (·.size) = some cells.size) (h1 : cells.all (·.oneCell') = true)
    (h : ∀ W, W = w.setCells b o cells.toList → wpList P ops Q rest (a.put op.dst undef) W) : wpList P ops Q (op :: rest) a w :=
  wpList_store_mid hgd ty x y ho b o cells hx hy ht hi h1 (h _ rfl)
theorem or_two (c d : Nat → Bool) (w : World) :
    Calls Tryz.prog 243 #[.slice (some ⟨w.heap.size, 0, none⟩) 2 2] (w.alloc (.cells #[.int .u64 (cw c 0), .int .u64 (cw c 1), .int .u64 (cw c 2), .int .u64 (cw c 3), .int .u64 (cw d 0), .int .u64 (cw d 1), .int .u64 (cw d 2), .int .u64 (cw d 3)] 46)) fun e w' => e = .returned (cval (anyS [c, d])) ∧ Below (w.alloc (.cells #[.int .u64 (cw c 0), .int .u64 (cw c 1), .int .u64 (cw c 2), .int .u64 (cw c 3), .int .u64 (cw d 0), .int .u64 (cw d 1), .int .u64 (cw d 2), .int .u64 (cw d 3)] 46)).heap.size (w.alloc (.cells #[.int .u64 (cw c 0), .int .u64 (cw c 1), .int .u64 (cw c 2), .int .u64 (cw c 3), .int .u64 (cw d 0), .int .u64 (cw d 1), .int .u64 (cw d 2), .int .u64 (cw d 3)] 46)) w' := by
  refine orf_any _ [c, d] _ (.inr ⟨w.heap.size, 0, 2, rfl, by simp, by simp [maxLen], fun j hj i hi => ?_⟩)
  have hB := Blk.new w #[.int .u64 (cw c 0), .int .u64 (cw c 1), .int .u64 (cw c 2), .int .u64 (cw c 3), .int .u64 (cw d 0), .int .u64 (cw d 1), .int .u64 (cw d 2), .int .u64 (cw d 3)] 46
  rw [hB.cell]
  have hj2 : j < 2 := hj
  rcases (show j = 0 ∨ j = 1 by omega) with rfl | rfl <;> rcases (show i = 0 ∨ i = 1 ∨ i = 2 ∨ i = 3 by omega) with rfl | rfl | rfl | rfl <;> rfl
/-- What a try for a class tells. -/
def StPost (b k m : Nat) (s : ByteArray) (o : Option (List (Nat × Nat) × Nat)) (w : World) (e : Ending) (w' : World) : Prop :=
  (o = none ∧ e = .returned (.tuple #[.agg wzero, .bool false]) ∧ Some' w w' b s m) ∨ ∃ t n, o = some (t, n) ∧ e = .returned (.tuple #[.agg (wcc (cls t)), .bool true]) ∧ w.grownBy w' (some b) ∧ Rd w' b s (k + n)
def stq (l : List Nat) : Option (List (Nat × Nat) × Nat) := if l.head? = some 91 then (ST (l.drop 1)).map fun x => (x.1, 1 + x.2) else none
def sAdd (acc : List (Nat × Nat)) (d : Nat) (x : Option (List (Nat × Nat) × Nat)) : Option (List (Nat × Nat) × Nat) := x.map fun y => (acc ++ y.1, d + y.2)
theorem str91 : Str ⟨#[91]⟩ [91] := rfl
theorem str93 : Str ⟨#[93]⟩ [93] := rfl
set_option maxRecDepth 100000 in
set_option maxHeartbeats 8000000 in
theorem set_any (b k : Nat) (s : ByteArray) (l : List Nat) (hs : Str s l) (hl : l.length ≤ 60000) (hk : k ≤ l.length) (w : World) (h : Rd w b s k) (hT : Tab w) (hb0 : b ≠ 2) :
    Calls Tryz.prog 202 #[.pointer (some ⟨b, 0, none⟩)] w (StPost b k l.length s (stq (l.drop k)) w) := by
  have hbw := h.lt
  have HLT := Lib.hid hs.lt
  have TY := Lib.hid (fun j hj hp W hW => take1_yes 91 b j ⟨#[91]⟩ s str91 l hs hl hj hp W hW)
  have TN := Lib.hid (fun j hj hp W hW => take1_no 91 b j ⟨#[91]⟩ s str91 l hs hj hp W hW)
  have UY := Lib.hid (fun j hj hp W hW => take1_yes 93 b j ⟨#[93]⟩ s str93 l hs hl hj hp W hW)
  have UN := Lib.hid (fun j hj hp W hW => take1_no 93 b j ⟨#[93]⟩ s str93 l hs hj hp W hW)
  have CN := Lib.hid (fun j hj hr W hW hTW => item_no b j s l hs hl hj hr W hW hTW hb0)
  have CY := Lib.hid (fun j u v n hj hr W hW hTW => item_yes b j u v n s l hs hl hj hr W hW hTW hb0)
  have HH := Lib.hid (h.below (B1 w (.cells wzero 156)))
  have HT := Lib.hid (hT.below (B1 w (.cells wzero 156)))
  have K0 := Lib.hid (Blk.new w wzero 156)
  have HL := Lib.hid hl
  have TP := Lib.hid hT.pos
  clear h hT hs
  by_cases hp : (l.drop k).head? = some 91
  · have hlt : k < l.length := by
      apply Nat.lt_of_not_le
      intro hge
      rw [List.drop_of_length_le hge] at hp
      cases hp
    have eq0 : stq (l.drop k) = (ST (l.drop (k + 1))).map fun x => (x.1, 1 + x.2) := by
      unfold stq
      rw [if_pos hp, List.drop_drop]
    obtain ⟨o, eo⟩ : ∃ o, o = stq (l.drop k) := ⟨_, rfl⟩
    rw [← eo] at eq0 ⊢
    have EQ := Lib.hid eq0
    have HP := Lib.hid hp
    have e1 : k + 1 ≤ l.length := hlt
    clear eq0 eo hp hl
    go_enter Tryz.func202, Tryz.ntmps202
    go_wp2_with (first | (go_at_call 233; (with_reducible refine (TY.out k hk HP.out _ HH.out).mono ?_); rintro e w1 ⟨rfl, hg, hR⟩; have K1 := Lib.hid (K0.out.grown hg (by simp; omega)); have R1 := Lib.hid hR; have T1 := Lib.hid (HT.out.grown hg hb0); have G1 := Lib.hid (grown_trans (below_is_grown (B1 w _) (some b)) hg); have KA := Lib.hid (K1.out.alloc (.cells wzero 156)); clear hg hR) | (refine wpList_store_whole rfl 156 (.tmp 4) (.tmp 13) rfl w1.heap.size (wcells 4 ⟨#[]⟩ 0) rfl rfl 156 _ (Blk.new w1 wzero 156) (by kernel_rfl) (by rfl) (by simp [Value.oneCell']) ?_; intro w2 hk2 hg2; have N1 := Lib.hid (show w.heap.size < w1.heap.size from K1.out.lt); have B2 := Lib.hid hk2; have K2 := Lib.hid (KA.out.grown hg2 (by have := N1.out; simp; omega)); have G2 := Lib.hid (grown_new (grown_on G1.out (B1 w1 _)) hg2 (by have := N1.out; omega)); have R2 := Lib.hid ((R1.out.below (B1 w1 _)).grown hg2 (by have := R1.out.lt; omega)); have T2 := Lib.hid ((T1.out.below (B1 w1 _)).grown hg2 (by have := T1.out.pos; have := N1.out; omega)); clear hk2 hg2))
    obtain ⟨B4, eB⟩ : ∃ B4, B4 = w1.heap.size := ⟨_, rfl⟩
    rw [← eB] at B2 N1 ⊢
    have BB : RowKit.Hid (Blk w2 B4 (wcc (cls [])) 156) := Lib.hid (by rw [cls_nil, ← wcc_no]; exact B2.out)
    have BL := N1.out
    have BB4 : RowKit.Hid (b < B4) := Lib.hid (by omega)
    clear B2 eB
    go_frame
    go_loopw [5, 6] (fun _ _ wr => ∃ (j : Nat) (acc : List (Nat × Nat)), k + 1 ≤ j ∧ j ≤ l.length ∧ ST (l.drop (k + 1)) = sAdd acc (j - (k + 1)) (ST (l.drop j)) ∧ Rd wr b s j ∧ Blk wr B4 (wcc (cls acc)) 156 ∧ Blk wr w.heap.size wzero 156 ∧ w.grownBy wr (some b) ∧ Tab wr) (fun _ _ wr => l.length - posOf wr b)
    case atStart => exact ⟨k + 1, [], Nat.le_refl _, e1, by simp [sAdd], R2.out, BB.out, K2.out, G2.out, T2.out⟩
    case round =>
      obtain ⟨j, acc, hkj, hj, hq, hR, hB, hK, hG, hTb⟩ := hrel
      have HQ := Lib.hid hq
      have RR := Lib.hid hR
      have BR := Lib.hid hB
      have KR := Lib.hid hK
      have GR := Lib.hid hG
      have TR := Lib.hid hTb
      clear hq hR hB hK hG hTb
      obtain ⟨wa, rfl⟩ : ∃ u, u = wr := ⟨_, rfl⟩
      by_cases hp : (l.drop j).head? = some 93
      · have HP2 := Lib.hid hp
        have hjl : j < l.length := by
          apply Nat.lt_of_not_le
          intro hge
          rw [List.drop_of_length_le hge] at hp
          cases hp
        have FIN : RowKit.Hid (o = some (acc, 1 + (j - (k + 1) + 1))) := Lib.hid (by rw [EQ.out, HQ.out, ST_end hp]; simp [sAdd])
        obtain ⟨c, ec⟩ : ∃ c, c = cls acc := ⟨_, rfl⟩
        rw [← ec] at BR
        have EC := Lib.hid ec
        clear hp ec
        go_wp2_with (first | (go_at_call 233; (with_reducible refine (UY.out j hj HP2.out _ RR.out).mono ?_); rintro e w2' ⟨rfl, hg, hR⟩; have K3 := Lib.hid (KR.out.grown hg (by simp; omega)); have R3 := Lib.hid hR; have G3 := Lib.hid (grown_trans GR.out hg); have B3 := (BR.out.grown hg (by have := BB4.out; simp; omega)); have d0 := B3.cell 0; have d1 := B3.cell 1; have d2 := B3.cell 2; have d3 := B3.cell 3; have d4 := B3.cell 4; have d5 := B3.cell 5; have d6 := B3.cell 6; have d7 := B3.cell 7; have d8 := B3.cell 8; simp only [wcc, List.getElem?_toArray, List.getElem?_cons_zero, List.getElem?_cons_succ] at d0 d1 d2 d3 d4 d5 d6 d7 d8; clear hg hR B3) | (refine wpList_store_whole rfl 156 (.tmp 2) (.tmp 33) rfl w.heap.size (wcc c) rfl rfl 156 _ K3.out (by kernel_rfl) (by rfl) (by simp [Value.oneCell']) ?_; intro w5 hk2 hg2; have K5 := Lib.hid hk2; have G5 := Lib.hid hg2; clear hk2 hg2))
        refine bodyPost_ret (results_cell_tmp rfl _ _ w.heap.size 156 _ _ _ rfl rfl K5.out Tryz.underlying156 rfl (by kernel_rfl)) rfl (.inr ⟨acc, _, FIN.out, ?_, grown_new G3.out G5.out (Nat.le_refl _), ?_⟩)
        · rw [← EC.out]; rfl
        · rw [show k + (1 + (j - (k + 1) + 1)) = j + 1 by omega]
          exact R3.out.grown G5.out (by omega)
      · have HP2 := Lib.hid hp
        have hdl : ∀ y ∈ l.drop j, y < 256 := fun y hy => HLT.out y (List.mem_of_mem_drop hy)
        cases hr : item (l.drop j) with
        | none =>
          have HR := Lib.hid hr
          have FIN : RowKit.Hid (o = none) := Lib.hid (by rw [EQ.out, HQ.out, ST_no hp hr]; rfl)
          clear hp hr hdl
          go_wp2_with (first | (go_at_call 233; (with_reducible refine (UN.out j hj HP2.out _ RR.out).mono ?_); rintro e w3 ⟨rfl, hb, hR⟩; have K3 := Lib.hid (KR.out.below' hb); have R3 := Lib.hid hR; have G3 := Lib.hid (grown_on GR.out hb); have T3 := Lib.hid (TR.out.below hb); clear hb hR) | (go_at_call 242; (with_reducible refine (CN.out j hj HR.out _ R3.out T3.out).mono ?_); rintro e w4 ⟨rfl, hg, j4, hj4, hR⟩; have K4 := Lib.hid (K3.out.grown hg (by simp; omega)); have R4 := Lib.hid hR; have G4 := Lib.hid (grown_trans G3.out hg); have N4 := Lib.hid K4.out.lt; have KA4 := Lib.hid (K4.out.alloc (.cells #[.int .u64 0, .int .u64 0, .int .u64 0, .int .u64 0] 46)); clear hg hR) | (refine wpList_store_whole rfl 46 (.tmp 5) (.tmp 22) rfl w4.heap.size #[.int .u64 0, .int .u64 0, .int .u64 0, .int .u64 0] rfl rfl 46 _ (Blk.new w4 #[.int .u64 0, .int .u64 0, .int .u64 0, .int .u64 0] 46) (by kernel_rfl) (by rfl) (by simp [Value.oneCell']) ?_; intro w5 hk2 hg2; have K5 := Lib.hid (KA4.out.grown hg2 (by have := N4.out; simp; omega)); have G5 := Lib.hid (grown_new (grown_on G4.out (B1 w4 _)) hg2 (by have := N4.out; omega)); have R5 := Lib.hid ((R4.out.below (B1 w4 _)).grown hg2 (by have := R4.out.lt; omega)); clear hk2 hg2) | (refine wpList_store_whole rfl 156 (.tmp 2) (.tmp 26) rfl w.heap.size wzero rfl rfl 156 _ K5.out (by kernel_rfl) (by rfl) (by simp [Value.oneCell']) ?_; intro w6 hk2 hg2; have K6 := Lib.hid hk2; have G6 := Lib.hid hg2; clear hk2 hg2))
          exact bodyPost_ret (results_cell_tmp rfl _ _ w.heap.size 156 _ _ _ rfl rfl K6.out Tryz.underlying156 rfl (by kernel_rfl)) rfl (.inl ⟨FIN.out, rfl, grown_new G5.out G6.out (Nat.le_refl _), j4, hj4, R5.out.grown G6.out (by omega)⟩)
        | some un =>
          obtain ⟨⟨u, v⟩, n⟩ := un
          obtain ⟨n1, n2, _⟩ := item_ok hdl hr
          rw [List.length_drop] at n2
          have HR := Lib.hid hr
          have FIN : RowKit.Hid (ST (l.drop (k + 1)) = sAdd (acc ++ [(u, v)]) (j + n - (k + 1)) (ST (l.drop (j + n)))) := Lib.hid (by
            rw [HQ.out, ST_more hdl hp hr, List.drop_drop]
            unfold sAdd
            rw [Option.map_map]
            congr 1
            funext y
            simp only [Function.comp_def, List.append_assoc, List.singleton_append, Prod.mk.injEq, true_and]
            omega)
          have hjn : j + n ≤ l.length := by omega
          have EA := Lib.hid (any_cls acc u v)
          have CI := Lib.hid (CY.out j u v n hj hr)
          obtain ⟨c, ec⟩ : ∃ c, c = cls acc := ⟨_, rfl⟩
          obtain ⟨d, ed⟩ : ∃ d, d = rng u (v + 1) := ⟨_, rfl⟩
          rw [← ec] at BR EA
          rw [← ed] at EA CI
          obtain ⟨f, ef⟩ : ∃ f, f = anyS [c, d] := ⟨_, rfl⟩
          have OT := Lib.hid (fun W => or_two c d W)
          rw [← ef] at EA OT
          clear hp hr hdl ec ed ef
          go_wp2_with (first | (go_at_call 233; (with_reducible refine (UN.out j hj HP2.out _ RR.out).mono ?_); rintro e w3 ⟨rfl, hb, hR⟩; have K3 := Lib.hid (KR.out.below' hb); have R3 := Lib.hid hR; have G3 := Lib.hid (grown_on GR.out hb); have T3 := Lib.hid (TR.out.below hb); have B3 := Lib.hid (BR.out.below' hb); clear hb hR) | (go_at_call 242; (with_reducible refine (CI.out _ R3.out T3.out).mono ?_); rintro e w4 ⟨rfl, hg, hR⟩; have K4 := Lib.hid (K3.out.grown hg (by simp; omega)); have B4' := Lib.hid (B3.out.grown hg (by have := BB4.out; simp; omega)); have R4 := Lib.hid hR; have T4 := Lib.hid (T3.out.grown hg hb0); have G4 := Lib.hid (grown_trans G3.out hg); have N4 := Lib.hid K4.out.lt; have M4 := Lib.hid B4'.out.lt; have KA4 := Lib.hid (K4.out.alloc (.cells #[.int .u64 0, .int .u64 0, .int .u64 0, .int .u64 0] 46)); have BA4 := Lib.hid (B4'.out.alloc (.cells #[.int .u64 0, .int .u64 0, .int .u64 0, .int .u64 0] 46)); clear hg hR) | (refine wpList_store_whole rfl 46 (.tmp 5) (.tmp 22) rfl w4.heap.size #[.int .u64 (cw d 0), .int .u64 (cw d 1), .int .u64 (cw d 2), .int .u64 (cw d 3)] rfl rfl 46 _ (Blk.new w4 #[.int .u64 0, .int .u64 0, .int .u64 0, .int .u64 0] 46) (by kernel_rfl) (by rfl) (by simp [Value.oneCell']) ?_; intro w5 hk2 hg2; have K5 := Lib.hid (KA4.out.grown hg2 (by have := N4.out; simp; omega)); have B5 := Lib.hid (BA4.out.grown hg2 (by have := M4.out; simp; omega)); have G5 := Lib.hid (grown_new (grown_on G4.out (B1 w4 _)) hg2 (by have := N4.out; omega)); have R5 := Lib.hid ((R4.out.below (B1 w4 _)).grown hg2 (by have := R4.out.lt; omega)); have T5 := Lib.hid ((T4.out.below (B1 w4 _)).grown hg2 (by have := T4.out.pos; have := N4.out; omega)); have d5 := B5.out.cell 5; have d6 := B5.out.cell 6; have d7 := B5.out.cell 7; have d8 := B5.out.cell 8; have e0 := hk2.cell 0; have e1 := hk2.cell 1; have e2 := hk2.cell 2; have e3 := hk2.cell 3; simp only [wcc, List.getElem?_toArray, List.getElem?_cons_zero, List.getElem?_cons_succ] at d5 d6 d7 d8 e0 e1 e2 e3; clear hk2 hg2) | (go_at_call 243; (with_reducible refine (OT.out w5).mono ?_); rintro e w6 ⟨rfl, hb⟩; have K6 := Lib.hid ((K5.out.alloc _).below' hb); have B6 := Lib.hid ((B5.out.alloc _).below' hb); have R6 := Lib.hid ((R5.out.below (B1 w5 _)).below hb); have T6 := Lib.hid ((T5.out.below (B1 w5 _)).below hb); have G6 := Lib.hid (grown_on (grown_on G5.out (B1 w5 _)) hb); have TH := Lib.hid (Blk.there (o := 5) (n := 4) B6.out (by simp)); clear hb d5 d6 d7 d8 e0 e1 e2 e3) | (refine wpList_store_mid2 rfl 46 (.tmp 32) (.tmp 31) rfl B4 5 #[.int .u64 (cw f 0), .int .u64 (cw f 1), .int .u64 (cw f 2), .int .u64 (cw f 3)] rfl rfl TH.out (by kernel_rfl) (by simp [Value.oneCell']) ?_; intro W8 e8; have E8 := Lib.hid e8; clear e8))
          have g8 : w6.grownBy W8 (some B4) := by rw [E8.out]; exact setCells_grown _ _ _ _
          have B8 : RowKit.Hid (Blk W8 B4 (wcc (cls (acc ++ [(u, v)]))) 156) := Lib.hid (by rw [E8.out, ← EA.out]; exact blk_cls B6.out)
          have K8 := Lib.hid (K6.out.grown g8 (by simp; omega))
          have R8 := Lib.hid (R6.out.grown g8 (by have := BB4.out; omega))
          have T8 := Lib.hid (T6.out.grown g8 (by have := TP.out; omega))
          have G8 := Lib.hid (grown_new G6.out g8 (by omega))
          clear g8
          go_roundw
          case rel => exact ⟨j + n, by omega, hjn, acc ++ [(u, v)], FIN.out, R8.out, B8.out, K8.out, G8.out, T8.out⟩
          case measure => rw [R8.out.pos, RR.out.pos]; omega
  · have eq0 : stq (l.drop k) = none := by unfold stq; rw [if_neg hp]
    rw [eq0]
    have HP := Lib.hid hp
    clear eq0 hp hl
    go_enter Tryz.func202, Tryz.ntmps202
    go_wp2_with (first | (go_at_call 233; (with_reducible refine (TN.out k hk HP.out _ HH.out).mono ?_); rintro e w1 ⟨rfl, hb, hR⟩; have K1 := Lib.hid (K0.out.below' hb); have R1 := Lib.hid hR; have H1 := Lib.hid (bb (B1 w _) hb); clear hb hR) | (refine wpList_store_whole rfl 156 (.tmp 2) (.tmp 12) rfl w.heap.size wzero rfl rfl 156 _ K1.out (by kernel_rfl) (by rfl) (by simp [Value.oneCell']) ?_; intro w5 hk2 hg2; have K5 := Lib.hid hk2; have G5 := Lib.hid hg2; clear hk2 hg2))
    exact bodyPost_ret (results_cell_tmp rfl _ _ w.heap.size 156 _ _ _ rfl rfl K5.out Tryz.underlying156 rfl (by kernel_rfl)) rfl (.inl ⟨rfl, rfl, below_is_grown (below_store H1.out G5.out (Nat.le_refl _)) _, k, hk, R1.out.grown G5.out (by omega)⟩)
end Go.Proofs.YtfghfnpiaccfaaaGreatDoor

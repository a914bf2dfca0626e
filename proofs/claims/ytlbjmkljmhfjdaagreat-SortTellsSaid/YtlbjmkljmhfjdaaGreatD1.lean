/- The nodes at a node's own place, as a range-function that ranges over itself. -/
import Derived.Test.YtlbjmkljmhfjdaaGreatC9
import Derived.Test.YtlbjmkljmhfjdaaGreatC1
import Derived.LoopNIn
import Derived.LoopIn
import Derived.Shelf.Abstract
import Derived.Shelf.RegionOpen
import Derived.Test.YtlbjmkljmhfjdaaGreatB2
import Derived.Deep.CutRange
import Derived.OwnWalkIn
import Derived.ArgAppend
set_option linter.unusedSimpArgs false
set_option linter.unusedVariables false
namespace Go.Proofs.YtlbjmkljmhfjdaaGreat
open Go Go.RowKit Go.Maps Go.Shelf
attribute [local go_sem] Oper.semAt_some
theorem own_make (p n : Nat) (w : World) : Calls Tryz.prog 102 #[.pointer (some ⟨p, 0, none⟩), .int .i64 n] w fun e w' => e = .returned (.func (.func 152) #[] #[.pointer (some ⟨w.heap.size + 1, 0, none⟩), .pointer (some ⟨w.heap.size, 0, none⟩)]) ∧ w' = (w.alloc (.cells #[.pointer (some ⟨p, 0, none⟩)] 79)).alloc (.cells #[.int .i64 n] 3) := by
  go_enter Tryz.func102, Tryz.ntmps102
  go_wp2_with fail
  go_ret
  exact ⟨by simp, rfl⟩
/-- What the going through reads. -/
structure OwnR (w : World) (p : Nat) (g : Gr) (nb bx bn n : Nat) (T : Nat → Prop) : Prop where
  wk : ∀ W', w.heap.size ≤ W'.heap.size → (∀ j, T j → W'.heap[j]? = w.heap[j]?) → Wk W' p g nb
  lt : ∀ j, T j → j < w.heap.size
  tx : T bx
  tn : T bn
  bx : Blk w bx #[.pointer (some ⟨p, 0, none⟩)] 79
  bn : Blk w bn #[.int .i64 n] 3
/-- What holds wherever the caller is. -/
structure OwnA (A : World) (p : Nat) (g : Gr) (nb bx bn n : Nat) : Prop where
  wk : Wk A p g nb
  bx : Blk A bx #[.pointer (some ⟨p, 0, none⟩)] 79
  bn : Blk A bn #[.int .i64 n] 3
theorem OwnR.at_ {w W A : World} {p nb bx bn n : Nat} {g : Gr} {T : Nat → Prop} {C : Nat → World → Prop} (h : OwnR w p g nb bx bn n T) (hW : Below w.heap.size w W) (hT : ∀ j, T j → ¬ C j W) (k : Keep C W A) : OwnA A p g nb bx bn n := by
  have key : ∀ j, T j → A.heap[j]? = w.heap[j]? := fun j hj => (k.block j (Nat.lt_of_lt_of_le (h.lt j hj) hW.size) (hT j hj)).trans (hW.block j (h.lt j hj))
  exact ⟨h.wk A (Nat.le_trans hW.size k.size) key, (key _ h.tx).trans h.bx, (key _ h.tn).trans h.bn⟩
theorem upTo_take (may : Int → Bool) : ∀ l : List Int, ∃ j, upTo may l = l.take j
  | [] => ⟨0, rfl⟩
  | k :: r => by
    unfold upTo
    split
    · obtain ⟨j, e⟩ := upTo_take may r
      exact ⟨j + 1, by rw [e]; rfl⟩
    · exact ⟨1, by simp⟩
theorem fsts_at (x : Nd) (may : Int → Bool) (i : Nat) (hi : i < (fsts x may).length) : i < x.kids.length ∧ x.kids.getD i 0 = (fsts x may).getD i 0 := by
  have key : ∃ j, fsts x may = x.kids.take j := by
    unfold fsts
    split
    · exact upTo_take may _
    · exact ⟨x.kids.length, by simp⟩
  obtain ⟨j, e⟩ := key
  rw [e] at hi ⊢
  simp only [List.length_take] at hi
  refine ⟨by omega, ?_⟩
  simp only [List.getD]
  rw [List.getElem?_take, if_pos (by omega)]
/-- How many stand ahead of the i-th kid's. -/
def offI (f : Int → List Int) (ks : List Int) (i : Nat) : Nat := 1 + ((ks.take i).flatMap f).length
theorem offI_next {f : Int → List Int} {ks : List Int} {i : Nat} (h : i < ks.length) : offI f ks (i + 1) = offI f ks i + (f (ks.getD i 0)).length := by
  unfold offI
  rw [List.take_add_one, List.getElem?_eq_getElem h, Option.toList_some, List.flatMap_append, List.length_append, List.flatMap_cons, List.flatMap_nil, List.append_nil]
  simp only [List.getD, List.getElem?_eq_getElem h, Option.getD_some]
  omega
theorem offI_at {f : Int → List Int} {ks : List Int} {n : Int} {i k : Nat} (h : i < ks.length) (hk : k < (f (ks.getD i 0)).length) : (n :: ks.flatMap f).getD (offI f ks i + k) 0 = (f (ks.getD i 0)).getD k 0 ∧ offI f ks i + k < (n :: ks.flatMap f).length := by
  have e : ks = ks.take i ++ (ks.getD i 0 :: ks.drop (i + 1)) := by
    have : ks.drop i = ks.getD i 0 :: ks.drop (i + 1) := by rw [List.drop_eq_getElem_cons h]; simp [List.getD, List.getElem?_eq_getElem h]
    rw [← this, List.take_append_drop]
  generalize ks.getD i 0 = q at e hk ⊢
  have e2 : ks.flatMap f = (ks.take i).flatMap f ++ (f q ++ (ks.drop (i + 1)).flatMap f) := by
    conv => lhs; rw [e]
    rw [List.flatMap_append, List.flatMap_cons]
  rw [e2]
  unfold offI
  generalize (ks.take i).flatMap f = a
  generalize (ks.drop (i + 1)).flatMap f = c
  refine ⟨?_, by simp only [List.length_cons, List.length_append]; omega⟩
  simp only [List.getD, show 1 + a.length + k = (a.length + k) + 1 by omega, List.getElem?_cons_succ]
  rw [List.getElem?_append_right (by omega), Nat.add_sub_cancel_left, List.getElem?_append_left hk]
theorem offI_all {f : Int → List Int} {ks : List Int} {n : Int} : offI f ks ks.length = (n :: ks.flatMap f).length := by
  unfold offI; rw [List.take_length]; simp; omega
def encI (L : List Int) (k : Nat) : Array Value := #[.int .i64 (L.getD k 0)]
set_option maxRecDepth 100000 in
set_option maxHeartbeats 4000000 in
theorem own_in (g : Gr) (hR : Right g) (hc : Capd g) : ∀ (d n : Nat), n < g.nodes.length → g.nodes.length - n ≤ d → ∀ (w : World) (p nb bx bn : Nat) (T : Nat → Prop), OwnR w p g nb bx bn n T →
    SeqX 12 Tryz.prog 152 #[.pointer (some ⟨bn, 0, none⟩), .pointer (some ⟨bx, 0, none⟩)] (encI (ownN g.nodes (mayG g) n)) (ownN g.nodes (mayG g) n).length T w
  | 0, n, hn, hd => by omega
  | d + 1, n, hn, hd => by
    intro w p nb bx bn T hO l J C W hW hF hT hY h0
    have IH := Lib.hid (own_in g hR hc d)
    have AT := Lib.hid (fun A (k : Keep C W A) => hO.at_ hW hT k)
    have EQ := Lib.hid (ownN_eq hR.kidsUp (mayG g) (n := n) (by omega) (by omega))
    have FI := Lib.hid (fun (w' : World) (h : Wk w' p g nb) => lfirst_any h hR hc n hn)
    have FL := Lib.hid (fsts_at (g.nodes.getD n Nd.zero) (mayG g))
    have FU := Lib.hid (fun k (hk : k ∈ fsts (g.nodes.getD n Nd.zero) (mayG g)) => hR.kidsUp n hn k (fsts_mem hk))
    have HF := Lib.hid hF
    have TK := Lib.hid (fun A (k : Keep C W A) (W' : World) (hs : A.heap.size ≤ W'.heap.size) (ha : ∀ j, j < A.heap.size → ¬ C j A → W'.heap[j]? = A.heap[j]?) => (show Wk W' p g nb from by
      have hlt : ∀ j, T j → j < W.heap.size := fun j hj => Nat.lt_of_lt_of_le (hO.lt j hj) hW.size
      exact hO.wk W' (Nat.le_trans (Nat.le_trans hW.size k.size) hs) (fun j hj => (ha j (Nat.lt_of_lt_of_le (hlt j hj) k.size) (fun e => hT j hj (k.own j (hlt j hj) e))).trans ((k.block j (hlt j hj) (hT j hj)).trans (hW.block j (hO.lt j hj))))))
    have H0 := Lib.hid h0
    have HY := Lib.hid hY
    rw [Int.toNat_natCast] at EQ
    generalize ownN g.nodes (mayG g) n = L at EQ HY ⊢
    have KL := Lib.hid (fun (A : World) (k : Keep C W A) => ((AT.out A k).wk.gr.node hn).1)
    have KX := Lib.hid (hO.at_ hW hT (Keep.refl C W)).wk.gr
    have hkl := (KX.out.node hn).2.2
    generalize g.nodes.getD n Nd.zero = x at EQ FI FL FU KL hkl
    generalize fsts x (mayG g) = ks at EQ FI FL FU
    have HA0 := AT.out _ (hF.keep h0 (B1 W (.cells #[.func (.yield l) #[] #[]] 87)))
    have c1 := HA0.bn.cell 0
    have J1 := hF.grow 0 _ _ h0 (B1 W (.cells #[.func (.yield l) #[] #[]] 87))
    have HK1 := Lib.hid (hF.keep h0 (B1 W (.cells #[.func (.yield l) #[] #[]] 87)))
    have hY0 := HY.out 0 _ J1 (by rw [EQ.out]; simp)
    have hL0 : L.getD 0 0 = n := by rw [EQ.out]; rfl
    unfold encI at hY0
    rw [hL0] at hY0
    obtain ⟨fn, tmps, assign, body, hy, hRd⟩ := hY0
    have HRD := Lib.hid hRd
    have YB := Lib.hid (Blk.new W #[.func (.yield l) #[] #[]] 87)
    clear hO hW hF hT hY h0 KX HA0 J1 hL0 hRd
    refine callsIn_of_wp_marks Tryz.func152 rfl trivial ?_ rfl
    simp only [Tryz.ntmps152, List.size_toArray, List.length_cons, List.length_nil, Nat.reduceAdd, Nat.reduceSub, Array.replicate_succ, Array.replicate_zero, List.push_toArray, List.append_toArray, List.nil_append, List.cons_append]
    gi_wp2_with fail
    refine HRD.out.mono ?_
    rintro e W3 ⟨rfl, hj3, hk3⟩
    have A3 := AT.out W3 (HK1.out.trans hk3)
    have c2 := A3.bn.cell 0
    have c3 := A3.bx.cell 0
    have HJ3 := Lib.hid hj3
    have HK3 := Lib.hid hk3
    have YB3 := Lib.hid ((hk3.block _ YB.out.lt (fun hcc => by
      have := HF.out.lt H0.out (HF.out.cgrow 0 _ _ _ H0.out (B1 W _) hcc)
      omega)).trans YB.out)
    have F3 := Lib.hid (FI.out W3 A3.wk)
    clear c1 hy hj3 hk3 A3
    gi_wp2_with (refine ⟨trivial, ?_⟩; gi_at_call 153; refine (callsIn_wide.2 F3.out).mono ?_; rintro e w4 ⟨⟨cc, rfl⟩, hb4⟩; have HB4 := Lib.hid hb4; clear hb4)
    obtain ⟨m, em⟩ : ∃ m, m = ks.length := ⟨_, rfl⟩
    have EM := Lib.hid em
    rw [← em]
    obtain ⟨Wy, eWy⟩ : ∃ u, u = W.alloc (.cells #[.func (.yield l) #[] #[]] 87) := ⟨_, rfl⟩
    rw [← eWy] at HK1 YB HK3
    have hml : m ≤ 140737488351232 := by
      rw [em]
      rcases Nat.eq_zero_or_pos ks.length with h | h
      · omega
      · have := (FL.out (ks.length - 1) (by omega)).1; omega
    have OF0 : offI (ownN g.nodes (mayG g)) ks 0 = 1 := by simp [offI]
    have ON := Lib.hid (fun i (h : i < m) => offI_next (f := ownN g.nodes (mayG g)) (ks := ks) (i := i) (by rw [← em]; exact h))
    have OA := Lib.hid (fun i k (h : i < m) (hk : k < (ownN g.nodes (mayG g) (ks.getD i 0)).length) => offI_at (f := ownN g.nodes (mayG g)) (ks := ks) (n := (n : Int)) (i := i) (k := k) (by rw [← em]; exact h) hk)
    have OL := Lib.hid (show offI (ownN g.nodes (mayG g)) ks m = L.length by rw [EQ.out, em]; exact offI_all)
    rw [← EQ.out] at OA
    rw [← OF0] at HJ3
    have hzy : RowKit.Hid (Wy.heap.size = W.heap.size + 1) := Lib.hid (by rw [eWy]; simp)
    have J4 := Lib.hid (HF.out.grow _ _ _ HJ3.out HB4.out)
    have K4 := Lib.hid (HK3.out.trans (HF.out.keep HJ3.out HB4.out))
    have HZY := hzy
    have EWY := Lib.hid eWy
    clear em eWy hzy c2 c3 hkl OF0
    refine wpIn_loop (fun a wr => ∃ (u5 u6 u16  u17  u18  u19  u20  u21  u22  u23  u24  u25  u26  u27 : Value) (i : Nat) (dl : List Nat), a = { tmps := #[.func (.yield l) #[] #[], .pointer (some ⟨bn, 0, none⟩), .pointer (some ⟨bx, 0, none⟩), .pointer (some ⟨W.heap.size, 0, none⟩), undef, u5, u6, .func (.yield l) #[] #[], .int .i64 n, .bool true, .bool false, .pointer (some ⟨p, 0, none⟩), .int .i64 n, .slice x.A m cc, .int .i64 m, .int .i64 i, u16, u17, u18, u19, u20, u21, u22, u23, u24, u25, u26, u27], defers := dl.map mkDf } ∧ i ≤ m ∧ J (offI (ownN g.nodes (mayG g)) ks i) wr ∧ Keep C Wy wr ∧ Marks W.heap.size dl wr) (fun a _ => m - (RowKit.intOf (a.tmps.getD 15 undef)).toNat) ?start ?round
    case start => exact ⟨_, _, _, _, _, _, _, _, _, _, _, _, _, _, 0, [], rfl, by omega, J4.out, K4.out, ⟨List.nodup_nil, fun D h => by cases h⟩⟩
    case round =>
      rintro a wr ⟨u5, u6, u16, u17, u18, u19, u20, u21, u22, u23, u24, u25, u26, u27, i, dl, rfl, hi, hj, hk, hm⟩
      by_cases hlt : i < m
      · have hlt2 : (i : Int) < m := by omega
        have hJ := Lib.hid hj
        have hK := Lib.hid hk
        have hM := Lib.hid hm
        have hA := AT.out wr (HK1.out.trans hk)
        have c3 := hA.bx.cell 0
        have hfa := FL.out i (by have := EM.out; omega)
        obtain ⟨b1, o1, eA, _, cK⟩ := lies_cell (KL.out wr (HK1.out.trans hk)) hfa.1
        rw [hfa.2] at cK
        have hku := FU.out (ks.getD i 0) (by have := EM.out; simp [List.getD, List.getElem?_eq_getElem (show i < ks.length by omega)])
        have HOA := Lib.hid (fun k hk => OA.out i k hlt hk)
        have HON := Lib.hid (ON.out i hlt)
        obtain ⟨kk, ekk⟩ : ∃ kk : Nat, ks.getD i 0 = (kk : Int) := ⟨(ks.getD i 0).toNat, by omega⟩
        rw [ekk] at cK hku HOA HON
        have hkk : n < kk ∧ kk < g.nodes.length := by omega
        have HKK := Lib.hid hkk
        rw [eA]
        have OM := Lib.hid (own_make p kk wr)
        clear hj hk hm hA hfa hku ekk hkk eA
        gi_wp2_with (refine ⟨trivial, ?_⟩; gi_at_call 102; refine (callsIn_wide.2 OM.out).mono ?_; rintro e w5 ⟨rfl, e5⟩; have E5 := Lib.hid e5; clear e5)
        have hz5 : w5.heap.size = wr.heap.size + 2 := by rw [E5.out]; simp
        have b5 : Below wr.heap.size wr w5 := by rw [E5.out]; exact B2 _ _ _
        have J5 := Lib.hid (HF.out.grow _ _ _ hJ.out b5)
        have K5 := Lib.hid (hK.out.trans (HF.out.keep hJ.out b5))
        have M5 := Lib.hid (hM.out.keep HF.out hJ.out (HF.out.keep hJ.out b5))
        have q1 : Blk w5 wr.heap.size #[.pointer (some ⟨p, 0, none⟩)] 79 := by rw [E5.out]; exact (Blk.new _ _ _).alloc _
        have q2 : Blk w5 (wr.heap.size + 1) #[.int .i64 kk] 3 := by rw [E5.out]; have := Blk.new (wr.alloc (.cells #[.pointer (some ⟨p, 0, none⟩)] 79)) #[.int .i64 kk] 3; rw [World.size_alloc] at this; exact this
        have hnc : ∀ j, wr.heap.size ≤ j → ¬ C j w5 := fun j hj hc => by
          have := HF.out.lt hJ.out (HF.out.cgrow _ _ _ _ hJ.out b5 hc)
          omega
        have hzw : W.heap.size ≤ wr.heap.size := (HK1.out.trans hK.out).size
        have hOR : OwnR w5 p g nb wr.heap.size (wr.heap.size + 1) kk (fun j => j < w5.heap.size ∧ ¬ C j w5) :=
          ⟨fun W' hs ha => TK.out w5 (HK1.out.trans K5.out) W' hs (fun j h1 h2 => ha j ⟨h1, h2⟩), fun j h => h.1, ⟨by omega, hnc _ (by omega)⟩, ⟨by omega, hnc _ (by omega)⟩, q1, q2⟩
        have hDl : ∀ D ∈ dl, D < w5.heap.size := fun D hD => (Array.getElem?_eq_some_iff.1 (M5.out.each D hD).2).1
        have HDL := Lib.hid hDl
        have HZ5 := Lib.hid hz5
        have HZW := Lib.hid hzw
        have SQ := Lib.hid (seqX_any (m' := 12 - 1) (IH.out kk HKK.out.2 (by have := HKK.out.1; omega) w5 p nb wr.heap.size (wr.heap.size + 1) _ hOR))
        clear hz5 b5 q1 q2 hnc hzw hOR hDl c3 cK
        refine wpIn_rangeFunc_own (by decide) (gf := 152) (lb := #[.pointer (some ⟨wr.heap.size + 1, 0, none⟩), .pointer (some ⟨wr.heap.size, 0, none⟩)]) rfl (enters_of Tryz.func152 (by kernel_rfl) rfl) SQ.out (Below.refl _ _) (fun _ => rfl)
          (fun k W1 => J (offI (ownN g.nodes (mayG g)) ks i + k) W1 ∧ Keep C Wy W1 ∧ Marks W.heap.size dl W1) C ?fair (fun j h => h.2) ⟨J5.out, K5.out, M5.out⟩
          (fun k => { tmps := #[.func (.yield l) #[] #[], .pointer (some ⟨bn, 0, none⟩), .pointer (some ⟨bx, 0, none⟩), .pointer (some ⟨W.heap.size, 0, none⟩), undef, .int .i64 kk, .int .i64 ((ownN g.nodes (mayG g) kk).getD k 0), .func (.yield l) #[] #[], .int .i64 n, .bool true, .bool false, .pointer (some ⟨p, 0, none⟩), .int .i64 n, .slice (some ⟨b1, o1, none⟩) m cc, .int .i64 m, .int .i64 i, .bool true, .pointer (some ⟨b1, o1 + i, none⟩), .int .i64 kk, .pointer (some ⟨p, 0, none⟩), .int .i64 kk, .func (.func 152) #[] #[.pointer (some ⟨wr.heap.size + 1, 0, none⟩), .pointer (some ⟨wr.heap.size, 0, none⟩)], .int .i64 ((ownN g.nodes (mayG g) kk).getD k 0), u23, u24, u25, u26, u27], defers := [] }) ?assign ?body ?done
        case fair =>
          have f := HF.out
          have hzz : W.heap.size ≤ w5.heap.size := by have := HZ5.out; have := HZW.out; omega
          have hyz : Wy.heap.size ≤ w5.heap.size := K5.out.size
          constructor
          · rintro k A A' ⟨h1, h2, h3⟩ hb
            exact ⟨f.grow _ _ _ h1 hb, h2.trans (f.keep h1 hb), h3.keep f h1 (f.keep h1 hb)⟩
          · rintro k b A o hb ⟨h1, h2, h3⟩ hn
            exact ⟨f.put _ b A o (by omega) h1 hn, ⟨by have := h2.size; simpa using this, fun j hj hc => (World.putObj_heap_other (by omega)).trans (h2.block j hj hc), fun j hj hc => h2.own j hj (f.cput _ b A o j (by omega) h1 hn hc)⟩,
              ⟨h3.nodup, fun D hD => ⟨(h3.each D hD).1, (World.putObj_heap_other (by have := HDL.out D hD; omega)).trans (h3.each D hD).2⟩⟩⟩
          · rintro k A A' j ⟨h1, _, _⟩ hb hc
            exact f.cgrow _ _ _ j h1 hb hc
          · rintro k b A o j hb ⟨h1, _, _⟩ hn hc
            exact f.cput _ b A o j (by omega) h1 hn hc
          · rintro k A j ⟨h1, _, _⟩ hc
            exact f.cell _ A j h1 hc
        case assign =>
          intro l2 k Wa K hK2
          unfold encI
          gi_wp2
          exact hK2
        case body =>
          rintro l2 k Wb ⟨hj, hk, hm⟩ hkl
          have hyb : Blk Wb W.heap.size #[.func (.yield l) #[] #[]] 87 := (hk.block _ (by have := HZY.out; omega) (fun hcc => by
            have := HF.out.lt H0.out (HF.out.cgrow 0 _ _ _ H0.out (EWY.out ▸ B1 W _ : Below W.heap.size W Wy) hcc)
            omega)).trans YB.out
          have c4 := hyb.cell 0
          obtain ⟨h5, h6⟩ := HOA.out k hkl
          have hY5 := HY.out _ Wb hj h6
          unfold encI at hY5
          rw [h5] at hY5
          generalize (ownN g.nodes (mayG g) kk).getD k 0 = vv at hY5 ⊢
          obtain ⟨fn, tmps, assign, body, hy, hRd⟩ := yieldX_any (m' := 12 - 1 - 1 - 1) hY5
          have HRD := Lib.hid hRd
          have HJB := Lib.hid hj
          have HKB := Lib.hid hk
          have HMB := Lib.hid hm
          clear hj hk hm hyb h5 h6 hRd hkl
          gi_wp2_with fail
          refine (roundX_in HRD.out).mono ?_
          rintro e W4 ⟨rfl, hj4, hk4⟩
          have HJ4 := Lib.hid hj4
          have HK4 := Lib.hid hk4
          have HM4 := Lib.hid (HMB.out.keep HF.out HJB.out hk4)
          clear hj4 hk4 hy hY5 c4
          gi_wp2_with fail
          exact ⟨HK4.out, HJ4.out, HKB.out.trans HK4.out, HM4.out⟩
        case done =>
          rintro D W6 rfl ⟨hj, hk, hm⟩ hk6 hd
          have HJ6 := Lib.hid hj
          have HK6 := Lib.hid hk
          have HM6 := Lib.hid (hm.cons (D := w5.heap.size) (by have := HZ5.out; have := HZW.out; omega) (fun h => by have := HDL.out _ h; omega) hd)
          clear hj hk hm hk6 hd
          gi_wp2_with fail
          refine ⟨⟨_, _, _, _, _, _, _, _, _, _, _, _, _, _, i + 1, w5.heap.size :: dl, by rw [show ((i + 1 : Nat) : Int) = (i : Int) + 1 from by omega]; rfl, by omega, by rw [HON.out]; exact HJ6.out, HK6.out, HM6.out⟩, ?_⟩
          simp [RowKit.intOf]
          omega
      · obtain rfl : i = m := by omega
        have hlt2 : ¬ (i : Int) < i := by omega
        have hJ := Lib.hid hj
        have hK := Lib.hid hk
        have hM := Lib.hid hm
        clear hj hk hm
        gi_wp2_with fail
        refine leaves_marks HF.out (Nat.le_refl _) dl wr hM.out hJ.out (HK1.out.trans hK.out) (fun W' hj' hk' => ?_)
        refine ⟨_, results_none rfl _ _ _, ⟨_, rfl⟩, ?_, hk'⟩
        rw [← OL.out]
        exact hj'
end Go.Proofs.YtlbjmkljmhfjdaaGreat
namespace Go.Proofs.YtlbjmkljmhfjdaaGreat
open Go Go.RowKit Go.Maps
theorem ranks_length (g : Gr) : (ranks g).length = g.rules.length := rk_length g _
theorem ranks_le (g : Gr) (i : Nat) : (ranks g).getD i 0 ≤ g.rules.length := (rk_bound g _ i).2
theorem ext_getD {a b : List Int} (h : a.length = b.length) (h2 : ∀ i, i < a.length → a.getD i 0 = b.getD i 0) : a = b := by
  apply List.ext_getElem h
  intro i h3 h4
  have := h2 i h3
  simpa [List.getD, List.getElem?_eq_getElem h3, List.getElem?_eq_getElem h4] using this
end Go.Proofs.YtlbjmkljmhfjdaaGreat
namespace Go.Proofs.YtlbjmkljmhfjdaaGreat
open Go Go.RowKit Go.Maps
theorem nodesOf_of {g : Gr} (hR : Right g) : nodesOf g = rowOf' g.nodes.length (fun n => mayN g.nodes (inB (ranks g)) n) := by
  unfold nodesOf
  rw [rightB_true.2 hR]
  rfl
/-- The row of what may, some of it stored. -/
structure MidM (w4 wr : World) (mb : Nat) (L : List Nat) (j : Nat) (ml : List Bool) (N : Nat) : Prop where
  row : Blk wr mb (bls ml).toArray 4
  len : ml.length = N
  val : ∀ q, q < N → ml.getD q false = decide (q ∈ L.take j)
  size : wr.heap.size = w4.heap.size
  other : ∀ b, b ≠ mb → wr.heap[b]? = w4.heap[b]?
theorem MidM.start {w4 : World} {mb N : Nat} {L : List Nat} (h : Blk w4 mb (bls (List.replicate N false)).toArray 4) : MidM w4 w4 mb L 0 (List.replicate N false) N :=
  ⟨h, by simp, fun q hq => by simp only [List.getD, List.getElem?_replicate]; rw [if_pos hq]; simp, rfl, fun _ _ => rfl⟩
theorem MidM.step {w4 wr : World} {mb N j : Nat} {L : List Nat} {ml : List Bool} (h : MidM w4 wr mb L j ml N) (hj : j < L.length) :
    MidM w4 (wr.setCell ⟨mb, L.getD j 0, none⟩ (.bool true)) mb L (j + 1) (ml.set (L.getD j 0) true) N := by
  have ht : L.take (j + 1) = L.take j ++ [L.getD j 0] := by
    rw [List.take_add_one]
    simp [List.getD, List.getElem?_eq_getElem hj]
  refine ⟨?_, by rw [List.length_set]; exact h.len, fun q hq => ?_, by rw [← h.size]; simp [World.setCell], fun b hb => (Below.heap_setCell _ _ _ b hb).trans (h.other b hb)⟩
  · have := h.row.put (k := L.getD j 0) (.bool true)
    rw [bls_set] at this
    exact this
  · rw [ht]
    generalize L.getD j 0 = e0
    by_cases e : q = e0
    · subst e
      simp only [List.getD]
      rw [List.getElem?_set_self (by rw [h.len]; exact hq)]
      simp
    · simp only [List.getD]
      rw [List.getElem?_set_ne (fun h => e h.symm)]
      have := h.val q hq
      simp only [List.getD] at this
      rw [this]
      simp [e]
theorem MidM.done {w4 wr : World} {mb : Nat} {g : Gr} {ml : List Bool} {f : Nat → Bool} (h : MidM w4 wr mb (rowOf' g.nodes.length f) (rowOf' g.nodes.length f).length ml g.nodes.length) (q : Nat) (hq : q < g.nodes.length) : ml.getD q false = f q := by
  rw [h.val q hq, List.take_length]
  cases hf : f q with
  | true => exact decide_eq_true (rowOf_mem.2 ⟨hq, hf⟩)
  | false => exact decide_eq_false (fun h => by have := (rowOf_mem.1 h).2; rw [hf] at this; cases this)
end Go.Proofs.YtlbjmkljmhfjdaaGreat
namespace Go.Proofs.YtlbjmkljmhfjdaaGreat
open Go Go.RowKit Go.Maps Go.Shelf
theorem Tryz.info_b : (Tryz.prog.info? 4).map (fun i => (i.zero, i.size, i.bytes)) = some (some (.bool false), 1, 1) := by kernel_rfl
theorem made_bool (n : Nat) : madeCells (Value.bool false).cells (n * 1) = (List.replicate n (Value.bool false)).toArray := by
  apply Array.ext
  · simp [madeCells]
  · intro k h1 h2
    simp [madeCells, Value.cells, Nat.mod_one]
set_option maxRecDepth 100000 in
set_option maxHeartbeats 4000000 in
theorem lworkOf_any (g : Gr) (w : World) (hg : Gr.At w g) (hin : Gr.In g) (hR : Right g) : Calls Tryz.prog 91 #[g.val] w fun e w' => ∃ p nb, e = .returned (.tuple #[.pointer (some ⟨p, 0, none⟩), .bool true]) ∧ Wk w' p g nb ∧ Below w.heap.size w w' := by
  obtain ⟨i0, hi, hz0, hz1, hz2⟩ := info_parts Tryz.info_b
  have RA := Lib.hid (fun (w' : World) (b : Below w.heap.size w w') => by have := right_all g w' (hg.below b) hin; rw [rightB_true.2 hR] at this; exact this)
  have NA := Lib.hid (fun (w' : World) (b : Below w.heap.size w w') => nodes_any g w' (hg.below b) hin)
  have ND := Lib.hid (nodesOf_of hR)
  have HG := Lib.hid hg
  have h48 := hR.nodes
  obtain ⟨m, em⟩ : ∃ m, m = g.nodes.length := ⟨_, rfl⟩
  have EM := Lib.hid em
  rw [← em] at h48
  have RA2 : RowKit.Hid (∀ (w' : World), Below w.heap.size w w' → Calls Tryz.prog 138 #[.agg #[.slice g.RA g.rules.length g.rc, .slice g.NA m g.nc]] w' fun e w'' => e = .returned (.bool true) ∧ Below w'.heap.size w' w'') := Lib.hid (by rw [em]; exact RA.out)
  have NA2 : RowKit.Hid (∀ (w' : World), Below w.heap.size w w' → Calls Tryz.prog 145 #[.agg #[.slice g.RA g.rules.length g.rc, .slice g.NA m g.nc]] w' (Row w' (nodesOf g))) := Lib.hid (by rw [em]; exact NA.out)
  show Calls Tryz.prog 91 #[.agg #[.slice g.RA g.rules.length g.rc, .slice g.NA g.nodes.length g.nc]] w _
  rw [← em]
  clear hg hR hin RA NA em
  go_enter Tryz.func91, Tryz.ntmps91
  go_upto_region 3 with (go_at_call 138; with_reducible refine (RA2.out _ (B1 _ _)).mono ?_; rintro e w1 ⟨rfl, hb⟩; have KB := Lib.hid ((Blk.new w #[.slice g.RA g.rules.length g.rc, .slice g.NA m g.nc] 25).below' hb); have H1 := Lib.hid (bb (B1 w _) hb); clear hb)
  have k0 := KB.out.cell 0
  have k1 := KB.out.cell 1
  simp only [List.getElem?_toArray, List.getElem?_cons_zero, List.getElem?_cons_succ] at k0 k1
  have hmk : ∀ W : World, (Instr.makeSlice 82 (.int .i64 m) (.int .i64 m)).run Tryz.prog W = .ok (.slice (some ⟨W.heap.size, 0, none⟩) m m) (W.alloc (.cells (List.replicate m (Value.bool false)).toArray 4)) := fun W => by
    have hr := run_make (P := Tryz.prog) W 82 4 i0 (.bool false) Tryz.underlying82 hi hz0 .i64 .i64 (m : Nat) (m : Nat) (by omega) (by omega) (by rw [hz2]; omega) (by omega)
    rw [hz1, Int.toNat_natCast, made_bool] at hr
    exact hr
  have k0' : ∀ o, (w1.alloc o).cell? ⟨w.heap.size, 0, none⟩ = some (.slice g.RA g.rules.length g.rc) := fun o => (KB.out.alloc o).cell 0
  have k1' : ∀ o, (w1.alloc o).cell? ⟨w.heap.size, 1, none⟩ = some (.slice g.NA m g.nc) := fun o => (KB.out.alloc o).cell 1
  go_region
  obtain ⟨nb, enb⟩ : ∃ u, u = w1.heap.size := ⟨_, rfl⟩
  obtain ⟨w2, ew2⟩ : ∃ u, u = ((w1.alloc (Obj.cells (Array.replicate m (Value.bool false)) 4)).alloc (Obj.cells #[Value.slice g.RA g.rules.length g.rc, Value.slice g.NA m g.nc, Value.slice (some { block := w1.heap.size, off := 0 }) m m] 84)).drew := ⟨_, rfl⟩
  have hb2 : Below w1.heap.size w1 w2 := by rw [ew2]; exact bdrew1 (B2 _ _ _)
  have kr : Blk w2 nb (bls (List.replicate m false)).toArray 4 := by
    rw [ew2, enb, show (bls (List.replicate m false)).toArray = Array.replicate m (Value.bool false) from by simp [bls]]
    exact (Blk.new _ _ _).alloc _
  have kp : Blk w2 (nb + 1) #[Value.slice g.RA g.rules.length g.rc, Value.slice g.NA m g.nc, Value.slice (some { block := nb, off := 0 }) m m] 84 := by
    rw [ew2, enb]
    have := Blk.new (w1.alloc (Obj.cells (Array.replicate m (Value.bool false)) 4)) #[Value.slice g.RA g.rules.length g.rc, Value.slice g.NA m g.nc, Value.slice (some { block := w1.heap.size, off := 0 }) m m] 84
    rw [World.size_alloc] at this
    exact this
  rw [← ew2, ← enb]
  have K2 := KB.out.below' hb2
  have q0 := K2.cell 0
  have q1 := K2.cell 1
  simp only [List.getElem?_toArray, List.getElem?_cons_zero, List.getElem?_cons_succ] at q0 q1
  have hz2' : w2.heap.size = nb + 2 := by rw [ew2, enb]; simp
  have H2 := Lib.hid (bb H1.out hb2)
  have HS := Lib.hid hz2'
  have KR := Lib.hid kr
  have KP := Lib.hid kp
  have ENB := Lib.hid (show w.heap.size ≤ nb by rw [enb]; exact H1.out.size)
  obtain ⟨L, eL⟩ : ∃ L, L = nodesOf g := ⟨_, rfl⟩
  have hld := ND.out
  rw [← eL] at NA2 hld
  have N3 := Lib.hid (NA2.out w2 H2.out)
  clear NA2 ND eL ew2 enb hb2 kr kp K2 hz2' k0 k1 k0' k1' hmk
  have hld2 := Lib.hid hld
  clear hld
  go_wp2_with fail
  refine N3.out.mono ?_
  rintro e w5 ⟨⟨v5, rfl, ho5, _⟩, hb5⟩
  obtain ⟨A, c, rfl, _, _⟩ := own_slice ho5
  have O5 := Lib.hid ho5
  have G5 := Lib.hid hb5
  clear ho5 hb5
  have hln := (show L.length ≤ m by rw [hld2.out, EM.out]; exact rowOf_len _ _)
  go_wp2_with fail
  have MS := Lib.hid (fun (wr : World) (ml : List Bool) (h : MidM w5 wr nb L L.length ml m) => show ml = mayL g from by
    have hld := hld2.out
    rw [hld, EM.out] at h
    refine List.ext_getElem (by rw [h.len, mayL_len]) fun q h1 h2 => ?_
    have hq : q < g.nodes.length := by rw [mayL_len] at h2; exact h2
    have := MidM.done h q hq
    have h3 := mayL_at hq
    simp only [List.getD, List.getElem?_eq_getElem h1, List.getElem?_eq_getElem h2, Option.getD_some] at this h3
    rw [this, h3]
    rfl)
  have LM := Lib.hid (fun (k : Nat) (hk : k < L.length) => show L.getD k 0 < m from by
    have : L.getD k 0 ∈ L := by simp [List.getD, List.getElem?_eq_getElem hk]
    rw [hld2.out] at this
    rw [EM.out, hld2.out]
    exact (rowOf_mem.1 this).1)
  have LN := Lib.hid (show L.length ≤ m by rw [hld2.out, EM.out]; exact rowOf_len _ _)
  have R5 := Lib.hid (KR.out.below' G5.out)
  have P5 := Lib.hid (KP.out.below' G5.out)
  clear hln
  go_loopw [20, 6] (fun i _ wr => ∃ (k : Nat) (ml : List Bool), k ≤ L.length ∧ i = .int .i64 k ∧ MidM w5 wr nb L k ml m ∧ Below w.heap.size w wr) (fun i _ _ => L.length - (RowKit.intOf i).toNat)
  case atStart => exact ⟨0, List.replicate m false, by omega, rfl, MidM.start R5.out, bb H2.out G5.out⟩
  case round =>
    obtain ⟨k, ml, hk, rfl, hmm, hbl⟩ := hrel
    have HM := Lib.hid hmm
    have BL := Lib.hid hbl
    have hln := LN.out
    clear hmm hbl
    by_cases hlt : k < L.length
    · have hlt2 : (k : Int) < L.length := by omega
      have hq := LM.out k hlt
      have hro : wr.ownsRow w2.heap.size 3 1 (.slice A L.length c) L.length (ints (nums L)) := own_kept O5.out (fun b hb => HM.out.other b (fun e => by have := (O5.out.lt b hb).1; have := HS.out; omega))
      have hlies : Lies wr A (ints (nums L)) := own_lies (xs := ints (nums L)) (by rw [ints_length, nums_len]; exact hro)
      obtain ⟨b2, o2, eA2, _, c2⟩ := lies_cell hlies (k := k) (by rw [nums_len]; exact hlt)
      rw [nums_at] at c2
      have kp := ((HM.out.other (nb + 1) (by omega)).trans P5.out)
      have c3 : wr.cell? ⟨nb + 1, 2, none⟩ = some (.slice (some ⟨nb, 0, none⟩) m m) := Blk.cell kp 2
      have hml : L.getD k 0 < ml.length := by rw [HM.out.len]; exact hq
      have c4 := (HM.out.row.cell (L.getD k 0)).trans (by rw [List.getElem?_toArray, bls_at hml])
      have f4 := HM.out.row.frozen (L.getD k 0)
      have HN := Lib.hid (HM.out.step hlt)
      generalize L.getD k 0 = x at c2 c4 f4 HN hq
      have hxi : (x : Int) < m := by omega
      rw [eA2]
      clear hro hlies kp hml
      go_wp2_with fail
      go_roundw
      case rel => exact ⟨k + 1, _, by omega, by go_num, HN.out, BL.out.setCell (p := ⟨nb, x, none⟩) ENB.out _⟩
      case measure => simp [RowKit.intOf]; omega
    · obtain rfl : k = L.length := by omega
      have hlt2 : ¬ (L.length : Int) < L.length := by omega
      go_wp2_with fail
      refine bodyPost_ret (v := .tuple #[.pointer (some ⟨nb + 1, 0, none⟩), .bool true]) (by simp [results, Tryz.f91, go_sem]) rfl ?_
      have kp := ((HM.out.other (nb + 1) (by omega)).trans P5.out)
      refine ⟨nb + 1, rfl, ⟨nb, ⟨?_, HG.out.below BL.out, ?_⟩⟩, BL.out⟩
      · rw [← EM.out]; exact kp
      · rw [← MS.out wr ml HM.out]; exact HM.out.row
end Go.Proofs.YtlbjmkljmhfjdaaGreat
namespace Go.Proofs.YtlbjmkljmhfjdaaGreat
open Go Go.RowKit Go.Maps Go.Shelf
attribute [local go_sem] Oper.semAt_some
theorem has_any (b i : Nat) (x : Bool) (hi : i < 32) (w : World) (hc : w.cell? ⟨b, i, none⟩ = some (.bool x)) : Calls Tryz.prog 95 #[.pointer (some ⟨b, 0, none⟩), .int .i64 i] w fun e w' => e = .returned (.bool x) ∧ w' = w := by
  have hi2 : (i : Int) < 32 := by omega
  go_enter Tryz.func95, Tryz.ntmps95
  go_wp2_with fail
  go_ret
  exact ⟨rfl, rfl⟩
set_option maxRecDepth 100000 in
set_option maxHeartbeats 2000000 in
theorem rising_has (m p : Nat) (q : Nat → Bool) (hm : m ≤ 100000) (w : World)
    (hP : ∀ W, Below w.heap.size w W → ∀ r, r < m → Calls Tryz.prog 95 #[.pointer (some ⟨p, 0, none⟩), .int .i64 r] W fun e w' => e = .returned (.bool (q r)) ∧ Below W.heap.size W w') :
    Calls Tryz.prog 93 #[.int .i64 m, .func (.func 95) #[.pointer (some ⟨p, 0, none⟩)] #[]] w (Row w (rowOf' m q)) := by
  obtain ⟨i0, hi, hz0, hz1, hz2⟩ := info_parts Tryz.info3
  have HP := Lib.hid hP
  clear hP
  go_enter Tryz.func93, Tryz.ntmps93
  go_wp2_with fail
  go_loopw [5, 8] (fun l i wr => ∃ k : Nat, k ≤ m ∧ i = .int .i64 k ∧ wr.ownsRow w.heap.size 3 1 l (rowOf' k q).length (ints (nums (rowOf' k q))) ∧ (l = .slice none 0 0 ↔ rowOf' k q = []) ∧ Below w.heap.size w wr) (fun _ i _ => m - (RowKit.intOf i).toNat)
  case atStart => exact ⟨0, by omega, by go_num, World.ownsRow_nil _ _ _ _, by simp [rowOf'], Below.refl _ _⟩
  case round =>
    obtain ⟨k, hk, rfl, hown, hnil, hb⟩ := hrel
    by_cases hlt : k < m
    · have hlt2 : (k : Int) < m := by omega
      have C := Lib.hid (HP.out wr hb k hlt)
      have RS := Lib.hid (rowOf_succ k q)
      have RL := Lib.hid (rowOf_len q k)
      have HO := Lib.hid hown
      have HN := Lib.hid hnil
      have HB := Lib.hid hb
      clear hown hnil hb
      cases hp : q k with
      | false =>
        rw [hp] at C RS
        clear hp
        go_wp2_with (go_at_call 95; (with_reducible refine C.out.mono ?_); rintro e w1 ⟨rfl, hb1⟩; have B1' := Lib.hid hb1; clear hb1)
        go_roundw
        case rel => exact ⟨k + 1, by omega, by go_num, by rw [RS.out]; exact own_below HO.out B1'.out, by rw [RS.out]; exact HN.out, HB.out.trans (B1'.out.mono HB.out.size)⟩
        case measure => simp [RowKit.intOf]; omega
      | true =>
        rw [hp] at C RS
        clear hp
        go_wp2_with (first | (go_at_call 95; (with_reducible refine C.out.mono ?_); rintro e w1 ⟨rfl, hb1⟩; have B1' := Lib.hid hb1; have O1 := Lib.hid (own_below HO.out hb1); have BW := Lib.hid (HB.out.trans (hb1.mono HB.out.size)); clear hb1) | (at_builtin; refine wpList_append_own _ rfl _ _ 38 rfl w.heap.size 3 i0 (.int .i64 0) 1 8 Tryz.underlying38 hi hz0 hz1 hz2 rfl (by decide) _ _ _ rfl (O1.out.alloc _) ⟨w1.heap.size, 0, none⟩ 1 1 [.int .i64 k] rfl rfl (cell_one_new _ _ _) (by simp [Value.oneCell']) (by unfold maxLen; have := RL.out; omega) (by have := RL.out; omega) (by have := BW.out.size; simp; omega) ?_; intro v' w9 hown' hgrow hnil'; have O9 := Lib.hid hown'; have G9 := Lib.hid hgrow; have N9 := Lib.hid hnil'; clear hown' hgrow hnil'))
        go_roundw
        case rel =>
          refine ⟨k + 1, by omega, by go_num, ?_, ?_, ?_⟩
          · rw [RS.out, if_pos trivial, List.length_append, nums_app]
            have := O9.out
            simpa [ints] using this
          · rw [RS.out, if_pos trivial, N9.out]
            simp
          · refine grown_below (w := w1.alloc _) (BW.out.trans ((B1 w1 _).mono BW.out.size)) (by have := BW.out.size; simp; omega) G9.out (fun j e => (O1.out.lt j e).1)
        case measure => simp [RowKit.intOf]; omega
    · obtain rfl : k = m := by omega
      have hlt2 : ¬ (k : Int) < k := by omega
      have HO := Lib.hid hown
      have HN := Lib.hid hnil
      have HB := Lib.hid hb
      clear hown hnil hb
      go_wp2_with fail
      go_ret
      exact ⟨⟨_, rfl, HO.out, HN.out⟩, HB.out⟩
/-- Whether a node is a Call of a rule. -/
def isC (l : List Nd) (r : Nat) (m : Int) : Bool := decide ((l.getD m.toNat Nd.zero).kind = 5) && decide ((l.getD m.toNat Nd.zero).rule = (r : Int))
theorem isC_no {l : List Nd} {r : Nat} {m : Int} (h : (l.getD m.toNat Nd.zero).kind ≠ 5) : isC l r m = false := by
  unfold isC; rw [decide_eq_false h]; rfl
theorem isC_yes {l : List Nd} {r i : Nat} {m : Int} (h : (l.getD m.toNat Nd.zero).kind = 5) (hr : (l.getD m.toNat Nd.zero).rule = (r : Int)) : isC l i m = decide (r = i) := by
  unfold isC; rw [decide_eq_true h, hr, Bool.true_and]
  exact decide_eq_decide.2 ⟨fun h => by omega, fun h => by omega⟩
/-- Which rules were called by the first so many of some nodes. -/
def callM (l : List Nd) (a : List Int) (k : Nat) : List Bool := (List.range 32).map fun r => (a.take k).any (isC l r)
theorem callM_len (l : List Nd) (a : List Int) (k : Nat) : (callM l a k).length = 32 := by simp [callM]
theorem callM_get {l : List Nd} {a : List Int} {k r : Nat} (h : r < (callM l a k).length) : (callM l a k)[r] = (a.take k).any (isC l r) := by
  simp [callM]
theorem callM_at {l : List Nd} {a : List Int} {k r : Nat} (h : r < 32) : (callM l a k).getD r false = (a.take k).any (isC l r) := by
  rw [← callM_get (by rw [callM_len]; exact h)]
  simp [List.getD, List.getElem?_eq_getElem (show r < (callM l a k).length by rw [callM_len]; exact h)]
theorem callM_zero (l : List Nd) (a : List Int) : callM l a 0 = List.replicate 32 false := by
  refine List.ext_getElem (by rw [callM_len, List.length_replicate]) fun i h1 h2 => ?_
  rw [callM_get, List.getElem_replicate, List.take_zero]
  rfl
theorem take_one {a : List Int} {k : Nat} (h : k < a.length) : a.take (k + 1) = a.take k ++ [a.getD k 0] := by
  rw [List.take_add_one]
  simp [List.getD, List.getElem?_eq_getElem h]
theorem any_one (l : List Int) (q : Int) (f : Int → Bool) : (l ++ [q]).any f = (l.any f || f q) := by
  rw [List.any_append]; simp
theorem callM_no {l : List Nd} {a : List Int} {k : Nat} (h : k < a.length) (hk : (l.getD (a.getD k 0).toNat Nd.zero).kind ≠ 5) : callM l a (k + 1) = callM l a k := by
  refine List.ext_getElem (by rw [callM_len, callM_len]) fun i h1 h2 => ?_
  rw [callM_get, callM_get, take_one h, any_one, isC_no hk, Bool.or_false]
theorem callM_yes {l : List Nd} {a : List Int} {k r : Nat} (h : k < a.length) (hk : (l.getD (a.getD k 0).toNat Nd.zero).kind = 5) (hr : (l.getD (a.getD k 0).toNat Nd.zero).rule = (r : Int)) : callM l a (k + 1) = (callM l a k).set r true := by
  refine List.ext_getElem (by rw [List.length_set, callM_len, callM_len]) fun i h1 h2 => ?_
  rw [callM_get, take_one h, any_one, isC_yes hk hr, List.getElem_set]
  by_cases e : r = i
  · rw [if_pos e, decide_eq_true e, Bool.or_true]
  · rw [if_neg e, decide_eq_false e, Bool.or_false, callM_get]
theorem callM_all {l : List Nd} {a : List Int} {may : Int → Bool} {n : Int} {r : Nat} (h : r < 32) (ha : a = ownN l may n) : (callM l a a.length).getD r false = callsB l may n r := by
  rw [callM_at h, List.take_length, ha]
  rfl
end Go.Proofs.YtlbjmkljmhfjdaaGreat
namespace Go.Proofs.YtlbjmkljmhfjdaaGreat
open Go Go.RowKit Go.Maps Go.Shelf
attribute [local go_sem] Oper.semAt_some
theorem blk_putX {W : World} {d b : Nat} {vs : Array Value} {T : TypeId} (h : Blk W d vs T) (hb : NoCells W b) (o : Obj) : Blk (W.putObj b o) d vs T := (World.putObj_heap_other (hb.ne h)).trans h
theorem own_putX {W : World} {base e size n b : Nat} {v : Value} {xs : List Value} (h : W.ownsRow base e size v n xs) (hb : NoCells W b) (o : Obj) : (W.putObj b o).ownsRow base e size v n xs :=
  own_kept h fun k hk => by
    rcases h.2 with ⟨rfl, _⟩ | ⟨g, cap, cur, rfl, _, hg, _⟩
    · simp [Value.ownBlock] at hk
    · simp only [Value.ownBlock, Option.some.injEq] at hk
      subst hk
      exact World.putObj_heap_other (hb.ne hg)
theorem leaves_one {F : Fence} {n D : Nat} {P : Program} {fn : Func} {tmps : Array Value} {R : Ending → World → Prop} {W : World} (h : W.heap[D]? = some (.deferred (some []))) (hk : ∀ o, LeavesIn F n P fn tmps R [] .returning (W.putObj D o)) : LeavesInM F n P fn tmps R [mkDf D] .returning W :=
  ⟨by simp, .inl ⟨D, _, rfl, run_takeDeferred h, hk _⟩⟩
set_option maxRecDepth 100000 in
set_option maxHeartbeats 4000000 in
theorem calls_any {w : World} {p nb : Nat} {g : Gr} (h : Wk w p g nb) (hR : Right g) (hc : Capd g) (n : Nat) (hn : n < g.nodes.length) :
    Calls Tryz.prog 103 #[.pointer (some ⟨p, 0, none⟩), .int .i64 n] w (Row w (callsOf g n)) := by
  have HW := Lib.hid h
  have h32 := hR.rules.2
  have OM := Lib.hid (fun w' => own_make p n w')
  have OI := Lib.hid (fun w' bx bn T (h : OwnR w' p g nb bx bn n T) => own_in g hR hc g.nodes.length n hn (by omega) w' p nb bx bn T h)
  have CL := Lib.hid (fun r (hr : r < 32) => callM_all (l := g.nodes) (a := ownN g.nodes (mayG g) n) (may := mayG g) (n := n) (r := r) hr rfl)
  have OWB := Lib.hid (fun k (hk : k < (ownN g.nodes (mayG g) n).length) => show 0 ≤ (ownN g.nodes (mayG g) n).getD k 0 ∧ (ownN g.nodes (mayG g) n).getD k 0 < g.nodes.length from by
    obtain ⟨ms, hm, _⟩ := hR.pre
    have h1 := (own_rises hm (mayG g) _ n hn (Nat.le_refl _)).each _ (getD_mem_int hk)
    have h2 := hm n (by omega) hn
    omega)
  have CRU := Lib.hid (fun m (hm : m < g.nodes.length) (hk : (g.nodes.getD m Nd.zero).kind = 5) => show 0 ≤ (g.nodes.getD m Nd.zero).rule ∧ (g.nodes.getD m Nd.zero).rule < g.rules.length from by
    have := hR.all m hm
    rcases (nodeOk_iff _ _).1 this with h | h | h | h | h | h <;> omega)
  have EC := Lib.hid (show callsOf g n = rowOf' g.rules.length (callsB g.nodes (mayG g) n) from rfl)
  generalize callsOf g n = R at EC ⊢
  generalize ownN g.nodes (mayG g) n = L at OI CL OWB
  obtain ⟨r, er⟩ : ∃ r, r = g.rules.length := ⟨_, rfl⟩
  have ER := Lib.hid er
  rw [← er] at h32
  clear h hR hc hn er
  refine (callsIn_wide (n := 12)).1 ?_
  refine callsIn_of_wp_marks Tryz.func103 rfl trivial ?_ rfl
  simp only [Tryz.ntmps103, List.size_toArray, List.length_cons, List.length_nil, Nat.reduceAdd, Nat.reduceSub, Array.replicate_succ, Array.replicate_zero, List.push_toArray, List.append_toArray, List.nil_append, List.cons_append]
  gi_wp2_with (refine ⟨trivial, ?_⟩; gi_at_call 102; refine (callsIn_wide.2 (OM.out _)).mono ?_; rintro e w3 ⟨rfl, e3⟩; have E3 := Lib.hid e3; clear e3)
  obtain ⟨b, eb⟩ : ∃ b, b = w.heap.size + 1 := ⟨_, rfl⟩
  have hz3 : w3.heap.size = b + 3 := by rw [E3.out, eb]; simp
  have kb : Blk w3 b (bls (List.replicate 32 false)).toArray 91 := by
    rw [E3.out, eb]
    have := Blk.new (w.alloc (.cells #[.pointer (some ⟨p, 0, none⟩)] 79)) (bls (List.replicate 32 false)).toArray 91
    rw [World.size_alloc] at this
    exact (this.alloc _).alloc _
  have k2 : Blk w3 w.heap.size #[.pointer (some ⟨p, 0, none⟩)] 79 := by rw [E3.out]; exact (((Blk.new _ _ _).alloc _).alloc _).alloc _
  have hb3 : Below w.heap.size w w3 := by rw [E3.out]; exact (((B1 w _).alloc (by simp) _).alloc (by simp; omega) _).alloc (by simp; omega) _
  have q1 : Blk w3 (b + 1) #[.pointer (some ⟨p, 0, none⟩)] 79 := by
    rw [E3.out, eb]
    have := Blk.new ((w.alloc (.cells #[.pointer (some ⟨p, 0, none⟩)] 79)).alloc (.cells (bls (List.replicate 32 false)).toArray 91)) #[.pointer (some ⟨p, 0, none⟩)] 79
    rw [World.size_alloc, World.size_alloc] at this
    exact this.alloc _
  have q2 : Blk w3 (b + 2) #[.int .i64 n] 3 := by
    rw [E3.out, eb]
    have := Blk.new (((w.alloc (.cells #[.pointer (some ⟨p, 0, none⟩)] 79)).alloc (.cells (bls (List.replicate 32 false)).toArray 91)).alloc (.cells #[.pointer (some ⟨p, 0, none⟩)] 79)) #[.int .i64 n] 3
    rw [World.size_alloc, World.size_alloc, World.size_alloc] at this
    exact this
  have hOR : OwnR w3 p g nb (b + 1) (b + 2) n (fun j => j < w3.heap.size ∧ j ≠ b) :=
    ⟨fun W' hs ha => HW.out.heap (Nat.le_trans hb3.size hs) (fun k hk => (ha k ⟨Nat.lt_of_lt_of_le hk hb3.size, by omega⟩).trans (hb3.block k hk)), fun j h => h.1, ⟨by omega, by omega⟩, ⟨by omega, by omega⟩, q1, q2⟩
  have SQ := Lib.hid (seqX_any (m' := 12 - 1) (OI.out w3 (b + 1) (b + 2) _ hOR))
  have I0 : RowKit.Hid (Blk w3 b (bls (callM g.nodes L 0)).toArray 91 ∧ Below w.heap.size w w3 ∧ Blk w3 w.heap.size #[.pointer (some ⟨p, 0, none⟩)] 79) := Lib.hid ⟨by rw [callM_zero]; exact kb, hb3, k2⟩
  have hbw : w.heap.size < b := by omega
  have HZ3 := Lib.hid hz3
  rw [← eb]
  clear hz3 kb k2 hb3 q1 q2 hOR eb
  refine wpIn_rangeFunc_own (by decide) (gf := 152) (lb := #[.pointer (some ⟨b + 2, 0, none⟩), .pointer (some ⟨b + 1, 0, none⟩)]) rfl (enters_of Tryz.func152 (by kernel_rfl) rfl) SQ.out (Below.refl _ _) (fun _ => rfl)
    (fun k A => Blk A b (bls (callM g.nodes L k)).toArray 91 ∧ Below w.heap.size w A ∧ Blk A w.heap.size #[.pointer (some ⟨p, 0, none⟩)] 79) (fun j _ => j = b) ?fair (fun j h => h.2) I0.out
    (fun k => { tmps := #[.pointer (some ⟨p, 0, none⟩), .int .i64 n, .pointer (some ⟨w.heap.size, 0, none⟩), undef, .slice none 0 0, .pointer (some ⟨b, 0, none⟩), .int .i64 (L.getD k 0), undef, .pointer (some ⟨p, 0, none⟩), .int .i64 n, .func (.func 152) #[] #[.pointer (some ⟨b + 2, 0, none⟩), .pointer (some ⟨b + 1, 0, none⟩)], .int .i64 (L.getD k 0), undef, undef, undef, undef, undef, undef, undef, undef, undef, undef, undef, undef, undef, undef, undef, undef, undef, undef, undef, undef, undef, undef], defers := [] }) ?assign ?body ?done
  case fair =>
    constructor
    · rintro k A A' ⟨h1, h2, h3⟩ hb
      exact ⟨h1.below' hb, h2.trans (hb.mono h2.size), h3.below' hb⟩
    · rintro k d A o hd ⟨h1, h2, h3⟩ hn
      exact ⟨blk_putX h1 hn o, h2.trans (below_putObj A d _ o (by have := HZ3.out; omega)), blk_putX h3 hn o⟩
    · rintro k A A' j _ _ hc; exact hc
    · rintro k d A o j _ _ _ hc; exact hc
    · rintro k A j ⟨h1, _, _⟩ rfl
      exact ⟨_, _, _, h1⟩
  case assign =>
    intro l2 k Wa K hK2
    unfold encI
    gi_wp2
    exact hK2
  case body =>
    rintro l2 k A ⟨h1, h2, h3⟩ hk
    have hwk := HW.out.below h2
    have c1 := h3.cell 0
    have c2 := hwk.box.cell 1
    simp only [List.getElem?_toArray, List.getElem?_cons_zero, List.getElem?_cons_succ] at c1 c2
    have hob := OWB.out k hk
    obtain ⟨m, em⟩ : ∃ m : Nat, L.getD k 0 = m := ⟨(L.getD k 0).toNat, by omega⟩
    have hm : m < g.nodes.length := by omega
    obtain ⟨b1, o1, eA, hlt, d0, d1, d2, d3, d4, d5, d6, d7, d8⟩ := hwk.gr.nodes.nine hm
    have CR := CRU.out m hm
    have CN := Lib.hid (callM_no (l := g.nodes) hk)
    have CY := Lib.hid (fun r => callM_yes (l := g.nodes) (r := r) hk)
    have CLN := callM_len g.nodes L k
    rw [em, Int.toNat_natCast] at CN CY
    rw [em]
    rw [eA] at c2
    generalize callM g.nodes L k = M at CN CY h1 CLN
    generalize g.nodes.getD m Nd.zero = x at d0 d1 d2 d3 d4 d5 d6 d7 d8 CR CN CY
    obtain ⟨kd, z0, z1, z2, z3, t, ru, lv, AA, cap, ks⟩ := x
    dsimp only at d0 d1 d2 d3 d4 d5 d6 d7 d8 CR CN CY
    obtain ⟨nn, en⟩ : ∃ nn, nn = g.nodes.length := ⟨_, rfl⟩
    rw [← en] at c2 hm
    have hm2 : (m : Int) < nn := by omega
    have HB := Lib.hid h1
    have HL := Lib.hid h2
    have HX := Lib.hid h3
    clear hwk h1 h2 h3 en hob em
    by_cases hk5 : kd = 5
    · subst hk5
      obtain ⟨hr0, hr1⟩ := CR rfl
      obtain ⟨r', er'⟩ : ∃ r' : Nat, ru = r' := ⟨ru.toNat, by omega⟩
      subst er'
      have hr32 : (r' : Int) < 32 := by have := ER.out; omega
      have hr32' : r' < 32 := by omega
      have e4 : ∀ o, (A.alloc o).cell? ⟨b, r', none⟩ = some (.bool (M.getD r' false)) := fun o => ((HB.out.alloc o).cell r').trans (by rw [List.getElem?_toArray]; exact bls_at (by rw [CLN]; exact hr32'))
      have e5 : ∀ o, (A.alloc o).frozen? ⟨b, r', none⟩ = false := fun o => (HB.out.alloc o).frozen r'
      generalize M.getD r' false = mb at e4
      have CY2 := Lib.hid (CY.out r' rfl rfl)
      clear CR CN CY hr0 hr1
      gi_wp2_with fail
      refine ⟨⟨by simp [World.setCell], fun j hj hne => (heap_setCell_other _ ⟨b, r', none⟩ j _ hne).trans (Below.heap_alloc A _ j hj), fun _ _ h => h⟩, ?_, ?_, ?_⟩
      · rw [CY2.out, ← bls_set]
        have := (HB.out.alloc (.cells #[Value.int IntKind.i64 5, Value.int IntKind.u64 z0, Value.int IntKind.u64 z1, Value.int IntKind.u64 z2, Value.int IntKind.u64 z3, Value.string t, Value.int IntKind.i64 r', Value.int IntKind.i64 lv, Value.slice AA ks.length cap] 40)).put (k := r') (.bool true)
        exact this
      · exact ((HL.out.trans ((B1 A _).mono HL.out.size))).setCell (p := ⟨b, r', none⟩) (by show w.heap.size ≤ b; omega) _
      · exact (heap_setCell_other _ ⟨b, r', none⟩ w.heap.size _ (by show w.heap.size ≠ b; omega)).trans (HX.out.alloc _)
    · have CN2 := Lib.hid (CN.out hk5)
      clear CR CN CY
      gi_wp2_with fail
      refine ⟨⟨by simp, fun j hj _ => Below.heap_alloc A _ j hj, fun _ _ h => h⟩, ?_, HL.out.trans ((B1 A _).mono HL.out.size), HX.out.alloc _⟩
      rw [CN2.out]
      exact HB.out.alloc _
  case done =>
    rintro _ W6 rfl ⟨h1, h2, h3⟩ _ hd
    have c1 := h3.cell 0
    have hwk := HW.out.below h2
    have c2 := hwk.box.cell 0
    simp only [List.getElem?_toArray, List.getElem?_cons_zero, List.getElem?_cons_succ] at c1 c2
    have RI := Lib.hid (rising_has g.rules.length b (callsB g.nodes (mayG g) n) (by have := ER.out; omega) W6 (fun W hb i hi => by
      have hi32 : i < 32 := by have := ER.out; omega
      have hcell := (h1.below' hb).cell i
      rw [List.getElem?_toArray, bls_at (by rw [callM_len]; exact hi32), CL.out i hi32] at hcell
      exact (has_any b i _ hi32 W hcell).mono fun e w' ⟨q1, q2⟩ => ⟨q1, by rw [q2]; exact Below.refl _ _⟩))
    rw [← EC.out, ← ER.out] at RI
    have HD := Lib.hid hd
    have H2 := Lib.hid h2
    rw [← ER.out] at c2
    clear hwk h1 h2 h3 hd
    gi_wp2_with (refine ⟨trivial, ?_⟩; gi_at_call 93; refine (callsIn_wide.2 RI.out).mono ?_; rintro e w7 ⟨⟨v7, rfl, ho7, hn7⟩, hb7⟩; have O7 := Lib.hid ho7; have N7 := Lib.hid hn7; have B7 := Lib.hid hb7; clear ho7 hn7 hb7)
    show LeavesInM _ _ _ _ _ _ _ _ _
    refine leaves_one (D := w3.heap.size) (B7.out.block w3.heap.size (Array.getElem?_eq_some_iff.1 HD.out).1 |>.trans HD.out) (fun o => ?_)
    have hn : NoCells w7 w3.heap.size := nc_def ((B7.out.block w3.heap.size (Array.getElem?_eq_some_iff.1 HD.out).1).trans HD.out)
    have hl7 := H2.out.trans (B7.out.mono H2.out.size)
    refine ⟨v7, by simp [results, Tryz.f103, go_sem], ⟨v7, rfl, own_putX (own_lower O7.out H2.out.size) hn o, N7.out⟩, hl7.trans (below_putObj w7 w3.heap.size _ o (by have := HZ3.out; omega))⟩
end Go.Proofs.YtlbjmkljmhfjdaaGreat
namespace Go.Proofs.YtlbjmkljmhfjdaaGreat
open Go Go.RowKit Go.Maps Go.Shelf
attribute [local go_sem] Oper.semAt_some
end Go.Proofs.YtlbjmkljmhfjdaaGreat
namespace Go.Proofs.YtlbjmkljmhfjdaaGreat
open Go Go.RowKit Go.Maps Go.Shelf
attribute [local go_sem] Oper.semAt_some
noncomputable def nodesAt (g : Gr) (n : Int) : List Int := by classical exact if rightB g = true ∧ 0 ≤ n ∧ n < g.nodes.length then ownN g.nodes (mayG g) n else []
noncomputable def callsAt (g : Gr) (n : Int) : List Nat := by classical exact if rightB g = true ∧ 0 ≤ n ∧ n < g.nodes.length then callsOf g n else []
theorem own_len {g : Gr} (hR : Right g) (n : Nat) (hn : n < g.nodes.length) : (ownN g.nodes (mayG g) n).length ≤ 2048 := by
  obtain ⟨ms, hm, _⟩ := hR.pre
  have h := own_rises hm (mayG g) _ n hn (Nat.le_refl _)
  have h2 := hm n (by omega) hn
  have h3 := hR.nodes
  have key : ∀ (a : List Int) (lo hi : Int), Rises a lo hi → (a.length : Int) ≤ max 0 (hi - lo) := by
    intro a
    induction a with
    | nil => intro lo hi _; simp; omega
    | cons x a ih =>
      intro lo hi h
      have h1 := h.each x (List.mem_cons_self ..)
      have hp := List.pairwise_cons.1 h.rise
      have := ih (x + 1) hi ⟨fun k hk => by have := hp.1 k hk; have := h.each k (List.mem_cons_of_mem _ hk); omega, hp.2⟩
      simp only [List.length_cons]
      omega
  have := key _ _ _ h
  omega
set_option maxRecDepth 100000 in
set_option maxHeartbeats 2000000 in
theorem bodyCalls_any {w : World} {p nb : Nat} {g : Gr} (h : Wk w p g nb) (hR : Right g) (hc : Capd g) (i : Nat) (hi : i < g.rules.length) :
    Calls Tryz.prog 92 #[.pointer (some ⟨p, 0, none⟩), .int .i64 i] w (Row w (lcal g i)) := by
  have hb := hR.body i hi
  have c0 := h.box.cell 0
  simp only [List.getElem?_toArray, List.getElem?_cons_zero, List.getElem?_cons_succ] at c0
  obtain ⟨b1, o1, eA, _, _, d1⟩ := h.gr.rules.two hi
  rw [eA] at c0
  have CO := Lib.hid (calls_any h hR hc (g.rules.getD i Rl.zero).body.toNat (by omega))
  rw [show (((g.rules.getD i Rl.zero).body.toNat : Nat) : Int) = (g.rules.getD i Rl.zero).body by omega] at CO
  have EL : RowKit.Hid (lcal g i = callsOf g (g.rules.getD i Rl.zero).body) := Lib.hid rfl
  rw [← EL.out] at CO
  generalize lcal g i = L at CO ⊢
  generalize (g.rules.getD i Rl.zero).body = bd at CO d1
  obtain ⟨m, em⟩ : ∃ m, m = g.rules.length := ⟨_, rfl⟩
  rw [← em] at c0 hi
  have hi2 : (i : Int) < m := by omega
  clear hb h em EL
  go_enter Tryz.func92, Tryz.ntmps92
  go_wp2_with fail
  refine CO.out.mono ?_
  rintro e w3 ⟨⟨v, rfl, ho, hn⟩, hb⟩
  have HO := Lib.hid ho
  have HN := Lib.hid hn
  have HB := Lib.hid hb
  clear ho hn hb CO
  go_wp2_with fail
  go_ret
  exact ⟨⟨v, rfl, HO.out, HN.out⟩, HB.out⟩
end Go.Proofs.YtlbjmkljmhfjdaaGreat
namespace Go.Proofs.YtlbjmkljmhfjdaaGreat
open Go Go.RowKit Go.Maps Go.Shelf
theorem Tryz.info_sH : (Tryz.prog.info? 38).map (fun i => (i.zero, i.size, i.bytes)) = some (some (.slice none 0 0), 1, 24) := by kernel_rfl
/-- Rows of numbers, each of its own, in a row. -/
structure Rows2 (w W : World) (gb : Nat) (vs : List Value) (L : List (List Nat)) : Prop where
  blk : Blk W gb vs.toArray 38
  new : w.heap.size ≤ gb
  len : vs.length = L.length
  row : ∀ i, i < L.length → W.ownsRow w.heap.size 3 1 (vs.getD i undef) (L.getD i []).length (ints (nums (L.getD i [])))
  low : Below w.heap.size w W
theorem Rows2.below {w W W' : World} {gb : Nat} {vs : List Value} {L : List (List Nat)} (h : Rows2 w W gb vs L) (hb : Below W.heap.size W W') : Rows2 w W' gb vs L :=
  ⟨h.blk.below' hb, h.new, h.len, fun i hi => own_below (h.row i hi) hb, h.low.trans (hb.mono h.low.size)⟩
noncomputable def graphOf (g : Gr) : List (List Nat) := (List.range g.rules.length).map (lcal g)
theorem graphOf_len (g : Gr) : (graphOf g).length = g.rules.length := by simp [graphOf]
theorem graphOf_at {g : Gr} {i : Nat} (h : i < g.rules.length) : (graphOf g).getD i [] = lcal g i := by simp [graphOf, List.getD, h]
/-- The rows so far. -/
noncomputable def graphTo (g : Gr) (k : Nat) : List (List Nat) := (List.range g.rules.length).map fun i => if i < k then lcal g i else []
theorem graphTo_len (g : Gr) (k : Nat) : (graphTo g k).length = g.rules.length := by simp [graphTo]
theorem graphTo_at {g : Gr} {i k : Nat} (h : i < g.rules.length) : (graphTo g k).getD i [] = if i < k then lcal g i else [] := by simp [graphTo, List.getD, h]
theorem graphTo_all (g : Gr) : graphTo g g.rules.length = graphOf g := by
  unfold graphTo graphOf
  exact List.map_congr_left fun i hi => by rw [if_pos (by simpa using hi)]
theorem Rows2.step {w W W1 : World} {gb k : Nat} {vs : List Value} {g : Gr} {v : Value} (h : Rows2 w W gb vs (graphTo g k)) (hk : k < g.rules.length) (hb : Below W.heap.size W W1) (ho : W1.ownsRow W.heap.size 3 1 v (lcal g k).length (ints (nums (lcal g k)))) :
    Rows2 w (W1.setCell ⟨gb, k, none⟩ v) gb (vs.set k v) (graphTo g (k + 1)) := by
  have h1 := h.below hb
  have hl := h.len
  rw [graphTo_len] at hl
  have keep : ∀ {B n : Nat} {u : Value} {xs : List Value}, W1.ownsRow B 3 1 u n xs → (W1.setCell ⟨gb, k, none⟩ v).ownsRow B 3 1 u n xs := fun {B n u xs} ho =>
    own_kept ho (fun j hj => heap_setCell_other W1 ⟨gb, k, none⟩ j _ (fun e => own_ne ho h1.blk (by decide) (by rw [hj]; exact congrArg some e)))
  refine ⟨h1.blk.put v, h.new, by rw [List.length_set, graphTo_len]; exact hl, fun i hi => ?_, h1.low.setCell (p := ⟨gb, k, none⟩) h.new _⟩
  rw [graphTo_len] at hi
  rw [graphTo_at hi]
  by_cases e : i = k
  · subst e
    rw [if_pos (by omega)]
    have : (vs.set i v).getD i undef = v := by simp [List.getD, hl, hi]
    rw [this]
    exact keep (own_lower ho h.low.size)
  · have : (vs.set k v).getD i undef = vs.getD i undef := by simp only [List.getD]; rw [List.getElem?_set_ne (fun h => e h.symm)]
    rw [this]
    have h2 := h1.row i (by rw [graphTo_len]; exact hi)
    rw [graphTo_at hi] at h2
    have e2 : (if i < k + 1 then lcal g i else []) = if i < k then lcal g i else [] := by
      by_cases hik : i < k
      · rw [if_pos hik, if_pos (by omega)]
      · rw [if_neg hik, if_neg (by omega)]
    rw [e2]
    exact keep h2
set_option maxRecDepth 100000 in
set_option maxHeartbeats 4000000 in
theorem graph_any (g : Gr) (w : World) (hg : Gr.At w g) (hin : Gr.In g) (hc : Capd g) (hR : Right g) : Calls Tryz.prog 23 #[g.val] w fun e w' => ∃ gb vs, e = .returned (.slice (some ⟨gb, 0, none⟩) g.rules.length g.rules.length) ∧ Rows2 w w' gb vs (graphOf g) := by
  obtain ⟨i0, hi, hz0, hz1, hz2⟩ := info_parts Tryz.info_sH
  have WW := Lib.hid (fun (w' : World) (b : Below w.heap.size w w') => lworkOf_any g w' (hg.below b) hin hR)
  have BC := Lib.hid (fun (w1 : World) (p nb : Nat) (hW : Wk w1 p g nb) i hi => bodyCalls_any hW hR hc i hi)
  have h32 := hR.rules.2
  have GA := Lib.hid (graphTo_all g)
  have GZ := Lib.hid (fun i (h : i < g.rules.length) => graphTo_at (g := g) (k := 0) h)
  have GL := Lib.hid (graphTo_len g)
  clear hg hin hR hc
  show Calls Tryz.prog 23 #[.agg #[.slice g.RA g.rules.length g.rc, .slice g.NA g.nodes.length g.nc]] w _
  obtain ⟨m, em⟩ : ∃ m, m = g.rules.length := ⟨_, rfl⟩
  have EM := Lib.hid em
  rw [← em] at h32 ⊢
  have WW2 : RowKit.Hid (∀ (w' : World) (b : Below w.heap.size w w'), Calls Tryz.prog 91 #[.agg #[.slice g.RA m g.rc, .slice g.NA g.nodes.length g.nc]] w' fun e w'' => ∃ p nb, e = .returned (.tuple #[.pointer (some ⟨p, 0, none⟩), .bool true]) ∧ Wk w'' p g nb ∧ Below w'.heap.size w' w'') := Lib.hid (by rw [em]; exact WW.out)
  clear WW em
  go_enter Tryz.func23, Tryz.ntmps23
  go_upto_region 4 with (go_at_call 91; with_reducible refine (WW2.out _ (B1 _ _)).mono ?_; rintro e w1 ⟨p, nb, rfl, hW, hb⟩; have H1 := Lib.hid (bb (B1 w _) hb); have HW := Lib.hid hW; clear hb hW)
  have c0 := HW.out.box.cell 0
  simp only [List.getElem?_toArray, List.getElem?_cons_zero, List.getElem?_cons_succ] at c0
  rw [← EM.out] at c0
  have hmk : ∀ W : World, (Instr.makeSlice 31 (.int .i64 m) (.int .i64 m)).run Tryz.prog W = .ok (.slice (some ⟨W.heap.size, 0, none⟩) m m) (W.alloc (.cells (List.replicate m (Value.slice none 0 0)).toArray 38)) := fun W => by
    have hr := run_make (P := Tryz.prog) W 31 38 i0 (.slice none 0 0) Tryz.underlying31 hi hz0 .i64 .i64 (m : Nat) (m : Nat) (by omega) (by omega) (by rw [hz2]; omega) (by omega)
    have e : madeCells (Value.slice none 0 0).cells (m * 1) = (List.replicate m (Value.slice none 0 0)).toArray := by
      apply Array.ext
      · simp [madeCells]
      · intro k h1 h2
        simp [madeCells, Value.cells, Nat.mod_one]
    rw [hz1, Int.toNat_natCast, e] at hr
    exact hr
  go_wp2_with fail
  obtain ⟨gb, egb⟩ : ∃ u, u = w1.heap.size := ⟨_, rfl⟩
  have R0 : RowKit.Hid (Rows2 w (w1.alloc (.cells (Array.replicate m (Value.slice none 0 0)) 38)) gb (List.replicate m (Value.slice none 0 0)) (graphTo g 0)) := Lib.hid (by
    refine ⟨?_, by rw [egb]; exact H1.out.size, by rw [GL.out 0, List.length_replicate, EM.out], fun i hi => ?_, H1.out.trans ((B1 w1 _).mono H1.out.size)⟩
    · rw [egb, show (List.replicate m (Value.slice none 0 0)).toArray = Array.replicate m (Value.slice none 0 0) from by simp]
      exact Blk.new _ _ _
    · rw [GL.out 0] at hi
      rw [GZ.out i hi, if_neg (by omega)]
      have : (List.replicate m (Value.slice none 0 0)).getD i undef = .slice none 0 0 := by have := EM.out; simp [List.getD, show i < m by omega]
      rw [this]
      exact World.ownsRow_nil _ _ _ _)
  have EGB := Lib.hid (show w1.heap.size ≤ gb by omega)
  have hb12 := B1 w1 (.cells (Array.replicate m (Value.slice none 0 0)) 38)
  first | rw [← egb] | skip
  generalize w1.alloc (.cells (Array.replicate m (Value.slice none 0 0)) 38) = w2 at R0 hb12 ⊢
  have HB12 := Lib.hid hb12
  clear hb12 c0 hmk GZ egb
  go_loopw [23, 6] (fun i _ wr => ∃ (k : Nat) (vs : List Value), k ≤ m ∧ i = .int .i64 k ∧ Rows2 w wr gb vs (graphTo g k) ∧ Below w1.heap.size w1 wr) (fun i _ _ => m - (RowKit.intOf i).toNat)
  case atStart => exact ⟨0, _, by omega, rfl, R0.out, HB12.out⟩
  case round =>
    obtain ⟨k, vs, hk, rfl, hrw, hbl⟩ := hrel
    have HRW := Lib.hid hrw
    have BL := Lib.hid hbl
    clear hrw hbl
    by_cases hlt : k < m
    · have hlt2 : (k : Int) < m := by omega
      have B0 := Lib.hid (BC.out wr p nb (HW.out.below BL.out) k (by have := EM.out; omega))
      go_wp2_with fail
      refine B0.out.mono ?_
      rintro e w5 ⟨⟨v5, rfl, ho, _⟩, hb5⟩
      have HS := Lib.hid (HRW.out.step (by have := EM.out; omega) hb5 ho)
      have h5 := HRW.out.below hb5
      have hvl : vs.length = m := by rw [h5.len, GL.out k]; exact EM.out.symm
      have c5 := h5.blk.cell k
      have f5 := h5.blk.frozen k
      obtain ⟨A6, n6, e6, _, _⟩ := own_slice (h5.row k (by rw [GL.out k]; have := EM.out; omega))
      have e7 : vs[k]? = some (vs.getD k undef) := by simp [List.getD, List.getElem?_eq_getElem (show k < vs.length by omega)]
      rw [List.getElem?_toArray, e7, e6] at c5
      generalize ((graphTo g k).getD k []).length = q6 at c5
      obtain ⟨A5, n5, rfl, _, _⟩ := own_slice ho
      have HB5 := Lib.hid (BL.out.trans (hb5.mono BL.out.size))
      generalize (lcal g k).length = q5 at HS ⊢
      clear h5 ho hb5 hvl e6 e7
      go_wp2_with fail
      go_roundw
      case rel => exact ⟨k + 1, _, by omega, by go_num, HS.out, HB5.out.setCell (p := ⟨gb, k, none⟩) EGB.out _⟩
      case measure => simp [RowKit.intOf]; omega
    · obtain rfl : k = m := by omega
      have hlt2 : ¬ (k : Int) < k := by omega
      go_wp2_with fail
      go_ret
      refine ⟨gb, rfl, vs, ?_⟩
      have := HRW.out
      rw [EM.out, GA.out] at this
      exact this
end Go.Proofs.YtlbjmkljmhfjdaaGreat
namespace Go.Proofs.YtlbjmkljmhfjdaaGreat
open Go Go.RowKit Go.Maps Go.Shelf
end Go.Proofs.YtlbjmkljmhfjdaaGreat
namespace Go.Proofs.YtlbjmkljmhfjdaaGreat
open Go Go.RowKit Go.Maps Go.Shelf
end Go.Proofs.YtlbjmkljmhfjdaaGreat
namespace Go.Proofs.YtlbjmkljmhfjdaaGreat
open Go Go.RowKit Go.Maps Go.Shelf
theorem lcal_len (g : Gr) (a : Nat) : (lcal g a).length ≤ g.rules.length := rowOf_len _ _
end Go.Proofs.YtlbjmkljmhfjdaaGreat
namespace Go.Proofs.YtlbjmkljmhfjdaaGreat
open Go Go.RowKit Go.Maps Go.Shelf
end Go.Proofs.YtlbjmkljmhfjdaaGreat
namespace Go.Proofs.YtlbjmkljmhfjdaaGreat
open Go Go.RowKit Go.Maps Go.Shelf
end Go.Proofs.YtlbjmkljmhfjdaaGreat

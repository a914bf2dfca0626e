/- The search for whom a rule goes to: the program's. -/
import Derived.Test.YtlbjmkljmhfjdaaGreatE5
import Derived.Deep.CutRange
set_option linter.unusedSimpArgs false
set_option linter.unusedVariables false
namespace Go.Proofs.YtlbjmkljmhfjdaaGreat
open Go Go.RowKit Go.Maps Go.Shelf
def cellsB (s : Bf) : List Value := bls s.1 ++ ints (nums s.2.1)
theorem cellsB_met {s : Bf} (h : Sound s) {k : Nat} (hk : k < 32) : (cellsB s)[k]? = some (.bool (s.1.getD k false)) := by
  unfold cellsB
  rw [List.getElem?_append_left (by rw [bls_length, h.met]; exact hk)]
  exact bls_at (by rw [h.met]; exact hk)
theorem cellsB_ahead {s : Bf} (h : Sound s) {k : Nat} (hk : k < 32) : (cellsB s)[32 + k]? = some (.int .i64 (s.2.1.getD k 0 : Nat)) := by
  unfold cellsB
  rw [List.getElem?_append_right (by rw [bls_length, h.met]; omega), bls_length, h.met, Nat.add_sub_cancel_left, ints_at (by rw [nums_len, h.ahead]; exact hk), nums_at]
theorem cellsB_set {s : Bf} (h : Sound s) {k a : Nat} (hk : k < 32) : ((cellsB s).set k (.bool true)).set (32 + k) (.int .i64 a) = cellsB (s.1.set k true, s.2.1.set k a, s.2.2 ++ [k]) := by
  unfold cellsB
  rw [List.set_append_left _ _ (by rw [bls_length, h.met]; exact hk), bls_set, List.set_append_right _ _ (by rw [bls_length, List.length_set, h.met]; omega), bls_length, List.length_set, h.met, Nat.add_sub_cancel_left, ints_set]
  congr 1
  simp [nums, List.map_set]
/-- The search in memory. -/
structure Srch (w W : World) (b : Nat) (v : Value) (s : Bf) : Prop where
  blk : Blk W b (cellsB s).toArray 94
  sound : Sound s
  tail : Tail W w.heap.size v (nums s.2.2)
  grown : w.grownBy W (some b)
  lt : b < w.heap.size
theorem Srch.below {w W W' : World} {b : Nat} {v : Value} {s : Bf} (h : Srch w W b v s) (hb : Below W.heap.size W W') : Srch w W' b v s :=
  ⟨h.blk.below' hb, h.sound, h.tail.kept (fun k hk => hb.block k (h.tail.lt k hk).2), h.grown.trans ⟨hb.os, hb.tape, hb.output, hb.size, fun k hk _ => hb.block k hk⟩, h.lt⟩
theorem Srch.has {w W : World} {b : Nat} {v : Value} {s : Bf} (h : Srch w W b v s) {k : Nat} (hk : k < 32) : W.cell? ⟨b, k, none⟩ = some (.bool (s.1.getD k false)) := by
  rw [h.blk.cell, List.getElem?_toArray, cellsB_met h.sound hk]
theorem Srch.ahead {w W : World} {b : Nat} {v : Value} {s : Bf} (h : Srch w W b v s) {k : Nat} (hk : k < 32) : W.cell? ⟨b, 32 + k, none⟩ = some (.int .i64 (s.2.1.getD k 0 : Nat)) := by
  rw [h.blk.cell, List.getElem?_toArray, cellsB_ahead h.sound hk]
/-- One more is met. -/
theorem Srch.met_one {w W W1 W2 : World} {b : Nat} {v v' : Value} {s : Bf} {a k : Nat} (h : Srch w W b v s) (hk : k < 32) (hn : s.1.getD k false = false) (h1 : W1 = (W.setCell ⟨b, k, none⟩ (.bool true)).setCell ⟨b, 32 + k, none⟩ (.int .i64 a)) {W1' : World} (hb : Below W1.heap.size W1 W1')
    (ht : Tail W2 w.heap.size v' (nums s.2.2 ++ [(k : Int)])) (hg : W1'.grownBy W2 v.ownBlock) : Srch w W2 b v' (visit a s k) := by
  have e : visit a s k = (s.1.set k true, s.2.1.set k a, s.2.2 ++ [k]) := by unfold visit; rw [hn]; rfl
  rw [e]
  have hblk : Blk W1 b (cellsB (s.1.set k true, s.2.1.set k a, s.2.2 ++ [k])).toArray 94 := by
    rw [h1, ← cellsB_set h.sound hk]
    exact (h.blk.put _).put _
  have hs := visit_sound (a := a) (k := k) h.sound
  rw [e] at hs
  have hgr : w.grownBy W1 (some b) := by
    rw [h1]
    have g1 : ∀ (X : World) (o : Nat) (u : Value), X.grownBy (X.setCell ⟨b, o, none⟩ u) (some b) := fun X o u => by
      have hbl := Below.setCell (Below.refl b X) (p := ⟨b, o, none⟩) (Nat.le_refl _) u
      exact ⟨hbl.os, hbl.tape, hbl.output, hbl.size, fun j _ hne => Below.heap_setCell _ _ _ j (fun e => hne (by rw [show j = b from e]))⟩
    exact (h.grown.trans (g1 _ _ _)).trans (g1 _ _ _)
  have hz1 : W1.heap.size = W.heap.size := by rw [h1]; simp [World.setCell]
  have hz : w.heap.size ≤ W1.heap.size := hgr.size
  refine ⟨(hblk.below' hb).grown hg (fun e => h.tail.ne h.blk (by decide) e.symm), hs, by rw [nums_app]; exact ht, ?_, h.lt⟩
  refine ⟨hg.os.trans (hb.os.trans hgr.os), hg.tape.trans (hb.tape.trans hgr.tape), hg.output.trans (hb.output.trans hgr.output), Nat.le_trans (Nat.le_trans hz hb.size) hg.size, fun j hj hne => ?_⟩
  exact (hg.block j (Nat.lt_of_lt_of_le (Nat.lt_of_lt_of_le hj hz) hb.size) (fun e => by have := (h.tail.lt j e.symm).1; omega)).trans ((hb.block j (Nat.lt_of_lt_of_le hj hz)).trans (hgr.block j hj hne))
def isT : Option Value → Bool
  | some (.bool b) => b
  | _ => false
/-- How much is left to be done, as memory tells it. -/
def muW (b : Nat) (v : Value) (W : World) : Nat := 2 * unmet ((List.range 32).map fun j => isT (W.cell? ⟨b, j, none⟩)) + match v with
  | .slice _ n _ => n
  | _ => 0
theorem Srch.mu {w W : World} {b : Nat} {v : Value} {s : Bf} (h : Srch w W b v s) : muW b v W = muB s := by
  have e1 : ((List.range 32).map fun j => isT (W.cell? ⟨b, j, none⟩)) = s.1 := by
    apply List.ext_getElem
    · simp [h.sound.met]
    · intro i h1 h2
      have hi : i < 32 := by rw [h.sound.met] at h2; exact h2
      simp only [List.getElem_map, List.getElem_range, h.has hi, isT]
      simp [List.getD, List.getElem?_eq_getElem h2]
  obtain ⟨g, off, cap, cur, rfl, _⟩ := h.tail
  unfold muW muB
  rw [e1]
  simp [nums]
set_option maxRecDepth 100000 in
set_option maxHeartbeats 4000000 in
theorem spread_any (b i p : Nat) (c : Nat → List Nat) (hc : ∀ a k, k ∈ c a → k < 32) (M : Nat) (hM : M ≤ 32) (hcM : ∀ a k, k ∈ c a → k < M) (hcl : ∀ a, (c a).length ≤ 32) (hiM : i < M) (w : World) (hb : Blk w b (cellsB (startB i)).toArray 94)
    (hC : ∀ W, w.grownBy W (some b) → ∀ a, a < M → Calls Tryz.prog 92 #[.pointer (some ⟨p, 0, none⟩), .int .i64 a] W (Row W (c a))) :
    Calls Tryz.prog 146 #[.pointer (some ⟨b, 0, none⟩), .int .i64 i, .func (.func 92) #[.pointer (some ⟨p, 0, none⟩)] #[]] w fun e w' => (∃ v, e = .returned v) ∧ Blk w' b (cellsB (bfs c i)).toArray 94 ∧ w.grownBy w' (some b) := by
  have hc' := hc
  have HC := Lib.hid hC
  have HCM := Lib.hid hcM
  have HCC := Lib.hid hc
  have HB := Lib.hid hb
  clear hC hcM hc hb
  go_enter Tryz.func146, Tryz.ntmps146
  go_wp2_with fail
  have S0 : RowKit.Hid (Srch w (w.alloc (.cells #[.int .i64 i] 3)) b (.slice (some ⟨w.heap.size, 0, none⟩) 1 1) (startB i)) := Lib.hid
    ⟨HB.out.alloc _, start_sound i, Tail.one (Blk.new _ _ _) (Nat.le_refl _), ⟨rfl, rfl, rfl, by simp, fun k hk _ => Below.heap_alloc w _ k hk⟩, HB.out.lt⟩
  have hw1 : (w.alloc (.cells #[.int .i64 i] 3)).heap.size = w.heap.size + 1 := by simp
  generalize w.alloc (.cells #[.int .i64 i] 3) = w1 at S0 hw1 ⊢
  have NX := Lib.hid (fun n => show ∀ k ∈ (runB c n (startB i)).2.2, k < M from fun k hk => by
    have h := run_inv hc' n (start_sound i) (start_inv c i)
    rcases h.next k hk with rfl | h1
    · exact hiM
    · obtain ⟨j, hj, _⟩ := (h.to k h1).last
      exact HCM.out _ _ hj)
  have RMU := Lib.hid (fun n => Nat.le_trans (run_mu hc' n (start_sound i)) (start_mu65 i))
  clear hw1
  go_loopw [6] (fun nx wr => ∃ (n : Nat) (v : Value), nx = v ∧ Srch w wr b v (runB c n (startB i))) (fun nx wr => muW b nx wr)
  case atStart => exact ⟨0, _, rfl, S0.out⟩
  case round =>
    obtain ⟨n, v, rfl, hs⟩ := hrel
    have HN := Lib.hid (NX.out n)
    have RN := Lib.hid (run_next c n (startB i))
    have BE := Lib.hid (bfs_end hc' (i := i) (n := n))
    have MU := Lib.hid hs.mu
    have RM := Lib.hid (RMU.out n)
    generalize runB c n (startB i) = s at hs HN RN BE MU RM
    have hss := hs
    obtain ⟨g, off, cap, cur, rfl, hg1, hg2, hg3, hg4, hg5, hg6⟩ := hs.tail
    have HS := Lib.hid hss
    obtain ⟨m, a, q⟩ := s
    cases q with
    | nil =>
      have hbe := Lib.hid (BE.out rfl)
      clear hss hs hg1 hg2 hg3 hg4 hg5 hg6 BE
      go_wp2_with fail
      go_end0
      have hb := HS.out.blk
      rw [hbe.out] at hb
      exact ⟨⟨_, rfl⟩, hb, HS.out.grown⟩
    | cons x q =>
      have hx : x < M := HN.out x (List.mem_cons_self ..)
      have hgl : g < wr.heap.size := (hss.tail.lt g rfl).2
      have hln : (nums (m, a, x :: q).2.2).length = q.length + 1 := by simp [nums]
      rw [hln] at hg3 hg6 hs hss HS MU ⊢
      obtain ⟨ql, eql⟩ : ∃ ql, ql = q.length := ⟨_, rfl⟩
      rw [← eql] at hg3 hg6 hs hss HS MU ⊢
      have c1 : wr.cell? ⟨g, off, none⟩ = some (.int .i64 x) := by
        have := hg6 0 (by omega)
        rw [Blk.cell hg2]
        exact this
      have hcap : ql + 1 ≤ cap := hg3
      have hmx : cap ≤ 9223372036854775807 := by unfold maxLen at hg4; omega
      have T1 : RowKit.Hid (cap ≠ 1 → Tail wr w.heap.size (.slice (some ⟨g, off + 1, none⟩) ql (cap - 1)) (nums q)) := Lib.hid fun _ => ⟨g, off + 1, cap - 1, cur, by rw [eql]; simp [nums], hg1, hg2, by simp [nums]; omega, by omega, by omega, fun j hj => by
        have hj2 : j < q.length := by simpa [nums] using hj
        have := hg6 (j + 1) (by omega)
        rw [show off + 1 + j = off + (j + 1) by omega, this]
        simp [nums]⟩
      have T0 : RowKit.Hid (cap = 1 → Tail wr w.heap.size (.slice (some ⟨g, off, none⟩) ql 0) (nums q)) := Lib.hid fun h1 => by
        have hq0 : q = [] := List.length_eq_zero_iff.1 (by omega)
        have hl0 : ql = 0 := by omega
        subst hq0
        subst hl0
        exact ⟨g, off, 0, cur, rfl, hg1, hg2, Nat.le_refl _, by unfold maxLen; omega, by omega, fun j hj => by simp [nums] at hj⟩
      have B0 := Lib.hid (HC.out wr hss.grown x hx)
      have PC := Lib.hid (pop_cons (c := c) (s := (m, a, x :: q)) rfl)
      have EQL := Lib.hid eql
      clear hs hss hg1 hg2 hg3 hg4 hg5 hg6 hln eql
      go_upto_region 3 with fail
      go_cut [6] from 18 to 19 (fun s6 wx => wx = wr ∧ ∃ A1 c1, s6 = .slice (some A1) ql c1 ∧ Tail wr w.heap.size (.slice (some A1) ql c1) (nums q))
      case first =>
        by_cases h1 : cap = 1
        · subst h1
          obtain rfl : ql = 0 := by omega
          go_wp2_with fail
          go_meet
          exact ⟨rfl, _, _, rfl, T0.out (by first | trivial | rfl)⟩
        · go_wp2_with fail
          go_meet
          exact ⟨rfl, _, _, rfl, T1.out h1⟩
      case rest =>
      obtain ⟨rfl, A1, cp1, rfl, hT⟩ := hcut
      have HT := Lib.hid hT
      clear hT c1 hcap hmx hgl T1 T0
      go_wp2_with fail
      refine B0.out.mono ?_
      rintro e w3 ⟨⟨v3, rfl, ho, _⟩, hb3⟩
      obtain ⟨A3, n3, rfl, _, _⟩ := own_slice ho
      have S3 := Lib.hid (show Srch w w3 b (.slice (some A1) ql cp1) (m, a, q) from
        ⟨HS.out.blk.below' hb3, ⟨HS.out.sound.met, HS.out.sound.ahead⟩, HT.out.kept (fun k hk => hb3.block k (HT.out.lt k hk).2), (HS.out.below hb3).grown, HS.out.lt⟩)
      have O3 := Lib.hid (show w3.ownsRow w.heap.size 3 1 (.slice A3 (c x).length n3) (c x).length (ints (nums (c x))) from own_lower ho HS.out.grown.size)
      have AP := Lib.hid (show ∀ k, (Value.slice (some A1) ql cp1).ownBlock = some k → (Value.slice A3 (c x).length n3).ownBlock ≠ some k from fun k hk h2 => by
        have h3 := (HT.out.lt k hk).2
        have h4 := (ho.lt k h2).1
        omega)
      have LM := Lib.hid (fun j (hj : j < (c x).length) => show (c x).getD j 0 < M from HCM.out x _ (by simp [List.getD, List.getElem?_eq_getElem hj]))
      have LF := Lib.hid (fun j (hj : j < (c x).length) => show (c x).take (j + 1) = (c x).take j ++ [(c x).getD j 0] from by rw [List.take_add_one]; simp [List.getD, List.getElem?_eq_getElem hj])
      have VM := Lib.hid (visits (a := x) (c x) (m, a, q) ⟨HS.out.sound.met, HS.out.sound.ahead⟩ (HCC.out x))
      have VMJ := Lib.hid (fun j => visits (a := x) ((c x).take j) (m, a, q) ⟨HS.out.sound.met, HS.out.sound.ahead⟩ (fun k hk => HCC.out x k (List.mem_of_mem_take hk)))
      have hclx := hcl x
      generalize c x = L at hclx O3 AP LM LF PC VM VMJ
      obtain ⟨ll, ell⟩ : ∃ ll, ll = L.length := ⟨_, rfl⟩
      have ELL := Lib.hid ell
      have hll : ll ≤ 100000 := by
        omega
      rw [← ell]
      clear ho hb3 ell HT
      go_wp2_with fail
      go_loopw [24, 6] (fun ix nx wr => ∃ (j : Nat) (v : Value), j ≤ ll ∧ ix = .int .i64 j ∧ nx = v ∧ Srch w wr b v ((L.take j).foldl (visit x) (m, a, q)) ∧ wr.ownsRow w.heap.size 3 1 (.slice A3 ll n3) ll (ints (nums L)) ∧ (∀ k, v.ownBlock = some k → (Value.slice A3 ll n3).ownBlock ≠ some k)) (fun ix _ _ => ll - (intOf ix).toNat)
      case atStart => exact ⟨0, _, by omega, rfl, rfl, S3.out, by rw [ELL.out]; exact O3.out, by rw [ELL.out]; exact AP.out⟩
      case round =>
        obtain ⟨j, v, hj, rfl, rfl, hs, ho, hap⟩ := hrel
        by_cases hlt : j < ll
        · have hlt2 : (j : Int) < ll := by omega
          have hkM := LM.out j (by have := ELL.out; omega)
          have hTK := LF.out j (by have := ELL.out; omega)
          have hmu := (VMJ.out j).2
          have hro : wr.ownsRow w.heap.size 3 1 (.slice A3 (ints (nums L)).length n3) (ints (nums L)).length (ints (nums L)) := by rw [ints_length, nums_len, ← ELL.out]; exact ho
          obtain ⟨b2, o2, eA2, _, c2⟩ := lies_cell (own_lies hro) (k := j) (by rw [nums_len]; have := ELL.out; omega)
          rw [nums_at] at c2
          have hrm := RM.out
          generalize L.getD j 0 = k at hkM hTK c2
          have hk32 : k < 32 := by omega
          have FT : RowKit.Hid ((L.take (j + 1)).foldl (visit x) (m, a, q) = visit x ((L.take j).foldl (visit x) (m, a, q)) k) := Lib.hid (by rw [hTK, List.foldl_append]; rfl)
          generalize (L.take j).foldl (visit x) (m, a, q) = t at hs hmu FT
          have hql : t.2.2.length ≤ 100 := by simp only [muB] at hmu hrm; simp only [List.length_cons] at hrm; omega
          have HA := Lib.hid (has_any b k (t.1.getD k false) hk32 wr (hs.has hk32))
          have HS2 := Lib.hid hs
          have HO2 := Lib.hid ho
          have HP2 := Lib.hid hap
          have EA2 := Lib.hid eA2
          cases hmk : t.1.getD k false with
          | true =>
            rw [hmk] at HA
            have FT2 : RowKit.Hid ((L.take (j + 1)).foldl (visit x) (m, a, q) = t) := Lib.hid (by rw [FT.out]; unfold visit; rw [hmk]; rfl)
            clear hs ho hap hro hTK FT hmk hmu hrm
            rw [eA2]
            clear eA2
            go_wp2_with (go_at_call 95; with_reducible refine HA.out.mono ?_; rintro e w4 ⟨rfl, rfl⟩)
            go_roundw
            case rel => exact ⟨j + 1, _, by omega, by go_num, rfl, by rw [FT2.out]; exact HS2.out, by rw [← EA2.out]; exact HO2.out, by rw [← EA2.out]; exact HP2.out⟩
            case measure => simp [intOf]; omega
          | false =>
            rw [hmk] at HA
            have hN := Lib.hid hmk
            have ck := hs.has hk32
            rw [hmk] at ck
            have ca := hs.ahead hk32
            have fk := hs.blk.frozen k
            have fa := hs.blk.frozen (32 + k)
            have bk : Blk (wr.setCell ⟨b, k, none⟩ (.bool true)) b ((cellsB t).set k (.bool true)).toArray 94 := hs.blk.put _
            have ba : Blk (wr.setCell ⟨b, 32 + k, none⟩ (.int .i64 x)) b ((cellsB t).set (32 + k) (.int .i64 x)).toArray 94 := hs.blk.put _
            have ck2 : (wr.setCell ⟨b, 32 + k, none⟩ (.int .i64 x)).cell? ⟨b, k, none⟩ = some (.bool false) := by
              rw [ba.cell, List.getElem?_toArray, List.getElem?_set_ne (by omega), cellsB_met hs.sound hk32, hmk]
            have fk2 := ba.frozen k
            have ca2 : (wr.setCell ⟨b, k, none⟩ (.bool true)).cell? ⟨b, 32 + k, none⟩ = some (.int .i64 (t.2.1.getD k 0 : Nat)) := by
              rw [bk.cell, List.getElem?_toArray, List.getElem?_set_ne (by omega), cellsB_ahead hs.sound hk32]
            have fa2 := bk.frozen (32 + k)
            generalize t.2.1.getD k 0 = ak at ca ca2
            have hk32i : (k : Int) < 32 := by omega
            clear hs ho hap hro hTK hmk hmu hrm bk ba
            rw [eA2]
            clear eA2
            go_wp2_with (go_at_call 95; with_reducible refine HA.out.mono ?_; rintro e w4 ⟨rfl, rfl⟩)
            go_region
            obtain ⟨W1, eW1⟩ : ∃ u, u = (w4.setCell ⟨b, k, none⟩ (.bool true)).setCell ⟨b, 32 + k, none⟩ (.int .i64 x) := ⟨_, rfl⟩
            rw [← eW1]
            have off1 : ∀ d, d ≠ b → W1.heap[d]? = w4.heap[d]? := fun d hd => by
              rw [eW1]
              exact (heap_setCell_other _ ⟨b, 32 + k, none⟩ d _ hd).trans (heap_setCell_other _ ⟨b, k, none⟩ d _ hd)
            have hz1 : W1.heap.size = w4.heap.size := by rw [eW1]; simp [World.setCell]
            have T9 := Lib.hid (show Tail W1.drew w.heap.size u6 (nums t.2.2) from HS2.out.tail.kept (fun d hd => off1 d (fun e => HS2.out.tail.ne HS2.out.blk (by decide) (by rw [hd, e]))))
            have O9 := Lib.hid (show W1.drew.ownsRow w.heap.size 3 1 (.slice A3 ll n3) ll (ints (nums L)) from own_kept HO2.out (fun d hd => off1 d (fun e => own_ne HO2.out HS2.out.blk (by decide) (by rw [hd, e]))))
            have EW1 := Lib.hid eW1
            have HZ1 := Lib.hid (show w.heap.size ≤ W1.heap.size by rw [hz1]; exact HS2.out.grown.size)
            clear eW1 off1 hz1 ck fk fa ck2 fk2 fa2 ca ca2 c2
            go_wp2_with (at_builtin; refine wpList_append_tail rfl _ _ rfl w.heap.size _ _ rfl (T9.out.kept (fun d hd => Below.heap_alloc W1.drew _ d (T9.out.lt d hd).2)) (by rw [nums_len]; omega) ⟨W1.heap.size, 0, none⟩ 1 k rfl ((Blk.new W1.drew _ _).cell 0) (by have := HZ1.out; simp; omega) ?_; intro v' w9 ht hg hf; have HT9 := Lib.hid ht; have HG9 := Lib.hid hg; have HF9 := Lib.hid hf; clear ht hg hf)
            go_roundw
            case rel =>
              refine ⟨j + 1, _, by omega, by go_num, rfl, ?_, ?_, ?_⟩
              · rw [FT.out]
                exact HS2.out.met_one hk32 hN.out EW1.out (W1' := W1.drew.alloc (.cells #[.int .i64 k] 3)) ((bdrew1 (Below.refl _ W1)).trans (B1 W1.drew _)) HT9.out HG9.out
              · rw [← EA2.out]
                exact own_kept O9.out (fun d hd => (HG9.out.block d (by have := (O9.out.lt d hd).2; simp at this ⊢; omega) (fun e => HP2.out d e.symm hd)).trans (Below.heap_alloc W1.drew _ d (O9.out.lt d hd).2))
              · rw [← EA2.out]
                intro d hd h2
                rcases HF9.out d hd with h3 | h3
                · exact HP2.out d h3 h2
                · have := (O9.out.lt d h2).2
                  simp at this h3
                  omega
            case measure => simp [intOf]; omega
        · obtain rfl : j = ll := by omega
          have hlt2 : ¬ (j : Int) < j := by omega
          have HS2 := Lib.hid hs
          clear hs ho hap
          go_wp2_with fail
          go_roundw
          case rel =>
            refine ⟨n + 1, _, rfl, ?_⟩
            have := HS2.out
            rw [ELL.out, List.take_length] at this
            rw [RN.out, PC.out]
            exact this
          case measure =>
            have h1 := HS2.out
            rw [ELL.out, List.take_length] at h1
            rw [h1.mu, MU.out]
            have h2 := VM.out.2
            have h3 := EQL.out
            simp only [muB, List.length_cons] at h2 ⊢
            omega
end Go.Proofs.YtlbjmkljmhfjdaaGreat
namespace Go.Proofs.YtlbjmkljmhfjdaaGreat
open Go Go.RowKit Go.Maps Go.Shelf
/-- Each was met from one that was met earlier, or from the first. -/
def Ranked (i : Nat) (s : Bf) : Prop := ∃ (r : Nat → Nat) (cnt : Nat), cnt + unmet s.1 = 32 ∧ ∀ k, s.1.getD k false = true → r k < cnt ∧ (s.2.1.getD k 0 = i ∨ (s.1.getD (s.2.1.getD k 0) false = true ∧ r (s.2.1.getD k 0) < r k))
theorem ahead_set {l : List Nat} {k j a : Nat} (hk : k < l.length) : (l.set k a).getD j 0 = if j = k then a else l.getD j 0 := by
  simp only [List.getD, List.getElem?_set]
  by_cases e : k = j
  · subst e; simp [hk]
  · rw [if_neg e, if_neg (fun h => e h.symm)]
theorem visit_ranked {i a k : Nat} {s : Bf} (hs : Sound s) (hk : k < 32) (ha : a = i ∨ s.1.getD a false = true) (h : Ranked i s) : Ranked i (visit a s k) := by
  unfold visit
  split
  · exact h
  · rename_i hn
    have hf : s.1.getD k false = false := by simpa using hn
    obtain ⟨r, cnt, hc, hr⟩ := h
    have hu := unmet_set (m := s.1) (k := k) (by rw [hs.met]; exact hk) hf
    have hset := fun j => met_set (m := s.1) (k := k) (j := j) (by rw [hs.met]; exact hk)
    refine ⟨fun j => if j = k then cnt else r j, cnt + 1, by show cnt + 1 + unmet (s.1.set k true) = 32; omega, fun j hj => ?_⟩
    show (if j = k then cnt else r j) < cnt + 1 ∧ ((s.2.1.set k a).getD j 0 = i ∨ ((s.1.set k true).getD ((s.2.1.set k a).getD j 0) false = true ∧ (if (s.2.1.set k a).getD j 0 = k then cnt else r ((s.2.1.set k a).getD j 0)) < if j = k then cnt else r j))
    rw [ahead_set (by rw [hs.ahead]; exact hk)]
    by_cases e : j = k
    · rw [if_pos e, if_pos e]
      refine ⟨by omega, ?_⟩
      rcases ha with h1 | h1
      · exact .inl h1
      · have hak : a ≠ k := fun e => by rw [e, hf] at h1; cases h1
        exact .inr ⟨(hset a).2 (.inr h1), by rw [if_neg hak]; exact (hr a h1).1⟩
    · rw [if_neg e, if_neg e]
      have hm : s.1.getD j false = true := ((hset j).1 hj).resolve_left e
      obtain ⟨h1, h2⟩ := hr j hm
      refine ⟨by omega, ?_⟩
      rcases h2 with h2 | ⟨h2, h3⟩
      · exact .inl h2
      · have hak : s.2.1.getD j 0 ≠ k := fun e => by rw [e, hf] at h2; cases h2
        exact .inr ⟨(hset _).2 (.inr h2), by rw [if_neg hak]; exact h3⟩
theorem visits_ranked {i a : Nat} : ∀ (l : List Nat) (s : Bf), (∀ k ∈ l, k < 32) → Sound s → (a = i ∨ s.1.getD a false = true) → Ranked i s → Ranked i (l.foldl (visit a) s)
  | [], _, _, _, _, h => h
  | k :: l, s, hl, hs, ha, h => by
    have hk := hl k (List.mem_cons_self ..)
    exact visits_ranked l (visit a s k) (fun j hj => hl j (List.mem_cons_of_mem _ hj)) (visit_sound hs) (by
      rcases ha with h1 | h1
      · exact .inl h1
      · exact .inr ((visit_met hs hk).2 (.inr h1))) (visit_ranked hs hk ha h)
theorem pop_ranked {c : Nat → List Nat} {i : Nat} (hc : ∀ a k, k ∈ c a → k < 32) {s : Bf} (hs : Sound s) (hv : Inv c i s (fun _ => False)) (h : Ranked i s) : Ranked i (popB c s) := by
  cases hq : s.2.2 with
  | nil => rw [pop_nil hq]; exact h
  | cons a q =>
    rw [pop_cons hq]
    exact visits_ranked (c a) (s.1, s.2.1, q) (hc a) ⟨hs.met, hs.ahead⟩ (hv.next a (by rw [hq]; exact List.mem_cons_self ..)) h
theorem run_ranked {c : Nat → List Nat} {i : Nat} (hc : ∀ a k, k ∈ c a → k < 32) : ∀ (n : Nat) {s : Bf}, Sound s → Inv c i s (fun _ => False) → Ranked i s → Ranked i (runB c n s)
  | 0, _, _, _, h => h
  | n + 1, _, hs, hv, h => run_ranked hc n (pop_sound hc hs).1 (pop_inv hc hs hv) (pop_ranked hc hs hv h)
theorem start_ranked (i : Nat) : Ranked i (startB i) := ⟨fun _ => 0, 0, by simp [startB, unmet], fun k h => by
  simp only [startB, List.getD, List.getElem?_replicate] at h
  split at h <;> simp at h⟩
theorem bfs_ranked {c : Nat → List Nat} (hc : ∀ a k, k ∈ c a → k < 32) (i : Nat) : Ranked i (bfs c i) := run_ranked hc fuelB (start_sound i) (start_inv c i) (start_ranked i)
/-- From one back to the first. -/
def backF (ah : List Nat) (i : Nat) : Nat → Nat → List Nat
  | 0, _ => []
  | f + 1, a => if a = i then [i] else a :: backF ah i f (ah.getD a 0)
/-- The way from the first to one. -/
def wayB (s : Bf) (i k : Nat) : List Nat := (k :: backF s.2.1 i 33 (s.2.1.getD k 0)).reverse
noncomputable def srch (g : Gr) (i : Int) : Bf := by classical exact if rightB g = true ∧ 0 ≤ i ∧ i < g.rules.length then bfs (lcal g) i.toNat else startB 0
theorem cells_start (i j : Nat) : cellsB (startB i) = cellsB (startB j) := rfl
theorem lcal_len (g : Gr) (a : Nat) : (lcal g a).length ≤ g.rules.length := rowOf_len _ _
theorem Tryz.zero_search : (cellsB (startB 0)).toArray = #[.bool false, .bool false, .bool false, .bool false, .bool false, .bool false, .bool false, .bool false, .bool false, .bool false, .bool false, .bool false, .bool false, .bool false, .bool false, .bool false, .bool false, .bool false, .bool false, .bool false, .bool false, .bool false, .bool false, .bool false, .bool false, .bool false, .bool false, .bool false, .bool false, .bool false, .bool false, .bool false,
  .int .i64 0, .int .i64 0, .int .i64 0, .int .i64 0, .int .i64 0, .int .i64 0, .int .i64 0, .int .i64 0, .int .i64 0, .int .i64 0, .int .i64 0, .int .i64 0, .int .i64 0, .int .i64 0, .int .i64 0, .int .i64 0, .int .i64 0, .int .i64 0, .int .i64 0, .int .i64 0, .int .i64 0, .int .i64 0, .int .i64 0, .int .i64 0, .int .i64 0, .int .i64 0, .int .i64 0, .int .i64 0, .int .i64 0, .int .i64 0, .int .i64 0, .int .i64 0] := by rfl
set_option maxRecDepth 100000 in
set_option maxHeartbeats 4000000 in
theorem searchFrom_yes (g : Gr) (i : Nat) (hi : i < g.rules.length) (hR : Right g) (w : World) (hg : Gr.At w g) (hin : Gr.In g) (hc : Capd g) : Calls Tryz.prog 94 #[g.val, .int .i64 i] w fun e w' =>
    ∃ b, e = .returned (.pointer (some ⟨b, 0, none⟩)) ∧ Blk w' b (cellsB (bfs (lcal g) i)).toArray 94 ∧ Below w.heap.size w w' := by
  have h32 := hR.rules.2
  have WY := Lib.hid (fun (w' : World) (b : Below w.heap.size w w') => lworkOf_any g w' (hg.below b) hin hR)
  have HG := Lib.hid hg
  have SP := Lib.hid (fun (b p nb : Nat) (w1 : World) (hb : Blk w1 b (cellsB (startB i)).toArray 94) (hC : ∀ W, w1.grownBy W (some b) → Wk W p g nb) => spread_any b i p (lcal g) (fun a k hk => Nat.lt_of_lt_of_le (lcal_lt hk) h32) g.rules.length h32 (fun a k hk => lcal_lt hk) (fun a => Nat.le_trans (lcal_len g a) h32) hi w1 hb (fun W hW a ha => bodyCalls_any (hC W hW) hR hc a ha))
  have hnl := hg.rl
  clear hg hin hR hc
  show Calls Tryz.prog 94 #[.agg #[.slice g.RA g.rules.length g.rc, .slice g.NA g.nodes.length g.nc], .int .i64 i] w _
  have h0 : ¬ (i : Int) < 0 := by omega
  have h1 : ¬ (g.rules.length : Int) ≤ i := by omega
  go_enter Tryz.func94, Tryz.ntmps94
  go_upto_region 4 with fail
  obtain ⟨w1, ew1⟩ : ∃ u, u = (w.alloc (.cells #[.slice g.RA g.rules.length g.rc, .slice g.NA g.nodes.length g.nc] 25)).alloc (.cells (cellsB (startB 0)).toArray 94) := ⟨_, rfl⟩
  have hb1 : Below w.heap.size w w1 := by rw [ew1]; exact B2 _ _ _
  have kb : Blk w1 (w.heap.size + 1) (cellsB (startB i)).toArray 94 := by
    rw [cells_start i 0, ew1]
    have := Blk.new (w.alloc (.cells #[.slice g.RA g.rules.length g.rc, .slice g.NA g.nodes.length g.nc] 25)) (cellsB (startB 0)).toArray 94
    rw [World.size_alloc] at this
    exact this
  have kg : Blk w1 w.heap.size #[.slice g.RA g.rules.length g.rc, .slice g.NA g.nodes.length g.nc] 25 := by rw [ew1]; exact (Blk.new _ _ _).alloc _
  rw [Tryz.zero_search] at ew1
  rw [← ew1]
  have q0 := kg.cell 0
  have q1 := kg.cell 1
  simp only [List.getElem?_toArray, List.getElem?_cons_zero, List.getElem?_cons_succ] at q0 q1
  have W1 := Lib.hid (WY.out w1 hb1)
  have HB1 := Lib.hid hb1
  have KB := Lib.hid kb
  clear ew1 hb1 kb kg WY
  go_wp2_with fail
  refine W1.out.mono ?_
  rintro e w2 ⟨p, nb, rfl, hW, hb2⟩
  have hk2 := KB.out.below' hb2
  have S2 := Lib.hid (SP.out (w.heap.size + 1) p nb w2 hk2 (fun W hgr => by
    have hne : ∀ {d : Nat} {vs : Array Value} {T : TypeId}, Blk w2 d vs T → T ≠ 94 → d ≠ w.heap.size + 1 := fun hd hT e => by
      subst e
      have := hd.symm.trans hk2
      simp only [Option.some.injEq, Obj.cells.injEq] at this
      exact hT this.2.1
    have key : ∀ d, d < w2.heap.size → d ≠ w.heap.size + 1 → W.heap[d]? = w2.heap[d]? := fun d hd h => hgr.block d hd (fun e => h (Option.some.inj e))
    refine ⟨(key p hW.box.lt (hne hW.box (by decide))).trans hW.box, HG.out.heap (Nat.le_trans (HB1.out.trans (hb2.mono HB1.out.size)).size hgr.size) (fun d hd => ?_), (key nb hW.row.lt (hne hW.row (by decide))).trans hW.row⟩
    have h2 := HB1.out.trans (hb2.mono HB1.out.size)
    exact (key d (Nat.lt_of_lt_of_le hd h2.size) (by omega)).trans (h2.block d hd)))
  have H2 := Lib.hid (HB1.out.trans (hb2.mono HB1.out.size))
  clear hk2 hW hb2 SP
  go_wp2_with fail
  refine S2.out.mono ?_
  rintro e w3 ⟨⟨v, rfl⟩, hk3, hg3⟩
  have K3 := Lib.hid hk3
  have G3 := Lib.hid hg3
  clear hk3 hg3
  go_wp2_with fail
  go_ret
  exact ⟨_, rfl, K3.out, grown_below H2.out H2.out.size G3.out (fun k e => by cases e; omega)⟩
set_option maxRecDepth 100000 in
set_option maxHeartbeats 4000000 in
theorem searchFrom_no (g : Gr) (i : Int) (hi : -9223372036854775808 ≤ i ∧ i < 9223372036854775808) (hno : ¬ (rightB g = true ∧ 0 ≤ i ∧ i < g.rules.length)) (w : World) (hg : Gr.At w g) (hin : Gr.In g) : Calls Tryz.prog 94 #[g.val, .int .i64 i] w fun e w' =>
    ∃ b, e = .returned (.pointer (some ⟨b, 0, none⟩)) ∧ Blk w' b (cellsB (startB 0)).toArray 94 ∧ Below w.heap.size w w' := by
  have WN := Lib.hid (fun (hR : rightB g = false) (w' : World) (b : Below w.heap.size w w') => lworkOf_no g w' (hg.below b) hin hR)
  have hnl := hg.rl
  clear hg hin
  show Calls Tryz.prog 94 #[.agg #[.slice g.RA g.rules.length g.rc, .slice g.NA g.nodes.length g.nc], .int .i64 i] w _
  by_cases h0 : i < 0
  · clear WN hno
    go_enter Tryz.func94, Tryz.ntmps94
    go_wp2_with fail
    go_ret
    rw [Tryz.zero_search]
    exact ⟨_, rfl, by have := Blk.new (w.alloc (.cells #[.slice g.RA g.rules.length g.rc, .slice g.NA g.nodes.length g.nc] 25)); rw [World.size_alloc] at this; exact this _ _, B2 _ _ _⟩
  · by_cases h1 : (g.rules.length : Int) ≤ i
    · clear WN hno
      go_enter Tryz.func94, Tryz.ntmps94
      go_wp2_with fail
      go_ret
      rw [Tryz.zero_search]
      exact ⟨_, rfl, by have := Blk.new (w.alloc (.cells #[.slice g.RA g.rules.length g.rc, .slice g.NA g.nodes.length g.nc] 25)); rw [World.size_alloc] at this; exact this _ _, B2 _ _ _⟩
    · have hr : rightB g = false := by
        cases hr : rightB g with
        | false => rfl
        | true => exact (hno ⟨hr, by omega, by omega⟩).elim
      have h1' : ¬ (g.rules.length : Int) ≤ i := h1
      have WN2 := Lib.hid (WN.out hr)
      clear WN hr hno
      go_enter Tryz.func94, Tryz.ntmps94
      go_upto_region 4 with fail
      obtain ⟨w1, ew1⟩ : ∃ u, u = (w.alloc (.cells #[.slice g.RA g.rules.length g.rc, .slice g.NA g.nodes.length g.nc] 25)).alloc (.cells (cellsB (startB 0)).toArray 94) := ⟨_, rfl⟩
      have hb1 : Below w.heap.size w w1 := by rw [ew1]; exact B2 _ _ _
      have kb : Blk w1 (w.heap.size + 1) (cellsB (startB 0)).toArray 94 := by
        rw [ew1]
        have := Blk.new (w.alloc (.cells #[.slice g.RA g.rules.length g.rc, .slice g.NA g.nodes.length g.nc] 25)) (cellsB (startB 0)).toArray 94
        rw [World.size_alloc] at this
        exact this
      have kg : Blk w1 w.heap.size #[.slice g.RA g.rules.length g.rc, .slice g.NA g.nodes.length g.nc] 25 := by rw [ew1]; exact (Blk.new _ _ _).alloc _
      rw [Tryz.zero_search] at ew1
      rw [← ew1]
      have q0 := kg.cell 0
      have q1 := kg.cell 1
      simp only [List.getElem?_toArray, List.getElem?_cons_zero, List.getElem?_cons_succ] at q0 q1
      have W1 := Lib.hid (WN2.out w1 hb1)
      have HB1 := Lib.hid hb1
      have KB := Lib.hid kb
      clear ew1 hb1 kb kg WN2
      go_wp2_with fail
      refine W1.out.mono ?_
      rintro e w2 ⟨rfl, hb2⟩
      have K2 := Lib.hid (KB.out.below' hb2)
      have H2 := Lib.hid (HB1.out.trans (hb2.mono HB1.out.size))
      clear hb2
      go_wp2_with fail
      go_ret
      exact ⟨_, rfl, K2.out, H2.out⟩
theorem searchFrom_any (g : Gr) (i : Int) (hi : -9223372036854775808 ≤ i ∧ i < 9223372036854775808) (w : World) (hg : Gr.At w g) (hin : Gr.In g) (hc : Capd g) : Calls Tryz.prog 94 #[g.val, .int .i64 i] w fun e w' =>
    ∃ b, e = .returned (.pointer (some ⟨b, 0, none⟩)) ∧ Blk w' b (cellsB (srch g i)).toArray 94 ∧ Below w.heap.size w w' := by
  by_cases h : rightB g = true ∧ 0 ≤ i ∧ i < g.rules.length
  · have e : srch g i = bfs (lcal g) i.toNat := by unfold srch; rw [if_pos h]
    rw [e]
    obtain ⟨k, rfl⟩ : ∃ k : Nat, i = k := ⟨i.toNat, by omega⟩
    exact searchFrom_yes g k (by omega) (rightB_true.1 h.1) w hg hin hc
  · have e : srch g i = startB 0 := by unfold srch; rw [if_neg h]
    rw [e]
    exact searchFrom_no g i hi h w hg hin
end Go.Proofs.YtlbjmkljmhfjdaaGreat
namespace Go.Proofs.YtlbjmkljmhfjdaaGreat
open Go Go.RowKit Go.Maps Go.Shelf
theorem own_putH {W : World} {B e g n cap k : Nat} {xs : List Value} (h : W.ownsRow B e 1 (.slice (some ⟨g, 0, none⟩) n cap) n xs) (hk : k < n) (u : Value) : (W.setCell ⟨g, k, none⟩ u).ownsRow B e 1 (.slice (some ⟨g, 0, none⟩) n cap) n (xs.set k u) := by
  have hl := h.1
  rcases h.2 with ⟨h', _⟩ | ⟨g', cap', cur, h', hb, hg, hnc, hcm, hcs, htake⟩
  · simp at h'
  · simp only [Value.slice.injEq, Option.some.injEq, Addr.mk.injEq, and_true, true_and] at h'
    obtain ⟨rfl, rfl⟩ := h'
    refine ⟨by rw [List.length_set]; exact hl, .inr ⟨g, cap, cur.setIfInBounds k u, rfl, hb, heap_setCell_same W g k cur e u hg, hnc, hcm, by simpa using hcs, ?_⟩⟩
    rw [← htake, Array.toList_setIfInBounds, List.take_set]
def revTo (xs : List Int) (k : Nat) : List Int := (List.range xs.length).map fun p => if p < k ∨ xs.length - k ≤ p then xs.getD (xs.length - 1 - p) 0 else xs.getD p 0
theorem revTo_len (xs : List Int) (k : Nat) : (revTo xs k).length = xs.length := by simp [revTo]
theorem revTo_get {xs : List Int} {k p : Nat} (h : p < (revTo xs k).length) : (revTo xs k)[p] = if p < k ∨ xs.length - k ≤ p then xs.getD (xs.length - 1 - p) 0 else xs.getD p 0 := by simp [revTo]
theorem revTo_at {xs : List Int} {k p : Nat} (h : p < xs.length) : (revTo xs k).getD p 0 = if p < k ∨ xs.length - k ≤ p then xs.getD (xs.length - 1 - p) 0 else xs.getD p 0 := by
  rw [← revTo_get (by rw [revTo_len]; exact h)]
  simp [List.getD, List.getElem?_eq_getElem (show p < (revTo xs k).length by rw [revTo_len]; exact h)]
theorem revTo_zero (xs : List Int) : revTo xs 0 = xs := by
  refine List.ext_getElem (revTo_len _ _) fun p h1 h2 => ?_
  rw [revTo_get, if_neg (by omega)]
  simp [List.getD, List.getElem?_eq_getElem h2]
theorem revTo_step {xs : List Int} {k : Nat} (h : k + 1 + k < xs.length) : ((revTo xs k).set k (xs.getD (xs.length - 1 - k) 0)).set (xs.length - 1 - k) (xs.getD k 0) = revTo xs (k + 1) := by
  refine List.ext_getElem (by simp [revTo_len]) fun p h1 h2 => ?_
  rw [revTo_len] at h2
  rw [List.getElem_set, List.getElem_set, revTo_get, revTo_get]
  by_cases e1 : xs.length - 1 - k = p
  · rw [if_pos e1, if_pos (by omega)]
    congr 1
    omega
  · rw [if_neg e1]
    by_cases e2 : k = p
    · subst e2
      rw [if_pos rfl, if_pos (by omega)]
    · rw [if_neg e2]
      by_cases h3 : p < k ∨ xs.length - k ≤ p
      · rw [if_pos h3, if_pos (by omega)]
      · rw [if_neg h3, if_neg (by omega)]
theorem revTo_end {xs : List Int} {k : Nat} (h : xs.length ≤ k + 1 + k) : revTo xs k = xs.reverse := by
  refine List.ext_getElem (by simp [revTo_len]) fun p h1 h2 => ?_
  rw [List.length_reverse] at h2
  rw [revTo_get, List.getElem_reverse]
  by_cases h3 : p < k ∨ xs.length - k ≤ p
  · rw [if_pos h3]
    simp [List.getD, List.getElem?_eq_getElem (show xs.length - 1 - p < xs.length by omega)]
  · rw [if_neg h3]
    have e : xs.length - 1 - p = p := by omega
    simp [List.getD, List.getElem?_eq_getElem h2, e]
set_option maxRecDepth 100000 in
set_option maxHeartbeats 4000000 in
theorem reverse_any (B g cap : Nat) (xs : List Int) (hx : xs.length ≤ 100000) (hx0 : 0 < xs.length) (w : World) (h : w.ownsRow B 3 1 (.slice (some ⟨g, 0, none⟩) xs.length cap) xs.length (ints xs)) :
    Calls Tryz.prog 147 #[.slice (some ⟨g, 0, none⟩) xs.length cap] w fun e w' => (∃ v, e = .returned v) ∧ w'.ownsRow B 3 1 (.slice (some ⟨g, 0, none⟩) xs.length cap) xs.length (ints xs.reverse) ∧ w.grownBy w' (some g) := by
  have H := Lib.hid h
  obtain ⟨n, en⟩ : ∃ n, n = xs.length := ⟨_, rfl⟩
  have EN := Lib.hid en
  have RS := Lib.hid (fun k h => revTo_step (xs := xs) (k := k) h)
  have RE := Lib.hid (fun k h => revTo_end (xs := xs) (k := k) h)
  have RA := Lib.hid (fun k p h => revTo_at (xs := xs) (k := k) (p := p) h)
  have RL := Lib.hid (revTo_len xs)
  have RZ := Lib.hid (revTo_zero xs)
  have hm := h
  rw [← en] at hx hx0 ⊢
  clear h en hm
  go_enter Tryz.func147, Tryz.ntmps147
  go_wp2_with fail
  go_loopw [2, 3] (fun i j wr => ∃ k : Nat, k + k ≤ n ∧ i = .int .i64 k ∧ j = .int .i64 ((n : Int) - 1 - k) ∧ wr.ownsRow B 3 1 (.slice (some ⟨g, 0, none⟩) n cap) n (ints (revTo xs k)) ∧ w.grownBy wr (some g)) (fun i _ _ => n - (intOf i).toNat)
  case atStart => exact ⟨0, by omega, rfl, by simp, by rw [RZ.out, EN.out]; exact H.out, World.grownBy.refl _ _⟩
  case round =>
    obtain ⟨k, hk, rfl, rfl, ho, hg⟩ := hrel
    by_cases hlt : k + 1 + k < n
    · have hlt2 : (k : Int) < n - 1 - k := by omega
      obtain ⟨d, ed⟩ : ∃ d : Nat, d = n - 1 - k := ⟨_, rfl⟩
      have hd : (n : Int) - 1 - k = d := by omega
      rw [hd]
      have hdn : d < n := by omega
      have hkd : k ≠ d := by omega
      have ck : wr.cell? ⟨g, k, none⟩ = some (.int .i64 (xs.getD k 0)) := by
        rw [ho.cellAt k (by omega), ints_at (by rw [RL.out k, ← EN.out]; omega), RA.out k k (by rw [← EN.out]; omega), if_neg (by have := EN.out; omega)]
      have cd : wr.cell? ⟨g, d, none⟩ = some (.int .i64 (xs.getD d 0)) := by
        rw [ho.cellAt d (by omega), ints_at (by rw [RL.out k, ← EN.out]; omega), RA.out k d (by rw [← EN.out]; omega), if_neg (by have := EN.out; omega)]
      have hs := RS.out k (by rw [← EN.out]; omega)
      rw [show xs.length - 1 - k = d by rw [← EN.out]; exact ed.symm] at hs
      have HS := Lib.hid hs
      generalize xs.getD k 0 = a at ck HS
      generalize xs.getD d 0 = b at cd HS
      have o1 := own_putH ho (show k < n by omega) (.int .i64 b)
      have o1' := own_putH ho hdn (.int .i64 a)
      have O2 := Lib.hid (own_putH o1 hdn (.int .i64 a))
      have frz : ∀ {W : World} {ys : List Value} (j : Nat), W.ownsRow B 3 1 (.slice (some ⟨g, 0, none⟩) n cap) n ys → W.frozen? ⟨g, j, none⟩ = false := fun {W ys} j ho => by
        rcases ho.2 with ⟨h', _⟩ | ⟨g', cap', cur, h', _, hgh, _⟩
        · simp at h'
        · simp only [Value.slice.injEq, Option.some.injEq, Addr.mk.injEq, and_true, true_and] at h'
          obtain ⟨rfl, rfl⟩ := h'
          exact Blk.frozen hgh j
      have fk := frz k ho
      have fd := frz d ho
      have fd2 := frz d o1
      have fk2 := frz k o1'
      have hil : (ints (revTo xs k)).length = n := by rw [ints_length, RL.out k, EN.out]
      have cd2 : (wr.setCell ⟨g, k, none⟩ (.int .i64 b)).cell? ⟨g, d, none⟩ = some (.int .i64 b) := by
        rw [o1.cellAt d (by omega), List.getElem?_set_ne hkd, ← ho.cellAt d (by omega)]; exact cd
      have ck2 : (wr.setCell ⟨g, d, none⟩ (.int .i64 a)).cell? ⟨g, k, none⟩ = some (.int .i64 a) := by
        rw [o1'.cellAt k (by omega), List.getElem?_set_ne (fun e => hkd e.symm), ← ho.cellAt k (by omega)]; exact ck
      have HG := Lib.hid (show w.grownBy ((wr.setCell ⟨g, k, none⟩ (.int .i64 b)).setCell ⟨g, d, none⟩ (.int .i64 a)).drew (some g) from by
        have g1 : ∀ (X : World) (o : Nat) (u : Value), X.grownBy (X.setCell ⟨g, o, none⟩ u) (some g) := fun X o u => by
          have hbl := Below.setCell (Below.refl g X) (p := ⟨g, o, none⟩) (Nat.le_refl _) u
          exact ⟨hbl.os, hbl.tape, hbl.output, hbl.size, fun j _ hne => Below.heap_setCell _ _ _ j (fun e => hne (by rw [show j = g from e]))⟩
        have := (hg.trans (g1 wr k (.int .i64 b))).trans (g1 _ d (.int .i64 a))
        exact ⟨this.os, this.tape, this.output, this.size, this.block⟩)
      have O3 := Lib.hid (show ((wr.setCell ⟨g, k, none⟩ (.int .i64 b)).setCell ⟨g, d, none⟩ (.int .i64 a)).drew.ownsRow B 3 1 (.slice (some ⟨g, 0, none⟩) n cap) n (ints (revTo xs (k + 1))) from by
        rw [← HS.out, ← ints_set, ← ints_set]
        exact O2.out)
      have hdk : (d : Int) - 1 = (n : Int) - 1 - ((k + 1 : Nat) : Int) := by omega
      have HDK := Lib.hid hdk
      have hlt3 : (k : Int) < d := by omega
      have hdi : (d : Int) < n := by omega
      have hki : (k : Int) < n := by omega
      clear ho hg o1 o1' frz hil hs hd hdk ed hlt2
      go_upto_region 3 with fail
      go_region
      obtain ⟨w9, ew9⟩ : ∃ u, u = ((wr.setCell ⟨g, k, none⟩ (.int .i64 b)).setCell ⟨g, d, none⟩ (.int .i64 a)).drew := ⟨_, rfl⟩
      rw [← ew9] at O3 HG ⊢
      clear ew9 ck cd fk fd fd2 fk2 cd2 ck2
      go_wp2_with fail
      go_roundw
      case rel => exact ⟨k + 1, by omega, by go_num, by rw [← HDK.out], O3.out, HG.out⟩
      case measure => simp [intOf]; omega
    · have hlt2 : ¬ (k : Int) < n - 1 - k := by omega
      have HO := Lib.hid ho
      have HG := Lib.hid hg
      clear ho hg
      go_wp2_with fail
      go_end0
      refine ⟨⟨_, rfl⟩, ?_, HG.out⟩
      rw [← RE.out k (by rw [← EN.out]; omega)]
      exact HO.out
end Go.Proofs.YtlbjmkljmhfjdaaGreat
namespace Go.Proofs.YtlbjmkljmhfjdaaGreat
open Go Go.RowKit Go.Maps Go.Shelf
theorem srch_yes {g : Gr} {i : Nat} (hR : Right g) (hi : i < g.rules.length) : srch g i = bfs (lcal g) i := by
  unfold srch; rw [if_pos ⟨rightB_true.2 hR, by omega, by omega⟩, Int.toNat_natCast]
theorem lcal32 {g : Gr} (hR : Right g) : ∀ a k, k ∈ lcal g a → k < 32 := fun a k hk => Nat.lt_of_lt_of_le (lcal_lt hk) hR.rules.2
theorem srch_sound (g : Gr) (i : Int) : Sound (srch g i) := by
  unfold srch
  split
  · rename_i h; exact bfs_sound (lcal32 (rightB_true.1 h.1)) _
  · exact start_sound 0
theorem srch_ranked (g : Gr) (i : Int) : Ranked i.toNat (srch g i) := by
  unfold srch
  split
  · rename_i h; exact bfs_ranked (lcal32 (rightB_true.1 h.1)) _
  · obtain ⟨r, cnt, h1, h2⟩ := start_ranked 0
    refine ⟨r, cnt, h1, fun k hk => ?_⟩
    simp only [startB, List.getD, List.getElem?_replicate] at hk
    split at hk <;> simp at hk
theorem srch_met_i {g : Gr} {i : Int} {k : Nat} (h : (srch g i).1.getD k false = true) : 0 ≤ i ∧ i < g.rules.length ∧ Right g := by
  unfold srch at h
  split at h
  · rename_i h1; exact ⟨h1.2.1, h1.2.2, rightB_true.1 h1.1⟩
  · simp only [startB, List.getD, List.getElem?_replicate] at h
    split at h <;> simp at h
noncomputable def toOf (g : Gr) (i : Int) : List Nat := rowOf' 32 fun k => (srch g i).1.getD k false
noncomputable def wayOf (g : Gr) (i k : Int) : List Nat := by classical exact if 0 ≤ k ∧ k < 32 ∧ (srch g i).1.getD k.toNat false = true then wayB (srch g i) i.toNat k.toNat else []
set_option maxRecDepth 100000 in
set_option maxHeartbeats 4000000 in
theorem to_any (g : Gr) (i : Int) (hi : -9223372036854775808 ≤ i ∧ i < 9223372036854775808) (w : World) (hg : Gr.At w g) (hin : Gr.In g) (hc : Capd g) : Calls Tryz.prog 25 #[g.val, .int .i64 i] w (Row w (toOf g i)) := by
  have S := Lib.hid (fun (w' : World) (b : Below w.heap.size w w') => searchFrom_any g i hi w' (hg.below b) hin hc)
  have RI := Lib.hid (fun (b : Nat) (w1 : World) (hb : Blk w1 b (cellsB (srch g i)).toArray 94) => rising_has 32 b (fun k => (srch g i).1.getD k false) (by omega) w1 (fun W hb2 k hk => by
    have hcell := (hb.below' hb2).cell k
    rw [List.getElem?_toArray, cellsB_met (srch_sound g i) hk] at hcell
    exact (has_any b k _ hk W hcell).mono fun e w' ⟨q1, q2⟩ => ⟨q1, by rw [q2]; exact Below.refl _ _⟩))
  have ET : RowKit.Hid (toOf g i = rowOf' 32 fun k => (srch g i).1.getD k false) := Lib.hid rfl
  rw [← ET.out] at RI
  generalize toOf g i = L at RI ⊢
  clear hg hin hc ET
  show Calls Tryz.prog 25 #[.agg #[.slice g.RA g.rules.length g.rc, .slice g.NA g.nodes.length g.nc], .int .i64 i] w _
  go_enter Tryz.func25, Tryz.ntmps25
  go_wp2_with fail
  refine (S.out _ (B1 _ _)).mono ?_
  rintro e w1 ⟨b, rfl, hb, hl⟩
  have HB := Lib.hid hb
  have H1 := Lib.hid (bb (B1 w _) hl)
  clear hb hl
  go_wp2_with fail
  refine (RI.out b w1 HB.out).mono ?_
  rintro e w2 ⟨⟨v, rfl, ho, hn⟩, hb⟩
  have HO := Lib.hid (own_lower ho H1.out.size)
  have HN := Lib.hid hn
  have H2 := Lib.hid (H1.out.trans (hb.mono H1.out.size))
  clear ho hn hb RI
  go_wp2_with fail
  go_ret
  exact ⟨⟨v, rfl, HO.out, HN.out⟩, H2.out⟩
theorem own_one1 (w : World) (l : List Nat) : ∀ (k : Nat), l = [k] → (w.alloc (.cells #[.int .i64 k] 3)).ownsRow w.heap.size 3 1 (.slice (some ⟨w.heap.size, 0, none⟩) 1 1) l.length (ints (nums l)) := by
  rintro k rfl
  exact ⟨rfl, .inr ⟨w.heap.size, 1, #[.int .i64 k], rfl, Nat.le_refl _, Blk.new _ _ _, Nat.le_refl _, by unfold maxLen; omega, rfl, rfl⟩⟩
theorem before_any (b k a : Nat) (hk : k < 32) (w : World) (hc : w.cell? ⟨b, 32 + k, none⟩ = some (.int .i64 a)) : Calls Tryz.prog 97 #[.pointer (some ⟨b, 0, none⟩), .int .i64 k] w fun e w' => e = .returned (.int .i64 a) ∧ w' = w := by
  have hk2 : (k : Int) < 32 := by omega
  go_enter Tryz.func97, Tryz.ntmps97
  go_wp2_with fail
  go_ret
  exact ⟨rfl, rfl⟩
theorem met_lt {s : Bf} (hs : Sound s) {k : Nat} (h : s.1.getD k false = true) : k < 32 := by
  rcases Nat.lt_or_ge k 32 with h1 | h1
  · exact h1
  · simp only [List.getD] at h
    rw [List.getElem?_eq_none (by rw [hs.met]; exact h1)] at h
    cases h
def lenV : Value → Nat
  | .slice _ n _ => n
  | _ => 0
set_option maxRecDepth 100000 in
set_option maxHeartbeats 4000000 in
theorem row_any (b i k : Nat) (s : Bf) (hs : Sound s) (hr : Ranked i s) (hi : i < 100) (hk : s.1.getD k false = true) (w : World) (hb : Blk w b (cellsB s).toArray 94) :
    Calls Tryz.prog 96 #[.int .i64 i, .int .i64 k, .func (.func 97) #[.pointer (some ⟨b, 0, none⟩)] #[]] w (Row w (wayB s i k)) := by
  obtain ⟨i0, hi0, hz0, hz1, hz2⟩ := info_parts Tryz.info3
  obtain ⟨r, cnt, hcnt, hrk⟩ := hr
  have BF := Lib.hid (fun (j : Nat) (hj : j < 32) (W : World) (hW : Below w.heap.size w W) => before_any b j (s.2.1.getD j 0) hj W (by rw [(hb.below' hW).cell, List.getElem?_toArray, cellsB_ahead hs hj]))
  have hk32 := met_lt hs hk
  have RK := Lib.hid (fun j (hj : s.1.getD j false = true) => show j < 32 ∧ r j + 1 ≤ 32 ∧ (s.2.1.getD j 0 = i ∨ (s.1.getD (s.2.1.getD j 0) false = true ∧ r (s.2.1.getD j 0) < r j)) from ⟨met_lt hs hj, by have := (hrk j hj).1; omega, (hrk j hj).2⟩)
  have HK := Lib.hid hk
  have EW : RowKit.Hid (wayB s i k = (k :: backF s.2.1 i 33 (s.2.1.getD k 0)).reverse) := Lib.hid rfl
  generalize wayB s i k = Wy at EW ⊢
  have B0 := Lib.hid (BF.out k hk32)
  have E1 := Lib.hid (RK.out k HK.out)
  obtain ⟨a0, ea0⟩ : ∃ a, a = s.2.1.getD k 0 := ⟨_, rfl⟩
  rw [← ea0] at EW E1 B0
  clear hrk hs hb hk ea0
  go_enter Tryz.func96, Tryz.ntmps96
  go_wp2_with fail
  refine (B0.out _ (B1 _ _)).mono ?_
  rintro e w1 ⟨rfl, rfl⟩
  go_wp2_with fail
  have O1 := Lib.hid (own_one1 w [k] k rfl)
  have HB1 := Lib.hid (B1 w (.cells #[.int .i64 k] 3))
  generalize hw1 : w.alloc (.cells #[.int .i64 k] 3) = w1 at O1 HB1 ⊢
  clear hw1
  go_loopw [7, 8] (fun v at_ wr => ∃ (a f : Nat) (l : List Nat), at_ = .int .i64 a ∧ l.length + f = 34 ∧ 1 ≤ f ∧ l ++ backF s.2.1 i f a = k :: backF s.2.1 i 33 a0 ∧ (a = i ∨ (s.1.getD a false = true ∧ r a + 1 < f)) ∧ wr.ownsRow w.heap.size 3 1 v l.length (ints (nums l)) ∧ l ≠ [] ∧ Below w.heap.size w wr) (fun v _ _ => 40 - lenV v)
  case atStart => exact ⟨a0, 33, [k], rfl, rfl, by omega, rfl, by
    rcases E1.out.2.2 with h | ⟨h, h2⟩
    · exact .inl h
    · exact .inr ⟨h, by have := (RK.out _ h).2.1; omega⟩, O1.out, by simp, HB1.out⟩
  case round =>
    obtain ⟨a, f, l, rfl, hlf, hf1, hbk, hor, ho, hne, hbl⟩ := hrel
    obtain ⟨A, cp, rfl, _, _⟩ := own_slice ho
    have HO := Lib.hid ho
    have HL := Lib.hid hbl
    have HNE := Lib.hid hne
    have HBK := Lib.hid hbk
    have HOR := Lib.hid hor
    obtain ⟨ll, ell⟩ : ∃ ll, ll = l.length := ⟨_, rfl⟩
    have ELL := Lib.hid ell
    rw [← ell] at HO hlf ⊢
    clear ho hbl hne hbk hor ell
    by_cases hai : a = i
    · subst hai
      have EQ := Lib.hid (show l ++ [a] = k :: backF s.2.1 a 33 a0 from by
        rw [← HBK.out]
        obtain ⟨f', rfl⟩ : ∃ f', f = f' + 1 := ⟨f - 1, by omega⟩
        simp [backF])
      clear HOR HBK
      go_wp2_with (at_builtin; refine wpList_append_own _ rfl _ _ 38 rfl w.heap.size 3 i0 (.int .i64 0) 1 8 Tryz.underlying38 hi0 hz0 hz1 hz2 rfl (by decide) _ _ _ rfl (HO.out.alloc _) ⟨wr.heap.size, 0, none⟩ 1 1 [.int .i64 a] rfl rfl (cell_one_new _ _ _) (by simp [Value.oneCell']) (by unfold maxLen; omega) (by omega) (by have := HL.out.size; simp; omega) ?_; intro v' w9 hown' hgrow hnil'; obtain ⟨g9, c9, rfl, _, _⟩ := own_shape hown' (by omega); have O9 := Lib.hid hown'; have G9 := Lib.hid hgrow; clear hown' hgrow hnil')
      have GB9 := Lib.hid (grown_below (HL.out.trans ((B1 wr (.cells #[.int .i64 a] 3)).mono HL.out.size)) (by have := HL.out.size; simp; omega) G9.out (fun j e => (HO.out.lt j e).1))
      have hln : (nums (l ++ [a])).length = ll + 1 := by rw [nums_len, List.length_append, ELL.out]; rfl
      have RV := Lib.hid (reverse_any w.heap.size g9 c9 (nums (l ++ [a])) (by rw [hln]; omega) (by rw [hln]; omega) w9 (by
        rw [hln, nums_app]
        have := O9.out
        simpa [ints] using this))
      rw [hln] at RV
      refine RV.out.mono ?_
      rintro e w10 ⟨⟨v, rfl⟩, ho, hg⟩
      have HO10 := Lib.hid ho
      have HB10 := Lib.hid (grown_below GB9.out GB9.out.size hg (fun j e => by cases e; exact (O9.out.lt g9 rfl).1))
      clear ho hg hln RV
      go_wp2_with fail
      go_ret
      have hW : Wy = (l ++ [a]).reverse := by rw [EW.out, EQ.out]
      refine ⟨⟨_, rfl, ?_, ?_⟩, HB10.out⟩
      · have := HO10.out
        rw [hW, List.length_reverse, List.length_append]
        have e : nums (l ++ [a]).reverse = (nums (l ++ [a])).reverse := by simp [nums]
        rw [e, show l.length + [a].length = ll + 1 by rw [ELL.out]; rfl]
        exact this
      · rw [hW]; simp
    · have hmet := (HOR.out.resolve_left hai)
      have hai2 : ¬ (a : Int) = i := by omega
      have RA := Lib.hid (RK.out a hmet.1)
      have HMT := Lib.hid hmet
      clear HOR hmet
      go_wp2_with (at_builtin; refine wpList_append_own _ rfl _ _ 38 rfl w.heap.size 3 i0 (.int .i64 0) 1 8 Tryz.underlying38 hi0 hz0 hz1 hz2 rfl (by decide) _ _ _ rfl (HO.out.alloc _) ⟨wr.heap.size, 0, none⟩ 1 1 [.int .i64 a] rfl rfl (cell_one_new _ _ _) (by simp [Value.oneCell']) (by unfold maxLen; omega) (by omega) (by have := HL.out.size; simp; omega) ?_; intro v' w9 hown' hgrow hnil'; obtain ⟨g9, c9, rfl, _, _⟩ := own_shape hown' (by omega); have O9 := Lib.hid hown'; have G9 := Lib.hid (grown_below (HL.out.trans ((B1 wr (.cells #[.int .i64 a] 3)).mono HL.out.size)) (by have := HL.out.size; simp; omega) hgrow (fun j e => (HO.out.lt j e).1)); clear hown' hgrow hnil')
      refine (BF.out a RA.out.1 w9 G9.out).mono ?_
      rintro e w10 ⟨rfl, rfl⟩
      go_wp2_with fail
      go_roundw
      case rel =>
        refine ⟨s.2.1.getD a 0, f - 1, l ++ [a], by simp [List.getD], by rw [List.length_append, ← ELL.out]; simp; have := HMT.out.2; omega, by have := HMT.out.2; omega, ?_, ?_, ?_, by simp, G9.out⟩
        · rw [← HBK.out]
          obtain ⟨f', rfl⟩ : ∃ f', f = f' + 1 := ⟨f - 1, by omega⟩
          simp [backF, hai]
        · rcases RA.out.2.2 with h | ⟨h, h2⟩
          · exact .inl h
          · exact .inr ⟨h, by have := HMT.out.2; omega⟩
        · rw [List.length_append, nums_app, ← ELL.out]
          have := O9.out
          simpa [ints] using this
      case measure => simp [lenV]; omega
end Go.Proofs.YtlbjmkljmhfjdaaGreat
namespace Go.Proofs.YtlbjmkljmhfjdaaGreat
open Go Go.RowKit Go.Maps Go.Shelf
theorem way_yes {g : Gr} {i k : Int} (h0 : 0 ≤ k) (h1 : k < 32) (h2 : (srch g i).1.getD k.toNat false = true) : wayOf g i k = wayB (srch g i) i.toNat k.toNat := by
  unfold wayOf; rw [if_pos ⟨h0, h1, h2⟩]
theorem way_no {g : Gr} {i k : Int} (h : ¬ (0 ≤ k ∧ k < 32 ∧ (srch g i).1.getD k.toNat false = true)) : wayOf g i k = [] := by
  unfold wayOf; rw [if_neg h]
set_option maxRecDepth 100000 in
set_option maxHeartbeats 4000000 in
theorem way_any (g : Gr) (i k : Int) (hi : -9223372036854775808 ≤ i ∧ i < 9223372036854775808) (hk : -9223372036854775808 ≤ k ∧ k < 9223372036854775808) (w : World) (hg : Gr.At w g) (hin : Gr.In g) (hc : Capd g) : Calls Tryz.prog 27 #[g.val, .int .i64 i, .int .i64 k] w (Row w (wayOf g i k)) := by
  have S := Lib.hid (fun (w' : World) (b : Below w.heap.size w w') => searchFrom_any g i hi w' (hg.below b) hin hc)
  have YES := Lib.hid (@way_yes g i k)
  have NO := Lib.hid (@way_no g i k)
  have RW := Lib.hid (fun (b : Nat) (k' : Nat) (hm : (srch g i).1.getD k' false = true) (w1 : World) (hb : Blk w1 b (cellsB (srch g i)).toArray 94) => by
    obtain ⟨q0, q1, q2⟩ := srch_met_i hm
    exact row_any b i.toNat k' (srch g i) (srch_sound g i) (srch_ranked g i) (by have := q2.rules.2; omega) hm w1 hb)
  have IT := Lib.hid (fun (k' : Nat) (hm : (srch g i).1.getD k' false = true) => show ((i.toNat : Nat) : Int) = i from by
    obtain ⟨q0, q1, q2⟩ := srch_met_i hm
    omega)
  have HC := Lib.hid (fun (b : Nat) (k' : Nat) (h : k' < 32) (w1 : World) (hb : Blk w1 b (cellsB (srch g i)).toArray 94) => has_any b k' ((srch g i).1.getD k' false) h w1 (by rw [hb.cell, List.getElem?_toArray, cellsB_met (srch_sound g i) h]))
  generalize wayOf g i k = L at YES NO ⊢
  clear hg hin hc
  show Calls Tryz.prog 27 #[.agg #[.slice g.RA g.rules.length g.rc, .slice g.NA g.nodes.length g.nc], .int .i64 i, .int .i64 k] w _
  go_enter Tryz.func27, Tryz.ntmps27
  go_upto_region 2 with fail
  refine (S.out _ (B1 _ _)).mono ?_
  rintro e w1 ⟨b, rfl, hb, hl⟩
  have HB := Lib.hid hb
  have H1 := Lib.hid (bb (B1 w _) hl)
  clear hb hl
  by_cases h0 : k < 0
  · have HL := Lib.hid (NO.out (fun h => by omega))
    clear S YES NO RW IT HC HB
    go_wp2_with fail
    go_ret
    rw [HL.out]
    exact row_nil _ _ H1.out
  · by_cases h32 : 32 ≤ k
    · have HL := Lib.hid (NO.out (fun h => by omega))
      clear S YES NO RW IT HC HB
      go_wp2_with fail
      go_ret
      rw [HL.out]
      exact row_nil _ _ H1.out
    · have hk0 : ¬ k < 0 := h0
      obtain ⟨k', rfl⟩ : ∃ k' : Nat, k = k' := ⟨k.toNat, by omega⟩
      have hk32 : k' < 32 := by omega
      have hk32i : ¬ (32 : Int) ≤ k' := h32
      have C := Lib.hid (HC.out b k' hk32 w1 HB.out)
      cases hm : (srch g i).1.getD k' false with
      | false =>
        rw [hm] at C
        have HL := Lib.hid (NO.out (fun h => by rw [Int.toNat_natCast, hm] at h; exact absurd h.2.2 (by decide)))
        clear S YES NO RW IT HC HB hm
        go_wp2_with (go_at_call 95; with_reducible refine C.out.mono ?_; rintro e w2 ⟨rfl, rfl⟩)
        go_ret
        rw [HL.out]
        exact row_nil _ _ H1.out
      | true =>
        rw [hm] at C
        have HL := Lib.hid (YES.out (by omega) (by omega) (by rw [Int.toNat_natCast]; exact hm))
        have R := Lib.hid (RW.out b k' hm w1 HB.out)
        rw [IT.out k' hm] at R
        rw [Int.toNat_natCast] at HL
        rw [← HL.out] at R
        clear S YES NO RW IT HC HB hm
        go_wp2_with (go_at_call 95; with_reducible refine C.out.mono ?_; rintro e w2 ⟨rfl, rfl⟩)
        refine R.out.mono ?_
        rintro e w3 ⟨⟨v, rfl, ho, hn⟩, hb⟩
        have HO := Lib.hid (own_lower ho H1.out.size)
        have HN := Lib.hid hn
        have H2 := Lib.hid (H1.out.trans (hb.mono H1.out.size))
        clear ho hn hb R
        go_wp2_with fail
        go_ret
        exact ⟨⟨v, rfl, HO.out, HN.out⟩, H2.out⟩
noncomputable def goesB (g : Gr) (i : Int) : Bool := decide (0 < (wayOf g i i).length)
set_option maxRecDepth 100000 in
set_option maxHeartbeats 4000000 in
theorem goes_any (g : Gr) (i : Int) (hi : -9223372036854775808 ≤ i ∧ i < 9223372036854775808) (w : World) (hg : Gr.At w g) (hin : Gr.In g) (hc : Capd g) : Calls Tryz.prog 26 #[g.val, .int .i64 i] w fun e w' => e = .returned (.bool (goesB g i)) ∧ Below w.heap.size w w' := by
  have W := Lib.hid (fun (w' : World) (b : Below w.heap.size w w') => way_any g i i hi hi w' (hg.below b) hin hc)
  have EG : RowKit.Hid (goesB g i = decide (0 < (wayOf g i i).length)) := Lib.hid rfl
  generalize goesB g i = bo at EG ⊢
  generalize wayOf g i i = L at W EG
  clear hg hin hc
  show Calls Tryz.prog 26 #[.agg #[.slice g.RA g.rules.length g.rc, .slice g.NA g.nodes.length g.nc], .int .i64 i] w _
  go_enter Tryz.func26, Tryz.ntmps26
  go_wp2_with fail
  refine (W.out _ (B1 _ _)).mono ?_
  rintro e w1 ⟨⟨v, rfl, ho, hn⟩, hb⟩
  obtain ⟨A, cp, rfl, _, _⟩ := own_slice ho
  have H1 := Lib.hid (bb (B1 w _) hb)
  clear ho hn hb
  go_wp2_with fail
  go_ret
  exact ⟨ret_bool (by rw [EG.out]), H1.out⟩
end Go.Proofs.YtlbjmkljmhfjdaaGreat

/- The rows look at themselves: the walk. -/
import Derived.Test.YtlbjmkljmhfjdaaGreatC3
import Derived.Deep.CutRange
import Derived.Test.YtlbjmkljmhfjdaaGreatE4
set_option linter.unusedSimpArgs false
set_option linter.unusedVariables false
namespace Go.Proofs.YtlbjmkljmhfjdaaGreat
open Go Go.RowKit Go.Maps
theorem Fl.lens {B T : Nat} {W : World} {lv : Value} {vs : List Value} {ms : Nat → List Int} (h : Fl B T W lv vs ms) : ∃ A c, lv = .slice A vs.length c := by
  obtain ⟨A, c, e, _, _⟩ := own_slice h.outer
  exact ⟨A, c, e⟩
theorem Gs.zero {B T : Nat} {W : World} {lv : Value} {vs : List Value} {ms : Nat → List Int} {gv : Value} {gvs : List Value} {hs : Nat → List Int} {k : Nat} (h : Gs B T W lv vs ms gv gvs hs k) : Gs B T W lv vs ms gv gvs hs 0 :=
  ⟨h.fl, h.gout, h.glen, h.gl, fun j hj => by omega, fun j _ _ hj => by omega, fun j _ _ hj => by omega⟩
theorem mark_ext (k i : Int) (hk : 0 ≤ k ∧ k ≤ 1000000) (hi : 0 ≤ i ∧ i ≤ 1000000000) (w : World) : Calls Tryz.prog 184 #[.int .i64 k, .int .i64 i] w fun e w' => e = .returned (.int .i64 (mkN k i)) ∧ Below w.heap.size w w' :=
  (mark_any k i hk hi w).mono fun e w' ⟨h1, h2⟩ => ⟨h1, by rw [← h2]; exact Below.refl _ _⟩
theorem getD_left {l m : List Int} {p : Nat} (h : p < l.length) : (l ++ m).getD p 0 = l.getD p 0 := by
  simp only [List.getD]
  rw [List.getElem?_append_left h]
theorem getD_last {l : List Int} {p : Nat} {x : Int} (h : p = l.length) : (l ++ [x]).getD p 0 = x := by
  subst h
  simp [List.getD]
theorem Tryz.info_i : (Tryz.prog.info? 3).map (fun i => (i.zero, i.size, i.bytes)) = some (some (.int .i64 0), 1, 8) := by kernel_rfl
theorem Tryz.info_s : (Tryz.prog.info? 38).map (fun i => (i.zero, i.size, i.bytes)) = some (some (.slice none 0 0), 1, 24) := by kernel_rfl
theorem make_n (n : Nat) (hn : n ≤ 1000) (W : World) : (Instr.makeSlice 38 (.int .i64 n) (.int .i64 n)).run Tryz.prog W = .ok (.slice (some ⟨W.heap.size, 0, none⟩) n n) (W.alloc (.cells (List.replicate n (Value.int .i64 0)).toArray 3)) := by
  obtain ⟨i0, hi0, hz0, hz1, hz2⟩ := info_parts Tryz.info_i
  have hr := run_make (P := Tryz.prog) W 38 3 i0 (.int .i64 0) Tryz.underlying38 hi0 hz0 .i64 .i64 (n : Int) (n : Int) (by omega) (by omega) (by rw [hz2]; omega) (by omega)
  have e : madeCells (Value.int .i64 0).cells (n * 1) = (List.replicate n (Value.int .i64 0)).toArray := by
    apply Array.ext
    · simp [madeCells]
    · intro k h1 h2
      simp [madeCells, Value.cells, Nat.mod_one]
  rw [hz1, Int.toNat_natCast, e] at hr
  exact hr
def zeros64 : List Value := List.replicate 64 (Value.int .i64 0)
theorem make64 (W : World) : (Instr.makeSlice 38 (.int .i64 64) (.int .i64 64)).run Tryz.prog W = .ok (.slice (some ⟨W.heap.size, 0, none⟩) 64 64) (W.alloc (.cells zeros64.toArray 3)) := make_n 64 (by omega) W
theorem own64 (W : World) : (W.alloc (.cells zeros64.toArray 3)).ownsRow W.heap.size 3 1 (.slice (some ⟨W.heap.size, 0, none⟩) 64 64) 64 (ints (List.replicate 64 0)) := by
  refine ⟨by simp [ints], .inr ⟨W.heap.size, 64, _, rfl, Nat.le_refl _, Blk.new _ _ _, Nat.le_refl _, by unfold maxLen; omega, by simp [zeros64], ?_⟩⟩
  unfold zeros64 ints
  rw [List.map_replicate]
  show (List.replicate 64 (Value.int .i64 0)).take (64 * 1) = _
  rw [List.take_of_length_le (by rw [List.length_replicate]; omega)]
theorem M1.drawn {B T C : Nat} {w W : World} {lv : Value} {vs : List Value} {ln : Nat → Nat} {ms : Nat → List Int} {k i : Nat} (h : M1 B T C w W lv vs ln ms k i) (hB : B ≤ w.heap.size) : M1 B T C w W.drew lv vs ln ms k i :=
  h.below (Nat.le_trans hB h.low.size) (bdrew1 (Below.refl _ _))
set_option maxRecDepth 100000 in
set_option maxHeartbeats 16000000 in
theorem Home.same {C N : Nat} {v v' : Value} (h : Home C N v) (e : v'.ownBlock = v.ownBlock) : Home C N v' := fun q hq => h q (by rw [← e]; exact hq)
set_option maxRecDepth 100000 in
set_option maxHeartbeats 16000000 in
theorem flat_any (B C : Nat) (lv : Value) (vs : List Value) (ms0 : Nat → List Int) (w : World) (hB : B ≤ w.heap.size) (h : Fl B 38 w lv vs ms0) (hn : vs.length ≤ 4096) (hl : ∀ k, k < vs.length → (ms0 k).length ≤ 100000) (hC : ∀ j q, j < vs.length → (vs.getD j undef).ownBlock = some q → q < C) :
    Calls Tryz.prog 162 #[lv] w fun e w' => e = .returned (.bool true) ∧ Lw B C w w' := by
  obtain ⟨A, c, elv⟩ := h.lens
  obtain ⟨n, en⟩ : ∃ n, n = vs.length := ⟨_, rfl⟩
  have EN := Lib.hid en
  have ELV := Lib.hid elv
  rw [← en] at elv hn hl
  have HL := Lib.hid hl
  obtain ⟨ln, eln⟩ : ∃ ln : Nat → Nat, ln = fun k => (ms0 k).length := ⟨_, rfl⟩
  have M0 := Lib.hid (show M1 B 38 C w w lv vs ln ms0 0 0 from ⟨h, fun j => by rw [eln], fun j hj => by omega, fun p hp => by omega, Lw.refl _ _ _, hC⟩)
  have HCH := Lib.hid hC
  have HLN := Lib.hid (show ∀ k, k < n → ln k ≤ 100000 from fun k hk => by rw [eln]; exact hl k hk)
  have HB := Lib.hid hB
  clear h en hl eln hB hC
  subst elv
  obtain ⟨i1, ji, jz0, jz1, jz2⟩ := info_parts Tryz.info_s
  obtain ⟨i0, hi0, hz0, hz1, hz2⟩ := info_parts Tryz.info_i
  go_enter Tryz.func162, Tryz.ntmps162
  go_wp2_with fail
  go_loopw [3] (fun ix wr => ∃ (k : Nat) (ms : Nat → List Int), k ≤ n ∧ ix = .int .i64 k ∧ M1 B 38 C w wr (.slice A n c) vs ln ms k 0) (fun ix _ => n - (RowKit.intOf ix).toNat)
  case atStart => exact ⟨0, ms0, by omega, rfl, M0.out⟩
  case round =>
    obtain ⟨k, ms, hk, rfl, hm⟩ := hrel
    have HM := Lib.hid hm
    clear hm
    by_cases hlt : k < n
    · have hlt2 : (k : Int) < n := by omega
      have HK := Lib.hid (HLN.out k hlt)
      obtain ⟨m, em⟩ : ∃ m, m = ln k := ⟨_, rfl⟩
      have EM := Lib.hid em
      rw [← em] at HK
      have hmm := HK.out
      clear em
      go_wp2_with fail
      go_loopw [4] (fun ix wr => ∃ (i : Nat) (ms : Nat → List Int), i ≤ m ∧ ix = .int .i64 i ∧ M1 B 38 C w wr (.slice A n c) vs ln ms k i) (fun ix _ => m - (RowKit.intOf ix).toNat)
      case atStart => exact ⟨0, ms, by omega, rfl, HM.out⟩
      case round =>
        obtain ⟨i, ms2, hi, rfl, hm⟩ := hrel
        have HM2 := Lib.hid hm
        obtain ⟨lb, cap0, e0, _, _, _, _⟩ := own_shape hm.fl.outer (by have := EN.out; omega)
        simp only [Value.slice.injEq] at e0
        obtain ⟨rfl, e0a, e0b⟩ := e0
        clear e0a e0b
        obtain ⟨A', c', e1, c1, hlb⟩ := hm.fl.outer_at (k := k) rfl (by have := EN.out; omega)
        rw [hm.len k, ← EM.out] at e1 c1
        by_cases hit : i < m
        · have hit2 : (i : Int) < m := by omega
          obtain ⟨g, cap, e2, hBg, hgl, ci⟩ := hm.fl.cell (k := k) (i := i) (by have := EN.out; omega) (by rw [hm.len k]; have := EM.out; omega)
          rw [hm.len k, ← EM.out] at e2
          have e3 := e1.symm.trans e2
          simp only [Value.slice.injEq, true_and] at e3
          obtain ⟨rfl, rfl⟩ := e3
          have hrow := hm.fl.rows k (by have := EN.out; omega)
          rw [hm.len k, ← EM.out, e2] at hrow
          have fk := hrow.frozenAt i
          have ST := Lib.hid (hm.next (by decide) (by have := EN.out; omega) (show i < ln k by have := EM.out; omega) (by rw [← EM.out]; exact e2) (Nat.le_trans HB.out hm.low.size))
          have MK := Lib.hid (mark_any k i (by omega) (by have := HK.out; omega))
          generalize mkN (k : Int) (i : Int) = mk at ST MK
          generalize (ms2 k).getD i 0 = old at ci
          have EKV := Lib.hid e2
          clear hm hrow e1 e2
          go_wp2_with fail
          go_upto_region 7 with fail
          go_region_with (first | (go_at_call 184; (with_reducible refine (MK.out _).mono ?_); rintro e w7 ⟨rfl, rfl⟩))
          all_goals (
            go_wp2_with fail
            go_roundw
            case rel => exact ⟨i + 1, _, by omega, by go_num, (by first | exact ST.out.drawn HB.out | exact ST.out)⟩
            case measure => simp [RowKit.intOf]; omega)
        · obtain rfl : i = m := by omega
          have hit2 : ¬ (i : Int) < i := by omega
          have HR := Lib.hid (show M1 B 38 C w wr (.slice (some ⟨lb, 0, none⟩) n c) vs ln ms2 (k + 1) 0 from (show M1 B 38 C w wr (.slice (some ⟨lb, 0, none⟩) n c) vs ln ms2 k (ln k) from by rw [← EM.out]; exact hm).row)
          clear hm e1
          go_wp2_with fail
          go_roundw
          case rel => exact ⟨k + 1, ms2, by omega, by go_num, HR.out⟩
          case measure => simp [RowKit.intOf]; omega
    · obtain rfl : k = n := by omega
      have hlt2 : ¬ (k : Int) < k := by omega
      have M2 := Lib.hid HM.out
      have hlnB := HLN.out
      clear HLN HM M0
      have hmk : ∀ W : World, (Instr.makeSlice 31 (.int .i64 k) (.int .i64 k)).run Tryz.prog W = .ok (.slice (some ⟨W.heap.size, 0, none⟩) k k) (W.alloc (.cells (List.replicate k (Value.slice none 0 0)).toArray 38)) := fun W => by
        have hr := run_make (P := Tryz.prog) W 31 38 i1 (.slice none 0 0) Tryz.underlying31 ji jz0 .i64 .i64 (k : Nat) (k : Nat) (by omega) (by omega) (by rw [jz2]; omega) (by omega)
        have e : madeCells (Value.slice none 0 0).cells (k * 1) = (List.replicate k (Value.slice none 0 0)).toArray := by
          apply Array.ext
          · simp [madeCells]
          · intro k h1 h2
            simp [madeCells, Value.cells, Nat.mod_one]
        rw [jz1, Int.toNat_natCast, e] at hr
        exact hr
      go_upto_region 8 with fail
      go_wp2_with fail
      obtain ⟨gb, egb⟩ : ∃ u, u = wr.heap.size := ⟨_, rfl⟩
      have G0 := Lib.hid (show Gs B 38 (wr.alloc (.cells (List.replicate k (Value.slice none 0 0)).toArray 38)) (.slice A k c) vs ms (.slice (some ⟨gb, 0, none⟩) k k) (List.replicate k (Value.slice none 0 0)) ms 0 from by
        have hbs : B ≤ wr.heap.size := Nat.le_trans HB.out M2.out.low.size
        refine ⟨M2.out.fl.below (B1 _ _), ?_, by rw [List.length_replicate]; exact EN.out, fun q hq e => ?_, fun j hj => by omega, fun j _ _ hj => by omega, fun j _ _ hj => by omega⟩
        · rw [List.length_replicate, egb]
          exact ⟨by simp, .inr ⟨wr.heap.size, k, _, rfl, hbs, Blk.new _ _ _, Nat.le_refl _, by unfold maxLen; omega, by simp, by simp⟩⟩
        · have hq2 : gb = q := Option.some.inj hq
          have := (M2.out.fl.outer.lt q e).2
          omega)
      have L0 := Lib.hid (show Lw B C w (wr.alloc (.cells (List.replicate k (Value.slice none 0 0)).toArray 38)) from M2.out.low.step (Nat.le_trans HB.out M2.out.low.size) (B1 _ _))
      have GBW := Lib.hid (show w.heap.size ≤ gb from by rw [egb]; exact M2.out.low.size)
      have LM := Lib.hid M2.out.len
      have DM := Lib.hid M2.out.done
      first | rw [← egb] | skip
      have er : (List.replicate k (Value.slice none 0 0)).toArray = Array.replicate k (Value.slice none 0 0) := by simp
      rw [er] at G0 L0
      generalize wr.alloc (.cells (Array.replicate k (Value.slice none 0 0)) 38) = w2 at G0 L0 ⊢
      clear hmk egb er M2
      have HLN2 := Lib.hid hlnB
      go_loopw [6] (fun ix wr => ∃ (q : Nat) (gvs : List Value) (hs : Nat → List Int), q ≤ k ∧ ix = .int .i64 q ∧ Gs B 38 wr (.slice A k c) vs ms (.slice (some ⟨gb, 0, none⟩) k k) gvs hs q ∧ (∀ j, j < q → (hs j).length = ln j + 64 ∧ ∀ p, p < ln j + 64 → (hs j).getD p 0 = mkN j p) ∧ Lw B C w wr) (fun ix _ => k - (RowKit.intOf ix).toNat)
      case atStart => exact ⟨0, _, _, by omega, rfl, G0.out, fun j hj => by omega, L0.out⟩
      case round =>
        obtain ⟨q, gvs, hs, hq, rfl, hgs, hhs, hlo⟩ := hrel
        have G1 := Lib.hid hgs
        have HS := Lib.hid hhs
        have LO := Lib.hid hlo
        clear hhs
        by_cases hqt : q < k
        · have hqt2 : (q : Int) < k := by omega
          have hqn : q < vs.length := by rw [← EN.out]; exact hqt
          have hmm := HLN2.out q hqt
          obtain ⟨m, em⟩ : ∃ m, m = ln q := ⟨_, rfl⟩
          have EM := Lib.hid em
          rw [← em] at hmm
          clear em
          obtain ⟨lb, cap0, e0, _, _, _, _⟩ := own_shape hgs.fl.outer (by omega)
          simp only [Value.slice.injEq] at e0
          obtain ⟨rfl, e0a, e0b⟩ := e0
          clear e0a e0b
          obtain ⟨A', c', e1, c1, hlb⟩ := hgs.fl.outer_at (k := q) rfl hqn
          rw [LM.out q, ← EM.out] at e1 c1
          have C1 := Lib.hid (hgs.begin hqn)
          have HQ0 := Lib.hid (show Home C w.heap.size (vs.getD q undef) from fun z e => .inl (HCH.out q z hqn e))
          rw [e1] at C1 HQ0
          have CE := Lib.hid (fun (W' : World) (lv : Gs B 38 W' (.slice (some ⟨lb, 0, none⟩) k c) vs ms (.slice (some ⟨gb, 0, none⟩) k k) gvs hs q) => show W'.cell? ⟨lb, q, none⟩ = some (.slice A' m c') from by
            obtain ⟨A2, c2, e2, d1, _⟩ := lv.fl.outer_at (k := q) rfl hqn
            rw [LM.out q, ← EM.out] at e2 d1
            have e3 := e1.symm.trans e2
            simp only [Value.slice.injEq, true_and] at e3
            obtain ⟨rfl, rfl⟩ := e3
            exact d1)
          have EV := Lib.hid e1
          clear hgs hlo e1
          go_wp2_with fail
          go_loopw [7, 8] (fun gx ix wr => ∃ (i : Nat) (l : List Int), i ≤ 64 ∧ ix = .int .i64 i ∧ Gs B 38 wr (.slice (some ⟨lb, 0, none⟩) k c) vs ms (.slice (some ⟨gb, 0, none⟩) k k) gvs hs q ∧ Cur B wr vs ms gvs q gx l ∧ l.length = m + i ∧ (∀ p, p < m + i → l.getD p 0 = mkN q p) ∧ Lw B C w wr ∧ Home C w.heap.size gx) (fun _ ix _ => 64 - (RowKit.intOf ix).toNat)
          case atStart => exact ⟨0, ms q, by omega, rfl, G1.out, C1.out, by rw [LM.out q, ← EM.out]; rfl, fun p hp => DM.out q hqt p (by rw [← EM.out]; omega), LO.out, HQ0.out⟩
          case round =>
            obtain ⟨i, l, hi, rfl, hgs, hcu, hll, hlp, hlo, hho⟩ := hrel
            have HO2 := Lib.hid hho
            clear hho
            have G2 := Lib.hid hgs
            have C2 := Lib.hid hcu
            have LP := Lib.hid hlp
            have LO2 := Lib.hid hlo
            have LL := Lib.hid hll
            have d1 := CE.out _ hgs
            clear hgs hcu hlp hlo hll c1
            by_cases hit : i < 64
            · have hit2 : (i : Int) < 64 := by omega
              have MK := Lib.hid (mark_any q (m + i) (by omega) (by omega))
              have EMK := Lib.hid (show mkN (q : Int) ((m : Int) + i) = mkN q ((m + i : Nat) : Int) from by rw [show ((m + i : Nat) : Int) = (m : Int) + i from by omega])
              obtain ⟨mk, emk⟩ : ∃ u, u = mkN (q : Int) ((m : Int) + i) := ⟨_, rfl⟩
              rw [← emk] at MK EMK
              clear emk
              go_wp2_with fail
              refine (MK.out _).mono ?_
              rintro e w16 ⟨rfl, rfl⟩
              have ll2 := LL.out
              have B16 := Lib.hid (B1 wr (.cells #[.int .i64 mk] 3))
              have C3 := Lib.hid (C2.out.below B16.out)
              have G3 := Lib.hid (G2.out.below B16.out)
              have hws : B ≤ wr.heap.size + 1 := by have := LO2.out.size; have := HB.out; omega
              clear d1
              go_wp2_with (at_builtin; refine wpList_append_view rfl _ _ 38 rfl B 3 i0 (.int .i64 0) 1 8 Tryz.underlying38 hi0 hz0 hz1 hz2 rfl (by decide) _ _ _ rfl C3.out.own ⟨wr.heap.size, 0, none⟩ 1 1 [.int .i64 mk] rfl rfl (cell_one_new _ _ _) (by simp [Value.oneCell']) (by unfold maxLen; omega) (by omega) (by simp; omega) ?_; intro g' w17 hown hview hgrow hcase; have OW := Lib.hid hown; have GW := Lib.hid hgrow; have KW := Lib.hid hcase; clear hown hview hgrow hcase)
              have AP := Lib.hid (G3.out.app (by decide) hqn C3.out (news := [mk]) (by simp) OW.out KW.out)
              have HO3 := Lib.hid (show Home C w.heap.size g' from by
                rcases KW.out with ⟨b, cap, k1, k2, _⟩ | ⟨k1, _⟩ | ⟨k1, _⟩
                · exact HO2.out.same (by rw [k2]; exact (congrArg Value.ownBlock k1).symm)
                · intro z hz; rw [k1] at hz; have h1 := Option.some.inj hz; have h2 := LO2.out.size; simp at h1; right; omega
                · omega)
              have GB := Lib.hid ((LO2.out.step (by have := LO2.out.size; have := HB.out; omega) B16.out).grown (B' := B) (by simp; omega) C3.out.own (.inl ⟨rfl, HO2.out⟩) GW.out)
              go_roundw
              case rel => exact ⟨i + 1, l ++ [mk], by omega, by go_num, AP.out.1, AP.out.2, by simp; omega, fun p hp => by
                by_cases e : p < m + i
                · rw [getD_left (by omega)]
                  exact LP.out p e
                · have ep : p = m + i := by omega
                  rw [ep, getD_last (by omega)]
                  exact EMK.out, GB.out, HO3.out⟩
              case measure => simp [RowKit.intOf]; omega
            · obtain rfl : i = 64 := by omega
              have hit2 : ¬ ((64 : Nat) : Int) < 64 := by omega
              have GO := G2.out.gout
              have hgl : gvs.length = k := by rw [G2.out.glen, EN.out]
              rw [hgl] at GO
              have ck := GO.cellAt q (by omega)
              have fk := GO.frozenAt q
              have FI := Lib.hid (G2.out.fin (by decide) hqn C2.out (gb := gb) (n := k) (cap := k) rfl)
              have FB := Lib.hid (fun u : Value => LO2.out.set (i := q) (u := u) (by have := LO2.out.size; have := HB.out; omega) GO (.inr (fun q e => by have h1 : gb = q := Option.some.inj e; have h2 := GBW.out; omega)) (g := gb) rfl)
              rw [show gvs[q]? = some (gvs.getD q undef) from by simp [List.getD, show q < gvs.length by omega]] at ck
              generalize gvs.getD q undef = old at ck
              obtain ⟨Ag, cg, eg, _, _⟩ := own_slice C2.out.own
              subst eg
              clear GO d1
              go_wp2_with fail
              go_roundw
              case rel => exact ⟨q + 1, _, _, by omega, by go_num, FI.out, fun j hj => by
                unfold updL
                by_cases e : j = q
                · subst e
                  rw [if_pos rfl, ← EM.out]
                  exact ⟨LL.out, LP.out⟩
                · rw [if_neg e]
                  exact HS.out j (by omega), FB.out _⟩
              case measure => simp [RowKit.intOf]; omega
        · obtain rfl : q = k := by omega
          have hqt2 : ¬ (q : Int) < q := by omega
          clear hgs hlo
          go_wp2_with fail
          obtain ⟨wr0, rfl⟩ : ∃ u, u = wr := ⟨_, rfl⟩
          go_loopw [9] (fun ix wr => ∃ r : Nat, r ≤ q ∧ ix = .int .i64 r ∧ Below wr0.heap.size wr0 wr) (fun ix _ => q - (RowKit.intOf ix).toNat)
          case atStart => exact ⟨0, by omega, rfl, Below.refl _ _⟩
          case round =>
            obtain ⟨r, hr, rfl, hb⟩ := hrel
            have BR := Lib.hid hb
            by_cases hrt : r < q
            · have hrt2 : (r : Int) < q := by omega
              have hrn : r < vs.length := by rw [← EN.out]; exact hrt
              have hmm := HLN2.out r hrt
              obtain ⟨hz64, hmk⟩ := HS.out r hrt
              obtain ⟨m, em⟩ : ∃ m, m = ln r := ⟨_, rfl⟩
              rw [← em] at hmm hz64 hmk
              have EM := Lib.hid em
              have G4 := Lib.hid (G1.out.below hb)
              obtain ⟨ga, gcap, eg, _, _, _, hga⟩ := own_shape (G4.out.grow r hrt) (by omega)
              rw [hz64] at eg
              have hgr := G4.out.grow r hrt
              rw [hz64, eg] at hgr
              have HGR := Lib.hid hgr
              have HMK := Lib.hid hmk
              have hgo := G4.out.gout
              have hgl : gvs.length = q := by rw [G4.out.glen, EN.out]
              rw [hgl] at hgo
              have cg := hgo.cellAt r (by omega)
              rw [show gvs[r]? = some (gvs.getD r undef) from by simp [List.getD, show r < gvs.length by omega], eg] at cg
              obtain ⟨lb, cap0, e0, _, _, _, _⟩ := own_shape G4.out.fl.outer (by omega)
              simp only [Value.slice.injEq] at e0
              obtain ⟨rfl, e0a, e0b⟩ := e0
              clear e0a e0b
              obtain ⟨A', c', e1, c1, hlb⟩ := G4.out.fl.outer_at (k := r) rfl hrn
              have hml : (ms r).length = m := by rw [LM.out r, em]
              rw [hml] at e1 c1
              have CC := Lib.hid (fun (W' : World) (b : Below wr.heap.size wr W') => (⟨(b.cell (p := ⟨gb, r, none⟩) (World.block_lt_of_cell? _ _ cg)).trans cg, (b.cell (p := ⟨lb, r, none⟩) (World.block_lt_of_cell? _ _ c1)).trans c1⟩ : W'.cell? ⟨gb, r, none⟩ = some (.slice (some ⟨ga, 0, none⟩) (m + 64) gcap) ∧ W'.cell? ⟨lb, r, none⟩ = some (.slice A' m c')))
              clear hz64 hmk hgr hgo hgl eg em hb
              go_wp2_with fail
              obtain ⟨wr1, rfl⟩ : ∃ u, u = wr := ⟨_, rfl⟩
              go_loopw [10] (fun ix wr => ∃ i : Nat, i ≤ m + 64 ∧ ix = .int .i64 i ∧ Below wr1.heap.size wr1 wr) (fun ix _ => m + 64 - (RowKit.intOf ix).toNat)
              case atStart => exact ⟨0, by omega, rfl, Below.refl _ _⟩
              case round =>
                obtain ⟨i, hi, rfl, hb⟩ := hrel
                have BI := Lib.hid hb
                obtain ⟨cg, c1⟩ := CC.out _ hb
                clear hb
                by_cases hit : i < m + 64
                · have hit2 : (i : Int) < (m : Int) + 64 := by omega
                  have ci := (own_below (own_below HGR.out (Below.refl _ _)) BI.out).cellAt i (by omega)
                  have hix : i < (hs r).length := by have := HS.out r hrt; have := EM.out; omega
                  rw [show (ints (hs r))[i]? = some (.int .i64 (mkN r i)) from by
                    have := HMK.out i hit
                    simp only [List.getD, List.getElem?_eq_getElem hix, Option.getD_some] at this
                    simp [ints, hix, this]] at ci
                  have MK := Lib.hid (fun W => mark_ext r i (by omega) (by omega) W)
                  obtain ⟨mk, emk⟩ : ∃ u, u = mkN (r : Int) i := ⟨_, rfl⟩
                  have EMK := Lib.hid emk
                  rw [← emk] at MK ci
                  clear emk
                  by_cases him : i < m
                  · have him2 : (i : Int) < m := by omega
                    obtain ⟨la, lcap, e2, _, _, cl⟩ := (G4.out.fl.below BI.out).cell (k := r) (i := i) hrn (by rw [LM.out r]; have := EM.out; omega)
                    rw [DM.out r hrt i (by have := EM.out; omega), ← EMK.out] at cl
                    rw [hml] at e2
                    have e3 := e1.symm.trans e2
                    simp only [Value.slice.injEq, true_and] at e3
                    obtain ⟨rfl, rfl⟩ := e3
                    have f1 := fun (e : Ext wr) => Ext.cell cg e
                    have f2 := fun (e : Ext wr) => Ext.cell ci e
                    have f3 := fun (e : Ext wr) => Ext.cell c1 e
                    have f4 := fun (e : Ext wr) => Ext.cell cl e
                    clear e1 e2
                    go_upto_region 24 with fail
                    clear cg ci c1 cl
                    refine wp_region_ext (by kernel_rfl) (by kernel_rfl) ?_
                    repeat (first | go_big_quiet_step (first | (go_at_call 184; exact Calls.ext_of (MK.out _))) | quiet_step (first | (go_at_call 184; exact Calls.ext_of (MK.out _))))
                    refine wpQuiet_nil ?_
                    intro w9 hw'
                    obtain ⟨⟨_, hb9⟩, rfl⟩ := hw'
                    have H9 := Lib.hid (BI.out.trans (hb9.mono BI.out.size))
                    clear hb9 f1 f2 f3 f4
                    go_wp2_with fail
                    go_roundw
                    case rel => exact ⟨i + 1, by omega, by go_num, H9.out⟩
                    case measure => simp [RowKit.intOf]; omega
                  · have him2 : ¬ (i : Int) < m := by omega
                    have f1 := fun (e : Ext wr) => Ext.cell cg e
                    have f2 := fun (e : Ext wr) => Ext.cell ci e
                    have f3 := fun (e : Ext wr) => Ext.cell c1 e
                    go_upto_region 24 with fail
                    clear cg ci c1
                    refine wp_region_ext (by kernel_rfl) (by kernel_rfl) ?_
                    repeat (first | go_big_quiet_step (first | (go_at_call 184; exact Calls.ext_of (MK.out _))) | quiet_step (first | (go_at_call 184; exact Calls.ext_of (MK.out _))))
                    refine wpQuiet_nil ?_
                    intro w9 hw'
                    obtain ⟨⟨_, hb9⟩, rfl⟩ := hw'
                    have H9 := Lib.hid (BI.out.trans (hb9.mono BI.out.size))
                    clear hb9 f1 f2 f3
                    go_wp2_with fail
                    go_roundw
                    case rel => exact ⟨i + 1, by omega, by go_num, H9.out⟩
                    case measure => simp [RowKit.intOf]; omega
                · obtain rfl : i = m + 64 := by omega
                  have hit2 : ¬ ((m + 64 : Nat) : Int) < (m : Int) + 64 := by omega
                  go_wp2_with fail
                  go_roundw
                  case rel => exact ⟨r + 1, by omega, by go_num, BR.out.trans (BI.out.mono BR.out.size)⟩
                  case measure => simp [RowKit.intOf]; omega
            · obtain rfl : r = q := by omega
              have hrt2 : ¬ (r : Int) < r := by omega
              have Z0 := Lib.hid (show Gs B 38 wr (.slice A r c) vs ms (.slice (some ⟨gb, 0, none⟩) r r) gvs hs 0 from (G1.out.below BR.out).zero)
              have LZ := Lib.hid (LO.out.step (by have := LO.out.size; have := HB.out; omega) BR.out)
              clear hb G1 LO BR HS
              go_wp2_with fail
              have hmk2 := make64
              have HMK2 := Lib.hid hmk2
              clear hmk2
              go_loopw [11] (fun ix wr => ∃ (q : Nat) (gvs : List Value) (hs : Nat → List Int), q ≤ r ∧ ix = .int .i64 q ∧ Gs B 38 wr (.slice A r c) vs ms (.slice (some ⟨gb, 0, none⟩) r r) gvs hs q ∧ (∀ j, j < q → ln j ≤ (hs j).length ∧ ∀ p, p < ln j → (hs j).getD p 0 = mkN j p) ∧ Lw B C w wr) (fun ix _ => r - (RowKit.intOf ix).toNat)
              case atStart => exact ⟨0, _, _, by omega, rfl, Z0.out, fun j hj => by omega, LZ.out⟩
              case round =>
                obtain ⟨q, gvs2, hs2, hq, rfl, hgs, hhs, hlo⟩ := hrel
                have G1 := Lib.hid hgs
                have HS := Lib.hid hhs
                have LO := Lib.hid hlo
                clear hhs
                by_cases hqt : q < r
                · have hqt2 : (q : Int) < r := by omega
                  have hqn : q < vs.length := by rw [← EN.out]; exact hqt
                  have hmk2 := HMK2.out
                  obtain ⟨wr0, rfl⟩ : ∃ u, u = wr := ⟨_, rfl⟩
                  have hnn : (q : Int) + r ≤ 10000 := by omega
                  clear hgs hlo
                  go_wp2_with fail
                  have O0 := Lib.hid (own64 wr0)
                  have LA := Lib.hid (B1 wr0 (.cells zeros64.toArray 3))
                  obtain ⟨mb, emb⟩ : ∃ u, u = wr0.heap.size := ⟨_, rfl⟩
                  rw [← emb] at O0
                  first | rw [← emb] | skip
                  have EMB := Lib.hid emb
                  clear emb hmk2
                  go_loopw [13] (fun ix wr => ∃ (i : Nat) (xs : List Int), i ≤ 64 ∧ ix = .int .i64 i ∧ xs.length = 64 ∧ wr.ownsRow mb 3 1 (.slice (some ⟨mb, 0, none⟩) 64 64) 64 (ints xs) ∧ Below wr0.heap.size wr0 wr) (fun ix _ => 64 - (RowKit.intOf ix).toNat)
                  case atStart => exact ⟨0, _, by omega, rfl, by simp, O0.out, LA.out⟩
                  case round =>
                    obtain ⟨i, xs, hi, rfl, hxl, hox, hbx⟩ := hrel
                    have OX := Lib.hid hox
                    have BX := Lib.hid hbx
                    by_cases hit : i < 64
                    · have hit2 : (i : Int) < 64 := by omega
                      have ck := hox.cellAt i (by omega)
                      rw [show (ints xs)[i]? = some (.int .i64 (xs.getD i 0)) from by simp [ints, List.getD, show i < xs.length by omega]] at ck
                      have fk := hox.frozenAt i
                      generalize xs.getD i 0 = old at ck
                      have MK := Lib.hid (mark_any ((q : Int) + r) i (by omega) (by omega))
                      generalize mkN ((q : Int) + r) i = mk at MK
                      have ST := Lib.hid (own_store (k := i) OX.out (.int .i64 mk))
                      rw [fints_set] at ST
                      have SB := Lib.hid (BX.out.setCell (p := ⟨mb, i, none⟩) (by have := EMB.out; show wr0.heap.size ≤ mb; omega) (.int .i64 mk))
                      have XL := Lib.hid hxl
                      clear hox hbx hxl
                      go_wp2_with fail
                      refine (MK.out _).mono ?_
                      rintro e w33 ⟨rfl, rfl⟩
                      go_wp2_with fail
                      go_roundw
                      case rel => exact ⟨i + 1, _, by omega, by go_num, by rw [List.length_set]; exact XL.out, ST.out, SB.out⟩
                      case measure => simp [RowKit.intOf]; omega
                    · obtain rfl : i = 64 := by omega
                      have hit2 : ¬ ((64 : Nat) : Int) < 64 := by omega
                      have G5 := Lib.hid (G1.out.below hbx)
                      have C5 := Lib.hid (G5.out.begin hqn)
                      have HQ5 := Lib.hid (show Home C w.heap.size (vs.getD q undef) from fun z e => .inl (HCH.out q z hqn e))
                      have hmm := HLN2.out q hqt
                      rw [← LM.out q] at hmm
                      obtain ⟨lb, cap0, e0, _, _, _, _⟩ := own_shape G5.out.fl.outer (by omega)
                      simp only [Value.slice.injEq] at e0
                      obtain ⟨rfl, e0a, e0b⟩ := e0
                      clear e0a e0b
                      obtain ⟨A', c', e1, c1, hlb⟩ := G5.out.fl.outer_at (k := q) rfl hqn
                      rw [e1] at C5 HQ5
                      have hwb : B ≤ wr.heap.size := by have := (LO.out.step (by have := LO.out.size; have := HB.out; omega) BX.out).size; have := HB.out; omega
                      have XL := Lib.hid hxl
                      have ONE := Lib.hid (show ∀ u ∈ ints xs, u.oneCell' = true from fun u hu => by obtain ⟨x, _, rfl⟩ := List.mem_map.1 hu; rfl)
                      have NL := Lib.hid (show (ints xs).length = 64 * 1 from by simp [ints, hxl])
                      have GOK := Lib.hid (fun (W' : World) (h : Gs B 38 W' (.slice (some ⟨lb, 0, none⟩) r c) vs ms (.slice (some ⟨gb, 0, none⟩) r r) gvs2 hs2 q) => show (W'.cell? ⟨gb, q, none⟩ = some (gvs2.getD q undef)) ∧ B ≤ gb ∧ W'.frozen? ⟨gb, q, none⟩ = false from by
                        have hgl : gvs2.length = r := by rw [h.glen, EN.out]
                        have hgo := h.gout
                        rw [hgl] at hgo
                        refine ⟨?_, (hgo.lt gb rfl).1, hgo.frozenAt q⟩
                        rw [hgo.cellAt q (by omega)]
                        simp [List.getD, show q < gvs2.length by omega])
                      obtain ⟨old, eold⟩ : ∃ u, u = gvs2.getD q undef := ⟨_, rfl⟩
                      rw [← eold] at GOK
                      clear hox hbx hxl e1 eold
                      go_wp2_with (at_builtin; refine wpList_append_view rfl _ _ 38 rfl B 3 i0 (.int .i64 0) 1 8 Tryz.underlying38 hi0 hz0 hz1 hz2 rfl (by decide) _ _ _ rfl C5.out.own ⟨mb, 0, none⟩ 64 64 (ints xs) rfl NL.out (OX.out.cells (g := mb) rfl) ONE.out (by unfold maxLen; omega) (by omega) hwb ?_; intro g' w34 hown hview hgrow hcase; obtain ⟨Ag, cg, eg, _, _⟩ := own_slice hown; subst eg; have AP := Lib.hid (G5.out.app (by decide) hqn C5.out (news := xs) (by have := XL.out; omega) (by rw [XL.out]; exact hown) (by rw [XL.out]; exact hcase)); obtain ⟨ck, hgb, fk⟩ := GOK.out _ AP.out.1; have GW := Lib.hid hgrow; clear hown hview hgrow hcase)
                      have FI := Lib.hid (AP.out.1.fin (by decide) hqn AP.out.2 (gb := gb) (n := r) (cap := r) rfl)
                      have FB := Lib.hid (((LO.out.step (by have := LO.out.size; have := HB.out; omega) BX.out).grown (B' := B) hwb C5.out.own (.inl ⟨rfl, HQ5.out⟩) GW.out).set (i := q) (u := .slice Ag ((ms q).length + 64) cg) (by have := GW.out.size; omega) AP.out.1.gout (.inr (fun q e => by have h1 : gb = q := Option.some.inj e; have h2 := GBW.out; omega)) (g := gb) rfl)
                      go_roundw
                      case rel => exact ⟨q + 1, _, _, by omega, by go_num, FI.out, fun j hj => by
                        unfold updL
                        by_cases e : j = q
                        · subst e
                          rw [if_pos rfl]
                          refine ⟨by rw [List.length_append, LM.out j]; omega, fun p hp => ?_⟩
                          rw [getD_left (by rw [LM.out j]; exact hp)]
                          exact DM.out j hqt p hp
                        · rw [if_neg e]
                          exact HS.out j (by omega), FB.out⟩
                      case measure => simp [RowKit.intOf]; omega
                · obtain rfl : q = r := by omega
                  have hqt2 : ¬ (q : Int) < q := by omega
                  clear hgs hlo
                  go_wp2_with fail
                  obtain ⟨wr0, rfl⟩ : ∃ u, u = wr := ⟨_, rfl⟩
                  go_loopw [14] (fun ix wr => ∃ r : Nat, r ≤ q ∧ ix = .int .i64 r ∧ Below wr0.heap.size wr0 wr) (fun ix _ => q - (RowKit.intOf ix).toNat)
                  case atStart => exact ⟨0, by omega, rfl, Below.refl _ _⟩
                  case round =>
                    obtain ⟨r, hr, rfl, hb⟩ := hrel
                    have BR := Lib.hid hb
                    by_cases hrt : r < q
                    · have hrt2 : (r : Int) < q := by omega
                      have hrn : r < vs.length := by rw [← EN.out]; exact hrt
                      have hmm := HLN2.out r hrt
                      obtain ⟨hzl, hmk⟩ := HS.out r hrt
                      obtain ⟨m, em⟩ : ∃ m, m = ln r := ⟨_, rfl⟩
                      rw [← em] at hmm hzl hmk
                      have EM := Lib.hid em
                      have G4 := Lib.hid (G1.out.below hb)
                      obtain ⟨Ag, gcap, eg, _, _⟩ := own_slice (G4.out.grow r hrt)
                      obtain ⟨hl, ehl⟩ : ∃ u, u = (hs2 r).length := ⟨_, rfl⟩
                      have HGR := Lib.hid (G4.out.grow r hrt)
                      rw [eg, ← ehl] at HGR
                      rw [← ehl] at hzl eg
                      have HMK := Lib.hid hmk
                      have HLE := Lib.hid ehl
                      have hgo := G4.out.gout
                      have hgl : gvs2.length = q := by rw [G4.out.glen, EN.out]
                      rw [hgl] at hgo
                      have cg := hgo.cellAt r (by omega)
                      rw [show gvs2[r]? = some (gvs2.getD r undef) from by simp [List.getD, show r < gvs2.length by omega], eg] at cg
                      obtain ⟨lb, cap0, e0, _, _, _, _⟩ := own_shape G4.out.fl.outer (by omega)
                      simp only [Value.slice.injEq] at e0
                      obtain ⟨rfl, e0a, e0b⟩ := e0
                      clear e0a e0b
                      obtain ⟨A', c', e1, c1, hlb⟩ := G4.out.fl.outer_at (k := r) rfl hrn
                      have hml : (ms r).length = m := by rw [LM.out r, em]
                      rw [hml] at e1 c1
                      have CC := Lib.hid (fun (W' : World) (b : Below wr.heap.size wr W') => (⟨(b.cell (p := ⟨gb, r, none⟩) (World.block_lt_of_cell? _ _ cg)).trans cg, (b.cell (p := ⟨lb, r, none⟩) (World.block_lt_of_cell? _ _ c1)).trans c1⟩ : W'.cell? ⟨gb, r, none⟩ = some (.slice Ag hl gcap) ∧ W'.cell? ⟨lb, r, none⟩ = some (.slice A' m c')))
                      clear hmk hgo hgl eg em hb ehl
                      go_wp2_with fail
                      obtain ⟨wr1, rfl⟩ : ∃ u, u = wr := ⟨_, rfl⟩
                      go_loopw [15] (fun ix wr => ∃ i : Nat, i ≤ m ∧ ix = .int .i64 i ∧ Below wr1.heap.size wr1 wr) (fun ix _ => m - (RowKit.intOf ix).toNat)
                      case atStart => exact ⟨0, by omega, rfl, Below.refl _ _⟩
                      case round =>
                        obtain ⟨i, hi, rfl, hb⟩ := hrel
                        have BI := Lib.hid hb
                        obtain ⟨cg, c1⟩ := CC.out _ hb
                        clear hb
                        by_cases hit : i < m
                        · have hit2 : (i : Int) < m := by omega
                          have hilt : i < hl := by omega
                          have hih : (i : Int) < hl := by omega
                          obtain ⟨ga, gcap2, eg2, _, _, _, hga⟩ := own_shape HGR.out (by omega)
                          simp only [Value.slice.injEq, true_and] at eg2
                          obtain ⟨rfl, rfl⟩ := eg2
                          have ci := (own_below HGR.out BI.out).cellAt i (by omega)
                          rw [show (ints (hs2 r))[i]? = some (.int .i64 (mkN r i)) from by
                            have := HMK.out i hit
                            have hx : i < (hs2 r).length := by have := HLE.out; omega
                            simp only [List.getD, List.getElem?_eq_getElem hx, Option.getD_some] at this
                            simp [ints, hx, this]] at ci
                          obtain ⟨la, lcap, e2, _, _, cl⟩ := (G4.out.fl.below BI.out).cell (k := r) (i := i) hrn (by rw [LM.out r]; have := EM.out; omega)
                          rw [DM.out r hrt i (by have := EM.out; omega)] at cl
                          have MK := Lib.hid (fun W => mark_ext r i (by omega) (by omega) W)
                          generalize mkN (r : Int) i = mk at MK ci cl
                          rw [hml] at e2
                          have e3 := e1.symm.trans e2
                          simp only [Value.slice.injEq, true_and] at e3
                          obtain ⟨rfl, rfl⟩ := e3
                          have f1 := fun (e : Ext wr) => Ext.cell cg e
                          have f2 := fun (e : Ext wr) => Ext.cell ci e
                          have f3 := fun (e : Ext wr) => Ext.cell c1 e
                          have f4 := fun (e : Ext wr) => Ext.cell cl e
                          clear e1 e2
                          go_upto_region 41 with fail
                          clear cg ci c1 cl
                          refine wp_region_ext (by kernel_rfl) (by kernel_rfl) ?_
                          repeat (first | go_big_quiet_step (first | (go_at_call 184; exact Calls.ext_of (MK.out _))) | quiet_step (first | (go_at_call 184; exact Calls.ext_of (MK.out _))))
                          refine wpQuiet_nil ?_
                          intro w9 hw'
                          obtain ⟨⟨_, hb9⟩, rfl⟩ := hw'
                          have H9 := Lib.hid (BI.out.trans (hb9.mono BI.out.size))
                          clear hb9 f1 f2 f3 f4
                          go_wp2_with fail
                          go_roundw
                          case rel => exact ⟨i + 1, by omega, by go_num, H9.out⟩
                          case measure => simp [RowKit.intOf]; omega
                        · obtain rfl : i = m := by omega
                          have hit2 : ¬ (i : Int) < i := by omega
                          go_wp2_with fail
                          go_roundw
                          case rel => exact ⟨r + 1, by omega, by go_num, BR.out.trans (BI.out.mono BR.out.size)⟩
                          case measure => simp [RowKit.intOf]; omega
                    · obtain rfl : r = q := by omega
                      have hrt2 : ¬ (r : Int) < r := by omega
                      have FIN := Lib.hid (LO.out.step (by have := LO.out.size; have := HB.out; omega) BR.out)
                      clear hb
                      go_wp2_with fail
                      go_ret
                      exact ⟨rfl, FIN.out⟩
end Go.Proofs.YtlbjmkljmhfjdaaGreat
namespace Go.Proofs.YtlbjmkljmhfjdaaGreat
open Go Go.Proofs Go.RowKit Go.Lib Go.Maps
/-- In the midst of a round: the rules before i have been seen to. -/
def mix (g : Gr) (k i : Nat) : List Int := (rk g (k + 1)).take i ++ (rk g k).drop i
theorem mix_len (g : Gr) (k i : Nat) (hi : i ≤ g.rules.length) : (mix g k i).length = g.rules.length := by
  unfold mix
  rw [List.length_append, List.length_take, List.length_drop, rk_length, rk_length]
  omega
theorem mix_zero (g : Gr) (k : Nat) : mix g k 0 = rk g k := by simp [mix]
theorem mix_all (g : Gr) (k : Nat) : mix g k g.rules.length = rk g (k + 1) := by
  unfold mix
  rw [List.take_of_length_le (by rw [rk_length]; omega), List.drop_of_length_le (by rw [rk_length]; omega), List.append_nil]
theorem mix_at (g : Gr) (k i j : Nat) (hi : i ≤ g.rules.length) : (mix g k i).getD j 0 = if j < i then (rk g (k + 1)).getD j 0 else (rk g k).getD j 0 := by
  unfold mix
  have hl : ((rk g (k + 1)).take i).length = i := by rw [List.length_take, rk_length]; omega
  by_cases h : j < i
  · rw [if_pos h, List.getD, List.getElem?_append_left (by rw [hl]; exact h), List.getElem?_take, if_pos h]
    rfl
  · rw [if_neg h, List.getD, List.getElem?_append_right (by rw [hl]; omega), hl, List.getElem?_drop, show i + (j - i) = j by omega]
    rfl
theorem mix_low (g : Gr) (k i : Nat) (hi : i ≤ g.rules.length) : lowB (mix g k i) ((k : Int) + 1) = inB (rk g k) := by
  funext r
  unfold lowB inB
  rw [mix_at g k i r.toNat hi]
  generalize r.toNat = j
  have hb := rk_bound g k j
  by_cases h : j < i
  · rw [if_pos h, rk_next g k j (by omega)]
    split
    · rename_i hc
      have h0 : inB (rk g k) j = false := by
        unfold comB at hc
        simp only [Bool.and_eq_true, Bool.not_eq_true'] at hc
        exact hc.1
      unfold inB at h0
      rw [Int.toNat_natCast] at h0
      rw [h0, decide_eq_false (show ¬ (k : Int) + 1 < k + 1 by omega), Bool.and_false]
    · rw [decide_eq_true (show (rk g k).getD j 0 < (k : Int) + 1 by omega), Bool.and_true]
  · rw [if_neg h, decide_eq_true (show (rk g k).getD j 0 < (k : Int) + 1 by omega), Bool.and_true]
theorem mix_here (g : Gr) (k i : Nat) (hi : i < g.rules.length) : (mix g k i).getD i 0 = (rk g k).getD i 0 := by
  rw [mix_at g k i i (by omega), if_neg (by omega)]
theorem mix_set (g : Gr) (k i : Nat) (hi : i < g.rules.length) : (mix g k i).set i ((rk g (k + 1)).getD i 0) = mix g k (i + 1) := by
  apply ext_getD
  · rw [List.length_set, mix_len g k i (by omega), mix_len g k (i + 1) (by omega)]
  · intro j hj
    rw [List.length_set, mix_len g k i (by omega)] at hj
    rw [mix_at g k (i + 1) j (by omega)]
    by_cases e : j = i
    · subst e
      rw [if_pos (by omega), List.getD, List.getElem?_set_self (by rw [mix_len g k j (by omega)]; omega)]
      rfl
    · rw [List.getD, List.getElem?_set_ne (by omega)]
      have := mix_at g k i j (by omega)
      rw [List.getD] at this
      rw [this]
      by_cases h : j < i
      · rw [if_pos h, if_pos (by omega)]
      · rw [if_neg h, if_neg (by omega)]
theorem mix_stay (g : Gr) (k i : Nat) (hi : i < g.rules.length) (h : (rk g (k + 1)).getD i 0 = (rk g k).getD i 0) : mix g k (i + 1) = mix g k i := by
  rw [← mix_set g k i hi, h, ← mix_here g k i hi]
  apply ext_getD
  · rw [List.length_set]
  · intro j hj
    rw [List.length_set] at hj
    by_cases e : j = i
    · subst e
      rw [List.getD, List.getElem?_set_self hj]
      rfl
    · rw [List.getD, List.getElem?_set_ne (by omega)]
      rfl
theorem own_zeros (w : World) (n : Nat) (hn : n ≤ 1000) : (w.alloc (.cells (List.replicate n (Value.int .i64 0)).toArray 3)).ownsRow w.heap.size 3 1 (.slice (some ⟨w.heap.size, 0, none⟩) n n) n (List.replicate n (Value.int .i64 0)) :=
  ⟨by simp, .inr ⟨w.heap.size, n, _, rfl, Nat.le_refl _, Blk.new _ _ _, Nat.le_refl _, by unfold maxLen; omega, by simp, by simp⟩⟩
theorem ints_zeros (n : Nat) : ints (List.replicate n 0) = List.replicate n (Value.int .i64 0) := by simp [ints]
structure Rnk (w wr : World) (g : Gr) (r : List Int) : Prop where
  row : wr.ownsRow (w.heap.size + 1) 3 1 (.slice (some ⟨w.heap.size + 1, 0, none⟩) g.rules.length g.rules.length) g.rules.length (ints r)
  box : Blk wr w.heap.size #[.slice g.RA g.rules.length g.rc, .slice g.NA g.nodes.length g.nc] 25
  low : Below w.heap.size w wr
theorem Rnk.below {w wr wr' : World} {g : Gr} {r : List Int} (h : Rnk w wr g r) (hb : Below wr.heap.size wr wr') : Rnk w wr' g r :=
  ⟨own_below h.row hb, h.box.below' hb, h.low.trans (hb.mono h.low.size)⟩
theorem Rnk.set {w wr : World} {g : Gr} {r : List Int} (h : Rnk w wr g r) (i : Nat) (v : Int) : Rnk w (wr.setCell ⟨w.heap.size + 1, i, none⟩ (.int .i64 v)) g (r.set i v) := by
  obtain ⟨s1, s2⟩ := h.row.stored i (.int .i64 v)
  refine ⟨?_, h.box.grown s2 (by intro e; have := Option.some.inj e; omega), h.low.setCell (p := ⟨w.heap.size + 1, i, none⟩) (by show w.heap.size ≤ w.heap.size + 1; omega) _⟩
  have : ints (r.set i v) = (ints r).set i (.int .i64 v) := by simp [ints, List.map_set]
  rw [this]
  exact s1
def RankE (w : World) (B : Nat) (g : Gr) (e : Ending) : Prop := ∃ b, e = .returned (.slice (some ⟨b, 0, none⟩) g.rules.length g.rules.length) ∧ w.ownsRow B 3 1 (.slice (some ⟨b, 0, none⟩) g.rules.length g.rules.length) g.rules.length (ints (ranks g))
set_option maxRecDepth 100000 in
set_option maxHeartbeats 8000000 in
theorem refRanks_any (g : Gr) (hR : Right g) (w : World) (hg : Gr.At w g) :
    Calls Tryz.prog 106 #[g.val] w fun e w' => RankE w' w.heap.size g e ∧ Below w.heap.size w w' := by
  have MY := Lib.hid (fun W (eg : Below w.heap.size w W) A ra r (hr : g.rules.length = r.length) b n (hn : n < g.nodes.length) (hA : Lies W A (ints r)) => refMay_any g hR A ra r hr b g.nodes.length n hn (by omega) W (hg.below eg) hA)
  have HB := Lib.hid (fun i (hi : i < g.rules.length) => hR.body i hi)
  have RU := Lib.hid (fun W (eg : Below w.heap.size w W) i (hi : i < g.rules.length) => (hg.below eg).rules.two hi)
  have hm := hR.rules.2
  have HN := Lib.hid (fun k i (hi : i < g.rules.length) => rk_next g k i hi)
  have hmk := make_n g.rules.length (by omega)
  have NL := Lib.hid (show g.nodes.length ≤ 2048 from hR.nodes)
  clear hR hg
  show Calls Tryz.prog 106 #[.agg #[.slice g.RA g.rules.length g.rc, .slice g.NA g.nodes.length g.nc]] w _
  obtain ⟨m, em⟩ : ∃ m, m = g.rules.length := ⟨_, rfl⟩
  rw [← em] at hm hmk ⊢
  have EM := Lib.hid em
  clear em
  go_enter Tryz.func106, Tryz.ntmps106
  go_wp2_with fail
  have hst : Rnk w ((w.alloc (.cells #[.slice g.RA m g.rc, .slice g.NA g.nodes.length g.nc] 25)).alloc (.cells (List.replicate m (Value.int .i64 0)).toArray 3)) g (rk g 0) := by
    have o := own_zeros (w.alloc (.cells #[.slice g.RA m g.rc, .slice g.NA g.nodes.length g.nc] 25)) m (by omega)
    rw [World.size_alloc] at o
    refine ⟨?_, ?_, B2 _ _ _⟩
    · rw [← EM.out]
      show _ = _ ∧ _
      rw [show rk g 0 = List.replicate m 0 by rw [rk, EM.out], ints_zeros]
      exact o
    · rw [← EM.out]; exact (Blk.new _ _ _).alloc _
  have ST := Lib.hid hst
  clear hst hmk
  go_loopw [4] (fun iv wr => ∃ k : Nat, k ≤ m ∧ iv = .int .i64 ((k : Int) + 1) ∧ Rnk w wr g (rk g k)) (fun iv _ => m + 1 - (RowKit.intOf iv).toNat)
  case atStart => exact ⟨0, by omega, rfl, ST.out⟩
  case round =>
    clear ST
    obtain ⟨k, hk, rfl, hr⟩ := hrel
    have HR := Lib.hid hr
    have g0 := hr.box.cell 0
    have g1 := hr.box.cell 1
    simp only [List.getElem?_toArray, List.getElem?_cons_zero, List.getElem?_cons_succ] at g0 g1
    rw [← EM.out] at g0
    clear hr
    by_cases hlt : k < m
    · have hlt2 : ((k : Int) + 1) ≤ m := by omega
      go_wp2_with fail
      clear g0 g1
      go_loopw [5] (fun iv W => ∃ i : Nat, i ≤ m ∧ iv = .int .i64 i ∧ Rnk w W g (mix g k i)) (fun iv _ => m - (RowKit.intOf iv).toNat)
      case atStart => exact ⟨0, by omega, rfl, by rw [mix_zero]; exact HR.out⟩
      case round =>
        clear HR
        obtain ⟨i, hi, rfl, hr⟩ := hrel
        have HR := Lib.hid hr
        have g0 := hr.box.cell 0
        have g1 := hr.box.cell 1
        simp only [List.getElem?_toArray, List.getElem?_cons_zero, List.getElem?_cons_succ] at g0 g1
        rw [← EM.out] at g0
        clear hr
        by_cases hli : i < m
        · have hli2 : (i : Int) < m := by omega
          obtain ⟨b2, o2, eA, _, cn, cb⟩ := RU.out wr HR.out.low i (by rw [← EM.out]; exact hli)
          obtain ⟨hb0, hb1⟩ := HB.out i (by rw [← EM.out]; exact hli)
          obtain ⟨q, hq⟩ : ∃ q : Nat, (g.rules.getD i Rl.zero).body = q := ⟨(g.rules.getD i Rl.zero).body.toNat, by omega⟩
          have CB := Lib.hid (show comB g (rk g k) i = (!inB (rk g k) i && mayN g.nodes (inB (rk g k)) (g.rules.getD i Rl.zero).body) from rfl)
          have NX := Lib.hid (HN.out k i (by rw [← EM.out]; exact hli))
          rw [hq] at cb CB hb0 hb1
          have rw0 := HR.out.row.cellAt i (by rw [← EM.out]; omega)
          have ml := mix_len g k i (by rw [← EM.out]; omega)
          rw [ints_at (by rw [ml, ← EM.out]; exact hli), mix_here g k i (by rw [← EM.out]; exact hli)] at rw0
          have lb : lowB (mix g k i) ((k : Int) + 1) = inB (rk g k) := by
            rw [mix_low g k i (by rw [← EM.out]; omega)]
          have T0 := fun W2 (eg : Below wr.heap.size wr W2) => MY.out W2 (HR.out.low.trans (eg.mono HR.out.low.size)) (some ⟨w.heap.size + 1, 0, none⟩) m (mix g k i) ml.symm ((k : Int) + 1) q (by omega) (own_lies1 (own_below HR.out.row eg))
          rw [lb, ← EM.out] at T0
          have T1 : ∀ W2 (eg : Below wr.heap.size wr W2), Calls Tryz.prog 141 #[.agg #[.slice g.RA m g.rc, .slice g.NA g.nodes.length g.nc], .int .i64 q, .slice (some ⟨w.heap.size + 1, 0, none⟩) m m, .int .i64 ((k : Int) + 1)] W2 fun e w' => e = .returned (.bool (mayN g.nodes (inB (rk g k)) q)) ∧ Below W2.heap.size W2 w' := fun W2 eg => by
            have := T0 W2 eg
            unfold Gr.val at this
            rw [← EM.out] at this
            exact this
          clear T0
          have IN := Lib.hid (show inB (rk g k) i = decide (0 < (rk g k).getD i 0) by unfold inB; rw [Int.toNat_natCast])
          have MS := Lib.hid (mix_set g k i (by rw [← EM.out]; exact hli))
          have MT := Lib.hid (mix_stay g k i (by rw [← EM.out]; exact hli))
          have fz := HR.out.row.frozenAt i
          have hv0 := (rk_bound g k i).1
          generalize mayN g.nodes (inB (rk g k)) (q : Int) = mv at T1 CB
          rw [eA] at T1 g0
          generalize hv : (rk g k).getD i 0 = v at *
          have T := Lib.hid T1
          clear T1 eA hq hb0 hb1 ml lb
          have f0 := fun (e : Ext wr) => Ext.cell g0 e
          have f1 := fun (e : Ext wr) => Ext.cell g1 e
          have f2 := fun (e : Ext wr) => Ext.cell rw0 e
          have f3 := fun (e : Ext wr) => Ext.cell cb e
          by_cases v0 : v = 0
          · subst v0
            cases mv with
            | true =>
              have N1 : (rk g (k + 1)).getD i 0 = (k : Int) + 1 := by rw [NX.out, if_pos (by rw [CB.out, IN.out]; rfl)]
              have N2 := Lib.hid N1
              clear N1 hv0 hv
              go_wp2_with fail
              refine wp_region_ext (by kernel_rfl) (by kernel_rfl) ?_
              repeat (first | go_big_quiet_step ((go_at_call 141; exact Calls.ext_of (T.out _ (Ext.grown _)))) | quiet_step ((go_at_call 141; exact Calls.ext_of (T.out _ (Ext.grown _)))))
              refine wpQuiet_nil ?_
              intro w13 hw'
              obtain ⟨⟨_, hb13⟩, rfl⟩ := hw'
              have HR1 := Lib.hid (HR.out.below hb13)
              clear hb13 f0 f1 f2 f3 g0 g1 rw0 cb cn
              have rw1 := HR1.out.row.cellAt i (by rw [← EM.out]; omega)
              rw [ints_at (by rw [mix_len g k i (by rw [← EM.out]; omega), ← EM.out]; exact hli)] at rw1
              generalize (mix g k i).getD i 0 = v9 at rw1
              have fz1 := HR1.out.row.frozenAt i
              clear fz
              go_wp2_with fail
              go_roundw
              case rel => exact ⟨i + 1, by omega, by go_num, by
                have := HR1.out.set i ((rk g (k + 1)).getD i 0)
                rw [MS.out, N2.out] at this
                exact this⟩
              case measure => simp [RowKit.intOf]; omega
            | false =>
              have N1 : (rk g (k + 1)).getD i 0 = 0 := by rw [NX.out, if_neg (by rw [CB.out, IN.out]; simp)]
              have N2 := Lib.hid N1
              clear N1 hv0 hv fz
              go_wp2_with fail
              refine wp_region_ext (by kernel_rfl) (by kernel_rfl) ?_
              repeat (first | go_big_quiet_step ((go_at_call 141; exact Calls.ext_of (T.out _ (Ext.grown _)))) | quiet_step ((go_at_call 141; exact Calls.ext_of (T.out _ (Ext.grown _)))))
              refine wpQuiet_nil ?_
              intro w13 hw'
              obtain ⟨⟨_, hb13⟩, rfl⟩ := hw'
              have HR1 := Lib.hid (HR.out.below hb13)
              clear hb13 f0 f1 f2 f3 g0 g1 rw0 cb cn
              go_wp2_with fail
              go_roundw
              case rel => exact ⟨i + 1, by omega, by go_num, by rw [MT.out N2.out]; exact HR1.out⟩
              case measure => simp [RowKit.intOf]; omega
          · have v1 : 0 < v := by omega
            have N1 : (rk g (k + 1)).getD i 0 = v := by rw [NX.out, if_neg (by rw [CB.out, IN.out, decide_eq_true v1]; simp)]
            have N2 := Lib.hid N1
            clear N1 hv0 hv fz
            go_wp2_with fail
            refine wp_region_ext (by kernel_rfl) (by kernel_rfl) ?_
            repeat (first | go_big_quiet_step ((go_at_call 141; exact Calls.ext_of (T.out _ (Ext.grown _)))) | quiet_step ((go_at_call 141; exact Calls.ext_of (T.out _ (Ext.grown _)))))
            refine wpQuiet_nil ?_
            intro w13 hw'
            obtain ⟨⟨_, hb13⟩, rfl⟩ := hw'
            have HR1 := Lib.hid (HR.out.below hb13)
            clear hb13 f0 f1 f2 f3 g0 g1 rw0 cb cn
            go_wp2_with fail
            go_roundw
            case rel => exact ⟨i + 1, by omega, by go_num, by rw [MT.out N2.out]; exact HR1.out⟩
            case measure => simp [RowKit.intOf]; omega
        · obtain rfl : i = m := by omega
          have hli2 : ¬ (i : Int) < i := by omega
          go_wp2_with fail
          go_roundw
          case rel => exact ⟨k + 1, by omega, by go_num, by have := HR.out; rw [EM.out, mix_all] at this; exact this⟩
          case measure => simp [RowKit.intOf]; omega
    · obtain rfl : k = m := by omega
      have hlt2 : ¬ ((k : Int) + 1) ≤ k := by omega
      go_wp2_with fail
      go_ret
      have := HR.out.row
      rw [show rk g k = ranks g by rw [EM.out]; rfl] at this
      exact ⟨⟨w.heap.size + 1, by rw [← EM.out]; rfl, own_lower this (by omega)⟩, HR.out.low⟩
end Go.Proofs.YtlbjmkljmhfjdaaGreat

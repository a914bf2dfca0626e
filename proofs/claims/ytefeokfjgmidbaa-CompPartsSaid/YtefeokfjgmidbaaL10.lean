/- A made row of numbers; where each number's part stands. -/
import Derived.Test.YtefeokfjgmidbaaL9
set_option linter.unusedSimpArgs false
set_option linter.unusedVariables false
namespace Go.Proofs.Ytefeokfjgmidbaa
open Go Go.Proofs Go.Shelf Go.RowKit Go.Lib Go.Maps
def tab (n : Nat) (f : Nat → Int) : List Value := (List.range n).map fun q => .int .i64 (f q)
theorem tab_at {n i : Nat} (f : Nat → Int) (h : i < n) : (tab n f)[i]? = some (.int .i64 (f i)) := by simp [tab, h]
theorem tab_set (n i : Nat) (f : Nat → Int) (x : Int) : (tab n f).set i (.int .i64 x) = tab n (upd f i x) := by
  apply List.ext_getElem?
  intro j
  unfold tab
  rw [List.getElem?_set]
  by_cases e : i = j
  · subst e
    by_cases hi : i < n
    · simp [hi, upd]
    · simp [hi]
  · simp only [if_neg e]
    by_cases hj : j < n
    · simp [hj, upd, show ¬ j = i from fun h => e h.symm]
    · simp [hj]
theorem tab_congr {n : Nat} {f g : Nat → Int} (h : ∀ q, q < n → f q = g q) : tab n f = tab n g := by
  unfold tab
  exact List.map_congr_left fun q hq => by rw [h q (List.mem_range.1 hq)]
structure Tab (B : Nat) (W : World) (b n : Nat) (f : Nat → Int) : Prop where
  blk : Blk W b (tab n f).toArray 3
  old : B ≤ b
theorem Tab.cell {B : Nat} {W : World} {b n : Nat} {f : Nat → Int} (h : Tab B W b n f) {i : Nat} (hi : i < n) : W.cell? ⟨b, i, none⟩ = some (.int .i64 (f i)) := by
  rw [h.blk.cell, List.getElem?_toArray, tab_at f hi]
theorem Tab.set {B : Nat} {W : World} {b n : Nat} {f : Nat → Int} (h : Tab B W b n f) (i : Nat) (x : Int) : Tab B (W.setCell ⟨b, i, none⟩ (.int .i64 x)) b n (upd f i x) := by
  refine ⟨?_, h.old⟩
  have := heap_setCell_same W b i _ _ (.int .i64 x) h.blk
  unfold Blk
  simpa [tab_set] using this
theorem Tab.other {B : Nat} {W : World} {b n b' i : Nat} {f : Nat → Int} {v : Value} (h : Tab B W b n f) (e : b ≠ b') : Tab B (W.setCell ⟨b', i, none⟩ v) b n f := ⟨(heap_setCell_other W ⟨b', i, none⟩ b v e).trans h.blk, h.old⟩
theorem Tab.below {B : Nat} {W W' : World} {b n : Nat} {f : Nat → Int} (h : Tab B W b n f) (hb : Below W.heap.size W W') : Tab B W' b n f := ⟨h.blk.below' hb, h.old⟩
theorem Tab.congr {B : Nat} {W : World} {b n : Nat} {f g : Nat → Int} (h : Tab B W b n f) (e : ∀ q, q < n → f q = g q) : Tab B W b n g := ⟨by rw [← tab_congr e]; exact h.blk, h.old⟩
theorem madeZeros (m : Nat) : madeCells (Value.int .i64 0).cells (m * 1) = (tab m fun _ => 0).toArray := by
  apply Array.ext
  · simp [madeCells, tab]
  · intro k h1 h2
    simp [madeCells, Value.cells, Nat.mod_one, tab]
theorem make_ints {n : Nat} (hn : n ≤ 64) (W : World) : (Instr.makeSlice 26 (.int .i64 n) (.int .i64 n)).run Try.prog W = .ok (.slice (some ⟨W.heap.size, 0, none⟩) n n) (W.alloc (.cells (tab n fun _ => 0).toArray 3)) := by
  obtain ⟨i0, hi, hz0, hz1, hz2⟩ := info_parts Try.info3
  have hr := run_make (P := Try.prog) W 26 3 i0 (.int .i64 0) Try.underlying26 hi hz0 .i64 .i64 (n : Nat) (n : Nat) (by omega) (by omega) (by rw [hz2]; omega) (by omega)
  rw [hz1, Int.toNat_natCast, madeZeros] at hr
  exact hr
/-- What stands where, after so many parts, so many of the next one. -/
noncomputable def plT (G : List (List Nat)) (p k : Nat) : Nat → Int := fun a => if posG G a < p ∨ (posG G a = p ∧ a ∈ ((pG G).getD p []).take k) then (posG G a : Int) else -1
theorem plT_none {G : List (List Nat)} (a : Nat) : plT G 0 0 a = -1 := by unfold plT; simp
theorem plT_row {G : List (List Nat)} (hR : RG G) {p a : Nat} (ha : a < G.length) : plT G p ((pG G).getD p []).length a = plT G (p + 1) 0 a := by
  unfold plT
  obtain ⟨_, _, _, h4, _⟩ := pos_of hR ha
  have e : (posG G a < p ∨ (posG G a = p ∧ a ∈ ((pG G).getD p []).take ((pG G).getD p []).length)) ↔ (posG G a < p + 1 ∨ (posG G a = p + 1 ∧ a ∈ ((pG G).getD (p + 1) []).take 0)) := by
    rw [List.take_length]
    simp
    constructor
    · rintro (h | ⟨h, _⟩) <;> omega
    · intro h
      by_cases h5 : posG G a = p
      · right; refine ⟨h5, ?_⟩; rw [h5] at h4; simpa using h4
      · left; omega
  by_cases h : (posG G a < p ∨ (posG G a = p ∧ a ∈ ((pG G).getD p []).take ((pG G).getD p []).length))
  · rw [if_pos h, if_pos (e.1 h)]
  · rw [if_neg h, if_neg (fun h2 => h (e.2 h2))]
theorem plT_all {G : List (List Nat)} (hR : RG G) {a : Nat} (ha : a < G.length) : plT G (pG G).length 0 a = posG G a := by
  unfold plT
  rw [if_pos (.inl (pos_of hR ha).1)]
theorem pG_nodup {G : List (List Nat)} (hR : RG G) {p : Nat} (hp : p < (pG G).length) : ((pG G).getD p []).Nodup := by
  have h0 := ((pG_small hR).2 p hp).1
  obtain ⟨a, ha⟩ := List.exists_mem_of_ne_nil _ h0
  obtain ⟨h1, h2⟩ := pos_eq hR hp ha
  have h3 := (pos_of hR h1).2.2.1
  rw [h2] at h3
  rw [h3]
  exact ptG_nodup G a
theorem getD_get {l : List Nat} {k : Nat} (hk : k < l.length) : l.getD k 0 = l[k] := by simp [List.getD, List.getElem?_eq_getElem hk]
theorem take_more {l : List Nat} {k : Nat} (hk : k < l.length) : l.take (k + 1) = l.take k ++ [l.getD k 0] := by rw [List.take_add_one]; simp [List.getD, List.getElem?_eq_getElem hk]
theorem plT_step {G : List (List Nat)} (hR : RG G) {p k : Nat} (hp : p < (pG G).length) (hk : k < ((pG G).getD p []).length) :
    ((pG G).getD p []).getD k 0 < G.length ∧ plT G p k (((pG G).getD p []).getD k 0) = -1 ∧ ∀ a, a < G.length → upd (plT G p k) (((pG G).getD p []).getD k 0) p a = plT G p (k + 1) a := by
  have hx : ((pG G).getD p []).getD k 0 = ((pG G).getD p [])[k] := getD_get hk
  have hm : ((pG G).getD p []).getD k 0 ∈ (pG G).getD p [] := by rw [hx]; exact List.getElem_mem hk
  have hn := pG_nodup hR hp
  obtain ⟨h1, h2⟩ := pos_eq hR hp hm
  have ht : ((pG G).getD p []).take (k + 1) = ((pG G).getD p []).take k ++ [((pG G).getD p []).getD k 0] := take_more hk
  have hnt : ((pG G).getD p []).getD k 0 ∉ ((pG G).getD p []).take k := by
    intro hc
    have h3 : (((pG G).getD p []).take (k + 1)).Nodup := List.Nodup.sublist (List.take_sublist _ _) hn
    rw [ht, List.nodup_append] at h3
    exact h3.2.2 _ hc _ (by simp) rfl
  generalize ((pG G).getD p []).getD k 0 = x at *
  refine ⟨h1, ?_, fun a ha => ?_⟩
  · unfold plT
    rw [if_neg]
    rintro (h | ⟨_, h⟩)
    · omega
    · exact hnt h
  · unfold upd plT
    rw [ht]
    by_cases e : a = x
    · subst e
      simp [h2]
    · simp [e]
end Go.Proofs.Ytefeokfjgmidbaa
namespace Go.Proofs.Ytefeokfjgmidbaa
open Go Go.Proofs Go.Shelf Go.RowKit Go.Lib Go.Maps
set_option maxRecDepth 100000 in
set_option maxHeartbeats 4000000 in
theorem place_any (A : Option Addr) (c n np : Nat) (vs : List Value) (G : List (List Nat)) (en : n = G.length) (enp : np = (pG G).length) (hR : RG G) (w : World) (hA : Gph w A vs ((pG G).map nums)) :
    Calls Try.prog 11 #[.slice A np c, .int .i64 n] w fun e w' => ∃ ob, e = .returned (.slice (some ⟨ob, 0, none⟩) n n) ∧ Tab w.heap.size w' ob n (fun a => (posG G a : Int)) ∧ Below w.heap.size w w' := by
  have hn : n ≤ 64 := by rw [en]; exact hR.most
  have hnp : np ≤ 64 := by rw [enp]; exact (pG_small hR).1
  have hmk := fun W => make_ints hn W
  have HA := Lib.hid hA
  have HR := Lib.hid hR
  have EN := Lib.hid en
  have ENP := Lib.hid enp
  have PS := Lib.hid (pG_small hR)
  have ST := Lib.hid (fun p k hp hk => plT_step hR (p := p) (k := k) hp hk)
  have RW := Lib.hid (fun p a ha => plT_row hR (p := p) (a := a) ha)
  have AL := Lib.hid (fun a ha => plT_all hR (a := a) ha)
  have ROW := Lib.hid (fun w' (hb : Below w.heap.size w w') p (hp : p < np) => show ∃ b o B c, A = some ⟨b, o, none⟩ ∧ b < w'.heap.size ∧ w'.cell? ⟨b, o + p, none⟩ = some (.slice B ((pG G).getD p []).length c) ∧ Lies w' B (ints (nums ((pG G).getD p []))) from by
    obtain ⟨b, o, B, c, e, h1, h2, h3⟩ := (hA.below hb).at_ (i := p) (by rw [List.length_map]; omega)
    rw [getD_map_nums] at h2 h3
    rw [nums_len] at h2
    exact ⟨b, o, B, c, e, h1, h2, h3⟩)
  clear hA hR en enp
  go_enter Try.func11, Try.ntmps11
  go_wp2_with fail
  obtain ⟨ob, eob⟩ : ∃ ob, ob = w.heap.size := ⟨_, rfl⟩
  have T0 : RowKit.Hid (Tab w.heap.size (w.alloc (.cells (tab n fun _ => 0).toArray 3)) ob n (fun _ => 0)) := Lib.hid ⟨by rw [eob]; exact Blk.new w _ _, by omega⟩
  have EO := Lib.hid (show w.heap.size ≤ ob by omega)
  rw [← eob]
  clear eob hmk
  go_loopw [6] (fun iv wr => ∃ i : Nat, i ≤ n ∧ iv = .int .i64 i ∧ Tab w.heap.size wr ob n (fun q => if q < i then -1 else 0) ∧ Below w.heap.size w wr) (fun iv _ => n - (intOf iv).toNat)
  case atStart => exact ⟨0, by omega, rfl, T0.out.congr (fun q _ => by simp), B1 w _⟩
  case round =>
    obtain ⟨i, hi, rfl, ht, hb⟩ := hrel
    have HT := Lib.hid ht
    have HB := Lib.hid hb
    by_cases hlt : i < n
    · have hlt2 : (i : Int) < n := by omega
      have hc1 := ht.cell hlt
      have hf1 := ht.blk.frozen i
      clear ht hb
      go_wp2_with fail
      go_roundw
      case rel =>
        refine ⟨i + 1, by omega, by go_num, (HT.out.set i (-1)).congr (fun q _ => ?_), Below.setCell HB.out (p := ⟨ob, i, none⟩) EO.out _⟩
        unfold upd
        by_cases e : q = i
        · subst e; simp
        · by_cases h2 : q < i
          · simp [e, h2]; omega
          · simp [e, h2]; omega
      case measure => simp [intOf]; omega
    · obtain rfl : i = n := by omega
      have hlt2 : ¬ (i : Int) < i := by omega
      clear ht hb
      go_wp2_with fail
      clear hlt hlt2
      go_loopw [7] (fun pv wr => ∃ p : Nat, p ≤ np ∧ pv = .int .i64 p ∧ Tab w.heap.size wr ob i (plT G p 0) ∧ Below w.heap.size w wr) (fun pv _ => np - (intOf pv).toNat)
      case atStart => exact ⟨0, by omega, rfl, HT.out.congr (fun q hq => by rw [plT_none]; simp [hq]), HB.out⟩
      case round =>
        clear HT HB
        obtain ⟨p, hp, rfl, ht, hb⟩ := hrel
        have HT := Lib.hid ht
        have HB := Lib.hid hb
        by_cases hlt : p < np
        · have hlt2 : (p : Int) < np := by omega
          obtain ⟨m, em⟩ : ∃ m, m = ((pG G).getD p []).length := ⟨_, rfl⟩
          have EM := Lib.hid em
          have hm : m ≤ 64 := by rw [em]; exact (PS.out.2 p (by rw [← ENP.out]; exact hlt)).2
          clear ht hb em
          go_wp2_with fail
          go_loopw [8] (fun kv wr => ∃ k : Nat, k ≤ m ∧ kv = .int .i64 k ∧ Tab w.heap.size wr ob i (plT G p k) ∧ Below w.heap.size w wr) (fun kv _ => m - (intOf kv).toNat)
          case atStart => exact ⟨0, by omega, rfl, HT.out, HB.out⟩
          case round =>
            clear HT HB
            obtain ⟨k, hk, rfl, ht, hb⟩ := hrel
            have HT := Lib.hid ht
            have HB := Lib.hid hb
            obtain ⟨b1, o1, B1', d1, rfl, hb1, hc1, hl1⟩ := ROW.out _ hb p hlt
            rw [← EM.out] at hc1
            by_cases hkm : k < m
            · have hkm2 : (k : Int) < m := by omega
              obtain ⟨b2, o2, rfl, hb2, hc2⟩ := lies_cell hl1 (k := k) (by rw [nums_len, ← EM.out]; exact hkm)
              rw [nums_at] at hc2
              obtain ⟨s1, s2, s3⟩ := ST.out p k (by rw [← ENP.out]; exact hlt) (by rw [← EM.out]; exact hkm)
              obtain ⟨x, ex⟩ : ∃ x, x = ((pG G).getD p []).getD k 0 := ⟨_, rfl⟩
              rw [← ex] at hc2 s1 s2 s3
              have hx : x < i := by rw [EN.out]; exact s1
              have hx2 : (x : Int) < i := by omega
              have hx3 : ¬ (i : Int) ≤ x := by omega
              have hx0 : ¬ (x : Int) < 0 := by omega
              have hc3 := ht.cell hx
              rw [s2] at hc3
              have hf3 := ht.blk.frozen x
              have S3 := Lib.hid s3
              clear ht hb hl1 ex s1 s2 s3
              go_wp2_with fail
              go_roundw
              case rel => exact ⟨k + 1, by omega, by go_num, (HT.out.set x p).congr (fun q hq => S3.out q (by rw [← EN.out]; exact hq)), Below.setCell HB.out (p := ⟨ob, x, none⟩) EO.out _⟩
              case measure => simp [intOf]; omega
            · obtain rfl : k = m := by omega
              have hkm2 : ¬ (k : Int) < k := by omega
              clear ht hb hl1
              go_wp2_with fail
              go_roundw
              case rel => exact ⟨p + 1, by omega, by go_num, HT.out.congr (fun q hq => by rw [EM.out]; exact RW.out p q (by rw [← EN.out]; exact hq)), HB.out⟩
              case measure => simp [intOf]; omega
        · obtain rfl : p = np := by omega
          have hlt2 : ¬ (p : Int) < p := by omega
          clear ht hb
          go_wp2_with fail
          go_ret
          exact ⟨_, rfl, HT.out.congr (fun q hq => by rw [ENP.out]; exact AL.out q (by rw [← EN.out]; exact hq)), HB.out⟩
end Go.Proofs.Ytefeokfjgmidbaa
namespace Go.Proofs.Ytefeokfjgmidbaa
open Go Go.Proofs Go.Shelf Go.RowKit Go.Lib Go.Maps
set_option maxRecDepth 100000 in
set_option maxHeartbeats 4000000 in
/-- Of a wrong graph, of nothing. -/
theorem cparts_no (A : Option Addr) (c m : Nat) (vs : List Value) (L : List (List Int)) (em : m = L.length) (rb : Bool) (er : rb = rightL L) (h0 : rb = false ∨ m = 0) (a b : Int) (w : World) (hA : Gph w A vs L) :
    Calls Try.prog 3 #[.slice A m c, .int .i64 a, .int .i64 b] w fun e w' => e = .returned (.bool true) ∧ Below w.heap.size w w' := by
  have HA := Lib.hid (GB.start hA)
  have AW := Lib.hid (awake_any w)
  have GR := Lib.hid (fun w' (h : GB w w' A vs L) => great_any A c vs L w' h.g)
  have RT := Lib.hid (fun w' (h : GB w w' A vs L) => Right_any A c vs L w' h.g)
  rw [← em] at GR
  rw [← em, ← er] at RT
  have PP : Hid (∀ w', GB w w' A vs L → Calls Try.prog 9 #[.slice A m c] w' fun e w'' => (∃ A' c', e = .returned (.slice A' 0 c')) ∧ Below w'.heap.size w' w'') := Lib.hid fun w' h => by
    cases er2 : rightL L with
    | false => rw [em]; exact (Parts_no A c vs L er2 w' h.g).mono fun _ _ ⟨h1, h2⟩ => ⟨⟨_, _, h1⟩, h2 ▸ Below.refl _ _⟩
    | true =>
      obtain ⟨G, hR, rfl⟩ := right_graph er2
      have hz : G.length = 0 := by rw [List.length_map] at em; rcases h0 with h0 | h0 <;> simp_all
      rw [em, List.length_map]
      refine (Parts_any A c vs G hR w' h.g).mono ?_
      rintro e w'' ⟨v, vs', rfl, ho, _, hb⟩
      obtain ⟨A', c', rfl, _, _⟩ := own_slice ho
      rw [pG_zero hz]
      exact ⟨⟨A', c', rfl⟩, hb⟩
  have hm := hA.most
  rw [← em] at hm
  clear hA em er
  go_enter Try.func3, Try.ntmps3
  go_wp2_with fail
  refine AW.out.mono ?_
  rintro e w1 ⟨rfl, hb⟩
  have G1 := Lib.hid (HA.out.below hb)
  clear hb
  go_wp2_with fail
  refine (GR.out w1 G1.out).mono ?_
  rintro e w2 ⟨⟨gb, rfl⟩, hb⟩
  have G2 := Lib.hid (G1.out.below hb)
  clear hb
  cases gb with
  | true =>
    go_wp2_with fail
    go_ret
    exact ⟨rfl, G2.out.b⟩
  | false =>
    go_wp2_with fail
    refine (PP.out w2 G2.out).mono ?_
    rintro e w3 ⟨⟨A', c', rfl⟩, hb⟩
    have G3 := Lib.hid (G2.out.below hb)
    clear hb
    go_wp2_with fail
    refine (RT.out w3 G3.out).mono ?_
    rintro e w4 ⟨rfl, rfl⟩
    have hz : rb = false ∨ (rb = true ∧ m = 0) := by cases rb <;> simp_all
    clear h0
    rcases hz with rfl | ⟨rfl, rfl⟩
    all_goals go_wp2_with fail
    all_goals go_ret
    all_goals exact ⟨rfl, G3.out.b⟩
theorem drew_below (w : World) : Below w.heap.size w w.drew := ⟨rfl, rfl, rfl, Nat.le_refl _, fun _ _ => rfl⟩
/-- From where on each part could stand, after so many numbers, so many that the next one leads to. -/
def Nds (G : List (List Nat)) (i k : Nat) (f : Nat → Int) : Prop :=
  (∀ p, 0 ≤ f p ∧ f p ≤ p) ∧ ∀ a c, c ∈ adjG G a → (a < i ∨ (a = i ∧ c ∈ (adjG G a).take k)) → posG G c ≠ posG G a → (posG G c : Int) + 1 ≤ f (posG G a)
theorem Nds.start (G : List (List Nat)) : Nds G 0 0 (fun _ => 0) := ⟨fun p => by simp, fun a c _ h => by simp at h⟩
theorem Nds.row {G : List (List Nat)} {i m : Nat} {f : Nat → Int} (h : Nds G i m f) (hm : m = (adjG G i).length) : Nds G (i + 1) 0 f := ⟨h.1, fun a c hc h2 hn => by
  refine h.2 a c hc ?_ hn
  simp at h2
  by_cases e : a = i
  · subst e
    rw [hm, List.take_length]
    exact .inr ⟨rfl, hc⟩
  · exact .inl (by omega)⟩
theorem Nds.same {G : List (List Nat)} {i k : Nat} {f : Nat → Int} (h : Nds G i k f) (hk : k < (adjG G i).length) (he : posG G ((adjG G i).getD k 0) = posG G i) : Nds G i (k + 1) f := ⟨h.1, fun a c hc h2 hn => by
  rcases h2 with h2 | ⟨rfl, h2⟩
  · exact h.2 a c hc (.inl h2) hn
  · rw [take_more hk, List.mem_append, List.mem_singleton] at h2
    rcases h2 with h2 | rfl
    · exact h.2 a c hc (.inr ⟨rfl, h2⟩) hn
    · exact absurd he hn⟩
theorem Nds.step {G : List (List Nat)} (hR : RG G) {i k : Nat} {f : Nat → Int} (h : Nds G i k f) (hk : k < (adjG G i).length) (he : posG G ((adjG G i).getD k 0) ≠ posG G i) {mx : Int}
    (h1 : f (posG G i) < (posG G ((adjG G i).getD k 0) : Int) + 1 → mx = (posG G ((adjG G i).getD k 0) : Int) + 1) (h2 : ¬ f (posG G i) < (posG G ((adjG G i).getD k 0) : Int) + 1 → mx = f (posG G i)) : Nds G i (k + 1) (upd f (posG G i) mx) := by
  have hm : (adjG G i).getD k 0 ∈ adjG G i := by rw [getD_get hk]; exact List.getElem_mem hk
  have ha := pos_ahead hR hm
  have hle : f (posG G i) ≤ mx ∧ (posG G ((adjG G i).getD k 0) : Int) + 1 ≤ mx ∧ 0 ≤ mx ∧ mx ≤ posG G i := by
    have := h.1 (posG G i)
    by_cases e : f (posG G i) < (posG G ((adjG G i).getD k 0) : Int) + 1
    · rw [h1 e]; omega
    · rw [h2 e]; omega
  refine ⟨fun p => ?_, fun a c hc h3 hn => ?_⟩
  · unfold upd
    split
    · rename_i e; subst e; exact hle.2.2
    · exact h.1 p
  · have key : (a < i ∨ (a = i ∧ c ∈ (adjG G a).take k)) → (posG G c : Int) + 1 ≤ upd f (posG G i) mx (posG G a) := fun h4 => by
      have := h.2 a c hc h4 hn
      unfold upd
      split
      · rename_i e; rw [e] at this; omega
      · exact this
    rcases h3 with h3 | ⟨rfl, h3⟩
    · exact key (.inl h3)
    · rw [take_more hk, List.mem_append, List.mem_singleton] at h3
      rcases h3 with h3 | rfl
      · exact key (.inr ⟨rfl, h3⟩)
      · unfold upd; rw [if_pos rfl]; exact hle.2.1
theorem Nds.sooner {G : List (List Nat)} (hR : RG G) {f : Nat → Int} (h : Nds G G.length 0 f) {p q : Nat} (hp : p < (pG G).length) (hq : q < p) (hf : f p ≤ q) : ((pG G).getD q []).getD 0 0 < ((pG G).getD p []).getD 0 0 :=
  part_sooner hR hp hq fun i c hc hi hn => by
    have := h.2 i c hc (.inl (hR.inR i c hc).1) (by rw [hi]; exact hn)
    rw [hi] at this
    omega
end Go.Proofs.Ytefeokfjgmidbaa
namespace Go.Proofs.Ytefeokfjgmidbaa
open Go Go.Proofs Go.Shelf Go.RowKit Go.Lib Go.Maps
set_option maxRecDepth 100000 in
set_option maxHeartbeats 8000000 in
theorem cparts_any (A : Option Addr) (c n : Nat) (vs : List Value) (G : List (List Nat)) (en : n = G.length) (hR : RG G) (h0 : 0 < n) (a b : Int) (ha : -9223372036854775808 ≤ a ∧ a < 9223372036854775808) (hb : -9223372036854775808 ≤ b ∧ b < 9223372036854775808) (w : World) (hA : Gph w A vs (G.map nums)) :
    Calls Try.prog 3 #[.slice A n c, .int .i64 a, .int .i64 b] w fun e w' => e = .returned (.bool true) ∧ Below w.heap.size w w' := by
  have HA := Lib.hid (GB.start hA)
  have AW := Lib.hid (awake_any w)
  have GR := Lib.hid (fun w' (h : GB w w' A vs (G.map nums)) => great_any A c vs (G.map nums) w' h.g)
  have RT := Lib.hid (fun w' (h : GB w w' A vs (G.map nums)) => Right_any A c vs (G.map nums) w' h.g)
  have LD := Lib.hid (fun a b w' (h : GB w w' A vs (G.map nums)) => Leads_any A c vs G hR a b w' h.g)
  have PP := Lib.hid (fun w' (h : GB w w' A vs (G.map nums)) => Parts_any A c vs G hR w' h.g)
  have PT := Lib.hid (fun a w' (h : GB w w' A vs (G.map nums)) => Part_any A c vs G hR a w' h.g)
  rw [List.length_map, ← en] at GR RT
  rw [hR.right] at RT
  rw [← en] at LD PP PT
  obtain ⟨np, enp⟩ : ∃ np, np = (pG G).length := ⟨_, rfl⟩
  have hnp : np ≤ 64 := by rw [enp]; exact (pG_small hR).1
  have hm : n ≤ 64 := by rw [en]; exact hR.most
  have PL := Lib.hid (fun A' c' vs' w' (h : Gph w' A' vs' ((pG G).map nums)) => place_any A' c' n np vs' G en enp hR w' h)
  have h1 := Int.emod_nonneg a (show (n : Int) ≠ 0 by omega)
  have h2 := Int.emod_lt_of_pos a (show 0 < (n : Int) by omega)
  have h3 := Int.emod_nonneg b (show (n : Int) ≠ 0 by omega)
  have h4 := Int.emod_lt_of_pos b (show 0 < (n : Int) by omega)
  have PA := Lib.hid (fun w' => pick_any a n ha (by omega) w')
  have PB := Lib.hid (fun w' => pick_any b n hb (by omega) w')
  obtain ⟨i1, ei⟩ : ∃ i : Nat, a % (n : Int) = i := ⟨(a % (n : Int)).toNat, by omega⟩
  obtain ⟨k1, ek⟩ : ∃ k : Nat, b % (n : Int) = k := ⟨(b % (n : Int)).toNat, by omega⟩
  rw [ei] at PA h1 h2
  rw [ek] at PB h3 h4
  clear ei ek ha hb
  have hi1 : i1 < n := by omega
  have hk1 : k1 < n := by omega
  have POS := Lib.hid (fun i (hi : i < n) => show idxP ((pG G).map nums) (i : Nat) = posG G i ∧ posG G i < np from ⟨(pos_of hR (by omega)).2.2.2.2, by rw [enp]; exact (pos_of hR (by omega)).1⟩)
  have TOG := Lib.hid (pos_tog hR (i := i1) (k := k1) (by omega) (by omega))
  have HR := Lib.hid hR
  have EN := Lib.hid en
  have ENP := Lib.hid enp
  have hmk := fun W => make_ints hnp W
  clear hA en enp hR
  go_enter Try.func3, Try.ntmps3
  go_wp2_with fail
  refine AW.out.mono ?_
  rintro e w1 ⟨rfl, hb⟩
  have G1 := Lib.hid (HA.out.below hb)
  clear hb
  go_wp2_with fail
  refine (GR.out w1 G1.out).mono ?_
  rintro e w2 ⟨⟨gb, rfl⟩, hb⟩
  have G2 := Lib.hid (G1.out.below hb)
  clear hb
  cases gb with
  | true =>
    go_wp2_with fail
    go_ret
    exact ⟨rfl, G2.out.b⟩
  | false =>
    have hn0 : ((n : Int) == 0) = false := by rw [beq_eq_false_iff_ne]; omega
    go_wp2_with fail
    refine (PP.out w2 G2.out).mono ?_
    rintro e w3 ⟨vp, vsp, rfl, hop, hrp, hb⟩
    obtain ⟨Ap, cp, rfl, hgp⟩ := gph_parts hop hrp (pG_small HR.out).1 (fun r hr => ((pG_small HR.out).2 r hr).2)
    have G3 := Lib.hid (G2.out.below hb)
    have P3 := Lib.hid hgp
    clear hb hop hrp hgp
    rw [← ENP.out]
    go_wp2_with fail
    refine (RT.out _ G3.out).mono ?_
    rintro e w4 ⟨rfl, rfl⟩
    go_wp2_with fail
    refine (PL.out _ _ _ _ P3.out).mono ?_
    rintro e w5 ⟨ob, rfl, ht, hb⟩
    have G5 := Lib.hid (G3.out.below hb)
    have P5 := Lib.hid (P3.out.below hb)
    have A5 := Lib.hid ht
    clear hb ht
    go_wp2_with fail
    obtain ⟨nb, enb⟩ : ∃ nb, nb = w5.heap.size := ⟨_, rfl⟩
    have N6 : RowKit.Hid (Tab w5.heap.size (w5.alloc (.cells (tab np fun _ => 0).toArray 3)) nb np (fun _ => 0)) := Lib.hid ⟨by rw [enb]; exact Blk.new w5 _ _, by omega⟩
    have hnb : w5.heap.size ≤ nb := by omega
    rw [← enb]
    have ROW := Lib.hid (fun W (hb : Below w5.heap.size w5 W) i (hi : i < n) => show ∃ b o B c, A = some ⟨b, o, none⟩ ∧ b < W.heap.size ∧ W.cell? ⟨b, o + i, none⟩ = some (.slice B (adjG G i).length c) ∧ Lies W B (ints (nums (adjG G i))) from by
      obtain ⟨b, o, B, c, e, h1, h2, h3⟩ := (G5.out.g.below hb).at_ (i := i) (by rw [List.length_map, ← EN.out]; omega)
      rw [getD_map_nums] at h2 h3
      rw [nums_len] at h2
      exact ⟨b, o, B, c, e, h1, h2, h3⟩)
    have ATC := Lib.hid (fun W (hb : Below w5.heap.size w5 W) i (hi : i < n) => (A5.out.below hb).cell hi)
    have PTC := Lib.hid (fun W (hb : Below w5.heap.size w5 W) i (hi : i < n) => show Calls Try.prog 12 #[.slice A n c, .int .i64 i] W fun e w' => e = .returned (.int .i64 (posG G i)) ∧ Below W.heap.size W w' from by
      have := PT.out (i : Nat) W (G5.out.below hb)
      rw [(POS.out i hi).1] at this
      exact this)
    have LDC := Lib.hid (fun W (hb : Below w5.heap.size w5 W) a b => LD.out a b W (G5.out.below hb))
    have HDC := Lib.hid (fun W (hb : Below w5.heap.size w5 W) p (hp : p < np) => part_head HR.out (P5.out.below hb) (j := p) (by rw [← ENP.out]; exact hp))
    clear enb hmk GR RT AW HA G1 G2 G3 P3 PL PP PT LD
    go_loopw [10] (fun iv wr => ∃ (i : Nat) (f : Nat → Int), i ≤ n ∧ iv = .int .i64 i ∧ Tab w5.heap.size wr nb np f ∧ Nds G i 0 f ∧ Below w5.heap.size w5 wr) (fun iv _ => n - (intOf iv).toNat)
    case atStart => exact ⟨0, _, by omega, rfl, N6.out, Nds.start G, B1 w5 _⟩
    case round =>
      clear N6
      obtain ⟨i, f, hi, rfl, ht, hnd, hb⟩ := hrel
      have HT := Lib.hid ht
      have ND := Lib.hid hnd
      have HB := Lib.hid hb
      by_cases hlt : i < n
      · have hlt2 : (i : Int) < n := by omega
        obtain ⟨b1, o1, B1', d1, rfl, hb1, hc1, hl1⟩ := ROW.out wr hb i hlt
        obtain ⟨pi, epi⟩ : ∃ pi, pi = posG G i := ⟨_, rfl⟩
        have hpi : pi < np := by rw [epi]; exact (POS.out i hlt).2
        have hat := ATC.out wr hb i hlt
        have PTI := Lib.hid (fun W (eg : Below wr.heap.size wr W) => PTC.out W (HB.out.trans (eg.mono HB.out.size)) i hlt)
        rw [← epi] at hat PTI
        have EPI := Lib.hid epi
        have hp0 : ¬ (pi : Int) < 0 := by omega
        have hpp : ((pi : Int) != pi) = false := by simp
        have f1 := fun (e : Ext wr) => Ext.cell hat e
        clear ht hnd hb hl1 hc1 hat epi
        go_wp2_with fail
        refine wp_region_ext (by kernel_rfl) (by kernel_rfl) ?_
        repeat quiet_step (first | (go_at_call 12; with_reducible exact Calls.ext_of (PTI.out _ (Ext.grown _))))
        refine wpQuiet_nil ?_
        intro w13 hw'
        obtain ⟨⟨_, hb13⟩, rfl⟩ := hw'
        have HB0 := Lib.hid (HB.out.trans (hb13.mono HB.out.size))
        have HT0 := Lib.hid (HT.out.below hb13)
        clear hb13 f1 HB HT PTI
        obtain ⟨m, em⟩ : ∃ m, m = (adjG G i).length := ⟨_, rfl⟩
        have EM := Lib.hid em
        have hm64 : m ≤ 64 := by rw [em]; exact HR.out.len i
        clear em
        go_wp2_with fail
        go_loopw [11] (fun kv wr => ∃ (k : Nat) (f : Nat → Int), k ≤ m ∧ kv = .int .i64 k ∧ Tab w5.heap.size wr nb np f ∧ Nds G i k f ∧ Below w5.heap.size w5 wr) (fun kv _ => m - (intOf kv).toNat)
        case atStart => exact ⟨0, f, by omega, rfl, HT0.out, ND.out, HB0.out⟩
        case round =>
          clear HT0 ND HB0
          obtain ⟨k, f, hk, rfl, ht, hnd, hb⟩ := hrel
          have HT := Lib.hid ht
          have ND := Lib.hid hnd
          have HB := Lib.hid hb
          obtain ⟨b1', o1', B1', d1, eA, hb1, hc1, hl1⟩ := ROW.out _ hb i hlt
          simp only [Option.some.injEq, Addr.mk.injEq] at eA
          obtain ⟨rfl, rfl, _⟩ := eA
          rw [← EM.out] at hc1
          by_cases hkm : k < m
          · have hkm2 : (k : Int) < m := by omega
            obtain ⟨b2, o2, rfl, hb2, hc2⟩ := lies_cell hl1 (k := k) (by rw [nums_len, ← EM.out]; exact hkm)
            rw [nums_at] at hc2
            have hxm : (adjG G i).getD k 0 ∈ adjG G i := by rw [getD_get (by rw [← EM.out]; exact hkm)]; exact List.getElem_mem _
            have hxn : (adjG G i).getD k 0 < n := by rw [EN.out]; exact (HR.out.inR i _ hxm).2
            have hah := pos_ahead HR.out hxm
            obtain ⟨x, ex⟩ : ∃ x, x = (adjG G i).getD k 0 := ⟨_, rfl⟩
            have EX := Lib.hid ex
            rw [← ex] at hc2 hxn hah
            have hatx := ATC.out _ hb x hxn
            have hati := ATC.out _ hb i hlt
            obtain ⟨pc, epc⟩ : ∃ pc, pc = posG G x := ⟨_, rfl⟩
            have EPC := Lib.hid epc
            rw [← epc] at hatx hah
            rw [← EPI.out] at hati hah
            have hah2 : ¬ (pi : Int) < pc := by omega
            have hx2 : (x : Int) < n := by omega
            by_cases hne : pc = pi
            · have NX := Lib.hid (hnd.same (by rw [← EM.out]; exact hkm) (by rw [← EX.out, ← EPC.out, ← EPI.out]; exact hne))
              subst hne
              clear ht hnd hb hl1 hxm ex epc
              go_wp2_with fail
              go_roundw
              case rel => exact ⟨k + 1, f, by omega, by go_num, HT.out, NX.out, HB.out⟩
              case measure => simp [intOf]; omega
            · have hnei : ((pc : Int) != pi) = true := by simp; omega
              obtain ⟨fp, efp⟩ : ∃ fp, fp = f pi := ⟨_, rfl⟩
              have hfc := ht.cell hpi
              have hff := ht.blk.frozen pi
              have hfb := hnd.1 pi
              rw [← efp] at hfc hfb
              obtain ⟨mx, hm1, hm2⟩ : ∃ mx : Int, (fp < (pc : Int) + 1 → mx = (pc : Int) + 1) ∧ (¬ fp < (pc : Int) + 1 → mx = fp) := by
                by_cases e : fp < (pc : Int) + 1
                · exact ⟨_, fun _ => rfl, fun h => absurd e h⟩
                · exact ⟨_, fun h => absurd h e, fun _ => rfl⟩
              have NX := Lib.hid (show Nds G i (k + 1) (upd f pi mx) from by
                have := hnd.step HR.out (by rw [← EM.out]; exact hkm) (by rw [← EX.out, ← EPC.out, ← EPI.out]; exact hne) (mx := mx) (by rw [← EX.out, ← EPC.out, ← EPI.out, ← efp]; exact hm1) (by rw [← EX.out, ← EPC.out, ← EPI.out, ← efp]; exact hm2)
                rw [← EPI.out] at this
                exact this)
              have hwr : IntKind.i64.wrap ((pc : Int) + 1) = (pc : Int) + 1 := IntWalk.i64_in _ (by omega)
              have hpi2 : (pi : Int) < np := by omega
              clear ht hnd hb hl1 hxm ex epc efp
              go_wp2_with fail
              refine wp_region_of_any (by kernel_rfl) ?_
              obtain ⟨Ws, w0e, w1e⟩ : ∃ Ws : Nat → World, Ws 0 = wr.drew ∧ Ws 1 = wr.drew.setCell ⟨nb, pi, none⟩ (.int .i64 mx) := ⟨fun p => match p with | 0 => wr.drew | _ => wr.drew.setCell ⟨nb, pi, none⟩ (.int .i64 mx), rfl, rfl⟩
              refine wpAnyIn_puts (by kernel_rfl) (by kernel_rfl) 1 Ws (fun _ => 16) (fun j => match j with | 0 => .slice (some ⟨nb, 0, none⟩) np np | 1 => .slice (some ⟨ob, 0, none⟩) n n | 2 => .int .i64 i | 3 => .pointer (some ⟨ob, i, none⟩) | 4 => .int .i64 pi | 5 => .slice (some ⟨nb, 0, none⟩) np np | 6 => .slice (some ⟨ob, 0, none⟩) n n | 7 => .int .i64 i | 8 => .pointer (some ⟨ob, i, none⟩) | 9 => .int .i64 pi | 10 => .pointer (some ⟨nb, pi, none⟩) | 11 => .int .i64 fp | 12 => .int .i64 pc | 13 => .int .i64 ((pc : Int) + 1) | 14 => .int .i64 mx | 15 => .pointer (some ⟨nb, pi, none⟩) | _ => undef) w0e (by kernel_rfl) ?hop ?hend
              case hop =>
                intro j o hj p a hp e1 e2 e3 hrest hdep
                have hjl : j < 17 := (List.getElem?_eq_some_iff.1 hj).1
                have q8 : a.tmps[8]?.getD undef = .slice (some ⟨ob, 0, none⟩) n n := hrest 8 (by kernel_rfl)
                have q9 : a.tmps[9]?.getD undef = .slice (some ⟨nb, 0, none⟩) np np := hrest 9 (by kernel_rfl)
                have q10 : a.tmps[10]?.getD undef = .int .i64 i := hrest 10 (by kernel_rfl)
                have q12 : a.tmps[12]?.getD undef = .int .i64 pc := hrest 12 (by kernel_rfl)
                have H1 := Lib.hid e1
                have H3 := Lib.hid e3
                have HD := Lib.hid hdep
                clear hrest e1 e2 e3 hdep
                rcases (show j = 0 ∨ j = 1 ∨ j = 2 ∨ j = 3 ∨ j = 4 ∨ j = 5 ∨ j = 6 ∨ j = 7 ∨ j = 8 ∨ j = 9 ∨ j = 10 ∨ j = 11 ∨ j = 12 ∨ j = 13 ∨ j = 14 ∨ j = 15 ∨ j = 16 by omega) with rfl | rfl | rfl | rfl | rfl | rfl | rfl | rfl | rfl | rfl | rfl | rfl | rfl | rfl | rfl | rfl | rfl
                all_goals (simp only [List.getElem?_cons_zero, List.getElem?_cons_succ, Option.some.injEq] at hj; subst hj)
                · obtain rfl : p = 0 := by have := H3.out 0 (by omega) (by kernel_rfl); omega
                  refine Gives.value (v := .slice (some ⟨nb, 0, none⟩) np np) (w := Ws 0) ?_ ⟨rfl, rfl⟩
                  rw [w0e]
                  go_simp
                · obtain rfl : p = 0 := by have := H3.out 0 (by omega) (by kernel_rfl); omega
                  refine Gives.value (v := .slice (some ⟨ob, 0, none⟩) n n) (w := Ws 0) ?_ ⟨rfl, rfl⟩
                  rw [w0e]
                  go_simp
                · obtain rfl : p = 0 := by have := H3.out 0 (by omega) (by kernel_rfl); omega
                  refine Gives.value (v := .int .i64 i) (w := Ws 0) ?_ ⟨rfl, rfl⟩
                  rw [w0e]
                  go_simp
                · have d99 : a.tmps[99]?.getD undef = .slice (some ⟨ob, 0, none⟩) n n := HD.out 1 99 rfl (by kernel_rfl)
                  have d100 : a.tmps[100]?.getD undef = .int .i64 i := HD.out 2 100 rfl (by kernel_rfl)
                  obtain rfl : p = 0 := by have := H3.out 0 (by omega) (by kernel_rfl); omega
                  refine Gives.value (v := .pointer (some ⟨ob, i, none⟩)) (w := Ws 0) ?_ ⟨rfl, rfl⟩
                  rw [w0e]
                  go_simp
                · have d101 : a.tmps[101]?.getD undef = .pointer (some ⟨ob, i, none⟩) := HD.out 3 101 rfl (by kernel_rfl)
                  obtain rfl : p = 0 := by have := H3.out 0 (by omega) (by kernel_rfl); omega
                  refine Gives.value (v := .int .i64 pi) (w := Ws 0) ?_ ⟨rfl, rfl⟩
                  rw [w0e]
                  go_simp
                · obtain rfl : p = 0 := by have := H3.out 0 (by omega) (by kernel_rfl); omega
                  refine Gives.value (v := .slice (some ⟨nb, 0, none⟩) np np) (w := Ws 0) ?_ ⟨rfl, rfl⟩
                  rw [w0e]
                  go_simp
                · obtain rfl : p = 0 := by have := H3.out 0 (by omega) (by kernel_rfl); omega
                  refine Gives.value (v := .slice (some ⟨ob, 0, none⟩) n n) (w := Ws 0) ?_ ⟨rfl, rfl⟩
                  rw [w0e]
                  go_simp
                · obtain rfl : p = 0 := by have := H3.out 0 (by omega) (by kernel_rfl); omega
                  refine Gives.value (v := .int .i64 i) (w := Ws 0) ?_ ⟨rfl, rfl⟩
                  rw [w0e]
                  go_simp
                · have d104 : a.tmps[104]?.getD undef = .slice (some ⟨ob, 0, none⟩) n n := HD.out 6 104 rfl (by kernel_rfl)
                  have d105 : a.tmps[105]?.getD undef = .int .i64 i := HD.out 7 105 rfl (by kernel_rfl)
                  obtain rfl : p = 0 := by have := H3.out 0 (by omega) (by kernel_rfl); omega
                  refine Gives.value (v := .pointer (some ⟨ob, i, none⟩)) (w := Ws 0) ?_ ⟨rfl, rfl⟩
                  rw [w0e]
                  go_simp
                · have d106 : a.tmps[106]?.getD undef = .pointer (some ⟨ob, i, none⟩) := HD.out 8 106 rfl (by kernel_rfl)
                  obtain rfl : p = 0 := by have := H3.out 0 (by omega) (by kernel_rfl); omega
                  refine Gives.value (v := .int .i64 pi) (w := Ws 0) ?_ ⟨rfl, rfl⟩
                  rw [w0e]
                  go_simp
                · have d103 : a.tmps[103]?.getD undef = .slice (some ⟨nb, 0, none⟩) np np := HD.out 5 103 rfl (by kernel_rfl)
                  have d107 : a.tmps[107]?.getD undef = .int .i64 pi := HD.out 9 107 rfl (by kernel_rfl)
                  obtain rfl : p = 0 := by have := H3.out 0 (by omega) (by kernel_rfl); omega
                  refine Gives.value (v := .pointer (some ⟨nb, pi, none⟩)) (w := Ws 0) ?_ ⟨rfl, rfl⟩
                  rw [w0e]
                  go_simp
                · have d108 : a.tmps[108]?.getD undef = .pointer (some ⟨nb, pi, none⟩) := HD.out 10 108 rfl (by kernel_rfl)
                  obtain rfl : p = 0 := by have := H3.out 0 (by omega) (by kernel_rfl); omega
                  refine Gives.value (v := .int .i64 fp) (w := Ws 0) ?_ ⟨rfl, rfl⟩
                  rw [w0e]
                  go_simp
                · obtain rfl : p = 0 := by have := H3.out 0 (by omega) (by kernel_rfl); omega
                  refine Gives.value (v := .int .i64 pc) (w := Ws 0) ?_ ⟨rfl, rfl⟩
                  rw [w0e]
                  go_simp
                · have d110 : a.tmps[110]?.getD undef = .int .i64 pc := HD.out 12 110 rfl (by kernel_rfl)
                  obtain rfl : p = 0 := by have := H3.out 0 (by omega) (by kernel_rfl); omega
                  refine Gives.value (v := .int .i64 ((pc : Int) + 1)) (w := Ws 0) ?_ ⟨rfl, rfl⟩
                  rw [w0e]
                  go_simp
                · have d109 : a.tmps[109]?.getD undef = .int .i64 fp := HD.out 11 109 rfl (by kernel_rfl)
                  have d111 : a.tmps[111]?.getD undef = .int .i64 ((pc : Int) + 1) := HD.out 13 111 rfl (by kernel_rfl)
                  obtain rfl : p = 0 := by have := H3.out 0 (by omega) (by kernel_rfl); omega
                  refine Gives.value (v := .int .i64 mx) (w := Ws 0) ?_ ⟨rfl, rfl⟩
                  rw [w0e]
                  by_cases em : fp < (pc : Int) + 1
                  · rw [hm1 (by omega)]
                    go_simp
                    omega
                  · rw [hm2 (by omega)]
                    go_simp
                    omega
                · have d98 : a.tmps[98]?.getD undef = .slice (some ⟨nb, 0, none⟩) np np := HD.out 0 98 rfl (by kernel_rfl)
                  have d102 : a.tmps[102]?.getD undef = .int .i64 pi := HD.out 4 102 rfl (by kernel_rfl)
                  obtain rfl : p = 0 := by have := H3.out 0 (by omega) (by kernel_rfl); omega
                  refine Gives.value (v := .pointer (some ⟨nb, pi, none⟩)) (w := Ws 0) ?_ ⟨rfl, rfl⟩
                  rw [w0e]
                  go_simp
                · have d113 : a.tmps[113]?.getD undef = .pointer (some ⟨nb, pi, none⟩) := HD.out 15 113 rfl (by kernel_rfl)
                  have d112 : a.tmps[112]?.getD undef = .int .i64 mx := HD.out 14 112 rfl (by kernel_rfl)
                  obtain rfl : p = 0 := H1.out 0 (by omega) rfl
                  refine Gives.skip (w := Ws 1) ?_ ⟨rfl, rfl⟩
                  rw [w0e, w1e]
                  go_simp
              case hend =>
              rw [w1e]
              simp only [putIdx]
              go_simp
              go_wp2_with fail
              go_roundw
              case rel =>
                exact ⟨k + 1, upd f pi mx, by omega, by go_num, (HT.out.below (drew_below wr)).set pi mx, NX.out, Below.setCell (HB.out.trans ((drew_below wr).mono HB.out.size)) (p := ⟨nb, pi, none⟩) (by omega) _⟩
              case measure => simp [intOf]; omega
          · obtain rfl : k = m := by omega
            have hkm2 : ¬ (k : Int) < k := by omega
            have NX := Lib.hid (hnd.row EM.out)
            clear ht hnd hb hl1
            go_wp2_with fail
            go_roundw
            case rel => exact ⟨i + 1, f, by omega, by go_num, HT.out, NX.out, HB.out⟩
            case measure => simp [intOf]; omega
      · obtain rfl : n = i := by omega
        have hlt2 : ¬ (n : Int) < n := by omega
        clear ht hnd hb
        go_wp2_with fail
        clear hlt hlt2 hi ROW PTC
        go_loopw [13] (fun pv wr => ∃ p : Nat, p ≤ np ∧ pv = .int .i64 p ∧ Tab w5.heap.size wr nb np f ∧ Below w5.heap.size w5 wr) (fun pv _ => np - (intOf pv).toNat)
        case atStart => exact ⟨0, by omega, rfl, HT.out, HB.out⟩
        case round =>
          clear HT HB
          obtain ⟨p, hp, rfl, ht, hb⟩ := hrel
          have HT := Lib.hid ht
          have HB := Lib.hid hb
          by_cases hlt : p < np
          · have hlt2 : (p : Int) < np := by omega
            have hfc := ht.cell hlt
            obtain ⟨q0, eq0⟩ : ∃ q0 : Nat, f p = q0 := ⟨(f p).toNat, by have := (ND.out.1 p).1; omega⟩
            have hq0 : q0 ≤ p := by have := (ND.out.1 p).2; omega
            have EQ0 := Lib.hid eq0
            rw [eq0] at hfc
            clear ht hb eq0
            go_wp2_with fail
            clear hfc
            go_loopw [14] (fun qv wr => ∃ q : Nat, q0 ≤ q ∧ q ≤ p ∧ qv = .int .i64 q ∧ Tab w5.heap.size wr nb np f ∧ Below w5.heap.size w5 wr) (fun qv _ => p - (intOf qv).toNat)
            case atStart => exact ⟨q0, by omega, hq0, rfl, HT.out, HB.out⟩
            case round =>
              clear HT HB
              obtain ⟨q, hq1, hq2, rfl, ht, hb⟩ := hrel
              have HT := Lib.hid ht
              have HB := Lib.hid hb
              by_cases hqp : q < p
              · have hqp2 : (q : Int) < p := by omega
                have hqn : (q : Int) < np := by omega
                obtain ⟨b1, o1, B1', d1, b2, o2, rfl, rfl, hc1, _, hc2, hx1, _⟩ := HDC.out wr hb q (by omega)
                obtain ⟨b3, o3, B3', d3, b4, o4, eA, rfl, hc3, _, hc4, hx3, _⟩ := HDC.out wr hb p hlt
                simp only [Option.some.injEq, Addr.mk.injEq] at eA
                obtain ⟨rfl, rfl, _⟩ := eA
                have hso := Nds.sooner HR.out (by rw [← EN.out]; exact ND.out) (p := p) (q := q) (by rw [← ENP.out]; exact hlt) hqp (by rw [EQ0.out]; omega)
                generalize ((pG G).getD q []).length = x1 at *
                generalize ((pG G).getD p []).length = x3 at *
                generalize ((pG G).getD q []).getD 0 0 = y1 at *
                generalize ((pG G).getD p []).getD 0 0 = y3 at *
                have hy : ¬ (y3 : Int) < y1 := by omega
                have f1 := fun (e : Ext wr) => Ext.cell hc1 e
                have f2 := fun (e : Ext wr) => Ext.cell hc2 e
                have f3 := fun (e : Ext wr) => Ext.cell hc3 e
                have f4 := fun (e : Ext wr) => Ext.cell hc4 e
                clear ht hb hc1 hc2 hc3 hc4
                go_wp2_with fail
                refine wp_region_ext (by kernel_rfl) (by kernel_rfl) ?_
                repeat quiet_step (fail)
                refine wpQuiet_nil ?_
                intro w13 hw'
                obtain ⟨⟨_, hb13⟩, rfl⟩ := hw'
                have HB1 := Lib.hid (HB.out.trans (hb13.mono HB.out.size))
                have HT1 := Lib.hid (HT.out.below hb13)
                clear hb13 f1 f2 f3 f4
                go_wp2_with fail
                go_roundw
                case rel => exact ⟨q + 1, by omega, by omega, by go_num, HT1.out, HB1.out⟩
                case measure => simp [intOf]; omega
              · obtain rfl : p = q := by omega
                have hqp2 : ¬ (p : Int) < p := by omega
                clear ht hb
                go_wp2_with fail
                go_roundw
                case rel => exact ⟨p + 1, by omega, by go_num, HT.out, HB.out⟩
                case measure => simp [intOf]; omega
          · obtain rfl : np = p := by omega
            have hlt2 : ¬ (np : Int) < np := by omega
            clear ht hb
            go_wp2_with fail
            refine (PA.out _).mono ?_
            rintro e w14 ⟨rfl, rfl⟩
            go_wp2_with fail
            refine (PB.out _).mono ?_
            rintro e w14 ⟨rfl, rfl⟩
            obtain ⟨pi1, ep1⟩ : ∃ u, u = posG G i1 := ⟨_, rfl⟩
            obtain ⟨pk1, ep2⟩ : ∃ u, u = posG G k1 := ⟨_, rfl⟩
            have hc1 := ATC.out _ HB.out i1 hi1
            have hc2 := ATC.out _ HB.out k1 hk1
            have L1 := Lib.hid (fun W (eg : Below wr.heap.size wr W) => LDC.out W (HB.out.trans (eg.mono HB.out.size)) i1 k1)
            have L2 := Lib.hid (fun W (eg : Below wr.heap.size wr W) => LDC.out W (HB.out.trans (eg.mono HB.out.size)) k1 i1)
            have hr := TOG.out
            rw [← ep1] at hc1 hr
            rw [← ep2] at hc2 hr
            generalize ldB G i1 k1 = l1 at *
            generalize ldB G k1 i1 = l2 at *
            have hrr : ((pi1 : Int) == pk1) = (l1 && l2) := by
              rw [Bool.eq_iff_iff, Bool.and_eq_true, ← hr]; simp; omega
            have hll : (l2 == l2) = true := by simp
            have f1 := fun (e : Ext wr) => Ext.cell hc1 e
            have f2 := fun (e : Ext wr) => Ext.cell hc2 e
            clear hc1 hc2 hr ep1 ep2
            cases l1 with
            | false =>
              rw [Bool.false_and] at hrr
              go_wp2_with fail
              refine wp_region_ext (by kernel_rfl) (by kernel_rfl) ?_
              repeat quiet_step (first | (go_at_call 14; with_reducible exact Calls.ext_of (L1.out _ (Ext.grown _))))
              refine wpQuiet_nil ?_
              intro w13 hw'
              obtain ⟨⟨_, hb13⟩, rfl⟩ := hw'
              have HB1 := Lib.hid (HB.out.trans (hb13.mono HB.out.size))
              clear hb13 f1 f2
              go_wp2_with fail
              go_ret
              exact ⟨by simp [hrr], G5.out.b.trans (HB1.out.mono G5.out.b.size)⟩
            | true =>
              rw [Bool.true_and] at hrr
              go_wp2_with fail
              refine wp_region_ext (by kernel_rfl) (by kernel_rfl) ?_
              repeat quiet_step (first | (go_at_call 14; with_reducible exact Calls.ext_of (L1.out _ (Ext.grown _))) | (go_at_call 14; with_reducible exact Calls.ext_of (L2.out _ (Ext.grown _))))
              refine wpQuiet_nil ?_
              intro w13 hw'
              obtain ⟨⟨_, hb13⟩, rfl⟩ := hw'
              have HB1 := Lib.hid (HB.out.trans (hb13.mono HB.out.size))
              clear hb13 f1 f2
              go_wp2_with fail
              go_ret
              exact ⟨by simp [hrr], G5.out.b.trans (HB1.out.mono G5.out.b.size)⟩
end Go.Proofs.Ytefeokfjgmidbaa
